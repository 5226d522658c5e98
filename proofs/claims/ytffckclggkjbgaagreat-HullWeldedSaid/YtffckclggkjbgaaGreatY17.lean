import Derived.Test.YtffckclggkjbgaaGreatY16
import Derived.Test.YtffckclggkjbgaaGreatRows
set_option linter.unusedVariables false
set_option linter.unusedSimpArgs false
/- Hull's examples: the hull, the passage, the ship, the least depth of the way. -/
namespace Go.Pe
open Go Go.Proofs Go.Proofs.YtffckclggkjbgaaGreat
noncomputable def twoV : AV := .agg [I 100, .ro true 5 [[I 30, I 100, I 50, .ro true 2 [[I 0, I 0], [I 100, I 300], [I 300, I 900]], .ro true 2 [[I 15, I 4]]], [I 30, I 100, I 50, .ro true 2 [[I 0, I 0], [I 100, I 300], [I 300, I 900]], .ro true 2 [[I 15, I 4]]]]]
noncomputable def passV : AV := .agg [.ro true 9 [[I 100, I 2, I 1000, I 1000, .ro true 2 [[I 0, I 100], [I 10000, I 300]], I 0, I 50, I 60, I 400], [I 50, I 1, I 2000, I 2000, .ro true 2 [[I 0, I 0], [I 20000, I 400]], I 150, I 20, I 20, I 160]], .ro true 6 [[I 120, I 40, I 50, I 0, I 0, I 12]], .ro true 1 [[.ro true 2 [[I 2000, I 3000], [I 2000, I 3000], [I 2000, I 3000], [I 2000, I 3000]]], [.ro true 2 [[I 500, I 500], [I 500, I 500], [I 500, I 500], [I 500, I 500]]]], .ro true 3 [[I 10, I 0, I 1], [I 120, I 2, I 3]], I 20]
noncomputable def shipV : AV := .agg [I 100, .ro true 5 [[I 30, I 100, I 50, .ro true 2 [[I 0, I 0], [I 100, I 300], [I 300, I 900]], .ro true 2 [[I 15, I 4]]], [I 30, I 100, I 50, .ro true 2 [[I 0, I 0], [I 100, I 300], [I 300, I 900]], .ro true 2 [[I 15, I 4]]]], I 300, I 200, I 100, I 0, .ro false 3 [[I 15, I 4, I (-30)], [I 15, I 4, I 30]]]
noncomputable abbrev stillV : AV := .agg [I 1000, I 1000]
noncomputable abbrev leastV : AV := .agg [I 80, I 110, I 0, I 0]
theorem kTwo : Fn Tryz.prog 56 [] .nil twoV .nil := Fn.of_runT (kp := []) (n := 100000) (k := 20) Tab.nil (by kernel_rfl)
theorem kPass : Fn Tryz.prog 57 [] .nil passV .nil := Fn.of_runT (kp := []) (n := 100000) (k := 20) Tab.nil (by kernel_rfl)
theorem kShip : Fn Tryz.prog 59 [twoV] .nil (.tup [shipV, I 0]) .nil := Fn.of_runT (kp := []) (n := 100000) (k := 20) Tab.nil (by kernel_rfl)
theorem kLeast : Fn Tryz.prog 71 [passV] .nil (.tup [leastV, I 0]) .nil := Fn.of_runT (kp := [152, 161, 111]) (n := 100000) (k := 20) Tab.nil (by kernel_rfl)
noncomputable def tabA : Tab := [(59, [twoV], .tup [shipV, I 0]), (71, [passV], .tup [leastV, I 0])]
theorem tabA_ok : TabOK Tryz.prog tabA := Tab.cons kShip (Tab.cons kLeast Tab.nil)
end Go.Pe

/- Hull's examples: how deep the ship lies with some loads. -/
namespace Go.Pe
open Go Go.Proofs Go.Proofs.YtffckclggkjbgaaGreat
theorem kFl8 : Fn Tryz.prog 64 [shipV, .ro false 1 [[I 4], [I 4]], stillV] .nil (.tup [.agg [I 167, I 167, I 167, I 167, I 0], B true]) .nil := Fn.of_runT (kp := [152, 161, 111]) (n := 100000) (k := 20) tabA_ok (by kernel_rfl)
theorem kFl7 : Fn Tryz.prog 64 [shipV, .ro false 1 [[I 3], [I 4]], stillV] .nil (.tup [.agg [I 150, I 150, I 158, I 158, I 1], B true]) .nil := Fn.of_runT (kp := [152, 161, 111]) (n := 100000) (k := 20) tabA_ok (by kernel_rfl)
theorem kFl6 : Fn Tryz.prog 64 [shipV, .ro false 1 [[I 3], [I 3]], stillV] .nil (.tup [.agg [I 134, I 134, I 134, I 134, I 0], B true]) .nil := Fn.of_runT (kp := [152, 161, 111]) (n := 100000) (k := 20) tabA_ok (by kernel_rfl)
theorem kFl5 : Fn Tryz.prog 64 [shipV, .ro false 1 [[I 2], [I 3]], stillV] .nil (.tup [.agg [I 117, I 117, I 125, I 125, I 1], B true]) .nil := Fn.of_runT (kp := [152, 161, 111]) (n := 100000) (k := 20) tabA_ok (by kernel_rfl)
end Go.Pe

/- Hull's examples: how deep the ship lies with some loads. -/
namespace Go.Pe
open Go Go.Proofs Go.Proofs.YtffckclggkjbgaaGreat
theorem kFl4 : Fn Tryz.prog 64 [shipV, .ro false 1 [[I 2], [I 2]], stillV] .nil (.tup [.agg [I 100, I 100, I 100, I 100, I 0], B true]) .nil := Fn.of_runT (kp := [152, 161, 111]) (n := 100000) (k := 20) tabA_ok (by kernel_rfl)
theorem kFl3 : Fn Tryz.prog 64 [shipV, .ro false 1 [[I 1], [I 2]], stillV] .nil (.tup [.agg [I 84, I 84, I 92, I 92, I 1], B true]) .nil := Fn.of_runT (kp := [152, 161, 111]) (n := 100000) (k := 20) tabA_ok (by kernel_rfl)
theorem kFl2 : Fn Tryz.prog 64 [shipV, .ro false 1 [[I 1], [I 1]], stillV] .nil (.tup [.agg [I 67, I 67, I 67, I 67, I 0], B true]) .nil := Fn.of_runT (kp := [152, 161, 111]) (n := 100000) (k := 20) tabA_ok (by kernel_rfl)
theorem kFl1 : Fn Tryz.prog 64 [shipV, .ro false 1 [[I 0], [I 1]], stillV] .nil (.tup [.agg [I 50, I 50, I 58, I 58, I 1], B true]) .nil := Fn.of_runT (kp := [152, 161, 111]) (n := 100000) (k := 20) tabA_ok (by kernel_rfl)
end Go.Pe
