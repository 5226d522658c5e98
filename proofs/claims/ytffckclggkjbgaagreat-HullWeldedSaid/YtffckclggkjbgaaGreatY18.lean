import Derived.Test.YtffckclggkjbgaaGreatY17
set_option linter.unusedVariables false
set_option linter.unusedSimpArgs false
/- Hull's examples: the levellest loads; what is known together. -/
namespace Go.Pe
open Go Go.Proofs Go.Proofs.YtffckclggkjbgaaGreat
theorem kLv8 : Fn Tryz.prog 114 [shipV, I 8] .nil (.ro false 1 [[I 4], [I 4]]) .nil := Fn.of_runT (kp := [152, 161, 111]) (n := 100000) (k := 20) tabA_ok (by kernel_rfl)
theorem kLv7 : Fn Tryz.prog 114 [shipV, I 7] .nil (.ro false 1 [[I 3], [I 4]]) .nil := Fn.of_runT (kp := [152, 161, 111]) (n := 100000) (k := 20) tabA_ok (by kernel_rfl)
theorem kLv6 : Fn Tryz.prog 114 [shipV, I 6] .nil (.ro false 1 [[I 3], [I 3]]) .nil := Fn.of_runT (kp := [152, 161, 111]) (n := 100000) (k := 20) tabA_ok (by kernel_rfl)
theorem kLv5 : Fn Tryz.prog 114 [shipV, I 5] .nil (.ro false 1 [[I 2], [I 3]]) .nil := Fn.of_runT (kp := [152, 161, 111]) (n := 100000) (k := 20) tabA_ok (by kernel_rfl)
theorem kLv4 : Fn Tryz.prog 114 [shipV, I 4] .nil (.ro false 1 [[I 2], [I 2]]) .nil := Fn.of_runT (kp := [152, 161, 111]) (n := 100000) (k := 20) tabA_ok (by kernel_rfl)
theorem kLv3 : Fn Tryz.prog 114 [shipV, I 3] .nil (.ro false 1 [[I 1], [I 2]]) .nil := Fn.of_runT (kp := [152, 161, 111]) (n := 100000) (k := 20) tabA_ok (by kernel_rfl)
theorem kLv2 : Fn Tryz.prog 114 [shipV, I 2] .nil (.ro false 1 [[I 1], [I 1]]) .nil := Fn.of_runT (kp := [152, 161, 111]) (n := 100000) (k := 20) tabA_ok (by kernel_rfl)
theorem kLv1 : Fn Tryz.prog 114 [shipV, I 1] .nil (.ro false 1 [[I 0], [I 1]]) .nil := Fn.of_runT (kp := [152, 161, 111]) (n := 100000) (k := 20) tabA_ok (by kernel_rfl)
noncomputable def tabB : Tab := (114, [shipV, I 1], .ro false 1 [[I 0], [I 1]]) :: (64, [shipV, .ro false 1 [[I 0], [I 1]], stillV], .tup [.agg [I 50, I 50, I 58, I 58, I 1], B true]) :: (114, [shipV, I 2], .ro false 1 [[I 1], [I 1]]) :: (64, [shipV, .ro false 1 [[I 1], [I 1]], stillV], .tup [.agg [I 67, I 67, I 67, I 67, I 0], B true]) :: (114, [shipV, I 3], .ro false 1 [[I 1], [I 2]]) :: (64, [shipV, .ro false 1 [[I 1], [I 2]], stillV], .tup [.agg [I 84, I 84, I 92, I 92, I 1], B true]) :: (114, [shipV, I 4], .ro false 1 [[I 2], [I 2]]) :: (64, [shipV, .ro false 1 [[I 2], [I 2]], stillV], .tup [.agg [I 100, I 100, I 100, I 100, I 0], B true]) :: (114, [shipV, I 5], .ro false 1 [[I 2], [I 3]]) :: (64, [shipV, .ro false 1 [[I 2], [I 3]], stillV], .tup [.agg [I 117, I 117, I 125, I 125, I 1], B true]) :: (114, [shipV, I 6], .ro false 1 [[I 3], [I 3]]) :: (64, [shipV, .ro false 1 [[I 3], [I 3]], stillV], .tup [.agg [I 134, I 134, I 134, I 134, I 0], B true]) :: (114, [shipV, I 7], .ro false 1 [[I 3], [I 4]]) :: (64, [shipV, .ro false 1 [[I 3], [I 4]], stillV], .tup [.agg [I 150, I 150, I 158, I 158, I 1], B true]) :: (114, [shipV, I 8], .ro false 1 [[I 4], [I 4]]) :: (64, [shipV, .ro false 1 [[I 4], [I 4]], stillV], .tup [.agg [I 167, I 167, I 167, I 167, I 0], B true]) :: tabA
theorem tabB_ok : TabOK Tryz.prog tabB := Tab.cons kLv1 (Tab.cons kFl1 (Tab.cons kLv2 (Tab.cons kFl2 (Tab.cons kLv3 (Tab.cons kFl3 (Tab.cons kLv4 (Tab.cons kFl4 (Tab.cons kLv5 (Tab.cons kFl5 (Tab.cons kLv6 (Tab.cons kFl6 (Tab.cons kLv7 (Tab.cons kFl7 (Tab.cons kLv8 (Tab.cons kFl8 (tabA_ok))))))))))))))))
end Go.Pe

/- Hull's examples: the calls. -/
namespace Go.Pe
open Go Go.Proofs Go.Proofs.YtffckclggkjbgaaGreat
theorem kVol : Fn Tryz.prog 20 [twoV, I 150] .nil (.tup [I 900, I 0]) .nil := Fn.of_runT (kp := [152, 161, 111]) (n := 100000) (k := 20) tabB_ok (by kernel_rfl)
theorem kFlo : Fn Tryz.prog 21 [twoV, .ro true 1 [[I 3], [I 1]], stillV] .nil (.tup [.agg [I 100, I 100, I 115, I 115, I (-1)], I 0]) .nil := Fn.of_runT (kp := [152, 161, 111]) (n := 100000) (k := 20) tabB_ok (by kernel_rfl)
theorem kSaf : Fn Tryz.prog 31 [twoV, .ro true 1 [[I 1], [I 1]], stillV, passV] .nil (.tup [B false, B true, I 0, I 0, I 0]) .nil := Fn.of_runT (kp := [152, 161, 111]) (n := 100000) (k := 20) tabB_ok (by kernel_rfl)
theorem kAdv : Fn Tryz.prog 38 [twoV, stillV, passV] .nil (.tup [.agg [.ro false 1 [[I 0], [I 1]], I 1, I 1, I 0, I 0], I 0]) .nil := Fn.of_runT (kp := [152, 161, 111]) (n := 100000) (k := 20) tabB_ok (by kernel_rfl)
theorem kCut : Fn Tryz.prog 50 [twoV, I 0, I 1] .nil (.tup [.agg [I 100, .ro false 5 [[I 30, I 100, I 50, .ro false 2 [[I 0, I 0], [I 100, I 300], [I 300, I 900]], .ro false 2 [[I 15, I 4]]]]], I 0]) .nil := Fn.of_runT (kp := [152, 161, 111, 128, 90]) (n := 100000) (k := 20) tabB_ok (by kernel_rfl)
theorem kLif : Fn Tryz.prog 42 [.ro true 4 [[I 800, I 820, I 10, I 15], [I 700, I 700, I 0, I 4]], I 600] .nil (.tup [.agg [I 13, I 22], I 0, I 0]) .nil := Fn.of_runT (kp := [152, 161, 111]) (n := 100000) (k := 20) tabB_ok (by kernel_rfl)
theorem kLat : Fn Tryz.prog 32 [twoV, .ro true 1 [[I 1], [I 1]], stillV, passV] .nil (.tup [I 0, I 7]) .nil := Fn.of_runT (kp := [152, 161, 111]) (n := 100000) (k := 20) tabB_ok (by kernel_rfl)
noncomputable def tabC : Tab := [(56, [], twoV), (57, [], passV), (20, [twoV, I 150], .tup [I 900, I 0]), (21, [twoV, .ro true 1 [[I 3], [I 1]], stillV], .tup [.agg [I 100, I 100, I 115, I 115, I (-1)], I 0]), (31, [twoV, .ro true 1 [[I 1], [I 1]], stillV, passV], .tup [B false, B true, I 0, I 0, I 0]), (38, [twoV, stillV, passV], .tup [.agg [.ro false 1 [[I 0], [I 1]], I 1, I 1, I 0, I 0], I 0]), (50, [twoV, I 0, I 1], .tup [.agg [I 100, .ro false 5 [[I 30, I 100, I 50, .ro false 2 [[I 0, I 0], [I 100, I 300], [I 300, I 900]], .ro false 2 [[I 15, I 4]]]]], I 0]), (42, [.ro true 4 [[I 800, I 820, I 10, I 15], [I 700, I 700, I 0, I 4]], I 600], .tup [.agg [I 13, I 22], I 0, I 0]), (32, [twoV, .ro true 1 [[I 1], [I 1]], stillV, passV], .tup [I 0, I 7])]
theorem tabC_ok : TabOK Tryz.prog tabC := Tab.cons kTwo (Tab.cons kPass (Tab.cons kVol (Tab.cons kFlo (Tab.cons kSaf (Tab.cons kAdv (Tab.cons kCut (Tab.cons kLif (Tab.cons kLat (Tab.nil)))))))))
end Go.Pe

/- The examples of the document. -/
namespace Go.Pe
open Go Go.Proofs Go.Proofs.YtffckclggkjbgaaGreat
theorem known_fn : Fn Tryz.prog 16 [] .nil (B true) .nil := Fn.of_runT (kp := []) (n := 100000) (k := 20) tabC_ok (by kernel_rfl)
end Go.Pe
