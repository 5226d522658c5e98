import Derived.Test.YtffckclggkjbgaaGreatC03
import Derived.Test.YtffckclggkjbgaaGreatY49
import Derived.Test.YtffckclggkjbgaaGreatC04
set_option linter.unusedVariables false
set_option linter.unusedSimpArgs false
/- The law HullWelded of package hull returns true for every hull by small numbers, a place to cut and a draft. It has no condition. -/
namespace Go.Pe
open Go Go.Proofs Go.Proofs.YtffckclggkjbgaaGreat
set_option maxRecDepth 100000
theorem hwelded_all (ys : List AV) (h : TyVs Tryz.prog 20 [98, 5, 5] ys) : ∃ h', Fn Tryz.prog 10 ys .nil (.val (.bool true)) h' := by
  obtain ⟨y1, z1, rfl, v1, y2, z2, rfl, v2, y3, z3, rfl, v3, rfl⟩ := h
  obtain ⟨x1, rfl, w1⟩ := TyV_st (by kernel_rfl) v1
  obtain ⟨x, rfl, hx⟩ := open_sm w1
  obtain ⟨a, e2, ha⟩ := open_b (TyV_one (by kernel_rfl) v2)
  obtain ⟨b, e3, hb⟩ := open_b (TyV_one (by kernel_rfl) v3)
  cases e2; cases e3
  exact ⟨.nil, hwelded_law hx ha hb⟩
end Go.Pe
namespace Go.Proofs.YtffckclggkjbgaaGreat
theorem hullWelded : Rows.HullWeldedSaid := holds10 Go.Pe.hwelded_all
end Go.Proofs.YtffckclggkjbgaaGreat
