import Derived.Test.YtffckclggkjbgaaGreatW10
import Derived.Test.YtffckclggkjbgaaGreatX01
set_option linter.unusedVariables false
set_option linter.unusedSimpArgs false
/- The law HullLater of package hull returns true for every hull, load, density and passage by small numbers. It has no condition. -/
namespace Go.Pe
open Go Go.Proofs Go.Proofs.YtffckclggkjbgaaGreat
set_option maxRecDepth 100000
theorem hlater_all (ys : List AV) (h : TyVs Tryz.prog 20 [98, 101] ys) : ∃ h', Fn Tryz.prog 11 ys .nil (.val (.bool true)) h' := by
  obtain ⟨y1, z1, rfl, v1, y2, z2, rfl, v2, rfl⟩ := h
  obtain ⟨x1, rfl, w1⟩ := TyV_st (by kernel_rfl) v1
  obtain ⟨x2, rfl, w2⟩ := TyV_st (by kernel_rfl) v2
  obtain ⟨x, rfl, hx⟩ := open_sm w1
  obtain ⟨y, rfl, hy⟩ := open_sr w2
  exact ⟨.nil, hlater_law hx hy⟩
end Go.Pe
namespace Go.Proofs.YtffckclggkjbgaaGreat
theorem hullLater : Rows.HullLaterSaid := holds11 Go.Pe.hlater_all
end Go.Proofs.YtffckclggkjbgaaGreat
