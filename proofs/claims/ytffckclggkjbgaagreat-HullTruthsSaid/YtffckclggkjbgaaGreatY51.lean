import Derived.Test.YtffckclggkjbgaaGreatY48
import Derived.Test.YtffckclggkjbgaaGreatY49
import Derived.Test.YtffckclggkjbgaaGreatY50
set_option linter.unusedVariables false
set_option linter.unusedSimpArgs false
/- The law HullTruths of package hull returns true for every hull, load, density and passage by small numbers, and for all picks of what is true. It has no condition. -/
namespace Go.Pe
open Go Go.Proofs Go.Proofs.YtffckclggkjbgaaGreat
set_option maxRecDepth 100000
theorem open_bs {n : Nat} {xs : List AV} (h : TyC Tryz.prog (n + 2) 102 xs) : ∃ l : List Int, xs = [.ro false 1 (l.map fun n => [U n])] ∧ l.length ≤ maxLen ∧ ∀ n ∈ l, 0 ≤ n ∧ n ≤ 255 := by
  obtain ⟨rows, rfl, h1, h2⟩ := TyC_at tsi102 h
  obtain ⟨l, rfl, h3⟩ := rows_map (fun n => [U n]) (fun n => 0 ≤ n ∧ n ≤ 255) (rows := rows) (fun r hr => open_b (h2 r hr).2)
  exact ⟨l, by rw [show Tryz.prog.cellsOf 5 = 1 by kernel_rfl], by simpa using h1, h3⟩
theorem htruths_all (ys : List AV) (h : TyVs Tryz.prog 20 [98, 101, 102] ys) : ∃ h', Fn Tryz.prog 7 ys .nil (.val (.bool true)) h' := by
  obtain ⟨y1, z1, rfl, v1, y2, z2, rfl, v2, y3, z3, rfl, v3, rfl⟩ := h
  obtain ⟨x1, rfl, w1⟩ := TyV_st (by kernel_rfl) v1
  obtain ⟨x2, rfl, w2⟩ := TyV_st (by kernel_rfl) v2
  obtain ⟨x, rfl, hx⟩ := open_sm w1
  obtain ⟨y, rfl, hy⟩ := open_sr w2
  obtain ⟨ps, e3, hp, okp⟩ := open_bs (TyV_one (by kernel_rfl) v3)
  cases e3
  unfold maxLen at hp
  exact ⟨.nil, htruths_law hx hy okp (by omega)⟩
end Go.Pe
namespace Go.Proofs.YtffckclggkjbgaaGreat
theorem hullTruths : Rows.HullTruthsSaid := holds7 Go.Pe.htruths_all
end Go.Proofs.YtffckclggkjbgaaGreat
