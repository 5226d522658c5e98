import Derived.Test.YtblpmcmapadphaaF24
set_option linter.unusedVariables false
set_option linter.unusedSimpArgs false
/- Arguments of the law RiverDepths, opened. -/
namespace Go.Pe
open Go Go.Proofs Go.Proofs.Ytblpmcmapadphaa
set_option maxRecDepth 100000
theorem rd_args {ys : List AV} (h : TyVs Try.prog 20 [34, 3, 3] ys) : ∃ (f : Fc) (a b : Int), ys = [.agg [f.r.reaches false, f.r.shoals, sidesAV f.sides false], I a, I b] := by
  obtain ⟨y1, z1, rfl, v1, h⟩ := h
  obtain ⟨f, hf⟩ := fc_args (ys := [y1]) ⟨y1, [], rfl, v1, rfl⟩
  obtain ⟨y2, z2, rfl, v2, y3, z3, rfl, v3, rfl⟩ := h
  obtain ⟨a, ha⟩ := open_i64 (TyV_one (by kernel_rfl) v2)
  obtain ⟨b, hb⟩ := open_i64 (TyV_one (by kernel_rfl) v3)
  simp only [List.cons.injEq, and_true] at hf ha hb
  exact ⟨f, a, b, by rw [hf, ha, hb]⟩
end Go.Pe
