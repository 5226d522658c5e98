import Derived.Test.YtblpmcmapadphaaL02
import Derived.Test.YtblpmcmapadphaaL03
set_option linter.unusedVariables false
set_option linter.unusedSimpArgs false
/- The law RiverTruths of package river returns true for every forecast, every truth of it and every way, and leaves its arguments as they were. It has no condition. -/
namespace Go.Pe
open Go Go.Proofs Go.Proofs.Ytblpmcmapadphaa
set_option maxRecDepth 100000
theorem open_tr4 {n : Nat} {xs : List AV} (h : TyC Try.prog (n + 3) 96 xs) : ∃ x : Tr, AV.agg xs = x.av ∧ OkTr x := by
  obtain ⟨a, r, rfl, _, h1, a', r', rfl, _, h2, a'', r'', rfl, _, h3, a3, r3, rfl, _, h4, a5, r5, rfl, _, h5, rfl⟩ := TyC_at ti96 h
  obtain ⟨m1, rfl, _, b1⟩ := open_u8s h1
  obtain ⟨m2, rfl, _, b2⟩ := open_u8s h2
  obtain ⟨m3, rfl, _, b3⟩ := open_u8s h3
  obtain ⟨m4, rfl, _, b4⟩ := open_u8s h4
  obtain ⟨k, rfl, k1, k2⟩ := open_u8 h5
  exact ⟨⟨m1, m2, m3, m4, k⟩, rfl, b1, b2, b3, b4⟩
theorem rt_all (ys : List AV) (h : TyVs Try.prog 20 [34, 96, 75] ys) : ∃ h', Fn Try.prog 10 ys .nil (.val (.bool true)) h' := by
  obtain ⟨y1, z1, rfl, v1, y2, z2, rfl, v2, y3, z3, rfl, v3, rfl⟩ := h
  obtain ⟨f, hf⟩ := fc_args (ys := [y1]) ⟨y1, [], rfl, v1, rfl⟩
  obtain ⟨x2, rfl, w2⟩ := TyV_st (by kernel_rfl) v2
  obtain ⟨x, ex, ok⟩ := open_tr4 w2
  have v3 := TyV_one (by kernel_rfl) v3
  obtain ⟨way, hw⟩ := open_way v3
  simp only [List.cons.injEq, and_true] at hf hw
  rw [hf, hw, ex]
  exact ⟨.nil, rt_law ok⟩
end Go.Pe
namespace Go.Proofs.Ytblpmcmapadphaa
theorem riverTruths : Rows.RiverTruthsSaid := holds10 Go.Pe.rt_all
end Go.Proofs.Ytblpmcmapadphaa
