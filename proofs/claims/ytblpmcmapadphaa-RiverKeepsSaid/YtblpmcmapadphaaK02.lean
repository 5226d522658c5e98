import Derived.Test.YtblpmcmapadphaaK01
set_option linter.unusedVariables false
set_option linter.unusedSimpArgs false
/- The law RiverKeeps of package river returns true for every forecast and every three numbers, and leaves its arguments as they were. It has no condition. -/
namespace Go.Pe
open Go Go.Proofs Go.Proofs.Ytblpmcmapadphaa
theorem rk_all (ys : List AV) (h : TyVs Try.prog 20 [34, 106] ys) : ∃ h', Fn Try.prog 13 ys .nil (.val (.bool true)) h' := by
  obtain ⟨f, a, b, c, rfl, ha, hb, hc⟩ := ke_args h
  obtain ⟨a, rfl⟩ : ∃ k : Nat, a = k := ⟨a.toNat, by omega⟩
  obtain ⟨b, rfl⟩ : ∃ k : Nat, b = k := ⟨b.toNat, by omega⟩
  obtain ⟨c, rfl⟩ : ∃ k : Nat, c = k := ⟨c.toNat, by omega⟩
  exact ⟨.nil, rk_law (by omega) (by omega) (by omega)⟩
end Go.Pe
namespace Go.Proofs.Ytblpmcmapadphaa
theorem riverKeeps : Rows.RiverKeepsSaid := holds13 Go.Pe.rk_all
end Go.Proofs.Ytblpmcmapadphaa
