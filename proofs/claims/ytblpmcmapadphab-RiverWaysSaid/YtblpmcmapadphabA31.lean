import Derived.Test.YtblpmcmapadphabA29
import Derived.Test.YtblpmcmapadphabA30
set_option linter.unusedVariables false
set_option linter.unusedSimpArgs false
/- The law RiverWays of package river returns true for every forecast, every way and every number, and leaves its arguments as they were. It has no condition. -/
namespace Go.Pe
open Go Go.Proofs Go.Proofs.Ytblpmcmapadphab
theorem wy_all (ys : List AV) (h : TyVs Try.prog 20 [28, 29, 5] ys) : ∃ h', Fn Try.prog 3 ys .nil (.val (.bool true)) h' := by
  obtain ⟨f, way, c, rfl, h1, h2⟩ := wa_args h
  obtain ⟨c, rfl⟩ : ∃ k : Nat, c = k := ⟨c.toNat, by omega⟩
  exact ⟨.nil, wy_law (by omega)⟩
end Go.Pe
namespace Go.Proofs.Ytblpmcmapadphab
theorem riverWays : Rows.RiverWaysSaid := holds3 Go.Pe.wy_all
end Go.Proofs.Ytblpmcmapadphab
