/- The law RiverChecks of package river returns true for every river, every reach and every flow, and leaves its arguments as they were. It has no condition. -/
import Derived.Test.YtblpmcmapadphaaPiI
import Derived.Test.YtblpmcmapadphaaPiJ
import Derived.Test.YtblpmcmapadphaaPiK
set_option linter.unusedVariables false
set_option linter.unusedSimpArgs false
namespace Go.Pe
open Go Go.Proofs Go.Proofs.Ytblpmcmapadphaa
theorem rc_all (ys : List AV) (h : TyVs Try.prog 20 [25, 30, 27] ys) : ∃ h', Fn Try.prog 3 ys .nil (.val (.bool true)) h' := by
  obtain ⟨r, x, b, rfl, h1, h2, h3⟩ := rc_args h
  exact ⟨.nil, rc_law⟩
end Go.Pe
namespace Go.Proofs.Ytblpmcmapadphaa
theorem riverChecks : Rows.RiverChecksSaid := holds3 Go.Pe.rc_all
end Go.Proofs.Ytblpmcmapadphaa
