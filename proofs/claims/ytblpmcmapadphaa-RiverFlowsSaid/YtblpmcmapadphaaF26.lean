import Derived.Test.YtblpmcmapadphaaF23
import Derived.Test.YtblpmcmapadphaaF24
import Derived.Test.YtblpmcmapadphaaF25
set_option linter.unusedVariables false
set_option linter.unusedSimpArgs false
/- The law RiverFlows of package river returns true for every forecast, and leaves its arguments as they were. It has no condition. -/
namespace Go.Pe
open Go Go.Proofs Go.Proofs.Ytblpmcmapadphaa
theorem rfl_all (ys : List AV) (h : TyVs Try.prog 20 [34] ys) : ∃ h', Fn Try.prog 5 ys .nil (.val (.bool true)) h' := by
  obtain ⟨f, rfl⟩ := fc_args h
  exact ⟨.nil, rfl_law⟩
end Go.Pe
namespace Go.Proofs.Ytblpmcmapadphaa
theorem riverFlows : Rows.RiverFlowsSaid := holds5 Go.Pe.rfl_all
end Go.Proofs.Ytblpmcmapadphaa
