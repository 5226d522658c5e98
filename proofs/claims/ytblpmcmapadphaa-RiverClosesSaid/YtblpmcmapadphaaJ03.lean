import Derived.Test.YtblpmcmapadphaaJ01
import Derived.Test.YtblpmcmapadphaaI02
import Derived.Test.YtblpmcmapadphaaJ02
set_option linter.unusedVariables false
set_option linter.unusedSimpArgs false
/- The law RiverCloses of package river returns true for every forecast, all closures, every place and every hour, and leaves its arguments as they were. It has no condition. -/
namespace Go.Pe
open Go Go.Proofs Go.Proofs.Ytblpmcmapadphaa
theorem rcl_all (ys : List AV) (h : TyVs Try.prog 20 [34, 84, 85] ys) : ∃ h', Fn Try.prog 9 ys .nil (.val (.bool true)) h' := by
  obtain ⟨f, l, a, b, rfl⟩ := cl_args h
  exact ⟨.nil, rcl_law⟩
end Go.Pe
namespace Go.Proofs.Ytblpmcmapadphaa
theorem riverCloses : Rows.RiverClosesSaid := holds9 Go.Pe.rcl_all
end Go.Proofs.Ytblpmcmapadphaa
