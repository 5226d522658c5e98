import Derived.Test.YtblpmcmapadphaaH04
import Derived.Test.YtblpmcmapadphaaH05
import Derived.Test.YtblpmcmapadphaaH06
set_option linter.unusedVariables false
set_option linter.unusedSimpArgs false
/- The law RiverDepths of package river returns true for every forecast, every place and every hour, and leaves its arguments as they were. It has no condition. -/
namespace Go.Pe
open Go Go.Proofs Go.Proofs.Ytblpmcmapadphaa
theorem rd_all (ys : List AV) (h : TyVs Try.prog 20 [34, 3, 3] ys) : ∃ h', Fn Try.prog 7 ys .nil (.val (.bool true)) h' := by
  obtain ⟨f, a, b, rfl⟩ := rd_args h
  exact ⟨.nil, rd_law⟩
end Go.Pe
namespace Go.Proofs.Ytblpmcmapadphaa
theorem riverDepths : Rows.RiverDepthsSaid := holds7 Go.Pe.rd_all
end Go.Proofs.Ytblpmcmapadphaa
