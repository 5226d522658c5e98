import Derived.Test.YtblpmcmapadphaaI02
import Derived.Test.YtblpmcmapadphaaI03
set_option linter.unusedVariables false
set_option linter.unusedSimpArgs false
/- The law RiverShallow of package river returns true for every forecast and every way, and leaves its arguments as they were. It has no condition. -/
namespace Go.Pe
open Go Go.Proofs Go.Proofs.Ytblpmcmapadphaa
theorem rs_all (ys : List AV) (h : TyVs Try.prog 20 [34, 75] ys) : ∃ h', Fn Try.prog 8 ys .nil (.val (.bool true)) h' := by
  obtain ⟨f, way, rfl⟩ := sh_args h
  exact ⟨.nil, rs_law⟩
end Go.Pe
namespace Go.Proofs.Ytblpmcmapadphaa
theorem riverShallow : Rows.RiverShallowSaid := holds8 Go.Pe.rs_all
end Go.Proofs.Ytblpmcmapadphaa
