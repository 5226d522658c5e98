import Derived.Test.YtblpmcmapadphaaG01
import Derived.Test.YtblpmcmapadphaaG02
set_option linter.unusedVariables false
set_option linter.unusedSimpArgs false
/- The law RiverVolumes of package river returns true for every forecast and every three numbers, and leaves its arguments as they were. It has no condition. -/
namespace Go.Pe
open Go Go.Proofs Go.Proofs.Ytblpmcmapadphaa
theorem rvo_all (ys : List AV) (h : TyVs Try.prog 20 [34, 65] ys) : ∃ h', Fn Try.prog 6 ys .nil (.val (.bool true)) h' := by
  obtain ⟨f, a, b, c, rfl⟩ := rvo_args h
  exact ⟨.nil, rv_law⟩
end Go.Pe
namespace Go.Proofs.Ytblpmcmapadphaa
theorem riverVolumes : Rows.RiverVolumesSaid := holds6 Go.Pe.rvo_all
end Go.Proofs.Ytblpmcmapadphaa
