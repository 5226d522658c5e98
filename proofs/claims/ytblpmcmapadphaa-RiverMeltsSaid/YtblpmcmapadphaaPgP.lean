/- The law RiverMelts of package river returns true for every catchment, every sky and every truth, and leaves its arguments as they were. It has no condition. -/
import Derived.Test.YtblpmcmapadphaaPgC
import Derived.Test.YtblpmcmapadphaaPgN
import Derived.Test.YtblpmcmapadphaaPgO
set_option linter.unusedVariables false
set_option linter.unusedSimpArgs false
namespace Go.Pe
open Go Go.Proofs Go.Proofs.Ytblpmcmapadphaa
theorem melts_law (ys : List AV) (h : TyVs Try.prog 20 [48, 49, 96] ys) : ∃ h', Fn Try.prog 14 ys .nil (.val (.bool true)) h' := by
  obtain ⟨c, sky, x, rfl, hl, hx, hs, hb⟩ := melts_args h
  unfold maxLen at hl
  refine ⟨.nil, ?_⟩
  by_cases h1 : 100 < sky.length
  · exact melts_long h1 (by omega)
  · cases h2 : validC c with
    | false => exact melts_err (by omega) (runoff_bad h2)
    | true =>
      cases h3 : sky.all validS with
      | false => exact melts_err (by omega) (runoff_sky h2 (by omega) h3)
      | true => exact melts_ok (by omega) h2 h3 hx hs hb
end Go.Pe
namespace Go.Proofs.Ytblpmcmapadphaa
theorem riverMelts : Rows.RiverMeltsSaid := holds14 Go.Pe.melts_law
end Go.Proofs.Ytblpmcmapadphaa
