import Derived.Test.YtblpmcmapadphaaF15
import Derived.Test.YtblpmcmapadphaaRows
set_option linter.unusedVariables false
set_option linter.unusedSimpArgs false
/- The document's examples: what 'known' returns. -/
namespace Go.Pe
open Go Go.Proofs Go.Proofs.Ytblpmcmapadphaa
theorem known_fn : Fn Try.prog 16 [] .nil (.val (.bool true)) .nil := by
  obtain ⟨h', h⟩ := Fn.of_run (P := Try.prog) (kp := [121]) (n := 300) (f := 16) (args := []) (v := .bool true) (by kernel_rfl)
  exact h.plain
end Go.Pe
