import Derived.Test.YtblpmcmapadphabA23
import Derived.Test.YtblpmcmapadphabA08
import Derived.Test.YtblpmcmapadphabRows
import Derived.ProofKit
set_option linter.unusedVariables false
set_option linter.unusedSimpArgs false
namespace Go.Proofs.Ytblpmcmapadphab
open Go Go.ChangeShapes Go.WideShapes Go.ChangeAt Go.RowKit
set_option linter.unusedVariables false
theorem own3 : ownKnob Try.prog.godebug = none := by kernel_rfl
set_option maxRecDepth 100000 in
theorem lifted3 (hlaw : ∀ ys, Go.Pe.TyVs Try.prog 20 [28, 29, 5] ys → ∃ h', Go.Pe.Fn Try.prog 3 ys .nil (.val (.bool true)) h') (os : Os) (started : os.Started) (H : Type) (enc : TypeId × Value → H) :
    ReturnsInHanded {} Try.checked os 3 .any (Rows.riverWaysSpec.pre6 enc Try.prog Try.f3 Rows.riverWaysRow.domain false) (Rows.riverWaysSpec.post enc Try.prog Try.f3 false true false false) := by
  refine returnsInHanded_of_change (C := Try.checked) own3 started (by kernel_rfl) Try.func3
    (ChangeSpec.witness6 (enc := enc) (C := Try.checked) false ⟨#[], #[.agg #[.slice none 0 0, .slice none 0 0, .slice none 0 0], .slice none 0 0, .int .u8 0], []⟩ 8 (by kernel_rfl) (by kernel_rfl) (by kernel_rfl) (by kernel_rfl)) ?_
  intro W base args ds gs before hval hW _ _
  exact Go.Pe.law_contract (s := Rows.riverWaysSpec) (ts := [28, 29, 5]) (tb := 4) 20 (by rw [Try.params3]) (by kernel_rfl) (by kernel_rfl) (by kernel_rfl) (by kernel_rfl) Try.underlying4 rfl
    (fun ds hd => by match ds, hd with | [d1, d2, d3], _ => rfl) hlaw W base args ds gs before hval hW
theorem holds3 (hlaw : ∀ ys, Go.Pe.TyVs Try.prog 20 [28, 29, 5] ys → ∃ h', Go.Pe.Fn Try.prog 3 ys .nil (.val (.bool true)) h') : Rows.RiverWaysSaid :=
  OpenClaim.holds_of_wide 3 Try.f3 rfl rfl rfl rfl rfl rfl rfl ⟨rfl, rfl, rfl, rfl, rfl⟩ rfl rfl rfl rfl rfl (by kernel_rfl) Try.func3 (by kernel_rfl)
    (of_decide_eq_true (by kernel_rfl)) (by unfold Func.isWrapper; first | (rw [if_pos (by decide +kernel)]; kernel_rfl) | (rw [if_neg (by decide +kernel)]; exact ⟨rfl, rfl⟩))
    (fun os started H enc _ => lifted3 hlaw os started H enc)
end Go.Proofs.Ytblpmcmapadphab
