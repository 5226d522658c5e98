import Derived.Test.YtblpmcmapadphaaF23
import Derived.Test.YtblpmcmapadphaaF09
import Derived.Test.YtblpmcmapadphaaRows
import Derived.ProofKit
set_option linter.unusedVariables false
set_option linter.unusedSimpArgs false
namespace Go.Proofs.Ytblpmcmapadphaa
open Go Go.ChangeShapes Go.WideShapes Go.ChangeAt Go.RowKit
set_option linter.unusedVariables false
theorem own5 : ownKnob Try.prog.godebug = none := by kernel_rfl
set_option maxRecDepth 100000 in
theorem lifted5 (hlaw : ∀ ys, Go.Pe.TyVs Try.prog 20 [34] ys → ∃ h', Go.Pe.Fn Try.prog 5 ys .nil (.val (.bool true)) h') (os : Os) (started : os.Started) (H : Type) (enc : TypeId × Value → H) :
    ReturnsInHanded {} Try.checked os 5 .any (Rows.riverFlowsSpec.pre6 enc Try.prog Try.f5 Rows.riverFlowsRow.domain false) (Rows.riverFlowsSpec.post enc Try.prog Try.f5 false true false false) := by
  refine returnsInHanded_of_change (C := Try.checked) own5 started (by kernel_rfl) Try.func5
    (ChangeSpec.witness6 (enc := enc) (C := Try.checked) false ⟨#[], #[.agg #[.slice none 0 0, .slice none 0 0, .slice none 0 0]], []⟩ 8 (by kernel_rfl) (by kernel_rfl) (by kernel_rfl) (by kernel_rfl)) ?_
  intro W base args ds gs before hval hW _ _
  exact Go.Pe.law_contract (s := Rows.riverFlowsSpec) (ts := [34]) (tb := 4) 20 (by rw [Try.params5]) (by kernel_rfl) (by kernel_rfl) (by kernel_rfl) (by kernel_rfl) Try.underlying4 rfl
    (fun ds hd => by match ds, hd with | [d1], _ => rfl) hlaw W base args ds gs before hval hW
theorem holds5 (hlaw : ∀ ys, Go.Pe.TyVs Try.prog 20 [34] ys → ∃ h', Go.Pe.Fn Try.prog 5 ys .nil (.val (.bool true)) h') : Rows.RiverFlowsSaid :=
  OpenClaim.holds_of_wide 5 Try.f5 rfl rfl rfl rfl rfl rfl rfl ⟨rfl, rfl, rfl, rfl, rfl⟩ rfl rfl rfl rfl rfl (by kernel_rfl) Try.func5 (by kernel_rfl)
    (of_decide_eq_true (by kernel_rfl)) (by unfold Func.isWrapper; first | (rw [if_pos (by decide +kernel)]; kernel_rfl) | (rw [if_neg (by decide +kernel)]; exact ⟨rfl, rfl⟩))
    (fun os started H enc _ => lifted5 hlaw os started H enc)
end Go.Proofs.Ytblpmcmapadphaa
