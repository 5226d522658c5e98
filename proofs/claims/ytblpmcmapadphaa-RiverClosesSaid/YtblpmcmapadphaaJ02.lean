import Derived.Test.YtblpmcmapadphaaF23
import Derived.Test.YtblpmcmapadphaaF09
import Derived.Test.YtblpmcmapadphaaRows
import Derived.ProofKit
set_option linter.unusedVariables false
set_option linter.unusedSimpArgs false
namespace Go.Proofs.Ytblpmcmapadphaa
open Go Go.ChangeShapes Go.WideShapes Go.ChangeAt Go.RowKit
set_option linter.unusedVariables false
theorem own9 : ownKnob Try.prog.godebug = none := by kernel_rfl
set_option maxRecDepth 100000 in
theorem lifted9 (hlaw : ∀ ys, Go.Pe.TyVs Try.prog 20 [34, 84, 85] ys → ∃ h', Go.Pe.Fn Try.prog 9 ys .nil (.val (.bool true)) h') (os : Os) (started : os.Started) (H : Type) (enc : TypeId × Value → H) :
    ReturnsInHanded {} Try.checked os 9 .any (Rows.riverClosesSpec.pre6 enc Try.prog Try.f9 Rows.riverClosesRow.domain false) (Rows.riverClosesSpec.post enc Try.prog Try.f9 false true false false) := by
  refine returnsInHanded_of_change (C := Try.checked) own9 started (by kernel_rfl) Try.func9
    (ChangeSpec.witness6 (enc := enc) (C := Try.checked) false ⟨#[], #[.agg #[.slice none 0 0, .slice none 0 0, .slice none 0 0], .slice none 0 0, .agg #[.int .i64 0, .int .i64 0]], []⟩ 8 (by kernel_rfl) (by kernel_rfl) (by kernel_rfl) (by kernel_rfl)) ?_
  intro W base args ds gs before hval hW _ _
  exact Go.Pe.law_contract (s := Rows.riverClosesSpec) (ts := [34, 84, 85]) (tb := 4) 20 (by rw [Try.params9]) (by kernel_rfl) (by kernel_rfl) (by kernel_rfl) (by kernel_rfl) Try.underlying4 rfl
    (fun ds hd => by match ds, hd with | [d1, d2, d3], _ => rfl) hlaw W base args ds gs before hval hW
theorem holds9 (hlaw : ∀ ys, Go.Pe.TyVs Try.prog 20 [34, 84, 85] ys → ∃ h', Go.Pe.Fn Try.prog 9 ys .nil (.val (.bool true)) h') : Rows.RiverClosesSaid :=
  OpenClaim.holds_of_wide 9 Try.f9 rfl rfl rfl rfl rfl rfl rfl ⟨rfl, rfl, rfl, rfl, rfl⟩ rfl rfl rfl rfl rfl (by kernel_rfl) Try.func9 (by kernel_rfl)
    (of_decide_eq_true (by kernel_rfl)) (by unfold Func.isWrapper; first | (rw [if_pos (by decide +kernel)]; kernel_rfl) | (rw [if_neg (by decide +kernel)]; exact ⟨rfl, rfl⟩))
    (fun os started H enc _ => lifted9 hlaw os started H enc)
end Go.Proofs.Ytblpmcmapadphaa
