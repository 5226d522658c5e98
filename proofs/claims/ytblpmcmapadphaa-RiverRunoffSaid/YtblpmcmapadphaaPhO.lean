import Derived.Test.YtblpmcmapadphaaPeY
import Derived.Test.YtblpmcmapadphaaPfTy
import Derived.Test.YtblpmcmapadphaaRows
import Derived.ProofKit
set_option linter.unusedVariables false
set_option linter.unusedSimpArgs false
namespace Go.Proofs.Ytblpmcmapadphaa
open Go Go.ChangeShapes Go.WideShapes Go.ChangeAt Go.RowKit
set_option linter.unusedVariables false
theorem own4 : ownKnob Try.prog.godebug = none := by kernel_rfl
set_option maxRecDepth 100000 in
theorem lifted4 (hlaw : ∀ ys, Go.Pe.TyVs Try.prog 20 [48, 49] ys → ∃ h', Go.Pe.Fn Try.prog 4 ys .nil (.val (.bool true)) h') (os : Os) (started : os.Started) (H : Type) (enc : TypeId × Value → H) :
    ReturnsInHanded {} Try.checked os 4 .any (Rows.riverRunoffSpec.pre6 enc Try.prog Try.f4 Rows.riverRunoffRow.domain false) (Rows.riverRunoffSpec.post enc Try.prog Try.f4 false true false false) := by
  refine returnsInHanded_of_change (C := Try.checked) own4 started (by kernel_rfl) Try.func4
    (ChangeSpec.witness6 (enc := enc) (C := Try.checked) false ⟨#[], #[.agg #[.int .i64 0, .int .i64 0, .int .i64 0, .int .i64 0, .int .i64 0], .slice none 0 0], []⟩ 8 (by kernel_rfl) (by kernel_rfl) (by kernel_rfl) (by kernel_rfl)) ?_
  intro W base args ds gs before hval hW _ _
  exact Go.Pe.law_contract (s := Rows.riverRunoffSpec) (ts := [48, 49]) (tb := 4) 20 (by rw [Try.params4]) (by kernel_rfl) (by kernel_rfl) (by kernel_rfl) (by kernel_rfl) Try.underlying4 rfl
    (fun ds hd => by match ds, hd with | [d1, d2], _ => rfl) hlaw W base args ds gs before hval hW
theorem holds4 (hlaw : ∀ ys, Go.Pe.TyVs Try.prog 20 [48, 49] ys → ∃ h', Go.Pe.Fn Try.prog 4 ys .nil (.val (.bool true)) h') : Rows.RiverRunoffSaid :=
  OpenClaim.holds_of_wide 4 Try.f4 rfl rfl rfl rfl rfl rfl rfl ⟨rfl, rfl, rfl, rfl, rfl⟩ rfl rfl rfl rfl rfl (by kernel_rfl) Try.func4 (by kernel_rfl)
    (of_decide_eq_true (by kernel_rfl)) (by unfold Func.isWrapper; first | (rw [if_pos (by decide +kernel)]; kernel_rfl) | (rw [if_neg (by decide +kernel)]; exact ⟨rfl, rfl⟩))
    (fun os started H enc _ => lifted4 hlaw os started H enc)
end Go.Proofs.Ytblpmcmapadphaa
