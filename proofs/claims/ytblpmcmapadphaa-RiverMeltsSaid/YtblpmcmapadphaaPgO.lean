import Derived.Test.YtblpmcmapadphaaPeY
import Derived.Test.YtblpmcmapadphaaPfTy
import Derived.Test.YtblpmcmapadphaaRows
import Derived.ProofKit
set_option linter.unusedVariables false
set_option linter.unusedSimpArgs false
namespace Go.Proofs.Ytblpmcmapadphaa
open Go Go.ChangeShapes Go.WideShapes Go.ChangeAt Go.RowKit
set_option linter.unusedVariables false
theorem own14 : ownKnob Try.prog.godebug = none := by kernel_rfl
set_option maxRecDepth 100000 in
theorem lifted14 (hlaw : ∀ ys, Go.Pe.TyVs Try.prog 20 [48, 49, 96] ys → ∃ h', Go.Pe.Fn Try.prog 14 ys .nil (.val (.bool true)) h') (os : Os) (started : os.Started) (H : Type) (enc : TypeId × Value → H) :
    ReturnsInHanded {} Try.checked os 14 .any (Rows.riverMeltsSpec.pre6 enc Try.prog Try.f14 Rows.riverMeltsRow.domain false) (Rows.riverMeltsSpec.post enc Try.prog Try.f14 false true false false) := by
  refine returnsInHanded_of_change (C := Try.checked) own14 started (by kernel_rfl) Try.func14
    (ChangeSpec.witness6 (enc := enc) (C := Try.checked) false ⟨#[], #[.agg #[.int .i64 0, .int .i64 0, .int .i64 0, .int .i64 0, .int .i64 0], .slice none 0 0, .agg #[.slice none 0 0, .slice none 0 0, .slice none 0 0, .slice none 0 0, .int .u8 0]], []⟩ 8 (by kernel_rfl) (by kernel_rfl) (by kernel_rfl) (by kernel_rfl)) ?_
  intro W base args ds gs before hval hW _ _
  exact Go.Pe.law_contract (s := Rows.riverMeltsSpec) (ts := [48, 49, 96]) (tb := 4) 20 (by rw [Try.params14]) (by kernel_rfl) (by kernel_rfl) (by kernel_rfl) (by kernel_rfl) Try.underlying4 rfl
    (fun ds hd => by match ds, hd with | [d1, d2, d3], _ => rfl) hlaw W base args ds gs before hval hW
theorem holds14 (hlaw : ∀ ys, Go.Pe.TyVs Try.prog 20 [48, 49, 96] ys → ∃ h', Go.Pe.Fn Try.prog 14 ys .nil (.val (.bool true)) h') : Rows.RiverMeltsSaid :=
  OpenClaim.holds_of_wide 14 Try.f14 rfl rfl rfl rfl rfl rfl rfl ⟨rfl, rfl, rfl, rfl, rfl⟩ rfl rfl rfl rfl rfl (by kernel_rfl) Try.func14 (by kernel_rfl)
    (of_decide_eq_true (by kernel_rfl)) (by unfold Func.isWrapper; first | (rw [if_pos (by decide +kernel)]; kernel_rfl) | (rw [if_neg (by decide +kernel)]; exact ⟨rfl, rfl⟩))
    (fun os started H enc _ => lifted14 hlaw os started H enc)
end Go.Proofs.Ytblpmcmapadphaa
