import Derived.Test.YtffckclggkjbgaaGreatY33
import Derived.Test.YtffckclggkjbgaaGreatY19
import Derived.Test.YtffckclggkjbgaaGreatRows
import Derived.ProofKit
set_option linter.unusedVariables false
set_option linter.unusedSimpArgs false
namespace Go.Proofs.YtffckclggkjbgaaGreat
open Go Go.ChangeShapes Go.WideShapes Go.ChangeAt Go.RowKit
set_option linter.unusedVariables false
theorem own10 : ownKnob Tryz.prog.godebug = none := by kernel_rfl
set_option maxRecDepth 100000 in
theorem lifted10 (hlaw : ∀ ys, Go.Pe.TyVs Tryz.prog 20 [98, 5, 5] ys → ∃ h', Go.Pe.Fn Tryz.prog 10 ys .nil (.val (.bool true)) h') (os : Os) (started : os.Started) (H : Type) (enc : TypeId × Value → H) :
    ReturnsInHanded {} Tryz.checked os 10 .any (Rows.hullWeldedSpec.pre6 enc Tryz.prog Tryz.f10 Rows.hullWeldedRow.domain false) (Rows.hullWeldedSpec.post enc Tryz.prog Tryz.f10 false true false false) := by
  refine returnsInHanded_of_change (C := Tryz.checked) own10 started (by kernel_rfl) Tryz.func10
    (ChangeSpec.witness6 (enc := enc) (C := Tryz.checked) false ⟨#[], #[.agg #[.int .u8 0, .slice none 0 0, .int .u8 0, .int .u8 0, .int .u8 0, .int .u8 0, .int .u8 0, .int .u8 0], .int .u8 0, .int .u8 0], []⟩ 8 (by kernel_rfl) (by kernel_rfl) (by kernel_rfl) (by kernel_rfl)) ?_
  intro W base args ds gs before hval hW _ _
  exact Go.Pe.law_contract (s := Rows.hullWeldedSpec) (ts := [98, 5, 5]) (tb := 4) 20 (by rw [Tryz.params10]) (by kernel_rfl) (by kernel_rfl) (by kernel_rfl) (by kernel_rfl) Tryz.underlying4 rfl
    (fun ds hd => by match ds, hd with | [d1, d2, d3], _ => rfl) hlaw W base args ds gs before hval hW
theorem holds10 (hlaw : ∀ ys, Go.Pe.TyVs Tryz.prog 20 [98, 5, 5] ys → ∃ h', Go.Pe.Fn Tryz.prog 10 ys .nil (.val (.bool true)) h') : Rows.HullWeldedSaid :=
  OpenClaim.holds_of_wide 10 Tryz.f10 rfl rfl rfl rfl rfl rfl rfl ⟨rfl, rfl, rfl, rfl, rfl⟩ rfl rfl rfl rfl rfl (by kernel_rfl) Tryz.func10 (by kernel_rfl)
    (of_decide_eq_true (by kernel_rfl)) (by unfold Func.isWrapper; first | (rw [if_pos (by decide +kernel)]; kernel_rfl) | (rw [if_neg (by decide +kernel)]; exact ⟨rfl, rfl⟩))
    (fun os started H enc _ => lifted10 hlaw os started H enc)
end Go.Proofs.YtffckclggkjbgaaGreat
