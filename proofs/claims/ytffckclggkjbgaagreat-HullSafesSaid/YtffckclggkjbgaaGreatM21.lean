import Derived.Test.YtffckclggkjbgaaGreatM20
import Derived.Test.YtffckclggkjbgaaGreatM09
import Derived.Test.YtffckclggkjbgaaGreatRows
import Derived.ProofKit
import Derived.Test.YtffckclggkjbgaaGreatM10
set_option linter.unusedVariables false
set_option linter.unusedSimpArgs false
namespace Go.Proofs.YtffckclggkjbgaaGreat
open Go Go.ChangeShapes Go.WideShapes Go.ChangeAt Go.RowKit
set_option linter.unusedVariables false
theorem own6 : ownKnob Tryz.prog.godebug = none := by kernel_rfl
set_option maxRecDepth 100000 in
theorem lifted6 (hlaw : ∀ ys, Go.Pe.TyVs Tryz.prog 20 [86, 3] ys → ∃ h', Go.Pe.Fn Tryz.prog 6 ys .nil (.val (.bool true)) h') (os : Os) (started : os.Started) (H : Type) (enc : TypeId × Value → H) :
    ReturnsInHanded {} Tryz.checked os 6 .any (Rows.hullLivesSpec.pre6 enc Tryz.prog Tryz.f6 Rows.hullLivesRow.domain false) (Rows.hullLivesSpec.post enc Tryz.prog Tryz.f6 false true false false) := by
  refine returnsInHanded_of_change (C := Tryz.checked) own6 started (by kernel_rfl) Tryz.func6
    (ChangeSpec.witness6 (enc := enc) (C := Tryz.checked) false ⟨#[], #[.slice none 0 0, .int .i64 0], []⟩ 8 (by kernel_rfl) (by kernel_rfl) (by kernel_rfl) (by kernel_rfl)) ?_
  intro W base args ds gs before hval hW _ _
  exact Go.Pe.law_contract (s := Rows.hullLivesSpec) (ts := [86, 3]) (tb := 4) 20 (by rw [Tryz.params6]) (by kernel_rfl) (by kernel_rfl) (by kernel_rfl) (by kernel_rfl) Tryz.underlying4 rfl
    (fun ds hd => by match ds, hd with | [d1, d2], _ => rfl) hlaw W base args ds gs before hval hW
theorem holds6 (hlaw : ∀ ys, Go.Pe.TyVs Tryz.prog 20 [86, 3] ys → ∃ h', Go.Pe.Fn Tryz.prog 6 ys .nil (.val (.bool true)) h') : Rows.HullLivesSaid :=
  OpenClaim.holds_of_wide 6 Tryz.f6 rfl rfl rfl rfl rfl rfl rfl ⟨rfl, rfl, rfl, rfl, rfl⟩ rfl rfl rfl rfl rfl (by kernel_rfl) Tryz.func6 (by kernel_rfl)
    (of_decide_eq_true (by kernel_rfl)) (by unfold Func.isWrapper; first | (rw [if_pos (by decide +kernel)]; kernel_rfl) | (rw [if_neg (by decide +kernel)]; exact ⟨rfl, rfl⟩))
    (fun os started H enc _ => lifted6 hlaw os started H enc)
end Go.Proofs.YtffckclggkjbgaaGreat

/- Arguments opened: numbers, bounds, rows. -/
namespace Go.Pe
open Go Go.Proofs Go.Proofs.YtffckclggkjbgaaGreat
set_option maxRecDepth 100000
def isSt (P : Program) (t : TypeId) : Bool := match P.underlying t with
  | some (.struct _) => true
  | some (.array _ _) => true
  | _ => false
theorem TyV_st {P : Program} {n : Nat} {t : TypeId} {y : AV} (h : isSt P t = true) (hv : TyV P n t y) : ∃ xs, y = .agg xs ∧ TyC P n t xs := by
  unfold isSt at h
  unfold TyV at hv
  split at h <;> simp_all
theorem TyV_one {P : Program} {n : Nat} {t : TypeId} {y : AV} (h : isSt P t = false) (hv : TyV P n t y) : TyC P n t [y] := by
  unfold isSt at h
  unfold TyV at hv
  split at h <;> simp_all
theorem TyC_at {P : Program} {n : Nat} {t : TypeId} {T : TI} {xs : List AV} (hT : ti P t = some T) (h : TyC P (n + 1) t xs) : (match T.kind with
      | .int k => ∃ m, xs = [.val (.int k m)] ∧ k.min ≤ m ∧ m ≤ k.max
      | .bool => ∃ b, xs = [.val (.bool b)]
      | .str => ∃ s, xs = [.val (.string s)] ∧ s.size ≤ maxLen
      | .st fs => TyFs (TyC P n) fs xs
      | .ar len e => TyAr (TyC P n e) (P.cellsOf e) len xs
      | .sl e => ∃ rows, xs = [.ro false (P.cellsOf e) rows] ∧ rows.length ≤ maxLen ∧ ∀ row ∈ rows, row.length = P.cellsOf e ∧ TyC P n e row
      | .oth => False) := by
  unfold TyC at h
  rw [hT] at h
  exact h
theorem open_i64 {n : Nat} {xs : List AV} (h : TyC Tryz.prog (n + 1) 3 xs) : ∃ m, xs = [I m] := by
  obtain ⟨m, e, _⟩ := TyC_at ti3 h
  exact ⟨m, e⟩
theorem open_bd {n : Nat} {xs : List AV} (h : TyC Tryz.prog (n + 2) 27 xs) : ∃ b : Bd, xs = [I b.lo, I b.hi] := by
  obtain ⟨a, r, rfl, _, h1, a', r', rfl, _, h2, rfl⟩ := TyC_at ti27 h
  obtain ⟨m, rfl⟩ := open_i64 h1
  obtain ⟨k, rfl⟩ := open_i64 h2
  exact ⟨⟨m, k⟩, rfl⟩
theorem rows_map {α : Type} (f : α → List AV) (Q : α → Prop) : ∀ {rows : List (List AV)}, (∀ r ∈ rows, ∃ a, r = f a ∧ Q a) → ∃ l : List α, rows = l.map f ∧ ∀ a ∈ l, Q a
  | [], _ => ⟨[], rfl, by simp⟩
  | r :: rows, h => by
      obtain ⟨a, e, q⟩ := h r (by simp)
      obtain ⟨l, e', q'⟩ := rows_map f Q (rows := rows) (fun r hr => h r (by simp [hr]))
      refine ⟨a :: l, by rw [e, e']; rfl, fun b hb => ?_⟩
      rcases List.mem_cons.1 hb with rfl | hb
      · exact q
      · exact q' b hb
end Go.Pe

/- The law HullLives of package hull returns true for all plates and every least thickness. It has no condition. -/
namespace Go.Pe
open Go Go.Proofs Go.Proofs.YtffckclggkjbgaaGreat
attribute [local simp] t3 u3 t4 u4 t27 u27 tz22 uz22 tz26 uz26 tz29 uz29 tz30 uz30 fP_eq
set_option maxRecDepth 100000
theorem open_plate {n : Nat} {xs : List AV} (h : TyC Tryz.prog (n + 3) 90 xs) : ∃ b : Pl, xs = fP b := by
  obtain ⟨a, r, rfl, _, h1, a', r', rfl, _, h2, rfl⟩ := TyC_at tiz30 h
  obtain ⟨m, rfl⟩ := open_bd h1
  obtain ⟨k, rfl⟩ := open_bd h2
  exact ⟨⟨m, k⟩, rfl⟩
theorem open_plates {n : Nat} {xs : List AV} (h : TyC Tryz.prog (n + 4) 86 xs) : ∃ l : List Pl, xs = [.ro false 4 (l.map fP)] ∧ l.length ≤ maxLen := by
  obtain ⟨rows, rfl, h1, h2⟩ := TyC_at tiz22 h
  obtain ⟨l, rfl, _⟩ := rows_map fP (fun _ => True) (rows := rows) (fun r hr => (open_plate (h2 r hr).2).imp fun _ h => ⟨h, trivial⟩)
  exact ⟨l, by rw [show Tryz.prog.cellsOf 90 = 4 by kernel_rfl], by simpa using h1⟩
theorem hl_args {ys : List AV} (h : TyVs Tryz.prog 20 [86, 3] ys) : ∃ (l : List Pl) (least : Int), ys = [.ro false 4 (l.map fP), I least] ∧ l.length ≤ maxLen := by
  obtain ⟨y1, z1, rfl, v1, y2, z2, rfl, v2, rfl⟩ := h
  have v1 := TyV_one (by kernel_rfl) v1
  have v2 := TyV_one (by kernel_rfl) v2
  obtain ⟨l, e1, hl⟩ := open_plates v1
  obtain ⟨m, e2⟩ := open_i64 v2
  cases e1; cases e2
  exact ⟨l, m, rfl, hl⟩
theorem hl_long {l : List Pl} {least : Int} (h : 60 < l.length) (hl : l.length ≤ maxLen) : Fn Tryz.prog 6 [.ro false 4 (l.map fP), I least] .nil (B true) .nil := by
  unfold maxLen at hl
  have d1 : decide ((60 : Int) < (l.length : Int)) = true := decide_eq_true (by omega)
  refine Fn.ofR0 noM (by kernel_rfl) Tryz.func6 rfl (by simp) ?_
  simp -dsimp -implicitDefEqProofs [d1]
  refine onCall_in (known_fn.beside rfl _) ?_
  simp -dsimp -implicitDefEqProofs
theorem hl_all (ys : List AV) (h : TyVs Tryz.prog 20 [86, 3] ys) : ∃ h', Fn Tryz.prog 6 ys .nil (.val (.bool true)) h' := by
  obtain ⟨l, least, rfl, hl⟩ := hl_args h
  refine ⟨.nil, ?_⟩
  by_cases h60 : 60 < l.length
  · exact hl_long h60 hl
  have h60' : l.length ≤ 60 := by omega
  have hn : (l.length : Int) < 2^62 := by omega
  have ew : w0L l = if decide ((50 : Int) < l.length) = true then 5 else if ((l.length : Int) == 0) = true then 4 else 0 := by
    unfold w0L
    by_cases h1 : l.length = 0
    · simp [h1]
    · by_cases h2 : 50 < l.length
      · have h3 : (50 : Int) < l.length := by omega
        simp [h1, h2, h3]
      · have h3 : ¬ (50 : Int) < l.length := by omega
        have h4 : l ≠ [] := fun e => h1 (by rw [e]; rfl)
        simp [h2, h3, h4]
  by_cases he : lifeE l least = 0
  · refine hl_law (lo := (lfI 1000 least l l.length).lo) (hi := (lfI 1000 least l l.length).hi) (k := (lfI 1000 least l l.length).k) h60' rfl rfl ew rfl ?_ (fun h => absurd he h) (fun _ => ?_)
    · rw [he]; exact Life_fn hn he
    · have g : (l.length ≠ 0 ∧ l.length ≤ 50) ∧ l.all okP = true ∧ inB 0 100000 least = true := by
        have he' := he
        unfold lifeE at he'
        split at he'; · omega
        split at he'; · omega
        split at he'; · omega
        split at he'; · omega
        rename_i a b c d
        exact ⟨⟨a, by omega⟩, by simpa using c, by simpa using d⟩
      obtain ⟨⟨g1, g2⟩, g3, g4⟩ := g
      have := rLife_fn (l := l) (least := least) (h := .nil) (fu := false) (by omega) (fun p hp => List.all_eq_true.1 g3 p hp) (inB_iff.1 g4)
      rw [lfI_any (m := 1000000) (m' := 1000) (by omega) (by omega) l.length (by omega) (Nat.le_refl _)] at this
      exact this
  · exact hl_law (lo := 0) (hi := 0) (k := 0) h60' rfl rfl ew rfl (Life_bad hn he) (fun _ => ⟨rfl, rfl, rfl⟩) (fun h => absurd h he)
end Go.Pe
namespace Go.Proofs.YtffckclggkjbgaaGreat
theorem hullLives : Rows.HullLivesSaid := holds6 Go.Pe.hl_all
end Go.Proofs.YtffckclggkjbgaaGreat
