import Derived.Test.YtffckclggkjbgaaGreatM11
import Derived.Test.YtffckclggkjbgaaGreatM17
import Derived.Test.YtffckclggkjbgaaGreatRows
import Derived.Test.YtffckclggkjbgaaGreatM20
set_option linter.unusedVariables false
set_option linter.unusedSimpArgs false
/- The law RiverMelts: its helpers. -/
namespace Go.Pe
open Go Go.Proofs Go.Proofs.YtffckclggkjbgaaGreat
attribute [local simp] ap_skip ap_region ap_seq ap_cond ap_block ap_loop ap_exit ap_ret ap_seq_normal ap_seq_ret ap_seq_exit ap_block_normal ap_block_ret ap_block_exit ap_block_other ap_nil ap_draw ap_dr_nil ap_fin_ret ap_fin_normal ap_loopK dstT_zero dstT_succ Nat.add_assoc onSome_some onSome_none ifB_true ifB_false ifB_not onClo_clo onBool_bool onBool_tup frz_val frz_ro takeAt elemTy LeN_refl LeN_push LeN_set push_get push_next set_get set_next nil_get nil_next pop_move pop_assign pop_pick pop_load pop_fieldAddr pop_indexAddr pop_field pop_binOp pop_unOp pop_convert pop_extract pop_makeFunc pop_nilCheck pop_build pop_slice pop_len pop_max pop_min eop_alloc eop_box eop_store eop_buildSlice eop_makeSlice eop_append as_move as_assign as_pick as_load as_fieldAddr as_indexAddr as_field as_binOp as_unOp as_convert as_extract as_makeFunc as_nilCheck as_build as_slice as_len as_max as_min as_alloc as_box as_store as_buildSlice as_makeSlice as_append as_call cons_free cons_guard putA_some putA_none aev_tmp aev_int aev_bool aev_nil aev_func pickA_and pickA_or pickA_true pickA_false nnA_ptr nnA_rop idxA_some intOf_int boxA_some bin_int binI_add binI_sub binI_mul binI_quo binI_rem binI_eql binI_neq binI_lss binI_leq binI_gtr binI_geq unA_not unA_neg loadA_ptr loadA_rop loadO_some asLoaded_agg asLoaded_one resA_one resA_two resOne_tmp resOne_cell cellsOf_int cellsOf_bool cellsOf_clo cellsOf_ptr cellsOf_ro cellsOf_sl cellsOf_nil cellsOf_agg one_int one_bool one_nil one_clo one_ptr one_ro one_sl one_rop mm_max mm_min elS_sl elS2_sl mkA_some chunk_zero chunk_succ zcells_zero zcells_succ clean_val clean_ro clean_rop clean1_val clean1_ro clean1_rop flat_val flat_ro flat_agg frz_agg frz_tup
attribute [local simp] t3 u3 t4 u4 t5 u5 t22 u22 t23 u23 t25 u25 t27 u27 t28 u28 t30 u30 t32 u32   t37 u37 t43 u43     t50 u50   t75 u75 t77 u77     t94 u94   t102 u102 t117 u117 t119 u119     t130 u130 t134 u134 t138 u138   t155 u155 t156 u156   t172 u172
attribute [local simp] lenA_ro indexA_ro fieldA fldA partA buildA fillA storeA buildSliceA
attribute [local simp] quietA effectful allocs fpo findNew_nil q_move q_assign q_pick q_load q_fieldAddr q_indexAddr q_field q_binOp q_unOp q_convert q_extract q_makeFunc q_nilCheck q_build q_slice q_len q_max q_min e_alloc e_box e_store e_buildSlice e_makeSlice e_append q_call e_call dr_free dr_guard qView_next eView_next hit_nil hit_cons qView_get optL_some optL_none eView_get fp_alloc fp_box fp_make fp_append fp_build fp_call fp_store mergeG_get LeN_nil new_store findNew_cons
attribute [local simp] one_get one_next ap_finw_ret ap_finw_normal
set_option maxRecDepth 20000
noncomputable abbrev U (n : Int) : AV := .val (.int .u8 n)
def pickZ (b : Bd) (y : Int) : Int := b.lo + ((b.hi - b.lo) * y).tdiv 255
def partZ (l : List Int) (i : Nat) : Int := if l.length = 0 then 0 else l.getD (i % l.length) 0

end Go.Pe

/- The document's examples: what 'known' returns. -/
namespace Go.Pe
open Go Go.Proofs Go.Proofs.YtffckclggkjbgaaGreat
end Go.Pe

/- The law RiverMelts: a sky that is too long, and land or a sky that is not valid. -/
namespace Go.Pe
open Go Go.Proofs Go.Proofs.YtffckclggkjbgaaGreat
attribute [local simp] ap_skip ap_region ap_seq ap_cond ap_block ap_loop ap_exit ap_ret ap_seq_normal ap_seq_ret ap_seq_exit ap_block_normal ap_block_ret ap_block_exit ap_block_other ap_nil ap_draw ap_dr_nil ap_fin_ret ap_fin_normal ap_loopK dstT_zero dstT_succ Nat.add_assoc onSome_some onSome_none ifB_true ifB_false ifB_not onClo_clo onBool_bool onBool_tup frz_val frz_ro takeAt elemTy LeN_refl LeN_push LeN_set push_get push_next set_get set_next nil_get nil_next pop_move pop_assign pop_pick pop_load pop_fieldAddr pop_indexAddr pop_field pop_binOp pop_unOp pop_convert pop_extract pop_makeFunc pop_nilCheck pop_build pop_slice pop_len pop_max pop_min eop_alloc eop_box eop_store eop_buildSlice eop_makeSlice eop_append as_move as_assign as_pick as_load as_fieldAddr as_indexAddr as_field as_binOp as_unOp as_convert as_extract as_makeFunc as_nilCheck as_build as_slice as_len as_max as_min as_alloc as_box as_store as_buildSlice as_makeSlice as_append as_call cons_free cons_guard putA_some putA_none aev_tmp aev_int aev_bool aev_nil aev_func pickA_and pickA_or pickA_true pickA_false nnA_ptr nnA_rop idxA_some intOf_int boxA_some bin_int binI_add binI_sub binI_mul binI_quo binI_rem binI_eql binI_neq binI_lss binI_leq binI_gtr binI_geq unA_not unA_neg loadA_ptr loadA_rop loadO_some asLoaded_agg asLoaded_one resA_one resA_two resOne_tmp resOne_cell cellsOf_int cellsOf_bool cellsOf_clo cellsOf_ptr cellsOf_ro cellsOf_sl cellsOf_nil cellsOf_agg one_int one_bool one_nil one_clo one_ptr one_ro one_sl one_rop mm_max mm_min elS_sl elS2_sl mkA_some chunk_zero chunk_succ zcells_zero zcells_succ clean_val clean_ro clean_rop clean1_val clean1_ro clean1_rop flat_val flat_ro flat_agg frz_agg frz_tup
attribute [local simp] t3 u3 t4 u4 t5 u5 t22 u22 t23 u23 t25 u25 t27 u27 t28 u28 t30 u30 t32 u32   t37 u37 t43 u43     t50 u50   t75 u75 t77 u77     t94 u94   t102 u102 t117 u117 t119 u119     t130 u130 t134 u134 t138 u138   t155 u155 t156 u156   t172 u172
attribute [local simp] lenA_ro indexA_ro fieldA fldA partA buildA fillA storeA buildSliceA
attribute [local simp] quietA effectful allocs fpo findNew_nil q_move q_assign q_pick q_load q_fieldAddr q_indexAddr q_field q_binOp q_unOp q_convert q_extract q_makeFunc q_nilCheck q_build q_slice q_len q_max q_min e_alloc e_box e_store e_buildSlice e_makeSlice e_append q_call e_call dr_free dr_guard qView_next eView_next hit_nil hit_cons qView_get optL_some optL_none eView_get fp_alloc fp_box fp_make fp_append fp_build fp_call fp_store mergeG_get LeN_nil new_store findNew_cons
attribute [local simp] one_get one_next ap_finw_ret ap_finw_normal
set_option maxRecDepth 20000
structure Tr where
  base : List Int
  side : List Int
  bed : List Int
  grow : List Int
  snow : Int
noncomputable abbrev u8s (l : List Int) : AV := .ro false 1 (l.map fun n => [U n])
noncomputable abbrev Tr.av (x : Tr) : AV := .agg [u8s x.base, u8s x.side, u8s x.bed, u8s x.grow, U x.snow]
def meltsC : Nat → Cert := fun i => if i = 10 then { M := [14, 15], eff := [(17, [14]), (19, [15]), (22, [15])] } else {}

end Go.Pe

/- Plates by small numbers, and what is true of their years. -/
namespace Go.Pe
open Go Go.Proofs Go.Proofs.YtffckclggkjbgaaGreat
set_option maxRecDepth 20000

structure Q4 where
  a : Int
  b : Int
  c : Int
  d : Int
noncomputable def fQ (q : Q4) : List AV := [U q.a, U q.b, U q.c, U q.d]
theorem fQ_eq {q : Q4} : fQ q = [U q.a, U q.b, U q.c, U q.d] := rfl
def okQ (q : Q4) : Prop := (0 ≤ q.a ∧ q.a ≤ 255) ∧ (0 ≤ q.b ∧ q.b ≤ 255) ∧ (0 ≤ q.c ∧ q.c ≤ 255) ∧ (0 ≤ q.d ∧ q.d ≤ 255)
def plQ (q : Q4) : Pl := ⟨⟨q.a, q.a + q.b⟩, ⟨q.c.tmod 20, q.c.tmod 20 + q.d.tmod 20⟩⟩
theorem plQ_ok {q : Q4} (h : okQ q) : okP (plQ q) = true := by
  obtain ⟨h1, h2, h3, h4⟩ := h
  have a1 := Int.tmod_nonneg 20 h3.1
  have a2 := Int.tmod_lt_of_pos q.c (show (0 : Int) < 20 by omega)
  have a3 := Int.tmod_nonneg 20 h4.1
  have a4 := Int.tmod_lt_of_pos q.d (show (0 : Int) < 20 by omega)
  simp only [okP, plQ, Bool.and_eq_true, vB_iff]
  omega

/-- The first plate with the least years. -/
theorem lfI_facts {m least : Int} {l : List Pl} : ∀ i, i ≤ l.length →
    (lfI m least l i).lo ≤ m ∧ (lfI m least l i).hi ≤ m ∧ (∀ (j : Nat) (p : Pl), j < i → l[j]? = some p → (lfI m least l i).lo ≤ loP least p ∧ (lfI m least l i).hi ≤ hiP least p) ∧
    (((lfI m least l i).lo = m ∧ (lfI m least l i).k = 0) ∨ ((lfI m least l i).k < i ∧ (∃ p, l[(lfI m least l i).k]? = some p ∧ loP least p = (lfI m least l i).lo) ∧ ∀ (j : Nat) (p : Pl), j < (lfI m least l i).k → l[j]? = some p → (lfI m least l i).lo < loP least p)) ∧
    ((lfI m least l i).hi = m ∨ ∃ (j : Nat) (p : Pl), j < i ∧ l[j]? = some p ∧ hiP least p = (lfI m least l i).hi)
  | 0, _ => by
    rw [lfI_zero]
    exact ⟨Int.le_refl _, Int.le_refl _, fun j p hj => by omega, .inl ⟨rfl, rfl⟩, .inl rfl⟩
  | i + 1, hi => by
    have hx : ∃ p, l[i]? = some p := ⟨_, List.getElem?_eq_getElem (by omega)⟩
    obtain ⟨p, hx⟩ := hx
    obtain ⟨h1, h2, h3, h4, h5⟩ := lfI_facts (m := m) (least := least) (l := l) i (by omega)
    rw [lfI_succ hx]
    generalize lfI m least l i = s at h1 h2 h3 h4 h5
    have hlo : (lfS least i s p).lo = if loP least p < s.lo then loP least p else s.lo := rfl
    have hhi : (lfS least i s p).hi = min s.hi (hiP least p) := rfl
    have hk : (lfS least i s p).k = if loP least p < s.lo then i else s.k := rfl
    rw [hlo, hhi, hk]
    refine ⟨by split <;> omega, by omega, fun j q hj hq => ?_, ?_, ?_⟩
    · by_cases hji : j = i
      · subst hji; rw [hx] at hq; cases hq
        constructor
        · split <;> omega
        · omega
      · have := h3 j q (by omega) hq
        constructor
        · split <;> omega
        · omega
    · by_cases hc : loP least p < s.lo
      · rw [if_pos hc, if_pos hc]
        refine .inr ⟨by omega, ⟨p, hx, rfl⟩, fun j q hj hq => ?_⟩
        have := (h3 j q hj hq).1
        omega
      · rw [if_neg hc, if_neg hc]
        rcases h4 with h4 | ⟨g1, g2, g3⟩
        · exact .inl h4
        · exact .inr ⟨by omega, g2, g3⟩
    · rcases h5 with h5 | ⟨j, q, g1, g2, g3⟩
      · by_cases hc : hiP least p ≤ s.hi
        · exact .inr ⟨i, p, by omega, hx, by omega⟩
        · exact .inl (by omega)
      · by_cases hc : hiP least p ≤ s.hi
        · exact .inr ⟨i, p, by omega, hx, by omega⟩
        · exact .inr ⟨j, q, by omega, g2, by omega⟩

theorem yA_mono {s s' w w' : Int} (hs : s ≤ s') (hw : w' ≤ w) (h0 : 0 ≤ w') : yA s w ≤ yA s' w' := by
  unfold yA
  by_cases h1 : s < 0
  · rw [if_pos h1]
    split
    · omega
    · split
      · omega
      · rename_i a b
        have := Int.ediv_nonneg (a := s') (b := w') (by omega) (by omega)
        omega
  · rw [if_neg h1, if_neg (show ¬ s' < 0 by omega)]
    by_cases h2 : w' = 0
    · rw [if_pos h2]; split <;> omega
    · rw [if_neg h2, if_neg (show ¬ w = 0 by omega)]
      have a : s / w ≤ s' / w := Int.ediv_le_ediv (by omega) hs
      have b : s' / w ≤ s' / w' := by
        refine Int.le_ediv_of_mul_le (by omega) ?_
        have c := Int.mul_le_mul_of_nonneg_left hw (Int.ediv_nonneg (a := s') (b := w) (by omega) (by omega))
        have d := Int.ediv_mul_le s' (b := w) (by omega)
        omega
      omega

/-- Thickness and wear that are looked at: the least years, the most, or some between. -/
def tw (way : Nat) (ps : List Int) (i : Nat) (p : Pl) : Int × Int :=
  if way = 1 then (p.thick.hi, p.wear.lo)
  else if way = 2 ∧ 0 < ps.length then (p.thick.lo + (ps.getD (i % ps.length) 0).tmod (p.thick.hi - p.thick.lo + 1), p.wear.hi - (ps.getD ((i + 1) % ps.length) 0).tmod (p.wear.hi - p.wear.lo + 1))
  else (p.thick.lo, p.wear.hi)
theorem tw_in {way : Nat} {ps : List Int} {i : Nat} {p : Pl} (hp : okP p = true) (hps : ∀ n ∈ ps, 0 ≤ n ∧ n ≤ 255) : p.thick.lo ≤ (tw way ps i p).1 ∧ (tw way ps i p).1 ≤ p.thick.hi ∧ p.wear.lo ≤ (tw way ps i p).2 ∧ (tw way ps i p).2 ≤ p.wear.hi := by
  simp only [okP, Bool.and_eq_true, vB_iff] at hp
  have hg : ∀ k, 0 ≤ ps.getD k 0 := fun k => by
    rw [List.getD_eq_getElem?_getD]
    cases h : ps[k]? with
    | none => simp
    | some n => simp; exact (hps n (List.mem_of_getElem? h)).1
  unfold tw
  split
  · simp only; omega
  · split
    · have a1 := Int.tmod_nonneg (p.thick.hi - p.thick.lo + 1) (hg (i % ps.length))
      have a2 := Int.tmod_lt_of_pos (ps.getD (i % ps.length) 0) (show (0 : Int) < p.thick.hi - p.thick.lo + 1 by omega)
      have a3 := Int.tmod_nonneg (p.wear.hi - p.wear.lo + 1) (hg ((i + 1) % ps.length))
      have a4 := Int.tmod_lt_of_pos (ps.getD ((i + 1) % ps.length) 0) (show (0 : Int) < p.wear.hi - p.wear.lo + 1 by omega)
      simp only; omega
    · simp only; omega
def yT (way : Nat) (least : Int) (ps : List Int) (i : Nat) (p : Pl) : Int := yA ((tw way ps i p).1 - least) (tw way ps i p).2
theorem yT_in {way : Nat} {least : Int} {ps : List Int} {i : Nat} {p : Pl} (hp : okP p = true) (hps : ∀ n ∈ ps, 0 ≤ n ∧ n ≤ 255) : loP least p ≤ yT way least ps i p ∧ yT way least ps i p ≤ hiP least p := by
  obtain ⟨h1, h2, h3, h4⟩ := tw_in (way := way) (i := i) hp hps
  have hp' := hp
  simp only [okP, Bool.and_eq_true, vB_iff] at hp'
  exact ⟨yA_mono (by omega) h4 (by omega), yA_mono (by omega) h3 (by omega)⟩
/-- The years of all plates, up to one of them. -/
def yrs (way : Nat) (least : Int) (ps : List Int) (l : List Pl) : Nat → Int
  | 0 => 1000
  | i + 1 => match l[i]? with
    | some p => min (yrs way least ps l i) (yT way least ps i p)
    | none => yrs way least ps l i
theorem yrs_succ {way : Nat} {least : Int} {ps : List Int} {l : List Pl} {i : Nat} {p : Pl} (h : l[i]? = some p) : yrs way least ps l (i + 1) = min (yrs way least ps l i) (yT way least ps i p) := by simp [yrs, h]
theorem yrs_in {way : Nat} {least : Int} {ps : List Int} {l : List Pl} (hl : ∀ p ∈ l, okP p = true) (hps : ∀ n ∈ ps, 0 ≤ n ∧ n ≤ 255) : ∀ i, i ≤ l.length → (lfI 1000 least l i).lo ≤ yrs way least ps l i ∧ yrs way least ps l i ≤ (lfI 1000 least l i).hi ∧ (way = 0 → yrs way least ps l i = (lfI 1000 least l i).lo) ∧ (way = 1 → yrs way least ps l i = (lfI 1000 least l i).hi)
  | 0, _ => ⟨Int.le_refl _, Int.le_refl _, fun _ => rfl, fun _ => rfl⟩
  | i + 1, hi => by
    have hx : ∃ p, l[i]? = some p := ⟨_, List.getElem?_eq_getElem (by omega)⟩
    obtain ⟨p, hx⟩ := hx
    obtain ⟨h1, h2, h3, h4⟩ := yrs_in (way := way) (least := least) hl hps i (by omega)
    obtain ⟨h5, h6⟩ := yT_in (way := way) (least := least) (i := i) (hl p (List.mem_of_getElem? hx)) hps
    rw [lfI_succ hx, yrs_succ hx]
    have hlo : (lfS least i (lfI 1000 least l i) p).lo = if loP least p < (lfI 1000 least l i).lo then loP least p else (lfI 1000 least l i).lo := rfl
    have hhi : (lfS least i (lfI 1000 least l i) p).hi = min (lfI 1000 least l i).hi (hiP least p) := rfl
    rw [hlo, hhi]
    refine ⟨by split <;> omega, by omega, fun hw => ?_, fun hw => ?_⟩
    · subst hw
      have : yT 0 least ps i p = loP least p := by simp [yT, tw, loP]
      have := h3 rfl
      split <;> omega
    · subst hw
      have : yT 1 least ps i p = hiP least p := by simp [yT, tw, hiP]
      have := h4 rfl
      omega
end Go.Pe
