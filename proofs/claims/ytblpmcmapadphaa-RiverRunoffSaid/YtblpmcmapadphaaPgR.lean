/- The melts of the reference: a list that grows. -/
import Derived.Test.YtblpmcmapadphaaPgQ
set_option linter.unusedVariables false
set_option linter.unusedSimpArgs false
namespace Go.Pe
open Go Go.Proofs Go.Proofs.Ytblpmcmapadphaa
attribute [local simp] ap_skip ap_region ap_seq ap_cond ap_block ap_loop ap_exit ap_ret ap_seq_normal ap_seq_ret ap_seq_exit ap_block_normal ap_block_ret ap_block_exit ap_block_other ap_nil ap_draw ap_dr_nil ap_fin_ret ap_fin_normal ap_loopK dstT_zero dstT_succ Nat.add_assoc onSome_some onSome_none ifB_true ifB_false ifB_not onClo_clo onBool_bool onBool_tup frz_val frz_ro takeAt elemTy LeN_refl LeN_push LeN_set push_get push_next set_get set_next nil_get nil_next pop_move pop_assign pop_pick pop_load pop_fieldAddr pop_indexAddr pop_field pop_binOp pop_unOp pop_convert pop_extract pop_makeFunc pop_nilCheck pop_build pop_slice pop_len pop_max pop_min eop_alloc eop_box eop_store eop_buildSlice eop_makeSlice eop_append as_move as_assign as_pick as_load as_fieldAddr as_indexAddr as_field as_binOp as_unOp as_convert as_extract as_makeFunc as_nilCheck as_build as_slice as_len as_max as_min as_alloc as_box as_store as_buildSlice as_makeSlice as_append as_call cons_free cons_guard putA_some putA_none aev_tmp aev_int aev_bool aev_nil aev_func pickA_and pickA_or pickA_true pickA_false nnA_ptr nnA_rop idxA_some intOf_int boxA_some bin_int binI_add binI_sub binI_mul binI_quo binI_rem binI_eql binI_neq binI_lss binI_leq binI_gtr binI_geq unA_not unA_neg loadA_ptr loadA_rop loadO_some asLoaded_agg asLoaded_one resA_one resA_two resOne_tmp resOne_cell cellsOf_int cellsOf_bool cellsOf_clo cellsOf_ptr cellsOf_ro cellsOf_sl cellsOf_nil cellsOf_agg one_int one_bool one_nil one_clo one_ptr one_ro one_sl one_rop mm_max mm_min elS_sl elS2_sl mkA_some chunk_zero chunk_succ zcells_zero zcells_succ clean_val clean_ro clean_rop clean1_val clean1_ro clean1_rop flat_val flat_ro flat_agg frz_agg frz_tup
attribute [local simp] t3 u3 t4 u4 t5 u5 t22 u22 t23 u23 t25 u25 t27 u27 t28 u28 t30 u30 t32 u32 t34 u34 t37 u37 t43 u43 t48 u48 t49 u49 t50 u50 t54 u54 t75 u75 t77 u77 t84 u84 t89 u89 t94 u94 t96 u96 t102 u102 t117 u117 t119 u119 t123 u123 t125 u125 t130 u130 t134 u134 t138 u138 t152 u152 t155 u155 t156 u156 t160 u160 t172 u172
attribute [local simp] lenA_ro indexA_ro fieldA fldA partA buildA fillA storeA buildSliceA
attribute [local simp] quietA effectful allocs fpo findNew_nil q_move q_assign q_pick q_load q_fieldAddr q_indexAddr q_field q_binOp q_unOp q_convert q_extract q_makeFunc q_nilCheck q_build q_slice q_len q_max q_min e_alloc e_box e_store e_buildSlice e_makeSlice e_append q_call e_call dr_free dr_guard qView_next eView_next hit_nil hit_cons qView_get optL_some optL_none eView_get fp_alloc fp_box fp_make fp_append fp_build fp_call fp_store mergeG_get LeN_nil new_store findNew_cons
attribute [local simp] one_get one_next ap_finw_ret ap_finw_normal
set_option maxRecDepth 20000

attribute [local simp] extA lenA appendA rowsA ownM_eq

def meltsL (rate : Int) : Int → List Int → List Int
  | _, [] => []
  | s, h :: t => min s (max 0 h * rate) :: meltsL rate (s - min s (max 0 h * rate)) t
def snowL (rate s : Int) (l : List Int) : Int := l.foldl (fun s h => s - min s (max 0 h * rate)) s
theorem meltsL_snoc {rate : Int} : ∀ {l : List Int} {s x : Int}, meltsL rate s (l ++ [x]) = meltsL rate s l ++ [min (snowL rate s l) (max 0 x * rate)]
  | [], s, x => rfl
  | y :: l, s, x => by simp only [List.cons_append, meltsL, meltsL_snoc]; rfl
theorem snowL_snoc {rate : Int} {l : List Int} {s x : Int} : snowL rate s (l ++ [x]) = snowL rate s l - min (snowL rate s l) (max 0 x * rate) := by simp [snowL, List.foldl_append]
theorem meltsL_len {rate : Int} : ∀ {l : List Int} {s : Int}, (meltsL rate s l).length = l.length
  | [], s => rfl
  | y :: l, s => by simp [meltsL, meltsL_len]
theorem snowL_in {rate : Int} (hr : 0 ≤ rate) : ∀ (l : List Int) {s : Int}, 0 ≤ s → 0 ≤ snowL rate s l ∧ snowL rate s l ≤ s
  | [], s, h => ⟨h, Int.le_refl _⟩
  | y :: l, s, h => by
      have h1 : 0 ≤ max 0 y * rate := Int.mul_nonneg (by omega) hr
      have h2 := snowL_in hr l (s := s - min s (max 0 y * rate)) (by omega)
      show 0 ≤ snowL rate (s - min s (max 0 y * rate)) l ∧ snowL rate (s - min s (max 0 y * rate)) l ≤ s
      omega
noncomputable abbrev ints (l : List Int) : List AV := l.map fun n => I n
theorem take1_drop {α : Type} {l : List α} {i : Nat} (h : i < l.length) : (l.drop i).take 1 = [l[i]] := by
  rw [List.drop_eq_getElem_cons h]; rfl
theorem chunk_ints {l : List Int} : chunk 1 l.length (ints l) = l.map fun n => [I n] := by
  apply List.ext_getElem?
  intro i
  simp only [chunk, List.getElem?_map, Nat.mul_one]
  by_cases hi : i < l.length
  · rw [List.getElem?_eq_getElem (by simpa using hi), List.getElem?_eq_getElem hi]
    simp only [Option.map_some, List.getElem_range]
    rw [take1_drop (by simpa using hi)]; simp
  · rw [List.getElem?_eq_none (by simpa using hi), List.getElem?_eq_none (by omega)]; rfl
theorem frz_ints {h : H} {b n N : Nat} {l : List Int} (hb : h.get b = some (ints l)) (hn : l.length = n) (hN : ¬ b < N) : frz 2 h N (.sl b 0 n 1) = some (.ro false 1 (l.map fun n => [I n])) := by
  have ht : takeAt (ints l) 0 (n * 1) = some (ints l) := by
    unfold takeAt
    rw [if_pos (by simp; omega), List.drop_zero, List.take_of_length_le (by simp; omega)]
  rw [frz, if_neg hN, hb]
  simp only [ht, on_frzl (show (ints l).all clean1 = true by simp [clean1])]
  rw [if_pos (by simp only [List.all_eq_true, List.mem_map]; rintro y ⟨n, _, rfl⟩; rfl), ← hn, chunk_ints]
set_option maxHeartbeats 4000000 in
theorem Melts_fn {rate s0 : Int} {hs : List Int} (h1 : 0 ≤ rate ∧ rate ≤ 100) (h2 : 0 ≤ s0 ∧ s0 ≤ 1000000) (h3 : ∀ x ∈ hs, -500 ≤ x ∧ x ≤ 500) (hl : hs.length ≤ 400) (hl0 : 0 < hs.length) :
    Fn Try.prog 73 [I rate, I s0, .sl 0 0 hs.length 1] (.one (ints hs)) (.ro false 1 ((meltsL rate s0 hs).map fun n => [I n])) (.one (ints hs)) := by
  refine Fn.write ownM noC (by kernel_rfl) Try.func73 rfl (by kernel_rfl) (by simp [clean1]) ?_
  simp -dsimp -implicitDefEqProofs
  refine LoopC.on (σ := Nat × Nat) (fun i j => [I rate, I (snowL rate s0 (hs.take i.1)), .sl 0 0 hs.length 1, j 3, j 4, j 5, j 6, (if i.1 = 0 then .ro true 1 [] else .sl i.2 0 i.1 1), I (i.1 : Nat), j 9, j 10, j 11, j 12, j 13, j 14, j 15, j 16, j 17, j 18, j 19, j 20, j 21, j 22, j 23, j 24, j 25, j 26, j 27, j 28, j 29, j 30, j 31, j 32, j 33])
    (fun i k => i.1 ≤ hs.length ∧ (∃ m, k.next = m + 1) ∧ k.get 0 = some (ints hs) ∧ (i.1 ≠ 0 → i.2 ≠ 0 ∧ i.2 < k.next ∧ k.get i.2 = some (ints (meltsL rate s0 (hs.take i.1))))) (fun i => hs.length - i.1) (0, 0) ⟨by omega, ⟨0, rfl⟩, rfl, fun h => absurd rfl h⟩ (by kernel_rfl) ?_
  rintro ⟨i, b⟩ j k ⟨hi, ⟨m, hm⟩, hk0, hkb⟩
  simp only [] at hi hkb
  simp -dsimp -implicitDefEqProofs
  refine ifD_in (fun hlt => ?_) (fun hge => ?_)
  · have hlt' : i < hs.length := by omega
    have hx := List.getElem?_eq_getElem hlt'
    have hst : hs.take (i + 1) = hs.take i ++ [hs[i]] := by rw [List.take_add_one, hx]; rfl
    simp -dsimp -implicitDefEqProofs
    rw [indexA_sl rfl hlt']
    have hxin := h3 _ (List.getElem_mem hlt')
    obtain ⟨x, hxe⟩ : ∃ x, x = hs[i] := ⟨_, rfl⟩
    rw [← hxe] at hxin hst hx
    have hload : List.take 1 (List.drop i (ints hs)) = [I x] := by
      rw [take1_drop (by simpa using hlt')]; simp [hxe]
    have hif : i + 1 ≤ hs.length := by omega
    have sin := snowL_in h1.1 (hs.take i) h2.1
    have pm := mul_in (a := max 0 x) (b := rate) (m := 500) (n := 100) (by omega) (by omega)
    have hm0 : 0 ≤ max 0 x * rate := Int.mul_nonneg (by omega) h1.1
    have ml := meltsL_snoc (rate := rate) (l := hs.take i) (s := s0) (x := x)
    have sl := snowL_snoc (rate := rate) (l := hs.take i) (s := s0) (x := x)
    rw [← hst] at ml sl
    obtain ⟨sn, hsn⟩ : ∃ sn, sn = snowL rate s0 (hs.take i) := ⟨_, rfl⟩
    rw [← hsn] at ml sl sin ⊢
    have w1 := wrap_in (n := max 0 x * rate) (by omega) (by omega)
    have w2 := wrap_in (n := sn - min sn (max 0 x * rate)) (by omega) (by omega)
    simp -dsimp -implicitDefEqProofs [hm, hk0, hload, hif, w1, w2]
    by_cases h0 : i = 0
    · have e7 : (if i = 0 then AV.ro true 1 [] else AV.sl b 0 i 1) = AV.ro true 1 [] := if_pos h0
      simp -dsimp -implicitDefEqProofs [hm, hk0, e7, appendA, rowsA, w2]
      refine ⟨i + 1, m + 1, ⟨by omega, fun _ => ⟨by omega, by omega, ?_⟩⟩, ⟨sl.symm, ?_, ?_⟩, by omega⟩
      · rw [if_pos rfl, ml, h0]; rfl
      · rw [if_neg (by omega), h0]
      · rw [wrap_in (by omega) (by omega)]; omega
    · have e7 : (if i = 0 then AV.ro true 1 [] else AV.sl b 0 i 1) = AV.sl b 0 i 1 := if_neg h0
      obtain ⟨hb0, hbn, hkb⟩ := hkb h0
      simp -dsimp -implicitDefEqProofs [hm, hk0, hkb, e7, appendA, rowsA, w2]
      rw [if_pos ⟨by rw [meltsL_len, List.length_take]; omega, by omega, by omega⟩]
      simp -dsimp -implicitDefEqProofs [hm, hk0, hkb, w2]
      have hb0' : ¬ 0 = b := fun e => hb0 e.symm
      simp -dsimp -implicitDefEqProofs [hb0']
      refine ⟨i + 1, m + 1, ⟨by omega, fun _ => ⟨by omega, by omega, ?_⟩⟩, ⟨sl.symm, ?_, ?_⟩, by omega⟩
      · rw [if_pos rfl, ml]; simp
      · rw [if_neg (by omega)]
      · rw [wrap_in (by omega) (by omega)]; omega
  · simp -dsimp -implicitDefEqProofs [hm, hk0]
    have hin : i = hs.length := by omega
    obtain ⟨hb0, hbn, hkb⟩ := hkb (by omega)
    rw [if_neg (by omega)]
    rw [hin, List.take_length] at hkb
    exact ⟨2, by rw [hin]; exact frz_ints hkb meltsL_len (by omega)⟩
end Go.Pe
