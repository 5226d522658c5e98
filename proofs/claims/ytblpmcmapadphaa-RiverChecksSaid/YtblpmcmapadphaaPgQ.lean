/- What the reference of package river does with land and a sky: bounds, rounding, errors. -/
import Derived.Test.YtblpmcmapadphaaPgM
set_option linter.unusedVariables false
set_option linter.unusedSimpArgs false
namespace Go.Pe
open Go Go.Proofs Go.Proofs.Ytblpmcmapadphaa
attribute [local simp] ap_skip ap_region ap_seq ap_cond ap_block ap_loop ap_exit ap_ret ap_seq_normal ap_seq_ret ap_seq_exit ap_block_normal ap_block_ret ap_block_exit ap_block_other ap_nil ap_draw ap_dr_nil ap_fin_ret ap_fin_normal ap_loopK dstT_zero dstT_succ Nat.add_assoc onSome_some onSome_none ifB_true ifB_false ifB_not onClo_clo onBool_bool onBool_tup frz_val frz_ro takeAt elemTy LeN_refl LeN_push LeN_set push_get push_next set_get set_next nil_get nil_next pop_move pop_assign pop_pick pop_load pop_fieldAddr pop_indexAddr pop_field pop_binOp pop_unOp pop_convert pop_extract pop_makeFunc pop_nilCheck pop_build pop_slice pop_len pop_max pop_min eop_alloc eop_box eop_store eop_buildSlice eop_makeSlice eop_append as_move as_assign as_pick as_load as_fieldAddr as_indexAddr as_field as_binOp as_unOp as_convert as_extract as_makeFunc as_nilCheck as_build as_slice as_len as_max as_min as_alloc as_box as_store as_buildSlice as_makeSlice as_append as_call cons_free cons_guard putA_some putA_none aev_tmp aev_int aev_bool aev_nil aev_func pickA_and pickA_or pickA_true pickA_false nnA_ptr nnA_rop idxA_some intOf_int boxA_some bin_int binI_add binI_sub binI_mul binI_quo binI_rem binI_eql binI_neq binI_lss binI_leq binI_gtr binI_geq unA_not unA_neg loadA_ptr loadA_rop loadO_some asLoaded_agg asLoaded_one resA_one resA_two resOne_tmp resOne_cell cellsOf_int cellsOf_bool cellsOf_clo cellsOf_ptr cellsOf_ro cellsOf_sl cellsOf_nil cellsOf_agg one_int one_bool one_nil one_clo one_ptr one_ro one_sl one_rop mm_max mm_min elS_sl elS2_sl mkA_some chunk_zero chunk_succ zcells_zero zcells_succ clean_val clean_ro clean_rop clean1_val clean1_ro clean1_rop flat_val flat_ro flat_agg frz_agg frz_tup
attribute [local simp] t3 u3 t4 u4 t5 u5 t22 u22 t23 u23 t25 u25 t27 u27 t28 u28 t30 u30 t32 u32 t34 u34 t37 u37 t43 u43 t48 u48 t49 u49 t50 u50 t54 u54 t75 u75 t77 u77 t84 u84 t89 u89 t94 u94 t96 u96 t102 u102 t117 u117 t119 u119 t123 u123 t125 u125 t130 u130 t134 u134 t138 u138 t152 u152 t155 u155 t156 u156 t160 u160 t172 u172
attribute [local simp] lenA_ro indexA_ro fieldA fldA partA buildA fillA storeA buildSliceA
attribute [local simp] quietA effectful allocs fpo findNew_nil q_move q_assign q_pick q_load q_fieldAddr q_indexAddr q_field q_binOp q_unOp q_convert q_extract q_makeFunc q_nilCheck q_build q_slice q_len q_max q_min e_alloc e_box e_store e_buildSlice e_makeSlice e_append q_call e_call dr_free dr_guard qView_next eView_next hit_nil hit_cons qView_get optL_some optL_none eView_get fp_alloc fp_box fp_make fp_append fp_build fp_call fp_store mergeG_get LeN_nil new_store findNew_cons
attribute [local simp] one_get one_next ap_finw_ret ap_finw_normal
set_option maxRecDepth 20000

attribute [local simp] extA lenA appendA rowsA

theorem In_fn {a lo hi : Int} {h : H} : Fn Try.prog 36 [I a, I lo, I hi] h (B (decide (lo ≤ a) && decide (a ≤ hi))) h := by
  refine Fn.keep noM noC (by kernel_rfl) Try.func36 rfl rfl fun _ => ?_
  simp -dsimp -implicitDefEqProofs
  refine ifD_in (fun h => ?_) (fun h => ?_)
  · simp -dsimp -implicitDefEqProofs [h]
  · simp -dsimp -implicitDefEqProofs [h]
def rValid (b : Bd) (lo hi : Int) : Bool := (decide (lo ≤ b.lo) && decide (b.lo ≤ hi)) && (decide (b.lo ≤ b.hi) && decide (b.hi ≤ hi))
theorem Valid_fn {b : Bd} {lo hi : Int} {h : H} : Fn Try.prog 23 [b.av, I lo, I hi] h (B (rValid b lo hi)) h := by
  refine Fn.keep noM noC (by kernel_rfl) Try.func23 rfl rfl fun _ => ?_
  simp -dsimp -implicitDefEqProofs
  refine onCall_in In_fn ?_
  simp -dsimp -implicitDefEqProofs
  refine ifB_in (fun h => ?_) (fun h => ?_)
  · simp -dsimp -implicitDefEqProofs
    refine onCall_in In_fn ?_
    simp -dsimp -implicitDefEqProofs [rValid, h]
  · simp -dsimp -implicitDefEqProofs [rValid, h]
theorem rValid_eq {b : Bd} {lo hi : Int} : rValid b lo hi = validB b lo hi := by
  rw [Bool.eq_iff_iff]
  simp only [rValid, validB, Bool.and_eq_true, decide_eq_true_eq]
  omega
theorem tdiv10 (n : Int) : (0 ≤ n → n.tdiv 10 = n / 10) ∧ (n < 0 → n.tdiv 10 = -((-n) / 10)) := by
  refine ⟨fun h => Int.tdiv_eq_ediv_of_nonneg h, fun h => ?_⟩
  rw [show n = -(-n) by omega, Int.neg_tdiv, Int.tdiv_eq_ediv_of_nonneg (by omega)]
  omega
theorem Floor_fn {n : Int} (hn : n.natAbs ≤ 1000000000000000000) {h : H} : Fn Try.prog 74 [I n, I 10] h (I (n / 10)) h := by
  refine Fn.keep noM noC (by kernel_rfl) Try.func74 rfl rfl fun _ => ?_
  obtain ⟨q, hq⟩ : ∃ q, q = n.tdiv 10 := ⟨_, rfl⟩
  have e := tdiv10 n
  rw [← hq] at e
  have w0 := wrap_in (n := q) (by omega) (by omega)
  have w1 := wrap_in (n := q * 10) (by omega) (by omega)
  have w2 := wrap_in (n := q - 1) (by omega) (by omega)
  simp -dsimp -implicitDefEqProofs [← hq, w0, w1]
  refine ifD_in (fun h => ?_) (fun h => ?_) <;> simp -dsimp -implicitDefEqProofs [← hq, w0, w1, w2] <;> omega
theorem Ceil_fn {n : Int} (hn : n.natAbs ≤ 1000000000000000000) {h : H} : Fn Try.prog 75 [I n, I 10] h (I (-((-n) / 10))) h := by
  refine Fn.keep noM noC (by kernel_rfl) Try.func75 rfl rfl fun _ => ?_
  obtain ⟨q, hq⟩ : ∃ q, q = n.tdiv 10 := ⟨_, rfl⟩
  have e := tdiv10 n
  rw [← hq] at e
  have w0 := wrap_in (n := q) (by omega) (by omega)
  have w1 := wrap_in (n := q * 10) (by omega) (by omega)
  have w2 := wrap_in (n := q + 1) (by omega) (by omega)
  simp -dsimp -implicitDefEqProofs [← hq, w0, w1]
  refine ifD_in (fun h => ?_) (fun h => ?_) <;> simp -dsimp -implicitDefEqProofs [← hq, w0, w1, w2] <;> omega
/-- The reference's error of land and a sky. -/
def rCatch (c : Ct) (sky : List Sk) : Int := if validC c = false then 2 else if 400 < sky.length then 5 else if sky.all validS = false then 2 else 0
theorem rC_eq {c : Ct} : validC c = (((decide (0 ≤ c.area) && decide (c.area ≤ 10000)) && (decide (0 ≤ c.pc) && decide (c.pc ≤ 100))) && (decide (0 ≤ c.melt) && decide (c.melt ≤ 100)) && rValid c.snow 0 1000000) := by
  rw [rValid_eq]; rfl
set_option maxHeartbeats 4000000 in
theorem Catch_bad {c : Ct} {sky : List Sk} (h : validC c = false) : Fn Try.prog 26 [c.av, .ro false 4 (sky.map Sk.row)] .nil (I 2) .nil := by
  refine Fn.keep noM noC (by kernel_rfl) Try.func26 rfl (by kernel_rfl) fun _ => ?_
  rw [rC_eq] at h
  simp -dsimp -implicitDefEqProofs
  refine onCall_in In_fn ?_
  simp -dsimp -implicitDefEqProofs
  refine ifB_in (fun h1 => ?_) (fun h1 => ?_)
  · simp -dsimp -implicitDefEqProofs
    refine onCall_in In_fn ?_
    simp -dsimp -implicitDefEqProofs
    refine ifB_in (fun h2 => ?_) (fun h2 => ?_)
    · simp -dsimp -implicitDefEqProofs
      refine onCall_in In_fn ?_
      simp -dsimp -implicitDefEqProofs
      refine ifB_in (fun h3 => ?_) (fun h3 => ?_)
      · simp -dsimp -implicitDefEqProofs
        refine onCall_in (Valid_fn (b := c.snow)) ?_
        have h4 : rValid c.snow 0 1000000 = false := by
          cases hv : rValid c.snow 0 1000000
          · rfl
          · rw [h1, h2, h3, hv] at h; cases h
        simp -dsimp -implicitDefEqProofs [h4]
      · simp -dsimp -implicitDefEqProofs
    · simp -dsimp -implicitDefEqProofs
  · simp -dsimp -implicitDefEqProofs
set_option maxHeartbeats 4000000 in
theorem Catch_good {c : Ct} {sky : List Sk} (h : validC c = true) (hl : (sky.length : Int) < 2^62) : Fn Try.prog 26 [c.av, .ro false 4 (sky.map Sk.row)] .nil (I (rCatch c sky)) .nil := by
  refine Fn.keep noM noC (by kernel_rfl) Try.func26 rfl (by kernel_rfl) fun _ => ?_
  have hr : rCatch c sky = if 400 < sky.length then 5 else if sky.all validS = false then 2 else 0 := by simp only [rCatch, h]; rfl
  rw [rC_eq] at h
  simp only [Bool.and_eq_true, decide_eq_true_eq] at h
  have h1 : (decide (0 ≤ c.area) && decide (c.area ≤ 10000)) = true := by simp only [Bool.and_eq_true, decide_eq_true_eq]; omega
  have h2 : (decide (0 ≤ c.pc) && decide (c.pc ≤ 100)) = true := by simp only [Bool.and_eq_true, decide_eq_true_eq]; omega
  have h3 : (decide (0 ≤ c.melt) && decide (c.melt ≤ 100)) = true := by simp only [Bool.and_eq_true, decide_eq_true_eq]; omega
  have h4 : rValid c.snow 0 1000000 = true := h.2
  simp -dsimp -implicitDefEqProofs
  refine onCall_in In_fn ?_
  simp -dsimp -implicitDefEqProofs [h1]
  refine onCall_in In_fn ?_
  simp -dsimp -implicitDefEqProofs [h2]
  refine onCall_in In_fn ?_
  simp -dsimp -implicitDefEqProofs [h3]
  refine onCall_in (Valid_fn (b := c.snow)) ?_
  simp -dsimp -implicitDefEqProofs [h4]
  refine ifD_in (fun h5 => ?_) (fun h5 => ?_)
  · have h6 : rCatch c sky = 5 := by rw [hr, if_pos (by omega)]
    simp -dsimp -implicitDefEqProofs [h6]
  · simp -dsimp -implicitDefEqProofs
    refine LoopC.on (σ := Nat) (fun i j => [c.av, .ro false 4 (sky.map Sk.row), .ptr 0 0, j 3, j 4, I (i : Nat), j 6, j 7, j 8, j 9, j 10, j 11, j 12, j 13, j 14, j 15, j 16, j 17, j 18, j 19, j 20, j 21, j 22, j 23, j 24, j 25, j 26, j 27, j 28, j 29, j 30, j 31, j 32, j 33, j 34, j 35, j 36, j 37, j 38, j 39, j 40, j 41, j 42, j 43, j 44, j 45, j 46, j 47, j 48, j 49, j 50, j 51, j 52])
      (fun i k => i ≤ sky.length ∧ (∃ m, k.next = m + 1) ∧ (sky.take i).all validS = true) (fun i => sky.length - i) 0 ⟨by omega, ⟨0, rfl⟩, by simp⟩ (by kernel_rfl) ?_
    rintro i j k ⟨hi, ⟨m, hm⟩, ha⟩
    simp -dsimp -implicitDefEqProofs
    refine ifD_in (fun hlt => ?_) (fun hge => ?_)
    · have hlt' : i < sky.length := by omega
      have hx := List.getElem?_eq_getElem hlt'
      have hst : sky.take (i + 1) = sky.take i ++ [sky[i]] := by rw [List.take_add_one, hx]; rfl
      have hbad : validS sky[i] = false → rCatch c sky = 2 := fun hv => by
        rw [hr, if_neg (by omega), if_pos]
        cases hall : sky.all validS
        · rfl
        · exact absurd ((List.all_eq_true.1 hall) _ (List.getElem_mem hlt')) (by simp [hv])
      have hvs : validS sky[i] = (rValid sky[i].rain 0 20000 && rValid sky[i].heat (-500) 500) := by rw [rValid_eq, rValid_eq]; rfl
      simp -dsimp -implicitDefEqProofs [hx, hm]
      refine onCall_in (Valid_fn (b := sky[i].rain)) ?_
      simp -dsimp -implicitDefEqProofs [hx, hm]
      refine ifB_in (fun g1 => ?_) (fun g1 => ?_)
      · simp -dsimp -implicitDefEqProofs [hx, hm]
        refine onCall_in (Valid_fn (b := sky[i].heat)) ?_
        simp -dsimp -implicitDefEqProofs [hx, hm]
        refine ifB_in (fun g2 => ?_) (fun g2 => ?_)
        · simp -dsimp -implicitDefEqProofs [hx, hm]
          refine ⟨i + 1, ⟨by omega, ?_⟩, ?_, by omega⟩
          · rw [hst]
            intro y hy
            rcases List.mem_append.1 hy with hy | hy
            · exact (List.all_eq_true.1 ha) _ hy
            · rw [List.mem_singleton] at hy
              rw [hy, hvs, g1, g2]; rfl
          · rw [wrap_in (by omega) (by omega)]; omega
        · have h6 := hbad (by rw [hvs, g1, g2]; rfl)
          simp -dsimp -implicitDefEqProofs [h6]
      · have h6 := hbad (by rw [hvs, g1]; rfl)
        simp -dsimp -implicitDefEqProofs [h6]
    · have hin : i = sky.length := by omega
      rw [hin, List.take_length] at ha
      have h6 : rCatch c sky = 0 := by rw [hr, if_neg (by omega), if_neg (by simp [ha])]
      simp -dsimp -implicitDefEqProofs [h6]
theorem neqB2 {a b : Int} {k : TK} {s : Nat} {z : List Value} {a' f : Bool} {by' : Nat} : binX Try.prog 27 { kind := k, size := s, zero := z, agg := a', bytes := by', fok := f, cmp := true } .neq (.agg [I a, I b]) (.agg [I a, I b]) = some (B false) := by
  simp [binX, eqV, eqFs, partA, ti27, ti3]
/-- Equal lists are the same. -/
theorem same_fn {l : List Bd} (hl : (l.length : Int) < 2^62) : Fn Try.prog 27 [.ro false 2 (l.map fun b => [I b.lo, I b.hi]), .ro false 2 (l.map fun b => [I b.lo, I b.hi])] .nil (B true) .nil := by
  refine Fn.keep noM noC (by kernel_rfl) Try.func27 rfl (by kernel_rfl) fun _ => ?_
  have n0 : ((l.length : Int) != l.length) = false := by simp
  simp -dsimp -implicitDefEqProofs [n0]
  refine LoopC.on (σ := Nat) (fun i j => [.ro false 2 (l.map fun b => [I b.lo, I b.hi]), .ro false 2 (l.map fun b => [I b.lo, I b.hi]), j 2, j 3, j 4, I (i : Nat), j 6, j 7, j 8, j 9, j 10, j 11, j 12, j 13, j 14, j 15, j 16, j 17, j 18, j 19, j 20, j 21, j 22, j 23, j 24, j 25])
    (fun i k => i ≤ l.length) (fun i => l.length - i) 0 (by omega) (by kernel_rfl) ?_
  rintro i j k hi
  simp -dsimp -implicitDefEqProofs
  refine ifD_in (fun hlt => ?_) (fun hge => ?_)
  · have hlt' : i < l.length := by omega
    have hx := List.getElem?_eq_getElem hlt'
    simp -dsimp -implicitDefEqProofs [hx, neqB2, noC]
    refine ⟨i + 1, by omega, ?_, by omega⟩
    rw [wrap_in (by omega) (by omega)]; omega
  · simp -dsimp -implicitDefEqProofs
end Go.Pe
