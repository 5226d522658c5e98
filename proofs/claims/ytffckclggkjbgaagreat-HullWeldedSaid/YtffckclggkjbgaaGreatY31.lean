import Derived.Test.YtffckclggkjbgaaGreatY30
import Derived.Test.YtffckclggkjbgaaGreatY29
set_option linter.unusedVariables false
set_option linter.unusedSimpArgs false
/- The arithmetic of the law RiverMelts. -/
namespace Go.Pe
open Go Go.Proofs Go.Proofs.YtffckclggkjbgaaGreat
def Ct.bare (c : Ct) : Ct := { c with snow := ⟨0, 0⟩ }
def Ct.more (c : Ct) (n : Int) : Ct := { c with area := min 10000 (c.area + n), snow := ⟨c.snow.lo, min 1000000 (c.snow.hi + n)⟩ }
theorem valid_bare {c : Ct} (h : validC c = true) : validC c.bare = true := by
  simp only [validC, validB, Bool.and_eq_true, decide_eq_true_eq] at h
  obtain ⟨a, p, m, ⟨l, u⟩⟩ := c
  simp only [validC, validB, Ct.bare, Bool.and_eq_true, decide_eq_true_eq] at h ⊢
  repeat' apply And.intro
  all_goals exact decide_eq_true (by omega)
theorem valid_more {c : Ct} {n : Int} (h : validC c = true) (h0 : 0 ≤ n) : validC (c.more n) = true := by
  obtain ⟨a, p, m, ⟨l, u⟩⟩ := c
  simp only [validC, validB, Ct.more, Bool.and_eq_true, decide_eq_true_eq] at h ⊢
  repeat' apply And.intro
  all_goals exact decide_eq_true (by omega)
theorem pick_in {b : Bd} {y : Int} (h : b.lo ≤ b.hi) (h0 : 0 ≤ y) (h1 : y ≤ 255) : b.lo ≤ pickZ b y ∧ pickZ b y ≤ b.hi := by
  have h2 : 0 ≤ (b.hi - b.lo) * y := Int.mul_nonneg (by omega) h0
  have h3 : (b.hi - b.lo) * y ≤ (b.hi - b.lo) * 255 := Int.mul_le_mul_of_nonneg_left h1 (by omega)
  unfold pickZ
  rw [Int.tdiv_eq_ediv_of_nonneg h2]
  omega
theorem partZ_in {l : List Int} {i : Nat} (h : ∀ n ∈ l, 0 ≤ n ∧ n ≤ 255) : 0 ≤ partZ l i ∧ partZ l i ≤ 255 := by
  unfold partZ
  split
  · omega
  · rename_i h1
    have h2 : i % l.length < l.length := Nat.mod_lt _ (by omega)
    rw [List.getD_eq_getElem?_getD, List.getElem?_eq_getElem h2]
    exact h _ (List.getElem_mem h2)
theorem runs_get {c : Ct} : ∀ {l : List Sk} {s : Bd} {i : Nat} (hi : i < l.length), (runs c s l)[i]? = some (drain c (total [l[i].rain, melts (snowAt c s (l.take i)) (warm c l[i])]))
  | [], _, _, hi => absurd hi (by simp)
  | y :: l, s, 0, _ => by simp [runs, snowAt]
  | y :: l, s, i + 1, hi => by
      have := runs_get (c := c) (l := l) (s := left s (warm c y)) (i := i) (by simpa using hi)
      simpa [runs, snowAt] using this
theorem drain_lo {c : Ct} (h1 : 0 ≤ c.area) (h2 : 0 ≤ c.pc) {w : Bd} {n : Int} (h : w.lo ≤ n) : 10 * (drain c w).lo ≤ c.area * n * c.pc := by
  have h3 : c.area * c.pc * w.lo ≤ c.area * c.pc * n := Int.mul_le_mul_of_nonneg_left h (Int.mul_nonneg h1 h2)
  rw [Int.mul_right_comm]
  simp only [drain]
  omega
theorem drain_hi {c : Ct} (h1 : 0 ≤ c.area) (h2 : 0 ≤ c.pc) {w : Bd} {n : Int} (h : n ≤ w.hi) : c.area * n * c.pc ≤ 10 * (drain c w).hi := by
  have h3 : c.area * c.pc * n ≤ c.area * c.pc * w.hi := Int.mul_le_mul_of_nonneg_left h (Int.mul_nonneg h1 h2)
  rw [Int.mul_right_comm]
  simp only [drain]
  omega
theorem drain_lo_mono {c : Ct} (h1 : 0 ≤ c.area) (h2 : 0 ≤ c.pc) {w v : Bd} (h : w.lo ≤ v.lo) : (drain c w).lo ≤ (drain c v).lo := by
  have h3 : c.area * c.pc * w.lo ≤ c.area * c.pc * v.lo := Int.mul_le_mul_of_nonneg_left h (Int.mul_nonneg h1 h2)
  simp only [drain]
  omega
theorem drain_hi_mono {c d : Ct} (h1 : 0 ≤ c.area) (h2 : 0 ≤ c.pc) (h3 : c.area ≤ d.area) (h4 : c.pc = d.pc) {w v : Bd} (h : w.hi ≤ v.hi) (h0 : 0 ≤ w.hi) : (drain c w).hi ≤ (drain d v).hi := by
  have e1 : c.area * c.pc * w.hi ≤ c.area * c.pc * v.hi := Int.mul_le_mul_of_nonneg_left h (Int.mul_nonneg h1 h2)
  have e2 : c.area * c.pc ≤ d.area * d.pc := by rw [← h4]; exact Int.mul_le_mul_of_nonneg_right h3 h2
  have e3 : c.area * c.pc * v.hi ≤ d.area * d.pc * v.hi := Int.mul_le_mul_of_nonneg_right e2 (by omega)
  simp only [drain]
  omega
theorem drain_nonneg {c : Ct} (h1 : 0 ≤ c.area) (h2 : 0 ≤ c.pc) {w : Bd} (h : 0 ≤ w.lo) : 0 ≤ (drain c w).lo := by
  have h3 : 0 ≤ c.area * c.pc * w.lo := Int.mul_nonneg (Int.mul_nonneg h1 h2) h
  simp only [drain]
  omega
theorem snow_zero {c : Ct} : ∀ (l : List Sk), (∀ y ∈ l, 0 ≤ (warm c y).lo ∧ 0 ≤ (warm c y).hi) → snowAt c ⟨0, 0⟩ l = ⟨0, 0⟩
  | [], _ => rfl
  | y :: l, h => by
      have h1 := h y (by simp)
      have h2 : left ⟨0, 0⟩ (warm c y) = ⟨0, 0⟩ := by
        simp only [left, Bd.mk.injEq]
        omega
      have h3 := snow_zero l (fun z hz => h z (by simp [hz]))
      simp only [snowAt, List.foldl_cons] at h3 ⊢
      rw [h2]; exact h3
theorem snow_more {c d : Ct} (hm : c.melt = d.melt) : ∀ (l : List Sk) (s t : Bd), s.hi ≤ t.hi → (snowAt c s l).hi ≤ (snowAt d t l).hi
  | [], _, _, h => h
  | y :: l, s, t, h => by
      refine snow_more hm l (left s (warm c y)) (left t (warm d y)) ?_
      have : (warm c y).lo = (warm d y).lo := by simp only [warm, hm]
      simp only [left]
      omega
theorem total_lo {a b : Bd} : (total [a, b]).lo = a.lo + b.lo := by simp only [total, List.foldl_cons, List.foldl_nil]; omega
theorem total_hi {a b : Bd} : (total [a, b]).hi = a.hi + b.hi := by simp only [total, List.foldl_cons, List.foldl_nil]; omega
theorem warm_nonneg {c : Ct} (h : 0 ≤ c.melt) (y : Sk) : 0 ≤ (warm c y).lo ∧ 0 ≤ (warm c y).hi := by
  refine ⟨Int.mul_nonneg h ?_, Int.mul_nonneg h ?_⟩ <;> omega
theorem drain_big {c : Ct} (h1 : 0 ≤ c.area) (h2 : 0 ≤ c.pc) (h3 : c.area ≤ 10000) (h4 : c.pc ≤ 100) {w : Bd} (h : w.hi.natAbs ≤ 2000000) : (drain c w).hi.natAbs ≤ 10000000000000 := by
  have e1 := mul_in (a := c.area) (b := c.pc) (m := 10000) (n := 100) (by omega) (by omega)
  have e2 := mul_in (a := c.area * c.pc) (b := w.hi) (m := 10000 * 100) (n := 2000000) e1 h
  simp only [drain]
  omega
theorem melt_round {c : Ct} {y : Sk} {S : Bd} {H W sn : Int} (hC : ((0 ≤ c.area ∧ c.area ≤ 10000) ∧ 0 ≤ c.pc ∧ c.pc ≤ 100) ∧ 0 ≤ c.melt ∧ c.melt ≤ 100) (hr : 0 ≤ y.rain.lo ∧ y.rain.hi ≤ 20000) (hh : -500 ≤ y.heat.lo ∧ y.heat.hi ≤ 500) (hH : y.heat.lo ≤ H ∧ H ≤ y.heat.hi) (hW : y.rain.lo ≤ W ∧ W ≤ y.rain.hi) (hs : S.lo ≤ sn ∧ sn ≤ S.hi) (hS : 0 ≤ S.lo ∧ S.hi ≤ 1000000) :
    (0 ≤ max 0 H * c.melt ∧ max 0 H * c.melt ≤ 50000) ∧ (c.area * (W + min sn (max 0 H * c.melt))).natAbs ≤ 100000000000 ∧ (c.area * (W + min sn (max 0 H * c.melt)) * c.pc).natAbs ≤ 10000000000000 ∧
    10 * (drain c (total [y.rain, melts S (warm c y)])).lo ≤ c.area * (W + min sn (max 0 H * c.melt)) * c.pc ∧ c.area * (W + min sn (max 0 H * c.melt)) * c.pc ≤ 10 * (drain c (total [y.rain, melts S (warm c y)])).hi ∧
    0 ≤ (drain c (total [y.rain, melts S (warm c y)])).lo ∧ (drain c (total [y.rain, melts S (warm c y)])).hi.natAbs ≤ 10000000000000 ∧
    (left S (warm c y)).lo ≤ sn - min sn (max 0 H * c.melt) ∧ sn - min sn (max 0 H * c.melt) ≤ (left S (warm c y)).hi := by
  obtain ⟨⟨⟨a1, a2⟩, p1, p2⟩, m1, m2⟩ := hC
  have k1 : c.melt * max 0 y.heat.lo ≤ c.melt * max 0 H := Int.mul_le_mul_of_nonneg_left (by omega) m1
  have k2 : c.melt * max 0 H ≤ c.melt * max 0 y.heat.hi := Int.mul_le_mul_of_nonneg_left (by omega) m1
  have k3 := warm_nonneg (c := c) m1 y
  have k4 := mul_in (a := c.melt) (b := max 0 H) (m := 100) (n := 500) (by omega) (by omega)
  have k5 := mul_in (a := c.melt) (b := max 0 y.heat.hi) (m := 100) (n := 500) (by omega) (by omega)
  rw [Int.mul_comm (max 0 H)]
  have wl : (warm c y).lo = c.melt * max 0 y.heat.lo := rfl
  have wh : (warm c y).hi = c.melt * max 0 y.heat.hi := rfl
  obtain ⟨M, hM⟩ : ∃ M, M = c.melt * max 0 H := ⟨_, rfl⟩
  rw [← hM] at k1 k2 k4 ⊢
  obtain ⟨D, hD⟩ : ∃ D, D = min sn M := ⟨_, rfl⟩
  rw [← hD]
  have t1 : (total [y.rain, melts S (warm c y)]).lo ≤ W + D := by rw [total_lo]; simp only [melts]; omega
  have t2 : W + D ≤ (total [y.rain, melts S (warm c y)]).hi := by rw [total_hi]; simp only [melts]; omega
  have t3 : 0 ≤ (total [y.rain, melts S (warm c y)]).lo := by rw [total_lo]; simp only [melts]; omega
  have t4 : (total [y.rain, melts S (warm c y)]).hi.natAbs ≤ 2000000 := by rw [total_hi]; simp only [melts]; omega
  have b1 := mul_in (a := c.area) (b := W + D) (m := 10000) (n := 2000000) (by omega) (by omega)
  have b2 := mul_in (a := c.area * (W + D)) (b := c.pc) (m := 10000 * 2000000) (n := 100) b1 (by omega)
  refine ⟨⟨by omega, by omega⟩, by omega, by omega, drain_lo a1 p1 t1, drain_hi a1 p1 t2, drain_nonneg a1 p1 t3, drain_big a1 p1 a2 p2 t4, ?_, ?_⟩ <;> simp only [left] <;> omega
theorem melt_bare {c : Ct} {y : Sk} {S : Bd} {l : List Sk} (hC : ((0 ≤ c.area ∧ c.area ≤ 10000) ∧ 0 ≤ c.pc ∧ c.pc ≤ 100) ∧ 0 ≤ c.melt ∧ c.melt ≤ 100) (hr : 0 ≤ y.rain.lo ∧ y.rain.lo ≤ y.rain.hi) (hS : 0 ≤ S.lo ∧ 0 ≤ S.hi) :
    (drain c.bare (total [y.rain, melts (snowAt c.bare c.bare.snow l) (warm c.bare y)])).lo ≤ (drain c (total [y.rain, melts S (warm c y)])).lo ∧ (drain c.bare (total [y.rain, melts (snowAt c.bare c.bare.snow l) (warm c.bare y)])).hi ≤ (drain c (total [y.rain, melts S (warm c y)])).hi ∧
    (y.heat.hi ≤ 0 → y.heat.lo ≤ y.heat.hi → drain c.bare (total [y.rain, melts (snowAt c.bare c.bare.snow l) (warm c.bare y)]) = drain c (total [y.rain, melts S (warm c y)])) := by
  obtain ⟨⟨⟨a1, a2⟩, p1, p2⟩, m1, m2⟩ := hC
  have e0 : snowAt c.bare c.bare.snow l = ⟨0, 0⟩ := snow_zero l fun z _ => warm_nonneg (c := c.bare) m1 z
  have e1 := warm_nonneg (c := c.bare) m1 y
  have e2 := warm_nonneg (c := c) m1 y
  have e3 : warm c.bare y = warm c y := rfl
  rw [e0, e3]
  have e4 : melts ⟨0, 0⟩ (warm c y) = ⟨0, 0⟩ := by simp only [melts, Bd.mk.injEq]; omega
  rw [e4]
  refine ⟨drain_lo_mono (c := c) a1 p1 ?_, drain_hi_mono (c := c) (d := c) a1 p1 (Int.le_refl _) rfl ?_ ?_, fun h h' => ?_⟩
  · rw [total_lo, total_lo]; simp only [melts]; omega
  · rw [total_hi, total_hi]; simp only [melts]; omega
  · rw [total_hi]; show 0 ≤ y.rain.hi + 0; omega
  · have e5 : melts S (warm c y) = ⟨0, 0⟩ := by
      have : (warm c y).lo = 0 := by simp only [warm]; rw [show max 0 y.heat.lo = 0 by omega, Int.mul_zero]
      have : (warm c y).hi = 0 := by simp only [warm]; rw [show max 0 y.heat.hi = 0 by omega, Int.mul_zero]
      simp only [melts, Bd.mk.injEq]; omega
    rw [e5]; rfl
theorem melt_more {c : Ct} {y : Sk} {n : Int} {l : List Sk} (hC : ((0 ≤ c.area ∧ c.area ≤ 10000) ∧ 0 ≤ c.pc ∧ c.pc ≤ 100) ∧ 0 ≤ c.melt ∧ c.melt ≤ 100) (hn : 0 ≤ n) (hs : c.snow.hi ≤ 1000000) (hr : 0 ≤ y.rain.hi) (h0 : 0 ≤ (snowAt c c.snow l).hi) :
    (drain c (total [y.rain, melts (snowAt c c.snow l) (warm c y)])).hi ≤ (drain (c.more n) (total [y.rain, melts (snowAt (c.more n) (c.more n).snow l) (warm (c.more n) y)])).hi := by
  obtain ⟨⟨⟨a1, a2⟩, p1, p2⟩, m1, m2⟩ := hC
  have e1 := snow_more (c := c) (d := c.more n) rfl l c.snow (c.more n).snow (by show c.snow.hi ≤ min 1000000 (c.snow.hi + n); omega)
  have e2 := warm_nonneg (c := c) m1 y
  refine drain_hi_mono (c := c) (d := c.more n) a1 p1 (by show c.area ≤ min 10000 (c.area + n); omega) rfl ?_ ?_
  · rw [total_hi, total_hi]; simp only [melts]; have : (warm (c.more n) y).hi = (warm c y).hi := rfl; omega
  · rw [total_hi]; simp only [melts]; omega
end Go.Pe

/- What the reference of package river does with land and a sky: bounds, rounding, errors. -/
namespace Go.Pe
open Go Go.Proofs Go.Proofs.YtffckclggkjbgaaGreat
attribute [local simp] ap_skip ap_region ap_seq ap_cond ap_block ap_loop ap_exit ap_ret ap_seq_normal ap_seq_ret ap_seq_exit ap_block_normal ap_block_ret ap_block_exit ap_block_other ap_nil ap_draw ap_dr_nil ap_fin_ret ap_fin_normal ap_loopK dstT_zero dstT_succ Nat.add_assoc onSome_some onSome_none ifB_true ifB_false ifB_not onClo_clo onBool_bool onBool_tup frz_val frz_ro takeAt elemTy LeN_refl LeN_push LeN_set push_get push_next set_get set_next nil_get nil_next pop_move pop_assign pop_pick pop_load pop_fieldAddr pop_indexAddr pop_field pop_binOp pop_unOp pop_convert pop_extract pop_makeFunc pop_nilCheck pop_build pop_slice pop_len pop_max pop_min eop_alloc eop_box eop_store eop_buildSlice eop_makeSlice eop_append as_move as_assign as_pick as_load as_fieldAddr as_indexAddr as_field as_binOp as_unOp as_convert as_extract as_makeFunc as_nilCheck as_build as_slice as_len as_max as_min as_alloc as_box as_store as_buildSlice as_makeSlice as_append as_call cons_free cons_guard putA_some putA_none aev_tmp aev_int aev_bool aev_nil aev_func pickA_and pickA_or pickA_true pickA_false nnA_ptr nnA_rop idxA_some intOf_int boxA_some bin_int binI_add binI_sub binI_mul binI_quo binI_rem binI_eql binI_neq binI_lss binI_leq binI_gtr binI_geq unA_not unA_neg loadA_ptr loadA_rop loadO_some asLoaded_agg asLoaded_one resA_one resA_two resOne_tmp resOne_cell cellsOf_int cellsOf_bool cellsOf_clo cellsOf_ptr cellsOf_ro cellsOf_sl cellsOf_nil cellsOf_agg one_int one_bool one_nil one_clo one_ptr one_ro one_sl one_rop mm_max mm_min elS_sl elS2_sl mkA_some chunk_zero chunk_succ zcells_zero zcells_succ clean_val clean_ro clean_rop clean1_val clean1_ro clean1_rop flat_val flat_ro flat_agg frz_agg frz_tup
attribute [local simp] t3 u3 t4 u4 t5 u5 t22 u22 t23 u23 t25 u25 t27 u27 t28 u28 t30 u30 t32 u32   t37 u37 t43 u43     t50 u50   t75 u75 t77 u77     t94 u94   t102 u102 t117 u117 t119 u119     t130 u130 t134 u134 t138 u138   t155 u155 t156 u156   t172 u172
attribute [local simp] lenA_ro indexA_ro fieldA fldA partA buildA fillA storeA buildSliceA
attribute [local simp] quietA effectful allocs fpo findNew_nil q_move q_assign q_pick q_load q_fieldAddr q_indexAddr q_field q_binOp q_unOp q_convert q_extract q_makeFunc q_nilCheck q_build q_slice q_len q_max q_min e_alloc e_box e_store e_buildSlice e_makeSlice e_append q_call e_call dr_free dr_guard qView_next eView_next hit_nil hit_cons qView_get optL_some optL_none eView_get fp_alloc fp_box fp_make fp_append fp_build fp_call fp_store mergeG_get LeN_nil new_store findNew_cons
attribute [local simp] one_get one_next ap_finw_ret ap_finw_normal
set_option maxRecDepth 20000

attribute [local simp] extA lenA appendA rowsA

theorem In_fn {a lo hi : Int} {h : H} : Fn Tryz.prog 65 [I a, I lo, I hi] h (B (decide (lo ≤ a) && decide (a ≤ hi))) h := by
  refine Fn.keep noM noC (by kernel_rfl) Tryz.func65 rfl rfl fun _ => ?_
  simp -dsimp -implicitDefEqProofs
  refine ifD_in (fun h => ?_) (fun h => ?_)
  · simp -dsimp -implicitDefEqProofs [h]
  · simp -dsimp -implicitDefEqProofs [h]
def rValid (b : Bd) (lo hi : Int) : Bool := (decide (lo ≤ b.lo) && decide (b.lo ≤ hi)) && (decide (b.lo ≤ b.hi) && decide (b.hi ≤ hi))
theorem Valid_fn {b : Bd} {lo hi : Int} {h : H} : Fn Tryz.prog 77 [b.av, I lo, I hi] h (B (rValid b lo hi)) h := by
  refine Fn.keep noM noC (by kernel_rfl) Tryz.func77 rfl rfl fun _ => ?_
  simp -dsimp -implicitDefEqProofs
  refine onCall_in In_fn ?_
  simp -dsimp -implicitDefEqProofs
  refine ifB_in (fun h => ?_) (fun h => ?_)
  · simp -dsimp -implicitDefEqProofs
    refine onCall_in In_fn ?_
    simp -dsimp -implicitDefEqProofs [rValid, h]
  · simp -dsimp -implicitDefEqProofs [rValid, h]
theorem rValid_eq {b : Bd} {lo hi : Int} : rValid b lo hi = validB b lo hi := by
  rw [Bool.eq_iff_iff]
  simp only [rValid, validB, Bool.and_eq_true, decide_eq_true_eq]
  omega
theorem tdiv10 (n : Int) : (0 ≤ n → n.tdiv 10 = n / 10) ∧ (n < 0 → n.tdiv 10 = -((-n) / 10)) := by
  refine ⟨fun h => Int.tdiv_eq_ediv_of_nonneg h, fun h => ?_⟩
  rw [show n = -(-n) by omega, Int.neg_tdiv, Int.tdiv_eq_ediv_of_nonneg (by omega)]
  omega
theorem Floor_fn {n : Int} (hn : n.natAbs ≤ 1000000000000000000) {h : H} : Fn Tryz.prog 174 [I n, I 10] h (I (n / 10)) h := by
  refine Fn.keep noM noC (by kernel_rfl) Tryz.func174 rfl rfl fun _ => ?_
  obtain ⟨q, hq⟩ : ∃ q, q = n.tdiv 10 := ⟨_, rfl⟩
  have e := tdiv10 n
  rw [← hq] at e
  have w0 := wrap_in (n := q) (by omega) (by omega)
  have w1 := wrap_in (n := q * 10) (by omega) (by omega)
  have w2 := wrap_in (n := q - 1) (by omega) (by omega)
  simp -dsimp -implicitDefEqProofs [← hq, w0, w1]
  refine ifD_in (fun h => ?_) (fun h => ?_) <;> simp -dsimp -implicitDefEqProofs [← hq, w0, w1, w2] <;> omega
theorem Ceil_fn {n : Int} (hn : n.natAbs ≤ 1000000000000000000) {h : H} : Fn Tryz.prog 108 [I n, I 10] h (I (-((-n) / 10))) h := by
  refine Fn.keep noM noC (by kernel_rfl) Tryz.func108 rfl rfl fun _ => ?_
  obtain ⟨q, hq⟩ : ∃ q, q = n.tdiv 10 := ⟨_, rfl⟩
  have e := tdiv10 n
  rw [← hq] at e
  have w0 := wrap_in (n := q) (by omega) (by omega)
  have w1 := wrap_in (n := q * 10) (by omega) (by omega)
  have w2 := wrap_in (n := q + 1) (by omega) (by omega)
  simp -dsimp -implicitDefEqProofs [← hq, w0, w1]
  refine ifD_in (fun h => ?_) (fun h => ?_) <;> simp -dsimp -implicitDefEqProofs [← hq, w0, w1, w2] <;> omega
/-- The reference's error of land and a sky. -/
def rCatch (c : Ct) (sky : List Sk) : Int := if validC c = false then 2 else if 400 < sky.length then 5 else if sky.all validS = false then 2 else 0
theorem rC_eq {c : Ct} : validC c = (((decide (0 ≤ c.area) && decide (c.area ≤ 10000)) && (decide (0 ≤ c.pc) && decide (c.pc ≤ 100))) && (decide (0 ≤ c.melt) && decide (c.melt ≤ 100)) && rValid c.snow 0 1000000) := by
  rw [rValid_eq]; rfl
theorem neqB2 {a b : Int} {k : TK} {s : Nat} {z : List Value} {a' f : Bool} {by' : Nat} : binX Tryz.prog 27 { kind := k, size := s, zero := z, agg := a', bytes := by', fok := f, cmp := true } .neq (.agg [I a, I b]) (.agg [I a, I b]) = some (B false) := by
  simp [binX, eqV, eqFs, partA, ti27, ti3]
end Go.Pe

/- Levels of a curve. -/
namespace Go.Pe
open Go Go.Proofs Go.Proofs.YtffckclggkjbgaaGreat
attribute [local simp] t3 u3 t4 u4 t5 u5 t22 u22 t23 u23 t25 u25 t27 u27 t28 u28 t30 u30 t32 u32   t37 u37 t43 u43     t50 u50   t75 u75 t77 u77     t94 u94   t102 u102 t117 u117 t119 u119     t130 u130 t134 u134 t138 u138   t155 u155 t156 u156   t172 u172
set_option maxRecDepth 20000
set_option maxHeartbeats 8000000
attribute [local simp] fW_eq fR_eq fS_eq

def rise (w v : Rw) (f : Int) : Int := (f - w.flow) * (v.level - w.level)
def part (w v : Rw) (f : Int) (up : Bool) : Int := if up then -((-rise w v f) / (v.flow - w.flow)) else rise w v f / (v.flow - w.flow)
def cv (f : Int) (up : Bool) : List Rw → Int
  | [] => 0
  | w :: l => match l with
    | [] => w.level
    | v :: _ => if f ≤ w.flow then w.level else if f < v.flow then w.level + part w v f up else cv f up l
def srt : List Rw → Prop
  | [] => True
  | w :: l => (match l with | [] => True | v :: _ => w.flow < v.flow ∧ w.level ≤ v.level) ∧ srt l
theorem part_at {w v : Rw} {up : Bool} : part w v w.flow up = 0 := by simp [part, rise]
theorem part_end {w v : Rw} {up : Bool} (h : w.flow < v.flow) : w.level + part w v v.flow up = v.level := by
  have h0 : v.flow - w.flow ≠ 0 := by omega
  simp only [part, rise]
  split
  · rw [← Int.mul_neg, Int.mul_ediv_cancel_left _ h0]; omega
  · rw [Int.mul_ediv_cancel_left _ h0]; omega
theorem cv_low {f : Int} {up : Bool} {w : Rw} {l : List Rw} (h : f ≤ w.flow) : cv f up (w :: l) = w.level := by
  cases l with
  | nil => rfl
  | cons v l => simp [cv, h]
theorem srt_lt : ∀ {l : List Rw} {i : Nat} {v : Rw}, srt l → 0 < i → l[i]? = some v → ∃ w, l.head? = some w ∧ w.flow < v.flow
  | [], i, v, _, _, h => by simp at h
  | [w], i, v, _, hi, h => by
    cases i with
    | zero => omega
    | succ i => simp at h
  | w :: u :: l, i, v, hs, hi, h => by
    obtain ⟨⟨h1, _⟩, hs'⟩ := hs
    cases i with
    | zero => omega
    | succ i =>
      by_cases hi0 : i = 0
      · subst hi0; simp at h; subst h; exact ⟨w, rfl, h1⟩
      · obtain ⟨u', h2, h3⟩ := srt_lt (l := u :: l) (i := i) hs' (by omega) (by simpa using h)
        simp at h2; subst h2
        exact ⟨w, rfl, by omega⟩
theorem cv_mid {f : Int} {up : Bool} : ∀ {l : List Rw} {i : Nat} {w v : Rw}, srt l → l[i]? = some w → l[i + 1]? = some v → w.flow ≤ f → f ≤ v.flow → cv f up l = w.level + part w v f up
  | [], i, w, v, _, h, _, _, _ => by simp at h
  | [x], i, w, v, _, _, h, _, _ => by simp at h
  | x :: y :: l, i, w, v, hs, hw, hv, h1, h2 => by
    obtain ⟨⟨g1, g2⟩, hs'⟩ := hs
    cases i with
    | zero =>
      simp at hw hv; subst hw; subst hv
      by_cases he : f ≤ x.flow
      · have : f = x.flow := by omega
        subst this
        rw [cv_low (Int.le_refl _), part_at]; omega
      · by_cases hy : f < y.flow
        · simp [cv, he, hy]
        · have : f = y.flow := by omega
          subst this
          rw [part_end g1]
          have : cv y.flow up (x :: y :: l) = cv y.flow up (y :: l) := by simp [cv, he]
          rw [this, cv_low (Int.le_refl _)]
    | succ i =>
      have hw' : (y :: l)[i]? = some w := by simpa using hw
      have hv' : (y :: l)[i + 1]? = some v := by simpa using hv
      have hyw : y.flow ≤ w.flow := by
        by_cases hi0 : i = 0
        · subst hi0; simp at hw'; subst hw'; exact Int.le_refl _
        · obtain ⟨y', h3, h4⟩ := srt_lt hs' (by omega) hw'
          simp at h3; subst h3; omega
      have e : cv f up (x :: y :: l) = cv f up (y :: l) := by
        have a1 : ¬ f ≤ x.flow := by omega
        have a2 : ¬ f < y.flow := by omega
        simp [cv, a1, a2]
      rw [e]; exact cv_mid hs' hw' hv' h1 h2
theorem cv_high {f : Int} {up : Bool} : ∀ {l : List Rw} {w : Rw}, srt l → l.getLast? = some w → w.flow ≤ f → cv f up l = w.level
  | [], w, _, h, _ => by simp at h
  | [x], w, _, h, _ => by simp at h; subst h; rfl
  | x :: y :: l, w, hs, hw, hf => by
    obtain ⟨⟨g1, g2⟩, hs'⟩ := hs
    have hw' : (y :: l).getLast? = some w := by simpa [List.getLast?_cons_cons] using hw
    have hyw : y.flow ≤ w.flow := by
      rw [List.getLast?_eq_getElem?] at hw'
      by_cases hi0 : (y :: l).length - 1 = 0
      · rw [hi0] at hw'; simp at hw'; subst hw'; exact Int.le_refl _
      · obtain ⟨y', h3, h4⟩ := srt_lt hs' (by omega) hw'
        simp at h3; subst h3; omega
    have e : cv f up (x :: y :: l) = cv f up (y :: l) := by
      have a1 : ¬ f ≤ x.flow := by omega
      have a2 : ¬ f < y.flow := by omega
      simp [cv, a1, a2]
    rw [e]; exact cv_high hs' hw' hf
theorem srt_of : ∀ {l : List Rw}, (∀ (k : Nat) (h : k + 1 < l.length), l[k].flow < l[k + 1].flow ∧ l[k].level ≤ l[k + 1].level) → srt l
  | [], _ => trivial
  | [w], _ => ⟨trivial, trivial⟩
  | w :: v :: l, h => ⟨h 0 (by simp), srt_of (l := v :: l) fun k hk => h (k + 1) (by simpa using hk)⟩
theorem validCv_parts {l : List Rw} (h : validCv l = true) : (2 ≤ l.length ∧ l.length ≤ 30) ∧ srt l ∧ ∀ w ∈ l, (0 ≤ w.flow ∧ w.flow ≤ 10000000000) ∧ 0 ≤ w.level ∧ w.level ≤ 10000 := by
  simp only [validCv, Bool.and_eq_true, decide_eq_true_eq, inB_iff] at h
  obtain ⟨h1, h2⟩ := h
  refine ⟨by omega, srt_of fun k hk => ?_, fun w hw => ?_⟩
  · have := (h2 (k + 1) hk hk).2 (by omega)
    simpa using this
  · obtain ⟨k, hk, rfl⟩ := List.getElem_of_mem hw
    have := (h2 k hk hk).1
    simpa only [inB_iff] using this

theorem rise_in {w v : Rw} {f : Int} (hw : (0 ≤ w.flow ∧ w.flow ≤ 10000000000) ∧ 0 ≤ w.level ∧ w.level ≤ 10000) (hv : (0 ≤ v.flow ∧ v.flow ≤ 10000000000) ∧ 0 ≤ v.level ∧ v.level ≤ 10000) (h1 : w.flow ≤ f) (h2 : f ≤ v.flow) (h3 : w.level ≤ v.level) : 0 ≤ rise w v f ∧ (rise w v f).natAbs ≤ 10000000000 * 10000 :=
  ⟨Int.mul_nonneg (by omega) (by omega), mul_in (by omega) (by omega)⟩
theorem part_in {w v : Rw} {f : Int} {up : Bool} (hr : 0 ≤ rise w v f ∧ (rise w v f).natAbs ≤ 10000000000 * 10000) (hd : 0 < v.flow - w.flow) : (part w v f up).natAbs ≤ 10000000000 * 10000 := by
  unfold part
  split
  · have := Int.natAbs_ediv_le_natAbs (-rise w v f) (v.flow - w.flow)
    omega
  · have := Int.natAbs_ediv_le_natAbs (rise w v f) (v.flow - w.flow)
    omega

/-- The levels of a valid curve at a flow. -/
theorem curveAt_fn {l : List Rw} {f : Int} {fu : Bool} {h : H} (hv : validCv l = true) (hf : f.natAbs ≤ 1000000000000) : Fn Tryz.prog 168 [.ro fu 2 (l.map fW), I f] h (.tup [I (cv f false l), I (cv f true l)]) h := by
  refine Fn.beside ?_ rfl h
  refine Fn.ofR0 noM (by kernel_rfl) Tryz.func168 rfl (by simp) ?_
  obtain ⟨hl, hs, hb⟩ := validCv_parts hv
  have ha := above_fn (l := l) (f := f) (fu := fu) (h := (mkH []).push [I f]) (b := 0) (by simp) (by omega)
  simp -dsimp -implicitDefEqProofs
  refine onCall_in ha ?_
  simp -dsimp -implicitDefEqProofs
  cases hi : l.findIdx? (fun w => decide (f < w.flow)) with
  | none =>
    have e : idx (fun w => decide (f < w.flow)) l = -1 := by simp [idx, hi]
    have hall := List.findIdx?_eq_none_iff.1 hi
    have hx := List.getElem?_eq_getElem (show l.length - 1 < l.length by omega)
    have w1 : IntKind.i64.wrap ((l.length : Int) - 1) = ((l.length - 1 : Nat) : Int) := by rw [wrap_in (by omega) (by omega)]; omega
    have hlast : l.getLast? = some l[l.length - 1] := by rw [List.getLast?_eq_getElem?, hx]
    have hle : l[l.length - 1].flow ≤ f := by have := hall _ (List.getElem_mem (show l.length - 1 < l.length by omega)); simpa using this
    have c1 := cv_high (up := false) hs hlast hle
    have c2 := cv_high (up := true) hs hlast hle
    simp -dsimp -implicitDefEqProofs [e, w1, hx]
    refine DrawR.on {} (by kernel_rfl) (by simp) ?_
    simp -dsimp -implicitDefEqProofs [c1, c2]
  | some i =>
    have e : idx (fun w => decide (f < w.flow)) l = (i : Nat) := by simp [idx, hi]
    obtain ⟨hil, hp, hq⟩ := List.findIdx?_eq_some_iff_getElem.1 hi
    simp only [decide_eq_true_eq] at hp hq
    have hx := List.getElem?_eq_getElem hil
    by_cases hi0 : i = 0
    · subst hi0
      have c1 : cv f false l = l[0].level := by cases l with | nil => simp at hil | cons w l => exact (cv_low (by have h9 := hp; simp only [List.getElem_cons_zero] at h9; omega)).trans (by simp)
      have c2 : cv f true l = l[0].level := by cases l with | nil => simp at hil | cons w l => exact (cv_low (by have h9 := hp; simp only [List.getElem_cons_zero] at h9; omega)).trans (by simp)
      simp -dsimp -implicitDefEqProofs [e]
      refine DrawR.on {} (by kernel_rfl) (by simp) ?_
      simp -dsimp -implicitDefEqProofs [c1, c2, hx]
    · have n1 : ((i : Int) == 0) = false := by simpa using hi0
      have n2 : ((i : Int) == -1) = false := by simp only [beq_eq_false_iff_ne, ne_eq]; omega
      have w1 : IntKind.i64.wrap ((i : Int) - 1) = ((i - 1 : Nat) : Int) := by rw [wrap_in (by omega) (by omega)]; omega
      have hx2 := List.getElem?_eq_getElem (show i - 1 < l.length by omega)
      have hlo : l[i - 1].flow ≤ f := by have := hq (i - 1) (by omega); simpa using this
      have hb1 := hb _ (List.getElem_mem hil)
      have hb2 := hb _ (List.getElem_mem (show i - 1 < l.length by omega))
      have hsr : l[i - 1].flow < l[i].flow ∧ l[i - 1].level ≤ l[i].level := by
        simp only [validCv, Bool.and_eq_true, decide_eq_true_eq] at hv
        exact (hv.2 i hil hil).2 (by omega)
      have hx' : l[i - 1 + 1]? = some l[i] := by rw [show i - 1 + 1 = i by omega]; exact hx
      have c1 := cv_mid (f := f) (up := false) hs hx2 hx' hlo (by omega)
      have c2 := cv_mid (f := f) (up := true) hs hx2 hx' hlo (by omega)
      have hr := rise_in hb2 hb1 hlo (by omega) hsr.2
      have p1 := part_in (up := false) hr (by omega)
      have p2 := part_in (up := true) hr (by omega)
      have er : (f - l[i - 1].flow) * (l[i].level - l[i - 1].level) = rise l[i - 1] l[i] f := rfl
      have v1 := wrap_in (n := f - l[i - 1].flow) (by omega) (by omega)
      have v2 := wrap_in (n := l[i].level - l[i - 1].level) (by omega) (by omega)
      have v3 := wrap_in (n := rise l[i - 1] l[i] f) (by omega) (by omega)
      have v4 := wrap_in (n := l[i].flow - l[i - 1].flow) (by omega) (by omega)
      have v5 := wrap_in (n := l[i - 1].level + part l[i - 1] l[i] f false) (by omega) (by omega)
      have v6 := wrap_in (n := l[i - 1].level + part l[i - 1] l[i] f true) (by omega) (by omega)
      have f1 := floor_fn (n := rise l[i - 1] l[i] f) (k := l[i].flow - l[i - 1].flow) (by omega) (by omega) (by omega)
      have f2 := ceil_fn (n := rise l[i - 1] l[i] f) (k := l[i].flow - l[i - 1].flow) (by omega) (by omega) (by omega)
      simp -dsimp -implicitDefEqProofs [e, n1, n2]
      refine DrawR.on {} (by kernel_rfl) (by simp) ?_
      simp -dsimp -implicitDefEqProofs [w1, hx, hx2]
      refine DrawR.on {} (by kernel_rfl) (by simp) ?_
      simp -dsimp -implicitDefEqProofs [v1, v2, er, v3, v4]
      refine DrawR.on {} (by kernel_rfl) (by simp) ?_
      simp -dsimp -implicitDefEqProofs
      refine onCallQ_in (f1.beside rfl _) ?_
      simp -dsimp -implicitDefEqProofs
      refine onCallQ_in (f2.beside rfl _) ?_
      simp -dsimp -implicitDefEqProofs [c1, c2]
      exact ⟨by simpa [part] using v5, by simpa [part] using v6⟩
end Go.Pe
