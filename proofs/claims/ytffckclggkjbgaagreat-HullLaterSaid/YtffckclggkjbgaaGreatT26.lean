import Derived.Test.YtffckclggkjbgaaGreatT19
import Derived.Test.YtffckclggkjbgaaGreatT14
import Derived.Test.YtffckclggkjbgaaGreatRows
set_option linter.unusedVariables false
set_option linter.unusedSimpArgs false
/- The law RiverMelts: its helpers. -/
namespace Go.Pe
open Go Go.Proofs Go.Proofs.YtffckclggkjbgaaGreat
attribute [local simp] ap_skip ap_region ap_seq ap_cond ap_block ap_loop ap_exit ap_ret ap_seq_normal ap_seq_ret ap_seq_exit ap_block_normal ap_block_ret ap_block_exit ap_block_other ap_nil ap_draw ap_dr_nil ap_fin_ret ap_fin_normal ap_loopK dstT_zero dstT_succ Nat.add_assoc onSome_some onSome_none ifB_true ifB_false ifB_not onClo_clo onBool_bool onBool_tup frz_val frz_ro takeAt elemTy LeN_refl LeN_push LeN_set push_get push_next set_get set_next nil_get nil_next pop_move pop_assign pop_pick pop_load pop_fieldAddr pop_indexAddr pop_field pop_binOp pop_unOp pop_convert pop_extract pop_makeFunc pop_nilCheck pop_build pop_slice pop_len pop_max pop_min eop_alloc eop_box eop_store eop_buildSlice eop_makeSlice eop_append as_move as_assign as_pick as_load as_fieldAddr as_indexAddr as_field as_binOp as_unOp as_convert as_extract as_makeFunc as_nilCheck as_build as_slice as_len as_max as_min as_alloc as_box as_store as_buildSlice as_makeSlice as_append as_call cons_free cons_guard putA_some putA_none aev_tmp aev_int aev_bool aev_nil aev_func pickA_and pickA_or pickA_true pickA_false nnA_ptr nnA_rop idxA_some intOf_int boxA_some bin_int binI_add binI_sub binI_mul binI_quo binI_rem binI_eql binI_neq binI_lss binI_leq binI_gtr binI_geq unA_not unA_neg loadA_ptr loadA_rop loadO_some asLoaded_agg asLoaded_one resA_one resA_two resOne_tmp resOne_cell cellsOf_int cellsOf_bool cellsOf_clo cellsOf_ptr cellsOf_ro cellsOf_sl cellsOf_nil cellsOf_agg one_int one_bool one_nil one_clo one_ptr one_ro one_sl one_rop mm_max mm_min elS_sl elS2_sl mkA_some chunk_zero chunk_succ zcells_zero zcells_succ clean_val clean_ro clean_rop clean1_val clean1_ro clean1_rop flat_val flat_ro flat_agg frz_agg frz_tup
attribute [local simp] t3 u3 t4 u4 t5 u5 t22 u22 t23 u23 t25 u25 t27 u27 t28 u28 t30 u30 t32 u32   t37 u37 t43 u43     t50 u50   t75 u75 t77 u77     t94 u94   t102 u102 t117 u117 t119 u119     t130 u130 t134 u134 t138 u138   t155 u155 t156 u156   t172 u172
attribute [local simp] lenA_ro indexA_ro fieldA fldA partA buildA fillA storeA buildSliceA
attribute [local simp] quietA effectful allocs fpo findNew_nil q_move q_assign q_pick q_load q_fieldAddr q_indexAddr q_field q_binOp q_unOp q_convert q_extract q_makeFunc q_nilCheck q_build q_slice q_len q_max q_min e_alloc e_box e_store e_buildSlice e_makeSlice e_append q_call e_call dr_free dr_guard qView_next eView_next hit_nil hit_cons qView_get optL_some optL_none eView_get fp_alloc fp_box fp_make fp_append fp_build fp_call fp_store mergeG_get LeN_nil new_store findNew_cons
attribute [local simp] one_get one_next ap_finw_ret ap_finw_normal
set_option maxRecDepth 20000
noncomputable abbrev U (n : Int) : AV := .val (.int .u8 n)
def pickZ (b : Bd) (y : Int) : Int := b.lo + ((b.hi - b.lo) * y).tdiv 255
def partZ (l : List Int) (i : Nat) : Int := if l.length = 0 then 0 else l.getD (i % l.length) 0

end Go.Pe

/- The document's examples: what 'known' returns. -/
namespace Go.Pe
open Go Go.Proofs Go.Proofs.YtffckclggkjbgaaGreat
end Go.Pe

/- The law RiverMelts: a sky that is too long, and land or a sky that is not valid. -/
namespace Go.Pe
open Go Go.Proofs Go.Proofs.YtffckclggkjbgaaGreat
attribute [local simp] ap_skip ap_region ap_seq ap_cond ap_block ap_loop ap_exit ap_ret ap_seq_normal ap_seq_ret ap_seq_exit ap_block_normal ap_block_ret ap_block_exit ap_block_other ap_nil ap_draw ap_dr_nil ap_fin_ret ap_fin_normal ap_loopK dstT_zero dstT_succ Nat.add_assoc onSome_some onSome_none ifB_true ifB_false ifB_not onClo_clo onBool_bool onBool_tup frz_val frz_ro takeAt elemTy LeN_refl LeN_push LeN_set push_get push_next set_get set_next nil_get nil_next pop_move pop_assign pop_pick pop_load pop_fieldAddr pop_indexAddr pop_field pop_binOp pop_unOp pop_convert pop_extract pop_makeFunc pop_nilCheck pop_build pop_slice pop_len pop_max pop_min eop_alloc eop_box eop_store eop_buildSlice eop_makeSlice eop_append as_move as_assign as_pick as_load as_fieldAddr as_indexAddr as_field as_binOp as_unOp as_convert as_extract as_makeFunc as_nilCheck as_build as_slice as_len as_max as_min as_alloc as_box as_store as_buildSlice as_makeSlice as_append as_call cons_free cons_guard putA_some putA_none aev_tmp aev_int aev_bool aev_nil aev_func pickA_and pickA_or pickA_true pickA_false nnA_ptr nnA_rop idxA_some intOf_int boxA_some bin_int binI_add binI_sub binI_mul binI_quo binI_rem binI_eql binI_neq binI_lss binI_leq binI_gtr binI_geq unA_not unA_neg loadA_ptr loadA_rop loadO_some asLoaded_agg asLoaded_one resA_one resA_two resOne_tmp resOne_cell cellsOf_int cellsOf_bool cellsOf_clo cellsOf_ptr cellsOf_ro cellsOf_sl cellsOf_nil cellsOf_agg one_int one_bool one_nil one_clo one_ptr one_ro one_sl one_rop mm_max mm_min elS_sl elS2_sl mkA_some chunk_zero chunk_succ zcells_zero zcells_succ clean_val clean_ro clean_rop clean1_val clean1_ro clean1_rop flat_val flat_ro flat_agg frz_agg frz_tup
attribute [local simp] t3 u3 t4 u4 t5 u5 t22 u22 t23 u23 t25 u25 t27 u27 t28 u28 t30 u30 t32 u32   t37 u37 t43 u43     t50 u50   t75 u75 t77 u77     t94 u94   t102 u102 t117 u117 t119 u119     t130 u130 t134 u134 t138 u138   t155 u155 t156 u156   t172 u172
attribute [local simp] lenA_ro indexA_ro fieldA fldA partA buildA fillA storeA buildSliceA
attribute [local simp] quietA effectful allocs fpo findNew_nil q_move q_assign q_pick q_load q_fieldAddr q_indexAddr q_field q_binOp q_unOp q_convert q_extract q_makeFunc q_nilCheck q_build q_slice q_len q_max q_min e_alloc e_box e_store e_buildSlice e_makeSlice e_append q_call e_call dr_free dr_guard qView_next eView_next hit_nil hit_cons qView_get optL_some optL_none eView_get fp_alloc fp_box fp_make fp_append fp_build fp_call fp_store mergeG_get LeN_nil new_store findNew_cons
attribute [local simp] one_get one_next ap_finw_ret ap_finw_normal
set_option maxRecDepth 20000
structure Tr where
  base : List Int
  side : List Int
  bed : List Int
  grow : List Int
  snow : Int
noncomputable abbrev u8s (l : List Int) : AV := .ro false 1 (l.map fun n => [U n])
noncomputable abbrev Tr.av (x : Tr) : AV := .agg [u8s x.base, u8s x.side, u8s x.bed, u8s x.grow, U x.snow]
def meltsC : Nat → Cert := fun i => if i = 10 then { M := [14, 15], eff := [(17, [14]), (19, [15]), (22, [15])] } else {}

end Go.Pe

/- The arithmetic of the law RiverMelts. -/
namespace Go.Pe
open Go Go.Proofs Go.Proofs.YtffckclggkjbgaaGreat
def Ct.bare (c : Ct) : Ct := { c with snow := ⟨0, 0⟩ }
def Ct.more (c : Ct) (n : Int) : Ct := { c with area := min 10000 (c.area + n), snow := ⟨c.snow.lo, min 1000000 (c.snow.hi + n)⟩ }
theorem valid_bare {c : Ct} (h : validC c = true) : validC c.bare = true := by
  simp only [validC, validB, Bool.and_eq_true, decide_eq_true_eq] at h
  obtain ⟨a, p, m, ⟨l, u⟩⟩ := c
  simp only [validC, validB, Ct.bare, Bool.and_eq_true, decide_eq_true_eq] at h ⊢
  repeat' apply And.intro
  all_goals exact decide_eq_true (by omega)
theorem valid_more {c : Ct} {n : Int} (h : validC c = true) (h0 : 0 ≤ n) : validC (c.more n) = true := by
  obtain ⟨a, p, m, ⟨l, u⟩⟩ := c
  simp only [validC, validB, Ct.more, Bool.and_eq_true, decide_eq_true_eq] at h ⊢
  repeat' apply And.intro
  all_goals exact decide_eq_true (by omega)
theorem pick_in {b : Bd} {y : Int} (h : b.lo ≤ b.hi) (h0 : 0 ≤ y) (h1 : y ≤ 255) : b.lo ≤ pickZ b y ∧ pickZ b y ≤ b.hi := by
  have h2 : 0 ≤ (b.hi - b.lo) * y := Int.mul_nonneg (by omega) h0
  have h3 : (b.hi - b.lo) * y ≤ (b.hi - b.lo) * 255 := Int.mul_le_mul_of_nonneg_left h1 (by omega)
  unfold pickZ
  rw [Int.tdiv_eq_ediv_of_nonneg h2]
  omega
theorem partZ_in {l : List Int} {i : Nat} (h : ∀ n ∈ l, 0 ≤ n ∧ n ≤ 255) : 0 ≤ partZ l i ∧ partZ l i ≤ 255 := by
  unfold partZ
  split
  · omega
  · rename_i h1
    have h2 : i % l.length < l.length := Nat.mod_lt _ (by omega)
    rw [List.getD_eq_getElem?_getD, List.getElem?_eq_getElem h2]
    exact h _ (List.getElem_mem h2)
theorem runs_get {c : Ct} : ∀ {l : List Sk} {s : Bd} {i : Nat} (hi : i < l.length), (runs c s l)[i]? = some (drain c (total [l[i].rain, melts (snowAt c s (l.take i)) (warm c l[i])]))
  | [], _, _, hi => absurd hi (by simp)
  | y :: l, s, 0, _ => by simp [runs, snowAt]
  | y :: l, s, i + 1, hi => by
      have := runs_get (c := c) (l := l) (s := left s (warm c y)) (i := i) (by simpa using hi)
      simpa [runs, snowAt] using this
theorem drain_lo {c : Ct} (h1 : 0 ≤ c.area) (h2 : 0 ≤ c.pc) {w : Bd} {n : Int} (h : w.lo ≤ n) : 10 * (drain c w).lo ≤ c.area * n * c.pc := by
  have h3 : c.area * c.pc * w.lo ≤ c.area * c.pc * n := Int.mul_le_mul_of_nonneg_left h (Int.mul_nonneg h1 h2)
  rw [Int.mul_right_comm]
  simp only [drain]
  omega
theorem drain_hi {c : Ct} (h1 : 0 ≤ c.area) (h2 : 0 ≤ c.pc) {w : Bd} {n : Int} (h : n ≤ w.hi) : c.area * n * c.pc ≤ 10 * (drain c w).hi := by
  have h3 : c.area * c.pc * n ≤ c.area * c.pc * w.hi := Int.mul_le_mul_of_nonneg_left h (Int.mul_nonneg h1 h2)
  rw [Int.mul_right_comm]
  simp only [drain]
  omega
theorem drain_lo_mono {c : Ct} (h1 : 0 ≤ c.area) (h2 : 0 ≤ c.pc) {w v : Bd} (h : w.lo ≤ v.lo) : (drain c w).lo ≤ (drain c v).lo := by
  have h3 : c.area * c.pc * w.lo ≤ c.area * c.pc * v.lo := Int.mul_le_mul_of_nonneg_left h (Int.mul_nonneg h1 h2)
  simp only [drain]
  omega
theorem drain_hi_mono {c d : Ct} (h1 : 0 ≤ c.area) (h2 : 0 ≤ c.pc) (h3 : c.area ≤ d.area) (h4 : c.pc = d.pc) {w v : Bd} (h : w.hi ≤ v.hi) (h0 : 0 ≤ w.hi) : (drain c w).hi ≤ (drain d v).hi := by
  have e1 : c.area * c.pc * w.hi ≤ c.area * c.pc * v.hi := Int.mul_le_mul_of_nonneg_left h (Int.mul_nonneg h1 h2)
  have e2 : c.area * c.pc ≤ d.area * d.pc := by rw [← h4]; exact Int.mul_le_mul_of_nonneg_right h3 h2
  have e3 : c.area * c.pc * v.hi ≤ d.area * d.pc * v.hi := Int.mul_le_mul_of_nonneg_right e2 (by omega)
  simp only [drain]
  omega
theorem drain_nonneg {c : Ct} (h1 : 0 ≤ c.area) (h2 : 0 ≤ c.pc) {w : Bd} (h : 0 ≤ w.lo) : 0 ≤ (drain c w).lo := by
  have h3 : 0 ≤ c.area * c.pc * w.lo := Int.mul_nonneg (Int.mul_nonneg h1 h2) h
  simp only [drain]
  omega
theorem snow_zero {c : Ct} : ∀ (l : List Sk), (∀ y ∈ l, 0 ≤ (warm c y).lo ∧ 0 ≤ (warm c y).hi) → snowAt c ⟨0, 0⟩ l = ⟨0, 0⟩
  | [], _ => rfl
  | y :: l, h => by
      have h1 := h y (by simp)
      have h2 : left ⟨0, 0⟩ (warm c y) = ⟨0, 0⟩ := by
        simp only [left, Bd.mk.injEq]
        omega
      have h3 := snow_zero l (fun z hz => h z (by simp [hz]))
      simp only [snowAt, List.foldl_cons] at h3 ⊢
      rw [h2]; exact h3
theorem snow_more {c d : Ct} (hm : c.melt = d.melt) : ∀ (l : List Sk) (s t : Bd), s.hi ≤ t.hi → (snowAt c s l).hi ≤ (snowAt d t l).hi
  | [], _, _, h => h
  | y :: l, s, t, h => by
      refine snow_more hm l (left s (warm c y)) (left t (warm d y)) ?_
      have : (warm c y).lo = (warm d y).lo := by simp only [warm, hm]
      simp only [left]
      omega
theorem total_lo {a b : Bd} : (total [a, b]).lo = a.lo + b.lo := by simp only [total, List.foldl_cons, List.foldl_nil]; omega
theorem total_hi {a b : Bd} : (total [a, b]).hi = a.hi + b.hi := by simp only [total, List.foldl_cons, List.foldl_nil]; omega
theorem warm_nonneg {c : Ct} (h : 0 ≤ c.melt) (y : Sk) : 0 ≤ (warm c y).lo ∧ 0 ≤ (warm c y).hi := by
  refine ⟨Int.mul_nonneg h ?_, Int.mul_nonneg h ?_⟩ <;> omega
theorem drain_big {c : Ct} (h1 : 0 ≤ c.area) (h2 : 0 ≤ c.pc) (h3 : c.area ≤ 10000) (h4 : c.pc ≤ 100) {w : Bd} (h : w.hi.natAbs ≤ 2000000) : (drain c w).hi.natAbs ≤ 10000000000000 := by
  have e1 := mul_in (a := c.area) (b := c.pc) (m := 10000) (n := 100) (by omega) (by omega)
  have e2 := mul_in (a := c.area * c.pc) (b := w.hi) (m := 10000 * 100) (n := 2000000) e1 h
  simp only [drain]
  omega
theorem melt_round {c : Ct} {y : Sk} {S : Bd} {H W sn : Int} (hC : ((0 ≤ c.area ∧ c.area ≤ 10000) ∧ 0 ≤ c.pc ∧ c.pc ≤ 100) ∧ 0 ≤ c.melt ∧ c.melt ≤ 100) (hr : 0 ≤ y.rain.lo ∧ y.rain.hi ≤ 20000) (hh : -500 ≤ y.heat.lo ∧ y.heat.hi ≤ 500) (hH : y.heat.lo ≤ H ∧ H ≤ y.heat.hi) (hW : y.rain.lo ≤ W ∧ W ≤ y.rain.hi) (hs : S.lo ≤ sn ∧ sn ≤ S.hi) (hS : 0 ≤ S.lo ∧ S.hi ≤ 1000000) :
    (0 ≤ max 0 H * c.melt ∧ max 0 H * c.melt ≤ 50000) ∧ (c.area * (W + min sn (max 0 H * c.melt))).natAbs ≤ 100000000000 ∧ (c.area * (W + min sn (max 0 H * c.melt)) * c.pc).natAbs ≤ 10000000000000 ∧
    10 * (drain c (total [y.rain, melts S (warm c y)])).lo ≤ c.area * (W + min sn (max 0 H * c.melt)) * c.pc ∧ c.area * (W + min sn (max 0 H * c.melt)) * c.pc ≤ 10 * (drain c (total [y.rain, melts S (warm c y)])).hi ∧
    0 ≤ (drain c (total [y.rain, melts S (warm c y)])).lo ∧ (drain c (total [y.rain, melts S (warm c y)])).hi.natAbs ≤ 10000000000000 ∧
    (left S (warm c y)).lo ≤ sn - min sn (max 0 H * c.melt) ∧ sn - min sn (max 0 H * c.melt) ≤ (left S (warm c y)).hi := by
  obtain ⟨⟨⟨a1, a2⟩, p1, p2⟩, m1, m2⟩ := hC
  have k1 : c.melt * max 0 y.heat.lo ≤ c.melt * max 0 H := Int.mul_le_mul_of_nonneg_left (by omega) m1
  have k2 : c.melt * max 0 H ≤ c.melt * max 0 y.heat.hi := Int.mul_le_mul_of_nonneg_left (by omega) m1
  have k3 := warm_nonneg (c := c) m1 y
  have k4 := mul_in (a := c.melt) (b := max 0 H) (m := 100) (n := 500) (by omega) (by omega)
  have k5 := mul_in (a := c.melt) (b := max 0 y.heat.hi) (m := 100) (n := 500) (by omega) (by omega)
  rw [Int.mul_comm (max 0 H)]
  have wl : (warm c y).lo = c.melt * max 0 y.heat.lo := rfl
  have wh : (warm c y).hi = c.melt * max 0 y.heat.hi := rfl
  obtain ⟨M, hM⟩ : ∃ M, M = c.melt * max 0 H := ⟨_, rfl⟩
  rw [← hM] at k1 k2 k4 ⊢
  obtain ⟨D, hD⟩ : ∃ D, D = min sn M := ⟨_, rfl⟩
  rw [← hD]
  have t1 : (total [y.rain, melts S (warm c y)]).lo ≤ W + D := by rw [total_lo]; simp only [melts]; omega
  have t2 : W + D ≤ (total [y.rain, melts S (warm c y)]).hi := by rw [total_hi]; simp only [melts]; omega
  have t3 : 0 ≤ (total [y.rain, melts S (warm c y)]).lo := by rw [total_lo]; simp only [melts]; omega
  have t4 : (total [y.rain, melts S (warm c y)]).hi.natAbs ≤ 2000000 := by rw [total_hi]; simp only [melts]; omega
  have b1 := mul_in (a := c.area) (b := W + D) (m := 10000) (n := 2000000) (by omega) (by omega)
  have b2 := mul_in (a := c.area * (W + D)) (b := c.pc) (m := 10000 * 2000000) (n := 100) b1 (by omega)
  refine ⟨⟨by omega, by omega⟩, by omega, by omega, drain_lo a1 p1 t1, drain_hi a1 p1 t2, drain_nonneg a1 p1 t3, drain_big a1 p1 a2 p2 t4, ?_, ?_⟩ <;> simp only [left] <;> omega
theorem melt_bare {c : Ct} {y : Sk} {S : Bd} {l : List Sk} (hC : ((0 ≤ c.area ∧ c.area ≤ 10000) ∧ 0 ≤ c.pc ∧ c.pc ≤ 100) ∧ 0 ≤ c.melt ∧ c.melt ≤ 100) (hr : 0 ≤ y.rain.lo ∧ y.rain.lo ≤ y.rain.hi) (hS : 0 ≤ S.lo ∧ 0 ≤ S.hi) :
    (drain c.bare (total [y.rain, melts (snowAt c.bare c.bare.snow l) (warm c.bare y)])).lo ≤ (drain c (total [y.rain, melts S (warm c y)])).lo ∧ (drain c.bare (total [y.rain, melts (snowAt c.bare c.bare.snow l) (warm c.bare y)])).hi ≤ (drain c (total [y.rain, melts S (warm c y)])).hi ∧
    (y.heat.hi ≤ 0 → y.heat.lo ≤ y.heat.hi → drain c.bare (total [y.rain, melts (snowAt c.bare c.bare.snow l) (warm c.bare y)]) = drain c (total [y.rain, melts S (warm c y)])) := by
  obtain ⟨⟨⟨a1, a2⟩, p1, p2⟩, m1, m2⟩ := hC
  have e0 : snowAt c.bare c.bare.snow l = ⟨0, 0⟩ := snow_zero l fun z _ => warm_nonneg (c := c.bare) m1 z
  have e1 := warm_nonneg (c := c.bare) m1 y
  have e2 := warm_nonneg (c := c) m1 y
  have e3 : warm c.bare y = warm c y := rfl
  rw [e0, e3]
  have e4 : melts ⟨0, 0⟩ (warm c y) = ⟨0, 0⟩ := by simp only [melts, Bd.mk.injEq]; omega
  rw [e4]
  refine ⟨drain_lo_mono (c := c) a1 p1 ?_, drain_hi_mono (c := c) (d := c) a1 p1 (Int.le_refl _) rfl ?_ ?_, fun h h' => ?_⟩
  · rw [total_lo, total_lo]; simp only [melts]; omega
  · rw [total_hi, total_hi]; simp only [melts]; omega
  · rw [total_hi]; show 0 ≤ y.rain.hi + 0; omega
  · have e5 : melts S (warm c y) = ⟨0, 0⟩ := by
      have : (warm c y).lo = 0 := by simp only [warm]; rw [show max 0 y.heat.lo = 0 by omega, Int.mul_zero]
      have : (warm c y).hi = 0 := by simp only [warm]; rw [show max 0 y.heat.hi = 0 by omega, Int.mul_zero]
      simp only [melts, Bd.mk.injEq]; omega
    rw [e5]; rfl
theorem melt_more {c : Ct} {y : Sk} {n : Int} {l : List Sk} (hC : ((0 ≤ c.area ∧ c.area ≤ 10000) ∧ 0 ≤ c.pc ∧ c.pc ≤ 100) ∧ 0 ≤ c.melt ∧ c.melt ≤ 100) (hn : 0 ≤ n) (hs : c.snow.hi ≤ 1000000) (hr : 0 ≤ y.rain.hi) (h0 : 0 ≤ (snowAt c c.snow l).hi) :
    (drain c (total [y.rain, melts (snowAt c c.snow l) (warm c y)])).hi ≤ (drain (c.more n) (total [y.rain, melts (snowAt (c.more n) (c.more n).snow l) (warm (c.more n) y)])).hi := by
  obtain ⟨⟨⟨a1, a2⟩, p1, p2⟩, m1, m2⟩ := hC
  have e1 := snow_more (c := c) (d := c.more n) rfl l c.snow (c.more n).snow (by show c.snow.hi ≤ min 1000000 (c.snow.hi + n); omega)
  have e2 := warm_nonneg (c := c) m1 y
  refine drain_hi_mono (c := c) (d := c.more n) a1 p1 (by show c.area ≤ min 10000 (c.area + n); omega) rfl ?_ ?_
  · rw [total_hi, total_hi]; simp only [melts]; have : (warm (c.more n) y).hi = (warm c y).hi := rfl; omega
  · rw [total_hi]; simp only [melts]; omega
end Go.Pe
