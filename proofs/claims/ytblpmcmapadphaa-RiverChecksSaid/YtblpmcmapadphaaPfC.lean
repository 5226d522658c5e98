/- Bounds, land and sky. -/
import Derived.Test.YtblpmcmapadphaaPfB
import Derived.Test.YtblpmcmapadphaaPeS
set_option linter.unusedVariables false
set_option linter.unusedSimpArgs false
namespace Go.Pe
open Go Go.Proofs Go.Proofs.Ytblpmcmapadphaa
attribute [local simp] ap_skip ap_region ap_seq ap_cond ap_block ap_loop ap_exit ap_ret ap_seq_normal ap_seq_ret ap_seq_exit ap_block_normal ap_block_ret ap_block_exit ap_block_other ap_nil ap_draw ap_dr_nil ap_fin_ret ap_fin_normal ap_loopK dstT_zero dstT_succ Nat.add_assoc onSome_some onSome_none ifB_true ifB_false ifB_not onClo_clo onBool_bool onBool_tup frz_val frz_ro takeAt elemTy LeN_refl LeN_push LeN_set push_get push_next set_get set_next nil_get nil_next pop_move pop_assign pop_pick pop_load pop_fieldAddr pop_indexAddr pop_field pop_binOp pop_unOp pop_convert pop_extract pop_makeFunc pop_nilCheck pop_build pop_slice pop_len pop_max pop_min eop_alloc eop_box eop_store eop_buildSlice eop_makeSlice eop_append as_move as_assign as_pick as_load as_fieldAddr as_indexAddr as_field as_binOp as_unOp as_convert as_extract as_makeFunc as_nilCheck as_build as_slice as_len as_max as_min as_alloc as_box as_store as_buildSlice as_makeSlice as_append as_call cons_free cons_guard putA_some putA_none aev_tmp aev_int aev_bool aev_nil aev_func pickA_and pickA_or pickA_true pickA_false nnA_ptr nnA_rop idxA_some intOf_int boxA_some bin_int binI_add binI_sub binI_mul binI_quo binI_rem binI_eql binI_neq binI_lss binI_leq binI_gtr binI_geq unA_not unA_neg loadA_ptr loadA_rop loadO_some asLoaded_agg asLoaded_one resA_one resA_two resOne_tmp resOne_cell cellsOf_int cellsOf_bool cellsOf_clo cellsOf_ptr cellsOf_ro cellsOf_sl cellsOf_nil cellsOf_agg one_int one_bool one_nil one_clo one_ptr one_ro one_sl one_rop mm_max mm_min elS_sl elS2_sl mkA_some chunk_zero chunk_succ zcells_zero zcells_succ clean_val clean_ro clean_rop clean1_val clean1_ro clean1_rop flat_val flat_ro flat_agg frz_agg frz_tup
attribute [local simp] t3 u3 t4 u4 t5 u5 t22 u22 t23 u23 t25 u25 t27 u27 t28 u28 t30 u30 t32 u32 t34 u34 t37 u37 t43 u43 t48 u48 t49 u49 t50 u50 t54 u54 t75 u75 t77 u77 t84 u84 t89 u89 t94 u94 t96 u96 t102 u102 t117 u117 t119 u119 t123 u123 t125 u125 t130 u130 t134 u134 t138 u138 t152 u152 t155 u155 t156 u156 t160 u160 t172 u172
attribute [local simp] lenA_ro indexA_ro fieldA fldA partA buildA fillA storeA buildSliceA

attribute [local simp] quietA effectful allocs fpo findNew_nil q_move q_assign q_pick q_load q_fieldAddr q_indexAddr q_field q_binOp q_unOp q_convert q_extract q_makeFunc q_nilCheck q_build q_slice q_len q_max q_min e_alloc e_box e_store e_buildSlice e_makeSlice e_append q_call e_call dr_free dr_guard qView_next eView_next hit_nil hit_cons qView_get optL_some optL_none eView_get fp_alloc fp_box fp_make fp_append fp_build fp_call fp_store mergeG_get LeN_nil new_store findNew_cons
set_option maxRecDepth 20000
/-- The program's values. -/
structure Bd where
  lo : Int
  hi : Int
noncomputable abbrev Bd.av (b : Bd) : AV := .agg [I b.lo, I b.hi]
structure Ct where
  area : Int
  pc : Int
  melt : Int
  snow : Bd
noncomputable abbrev Ct.av (c : Ct) : AV := .agg [I c.area, I c.pc, I c.melt, I c.snow.lo, I c.snow.hi]
structure Sk where
  rain : Bd
  heat : Bd
noncomputable abbrev Sk.av (x : Sk) : AV := .agg [I x.rain.lo, I x.rain.hi, I x.heat.lo, I x.heat.hi]

def validB (b : Bd) (lo hi : Int) : Bool := decide (b.lo ≤ b.hi) && ((decide (lo ≤ b.lo) && decide (b.lo ≤ hi)) && (decide (lo ≤ b.hi) && decide (b.hi ≤ hi)))
def warm (c : Ct) (x : Sk) : Bd := ⟨c.melt * max 0 x.heat.lo, c.melt * max 0 x.heat.hi⟩

theorem valid_fn {b : Bd} {lo hi : Int} {h : H} : Fn Try.prog 63 [b.av, I lo, I hi] h (B (validB b lo hi)) h := by
  refine Fn.keep noM noC (by kernel_rfl) Try.func63 rfl rfl fun _ => ?_
  simp -dsimp -implicitDefEqProofs
  refine ifD_in (fun h => ?_) (fun h => ?_)
  · simp -dsimp -implicitDefEqProofs
    refine onCall_in (within_fn (xs := [b.lo, b.hi]) (by simp)) ?_
    simp -dsimp -implicitDefEqProofs [validB, h]
  · simp -dsimp -implicitDefEqProofs [validB, h]

def validS (x : Sk) : Bool := validB x.rain 0 20000 && validB x.heat (-500) 500
theorem validSky_fn {x : Sk} {h : H} : Fn Try.prog 68 [x.av] h (B (validS x)) h := by
  refine Fn.keep noM noC (by kernel_rfl) Try.func68 rfl rfl fun _ => ?_
  simp -dsimp -implicitDefEqProofs
  refine onCall_in (valid_fn (b := x.rain)) ?_
  simp -dsimp -implicitDefEqProofs
  refine ifB_in (fun h => ?_) (fun h => ?_)
  · simp -dsimp -implicitDefEqProofs
    refine onCall_in (valid_fn (b := x.heat)) ?_
    simp -dsimp -implicitDefEqProofs [validS, h]
  · simp -dsimp -implicitDefEqProofs [validS, h]

theorem mul_in {a b : Int} {m n : Nat} (ha : a.natAbs ≤ m) (hb : b.natAbs ≤ n) : (a * b).natAbs ≤ m * n := by rw [Int.natAbs_mul]; exact Nat.mul_le_mul ha hb

theorem warmth_fn {c : Ct} {x : Sk} (h1 : c.melt.natAbs ≤ 1000000) (h2 : x.heat.lo.natAbs ≤ 1000000) (h3 : x.heat.hi.natAbs ≤ 1000000) : Fn Try.prog 72 [c.av, x.av] .nil (warm c x).av .nil := by
  refine Fn.keep noM noC (by kernel_rfl) Try.func72 rfl rfl fun _ => ?_
  simp -dsimp -implicitDefEqProofs [warm]
  have m1 := mul_in h1 (show (max 0 x.heat.lo).natAbs ≤ 1000000 by omega)
  have m2 := mul_in h1 (show (max 0 x.heat.hi).natAbs ≤ 1000000 by omega)
  exact ⟨wrap_in (by omega) (by omega), wrap_in (by omega) (by omega)⟩

def drain (c : Ct) (w : Bd) : Bd := ⟨(c.area * c.pc * w.lo) / 10, -((-(c.area * c.pc * w.hi)) / 10)⟩
theorem drained_fn {c : Ct} {w : Bd} (h1 : c.area.natAbs ≤ 10000) (h2 : c.pc.natAbs ≤ 100) (h3 : w.lo.natAbs ≤ 10000000) (h4 : w.hi.natAbs ≤ 10000000) : Fn Try.prog 69 [c.av, w.av] .nil (drain c w).av .nil := by
  refine Fn.keep noM (fun _ => { M := [2], eff := [(11, [2])] }) (by kernel_rfl) Try.func69 rfl (by kernel_rfl) fun _ => ?_
  have m1 := mul_in h1 h2
  have m2 := mul_in m1 h3
  have m3 := mul_in m1 h4
  have w1 := wrap_in (n := c.area * c.pc) (by omega) (by omega)
  have w2 := wrap_in (n := c.area * c.pc * w.lo) (by omega) (by omega)
  have w3 := wrap_in (n := c.area * c.pc * w.hi) (by omega) (by omega)
  simp -dsimp -implicitDefEqProofs [w1, w2]
  refine onCallQ_in ((floor_fn (by omega) (by omega) (by omega)).beside rfl _) ?_
  simp -dsimp -implicitDefEqProofs [w1, w3]
  refine onCallQ_in ((ceil_fn (by omega) (by omega) (by omega)).beside rfl _) ?_
  simp -dsimp -implicitDefEqProofs [drain]

def total (l : List Bd) : Bd := l.foldl (fun a b => ⟨a.lo + b.lo, a.hi + b.hi⟩) ⟨0, 0⟩
theorem total_snoc {l : List Bd} {b : Bd} : total (l ++ [b]) = ⟨(total l).lo + b.lo, (total l).hi + b.hi⟩ := by simp [total, List.foldl_append]
theorem total_in {m : Nat} {l : List Bd} (h : ∀ b ∈ l, b.lo.natAbs ≤ m ∧ b.hi.natAbs ≤ m) : ∀ i, i ≤ l.length → (total (l.take i)).lo.natAbs ≤ i * m ∧ (total (l.take i)).hi.natAbs ≤ i * m := by
  intro i
  induction i with
  | zero => intro _; simp [total]
  | succ i ih =>
    intro hi
    have h1 := ih (by omega)
    have hx := List.getElem?_eq_getElem (show i < l.length by omega)
    have h2 := h _ (List.getElem_mem (show i < l.length by omega))
    rw [List.take_add_one, hx, Option.toList_some, total_snoc, Nat.add_mul]
    simp only
    omega

theorem sum_fn {xs : List Bd} {fu : Bool} (hlen : xs.length ≤ 1000000) (hb : ∀ b ∈ xs, b.lo.natAbs ≤ 1000000000000 ∧ b.hi.natAbs ≤ 1000000000000) : Fn Try.prog 70 [.ro fu 2 (xs.map fun b => [I b.lo, I b.hi])] .nil (total xs).av .nil := by
  refine Fn.keep noM noC (by kernel_rfl) Try.func70 rfl rfl fun _ => ?_
  simp -dsimp -implicitDefEqProofs
  refine LoopC.on (σ := Nat) (fun i j => [.ro fu 2 (xs.map fun b => [I b.lo, I b.hi]), j 1, .ptr 0 0, .ptr 1 0, j 4, j 5, .ro fu 2 (xs.map fun b => [I b.lo, I b.hi]), I xs.length, I i, j 9, j 10, j 11, j 12, j 13, j 14, j 15, j 16, j 17, j 18, j 19, j 20, j 21, j 22, j 23, j 24, j 25])
    (fun i k => i ≤ xs.length ∧ (∃ m, k.next = m + 2) ∧ k.get 0 = some [I 0, I 0] ∧ k.get 1 = some [I (total (xs.take i)).lo, I (total (xs.take i)).hi]) (fun i => xs.length - i) 0 ⟨by omega, ⟨0, rfl⟩, rfl, rfl⟩ (by simp) ?_
  rintro i j k ⟨hi, ⟨m, hm⟩, hk0, hk1⟩
  simp -dsimp -implicitDefEqProofs
  refine ifD_in (fun hlt => ?_) (fun hge => ?_)
  · have hx := List.getElem?_eq_getElem (show i < xs.length by omega)
    simp -dsimp -implicitDefEqProofs [hx, hm, hk0, hk1]
    have h1 := total_in hb i (by omega)
    have h2 := hb _ (List.getElem_mem (show i < xs.length by omega))
    have h3 : total (xs.take (i + 1)) = ⟨(total (xs.take i)).lo + xs[i].lo, (total (xs.take i)).hi + xs[i].hi⟩ := by rw [List.take_add_one, hx, Option.toList_some, total_snoc]
    refine ⟨i + 1, ⟨by omega, ?_, ?_⟩, ?_, by omega⟩
    · rw [h3, wrap_in (by omega) (by omega)]
    · rw [h3, wrap_in (by omega) (by omega)]
    · rw [wrap_in (by omega) (by omega)]; omega
  · simp -dsimp -implicitDefEqProofs [hk0, hk1, hm]
    have : xs.take i = xs := List.take_of_length_le (by omega)
    rw [this]; exact ⟨rfl, rfl⟩

def validC (c : Ct) : Bool := ((decide (0 ≤ c.area) && decide (c.area ≤ 10000)) && (decide (0 ≤ c.pc) && decide (c.pc ≤ 100))) && (decide (0 ≤ c.melt) && decide (c.melt ≤ 100)) && validB c.snow 0 1000000
theorem validCatch_fn {c : Ct} {h : H} : Fn Try.prog 66 [c.av] h (B (validC c)) h := by
  refine Fn.keep noM noC (by kernel_rfl) Try.func66 rfl rfl fun _ => ?_
  simp -dsimp -implicitDefEqProofs
  refine onCall_in (within_fn (xs := [c.area]) (by simp)) ?_
  simp -dsimp -implicitDefEqProofs
  refine ifB_in (fun h1 => ?_) (fun h1 => ?_)
  · simp -dsimp -implicitDefEqProofs
    refine onCall_in (within_fn (xs := [c.pc]) (by simp)) ?_
    simp -dsimp -implicitDefEqProofs
    refine ifB_in (fun h2 => ?_) (fun h2 => ?_)
    · simp -dsimp -implicitDefEqProofs
      refine onCall_in (within_fn (xs := [c.melt]) (by simp)) ?_
      simp -dsimp -implicitDefEqProofs
      refine ifB_in (fun h3 => ?_) (fun h3 => ?_)
      · simp -dsimp -implicitDefEqProofs
        refine onCall_in (valid_fn (b := c.snow)) ?_
        simp -dsimp -implicitDefEqProofs [validC, h1, h2, h3]
      · simp -dsimp -implicitDefEqProofs [validC, h1, h2, h3]
    · simp -dsimp -implicitDefEqProofs [validC, h1, h2]
  · simp -dsimp -implicitDefEqProofs [validC, h1]

def melts (s w : Bd) : Bd := ⟨min w.lo s.lo, min w.hi s.hi⟩
def left (s w : Bd) : Bd := ⟨max 0 (s.lo - w.hi), max 0 (s.hi - w.lo)⟩
end Go.Pe
