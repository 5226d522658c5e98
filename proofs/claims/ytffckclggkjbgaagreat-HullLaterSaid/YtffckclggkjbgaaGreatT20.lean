import Derived.Test.YtffckclggkjbgaaGreatT17
import Derived.Test.YtffckclggkjbgaaGreatT19
set_option linter.unusedVariables false
set_option linter.unusedSimpArgs false
/- Plates: conditions for all of them; the package valid. -/
namespace Go.Pe
open Go Go.Proofs Go.Proofs.YtffckclggkjbgaaGreat
section
attribute [local simp] ap_skip ap_region ap_seq ap_cond ap_block ap_loop ap_exit ap_ret ap_seq_normal ap_seq_ret ap_seq_exit ap_block_normal ap_block_ret ap_block_exit ap_block_other ap_nil ap_draw ap_dr_nil ap_fin_ret ap_fin_normal ap_loopK dstT_zero dstT_succ Nat.add_assoc onSome_some onSome_none ifB_true ifB_false ifB_not onClo_clo onBool_bool onBool_tup frz_val frz_ro takeAt elemTy LeN_refl LeN_push LeN_set push_get push_next set_get set_next nil_get nil_next pop_move pop_assign pop_pick pop_load pop_fieldAddr pop_indexAddr pop_field pop_binOp pop_unOp pop_convert pop_extract pop_makeFunc pop_nilCheck pop_build pop_slice pop_len pop_max pop_min eop_alloc eop_box eop_store eop_buildSlice eop_makeSlice eop_append as_move as_assign as_pick as_load as_fieldAddr as_indexAddr as_field as_binOp as_unOp as_convert as_extract as_makeFunc as_nilCheck as_build as_slice as_len as_max as_min as_alloc as_box as_store as_buildSlice as_makeSlice as_append as_call cons_free cons_guard putA_some putA_none aev_tmp aev_int aev_bool aev_nil aev_func pickA_and pickA_or pickA_true pickA_false nnA_ptr nnA_rop idxA_some intOf_int boxA_some bin_int binI_add binI_sub binI_mul binI_quo binI_rem binI_eql binI_neq binI_lss binI_leq binI_gtr binI_geq unA_not unA_neg loadA_ptr loadA_rop loadO_some asLoaded_agg asLoaded_one resA_one resA_two resOne_tmp resOne_cell cellsOf_int cellsOf_bool cellsOf_clo cellsOf_ptr cellsOf_ro cellsOf_sl cellsOf_nil cellsOf_agg one_int one_bool one_nil one_clo one_ptr one_ro one_sl one_rop mm_max mm_min elS_sl elS2_sl mkA_some chunk_zero chunk_succ zcells_zero zcells_succ clean_val clean_ro clean_rop clean1_val clean1_ro clean1_rop flat_val flat_ro flat_agg frz_agg frz_tup
attribute [local simp] t3 u3 t4 u4 t5 u5 t22 u22 t23 u23 t25 u25 t27 u27 t28 u28 t30 u30 t32 u32   t37 u37 t43 u43     t50 u50   t75 u75 t77 u77     t94 u94   t102 u102 t117 u117 t119 u119     t130 u130 t134 u134 t138 u138   t155 u155 t156 u156   t172 u172

attribute [local simp] tz22 uz22 tz26 uz26 tz29 uz29 tz30 uz30 tz68 uz68 tz69 uz69
set_option maxRecDepth 20000
theorem vEvery1_int {f : FuncId} {caps : List AV} {h : H} {b : Nat} {x : Int} {v : Bool} (hb : h.get b = some [.clo f caps]) (hF : Fn Tryz.prog f ([I x] ++ caps) h (B v) h) : Fn Tryz.prog 139 [I x, .ptr b 0] h (B !v) h := by
  refine Fn.keep noM noC (by kernel_rfl) Tryz.func139 rfl rfl fun _ => ?_
  simp -dsimp -implicitDefEqProofs [hb]
  refine onCall_in hF ?_
  simp -dsimp -implicitDefEqProofs

theorem vEvery_int {f : FuncId} {caps : List AV} {h : H} {p : Int → Bool} {xs : List Int} {fu : Bool} (hlen : (xs.length : Int) < 2^62) (hF : ∀ x ∈ xs, Fn Tryz.prog f ([I x] ++ caps) (h.push [.clo f caps]) (B (p x)) (h.push [.clo f caps])) :
    Fn Tryz.prog 99 [.ro fu 1 (xs.map fun x => [I x]), .clo f caps] h (B (xs.all p)) h := by
  refine Fn.keep noM noC (by kernel_rfl) Tryz.func99 rfl rfl fun _ => ?_
  simp -dsimp -implicitDefEqProofs
  refine onCall_in (containsFunc_int (p := fun x => !p x) hlen fun x hx => vEvery1_int (b := h.next) (f := f) (caps := caps) (by simp) (hF x hx)) ?_
  simp -dsimp -implicitDefEqProofs
  rw [Bool.eq_iff_iff]; simp

theorem vWithin1 {lo hi x : Int} {h : H} {a b : Nat} (ha : h.get a = some [I lo]) (hb : h.get b = some [I hi]) : Fn Tryz.prog 100 [I x, .ptr a 0, .ptr b 0] h (B (decide (lo ≤ x) && decide (x ≤ hi))) h := by
  refine Fn.keep noM noC (by kernel_rfl) Tryz.func100 rfl rfl fun _ => ?_
  simp -dsimp -implicitDefEqProofs [ha, hb]
  refine ifD_in (fun h => ?_) (fun h => ?_)
  · simp -dsimp -implicitDefEqProofs [hb, h]
  · simp -dsimp -implicitDefEqProofs [hb, h]

theorem vWithin_fn {lo hi : Int} {h : H} {xs : List Int} {fu : Bool} (hlen : (xs.length : Int) < 2^62) : Fn Tryz.prog 60 [I lo, I hi, .ro fu 1 (xs.map fun x => [I x])] h (B (xs.all fun x => decide (lo ≤ x) && decide (x ≤ hi))) h := by
  refine Fn.keep noM noC (by kernel_rfl) Tryz.func60 rfl rfl fun _ => ?_
  simp -dsimp -implicitDefEqProofs
  refine onCall_in (vEvery_int (p := fun x => decide (lo ≤ x) && decide (x ≤ hi)) hlen fun x hx => vWithin1 (by simp) (by simp)) ?_
  simp -dsimp -implicitDefEqProofs
end
section
attribute [local simp] ap_skip ap_region ap_seq ap_cond ap_block ap_loop ap_exit ap_ret ap_seq_normal ap_seq_ret ap_seq_exit ap_block_normal ap_block_ret ap_block_exit ap_block_other ap_nil ap_draw ap_dr_nil ap_fin_ret ap_fin_normal ap_loopK dstT_zero dstT_succ Nat.add_assoc onSome_some onSome_none ifB_true ifB_false ifB_not onClo_clo onBool_bool onBool_tup frz_val frz_ro takeAt elemTy LeN_refl LeN_push LeN_set push_get push_next set_get set_next nil_get nil_next pop_move pop_assign pop_pick pop_load pop_fieldAddr pop_indexAddr pop_field pop_binOp pop_unOp pop_convert pop_extract pop_makeFunc pop_nilCheck pop_build pop_slice pop_len pop_max pop_min eop_alloc eop_box eop_store eop_buildSlice eop_makeSlice eop_append as_move as_assign as_pick as_load as_fieldAddr as_indexAddr as_field as_binOp as_unOp as_convert as_extract as_makeFunc as_nilCheck as_build as_slice as_len as_max as_min as_alloc as_box as_store as_buildSlice as_makeSlice as_append as_call cons_free cons_guard putA_some putA_none aev_tmp aev_int aev_bool aev_nil aev_func pickA_and pickA_or pickA_true pickA_false nnA_ptr nnA_rop idxA_some intOf_int boxA_some bin_int binI_add binI_sub binI_mul binI_quo binI_rem binI_eql binI_neq binI_lss binI_leq binI_gtr binI_geq unA_not unA_neg loadA_ptr loadA_rop loadO_some asLoaded_agg asLoaded_one resA_one resA_two resOne_tmp resOne_cell cellsOf_int cellsOf_bool cellsOf_clo cellsOf_ptr cellsOf_ro cellsOf_sl cellsOf_nil cellsOf_agg one_int one_bool one_nil one_clo one_ptr one_ro one_sl one_rop mm_max mm_min elS_sl elS2_sl mkA_some chunk_zero chunk_succ zcells_zero zcells_succ clean_val clean_ro clean_rop clean1_val clean1_ro clean1_rop flat_val flat_ro flat_agg frz_agg frz_tup
attribute [local simp] t3 u3 t4 u4 t5 u5 t22 u22 t23 u23 t25 u25 t27 u27 t28 u28 t30 u30 t32 u32   t37 u37 t43 u43     t50 u50   t75 u75 t77 u77     t94 u94   t102 u102 t117 u117 t119 u119     t130 u130 t134 u134 t138 u138   t155 u155 t156 u156   t172 u172
attribute [local simp] lenA_ro indexA_ro
attribute [local simp] tz22 uz22 tz26 uz26 tz29 uz29 tz30 uz30 tz68 uz68 tz69 uz69
set_option maxRecDepth 20000
theorem indexFunc_plate {f : FuncId} {caps : List AV} {h : H} {p : List AV → Bool} {xs : List (List AV)} {fu : Bool} (hlen : (xs.length : Int) < 2^62) (hk : ∀ r ∈ xs, r.length = 4) (hF : ∀ x ∈ xs, Fn Tryz.prog f ([AV.agg x] ++ caps) h (B (p x)) h) :
    Fn Tryz.prog 154 [.ro fu 4 xs, .clo f caps] h (I (idx p xs)) h := by
  refine Fn.keep noM noC (by kernel_rfl) Tryz.func154 rfl rfl fun _ => ?_
  simp -dsimp -implicitDefEqProofs
  refine LoopC.on (σ := Nat) (fun i j => [.ro fu 4 xs, .clo f caps, j 2, j 3, j 4, j 5, j 6, I xs.length, I i, j 9, j 10, j 11, j 12, j 13, j 14, j 15, j 16, j 17, j 18])
    (fun i k => k = h ∧ i ≤ xs.length ∧ ∀ q, q < i → ∀ x, xs[q]? = some x → p x = false) (fun i => xs.length - i) 0 ⟨rfl, by omega, fun q hq => by omega⟩ (by simp) ?_
  rintro i j h' ⟨rfl, hi, hp⟩
  simp -dsimp -implicitDefEqProofs
  refine ifD_in (fun hlt => ?_) (fun hge => ?_)
  · have hx := List.getElem?_eq_getElem (show i < xs.length by omega)
    have hl := hk _ (List.getElem_mem (show i < xs.length by omega))
    have ht : xs[i].take 4 = xs[i] := List.take_of_length_le (by omega)
    simp -dsimp -implicitDefEqProofs [hx, hl, ht]
    refine onCall_in (hF _ (List.getElem_mem (by omega))) ?_
    simp -dsimp -implicitDefEqProofs
    refine ifB_in (fun hb => by simp -dsimp -implicitDefEqProofs [idx_hit hx hb hp]) (fun hb => ?_)
    simp -dsimp -implicitDefEqProofs
    refine ⟨i + 1, ⟨by omega, fun q hq x hqx => ?_⟩, ?_, by omega⟩
    · by_cases hqi : q = i
      · subst hqi; rw [hx] at hqx; cases hqx; simpa using hb
      · exact hp q (by omega) x hqx
    · rw [wrap_in (by omega) (by omega)]; omega
  · simp -dsimp -implicitDefEqProofs
    exact (idx_miss fun q hq => hp q (by omega)).symm
theorem containsFunc_plate {f : FuncId} {caps : List AV} {h : H} {p : List AV → Bool} {xs : List (List AV)} {fu : Bool} (hlen : (xs.length : Int) < 2^62) (hk : ∀ r ∈ xs, r.length = 4) (hF : ∀ x ∈ xs, Fn Tryz.prog f ([AV.agg x] ++ caps) h (B (p x)) h) :
    Fn Tryz.prog 117 [.ro fu 4 xs, .clo f caps] h (B (xs.any p)) h := by
  refine Fn.keep noM noC (by kernel_rfl) Tryz.func117 rfl rfl fun _ => ?_
  simp -dsimp -implicitDefEqProofs
  refine onCall_in (indexFunc_plate hlen hk hF) ?_
  simp -dsimp -implicitDefEqProofs
  exact idx_any
theorem every1_plate {f : FuncId} {caps : List AV} {h : H} {b : Nat} {x : List AV} {v : Bool} (hb : h.get b = some [.clo f caps]) (ho : ∀ a ∈ x, one a = true) (hl : x.length = 4) (hF : Fn Tryz.prog f ([AV.agg x] ++ caps) (h.push x) (B v) (h.push x)) : Fn Tryz.prog 118 [AV.agg x, .ptr b 0] h (B !v) h := by
  refine Fn.keep noM noC (by kernel_rfl) Tryz.func118 rfl rfl fun live => ?_
  have hne : ¬ b = h.next := by have := (live.1 b _ hb).1; omega
  have ht : x.take 4 = x := List.take_of_length_le (by omega)
  simp -dsimp -implicitDefEqProofs [hb, hl, ht, hne]
  rw [if_pos ho]
  simp -dsimp -implicitDefEqProofs [hb, hl, ht, hne]
  refine onCall_in hF ?_
  simp -dsimp -implicitDefEqProofs
theorem every_plate {f : FuncId} {caps : List AV} {h : H} {p : List AV → Bool} {xs : List (List AV)} {fu : Bool} (hlen : (xs.length : Int) < 2^62) (hk : ∀ r ∈ xs, r.length = 4) (ho : ∀ x ∈ xs, ∀ a ∈ x, one a = true) (hF : ∀ x ∈ xs, Fn Tryz.prog f ([AV.agg x] ++ caps) ((h.push [.clo f caps]).push x) (B (p x)) ((h.push [.clo f caps]).push x)) :
    Fn Tryz.prog 81 [.ro fu 4 xs, .clo f caps] h (B (xs.all p)) h := by
  refine Fn.keep noM noC (by kernel_rfl) Tryz.func81 rfl rfl fun _ => ?_
  simp -dsimp -implicitDefEqProofs
  refine onCall_in (containsFunc_plate (p := fun x => !p x) hlen hk fun x hx => every1_plate (b := h.next) (f := f) (caps := caps) (by simp) (ho x hx) (hk x hx) (hF x hx)) ?_
  simp -dsimp -implicitDefEqProofs
  rw [Bool.eq_iff_iff]; simp

end
section
attribute [local simp] ap_skip ap_region ap_seq ap_cond ap_block ap_loop ap_exit ap_ret ap_seq_normal ap_seq_ret ap_seq_exit ap_block_normal ap_block_ret ap_block_exit ap_block_other ap_nil ap_draw ap_dr_nil ap_fin_ret ap_fin_normal ap_loopK dstT_zero dstT_succ Nat.add_assoc onSome_some onSome_none ifB_true ifB_false ifB_not onClo_clo onBool_bool onBool_tup frz_val frz_ro takeAt elemTy LeN_refl LeN_push LeN_set push_get push_next set_get set_next nil_get nil_next pop_move pop_assign pop_pick pop_load pop_fieldAddr pop_indexAddr pop_field pop_binOp pop_unOp pop_convert pop_extract pop_makeFunc pop_nilCheck pop_build pop_slice pop_len pop_max pop_min eop_alloc eop_box eop_store eop_buildSlice eop_makeSlice eop_append as_move as_assign as_pick as_load as_fieldAddr as_indexAddr as_field as_binOp as_unOp as_convert as_extract as_makeFunc as_nilCheck as_build as_slice as_len as_max as_min as_alloc as_box as_store as_buildSlice as_makeSlice as_append as_call cons_free cons_guard putA_some putA_none aev_tmp aev_int aev_bool aev_nil aev_func pickA_and pickA_or pickA_true pickA_false nnA_ptr nnA_rop idxA_some intOf_int boxA_some bin_int binI_add binI_sub binI_mul binI_quo binI_rem binI_eql binI_neq binI_lss binI_leq binI_gtr binI_geq unA_not unA_neg loadA_ptr loadA_rop loadO_some asLoaded_agg asLoaded_one resA_one resA_two resOne_tmp resOne_cell cellsOf_int cellsOf_bool cellsOf_clo cellsOf_ptr cellsOf_ro cellsOf_sl cellsOf_nil cellsOf_agg one_int one_bool one_nil one_clo one_ptr one_ro one_sl one_rop mm_max mm_min elS_sl elS2_sl mkA_some chunk_zero chunk_succ zcells_zero zcells_succ clean_val clean_ro clean_rop clean1_val clean1_ro clean1_rop flat_val flat_ro flat_agg frz_agg frz_tup
attribute [local simp] t3 u3 t4 u4 t5 u5 t22 u22 t23 u23 t25 u25 t27 u27 t28 u28 t30 u30 t32 u32   t37 u37 t43 u43     t50 u50   t75 u75 t77 u77     t94 u94   t102 u102 t117 u117 t119 u119     t130 u130 t134 u134 t138 u138   t155 u155 t156 u156   t172 u172
attribute [local simp] lenA_ro indexA_ro fieldA fldA partA buildA fillA storeA buildSliceA

attribute [local simp] quietA effectful allocs fpo findNew_nil q_move q_assign q_pick q_load q_fieldAddr q_indexAddr q_field q_binOp q_unOp q_convert q_extract q_makeFunc q_nilCheck q_build q_slice q_len q_max q_min e_alloc e_box e_store e_buildSlice e_makeSlice e_append q_call e_call dr_free dr_guard qView_next eView_next hit_nil hit_cons qView_get optL_some optL_none eView_get fp_alloc fp_box fp_make fp_append fp_build fp_call fp_store mergeG_get LeN_nil new_store findNew_cons
attribute [local simp] tz22 uz22 tz26 uz26 tz29 uz29 tz30 uz30 tz68 uz68 tz69 uz69
set_option maxRecDepth 20000
theorem bounds_fn {b : Bd} {lo hi : Int} {h : H} : Fn Tryz.prog 102 [b.av, I lo, I hi] h (B (validB b lo hi)) h := by
  refine Fn.keep noM noC (by kernel_rfl) Tryz.func102 rfl rfl fun _ => ?_
  simp -dsimp -implicitDefEqProofs
  refine ifD_in (fun h => ?_) (fun h => ?_)
  · simp -dsimp -implicitDefEqProofs
    refine onCall_in (vWithin_fn (xs := [b.lo, b.hi]) (by simp)) ?_
    simp -dsimp -implicitDefEqProofs [validB, h]
  · simp -dsimp -implicitDefEqProofs [validB, h]

end
end Go.Pe

/- Plates: how long one lasts. -/
namespace Go.Pe
open Go Go.Proofs Go.Proofs.YtffckclggkjbgaaGreat
attribute [local simp] t3 u3 t4 u4 t5 u5 t22 u22 t23 u23 t25 u25 t27 u27 t28 u28 t30 u30 t32 u32 t37 u37 t43 u43 t50 u50 t75 u75 t77 u77 t94 u94 t102 u102 t117 u117 t119 u119 t130 u130 t134 u134 t138 u138 t155 u155 t156 u156 t172 u172
attribute [local simp] tz22 uz22 tz26 uz26 tz29 uz29 tz30 uz30 tz68 uz68 tz69 uz69
set_option maxRecDepth 20000
set_option maxHeartbeats 8000000

structure Pl where
  thick : Bd
  wear : Bd
noncomputable def fP (p : Pl) : List AV := [I p.thick.lo, I p.thick.hi, I p.wear.lo, I p.wear.hi]
theorem fP_eq {p : Pl} : fP p = [I p.thick.lo, I p.thick.hi, I p.wear.lo, I p.wear.hi] := rfl
attribute [local simp] fP_eq
def okP (p : Pl) : Bool := vB 0 100000 p.thick && vB 0 1000 p.wear
theorem bnd_fn {b : Bd} {lo hi : Int} {h : H} : Fn Tryz.prog 102 [.agg [I b.lo, I b.hi], I lo, I hi] h (B (vB lo hi b)) h := bounds_fn
theorem validPlate_fn {p : Pl} {h : H} : Fn Tryz.prog 82 [.agg (fP p)] h (B (okP p)) h := by
  refine Fn.beside ?_ rfl h
  refine Fn.ofR0 noM (by kernel_rfl) Tryz.func82 rfl (by simp) ?_
  simp -dsimp -implicitDefEqProofs
  refine onCall_in bnd_fn ?_
  simp -dsimp -implicitDefEqProofs
  refine ifB_in (fun h1 => ?_) (fun h1 => ?_)
  · simp -dsimp -implicitDefEqProofs
    refine onCall_in bnd_fn ?_
    simp -dsimp -implicitDefEqProofs [okP, h1]
  · simp -dsimp -implicitDefEqProofs [okP, h1]

/-- The years that a plate lasts of which so much may wear off, with so much a year. -/
def yA (s w : Int) : Int := if s < 0 then -1 else if w = 0 then 1000 else min (s / w) 1000
theorem yearsAt_fn {s w : Int} {h : H} (h1 : -2^62 < s) (h2 : s < 2^62) (hw : 0 ≤ w) : Fn Tryz.prog 119 [I s, I w] h (I (yA s w)) h := by
  refine Fn.beside ?_ rfl h
  refine Fn.ofR0 noM (by kernel_rfl) Tryz.func119 rfl (by simp) ?_
  simp -dsimp -implicitDefEqProofs
  refine ifD_in (fun hs => ?_) (fun hs => ?_)
  · simp -dsimp -implicitDefEqProofs [yA, hs]
  simp -dsimp -implicitDefEqProofs
  refine ifD_in (fun h0 => ?_) (fun h0 => ?_)
  · simp -dsimp -implicitDefEqProofs [yA, hs, h0]
  have hk : w ≠ 0 := by simpa using h0
  have hq : s.tdiv w = s / w := Int.tdiv_eq_ediv_of_nonneg (by omega)
  have hb : (s.tdiv w).natAbs ≤ s.natAbs := by rw [Int.natAbs_tdiv]; exact Nat.div_le_self _ _
  have w1 : IntKind.i64.wrap (s.tdiv w) = s.tdiv w := wrap_in (by omega) (by omega)
  simp -dsimp -implicitDefEqProofs [hk, w1]
  simp [yA, hs, hk, hq]
theorem yearsOf_fn {p : Pl} {least : Int} {h : H} (hp : okP p = true) (hl : 0 ≤ least ∧ least ≤ 100000) : Fn Tryz.prog 83 [.agg (fP p), I least] h (.agg [I (yA (p.thick.lo - least) p.wear.hi), I (yA (p.thick.hi - least) p.wear.lo)]) h := by
  refine Fn.beside ?_ rfl h
  have hp' : okP p = true := hp
  simp [okP, vB_iff] at hp'
  obtain ⟨⟨a1, ⟨a2, a3⟩, a4, a5⟩, b1, ⟨b2, b3⟩, b4, b5⟩ := hp'
  have w1 := wrap_in (n := p.thick.lo - least) (by omega) (by omega)
  have w2 := wrap_in (n := p.thick.hi - least) (by omega) (by omega)
  refine Fn.ofR0 noM (by kernel_rfl) Tryz.func83 rfl (by simp) ?_
  simp -dsimp -implicitDefEqProofs
  refine DrawR.on { M := [1], eff := [(19, [1])] } (by kernel_rfl) (by simp) ?_
  simp -dsimp -implicitDefEqProofs [w1, w2]
  refine onCallQ_in ((yearsAt_fn (by omega) (by omega) (by omega)).beside rfl _) ?_
  simp -dsimp -implicitDefEqProofs [w1, w2]
  refine onCallQ_in ((yearsAt_fn (by omega) (by omega) (by omega)).beside rfl _) ?_
  simp -dsimp -implicitDefEqProofs [w1, w2]
end Go.Pe

/- Plates: the reference's years of one. -/
namespace Go.Pe
open Go Go.Proofs Go.Proofs.YtffckclggkjbgaaGreat
attribute [local simp] t3 u3 t4 u4 t5 u5 t22 u22 t23 u23 t25 u25 t27 u27 t28 u28 t30 u30 t32 u32 t37 u37 t43 u43 t50 u50 t75 u75 t77 u77 t94 u94 t102 u102 t117 u117 t119 u119 t130 u130 t134 u134 t138 u138 t155 u155 t156 u156 t172 u172
attribute [local simp] tz22 uz22 tz26 uz26 tz29 uz29 tz30 uz30 tz68 uz68 tz69 uz69
set_option maxRecDepth 20000
set_option maxHeartbeats 8000000

theorem yA_full {s w : Int} {i : Nat} (hs : 0 ≤ s) (hw : 0 ≤ w) (hi : (i : Int) * w ≤ s) (h1 : i = 1000) : yA s w = i := by
  subst h1
  have : ¬ s < 0 := by omega
  unfold yA
  rw [if_neg this]
  by_cases h0 : w = 0
  · simp [h0]
  · have : (1000 : Int) ≤ s / w := Int.le_ediv_of_mul_le (by omega) hi
    rw [if_neg h0]; simp only [Int.min_def]; split <;> omega
theorem yA_end {s w : Int} {i : Nat} (hs : 0 ≤ s) (hw : 0 ≤ w) (h1 : (i : Int) ≤ 1000) (hi : (i : Int) * w ≤ s) (he : s < ((i : Int) + 1) * w) : yA s w = i := by
  have : ¬ s < 0 := by omega
  unfold yA
  rw [if_neg this]
  by_cases h0 : w = 0
  · subst h0; simp at he; omega
  · have e : s / w = i := by
      have a : (i : Int) ≤ s / w := Int.le_ediv_of_mul_le (by omega) hi
      have b : s / w < (i : Int) + 1 := Int.ediv_lt_of_lt_mul (by omega) he
      omega
    rw [if_neg h0, e]; simp only [Int.min_def]; split <;> omega
theorem Years_fn {t w l : Int} {h : H} (ht : 0 ≤ t ∧ t ≤ 100000) (hw : 0 ≤ w ∧ w ≤ 1000) (hl : 0 ≤ l ∧ l ≤ 100000) : Fn Tryz.prog 84 [I t, I w, I l] h (I (yA (t - l) w)) h := by
  refine Fn.beside ?_ rfl h
  refine Fn.ofR0 noM (by kernel_rfl) Tryz.func84 rfl (by simp) ?_
  simp -dsimp -implicitDefEqProofs
  refine ifD_in (fun hs => ?_) (fun hs => ?_)
  · have : t - l < 0 := by omega
    simp -dsimp -implicitDefEqProofs [yA, this]
  simp -dsimp -implicitDefEqProofs
  refine LoopCR.on 26 (fun i => [(0, I t), (1, I w), (2, I l), (7, I (i : Nat))]) (fun i => []) (fun i => i ≤ 1000 ∧ (i : Int) * w ≤ t - l) (fun i => 1000 - i) 0 [] (by simp; omega) ?_ ?_
  · simp -dsimp -implicitDefEqProofs
  rintro i j ⟨hi, hm⟩
  simp -dsimp -implicitDefEqProofs
  refine ifD_in (fun hlt => ?_) (fun hge => ?_)
  · have hm1 : ((i : Int) + 1) * w ≤ 1001 * 1000 := by
      have := Int.mul_le_mul (show (i : Int) + 1 ≤ 1001 by omega) hw.2 hw.1 (by omega)
      exact this
    have hm0 : 0 ≤ ((i : Int) + 1) * w := Int.mul_nonneg (by omega) hw.1
    have w1 := wrap_in (n := (i : Int) + 1) (by omega) (by omega)
    have w2 := wrap_in (n := ((i : Int) + 1) * w) (by omega) (by omega)
    have w3 := wrap_in (n := t - ((i : Int) + 1) * w) (by omega) (by omega)
    simp -dsimp -implicitDefEqProofs [w1, w2, w3]
    refine ifD_in (fun h1 => ?_) (fun h1 => ?_)
    · simp -dsimp -implicitDefEqProofs [w1]
      refine again_in (i + 1) [] (by constructor; · omega
                                     · push_cast; omega) (by omega) ?_
      simp -dsimp -implicitDefEqProofs
    · simp -dsimp -implicitDefEqProofs
      exact (yA_end (by omega) hw.1 (by omega) hm (by omega)).symm
  · simp -dsimp -implicitDefEqProofs
    exact (yA_full (by omega) hw.1 hm (by omega)).symm
end Go.Pe

/- Plates: the reference's life of a hull. -/
namespace Go.Pe
open Go Go.Proofs Go.Proofs.YtffckclggkjbgaaGreat
attribute [local simp] t3 u3 t4 u4 t5 u5 t22 u22 t23 u23 t25 u25 t27 u27 t28 u28 t30 u30 t32 u32 t37 u37 t43 u43 t50 u50 t75 u75 t77 u77 t94 u94 t102 u102 t117 u117 t119 u119 t130 u130 t134 u134 t138 u138 t155 u155 t156 u156 t172 u172
attribute [local simp] tz22 uz22 tz26 uz26 tz29 uz29 tz30 uz30 tz68 uz68 tz69 uz69
attribute [local simp] fP_eq
set_option maxRecDepth 20000
set_option maxHeartbeats 8000000

structure Lf where
  lo : Int
  hi : Int
  k : Nat
def loP (least : Int) (p : Pl) : Int := yA (p.thick.lo - least) p.wear.hi
def hiP (least : Int) (p : Pl) : Int := yA (p.thick.hi - least) p.wear.lo
def lfS (least : Int) (i : Nat) (s : Lf) (p : Pl) : Lf := ⟨if loP least p < s.lo then loP least p else s.lo, min s.hi (hiP least p), if loP least p < s.lo then i else s.k⟩
def lfI (m least : Int) (l : List Pl) : Nat → Lf
  | 0 => ⟨m, m, 0⟩
  | i + 1 => match l[i]? with | some p => lfS least i (lfI m least l i) p | none => lfI m least l i
theorem lfI_zero {m least : Int} {l : List Pl} : lfI m least l 0 = ⟨m, m, 0⟩ := rfl
theorem lfI_succ {m least : Int} {l : List Pl} {i : Nat} {p : Pl} (h : l[i]? = some p) : lfI m least l (i + 1) = lfS least i (lfI m least l i) p := by simp [lfI, h]
theorem yA_le {s w : Int} : yA s w ≤ 1000 := by
  unfold yA
  split
  · omega
  · split <;> omega
theorem lfS_first {m least : Int} {p : Pl} (h : 1000 ≤ m) : lfS least 0 ⟨m, m, 0⟩ p = ⟨loP least p, hiP least p, 0⟩ := by
  have a : loP least p ≤ 1000 := yA_le
  have b : hiP least p ≤ 1000 := yA_le
  have c1 : (if loP least p < m then loP least p else m) = loP least p := by split <;> omega
  have c3 : min m (hiP least p) = hiP least p := by omega
  show (⟨if loP least p < m then loP least p else m, min m (hiP least p), if loP least p < m then 0 else 0⟩ : Lf) = _
  rw [c1, c3, ite_self]
/-- From any high beginning the same comes. -/
theorem lfI_any {m m' least : Int} {l : List Pl} (h1 : 1000 ≤ m) (h2 : 1000 ≤ m') : ∀ i, 0 < i → i ≤ l.length → lfI m least l i = lfI m' least l i := by
  intro i h0 hi
  induction i with
  | zero => omega
  | succ i ih =>
    obtain ⟨p, hx⟩ : ∃ p, l[i]? = some p := ⟨_, List.getElem?_eq_getElem (by omega)⟩
    rw [lfI_succ hx, lfI_succ hx]
    by_cases hz : i = 0
    · subst hz
      rw [lfI_zero, lfI_zero, lfS_first h1, lfS_first h2]
    · rw [ih (by omega) (by omega)]

theorem rLife_fn {l : List Pl} {least : Int} {h : H} {fu : Bool} (hn : l.length ≤ 100) (hp : ∀ p ∈ l, okP p = true) (hl : 0 ≤ least ∧ least ≤ 100000) :
    Fn Tryz.prog 43 [.ro fu 4 (l.map fP), I least] h (.tup [.agg [I (lfI 1000000 least l l.length).lo, I (lfI 1000000 least l l.length).hi], I (lfI 1000000 least l l.length).k]) h := by
  refine Fn.beside ?_ rfl h
  refine Fn.ofR0 noM (by kernel_rfl) Tryz.func43 rfl (by simp) ?_
  simp -dsimp -implicitDefEqProofs
  refine LoopCR.on 58 (fun i => [(0, .ro fu 4 (l.map fP)), (1, I least), (4, .ptr 0 0), (6, .ptr 1 0), (7, I (lfI 1000000 least l i).k), (8, I (i : Nat))]) (fun i => [some [I 0, I 0], some [I (lfI 1000000 least l i).lo, I (lfI 1000000 least l i).hi]]) (fun i => i ≤ l.length) (fun i => l.length - i) 0 [0, 1] (by simp) ?_ ?_
  · simp -dsimp -implicitDefEqProofs [lfI_zero]
  intro i j hi
  simp -dsimp -implicitDefEqProofs
  refine ifD_in (fun hlt => ?_) (fun hge => ?_)
  · have hlt' : i < l.length := by omega
    obtain ⟨p, hx⟩ : ∃ p, l[i]? = some p := ⟨_, List.getElem?_eq_getElem hlt'⟩
    have hok := hp p (List.mem_of_getElem? hx)
    have hok' := hok
    simp [okP, vB_iff] at hok'
    obtain ⟨⟨a1, ⟨a2, a3⟩, a4, a5⟩, b1, ⟨b2, b3⟩, b4, b5⟩ := hok'
    obtain ⟨s, hs⟩ : ∃ s, s = lfI 1000000 least l i := ⟨_, rfl⟩
    have hnew : lfI 1000000 least l (i + 1) = lfS least i s p := by rw [lfI_succ hx, ← hs]
    have w1 : IntKind.i64.wrap ((i : Int) + 1) = (i : Int) + 1 := wrap_in (by omega) (by omega)
    simp -dsimp -implicitDefEqProofs [hx, ← hs]
    refine DrawR.on {} (by kernel_rfl) (by simp) ?_
    simp -dsimp -implicitDefEqProofs [hx]
    refine onCallQ_in ((Years_fn ⟨a2, a3⟩ ⟨b4, b5⟩ hl).beside rfl _) ?_
    simp -dsimp -implicitDefEqProofs
    refine ifD_in (fun h3 => ?_) (fun h3 => ?_)
    · simp -dsimp -implicitDefEqProofs [hx]
      refine DrawR.on { M := [1], see := [(1, 1)], eff := [(18, [1])] } (by kernel_rfl) (by simp) ?_
      simp -dsimp -implicitDefEqProofs [hx]
      refine onCallQ_in ((Years_fn ⟨a4, a5⟩ ⟨b2, b3⟩ hl).beside rfl _) ?_
      simp -dsimp -implicitDefEqProofs [w1]
      refine again_in (i + 1) [0, 1] (by omega) (by omega) ?_
      have h3' : loP least p < s.lo := h3
      simp -dsimp -implicitDefEqProofs [hnew, lfS, h3']
      exact ⟨rfl, rfl⟩
    · simp -dsimp -implicitDefEqProofs [hx]
      refine DrawR.on { M := [1], see := [(1, 1)], eff := [(18, [1])] } (by kernel_rfl) (by simp) ?_
      simp -dsimp -implicitDefEqProofs [hx]
      refine onCallQ_in ((Years_fn ⟨a4, a5⟩ ⟨b2, b3⟩ hl).beside rfl _) ?_
      simp -dsimp -implicitDefEqProofs [w1]
      refine again_in (i + 1) [0, 1] (by omega) (by omega) ?_
      have h3' : ¬ loP least p < s.lo := h3
      simp -dsimp -implicitDefEqProofs [hnew, lfS, h3']
      rfl
  · have hin : i = l.length := by omega
    subst hin
    simp -dsimp -implicitDefEqProofs
end Go.Pe
