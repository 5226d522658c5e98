import Derived.Test.YtffckclggkjbgaaGreatY20
import Derived.Test.YtffckclggkjbgaaGreatY10
set_option linter.unusedVariables false
set_option linter.unusedSimpArgs false
/- What melts. -/
namespace Go.Pe
open Go Go.Proofs Go.Proofs.YtffckclggkjbgaaGreat
attribute [local simp] ap_skip ap_region ap_seq ap_cond ap_block ap_loop ap_exit ap_ret ap_seq_normal ap_seq_ret ap_seq_exit ap_block_normal ap_block_ret ap_block_exit ap_block_other ap_nil ap_draw ap_dr_nil ap_fin_ret ap_fin_normal ap_loopK dstT_zero dstT_succ Nat.add_assoc onSome_some onSome_none ifB_true ifB_false ifB_not onClo_clo onBool_bool onBool_tup frz_val frz_ro takeAt elemTy LeN_refl LeN_push LeN_set push_get push_next set_get set_next nil_get nil_next pop_move pop_assign pop_pick pop_load pop_fieldAddr pop_indexAddr pop_field pop_binOp pop_unOp pop_convert pop_extract pop_makeFunc pop_nilCheck pop_build pop_slice pop_len pop_max pop_min eop_alloc eop_box eop_store eop_buildSlice eop_makeSlice eop_append as_move as_assign as_pick as_load as_fieldAddr as_indexAddr as_field as_binOp as_unOp as_convert as_extract as_makeFunc as_nilCheck as_build as_slice as_len as_max as_min as_alloc as_box as_store as_buildSlice as_makeSlice as_append as_call cons_free cons_guard putA_some putA_none aev_tmp aev_int aev_bool aev_nil aev_func pickA_and pickA_or pickA_true pickA_false nnA_ptr nnA_rop idxA_some intOf_int boxA_some bin_int binI_add binI_sub binI_mul binI_quo binI_rem binI_eql binI_neq binI_lss binI_leq binI_gtr binI_geq unA_not unA_neg loadA_ptr loadA_rop loadO_some asLoaded_agg asLoaded_one resA_one resA_two resOne_tmp resOne_cell cellsOf_int cellsOf_bool cellsOf_clo cellsOf_ptr cellsOf_ro cellsOf_sl cellsOf_nil cellsOf_agg one_int one_bool one_nil one_clo one_ptr one_ro one_sl one_rop mm_max mm_min elS_sl elS2_sl mkA_some chunk_zero chunk_succ zcells_zero zcells_succ clean_val clean_ro clean_rop clean1_val clean1_ro clean1_rop flat_val flat_ro flat_agg frz_agg frz_tup
attribute [local simp] t3 u3 t4 u4 t5 u5 t22 u22 t23 u23 t25 u25 t27 u27 t28 u28 t30 u30 t32 u32   t37 u37 t43 u43     t50 u50   t75 u75 t77 u77     t94 u94   t102 u102 t117 u117 t119 u119     t130 u130 t134 u134 t138 u138   t155 u155 t156 u156   t172 u172
attribute [local simp] lenA_ro indexA_ro fieldA fldA partA buildA fillA storeA buildSliceA

attribute [local simp] quietA effectful allocs fpo findNew_nil q_move q_assign q_pick q_load q_fieldAddr q_indexAddr q_field q_binOp q_unOp q_convert q_extract q_makeFunc q_nilCheck q_build q_slice q_len q_max q_min e_alloc e_box e_store e_buildSlice e_makeSlice e_append q_call e_call dr_free dr_guard qView_next eView_next hit_nil hit_cons qView_get optL_some optL_none eView_get fp_alloc fp_box fp_make fp_append fp_build fp_call fp_store mergeG_get LeN_nil new_store findNew_cons
attribute [local simp] one_get one_next ap_finw_ret ap_finw_normal
set_option maxRecDepth 20000
end Go.Pe

/- Conditions for all elements of lists of structs and of lists. -/
namespace Go.Pe
open Go Go.Proofs Go.Proofs.YtffckclggkjbgaaGreat
attribute [local simp] ap_skip ap_region ap_seq ap_cond ap_block ap_loop ap_exit ap_ret ap_seq_normal ap_seq_ret ap_seq_exit ap_block_normal ap_block_ret ap_block_exit ap_block_other ap_nil ap_draw ap_dr_nil ap_fin_ret ap_fin_normal ap_loopK dstT_zero dstT_succ Nat.add_assoc onSome_some onSome_none ifB_true ifB_false ifB_not onClo_clo onBool_bool onBool_tup frz_val frz_ro takeAt elemTy LeN_refl LeN_push LeN_set push_get push_next set_get set_next nil_get nil_next pop_move pop_assign pop_pick pop_load pop_fieldAddr pop_indexAddr pop_field pop_binOp pop_unOp pop_convert pop_extract pop_makeFunc pop_nilCheck pop_build pop_slice pop_len pop_max pop_min eop_alloc eop_box eop_store eop_buildSlice eop_makeSlice eop_append as_move as_assign as_pick as_load as_fieldAddr as_indexAddr as_field as_binOp as_unOp as_convert as_extract as_makeFunc as_nilCheck as_build as_slice as_len as_max as_min as_alloc as_box as_store as_buildSlice as_makeSlice as_append as_call cons_free cons_guard putA_some putA_none aev_tmp aev_int aev_bool aev_nil aev_func pickA_and pickA_or pickA_true pickA_false nnA_ptr nnA_rop idxA_some intOf_int boxA_some bin_int binI_add binI_sub binI_mul binI_quo binI_rem binI_eql binI_neq binI_lss binI_leq binI_gtr binI_geq unA_not unA_neg loadA_ptr loadA_rop loadO_some asLoaded_agg asLoaded_one resA_one resA_two resOne_tmp resOne_cell cellsOf_int cellsOf_bool cellsOf_clo cellsOf_ptr cellsOf_ro cellsOf_sl cellsOf_nil cellsOf_agg one_int one_bool one_nil one_clo one_ptr one_ro one_sl one_rop mm_max mm_min elS_sl elS2_sl mkA_some chunk_zero chunk_succ zcells_zero zcells_succ clean_val clean_ro clean_rop clean1_val clean1_ro clean1_rop flat_val flat_ro flat_agg frz_agg frz_tup
attribute [local simp] t3 u3 t4 u4 t5 u5 t22 u22 t23 u23 t25 u25 t27 u27 t28 u28 t30 u30 t32 u32   t37 u37 t43 u43     t50 u50   t75 u75 t77 u77     t94 u94   t102 u102 t117 u117 t119 u119     t130 u130 t134 u134 t138 u138   t155 u155 t156 u156   t172 u172
attribute [local simp] lenA_ro indexA_ro
set_option maxRecDepth 20000

theorem indexFunc_reach {f : FuncId} {caps : List AV} {h : H} {p : List AV → Bool} {xs : List (List AV)} {fu : Bool} (hlen : (xs.length : Int) < 2^62) (hk : ∀ r ∈ xs, r.length = 9) (hF : ∀ x ∈ xs, Fn Tryz.prog f ([AV.agg x] ++ caps) h (B (p x)) h) :
    Fn Tryz.prog 200 [.ro fu 9 xs, .clo f caps] h (I (idx p xs)) h := by
  refine Fn.keep noM noC (by kernel_rfl) Tryz.func200 rfl rfl fun _ => ?_
  simp -dsimp -implicitDefEqProofs
  refine LoopC.on (σ := Nat) (fun i j => [.ro fu 9 xs, .clo f caps, j 2, j 3, j 4, j 5, j 6, I xs.length, I i, j 9, j 10, j 11, j 12, j 13, j 14, j 15, j 16, j 17, j 18])
    (fun i k => k = h ∧ i ≤ xs.length ∧ ∀ q, q < i → ∀ x, xs[q]? = some x → p x = false) (fun i => xs.length - i) 0 ⟨rfl, by omega, fun q hq => by omega⟩ (by simp) ?_
  rintro i j h' ⟨rfl, hi, hp⟩
  simp -dsimp -implicitDefEqProofs
  refine ifD_in (fun hlt => ?_) (fun hge => ?_)
  · have hx := List.getElem?_eq_getElem (show i < xs.length by omega)
    have hl := hk _ (List.getElem_mem (show i < xs.length by omega))
    have ht : xs[i].take 9 = xs[i] := List.take_of_length_le (by omega)
    simp -dsimp -implicitDefEqProofs [hx, hl, ht]
    refine onCall_in (hF _ (List.getElem_mem (by omega))) ?_
    simp -dsimp -implicitDefEqProofs
    refine ifB_in (fun hb => by simp -dsimp -implicitDefEqProofs [idx_hit hx hb hp]) (fun hb => ?_)
    simp -dsimp -implicitDefEqProofs
    refine ⟨i + 1, ⟨by omega, fun q hq x hqx => ?_⟩, ?_, by omega⟩
    · by_cases hqi : q = i
      · subst hqi; rw [hx] at hqx; cases hqx; simpa using hb
      · exact hp q (by omega) x hqx
    · rw [wrap_in (by omega) (by omega)]; omega
  · simp -dsimp -implicitDefEqProofs
    exact (idx_miss fun q hq => hp q (by omega)).symm
theorem containsFunc_reach {f : FuncId} {caps : List AV} {h : H} {p : List AV → Bool} {xs : List (List AV)} {fu : Bool} (hlen : (xs.length : Int) < 2^62) (hk : ∀ r ∈ xs, r.length = 9) (hF : ∀ x ∈ xs, Fn Tryz.prog f ([AV.agg x] ++ caps) h (B (p x)) h) :
    Fn Tryz.prog 194 [.ro fu 9 xs, .clo f caps] h (B (xs.any p)) h := by
  refine Fn.keep noM noC (by kernel_rfl) Tryz.func194 rfl rfl fun _ => ?_
  simp -dsimp -implicitDefEqProofs
  refine onCall_in (indexFunc_reach hlen hk hF) ?_
  simp -dsimp -implicitDefEqProofs
  exact idx_any
theorem every1_reach {f : FuncId} {caps : List AV} {h : H} {b : Nat} {x : List AV} {v : Bool} (hb : h.get b = some [.clo f caps]) (ho : ∀ a ∈ x, one a = true) (hl : x.length = 9) (hF : Fn Tryz.prog f ([AV.agg x] ++ caps) (h.push x) (B v) (h.push x)) : Fn Tryz.prog 195 [AV.agg x, .ptr b 0] h (B !v) h := by
  refine Fn.keep noM noC (by kernel_rfl) Tryz.func195 rfl rfl fun live => ?_
  have hne : ¬ b = h.next := by have := (live.1 b _ hb).1; omega
  have ht : x.take 9 = x := List.take_of_length_le (by omega)
  simp -dsimp -implicitDefEqProofs [hb, hl, ht, hne]
  rw [if_pos ho]
  simp -dsimp -implicitDefEqProofs [hb, hl, ht, hne]
  refine onCall_in hF ?_
  simp -dsimp -implicitDefEqProofs
theorem every_reach {f : FuncId} {caps : List AV} {h : H} {p : List AV → Bool} {xs : List (List AV)} {fu : Bool} (hlen : (xs.length : Int) < 2^62) (hk : ∀ r ∈ xs, r.length = 9) (ho : ∀ x ∈ xs, ∀ a ∈ x, one a = true) (hF : ∀ x ∈ xs, Fn Tryz.prog f ([AV.agg x] ++ caps) ((h.push [.clo f caps]).push x) (B (p x)) ((h.push [.clo f caps]).push x)) :
    Fn Tryz.prog 177 [.ro fu 9 xs, .clo f caps] h (B (xs.all p)) h := by
  refine Fn.keep noM noC (by kernel_rfl) Tryz.func177 rfl rfl fun _ => ?_
  simp -dsimp -implicitDefEqProofs
  refine onCall_in (containsFunc_reach (p := fun x => !p x) hlen hk fun x hx => every1_reach (b := h.next) (f := f) (caps := caps) (by simp) (ho x hx) (hk x hx) (hF x hx)) ?_
  simp -dsimp -implicitDefEqProofs
  rw [Bool.eq_iff_iff]; simp

theorem indexFunc_shoal {f : FuncId} {caps : List AV} {h : H} {p : List AV → Bool} {xs : List (List AV)} {fu : Bool} (hlen : (xs.length : Int) < 2^62) (hk : ∀ r ∈ xs, r.length = 6) (hF : ∀ x ∈ xs, Fn Tryz.prog f ([AV.agg x] ++ caps) h (B (p x)) h) :
    Fn Tryz.prog 201 [.ro fu 6 xs, .clo f caps] h (I (idx p xs)) h := by
  refine Fn.keep noM noC (by kernel_rfl) Tryz.func201 rfl rfl fun _ => ?_
  simp -dsimp -implicitDefEqProofs
  refine LoopC.on (σ := Nat) (fun i j => [.ro fu 6 xs, .clo f caps, j 2, j 3, j 4, j 5, j 6, I xs.length, I i, j 9, j 10, j 11, j 12, j 13, j 14, j 15, j 16, j 17, j 18])
    (fun i k => k = h ∧ i ≤ xs.length ∧ ∀ q, q < i → ∀ x, xs[q]? = some x → p x = false) (fun i => xs.length - i) 0 ⟨rfl, by omega, fun q hq => by omega⟩ (by simp) ?_
  rintro i j h' ⟨rfl, hi, hp⟩
  simp -dsimp -implicitDefEqProofs
  refine ifD_in (fun hlt => ?_) (fun hge => ?_)
  · have hx := List.getElem?_eq_getElem (show i < xs.length by omega)
    have hl := hk _ (List.getElem_mem (show i < xs.length by omega))
    have ht : xs[i].take 6 = xs[i] := List.take_of_length_le (by omega)
    simp -dsimp -implicitDefEqProofs [hx, hl, ht]
    refine onCall_in (hF _ (List.getElem_mem (by omega))) ?_
    simp -dsimp -implicitDefEqProofs
    refine ifB_in (fun hb => by simp -dsimp -implicitDefEqProofs [idx_hit hx hb hp]) (fun hb => ?_)
    simp -dsimp -implicitDefEqProofs
    refine ⟨i + 1, ⟨by omega, fun q hq x hqx => ?_⟩, ?_, by omega⟩
    · by_cases hqi : q = i
      · subst hqi; rw [hx] at hqx; cases hqx; simpa using hb
      · exact hp q (by omega) x hqx
    · rw [wrap_in (by omega) (by omega)]; omega
  · simp -dsimp -implicitDefEqProofs
    exact (idx_miss fun q hq => hp q (by omega)).symm
theorem containsFunc_shoal {f : FuncId} {caps : List AV} {h : H} {p : List AV → Bool} {xs : List (List AV)} {fu : Bool} (hlen : (xs.length : Int) < 2^62) (hk : ∀ r ∈ xs, r.length = 6) (hF : ∀ x ∈ xs, Fn Tryz.prog f ([AV.agg x] ++ caps) h (B (p x)) h) :
    Fn Tryz.prog 196 [.ro fu 6 xs, .clo f caps] h (B (xs.any p)) h := by
  refine Fn.keep noM noC (by kernel_rfl) Tryz.func196 rfl rfl fun _ => ?_
  simp -dsimp -implicitDefEqProofs
  refine onCall_in (indexFunc_shoal hlen hk hF) ?_
  simp -dsimp -implicitDefEqProofs
  exact idx_any
theorem every1_shoal {f : FuncId} {caps : List AV} {h : H} {b : Nat} {x : List AV} {v : Bool} (hb : h.get b = some [.clo f caps]) (ho : ∀ a ∈ x, one a = true) (hl : x.length = 6) (hF : Fn Tryz.prog f ([AV.agg x] ++ caps) (h.push x) (B v) (h.push x)) : Fn Tryz.prog 197 [AV.agg x, .ptr b 0] h (B !v) h := by
  refine Fn.keep noM noC (by kernel_rfl) Tryz.func197 rfl rfl fun live => ?_
  have hne : ¬ b = h.next := by have := (live.1 b _ hb).1; omega
  have ht : x.take 6 = x := List.take_of_length_le (by omega)
  simp -dsimp -implicitDefEqProofs [hb, hl, ht, hne]
  rw [if_pos ho]
  simp -dsimp -implicitDefEqProofs [hb, hl, ht, hne]
  refine onCall_in hF ?_
  simp -dsimp -implicitDefEqProofs
theorem every_shoal {f : FuncId} {caps : List AV} {h : H} {p : List AV → Bool} {xs : List (List AV)} {fu : Bool} (hlen : (xs.length : Int) < 2^62) (hk : ∀ r ∈ xs, r.length = 6) (ho : ∀ x ∈ xs, ∀ a ∈ x, one a = true) (hF : ∀ x ∈ xs, Fn Tryz.prog f ([AV.agg x] ++ caps) ((h.push [.clo f caps]).push x) (B (p x)) ((h.push [.clo f caps]).push x)) :
    Fn Tryz.prog 179 [.ro fu 6 xs, .clo f caps] h (B (xs.all p)) h := by
  refine Fn.keep noM noC (by kernel_rfl) Tryz.func179 rfl rfl fun _ => ?_
  simp -dsimp -implicitDefEqProofs
  refine onCall_in (containsFunc_shoal (p := fun x => !p x) hlen hk fun x hx => every1_shoal (b := h.next) (f := f) (caps := caps) (by simp) (ho x hx) (hk x hx) (hF x hx)) ?_
  simp -dsimp -implicitDefEqProofs
  rw [Bool.eq_iff_iff]; simp

theorem indexFunc_lists {f : FuncId} {caps : List AV} {h : H} {p : AV → Bool} {xs : List (AV)} {fu : Bool} (hlen : (xs.length : Int) < 2^62) (hF : ∀ x ∈ xs, Fn Tryz.prog f ([x] ++ caps) h (B (p x)) h) :
    Fn Tryz.prog 198 [.ro fu 1 (xs.map fun x => [x]), .clo f caps] h (I (idx p xs)) h := by
  refine Fn.keep noM noC (by kernel_rfl) Tryz.func198 rfl rfl fun _ => ?_
  simp -dsimp -implicitDefEqProofs
  refine LoopC.on (σ := Nat) (fun i j => [.ro fu 1 (xs.map fun x => [x]), .clo f caps, j 2, j 3, j 4, j 5, j 6, I xs.length, I i, j 9, j 10, j 11, j 12, j 13, j 14, j 15, j 16, j 17, j 18])
    (fun i k => k = h ∧ i ≤ xs.length ∧ ∀ q, q < i → ∀ x, xs[q]? = some x → p x = false) (fun i => xs.length - i) 0 ⟨rfl, by omega, fun q hq => by omega⟩ (by simp) ?_
  rintro i j h' ⟨rfl, hi, hp⟩
  simp -dsimp -implicitDefEqProofs
  refine ifD_in (fun hlt => ?_) (fun hge => ?_)
  · have hx := List.getElem?_eq_getElem (show i < xs.length by omega)
    simp -dsimp -implicitDefEqProofs [hx]
    refine onCall_in (hF _ (List.getElem_mem (by omega))) ?_
    simp -dsimp -implicitDefEqProofs
    refine ifB_in (fun hb => by simp -dsimp -implicitDefEqProofs [idx_hit hx hb hp]) (fun hb => ?_)
    simp -dsimp -implicitDefEqProofs
    refine ⟨i + 1, ⟨by omega, fun q hq x hqx => ?_⟩, ?_, by omega⟩
    · by_cases hqi : q = i
      · subst hqi; rw [hx] at hqx; cases hqx; simpa using hb
      · exact hp q (by omega) x hqx
    · rw [wrap_in (by omega) (by omega)]; omega
  · simp -dsimp -implicitDefEqProofs
    exact (idx_miss fun q hq => hp q (by omega)).symm
theorem containsFunc_lists {f : FuncId} {caps : List AV} {h : H} {p : AV → Bool} {xs : List (AV)} {fu : Bool} (hlen : (xs.length : Int) < 2^62) (hF : ∀ x ∈ xs, Fn Tryz.prog f ([x] ++ caps) h (B (p x)) h) :
    Fn Tryz.prog 182 [.ro fu 1 (xs.map fun x => [x]), .clo f caps] h (B (xs.any p)) h := by
  refine Fn.keep noM noC (by kernel_rfl) Tryz.func182 rfl rfl fun _ => ?_
  simp -dsimp -implicitDefEqProofs
  refine onCall_in (indexFunc_lists hlen hF) ?_
  simp -dsimp -implicitDefEqProofs
  exact idx_any
theorem every1_lists {f : FuncId} {caps : List AV} {h : H} {b : Nat} {x : AV} {v : Bool} (hb : h.get b = some [.clo f caps]) (hF : Fn Tryz.prog f ([x] ++ caps) h (B v) h) : Fn Tryz.prog 183 [x, .ptr b 0] h (B !v) h := by
  refine Fn.keep noM noC (by kernel_rfl) Tryz.func183 rfl rfl fun _ => ?_
  simp -dsimp -implicitDefEqProofs [hb]
  refine onCall_in hF ?_
  simp -dsimp -implicitDefEqProofs
theorem every_lists {f : FuncId} {caps : List AV} {h : H} {p : AV → Bool} {xs : List (AV)} {fu : Bool} (hlen : (xs.length : Int) < 2^62) (hF : ∀ x ∈ xs, Fn Tryz.prog f ([x] ++ caps) (h.push [.clo f caps]) (B (p x)) (h.push [.clo f caps])) :
    Fn Tryz.prog 156 [.ro fu 1 (xs.map fun x => [x]), .clo f caps] h (B (xs.all p)) h := by
  refine Fn.keep noM noC (by kernel_rfl) Tryz.func156 rfl rfl fun _ => ?_
  simp -dsimp -implicitDefEqProofs
  refine onCall_in (containsFunc_lists (p := fun x => !p x) hlen fun x hx => every1_lists (b := h.next) (f := f) (caps := caps) (by simp) (hF x hx)) ?_
  simp -dsimp -implicitDefEqProofs
  rw [Bool.eq_iff_iff]; simp

theorem indexFunc_bounds {f : FuncId} {caps : List AV} {h : H} {p : List AV → Bool} {xs : List (List AV)} {fu : Bool} (hlen : (xs.length : Int) < 2^62) (hk : ∀ r ∈ xs, r.length = 2) (hF : ∀ x ∈ xs, Fn Tryz.prog f ([AV.agg x] ++ caps) h (B (p x)) h) :
    Fn Tryz.prog 199 [.ro fu 2 xs, .clo f caps] h (I (idx p xs)) h := by
  refine Fn.keep noM noC (by kernel_rfl) Tryz.func199 rfl rfl fun _ => ?_
  simp -dsimp -implicitDefEqProofs
  refine LoopC.on (σ := Nat) (fun i j => [.ro fu 2 xs, .clo f caps, j 2, j 3, j 4, j 5, j 6, I xs.length, I i, j 9, j 10, j 11, j 12, j 13, j 14, j 15, j 16, j 17, j 18])
    (fun i k => k = h ∧ i ≤ xs.length ∧ ∀ q, q < i → ∀ x, xs[q]? = some x → p x = false) (fun i => xs.length - i) 0 ⟨rfl, by omega, fun q hq => by omega⟩ (by simp) ?_
  rintro i j h' ⟨rfl, hi, hp⟩
  simp -dsimp -implicitDefEqProofs
  refine ifD_in (fun hlt => ?_) (fun hge => ?_)
  · have hx := List.getElem?_eq_getElem (show i < xs.length by omega)
    have hl := hk _ (List.getElem_mem (show i < xs.length by omega))
    have ht : xs[i].take 2 = xs[i] := List.take_of_length_le (by omega)
    simp -dsimp -implicitDefEqProofs [hx, hl, ht]
    refine onCall_in (hF _ (List.getElem_mem (by omega))) ?_
    simp -dsimp -implicitDefEqProofs
    refine ifB_in (fun hb => by simp -dsimp -implicitDefEqProofs [idx_hit hx hb hp]) (fun hb => ?_)
    simp -dsimp -implicitDefEqProofs
    refine ⟨i + 1, ⟨by omega, fun q hq x hqx => ?_⟩, ?_, by omega⟩
    · by_cases hqi : q = i
      · subst hqi; rw [hx] at hqx; cases hqx; simpa using hb
      · exact hp q (by omega) x hqx
    · rw [wrap_in (by omega) (by omega)]; omega
  · simp -dsimp -implicitDefEqProofs
    exact (idx_miss fun q hq => hp q (by omega)).symm
theorem containsFunc_bounds {f : FuncId} {caps : List AV} {h : H} {p : List AV → Bool} {xs : List (List AV)} {fu : Bool} (hlen : (xs.length : Int) < 2^62) (hk : ∀ r ∈ xs, r.length = 2) (hF : ∀ x ∈ xs, Fn Tryz.prog f ([AV.agg x] ++ caps) h (B (p x)) h) :
    Fn Tryz.prog 184 [.ro fu 2 xs, .clo f caps] h (B (xs.any p)) h := by
  refine Fn.keep noM noC (by kernel_rfl) Tryz.func184 rfl rfl fun _ => ?_
  simp -dsimp -implicitDefEqProofs
  refine onCall_in (indexFunc_bounds hlen hk hF) ?_
  simp -dsimp -implicitDefEqProofs
  exact idx_any
theorem every1_bounds {f : FuncId} {caps : List AV} {h : H} {b : Nat} {x : List AV} {v : Bool} (hb : h.get b = some [.clo f caps]) (ho : ∀ a ∈ x, one a = true) (hl : x.length = 2) (hF : Fn Tryz.prog f ([AV.agg x] ++ caps) (h.push x) (B v) (h.push x)) : Fn Tryz.prog 185 [AV.agg x, .ptr b 0] h (B !v) h := by
  refine Fn.keep noM noC (by kernel_rfl) Tryz.func185 rfl rfl fun live => ?_
  have hne : ¬ b = h.next := by have := (live.1 b _ hb).1; omega
  have ht : x.take 2 = x := List.take_of_length_le (by omega)
  simp -dsimp -implicitDefEqProofs [hb, hl, ht, hne]
  rw [if_pos ho]
  simp -dsimp -implicitDefEqProofs [hb, hl, ht, hne]
  refine onCall_in hF ?_
  simp -dsimp -implicitDefEqProofs
theorem every_bounds {f : FuncId} {caps : List AV} {h : H} {p : List AV → Bool} {xs : List (List AV)} {fu : Bool} (hlen : (xs.length : Int) < 2^62) (hk : ∀ r ∈ xs, r.length = 2) (ho : ∀ x ∈ xs, ∀ a ∈ x, one a = true) (hF : ∀ x ∈ xs, Fn Tryz.prog f ([AV.agg x] ++ caps) ((h.push [.clo f caps]).push x) (B (p x)) ((h.push [.clo f caps]).push x)) :
    Fn Tryz.prog 159 [.ro fu 2 xs, .clo f caps] h (B (xs.all p)) h := by
  refine Fn.keep noM noC (by kernel_rfl) Tryz.func159 rfl rfl fun _ => ?_
  simp -dsimp -implicitDefEqProofs
  refine onCall_in (containsFunc_bounds (p := fun x => !p x) hlen hk fun x hx => every1_bounds (b := h.next) (f := f) (caps := caps) (by simp) (ho x hx) (hk x hx) (hF x hx)) ?_
  simp -dsimp -implicitDefEqProofs
  rw [Bool.eq_iff_iff]; simp
end Go.Pe

/- What runs off. -/
namespace Go.Pe
open Go Go.Proofs Go.Proofs.YtffckclggkjbgaaGreat
attribute [local simp] ap_skip ap_region ap_seq ap_cond ap_block ap_loop ap_exit ap_ret ap_seq_normal ap_seq_ret ap_seq_exit ap_block_normal ap_block_ret ap_block_exit ap_block_other ap_nil ap_draw ap_dr_nil ap_fin_ret ap_fin_normal ap_loopK dstT_zero dstT_succ Nat.add_assoc onSome_some onSome_none ifB_true ifB_false ifB_not onClo_clo onBool_bool onBool_tup frz_val frz_ro takeAt elemTy LeN_refl LeN_push LeN_set push_get push_next set_get set_next nil_get nil_next pop_move pop_assign pop_pick pop_load pop_fieldAddr pop_indexAddr pop_field pop_binOp pop_unOp pop_convert pop_extract pop_makeFunc pop_nilCheck pop_build pop_slice pop_len pop_max pop_min eop_alloc eop_box eop_store eop_buildSlice eop_makeSlice eop_append as_move as_assign as_pick as_load as_fieldAddr as_indexAddr as_field as_binOp as_unOp as_convert as_extract as_makeFunc as_nilCheck as_build as_slice as_len as_max as_min as_alloc as_box as_store as_buildSlice as_makeSlice as_append as_call cons_free cons_guard putA_some putA_none aev_tmp aev_int aev_bool aev_nil aev_func pickA_and pickA_or pickA_true pickA_false nnA_ptr nnA_rop idxA_some intOf_int boxA_some bin_int binI_add binI_sub binI_mul binI_quo binI_rem binI_eql binI_neq binI_lss binI_leq binI_gtr binI_geq unA_not unA_neg loadA_ptr loadA_rop loadO_some asLoaded_agg asLoaded_one resA_one resA_two resOne_tmp resOne_cell cellsOf_int cellsOf_bool cellsOf_clo cellsOf_ptr cellsOf_ro cellsOf_sl cellsOf_nil cellsOf_agg one_int one_bool one_nil one_clo one_ptr one_ro one_sl one_rop mm_max mm_min elS_sl elS2_sl mkA_some chunk_zero chunk_succ zcells_zero zcells_succ clean_val clean_ro clean_rop clean1_val clean1_ro clean1_rop flat_val flat_ro flat_agg frz_agg frz_tup
attribute [local simp] t3 u3 t4 u4 t5 u5 t22 u22 t23 u23 t25 u25 t27 u27 t28 u28 t30 u30 t32 u32   t37 u37 t43 u43     t50 u50   t75 u75 t77 u77     t94 u94   t102 u102 t117 u117 t119 u119     t130 u130 t134 u134 t138 u138   t155 u155 t156 u156   t172 u172
attribute [local simp] lenA_ro indexA_ro fieldA fldA partA buildA fillA storeA buildSliceA
attribute [local simp] quietA effectful allocs fpo findNew_nil q_move q_assign q_pick q_load q_fieldAddr q_indexAddr q_field q_binOp q_unOp q_convert q_extract q_makeFunc q_nilCheck q_build q_slice q_len q_max q_min e_alloc e_box e_store e_buildSlice e_makeSlice e_append q_call e_call dr_free dr_guard qView_next eView_next hit_nil hit_cons qView_get optL_some optL_none eView_get fp_alloc fp_box fp_make fp_append fp_build fp_call fp_store mergeG_get LeN_nil new_store findNew_cons
attribute [local simp] one_get one_next ap_finw_ret ap_finw_normal
set_option maxRecDepth 20000

noncomputable abbrev Sk.row (x : Sk) : List AV := [I x.rain.lo, I x.rain.hi, I x.heat.lo, I x.heat.hi]
/-- Runoff, as the document says it. -/
def runs (c : Ct) : Bd → List Sk → List Bd
  | _, [] => []
  | s, x :: l => drain c (total [x.rain, melts s (warm c x)]) :: runs c (left s (warm c x)) l
def snowAt (c : Ct) (s : Bd) (l : List Sk) : Bd := l.foldl (fun s x => left s (warm c x)) s

def skP (r : List AV) : Bool := match r with
  | [.val (.int _ a), .val (.int _ b), .val (.int _ c), .val (.int _ d)] => validS ⟨⟨a, b⟩, ⟨c, d⟩⟩
  | _ => false
noncomputable abbrev cells (l : List Bd) : List AV := (l.map fun b => [I b.lo, I b.hi]).flatten
theorem storeA_at {T : TI} {h : H} {b o : Nat} {cs cs' l : List AV} {x : AV} (hb : h.get b = some cs) (hl : cellsOf x = some l) (h1 : l.length = T.size) (h2 : o + T.size ≤ cs.length) (h3 : cs.take o ++ l ++ cs.drop (o + l.length) = cs') : storeA T h (.ptr b o) x = some (.val undef, h.set b cs') := by
  simp only [storeA, hl, hb]
  rw [if_pos ⟨h1, h2⟩, h3]
theorem runs_snoc {c : Ct} : ∀ {l : List Sk} {s : Bd} {x : Sk}, runs c s (l ++ [x]) = runs c s l ++ [drain c (total [x.rain, melts (snowAt c s l) (warm c x)])]
  | [], s, x => rfl
  | y :: l, s, x => by simp only [List.cons_append, runs, runs_snoc]; rfl
theorem snow_snoc {c : Ct} {l : List Sk} {s : Bd} {x : Sk} : snowAt c s (l ++ [x]) = left (snowAt c s l) (warm c x) := by simp [snowAt, List.foldl_append]
theorem runs_len {c : Ct} : ∀ {l : List Sk} {s : Bd}, (runs c s l).length = l.length
  | [], s => rfl
  | y :: l, s => by simp [runs, runs_len]
theorem cells_len {l : List Bd} : (cells l).length = l.length * 2 := by
  induction l with
  | nil => rfl
  | cons b l ih => simp only [cells, List.map_cons, List.flatten_cons, List.length_append, List.length_cons, List.length_nil] at ih ⊢; omega
theorem cells_snoc {l : List Bd} {b : Bd} : cells (l ++ [b]) = cells l ++ [I b.lo, I b.hi] := by simp [cells]
theorem snow_in {c : Ct} {s : Bd} (hc : 0 ≤ c.melt) (h1 : 0 ≤ s.lo ∧ s.lo ≤ 1000000) (h2 : 0 ≤ s.hi ∧ s.hi ≤ 1000000) : ∀ (l : List Sk), (0 ≤ (snowAt c s l).lo ∧ (snowAt c s l).lo ≤ 1000000) ∧ (0 ≤ (snowAt c s l).hi ∧ (snowAt c s l).hi ≤ 1000000) := by
  intro l
  induction l generalizing s with
  | nil => exact ⟨h1, h2⟩
  | cons x l ih =>
    have g1 : 0 ≤ (warm c x).lo := Int.mul_nonneg hc (by omega)
    have g2 : 0 ≤ (warm c x).hi := Int.mul_nonneg hc (by omega)
    exact ih (s := left s (warm c x)) (by simp only [left]; omega) (by simp only [left]; omega)
theorem store_at {R : List Bd} {n i : Nat} {z : List Value} {y : List AV} (hz : z.length = 2) (hR : R.length = i) (hy : y.length = 2) :
    ((cells R ++ zcells (n + 1) z).take (i * 2) ++ y ++ (cells R ++ zcells (n + 1) z).drop (i * 2 + y.length)) = cells R ++ y ++ zcells n z := by
  have hl : (cells R).length = i * 2 := by rw [cells_len, hR]
  rw [List.take_left' hl, hy, ← List.drop_drop, List.drop_left' hl, zcells_succ, List.drop_left' (by simp [hz])]

theorem chunk_cells : ∀ {R : List Bd}, chunk 2 R.length (cells R) = R.map fun b => [I b.lo, I b.hi]
  | [] => rfl
  | b :: R => by
    have := chunk_cells (R := R)
    simp only [List.length_cons, chunk_succ, cells, List.map_cons, List.flatten_cons, List.cons_append, List.nil_append, List.take_succ_cons, List.take_zero, List.drop_succ_cons, List.drop_zero] at this ⊢
    rw [this]
theorem cells_all {q : AV → Bool} (hq : ∀ n, q (I n) = true) : ∀ {R : List Bd}, (cells R).all q = true
  | [] => rfl
  | b :: R => by
    have := cells_all hq (R := R)
    simp only [cells, List.map_cons, List.flatten_cons, List.all_append, List.all_cons, List.all_nil, hq, Bool.and_true, Bool.true_and] at this ⊢
    exact this
theorem frz_cells {h : H} {b n : Nat} {R : List Bd} (hb : h.get b = some (cells R)) (hn : R.length = n) : frz 2 h 0 (.sl b 0 n 2) = some (.ro false 2 (R.map fun b => [I b.lo, I b.hi])) := by
  have ht : takeAt (cells R) 0 (n * 2) = some (cells R) := by
    unfold takeAt
    rw [if_pos (by rw [cells_len]; omega), List.drop_zero, List.take_of_length_le (by rw [cells_len]; omega)]
  rw [frz, if_neg (by omega), hb]
  simp only [ht, on_frzl (cells_all (q := clean1) (fun _ => rfl))]
  rw [if_pos (cells_all (q := fun x => clean x && one x) (fun _ => rfl)), ← hn, chunk_cells]

end Go.Pe
