/- Conditions for all elements of lists of structs and of lists. -/
import Derived.Test.YtblpmcmapadphaaPfD
set_option linter.unusedVariables false
set_option linter.unusedSimpArgs false
namespace Go.Pe
open Go Go.Proofs Go.Proofs.Ytblpmcmapadphaa
attribute [local simp] ap_skip ap_region ap_seq ap_cond ap_block ap_loop ap_exit ap_ret ap_seq_normal ap_seq_ret ap_seq_exit ap_block_normal ap_block_ret ap_block_exit ap_block_other ap_nil ap_draw ap_dr_nil ap_fin_ret ap_fin_normal ap_loopK dstT_zero dstT_succ Nat.add_assoc onSome_some onSome_none ifB_true ifB_false ifB_not onClo_clo onBool_bool onBool_tup frz_val frz_ro takeAt elemTy LeN_refl LeN_push LeN_set push_get push_next set_get set_next nil_get nil_next pop_move pop_assign pop_pick pop_load pop_fieldAddr pop_indexAddr pop_field pop_binOp pop_unOp pop_convert pop_extract pop_makeFunc pop_nilCheck pop_build pop_slice pop_len pop_max pop_min eop_alloc eop_box eop_store eop_buildSlice eop_makeSlice eop_append as_move as_assign as_pick as_load as_fieldAddr as_indexAddr as_field as_binOp as_unOp as_convert as_extract as_makeFunc as_nilCheck as_build as_slice as_len as_max as_min as_alloc as_box as_store as_buildSlice as_makeSlice as_append as_call cons_free cons_guard putA_some putA_none aev_tmp aev_int aev_bool aev_nil aev_func pickA_and pickA_or pickA_true pickA_false nnA_ptr nnA_rop idxA_some intOf_int boxA_some bin_int binI_add binI_sub binI_mul binI_quo binI_rem binI_eql binI_neq binI_lss binI_leq binI_gtr binI_geq unA_not unA_neg loadA_ptr loadA_rop loadO_some asLoaded_agg asLoaded_one resA_one resA_two resOne_tmp resOne_cell cellsOf_int cellsOf_bool cellsOf_clo cellsOf_ptr cellsOf_ro cellsOf_sl cellsOf_nil cellsOf_agg one_int one_bool one_nil one_clo one_ptr one_ro one_sl one_rop mm_max mm_min elS_sl elS2_sl mkA_some chunk_zero chunk_succ zcells_zero zcells_succ clean_val clean_ro clean_rop clean1_val clean1_ro clean1_rop flat_val flat_ro flat_agg frz_agg frz_tup
attribute [local simp] t3 u3 t4 u4 t5 u5 t22 u22 t23 u23 t25 u25 t27 u27 t28 u28 t30 u30 t32 u32 t34 u34 t37 u37 t43 u43 t48 u48 t49 u49 t50 u50 t54 u54 t75 u75 t77 u77 t84 u84 t89 u89 t94 u94 t96 u96 t102 u102 t117 u117 t119 u119 t123 u123 t125 u125 t130 u130 t134 u134 t138 u138 t152 u152 t155 u155 t156 u156 t160 u160 t172 u172
attribute [local simp] lenA_ro indexA_ro
set_option maxRecDepth 20000

theorem indexFunc_sky {f : FuncId} {caps : List AV} {h : H} {p : List AV → Bool} {xs : List (List AV)} {fu : Bool} (hlen : (xs.length : Int) < 2^62) (hk : ∀ r ∈ xs, r.length = 4) (hF : ∀ x ∈ xs, Fn Try.prog f ([AV.agg x] ++ caps) h (B (p x)) h) :
    Fn Try.prog 116 [.ro fu 4 xs, .clo f caps] h (I (idx p xs)) h := by
  refine Fn.keep noM noC (by kernel_rfl) Try.func116 rfl rfl fun _ => ?_
  simp -dsimp -implicitDefEqProofs
  refine LoopC.on (σ := Nat) (fun i j => [.ro fu 4 xs, .clo f caps, j 2, j 3, j 4, j 5, j 6, I xs.length, I i, j 9, j 10, j 11, j 12, j 13, j 14, j 15, j 16, j 17, j 18])
    (fun i k => k = h ∧ i ≤ xs.length ∧ ∀ q, q < i → ∀ x, xs[q]? = some x → p x = false) (fun i => xs.length - i) 0 ⟨rfl, by omega, fun q hq => by omega⟩ (by simp) ?_
  rintro i j h' ⟨rfl, hi, hp⟩
  simp -dsimp -implicitDefEqProofs
  refine ifD_in (fun hlt => ?_) (fun hge => ?_)
  · have hx := List.getElem?_eq_getElem (show i < xs.length by omega)
    have hl := hk _ (List.getElem_mem (show i < xs.length by omega))
    have ht : xs[i].take 4 = xs[i] := List.take_of_length_le (by omega)
    simp -dsimp -implicitDefEqProofs [hx, hl, ht]
    refine onCall_in (hF _ (List.getElem_mem (by omega))) ?_
    simp -dsimp -implicitDefEqProofs
    refine ifB_in (fun hb => by simp -dsimp -implicitDefEqProofs [idx_hit hx hb hp]) (fun hb => ?_)
    simp -dsimp -implicitDefEqProofs
    refine ⟨i + 1, ⟨by omega, fun q hq x hqx => ?_⟩, ?_, by omega⟩
    · by_cases hqi : q = i
      · subst hqi; rw [hx] at hqx; cases hqx; simpa using hb
      · exact hp q (by omega) x hqx
    · rw [wrap_in (by omega) (by omega)]; omega
  · simp -dsimp -implicitDefEqProofs
    exact (idx_miss fun q hq => hp q (by omega)).symm
theorem containsFunc_sky {f : FuncId} {caps : List AV} {h : H} {p : List AV → Bool} {xs : List (List AV)} {fu : Bool} (hlen : (xs.length : Int) < 2^62) (hk : ∀ r ∈ xs, r.length = 4) (hF : ∀ x ∈ xs, Fn Try.prog f ([AV.agg x] ++ caps) h (B (p x)) h) :
    Fn Try.prog 101 [.ro fu 4 xs, .clo f caps] h (B (xs.any p)) h := by
  refine Fn.keep noM noC (by kernel_rfl) Try.func101 rfl rfl fun _ => ?_
  simp -dsimp -implicitDefEqProofs
  refine onCall_in (indexFunc_sky hlen hk hF) ?_
  simp -dsimp -implicitDefEqProofs
  exact idx_any
theorem every1_sky {f : FuncId} {caps : List AV} {h : H} {b : Nat} {x : List AV} {v : Bool} (hb : h.get b = some [.clo f caps]) (ho : ∀ a ∈ x, one a = true) (hl : x.length = 4) (hF : Fn Try.prog f ([AV.agg x] ++ caps) (h.push x) (B v) (h.push x)) : Fn Try.prog 102 [AV.agg x, .ptr b 0] h (B !v) h := by
  refine Fn.keep noM noC (by kernel_rfl) Try.func102 rfl rfl fun live => ?_
  have hne : ¬ b = h.next := by have := (live.1 b _ hb).1; omega
  have ht : x.take 4 = x := List.take_of_length_le (by omega)
  simp -dsimp -implicitDefEqProofs [hb, hl, ht, hne]
  rw [if_pos ho]
  simp -dsimp -implicitDefEqProofs [hb, hl, ht, hne]
  refine onCall_in hF ?_
  simp -dsimp -implicitDefEqProofs
theorem every_sky {f : FuncId} {caps : List AV} {h : H} {p : List AV → Bool} {xs : List (List AV)} {fu : Bool} (hlen : (xs.length : Int) < 2^62) (hk : ∀ r ∈ xs, r.length = 4) (ho : ∀ x ∈ xs, ∀ a ∈ x, one a = true) (hF : ∀ x ∈ xs, Fn Try.prog f ([AV.agg x] ++ caps) ((h.push [.clo f caps]).push x) (B (p x)) ((h.push [.clo f caps]).push x)) :
    Fn Try.prog 67 [.ro fu 4 xs, .clo f caps] h (B (xs.all p)) h := by
  refine Fn.keep noM noC (by kernel_rfl) Try.func67 rfl rfl fun _ => ?_
  simp -dsimp -implicitDefEqProofs
  refine onCall_in (containsFunc_sky (p := fun x => !p x) hlen hk fun x hx => every1_sky (b := h.next) (f := f) (caps := caps) (by simp) (ho x hx) (hk x hx) (hF x hx)) ?_
  simp -dsimp -implicitDefEqProofs
  rw [Bool.eq_iff_iff]; simp

theorem indexFunc_reach {f : FuncId} {caps : List AV} {h : H} {p : List AV → Bool} {xs : List (List AV)} {fu : Bool} (hlen : (xs.length : Int) < 2^62) (hk : ∀ r ∈ xs, r.length = 9) (hF : ∀ x ∈ xs, Fn Try.prog f ([AV.agg x] ++ caps) h (B (p x)) h) :
    Fn Try.prog 112 [.ro fu 9 xs, .clo f caps] h (I (idx p xs)) h := by
  refine Fn.keep noM noC (by kernel_rfl) Try.func112 rfl rfl fun _ => ?_
  simp -dsimp -implicitDefEqProofs
  refine LoopC.on (σ := Nat) (fun i j => [.ro fu 9 xs, .clo f caps, j 2, j 3, j 4, j 5, j 6, I xs.length, I i, j 9, j 10, j 11, j 12, j 13, j 14, j 15, j 16, j 17, j 18])
    (fun i k => k = h ∧ i ≤ xs.length ∧ ∀ q, q < i → ∀ x, xs[q]? = some x → p x = false) (fun i => xs.length - i) 0 ⟨rfl, by omega, fun q hq => by omega⟩ (by simp) ?_
  rintro i j h' ⟨rfl, hi, hp⟩
  simp -dsimp -implicitDefEqProofs
  refine ifD_in (fun hlt => ?_) (fun hge => ?_)
  · have hx := List.getElem?_eq_getElem (show i < xs.length by omega)
    have hl := hk _ (List.getElem_mem (show i < xs.length by omega))
    have ht : xs[i].take 9 = xs[i] := List.take_of_length_le (by omega)
    simp -dsimp -implicitDefEqProofs [hx, hl, ht]
    refine onCall_in (hF _ (List.getElem_mem (by omega))) ?_
    simp -dsimp -implicitDefEqProofs
    refine ifB_in (fun hb => by simp -dsimp -implicitDefEqProofs [idx_hit hx hb hp]) (fun hb => ?_)
    simp -dsimp -implicitDefEqProofs
    refine ⟨i + 1, ⟨by omega, fun q hq x hqx => ?_⟩, ?_, by omega⟩
    · by_cases hqi : q = i
      · subst hqi; rw [hx] at hqx; cases hqx; simpa using hb
      · exact hp q (by omega) x hqx
    · rw [wrap_in (by omega) (by omega)]; omega
  · simp -dsimp -implicitDefEqProofs
    exact (idx_miss fun q hq => hp q (by omega)).symm
theorem containsFunc_reach {f : FuncId} {caps : List AV} {h : H} {p : List AV → Bool} {xs : List (List AV)} {fu : Bool} (hlen : (xs.length : Int) < 2^62) (hk : ∀ r ∈ xs, r.length = 9) (hF : ∀ x ∈ xs, Fn Try.prog f ([AV.agg x] ++ caps) h (B (p x)) h) :
    Fn Try.prog 94 [.ro fu 9 xs, .clo f caps] h (B (xs.any p)) h := by
  refine Fn.keep noM noC (by kernel_rfl) Try.func94 rfl rfl fun _ => ?_
  simp -dsimp -implicitDefEqProofs
  refine onCall_in (indexFunc_reach hlen hk hF) ?_
  simp -dsimp -implicitDefEqProofs
  exact idx_any
theorem every1_reach {f : FuncId} {caps : List AV} {h : H} {b : Nat} {x : List AV} {v : Bool} (hb : h.get b = some [.clo f caps]) (ho : ∀ a ∈ x, one a = true) (hl : x.length = 9) (hF : Fn Try.prog f ([AV.agg x] ++ caps) (h.push x) (B v) (h.push x)) : Fn Try.prog 95 [AV.agg x, .ptr b 0] h (B !v) h := by
  refine Fn.keep noM noC (by kernel_rfl) Try.func95 rfl rfl fun live => ?_
  have hne : ¬ b = h.next := by have := (live.1 b _ hb).1; omega
  have ht : x.take 9 = x := List.take_of_length_le (by omega)
  simp -dsimp -implicitDefEqProofs [hb, hl, ht, hne]
  rw [if_pos ho]
  simp -dsimp -implicitDefEqProofs [hb, hl, ht, hne]
  refine onCall_in hF ?_
  simp -dsimp -implicitDefEqProofs
theorem every_reach {f : FuncId} {caps : List AV} {h : H} {p : List AV → Bool} {xs : List (List AV)} {fu : Bool} (hlen : (xs.length : Int) < 2^62) (hk : ∀ r ∈ xs, r.length = 9) (ho : ∀ x ∈ xs, ∀ a ∈ x, one a = true) (hF : ∀ x ∈ xs, Fn Try.prog f ([AV.agg x] ++ caps) ((h.push [.clo f caps]).push x) (B (p x)) ((h.push [.clo f caps]).push x)) :
    Fn Try.prog 57 [.ro fu 9 xs, .clo f caps] h (B (xs.all p)) h := by
  refine Fn.keep noM noC (by kernel_rfl) Try.func57 rfl rfl fun _ => ?_
  simp -dsimp -implicitDefEqProofs
  refine onCall_in (containsFunc_reach (p := fun x => !p x) hlen hk fun x hx => every1_reach (b := h.next) (f := f) (caps := caps) (by simp) (ho x hx) (hk x hx) (hF x hx)) ?_
  simp -dsimp -implicitDefEqProofs
  rw [Bool.eq_iff_iff]; simp

theorem indexFunc_shoal {f : FuncId} {caps : List AV} {h : H} {p : List AV → Bool} {xs : List (List AV)} {fu : Bool} (hlen : (xs.length : Int) < 2^62) (hk : ∀ r ∈ xs, r.length = 6) (hF : ∀ x ∈ xs, Fn Try.prog f ([AV.agg x] ++ caps) h (B (p x)) h) :
    Fn Try.prog 113 [.ro fu 6 xs, .clo f caps] h (I (idx p xs)) h := by
  refine Fn.keep noM noC (by kernel_rfl) Try.func113 rfl rfl fun _ => ?_
  simp -dsimp -implicitDefEqProofs
  refine LoopC.on (σ := Nat) (fun i j => [.ro fu 6 xs, .clo f caps, j 2, j 3, j 4, j 5, j 6, I xs.length, I i, j 9, j 10, j 11, j 12, j 13, j 14, j 15, j 16, j 17, j 18])
    (fun i k => k = h ∧ i ≤ xs.length ∧ ∀ q, q < i → ∀ x, xs[q]? = some x → p x = false) (fun i => xs.length - i) 0 ⟨rfl, by omega, fun q hq => by omega⟩ (by simp) ?_
  rintro i j h' ⟨rfl, hi, hp⟩
  simp -dsimp -implicitDefEqProofs
  refine ifD_in (fun hlt => ?_) (fun hge => ?_)
  · have hx := List.getElem?_eq_getElem (show i < xs.length by omega)
    have hl := hk _ (List.getElem_mem (show i < xs.length by omega))
    have ht : xs[i].take 6 = xs[i] := List.take_of_length_le (by omega)
    simp -dsimp -implicitDefEqProofs [hx, hl, ht]
    refine onCall_in (hF _ (List.getElem_mem (by omega))) ?_
    simp -dsimp -implicitDefEqProofs
    refine ifB_in (fun hb => by simp -dsimp -implicitDefEqProofs [idx_hit hx hb hp]) (fun hb => ?_)
    simp -dsimp -implicitDefEqProofs
    refine ⟨i + 1, ⟨by omega, fun q hq x hqx => ?_⟩, ?_, by omega⟩
    · by_cases hqi : q = i
      · subst hqi; rw [hx] at hqx; cases hqx; simpa using hb
      · exact hp q (by omega) x hqx
    · rw [wrap_in (by omega) (by omega)]; omega
  · simp -dsimp -implicitDefEqProofs
    exact (idx_miss fun q hq => hp q (by omega)).symm
theorem containsFunc_shoal {f : FuncId} {caps : List AV} {h : H} {p : List AV → Bool} {xs : List (List AV)} {fu : Bool} (hlen : (xs.length : Int) < 2^62) (hk : ∀ r ∈ xs, r.length = 6) (hF : ∀ x ∈ xs, Fn Try.prog f ([AV.agg x] ++ caps) h (B (p x)) h) :
    Fn Try.prog 98 [.ro fu 6 xs, .clo f caps] h (B (xs.any p)) h := by
  refine Fn.keep noM noC (by kernel_rfl) Try.func98 rfl rfl fun _ => ?_
  simp -dsimp -implicitDefEqProofs
  refine onCall_in (indexFunc_shoal hlen hk hF) ?_
  simp -dsimp -implicitDefEqProofs
  exact idx_any
theorem every1_shoal {f : FuncId} {caps : List AV} {h : H} {b : Nat} {x : List AV} {v : Bool} (hb : h.get b = some [.clo f caps]) (ho : ∀ a ∈ x, one a = true) (hl : x.length = 6) (hF : Fn Try.prog f ([AV.agg x] ++ caps) (h.push x) (B v) (h.push x)) : Fn Try.prog 99 [AV.agg x, .ptr b 0] h (B !v) h := by
  refine Fn.keep noM noC (by kernel_rfl) Try.func99 rfl rfl fun live => ?_
  have hne : ¬ b = h.next := by have := (live.1 b _ hb).1; omega
  have ht : x.take 6 = x := List.take_of_length_le (by omega)
  simp -dsimp -implicitDefEqProofs [hb, hl, ht, hne]
  rw [if_pos ho]
  simp -dsimp -implicitDefEqProofs [hb, hl, ht, hne]
  refine onCall_in hF ?_
  simp -dsimp -implicitDefEqProofs
theorem every_shoal {f : FuncId} {caps : List AV} {h : H} {p : List AV → Bool} {xs : List (List AV)} {fu : Bool} (hlen : (xs.length : Int) < 2^62) (hk : ∀ r ∈ xs, r.length = 6) (ho : ∀ x ∈ xs, ∀ a ∈ x, one a = true) (hF : ∀ x ∈ xs, Fn Try.prog f ([AV.agg x] ++ caps) ((h.push [.clo f caps]).push x) (B (p x)) ((h.push [.clo f caps]).push x)) :
    Fn Try.prog 60 [.ro fu 6 xs, .clo f caps] h (B (xs.all p)) h := by
  refine Fn.keep noM noC (by kernel_rfl) Try.func60 rfl rfl fun _ => ?_
  simp -dsimp -implicitDefEqProofs
  refine onCall_in (containsFunc_shoal (p := fun x => !p x) hlen hk fun x hx => every1_shoal (b := h.next) (f := f) (caps := caps) (by simp) (ho x hx) (hk x hx) (hF x hx)) ?_
  simp -dsimp -implicitDefEqProofs
  rw [Bool.eq_iff_iff]; simp

theorem indexFunc_closure {f : FuncId} {caps : List AV} {h : H} {p : List AV → Bool} {xs : List (List AV)} {fu : Bool} (hlen : (xs.length : Int) < 2^62) (hk : ∀ r ∈ xs, r.length = 6) (hF : ∀ x ∈ xs, Fn Try.prog f ([AV.agg x] ++ caps) h (B (p x)) h) :
    Fn Try.prog 109 [.ro fu 6 xs, .clo f caps] h (I (idx p xs)) h := by
  refine Fn.keep noM noC (by kernel_rfl) Try.func109 rfl rfl fun _ => ?_
  simp -dsimp -implicitDefEqProofs
  refine LoopC.on (σ := Nat) (fun i j => [.ro fu 6 xs, .clo f caps, j 2, j 3, j 4, j 5, j 6, I xs.length, I i, j 9, j 10, j 11, j 12, j 13, j 14, j 15, j 16, j 17, j 18])
    (fun i k => k = h ∧ i ≤ xs.length ∧ ∀ q, q < i → ∀ x, xs[q]? = some x → p x = false) (fun i => xs.length - i) 0 ⟨rfl, by omega, fun q hq => by omega⟩ (by simp) ?_
  rintro i j h' ⟨rfl, hi, hp⟩
  simp -dsimp -implicitDefEqProofs
  refine ifD_in (fun hlt => ?_) (fun hge => ?_)
  · have hx := List.getElem?_eq_getElem (show i < xs.length by omega)
    have hl := hk _ (List.getElem_mem (show i < xs.length by omega))
    have ht : xs[i].take 6 = xs[i] := List.take_of_length_le (by omega)
    simp -dsimp -implicitDefEqProofs [hx, hl, ht]
    refine onCall_in (hF _ (List.getElem_mem (by omega))) ?_
    simp -dsimp -implicitDefEqProofs
    refine ifB_in (fun hb => by simp -dsimp -implicitDefEqProofs [idx_hit hx hb hp]) (fun hb => ?_)
    simp -dsimp -implicitDefEqProofs
    refine ⟨i + 1, ⟨by omega, fun q hq x hqx => ?_⟩, ?_, by omega⟩
    · by_cases hqi : q = i
      · subst hqi; rw [hx] at hqx; cases hqx; simpa using hb
      · exact hp q (by omega) x hqx
    · rw [wrap_in (by omega) (by omega)]; omega
  · simp -dsimp -implicitDefEqProofs
    exact (idx_miss fun q hq => hp q (by omega)).symm
theorem containsFunc_closure {f : FuncId} {caps : List AV} {h : H} {p : List AV → Bool} {xs : List (List AV)} {fu : Bool} (hlen : (xs.length : Int) < 2^62) (hk : ∀ r ∈ xs, r.length = 6) (hF : ∀ x ∈ xs, Fn Try.prog f ([AV.agg x] ++ caps) h (B (p x)) h) :
    Fn Try.prog 88 [.ro fu 6 xs, .clo f caps] h (B (xs.any p)) h := by
  refine Fn.keep noM noC (by kernel_rfl) Try.func88 rfl rfl fun _ => ?_
  simp -dsimp -implicitDefEqProofs
  refine onCall_in (indexFunc_closure hlen hk hF) ?_
  simp -dsimp -implicitDefEqProofs
  exact idx_any
theorem every1_closure {f : FuncId} {caps : List AV} {h : H} {b : Nat} {x : List AV} {v : Bool} (hb : h.get b = some [.clo f caps]) (ho : ∀ a ∈ x, one a = true) (hl : x.length = 6) (hF : Fn Try.prog f ([AV.agg x] ++ caps) (h.push x) (B v) (h.push x)) : Fn Try.prog 108 [AV.agg x, .ptr b 0] h (B !v) h := by
  refine Fn.keep noM noC (by kernel_rfl) Try.func108 rfl rfl fun live => ?_
  have hne : ¬ b = h.next := by have := (live.1 b _ hb).1; omega
  have ht : x.take 6 = x := List.take_of_length_le (by omega)
  simp -dsimp -implicitDefEqProofs [hb, hl, ht, hne]
  rw [if_pos ho]
  simp -dsimp -implicitDefEqProofs [hb, hl, ht, hne]
  refine onCall_in hF ?_
  simp -dsimp -implicitDefEqProofs
theorem every_closure {f : FuncId} {caps : List AV} {h : H} {p : List AV → Bool} {xs : List (List AV)} {fu : Bool} (hlen : (xs.length : Int) < 2^62) (hk : ∀ r ∈ xs, r.length = 6) (ho : ∀ x ∈ xs, ∀ a ∈ x, one a = true) (hF : ∀ x ∈ xs, Fn Try.prog f ([AV.agg x] ++ caps) ((h.push [.clo f caps]).push x) (B (p x)) ((h.push [.clo f caps]).push x)) :
    Fn Try.prog 84 [.ro fu 6 xs, .clo f caps] h (B (xs.all p)) h := by
  refine Fn.keep noM noC (by kernel_rfl) Try.func84 rfl rfl fun _ => ?_
  simp -dsimp -implicitDefEqProofs
  refine onCall_in (containsFunc_closure (p := fun x => !p x) hlen hk fun x hx => every1_closure (b := h.next) (f := f) (caps := caps) (by simp) (ho x hx) (hk x hx) (hF x hx)) ?_
  simp -dsimp -implicitDefEqProofs
  rw [Bool.eq_iff_iff]; simp

theorem indexFunc_lists {f : FuncId} {caps : List AV} {h : H} {p : AV → Bool} {xs : List (AV)} {fu : Bool} (hlen : (xs.length : Int) < 2^62) (hF : ∀ x ∈ xs, Fn Try.prog f ([x] ++ caps) h (B (p x)) h) :
    Fn Try.prog 130 [.ro fu 1 (xs.map fun x => [x]), .clo f caps] h (I (idx p xs)) h := by
  refine Fn.keep noM noC (by kernel_rfl) Try.func130 rfl rfl fun _ => ?_
  simp -dsimp -implicitDefEqProofs
  refine LoopC.on (σ := Nat) (fun i j => [.ro fu 1 (xs.map fun x => [x]), .clo f caps, j 2, j 3, j 4, j 5, j 6, I xs.length, I i, j 9, j 10, j 11, j 12, j 13, j 14, j 15, j 16, j 17, j 18])
    (fun i k => k = h ∧ i ≤ xs.length ∧ ∀ q, q < i → ∀ x, xs[q]? = some x → p x = false) (fun i => xs.length - i) 0 ⟨rfl, by omega, fun q hq => by omega⟩ (by simp) ?_
  rintro i j h' ⟨rfl, hi, hp⟩
  simp -dsimp -implicitDefEqProofs
  refine ifD_in (fun hlt => ?_) (fun hge => ?_)
  · have hx := List.getElem?_eq_getElem (show i < xs.length by omega)
    simp -dsimp -implicitDefEqProofs [hx]
    refine onCall_in (hF _ (List.getElem_mem (by omega))) ?_
    simp -dsimp -implicitDefEqProofs
    refine ifB_in (fun hb => by simp -dsimp -implicitDefEqProofs [idx_hit hx hb hp]) (fun hb => ?_)
    simp -dsimp -implicitDefEqProofs
    refine ⟨i + 1, ⟨by omega, fun q hq x hqx => ?_⟩, ?_, by omega⟩
    · by_cases hqi : q = i
      · subst hqi; rw [hx] at hqx; cases hqx; simpa using hb
      · exact hp q (by omega) x hqx
    · rw [wrap_in (by omega) (by omega)]; omega
  · simp -dsimp -implicitDefEqProofs
    exact (idx_miss fun q hq => hp q (by omega)).symm
theorem containsFunc_lists {f : FuncId} {caps : List AV} {h : H} {p : AV → Bool} {xs : List (AV)} {fu : Bool} (hlen : (xs.length : Int) < 2^62) (hF : ∀ x ∈ xs, Fn Try.prog f ([x] ++ caps) h (B (p x)) h) :
    Fn Try.prog 126 [.ro fu 1 (xs.map fun x => [x]), .clo f caps] h (B (xs.any p)) h := by
  refine Fn.keep noM noC (by kernel_rfl) Try.func126 rfl rfl fun _ => ?_
  simp -dsimp -implicitDefEqProofs
  refine onCall_in (indexFunc_lists hlen hF) ?_
  simp -dsimp -implicitDefEqProofs
  exact idx_any
theorem every1_lists {f : FuncId} {caps : List AV} {h : H} {b : Nat} {x : AV} {v : Bool} (hb : h.get b = some [.clo f caps]) (hF : Fn Try.prog f ([x] ++ caps) h (B v) h) : Fn Try.prog 127 [x, .ptr b 0] h (B !v) h := by
  refine Fn.keep noM noC (by kernel_rfl) Try.func127 rfl rfl fun _ => ?_
  simp -dsimp -implicitDefEqProofs [hb]
  refine onCall_in hF ?_
  simp -dsimp -implicitDefEqProofs
theorem every_lists {f : FuncId} {caps : List AV} {h : H} {p : AV → Bool} {xs : List (AV)} {fu : Bool} (hlen : (xs.length : Int) < 2^62) (hF : ∀ x ∈ xs, Fn Try.prog f ([x] ++ caps) (h.push [.clo f caps]) (B (p x)) (h.push [.clo f caps])) :
    Fn Try.prog 117 [.ro fu 1 (xs.map fun x => [x]), .clo f caps] h (B (xs.all p)) h := by
  refine Fn.keep noM noC (by kernel_rfl) Try.func117 rfl rfl fun _ => ?_
  simp -dsimp -implicitDefEqProofs
  refine onCall_in (containsFunc_lists (p := fun x => !p x) hlen fun x hx => every1_lists (b := h.next) (f := f) (caps := caps) (by simp) (hF x hx)) ?_
  simp -dsimp -implicitDefEqProofs
  rw [Bool.eq_iff_iff]; simp

theorem indexFunc_bounds {f : FuncId} {caps : List AV} {h : H} {p : List AV → Bool} {xs : List (List AV)} {fu : Bool} (hlen : (xs.length : Int) < 2^62) (hk : ∀ r ∈ xs, r.length = 2) (hF : ∀ x ∈ xs, Fn Try.prog f ([AV.agg x] ++ caps) h (B (p x)) h) :
    Fn Try.prog 131 [.ro fu 2 xs, .clo f caps] h (I (idx p xs)) h := by
  refine Fn.keep noM noC (by kernel_rfl) Try.func131 rfl rfl fun _ => ?_
  simp -dsimp -implicitDefEqProofs
  refine LoopC.on (σ := Nat) (fun i j => [.ro fu 2 xs, .clo f caps, j 2, j 3, j 4, j 5, j 6, I xs.length, I i, j 9, j 10, j 11, j 12, j 13, j 14, j 15, j 16, j 17, j 18])
    (fun i k => k = h ∧ i ≤ xs.length ∧ ∀ q, q < i → ∀ x, xs[q]? = some x → p x = false) (fun i => xs.length - i) 0 ⟨rfl, by omega, fun q hq => by omega⟩ (by simp) ?_
  rintro i j h' ⟨rfl, hi, hp⟩
  simp -dsimp -implicitDefEqProofs
  refine ifD_in (fun hlt => ?_) (fun hge => ?_)
  · have hx := List.getElem?_eq_getElem (show i < xs.length by omega)
    have hl := hk _ (List.getElem_mem (show i < xs.length by omega))
    have ht : xs[i].take 2 = xs[i] := List.take_of_length_le (by omega)
    simp -dsimp -implicitDefEqProofs [hx, hl, ht]
    refine onCall_in (hF _ (List.getElem_mem (by omega))) ?_
    simp -dsimp -implicitDefEqProofs
    refine ifB_in (fun hb => by simp -dsimp -implicitDefEqProofs [idx_hit hx hb hp]) (fun hb => ?_)
    simp -dsimp -implicitDefEqProofs
    refine ⟨i + 1, ⟨by omega, fun q hq x hqx => ?_⟩, ?_, by omega⟩
    · by_cases hqi : q = i
      · subst hqi; rw [hx] at hqx; cases hqx; simpa using hb
      · exact hp q (by omega) x hqx
    · rw [wrap_in (by omega) (by omega)]; omega
  · simp -dsimp -implicitDefEqProofs
    exact (idx_miss fun q hq => hp q (by omega)).symm
theorem containsFunc_bounds {f : FuncId} {caps : List AV} {h : H} {p : List AV → Bool} {xs : List (List AV)} {fu : Bool} (hlen : (xs.length : Int) < 2^62) (hk : ∀ r ∈ xs, r.length = 2) (hF : ∀ x ∈ xs, Fn Try.prog f ([AV.agg x] ++ caps) h (B (p x)) h) :
    Fn Try.prog 128 [.ro fu 2 xs, .clo f caps] h (B (xs.any p)) h := by
  refine Fn.keep noM noC (by kernel_rfl) Try.func128 rfl rfl fun _ => ?_
  simp -dsimp -implicitDefEqProofs
  refine onCall_in (indexFunc_bounds hlen hk hF) ?_
  simp -dsimp -implicitDefEqProofs
  exact idx_any
theorem every1_bounds {f : FuncId} {caps : List AV} {h : H} {b : Nat} {x : List AV} {v : Bool} (hb : h.get b = some [.clo f caps]) (ho : ∀ a ∈ x, one a = true) (hl : x.length = 2) (hF : Fn Try.prog f ([AV.agg x] ++ caps) (h.push x) (B v) (h.push x)) : Fn Try.prog 129 [AV.agg x, .ptr b 0] h (B !v) h := by
  refine Fn.keep noM noC (by kernel_rfl) Try.func129 rfl rfl fun live => ?_
  have hne : ¬ b = h.next := by have := (live.1 b _ hb).1; omega
  have ht : x.take 2 = x := List.take_of_length_le (by omega)
  simp -dsimp -implicitDefEqProofs [hb, hl, ht, hne]
  rw [if_pos ho]
  simp -dsimp -implicitDefEqProofs [hb, hl, ht, hne]
  refine onCall_in hF ?_
  simp -dsimp -implicitDefEqProofs
theorem every_bounds {f : FuncId} {caps : List AV} {h : H} {p : List AV → Bool} {xs : List (List AV)} {fu : Bool} (hlen : (xs.length : Int) < 2^62) (hk : ∀ r ∈ xs, r.length = 2) (ho : ∀ x ∈ xs, ∀ a ∈ x, one a = true) (hF : ∀ x ∈ xs, Fn Try.prog f ([AV.agg x] ++ caps) ((h.push [.clo f caps]).push x) (B (p x)) ((h.push [.clo f caps]).push x)) :
    Fn Try.prog 120 [.ro fu 2 xs, .clo f caps] h (B (xs.all p)) h := by
  refine Fn.keep noM noC (by kernel_rfl) Try.func120 rfl rfl fun _ => ?_
  simp -dsimp -implicitDefEqProofs
  refine onCall_in (containsFunc_bounds (p := fun x => !p x) hlen hk fun x hx => every1_bounds (b := h.next) (f := f) (caps := caps) (by simp) (ho x hx) (hk x hx) (hF x hx)) ?_
  simp -dsimp -implicitDefEqProofs
  rw [Bool.eq_iff_iff]; simp
end Go.Pe
