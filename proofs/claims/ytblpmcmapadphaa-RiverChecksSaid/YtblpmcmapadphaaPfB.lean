/- Conditions for all elements of a list. -/
import Derived.Test.YtblpmcmapadphaaPfA
set_option linter.unusedVariables false
set_option linter.unusedSimpArgs false
namespace Go.Pe
open Go Go.Proofs Go.Proofs.Ytblpmcmapadphaa
attribute [local simp] ap_skip ap_region ap_seq ap_cond ap_block ap_loop ap_exit ap_ret ap_seq_normal ap_seq_ret ap_seq_exit ap_block_normal ap_block_ret ap_block_exit ap_block_other ap_nil ap_draw ap_dr_nil ap_fin_ret ap_fin_normal ap_loopK dstT_zero dstT_succ Nat.add_assoc onSome_some onSome_none ifB_true ifB_false ifB_not onClo_clo onBool_bool onBool_tup frz_val frz_ro takeAt elemTy LeN_refl LeN_push LeN_set push_get push_next set_get set_next nil_get nil_next pop_move pop_assign pop_pick pop_load pop_fieldAddr pop_indexAddr pop_field pop_binOp pop_unOp pop_convert pop_extract pop_makeFunc pop_nilCheck pop_build pop_slice pop_len pop_max pop_min eop_alloc eop_box eop_store eop_buildSlice eop_makeSlice eop_append as_move as_assign as_pick as_load as_fieldAddr as_indexAddr as_field as_binOp as_unOp as_convert as_extract as_makeFunc as_nilCheck as_build as_slice as_len as_max as_min as_alloc as_box as_store as_buildSlice as_makeSlice as_append as_call cons_free cons_guard putA_some putA_none aev_tmp aev_int aev_bool aev_nil aev_func pickA_and pickA_or pickA_true pickA_false nnA_ptr nnA_rop idxA_some intOf_int boxA_some bin_int binI_add binI_sub binI_mul binI_quo binI_rem binI_eql binI_neq binI_lss binI_leq binI_gtr binI_geq unA_not unA_neg loadA_ptr loadA_rop loadO_some asLoaded_agg asLoaded_one resA_one resA_two resOne_tmp resOne_cell cellsOf_int cellsOf_bool cellsOf_clo cellsOf_ptr cellsOf_ro cellsOf_sl cellsOf_nil cellsOf_agg one_int one_bool one_nil one_clo one_ptr one_ro one_sl one_rop mm_max mm_min elS_sl elS2_sl mkA_some chunk_zero chunk_succ zcells_zero zcells_succ clean_val clean_ro clean_rop clean1_val clean1_ro clean1_rop flat_val flat_ro flat_agg frz_agg frz_tup
attribute [local simp] t3 u3 t4 u4 t5 u5 t22 u22 t23 u23 t25 u25 t27 u27 t28 u28 t30 u30 t32 u32 t34 u34 t37 u37 t43 u43 t48 u48 t49 u49 t50 u50 t54 u54 t75 u75 t77 u77 t84 u84 t89 u89 t94 u94 t96 u96 t102 u102 t117 u117 t119 u119 t123 u123 t125 u125 t130 u130 t134 u134 t138 u138 t152 u152 t155 u155 t156 u156 t160 u160 t172 u172

def H.Le (h h' : H) : Prop := ∀ b cs, h.get b = some cs → h'.get b = some cs
theorem H.Le.refl (h : H) : H.Le h h := fun _ _ e => e
theorem H.Le.trans {a b c : H} (h1 : H.Le a b) (h2 : H.Le b c) : H.Le a c := fun _ _ e => h2 _ _ (h1 _ _ e)

def idx {α : Type} (p : α → Bool) (xs : List α) : Int := match xs.findIdx? p with | some i => i | none => -1
theorem idx_hit {α : Type} {p : α → Bool} {xs : List α} {i : Nat} {x : α} (hx : xs[i]? = some x) (hp : p x = true) (hb : ∀ q, q < i → ∀ x, xs[q]? = some x → p x = false) : idx p xs = i := by
  have hlt := (List.getElem?_eq_some_iff.1 hx)
  obtain ⟨hl, rfl⟩ := hlt
  have : xs.findIdx? p = some i := List.findIdx?_eq_some_iff_getElem.2 ⟨hl, hp, fun j hj => by simp [hb j hj _ (List.getElem?_eq_getElem (by omega))]⟩
  simp [idx, this]
theorem idx_miss {α : Type} {p : α → Bool} {xs : List α} (hb : ∀ q, q < xs.length → ∀ x, xs[q]? = some x → p x = false) : idx p xs = -1 := by
  have : xs.findIdx? p = none := List.findIdx?_eq_none_iff.2 fun x hx => by obtain ⟨q, hq, rfl⟩ := List.getElem_of_mem hx; exact hb q hq _ (List.getElem?_eq_getElem hq)
  simp [idx, this]
theorem idx_any {α : Type} {p : α → Bool} {xs : List α} : decide (idx p xs ≥ 0) = xs.any p := by
  unfold idx
  cases h : xs.findIdx? p with
  | none => have := List.findIdx?_eq_none_iff.1 h; simp; exact this
  | some i =>
    obtain ⟨hl, hp, _⟩ := List.findIdx?_eq_some_iff_getElem.1 h
    simp
    exact ⟨_, List.getElem_mem hl, hp⟩

attribute [local simp] lenA_ro indexA_ro

set_option maxRecDepth 8000 in
theorem indexFunc_int {f : FuncId} {caps : List AV} {h : H} {p : Int → Bool} {xs : List Int} {fu : Bool} (hlen : (xs.length : Int) < 2^62) (hF : ∀ x ∈ xs, Fn Try.prog f ([I x] ++ caps) h (B (p x)) h) :
    Fn Try.prog 125 [.ro fu 1 (xs.map fun x => [I x]), .clo f caps] h (I (idx p xs)) h := by
  refine Fn.keep noM noC (by kernel_rfl) Try.func125 rfl rfl fun _ => ?_
  simp -dsimp -implicitDefEqProofs
  refine LoopC.on (σ := Nat) (fun i j => [.ro fu 1 (xs.map fun x => [I x]), .clo f caps, j 2, j 3, j 4, j 5, j 6, I xs.length, I i, j 9, j 10, j 11, j 12, j 13, j 14, j 15, j 16, j 17, j 18])
    (fun i k => k = h ∧ i ≤ xs.length ∧ ∀ q, q < i → ∀ x, xs[q]? = some x → p x = false) (fun i => xs.length - i) 0 ⟨rfl, by omega, fun q hq => by omega⟩ (by simp) ?_
  rintro i j h' ⟨rfl, hi, hp⟩
  simp -dsimp -implicitDefEqProofs
  refine ifD_in (fun hlt => ?_) (fun hge => ?_)
  · have hx := List.getElem?_eq_getElem (show i < xs.length by omega)
    simp -dsimp -implicitDefEqProofs [hx]
    refine onCall_in (hF _ (List.getElem_mem (by omega))) ?_
    simp -dsimp -implicitDefEqProofs
    refine ifB_in (fun hb => by simp -dsimp -implicitDefEqProofs [idx_hit hx hb hp]) (fun hb => ?_)
    simp -dsimp -implicitDefEqProofs
    refine ⟨i + 1, ⟨by omega, fun q hq x hqx => ?_⟩, ?_, by omega⟩
    · by_cases hqi : q = i
      · subst hqi; rw [hx] at hqx; cases hqx; simpa using hb
      · exact hp q (by omega) x hqx
    · rw [wrap_in (by omega) (by omega)]; omega
  · simp -dsimp -implicitDefEqProofs
    exact (idx_miss fun q hq => hp q (by omega)).symm

theorem containsFunc_int {f : FuncId} {caps : List AV} {h : H} {p : Int → Bool} {xs : List Int} {fu : Bool} (hlen : (xs.length : Int) < 2^62) (hF : ∀ x ∈ xs, Fn Try.prog f ([I x] ++ caps) h (B (p x)) h) :
    Fn Try.prog 110 [.ro fu 1 (xs.map fun x => [I x]), .clo f caps] h (B (xs.any p)) h := by
  refine Fn.keep noM noC (by kernel_rfl) Try.func110 rfl rfl fun _ => ?_
  simp -dsimp -implicitDefEqProofs
  refine onCall_in (indexFunc_int hlen hF) ?_
  simp -dsimp -implicitDefEqProofs
  exact idx_any

theorem every1_int {f : FuncId} {caps : List AV} {h : H} {b : Nat} {x : Int} {v : Bool} (hb : h.get b = some [.clo f caps]) (hF : Fn Try.prog f ([I x] ++ caps) h (B v) h) : Fn Try.prog 111 [I x, .ptr b 0] h (B !v) h := by
  refine Fn.keep noM noC (by kernel_rfl) Try.func111 rfl rfl fun _ => ?_
  simp -dsimp -implicitDefEqProofs [hb]
  refine onCall_in hF ?_
  simp -dsimp -implicitDefEqProofs

theorem every_int {f : FuncId} {caps : List AV} {h : H} {p : Int → Bool} {xs : List Int} {fu : Bool} (hlen : (xs.length : Int) < 2^62) (hF : ∀ x ∈ xs, Fn Try.prog f ([I x] ++ caps) (h.push [.clo f caps]) (B (p x)) (h.push [.clo f caps])) :
    Fn Try.prog 92 [.ro fu 1 (xs.map fun x => [I x]), .clo f caps] h (B (xs.all p)) h := by
  refine Fn.keep noM noC (by kernel_rfl) Try.func92 rfl rfl fun _ => ?_
  simp -dsimp -implicitDefEqProofs
  refine onCall_in (containsFunc_int (p := fun x => !p x) hlen fun x hx => every1_int (b := h.next) (f := f) (caps := caps) (by simp) (hF x hx)) ?_
  simp -dsimp -implicitDefEqProofs
  rw [Bool.eq_iff_iff]; simp

theorem within1 {lo hi x : Int} {h : H} {a b : Nat} (ha : h.get a = some [I lo]) (hb : h.get b = some [I hi]) : Fn Try.prog 93 [I x, .ptr a 0, .ptr b 0] h (B (decide (lo ≤ x) && decide (x ≤ hi))) h := by
  refine Fn.keep noM noC (by kernel_rfl) Try.func93 rfl rfl fun _ => ?_
  simp -dsimp -implicitDefEqProofs [ha, hb]
  refine ifD_in (fun h => ?_) (fun h => ?_)
  · simp -dsimp -implicitDefEqProofs [hb, h]
  · simp -dsimp -implicitDefEqProofs [hb, h]

theorem within_fn {lo hi : Int} {h : H} {xs : List Int} {fu : Bool} (hlen : (xs.length : Int) < 2^62) : Fn Try.prog 56 [I lo, I hi, .ro fu 1 (xs.map fun x => [I x])] h (B (xs.all fun x => decide (lo ≤ x) && decide (x ≤ hi))) h := by
  refine Fn.keep noM noC (by kernel_rfl) Try.func56 rfl rfl fun _ => ?_
  simp -dsimp -implicitDefEqProofs
  refine onCall_in (every_int (p := fun x => decide (lo ≤ x) && decide (x ≤ hi)) hlen fun x hx => within1 (by simp) (by simp)) ?_
  simp -dsimp -implicitDefEqProofs
end Go.Pe
