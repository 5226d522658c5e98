import Derived.Test.YtffckclggkjbgaaGreatY19
import Derived.Test.YtffckclggkjbgaaGreatY11
import Derived.Test.YtffckclggkjbgaaGreatY09
set_option linter.unusedVariables false
set_option linter.unusedSimpArgs false
/- What the types and the small functions of the program are. -/
namespace Go.Pe
open Go Go.Proofs Go.Proofs.YtffckclggkjbgaaGreat

attribute [local simp] ap_skip ap_region ap_seq ap_cond ap_block ap_loop ap_exit ap_ret ap_seq_normal ap_seq_ret ap_seq_exit ap_block_normal ap_block_ret ap_block_exit ap_block_other ap_nil ap_draw ap_dr_nil ap_fin_ret ap_fin_normal ap_loopK dstT_zero dstT_succ Nat.add_assoc onSome_some onSome_none ifB_true ifB_false ifB_not onClo_clo onBool_bool onBool_tup frz_val frz_ro takeAt elemTy LeN_refl LeN_push LeN_set push_get push_next set_get set_next nil_get nil_next pop_move pop_assign pop_pick pop_load pop_fieldAddr pop_indexAddr pop_field pop_binOp pop_unOp pop_convert pop_extract pop_makeFunc pop_nilCheck pop_build pop_slice pop_len pop_max pop_min eop_alloc eop_box eop_store eop_buildSlice eop_makeSlice eop_append as_move as_assign as_pick as_load as_fieldAddr as_indexAddr as_field as_binOp as_unOp as_convert as_extract as_makeFunc as_nilCheck as_build as_slice as_len as_max as_min as_alloc as_box as_store as_buildSlice as_makeSlice as_append as_call cons_free cons_guard putA_some putA_none aev_tmp aev_int aev_bool aev_nil aev_func pickA_and pickA_or pickA_true pickA_false nnA_ptr nnA_rop idxA_some intOf_int boxA_some bin_int binI_add binI_sub binI_mul binI_quo binI_rem binI_eql binI_neq binI_lss binI_leq binI_gtr binI_geq unA_not unA_neg loadA_ptr loadA_rop loadO_some asLoaded_agg asLoaded_one resA_one resA_two resOne_tmp resOne_cell cellsOf_int cellsOf_bool cellsOf_clo cellsOf_ptr cellsOf_ro cellsOf_sl cellsOf_nil cellsOf_agg one_int one_bool one_nil one_clo one_ptr one_ro one_sl one_rop mm_max mm_min elS_sl elS2_sl mkA_some chunk_zero chunk_succ zcells_zero zcells_succ clean_val clean_ro clean_rop clean1_val clean1_ro clean1_rop flat_val flat_ro flat_agg frz_agg frz_tup
attribute [local simp] t3 u3 t4 u4 t5 u5 t22 u22 t23 u23 t25 u25 t27 u27 t28 u28 t30 u30 t32 u32   t37 u37 t43 u43     t50 u50   t75 u75 t77 u77     t94 u94   t102 u102 t117 u117 t119 u119     t130 u130 t134 u134 t138 u138   t155 u155 t156 u156   t172 u172

theorem floor_fn {n k : Int} (hk : 0 < k) (h1 : -2^63 < n) (h2 : n < 2^63) : Fn Tryz.prog 191 [I n, I k] .nil (I (n / k)) .nil := by
  refine Fn.keep noM noC (by kernel_rfl) Tryz.func191 rfl rfl fun _ => ?_
  have hk0 : k ≠ 0 := by omega
  have hd : n = k * (n / k) + n % k := (Int.mul_ediv_add_emod n k).symm
  have hm := Int.emod_nonneg n hk0
  have hm2 := Int.emod_lt_of_pos n hk
  have hb : (n.tdiv k).natAbs ≤ n.natAbs := by rw [Int.natAbs_tdiv]; exact Nat.div_le_self _ _
  simp -dsimp -implicitDefEqProofs [hk0]
  have ht := Int.tdiv_eq_ediv (a := n) (b := k)
  have htm := Int.tmod_eq_emod (a := n) (b := k)
  have hs : k.sign = 1 := Int.sign_eq_one_of_pos hk
  have hna : (k.natAbs : Int) = k := by omega
  rw [hs] at ht
  have hna' : ((if 0 ≤ n ∨ k ∣ n then 0 else k.natAbs : Nat) : Int) = if 0 ≤ n ∨ k ∣ n then 0 else k := by split <;> simp [hna]
  rw [hna'] at htm
  refine ifD_in (fun h => ?_) (fun h => ?_) <;> simp -dsimp -implicitDefEqProofs [hk0] <;> rw [wrap_in (n := n.tdiv k) (by omega) (by omega)] <;> split at ht <;> split at htm <;> first | omega | contradiction | (rw [wrap_in (by omega) (by omega)]; omega)
theorem ceil_fn {n k : Int} (hk : 0 < k) (h1 : -2^63 < n) (h2 : n < 2^63) : Fn Tryz.prog 192 [I n, I k] .nil (I (-((-n) / k))) .nil := by
  refine Fn.keep noM noC (by kernel_rfl) Tryz.func192 rfl rfl fun _ => ?_
  simp -dsimp -implicitDefEqProofs
  rw [wrap_in (n := -n) (by omega) (by omega)]
  refine onCall_in (floor_fn hk (by omega) (by omega)) ?_
  have h3 : ((-n) / k).natAbs ≤ (-n).natAbs := Int.natAbs_ediv_le_natAbs _ _
  have h4 : 0 < k := hk
  simp -dsimp -implicitDefEqProofs
  rw [wrap_in] <;> omega
end Go.Pe

/- Conditions for all elements of a list. -/
namespace Go.Pe
open Go Go.Proofs Go.Proofs.YtffckclggkjbgaaGreat
attribute [local simp] ap_skip ap_region ap_seq ap_cond ap_block ap_loop ap_exit ap_ret ap_seq_normal ap_seq_ret ap_seq_exit ap_block_normal ap_block_ret ap_block_exit ap_block_other ap_nil ap_draw ap_dr_nil ap_fin_ret ap_fin_normal ap_loopK dstT_zero dstT_succ Nat.add_assoc onSome_some onSome_none ifB_true ifB_false ifB_not onClo_clo onBool_bool onBool_tup frz_val frz_ro takeAt elemTy LeN_refl LeN_push LeN_set push_get push_next set_get set_next nil_get nil_next pop_move pop_assign pop_pick pop_load pop_fieldAddr pop_indexAddr pop_field pop_binOp pop_unOp pop_convert pop_extract pop_makeFunc pop_nilCheck pop_build pop_slice pop_len pop_max pop_min eop_alloc eop_box eop_store eop_buildSlice eop_makeSlice eop_append as_move as_assign as_pick as_load as_fieldAddr as_indexAddr as_field as_binOp as_unOp as_convert as_extract as_makeFunc as_nilCheck as_build as_slice as_len as_max as_min as_alloc as_box as_store as_buildSlice as_makeSlice as_append as_call cons_free cons_guard putA_some putA_none aev_tmp aev_int aev_bool aev_nil aev_func pickA_and pickA_or pickA_true pickA_false nnA_ptr nnA_rop idxA_some intOf_int boxA_some bin_int binI_add binI_sub binI_mul binI_quo binI_rem binI_eql binI_neq binI_lss binI_leq binI_gtr binI_geq unA_not unA_neg loadA_ptr loadA_rop loadO_some asLoaded_agg asLoaded_one resA_one resA_two resOne_tmp resOne_cell cellsOf_int cellsOf_bool cellsOf_clo cellsOf_ptr cellsOf_ro cellsOf_sl cellsOf_nil cellsOf_agg one_int one_bool one_nil one_clo one_ptr one_ro one_sl one_rop mm_max mm_min elS_sl elS2_sl mkA_some chunk_zero chunk_succ zcells_zero zcells_succ clean_val clean_ro clean_rop clean1_val clean1_ro clean1_rop flat_val flat_ro flat_agg frz_agg frz_tup
attribute [local simp] t3 u3 t4 u4 t5 u5 t22 u22 t23 u23 t25 u25 t27 u27 t28 u28 t30 u30 t32 u32   t37 u37 t43 u43     t50 u50   t75 u75 t77 u77     t94 u94   t102 u102 t117 u117 t119 u119     t130 u130 t134 u134 t138 u138   t155 u155 t156 u156   t172 u172

def H.Le (h h' : H) : Prop := ∀ b cs, h.get b = some cs → h'.get b = some cs
theorem H.Le.refl (h : H) : H.Le h h := fun _ _ e => e
theorem H.Le.trans {a b c : H} (h1 : H.Le a b) (h2 : H.Le b c) : H.Le a c := fun _ _ e => h2 _ _ (h1 _ _ e)

def idx {α : Type} (p : α → Bool) (xs : List α) : Int := match xs.findIdx? p with | some i => i | none => -1
theorem idx_hit {α : Type} {p : α → Bool} {xs : List α} {i : Nat} {x : α} (hx : xs[i]? = some x) (hp : p x = true) (hb : ∀ q, q < i → ∀ x, xs[q]? = some x → p x = false) : idx p xs = i := by
  have hlt := (List.getElem?_eq_some_iff.1 hx)
  obtain ⟨hl, rfl⟩ := hlt
  have : xs.findIdx? p = some i := List.findIdx?_eq_some_iff_getElem.2 ⟨hl, hp, fun j hj => by simp [hb j hj _ (List.getElem?_eq_getElem (by omega))]⟩
  simp [idx, this]
theorem idx_miss {α : Type} {p : α → Bool} {xs : List α} (hb : ∀ q, q < xs.length → ∀ x, xs[q]? = some x → p x = false) : idx p xs = -1 := by
  have : xs.findIdx? p = none := List.findIdx?_eq_none_iff.2 fun x hx => by obtain ⟨q, hq, rfl⟩ := List.getElem_of_mem hx; exact hb q hq _ (List.getElem?_eq_getElem hq)
  simp [idx, this]
theorem idx_any {α : Type} {p : α → Bool} {xs : List α} : decide (idx p xs ≥ 0) = xs.any p := by
  unfold idx
  cases h : xs.findIdx? p with
  | none => have := List.findIdx?_eq_none_iff.1 h; simp; exact this
  | some i =>
    obtain ⟨hl, hp, _⟩ := List.findIdx?_eq_some_iff_getElem.1 h
    simp
    exact ⟨_, List.getElem_mem hl, hp⟩

attribute [local simp] lenA_ro indexA_ro

set_option maxRecDepth 8000 in
theorem indexFunc_int {f : FuncId} {caps : List AV} {h : H} {p : Int → Bool} {xs : List Int} {fu : Bool} (hlen : (xs.length : Int) < 2^62) (hF : ∀ x ∈ xs, Fn Tryz.prog f ([I x] ++ caps) h (B (p x)) h) :
    Fn Tryz.prog 172 [.ro fu 1 (xs.map fun x => [I x]), .clo f caps] h (I (idx p xs)) h := by
  refine Fn.keep noM noC (by kernel_rfl) Tryz.func172 rfl rfl fun _ => ?_
  simp -dsimp -implicitDefEqProofs
  refine LoopC.on (σ := Nat) (fun i j => [.ro fu 1 (xs.map fun x => [I x]), .clo f caps, j 2, j 3, j 4, j 5, j 6, I xs.length, I i, j 9, j 10, j 11, j 12, j 13, j 14, j 15, j 16, j 17, j 18])
    (fun i k => k = h ∧ i ≤ xs.length ∧ ∀ q, q < i → ∀ x, xs[q]? = some x → p x = false) (fun i => xs.length - i) 0 ⟨rfl, by omega, fun q hq => by omega⟩ (by simp) ?_
  rintro i j h' ⟨rfl, hi, hp⟩
  simp -dsimp -implicitDefEqProofs
  refine ifD_in (fun hlt => ?_) (fun hge => ?_)
  · have hx := List.getElem?_eq_getElem (show i < xs.length by omega)
    simp -dsimp -implicitDefEqProofs [hx]
    refine onCall_in (hF _ (List.getElem_mem (by omega))) ?_
    simp -dsimp -implicitDefEqProofs
    refine ifB_in (fun hb => by simp -dsimp -implicitDefEqProofs [idx_hit hx hb hp]) (fun hb => ?_)
    simp -dsimp -implicitDefEqProofs
    refine ⟨i + 1, ⟨by omega, fun q hq x hqx => ?_⟩, ?_, by omega⟩
    · by_cases hqi : q = i
      · subst hqi; rw [hx] at hqx; cases hqx; simpa using hb
      · exact hp q (by omega) x hqx
    · rw [wrap_in (by omega) (by omega)]; omega
  · simp -dsimp -implicitDefEqProofs
    exact (idx_miss fun q hq => hp q (by omega)).symm

theorem containsFunc_int {f : FuncId} {caps : List AV} {h : H} {p : Int → Bool} {xs : List Int} {fu : Bool} (hlen : (xs.length : Int) < 2^62) (hF : ∀ x ∈ xs, Fn Tryz.prog f ([I x] ++ caps) h (B (p x)) h) :
    Fn Tryz.prog 138 [.ro fu 1 (xs.map fun x => [I x]), .clo f caps] h (B (xs.any p)) h := by
  refine Fn.keep noM noC (by kernel_rfl) Tryz.func138 rfl rfl fun _ => ?_
  simp -dsimp -implicitDefEqProofs
  refine onCall_in (indexFunc_int hlen hF) ?_
  simp -dsimp -implicitDefEqProofs
  exact idx_any

theorem every1_int {f : FuncId} {caps : List AV} {h : H} {b : Nat} {x : Int} {v : Bool} (hb : h.get b = some [.clo f caps]) (hF : Fn Tryz.prog f ([I x] ++ caps) h (B v) h) : Fn Tryz.prog 186 [I x, .ptr b 0] h (B !v) h := by
  refine Fn.keep noM noC (by kernel_rfl) Tryz.func186 rfl rfl fun _ => ?_
  simp -dsimp -implicitDefEqProofs [hb]
  refine onCall_in hF ?_
  simp -dsimp -implicitDefEqProofs

theorem every_int {f : FuncId} {caps : List AV} {h : H} {p : Int → Bool} {xs : List Int} {fu : Bool} (hlen : (xs.length : Int) < 2^62) (hF : ∀ x ∈ xs, Fn Tryz.prog f ([I x] ++ caps) (h.push [.clo f caps]) (B (p x)) (h.push [.clo f caps])) :
    Fn Tryz.prog 164 [.ro fu 1 (xs.map fun x => [I x]), .clo f caps] h (B (xs.all p)) h := by
  refine Fn.keep noM noC (by kernel_rfl) Tryz.func164 rfl rfl fun _ => ?_
  simp -dsimp -implicitDefEqProofs
  refine onCall_in (containsFunc_int (p := fun x => !p x) hlen fun x hx => every1_int (b := h.next) (f := f) (caps := caps) (by simp) (hF x hx)) ?_
  simp -dsimp -implicitDefEqProofs
  rw [Bool.eq_iff_iff]; simp

theorem within1 {lo hi x : Int} {h : H} {a b : Nat} (ha : h.get a = some [I lo]) (hb : h.get b = some [I hi]) : Fn Tryz.prog 165 [I x, .ptr a 0, .ptr b 0] h (B (decide (lo ≤ x) && decide (x ≤ hi))) h := by
  refine Fn.keep noM noC (by kernel_rfl) Tryz.func165 rfl rfl fun _ => ?_
  simp -dsimp -implicitDefEqProofs [ha, hb]
  refine ifD_in (fun h => ?_) (fun h => ?_)
  · simp -dsimp -implicitDefEqProofs [hb, h]
  · simp -dsimp -implicitDefEqProofs [hb, h]

theorem within_fn {lo hi : Int} {h : H} {xs : List Int} {fu : Bool} (hlen : (xs.length : Int) < 2^62) : Fn Tryz.prog 123 [I lo, I hi, .ro fu 1 (xs.map fun x => [I x])] h (B (xs.all fun x => decide (lo ≤ x) && decide (x ≤ hi))) h := by
  refine Fn.keep noM noC (by kernel_rfl) Tryz.func123 rfl rfl fun _ => ?_
  simp -dsimp -implicitDefEqProofs
  refine onCall_in (every_int (p := fun x => decide (lo ≤ x) && decide (x ≤ hi)) hlen fun x hx => within1 (by simp) (by simp)) ?_
  simp -dsimp -implicitDefEqProofs
end Go.Pe

/- Bounds, land and sky. -/
namespace Go.Pe
open Go Go.Proofs Go.Proofs.YtffckclggkjbgaaGreat
attribute [local simp] ap_skip ap_region ap_seq ap_cond ap_block ap_loop ap_exit ap_ret ap_seq_normal ap_seq_ret ap_seq_exit ap_block_normal ap_block_ret ap_block_exit ap_block_other ap_nil ap_draw ap_dr_nil ap_fin_ret ap_fin_normal ap_loopK dstT_zero dstT_succ Nat.add_assoc onSome_some onSome_none ifB_true ifB_false ifB_not onClo_clo onBool_bool onBool_tup frz_val frz_ro takeAt elemTy LeN_refl LeN_push LeN_set push_get push_next set_get set_next nil_get nil_next pop_move pop_assign pop_pick pop_load pop_fieldAddr pop_indexAddr pop_field pop_binOp pop_unOp pop_convert pop_extract pop_makeFunc pop_nilCheck pop_build pop_slice pop_len pop_max pop_min eop_alloc eop_box eop_store eop_buildSlice eop_makeSlice eop_append as_move as_assign as_pick as_load as_fieldAddr as_indexAddr as_field as_binOp as_unOp as_convert as_extract as_makeFunc as_nilCheck as_build as_slice as_len as_max as_min as_alloc as_box as_store as_buildSlice as_makeSlice as_append as_call cons_free cons_guard putA_some putA_none aev_tmp aev_int aev_bool aev_nil aev_func pickA_and pickA_or pickA_true pickA_false nnA_ptr nnA_rop idxA_some intOf_int boxA_some bin_int binI_add binI_sub binI_mul binI_quo binI_rem binI_eql binI_neq binI_lss binI_leq binI_gtr binI_geq unA_not unA_neg loadA_ptr loadA_rop loadO_some asLoaded_agg asLoaded_one resA_one resA_two resOne_tmp resOne_cell cellsOf_int cellsOf_bool cellsOf_clo cellsOf_ptr cellsOf_ro cellsOf_sl cellsOf_nil cellsOf_agg one_int one_bool one_nil one_clo one_ptr one_ro one_sl one_rop mm_max mm_min elS_sl elS2_sl mkA_some chunk_zero chunk_succ zcells_zero zcells_succ clean_val clean_ro clean_rop clean1_val clean1_ro clean1_rop flat_val flat_ro flat_agg frz_agg frz_tup
attribute [local simp] t3 u3 t4 u4 t5 u5 t22 u22 t23 u23 t25 u25 t27 u27 t28 u28 t30 u30 t32 u32   t37 u37 t43 u43     t50 u50   t75 u75 t77 u77     t94 u94   t102 u102 t117 u117 t119 u119     t130 u130 t134 u134 t138 u138   t155 u155 t156 u156   t172 u172
attribute [local simp] lenA_ro indexA_ro fieldA fldA partA buildA fillA storeA buildSliceA

attribute [local simp] quietA effectful allocs fpo findNew_nil q_move q_assign q_pick q_load q_fieldAddr q_indexAddr q_field q_binOp q_unOp q_convert q_extract q_makeFunc q_nilCheck q_build q_slice q_len q_max q_min e_alloc e_box e_store e_buildSlice e_makeSlice e_append q_call e_call dr_free dr_guard qView_next eView_next hit_nil hit_cons qView_get optL_some optL_none eView_get fp_alloc fp_box fp_make fp_append fp_build fp_call fp_store mergeG_get LeN_nil new_store findNew_cons
set_option maxRecDepth 20000
/-- The program's values. -/
structure Bd where
  lo : Int
  hi : Int
noncomputable abbrev Bd.av (b : Bd) : AV := .agg [I b.lo, I b.hi]
structure Ct where
  area : Int
  pc : Int
  melt : Int
  snow : Bd
noncomputable abbrev Ct.av (c : Ct) : AV := .agg [I c.area, I c.pc, I c.melt, I c.snow.lo, I c.snow.hi]
structure Sk where
  rain : Bd
  heat : Bd
noncomputable abbrev Sk.av (x : Sk) : AV := .agg [I x.rain.lo, I x.rain.hi, I x.heat.lo, I x.heat.hi]

def validB (b : Bd) (lo hi : Int) : Bool := decide (b.lo ≤ b.hi) && ((decide (lo ≤ b.lo) && decide (b.lo ≤ hi)) && (decide (lo ≤ b.hi) && decide (b.hi ≤ hi)))
def warm (c : Ct) (x : Sk) : Bd := ⟨c.melt * max 0 x.heat.lo, c.melt * max 0 x.heat.hi⟩

theorem valid_fn {b : Bd} {lo hi : Int} {h : H} : Fn Tryz.prog 131 [b.av, I lo, I hi] h (B (validB b lo hi)) h := by
  refine Fn.keep noM noC (by kernel_rfl) Tryz.func131 rfl rfl fun _ => ?_
  simp -dsimp -implicitDefEqProofs
  refine ifD_in (fun h => ?_) (fun h => ?_)
  · simp -dsimp -implicitDefEqProofs
    refine onCall_in (within_fn (xs := [b.lo, b.hi]) (by simp)) ?_
    simp -dsimp -implicitDefEqProofs [validB, h]
  · simp -dsimp -implicitDefEqProofs [validB, h]

def validS (x : Sk) : Bool := validB x.rain 0 20000 && validB x.heat (-500) 500
theorem mul_in {a b : Int} {m n : Nat} (ha : a.natAbs ≤ m) (hb : b.natAbs ≤ n) : (a * b).natAbs ≤ m * n := by rw [Int.natAbs_mul]; exact Nat.mul_le_mul ha hb

def drain (c : Ct) (w : Bd) : Bd := ⟨(c.area * c.pc * w.lo) / 10, -((-(c.area * c.pc * w.hi)) / 10)⟩
def total (l : List Bd) : Bd := l.foldl (fun a b => ⟨a.lo + b.lo, a.hi + b.hi⟩) ⟨0, 0⟩
theorem total_snoc {l : List Bd} {b : Bd} : total (l ++ [b]) = ⟨(total l).lo + b.lo, (total l).hi + b.hi⟩ := by simp [total, List.foldl_append]
theorem total_in {m : Nat} {l : List Bd} (h : ∀ b ∈ l, b.lo.natAbs ≤ m ∧ b.hi.natAbs ≤ m) : ∀ i, i ≤ l.length → (total (l.take i)).lo.natAbs ≤ i * m ∧ (total (l.take i)).hi.natAbs ≤ i * m := by
  intro i
  induction i with
  | zero => intro _; simp [total]
  | succ i ih =>
    intro hi
    have h1 := ih (by omega)
    have hx := List.getElem?_eq_getElem (show i < l.length by omega)
    have h2 := h _ (List.getElem_mem (show i < l.length by omega))
    rw [List.take_add_one, hx, Option.toList_some, total_snoc, Nat.add_mul]
    simp only
    omega

theorem sum_fn {xs : List Bd} {fu : Bool} (hlen : xs.length ≤ 1000000) (hb : ∀ b ∈ xs, b.lo.natAbs ≤ 1000000000000 ∧ b.hi.natAbs ≤ 1000000000000) : Fn Tryz.prog 162 [.ro fu 2 (xs.map fun b => [I b.lo, I b.hi])] .nil (total xs).av .nil := by
  refine Fn.keep noM noC (by kernel_rfl) Tryz.func162 rfl rfl fun _ => ?_
  simp -dsimp -implicitDefEqProofs
  refine LoopC.on (σ := Nat) (fun i j => [.ro fu 2 (xs.map fun b => [I b.lo, I b.hi]), j 1, .ptr 0 0, .ptr 1 0, j 4, j 5, .ro fu 2 (xs.map fun b => [I b.lo, I b.hi]), I xs.length, I i, j 9, j 10, j 11, j 12, j 13, j 14, j 15, j 16, j 17, j 18, j 19, j 20, j 21, j 22, j 23, j 24, j 25])
    (fun i k => i ≤ xs.length ∧ (∃ m, k.next = m + 2) ∧ k.get 0 = some [I 0, I 0] ∧ k.get 1 = some [I (total (xs.take i)).lo, I (total (xs.take i)).hi]) (fun i => xs.length - i) 0 ⟨by omega, ⟨0, rfl⟩, rfl, rfl⟩ (by simp) ?_
  rintro i j k ⟨hi, ⟨m, hm⟩, hk0, hk1⟩
  simp -dsimp -implicitDefEqProofs
  refine ifD_in (fun hlt => ?_) (fun hge => ?_)
  · have hx := List.getElem?_eq_getElem (show i < xs.length by omega)
    simp -dsimp -implicitDefEqProofs [hx, hm, hk0, hk1]
    have h1 := total_in hb i (by omega)
    have h2 := hb _ (List.getElem_mem (show i < xs.length by omega))
    have h3 : total (xs.take (i + 1)) = ⟨(total (xs.take i)).lo + xs[i].lo, (total (xs.take i)).hi + xs[i].hi⟩ := by rw [List.take_add_one, hx, Option.toList_some, total_snoc]
    refine ⟨i + 1, ⟨by omega, ?_, ?_⟩, ?_, by omega⟩
    · rw [h3, wrap_in (by omega) (by omega)]
    · rw [h3, wrap_in (by omega) (by omega)]
    · rw [wrap_in (by omega) (by omega)]; omega
  · simp -dsimp -implicitDefEqProofs [hk0, hk1, hm]
    have : xs.take i = xs := List.take_of_length_le (by omega)
    rw [this]; exact ⟨rfl, rfl⟩

def validC (c : Ct) : Bool := ((decide (0 ≤ c.area) && decide (c.area ≤ 10000)) && (decide (0 ≤ c.pc) && decide (c.pc ≤ 100))) && (decide (0 ≤ c.melt) && decide (c.melt ≤ 100)) && validB c.snow 0 1000000
def melts (s w : Bd) : Bd := ⟨min w.lo s.lo, min w.hi s.hi⟩
def left (s w : Bd) : Bd := ⟨max 0 (s.lo - w.hi), max 0 (s.hi - w.lo)⟩
end Go.Pe
