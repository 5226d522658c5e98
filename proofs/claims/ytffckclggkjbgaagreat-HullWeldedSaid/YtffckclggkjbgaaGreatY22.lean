import Derived.Test.YtffckclggkjbgaaGreatY21
import Derived.Test.YtffckclggkjbgaaGreatY11
import Derived.Test.YtffckclggkjbgaaGreatY19
set_option linter.unusedVariables false
set_option linter.unusedSimpArgs false
/- Rivers: what is valid. -/
namespace Go.Pe
open Go Go.Proofs Go.Proofs.YtffckclggkjbgaaGreat
attribute [local simp] t3 u3 t4 u4 t5 u5 t22 u22 t23 u23 t25 u25 t27 u27 t28 u28 t30 u30 t32 u32   t37 u37 t43 u43     t50 u50   t75 u75 t77 u77     t94 u94   t102 u102 t117 u117 t119 u119     t130 u130 t134 u134 t138 u138   t155 u155 t156 u156   t172 u172
set_option maxRecDepth 20000
set_option maxHeartbeats 8000000

structure Rw where
  flow : Int
  level : Int
structure Rc where
  len : Int
  delay : Int
  base : Bd
  curve : List Rw
  weir : Int
  bot : Bd
  flood : Int
structure Sh where
  place : Int
  bed : Bd
  snd : Int
  grow : Bd
structure Rv where
  rs : List Rc
  ss : List Sh
noncomputable def fW (w : Rw) : List AV := [I w.flow, I w.level]
noncomputable abbrev Rc.cv (r : Rc) : AV := .ro false 2 (r.curve.map fW)
noncomputable def fR (r : Rc) : List AV := [I r.len, I r.delay, I r.base.lo, I r.base.hi, r.cv, I r.weir, I r.bot.lo, I r.bot.hi, I r.flood]
noncomputable def fS (s : Sh) : List AV := [I s.place, I s.bed.lo, I s.bed.hi, I s.snd, I s.grow.lo, I s.grow.hi]
noncomputable abbrev Rv.reaches (r : Rv) (fu : Bool) : AV := .ro fu 9 (r.rs.map fR)
noncomputable abbrev Rv.shoals (r : Rv) : AV := .ro false 6 (r.ss.map fS)
noncomputable abbrev Rv.av (r : Rv) (fu : Bool) : AV := .agg [r.reaches fu, r.shoals]
theorem fW_eq {w : Rw} : fW w = [I w.flow, I w.level] := rfl
theorem fR_eq {r : Rc} : fR r = [I r.len, I r.delay, I r.base.lo, I r.base.hi, r.cv, I r.weir, I r.bot.lo, I r.bot.hi, I r.flood] := rfl
theorem fS_eq {s : Sh} : fS s = [I s.place, I s.bed.lo, I s.bed.hi, I s.snd, I s.grow.lo, I s.grow.hi] := rfl
attribute [local simp] fW_eq fR_eq fS_eq

def inB (lo hi x : Int) : Bool := decide (lo ≤ x) && decide (x ≤ hi)
def vB (lo hi : Int) (b : Bd) : Bool := validB b lo hi
theorem inB_iff {lo hi x : Int} : inB lo hi x = true ↔ lo ≤ x ∧ x ≤ hi := by simp [inB]
theorem vB_iff {lo hi : Int} {b : Bd} : vB lo hi b = true ↔ b.lo ≤ b.hi ∧ (lo ≤ b.lo ∧ b.lo ≤ hi) ∧ lo ≤ b.hi ∧ b.hi ≤ hi := by simp [vB, validB]
theorem in1_fn {lo hi x : Int} {h : H} : Fn Tryz.prog 123 [I lo, I hi, .ro true 1 [[I x]]] h (B (inB lo hi x)) h := by
  have := within_fn (lo := lo) (hi := hi) (h := h) (xs := [x]) (fu := true) (by simp)
  have e : ([x].all fun x => decide (lo ≤ x) && decide (x ≤ hi)) = inB lo hi x := by simp [inB]
  rwa [e] at this
theorem in2_fn {lo hi x y : Int} {h : H} : Fn Tryz.prog 123 [I lo, I hi, .ro true 1 [[I x], [I y]]] h (B (inB lo hi x && inB lo hi y)) h := by
  have := within_fn (lo := lo) (hi := hi) (h := h) (xs := [x, y]) (fu := true) (by simp)
  have e : ([x, y].all fun x => decide (lo ≤ x) && decide (x ≤ hi)) = (inB lo hi x && inB lo hi y) := by simp [inB]
  rwa [e] at this
theorem v_fn {b : Bd} {lo hi : Int} {h : H} : Fn Tryz.prog 131 [.agg [I b.lo, I b.hi], I lo, I hi] h (B (vB lo hi b)) h := valid_fn
theorem validSide_fn {b : Bd} {h : H} : Fn Tryz.prog 160 [.agg [I b.lo, I b.hi]] h (B (vB 0 10000000000 b)) h := by
  refine Fn.beside ?_ rfl h
  refine Fn.ofR0 noM (by kernel_rfl) Tryz.func160 rfl (by simp) ?_
  simp -dsimp -implicitDefEqProofs
  refine onCall_in v_fn ?_
  simp -dsimp -implicitDefEqProofs

/-- A rating curve: row by row. -/
def rowsOk : List Rw → Bool
  | [] => true
  | w :: l => inB 0 10000000000 w.flow && inB 0 10000 w.level && (match l with | [] => true | v :: _ => decide (w.flow < v.flow) && decide (w.level ≤ v.level)) && rowsOk l
def upTo (l : List Rw) (i : Nat) : Prop := ∀ k (h : k < l.length), k < i → (inB 0 10000000000 l[k].flow = true ∧ inB 0 10000 l[k].level = true) ∧ ∀ (h0 : 0 < k), l[k - 1].flow < l[k].flow ∧ l[k - 1].level ≤ l[k].level
open Classical in
noncomputable def validCv (l : List Rw) : Bool := inB 2 30 l.length && decide (upTo l l.length)
theorem validCurve_fn {l : List Rw} {fu : Bool} {h : H} (hl : (l.length : Int) < 2^62) : Fn Tryz.prog 167 [.ro fu 2 (l.map fW)] h (B (validCv l)) h := by
  refine Fn.beside ?_ rfl h
  refine Fn.ofR0 noM (by kernel_rfl) Tryz.func167 rfl (by simp) ?_
  simp -dsimp -implicitDefEqProofs
  refine onCall_in in1_fn ?_
  simp -dsimp -implicitDefEqProofs
  refine ifB_in (fun h1 => ?_) (fun h1 => ?_)
  rotate_left
  · simp -dsimp -implicitDefEqProofs [validCv, h1]
  simp -dsimp -implicitDefEqProofs
  refine LoopCR.on 54 (fun i => [(0, .ro fu 2 (l.map fW)), (10, .ro fu 2 (l.map fW)), (11, I l.length), (12, I (i : Nat))]) (fun i => []) (fun i => i ≤ l.length ∧ upTo l i) (fun i => l.length - i) 0 [] ⟨by simp, fun k _ hk => by omega⟩ ?_ ?_
  · simp -dsimp -implicitDefEqProofs
  rintro i j ⟨hi, hu⟩
  simp -dsimp -implicitDefEqProofs
  refine ifD_in (fun hlt => ?_) (fun hge => ?_)
  rotate_left
  · have hin : i = l.length := by omega
    subst hin
    simp -dsimp -implicitDefEqProofs [validCv, h1, hu]
  have hlt' : i < l.length := by omega
  have hx := List.getElem?_eq_getElem hlt'
  have bad : ∀ (P : Prop), (¬ P) → (upTo l l.length → P) → validCv l = false := fun P h2 h3 => by
    simp only [validCv, Bool.and_eq_false_iff, decide_eq_false_iff_not]
    exact .inr fun h4 => h2 (h3 h4)
  have b1 := bad (inB 0 10000000000 l[i].flow = true)
  have b2 := bad (inB 0 10000 l[i].level = true)
  have hst : ∀ (h5 : inB 0 10000000000 l[i].flow = true) (h6 : inB 0 10000 l[i].level = true) (h7 : ∀ (h0 : 0 < i), l[i - 1].flow < l[i].flow ∧ l[i - 1].level ≤ l[i].level), upTo l (i + 1) := fun h5 h6 h7 k hk hki => by
    by_cases hk' : k < i
    · exact hu k hk hk'
    · have : k = i := by omega
      subst this; exact ⟨⟨h5, h6⟩, h7⟩
  have b3 : ∀ (h0 : 0 < i), ¬ (l[i - 1].flow < l[i].flow ∧ l[i - 1].level ≤ l[i].level) → validCv l = false := fun h0 h2 => bad _ h2 fun hh => (hh i hlt' hlt').2 h0
  obtain ⟨w, hwe⟩ : ∃ w, w = l[i] := ⟨_, rfl⟩
  rw [← hwe] at hx b1 b2 hst b3
  simp -dsimp -implicitDefEqProofs [hx]
  refine onCall_in in1_fn ?_
  simp -dsimp -implicitDefEqProofs
  refine ifB_in (fun h2 => ?_) (fun h2 => ?_)
  rotate_left
  · have := b1 (by simp [h2]) fun hh => by have := (hh i hlt' hlt').1.1; rwa [← hwe] at this
    simp -dsimp -implicitDefEqProofs [this]
  simp -dsimp -implicitDefEqProofs
  refine onCall_in in1_fn ?_
  simp -dsimp -implicitDefEqProofs
  refine ifB_in (fun h3 => ?_) (fun h3 => ?_)
  rotate_left
  · have := b2 (by simp [h3]) fun hh => by have := (hh i hlt' hlt').1.2; rwa [← hwe] at this
    simp -dsimp -implicitDefEqProofs [this]
  simp -dsimp -implicitDefEqProofs
  refine DrawR.on {} (by kernel_rfl) (by simp) ?_
  simp -dsimp -implicitDefEqProofs
  refine ifD_in (fun h4 => ?_) (fun h4 => ?_)
  · have h0 : 0 < i := by omega
    have e1 : IntKind.i64.wrap ((i : Int) - 1) = ((i - 1 : Nat) : Int) := by rw [wrap_in (by omega) (by omega)]; omega
    have hx2 := List.getElem?_eq_getElem (show i - 1 < l.length by omega)
    have b3' := b3 h0
    have hst' := hst h2 h3
    clear hst
    simp -dsimp -implicitDefEqProofs [e1, hx2]
    refine ifD_in (fun h5 => ?_) (fun h5 => ?_)
    · have := b3' (by omega)
      simp -dsimp -implicitDefEqProofs [this]
    simp -dsimp -implicitDefEqProofs [e1, hx2]
    refine ifD_in (fun h6 => ?_) (fun h6 => ?_)
    · have := b3' (by omega)
      simp -dsimp -implicitDefEqProofs [this]
    simp -dsimp -implicitDefEqProofs
    have hst2 := hst' fun _ => by omega
    refine again_in (i + 1) [] ⟨by omega, hst2⟩ (by omega) ?_
    simp -dsimp -implicitDefEqProofs
    rw [wrap_in (by omega) (by omega)]
  · simp -dsimp -implicitDefEqProofs
    have hst2 := hst h2 h3 fun _ => by omega
    refine again_in (i + 1) [] ⟨by omega, hst2⟩ (by omega) ?_
    simp -dsimp -implicitDefEqProofs
    rw [wrap_in (by omega) (by omega)]

open Classical in
noncomputable def validR (r : Rc) : Bool := inB 1 5000 r.len && (inB 0 200 r.delay && (vB 0 10000000000 r.base && (validCv r.curve && ((inB 0 10000 r.weir && inB 0 10000 r.flood) && vB 0 10000 r.bot))))
theorem validReach_fn {r : Rc} {h : H} (hl : (r.curve.length : Int) < 2^62) : Fn Tryz.prog 130 [.agg (fR r)] h (B (validR r)) h := by
  refine Fn.beside ?_ rfl h
  refine Fn.ofR0 noM (by kernel_rfl) Tryz.func130 rfl (by simp) ?_
  simp -dsimp -implicitDefEqProofs
  refine onCall_in in1_fn ?_
  simp -dsimp -implicitDefEqProofs
  refine ifB_in (fun h1 => ?_) (fun h1 => ?_)
  rotate_left
  · simp -dsimp -implicitDefEqProofs [validR, h1]
  simp -dsimp -implicitDefEqProofs
  refine onCall_in in1_fn ?_
  simp -dsimp -implicitDefEqProofs
  refine ifB_in (fun h2 => ?_) (fun h2 => ?_)
  rotate_left
  · simp -dsimp -implicitDefEqProofs [validR, h2]
  simp -dsimp -implicitDefEqProofs
  refine onCall_in validSide_fn ?_
  simp -dsimp -implicitDefEqProofs
  refine ifB_in (fun h3 => ?_) (fun h3 => ?_)
  rotate_left
  · simp -dsimp -implicitDefEqProofs [validR, h3]
  simp -dsimp -implicitDefEqProofs
  refine onCall_in (validCurve_fn hl) ?_
  simp -dsimp -implicitDefEqProofs
  refine ifB_in (fun h4 => ?_) (fun h4 => ?_)
  rotate_left
  · simp -dsimp -implicitDefEqProofs [validR, h4]
  simp -dsimp -implicitDefEqProofs
  refine onCall_in in2_fn ?_
  simp -dsimp -implicitDefEqProofs
  refine ifB_in (fun h5 => ?_) (fun h5 => ?_)
  rotate_left
  · simp -dsimp -implicitDefEqProofs [validR, h5]
  simp -dsimp -implicitDefEqProofs
  refine onCall_in v_fn ?_
  simp -dsimp -implicitDefEqProofs [validR, h1, h2, h3, h4, h5]
def validSh (len : Int) (s : Sh) : Bool := inB 0 (len - 1) s.place && (vB 0 10000 s.bed && (inB (-400) 400 s.snd && vB (-500) 500 s.grow))
theorem validShoal_fn {s : Sh} {len : Int} {h : H} (hl : len.natAbs ≤ 1000000000000) : Fn Tryz.prog 181 [.agg (fS s), I len] h (B (validSh len s)) h := by
  refine Fn.beside ?_ rfl h
  refine Fn.ofR0 noM (by kernel_rfl) Tryz.func181 rfl (by simp) ?_
  have w1 := wrap_in (n := len - 1) (by omega) (by omega)
  simp -dsimp -implicitDefEqProofs [w1]
  refine onCall_in in1_fn ?_
  simp -dsimp -implicitDefEqProofs
  refine ifB_in (fun h1 => ?_) (fun h1 => ?_)
  rotate_left
  · simp -dsimp -implicitDefEqProofs [validSh, h1]
  simp -dsimp -implicitDefEqProofs
  refine onCall_in v_fn ?_
  simp -dsimp -implicitDefEqProofs
  refine ifB_in (fun h2 => ?_) (fun h2 => ?_)
  rotate_left
  · simp -dsimp -implicitDefEqProofs [validSh, h2]
  simp -dsimp -implicitDefEqProofs
  refine onCall_in in1_fn ?_
  simp -dsimp -implicitDefEqProofs
  refine ifB_in (fun h3 => ?_) (fun h3 => ?_)
  rotate_left
  · simp -dsimp -implicitDefEqProofs [validSh, h3]
  simp -dsimp -implicitDefEqProofs
  refine onCall_in v_fn ?_
  simp -dsimp -implicitDefEqProofs [validSh, h1, h2, h3]

def lenSum (l : List Rc) : Int := l.foldl (fun n r => n + r.len) 0
theorem lenSum_snoc {l : List Rc} {r : Rc} : lenSum (l ++ [r]) = lenSum l + r.len := by simp [lenSum, List.foldl_append]
theorem lenSum_in {m : Nat} {l : List Rc} (h : ∀ r ∈ l, r.len.natAbs ≤ m) : ∀ i, i ≤ l.length → (lenSum (l.take i)).natAbs ≤ i * m := by
  intro i
  induction i with
  | zero => intro _; simp [lenSum]
  | succ i ih =>
    intro hi
    have h1 := ih (by omega)
    have hx := List.getElem?_eq_getElem (show i < l.length by omega)
    have h2 := h _ (List.getElem_mem (show i < l.length by omega))
    rw [List.take_add_one, hx, Option.toList_some, lenSum_snoc, Nat.add_mul]
    omega
theorem lengthOf_fn {r : Rv} {fu : Bool} {h : H} (hl : r.rs.length ≤ 1000000) (hb : ∀ x ∈ r.rs, x.len.natAbs ≤ 1000000) : Fn Tryz.prog 178 [r.av fu] h (I (lenSum r.rs)) h := by
  refine Fn.beside ?_ rfl h
  refine Fn.ofR0 noM (by kernel_rfl) Tryz.func178 rfl (by simp) ?_
  simp -dsimp -implicitDefEqProofs
  refine LoopCR.on 19 (fun i => [(7, r.reaches fu), (8, I r.rs.length), (9, I (i : Nat)), (3, I (lenSum (r.rs.take i)))]) (fun i => []) (fun i => i ≤ r.rs.length) (fun i => r.rs.length - i) 0 [] (by simp) ?_ ?_
  · simp -dsimp -implicitDefEqProofs [lenSum]
  intro i j hi
  simp -dsimp -implicitDefEqProofs
  refine ifD_in (fun hlt => ?_) (fun hge => ?_)
  · have hlt' : i < r.rs.length := by omega
    have hx := List.getElem?_eq_getElem hlt'
    have h1 := lenSum_in hb i (by omega)
    have h2 := hb _ (List.getElem_mem hlt')
    have h3 : lenSum (r.rs.take (i + 1)) = lenSum (r.rs.take i) + r.rs[i].len := by rw [List.take_add_one, hx, Option.toList_some, lenSum_snoc]
    have w1 := wrap_in (n := lenSum (r.rs.take i) + r.rs[i].len) (by omega) (by omega)
    simp -dsimp -implicitDefEqProofs [hx, w1]
    refine again_in (i + 1) [] (by omega) (by omega) ?_
    simp -dsimp -implicitDefEqProofs [h3]
    rw [wrap_in (by omega) (by omega)]
  · have hin : i = r.rs.length := by omega
    subst hin
    simp -dsimp -implicitDefEqProofs
end Go.Pe

/- Plates: conditions for all of them; the package valid. -/
namespace Go.Pe
open Go Go.Proofs Go.Proofs.YtffckclggkjbgaaGreat
section
attribute [local simp] ap_skip ap_region ap_seq ap_cond ap_block ap_loop ap_exit ap_ret ap_seq_normal ap_seq_ret ap_seq_exit ap_block_normal ap_block_ret ap_block_exit ap_block_other ap_nil ap_draw ap_dr_nil ap_fin_ret ap_fin_normal ap_loopK dstT_zero dstT_succ Nat.add_assoc onSome_some onSome_none ifB_true ifB_false ifB_not onClo_clo onBool_bool onBool_tup frz_val frz_ro takeAt elemTy LeN_refl LeN_push LeN_set push_get push_next set_get set_next nil_get nil_next pop_move pop_assign pop_pick pop_load pop_fieldAddr pop_indexAddr pop_field pop_binOp pop_unOp pop_convert pop_extract pop_makeFunc pop_nilCheck pop_build pop_slice pop_len pop_max pop_min eop_alloc eop_box eop_store eop_buildSlice eop_makeSlice eop_append as_move as_assign as_pick as_load as_fieldAddr as_indexAddr as_field as_binOp as_unOp as_convert as_extract as_makeFunc as_nilCheck as_build as_slice as_len as_max as_min as_alloc as_box as_store as_buildSlice as_makeSlice as_append as_call cons_free cons_guard putA_some putA_none aev_tmp aev_int aev_bool aev_nil aev_func pickA_and pickA_or pickA_true pickA_false nnA_ptr nnA_rop idxA_some intOf_int boxA_some bin_int binI_add binI_sub binI_mul binI_quo binI_rem binI_eql binI_neq binI_lss binI_leq binI_gtr binI_geq unA_not unA_neg loadA_ptr loadA_rop loadO_some asLoaded_agg asLoaded_one resA_one resA_two resOne_tmp resOne_cell cellsOf_int cellsOf_bool cellsOf_clo cellsOf_ptr cellsOf_ro cellsOf_sl cellsOf_nil cellsOf_agg one_int one_bool one_nil one_clo one_ptr one_ro one_sl one_rop mm_max mm_min elS_sl elS2_sl mkA_some chunk_zero chunk_succ zcells_zero zcells_succ clean_val clean_ro clean_rop clean1_val clean1_ro clean1_rop flat_val flat_ro flat_agg frz_agg frz_tup
attribute [local simp] t3 u3 t4 u4 t5 u5 t22 u22 t23 u23 t25 u25 t27 u27 t28 u28 t30 u30 t32 u32   t37 u37 t43 u43     t50 u50   t75 u75 t77 u77     t94 u94   t102 u102 t117 u117 t119 u119     t130 u130 t134 u134 t138 u138   t155 u155 t156 u156   t172 u172

attribute [local simp] tz22 uz22 tz26 uz26 tz29 uz29 tz30 uz30 tz68 uz68 tz69 uz69
set_option maxRecDepth 20000
theorem vEvery1_int {f : FuncId} {caps : List AV} {h : H} {b : Nat} {x : Int} {v : Bool} (hb : h.get b = some [.clo f caps]) (hF : Fn Tryz.prog f ([I x] ++ caps) h (B v) h) : Fn Tryz.prog 139 [I x, .ptr b 0] h (B !v) h := by
  refine Fn.keep noM noC (by kernel_rfl) Tryz.func139 rfl rfl fun _ => ?_
  simp -dsimp -implicitDefEqProofs [hb]
  refine onCall_in hF ?_
  simp -dsimp -implicitDefEqProofs

theorem vEvery_int {f : FuncId} {caps : List AV} {h : H} {p : Int → Bool} {xs : List Int} {fu : Bool} (hlen : (xs.length : Int) < 2^62) (hF : ∀ x ∈ xs, Fn Tryz.prog f ([I x] ++ caps) (h.push [.clo f caps]) (B (p x)) (h.push [.clo f caps])) :
    Fn Tryz.prog 99 [.ro fu 1 (xs.map fun x => [I x]), .clo f caps] h (B (xs.all p)) h := by
  refine Fn.keep noM noC (by kernel_rfl) Tryz.func99 rfl rfl fun _ => ?_
  simp -dsimp -implicitDefEqProofs
  refine onCall_in (containsFunc_int (p := fun x => !p x) hlen fun x hx => vEvery1_int (b := h.next) (f := f) (caps := caps) (by simp) (hF x hx)) ?_
  simp -dsimp -implicitDefEqProofs
  rw [Bool.eq_iff_iff]; simp

theorem vWithin1 {lo hi x : Int} {h : H} {a b : Nat} (ha : h.get a = some [I lo]) (hb : h.get b = some [I hi]) : Fn Tryz.prog 100 [I x, .ptr a 0, .ptr b 0] h (B (decide (lo ≤ x) && decide (x ≤ hi))) h := by
  refine Fn.keep noM noC (by kernel_rfl) Tryz.func100 rfl rfl fun _ => ?_
  simp -dsimp -implicitDefEqProofs [ha, hb]
  refine ifD_in (fun h => ?_) (fun h => ?_)
  · simp -dsimp -implicitDefEqProofs [hb, h]
  · simp -dsimp -implicitDefEqProofs [hb, h]

theorem vWithin_fn {lo hi : Int} {h : H} {xs : List Int} {fu : Bool} (hlen : (xs.length : Int) < 2^62) : Fn Tryz.prog 60 [I lo, I hi, .ro fu 1 (xs.map fun x => [I x])] h (B (xs.all fun x => decide (lo ≤ x) && decide (x ≤ hi))) h := by
  refine Fn.keep noM noC (by kernel_rfl) Tryz.func60 rfl rfl fun _ => ?_
  simp -dsimp -implicitDefEqProofs
  refine onCall_in (vEvery_int (p := fun x => decide (lo ≤ x) && decide (x ≤ hi)) hlen fun x hx => vWithin1 (by simp) (by simp)) ?_
  simp -dsimp -implicitDefEqProofs
end
section
attribute [local simp] ap_skip ap_region ap_seq ap_cond ap_block ap_loop ap_exit ap_ret ap_seq_normal ap_seq_ret ap_seq_exit ap_block_normal ap_block_ret ap_block_exit ap_block_other ap_nil ap_draw ap_dr_nil ap_fin_ret ap_fin_normal ap_loopK dstT_zero dstT_succ Nat.add_assoc onSome_some onSome_none ifB_true ifB_false ifB_not onClo_clo onBool_bool onBool_tup frz_val frz_ro takeAt elemTy LeN_refl LeN_push LeN_set push_get push_next set_get set_next nil_get nil_next pop_move pop_assign pop_pick pop_load pop_fieldAddr pop_indexAddr pop_field pop_binOp pop_unOp pop_convert pop_extract pop_makeFunc pop_nilCheck pop_build pop_slice pop_len pop_max pop_min eop_alloc eop_box eop_store eop_buildSlice eop_makeSlice eop_append as_move as_assign as_pick as_load as_fieldAddr as_indexAddr as_field as_binOp as_unOp as_convert as_extract as_makeFunc as_nilCheck as_build as_slice as_len as_max as_min as_alloc as_box as_store as_buildSlice as_makeSlice as_append as_call cons_free cons_guard putA_some putA_none aev_tmp aev_int aev_bool aev_nil aev_func pickA_and pickA_or pickA_true pickA_false nnA_ptr nnA_rop idxA_some intOf_int boxA_some bin_int binI_add binI_sub binI_mul binI_quo binI_rem binI_eql binI_neq binI_lss binI_leq binI_gtr binI_geq unA_not unA_neg loadA_ptr loadA_rop loadO_some asLoaded_agg asLoaded_one resA_one resA_two resOne_tmp resOne_cell cellsOf_int cellsOf_bool cellsOf_clo cellsOf_ptr cellsOf_ro cellsOf_sl cellsOf_nil cellsOf_agg one_int one_bool one_nil one_clo one_ptr one_ro one_sl one_rop mm_max mm_min elS_sl elS2_sl mkA_some chunk_zero chunk_succ zcells_zero zcells_succ clean_val clean_ro clean_rop clean1_val clean1_ro clean1_rop flat_val flat_ro flat_agg frz_agg frz_tup
attribute [local simp] t3 u3 t4 u4 t5 u5 t22 u22 t23 u23 t25 u25 t27 u27 t28 u28 t30 u30 t32 u32   t37 u37 t43 u43     t50 u50   t75 u75 t77 u77     t94 u94   t102 u102 t117 u117 t119 u119     t130 u130 t134 u134 t138 u138   t155 u155 t156 u156   t172 u172
attribute [local simp] lenA_ro indexA_ro
attribute [local simp] tz22 uz22 tz26 uz26 tz29 uz29 tz30 uz30 tz68 uz68 tz69 uz69
set_option maxRecDepth 20000
theorem indexFunc_plate {f : FuncId} {caps : List AV} {h : H} {p : List AV → Bool} {xs : List (List AV)} {fu : Bool} (hlen : (xs.length : Int) < 2^62) (hk : ∀ r ∈ xs, r.length = 4) (hF : ∀ x ∈ xs, Fn Tryz.prog f ([AV.agg x] ++ caps) h (B (p x)) h) :
    Fn Tryz.prog 154 [.ro fu 4 xs, .clo f caps] h (I (idx p xs)) h := by
  refine Fn.keep noM noC (by kernel_rfl) Tryz.func154 rfl rfl fun _ => ?_
  simp -dsimp -implicitDefEqProofs
  refine LoopC.on (σ := Nat) (fun i j => [.ro fu 4 xs, .clo f caps, j 2, j 3, j 4, j 5, j 6, I xs.length, I i, j 9, j 10, j 11, j 12, j 13, j 14, j 15, j 16, j 17, j 18])
    (fun i k => k = h ∧ i ≤ xs.length ∧ ∀ q, q < i → ∀ x, xs[q]? = some x → p x = false) (fun i => xs.length - i) 0 ⟨rfl, by omega, fun q hq => by omega⟩ (by simp) ?_
  rintro i j h' ⟨rfl, hi, hp⟩
  simp -dsimp -implicitDefEqProofs
  refine ifD_in (fun hlt => ?_) (fun hge => ?_)
  · have hx := List.getElem?_eq_getElem (show i < xs.length by omega)
    have hl := hk _ (List.getElem_mem (show i < xs.length by omega))
    have ht : xs[i].take 4 = xs[i] := List.take_of_length_le (by omega)
    simp -dsimp -implicitDefEqProofs [hx, hl, ht]
    refine onCall_in (hF _ (List.getElem_mem (by omega))) ?_
    simp -dsimp -implicitDefEqProofs
    refine ifB_in (fun hb => by simp -dsimp -implicitDefEqProofs [idx_hit hx hb hp]) (fun hb => ?_)
    simp -dsimp -implicitDefEqProofs
    refine ⟨i + 1, ⟨by omega, fun q hq x hqx => ?_⟩, ?_, by omega⟩
    · by_cases hqi : q = i
      · subst hqi; rw [hx] at hqx; cases hqx; simpa using hb
      · exact hp q (by omega) x hqx
    · rw [wrap_in (by omega) (by omega)]; omega
  · simp -dsimp -implicitDefEqProofs
    exact (idx_miss fun q hq => hp q (by omega)).symm
theorem containsFunc_plate {f : FuncId} {caps : List AV} {h : H} {p : List AV → Bool} {xs : List (List AV)} {fu : Bool} (hlen : (xs.length : Int) < 2^62) (hk : ∀ r ∈ xs, r.length = 4) (hF : ∀ x ∈ xs, Fn Tryz.prog f ([AV.agg x] ++ caps) h (B (p x)) h) :
    Fn Tryz.prog 117 [.ro fu 4 xs, .clo f caps] h (B (xs.any p)) h := by
  refine Fn.keep noM noC (by kernel_rfl) Tryz.func117 rfl rfl fun _ => ?_
  simp -dsimp -implicitDefEqProofs
  refine onCall_in (indexFunc_plate hlen hk hF) ?_
  simp -dsimp -implicitDefEqProofs
  exact idx_any
theorem every1_plate {f : FuncId} {caps : List AV} {h : H} {b : Nat} {x : List AV} {v : Bool} (hb : h.get b = some [.clo f caps]) (ho : ∀ a ∈ x, one a = true) (hl : x.length = 4) (hF : Fn Tryz.prog f ([AV.agg x] ++ caps) (h.push x) (B v) (h.push x)) : Fn Tryz.prog 118 [AV.agg x, .ptr b 0] h (B !v) h := by
  refine Fn.keep noM noC (by kernel_rfl) Tryz.func118 rfl rfl fun live => ?_
  have hne : ¬ b = h.next := by have := (live.1 b _ hb).1; omega
  have ht : x.take 4 = x := List.take_of_length_le (by omega)
  simp -dsimp -implicitDefEqProofs [hb, hl, ht, hne]
  rw [if_pos ho]
  simp -dsimp -implicitDefEqProofs [hb, hl, ht, hne]
  refine onCall_in hF ?_
  simp -dsimp -implicitDefEqProofs
theorem every_plate {f : FuncId} {caps : List AV} {h : H} {p : List AV → Bool} {xs : List (List AV)} {fu : Bool} (hlen : (xs.length : Int) < 2^62) (hk : ∀ r ∈ xs, r.length = 4) (ho : ∀ x ∈ xs, ∀ a ∈ x, one a = true) (hF : ∀ x ∈ xs, Fn Tryz.prog f ([AV.agg x] ++ caps) ((h.push [.clo f caps]).push x) (B (p x)) ((h.push [.clo f caps]).push x)) :
    Fn Tryz.prog 81 [.ro fu 4 xs, .clo f caps] h (B (xs.all p)) h := by
  refine Fn.keep noM noC (by kernel_rfl) Tryz.func81 rfl rfl fun _ => ?_
  simp -dsimp -implicitDefEqProofs
  refine onCall_in (containsFunc_plate (p := fun x => !p x) hlen hk fun x hx => every1_plate (b := h.next) (f := f) (caps := caps) (by simp) (ho x hx) (hk x hx) (hF x hx)) ?_
  simp -dsimp -implicitDefEqProofs
  rw [Bool.eq_iff_iff]; simp

end
section
attribute [local simp] ap_skip ap_region ap_seq ap_cond ap_block ap_loop ap_exit ap_ret ap_seq_normal ap_seq_ret ap_seq_exit ap_block_normal ap_block_ret ap_block_exit ap_block_other ap_nil ap_draw ap_dr_nil ap_fin_ret ap_fin_normal ap_loopK dstT_zero dstT_succ Nat.add_assoc onSome_some onSome_none ifB_true ifB_false ifB_not onClo_clo onBool_bool onBool_tup frz_val frz_ro takeAt elemTy LeN_refl LeN_push LeN_set push_get push_next set_get set_next nil_get nil_next pop_move pop_assign pop_pick pop_load pop_fieldAddr pop_indexAddr pop_field pop_binOp pop_unOp pop_convert pop_extract pop_makeFunc pop_nilCheck pop_build pop_slice pop_len pop_max pop_min eop_alloc eop_box eop_store eop_buildSlice eop_makeSlice eop_append as_move as_assign as_pick as_load as_fieldAddr as_indexAddr as_field as_binOp as_unOp as_convert as_extract as_makeFunc as_nilCheck as_build as_slice as_len as_max as_min as_alloc as_box as_store as_buildSlice as_makeSlice as_append as_call cons_free cons_guard putA_some putA_none aev_tmp aev_int aev_bool aev_nil aev_func pickA_and pickA_or pickA_true pickA_false nnA_ptr nnA_rop idxA_some intOf_int boxA_some bin_int binI_add binI_sub binI_mul binI_quo binI_rem binI_eql binI_neq binI_lss binI_leq binI_gtr binI_geq unA_not unA_neg loadA_ptr loadA_rop loadO_some asLoaded_agg asLoaded_one resA_one resA_two resOne_tmp resOne_cell cellsOf_int cellsOf_bool cellsOf_clo cellsOf_ptr cellsOf_ro cellsOf_sl cellsOf_nil cellsOf_agg one_int one_bool one_nil one_clo one_ptr one_ro one_sl one_rop mm_max mm_min elS_sl elS2_sl mkA_some chunk_zero chunk_succ zcells_zero zcells_succ clean_val clean_ro clean_rop clean1_val clean1_ro clean1_rop flat_val flat_ro flat_agg frz_agg frz_tup
attribute [local simp] t3 u3 t4 u4 t5 u5 t22 u22 t23 u23 t25 u25 t27 u27 t28 u28 t30 u30 t32 u32   t37 u37 t43 u43     t50 u50   t75 u75 t77 u77     t94 u94   t102 u102 t117 u117 t119 u119     t130 u130 t134 u134 t138 u138   t155 u155 t156 u156   t172 u172
attribute [local simp] lenA_ro indexA_ro fieldA fldA partA buildA fillA storeA buildSliceA

attribute [local simp] quietA effectful allocs fpo findNew_nil q_move q_assign q_pick q_load q_fieldAddr q_indexAddr q_field q_binOp q_unOp q_convert q_extract q_makeFunc q_nilCheck q_build q_slice q_len q_max q_min e_alloc e_box e_store e_buildSlice e_makeSlice e_append q_call e_call dr_free dr_guard qView_next eView_next hit_nil hit_cons qView_get optL_some optL_none eView_get fp_alloc fp_box fp_make fp_append fp_build fp_call fp_store mergeG_get LeN_nil new_store findNew_cons
attribute [local simp] tz22 uz22 tz26 uz26 tz29 uz29 tz30 uz30 tz68 uz68 tz69 uz69
set_option maxRecDepth 20000
theorem bounds_fn {b : Bd} {lo hi : Int} {h : H} : Fn Tryz.prog 102 [b.av, I lo, I hi] h (B (validB b lo hi)) h := by
  refine Fn.keep noM noC (by kernel_rfl) Tryz.func102 rfl rfl fun _ => ?_
  simp -dsimp -implicitDefEqProofs
  refine ifD_in (fun h => ?_) (fun h => ?_)
  · simp -dsimp -implicitDefEqProofs
    refine onCall_in (vWithin_fn (xs := [b.lo, b.hi]) (by simp)) ?_
    simp -dsimp -implicitDefEqProofs [validB, h]
  · simp -dsimp -implicitDefEqProofs [validB, h]

end
end Go.Pe

/- Plates: how long one lasts. -/
namespace Go.Pe
open Go Go.Proofs Go.Proofs.YtffckclggkjbgaaGreat
attribute [local simp] t3 u3 t4 u4 t5 u5 t22 u22 t23 u23 t25 u25 t27 u27 t28 u28 t30 u30 t32 u32 t37 u37 t43 u43 t50 u50 t75 u75 t77 u77 t94 u94 t102 u102 t117 u117 t119 u119 t130 u130 t134 u134 t138 u138 t155 u155 t156 u156 t172 u172
attribute [local simp] tz22 uz22 tz26 uz26 tz29 uz29 tz30 uz30 tz68 uz68 tz69 uz69
set_option maxRecDepth 20000
set_option maxHeartbeats 8000000

structure Pl where
  thick : Bd
  wear : Bd
noncomputable def fP (p : Pl) : List AV := [I p.thick.lo, I p.thick.hi, I p.wear.lo, I p.wear.hi]
theorem fP_eq {p : Pl} : fP p = [I p.thick.lo, I p.thick.hi, I p.wear.lo, I p.wear.hi] := rfl
attribute [local simp] fP_eq
def okP (p : Pl) : Bool := vB 0 100000 p.thick && vB 0 1000 p.wear
theorem bnd_fn {b : Bd} {lo hi : Int} {h : H} : Fn Tryz.prog 102 [.agg [I b.lo, I b.hi], I lo, I hi] h (B (vB lo hi b)) h := bounds_fn
theorem validPlate_fn {p : Pl} {h : H} : Fn Tryz.prog 82 [.agg (fP p)] h (B (okP p)) h := by
  refine Fn.beside ?_ rfl h
  refine Fn.ofR0 noM (by kernel_rfl) Tryz.func82 rfl (by simp) ?_
  simp -dsimp -implicitDefEqProofs
  refine onCall_in bnd_fn ?_
  simp -dsimp -implicitDefEqProofs
  refine ifB_in (fun h1 => ?_) (fun h1 => ?_)
  · simp -dsimp -implicitDefEqProofs
    refine onCall_in bnd_fn ?_
    simp -dsimp -implicitDefEqProofs [okP, h1]
  · simp -dsimp -implicitDefEqProofs [okP, h1]

/-- The years that a plate lasts of which so much may wear off, with so much a year. -/
def yA (s w : Int) : Int := if s < 0 then -1 else if w = 0 then 1000 else min (s / w) 1000
theorem yearsAt_fn {s w : Int} {h : H} (h1 : -2^62 < s) (h2 : s < 2^62) (hw : 0 ≤ w) : Fn Tryz.prog 119 [I s, I w] h (I (yA s w)) h := by
  refine Fn.beside ?_ rfl h
  refine Fn.ofR0 noM (by kernel_rfl) Tryz.func119 rfl (by simp) ?_
  simp -dsimp -implicitDefEqProofs
  refine ifD_in (fun hs => ?_) (fun hs => ?_)
  · simp -dsimp -implicitDefEqProofs [yA, hs]
  simp -dsimp -implicitDefEqProofs
  refine ifD_in (fun h0 => ?_) (fun h0 => ?_)
  · simp -dsimp -implicitDefEqProofs [yA, hs, h0]
  have hk : w ≠ 0 := by simpa using h0
  have hq : s.tdiv w = s / w := Int.tdiv_eq_ediv_of_nonneg (by omega)
  have hb : (s.tdiv w).natAbs ≤ s.natAbs := by rw [Int.natAbs_tdiv]; exact Nat.div_le_self _ _
  have w1 : IntKind.i64.wrap (s.tdiv w) = s.tdiv w := wrap_in (by omega) (by omega)
  simp -dsimp -implicitDefEqProofs [hk, w1]
  simp [yA, hs, hk, hq]
theorem yearsOf_fn {p : Pl} {least : Int} {h : H} (hp : okP p = true) (hl : 0 ≤ least ∧ least ≤ 100000) : Fn Tryz.prog 83 [.agg (fP p), I least] h (.agg [I (yA (p.thick.lo - least) p.wear.hi), I (yA (p.thick.hi - least) p.wear.lo)]) h := by
  refine Fn.beside ?_ rfl h
  have hp' : okP p = true := hp
  simp [okP, vB_iff] at hp'
  obtain ⟨⟨a1, ⟨a2, a3⟩, a4, a5⟩, b1, ⟨b2, b3⟩, b4, b5⟩ := hp'
  have w1 := wrap_in (n := p.thick.lo - least) (by omega) (by omega)
  have w2 := wrap_in (n := p.thick.hi - least) (by omega) (by omega)
  refine Fn.ofR0 noM (by kernel_rfl) Tryz.func83 rfl (by simp) ?_
  simp -dsimp -implicitDefEqProofs
  refine DrawR.on { M := [1], eff := [(19, [1])] } (by kernel_rfl) (by simp) ?_
  simp -dsimp -implicitDefEqProofs [w1, w2]
  refine onCallQ_in ((yearsAt_fn (by omega) (by omega) (by omega)).beside rfl _) ?_
  simp -dsimp -implicitDefEqProofs [w1, w2]
  refine onCallQ_in ((yearsAt_fn (by omega) (by omega) (by omega)).beside rfl _) ?_
  simp -dsimp -implicitDefEqProofs [w1, w2]
end Go.Pe
