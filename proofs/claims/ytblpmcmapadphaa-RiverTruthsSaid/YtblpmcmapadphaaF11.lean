import Derived.Test.YtblpmcmapadphaaF10
set_option linter.unusedVariables false
set_option linter.unusedSimpArgs false
/- Bounds, land and sky. -/
namespace Go.Pe
open Go Go.Proofs Go.Proofs.Ytblpmcmapadphaa
attribute [local simp] ap_skip ap_region ap_seq ap_cond ap_block ap_loop ap_exit ap_ret ap_seq_normal ap_seq_ret ap_seq_exit ap_block_normal ap_block_ret ap_block_exit ap_block_other ap_nil ap_draw ap_dr_nil ap_fin_ret ap_fin_normal ap_loopK dstT_zero dstT_succ Nat.add_assoc onSome_some onSome_none ifB_true ifB_false ifB_not onClo_clo onBool_bool onBool_tup frz_val frz_ro takeAt elemTy LeN_refl LeN_push LeN_set push_get push_next set_get set_next nil_get nil_next pop_move pop_assign pop_pick pop_load pop_fieldAddr pop_indexAddr pop_field pop_binOp pop_unOp pop_convert pop_extract pop_makeFunc pop_nilCheck pop_build pop_slice pop_len pop_max pop_min eop_alloc eop_box eop_store eop_buildSlice eop_makeSlice eop_append as_move as_assign as_pick as_load as_fieldAddr as_indexAddr as_field as_binOp as_unOp as_convert as_extract as_makeFunc as_nilCheck as_build as_slice as_len as_max as_min as_alloc as_box as_store as_buildSlice as_makeSlice as_append as_call cons_free cons_guard putA_some putA_none aev_tmp aev_int aev_bool aev_nil aev_func pickA_and pickA_or pickA_true pickA_false nnA_ptr nnA_rop idxA_some intOf_int boxA_some bin_int binI_add binI_sub binI_mul binI_quo binI_rem binI_eql binI_neq binI_lss binI_leq binI_gtr binI_geq unA_not unA_neg loadA_ptr loadA_rop loadO_some asLoaded_agg asLoaded_one resA_one resA_two resOne_tmp resOne_cell cellsOf_int cellsOf_bool cellsOf_clo cellsOf_ptr cellsOf_ro cellsOf_sl cellsOf_nil cellsOf_agg one_int one_bool one_nil one_clo one_ptr one_ro one_sl one_rop mm_max mm_min elS_sl elS2_sl mkA_some chunk_zero chunk_succ zcells_zero zcells_succ clean_val clean_ro clean_rop clean1_val clean1_ro clean1_rop flat_val flat_ro flat_agg frz_agg frz_tup
attribute [local simp] t3 u3 t4 u4 t5 u5 t22 u22 t23 u23 t25 u25 t27 u27 t28 u28 t30 u30 t32 u32 t34 u34 t37 u37 t43 u43 t48 u48 t49 u49 t50 u50 t54 u54 t75 u75 t77 u77 t84 u84 t89 u89 t94 u94 t96 u96 t102 u102 t117 u117 t119 u119 t123 u123 t125 u125 t130 u130 t134 u134 t138 u138 t152 u152 t155 u155 t156 u156 t160 u160 t172 u172
attribute [local simp] lenA_ro indexA_ro fieldA fldA partA buildA fillA storeA buildSliceA

attribute [local simp] quietA effectful allocs fpo findNew_nil q_move q_assign q_pick q_load q_fieldAddr q_indexAddr q_field q_binOp q_unOp q_convert q_extract q_makeFunc q_nilCheck q_build q_slice q_len q_max q_min e_alloc e_box e_store e_buildSlice e_makeSlice e_append q_call e_call dr_free dr_guard qView_next eView_next hit_nil hit_cons qView_get optL_some optL_none eView_get fp_alloc fp_box fp_make fp_append fp_build fp_call fp_store mergeG_get LeN_nil new_store findNew_cons
set_option maxRecDepth 20000
/-- The program's values. -/
structure Bd where
  lo : Int
  hi : Int
noncomputable abbrev Bd.av (b : Bd) : AV := .agg [I b.lo, I b.hi]
structure Ct where
  area : Int
  pc : Int
  melt : Int
  snow : Bd
noncomputable abbrev Ct.av (c : Ct) : AV := .agg [I c.area, I c.pc, I c.melt, I c.snow.lo, I c.snow.hi]
structure Sk where
  rain : Bd
  heat : Bd
noncomputable abbrev Sk.av (x : Sk) : AV := .agg [I x.rain.lo, I x.rain.hi, I x.heat.lo, I x.heat.hi]

def validB (b : Bd) (lo hi : Int) : Bool := decide (b.lo ≤ b.hi) && ((decide (lo ≤ b.lo) && decide (b.lo ≤ hi)) && (decide (lo ≤ b.hi) && decide (b.hi ≤ hi)))
def warm (c : Ct) (x : Sk) : Bd := ⟨c.melt * max 0 x.heat.lo, c.melt * max 0 x.heat.hi⟩

theorem valid_fn {b : Bd} {lo hi : Int} {h : H} : Fn Try.prog 63 [b.av, I lo, I hi] h (B (validB b lo hi)) h := by
  refine Fn.keep noM noC (by kernel_rfl) Try.func63 rfl rfl fun _ => ?_
  simp -dsimp -implicitDefEqProofs
  refine ifD_in (fun h => ?_) (fun h => ?_)
  · simp -dsimp -implicitDefEqProofs
    refine onCall_in (within_fn (xs := [b.lo, b.hi]) (by simp)) ?_
    simp -dsimp -implicitDefEqProofs [validB, h]
  · simp -dsimp -implicitDefEqProofs [validB, h]

def validS (x : Sk) : Bool := validB x.rain 0 20000 && validB x.heat (-500) 500
theorem validSky_fn {x : Sk} {h : H} : Fn Try.prog 68 [x.av] h (B (validS x)) h := by
  refine Fn.keep noM noC (by kernel_rfl) Try.func68 rfl rfl fun _ => ?_
  simp -dsimp -implicitDefEqProofs
  refine onCall_in (valid_fn (b := x.rain)) ?_
  simp -dsimp -implicitDefEqProofs
  refine ifB_in (fun h => ?_) (fun h => ?_)
  · simp -dsimp -implicitDefEqProofs
    refine onCall_in (valid_fn (b := x.heat)) ?_
    simp -dsimp -implicitDefEqProofs [validS, h]
  · simp -dsimp -implicitDefEqProofs [validS, h]

theorem mul_in {a b : Int} {m n : Nat} (ha : a.natAbs ≤ m) (hb : b.natAbs ≤ n) : (a * b).natAbs ≤ m * n := by rw [Int.natAbs_mul]; exact Nat.mul_le_mul ha hb

theorem warmth_fn {c : Ct} {x : Sk} (h1 : c.melt.natAbs ≤ 1000000) (h2 : x.heat.lo.natAbs ≤ 1000000) (h3 : x.heat.hi.natAbs ≤ 1000000) : Fn Try.prog 72 [c.av, x.av] .nil (warm c x).av .nil := by
  refine Fn.keep noM noC (by kernel_rfl) Try.func72 rfl rfl fun _ => ?_
  simp -dsimp -implicitDefEqProofs [warm]
  have m1 := mul_in h1 (show (max 0 x.heat.lo).natAbs ≤ 1000000 by omega)
  have m2 := mul_in h1 (show (max 0 x.heat.hi).natAbs ≤ 1000000 by omega)
  exact ⟨wrap_in (by omega) (by omega), wrap_in (by omega) (by omega)⟩

def drain (c : Ct) (w : Bd) : Bd := ⟨(c.area * c.pc * w.lo) / 10, -((-(c.area * c.pc * w.hi)) / 10)⟩
theorem drained_fn {c : Ct} {w : Bd} (h1 : c.area.natAbs ≤ 10000) (h2 : c.pc.natAbs ≤ 100) (h3 : w.lo.natAbs ≤ 10000000) (h4 : w.hi.natAbs ≤ 10000000) : Fn Try.prog 69 [c.av, w.av] .nil (drain c w).av .nil := by
  refine Fn.keep noM (fun _ => { M := [2], eff := [(11, [2])] }) (by kernel_rfl) Try.func69 rfl (by kernel_rfl) fun _ => ?_
  have m1 := mul_in h1 h2
  have m2 := mul_in m1 h3
  have m3 := mul_in m1 h4
  have w1 := wrap_in (n := c.area * c.pc) (by omega) (by omega)
  have w2 := wrap_in (n := c.area * c.pc * w.lo) (by omega) (by omega)
  have w3 := wrap_in (n := c.area * c.pc * w.hi) (by omega) (by omega)
  simp -dsimp -implicitDefEqProofs [w1, w2]
  refine onCallQ_in ((floor_fn (by omega) (by omega) (by omega)).beside rfl _) ?_
  simp -dsimp -implicitDefEqProofs [w1, w3]
  refine onCallQ_in ((ceil_fn (by omega) (by omega) (by omega)).beside rfl _) ?_
  simp -dsimp -implicitDefEqProofs [drain]

def total (l : List Bd) : Bd := l.foldl (fun a b => ⟨a.lo + b.lo, a.hi + b.hi⟩) ⟨0, 0⟩
theorem total_snoc {l : List Bd} {b : Bd} : total (l ++ [b]) = ⟨(total l).lo + b.lo, (total l).hi + b.hi⟩ := by simp [total, List.foldl_append]
theorem total_in {m : Nat} {l : List Bd} (h : ∀ b ∈ l, b.lo.natAbs ≤ m ∧ b.hi.natAbs ≤ m) : ∀ i, i ≤ l.length → (total (l.take i)).lo.natAbs ≤ i * m ∧ (total (l.take i)).hi.natAbs ≤ i * m := by
  intro i
  induction i with
  | zero => intro _; simp [total]
  | succ i ih =>
    intro hi
    have h1 := ih (by omega)
    have hx := List.getElem?_eq_getElem (show i < l.length by omega)
    have h2 := h _ (List.getElem_mem (show i < l.length by omega))
    rw [List.take_add_one, hx, Option.toList_some, total_snoc, Nat.add_mul]
    simp only
    omega

theorem sum_fn {xs : List Bd} {fu : Bool} (hlen : xs.length ≤ 1000000) (hb : ∀ b ∈ xs, b.lo.natAbs ≤ 1000000000000 ∧ b.hi.natAbs ≤ 1000000000000) : Fn Try.prog 70 [.ro fu 2 (xs.map fun b => [I b.lo, I b.hi])] .nil (total xs).av .nil := by
  refine Fn.keep noM noC (by kernel_rfl) Try.func70 rfl rfl fun _ => ?_
  simp -dsimp -implicitDefEqProofs
  refine LoopC.on (σ := Nat) (fun i j => [.ro fu 2 (xs.map fun b => [I b.lo, I b.hi]), j 1, .ptr 0 0, .ptr 1 0, j 4, j 5, .ro fu 2 (xs.map fun b => [I b.lo, I b.hi]), I xs.length, I i, j 9, j 10, j 11, j 12, j 13, j 14, j 15, j 16, j 17, j 18, j 19, j 20, j 21, j 22, j 23, j 24, j 25])
    (fun i k => i ≤ xs.length ∧ (∃ m, k.next = m + 2) ∧ k.get 0 = some [I 0, I 0] ∧ k.get 1 = some [I (total (xs.take i)).lo, I (total (xs.take i)).hi]) (fun i => xs.length - i) 0 ⟨by omega, ⟨0, rfl⟩, rfl, rfl⟩ (by simp) ?_
  rintro i j k ⟨hi, ⟨m, hm⟩, hk0, hk1⟩
  simp -dsimp -implicitDefEqProofs
  refine ifD_in (fun hlt => ?_) (fun hge => ?_)
  · have hx := List.getElem?_eq_getElem (show i < xs.length by omega)
    simp -dsimp -implicitDefEqProofs [hx, hm, hk0, hk1]
    have h1 := total_in hb i (by omega)
    have h2 := hb _ (List.getElem_mem (show i < xs.length by omega))
    have h3 : total (xs.take (i + 1)) = ⟨(total (xs.take i)).lo + xs[i].lo, (total (xs.take i)).hi + xs[i].hi⟩ := by rw [List.take_add_one, hx, Option.toList_some, total_snoc]
    refine ⟨i + 1, ⟨by omega, ?_, ?_⟩, ?_, by omega⟩
    · rw [h3, wrap_in (by omega) (by omega)]
    · rw [h3, wrap_in (by omega) (by omega)]
    · rw [wrap_in (by omega) (by omega)]; omega
  · simp -dsimp -implicitDefEqProofs [hk0, hk1, hm]
    have : xs.take i = xs := List.take_of_length_le (by omega)
    rw [this]; exact ⟨rfl, rfl⟩

def validC (c : Ct) : Bool := ((decide (0 ≤ c.area) && decide (c.area ≤ 10000)) && (decide (0 ≤ c.pc) && decide (c.pc ≤ 100))) && (decide (0 ≤ c.melt) && decide (c.melt ≤ 100)) && validB c.snow 0 1000000
theorem validCatch_fn {c : Ct} {h : H} : Fn Try.prog 66 [c.av] h (B (validC c)) h := by
  refine Fn.keep noM noC (by kernel_rfl) Try.func66 rfl rfl fun _ => ?_
  simp -dsimp -implicitDefEqProofs
  refine onCall_in (within_fn (xs := [c.area]) (by simp)) ?_
  simp -dsimp -implicitDefEqProofs
  refine ifB_in (fun h1 => ?_) (fun h1 => ?_)
  · simp -dsimp -implicitDefEqProofs
    refine onCall_in (within_fn (xs := [c.pc]) (by simp)) ?_
    simp -dsimp -implicitDefEqProofs
    refine ifB_in (fun h2 => ?_) (fun h2 => ?_)
    · simp -dsimp -implicitDefEqProofs
      refine onCall_in (within_fn (xs := [c.melt]) (by simp)) ?_
      simp -dsimp -implicitDefEqProofs
      refine ifB_in (fun h3 => ?_) (fun h3 => ?_)
      · simp -dsimp -implicitDefEqProofs
        refine onCall_in (valid_fn (b := c.snow)) ?_
        simp -dsimp -implicitDefEqProofs [validC, h1, h2, h3]
      · simp -dsimp -implicitDefEqProofs [validC, h1, h2, h3]
    · simp -dsimp -implicitDefEqProofs [validC, h1, h2]
  · simp -dsimp -implicitDefEqProofs [validC, h1]

def melts (s w : Bd) : Bd := ⟨min w.lo s.lo, min w.hi s.hi⟩
def left (s w : Bd) : Bd := ⟨max 0 (s.lo - w.hi), max 0 (s.hi - w.lo)⟩
end Go.Pe

/- A contract over a heap of one block holds beside any heap that has such a block. -/
namespace Go.Pe
open Go

def H.one (cs : List AV) : H := { next := 1, get := fun q => if q = 0 then some cs else none, lp := fun _ => none }
theorem one_get {cs : List AV} {q : Nat} : (H.one cs).get q = if q = 0 then some cs else none := rfl
theorem one_next {cs : List AV} : (H.one cs).next = 1 := rfl

/-- The block b is called 0. -/
def re (b : Nat) : AV → AV
  | .ptr q o => if q = b then .ptr 0 o else .ptr q o
  | x => x
def reOk (b : Nat) : AV → Bool
  | .ptr q _ => q == b
  | x => cleanD x

theorem Fn.beside1 {P : Program} {f : FuncId} {args args' : List AV} {x : AV} {cs cs' : List AV} {h : H} {b : Nat} (h0 : Fn P f args' (.one cs) x (.one cs')) (hb : h.get b = some cs) (ha : args' = args.map (re b)) (hok : args.all (reOk b) = true) (hcs : cs.all clean = true) (hcs' : cs'.all clean = true) (hx : cleanD x = true) :
    Fn P f args h x (h.set b cs') := by
  refine ⟨h0.1, fun n c D w vs hr hfr hargs => ?_⟩
  obtain ⟨o1, o2, C, e, o3, o4, o5⟩ := hr.own b cs hb
  obtain ⟨c1, hc1⟩ : ∃ c1 : Cx, c1 = { S := c.S, φ := fun _ => c.φ b } := ⟨_, rfl⟩
  have hlow : ∀ {y : AV} {u : Value}, R c w noId y u → R c1 w (fun q => q = 0) y u := fun hy => by
    subst hc1
    exact hy.mono (fun _ hk => hk) (fun _ _ => rfl) (fun _ hb => hb.elim) (fun _ hb => hb.elim) (fun _ C _ hk => ⟨C, hk, rfl⟩)
  have hget : ∀ {q ds}, (H.one cs).get q = some ds → q = 0 ∧ ds = cs := fun {q ds} hq => by
    simp only [one_get] at hq; split at hq
    · rename_i h1; cases hq; exact ⟨h1, rfl⟩
    · cases hq
  have hrel : Rel c1 (fun q => q = 0) (.one cs) w := ⟨fun q ds hq => by
    obtain ⟨rfl, rfl⟩ := hget hq
    refine ⟨rfl, by subst hc1; exact o2, C, e, by subst hc1; exact o3, o4, fun j y u e1 e2 => hlow (clean_R (o5 j y u e1 e2) ((List.all_eq_true.1 hcs) y (List.mem_of_getElem? e1)))⟩,
    fun q q' _ _ hq hq' _ => by rw [(hget hq).1, (hget hq').1], by subst hc1; exact hr.sz, (fun q r hq => by simp [H.one] at hq), (fun q q' _ _ hq => by simp [H.one] at hq)⟩
  have hal : RL c1 w (fun q => q = 0) args' vs := by
    subst ha
    refine ⟨by simpa using hargs.1, fun i y u e1 e2 => ?_⟩
    rw [List.getElem?_map] at e1
    cases hy : args[i]? with
    | none => simp [hy] at e1
    | some z =>
      simp only [hy, Option.map_some, Option.some.injEq] at e1
      subst e1
      have hz := hargs.2 i z u hy e2
      have ho := (List.all_eq_true.1 hok) z (List.mem_of_getElem? hy)
      have key : cleanD z = true → re b z = z → R c1 w (fun q => q = 0) (re b z) u := fun h1 h2 => by rw [h2]; exact hlow (cleanD_R hz h1)
      cases z with
      | ptr q o =>
        simp only [reOk, beq_iff_eq] at ho
        subst ho
        simp only [re, if_true]
        cases hz with
        | ptr hq =>
          have : R c1 w (fun q => q = 0) (.ptr 0 o) (.pointer (some ⟨c1.φ 0, o, none⟩)) := .ptr rfl
          subst hc1; exact this
      | _ => exact key ho rfl
  refine (h0.2 n c1 (fun q => q = 0) w vs hrel (fun q hq h => by simp only [one_next] at hq; omega) hal).mono ?_
  rintro ee w' ⟨v, c', D', rfl, h2, h3, h4, h5⟩
  have hD' : ∀ q, D' q → q = 0 := fun q hq => by
    rcases h5 q hq with h6 | h6
    · exact h6
    · simp only [one_next] at h6; omega
  have hφ : c'.φ 0 = c.φ b := by have := h4.φ 0 rfl; rw [this]; subst hc1; rfl
  have hfr' : ∀ k, k < w.heap.size → k ≠ c.φ b → w'.heap[k]? = w.heap[k]? := fun k hk hne => h4.frame k hk (fun q ds hq => by subst hc1; exact fun h => hne h.symm) (fun q r hq => by simp [H.one] at hq)
  have hS0 : ∀ k, c.S k → c'.S k := fun k hk => h4.S k (by subst hc1; exact hk)
  have hnS : ∀ k, c.S k → k ≠ c.φ b := fun k hk hne => o2 (hne ▸ hk)
  have hS' : ∀ k, c'.S k → c.S k ∨ w.heap.size ≤ k ∨ k = c.φ b := fun k hk => by
    rcases h4.newS k hk with h6 | h6 | ⟨q, ds, _, h7⟩
    · exact .inl (by subst hc1; exact h6)
    · exact .inr (.inl h6)
    · exact .inr (.inr (by subst hc1; exact h7.symm))
  have hup : ∀ {y : AV} {u : Value}, R c' w' noId y u → R { S := c'.S, φ := c.φ } w' D y u := fun hy =>
    hy.mono (fun _ hk => hk) (fun _ _ => rfl) (fun _ hb => hb.elim) (fun _ hb => hb.elim) (fun _ C _ hk => ⟨C, hk, rfl⟩)
  refine ⟨v, { S := c'.S, φ := c.φ }, D, rfl, hup (cleanD_R h2 hx), ⟨fun q ds hq => ?_, fun q q' ds ds' hq hq' he => ?_, h3.sz, hr.lps_keep hS0 (fun k hk => hfr' k (hr.sz k hk) (hnS k hk)) (fun _ _ => rfl) (fun _ hb => hb) h4.shp (fun q r hq => hfr' _ (hr.lp_lt hq) (hr.apart (b' := b) hq o3)) (fun q r hq hS => by
      rcases hS' _ hS with h6 | h6 | h6
      · exact h6
      · have := hr.lp_lt hq; omega
      · exact (hr.apart (b' := b) hq o3 h6).elim), hr.linj⟩,
    ⟨hS0, fun k hk => ?_, fun _ _ => rfl, fun _ hb => hb, Nat.le_refl _, h4.os, h4.tape, h4.output, h4.size, fun k hk hne _ => hfr' k hk fun h => hne b cs hb h.symm, h4.shp, fun q ds hq => .inl ?_, fun q r hq => .inl ⟨q, r, hq, rfl⟩, h4.fz⟩, fun q hq => .inl hq⟩
  · simp only [H.set] at hq
    split at hq
    · rename_i hqb
      subst hqb
      cases hq
      obtain ⟨p1, p2, C', e', p3, p4, p5⟩ := h3.own 0 cs' (by simp [one_get])
      rw [hφ] at p2 p3
      exact ⟨o1, p2, C', e', p3, p4, fun j y u e1 e2 => hup (clean_R (p5 j y u e1 e2) ((List.all_eq_true.1 hcs') y (List.mem_of_getElem? e1)))⟩
    · rename_i hqb
      obtain ⟨q1, q2, C2, e2', q3, q4, q5⟩ := hr.own q ds hq
      have hlt := (Array.getElem?_eq_some_iff.1 q3).1
      have hne : c.φ q ≠ c.φ b := fun he => hqb (hr.inj q b ds cs hq hb he)
      refine ⟨q1, fun hS => ?_, C2, e2', by rw [hfr' _ hlt hne]; exact q3, q4, fun j y u e1 e2 => (q5 j y u e1 e2).mono hS0 (fun k hk => hfr' k (hr.sz k hk) (hnS k hk)) (fun _ _ => rfl) (fun _ hb => hb) h4.shp⟩
      rcases hS' _ hS with h6 | h6 | h6
      · exact q2 h6
      · exact absurd hlt (Nat.not_lt.2 h6)
      · exact hne h6
  · have hh : ∀ {q ds}, (h.set b cs').get q = some ds → ∃ ds', h.get q = some ds' := fun {q ds} hq => by
      simp only [H.set] at hq
      split at hq
      · rename_i hqb; exact ⟨cs, hqb ▸ hb⟩
      · exact ⟨ds, hq⟩
    obtain ⟨d1, e1⟩ := hh hq
    obtain ⟨d2, e2⟩ := hh hq'
    exact hr.inj q q' d1 d2 e1 e2 he
  · rcases hS' k hk with h6 | h6 | h6
    · exact .inl h6
    · exact .inr (.inl h6)
    · exact .inr (.inr ⟨b, cs, hb, h6.symm⟩)
  · simp only [H.set] at hq
    split at hq
    · rename_i hqb; exact ⟨b, cs, hb, by rw [hqb]⟩
    · exact ⟨q, ds, hq, rfl⟩

/-- A FUNCTION THAT WRITES ONE BLOCK. -/
def FinW (P : Program) (fn : Func) (x : AV) (cs' : List AV) (e : Exit) (ρ : List AV) (hh : H) : Prop :=
  match e with
  | .normal | .ret => ∃ y, resA P fn.results ρ hh = some y ∧ (∃ k, frz k hh 1 y = some x) ∧ hh.get 0 = some cs'
  | _ => False
theorem Fn.write {P : Program} {f : FuncId} {fn : Func} {code : Code} (md : Oper → Bool) (ct : Nat → Cert) {args : List AV} {cs cs' : List AV} {x : AV} (hcall : callable P f = true) (hf : P.funcs[f]? = some fn) (hb : fn.body = some code) (hd : drawsOk P ct code = true) (hcs' : cs'.all clean1 = true)
    (hv : ap (vc P md ct none code (FinW P fn x cs')) .mk (args ++ List.replicate (fn.ntmps - args.length) (.val undef)) (.one cs)) : Fn P f args (.one cs) x (.one cs') := by
  refine Fn.of_vc_gen md ct hcall hf hb rfl hd (fun _ e ρ hh hk => ?_) (fun _ => hv)
  have go : ∀ {e}, FinW P fn x cs' e ρ hh → (e = .normal ∨ e = .ret) → ∃ y k, resA P fn.results ρ hh = some y ∧ frz k hh (H.one cs).next y = some x ∧ (∀ b cs2, (H.one cs').get b = some cs2 → ∃ ds k, hh.get b = some ds ∧ b < (H.one cs).next ∧ ds.mapM (frz k hh (H.one cs).next) = some cs2) ∧
      ∀ b r, (H.one cs').lp b = some r → hh.lp b = some r ∧ b < (H.one cs).next ∧ ∃ k, r.ρ.mapM (frz k hh (H.one cs).next) = some r.ρ := fun {e} hk he => by
    have hk' : ∃ y, resA P fn.results ρ hh = some y ∧ (∃ k, frz k hh 1 y = some x) ∧ hh.get 0 = some cs' := by rcases he with rfl | rfl <;> exact hk
    obtain ⟨y, h1, ⟨k, h2⟩, h3⟩ := hk'
    refine ⟨y, k, h1, h2, fun b cs2 hb => ?_, fun b r hb => by simp [H.one] at hb⟩
    simp only [one_get] at hb
    split at hb
    · rename_i hb0; subst hb0; cases hb
      exact ⟨cs', 1, h3, by simp [one_next], on_frzl hcs'⟩
    · cases hb
  cases e with
  | normal => exact go hk (.inl rfl)
  | ret => exact go hk (.inr rfl)
  | _ => exact hk.elim
theorem ap_finw_ret {P : Program} {fn : Func} {x : AV} {cs' : List AV} {ρ : List AV} {h : H} {t : Tag (FinW P fn x cs' .ret)} : ap (FinW P fn x cs' .ret) t ρ h = onSome (resA P fn.results ρ h) (fun y => (∃ k, frz k h 1 y = some x) ∧ h.get 0 = some cs') .mk := by
  unfold ap FinW onSome; cases resA P fn.results ρ h <;> simp
theorem ap_finw_normal {P : Program} {fn : Func} {x : AV} {cs' : List AV} {ρ : List AV} {h : H} {t : Tag (FinW P fn x cs' .normal)} : ap (FinW P fn x cs' .normal) t ρ h = onSome (resA P fn.results ρ h) (fun y => (∃ k, frz k h 1 y = some x) ∧ h.get 0 = some cs') .mk := by
  unfold ap FinW onSome; cases resA P fn.results ρ h <;> simp

end Go.Pe

/- What melts. -/
namespace Go.Pe
open Go Go.Proofs Go.Proofs.Ytblpmcmapadphaa
attribute [local simp] ap_skip ap_region ap_seq ap_cond ap_block ap_loop ap_exit ap_ret ap_seq_normal ap_seq_ret ap_seq_exit ap_block_normal ap_block_ret ap_block_exit ap_block_other ap_nil ap_draw ap_dr_nil ap_fin_ret ap_fin_normal ap_loopK dstT_zero dstT_succ Nat.add_assoc onSome_some onSome_none ifB_true ifB_false ifB_not onClo_clo onBool_bool onBool_tup frz_val frz_ro takeAt elemTy LeN_refl LeN_push LeN_set push_get push_next set_get set_next nil_get nil_next pop_move pop_assign pop_pick pop_load pop_fieldAddr pop_indexAddr pop_field pop_binOp pop_unOp pop_convert pop_extract pop_makeFunc pop_nilCheck pop_build pop_slice pop_len pop_max pop_min eop_alloc eop_box eop_store eop_buildSlice eop_makeSlice eop_append as_move as_assign as_pick as_load as_fieldAddr as_indexAddr as_field as_binOp as_unOp as_convert as_extract as_makeFunc as_nilCheck as_build as_slice as_len as_max as_min as_alloc as_box as_store as_buildSlice as_makeSlice as_append as_call cons_free cons_guard putA_some putA_none aev_tmp aev_int aev_bool aev_nil aev_func pickA_and pickA_or pickA_true pickA_false nnA_ptr nnA_rop idxA_some intOf_int boxA_some bin_int binI_add binI_sub binI_mul binI_quo binI_rem binI_eql binI_neq binI_lss binI_leq binI_gtr binI_geq unA_not unA_neg loadA_ptr loadA_rop loadO_some asLoaded_agg asLoaded_one resA_one resA_two resOne_tmp resOne_cell cellsOf_int cellsOf_bool cellsOf_clo cellsOf_ptr cellsOf_ro cellsOf_sl cellsOf_nil cellsOf_agg one_int one_bool one_nil one_clo one_ptr one_ro one_sl one_rop mm_max mm_min elS_sl elS2_sl mkA_some chunk_zero chunk_succ zcells_zero zcells_succ clean_val clean_ro clean_rop clean1_val clean1_ro clean1_rop flat_val flat_ro flat_agg frz_agg frz_tup
attribute [local simp] t3 u3 t4 u4 t5 u5 t22 u22 t23 u23 t25 u25 t27 u27 t28 u28 t30 u30 t32 u32 t34 u34 t37 u37 t43 u43 t48 u48 t49 u49 t50 u50 t54 u54 t75 u75 t77 u77 t84 u84 t89 u89 t94 u94 t96 u96 t102 u102 t117 u117 t119 u119 t123 u123 t125 u125 t130 u130 t134 u134 t138 u138 t152 u152 t155 u155 t156 u156 t160 u160 t172 u172
attribute [local simp] lenA_ro indexA_ro fieldA fldA partA buildA fillA storeA buildSliceA

attribute [local simp] quietA effectful allocs fpo findNew_nil q_move q_assign q_pick q_load q_fieldAddr q_indexAddr q_field q_binOp q_unOp q_convert q_extract q_makeFunc q_nilCheck q_build q_slice q_len q_max q_min e_alloc e_box e_store e_buildSlice e_makeSlice e_append q_call e_call dr_free dr_guard qView_next eView_next hit_nil hit_cons qView_get optL_some optL_none eView_get fp_alloc fp_box fp_make fp_append fp_build fp_call fp_store mergeG_get LeN_nil new_store findNew_cons
attribute [local simp] one_get one_next ap_finw_ret ap_finw_normal
set_option maxRecDepth 20000
set_option maxHeartbeats 4000000 in
theorem melt_fn {s w : Bd} (h1 : s.lo.natAbs ≤ 1000000000000) (h2 : s.hi.natAbs ≤ 1000000000000) (h3 : w.lo.natAbs ≤ 1000000000000) (h4 : w.hi.natAbs ≤ 1000000000000) :
    Fn Try.prog 71 [.ptr 0 0, w.av] (.one [I s.lo, I s.hi]) (melts s w).av (.one [I (left s w).lo, I (left s w).hi]) := by
  refine Fn.write noM (fun i => if i = 2 then { M := [0], see := [(6, 0), (15, 0)], eff := [(23, [0]), (27, [0])] } else {}) (by kernel_rfl) Try.func71 rfl (by kernel_rfl) rfl ?_
  simp -dsimp -implicitDefEqProofs [melts, left]
  rw [wrap_in (by omega) (by omega), wrap_in (by omega) (by omega)]
  exact ⟨rfl, rfl⟩
end Go.Pe

/- Conditions for all elements of lists of structs and of lists. -/
namespace Go.Pe
open Go Go.Proofs Go.Proofs.Ytblpmcmapadphaa
attribute [local simp] ap_skip ap_region ap_seq ap_cond ap_block ap_loop ap_exit ap_ret ap_seq_normal ap_seq_ret ap_seq_exit ap_block_normal ap_block_ret ap_block_exit ap_block_other ap_nil ap_draw ap_dr_nil ap_fin_ret ap_fin_normal ap_loopK dstT_zero dstT_succ Nat.add_assoc onSome_some onSome_none ifB_true ifB_false ifB_not onClo_clo onBool_bool onBool_tup frz_val frz_ro takeAt elemTy LeN_refl LeN_push LeN_set push_get push_next set_get set_next nil_get nil_next pop_move pop_assign pop_pick pop_load pop_fieldAddr pop_indexAddr pop_field pop_binOp pop_unOp pop_convert pop_extract pop_makeFunc pop_nilCheck pop_build pop_slice pop_len pop_max pop_min eop_alloc eop_box eop_store eop_buildSlice eop_makeSlice eop_append as_move as_assign as_pick as_load as_fieldAddr as_indexAddr as_field as_binOp as_unOp as_convert as_extract as_makeFunc as_nilCheck as_build as_slice as_len as_max as_min as_alloc as_box as_store as_buildSlice as_makeSlice as_append as_call cons_free cons_guard putA_some putA_none aev_tmp aev_int aev_bool aev_nil aev_func pickA_and pickA_or pickA_true pickA_false nnA_ptr nnA_rop idxA_some intOf_int boxA_some bin_int binI_add binI_sub binI_mul binI_quo binI_rem binI_eql binI_neq binI_lss binI_leq binI_gtr binI_geq unA_not unA_neg loadA_ptr loadA_rop loadO_some asLoaded_agg asLoaded_one resA_one resA_two resOne_tmp resOne_cell cellsOf_int cellsOf_bool cellsOf_clo cellsOf_ptr cellsOf_ro cellsOf_sl cellsOf_nil cellsOf_agg one_int one_bool one_nil one_clo one_ptr one_ro one_sl one_rop mm_max mm_min elS_sl elS2_sl mkA_some chunk_zero chunk_succ zcells_zero zcells_succ clean_val clean_ro clean_rop clean1_val clean1_ro clean1_rop flat_val flat_ro flat_agg frz_agg frz_tup
attribute [local simp] t3 u3 t4 u4 t5 u5 t22 u22 t23 u23 t25 u25 t27 u27 t28 u28 t30 u30 t32 u32 t34 u34 t37 u37 t43 u43 t48 u48 t49 u49 t50 u50 t54 u54 t75 u75 t77 u77 t84 u84 t89 u89 t94 u94 t96 u96 t102 u102 t117 u117 t119 u119 t123 u123 t125 u125 t130 u130 t134 u134 t138 u138 t152 u152 t155 u155 t156 u156 t160 u160 t172 u172
attribute [local simp] lenA_ro indexA_ro
set_option maxRecDepth 20000

theorem indexFunc_sky {f : FuncId} {caps : List AV} {h : H} {p : List AV → Bool} {xs : List (List AV)} {fu : Bool} (hlen : (xs.length : Int) < 2^62) (hk : ∀ r ∈ xs, r.length = 4) (hF : ∀ x ∈ xs, Fn Try.prog f ([AV.agg x] ++ caps) h (B (p x)) h) :
    Fn Try.prog 116 [.ro fu 4 xs, .clo f caps] h (I (idx p xs)) h := by
  refine Fn.keep noM noC (by kernel_rfl) Try.func116 rfl rfl fun _ => ?_
  simp -dsimp -implicitDefEqProofs
  refine LoopC.on (σ := Nat) (fun i j => [.ro fu 4 xs, .clo f caps, j 2, j 3, j 4, j 5, j 6, I xs.length, I i, j 9, j 10, j 11, j 12, j 13, j 14, j 15, j 16, j 17, j 18])
    (fun i k => k = h ∧ i ≤ xs.length ∧ ∀ q, q < i → ∀ x, xs[q]? = some x → p x = false) (fun i => xs.length - i) 0 ⟨rfl, by omega, fun q hq => by omega⟩ (by simp) ?_
  rintro i j h' ⟨rfl, hi, hp⟩
  simp -dsimp -implicitDefEqProofs
  refine ifD_in (fun hlt => ?_) (fun hge => ?_)
  · have hx := List.getElem?_eq_getElem (show i < xs.length by omega)
    have hl := hk _ (List.getElem_mem (show i < xs.length by omega))
    have ht : xs[i].take 4 = xs[i] := List.take_of_length_le (by omega)
    simp -dsimp -implicitDefEqProofs [hx, hl, ht]
    refine onCall_in (hF _ (List.getElem_mem (by omega))) ?_
    simp -dsimp -implicitDefEqProofs
    refine ifB_in (fun hb => by simp -dsimp -implicitDefEqProofs [idx_hit hx hb hp]) (fun hb => ?_)
    simp -dsimp -implicitDefEqProofs
    refine ⟨i + 1, ⟨by omega, fun q hq x hqx => ?_⟩, ?_, by omega⟩
    · by_cases hqi : q = i
      · subst hqi; rw [hx] at hqx; cases hqx; simpa using hb
      · exact hp q (by omega) x hqx
    · rw [wrap_in (by omega) (by omega)]; omega
  · simp -dsimp -implicitDefEqProofs
    exact (idx_miss fun q hq => hp q (by omega)).symm
theorem containsFunc_sky {f : FuncId} {caps : List AV} {h : H} {p : List AV → Bool} {xs : List (List AV)} {fu : Bool} (hlen : (xs.length : Int) < 2^62) (hk : ∀ r ∈ xs, r.length = 4) (hF : ∀ x ∈ xs, Fn Try.prog f ([AV.agg x] ++ caps) h (B (p x)) h) :
    Fn Try.prog 101 [.ro fu 4 xs, .clo f caps] h (B (xs.any p)) h := by
  refine Fn.keep noM noC (by kernel_rfl) Try.func101 rfl rfl fun _ => ?_
  simp -dsimp -implicitDefEqProofs
  refine onCall_in (indexFunc_sky hlen hk hF) ?_
  simp -dsimp -implicitDefEqProofs
  exact idx_any
theorem every1_sky {f : FuncId} {caps : List AV} {h : H} {b : Nat} {x : List AV} {v : Bool} (hb : h.get b = some [.clo f caps]) (ho : ∀ a ∈ x, one a = true) (hl : x.length = 4) (hF : Fn Try.prog f ([AV.agg x] ++ caps) (h.push x) (B v) (h.push x)) : Fn Try.prog 102 [AV.agg x, .ptr b 0] h (B !v) h := by
  refine Fn.keep noM noC (by kernel_rfl) Try.func102 rfl rfl fun live => ?_
  have hne : ¬ b = h.next := by have := (live.1 b _ hb).1; omega
  have ht : x.take 4 = x := List.take_of_length_le (by omega)
  simp -dsimp -implicitDefEqProofs [hb, hl, ht, hne]
  rw [if_pos ho]
  simp -dsimp -implicitDefEqProofs [hb, hl, ht, hne]
  refine onCall_in hF ?_
  simp -dsimp -implicitDefEqProofs
theorem every_sky {f : FuncId} {caps : List AV} {h : H} {p : List AV → Bool} {xs : List (List AV)} {fu : Bool} (hlen : (xs.length : Int) < 2^62) (hk : ∀ r ∈ xs, r.length = 4) (ho : ∀ x ∈ xs, ∀ a ∈ x, one a = true) (hF : ∀ x ∈ xs, Fn Try.prog f ([AV.agg x] ++ caps) ((h.push [.clo f caps]).push x) (B (p x)) ((h.push [.clo f caps]).push x)) :
    Fn Try.prog 67 [.ro fu 4 xs, .clo f caps] h (B (xs.all p)) h := by
  refine Fn.keep noM noC (by kernel_rfl) Try.func67 rfl rfl fun _ => ?_
  simp -dsimp -implicitDefEqProofs
  refine onCall_in (containsFunc_sky (p := fun x => !p x) hlen hk fun x hx => every1_sky (b := h.next) (f := f) (caps := caps) (by simp) (ho x hx) (hk x hx) (hF x hx)) ?_
  simp -dsimp -implicitDefEqProofs
  rw [Bool.eq_iff_iff]; simp

theorem indexFunc_reach {f : FuncId} {caps : List AV} {h : H} {p : List AV → Bool} {xs : List (List AV)} {fu : Bool} (hlen : (xs.length : Int) < 2^62) (hk : ∀ r ∈ xs, r.length = 9) (hF : ∀ x ∈ xs, Fn Try.prog f ([AV.agg x] ++ caps) h (B (p x)) h) :
    Fn Try.prog 112 [.ro fu 9 xs, .clo f caps] h (I (idx p xs)) h := by
  refine Fn.keep noM noC (by kernel_rfl) Try.func112 rfl rfl fun _ => ?_
  simp -dsimp -implicitDefEqProofs
  refine LoopC.on (σ := Nat) (fun i j => [.ro fu 9 xs, .clo f caps, j 2, j 3, j 4, j 5, j 6, I xs.length, I i, j 9, j 10, j 11, j 12, j 13, j 14, j 15, j 16, j 17, j 18])
    (fun i k => k = h ∧ i ≤ xs.length ∧ ∀ q, q < i → ∀ x, xs[q]? = some x → p x = false) (fun i => xs.length - i) 0 ⟨rfl, by omega, fun q hq => by omega⟩ (by simp) ?_
  rintro i j h' ⟨rfl, hi, hp⟩
  simp -dsimp -implicitDefEqProofs
  refine ifD_in (fun hlt => ?_) (fun hge => ?_)
  · have hx := List.getElem?_eq_getElem (show i < xs.length by omega)
    have hl := hk _ (List.getElem_mem (show i < xs.length by omega))
    have ht : xs[i].take 9 = xs[i] := List.take_of_length_le (by omega)
    simp -dsimp -implicitDefEqProofs [hx, hl, ht]
    refine onCall_in (hF _ (List.getElem_mem (by omega))) ?_
    simp -dsimp -implicitDefEqProofs
    refine ifB_in (fun hb => by simp -dsimp -implicitDefEqProofs [idx_hit hx hb hp]) (fun hb => ?_)
    simp -dsimp -implicitDefEqProofs
    refine ⟨i + 1, ⟨by omega, fun q hq x hqx => ?_⟩, ?_, by omega⟩
    · by_cases hqi : q = i
      · subst hqi; rw [hx] at hqx; cases hqx; simpa using hb
      · exact hp q (by omega) x hqx
    · rw [wrap_in (by omega) (by omega)]; omega
  · simp -dsimp -implicitDefEqProofs
    exact (idx_miss fun q hq => hp q (by omega)).symm
theorem containsFunc_reach {f : FuncId} {caps : List AV} {h : H} {p : List AV → Bool} {xs : List (List AV)} {fu : Bool} (hlen : (xs.length : Int) < 2^62) (hk : ∀ r ∈ xs, r.length = 9) (hF : ∀ x ∈ xs, Fn Try.prog f ([AV.agg x] ++ caps) h (B (p x)) h) :
    Fn Try.prog 94 [.ro fu 9 xs, .clo f caps] h (B (xs.any p)) h := by
  refine Fn.keep noM noC (by kernel_rfl) Try.func94 rfl rfl fun _ => ?_
  simp -dsimp -implicitDefEqProofs
  refine onCall_in (indexFunc_reach hlen hk hF) ?_
  simp -dsimp -implicitDefEqProofs
  exact idx_any
theorem every1_reach {f : FuncId} {caps : List AV} {h : H} {b : Nat} {x : List AV} {v : Bool} (hb : h.get b = some [.clo f caps]) (ho : ∀ a ∈ x, one a = true) (hl : x.length = 9) (hF : Fn Try.prog f ([AV.agg x] ++ caps) (h.push x) (B v) (h.push x)) : Fn Try.prog 95 [AV.agg x, .ptr b 0] h (B !v) h := by
  refine Fn.keep noM noC (by kernel_rfl) Try.func95 rfl rfl fun live => ?_
  have hne : ¬ b = h.next := by have := (live.1 b _ hb).1; omega
  have ht : x.take 9 = x := List.take_of_length_le (by omega)
  simp -dsimp -implicitDefEqProofs [hb, hl, ht, hne]
  rw [if_pos ho]
  simp -dsimp -implicitDefEqProofs [hb, hl, ht, hne]
  refine onCall_in hF ?_
  simp -dsimp -implicitDefEqProofs
theorem every_reach {f : FuncId} {caps : List AV} {h : H} {p : List AV → Bool} {xs : List (List AV)} {fu : Bool} (hlen : (xs.length : Int) < 2^62) (hk : ∀ r ∈ xs, r.length = 9) (ho : ∀ x ∈ xs, ∀ a ∈ x, one a = true) (hF : ∀ x ∈ xs, Fn Try.prog f ([AV.agg x] ++ caps) ((h.push [.clo f caps]).push x) (B (p x)) ((h.push [.clo f caps]).push x)) :
    Fn Try.prog 57 [.ro fu 9 xs, .clo f caps] h (B (xs.all p)) h := by
  refine Fn.keep noM noC (by kernel_rfl) Try.func57 rfl rfl fun _ => ?_
  simp -dsimp -implicitDefEqProofs
  refine onCall_in (containsFunc_reach (p := fun x => !p x) hlen hk fun x hx => every1_reach (b := h.next) (f := f) (caps := caps) (by simp) (ho x hx) (hk x hx) (hF x hx)) ?_
  simp -dsimp -implicitDefEqProofs
  rw [Bool.eq_iff_iff]; simp

theorem indexFunc_shoal {f : FuncId} {caps : List AV} {h : H} {p : List AV → Bool} {xs : List (List AV)} {fu : Bool} (hlen : (xs.length : Int) < 2^62) (hk : ∀ r ∈ xs, r.length = 6) (hF : ∀ x ∈ xs, Fn Try.prog f ([AV.agg x] ++ caps) h (B (p x)) h) :
    Fn Try.prog 113 [.ro fu 6 xs, .clo f caps] h (I (idx p xs)) h := by
  refine Fn.keep noM noC (by kernel_rfl) Try.func113 rfl rfl fun _ => ?_
  simp -dsimp -implicitDefEqProofs
  refine LoopC.on (σ := Nat) (fun i j => [.ro fu 6 xs, .clo f caps, j 2, j 3, j 4, j 5, j 6, I xs.length, I i, j 9, j 10, j 11, j 12, j 13, j 14, j 15, j 16, j 17, j 18])
    (fun i k => k = h ∧ i ≤ xs.length ∧ ∀ q, q < i → ∀ x, xs[q]? = some x → p x = false) (fun i => xs.length - i) 0 ⟨rfl, by omega, fun q hq => by omega⟩ (by simp) ?_
  rintro i j h' ⟨rfl, hi, hp⟩
  simp -dsimp -implicitDefEqProofs
  refine ifD_in (fun hlt => ?_) (fun hge => ?_)
  · have hx := List.getElem?_eq_getElem (show i < xs.length by omega)
    have hl := hk _ (List.getElem_mem (show i < xs.length by omega))
    have ht : xs[i].take 6 = xs[i] := List.take_of_length_le (by omega)
    simp -dsimp -implicitDefEqProofs [hx, hl, ht]
    refine onCall_in (hF _ (List.getElem_mem (by omega))) ?_
    simp -dsimp -implicitDefEqProofs
    refine ifB_in (fun hb => by simp -dsimp -implicitDefEqProofs [idx_hit hx hb hp]) (fun hb => ?_)
    simp -dsimp -implicitDefEqProofs
    refine ⟨i + 1, ⟨by omega, fun q hq x hqx => ?_⟩, ?_, by omega⟩
    · by_cases hqi : q = i
      · subst hqi; rw [hx] at hqx; cases hqx; simpa using hb
      · exact hp q (by omega) x hqx
    · rw [wrap_in (by omega) (by omega)]; omega
  · simp -dsimp -implicitDefEqProofs
    exact (idx_miss fun q hq => hp q (by omega)).symm
theorem containsFunc_shoal {f : FuncId} {caps : List AV} {h : H} {p : List AV → Bool} {xs : List (List AV)} {fu : Bool} (hlen : (xs.length : Int) < 2^62) (hk : ∀ r ∈ xs, r.length = 6) (hF : ∀ x ∈ xs, Fn Try.prog f ([AV.agg x] ++ caps) h (B (p x)) h) :
    Fn Try.prog 98 [.ro fu 6 xs, .clo f caps] h (B (xs.any p)) h := by
  refine Fn.keep noM noC (by kernel_rfl) Try.func98 rfl rfl fun _ => ?_
  simp -dsimp -implicitDefEqProofs
  refine onCall_in (indexFunc_shoal hlen hk hF) ?_
  simp -dsimp -implicitDefEqProofs
  exact idx_any
theorem every1_shoal {f : FuncId} {caps : List AV} {h : H} {b : Nat} {x : List AV} {v : Bool} (hb : h.get b = some [.clo f caps]) (ho : ∀ a ∈ x, one a = true) (hl : x.length = 6) (hF : Fn Try.prog f ([AV.agg x] ++ caps) (h.push x) (B v) (h.push x)) : Fn Try.prog 99 [AV.agg x, .ptr b 0] h (B !v) h := by
  refine Fn.keep noM noC (by kernel_rfl) Try.func99 rfl rfl fun live => ?_
  have hne : ¬ b = h.next := by have := (live.1 b _ hb).1; omega
  have ht : x.take 6 = x := List.take_of_length_le (by omega)
  simp -dsimp -implicitDefEqProofs [hb, hl, ht, hne]
  rw [if_pos ho]
  simp -dsimp -implicitDefEqProofs [hb, hl, ht, hne]
  refine onCall_in hF ?_
  simp -dsimp -implicitDefEqProofs
theorem every_shoal {f : FuncId} {caps : List AV} {h : H} {p : List AV → Bool} {xs : List (List AV)} {fu : Bool} (hlen : (xs.length : Int) < 2^62) (hk : ∀ r ∈ xs, r.length = 6) (ho : ∀ x ∈ xs, ∀ a ∈ x, one a = true) (hF : ∀ x ∈ xs, Fn Try.prog f ([AV.agg x] ++ caps) ((h.push [.clo f caps]).push x) (B (p x)) ((h.push [.clo f caps]).push x)) :
    Fn Try.prog 60 [.ro fu 6 xs, .clo f caps] h (B (xs.all p)) h := by
  refine Fn.keep noM noC (by kernel_rfl) Try.func60 rfl rfl fun _ => ?_
  simp -dsimp -implicitDefEqProofs
  refine onCall_in (containsFunc_shoal (p := fun x => !p x) hlen hk fun x hx => every1_shoal (b := h.next) (f := f) (caps := caps) (by simp) (ho x hx) (hk x hx) (hF x hx)) ?_
  simp -dsimp -implicitDefEqProofs
  rw [Bool.eq_iff_iff]; simp

theorem indexFunc_closure {f : FuncId} {caps : List AV} {h : H} {p : List AV → Bool} {xs : List (List AV)} {fu : Bool} (hlen : (xs.length : Int) < 2^62) (hk : ∀ r ∈ xs, r.length = 6) (hF : ∀ x ∈ xs, Fn Try.prog f ([AV.agg x] ++ caps) h (B (p x)) h) :
    Fn Try.prog 109 [.ro fu 6 xs, .clo f caps] h (I (idx p xs)) h := by
  refine Fn.keep noM noC (by kernel_rfl) Try.func109 rfl rfl fun _ => ?_
  simp -dsimp -implicitDefEqProofs
  refine LoopC.on (σ := Nat) (fun i j => [.ro fu 6 xs, .clo f caps, j 2, j 3, j 4, j 5, j 6, I xs.length, I i, j 9, j 10, j 11, j 12, j 13, j 14, j 15, j 16, j 17, j 18])
    (fun i k => k = h ∧ i ≤ xs.length ∧ ∀ q, q < i → ∀ x, xs[q]? = some x → p x = false) (fun i => xs.length - i) 0 ⟨rfl, by omega, fun q hq => by omega⟩ (by simp) ?_
  rintro i j h' ⟨rfl, hi, hp⟩
  simp -dsimp -implicitDefEqProofs
  refine ifD_in (fun hlt => ?_) (fun hge => ?_)
  · have hx := List.getElem?_eq_getElem (show i < xs.length by omega)
    have hl := hk _ (List.getElem_mem (show i < xs.length by omega))
    have ht : xs[i].take 6 = xs[i] := List.take_of_length_le (by omega)
    simp -dsimp -implicitDefEqProofs [hx, hl, ht]
    refine onCall_in (hF _ (List.getElem_mem (by omega))) ?_
    simp -dsimp -implicitDefEqProofs
    refine ifB_in (fun hb => by simp -dsimp -implicitDefEqProofs [idx_hit hx hb hp]) (fun hb => ?_)
    simp -dsimp -implicitDefEqProofs
    refine ⟨i + 1, ⟨by omega, fun q hq x hqx => ?_⟩, ?_, by omega⟩
    · by_cases hqi : q = i
      · subst hqi; rw [hx] at hqx; cases hqx; simpa using hb
      · exact hp q (by omega) x hqx
    · rw [wrap_in (by omega) (by omega)]; omega
  · simp -dsimp -implicitDefEqProofs
    exact (idx_miss fun q hq => hp q (by omega)).symm
theorem containsFunc_closure {f : FuncId} {caps : List AV} {h : H} {p : List AV → Bool} {xs : List (List AV)} {fu : Bool} (hlen : (xs.length : Int) < 2^62) (hk : ∀ r ∈ xs, r.length = 6) (hF : ∀ x ∈ xs, Fn Try.prog f ([AV.agg x] ++ caps) h (B (p x)) h) :
    Fn Try.prog 88 [.ro fu 6 xs, .clo f caps] h (B (xs.any p)) h := by
  refine Fn.keep noM noC (by kernel_rfl) Try.func88 rfl rfl fun _ => ?_
  simp -dsimp -implicitDefEqProofs
  refine onCall_in (indexFunc_closure hlen hk hF) ?_
  simp -dsimp -implicitDefEqProofs
  exact idx_any
theorem every1_closure {f : FuncId} {caps : List AV} {h : H} {b : Nat} {x : List AV} {v : Bool} (hb : h.get b = some [.clo f caps]) (ho : ∀ a ∈ x, one a = true) (hl : x.length = 6) (hF : Fn Try.prog f ([AV.agg x] ++ caps) (h.push x) (B v) (h.push x)) : Fn Try.prog 108 [AV.agg x, .ptr b 0] h (B !v) h := by
  refine Fn.keep noM noC (by kernel_rfl) Try.func108 rfl rfl fun live => ?_
  have hne : ¬ b = h.next := by have := (live.1 b _ hb).1; omega
  have ht : x.take 6 = x := List.take_of_length_le (by omega)
  simp -dsimp -implicitDefEqProofs [hb, hl, ht, hne]
  rw [if_pos ho]
  simp -dsimp -implicitDefEqProofs [hb, hl, ht, hne]
  refine onCall_in hF ?_
  simp -dsimp -implicitDefEqProofs
theorem every_closure {f : FuncId} {caps : List AV} {h : H} {p : List AV → Bool} {xs : List (List AV)} {fu : Bool} (hlen : (xs.length : Int) < 2^62) (hk : ∀ r ∈ xs, r.length = 6) (ho : ∀ x ∈ xs, ∀ a ∈ x, one a = true) (hF : ∀ x ∈ xs, Fn Try.prog f ([AV.agg x] ++ caps) ((h.push [.clo f caps]).push x) (B (p x)) ((h.push [.clo f caps]).push x)) :
    Fn Try.prog 84 [.ro fu 6 xs, .clo f caps] h (B (xs.all p)) h := by
  refine Fn.keep noM noC (by kernel_rfl) Try.func84 rfl rfl fun _ => ?_
  simp -dsimp -implicitDefEqProofs
  refine onCall_in (containsFunc_closure (p := fun x => !p x) hlen hk fun x hx => every1_closure (b := h.next) (f := f) (caps := caps) (by simp) (ho x hx) (hk x hx) (hF x hx)) ?_
  simp -dsimp -implicitDefEqProofs
  rw [Bool.eq_iff_iff]; simp

theorem indexFunc_lists {f : FuncId} {caps : List AV} {h : H} {p : AV → Bool} {xs : List (AV)} {fu : Bool} (hlen : (xs.length : Int) < 2^62) (hF : ∀ x ∈ xs, Fn Try.prog f ([x] ++ caps) h (B (p x)) h) :
    Fn Try.prog 130 [.ro fu 1 (xs.map fun x => [x]), .clo f caps] h (I (idx p xs)) h := by
  refine Fn.keep noM noC (by kernel_rfl) Try.func130 rfl rfl fun _ => ?_
  simp -dsimp -implicitDefEqProofs
  refine LoopC.on (σ := Nat) (fun i j => [.ro fu 1 (xs.map fun x => [x]), .clo f caps, j 2, j 3, j 4, j 5, j 6, I xs.length, I i, j 9, j 10, j 11, j 12, j 13, j 14, j 15, j 16, j 17, j 18])
    (fun i k => k = h ∧ i ≤ xs.length ∧ ∀ q, q < i → ∀ x, xs[q]? = some x → p x = false) (fun i => xs.length - i) 0 ⟨rfl, by omega, fun q hq => by omega⟩ (by simp) ?_
  rintro i j h' ⟨rfl, hi, hp⟩
  simp -dsimp -implicitDefEqProofs
  refine ifD_in (fun hlt => ?_) (fun hge => ?_)
  · have hx := List.getElem?_eq_getElem (show i < xs.length by omega)
    simp -dsimp -implicitDefEqProofs [hx]
    refine onCall_in (hF _ (List.getElem_mem (by omega))) ?_
    simp -dsimp -implicitDefEqProofs
    refine ifB_in (fun hb => by simp -dsimp -implicitDefEqProofs [idx_hit hx hb hp]) (fun hb => ?_)
    simp -dsimp -implicitDefEqProofs
    refine ⟨i + 1, ⟨by omega, fun q hq x hqx => ?_⟩, ?_, by omega⟩
    · by_cases hqi : q = i
      · subst hqi; rw [hx] at hqx; cases hqx; simpa using hb
      · exact hp q (by omega) x hqx
    · rw [wrap_in (by omega) (by omega)]; omega
  · simp -dsimp -implicitDefEqProofs
    exact (idx_miss fun q hq => hp q (by omega)).symm
theorem containsFunc_lists {f : FuncId} {caps : List AV} {h : H} {p : AV → Bool} {xs : List (AV)} {fu : Bool} (hlen : (xs.length : Int) < 2^62) (hF : ∀ x ∈ xs, Fn Try.prog f ([x] ++ caps) h (B (p x)) h) :
    Fn Try.prog 126 [.ro fu 1 (xs.map fun x => [x]), .clo f caps] h (B (xs.any p)) h := by
  refine Fn.keep noM noC (by kernel_rfl) Try.func126 rfl rfl fun _ => ?_
  simp -dsimp -implicitDefEqProofs
  refine onCall_in (indexFunc_lists hlen hF) ?_
  simp -dsimp -implicitDefEqProofs
  exact idx_any
theorem every1_lists {f : FuncId} {caps : List AV} {h : H} {b : Nat} {x : AV} {v : Bool} (hb : h.get b = some [.clo f caps]) (hF : Fn Try.prog f ([x] ++ caps) h (B v) h) : Fn Try.prog 127 [x, .ptr b 0] h (B !v) h := by
  refine Fn.keep noM noC (by kernel_rfl) Try.func127 rfl rfl fun _ => ?_
  simp -dsimp -implicitDefEqProofs [hb]
  refine onCall_in hF ?_
  simp -dsimp -implicitDefEqProofs
theorem every_lists {f : FuncId} {caps : List AV} {h : H} {p : AV → Bool} {xs : List (AV)} {fu : Bool} (hlen : (xs.length : Int) < 2^62) (hF : ∀ x ∈ xs, Fn Try.prog f ([x] ++ caps) (h.push [.clo f caps]) (B (p x)) (h.push [.clo f caps])) :
    Fn Try.prog 117 [.ro fu 1 (xs.map fun x => [x]), .clo f caps] h (B (xs.all p)) h := by
  refine Fn.keep noM noC (by kernel_rfl) Try.func117 rfl rfl fun _ => ?_
  simp -dsimp -implicitDefEqProofs
  refine onCall_in (containsFunc_lists (p := fun x => !p x) hlen fun x hx => every1_lists (b := h.next) (f := f) (caps := caps) (by simp) (hF x hx)) ?_
  simp -dsimp -implicitDefEqProofs
  rw [Bool.eq_iff_iff]; simp

theorem indexFunc_bounds {f : FuncId} {caps : List AV} {h : H} {p : List AV → Bool} {xs : List (List AV)} {fu : Bool} (hlen : (xs.length : Int) < 2^62) (hk : ∀ r ∈ xs, r.length = 2) (hF : ∀ x ∈ xs, Fn Try.prog f ([AV.agg x] ++ caps) h (B (p x)) h) :
    Fn Try.prog 131 [.ro fu 2 xs, .clo f caps] h (I (idx p xs)) h := by
  refine Fn.keep noM noC (by kernel_rfl) Try.func131 rfl rfl fun _ => ?_
  simp -dsimp -implicitDefEqProofs
  refine LoopC.on (σ := Nat) (fun i j => [.ro fu 2 xs, .clo f caps, j 2, j 3, j 4, j 5, j 6, I xs.length, I i, j 9, j 10, j 11, j 12, j 13, j 14, j 15, j 16, j 17, j 18])
    (fun i k => k = h ∧ i ≤ xs.length ∧ ∀ q, q < i → ∀ x, xs[q]? = some x → p x = false) (fun i => xs.length - i) 0 ⟨rfl, by omega, fun q hq => by omega⟩ (by simp) ?_
  rintro i j h' ⟨rfl, hi, hp⟩
  simp -dsimp -implicitDefEqProofs
  refine ifD_in (fun hlt => ?_) (fun hge => ?_)
  · have hx := List.getElem?_eq_getElem (show i < xs.length by omega)
    have hl := hk _ (List.getElem_mem (show i < xs.length by omega))
    have ht : xs[i].take 2 = xs[i] := List.take_of_length_le (by omega)
    simp -dsimp -implicitDefEqProofs [hx, hl, ht]
    refine onCall_in (hF _ (List.getElem_mem (by omega))) ?_
    simp -dsimp -implicitDefEqProofs
    refine ifB_in (fun hb => by simp -dsimp -implicitDefEqProofs [idx_hit hx hb hp]) (fun hb => ?_)
    simp -dsimp -implicitDefEqProofs
    refine ⟨i + 1, ⟨by omega, fun q hq x hqx => ?_⟩, ?_, by omega⟩
    · by_cases hqi : q = i
      · subst hqi; rw [hx] at hqx; cases hqx; simpa using hb
      · exact hp q (by omega) x hqx
    · rw [wrap_in (by omega) (by omega)]; omega
  · simp -dsimp -implicitDefEqProofs
    exact (idx_miss fun q hq => hp q (by omega)).symm
theorem containsFunc_bounds {f : FuncId} {caps : List AV} {h : H} {p : List AV → Bool} {xs : List (List AV)} {fu : Bool} (hlen : (xs.length : Int) < 2^62) (hk : ∀ r ∈ xs, r.length = 2) (hF : ∀ x ∈ xs, Fn Try.prog f ([AV.agg x] ++ caps) h (B (p x)) h) :
    Fn Try.prog 128 [.ro fu 2 xs, .clo f caps] h (B (xs.any p)) h := by
  refine Fn.keep noM noC (by kernel_rfl) Try.func128 rfl rfl fun _ => ?_
  simp -dsimp -implicitDefEqProofs
  refine onCall_in (indexFunc_bounds hlen hk hF) ?_
  simp -dsimp -implicitDefEqProofs
  exact idx_any
theorem every1_bounds {f : FuncId} {caps : List AV} {h : H} {b : Nat} {x : List AV} {v : Bool} (hb : h.get b = some [.clo f caps]) (ho : ∀ a ∈ x, one a = true) (hl : x.length = 2) (hF : Fn Try.prog f ([AV.agg x] ++ caps) (h.push x) (B v) (h.push x)) : Fn Try.prog 129 [AV.agg x, .ptr b 0] h (B !v) h := by
  refine Fn.keep noM noC (by kernel_rfl) Try.func129 rfl rfl fun live => ?_
  have hne : ¬ b = h.next := by have := (live.1 b _ hb).1; omega
  have ht : x.take 2 = x := List.take_of_length_le (by omega)
  simp -dsimp -implicitDefEqProofs [hb, hl, ht, hne]
  rw [if_pos ho]
  simp -dsimp -implicitDefEqProofs [hb, hl, ht, hne]
  refine onCall_in hF ?_
  simp -dsimp -implicitDefEqProofs
theorem every_bounds {f : FuncId} {caps : List AV} {h : H} {p : List AV → Bool} {xs : List (List AV)} {fu : Bool} (hlen : (xs.length : Int) < 2^62) (hk : ∀ r ∈ xs, r.length = 2) (ho : ∀ x ∈ xs, ∀ a ∈ x, one a = true) (hF : ∀ x ∈ xs, Fn Try.prog f ([AV.agg x] ++ caps) ((h.push [.clo f caps]).push x) (B (p x)) ((h.push [.clo f caps]).push x)) :
    Fn Try.prog 120 [.ro fu 2 xs, .clo f caps] h (B (xs.all p)) h := by
  refine Fn.keep noM noC (by kernel_rfl) Try.func120 rfl rfl fun _ => ?_
  simp -dsimp -implicitDefEqProofs
  refine onCall_in (containsFunc_bounds (p := fun x => !p x) hlen hk fun x hx => every1_bounds (b := h.next) (f := f) (caps := caps) (by simp) (ho x hx) (hk x hx) (hF x hx)) ?_
  simp -dsimp -implicitDefEqProofs
  rw [Bool.eq_iff_iff]; simp
end Go.Pe
