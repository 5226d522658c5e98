import Derived.Test.YtblpmcmapadphaaF11
set_option linter.unusedVariables false
set_option linter.unusedSimpArgs false
/- What runs off. -/
namespace Go.Pe
open Go Go.Proofs Go.Proofs.Ytblpmcmapadphaa
attribute [local simp] ap_skip ap_region ap_seq ap_cond ap_block ap_loop ap_exit ap_ret ap_seq_normal ap_seq_ret ap_seq_exit ap_block_normal ap_block_ret ap_block_exit ap_block_other ap_nil ap_draw ap_dr_nil ap_fin_ret ap_fin_normal ap_loopK dstT_zero dstT_succ Nat.add_assoc onSome_some onSome_none ifB_true ifB_false ifB_not onClo_clo onBool_bool onBool_tup frz_val frz_ro takeAt elemTy LeN_refl LeN_push LeN_set push_get push_next set_get set_next nil_get nil_next pop_move pop_assign pop_pick pop_load pop_fieldAddr pop_indexAddr pop_field pop_binOp pop_unOp pop_convert pop_extract pop_makeFunc pop_nilCheck pop_build pop_slice pop_len pop_max pop_min eop_alloc eop_box eop_store eop_buildSlice eop_makeSlice eop_append as_move as_assign as_pick as_load as_fieldAddr as_indexAddr as_field as_binOp as_unOp as_convert as_extract as_makeFunc as_nilCheck as_build as_slice as_len as_max as_min as_alloc as_box as_store as_buildSlice as_makeSlice as_append as_call cons_free cons_guard putA_some putA_none aev_tmp aev_int aev_bool aev_nil aev_func pickA_and pickA_or pickA_true pickA_false nnA_ptr nnA_rop idxA_some intOf_int boxA_some bin_int binI_add binI_sub binI_mul binI_quo binI_rem binI_eql binI_neq binI_lss binI_leq binI_gtr binI_geq unA_not unA_neg loadA_ptr loadA_rop loadO_some asLoaded_agg asLoaded_one resA_one resA_two resOne_tmp resOne_cell cellsOf_int cellsOf_bool cellsOf_clo cellsOf_ptr cellsOf_ro cellsOf_sl cellsOf_nil cellsOf_agg one_int one_bool one_nil one_clo one_ptr one_ro one_sl one_rop mm_max mm_min elS_sl elS2_sl mkA_some chunk_zero chunk_succ zcells_zero zcells_succ clean_val clean_ro clean_rop clean1_val clean1_ro clean1_rop flat_val flat_ro flat_agg frz_agg frz_tup
attribute [local simp] t3 u3 t4 u4 t5 u5 t22 u22 t23 u23 t25 u25 t27 u27 t28 u28 t30 u30 t32 u32 t34 u34 t37 u37 t43 u43 t48 u48 t49 u49 t50 u50 t54 u54 t75 u75 t77 u77 t84 u84 t89 u89 t94 u94 t96 u96 t102 u102 t117 u117 t119 u119 t123 u123 t125 u125 t130 u130 t134 u134 t138 u138 t152 u152 t155 u155 t156 u156 t160 u160 t172 u172
attribute [local simp] lenA_ro indexA_ro fieldA fldA partA buildA fillA storeA buildSliceA
attribute [local simp] quietA effectful allocs fpo findNew_nil q_move q_assign q_pick q_load q_fieldAddr q_indexAddr q_field q_binOp q_unOp q_convert q_extract q_makeFunc q_nilCheck q_build q_slice q_len q_max q_min e_alloc e_box e_store e_buildSlice e_makeSlice e_append q_call e_call dr_free dr_guard qView_next eView_next hit_nil hit_cons qView_get optL_some optL_none eView_get fp_alloc fp_box fp_make fp_append fp_build fp_call fp_store mergeG_get LeN_nil new_store findNew_cons
attribute [local simp] one_get one_next ap_finw_ret ap_finw_normal
set_option maxRecDepth 20000

noncomputable abbrev Sk.row (x : Sk) : List AV := [I x.rain.lo, I x.rain.hi, I x.heat.lo, I x.heat.hi]
/-- Runoff, as the document says it. -/
def runs (c : Ct) : Bd → List Sk → List Bd
  | _, [] => []
  | s, x :: l => drain c (total [x.rain, melts s (warm c x)]) :: runs c (left s (warm c x)) l
def snowAt (c : Ct) (s : Bd) (l : List Sk) : Bd := l.foldl (fun s x => left s (warm c x)) s

set_option maxHeartbeats 4000000 in
theorem runoff_bad {c : Ct} {sky : List Sk} {fu : Bool} (h : validC c = false) : Fn Try.prog 25 [c.av, .ro fu 4 (sky.map Sk.row)] .nil (.tup [.val (.slice none 0 0), I 2]) .nil := by
  refine Fn.keep noM noC (by kernel_rfl) Try.func25 rfl (by kernel_rfl) fun _ => ?_
  simp -dsimp -implicitDefEqProofs
  refine onCall_in (validCatch_fn (c := c)) ?_
  simp -dsimp -implicitDefEqProofs [h]
set_option maxHeartbeats 4000000 in
theorem runoff_long {c : Ct} {sky : List Sk} {fu : Bool} (h : validC c = true) (hl : 400 < sky.length) (hl2 : (sky.length : Int) < 2^62) : Fn Try.prog 25 [c.av, .ro fu 4 (sky.map Sk.row)] .nil (.tup [.val (.slice none 0 0), I 5]) .nil := by
  refine Fn.keep noM noC (by kernel_rfl) Try.func25 rfl (by kernel_rfl) fun _ => ?_
  simp -dsimp -implicitDefEqProofs
  refine onCall_in (validCatch_fn (c := c)) ?_
  simp -dsimp -implicitDefEqProofs [h]
  refine ifD_in (fun h => ?_) (fun h => ?_)
  · simp -dsimp -implicitDefEqProofs
  · omega

def skP (r : List AV) : Bool := match r with
  | [.val (.int _ a), .val (.int _ b), .val (.int _ c), .val (.int _ d)] => validS ⟨⟨a, b⟩, ⟨c, d⟩⟩
  | _ => false
theorem every_skies {sky : List Sk} {fu : Bool} {h : H} (hl : (sky.length : Int) < 2^62) : Fn Try.prog 67 [.ro fu 4 (sky.map Sk.row), .clo 68 []] h (B (sky.all validS)) h := by
  have := every_sky (f := 68) (caps := []) (h := h) (p := skP) (xs := sky.map Sk.row) (fu := fu) (by simpa using hl) (by simp) (by simp [one_int]) (fun r hr => by
    obtain ⟨x, _, rfl⟩ := List.mem_map.1 hr
    exact validSky_fn)
  have e : (sky.map Sk.row).all skP = sky.all validS := by rw [List.all_map]; rfl
  rwa [e] at this
set_option maxHeartbeats 4000000 in
theorem runoff_sky {c : Ct} {sky : List Sk} {fu : Bool} (h : validC c = true) (hl : sky.length ≤ 400) (h2 : sky.all validS = false) : Fn Try.prog 25 [c.av, .ro fu 4 (sky.map Sk.row)] .nil (.tup [.val (.slice none 0 0), I 2]) .nil := by
  refine Fn.keep noM noC (by kernel_rfl) Try.func25 rfl (by kernel_rfl) fun _ => ?_
  simp -dsimp -implicitDefEqProofs
  refine onCall_in (validCatch_fn (c := c)) ?_
  simp -dsimp -implicitDefEqProofs [h]
  refine ifD_in (fun h => absurd h (by omega)) (fun h => ?_)
  simp -dsimp -implicitDefEqProofs
  refine onCall_in (every_skies (by omega)) ?_
  simp -dsimp -implicitDefEqProofs [h2]
noncomputable abbrev cells (l : List Bd) : List AV := (l.map fun b => [I b.lo, I b.hi]).flatten
theorem storeA_at {T : TI} {h : H} {b o : Nat} {cs cs' l : List AV} {x : AV} (hb : h.get b = some cs) (hl : cellsOf x = some l) (h1 : l.length = T.size) (h2 : o + T.size ≤ cs.length) (h3 : cs.take o ++ l ++ cs.drop (o + l.length) = cs') : storeA T h (.ptr b o) x = some (.val undef, h.set b cs') := by
  simp only [storeA, hl, hb]
  rw [if_pos ⟨h1, h2⟩, h3]
theorem runs_snoc {c : Ct} : ∀ {l : List Sk} {s : Bd} {x : Sk}, runs c s (l ++ [x]) = runs c s l ++ [drain c (total [x.rain, melts (snowAt c s l) (warm c x)])]
  | [], s, x => rfl
  | y :: l, s, x => by simp only [List.cons_append, runs, runs_snoc]; rfl
theorem snow_snoc {c : Ct} {l : List Sk} {s : Bd} {x : Sk} : snowAt c s (l ++ [x]) = left (snowAt c s l) (warm c x) := by simp [snowAt, List.foldl_append]
theorem runs_len {c : Ct} : ∀ {l : List Sk} {s : Bd}, (runs c s l).length = l.length
  | [], s => rfl
  | y :: l, s => by simp [runs, runs_len]
theorem cells_len {l : List Bd} : (cells l).length = l.length * 2 := by
  induction l with
  | nil => rfl
  | cons b l ih => simp only [cells, List.map_cons, List.flatten_cons, List.length_append, List.length_cons, List.length_nil] at ih ⊢; omega
theorem cells_snoc {l : List Bd} {b : Bd} : cells (l ++ [b]) = cells l ++ [I b.lo, I b.hi] := by simp [cells]
theorem snow_in {c : Ct} {s : Bd} (hc : 0 ≤ c.melt) (h1 : 0 ≤ s.lo ∧ s.lo ≤ 1000000) (h2 : 0 ≤ s.hi ∧ s.hi ≤ 1000000) : ∀ (l : List Sk), (0 ≤ (snowAt c s l).lo ∧ (snowAt c s l).lo ≤ 1000000) ∧ (0 ≤ (snowAt c s l).hi ∧ (snowAt c s l).hi ≤ 1000000) := by
  intro l
  induction l generalizing s with
  | nil => exact ⟨h1, h2⟩
  | cons x l ih =>
    have g1 : 0 ≤ (warm c x).lo := Int.mul_nonneg hc (by omega)
    have g2 : 0 ≤ (warm c x).hi := Int.mul_nonneg hc (by omega)
    exact ih (s := left s (warm c x)) (by simp only [left]; omega) (by simp only [left]; omega)
theorem store_at {R : List Bd} {n i : Nat} {z : List Value} {y : List AV} (hz : z.length = 2) (hR : R.length = i) (hy : y.length = 2) :
    ((cells R ++ zcells (n + 1) z).take (i * 2) ++ y ++ (cells R ++ zcells (n + 1) z).drop (i * 2 + y.length)) = cells R ++ y ++ zcells n z := by
  have hl : (cells R).length = i * 2 := by rw [cells_len, hR]
  rw [List.take_left' hl, hy, ← List.drop_drop, List.drop_left' hl, zcells_succ, List.drop_left' (by simp [hz])]

theorem chunk_cells : ∀ {R : List Bd}, chunk 2 R.length (cells R) = R.map fun b => [I b.lo, I b.hi]
  | [] => rfl
  | b :: R => by
    have := chunk_cells (R := R)
    simp only [List.length_cons, chunk_succ, cells, List.map_cons, List.flatten_cons, List.cons_append, List.nil_append, List.take_succ_cons, List.take_zero, List.drop_succ_cons, List.drop_zero] at this ⊢
    rw [this]
theorem cells_all {q : AV → Bool} (hq : ∀ n, q (I n) = true) : ∀ {R : List Bd}, (cells R).all q = true
  | [] => rfl
  | b :: R => by
    have := cells_all hq (R := R)
    simp only [cells, List.map_cons, List.flatten_cons, List.all_append, List.all_cons, List.all_nil, hq, Bool.and_true, Bool.true_and] at this ⊢
    exact this
theorem frz_cells {h : H} {b n : Nat} {R : List Bd} (hb : h.get b = some (cells R)) (hn : R.length = n) : frz 2 h 0 (.sl b 0 n 2) = some (.ro false 2 (R.map fun b => [I b.lo, I b.hi])) := by
  have ht : takeAt (cells R) 0 (n * 2) = some (cells R) := by
    unfold takeAt
    rw [if_pos (by rw [cells_len]; omega), List.drop_zero, List.take_of_length_le (by rw [cells_len]; omega)]
  rw [frz, if_neg (by omega), hb]
  simp only [ht, on_frzl (cells_all (q := clean1) (fun _ => rfl))]
  rw [if_pos (cells_all (q := fun x => clean x && one x) (fun _ => rfl)), ← hn, chunk_cells]

set_option maxHeartbeats 4000000 in
theorem runoff_ok {c : Ct} {sky : List Sk} {fu : Bool} (h : validC c = true) (hl : sky.length ≤ 400) (h2 : sky.all validS = true) : Fn Try.prog 25 [c.av, .ro fu 4 (sky.map Sk.row)] .nil (.tup [.ro false 2 ((runs c c.snow sky).map fun b => [I b.lo, I b.hi]), I 0]) .nil := by
  refine Fn.keep noM (fun i => if i = 12 then { M := [1, 2], eff := [(8, [1]), (13, [2])] } else {}) (by kernel_rfl) Try.func25 rfl (by kernel_rfl) fun _ => ?_
  simp -dsimp -implicitDefEqProofs
  refine onCall_in (validCatch_fn (c := c)) ?_
  simp -dsimp -implicitDefEqProofs [h]
  refine ifD_in (fun h => absurd h (by omega)) (fun h => ?_)
  simp -dsimp -implicitDefEqProofs
  refine onCall_in (every_skies (by omega)) ?_
  simp -dsimp -implicitDefEqProofs [h2, makeSliceA]
  rw [if_pos (by omega)]
  simp -dsimp -implicitDefEqProofs
  refine LoopC.on (σ := Nat) (fun i j => [c.av, .ro fu 4 (sky.map Sk.row), .ptr 0 0, j 3, j 4, j 5, .ptr 1 0, .sl 2 0 sky.length 2, j 8, j 9, j 10, j 11, j 12, j 13, j 14, j 15, j 16, j 17, j 18, j 19, j 20, j 21, j 22, j 23, j 24, .ro fu 4 (sky.map Sk.row), I sky.length, I i, j 28, j 29, j 30, j 31, j 32, j 33, j 34, j 35, j 36, j 37, j 38, j 39, j 40, j 41, j 42, j 43, j 44, j 45, j 46])
    (fun i k => i ≤ sky.length ∧ (∃ m, k.next = m + 3) ∧ k.get 0 = some [I c.area, I c.pc, I c.melt, I c.snow.lo, I c.snow.hi] ∧ k.get 1 = some [I (snowAt c c.snow (sky.take i)).lo, I (snowAt c c.snow (sky.take i)).hi] ∧ k.get 2 = some (cells (runs c c.snow (sky.take i)) ++ zcells (sky.length - i) [.int .i64 0, .int .i64 0])) (fun i => sky.length - i) 0 ⟨by omega, ⟨0, rfl⟩, rfl, rfl, rfl⟩ (by simp) ?_
  rintro i j k ⟨hi, ⟨m, hm⟩, hk0, hk1, hk2⟩
  simp -dsimp -implicitDefEqProofs
  refine ifD_in (fun hlt => ?_) (fun hge => ?_)
  · have hlt' : i < sky.length := by omega
    have hx := List.getElem?_eq_getElem hlt'
    have hC : validC c = true := by assumption
    obtain ⟨r, hr⟩ : ∃ r, r = drain c (total [sky[i].rain, melts (snowAt c c.snow (sky.take i)) (warm c sky[i])]) := ⟨_, rfl⟩
    have hst : sky.take (i + 1) = sky.take i ++ [sky[i]] := by rw [List.take_add_one, hx]; rfl
    have hlen : (runs c c.snow (sky.take i)).length = i := by rw [runs_len, List.length_take]; omega
    obtain ⟨cs, hcs⟩ : ∃ cs, cs = cells (runs c c.snow (sky.take i)) ++ zcells (sky.length - i) [.int .i64 0, .int .i64 0] := ⟨_, rfl⟩
    have hz : ∀ n, (zcells n [.int .i64 0, .int .i64 0]).length = n * 2 := fun n => by simp [zcells]
    have hcl : cs.length = sky.length * 2 := by rw [hcs, List.length_append, cells_len, hlen, hz]; omega
    have hstore : cs.take (i * 2) ++ I r.lo :: I r.hi :: cs.drop (i * 2 + 2) = cells (runs c c.snow (sky.take (i + 1))) ++ zcells (sky.length - (i + 1)) [.int .i64 0, .int .i64 0] := by
      have := store_at (R := runs c c.snow (sky.take i)) (n := sky.length - (i + 1)) (z := [.int .i64 0, .int .i64 0]) (y := [I r.lo, I r.hi]) rfl hlen rfl
      rw [show sky.length - (i + 1) + 1 = sky.length - i by omega, ← hcs] at this
      rw [hst, runs_snoc, ← hr, cells_snoc, ← this]; simp
    rw [← hcs] at hk2
    have hS : validS sky[i] = true := (List.all_eq_true.1 h2) _ (List.getElem_mem _)
    simp only [validC, validS, validB, Bool.and_eq_true, decide_eq_true_eq] at hC hS
    have hsn := snow_in (c := c) (s := c.snow) (by omega) (by omega) (by omega) (sky.take i)
    have w1 := mul_in (a := c.melt) (b := max 0 sky[i].heat.lo) (m := 100) (n := 500) (by omega) (by omega)
    have w2 := mul_in (a := c.melt) (b := max 0 sky[i].heat.hi) (m := 100) (n := 500) (by omega) (by omega)
    simp -dsimp -implicitDefEqProofs [hx, hm, hk0, hk1, hk2]
    refine onCallQ_in ((warmth_fn (c := c) (x := sky[i]) (by omega) (by omega) (by omega)).beside rfl _) ?_
    simp -dsimp -implicitDefEqProofs [hx, hm, hk0, hk1, hk2]
    refine onCallE_in ((melt_fn (s := snowAt c c.snow (sky.take i)) (w := warm c sky[i]) (by omega) (by omega) (by simp only [warm]; omega) (by simp only [warm]; omega)).beside1 (b := 1) (by simp [hm, hk1]) (by simp [re]) (by simp [reOk, cleanD, clean, clean1]) (by simp [clean, clean1]) (by simp [clean, clean1]) (by simp [cleanD, clean, clean1])) rfl (fun b hb => ?_) (fun _ => rfl) ?_
    · simp only [set_get]
      split
      · rename_i hb1; subst hb1; simp [hm, hk1] at hb
      · exact hb
    simp -dsimp -implicitDefEqProofs [hx, hm, hk0, hk1, hk2]
    refine onCallQ_in ((sum_fn (xs := [sky[i].rain, melts (snowAt c c.snow (sky.take i)) (warm c sky[i])]) (fu := true) (by simp) (by simp only [List.mem_cons, List.not_mem_nil, or_false]; rintro b (rfl | rfl) <;> first | omega | (simp only [melts, warm]; omega))).beside rfl _) ?_
    simp -dsimp -implicitDefEqProofs [hx, hm, hk0, hk1, hk2]
    refine onCallQ_in ((drained_fn (c := c) (w := total [sky[i].rain, melts (snowAt c c.snow (sky.take i)) (warm c sky[i])]) (by omega) (by omega) (by simp only [total, List.foldl_cons, List.foldl_nil, melts, warm]; omega) (by simp only [total, List.foldl_cons, List.foldl_nil, melts, warm]; omega)).beside rfl _) ?_
    simp -dsimp -implicitDefEqProofs [hx, hm, hk0, hk1, hk2]
    rw [indexA_sl rfl hlt']
    simp -dsimp -implicitDefEqProofs [hx, hm, hk0, hk1, hk2, hcl]
    rw [if_pos (by omega)]
    simp -dsimp -implicitDefEqProofs [hx, hm, hk0, hk1, hk2, hcl]
    rw [← hr]
    refine ⟨i + 1, ⟨by omega, ⟨by rw [hst, snow_snoc], by rw [hst, snow_snoc]⟩, hstore⟩, ?_, by omega⟩
    rw [wrap_in (by omega) (by omega)]; omega
  · have hin : i = sky.length := by omega
    subst hin
    rw [List.take_length, Nat.sub_self, zcells_zero, List.append_nil] at hk2
    simp -dsimp -implicitDefEqProofs
    refine ⟨3, ?_⟩
    rw [frz, List.mapM_cons, frz_cells hk2 (by rw [runs_len]), List.mapM_cons, on_frz1 (n := 1) (y := .val (.int .i64 0)) rfl]
    rfl
end Go.Pe

/- Slots by what is known of them; loops at whose rounds the blocks are named anew. -/
namespace Go.Pe
open Go

/-- What is known of a slot. -/
def lk (j : Nat → AV) (t : Nat) : List (Nat × AV) → AV
  | [] => j t
  | (q, x) :: e => if t = q then x else lk j t e
/-- The slots, by what is known of them; 'j': the others. -/
def en (N : Nat) (j : Nat → AV) (e : List (Nat × AV)) : List AV := (List.range N).map fun t => lk j t e
def en0 : Nat → List AV → List (Nat × AV)
  | _, [] => []
  | i, x :: l => (i, x) :: en0 (i + 1) l

section
variable {N t d q i : Nat} {j : Nat → AV} {e : List (Nat × AV)} {x : AV} {l : List AV}
theorem lk_hit : lk j t ((t, x) :: e) = x := by simp [lk]
theorem lk_miss (h : t ≠ q) : lk j t ((q, x) :: e) = lk j t e := by simp [lk, h]
theorem lk_nil : lk j t [] = j t := rfl
theorem en0_nil : en0 i [] = [] := rfl
theorem en0_cons : en0 i (x :: l) = (i, x) :: en0 (i + 1) l := rfl
theorem en_len : (en N j e).length = N := by simp [en]
theorem en_get? : (en N j e)[t]? = if t < N then some (lk j t e) else none := by
  unfold en
  by_cases h : t < N
  · simp [h]
  · simp [h, List.getElem?_eq_none]
theorem en_getD (h : t < N) : (en N j e).getD t (.val undef) = lk j t e := by simp [List.getD, en_get?, h]
theorem en_aev (h : t < N) : aev (en N j e) (.tmp t) = lk j t e := en_getD h
theorem en_set (h : d < N) : (en N j e).set d x = en N j ((d, x) :: e) := by
  apply List.ext_getElem?
  intro k
  rw [List.getElem?_set, en_get?, en_get?, en_len]
  by_cases hk : d = k
  · subst hk; simp [h, lk_hit]
  · rw [if_neg hk]
    by_cases hkN : k < N
    · rw [if_pos hkN, if_pos hkN, lk_miss (fun h => hk h.symm)]
    · rw [if_neg hkN, if_neg hkN]
theorem en_putA (h : d < N) : putA (en N j e) (some d) x = en N j ((d, x) :: e) := en_set h
theorem lk_en0 : ∀ {l : List AV} {i t : Nat}, i ≤ t → lk j t (en0 i l) = (l[t - i]?).getD (j t)
  | [], i, t, _ => by simp [en0, lk]
  | y :: l, i, t, h => by
    rw [en0_cons]
    by_cases ht : t = i
    · subst ht; simp [lk_hit]
    · rw [lk_miss ht, lk_en0 (by omega), show t - i = (t - (i + 1)) + 1 by omega, List.getElem?_cons_succ]
theorem en_start {args : List AV} (h : args.length ≤ N) : args ++ List.replicate (N - args.length) (.val undef) = en N (fun _ => .val undef) (en0 0 args) := by
  apply List.ext_getElem?
  intro k
  rw [en_get?]
  by_cases hk : k < N
  · rw [if_pos hk, lk_en0 (Nat.zero_le _)]
    by_cases ha : k < args.length
    · rw [List.getElem?_append_left ha, Nat.sub_zero, List.getElem?_eq_getElem ha]; rfl
    · rw [List.getElem?_append_right (by omega), List.getElem?_replicate, if_pos (by omega), Nat.sub_zero, List.getElem?_eq_none (by omega)]; rfl
  · rw [if_neg hk, List.getElem?_eq_none (by simp; omega)]
end

/-- The heap that has just these blocks ('none': a name without a block). -/
def mkH (bl : List (Option (List AV))) : H := { next := bl.length, get := fun q => (bl[q]?).join, lp := fun _ => none }
theorem mkH_nil : mkH [] = H.nil := rfl
theorem mkH_one {cs : List AV} : mkH [some cs] = H.one cs := by
  unfold mkH H.one
  congr 1
  funext q
  cases q with
  | zero => rfl
  | succ q => simp
theorem mkH_next {bl : List (Option (List AV))} : (mkH bl).next = bl.length := rfl
theorem mkH_get {bl : List (Option (List AV))} {q : Nat} : (mkH bl).get q = (bl[q]?).join := rfl
theorem mkH_lp {bl : List (Option (List AV))} : (mkH bl).lp = fun _ => none := rfl

/-- The new name of a block. -/
def rnI (b : Nat) : List Nat → Nat → Option Nat
  | [], _ => none
  | q :: l, i => if b = q then some i else rnI b l (i + 1)
theorem rnI_some {b k : Nat} : ∀ {l : List Nat} {i : Nat}, rnI b l i = some k → i ≤ k ∧ l[k - i]? = some b
  | [], i, h => by simp [rnI] at h
  | q :: l, i, h => by
    unfold rnI at h
    split at h
    · rename_i hb; cases h; subst hb; simp
    · obtain ⟨h1, h2⟩ := rnI_some h
      exact ⟨by omega, by rw [show k - i = (k - (i + 1)) + 1 by omega, List.getElem?_cons_succ]; exact h2⟩
def rn (bs : List Nat) : Nat → AV → Option AV
  | 0, _ => none
  | n + 1, x =>
    match x with
    | .val v => some (.val v)
    | .ro f k xs => some (.ro f k xs)
    | .rop cs => some (.rop cs)
    | .ptr b o => (rnI b bs 0).map fun b => .ptr b o
    | .sl b o len k => (rnI b bs 0).map fun b => .sl b o len k
    | .agg l => (l.mapM (rn bs n)).map .agg
    | .tup l => (l.mapM (rn bs n)).map .tup
    | .clo f caps => (caps.mapM (rn bs n)).map (.clo f)
    | .yld _ => none

def Cx.named (c : Cx) (bs : List Nat) : Cx := { S := c.S, φ := fun q => match bs[q]? with | some b => c.φ b | none => 0 }

def Dn (D : Nat → Prop) (bs : List Nat) : Nat → Prop := fun q => ∃ b, bs[q]? = some b ∧ D b
theorem rn_R {c : Cx} {w : World} {D : Nat → Prop} {bs : List Nat} : ∀ (n : Nat) (x y : AV) (v : Value), R c w D x v → rn bs n x = some y → R (c.named bs) w (Dn D bs) y v := by
  intro n
  induction n with
  | zero => intro x y v _ h; cases h
  | succ n ih =>
    intro x y v hx hf
    have list : ∀ {l m : List AV} {cs : Array Value}, RL c w D l cs → l.mapM (rn bs n) = some m → RL (c.named bs) w (Dn D bs) m cs := fun hl hm => by
      obtain ⟨h1, h2⟩ := mapM_some hm
      refine ⟨by rw [hl.1, h1], fun i y u e1 e2 => ?_⟩
      have hi := (List.getElem?_eq_some_iff.1 e1).1
      rw [h1] at hi
      obtain ⟨y', e3, e4⟩ := h2 i _ (List.getElem?_eq_getElem hi)
      rw [e1] at e4; cases e4
      exact ih _ _ _ (hl.2 i _ u (List.getElem?_eq_getElem hi) e2) e3
    have low : ∀ {y : AV} {u : Value}, R c w noId y u → ∀ {D' : Nat → Prop}, R (c.named bs) w D' y u := fun hy => hy.mono (fun _ hk => hk) (fun _ _ => rfl) (fun _ hb => hb.elim) (fun _ hb => hb.elim) (fun _ C _ hk => ⟨C, hk, rfl⟩)
    have blk : ∀ {b k : Nat}, D b → rnI b bs 0 = some k → Dn D bs k ∧ (c.named bs).φ k = c.φ b := fun hb hk => by
      obtain ⟨_, h2⟩ := rnI_some hk
      rw [Nat.sub_zero] at h2
      exact ⟨⟨_, h2, hb⟩, by simp [Cx.named, h2]⟩
    simp only [rn] at hf
    cases hx with
    | val v => cases hf; exact .val v
    | ro cell hS hl hcc hff hk hcell ho hh => cases hf; exact .ro cell hS hl hcc hff hk hcell ho fun i j row x e1 e2 => low (hh i j row x e1 e2)
    | nil => cases hf; exact .nil
    | emp => cases hf; exact .emp
    | rop cell hS hcell hh => cases hf; exact .rop cell hS hcell fun j x e1 => low (hh j x e1)
    | agg hs hh =>
      obtain ⟨m, hm, rfl⟩ := Option.map_eq_some_iff.1 hf
      obtain ⟨g1, g2⟩ := list ⟨hs, hh⟩ hm
      exact .agg g1 g2
    | tup hs hh =>
      obtain ⟨m, hm, rfl⟩ := Option.map_eq_some_iff.1 hf
      obtain ⟨g1, g2⟩ := list ⟨hs, hh⟩ hm
      exact .tup g1 g2
    | clo hs hh =>
      obtain ⟨m, hm, rfl⟩ := Option.map_eq_some_iff.1 hf
      obtain ⟨g1, g2⟩ := list ⟨hs, hh⟩ hm
      exact .clo g1 g2
    | ptr hb =>
      obtain ⟨k, hk, rfl⟩ := Option.map_eq_some_iff.1 hf
      obtain ⟨g1, g2⟩ := blk hb hk
      rw [← g2]; exact .ptr g1
    | sl hb hc C e hblk hC =>
      obtain ⟨k, hk, rfl⟩ := Option.map_eq_some_iff.1 hf
      obtain ⟨g1, g2⟩ := blk hb hk
      rw [← g2] at hblk ⊢; exact .sl g1 hc C e hblk hC
    | yld hb => cases hf

/-- The blocks that are kept, in their new order, and what they hold. -/
def MH (bs0 : List Nat) (h : H) : List Nat → List (Option (List AV)) → Prop
  | [], [] => True
  | b :: bs, some l :: bl => (∃ cs, h.get b = some cs ∧ cs.mapM (rn bs0 4) = some l) ∧ MH bs0 h bs bl
  | _ :: bs, none :: bl => MH bs0 h bs bl
  | _, _ => False
theorem MH_get {bs0 : List Nat} {h : H} : ∀ {bs : List Nat} {bl : List (Option (List AV))}, MH bs0 h bs bl → bs.length = bl.length ∧ ∀ (i : Nat) (l : List AV), bl[i]? = some (some l) → ∃ b cs, bs[i]? = some b ∧ h.get b = some cs ∧ cs.mapM (rn bs0 4) = some l
  | [], [], _ => ⟨rfl, fun i l h => by simp at h⟩
  | b :: bs, some l :: bl, hm => by
    obtain ⟨h1, h2⟩ := MH_get hm.2
    refine ⟨by simp [h1], fun i l' hi => ?_⟩
    cases i with
    | zero => simp at hi; subst hi; obtain ⟨cs, e1, e2⟩ := hm.1; exact ⟨b, cs, rfl, e1, e2⟩
    | succ i => simpa using h2 i l' (by simpa using hi)
  | b :: bs, none :: bl, hm => by
    obtain ⟨h1, h2⟩ := MH_get (bs := bs) (bl := bl) hm
    refine ⟨by simp [h1], fun i l' hi => ?_⟩
    cases i with
    | zero => simp at hi
    | succ i => simpa using h2 i l' (by simpa using hi)
  | [], _ :: _, h => h.elim
  | _ :: _, [], h => h.elim

def rnS (bs : List Nat) (j : Nat → AV) (ρ : List AV) : List AV := ρ.mapIdx fun i x => (rn bs 4 x).getD (j i)
/-- What holds when the blocks are named anew. -/
def Named (n0 : Nat) (Z : List AV → H → Prop) (ρ : List AV) (h : H) : Prop :=
  ∃ (bs : List Nat) (bl : List (Option (List AV))), bs.Nodup ∧ (∀ i, i < n0 → bs[i]? = some i) ∧ MH bs h bs bl ∧ ∀ j : Nat → AV, Z (rnS bs j ρ) (mkH bl)

section
variable {D0 : Nat → Prop} {h0 : H} {c0 : Cx} {w0 : World} (hf0 : ∀ b, h0.next ≤ b → ¬ D0 b)
include hf0
theorem St.named {ρ : List AV} {h : H} {a : Act} {w : World} {c : Cx} {D : Nat → Prop} {Z : List AV → H → Prop} (hz : Named h0.next Z ρ h) (s : St D0 h0 c0 w0 ρ h a w c D) : ∃ ρ' h' c' D', Z ρ' h' ∧ St D0 h0 c0 w0 ρ' h' a w c' D' := by
  obtain ⟨bs, bl, hnd, hlow, hm, hz⟩ := hz
  obtain ⟨hlen, hget⟩ := MH_get hm
  have blk : ∀ q b, bs[q]? = some b → (c.named bs).φ q = c.φ b := fun q b hb => by simp [Cx.named, hb]
  have own : ∀ q l, (mkH bl).get q = some l → ∃ b cs, bs[q]? = some b ∧ h.get b = some cs ∧ cs.mapM (rn bs 4) = some l := fun q l hq => by
    rw [mkH_get] at hq
    exact hget q l (by cases hb : bl[q]? with | none => simp [hb] at hq | some o => simp [hb] at hq; rw [hq])
  refine ⟨rnS bs (fun i => .val (a.tmps.getD i undef)) ρ, mkH bl, c.named bs, Dn D bs, hz _, ⟨fun q l hq => ?_, fun q q' l l' hq hq' he => ?_, s.rel.sz, fun b r hb => by simp [mkH] at hb, fun b b' r r' hb => by simp [mkH] at hb⟩, ⟨by simp [rnS, s.rl.1], fun i y u e1 e2 => ?_⟩, ?_, ?_, fun q hq => ?_⟩
  · obtain ⟨b, cs, e1, e2, e3⟩ := own q l hq
    obtain ⟨q1, q2, C, e, q3, q4, q5⟩ := s.rel.own b cs e2
    obtain ⟨m1, m2⟩ := mapM_some e3
    rw [blk q b e1]
    refine ⟨⟨b, e1, q1⟩, q2, C, e, q3, by rw [m1]; exact q4, fun k y u g1 g2 => ?_⟩
    have hk := (List.getElem?_eq_some_iff.1 g1).1
    rw [m1] at hk
    obtain ⟨y', g3, g4⟩ := m2 k _ (List.getElem?_eq_getElem hk)
    rw [g1] at g4; cases g4
    exact rn_R 4 _ _ _ (q5 k _ u (List.getElem?_eq_getElem hk) g2) g3
  · obtain ⟨b, cs, e1, e2, _⟩ := own q l hq
    obtain ⟨b', cs', e1', e2', _⟩ := own q' l' hq'
    rw [blk q b e1, blk q' b' e1'] at he
    have := s.rel.inj b b' cs cs' e2 e2' he
    subst this
    exact (List.getElem?_inj (List.getElem?_eq_some_iff.1 e1).1 hnd).1 (e1.trans e1'.symm)
  · simp only [rnS, List.getElem?_mapIdx] at e1
    cases hx : ρ[i]? with
    | none => simp [hx] at e1
    | some x =>
      simp only [hx, Option.map_some, Option.some.injEq] at e1
      cases hr : rn bs 4 x with
      | none =>
        rw [hr] at e1
        simp only [Option.getD_none] at e1
        subst e1
        have : a.tmps.getD i undef = u := by
          obtain ⟨hi, he⟩ := Array.getElem?_eq_some_iff.1 e2
          simp [Array.getD, hi, he]
        rw [this]; exact .val u
      | some y' =>
        rw [hr] at e1
        simp only [Option.getD_some] at e1
        subst e1
        exact rn_R 4 _ _ _ (s.rl.2 i x u hx e2) hr
  · have hn : h0.next ≤ bs.length := by
      by_cases h0n : h0.next = 0
      · omega
      · have := (List.getElem?_eq_some_iff.1 (hlow (h0.next - 1) (by omega))).1; omega
    have hlt : ∀ b, D0 b → b < h0.next := fun b hb => Nat.lt_of_not_le fun hle => hf0 b hle hb
    refine ⟨s.ext.S, s.ext.newS, fun b hb => ?_, fun b hb => ?_, by simp [mkH]; omega, s.ext.os, s.ext.tape, s.ext.output, s.ext.size, s.ext.frame, s.ext.shp, fun q l hq => ?_, fun b r hb => by simp [mkH] at hb, s.ext.fz⟩
    · rw [blk b b (hlow b (hlt b hb))]; exact s.ext.φ b hb
    · exact ⟨b, hlow b (hlt b hb), s.ext.dom b hb⟩
    · obtain ⟨b, cs, e1, e2, _⟩ := own q l hq
      rw [blk q b e1]; exact s.ext.origin b cs e2
  · obtain ⟨ms, m1, m2, m3⟩ := s.defers
    exact ⟨ms, m1, m2, m3⟩
  · obtain ⟨b, e1, hb⟩ := hq
    by_cases hq0 : q < h0.next
    · rw [hlow q hq0] at e1; cases e1
      rcases s.dom q hb with g | g
      · exact .inl g
      · omega
    · have := (List.getElem?_eq_some_iff.1 e1).1
      exact .inr ⟨by omega, by simp [mkH]; omega⟩
end

/-- One block alone. -/
def only (h : H) (b : Nat) : H := { next := h.next, get := fun q => if q = b then h.get q else none, lp := fun _ => none }
/-- A slice of the block 'b0', which will be written no more, becomes its rows. -/
def fzv (h : H) (b0 : Nat) (x : AV) : AV := match x with
  | .sl b o len k => if b = b0 then (frz 2 (only h b0) 0 (.sl b o len k)).getD (.sl b o len k) else .sl b o len k
  | x => x
def fzH (h : H) (b0 : Nat) : H := { next := h.next, get := fun q => if q = b0 then none else (h.get q).map (·.map (fzv h b0)), lp := h.lp }
def Fzd (ρ : List AV) (h : H) (ρ' : List AV) (h' : H) : Prop := (ρ' = ρ ∧ h' = h) ∨ ∃ b0, ρ' = ρ.map (fzv h b0) ∧ h' = fzH h b0
theorem Rel.only {c : Cx} {D : Nat → Prop} {h : H} {w : World} (hr : Rel c D h w) (b0 : Nat) : Rel c D (only h b0) w := by
  have sub : ∀ b cs, (Pe.only h b0).get b = some cs → h.get b = some cs := fun b cs hb => by
    simp only [Pe.only] at hb
    split at hb
    · exact hb
    · cases hb
  exact ⟨fun b cs hb => hr.own b cs (sub b cs hb), fun b b' cs cs' e1 e2 he => hr.inj b b' cs cs' (sub _ _ e1) (sub _ _ e2) he, hr.sz, fun b r hb => by simp [Pe.only] at hb, fun b b' r r' hb => by simp [Pe.only] at hb⟩
theorem fzv_R {c : Cx} {D : Nat → Prop} {h : H} {w : World} (hr : Rel c D h w) {b0 : Nat} {x : AV} {v : Value} (hx : R c w D x v) : R (c.all (only h b0) 0) w D (fzv h b0 x) v := by
  have up := hx.more (only h b0) 0
  cases x with
  | sl b o len k =>
    simp only [fzv]
    split
    · cases hz : frz 2 (only h b0) 0 (.sl b o len k) with
      | none => exact up
      | some y => exact frz_R (hr.only b0) (fun b _ hb => absurd hb (Nat.not_lt_zero _)) 2 _ _ _ hx hz
    · exact up
  | _ => exact up
theorem St.fzd {D0 : Nat → Prop} {h0 : H} {c0 : Cx} {w0 : World} {ρ ρ2 : List AV} {h h2 : H} {a : Act} {w : World} {c : Cx} {D : Nat → Prop} (s : St D0 h0 c0 w0 ρ h a w c D) (hz : Fzd ρ h ρ2 h2) : ∃ c', St D0 h0 c0 w0 ρ2 h2 a w c' D := by
  rcases hz with ⟨rfl, rfl⟩ | ⟨b0, rfl, rfl⟩
  · exact ⟨c, s⟩
  have hS' : ∀ k, (c.all (only h b0) 0).S k → c.S k ∨ ∃ cs, h.get b0 = some cs ∧ c.φ b0 = k := fun k hk => by
    rcases hk with hk | ⟨b, cs, _, hb, he⟩
    · exact .inl hk
    · simp only [only] at hb
      split at hb
      · rename_i hq; subst hq; exact .inr ⟨cs, hb, he⟩
      · cases hb
  have heap : ∀ cs, h.get b0 = some cs → ∃ C e, w.heap[c.φ b0]? = some (.cells C e (0, 0)) := fun cs hb => by
    obtain ⟨_, _, C, e, q, _⟩ := s.rel.own b0 cs hb
    exact ⟨C, e, q⟩
  have getz : ∀ q l, (fzH h b0).get q = some l → q ≠ b0 ∧ ∃ cs, h.get q = some cs ∧ l = cs.map (fzv h b0) := fun q l hq => by
    simp only [fzH] at hq
    split at hq
    · cases hq
    · rename_i hne
      obtain ⟨cs, e1, e2⟩ := Option.map_eq_some_iff.1 hq
      exact ⟨hne, cs, e1, e2.symm⟩
  refine ⟨c.all (only h b0) 0, ⟨fun q l hq => ?_, fun q q' l l' hq hq' he => ?_, fun k hk => ?_, ?_, fun b b' r r' e1 e2 he => s.rel.linj b b' r r' e1 e2 he⟩, ⟨by simp [s.rl.1], fun i y u e1 e2 => ?_⟩, ⟨fun k hk => .inl (s.ext.S k hk), fun k hk => ?_, s.ext.φ, s.ext.dom, s.ext.next, s.ext.os, s.ext.tape, s.ext.output, s.ext.size, s.ext.frame, s.ext.shp, fun q l hq => ?_, s.ext.lorigin, s.ext.fz⟩, ?_, s.dom⟩
  · obtain ⟨hne, cs, e1, rfl⟩ := getz q l hq
    obtain ⟨q1, q2, C, e, q3, q4, q5⟩ := s.rel.own q cs e1
    refine ⟨q1, fun hS => ?_, C, e, q3, by simpa using q4, fun k y u g1 g2 => ?_⟩
    · rcases hS' _ hS with h6 | ⟨cs', h6, h7⟩
      · exact q2 h6
      · exact hne (s.rel.inj q b0 cs cs' e1 h6 h7.symm)
    · rw [List.getElem?_map] at g1
      obtain ⟨y', g3, rfl⟩ := Option.map_eq_some_iff.1 g1
      exact fzv_R s.rel (q5 k y' u g3 g2)
  · obtain ⟨_, cs, e1, _⟩ := getz q l hq
    obtain ⟨_, cs', e1', _⟩ := getz q' l' hq'
    exact s.rel.inj q q' cs cs' e1 e1' he
  · rcases hS' k hk with h6 | ⟨cs, h6, rfl⟩
    · exact s.rel.sz k h6
    · obtain ⟨C, e, q⟩ := heap cs h6
      exact (Array.getElem?_eq_some_iff.1 q).1
  · exact s.rel.lps_keep (fun _ hk => .inl hk) (fun _ _ => rfl) (fun _ _ => rfl) (fun _ hb => hb) (fun _ C _ hk => ⟨C, hk, rfl⟩) (fun _ _ _ => rfl) (fun b r hb hS => by
      rcases hS' _ hS with h6 | ⟨cs, h6, h7⟩
      · exact h6
      · obtain ⟨C, e, q⟩ := heap cs h6
        exact absurd h7.symm (s.rel.apart (b' := b0) hb q))
  · rw [List.getElem?_map] at e1
    obtain ⟨y', g3, rfl⟩ := Option.map_eq_some_iff.1 e1
    exact fzv_R s.rel (s.rl.2 i y' u g3 e2)
  · rcases hS' k hk with h6 | ⟨cs, h6, rfl⟩
    · exact s.ext.newS k h6
    · rcases s.ext.origin b0 cs h6 with ⟨b1, cs1, g1, g2⟩ | g
      · exact .inr (.inr ⟨b1, cs1, g1, g2⟩)
      · exact .inr (.inl g)
  · obtain ⟨_, cs, e1, _⟩ := getz q l hq
    exact s.ext.origin q cs e1
  · obtain ⟨ms, m1, m2, m3⟩ := s.defers
    refine ⟨ms, m1, m2, fun d hd => ?_⟩
    obtain ⟨g1, g2, g3⟩ := m3 d hd
    refine ⟨g1, fun hS => ?_, g3⟩
    rcases hS' _ hS with h6 | ⟨cs, h6, rfl⟩
    · exact g2 h6
    · obtain ⟨C, e, q⟩ := heap cs h6
      rw [q] at g3; cases g3

/-- A loop at whose rounds the blocks are named anew. -/
def LoopedR (n0 : Nat) (V : (Exit → List AV → H → Prop) → List AV → H → Prop) (Q : Exit → List AV → H → Prop) (ρ : List AV) (h : H) : Prop :=
  ∃ I : Nat → List AV → H → Prop, (∃ m, Named n0 (I m) ρ h) ∧ ∀ m ρ h, I m ρ h → V (fun e ρ' h' => match e with | .normal => ∃ ρ2 h2, Fzd ρ' h' ρ2 h2 ∧ Named n0 (fun ρ h => ∃ m', m' < m ∧ I m' ρ h) ρ2 h2 | e => ∃ ρ2 h2, Fzd ρ' h' ρ2 h2 ∧ Q e ρ2 h2) ρ h
def DrawR (P : Program) (md : Oper → Bool) (ops : Array Oper) (Q : List AV → H → Prop) (_ : Tag Q) (ρ : List AV) (h : H) : Prop :=
  P.follows .mixedOrders = true ∧ tmpsApart ops = true ∧ ∃ ct, fpsApart ops ct = true ∧ Drawn P md ct ops Q ρ h
def vcR (P : Program) (md : Oper → Bool) (n0 : Nat) : Code → (Exit → List AV → H → Prop) → List AV → H → Prop
  | .skip, Q, ρ, h => Q .normal ρ h
  | .region _ ops false, Q, ρ, h => vcOps P md ops (Q .normal) ops.toList ρ h
  | .region _ ops true, Q, ρ, h => DrawR P md ops (Q .normal) .mk ρ h
  | .seq x y, Q, ρ, h => vcR P md n0 x (seqK (vcR P md n0 y Q) Q) ρ h
  | .cond c x y, Q, ρ, h => onBool (aev ρ c) (fun b => ifB b (vcR P md n0 x Q ρ h) (vcR P md n0 y Q ρ h) .mk .mk) False .mk .mk
  | .block id x, Q, ρ, h => vcR P md n0 x (blockK id Q) ρ h
  | .loop x, Q, ρ, h => LoopedR n0 (vcR P md n0 x) Q ρ h
  | .rangeFunc g ps assign body, Q, ρ, h => Ranged P none ps assign body (aev ρ g) Q ρ h
  | .exit id, Q, ρ, h => Q (.exit id) ρ h
  | .ret, Q, ρ, h => Q .ret ρ h
  | _, _, _, _ => False

section
variable {P : Program} {md : Oper → Bool} {D0 : Nat → Prop} {h0 : H} {c0 : Cx} {w0 : World} (hf0 : ∀ b, h0.next ≤ b → ¬ D0 b) {n : Nat}
include hf0
theorem vcR_sound : ∀ (code : Code) (Q : Exit → List AV → H → Prop) (ρ : List AV) (h : H) (a : Act) (w : World) (c : Cx) (D : Nat → Prop), vcR P md h0.next code Q ρ h → St D0 h0 c0 w0 ρ h a w c D →
    code.wpIn (Fr none) n P (Post D0 h0 c0 w0 Q) a w := by
  intro code
  induction code with
  | skip => intro Q ρ h a w c D hv s; exact wpIn_skip ⟨ρ, h, c, D, hv, s⟩
  | region id ops draw =>
    intro Q ρ h a w c D hv s
    cases draw with
    | false =>
      refine wpIn_region ?_
      have := ops_sound (r := none) (n := n) hf0 ops.toList 0 ρ h a w c D (by simp) hv s
      rwa [Array.length_toList, ← List.range_eq_range'] at this
    | true =>
      obtain ⟨g1, g2, ct, g3, g4⟩ := hv
      exact draw_sound hf0 g1 g2 g3 g4.1 g4.2 s
  | seq x y ihx ihy =>
    intro Q ρ h a w c D hv s
    refine wpIn_seq (wpIn_mono (ihx _ ρ h a w c D hv s) ?_)
    rintro e a' w' ⟨ρ', h', c', D', hq, s'⟩
    cases e with
    | normal => exact ihy Q ρ' h' a' w' c' D' hq s'
    | _ => exact ⟨ρ', h', c', D', hq, s'⟩
  | cond cc x y ihx ihy =>
    intro Q ρ h a w c D hv s
    simp only [vcR, onBool, ifB] at hv
    split at hv
    · rename_i b hb
      have hc := R_aev s.rl cc
      rw [hb] at hc
      generalize hav : a.eval cc = vv at hc
      cases hc
      refine wpIn_cond hav ?_
      cases b with
      | true => exact ihx Q ρ h a w c D (by simpa using hv) s
      | false => exact ihy Q ρ h a w c D (by simpa using hv) s
    · exact hv.elim
    · exact hv.elim
  | block id x ih =>
    intro Q ρ h a w c D hv s
    refine wpIn_block (wpIn_mono (ih _ ρ h a w c D hv s) ?_)
    rintro e a' w' ⟨ρ', h', c', D', hq, s'⟩
    cases e with
    | exit id' =>
      simp only [Exit.inBlock, blockK] at hq ⊢
      split
      · rename_i hid; rw [if_pos hid] at hq; exact ⟨ρ', h', c', D', hq, s'⟩
      · rename_i hid; rw [if_neg hid] at hq; exact ⟨ρ', h', c', D', hq, s'⟩
    | _ => exact ⟨ρ', h', c', D', hq, s'⟩
  | loop x ih =>
    intro Q ρ h a w c D hv s
    obtain ⟨I, ⟨j0, hI⟩, hround⟩ := hv
    intro b k cs hro hb hr
    have key : ∀ j ρ h a w c D, I j ρ h → St D0 h0 c0 w0 ρ h a w c D →
        ∃ e a' w', Post D0 h0 c0 w0 Q e a' w' ∧ ArrivesIn (Machine.fenced P (Fr none)) P (lone (b.atR a (.code x :: .inLoop x :: k)) cs w) b k cs e a' w' := by
      intro j
      induction j using Nat.strongRecOn with
      | _ j ihj =>
        intro ρ h a w c D hI s
        obtain ⟨e, a₁, w₁, ⟨ρ₁, h₁, c₁, D₁, hq, s₁⟩, harr⟩ := ih _ ρ h a w c D (hround j ρ h hI) s b (.inLoop x :: k) cs hro hb hr
        cases e with
        | normal =>
          obtain ⟨ρz, hz, hfz, hq⟩ := hq
          obtain ⟨cz, sz⟩ := s₁.fzd hfz
          obtain ⟨ρ₂, h₂, c₂, D₂, ⟨j₁, hlt, hI₁⟩, s₂⟩ := sz.named hf0 hq
          obtain ⟨e₂, a₂, w₂, hq₂, harr₂⟩ := ihj j₁ hlt ρ₂ h₂ a₁ w₁ c₂ D₂ hI₁ s₂
          exact ⟨e₂, a₂, w₂, hq₂, .of_steps (StepsIn.trans harr (.one (fenced_calm hb hr rfl) stepR_inLoop)) harr₂⟩
        | exit id =>
          obtain ⟨ρz, hz, hfz, hq⟩ := hq
          obtain ⟨cz, sz⟩ := s₁.fzd hfz
          exact ⟨_, a₁, w₁, ⟨ρz, hz, cz, D₁, hq, sz⟩, .pass (x := .inLoop x) rfl (fun _ _ => .inl (by simp)) harr⟩
        | goto l =>
          obtain ⟨ρz, hz, hfz, hq⟩ := hq
          obtain ⟨cz, sz⟩ := s₁.fzd hfz
          exact ⟨_, a₁, w₁, ⟨ρz, hz, cz, D₁, hq, sz⟩, .pass (x := .inLoop x) rfl (fun _ _ => .inl (by simp)) harr⟩
        | ret =>
          obtain ⟨ρz, hz, hfz, hq⟩ := hq
          obtain ⟨cz, sz⟩ := s₁.fzd hfz
          exact ⟨_, a₁, w₁, ⟨ρz, hz, cz, D₁, hq, sz⟩, .pass (x := .inLoop x) rfl (fun _ _ => .inl (by simp)) harr⟩
        | panic ch =>
          obtain ⟨ρz, hz, hfz, hq⟩ := hq
          obtain ⟨cz, sz⟩ := s₁.fzd hfz
          exact ⟨_, a₁, w₁, ⟨ρz, hz, cz, D₁, hq, sz⟩, .pass (x := .inLoop x) rfl (fun _ _ => .inl (by simp)) harr⟩
        | outgrown =>
          obtain ⟨ρz, hz, hfz, hq⟩ := hq
          obtain ⟨cz, sz⟩ := s₁.fzd hfz
          exact ⟨_, a₁, w₁, ⟨ρz, hz, cz, D₁, hq, sz⟩, .pass (x := .inLoop x) rfl (fun _ _ => .inl (by simp)) harr⟩
    obtain ⟨ρ1, h1, c1, D1, hI1, s1⟩ := s.named hf0 hI
    obtain ⟨e, a', w', hq, harr⟩ := key j0 ρ1 h1 a w c1 D1 hI1 s1
    exact ⟨e, a', w', hq, .of_steps (.one (fenced_calm hb hr rfl) stepR_loop) harr⟩
  | rangeFunc g ps assign body _ _ =>
    intro Q ρ h a w c D hv s
    exact range_sound (rd := none) (r := none) hf0 trivial hv s
  | exit id => intro Q ρ h a w c D hv s; exact wpIn_exit ⟨ρ, h, c, D, hv, s⟩
  | scope _ _ => intro Q ρ h a w c D hv; exact hv.elim
  | label _ => intro Q ρ h a w c D hv; exact hv.elim
  | goto _ => intro Q ρ h a w c D hv; exact hv.elim
  | ret => intro Q ρ h a w c D hv s; exact wpIn_ret ⟨ρ, h, c, D, hv, s⟩
  | refuse _ => intro Q ρ h a w c D hv; exact hv.elim
end
end Go.Pe
