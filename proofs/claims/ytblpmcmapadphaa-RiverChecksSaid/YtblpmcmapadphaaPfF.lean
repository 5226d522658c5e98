/- What runs off. -/
import Derived.Test.YtblpmcmapadphaaPfE
set_option linter.unusedVariables false
set_option linter.unusedSimpArgs false
namespace Go.Pe
open Go Go.Proofs Go.Proofs.Ytblpmcmapadphaa
attribute [local simp] ap_skip ap_region ap_seq ap_cond ap_block ap_loop ap_exit ap_ret ap_seq_normal ap_seq_ret ap_seq_exit ap_block_normal ap_block_ret ap_block_exit ap_block_other ap_nil ap_draw ap_dr_nil ap_fin_ret ap_fin_normal ap_loopK dstT_zero dstT_succ Nat.add_assoc onSome_some onSome_none ifB_true ifB_false ifB_not onClo_clo onBool_bool onBool_tup frz_val frz_ro takeAt elemTy LeN_refl LeN_push LeN_set push_get push_next set_get set_next nil_get nil_next pop_move pop_assign pop_pick pop_load pop_fieldAddr pop_indexAddr pop_field pop_binOp pop_unOp pop_convert pop_extract pop_makeFunc pop_nilCheck pop_build pop_slice pop_len pop_max pop_min eop_alloc eop_box eop_store eop_buildSlice eop_makeSlice eop_append as_move as_assign as_pick as_load as_fieldAddr as_indexAddr as_field as_binOp as_unOp as_convert as_extract as_makeFunc as_nilCheck as_build as_slice as_len as_max as_min as_alloc as_box as_store as_buildSlice as_makeSlice as_append as_call cons_free cons_guard putA_some putA_none aev_tmp aev_int aev_bool aev_nil aev_func pickA_and pickA_or pickA_true pickA_false nnA_ptr nnA_rop idxA_some intOf_int boxA_some bin_int binI_add binI_sub binI_mul binI_quo binI_rem binI_eql binI_neq binI_lss binI_leq binI_gtr binI_geq unA_not unA_neg loadA_ptr loadA_rop loadO_some asLoaded_agg asLoaded_one resA_one resA_two resOne_tmp resOne_cell cellsOf_int cellsOf_bool cellsOf_clo cellsOf_ptr cellsOf_ro cellsOf_sl cellsOf_nil cellsOf_agg one_int one_bool one_nil one_clo one_ptr one_ro one_sl one_rop mm_max mm_min elS_sl elS2_sl mkA_some chunk_zero chunk_succ zcells_zero zcells_succ clean_val clean_ro clean_rop clean1_val clean1_ro clean1_rop flat_val flat_ro flat_agg frz_agg frz_tup
attribute [local simp] t3 u3 t4 u4 t5 u5 t22 u22 t23 u23 t25 u25 t27 u27 t28 u28 t30 u30 t32 u32 t34 u34 t37 u37 t43 u43 t48 u48 t49 u49 t50 u50 t54 u54 t75 u75 t77 u77 t84 u84 t89 u89 t94 u94 t96 u96 t102 u102 t117 u117 t119 u119 t123 u123 t125 u125 t130 u130 t134 u134 t138 u138 t152 u152 t155 u155 t156 u156 t160 u160 t172 u172
attribute [local simp] lenA_ro indexA_ro fieldA fldA partA buildA fillA storeA buildSliceA
attribute [local simp] quietA effectful allocs fpo findNew_nil q_move q_assign q_pick q_load q_fieldAddr q_indexAddr q_field q_binOp q_unOp q_convert q_extract q_makeFunc q_nilCheck q_build q_slice q_len q_max q_min e_alloc e_box e_store e_buildSlice e_makeSlice e_append q_call e_call dr_free dr_guard qView_next eView_next hit_nil hit_cons qView_get optL_some optL_none eView_get fp_alloc fp_box fp_make fp_append fp_build fp_call fp_store mergeG_get LeN_nil new_store findNew_cons
attribute [local simp] one_get one_next ap_finw_ret ap_finw_normal
set_option maxRecDepth 20000

noncomputable abbrev Sk.row (x : Sk) : List AV := [I x.rain.lo, I x.rain.hi, I x.heat.lo, I x.heat.hi]
/-- Runoff, as the document says it. -/
def runs (c : Ct) : Bd → List Sk → List Bd
  | _, [] => []
  | s, x :: l => drain c (total [x.rain, melts s (warm c x)]) :: runs c (left s (warm c x)) l
def snowAt (c : Ct) (s : Bd) (l : List Sk) : Bd := l.foldl (fun s x => left s (warm c x)) s

set_option maxHeartbeats 4000000 in
theorem runoff_bad {c : Ct} {sky : List Sk} {fu : Bool} (h : validC c = false) : Fn Try.prog 25 [c.av, .ro fu 4 (sky.map Sk.row)] .nil (.tup [.val (.slice none 0 0), I 2]) .nil := by
  refine Fn.keep noM noC (by kernel_rfl) Try.func25 rfl (by kernel_rfl) fun _ => ?_
  simp -dsimp -implicitDefEqProofs
  refine onCall_in (validCatch_fn (c := c)) ?_
  simp -dsimp -implicitDefEqProofs [h]
set_option maxHeartbeats 4000000 in
theorem runoff_long {c : Ct} {sky : List Sk} {fu : Bool} (h : validC c = true) (hl : 400 < sky.length) (hl2 : (sky.length : Int) < 2^62) : Fn Try.prog 25 [c.av, .ro fu 4 (sky.map Sk.row)] .nil (.tup [.val (.slice none 0 0), I 5]) .nil := by
  refine Fn.keep noM noC (by kernel_rfl) Try.func25 rfl (by kernel_rfl) fun _ => ?_
  simp -dsimp -implicitDefEqProofs
  refine onCall_in (validCatch_fn (c := c)) ?_
  simp -dsimp -implicitDefEqProofs [h]
  refine ifD_in (fun h => ?_) (fun h => ?_)
  · simp -dsimp -implicitDefEqProofs
  · omega

def skP (r : List AV) : Bool := match r with
  | [.val (.int _ a), .val (.int _ b), .val (.int _ c), .val (.int _ d)] => validS ⟨⟨a, b⟩, ⟨c, d⟩⟩
  | _ => false
theorem every_skies {sky : List Sk} {fu : Bool} {h : H} (hl : (sky.length : Int) < 2^62) : Fn Try.prog 67 [.ro fu 4 (sky.map Sk.row), .clo 68 []] h (B (sky.all validS)) h := by
  have := every_sky (f := 68) (caps := []) (h := h) (p := skP) (xs := sky.map Sk.row) (fu := fu) (by simpa using hl) (by simp) (by simp [one_int]) (fun r hr => by
    obtain ⟨x, _, rfl⟩ := List.mem_map.1 hr
    exact validSky_fn)
  have e : (sky.map Sk.row).all skP = sky.all validS := by rw [List.all_map]; rfl
  rwa [e] at this
set_option maxHeartbeats 4000000 in
theorem runoff_sky {c : Ct} {sky : List Sk} {fu : Bool} (h : validC c = true) (hl : sky.length ≤ 400) (h2 : sky.all validS = false) : Fn Try.prog 25 [c.av, .ro fu 4 (sky.map Sk.row)] .nil (.tup [.val (.slice none 0 0), I 2]) .nil := by
  refine Fn.keep noM noC (by kernel_rfl) Try.func25 rfl (by kernel_rfl) fun _ => ?_
  simp -dsimp -implicitDefEqProofs
  refine onCall_in (validCatch_fn (c := c)) ?_
  simp -dsimp -implicitDefEqProofs [h]
  refine ifD_in (fun h => absurd h (by omega)) (fun h => ?_)
  simp -dsimp -implicitDefEqProofs
  refine onCall_in (every_skies (by omega)) ?_
  simp -dsimp -implicitDefEqProofs [h2]
noncomputable abbrev cells (l : List Bd) : List AV := (l.map fun b => [I b.lo, I b.hi]).flatten
theorem storeA_at {T : TI} {h : H} {b o : Nat} {cs cs' l : List AV} {x : AV} (hb : h.get b = some cs) (hl : cellsOf x = some l) (h1 : l.length = T.size) (h2 : o + T.size ≤ cs.length) (h3 : cs.take o ++ l ++ cs.drop (o + l.length) = cs') : storeA T h (.ptr b o) x = some (.val undef, h.set b cs') := by
  simp only [storeA, hl, hb]
  rw [if_pos ⟨h1, h2⟩, h3]
theorem runs_snoc {c : Ct} : ∀ {l : List Sk} {s : Bd} {x : Sk}, runs c s (l ++ [x]) = runs c s l ++ [drain c (total [x.rain, melts (snowAt c s l) (warm c x)])]
  | [], s, x => rfl
  | y :: l, s, x => by simp only [List.cons_append, runs, runs_snoc]; rfl
theorem snow_snoc {c : Ct} {l : List Sk} {s : Bd} {x : Sk} : snowAt c s (l ++ [x]) = left (snowAt c s l) (warm c x) := by simp [snowAt, List.foldl_append]
theorem runs_len {c : Ct} : ∀ {l : List Sk} {s : Bd}, (runs c s l).length = l.length
  | [], s => rfl
  | y :: l, s => by simp [runs, runs_len]
theorem cells_len {l : List Bd} : (cells l).length = l.length * 2 := by
  induction l with
  | nil => rfl
  | cons b l ih => simp only [cells, List.map_cons, List.flatten_cons, List.length_append, List.length_cons, List.length_nil] at ih ⊢; omega
theorem cells_snoc {l : List Bd} {b : Bd} : cells (l ++ [b]) = cells l ++ [I b.lo, I b.hi] := by simp [cells]
theorem snow_in {c : Ct} {s : Bd} (hc : 0 ≤ c.melt) (h1 : 0 ≤ s.lo ∧ s.lo ≤ 1000000) (h2 : 0 ≤ s.hi ∧ s.hi ≤ 1000000) : ∀ (l : List Sk), (0 ≤ (snowAt c s l).lo ∧ (snowAt c s l).lo ≤ 1000000) ∧ (0 ≤ (snowAt c s l).hi ∧ (snowAt c s l).hi ≤ 1000000) := by
  intro l
  induction l generalizing s with
  | nil => exact ⟨h1, h2⟩
  | cons x l ih =>
    have g1 : 0 ≤ (warm c x).lo := Int.mul_nonneg hc (by omega)
    have g2 : 0 ≤ (warm c x).hi := Int.mul_nonneg hc (by omega)
    exact ih (s := left s (warm c x)) (by simp only [left]; omega) (by simp only [left]; omega)
theorem store_at {R : List Bd} {n i : Nat} {z : List Value} {y : List AV} (hz : z.length = 2) (hR : R.length = i) (hy : y.length = 2) :
    ((cells R ++ zcells (n + 1) z).take (i * 2) ++ y ++ (cells R ++ zcells (n + 1) z).drop (i * 2 + y.length)) = cells R ++ y ++ zcells n z := by
  have hl : (cells R).length = i * 2 := by rw [cells_len, hR]
  rw [List.take_left' hl, hy, ← List.drop_drop, List.drop_left' hl, zcells_succ, List.drop_left' (by simp [hz])]

theorem chunk_cells : ∀ {R : List Bd}, chunk 2 R.length (cells R) = R.map fun b => [I b.lo, I b.hi]
  | [] => rfl
  | b :: R => by
    have := chunk_cells (R := R)
    simp only [List.length_cons, chunk_succ, cells, List.map_cons, List.flatten_cons, List.cons_append, List.nil_append, List.take_succ_cons, List.take_zero, List.drop_succ_cons, List.drop_zero] at this ⊢
    rw [this]
theorem cells_all {q : AV → Bool} (hq : ∀ n, q (I n) = true) : ∀ {R : List Bd}, (cells R).all q = true
  | [] => rfl
  | b :: R => by
    have := cells_all hq (R := R)
    simp only [cells, List.map_cons, List.flatten_cons, List.all_append, List.all_cons, List.all_nil, hq, Bool.and_true, Bool.true_and] at this ⊢
    exact this
theorem frz_cells {h : H} {b n : Nat} {R : List Bd} (hb : h.get b = some (cells R)) (hn : R.length = n) : frz 2 h 0 (.sl b 0 n 2) = some (.ro false 2 (R.map fun b => [I b.lo, I b.hi])) := by
  have ht : takeAt (cells R) 0 (n * 2) = some (cells R) := by
    unfold takeAt
    rw [if_pos (by rw [cells_len]; omega), List.drop_zero, List.take_of_length_le (by rw [cells_len]; omega)]
  rw [frz, if_neg (by omega), hb]
  simp only [ht, on_frzl (cells_all (q := clean1) (fun _ => rfl))]
  rw [if_pos (cells_all (q := fun x => clean x && one x) (fun _ => rfl)), ← hn, chunk_cells]

set_option maxHeartbeats 4000000 in
theorem runoff_ok {c : Ct} {sky : List Sk} {fu : Bool} (h : validC c = true) (hl : sky.length ≤ 400) (h2 : sky.all validS = true) : Fn Try.prog 25 [c.av, .ro fu 4 (sky.map Sk.row)] .nil (.tup [.ro false 2 ((runs c c.snow sky).map fun b => [I b.lo, I b.hi]), I 0]) .nil := by
  refine Fn.keep noM (fun i => if i = 12 then { M := [1, 2], eff := [(8, [1]), (13, [2])] } else {}) (by kernel_rfl) Try.func25 rfl (by kernel_rfl) fun _ => ?_
  simp -dsimp -implicitDefEqProofs
  refine onCall_in (validCatch_fn (c := c)) ?_
  simp -dsimp -implicitDefEqProofs [h]
  refine ifD_in (fun h => absurd h (by omega)) (fun h => ?_)
  simp -dsimp -implicitDefEqProofs
  refine onCall_in (every_skies (by omega)) ?_
  simp -dsimp -implicitDefEqProofs [h2, makeSliceA]
  rw [if_pos (by omega)]
  simp -dsimp -implicitDefEqProofs
  refine LoopC.on (σ := Nat) (fun i j => [c.av, .ro fu 4 (sky.map Sk.row), .ptr 0 0, j 3, j 4, j 5, .ptr 1 0, .sl 2 0 sky.length 2, j 8, j 9, j 10, j 11, j 12, j 13, j 14, j 15, j 16, j 17, j 18, j 19, j 20, j 21, j 22, j 23, j 24, .ro fu 4 (sky.map Sk.row), I sky.length, I i, j 28, j 29, j 30, j 31, j 32, j 33, j 34, j 35, j 36, j 37, j 38, j 39, j 40, j 41, j 42, j 43, j 44, j 45, j 46])
    (fun i k => i ≤ sky.length ∧ (∃ m, k.next = m + 3) ∧ k.get 0 = some [I c.area, I c.pc, I c.melt, I c.snow.lo, I c.snow.hi] ∧ k.get 1 = some [I (snowAt c c.snow (sky.take i)).lo, I (snowAt c c.snow (sky.take i)).hi] ∧ k.get 2 = some (cells (runs c c.snow (sky.take i)) ++ zcells (sky.length - i) [.int .i64 0, .int .i64 0])) (fun i => sky.length - i) 0 ⟨by omega, ⟨0, rfl⟩, rfl, rfl, rfl⟩ (by simp) ?_
  rintro i j k ⟨hi, ⟨m, hm⟩, hk0, hk1, hk2⟩
  simp -dsimp -implicitDefEqProofs
  refine ifD_in (fun hlt => ?_) (fun hge => ?_)
  · have hlt' : i < sky.length := by omega
    have hx := List.getElem?_eq_getElem hlt'
    have hC : validC c = true := by assumption
    obtain ⟨r, hr⟩ : ∃ r, r = drain c (total [sky[i].rain, melts (snowAt c c.snow (sky.take i)) (warm c sky[i])]) := ⟨_, rfl⟩
    have hst : sky.take (i + 1) = sky.take i ++ [sky[i]] := by rw [List.take_add_one, hx]; rfl
    have hlen : (runs c c.snow (sky.take i)).length = i := by rw [runs_len, List.length_take]; omega
    obtain ⟨cs, hcs⟩ : ∃ cs, cs = cells (runs c c.snow (sky.take i)) ++ zcells (sky.length - i) [.int .i64 0, .int .i64 0] := ⟨_, rfl⟩
    have hz : ∀ n, (zcells n [.int .i64 0, .int .i64 0]).length = n * 2 := fun n => by simp [zcells]
    have hcl : cs.length = sky.length * 2 := by rw [hcs, List.length_append, cells_len, hlen, hz]; omega
    have hstore : cs.take (i * 2) ++ I r.lo :: I r.hi :: cs.drop (i * 2 + 2) = cells (runs c c.snow (sky.take (i + 1))) ++ zcells (sky.length - (i + 1)) [.int .i64 0, .int .i64 0] := by
      have := store_at (R := runs c c.snow (sky.take i)) (n := sky.length - (i + 1)) (z := [.int .i64 0, .int .i64 0]) (y := [I r.lo, I r.hi]) rfl hlen rfl
      rw [show sky.length - (i + 1) + 1 = sky.length - i by omega, ← hcs] at this
      rw [hst, runs_snoc, ← hr, cells_snoc, ← this]; simp
    rw [← hcs] at hk2
    have hS : validS sky[i] = true := (List.all_eq_true.1 h2) _ (List.getElem_mem _)
    simp only [validC, validS, validB, Bool.and_eq_true, decide_eq_true_eq] at hC hS
    have hsn := snow_in (c := c) (s := c.snow) (by omega) (by omega) (by omega) (sky.take i)
    have w1 := mul_in (a := c.melt) (b := max 0 sky[i].heat.lo) (m := 100) (n := 500) (by omega) (by omega)
    have w2 := mul_in (a := c.melt) (b := max 0 sky[i].heat.hi) (m := 100) (n := 500) (by omega) (by omega)
    simp -dsimp -implicitDefEqProofs [hx, hm, hk0, hk1, hk2]
    refine onCallQ_in ((warmth_fn (c := c) (x := sky[i]) (by omega) (by omega) (by omega)).beside rfl _) ?_
    simp -dsimp -implicitDefEqProofs [hx, hm, hk0, hk1, hk2]
    refine onCallE_in ((melt_fn (s := snowAt c c.snow (sky.take i)) (w := warm c sky[i]) (by omega) (by omega) (by simp only [warm]; omega) (by simp only [warm]; omega)).beside1 (b := 1) (by simp [hm, hk1]) (by simp [re]) (by simp [reOk, cleanD, clean, clean1]) (by simp [clean, clean1]) (by simp [clean, clean1]) (by simp [cleanD, clean, clean1])) rfl (fun b hb => ?_) (fun _ => rfl) ?_
    · simp only [set_get]
      split
      · rename_i hb1; subst hb1; simp [hm, hk1] at hb
      · exact hb
    simp -dsimp -implicitDefEqProofs [hx, hm, hk0, hk1, hk2]
    refine onCallQ_in ((sum_fn (xs := [sky[i].rain, melts (snowAt c c.snow (sky.take i)) (warm c sky[i])]) (fu := true) (by simp) (by simp only [List.mem_cons, List.not_mem_nil, or_false]; rintro b (rfl | rfl) <;> first | omega | (simp only [melts, warm]; omega))).beside rfl _) ?_
    simp -dsimp -implicitDefEqProofs [hx, hm, hk0, hk1, hk2]
    refine onCallQ_in ((drained_fn (c := c) (w := total [sky[i].rain, melts (snowAt c c.snow (sky.take i)) (warm c sky[i])]) (by omega) (by omega) (by simp only [total, List.foldl_cons, List.foldl_nil, melts, warm]; omega) (by simp only [total, List.foldl_cons, List.foldl_nil, melts, warm]; omega)).beside rfl _) ?_
    simp -dsimp -implicitDefEqProofs [hx, hm, hk0, hk1, hk2]
    rw [indexA_sl rfl hlt']
    simp -dsimp -implicitDefEqProofs [hx, hm, hk0, hk1, hk2, hcl]
    rw [if_pos (by omega)]
    simp -dsimp -implicitDefEqProofs [hx, hm, hk0, hk1, hk2, hcl]
    rw [← hr]
    refine ⟨i + 1, ⟨by omega, ⟨by rw [hst, snow_snoc], by rw [hst, snow_snoc]⟩, hstore⟩, ?_, by omega⟩
    rw [wrap_in (by omega) (by omega)]; omega
  · have hin : i = sky.length := by omega
    subst hin
    rw [List.take_length, Nat.sub_self, zcells_zero, List.append_nil] at hk2
    simp -dsimp -implicitDefEqProofs
    refine ⟨3, ?_⟩
    rw [frz, List.mapM_cons, frz_cells hk2 (by rw [runs_len]), List.mapM_cons, on_frz1 (n := 1) (y := .val (.int .i64 0)) rfl]
    rfl
end Go.Pe
