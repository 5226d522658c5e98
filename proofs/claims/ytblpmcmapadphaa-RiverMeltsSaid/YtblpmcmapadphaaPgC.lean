/- The law RiverMelts: a sky that is too long, and land or a sky that is not valid. -/
import Derived.Test.YtblpmcmapadphaaPgM
set_option linter.unusedVariables false
set_option linter.unusedSimpArgs false
namespace Go.Pe
open Go Go.Proofs Go.Proofs.Ytblpmcmapadphaa
attribute [local simp] ap_skip ap_region ap_seq ap_cond ap_block ap_loop ap_exit ap_ret ap_seq_normal ap_seq_ret ap_seq_exit ap_block_normal ap_block_ret ap_block_exit ap_block_other ap_nil ap_draw ap_dr_nil ap_fin_ret ap_fin_normal ap_loopK dstT_zero dstT_succ Nat.add_assoc onSome_some onSome_none ifB_true ifB_false ifB_not onClo_clo onBool_bool onBool_tup frz_val frz_ro takeAt elemTy LeN_refl LeN_push LeN_set push_get push_next set_get set_next nil_get nil_next pop_move pop_assign pop_pick pop_load pop_fieldAddr pop_indexAddr pop_field pop_binOp pop_unOp pop_convert pop_extract pop_makeFunc pop_nilCheck pop_build pop_slice pop_len pop_max pop_min eop_alloc eop_box eop_store eop_buildSlice eop_makeSlice eop_append as_move as_assign as_pick as_load as_fieldAddr as_indexAddr as_field as_binOp as_unOp as_convert as_extract as_makeFunc as_nilCheck as_build as_slice as_len as_max as_min as_alloc as_box as_store as_buildSlice as_makeSlice as_append as_call cons_free cons_guard putA_some putA_none aev_tmp aev_int aev_bool aev_nil aev_func pickA_and pickA_or pickA_true pickA_false nnA_ptr nnA_rop idxA_some intOf_int boxA_some bin_int binI_add binI_sub binI_mul binI_quo binI_rem binI_eql binI_neq binI_lss binI_leq binI_gtr binI_geq unA_not unA_neg loadA_ptr loadA_rop loadO_some asLoaded_agg asLoaded_one resA_one resA_two resOne_tmp resOne_cell cellsOf_int cellsOf_bool cellsOf_clo cellsOf_ptr cellsOf_ro cellsOf_sl cellsOf_nil cellsOf_agg one_int one_bool one_nil one_clo one_ptr one_ro one_sl one_rop mm_max mm_min elS_sl elS2_sl mkA_some chunk_zero chunk_succ zcells_zero zcells_succ clean_val clean_ro clean_rop clean1_val clean1_ro clean1_rop flat_val flat_ro flat_agg frz_agg frz_tup
attribute [local simp] t3 u3 t4 u4 t5 u5 t22 u22 t23 u23 t25 u25 t27 u27 t28 u28 t30 u30 t32 u32 t34 u34 t37 u37 t43 u43 t48 u48 t49 u49 t50 u50 t54 u54 t75 u75 t77 u77 t84 u84 t89 u89 t94 u94 t96 u96 t102 u102 t117 u117 t119 u119 t123 u123 t125 u125 t130 u130 t134 u134 t138 u138 t152 u152 t155 u155 t156 u156 t160 u160 t172 u172
attribute [local simp] lenA_ro indexA_ro fieldA fldA partA buildA fillA storeA buildSliceA
attribute [local simp] quietA effectful allocs fpo findNew_nil q_move q_assign q_pick q_load q_fieldAddr q_indexAddr q_field q_binOp q_unOp q_convert q_extract q_makeFunc q_nilCheck q_build q_slice q_len q_max q_min e_alloc e_box e_store e_buildSlice e_makeSlice e_append q_call e_call dr_free dr_guard qView_next eView_next hit_nil hit_cons qView_get optL_some optL_none eView_get fp_alloc fp_box fp_make fp_append fp_build fp_call fp_store mergeG_get LeN_nil new_store findNew_cons
attribute [local simp] one_get one_next ap_finw_ret ap_finw_normal
set_option maxRecDepth 20000

attribute [local simp] extA lenA appendA rowsA
theorem neqB {a b : Int} {k : TK} {s : Nat} {z : List Value} {a' f : Bool} {by' : Nat} : binX Try.prog 27 { kind := k, size := s, zero := z, agg := a', bytes := by', fok := f, cmp := true } .neq (.agg [I a, I b]) (.agg [I a, I b]) = some (B false) := by
  simp [binX, eqV, eqFs, partA, ti27, ti3]
set_option maxHeartbeats 8000000 in
theorem melts_ok {c : Ct} {sky : List Sk} {x : Tr} (h : sky.length ≤ 100) (hc : validC c = true) (hs : sky.all validS = true) (hx : 0 ≤ x.snow ∧ x.snow ≤ 255) (hxs : ∀ n ∈ x.side, 0 ≤ n ∧ n ≤ 255) (hxb : ∀ n ∈ x.base, 0 ≤ n ∧ n ≤ 255) : Fn Try.prog 14 [c.av, .ro false 4 (sky.map Sk.row), x.av] .nil (B true) .nil := by
  refine Fn.keep noM meltsC (by kernel_rfl) Try.func14 rfl (by kernel_rfl) fun _ => ?_
  simp -dsimp -implicitDefEqProofs
  refine ifD_in (fun h => absurd h (by omega)) (fun _ => ?_)
  simp -dsimp -implicitDefEqProofs
  have hb1 : sky.length * 32 ≤ 70368744177664 := by omega
  have hb2 : sky.length ≤ 70368744177664 := by omega
  have hr := runoff_ok (c := c) (sky := sky) (fu := false) hc (by omega) hs
  have hC := hc
  simp only [validC, validB, Bool.and_eq_true, decide_eq_true_eq] at hC
  simp -dsimp -implicitDefEqProofs [meltsC, hb1, hb2]
  have hlen : ((runs c c.snow sky).length : Int) = sky.length := by rw [runs_len]
  have n1 : decide (c.snow.lo < 0) = false := by simp; omega
  have n2 : decide (c.snow.hi < c.snow.lo) = false := by simp; omega
  have n0 : ((sky.length : Int) != sky.length) = false := by simp
  refine onCallQ_in (hr.beside rfl _) ?_
  simp -dsimp -implicitDefEqProofs [meltsC, hlen, n0, n1, n2]
  refine onCall_in ((pick_fn (b := c.snow) (y := x.snow) (by omega) (by omega) (by omega) (by omega)).beside rfl _) ?_
  have w0 := wrap_in (n := x.snow) (by omega) (by omega)
  have w1 := wrap_in (n := c.area + x.snow) (by omega) (by omega)
  have w2 := wrap_in (n := c.snow.hi + x.snow) (by omega) (by omega)
  simp -dsimp -implicitDefEqProofs [meltsC, convA, w0, w1, w2, hb1, hb2]
  have hr2 : Fn Try.prog 25 [.agg [I c.area, I c.pc, I c.melt, I 0, I 0], .ro false 4 (sky.map Sk.row)] .nil (.tup [.ro false 2 ((runs c.bare c.bare.snow sky).map fun b => [I b.lo, I b.hi]), I 0]) .nil := runoff_ok (c := c.bare) (valid_bare hc) (by omega) hs
  have hr3 : Fn Try.prog 25 [.agg [I (min 10000 (c.area + x.snow)), I c.pc, I c.melt, I c.snow.lo, I (min 1000000 (c.snow.hi + x.snow))], .ro false 4 (sky.map Sk.row)] .nil (.tup [.ro false 2 ((runs (c.more x.snow) (c.more x.snow).snow sky).map fun b => [I b.lo, I b.hi]), I 0]) .nil := runoff_ok (c := c.more x.snow) (valid_more hc hx.1) (by omega) hs
  have hlen2 : ((runs c.bare c.bare.snow sky).length : Int) = sky.length := by rw [runs_len]
  have hlen3 : ((runs (c.more x.snow) (c.more x.snow).snow sky).length : Int) = sky.length := by rw [runs_len]
  refine onCallQ_in (hr2.beside rfl _) ?_
  simp -dsimp -implicitDefEqProofs [meltsC, hb1, hb2]
  refine onCallQ_in (hr3.beside rfl _) ?_
  simp -dsimp -implicitDefEqProofs [meltsC, hlen2, hlen3, n0]
  have hp0 := pick_in (b := c.snow) (y := x.snow) (by omega) (by omega) (by omega)
  refine LoopC.on (σ := Nat × Int × Int) (fun i j => [c.av, .ro false 4 (sky.map Sk.row), x.av, .ptr 0 0, j 4, .ptr 1 0, j 6, .ro false 2 ((runs c c.snow sky).map fun b => [I b.lo, I b.hi]), j 8, I i.2.1, I i.2.2, j 11, j 12, .ro false 2 ((runs c.bare c.bare.snow sky).map fun b => [I b.lo, I b.hi]), j 14, .ro false 2 ((runs (c.more x.snow) (c.more x.snow).snow sky).map fun b => [I b.lo, I b.hi]), j 16, I (i.1 : Nat), j 18, j 19, j 20, j 21, j 22, j 23, j 24, j 25, j 26, j 27, j 28, j 29, j 30, j 31, j 32, j 33, j 34, j 35, j 36, j 37, j 38, j 39, j 40, j 41, j 42, j 43, j 44, j 45, j 46, j 47, j 48, j 49, j 50, j 51, j 52, j 53, j 54, j 55, j 56, j 57, j 58, j 59, j 60, j 61, j 62, j 63, j 64, j 65, j 66, j 67, j 68, j 69, j 70, j 71, j 72, j 73, j 74, j 75, j 76, j 77, j 78, j 79, j 80, j 81, j 82, j 83, j 84, j 85, j 86, j 87, j 88, j 89, j 90, j 91, j 92, j 93, j 94, j 95, j 96, j 97, j 98, j 99, j 100, j 101, j 102, j 103, j 104, j 105, j 106, j 107, j 108, j 109, j 110, j 111, j 112, j 113, j 114, j 115, j 116, j 117, j 118, j 119, j 120, j 121, j 122, j 123, j 124, j 125, j 126, j 127, j 128, j 129, j 130, j 131, j 132, j 133, j 134, j 135, j 136, j 137, j 138, j 139, j 140, j 141, j 142, j 143, j 144, j 145, j 146, j 147, j 148, j 149, j 150, j 151, j 152, j 153, j 154, j 155, j 156, j 157, j 158, j 159, j 160, j 161, j 162, j 163, j 164, j 165, j 166, j 167, j 168, j 169, j 170, j 171, j 172, j 173, j 174, j 175, j 176, j 177, j 178, j 179, j 180, j 181, j 182, j 183, j 184, j 185, j 186, j 187, j 188, j 189, j 190, j 191, j 192, j 193, j 194, j 195, j 196, j 197, j 198, j 199, j 200, j 201, j 202, j 203, j 204, j 205, j 206, j 207, j 208, j 209, j 210, j 211, j 212, j 213, j 214, j 215, j 216, j 217, j 218, j 219, j 220, j 221, j 222, j 223, j 224, j 225, j 226, j 227, j 228, j 229, j 230, j 231, j 232, j 233, j 234, j 235, j 236, j 237, j 238, j 239, j 240, j 241, j 242, j 243, j 244, j 245, j 246, j 247, j 248, j 249, j 250, j 251, j 252, j 253, j 254, j 255, j 256, j 257, j 258, j 259, j 260, j 261, j 262, j 263, j 264, j 265, j 266, j 267, j 268, j 269, j 270, j 271])
    (fun i k => i.1 ≤ sky.length ∧ ((snowAt c c.snow (sky.take i.1)).lo ≤ i.2.1 ∧ i.2.1 ≤ (snowAt c c.snow (sky.take i.1)).hi ∧ 0 ≤ i.2.1 ∧ 0 ≤ i.2.2 ∧ i.2.1 + i.2.2 = pickZ c.snow x.snow) ∧ (∃ m, k.next = m + 16) ∧ k.get 0 = some [I c.area, I c.pc, I c.melt, I c.snow.lo, I c.snow.hi] ∧ k.get 1 = some [u8s x.base, u8s x.side, u8s x.bed, u8s x.grow, U x.snow]) (fun i => sky.length - i.1) (0, pickZ c.snow x.snow, 0) ⟨by omega, ⟨hp0.1, hp0.2, show 0 ≤ pickZ c.snow x.snow by omega, Int.le_refl _, Int.add_zero _⟩, ⟨45, rfl⟩, by simp -dsimp -implicitDefEqProofs [meltsC], by simp -dsimp -implicitDefEqProofs [meltsC]⟩ (by kernel_rfl) ?_
  rintro ⟨i, sn, mo⟩ j k ⟨hi, hsn, ⟨m, hm⟩, hk0, hk1⟩
  simp only [] at hi hsn
  simp -dsimp -implicitDefEqProofs
  refine ifD_in (fun hlt => ?_) (fun hge => ?_)
  · have hlt' : i < sky.length := by omega
    have hx' := List.getElem?_eq_getElem hlt'
    have hS : validS sky[i] = true := (List.all_eq_true.1 hs) _ (List.getElem_mem _)
    have q1 := runs_get (c := c) (s := c.snow) hlt'
    have q2 := runs_get (c := c.bare) (s := c.bare.snow) hlt'
    have q3 := runs_get (c := c.more x.snow) (s := (c.more x.snow).snow) hlt'
    have pw := partZ_in (i := i) hxs
    have ph := partZ_in (i := i) hxb
    obtain ⟨s1, hs1⟩ : ∃ r, r = sky[i] := ⟨_, rfl⟩
    rw [← hs1] at hx' hS q1 q2 q3
    simp only [validS, validB, Bool.and_eq_true, decide_eq_true_eq] at hS
    have hst : sky.take (i + 1) = sky.take i ++ [s1] := by rw [List.take_add_one, hx']; rfl
    have sin := snow_in (c := c) (s := c.snow) (by omega) (by omega) (by omega) (sky.take i)
    have hW := pick_in (b := s1.rain) (y := partZ x.side i) (by omega) (by omega) (by omega)
    have hH := pick_in (b := s1.heat) (y := partZ x.base i) (by omega) (by omega) (by omega)
    have f1 := melt_round (c := c) (y := s1) (S := snowAt c c.snow (sky.take i)) (H := pickZ s1.heat (partZ x.base i)) (W := pickZ s1.rain (partZ x.side i)) (sn := sn) hC.1 (by omega) (by omega) hH hW ⟨hsn.1, hsn.2.1⟩ (by omega)
    have f2 := melt_bare (c := c) (y := s1) (S := snowAt c c.snow (sky.take i)) (l := sky.take i) hC.1 (by omega) (by omega)
    have f3 := melt_more (c := c) (y := s1) (n := x.snow) (l := sky.take i) hC.1 (by omega) (by omega) (by omega) (by omega)
    rw [← snow_snoc, ← hst] at f1
    obtain ⟨a1, ha1⟩ : ∃ r, r = drain c (total [s1.rain, melts (snowAt c c.snow (sky.take i)) (warm c s1)]) := ⟨_, rfl⟩
    obtain ⟨a2, ha2⟩ : ∃ r, r = drain c.bare (total [s1.rain, melts (snowAt c.bare c.bare.snow (sky.take i)) (warm c.bare s1)]) := ⟨_, rfl⟩
    obtain ⟨a3, ha3⟩ : ∃ r, r = drain (c.more x.snow) (total [s1.rain, melts (snowAt (c.more x.snow) (c.more x.snow).snow (sky.take i)) (warm (c.more x.snow) s1)]) := ⟨_, rfl⟩
    rw [← ha1] at q1 f1 f2 f3
    rw [← ha2] at q2 f2
    rw [← ha3] at q3 f3
    simp -dsimp -implicitDefEqProofs [meltsC, hx', hm, hk0, hk1]
    refine onCallQ_in ((part_fn (l := x.side) (i := i)).beside rfl _) ?_
    simp -dsimp -implicitDefEqProofs [meltsC, hx', hm, hk0, hk1]
    refine onCallQ_in ((pick_fn (b := s1.rain) (y := partZ x.side i) (by omega) (by omega) (by omega) (by omega)).beside rfl _) ?_
    simp -dsimp -implicitDefEqProofs [meltsC, hx', hm, hk0, hk1]
    refine onCallQ_in ((part_fn (l := x.base) (i := i)).beside rfl _) ?_
    simp -dsimp -implicitDefEqProofs [meltsC, hx', hm, hk0, hk1]
    refine onCallQ_in ((pick_fn (b := s1.heat) (y := partZ x.base i) (by omega) (by omega) (by omega) (by omega)).beside rfl _) ?_
    obtain ⟨H, hHe⟩ : ∃ H, H = pickZ s1.heat (partZ x.base i) := ⟨_, rfl⟩
    obtain ⟨W, hWe⟩ : ∃ W, W = pickZ s1.rain (partZ x.side i) := ⟨_, rfl⟩
    rw [← hHe, ← hWe] at f1
    rw [← hHe] at hH ⊢
    rw [← hWe] at hW ⊢
    have v1 := wrap_in (n := max 0 H * c.melt) (by omega) (by omega)
    have v2 := wrap_in (n := sn - min sn (max 0 H * c.melt)) (by omega) (by omega)
    have v3 := wrap_in (n := mo + min sn (max 0 H * c.melt)) (by omega) (by omega)
    have v4 := wrap_in (n := W + min sn (max 0 H * c.melt)) (by omega) (by omega)
    have v5 := wrap_in (n := c.area * (W + min sn (max 0 H * c.melt))) (by omega) (by omega)
    have v6 := wrap_in (n := c.area * (W + min sn (max 0 H * c.melt)) * c.pc) (by omega) (by omega)
    have v7 := wrap_in (n := 10 * a1.lo) (by omega) (by omega)
    have v8 := wrap_in (n := 10 * a1.hi) (by omega) (by omega)
    have g1 : decide (c.area * (W + min sn (max 0 H * c.melt)) * c.pc < 10 * a1.lo) = false := decide_eq_false (by omega)
    have g2 : decide (10 * a1.hi < c.area * (W + min sn (max 0 H * c.melt)) * c.pc) = false := decide_eq_false (by omega)
    have g3 : decide (a1.lo < a2.lo) = false := decide_eq_false (by omega)
    have g4 : decide (a1.hi < a2.hi) = false := decide_eq_false (by omega)
    have g5 : decide (a3.hi < a1.hi) = false := decide_eq_false (by omega)
    have g6 : decide (a1.lo < 0) = false := decide_eq_false (by omega)
    simp -dsimp -implicitDefEqProofs (maxSteps := 10000000) [meltsC, hx', hm, hk0, hk1, v1, v2, v3, v4, v5, v6, v7, v8, g1, g2, g3, g4, g5, g6, q1, q2, q3]
    refine ifD_in (fun hz => ?_) (fun hz => ?_)
    · have e := f2.2.2 hz (by omega)
      rw [e] at q2
      simp -dsimp -implicitDefEqProofs (maxSteps := 10000000) [meltsC, hx', hm, hk0, hk1, q1, q2, neqB]
      refine ⟨i + 1, sn - min sn (max 0 H * c.melt), mo + min sn (max 0 H * c.melt), ⟨by omega, f1.2.2.2.2.2.2.2.1, f1.2.2.2.2.2.2.2.2, by omega, by omega, by omega⟩, ⟨rfl, rfl, ?_⟩, by omega⟩
      rw [wrap_in (by omega) (by omega)]; omega
    · simp -dsimp -implicitDefEqProofs (maxSteps := 10000000) [meltsC, hx', hm, hk0, hk1, q1, q2]
      refine ⟨i + 1, sn - min sn (max 0 H * c.melt), mo + min sn (max 0 H * c.melt), ⟨by omega, f1.2.2.2.2.2.2.2.1, f1.2.2.2.2.2.2.2.2, by omega, by omega, by omega⟩, ⟨rfl, rfl, ?_⟩, by omega⟩
      rw [wrap_in (by omega) (by omega)]; omega
  · have z1 : decide (0 ≤ sn) = true := decide_eq_true (by omega)
    have z2 : decide (mo ≤ c.snow.hi) = true := decide_eq_true (by omega)
    simp -dsimp -implicitDefEqProofs [meltsC, hm, hk0, hk1, z1, z2]
    refine onCall_in (known_fn.beside rfl _) ?_
    simp -dsimp -implicitDefEqProofs [meltsC]
end Go.Pe
