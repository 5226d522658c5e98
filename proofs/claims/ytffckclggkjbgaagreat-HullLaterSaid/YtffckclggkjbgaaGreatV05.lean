import Derived.Test.YtffckclggkjbgaaGreatV04
set_option linter.unusedVariables false
set_option linter.unusedSimpArgs false
/- Lists of a forecast: their lengths, their bounds. -/
namespace Go.Pe
open Go Go.Proofs Go.Proofs.YtffckclggkjbgaaGreat
attribute [local simp] ap_skip ap_region ap_seq ap_cond ap_block ap_loop ap_exit ap_ret ap_seq_normal ap_seq_ret ap_seq_exit ap_block_normal ap_block_ret ap_block_exit ap_block_other ap_nil ap_draw ap_dr_nil ap_fin_ret ap_fin_normal ap_loopK dstT_zero dstT_succ Nat.add_assoc onSome_some onSome_none ifB_true ifB_false ifB_not onClo_clo onBool_bool onBool_tup frz_val frz_ro takeAt elemTy LeN_refl LeN_push LeN_set push_get push_next set_get set_next nil_get nil_next pop_move pop_assign pop_pick pop_load pop_fieldAddr pop_indexAddr pop_field pop_binOp pop_unOp pop_convert pop_extract pop_makeFunc pop_nilCheck pop_build pop_slice pop_len pop_max pop_min eop_alloc eop_box eop_store eop_buildSlice eop_makeSlice eop_append as_move as_assign as_pick as_load as_fieldAddr as_indexAddr as_field as_binOp as_unOp as_convert as_extract as_makeFunc as_nilCheck as_build as_slice as_len as_max as_min as_alloc as_box as_store as_buildSlice as_makeSlice as_append as_call cons_free cons_guard putA_some putA_none aev_tmp aev_int aev_bool aev_nil aev_func pickA_and pickA_or pickA_true pickA_false nnA_ptr nnA_rop idxA_some intOf_int boxA_some bin_int binI_add binI_sub binI_mul binI_quo binI_rem binI_eql binI_neq binI_lss binI_leq binI_gtr binI_geq unA_not unA_neg loadA_ptr loadA_rop loadO_some asLoaded_agg asLoaded_one resA_one resA_two resOne_tmp resOne_cell cellsOf_int cellsOf_bool cellsOf_clo cellsOf_ptr cellsOf_ro cellsOf_sl cellsOf_nil cellsOf_agg one_int one_bool one_nil one_clo one_ptr one_ro one_sl one_rop mm_max mm_min elS_sl elS2_sl mkA_some chunk_zero chunk_succ zcells_zero zcells_succ clean_val clean_ro clean_rop clean1_val clean1_ro clean1_rop flat_val flat_ro flat_agg frz_agg frz_tup
attribute [local simp] t3 u3 t4 u4 t5 u5 t22 u22 t23 u23 t25 u25 t27 u27 t28 u28 t30 u30 t32 u32   t37 u37 t43 u43     t50 u50   t75 u75 t77 u77     t94 u94   t102 u102 t117 u117 t119 u119     t130 u130 t134 u134 t138 u138   t155 u155 t156 u156   t172 u172
attribute [local simp] lenA_ro indexA_ro fieldA
set_option maxRecDepth 20000

theorem same1_fn {l : List Bd} {n : Int} {h : H} {b : Nat} (hb : h.get b = some [I n]) : Fn Tryz.prog 157 [.ro false 2 (l.map fBd), .ptr b 0] h (B ((l.length : Int) == n)) h := by
  refine Fn.keep noM noC (by kernel_rfl) Tryz.func157 rfl rfl fun live => ?_
  simp -dsimp -implicitDefEqProofs [hb]
theorem fBd_inj (a b : Bd) (h : fBd a = fBd b) : a = b := by
  cases a; cases b; simp [fBd] at h; simp [h]
theorem sides2_fn {l : List Bd} {h : H} (hl : (l.length : Int) < 2^62) : Fn Tryz.prog 158 [.ro false 2 (l.map fBd)] h (B (l.all (vB 0 10000000000))) h := by
  have hE := every_bounds (f := 160) (caps := []) (h := h) (p := pOfR fBd (vB 0 10000000000)) (xs := l.map fBd) (fu := false) (by simpa using hl) (by simp [fBd_eq]) (by simp [fBd_eq, one_int]) (fun x hx => by
    obtain ⟨b, _, rfl⟩ := List.mem_map.1 hx
    rw [pOfR_eq fBd_inj]
    exact validSide_fn)
  rw [all_pOfR fBd_inj] at hE
  refine Fn.keep noM noC (by kernel_rfl) Tryz.func158 rfl rfl fun live => ?_
  simp -dsimp -implicitDefEqProofs
  refine onCall_in hE ?_
  simp -dsimp -implicitDefEqProofs
noncomputable def lAV (l : List Bd) : AV := .ro false 2 (l.map fBd)
theorem lAV_inj (a b : List Bd) (h : lAV a = lAV b) : a = b := by
  simp only [lAV, AV.ro.injEq, true_and] at h
  exact map_inj fBd_inj _ _ h
open Classical in
/-- A truth about a list, said of what stands for it. -/
noncomputable def pOfL (q : List Bd → Bool) (x : AV) : Bool := if h : ∃ a, lAV a = x then q h.choose else false
theorem pOfL_eq {q : List Bd → Bool} (a : List Bd) : pOfL q (lAV a) = q a := by
  have h : ∃ b, lAV b = lAV a := ⟨a, rfl⟩
  unfold pOfL
  rw [dif_pos h, lAV_inj _ _ h.choose_spec]
theorem lists_fn {sides : List (List Bd)} {f2 : Bool} {f : FuncId} {caps : List AV} {h : H} (q : List Bd → Bool) (hl : (sides.length : Int) < 2^62) (hF : ∀ l ∈ sides, Fn Tryz.prog f ([.ro false 2 (l.map fBd)] ++ caps) (h.push [.clo f caps]) (B (q l)) (h.push [.clo f caps])) : Fn Tryz.prog 156 [.ro f2 1 (sides.map fL), .clo f caps] h (B (sides.all q)) h := by
  have := every_lists (f := f) (caps := caps) (h := h) (p := pOfL q) (xs := sides.map lAV) (fu := f2) (by simpa using hl) (fun x hx => by
    obtain ⟨l, hl, rfl⟩ := List.mem_map.1 hx
    rw [pOfL_eq]
    exact hF l hl)
  have e1 : (sides.map lAV).map (fun x => [x]) = sides.map fL := by rw [List.map_map]; rfl
  have e2 : (sides.map lAV).all (pOfL q) = sides.all q := by
    rw [List.all_map]
    congr 1
    funext a
    exact pOfL_eq a
  rwa [e1, e2] at this
end Go.Pe

/- Forecasts: checked, and turned into a stream. -/
namespace Go.Pe
open Go Go.Proofs Go.Proofs.YtffckclggkjbgaaGreat
attribute [local simp] t3 u3 t4 u4 t5 u5 t22 u22 t23 u23 t25 u25 t27 u27 t28 u28 t30 u30 t32 u32   t37 u37 t43 u43     t50 u50   t75 u75 t77 u77     t94 u94   t102 u102 t117 u117 t119 u119     t130 u130 t134 u134 t138 u138   t155 u155 t156 u156   t172 u172
set_option maxRecDepth 20000
set_option maxHeartbeats 8000000
attribute [local simp] fW_eq fR_eq fS_eq extA fBd_eq fL_eq

def hrs (s : List (List Bd)) : Nat := (s.headD []).length
def lens (s : List (List Bd)) : Bool := s.all fun l => (l.length : Int) == hrs s
def oks (s : List (List Bd)) : Bool := s.all fun l => l.all (vB 0 10000000000)
noncomputable def startE (f : Fc) : Int := if validRv f.r = true then (if f.sides.length = f.r.rs.length then (if hrs f.sides = 0 then 4 else if lens f.sides = true then (if 400 < hrs f.sides then 5 else if oks f.sides = true then 0 else 2) else 4) else 4) else 2
theorem checkForecast_fn {f : Fc} {f1 f2 : Bool} {h : H} (hw : SmallF f) : Fn Tryz.prog 120 [f.r.av f1, sidesAV f.sides f2] h (I (startE f)) h := by
  refine Fn.beside ?_ rfl h
  refine Fn.ofR0 noM (by kernel_rfl) Tryz.func120 rfl (by simp) ?_
  have hn := hw.n
  have hrn := hw.r.n
  simp -dsimp -implicitDefEqProofs
  refine onCall_in (Check_fn hw.r) ?_
  cases hV : validRv f.r with
  | false => simp -dsimp -implicitDefEqProofs [startE, hV]
  | true =>
    simp -dsimp -implicitDefEqProofs
    by_cases h1 : f.sides.length = f.r.rs.length
    rotate_left
    · have n1 : ((f.sides.length : Int) != f.r.rs.length) = true := by simp; omega
      simp -dsimp -implicitDefEqProofs [startE, hV, h1, n1]
    have n1 : ((f.sides.length : Int) != f.r.rs.length) = false := by simp [h1]
    have hpos : 0 < f.sides.length := by
      have := hV
      simp only [validRv, Bool.and_eq_true, inB_iff] at this
      omega
    have hx0 := List.getElem?_eq_getElem hpos
    have hh : f.sides[0].length = hrs f.sides := by simp [hrs, List.headD_eq_head?_getD, List.head?_eq_getElem?, hx0]
    have hc0 := hw.c _ (List.getElem_mem hpos)
    simp -dsimp -implicitDefEqProofs [n1, hx0, hh]
    refine ifB_in (fun h2 => ?_) (fun h2 => ?_)
    · have h2' : hrs f.sides = 0 := by simpa using h2
      simp -dsimp -implicitDefEqProofs [startE, hV, h1, h2']
    have h2' : hrs f.sides ≠ 0 := by simpa using h2
    simp -dsimp -implicitDefEqProofs
    refine onCall_in (lists_fn (fun l => (l.length : Int) == hrs f.sides) (by omega) fun l hl => same1_fn (by simp)) ?_
    have hlens : (f.sides.all fun l => (l.length : Int) == hrs f.sides) = lens f.sides := rfl
    rw [hlens]
    simp -dsimp -implicitDefEqProofs
    refine ifB_in (fun h3 => ?_) (fun h3 => ?_)
    rotate_left
    · simp -dsimp -implicitDefEqProofs [startE, hV, h1, h2', h3]
    simp -dsimp -implicitDefEqProofs
    refine ifD_in (fun h4 => ?_) (fun h4 => ?_)
    · have h4' : 400 < hrs f.sides := by omega
      simp -dsimp -implicitDefEqProofs [startE, hV, h1, h2', h3, h4']
    have h4' : ¬ 400 < hrs f.sides := by omega
    simp -dsimp -implicitDefEqProofs
    refine onCall_in (lists_fn (fun l => l.all (vB 0 10000000000)) (by omega) fun l hl => sides2_fn (by have := hw.c l hl; omega)) ?_
    have hoks : (f.sides.all fun l => l.all (vB 0 10000000000)) = oks f.sides := rfl
    rw [hoks]
    simp -dsimp -implicitDefEqProofs
    refine ifB_in (fun h5 => ?_) (fun h5 => ?_)
    · simp -dsimp -implicitDefEqProofs [startE, hV, h1, h2', h3, h4', h5]
    · simp -dsimp -implicitDefEqProofs [startE, hV, h1, h2', h3, h4', h5]
end Go.Pe
