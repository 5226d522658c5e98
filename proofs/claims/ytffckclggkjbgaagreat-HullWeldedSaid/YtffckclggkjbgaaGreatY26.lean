import Derived.Test.YtffckclggkjbgaaGreatY25
set_option linter.unusedVariables false
set_option linter.unusedSimpArgs false
/- Valid holds, sections. -/
namespace Go.Pe
open Go Go.Proofs Go.Proofs.YtffckclggkjbgaaGreat
set_option maxRecDepth 20000
set_option maxHeartbeats 8000000
section
attribute [local simp] ap_skip ap_region ap_seq ap_cond ap_block ap_loop ap_exit ap_ret ap_seq_normal ap_seq_ret ap_seq_exit ap_block_normal ap_block_ret ap_block_exit ap_block_other ap_nil ap_draw ap_dr_nil ap_fin_ret ap_fin_normal ap_loopK dstT_zero dstT_succ Nat.add_assoc onSome_some onSome_none ifB_true ifB_false ifB_not onClo_clo onBool_bool onBool_tup frz_val frz_ro takeAt elemTy LeN_refl LeN_push LeN_set push_get push_next set_get set_next nil_get nil_next pop_move pop_assign pop_pick pop_load pop_fieldAddr pop_indexAddr pop_field pop_binOp pop_unOp pop_convert pop_extract pop_makeFunc pop_nilCheck pop_build pop_slice pop_len pop_max pop_min eop_alloc eop_box eop_store eop_buildSlice eop_makeSlice eop_append as_move as_assign as_pick as_load as_fieldAddr as_indexAddr as_field as_binOp as_unOp as_convert as_extract as_makeFunc as_nilCheck as_build as_slice as_len as_max as_min as_alloc as_box as_store as_buildSlice as_makeSlice as_append as_call cons_free cons_guard putA_some putA_none aev_tmp aev_int aev_bool aev_nil aev_func pickA_and pickA_or pickA_true pickA_false nnA_ptr nnA_rop idxA_some intOf_int boxA_some bin_int binI_add binI_sub binI_mul binI_quo binI_rem binI_eql binI_neq binI_lss binI_leq binI_gtr binI_geq unA_not unA_neg loadA_ptr loadA_rop loadO_some asLoaded_agg asLoaded_one resA_one resA_two resOne_tmp resOne_cell cellsOf_int cellsOf_bool cellsOf_clo cellsOf_ptr cellsOf_ro cellsOf_sl cellsOf_nil cellsOf_agg one_int one_bool one_nil one_clo one_ptr one_ro one_sl one_rop mm_max mm_min elS_sl elS2_sl mkA_some chunk_zero chunk_succ zcells_zero zcells_succ clean_val clean_ro clean_rop clean1_val clean1_ro clean1_rop flat_val flat_ro flat_agg frz_agg frz_tup
attribute [local simp] t3 u3 t4 u4 t5 u5 t22 u22 t23 u23 t25 u25 t27 u27 t28 u28 t30 u30 t32 u32   t37 u37 t43 u43     t50 u50   t75 u75 t77 u77     t94 u94   t102 u102 t117 u117 t119 u119     t130 u130 t134 u134 t138 u138   t155 u155 t156 u156   t172 u172
attribute [local simp] lenA_ro indexA_ro fieldA
attribute [local simp] ts22 us22 ts24 us24 ts72 us72 ts118 us118 ts120 us120 ts25 us25 ts75 us75 ts150 us150 ts152 us152 ts222 us222
attribute [local simp] fldA partA buildA fillA storeA buildSliceA
def holdOk (len : Int) (p : Pt) : Bool := inB 0 len p.x && inB 0 20 p.y
theorem hold1_fn {s : Sec} {p : Pt} {h : H} {b : Nat} (hb : h.get b = some (fSec s)) : Fn Tryz.prog 137 [.agg (fPt p), .ptr b 0] h (B (holdOk s.a p)) h := by
  refine Fn.keep noM noC (by kernel_rfl) Tryz.func137 rfl rfl fun live => ?_
  have hne : ¬ b = h.next := by have := (live.1 b _ hb).1; omega
  simp -dsimp -implicitDefEqProofs [hb, hne, fPt_eq, fSec_eq]
  refine onCall_in vin1_fn ?_
  simp -dsimp -implicitDefEqProofs
  refine ifB_in (fun h1 => ?_) (fun h1 => ?_)
  · simp -dsimp -implicitDefEqProofs [hb, hne, fPt_eq, fSec_eq]
    refine onCall_in vin1_fn ?_
    simp -dsimp -implicitDefEqProofs [holdOk, h1]
  · simp -dsimp -implicitDefEqProofs [holdOk, h1]
open Classical in
/-- A truth about what lies in a row, said of the row. -/
noncomputable def qOf {α : Type} (f : α → List AV) (q : α → Bool) (x : List AV) : Bool := if h : ∃ a, f a = x then q h.choose else false
theorem qOf_eq {α : Type} {f : α → List AV} {q : α → Bool} (hf : ∀ a b, f a = f b → a = b) (a : α) : qOf f q (f a) = q a := by
  have h : ∃ b, f b = f a := ⟨a, rfl⟩
  unfold qOf
  rw [dif_pos h, hf _ _ h.choose_spec]
theorem all_qOf {α : Type} {f : α → List AV} {q : α → Bool} (hf : ∀ a b, f a = f b → a = b) (l : List α) : (l.map f).all (qOf f q) = l.all q := by
  rw [List.all_map]
  congr 1
  funext a
  exact qOf_eq hf a
theorem fPt_inj (a b : Pt) (h : fPt a = fPt b) : a = b := by
  cases a; cases b; simp [fPt] at h; simp [h]
theorem map_inj' {α β : Type} {f : α → β} (hf : ∀ a b, f a = f b → a = b) : ∀ (l m : List α), l.map f = m.map f → l = m
  | [], [], _ => rfl
  | [], _ :: _, h => by simp at h
  | _ :: _, [], h => by simp at h
  | a :: l, b :: m, h => by
    simp only [List.map_cons, List.cons.injEq] at h
    rw [hf a b h.1, map_inj' hf l m h.2]
theorem fSec_inj (a b : Sec) (h : fSec a = fSec b) : a = b := by
  obtain ⟨a1, a2, a3, a4, a5⟩ := a
  obtain ⟨b1, b2, b3, b4, b5⟩ := b
  simp only [fSec, List.cons.injEq, AV.val.injEq, Value.int.injEq, AV.ro.injEq, true_and, and_true] at h
  obtain ⟨h1, h2, h3, h4, h5⟩ := h
  rw [h1, h2, h3, map_inj' fPt_inj _ _ h4, map_inj' fPt_inj _ _ h5]
theorem holds_fn {s : Sec} {b : Nat} {h : H} (hl : (s.qs.length : Int) < 2^62) (hb : h.get b = some (fSec s)) (hbn : b < h.next) : Fn Tryz.prog 136 [.ro false 2 (s.qs.map fPt), .clo 137 [.ptr b 0]] h (B (s.qs.all (holdOk s.a))) h := by
  have := every_hold (f := 137) (caps := [.ptr b 0]) (h := h) (p := qOf fPt (holdOk s.a)) (xs := s.qs.map fPt) (fu := false) (by simpa using hl) (by simp [fPt_eq]) (by simp [fPt_eq, one_int]) (fun x hx => by
    obtain ⟨p, hp, rfl⟩ := List.mem_map.1 hx
    rw [qOf_eq fPt_inj]
    refine hold1_fn ?_
    have e1 : b ≠ h.next + 1 := by omega
    have e2 : b ≠ h.next := by omega
    simp [e1, e2, hb])
  rwa [all_qOf fPt_inj] at this
noncomputable def secOk (s : Sec) : Bool := inB 1 100 s.a && (inB 0 10000 s.b && (inB 1 100000 s.c && (hullCv s.ps && s.qs.all (holdOk s.a))))
theorem section_fn {s : Sec} {h : H} (hp : (s.ps.length : Int) < 2^62) (hq : (s.qs.length : Int) < 2^62) : Fn Tryz.prog 96 [.agg (fSec s)] h (B (secOk s)) h := by
  refine Fn.keep noM noC (by kernel_rfl) Tryz.func96 rfl rfl fun live => ?_
  simp -dsimp -implicitDefEqProofs [fSec_eq]
  refine onCall_in vin1_fn ?_
  simp -dsimp -implicitDefEqProofs
  refine ifB_in (fun h1 => ?_) (fun h1 => ?_)
  · simp -dsimp -implicitDefEqProofs
    refine onCall_in vin1_fn ?_
    simp -dsimp -implicitDefEqProofs
    refine ifB_in (fun h2 => ?_) (fun h2 => ?_)
    · simp -dsimp -implicitDefEqProofs
      refine onCall_in vin1_fn ?_
      simp -dsimp -implicitDefEqProofs
      refine ifB_in (fun h3 => ?_) (fun h3 => ?_)
      · simp -dsimp -implicitDefEqProofs
        refine onCall_in (hullCurve_fn hp) ?_
        simp -dsimp -implicitDefEqProofs
        refine ifB_in (fun h4 => ?_) (fun h4 => ?_)
        · simp -dsimp -implicitDefEqProofs
          refine onCall_in (holds_fn (s := s) hq (by simp [fSec_eq]) (by simp)) ?_
          simp -dsimp -implicitDefEqProofs [secOk, h1, h2, h3, h4]
        · simp -dsimp -implicitDefEqProofs [secOk, h1, h2, h3, h4]
      · simp -dsimp -implicitDefEqProofs [secOk, h1, h2, h3]
    · simp -dsimp -implicitDefEqProofs [secOk, h1, h2]
  · simp -dsimp -implicitDefEqProofs [secOk, h1]
end
end Go.Pe

/- Valid hulls. -/
namespace Go.Pe
open Go Go.Proofs Go.Proofs.YtffckclggkjbgaaGreat
set_option maxRecDepth 20000
set_option maxHeartbeats 8000000
section
attribute [local simp] ap_skip ap_region ap_seq ap_cond ap_block ap_loop ap_exit ap_ret ap_seq_normal ap_seq_ret ap_seq_exit ap_block_normal ap_block_ret ap_block_exit ap_block_other ap_nil ap_draw ap_dr_nil ap_fin_ret ap_fin_normal ap_loopK dstT_zero dstT_succ Nat.add_assoc onSome_some onSome_none ifB_true ifB_false ifB_not onClo_clo onBool_bool onBool_tup frz_val frz_ro takeAt elemTy LeN_refl LeN_push LeN_set push_get push_next set_get set_next nil_get nil_next pop_move pop_assign pop_pick pop_load pop_fieldAddr pop_indexAddr pop_field pop_binOp pop_unOp pop_convert pop_extract pop_makeFunc pop_nilCheck pop_build pop_slice pop_len pop_max pop_min eop_alloc eop_box eop_store eop_buildSlice eop_makeSlice eop_append as_move as_assign as_pick as_load as_fieldAddr as_indexAddr as_field as_binOp as_unOp as_convert as_extract as_makeFunc as_nilCheck as_build as_slice as_len as_max as_min as_alloc as_box as_store as_buildSlice as_makeSlice as_append as_call cons_free cons_guard putA_some putA_none aev_tmp aev_int aev_bool aev_nil aev_func pickA_and pickA_or pickA_true pickA_false nnA_ptr nnA_rop idxA_some intOf_int boxA_some bin_int binI_add binI_sub binI_mul binI_quo binI_rem binI_eql binI_neq binI_lss binI_leq binI_gtr binI_geq unA_not unA_neg loadA_ptr loadA_rop loadO_some asLoaded_agg asLoaded_one resA_one resA_two resOne_tmp resOne_cell cellsOf_int cellsOf_bool cellsOf_clo cellsOf_ptr cellsOf_ro cellsOf_sl cellsOf_nil cellsOf_agg one_int one_bool one_nil one_clo one_ptr one_ro one_sl one_rop mm_max mm_min elS_sl elS2_sl mkA_some chunk_zero chunk_succ zcells_zero zcells_succ clean_val clean_ro clean_rop clean1_val clean1_ro clean1_rop flat_val flat_ro flat_agg frz_agg frz_tup
attribute [local simp] t3 u3 t4 u4 t5 u5 t22 u22 t23 u23 t25 u25 t27 u27 t28 u28 t30 u30 t32 u32   t37 u37 t43 u43     t50 u50   t75 u75 t77 u77     t94 u94   t102 u102 t117 u117 t119 u119     t130 u130 t134 u134 t138 u138   t155 u155 t156 u156   t172 u172
attribute [local simp] lenA_ro indexA_ro fieldA
attribute [local simp] ts22 us22 ts24 us24 ts72 us72 ts118 us118 ts120 us120 ts25 us25 ts75 us75 ts150 us150 ts152 us152 ts222 us222
attribute [local simp] fldA partA buildA fillA storeA buildSliceA
theorem sections_fn {l : List Sec} {fu : Bool} {h : H} (hl : (l.length : Int) < 2^62) (hc : ∀ s ∈ l, s.ps.length ≤ 25 ∧ s.qs.length ≤ 8) : Fn Tryz.prog 95 [.ro fu 5 (l.map fSec), .clo 96 []] h (B (l.all secOk)) h := by
  have := every_sec (f := 96) (caps := []) (h := h) (p := qOf fSec secOk) (xs := l.map fSec) (fu := fu) (by simpa using hl) (by simp [fSec_eq]) (by simp [fSec_eq, one_int, one_ro]) (fun x hx => by
    obtain ⟨s, hs, rfl⟩ := List.mem_map.1 hx
    rw [qOf_eq fSec_inj]
    have := hc s hs
    exact section_fn (by omega) (by omega))
  rwa [all_qOf fSec_inj] at this
noncomputable def hullOk (u : Hu) : Bool := inB 1 1000 u.a && (inB 1 6 u.ss.length && (u.ss.all secOk && (decide (sumI Sec.a u.ss u.ss.length ≤ 200) && decide (sumI (fun s => (s.qs.length : Int)) u.ss u.ss.length ≤ 4))))
theorem validHull_fn {u : Hu} {f1 : Bool} {h : H} (hu : SmallU u) : Fn Tryz.prog 58 [.agg [I u.a, .ro f1 5 (u.ss.map fSec)]] h (B (hullOk u)) h := by
  have hn := hu.n
  refine Fn.keep noM noC (by kernel_rfl) Tryz.func58 rfl rfl fun live => ?_
  simp -dsimp -implicitDefEqProofs
  refine onCall_in vin1_fn ?_
  simp -dsimp -implicitDefEqProofs
  refine ifB_in (fun h1 => ?_) (fun h1 => ?_)
  · simp -dsimp -implicitDefEqProofs
    refine onCall_in vin1_fn ?_
    simp -dsimp -implicitDefEqProofs
    refine ifB_in (fun h2 => ?_) (fun h2 => ?_)
    · simp -dsimp -implicitDefEqProofs
      refine onCall_in (sections_fn (by omega) hu.p) ?_
      simp -dsimp -implicitDefEqProofs
      refine ifB_in (fun h3 => ?_) (fun h3 => ?_)
      · have hs : ∀ s ∈ u.ss, 0 ≤ s.a ∧ s.a ≤ 1000 := fun s hs => by
          have := List.all_eq_true.1 h3 s hs
          simp only [secOk, Bool.and_eq_true] at this
          have := inB_iff.1 this.1
          omega
        simp -dsimp -implicitDefEqProofs
        refine onCall_in (hullLen_fn hn hs) ?_
        refine (Classical.em (sumI Sec.a u.ss u.ss.length ≤ 200)).elim (fun h4 => ?_) (fun h4 => ?_)
        · simp -dsimp -implicitDefEqProofs [h4]
          refine onCall_in (hullHolds_fn hn (fun s hs => by have := hu.p s hs; omega)) ?_
          simp -dsimp -implicitDefEqProofs [hullOk, h1, h2, h3, h4]
        · simp -dsimp -implicitDefEqProofs [hullOk, h1, h2, h3, h4]
      · simp -dsimp -implicitDefEqProofs [hullOk, h1, h2, h3]
    · simp -dsimp -implicitDefEqProofs [hullOk, h1, h2]
  · simp -dsimp -implicitDefEqProofs [hullOk, h1]
theorem check_fn {u : Hu} {f1 : Bool} {h : H} (hu : SmallU u) : Fn Tryz.prog 19 [.agg [I u.a, .ro f1 5 (u.ss.map fSec)]] h (I (if hullOk u then 0 else 2)) h := by
  refine Fn.keep noM noC (by kernel_rfl) Tryz.func19 rfl rfl fun live => ?_
  simp -dsimp -implicitDefEqProofs
  refine onCall_in (validHull_fn hu) ?_
  cases h1 : hullOk u <;> simp -dsimp -implicitDefEqProofs
end
end Go.Pe

/- How deep a hull may lie. -/
namespace Go.Pe
open Go Go.Proofs Go.Proofs.YtffckclggkjbgaaGreat
attribute [local simp] t3 u3 t4 u4
attribute [local simp] ts22 us22 ts24 us24 ts72 us72 ts118 us118 ts120 us120 ts25 us25 ts75 us75 ts150 us150
attribute [local simp] convA extA lenA
set_option maxRecDepth 20000
set_option maxHeartbeats 8000000
attribute [local simp] fSec_eq fPt_eq
def lastX (s : Sec) : Int := match s.ps[s.ps.length - 1]? with
  | some p => p.x
  | none => 0
def limI (l : List Sec) : Nat → Int
  | 0 => 1000
  | i + 1 => match l[i]? with
    | some s => min (limI l i) (lastX s)
    | none => limI l i
theorem limI_succ {l : List Sec} {i : Nat} {s : Sec} (h : l[i]? = some s) : limI l (i + 1) = min (limI l i) (lastX s) := by simp [limI, h]
theorem rLimit_fn {u : Hu} {f1 : Bool} {h : H} (hn : u.ss.length ≤ 10) (hp : ∀ s ∈ u.ss, 0 < s.ps.length ∧ s.ps.length ≤ 25) : Fn Tryz.prog 25 [.agg [I u.a, .ro f1 5 (u.ss.map fSec)]] h (I (limI u.ss u.ss.length)) h := by
  refine Fn.beside ?_ rfl h
  refine Fn.ofR0 noM (by kernel_rfl) Tryz.func25 rfl (by simp) ?_
  simp -dsimp -implicitDefEqProofs
  refine LoopCR.on 29 (fun i => [(1, .ptr 0 0), (3, I (limI u.ss i)), (4, I (i : Nat))]) (fun i => [some [I u.a, .ro f1 5 (u.ss.map fSec)]]) (fun i => i ≤ u.ss.length) (fun i => u.ss.length - i) 0 [0] (by simp) ?_ ?_
  · simp -dsimp -implicitDefEqProofs [limI]
  intro i j hi
  simp -dsimp -implicitDefEqProofs
  refine ifD_in (fun hlt => ?_) (fun hge => ?_)
  · refine Exists.elim (show ∃ s, u.ss[i]? = some s from ⟨_, List.getElem?_eq_getElem hlt⟩) fun s hs => ?_
    have hps := hp s (List.mem_of_getElem? hs)
    refine Exists.elim (show ∃ m, s.ps.length = m + 1 from ⟨s.ps.length - 1, by omega⟩) fun m hm => ?_
    refine Exists.elim (show ∃ p, s.ps[m]? = some p from ⟨_, List.getElem?_eq_getElem (by omega)⟩) fun p hp2 => ?_
    have w1 : IntKind.i64.wrap ((i : Int) + 1) = (i : Int) + 1 := wrap_in (by omega) (by omega)
    have w2 : IntKind.i64.wrap ((s.ps.length : Int) - 1) = (m : Int) := by rw [wrap_in (by omega) (by omega)]; omega
    have hl : min (limI u.ss i) p.x = limI u.ss (i + 1) := by rw [limI_succ hs]; unfold lastX; rw [show s.ps.length - 1 = m by omega, hp2]
    simp -dsimp -implicitDefEqProofs [hs, w1, w2, hp2, hl]
    refine again_in (i + 1) [0] (by omega) (by omega) ?_
    simp -dsimp -implicitDefEqProofs
  · have hin : i = u.ss.length := by omega
    simp -dsimp -implicitDefEqProofs [hin]
theorem rLength_fn {u : Hu} {f1 : Bool} {h : H} (hn : u.ss.length ≤ 10) (hl : ∀ s ∈ u.ss, 0 ≤ s.a ∧ s.a ≤ 1000) : Fn Tryz.prog 67 [.agg [I u.a, .ro f1 5 (u.ss.map fSec)]] h (I (sumI Sec.a u.ss u.ss.length)) h := by
  refine Fn.beside ?_ rfl h
  refine Fn.ofR0 noM (by kernel_rfl) Tryz.func67 rfl (by simp) ?_
  simp -dsimp -implicitDefEqProofs
  refine LoopCR.on 21 (fun i => [(1, .ptr 0 0), (3, I (sumI Sec.a u.ss i)), (4, I (i : Nat))]) (fun i => [some [I u.a, .ro f1 5 (u.ss.map fSec)]]) (fun i => i ≤ u.ss.length) (fun i => u.ss.length - i) 0 [0] (by simp) ?_ ?_
  · simp -dsimp -implicitDefEqProofs [sumI]
  intro i j hi
  simp -dsimp -implicitDefEqProofs
  refine ifD_in (fun hlt => ?_) (fun hge => ?_)
  · refine Exists.elim (show ∃ s, u.ss[i]? = some s from ⟨_, List.getElem?_eq_getElem hlt⟩) fun s hs => ?_
    have w1 : IntKind.i64.wrap ((i : Int) + 1) = (i : Int) + 1 := wrap_in (by omega) (by omega)
    have hb := sumI_in (f := Sec.a) hl i hi
    have hs1 := hl s (List.mem_of_getElem? hs)
    have w2 : IntKind.i64.wrap (sumI Sec.a u.ss i + s.a) = sumI Sec.a u.ss (i + 1) := by rw [sumI_succ hs]; exact wrap_in (by omega) (by omega)
    simp -dsimp -implicitDefEqProofs [hs, w1, w2]
    refine again_in (i + 1) [0] (by omega) (by omega) ?_
    simp -dsimp -implicitDefEqProofs
  · have hin : i = u.ss.length := by omega
    simp -dsimp -implicitDefEqProofs [hin]
end Go.Pe
