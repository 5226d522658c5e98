import Derived.Test.YtffckclggkjbgaaGreatY32
set_option linter.unusedVariables false
set_option linter.unusedSimpArgs false
/- A shoal, by the length of its river. -/
namespace Go.Pe
open Go Go.Proofs Go.Proofs.YtffckclggkjbgaaGreat
attribute [local simp] ap_skip ap_region ap_seq ap_cond ap_block ap_loop ap_exit ap_ret ap_seq_normal ap_seq_ret ap_seq_exit ap_block_normal ap_block_ret ap_block_exit ap_block_other ap_nil ap_draw ap_dr_nil ap_fin_ret ap_fin_normal ap_loopK dstT_zero dstT_succ Nat.add_assoc onSome_some onSome_none ifB_true ifB_false ifB_not onClo_clo onBool_bool onBool_tup frz_val frz_ro takeAt elemTy LeN_refl LeN_push LeN_set push_get push_next set_get set_next nil_get nil_next pop_move pop_assign pop_pick pop_load pop_fieldAddr pop_indexAddr pop_field pop_binOp pop_unOp pop_convert pop_extract pop_makeFunc pop_nilCheck pop_build pop_slice pop_len pop_max pop_min eop_alloc eop_box eop_store eop_buildSlice eop_makeSlice eop_append as_move as_assign as_pick as_load as_fieldAddr as_indexAddr as_field as_binOp as_unOp as_convert as_extract as_makeFunc as_nilCheck as_build as_slice as_len as_max as_min as_alloc as_box as_store as_buildSlice as_makeSlice as_append as_call cons_free cons_guard putA_some putA_none aev_tmp aev_int aev_bool aev_nil aev_func pickA_and pickA_or pickA_true pickA_false nnA_ptr nnA_rop idxA_some intOf_int boxA_some bin_int binI_add binI_sub binI_mul binI_quo binI_rem binI_eql binI_neq binI_lss binI_leq binI_gtr binI_geq unA_not unA_neg loadA_ptr loadA_rop loadO_some asLoaded_agg asLoaded_one resA_one resA_two resOne_tmp resOne_cell cellsOf_int cellsOf_bool cellsOf_clo cellsOf_ptr cellsOf_ro cellsOf_sl cellsOf_nil cellsOf_agg one_int one_bool one_nil one_clo one_ptr one_ro one_sl one_rop mm_max mm_min elS_sl elS2_sl mkA_some chunk_zero chunk_succ zcells_zero zcells_succ clean_val clean_ro clean_rop clean1_val clean1_ro clean1_rop flat_val flat_ro flat_agg frz_agg frz_tup
attribute [local simp] t3 u3 t4 u4 t5 u5 t22 u22 t23 u23 t25 u25 t27 u27 t28 u28 t30 u30 t32 u32   t37 u37 t43 u43     t50 u50   t75 u75 t77 u77     t94 u94   t102 u102 t117 u117 t119 u119     t130 u130 t134 u134 t138 u138   t155 u155 t156 u156   t172 u172
attribute [local simp] lenA_ro indexA_ro fieldA
set_option maxRecDepth 20000

theorem check1_fn {s : Sh} {len : Int} {h : H} {b : Nat} (hb : h.get b = some [I len]) (hl : len.natAbs ≤ 1000000000000) : Fn Tryz.prog 180 [.agg (fS s), .ptr b 0] h (B (validSh len s)) h := by
  refine Fn.keep noM noC (by kernel_rfl) Tryz.func180 rfl rfl fun live => ?_
  have hne : ¬ b = h.next := by have := (live.1 b _ hb).1; omega
  simp -dsimp -implicitDefEqProofs [hb, hne, fS_eq]
  refine onCall_in (validShoal_fn (s := s) hl) ?_
  simp -dsimp -implicitDefEqProofs
open Classical in
/-- A truth about what lies in a row, said of the row. -/
noncomputable def pOfR {α : Type} (f : α → List AV) (q : α → Bool) (x : List AV) : Bool := if h : ∃ a, f a = x then q h.choose else false
theorem pOfR_eq {α : Type} {f : α → List AV} {q : α → Bool} (hf : ∀ a b, f a = f b → a = b) (a : α) : pOfR f q (f a) = q a := by
  have h : ∃ b, f b = f a := ⟨a, rfl⟩
  unfold pOfR
  rw [dif_pos h, hf _ _ h.choose_spec]
theorem all_pOfR {α : Type} {f : α → List AV} {q : α → Bool} (hf : ∀ a b, f a = f b → a = b) (l : List α) : (l.map f).all (pOfR f q) = l.all q := by
  rw [List.all_map]
  congr 1
  funext a
  exact pOfR_eq hf a
theorem fW_inj (a b : Rw) (h : fW a = fW b) : a = b := by
  cases a; cases b; simp [fW] at h; simp [h]
theorem map_inj {α β : Type} {f : α → β} (hf : ∀ a b, f a = f b → a = b) : ∀ (l m : List α), l.map f = m.map f → l = m
  | [], [], _ => rfl
  | [], _ :: _, h => by simp at h
  | _ :: _, [], h => by simp at h
  | a :: l, b :: m, h => by
    simp only [List.map_cons, List.cons.injEq] at h
    rw [hf a b h.1, map_inj hf l m h.2]
theorem fR_inj (a b : Rc) (h : fR a = fR b) : a = b := by
  obtain ⟨a1, a2, ⟨a3, a4⟩, a5, a6, ⟨a7, a8⟩, a9⟩ := a
  obtain ⟨b1, b2, ⟨b3, b4⟩, b5, b6, ⟨b7, b8⟩, b9⟩ := b
  simp [fR] at h
  obtain ⟨h1, h2, h3, h4, h5, h6, h7, h8, h9⟩ := h
  have h5' : a5 = b5 := by
    refine map_inj fW_inj _ _ ?_
    first | exact h5 | (rw [List.map_inj_left] at *; exact h5) | simpa using h5
  rw [h1, h2, h3, h4, h5', h6, h7, h8, h9]
theorem fS_inj (a b : Sh) (h : fS a = fS b) : a = b := by
  obtain ⟨a1, ⟨a3, a4⟩, a5, ⟨a7, a8⟩⟩ := a
  obtain ⟨b1, ⟨b3, b4⟩, b5, ⟨b7, b8⟩⟩ := b
  simp [fS] at h
  obtain ⟨h1, h2, h3, h4, h5, h6⟩ := h
  rw [h1, h2, h3, h4, h5, h6]
theorem reaches_fn {l : List Rc} {fu : Bool} {h : H} (hl : (l.length : Int) < 2^62) (hc : ∀ r ∈ l, (r.curve.length : Int) < 2^62) : Fn Tryz.prog 177 [.ro fu 9 (l.map fR), .clo 130 []] h (B (l.all validR)) h := by
  have := every_reach (f := 130) (caps := []) (h := h) (p := pOfR fR validR) (xs := l.map fR) (fu := fu) (by simpa using hl) (by simp [fR_eq]) (by simp [fR_eq, one_int, one_ro]) (fun x hx => by
    obtain ⟨r, hr, rfl⟩ := List.mem_map.1 hx
    rw [pOfR_eq fR_inj]
    exact validReach_fn (hc r hr))
  rwa [all_pOfR fR_inj] at this
theorem shoals_fn {l : List Sh} {len : Int} {b : Nat} {h : H} (hl : (l.length : Int) < 2^62) (hb : h.get b = some [I len]) (hbn : b < h.next) (hlen : len.natAbs ≤ 1000000000000) : Fn Tryz.prog 179 [.ro false 6 (l.map fS), .clo 180 [.ptr b 0]] h (B (l.all (validSh len))) h := by
  have := every_shoal (f := 180) (caps := [.ptr b 0]) (h := h) (p := pOfR fS (validSh len)) (xs := l.map fS) (fu := false) (by simpa using hl) (by simp [fS_eq]) (by simp [fS_eq, one_int]) (fun x hx => by
    obtain ⟨s, hs, rfl⟩ := List.mem_map.1 hx
    rw [pOfR_eq fS_inj]
    refine check1_fn ?_ hlen
    have e1 : b ≠ h.next + 1 := by omega
    have e2 : b ≠ h.next := by omega
    simp [e1, e2, hb])
  rwa [all_pOfR fS_inj] at this
end Go.Pe

/- Rivers: checked, copied, compared. -/
namespace Go.Pe
open Go Go.Proofs Go.Proofs.YtffckclggkjbgaaGreat
attribute [local simp] t3 u3 t4 u4 t5 u5 t22 u22 t23 u23 t25 u25 t27 u27 t28 u28 t30 u30 t32 u32   t37 u37 t43 u43     t50 u50   t75 u75 t77 u77     t94 u94   t102 u102 t117 u117 t119 u119     t130 u130 t134 u134 t138 u138   t155 u155 t156 u156   t172 u172
set_option maxRecDepth 20000
set_option maxHeartbeats 8000000
attribute [local simp] fW_eq fR_eq fS_eq extA

structure Small (r : Rv) : Prop where
  n : r.rs.length ≤ 25
  m : r.ss.length ≤ 50
  c : ∀ x ∈ r.rs, x.curve.length ≤ 40
open Classical in
noncomputable def validRv (r : Rv) : Bool := inB 1 20 r.rs.length && (decide (r.ss.length ≤ 40) && (r.rs.all validR && r.ss.all (validSh (lenSum r.rs))))
theorem lens_of {r : Rv} (h : r.rs.all validR = true) : ∀ x ∈ r.rs, x.len.natAbs ≤ 1000000 := fun x hx => by
  have := (validR_parts ((List.all_eq_true.1 h) x hx)).1
  omega
theorem lens_sum {r : Rv} (hw : Small r) (h : ∀ x ∈ r.rs, x.len.natAbs ≤ 1000000) : (lenSum r.rs).natAbs ≤ 25000000 := by
  have := lenSum_in h r.rs.length (Nat.le_refl _)
  rw [List.take_length] at this
  have := hw.n
  omega

theorem Check_fn {r : Rv} {fu : Bool} {h : H} (hw : Small r) : Fn Tryz.prog 155 [r.av fu] h (I (if validRv r = true then 0 else 2)) h := by
  refine Fn.beside ?_ rfl h
  refine Fn.ofR0 noM (by kernel_rfl) Tryz.func155 rfl (by simp) ?_
  have hn := hw.n
  have hm := hw.m
  simp -dsimp -implicitDefEqProofs
  refine onCall_in in1_fn ?_
  simp -dsimp -implicitDefEqProofs
  refine ifB_in (fun h1 => ?_) (fun h1 => ?_)
  rotate_left
  · simp -dsimp -implicitDefEqProofs [validRv, h1]
  simp -dsimp -implicitDefEqProofs
  refine ifD_in (fun h2 => ?_) (fun h2 => ?_)
  · have h2' : decide (r.ss.length ≤ 40) = false := decide_eq_false (by omega)
    simp -dsimp -implicitDefEqProofs [validRv, h2']
  have h2' : decide (r.ss.length ≤ 40) = true := decide_eq_true (by omega)
  simp -dsimp -implicitDefEqProofs
  refine onCall_in (reaches_fn (by omega) (fun x hx => by have := hw.c x hx; omega)) ?_
  simp -dsimp -implicitDefEqProofs
  refine ifB_in (fun h3 => ?_) (fun h3 => ?_)
  rotate_left
  · simp -dsimp -implicitDefEqProofs [validRv, h3]
  have hls := lens_of h3
  have hsum := lens_sum hw hls
  simp -dsimp -implicitDefEqProofs
  refine onCall_in (lengthOf_fn (r := r) (by omega) hls) ?_
  simp -dsimp -implicitDefEqProofs
  refine onCall_in (shoals_fn (b := 1) (len := lenSum r.rs) (by omega) (by simp) (by simp) (by omega)) ?_
  simp -dsimp -implicitDefEqProofs
  refine ifB_in (fun h4 => ?_) (fun h4 => ?_)
  rotate_left
  · simp -dsimp -implicitDefEqProofs [validRv, h4]
  simp -dsimp -implicitDefEqProofs [validRv, h1, h2', h3, h4]

theorem rRiver_fn {r : Rv} {fu : Bool} {h : H} (hw : Small r) : Fn Tryz.prog 115 [r.av fu] h (B (validRv r)) h := by
  refine Fn.beside ?_ rfl h
  refine Fn.ofR0 noM (by kernel_rfl) Tryz.func115 rfl (by simp) ?_
  have hn := hw.n
  have hm := hw.m
  simp -dsimp -implicitDefEqProofs
  refine onCall_in In2_fn ?_
  simp -dsimp -implicitDefEqProofs
  refine ifB_in (fun h1 => ?_) (fun h1 => ?_)
  rotate_left
  · simp -dsimp -implicitDefEqProofs [validRv, h1]
  simp -dsimp -implicitDefEqProofs
  refine ifD_in (fun h2 => ?_) (fun h2 => ?_)
  · have h2' : decide (r.ss.length ≤ 40) = false := decide_eq_false (by omega)
    simp -dsimp -implicitDefEqProofs [validRv, h2']
  have h2' : decide (r.ss.length ≤ 40) = true := decide_eq_true (by omega)
  simp -dsimp -implicitDefEqProofs
  refine LoopCR.on 68 (fun i => [(1, .ptr 0 0), (3, I (i : Nat))]) (fun i => [some [r.reaches fu, r.shoals]]) (fun i => i ≤ r.rs.length ∧ (r.rs.take i).all validR = true) (fun i => r.rs.length - i) 0 [0] (by simp) ?_ ?_
  · simp -dsimp -implicitDefEqProofs
  rintro i j ⟨hi, hal⟩
  simp -dsimp -implicitDefEqProofs
  refine ifD_in (fun hlt => ?_) (fun hge => ?_)
  · have hlt' : i < r.rs.length := by omega
    have hx := List.getElem?_eq_getElem hlt'
    have hst : (r.rs.take (i + 1)).all validR = ((r.rs.take i).all validR && validR r.rs[i]) := by rw [List.take_add_one, hx]; simp only [Option.toList_some, List.all_append, List.all_cons, List.all_nil, Bool.and_true]
    have hcx := hw.c _ (List.getElem_mem hlt')
    have hbad : validR r.rs[i] = false → r.rs.all validR = false := fun hb => by
      cases ha : r.rs.all validR with
      | false => rfl
      | true => have := (List.all_eq_true.1 ha) _ (List.getElem_mem hlt'); rw [hb] at this; cases this
    simp -dsimp -implicitDefEqProofs [hx]
    refine onCall_in (rReach_fn (r := r.rs[i]) (by omega)) ?_
    simp -dsimp -implicitDefEqProofs
    refine ifB_in (fun h3 => ?_) (fun h3 => ?_)
    rotate_left
    · have := hbad h3
      simp -dsimp -implicitDefEqProofs [validRv, this]
    simp -dsimp -implicitDefEqProofs
    have hal2 : (r.rs.take (i + 1)).all validR = true := by rw [hst, hal, h3]; rfl
    refine again_in (i + 1) [0] ⟨by omega, hal2⟩ (by omega) ?_
    simp -dsimp -implicitDefEqProofs
    rw [wrap_in (by omega) (by omega)]
  have hin : i = r.rs.length := by omega
  subst hin
  rw [List.take_length] at hal
  have hls := lens_of hal
  have hsum := lens_sum hw hls
  have w1 := wrap_in (n := lenSum r.rs - 1) (by omega) (by omega)
  simp -dsimp -implicitDefEqProofs
  refine LoopCR.on 68 (fun i => [(1, .ptr 0 0), (4, I (i : Nat))]) (fun i => [some [r.reaches fu, r.shoals]]) (fun i => i ≤ r.ss.length ∧ (r.ss.take i).all (validSh (lenSum r.rs)) = true) (fun i => r.ss.length - i) 0 [0] (by simp) ?_ ?_
  · simp -dsimp -implicitDefEqProofs
  rintro i j ⟨hi, hal2⟩
  simp -dsimp -implicitDefEqProofs
  refine ifD_in (fun hlt => ?_) (fun hge => ?_)
  · have hlt' : i < r.ss.length := by omega
    have hx := List.getElem?_eq_getElem hlt'
    have hst : (r.ss.take (i + 1)).all (validSh (lenSum r.rs)) = ((r.ss.take i).all (validSh (lenSum r.rs)) && validSh (lenSum r.rs) r.ss[i]) := by rw [List.take_add_one, hx]; simp only [Option.toList_some, List.all_append, List.all_cons, List.all_nil, Bool.and_true]
    have hbad : validSh (lenSum r.rs) r.ss[i] = false → validRv r = false := fun hb => by
      have : r.ss.all (validSh (lenSum r.rs)) = false := by
        cases ha : r.ss.all (validSh (lenSum r.rs)) with
        | false => rfl
        | true => have := (List.all_eq_true.1 ha) _ (List.getElem_mem hlt'); rw [hb] at this; cases this
      simp [validRv, this]
    simp -dsimp -implicitDefEqProofs [hx]
    refine DrawR.on {} (by kernel_rfl) (by simp) ?_
    simp -dsimp -implicitDefEqProofs
    refine onCallQ_in (Places_fn (r := r) (by omega) hls) ?_
    simp -dsimp -implicitDefEqProofs [w1]
    refine onCallQ_in In2_fn ?_
    simp -dsimp -implicitDefEqProofs
    refine ifB_in (fun h3 => ?_) (fun h3 => ?_)
    rotate_left
    · have := hbad (by simp [validSh, h3])
      simp -dsimp -implicitDefEqProofs [this]
    simp -dsimp -implicitDefEqProofs
    refine onCallQ_in Valid2_fn ?_
    simp -dsimp -implicitDefEqProofs
    refine ifB_in (fun h4 => ?_) (fun h4 => ?_)
    rotate_left
    · have := hbad (by simp [validSh, h4])
      simp -dsimp -implicitDefEqProofs [this]
    simp -dsimp -implicitDefEqProofs
    refine onCallQ_in In2_fn ?_
    simp -dsimp -implicitDefEqProofs
    refine ifB_in (fun h5 => ?_) (fun h5 => ?_)
    rotate_left
    · have := hbad (by simp [validSh, h5])
      simp -dsimp -implicitDefEqProofs [this]
    simp -dsimp -implicitDefEqProofs
    refine onCallQ_in Valid2_fn ?_
    simp -dsimp -implicitDefEqProofs
    refine ifB_in (fun h6 => ?_) (fun h6 => ?_)
    rotate_left
    · have := hbad (by simp [validSh, h6])
      simp -dsimp -implicitDefEqProofs [this]
    simp -dsimp -implicitDefEqProofs
    have hal3 : (r.ss.take (i + 1)).all (validSh (lenSum r.rs)) = true := by rw [hst, hal2]; simp [validSh, h3, h4, h5, h6]
    refine again_in (i + 1) [0] ⟨by omega, hal3⟩ (by omega) ?_
    simp -dsimp -implicitDefEqProofs
    rw [wrap_in (by omega) (by omega)]
  have hin : i = r.ss.length := by omega
  subst hin
  rw [List.take_length] at hal2
  simp -dsimp -implicitDefEqProofs [validRv, h1, h2', hal, hal2]
end Go.Pe

/- Rivers: how large, copied, compared. -/
namespace Go.Pe
open Go Go.Proofs Go.Proofs.YtffckclggkjbgaaGreat
attribute [local simp] t3 u3 t4 u4 t5 u5 t22 u22 t23 u23 t25 u25 t27 u27 t28 u28 t30 u30 t32 u32   t37 u37 t43 u43     t50 u50   t75 u75 t77 u77     t94 u94   t102 u102 t117 u117 t119 u119     t130 u130 t134 u134 t138 u138   t155 u155 t156 u156   t172 u172
set_option maxRecDepth 20000
set_option maxHeartbeats 8000000
attribute [local simp] fW_eq fR_eq fS_eq extA

/-- A forecast: lists of bounds. -/
noncomputable def fBd (b : Bd) : List AV := [I b.lo, I b.hi]
noncomputable def fL (l : List Bd) : List AV := [.ro false 2 (l.map fBd)]
structure Fc where
  r : Rv
  sides : List (List Bd)
noncomputable abbrev sidesAV (l : List (List Bd)) (fu : Bool) : AV := .ro fu 1 (l.map fL)
theorem fBd_eq {b : Bd} : fBd b = [I b.lo, I b.hi] := rfl
theorem fL_eq {l : List Bd} : fL l = [.ro false 2 (l.map fBd)] := rfl
attribute [local simp] fBd_eq fL_eq
/-- What the statements look at. -/
structure SmallF (f : Fc) : Prop where
  r : Small f.r
  n : f.sides.length ≤ 25
  c : ∀ l ∈ f.sides, l.length ≤ 450
theorem lenA_nil {e : TypeId} {s by' : Nat} {z : List Value} {a f' cm : Bool} : lenA { kind := .sl e, size := s, zero := z, agg := a, bytes := by', fok := f', cmp := cm } (.val (.slice none 0 0)) = some (.val (.int .i64 0)) := rfl
attribute [local simp] lenA_nil
open Classical in
noncomputable def big (f : Fc) : Bool := decide (¬ SmallF f)
theorem big_of {f : Fc} (h : ¬ SmallF f) : big f = true := by simp [big, h]
theorem big_not {f : Fc} (h : SmallF f) : big f = false := by simp [big, h]
theorem small_of {f : Fc} (h : big f = false) : SmallF f := by simpa [big] using h

/-- A river and one that has the same in it. -/
theorem neq27 {a b a' b' : Int} {k : TK} {s : Nat} {z : List Value} {a1 f : Bool} {by' : Nat} : binX Tryz.prog 27 { kind := k, size := s, zero := z, agg := a1, bytes := by', fok := f, cmp := true } .neq (.agg [I a, I b]) (.agg [I a', I b']) = some (B (!(a == a' && (b == b' && true)))) := by kernel_rfl
theorem neq119 {a b a' b' : Int} {k : TK} {s : Nat} {z : List Value} {a1 f : Bool} {by' : Nat} : binX Tryz.prog 174 { kind := k, size := s, zero := z, agg := a1, bytes := by', fok := f, cmp := true } .neq (.agg [I a, I b]) (.agg [I a', I b']) = some (B (!(a == a' && (b == b' && true)))) := by kernel_rfl
theorem neq102 {a b c d e f a' b' c' d' e' f' : Int} {k : TK} {s : Nat} {z : List Value} {a1 f1 : Bool} {by' : Nat} : binX Tryz.prog 115 { kind := k, size := s, zero := z, agg := a1, bytes := by', fok := f1, cmp := true } .neq (.agg [I a, I b, I c, I d, I e, I f]) (.agg [I a', I b', I c', I d', I e', I f']) = some (B (!(a == a' && ((b == b' && (c == c' && true)) && (d == d' && ((e == e' && (f == f' && true)) && true)))))) := by kernel_rfl
attribute [local simp] neq27 neq119 neq102
end Go.Pe
