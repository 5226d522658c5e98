import Derived.Test.YtffckclggkjbgaaGreatY27
set_option linter.unusedVariables false
set_option linter.unusedSimpArgs false
/- How much water a hull displaces: the package's volumes. -/
namespace Go.Pe
open Go Go.Proofs Go.Proofs.YtffckclggkjbgaaGreat
set_option maxRecDepth 20000
set_option maxHeartbeats 8000000
theorem Fn.weak {P : Program} {f : FuncId} {args : List AV} {h h' : H} {x y : AV} (hF : Fn P f args h x h') (hxy : ∀ (c : Cx) (w : World) (D : Nat → Prop) (v : Value), R c w D x v → R c w D y v) : Fn P f args h y h' := by
  refine ⟨hF.1, fun n c D w vs hr hfr hargs => (hF.2 n c D w vs hr hfr hargs).mono ?_⟩
  rintro e w' ⟨v, c', D', rfl, g1, g2, g3, g4⟩
  exact ⟨v, c', D', rfl, hxy _ _ _ _ g1, g2, g3, g4⟩
theorem R_agg_to {c : Cx} {w : World} {D : Nat → Prop} {l l' : List AV} {v : Value} (hl : l'.length = l.length) (hi : ∀ (i : Nat) (x y : AV), l[i]? = some x → l'[i]? = some y → ∀ v, R c w D x v → R c w D y v) (h : R c w D (.agg l) v) : R c w D (.agg l') v := by
  cases h with
  | agg hs h =>
    refine .agg (by omega) fun i y u hy hu => ?_
    have hlt := (List.getElem?_eq_some_iff.1 hy).1
    have hx : l[i]? = some l[i] := List.getElem?_eq_getElem (by omega)
    exact hi i _ y hx hy u (h i _ u hx hu)
theorem R_tup_to {c : Cx} {w : World} {D : Nat → Prop} {l l' : List AV} {v : Value} (hl : l'.length = l.length) (hi : ∀ (i : Nat) (x y : AV), l[i]? = some x → l'[i]? = some y → ∀ v, R c w D x v → R c w D y v) (h : R c w D (.tup l) v) : R c w D (.tup l') v := by
  cases h with
  | tup hs h =>
    refine .tup (by omega) fun i y u hy hu => ?_
    have hlt := (List.getElem?_eq_some_iff.1 hy).1
    have hx : l[i]? = some l[i] := List.getElem?_eq_getElem (by omega)
    exact hi i _ y hx hy u (h i _ u hx hu)
theorem roN_R {c : Cx} {w : World} {D : Nat → Prop} {k : Nat} {rows : List (List AV)} {v : Value} (h : R c w D (roN k rows) v) : R c w D (.ro (isz rows.length) k rows) v := by
  cases rows with
  | nil => cases h; exact .nil
  | cons r l => exact h
theorem own_is {u : Hu} {h : H} (hu : SmallU u) : Fn Tryz.prog 17 [.agg u.cells] h (.agg [I u.a, .ro (isz u.ss.length) 5 (u.ss.map fSec)]) h := by
  refine (own_fn hu).weak fun c w D v hv => ?_
  refine R_agg_to (l := [I u.a, roN 5 (u.ss.map fSec)]) rfl (fun i x y hx hy v hv => ?_) hv
  match i, hx, hy with
  | 0, hx, hy => cases hx; cases hy; exact hv
  | 1, hx, hy =>
    cases hx; cases hy
    have := roN_R hv
    rwa [List.length_map] at this
section
attribute [local simp] ap_skip ap_region ap_seq ap_cond ap_block ap_loop ap_exit ap_ret ap_seq_normal ap_seq_ret ap_seq_exit ap_block_normal ap_block_ret ap_block_exit ap_block_other ap_nil ap_draw ap_dr_nil ap_fin_ret ap_fin_normal ap_loopK dstT_zero dstT_succ Nat.add_assoc onSome_some onSome_none ifB_true ifB_false ifB_not onClo_clo onBool_bool onBool_tup frz_val frz_ro takeAt elemTy LeN_refl LeN_push LeN_set push_get push_next set_get set_next nil_get nil_next pop_move pop_assign pop_pick pop_load pop_fieldAddr pop_indexAddr pop_field pop_binOp pop_unOp pop_convert pop_extract pop_makeFunc pop_nilCheck pop_build pop_slice pop_len pop_max pop_min eop_alloc eop_box eop_store eop_buildSlice eop_makeSlice eop_append as_move as_assign as_pick as_load as_fieldAddr as_indexAddr as_field as_binOp as_unOp as_convert as_extract as_makeFunc as_nilCheck as_build as_slice as_len as_max as_min as_alloc as_box as_store as_buildSlice as_makeSlice as_append as_call cons_free cons_guard putA_some putA_none aev_tmp aev_int aev_bool aev_nil aev_func pickA_and pickA_or pickA_true pickA_false nnA_ptr nnA_rop idxA_some intOf_int boxA_some bin_int binI_add binI_sub binI_mul binI_quo binI_rem binI_eql binI_neq binI_lss binI_leq binI_gtr binI_geq unA_not unA_neg loadA_ptr loadA_rop loadO_some asLoaded_agg asLoaded_one resA_one resA_two resOne_tmp resOne_cell cellsOf_int cellsOf_bool cellsOf_clo cellsOf_ptr cellsOf_ro cellsOf_sl cellsOf_nil cellsOf_agg one_int one_bool one_nil one_clo one_ptr one_ro one_sl one_rop mm_max mm_min elS_sl elS2_sl mkA_some chunk_zero chunk_succ zcells_zero zcells_succ clean_val clean_ro clean_rop clean1_val clean1_ro clean1_rop flat_val flat_ro flat_agg frz_agg frz_tup
attribute [local simp] t3 u3 t4 u4 t5 u5 t22 u22 t23 u23 t25 u25 t27 u27 t28 u28 t30 u30 t32 u32   t37 u37 t43 u43     t50 u50   t75 u75 t77 u77     t94 u94   t102 u102 t117 u117 t119 u119     t130 u130 t134 u134 t138 u138   t155 u155 t156 u156   t172 u172
attribute [local simp] lenA_ro indexA_ro fieldA
attribute [local simp] ts22 us22 ts24 us24 ts72 us72 ts118 us118 ts120 us120 ts25 us25 ts75 us75 ts150 us150 ts224 us224
theorem indexFunc_hrow {f : FuncId} {caps : List AV} {h : H} {p : List AV → Bool} {xs : List (List AV)} {fu : Bool} (hlen : (xs.length : Int) < 2^62) (hk : ∀ r ∈ xs, r.length = 2) (hF : ∀ x ∈ xs, Fn Tryz.prog f ([AV.agg x] ++ caps) h (B (p x)) h) :
    Fn Tryz.prog 140 [.ro fu 2 xs, .clo f caps] h (I (idx p xs)) h := by
  refine Fn.keep noM noC (by kernel_rfl) Tryz.func140 rfl rfl fun _ => ?_
  simp -dsimp -implicitDefEqProofs
  refine LoopC.on (σ := Nat) (fun i j => [.ro fu 2 xs, .clo f caps, j 2, j 3, j 4, j 5, j 6, I xs.length, I i, j 9, j 10, j 11, j 12, j 13, j 14, j 15, j 16, j 17, j 18])
    (fun i k => k = h ∧ i ≤ xs.length ∧ ∀ q, q < i → ∀ x, xs[q]? = some x → p x = false) (fun i => xs.length - i) 0 ⟨rfl, by omega, fun q hq => by omega⟩ (by simp) ?_
  rintro i j h' ⟨rfl, hi, hp⟩
  simp -dsimp -implicitDefEqProofs
  refine ifD_in (fun hlt => ?_) (fun hge => ?_)
  · have hx := List.getElem?_eq_getElem (show i < xs.length by omega)
    have hl := hk _ (List.getElem_mem (show i < xs.length by omega))
    have ht : xs[i].take 2 = xs[i] := List.take_of_length_le (by omega)
    simp -dsimp -implicitDefEqProofs [hx, hl, ht]
    refine onCall_in (hF _ (List.getElem_mem (by omega))) ?_
    simp -dsimp -implicitDefEqProofs
    refine ifB_in (fun hb => ?_) (fun hb => ?_)
    · simp -dsimp -implicitDefEqProofs [idx_hit hx hb hp]
    simp -dsimp -implicitDefEqProofs
    refine ⟨i + 1, ⟨by omega, fun q hq x hqx => ?_⟩, ?_, by omega⟩
    · by_cases hqi : q = i
      · subst hqi; rw [hx] at hqx; cases hqx; simpa using hb
      · exact hp q (by omega) x hqx
    · rw [wrap_in (by omega) (by omega)]; omega
  · simp -dsimp -implicitDefEqProofs
    exact (idx_miss fun q hq => hp q (by omega)).symm
theorem hrow1_fn {p : Pt} {d : Int} {h : H} {b : Nat} (hb : h.get b = some [I d]) : Fn Tryz.prog 141 [.agg (fPt p), .ptr b 0] h (B (decide (d ≤ p.x))) h := by
  refine Fn.keep noM noC (by kernel_rfl) Tryz.func141 rfl rfl fun live => ?_
  have hne : ¬ b = h.next := by have := (live.1 b _ hb).1; omega
  simp -dsimp -implicitDefEqProofs [hb, hne, fPt_eq]
def fD (d : Int) (r : List AV) : Bool := match r with
  | [.val (.int _ a), _] => decide (d ≤ a)
  | _ => false
theorem hrows_fn {l : List Pt} {d : Int} {fu : Bool} {h : H} {b : Nat} (hb : h.get b = some [I d]) (hl : (l.length : Int) < 2^62) : Fn Tryz.prog 140 [.ro fu 2 (l.map fPt), .clo 141 [.ptr b 0]] h (I (idx (fun p => decide (d ≤ p.x)) l)) h := by
  have := indexFunc_hrow (f := 141) (caps := [.ptr b 0]) (h := h) (p := fD d) (xs := l.map fPt) (fu := fu) (by simpa using hl) (by simp [fPt_eq]) (fun r hr => by
    obtain ⟨p, _, rfl⟩ := List.mem_map.1 hr
    exact hrow1_fn hb)
  have e : idx (fD d) (l.map fPt) = idx (fun p => decide (d ≤ p.x)) l := by
    unfold idx
    rw [List.findIdx?_map]
    rfl
  rwa [e] at this
end
attribute [local simp] t3 u3 t4 u4
attribute [local simp] ts22 us22 ts24 us24 ts72 us72 ts118 us118 ts120 us120 ts25 us25 ts75 us75 ts150 us150 ts224 us224 ts142 us142 ts140 us140
attribute [local simp] convA extA lenA
attribute [local simp] fSec_eq fPt_eq
theorem volS_zero {l : List Pt} (hc : hullCv l = true) : volS l 0 = 0 := by
  obtain ⟨h1, ⟨p0, h2, h3, h4⟩, hu, pe, h5, h6, h7⟩ := hullCv_iff.1 hc
  have hl := cv_len hc
  have hb : l[1]? = some l[1] := List.getElem?_eq_getElem (by omega)
  have := up_lt hu (show 0 < 1 by omega) h2 hb
  rw [volS_eq (k := 1) (a := p0) (b := l[1]) ⟨by omega, ⟨l[1], hb, by omega⟩, fun q h1 h2 => by omega⟩ h2 hb]
  simp [segV, h3, h4]
theorem volumeAt_fn {l : List Pt} {d : Int} {fu : Bool} {h : H} (hc : hullCv l = true) (h0 : 0 ≤ d) (hd : d ≤ lastP l) : Fn Tryz.prog 101 [.ro fu 2 (l.map fPt), I d] h (I (volS l d)) h := by
  refine Fn.beside ?_ rfl h
  refine Fn.ofR0 noM (by kernel_rfl) Tryz.func101 rfl (by simp) ?_
  have hl := cv_len hc
  have hlp := lastP_in hc
  refine (Classical.em (d = 0)).elim (fun hz => ?_) (fun hz => ?_)
  · have e := volS_zero hc
    have n1 : (d == 0) = true := by simpa using hz
    rw [hz, e]
    simp -dsimp -implicitDefEqProofs
  have n1 : (d == 0) = false := by simpa using hz
  refine Exists.elim (k_some hc hd) fun k hk => Exists.elim hk fun a hk => Exists.elim hk fun b hk => ?_
  have hK := hk.1
  have hkl := hk.2.1
  have ha := hk.2.2.1
  have hb := hk.2.2.2.1
  have hx := hk.2.2.2.2.1
  have hy := hk.2.2.2.2.2.1
  have hdb := hk.2.2.2.2.2.2.1
  have hda := hk.2.2.2.2.2.2.2 h0
  clear hk
  have ra := cv_row hc ha
  have rb := cv_row hc hb
  have hk1 := hK.1
  have e : idx (fun p => decide (d ≤ p.x)) l = (k : Nat) := by
    refine idx_hit (x := b) hb (by simpa using hdb) fun q hq x hqx => ?_
    by_cases hq0 : q = 0
    · subst hq0
      obtain ⟨h1, ⟨p0, h2, h3, h4⟩, _⟩ := hullCv_iff.1 hc
      rw [h2] at hqx; cases hqx
      simp; omega
    · have := hK.2.2 q (by omega) hq x hqx
      simp; omega
  have hs := volS_eq hK ha hb
  have hv := volS_in hc h0 hd
  rw [hs] at hv
  have w1 : IntKind.i64.wrap ((k : Int) - 1) = ((k - 1 : Nat) : Int) := by rw [wrap_in (by omega) (by omega)]; omega
  have p1 : ((d - a.x) * (b.y - a.y)).natAbs ≤ 1000 * 100000 := mul_in (by omega) (by omega)
  have v1 := wrap_in (n := d - a.x) (by omega) (by omega)
  have v2 := wrap_in (n := b.y - a.y) (by omega) (by omega)
  have v3 := wrap_in (n := (d - a.x) * (b.y - a.y)) (by omega) (by omega)
  have v4 := wrap_in (n := b.x - a.x) (by omega) (by omega)
  have hq : ((d - a.x) * (b.y - a.y)).tdiv (b.x - a.x) = segV a b d - a.y := by unfold segV; omega
  have v5 := wrap_in (n := segV a b d - a.y) (by omega) (by omega)
  have v6 := wrap_in (n := segV a b d) (by omega) (by omega)
  have hn0 : (b.x - a.x = 0) = False := eq_false (by omega)
  have e6 : a.y + (segV a b d - a.y) = segV a b d := by omega
  simp -dsimp -implicitDefEqProofs [n1]
  refine onCall_in (hrows_fn (l := l) (d := d) (b := 0) (by simp) (by omega)) ?_
  simp -dsimp -implicitDefEqProofs [e]
  refine DrawR.on {} (by kernel_rfl) (by simp) ?_
  simp -dsimp -implicitDefEqProofs [w1, ha, hb]
  refine DrawR.on {} (by kernel_rfl) (by simp) ?_
  simp -dsimp -implicitDefEqProofs [v1, v2, v3, v4, hq, v5, v6, hn0, hs, e6]
/-- The cells of a ship, but for its holds. -/
noncomputable def shipC (f1 : Bool) (u : Hu) (ho : AV) : List AV := [I u.a, .ro f1 5 (u.ss.map fSec), I (lim u), I (sumI Sec.b u.ss u.ss.length), I (trU u), I (momI (long u) u.ss u.ss.length), ho]
theorem shipC_eq {f1 : Bool} {u : Hu} {ho : AV} : shipC f1 u ho = [I u.a, .ro f1 5 (u.ss.map fSec), I (lim u), I (sumI Sec.b u.ss u.ss.length), I (trU u), I (momI (long u) u.ss u.ss.length), ho] := rfl
attribute [local simp] shipC_eq
theorem volume_fn {u : Hu} {d : Int} {f1 f2 : Bool} {rows : List (List AV)} {h : H} (o : OkU u) (h0 : 0 ≤ d) (hd : d ≤ lim u) : Fn Tryz.prog 61 [.agg (shipC f1 u (.ro f2 3 rows)), I d] h (I (vol u d)) h := by
  refine Fn.beside ?_ rfl h
  refine Fn.ofR0 noM (by kernel_rfl) Tryz.func61 rfl (by simp) ?_
  have hn := o.n
  simp -dsimp -implicitDefEqProofs
  refine LoopCR.on 24 (fun i => [(1, I d), (5, I (sumI (fun s => volS s.ps d) u.ss i)), (10, .ro f1 5 (u.ss.map fSec)), (11, I (u.ss.length : Nat)), (12, I (i : Nat))]) (fun i => []) (fun i => i ≤ u.ss.length) (fun i => u.ss.length - i) 0 [] (by simp) ?_ ?_
  · simp -dsimp -implicitDefEqProofs [sumI]
  intro i j hi
  simp -dsimp -implicitDefEqProofs
  refine ifD_in (fun hlt => ?_) (fun hge => ?_)
  · refine Exists.elim (show ∃ s, u.ss[i]? = some s from ⟨_, List.getElem?_eq_getElem hlt⟩) fun s hs => ?_
    have hm := List.mem_of_getElem? hs
    have hc := (o.sec s hm).2.2.2.1
    have hdl : d ≤ lastP s.ps := by have := lim_le hm; omega
    have w1 : IntKind.i64.wrap ((i : Int) + 1) = (i : Int) + 1 := wrap_in (by omega) (by omega)
    have hb := sumI_inm (f := fun s => volS s.ps d) (m := 100000) (l := u.ss) (fun s hs => volS_in (o.sec s hs).2.2.2.1 h0 (by have := lim_le hs; omega)) i hi
    have hv := volS_in hc h0 hdl
    have w2 : IntKind.i64.wrap (sumI (fun s => volS s.ps d) u.ss i + volS s.ps d) = sumI (fun s => volS s.ps d) u.ss (i + 1) := by rw [sumI_succ hs]; exact wrap_in (by omega) (by omega)
    simp -dsimp -implicitDefEqProofs [hs]
    refine onCall_in (volumeAt_fn hc h0 hdl) ?_
    simp -dsimp -implicitDefEqProofs [w1, w2]
    refine again_in (i + 1) [] (by omega) (by omega) ?_
    simp -dsimp -implicitDefEqProofs
  · have hin : i = u.ss.length := by omega
    simp -dsimp -implicitDefEqProofs [hin, vol]
end Go.Pe

/- The ship of a hull. -/
namespace Go.Pe
open Go Go.Proofs Go.Proofs.YtffckclggkjbgaaGreat
set_option maxRecDepth 20000
set_option maxHeartbeats 8000000
def frzL (h : H) (N : Nat) : List AV → List AV → Prop
  | [], [] => True
  | x :: l, y :: l' => (∃ k, frz k h N x = some y) ∧ frzL h N l l'
  | _, _ => False
theorem frzL_mapM {h : H} {N : Nat} : ∀ {l l' : List AV}, frzL h N l l' → ∃ k, ∀ K, k ≤ K → l.mapM (frz K h N) = some l'
  | [], [], _ => ⟨0, fun _ _ => rfl⟩
  | x :: l, y :: l', ⟨⟨k, h1⟩, h2⟩ => by
    obtain ⟨k', h2⟩ := frzL_mapM h2
    refine ⟨k + k', fun K hK => ?_⟩
    rw [List.mapM_cons, frz_le (show k ≤ K by omega) h1, h2 K (by omega)]; first | rfl | simp
  | [], _ :: _, h => h.elim
  | _ :: _, [], h => h.elim
theorem frz_aggL {h : H} {N : Nat} {l l' : List AV} (hl : frzL h N l l') : ∃ k, frz k h N (.agg l) = some (.agg l') := by
  obtain ⟨k, hk⟩ := frzL_mapM hl
  exact ⟨k + 1, by rw [frz, hk k (Nat.le_refl _)]; first | done | rfl⟩
attribute [local simp] t3 u3 t4 u4
attribute [local simp] ts22 us22 ts24 us24 ts72 us72 ts118 us118 ts120 us120 ts25 us25 ts75 us75 ts150 us150 ts224 us224 ts142 us142 ts140 us140 ts196 us196 ts34 us34
attribute [local simp] convA extA lenA
attribute [local simp] fSec_eq fPt_eq
noncomputable def fHd (L : Int) (q : Pt × Pt) : List AV := [I q.1.x, I q.1.y, I (2 * q.2.x - L)]
theorem fHd_eq {L : Int} {q : Pt × Pt} : fHd L q = [I q.1.x, I q.1.y, I (2 * q.2.x - L)] := rfl
def hdU (u : Hu) : List (Pt × Pt) := hdI u.ss u.ss.length
def foreI (L : Int) (l : List Sec) (i : Nat) : Int := 2 * sumI Sec.a l i - L
/-- The cells of a ship that is none. -/
noncomputable def shipNo : List AV := [I 0, .val (.slice none 0 0), I 0, I 0, I 0, I 0, .val (.slice none 0 0)]
theorem shipNo_eq : shipNo = [I 0, .val (.slice none 0 0), I 0, I 0, I 0, I 0, .val (.slice none 0 0)] := rfl
attribute [local simp] shipNo_eq shipC_eq fHd_eq
theorem newShip_bad {u : Hu} {f1 : Bool} {h : H} (hu : SmallU u) (hb : hullOk u = false) : Fn Tryz.prog 59 [.agg [I u.a, .ro f1 5 (u.ss.map fSec)]] h (.tup [.agg shipNo, I 2]) h := by
  refine Fn.beside ?_ rfl h
  refine Fn.ofR0 noM (by kernel_rfl) Tryz.func59 rfl (by simp) ?_
  have hc : Fn Tryz.prog 19 [.agg [I u.a, .ro f1 5 (u.ss.map fSec)]] .nil (I 2) .nil := by have := check_fn (f1 := f1) (h := .nil) hu; rwa [hb] at this
  simp -dsimp -implicitDefEqProofs
  refine onCall_in (hc.beside rfl _) ?_
  simp -dsimp -implicitDefEqProofs
theorem newShip_fn {u : Hu} {f1 : Bool} {h : H} (hu : SmallU u) (hb : hullOk u = true) : Fn Tryz.prog 59 [.agg [I u.a, .ro f1 5 (u.ss.map fSec)]] h (.tup [.agg (shipC f1 u (.ro (isz (hdU u).length) 3 ((hdU u).map (fHd (long u))))), I 0]) h := by
  have o := okU hb
  have hn := o.n
  have hL := long_in o
  refine Fn.weak (x := .tup [.agg (shipC f1 u (roN 3 ((hdU u).map (fHd (long u))))), I 0]) ?_ (fun c w D v hv => ?_)
  rotate_left
  · refine R_tup_to (l := [.agg (shipC f1 u (roN 3 ((hdU u).map (fHd (long u))))), I 0]) rfl (fun i x y hx hy v hv => ?_) hv
    match i, hx, hy with
    | 0, hx, hy =>
      cases hx; cases hy
      refine R_agg_to (l := shipC f1 u (roN 3 ((hdU u).map (fHd (long u))))) rfl (fun i x y hx hy v hv => ?_) hv
      match i, hx, hy with
      | 0, hx, hy => cases hx; cases hy; exact hv
      | 1, hx, hy => cases hx; cases hy; exact hv
      | 2, hx, hy => cases hx; cases hy; exact hv
      | 3, hx, hy => cases hx; cases hy; exact hv
      | 4, hx, hy => cases hx; cases hy; exact hv
      | 5, hx, hy => cases hx; cases hy; exact hv
      | 6, hx, hy =>
        cases hx; cases hy
        have := roN_R hv
        rwa [List.length_map] at this
    | 1, hx, hy => cases hx; cases hy; exact hv
  refine Fn.beside ?_ rfl h
  refine Fn.ofR0 (butM []) (by kernel_rfl) Tryz.func59 rfl (by simp) ?_
  have hc : Fn Tryz.prog 19 [.agg [I u.a, .ro f1 5 (u.ss.map fSec)]] .nil (I 0) .nil := by have := check_fn (f1 := f1) (h := .nil) hu; rwa [hb] at this
  have hsa : ∀ s ∈ u.ss, 0 ≤ s.a ∧ s.a ≤ 1000 := fun s hs => by have := o.sec s hs; omega
  have e0 : IntKind.i64.wrap (-long u) = foreI (long u) u.ss 0 := by rw [wrap_in (by omega) (by omega)]; simp [foreI, sumI]
  have hlen : Fn Tryz.prog 97 [.ro f1 5 (u.ss.map fSec)] .nil (I (long u)) .nil := hullLen_fn (by omega) hsa
  simp -dsimp -implicitDefEqProofs
  refine onCall_in (hc.beside rfl _) ?_
  simp -dsimp -implicitDefEqProofs
  refine onCall_in (hlen.beside rfl _) ?_
  simp -dsimp -implicitDefEqProofs [e0]
  refine LoopCR.on 93 (fun i => [(2, .ptr 0 0), (5, .ptr 1 0), (6, I (foreI (long u) u.ss i)), (24, .ro f1 5 (u.ss.map fSec)), (25, I (u.ss.length : Nat)), (26, I (i : Nat))])
    (fun i => [some shipNo, some [I u.a, .ro f1 5 (u.ss.map fSec), I (limI u.ss i), I (sumI Sec.b u.ss i), I (sumI Sec.c u.ss i), I (momI (long u) u.ss i), growN 2 3 (hdI u.ss i).length], grown (hdI u.ss i).length (rws (fHd (long u)) (hdI u.ss i))])
    (fun i => i ≤ u.ss.length) (fun i => u.ss.length - i) 0 [1, 2, 99] (by simp) ?_ ?_
  · simp -dsimp -implicitDefEqProofs [limI, sumI, momI, hdI]
  intro i j hi
  simp -dsimp -implicitDefEqProofs
  refine ifD_in (fun hlt => ?_) (fun hge => ?_)
  · refine Exists.elim (show ∃ s, u.ss[i]? = some s from ⟨_, List.getElem?_eq_getElem hlt⟩) fun s hs => ?_
    have hm := List.mem_of_getElem? hs
    have os := o.sec s hm
    have hps := cv_len os.2.2.2.1
    refine Exists.elim (show ∃ m, s.ps.length = m + 1 from ⟨s.ps.length - 1, by omega⟩) fun m hm2 => ?_
    refine Exists.elim (show ∃ p, s.ps[m]? = some p from ⟨_, List.getElem?_eq_getElem (by omega)⟩) fun p hp2 => ?_
    have w1 : IntKind.i64.wrap ((i : Int) + 1) = (i : Int) + 1 := wrap_in (by omega) (by omega)
    have w2 : IntKind.i64.wrap ((s.ps.length : Int) - 1) = (m : Int) := by rw [wrap_in (by omega) (by omega)]; omega
    have w3 : min (limI u.ss i) p.x = limI u.ss (i + 1) := by rw [limI_succ hs]; unfold lastX; rw [show s.ps.length - 1 = m by omega, hp2]
    have ha := sumI_inm (f := Sec.a) (m := 100) (l := u.ss) (fun s hs => by have := o.sec s hs; omega) i hi
    have hb := sumI_inm (f := Sec.b) (m := 10000) (l := u.ss) (fun s hs => by have := o.sec s hs; omega) i hi
    have hcc := sumI_inm (f := Sec.c) (m := 100000) (l := u.ss) (fun s hs => by have := o.sec s hs; omega) i hi
    have hmm := momI_in o i hi
    have w4 : IntKind.i64.wrap (sumI Sec.b u.ss i + s.b) = sumI Sec.b u.ss (i + 1) := by rw [sumI_succ hs]; exact wrap_in (by omega) (by omega)
    have w5 : IntKind.i64.wrap (sumI Sec.c u.ss i + s.c) = sumI Sec.c u.ss (i + 1) := by rw [sumI_succ hs]; exact wrap_in (by omega) (by omega)
    have hf : foreI (long u) u.ss i = 2 * sumI Sec.a u.ss i - long u := rfl
    have w6 : IntKind.i64.wrap (foreI (long u) u.ss i + s.a) = 2 * sumI Sec.a u.ss i + s.a - long u := by rw [wrap_in (by omega) (by omega)]; omega
    have p1 : (s.b * (2 * sumI Sec.a u.ss i + s.a - long u)).natAbs ≤ 10000 * 2000 := mul_in (by omega) (by omega)
    have w7 := wrap_in (n := s.b * (2 * sumI Sec.a u.ss i + s.a - long u)) (by omega) (by omega)
    have w8 : IntKind.i64.wrap (momI (long u) u.ss i + s.b * (2 * sumI Sec.a u.ss i + s.a - long u)) = momI (long u) u.ss (i + 1) := by rw [momI_succ hs]; exact wrap_in (by omega) (by omega)
    have w9 := wrap_in (n := 2 * s.a) (by omega) (by omega)
    have w10 : IntKind.i64.wrap (foreI (long u) u.ss i + 2 * s.a) = foreI (long u) u.ss (i + 1) := by rw [wrap_in (by omega) (by omega)]; simp only [foreI, sumI_succ hs]; omega
    have hqs := (hu.p s hm).2
    have hdl := hdI_len (l := u.ss) i hi
    have hdl2 := sumI_inm (f := fun s => (s.qs.length : Int)) (m := 8) (l := u.ss) (fun s hs => by have := hu.p s hs; omega) i hi
    refine Exists.elim (show ∃ T : Nat → List (Pt × Pt), T = fun k => hdI u.ss i ++ (s.qs.take k).map (fun q => (q, moved (sumI Sec.a u.ss i) q)) from ⟨_, rfl⟩) fun T hT => ?_
    have hT0 : T 0 = hdI u.ss i := by rw [hT]; simp
    have hTe : T s.qs.length = hdI u.ss (i + 1) := by rw [hT, hdI_succ hs]; simp
    have hTl : ∀ k, k ≤ s.qs.length → (T k).length ≤ 100 := fun k hk => by rw [hT]; simp only [List.length_append, List.length_map, List.length_take]; omega
    have hTs : ∀ (k : Nat) (q : Pt), s.qs[k]? = some q → T (k + 1) = T k ++ [(q, moved (sumI Sec.a u.ss i) q)] := fun k q hk => by rw [hT]; simp only; rw [List.take_add_one, hk]; simp
    simp -dsimp -implicitDefEqProofs [hs]
    refine DrawR.on { M := [1], see := [(1, 1)], eff := [(13, [1])] } (by kernel_rfl) (by simp) ?_
    simp -dsimp -implicitDefEqProofs [w2, hp2, w3, w4, w5, w6, w7, w8]
    refine LoopCR.on 93 (fun k => [(2, .ptr 0 0), (5, .ptr 1 0), (6, I (foreI (long u) u.ss i)), (8, .ptr 3 0), (24, .ro f1 5 (u.ss.map fSec)), (25, I (u.ss.length : Nat)), (26, I (i : Nat)), (67, .ro false 2 (s.qs.map fPt)), (68, I (s.qs.length : Nat)), (69, I (k : Nat))])
      (fun k => [some shipNo, some [I u.a, .ro f1 5 (u.ss.map fSec), I (limI u.ss (i + 1)), I (sumI Sec.b u.ss (i + 1)), I (sumI Sec.c u.ss (i + 1)), I (momI (long u) u.ss (i + 1)), growN 2 3 (T k).length], grown (T k).length (rws (fHd (long u)) (T k)), some (fSec s)])
      (fun k => k ≤ s.qs.length) (fun k => s.qs.length - k) 0 [0, 1, 2, 3] (by simp) ?_ ?_
    · simp -dsimp -implicitDefEqProofs [hT0]
    intro k jk hk
    simp -dsimp -implicitDefEqProofs
    refine ifD_in (fun hkl => ?_) (fun hkg => ?_)
    · refine Exists.elim (show ∃ q, s.qs[k]? = some q from ⟨_, List.getElem?_eq_getElem hkl⟩) fun q hq2 => ?_
      have hqx := os.2.2.2.2 q (List.mem_of_getElem? hq2)
      have wk : IntKind.i64.wrap ((k : Int) + 1) = (k : Int) + 1 := wrap_in (by omega) (by omega)
      have wq := wrap_in (n := 2 * q.x) (by omega) (by omega)
      have wr : IntKind.i64.wrap (foreI (long u) u.ss i + 2 * q.x) = 2 * (sumI Sec.a u.ss i + q.x) - long u := by rw [wrap_in (by omega) (by omega)]; omega
      have hTk := hTl k hk
      have hst := hTs k q hq2
      have hTn : (T (k + 1)).length = (T k).length + 1 := by rw [hst]; simp
      simp -dsimp -implicitDefEqProofs [hq2, wq, wr]
      refine on_appendN (fHd (long u)) (T k) (q, moved (sumI Sec.a u.ss i) q) (by simp) rfl (show ((T k).length + 1) * 24 ≤ 70368744177664 by omega) (by omega) rfl rfl (by simp) rfl (fun _ => rfl) ?_ (by simp)
      simp -dsimp -implicitDefEqProofs [wk]
      refine again_in (k + 1) [0, 1, 5, 3] (by omega) (by omega) ?_
      simp -dsimp -implicitDefEqProofs [hst]
    · have hke : k = s.qs.length := by omega
      simp -dsimp -implicitDefEqProofs [w1, w9, w10]
      refine again_in (i + 1) [0, 1, 2] (by omega) (by omega) ?_
      simp -dsimp -implicitDefEqProofs [hke, hTe]
  · have hin : i = u.ss.length := by omega
    simp -dsimp -implicitDefEqProofs [hin]
    refine frz_tup_two (frz_aggL ⟨frz_one rfl, frz_one rfl, frz_one rfl, frz_one rfl, frz_one rfl, frz_one rfl, ?_, trivial⟩) (frz_one rfl)
    refine (Nat.eq_zero_or_pos (hdI u.ss u.ss.length).length).elim (fun h0 => ?_) (fun h0 => ?_)
    · rw [h0]
      exact ⟨1, by simp [roN, hdU, h0, growN_zero, frz]⟩
    · have e : roN 3 ((hdU u).map (fHd (long u))) = .ro false 3 ((hdU u).map (fHd (long u))) := by unfold roN; rw [if_neg (by rw [List.length_map]; unfold hdU; omega)]
      rw [e]
      exact frz_rwsN (f := fHd (long u)) (l := hdU u) (by simp [mkH, hdU]) (Nat.zero_le _) rfl (by omega) (fun _ => rfl) (fun _ => rfl)
end Go.Pe

/- How deep a ship lies. -/
namespace Go.Pe
open Go Go.Proofs Go.Proofs.YtffckclggkjbgaaGreat
set_option maxRecDepth 20000
set_option maxHeartbeats 8000000
section
attribute [local simp] ap_skip ap_region ap_seq ap_cond ap_block ap_loop ap_exit ap_ret ap_seq_normal ap_seq_ret ap_seq_exit ap_block_normal ap_block_ret ap_block_exit ap_block_other ap_nil ap_draw ap_dr_nil ap_fin_ret ap_fin_normal ap_loopK dstT_zero dstT_succ Nat.add_assoc onSome_some onSome_none ifB_true ifB_false ifB_not onClo_clo onBool_bool onBool_tup frz_val frz_ro takeAt elemTy LeN_refl LeN_push LeN_set push_get push_next set_get set_next nil_get nil_next pop_move pop_assign pop_pick pop_load pop_fieldAddr pop_indexAddr pop_field pop_binOp pop_unOp pop_convert pop_extract pop_makeFunc pop_nilCheck pop_build pop_slice pop_len pop_max pop_min eop_alloc eop_box eop_store eop_buildSlice eop_makeSlice eop_append as_move as_assign as_pick as_load as_fieldAddr as_indexAddr as_field as_binOp as_unOp as_convert as_extract as_makeFunc as_nilCheck as_build as_slice as_len as_max as_min as_alloc as_box as_store as_buildSlice as_makeSlice as_append as_call cons_free cons_guard putA_some putA_none aev_tmp aev_int aev_bool aev_nil aev_func pickA_and pickA_or pickA_true pickA_false nnA_ptr nnA_rop idxA_some intOf_int boxA_some bin_int binI_add binI_sub binI_mul binI_quo binI_rem binI_eql binI_neq binI_lss binI_leq binI_gtr binI_geq unA_not unA_neg loadA_ptr loadA_rop loadO_some asLoaded_agg asLoaded_one resA_one resA_two resOne_tmp resOne_cell cellsOf_int cellsOf_bool cellsOf_clo cellsOf_ptr cellsOf_ro cellsOf_sl cellsOf_nil cellsOf_agg one_int one_bool one_nil one_clo one_ptr one_ro one_sl one_rop mm_max mm_min elS_sl elS2_sl mkA_some chunk_zero chunk_succ zcells_zero zcells_succ clean_val clean_ro clean_rop clean1_val clean1_ro clean1_rop flat_val flat_ro flat_agg frz_agg frz_tup
attribute [local simp] t3 u3 t4 u4 t5 u5 t22 u22 t23 u23 t25 u25 t27 u27 t28 u28 t30 u30 t32 u32   t37 u37 t43 u43     t50 u50   t75 u75 t77 u77     t94 u94   t102 u102 t117 u117 t119 u119     t130 u130 t134 u134 t138 u138   t155 u155 t156 u156   t172 u172
attribute [local simp] lenA_ro indexA_ro fieldA convA
attribute [local simp] ts198 us198 ts249 us249
theorem shr1 {a : Nat} : ((a : Nat) : Int).fdiv (2 ^ min (Int.toNat 1) IntKind.u64.bits) = ((a / 2 : Nat) : Int) := by
  rw [show (2 : Int) ^ min (Int.toNat 1) IntKind.u64.bits = 2 from rfl, Int.fdiv_eq_ediv_of_nonneg _ (by omega)]
  omega
theorem search_fn {f : FuncId} {caps : List AV} {h : H} {P : Nat → Bool} {n : Nat} (hn : n < 2^62) (hF : ∀ i : Nat, i < n → Fn Tryz.prog f ([I (i : Nat)] ++ caps) h (B (P i)) h) (hm : ∀ i j, i ≤ j → j < n → P i = true → P j = true) :
    Fn Tryz.prog 142 [I (n : Nat), .clo f caps] h (I (firstN P n : Nat)) h := by
  refine Fn.keep noM noC (by kernel_rfl) Tryz.func142 rfl rfl fun _ => ?_
  simp -dsimp -implicitDefEqProofs
  refine LoopC.on (σ := Nat × Nat) (fun s j => [I (n : Nat), .clo f caps, j 2, j 3, j 4, I (s.1 : Nat), I (s.2 : Nat), j 7, j 8, j 9, j 10, j 11, j 12, j 13, j 14, j 15, j 16, j 17, j 18, j 19, j 20, j 21, j 22, j 23, j 24, j 25])
    (fun s k => k = h ∧ s.1 ≤ s.2 ∧ s.2 ≤ n ∧ (∀ q, q < s.1 → P q = false) ∧ (s.2 < n → P s.2 = true)) (fun s => s.2 - s.1) (0, n) ⟨rfl, by omega, by omega, fun q hq => by omega, fun h => by omega⟩ (by simp) ?_
  rintro ⟨lo, hi⟩ j h' ⟨rfl, h1, h2, h3, h4⟩
  simp only at h1 h2 h3 h4
  simp -dsimp -implicitDefEqProofs
  refine ifD_in (fun hlt => ?_) (fun hge => ?_)
  · have hmid : (lo + hi) / 2 < hi := by omega
    have w1 : IntKind.i64.wrap ((lo : Int) + hi) = (lo : Int) + hi := wrap_in (by omega) (by omega)
    have w2 : IntKind.u64.wrap ((lo : Int) + hi) = (lo : Int) + hi := by
      simp only [IntKind.wrap, IntKind.bits, IntKind.signed, Bool.false_and, Bool.false_eq_true, if_false]
      omega
    have w3 : IntKind.i64.wrap (((lo + hi) / 2 : Nat) : Int) = (((lo + hi) / 2 : Nat) : Int) := wrap_in (by omega) (by omega)
    have w4 : IntKind.i64.wrap ((((lo + hi) / 2 : Nat) : Int) + 1) = (((lo + hi) / 2 + 1 : Nat) : Int) := by rw [wrap_in (by omega) (by omega)]; omega
    have hs := shr1 (a := lo + hi)
    rw [Int.natCast_add] at hs
    have hs : binI .shr .u64 ((lo : Int) + hi) 1 = some (.val (.int .u64 (((lo + hi) / 2 : Nat) : Int))) := by simp only [binI]; rw [if_neg (by omega), hs]
    have hc := hF ((lo + hi) / 2) (by omega)
    refine Exists.elim (show ∃ m, m = (lo + hi) / 2 from ⟨_, rfl⟩) fun m hme => ?_
    rw [← hme] at w3 w4 hs hc
    have w4 : IntKind.i64.wrap ((m : Int) + 1) = (m : Int) + 1 := wrap_in (by omega) (by omega)
    have hmn : m < hi ∧ lo ≤ m := by omega
    simp -dsimp -implicitDefEqProofs [w1, w2, w3, hs]
    refine onCall_in hc ?_
    simp -dsimp -implicitDefEqProofs
    refine ifB_in (fun hb => ?_) (fun hb => ?_)
    · simp -dsimp -implicitDefEqProofs
      refine ⟨lo, m, ⟨by omega, by omega, h3, fun _ => hb⟩, ⟨rfl, rfl⟩, ?_⟩; omega
    · simp -dsimp -implicitDefEqProofs [w4]
      refine ⟨m + 1, hi, ⟨by omega, by omega, fun q hq => by
        by_cases hqm : P q = true
        · have := hm q m (by omega) (by omega) hqm; rw [this] at hb; exact absurd hb (by simp)
        · exact Bool.eq_false_iff.2 hqm, h4⟩, ⟨rfl, rfl⟩, ?_⟩; omega
  · have e : firstN P n = lo := firstN_eq ⟨by omega, h3, fun hk => by have := h4 (by omega); rwa [show hi = lo by omega] at this⟩
    simp -dsimp -implicitDefEqProofs [e]
end
end Go.Pe
