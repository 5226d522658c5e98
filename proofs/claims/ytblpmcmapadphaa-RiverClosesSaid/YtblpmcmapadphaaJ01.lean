import Derived.Test.YtblpmcmapadphaaI02
import Derived.Test.YtblpmcmapadphaaI01
set_option linter.unusedVariables false
set_option linter.unusedSimpArgs false
/- Closures: what a valid one is, and when it closes a place. -/
namespace Go.Pe
open Go Go.Proofs Go.Proofs.Ytblpmcmapadphaa
set_option maxRecDepth 20000
set_option maxHeartbeats 8000000
attribute [local simp] fC_eq
theorem fC_inj (a b : Cz) (h : fC a = fC b) : a = b := by
  obtain ⟨a1, a2, ⟨a3, a4⟩, ⟨a5, a6⟩⟩ := a
  obtain ⟨b1, b2, ⟨b3, b4⟩, ⟨b5, b6⟩⟩ := b
  simp [fC] at h
  obtain ⟨h1, h2, h3, h4, h5, h6⟩ := h
  rw [h1, h2, h3, h4, h5, h6]
def validCz (len : Int) (c : Cz) : Bool := (inB 0 (len - 1) c.from' && inB 0 (len - 1) c.to') && (decide (c.from' ≤ c.to') && (vB (-400) 800 c.beg && vB (-400) 800 c.fin))
def closesB (c : Cz) (p k b e : Int) : Bool := inB c.from' c.to' p && (decide (b ≤ k) && decide (k < e))
theorem validClosure_fn {c : Cz} {len : Int} {h : H} (hl : len.natAbs ≤ 1000000000000) : Fn Try.prog 86 [.agg (fC c), I len] h (B (validCz len c)) h := by
  refine Fn.beside ?_ rfl h
  refine Fn.ofR0 noM (by kernel_rfl) Try.func86 rfl (by simp) ?_
  have w1 := wrap_in (n := len - 1) (by omega) (by omega)
  simp -dsimp -implicitDefEqProofs [w1]
  refine onCall_in in2_fn ?_
  simp -dsimp -implicitDefEqProofs
  refine ifB_in (fun h1 => ?_) (fun h1 => ?_)
  rotate_left
  · simp -dsimp -implicitDefEqProofs [validCz, h1]
  simp -dsimp -implicitDefEqProofs
  refine ifD_in (fun h2 => ?_) (fun h2 => ?_)
  rotate_left
  · have h2' : decide (c.from' ≤ c.to') = false := decide_eq_false h2
    simp -dsimp -implicitDefEqProofs [validCz, h2']
  have h2' : decide (c.from' ≤ c.to') = true := decide_eq_true h2
  simp -dsimp -implicitDefEqProofs
  refine onCall_in v_fn ?_
  simp -dsimp -implicitDefEqProofs
  refine ifB_in (fun h3 => ?_) (fun h3 => ?_)
  rotate_left
  · simp -dsimp -implicitDefEqProofs [validCz, h3]
  simp -dsimp -implicitDefEqProofs
  refine onCall_in v_fn ?_
  simp -dsimp -implicitDefEqProofs [validCz, h1, h2', h3]
theorem closes_fn {c : Cz} {p k b e : Int} {h : H} : Fn Try.prog 90 [.agg (fC c), I p, I k, I b, I e] h (B (closesB c p k b e)) h := by
  refine Fn.beside ?_ rfl h
  refine Fn.ofR0 noM (by kernel_rfl) Try.func90 rfl (by simp) ?_
  simp -dsimp -implicitDefEqProofs
  refine onCall_in in1_fn ?_
  simp -dsimp -implicitDefEqProofs
  refine ifB_in (fun h1 => ?_) (fun h1 => ?_)
  rotate_left
  · simp -dsimp -implicitDefEqProofs [closesB, h1]
  simp -dsimp -implicitDefEqProofs
  refine ifD_in (fun h2 => ?_) (fun h2 => ?_)
  · have h2' : decide (b ≤ k) = true := decide_eq_true h2
    simp -dsimp -implicitDefEqProofs [closesB, h1, h2']
  · have h2' : decide (b ≤ k) = false := decide_eq_false h2
    simp -dsimp -implicitDefEqProofs [closesB, h1, h2']
attribute [local simp] ap_skip ap_region ap_seq ap_cond ap_block ap_loop ap_exit ap_ret ap_seq_normal ap_seq_ret ap_seq_exit ap_block_normal ap_block_ret ap_block_exit ap_block_other ap_nil ap_draw ap_dr_nil ap_fin_ret ap_fin_normal ap_loopK dstT_zero dstT_succ Nat.add_assoc onSome_some onSome_none ifB_true ifB_false ifB_not onClo_clo onBool_bool onBool_tup frz_val frz_ro takeAt elemTy LeN_refl LeN_push LeN_set push_get push_next set_get set_next nil_get nil_next pop_move pop_assign pop_pick pop_load pop_fieldAddr pop_indexAddr pop_field pop_binOp pop_unOp pop_convert pop_extract pop_makeFunc pop_nilCheck pop_build pop_slice pop_len pop_max pop_min eop_alloc eop_box eop_store eop_buildSlice eop_makeSlice eop_append as_move as_assign as_pick as_load as_fieldAddr as_indexAddr as_field as_binOp as_unOp as_convert as_extract as_makeFunc as_nilCheck as_build as_slice as_len as_max as_min as_alloc as_box as_store as_buildSlice as_makeSlice as_append as_call cons_free cons_guard putA_some putA_none aev_tmp aev_int aev_bool aev_nil aev_func pickA_and pickA_or pickA_true pickA_false nnA_ptr nnA_rop idxA_some intOf_int boxA_some bin_int binI_add binI_sub binI_mul binI_quo binI_rem binI_eql binI_neq binI_lss binI_leq binI_gtr binI_geq unA_not unA_neg loadA_ptr loadA_rop loadO_some asLoaded_agg asLoaded_one resA_one resA_two resOne_tmp resOne_cell cellsOf_int cellsOf_bool cellsOf_clo cellsOf_ptr cellsOf_ro cellsOf_sl cellsOf_nil cellsOf_agg one_int one_bool one_nil one_clo one_ptr one_ro one_sl one_rop mm_max mm_min elS_sl elS2_sl mkA_some chunk_zero chunk_succ zcells_zero zcells_succ clean_val clean_ro clean_rop clean1_val clean1_ro clean1_rop flat_val flat_ro flat_agg frz_agg frz_tup
attribute [local simp] lenA_ro indexA_ro fieldA
theorem closed1_fn {c : Cz} {len : Int} {h : H} {b : Nat} (hb : h.get b = some [I len]) (hl : len.natAbs ≤ 1000000000000) : Fn Try.prog 85 [.agg (fC c), .ptr b 0] h (B (validCz len c)) h := by
  refine Fn.keep noM noC (by kernel_rfl) Try.func85 rfl rfl fun live => ?_
  have hne : ¬ b = h.next := by have := (live.1 b _ hb).1; omega
  simp -dsimp -implicitDefEqProofs [hb, hne]
  refine onCall_in (validClosure_fn (c := c) hl) ?_
  simp -dsimp -implicitDefEqProofs
theorem closed2_fn {c : Cz} {p k : Int} {h : H} {a b : Nat} (ha : h.get a = some [I p]) (hb : h.get b = some [I k]) : Fn Try.prog 89 [.agg (fC c), .ptr a 0, .ptr b 0] h (B (closesB c p k c.beg.lo c.fin.hi)) h := by
  refine Fn.keep noM noC (by kernel_rfl) Try.func89 rfl rfl fun live => ?_
  have hna : ¬ a = h.next := by have := (live.1 a _ ha).1; omega
  have hnb : ¬ b = h.next := by have := (live.1 b _ hb).1; omega
  simp -dsimp -implicitDefEqProofs [ha, hb, hna, hnb]
  refine onCall_in (closes_fn (c := c)) ?_
  simp -dsimp -implicitDefEqProofs
theorem closed3_fn {c : Cz} {p k : Int} {h : H} {a b : Nat} (ha : h.get a = some [I p]) (hb : h.get b = some [I k]) : Fn Try.prog 91 [.agg (fC c), .ptr a 0, .ptr b 0] h (B (closesB c p k c.beg.hi c.fin.lo)) h := by
  refine Fn.keep noM noC (by kernel_rfl) Try.func91 rfl rfl fun live => ?_
  have hna : ¬ a = h.next := by have := (live.1 a _ ha).1; omega
  have hnb : ¬ b = h.next := by have := (live.1 b _ hb).1; omega
  simp -dsimp -implicitDefEqProofs [ha, hb, hna, hnb]
  refine onCall_in (closes_fn (c := c)) ?_
  simp -dsimp -implicitDefEqProofs
theorem closures_fn {l : List Cz} {len : Int} {b : Nat} {fu : Bool} {h : H} (hl : (l.length : Int) < 2^62) (hb : h.get b = some [I len]) (hbn : b < h.next) (hlen : len.natAbs ≤ 1000000000000) : Fn Try.prog 84 [.ro fu 6 (l.map fC), .clo 85 [.ptr b 0]] h (B (l.all (validCz len))) h := by
  have := every_closure (f := 85) (caps := [.ptr b 0]) (h := h) (p := pOf fC (validCz len)) (xs := l.map fC) (fu := fu) (by simpa using hl) (by simp [fC_eq]) (by simp [fC_eq, one_int]) (fun x hx => by
    obtain ⟨s, hs, rfl⟩ := List.mem_map.1 hx
    rw [pOf_eq fC_inj]
    refine closed1_fn ?_ hlen
    have e1 : b ≠ h.next + 1 := by omega
    have e2 : b ≠ h.next := by omega
    simp [e1, e2, hb])
  rwa [all_pOf fC_inj] at this
theorem any_pOf {α : Type} {f : α → List AV} {q : α → Bool} (hf : ∀ a b, f a = f b → a = b) (l : List α) : (l.map f).any (pOf f q) = l.any q := by
  rw [List.any_map]
  congr 1
  funext a
  exact pOf_eq hf a
theorem anyPos_fn {l : List Cz} {p k : Int} {a b : Nat} {fu : Bool} {h : H} (hl : (l.length : Int) < 2^62) (ha : h.get a = some [I p]) (hb : h.get b = some [I k]) : Fn Try.prog 88 [.ro fu 6 (l.map fC), .clo 89 [.ptr a 0, .ptr b 0]] h (B (l.any fun c => closesB c p k c.beg.lo c.fin.hi)) h := by
  have := containsFunc_closure (f := 89) (caps := [.ptr a 0, .ptr b 0]) (h := h) (p := pOf fC fun c => closesB c p k c.beg.lo c.fin.hi) (xs := l.map fC) (fu := fu) (by simpa using hl) (by simp [fC_eq]) (fun x hx => by
    obtain ⟨s, hs, rfl⟩ := List.mem_map.1 hx
    rw [pOf_eq fC_inj]
    exact closed2_fn ha hb)
  rwa [any_pOf fC_inj] at this
theorem anySure_fn {l : List Cz} {p k : Int} {a b : Nat} {fu : Bool} {h : H} (hl : (l.length : Int) < 2^62) (ha : h.get a = some [I p]) (hb : h.get b = some [I k]) : Fn Try.prog 88 [.ro fu 6 (l.map fC), .clo 91 [.ptr a 0, .ptr b 0]] h (B (l.any fun c => closesB c p k c.beg.hi c.fin.lo)) h := by
  have := containsFunc_closure (f := 91) (caps := [.ptr a 0, .ptr b 0]) (h := h) (p := pOf fC fun c => closesB c p k c.beg.hi c.fin.lo) (xs := l.map fC) (fu := fu) (by simpa using hl) (by simp [fC_eq]) (fun x hx => by
    obtain ⟨s, hs, rfl⟩ := List.mem_map.1 hx
    rw [pOf_eq fC_inj]
    exact closed3_fn ha hb)
  rwa [any_pOf fC_inj] at this
end Go.Pe

/- Closed. -/
namespace Go.Pe
open Go Go.Proofs Go.Proofs.Ytblpmcmapadphaa
set_option maxRecDepth 20000
set_option maxHeartbeats 8000000

theorem levelS_fn {f : Fc} {f1 : Bool} {p : Int} {q k : Nat} {y : Rc} {h : H} (g : GoodF f) (ha : At f.r.rs p q y) (hk : k < hrs f.sides) :
    Fn Try.prog 87 [stAV f.r f1 (hrs f.sides) (.ro false 1 ((flowsF f.r f.sides).map fL)), .agg (spotAV y q p), I k] h (.agg [I (lvl y (rf f.r f.sides q k)).lo, I (lvl y (rf f.r f.sides q k)).hi]) h := by
  have hn := g.small.n
  have hq := (List.getElem?_eq_some_iff.1 ha.hx).1
  obtain ⟨row, e1, e2, e3⟩ := flowsF_rf g f.sides.length (Nat.le_refl _) q (by have := g.eq; omega)
  rw [List.take_length] at e1
  have hin := rf_in g q (k : Int)
  have hbig : (q + 1) * 10000000000 ≤ 250000000000 := Nat.mul_le_mul_right 10000000000 (show q + 1 ≤ 25 by have := g.eq; omega)
  have hb : (rf f.r f.sides q k).lo.natAbs ≤ 1000000000000 ∧ (rf f.r f.sides q k).hi.natAbs ≤ 1000000000000 := by
    revert hin hbig
    generalize (q + 1) * 10000000000 = m
    intro hin hbig
    omega
  have hv := validR_parts ((List.all_eq_true.1 g.rv) y (List.mem_of_getElem? ha.hx))
  exact level_fn e1 (e3 k hk) hv.2.2.2.1 hb.1 hb.2
/-- The errors of closures, a place and an hour. -/
def czE (len : Int) (l : List Cz) : Int := if 40 < l.length then 5 else if l.all (validCz len) = true then 0 else 2
def closE (f : Fc) (l : List Cz) (p k : Int) : Int := if czE (lenSum f.r.rs) l = 0 then (if inB 0 (lenSum f.r.rs - 1) p = true then (if inB 0 (hrs f.sides - 1) k = true then 0 else 3) else 7) else czE (lenSum f.r.rs) l
def posB (l : List Cz) (p k : Int) : Bool := l.any fun c => closesB c p k c.beg.lo c.fin.hi
def surB (l : List Cz) (p k : Int) : Bool := l.any fun c => closesB c p k c.beg.hi c.fin.lo
theorem Closed_bad {f : Fc} {f1 f2 fw : Bool} {l : List Cz} {p k : Int} {h : H} (hw : SmallF f) (he : startE f ≠ 0) : Fn Try.prog 46 [f.r.av f1, sidesAV f.sides f2, .ro fw 6 (l.map fC), I p, I k] h (.tup [B false, B false, I (startE f)]) h := by
  refine Fn.beside ?_ rfl h
  refine Fn.ofR0 noM (by kernel_rfl) Try.func46 rfl (by simp) ?_
  have ne0 : (startE f != 0) = true := by simpa using he
  simp -dsimp -implicitDefEqProofs
  refine onCall_in (newStream_bad hw he) ?_
  simp -dsimp -implicitDefEqProofs [ne0]
theorem Closed_err {f : Fc} {f1 f2 fw : Bool} {l : List Cz} {p k : Int} {h : H} (g : GoodF f) (o : OkRv f) (he : startE f = 0) (hl : l.length ≤ 1000) (hE : closE f l p k ≠ 0) : Fn Try.prog 46 [f.r.av f1, sidesAV f.sides f2, .ro fw 6 (l.map fC), I p, I k] h (.tup [B false, B false, I (closE f l p k)]) h := by
  refine Fn.beside ?_ rfl h
  refine Fn.ofR0 noM (by kernel_rfl) Try.func46 rfl (by simp) ?_
  have hm := g.hmax
  have hrn := g.small.r.n
  have hlen : ∀ x ∈ f.r.rs, x.len.natAbs ≤ 1000000 := fun x hx => by have := o.len x hx; omega
  have hls := lens_sum g.small.r hlen
  simp -dsimp -implicitDefEqProofs
  refine onCall_in (newStream_fn g he) ?_
  simp -dsimp -implicitDefEqProofs
  by_cases h1 : 40 < l.length
  · have e : closE f l p k = 5 := by simp [closE, czE, h1]
    have d1 : decide ((40 : Int) < (l.length : Int)) = true := decide_eq_true (by omega)
    simp -dsimp -implicitDefEqProofs [d1, e]
  have d1 : decide ((40 : Int) < (l.length : Int)) = false := decide_eq_false (by omega)
  simp -dsimp -implicitDefEqProofs [d1]
  refine onCall_in (lengthOf_fn (by omega) hlen) ?_
  simp -dsimp -implicitDefEqProofs
  refine onCall_in (closures_fn (len := lenSum f.r.rs) (by omega) (by simp) (by simp) (by omega)) ?_
  cases h2 : l.all (validCz (lenSum f.r.rs)) with
  | false =>
    have e : closE f l p k = 2 := by simp [closE, czE, h1, h2]
    simp -dsimp -implicitDefEqProofs [e]
  | true =>
    have e0 : czE (lenSum f.r.rs) l = 0 := by simp [czE, h1, h2]
    simp -dsimp -implicitDefEqProofs
    cases hP : inB 0 (lenSum f.r.rs - 1) p with
    | false =>
      have hpp : p < 0 ∨ lenSum f.r.rs ≤ p := by
        have h4 : ¬ inB 0 (lenSum f.r.rs - 1) p = true := by simp [hP]
        rw [inB_iff] at h4; omega
      have e : closE f l p k = 7 := by simp [closE, e0, hP]
      refine onCall_in (at_miss o.len hrn hpp) ?_
      simp -dsimp -implicitDefEqProofs [noSpot, e]
    | true =>
      have hP' := inB_iff.1 hP
      obtain ⟨q, y, ha⟩ := At.ex (rs := f.r.rs) (p := p) (by omega) (by omega)
      have c2 := fun h => at_fn (r := f.r) (f1 := f1) (fl := flowsF f.r f.sides) (hours := (hrs f.sides : Int)) (k := k) (h := h) o.len hrn (by omega) ha (by omega)
      cases hK : inB 0 (hrs f.sides - 1) k with
      | false =>
        have e : closE f l p k = 3 := by simp [closE, e0, hP, hK]
        simp only [hK, if_false, Bool.false_eq_true] at c2
        refine onCall_in (c2 _) ?_
        simp -dsimp -implicitDefEqProofs [noSpot, e]
      | true =>
        exfalso
        apply hE
        simp [closE, e0, hP, hK]
theorem Closed_fn {f : Fc} {f1 f2 fw : Bool} {l : List Cz} {p : Int} {k q : Nat} {y : Rc} {h : H} (g : GoodF f) (o : OkRv f) (he : startE f = 0) (hl : czE (lenSum f.r.rs) l = 0) (hp : 0 ≤ p) (ha : At f.r.rs p q y) (hk : k < hrs f.sides) :
    Fn Try.prog 46 [f.r.av f1, sidesAV f.sides f2, .ro fw 6 (l.map fC), I p, I k] h (.tup [B (decide (y.flood < (lvl y (rf f.r f.sides q k)).hi) || posB l p k), B (decide (y.flood < (lvl y (rf f.r f.sides q k)).lo) || surB l p k), I 0]) h := by
  refine Fn.beside ?_ rfl h
  refine Fn.ofR0 noM (by kernel_rfl) Try.func46 rfl (by simp) ?_
  have hm := g.hmax
  have hrn := g.small.r.n
  have hlen : ∀ x ∈ f.r.rs, x.len.natAbs ≤ 1000000 := fun x hx => by have := o.len x hx; omega
  have hls := lens_sum g.small.r hlen
  have h12 : ¬ 40 < l.length ∧ l.all (validCz (lenSum f.r.rs)) = true := by
    unfold czE at hl
    split at hl
    · omega
    · split at hl
      · rename_i h1 h2; exact ⟨h1, h2⟩
      · omega
  obtain ⟨h1, h2⟩ := h12
  have d1 : decide ((40 : Int) < (l.length : Int)) = false := decide_eq_false (by omega)
  have hK : inB 0 ((hrs f.sides : Int) - 1) (k : Int) = true := inB_iff.2 (by omega)
  have c1 := fun h => newStream_fn (f1 := f1) (f2 := f2) (h := h) g he
  have c2 := fun h => at_fn (r := f.r) (f1 := f1) (fl := flowsF f.r f.sides) (hours := (hrs f.sides : Int)) (k := (k : Int)) (h := h) o.len hrn hp ha (by omega)
  simp only [hK, if_true] at c2
  have c3 := fun h => levelS_fn (f1 := f1) (h := h) g ha hk
  obtain ⟨v, hv⟩ : ∃ v, v = lvl y (rf f.r f.sides q k) := ⟨_, rfl⟩
  obtain ⟨fl, hfl⟩ : ∃ fl, fl = flowsF f.r f.sides := ⟨_, rfl⟩
  simp only [← hv, ← hfl] at c1 c2 c3
  rw [← hv]
  simp -dsimp -implicitDefEqProofs
  refine onCall_in (c1 _) ?_
  simp -dsimp -implicitDefEqProofs [d1]
  refine onCall_in (lengthOf_fn (by omega) hlen) ?_
  simp -dsimp -implicitDefEqProofs
  refine onCall_in (closures_fn (len := lenSum f.r.rs) (by omega) (by simp) (by simp) (by omega)) ?_
  simp -dsimp -implicitDefEqProofs [h2]
  refine onCall_in (c2 _) ?_
  simp -dsimp -implicitDefEqProofs [spotAV]
  refine onCall_in (c3 _) ?_
  simp -dsimp -implicitDefEqProofs
  refine ifD_in (fun h3 => ?_) (fun h3 => ?_)
  · have e3 : decide (y.flood < v.hi) = true := decide_eq_true h3
    simp -dsimp -implicitDefEqProofs
    refine ifD_in (fun h4 => ?_) (fun h4 => ?_)
    · have e4 : decide (y.flood < v.lo) = true := decide_eq_true h4
      simp -dsimp -implicitDefEqProofs [e3, e4]
    · have e4 : decide (y.flood < v.lo) = false := decide_eq_false h4
      simp -dsimp -implicitDefEqProofs
      refine onCall_in (anySure_fn (p := p) (k := k) (by omega) (by simp) (by simp)) ?_
      simp -dsimp -implicitDefEqProofs [e3, e4, surB]
  · have e3 : decide (y.flood < v.hi) = false := decide_eq_false h3
    simp -dsimp -implicitDefEqProofs
    refine onCall_in (anyPos_fn (p := p) (k := k) (by omega) (by simp) (by simp)) ?_
    simp -dsimp -implicitDefEqProofs
    refine ifD_in (fun h4 => ?_) (fun h4 => ?_)
    · have e4 : decide (y.flood < v.lo) = true := decide_eq_true h4
      simp -dsimp -implicitDefEqProofs [e3, e4, posB]
    · have e4 : decide (y.flood < v.lo) = false := decide_eq_false h4
      simp -dsimp -implicitDefEqProofs
      refine onCall_in (anySure_fn (p := p) (k := k) (by omega) (by simp) (by simp)) ?_
      simp -dsimp -implicitDefEqProofs [e3, e4, posB, surB]
end Go.Pe

/- The reference's closures. -/
namespace Go.Pe
open Go Go.Proofs Go.Proofs.Ytblpmcmapadphaa
set_option maxRecDepth 20000
set_option maxHeartbeats 8000000
attribute [local simp] fC_eq

theorem Closures_fn {r : Rv} {f1 fw : Bool} {l : List Cz} {h : H} (hr : r.rs.length ≤ 25) (hb : ∀ x ∈ r.rs, x.len.natAbs ≤ 1000000) (hl : l.length ≤ 1000) :
    Fn Try.prog 47 [r.av f1, .ro fw 6 (l.map fC)] h (I (czE (lenSum r.rs) l)) h := by
  refine Fn.beside ?_ rfl h
  refine Fn.ofR0 noM (by kernel_rfl) Try.func47 rfl (by simp) ?_
  have hls := lenSum_in hb r.rs.length (Nat.le_refl _)
  rw [List.take_length] at hls
  have w2 : IntKind.i64.wrap (lenSum r.rs - 1) = lenSum r.rs - 1 := wrap_in (by omega) (by omega)
  have cP := fun h => Places_fn (r := r) (fu := f1) (h := h) (by omega) hb
  by_cases h1 : 40 < l.length
  · have e : czE (lenSum r.rs) l = 5 := by simp [czE, h1]
    have d1 : decide ((40 : Int) < (l.length : Int)) = true := decide_eq_true (by omega)
    simp -dsimp -implicitDefEqProofs [d1, e]
  have d1 : decide ((40 : Int) < (l.length : Int)) = false := decide_eq_false (by omega)
  obtain ⟨n, hn⟩ : ∃ n, n = lenSum r.rs := ⟨_, rfl⟩
  rw [← hn] at w2 ⊢
  simp only [← hn] at cP
  simp -dsimp -implicitDefEqProofs [d1]
  refine LoopCR.on 50 (fun i => [(1, .ro fw 6 (l.map fC)), (2, .ptr 0 0), (5, I (i : Nat))])
    (fun i => [some [r.reaches f1, r.shoals]]) (fun i => i ≤ l.length ∧ ∀ c ∈ l.take i, validCz n c = true) (fun i => l.length - i) 0 [0] ⟨by omega, by simp⟩ ?_ ?_
  · simp -dsimp -implicitDefEqProofs
  intro i j hI
  obtain ⟨hi, hpre⟩ := hI
  simp -dsimp -implicitDefEqProofs
  refine ifD_in (fun hlt => ?_) (fun hge => ?_)
  · have hlt' : i < l.length := by omega
    obtain ⟨c, hc⟩ : ∃ c, l[i]? = some c := ⟨_, List.getElem?_eq_getElem hlt'⟩
    have bad : validCz n c = false → czE n l = 2 := fun hv => by
      have : l.all (validCz n) = false := by
        rw [List.all_eq_false]; exact ⟨c, List.mem_of_getElem? hc, by simp [hv]⟩
      simp [czE, h1, this]
    have good : validCz n c = true → i + 1 ≤ l.length ∧ ∀ c ∈ l.take (i + 1), validCz n c = true := fun hv => ⟨by omega, by
      rw [List.take_add_one, hc]
      intro x hx
      simp only [Option.toList_some, List.mem_append, List.mem_singleton] at hx
      rcases hx with hx | rfl
      · exact hpre x hx
      · exact hv⟩
    have wi : IntKind.i64.wrap ((i : Int) + 1) = ((i + 1 : Nat) : Int) := by rw [wrap_in (by omega) (by omega)]; omega
    simp -dsimp -implicitDefEqProofs [hc]
    refine DrawR.on {} (by kernel_rfl) (by simp) ?_
    simp -dsimp -implicitDefEqProofs
    refine onCallQ_in (cP _) ?_
    simp -dsimp -implicitDefEqProofs [w2]
    refine onCallQ_in In2_fn ?_
    cases q1 : inB 0 (n - 1) c.from' with
    | false =>
      have hv : validCz n c = false := by simp [validCz, q1]
      simp -dsimp -implicitDefEqProofs [bad hv]
    | true =>
      have q1' := inB_iff.1 q1
      simp -dsimp -implicitDefEqProofs
      refine onCallQ_in (cP _) ?_
      simp -dsimp -implicitDefEqProofs [w2]
      refine onCallQ_in In2_fn ?_
      cases q2 : inB c.from' (n - 1) c.to' with
      | false =>
        have hv : validCz n c = false := by
          have q2' : ¬ inB c.from' (n - 1) c.to' = true := by simp [q2]
          rw [inB_iff] at q2'
          rw [Bool.eq_false_iff]
          intro hh
          simp only [validCz, Bool.and_eq_true, inB_iff, decide_eq_true_eq] at hh
          omega
        simp -dsimp -implicitDefEqProofs [bad hv]
      | true =>
        have q2' := inB_iff.1 q2
        have q3 : inB 0 (n - 1) c.to' = true := inB_iff.2 (by omega)
        have q4 : decide (c.from' ≤ c.to') = true := decide_eq_true (by omega)
        simp -dsimp -implicitDefEqProofs
        refine onCallQ_in Valid2_fn ?_
        cases q5 : vB (-400) 800 c.beg with
        | false =>
          have hv : validCz n c = false := by simp [validCz, q5]
          simp -dsimp -implicitDefEqProofs [bad hv]
        | true =>
          simp -dsimp -implicitDefEqProofs
          refine onCallQ_in Valid2_fn ?_
          cases q6 : vB (-400) 800 c.fin with
          | false =>
            have hv : validCz n c = false := by simp [validCz, q6]
            simp -dsimp -implicitDefEqProofs [bad hv]
          | true =>
            have hv : validCz n c = true := by simp only [validCz, q1, q3, q4, q5, q6]; rfl
            simp -dsimp -implicitDefEqProofs [wi]
            refine again_in (i + 1) [0] (good hv) (by omega) ?_
            simp -dsimp -implicitDefEqProofs
  · have hin : i = l.length := by omega
    subst hin
    have hall : l.all (validCz n) = true := by
      rw [List.all_eq_true]; rw [List.take_length] at hpre; exact hpre
    have e : czE n l = 0 := by simp [czE, h1, hall]
    simp -dsimp -implicitDefEqProofs [e]

theorem any_take {α : Type} {q : α → Bool} {l : List α} {i : Nat} {x : α} (hx : l[i]? = some x) : (l.take (i + 1)).any q = ((l.take i).any q || q x) := by
  rw [List.take_add_one, hx]; simp
theorem rClosed_fn {f : Fc} {f1 f2 fw : Bool} {l : List Cz} {p : Int} {k q : Nat} {y : Rc} {h : H} (g : GoodF f) (o : OkRv f) (hl : l.length ≤ 1000) (hp : 0 ≤ p) (ha : At f.r.rs p q y) (hk : k < hrs f.sides) :
    Fn Try.prog 48 [f.r.av f1, sidesAV f.sides f2, .ro fw 6 (l.map fC), I p, I k] h (.tup [B (decide (y.flood < (lvl y (rf f.r f.sides q k)).hi) || posB l p k), B (decide (y.flood < (lvl y (rf f.r f.sides q k)).lo) || surB l p k)]) h := by
  refine Fn.beside ?_ rfl h
  refine Fn.ofR0 noM (by kernel_rfl) Try.func48 rfl (by simp) ?_
  have hm := g.hmax
  have hn := g.small.r.n
  have heq := g.eq
  have hy := ha.hx
  have hq := (List.getElem?_eq_some_iff.1 hy).1
  have hv := validR_parts ((List.all_eq_true.1 g.rv) y (List.mem_of_getElem? hy))
  have hin := rf_in g q (k : Int)
  have hbig : (q + 1) * 10000000000 ≤ 250000000000 := Nat.mul_le_mul_right 10000000000 (show q + 1 ≤ 25 by omega)
  obtain ⟨b, hb⟩ : ∃ b, b = rf f.r f.sides q k := ⟨_, rfl⟩
  rw [← hb] at hin
  have hb1 : b.lo.natAbs ≤ 1000000000000 ∧ b.hi.natAbs ≤ 1000000000000 := by
    revert hin hbig
    generalize (q + 1) * 10000000000 = m
    intro hin hbig
    omega
  have c0 := fun h => Of_fn (r := f.r) (fu := f1) (h := h) hp o.len hn ha
  have c1 := fun h => (rFlow_fn (f1 := f1) (f2 := f2) g q (by omega) (k : Int) (by omega) (by omega)).beside rfl h
  rw [← hb] at c1
  obtain ⟨v, hve⟩ : ∃ v, v = lvl y b := ⟨_, rfl⟩
  have c2 : ∀ h, Fn Try.prog 24 [.agg (fR y), .agg [I b.lo, I b.hi]] h (.agg [I v.lo, I v.hi]) h := by rw [hve]; exact fun h => rLevel_fn hv.2.2.2.1 hb1.1 hb1.2
  rw [← hb, ← hve]
  simp -dsimp -implicitDefEqProofs
  refine onCall_in (c0 _) ?_
  simp -dsimp -implicitDefEqProofs [hy]
  refine DrawR.on {} (by kernel_rfl) (by simp) ?_
  simp -dsimp -implicitDefEqProofs [hy]
  refine onCallQ_in (c1 _) ?_
  simp -dsimp -implicitDefEqProofs
  refine onCallQ_in (c2 _) ?_
  simp -dsimp -implicitDefEqProofs
  refine DrawR.on {} (by kernel_rfl) (by simp) ?_
  simp -dsimp -implicitDefEqProofs [hy]
  obtain ⟨P, hP⟩ : ∃ P : Nat → Bool, P = fun i => decide (y.flood < v.hi) || posB (l.take i) p k := ⟨_, rfl⟩
  obtain ⟨S, hS⟩ : ∃ S : Nat → Bool, S = fun i => decide (y.flood < v.lo) || surB (l.take i) p k := ⟨_, rfl⟩
  have P0 : decide (y.flood < v.hi) = P 0 := by simp [hP, posB]
  have S0 : decide (y.flood < v.lo) = S 0 := by simp [hS, surB]
  have Pn : P l.length = (decide (y.flood < v.hi) || posB l p k) := by simp [hP]
  have Sn : S l.length = (decide (y.flood < v.lo) || surB l p k) := by simp [hS]
  have Ps : ∀ i c, l[i]? = some c → P (i + 1) = (P i || closesB c p k c.beg.lo c.fin.hi) := fun i c hc => by simp only [hP, posB, any_take hc, Bool.or_assoc]
  have Ss : ∀ i c, l[i]? = some c → S (i + 1) = (S i || closesB c p k c.beg.hi c.fin.lo) := fun i c hc => by simp only [hS, surB, any_take hc, Bool.or_assoc]
  rw [← Pn, ← Sn]
  clear hP hS Pn Sn
  refine LoopCR.on 99 (fun i => [(2, .ro fw 6 (l.map fC)), (3, I p), (4, I k), (14, B (P i)), (15, B (S i)), (16, I (i : Nat))])
    (fun i => []) (fun i => i ≤ l.length) (fun i => l.length - i) 0 [] (by simp) ?_ ?_
  · simp -dsimp -implicitDefEqProofs [P0, S0]
  intro i j hi
  simp -dsimp -implicitDefEqProofs
  refine ifD_in (fun hlt => ?_) (fun hge => ?_)
  · have hlt' : i < l.length := by omega
    obtain ⟨c, hc⟩ : ∃ c, l[i]? = some c := ⟨_, List.getElem?_eq_getElem hlt'⟩
    have p1 := Ps i c hc
    have s1 := Ss i c hc
    have wi : IntKind.i64.wrap ((i : Int) + 1) = ((i + 1 : Nat) : Int) := by rw [wrap_in (by omega) (by omega)]; omega
    simp -dsimp -implicitDefEqProofs [hc]
    refine onCall_in In2_fn ?_
    cases q1 : inB c.from' c.to' p with
    | false =>
      simp only [closesB, q1, Bool.false_and, Bool.or_false] at p1 s1
      simp -dsimp -implicitDefEqProofs [wi]
      refine again_in (i + 1) [] (by omega) (by omega) ?_
      simp -dsimp -implicitDefEqProofs [p1, s1]
    | true =>
      simp only [closesB, q1, Bool.true_and] at p1 s1
      simp -dsimp -implicitDefEqProofs
      cases q2 : P i with
      | true =>
        simp only [q2, Bool.true_or] at p1
        simp -dsimp -implicitDefEqProofs
        cases q3 : S i with
        | true =>
          simp only [q3, Bool.true_or] at s1
          simp -dsimp -implicitDefEqProofs [wi]
          refine again_in (i + 1) [] (by omega) (by omega) ?_
          simp -dsimp -implicitDefEqProofs [p1, s1]
        | false =>
          simp only [q3, Bool.false_or] at s1
          simp -dsimp -implicitDefEqProofs
          refine ifD_in (fun h4 => ?_) (fun h4 => ?_)
          · simp only [decide_eq_true h4, Bool.true_and] at s1
            simp -dsimp -implicitDefEqProofs [wi]
            refine again_in (i + 1) [] (by omega) (by omega) ?_
            simp -dsimp -implicitDefEqProofs [p1, s1]
          · simp only [decide_eq_false h4, Bool.false_and] at s1
            simp -dsimp -implicitDefEqProofs [wi]
            refine again_in (i + 1) [] (by omega) (by omega) ?_
            simp -dsimp -implicitDefEqProofs [p1, s1]
      | false =>
        simp only [q2, Bool.false_or] at p1
        simp -dsimp -implicitDefEqProofs
        refine ifD_in (fun h3 => ?_) (fun h3 => ?_)
        · simp only [decide_eq_true h3, Bool.true_and] at p1
          simp -dsimp -implicitDefEqProofs
          cases q3 : S i with
          | true =>
            simp only [q3, Bool.true_or] at s1
            simp -dsimp -implicitDefEqProofs [wi]
            refine again_in (i + 1) [] (by omega) (by omega) ?_
            simp -dsimp -implicitDefEqProofs [p1, s1]
          | false =>
            simp only [q3, Bool.false_or] at s1
            simp -dsimp -implicitDefEqProofs
            refine ifD_in (fun h4 => ?_) (fun h4 => ?_)
            · simp only [decide_eq_true h4, Bool.true_and] at s1
              simp -dsimp -implicitDefEqProofs [wi]
              refine again_in (i + 1) [] (by omega) (by omega) ?_
              simp -dsimp -implicitDefEqProofs [p1, s1]
            · simp only [decide_eq_false h4, Bool.false_and] at s1
              simp -dsimp -implicitDefEqProofs [wi]
              refine again_in (i + 1) [] (by omega) (by omega) ?_
              simp -dsimp -implicitDefEqProofs [p1, s1]
        · simp only [decide_eq_false h3, Bool.false_and] at p1
          simp -dsimp -implicitDefEqProofs
          cases q3 : S i with
          | true =>
            simp only [q3, Bool.true_or] at s1
            simp -dsimp -implicitDefEqProofs [wi]
            refine again_in (i + 1) [] (by omega) (by omega) ?_
            simp -dsimp -implicitDefEqProofs [p1, s1]
          | false =>
            simp only [q3, Bool.false_or] at s1
            simp -dsimp -implicitDefEqProofs
            refine ifD_in (fun h4 => ?_) (fun h4 => ?_)
            · simp only [decide_eq_true h4, Bool.true_and] at s1
              simp -dsimp -implicitDefEqProofs [wi]
              refine again_in (i + 1) [] (by omega) (by omega) ?_
              simp -dsimp -implicitDefEqProofs [p1, s1]
            · simp only [decide_eq_false h4, Bool.false_and] at s1
              simp -dsimp -implicitDefEqProofs [wi]
              refine again_in (i + 1) [] (by omega) (by omega) ?_
              simp -dsimp -implicitDefEqProofs [p1, s1]
  · have hin : i = l.length := by omega
    subst hin
    simp -dsimp -implicitDefEqProofs
end Go.Pe

/- The law RiverCloses. -/
namespace Go.Pe
open Go Go.Proofs Go.Proofs.Ytblpmcmapadphaa
set_option maxRecDepth 20000
set_option maxHeartbeats 8000000
attribute [local simp] fC_eq aix0 aix1
theorem neq89 {a b c d e f a' b' c' d' e' f' : Int} {k : TK} {s : Nat} {z : List Value} {a1 f1 : Bool} {by' : Nat} : binX Try.prog 89 { kind := k, size := s, zero := z, agg := a1, bytes := by', fok := f1, cmp := true } .neq (.agg [I a, I b, I c, I d, I e, I f]) (.agg [I a', I b', I c', I d', I e', I f']) = some (B (!(a == a' && (b == b' && ((c == c' && (d == d' && true)) && ((e == e' && (f == f' && true)) && true)))))) := by kernel_rfl
attribute [local simp] neq89
theorem rcl_cases {f : Fc} {l : List Cz} {p k : Int} (hw : SmallF f) (hl : l.length ≤ 1000) : ∃ (a b : Bool) (e : Int), (∀ f1 f2 h, Fn Try.prog 46 [f.r.av f1, sidesAV f.sides f2, .ro false 6 (l.map fC), I p, I k] h (.tup [B a, B b, I e]) h) ∧
    ((startE f ≠ 0 ∧ a = false ∧ b = false ∧ e = startE f) ∨ (startE f = 0 ∧ OkRv f ∧ closE f l p k ≠ 0 ∧ a = false ∧ b = false ∧ e = closE f l p k) ∨
      (startE f = 0 ∧ OkRv f ∧ closE f l p k = 0 ∧ e = 0 ∧ ∀ f1 f2 h, Fn Try.prog 48 [f.r.av f1, sidesAV f.sides f2, .ro false 6 (l.map fC), I p, I k] h (.tup [B a, B b]) h)) := by
  by_cases he : startE f = 0
  · have g := good_of hw he
    have o : OkRv f := okRv_of (rv_of_start he)
    by_cases hE : closE f l p k = 0
    · have hp : czE (lenSum f.r.rs) l = 0 ∧ (0 ≤ p ∧ p < lenSum f.r.rs) ∧ 0 ≤ k ∧ k < hrs f.sides := by
        unfold closE at hE
        split at hE
        · rename_i h0
          split at hE
          · rename_i h1
            have := inB_iff.1 h1
            split at hE
            · rename_i h2
              have := inB_iff.1 h2
              exact ⟨h0, by omega, by omega⟩
            · omega
          · omega
        · omega
      obtain ⟨h1, h2, h3⟩ := hp
      obtain ⟨q, y, ha⟩ := At.ex h2.1 h2.2
      obtain ⟨k, rfl⟩ : ∃ m : Nat, k = m := ⟨k.toNat, by omega⟩
      exact ⟨_, _, _, fun f1 f2 h => Closed_fn g o he h1 h2.1 ha (by omega), .inr (.inr ⟨he, o, hE, rfl, fun f1 f2 h => rClosed_fn g o hl h2.1 ha (by omega)⟩)⟩
    · exact ⟨_, _, _, fun f1 f2 h => Closed_err g o he hl hE, .inr (.inl ⟨he, o, hE, rfl, rfl, rfl⟩)⟩
  · exact ⟨_, _, _, fun f1 f2 h => Closed_bad hw he, .inl ⟨he, rfl, rfl, rfl⟩⟩
theorem rcl_law {f : Fc} {l : List Cz} {p k : Int} : Fn Try.prog 9 [.agg [f.r.reaches false, f.r.shoals, sidesAV f.sides false], .ro false 6 (l.map fC), .agg [I p, I k]] .nil (B true) .nil := by
  refine Fn.ofR0 noM (by kernel_rfl) Try.func9 rfl (by simp) ?_
  simp -dsimp -implicitDefEqProofs
  refine onCall_in large_fn ?_
  simp -dsimp -implicitDefEqProofs
  refine ifB_in (fun h1 => ?_) (fun h1 => ?_)
  · simp -dsimp -implicitDefEqProofs
    refine onCall_in (known_fn.beside rfl _) ?_
    simp -dsimp -implicitDefEqProofs
  have hw := small_of h1
  have hn := hw.n
  have hc := hw.c
  have hrn := hw.r.n
  simp -dsimp -implicitDefEqProofs
  refine ifD_in (fun h7 => ?_) (fun h7 => ?_)
  · simp -dsimp -implicitDefEqProofs
    refine onCall_in (known_fn.beside rfl _) ?_
    simp -dsimp -implicitDefEqProofs
  have hl : l.length ≤ 50 := by omega
  have hb1 : l.length * 48 ≤ 70368744177664 := by omega
  have hb2 : l.length ≤ 70368744177664 := by omega
  obtain ⟨a, b, e, hS, hcase⟩ := rcl_cases (l := l) (p := p) (k := k) hw (by omega)
  have c0 : ∀ h, Fn Try.prog 29 [sidesAV f.sides false] h (sidesAV f.sides (isz f.sides.length)) h := fun h => forecast_fn (by omega) (fun x hx => by have := hc x hx; omega)
  simp -dsimp -implicitDefEqProofs [hb1, hb2]
  refine DrawR.on {} (by kernel_rfl) (by simp) ?_
  simp -dsimp -implicitDefEqProofs
  refine onCallQ_in (copied_fn hw.r) ?_
  simp -dsimp -implicitDefEqProofs
  refine onCallQ_in (c0 _) ?_
  simp -dsimp -implicitDefEqProofs
  refine onCallQ_in (hS _ _ _) ?_
  simp -dsimp -implicitDefEqProofs
  refine LoopCR.on 138 (fun i => [(1, .ro false 6 (l.map fC)), (3, .ptr 0 0), (5, .ptr 1 0), (7, .ro false 6 (l.map fC)), (8, B a), (9, B b), (10, I e), (11, I (i : Nat))])
    (fun _ => [some [f.r.reaches false, f.r.shoals, sidesAV f.sides false], some [I p, I k]]) (fun i => i ≤ l.length) (fun i => l.length - i) 0 [0, 1] (by simp) ?_ ?_
  · simp -dsimp -implicitDefEqProofs
  intro i j hi
  simp -dsimp -implicitDefEqProofs
  refine ifD_in (fun hlt => ?_) (fun hge => ?_)
  · have hlt' : i < l.length := by omega
    obtain ⟨c, hc⟩ : ∃ c, l[i]? = some c := ⟨_, List.getElem?_eq_getElem hlt'⟩
    simp -dsimp -implicitDefEqProofs
    refine DrawR.on {} (by kernel_rfl) (by simp) ?_
    simp -dsimp -implicitDefEqProofs [hc]
    refine again_in (i + 1) [0, 1] (by omega) (by omega) ?_
    simp -dsimp -implicitDefEqProofs
    rw [wrap_in (by omega) (by omega)]
  simp -dsimp -implicitDefEqProofs
  refine onCall_in (rStart_fn hw) ?_
  rcases hcase with ⟨he, rfl, rfl, rfl⟩ | ⟨he, o, hE, rfl, rfl, rfl⟩ | ⟨he, o, hE, rfl, cR⟩
  · have ne0 : (startE f != 0) = true := by simpa using he
    have ne1 : (startE f == 0) = false := by simpa using he
    simp -dsimp -implicitDefEqProofs [ne0, ne1]
    refine DrawR.on {} (by kernel_rfl) (by simp) ?_
    simp -dsimp -implicitDefEqProofs [ne0, ne1]
    refine DrawR.on {} (by kernel_rfl) (by simp) ?_
    simp -dsimp -implicitDefEqProofs [ne0, ne1]
    refine onCall_in (known_fn.beside rfl _) ?_
    simp -dsimp -implicitDefEqProofs
  · have g := good_of hw he
    have hm := g.hmax
    have hlen : ∀ x ∈ f.r.rs, x.len.natAbs ≤ 1000000 := fun x hx => by have := o.len x hx; omega
    have hls := lens_sum g.small.r hlen
    have w2 : IntKind.i64.wrap (lenSum f.r.rs - 1) = lenSum f.r.rs - 1 := wrap_in (by omega) (by omega)
    have w3 : IntKind.i64.wrap ((hrs f.sides : Int) - 1) = (hrs f.sides : Int) - 1 := wrap_in (by omega) (by omega)
    have hpos2 : 0 < f.sides.length := by have := g.pos; have := g.eq; omega
    have hx0 := List.getElem?_eq_getElem hpos2
    have hh : f.sides[0].length = hrs f.sides := by simp [hrs, List.headD_eq_head?_getD, List.head?_eq_getElem?, hx0]
    have c1 := fun h => Closures_fn (r := f.r) (f1 := false) (fw := false) (l := l) (h := h) hrn hlen (by omega)
    have c2 := fun h => Places_fn (r := f.r) (fu := false) (h := h) (by omega) hlen
    simp -dsimp -implicitDefEqProofs [he]
    refine onCall_in (c1 _) ?_
    by_cases h0 : czE (lenSum f.r.rs) l = 0
    rotate_left
    · have e1 : closE f l p k = czE (lenSum f.r.rs) l := by simp [closE, h0]
      have ne0 : (czE (lenSum f.r.rs) l != 0) = true := by simpa using h0
      have ne1 : (czE (lenSum f.r.rs) l == 0) = false := by simpa using h0
      simp -dsimp -implicitDefEqProofs [ne0, ne1, e1]
      refine DrawR.on {} (by kernel_rfl) (by simp) ?_
      simp -dsimp -implicitDefEqProofs [ne0, ne1, e1]
      refine DrawR.on {} (by kernel_rfl) (by simp) ?_
      simp -dsimp -implicitDefEqProofs [ne0, ne1, e1]
      refine onCall_in (known_fn.beside rfl _) ?_
      simp -dsimp -implicitDefEqProofs
    cases hP : inB 0 (lenSum f.r.rs - 1) p with
    | false =>
      have e1 : closE f l p k = 7 := by simp [closE, h0, hP]
      simp -dsimp -implicitDefEqProofs [h0, e1]
      refine DrawR.on {} (by kernel_rfl) (by simp) ?_
      simp -dsimp -implicitDefEqProofs [h0, e1]
      refine onCallQ_in (c2 _) ?_
      simp -dsimp -implicitDefEqProofs [w2]
      refine onCallQ_in In2_fn ?_
      simp -dsimp -implicitDefEqProofs [hP]
      refine DrawR.on {} (by kernel_rfl) (by simp) ?_
      simp -dsimp -implicitDefEqProofs
      refine onCall_in (known_fn.beside rfl _) ?_
      simp -dsimp -implicitDefEqProofs
    | true =>
      have hK : inB 0 ((hrs f.sides : Int) - 1) k = false := by
        rw [Bool.eq_false_iff]
        intro hK
        exact hE (by simp [closE, h0, hP, hK])
      have e1 : closE f l p k = 3 := by simp [closE, h0, hP, hK]
      simp -dsimp -implicitDefEqProofs [h0, e1]
      refine DrawR.on {} (by kernel_rfl) (by simp) ?_
      simp -dsimp -implicitDefEqProofs [h0, e1]
      refine onCallQ_in (c2 _) ?_
      simp -dsimp -implicitDefEqProofs [w2]
      refine onCallQ_in In2_fn ?_
      simp -dsimp -implicitDefEqProofs [hP]
      refine DrawR.on {} (by kernel_rfl) (by simp) ?_
      simp -dsimp -implicitDefEqProofs [hx0, hh, w3]
      refine onCallQ_in In2_fn ?_
      simp -dsimp -implicitDefEqProofs [hK]
      refine onCall_in (known_fn.beside rfl _) ?_
      simp -dsimp -implicitDefEqProofs
  · have g := good_of hw he
    have hm := g.hmax
    have hlen : ∀ x ∈ f.r.rs, x.len.natAbs ≤ 1000000 := fun x hx => by have := o.len x hx; omega
    have hls := lens_sum g.small.r hlen
    have w2 : IntKind.i64.wrap (lenSum f.r.rs - 1) = lenSum f.r.rs - 1 := wrap_in (by omega) (by omega)
    have w3 : IntKind.i64.wrap ((hrs f.sides : Int) - 1) = (hrs f.sides : Int) - 1 := wrap_in (by omega) (by omega)
    have hpos2 : 0 < f.sides.length := by have := g.pos; have := g.eq; omega
    have hx0 := List.getElem?_eq_getElem hpos2
    have hh : f.sides[0].length = hrs f.sides := by simp [hrs, List.headD_eq_head?_getD, List.head?_eq_getElem?, hx0]
    have c1 := fun h => Closures_fn (r := f.r) (f1 := false) (fw := false) (l := l) (h := h) hrn hlen (by omega)
    have c2 := fun h => Places_fn (r := f.r) (fu := false) (h := h) (by omega) hlen
    have hP : czE (lenSum f.r.rs) l = 0 ∧ inB 0 (lenSum f.r.rs - 1) p = true ∧ inB 0 ((hrs f.sides : Int) - 1) k = true := by
      unfold closE at hE
      split at hE
      · rename_i h0
        split at hE
        · rename_i h1
          split at hE
          · rename_i h2; exact ⟨h0, h1, h2⟩
          · omega
        · omega
      · omega
    obtain ⟨h0, hP, hK⟩ := hP
    simp -dsimp -implicitDefEqProofs [he]
    refine onCall_in (c1 _) ?_
    simp -dsimp -implicitDefEqProofs [h0]
    refine DrawR.on {} (by kernel_rfl) (by simp) ?_
    simp -dsimp -implicitDefEqProofs [h0]
    refine onCallQ_in (c2 _) ?_
    simp -dsimp -implicitDefEqProofs [w2]
    refine onCallQ_in In2_fn ?_
    simp -dsimp -implicitDefEqProofs [hP]
    refine DrawR.on {} (by kernel_rfl) (by simp) ?_
    simp -dsimp -implicitDefEqProofs [hx0, hh, w3]
    refine onCallQ_in In2_fn ?_
    simp -dsimp -implicitDefEqProofs [hK]
    refine onCall_in (cR _ _ _) ?_
    simp -dsimp -implicitDefEqProofs
    refine onCall_in (known_fn.beside rfl _) ?_
    simp -dsimp -implicitDefEqProofs
end Go.Pe
