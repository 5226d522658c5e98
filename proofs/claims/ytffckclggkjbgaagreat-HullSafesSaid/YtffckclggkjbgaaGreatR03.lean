import Derived.Test.YtffckclggkjbgaaGreatO05
import Derived.Test.YtffckclggkjbgaaGreatR02
import Derived.Test.YtffckclggkjbgaaGreatM17
import Derived.Test.YtffckclggkjbgaaGreatM16
set_option linter.unusedVariables false
set_option linter.unusedSimpArgs false
/- The least depth of a passage, and whether a hull can take it. -/
namespace Go.Pe
open Go Go.Proofs Go.Proofs.YtffckclggkjbgaaGreat
set_option maxRecDepth 20000
set_option maxHeartbeats 8000000
attribute [local simp] ts22 us22 ts24 us24 ts25 us25 ts34 us34 ts39 us39 ts57 us57 ts156 us156 ts53 us53 ts64 us64
attribute [local simp] convA extA lenA
attribute [local simp] fSec_eq loadAV_eq
/-- A passage. -/
structure Pg where
  f : Fc
  way : List Ps
  keel : Int
noncomputable def pgC (p : Pg) (f1 f2 fw : Bool) : List AV := [p.f.r.reaches f1, p.f.r.shoals, sidesAV p.f.sides f2, .ro fw 3 (p.way.map fPs), I p.keel]
theorem pgC_eq {p : Pg} {f1 f2 fw : Bool} : pgC p f1 f2 fw = [p.f.r.reaches f1, p.f.r.shoals, sidesAV p.f.sides f2, .ro fw 3 (p.way.map fPs), I p.keel] := rfl
attribute [local simp] pgC_eq
/-- The error of a passage. -/
noncomputable def pgE (p : Pg) : Int := if inB 0 500 p.keel = false then 3 else if startE p.f ≠ 0 then startE p.f else wayE p.f.r.rs (hrs p.f.sides) p.way
/-- The least depth of a passage, or nothing. -/
noncomputable def lsD (p : Pg) : Sw := if pgE p = 0 then shF (passD p.f p.way) p.way.length else ⟨0, 0, 0, 0⟩
theorem rsw_cases {f : Fc} {way : List Ps} {fw : Bool} (hw : SmallF f) (hl : way.length ≤ 1000) : ∃ a b c d e : Int, (∀ f1 f2 h, Fn Tryz.prog 110 [f.r.av f1, sidesAV f.sides f2, .ro fw 3 (way.map fPs)] h (.tup [.agg [I a, I b], I c, I d, I e]) h) ∧
    ((startE f ≠ 0 ∧ a = 0 ∧ b = 0 ∧ c = 0 ∧ d = 0 ∧ e = startE f) ∨ (startE f = 0 ∧ OkRv f ∧ wayE f.r.rs (hrs f.sides) way ≠ 0 ∧ a = 0 ∧ b = 0 ∧ c = 0 ∧ d = 0 ∧ e = wayE f.r.rs (hrs f.sides) way) ∨
      (startE f = 0 ∧ OkRv f ∧ wayE f.r.rs (hrs f.sides) way = 0 ∧ a = (shF (passD f way) way.length).lo ∧ b = (shF (passD f way) way.length).hi ∧ c = (shF (passD f way) way.length).pass ∧ d = (shF (passD f way) way.length).hour ∧ e = 0)) := by
  by_cases he : startE f = 0
  · have g := good_of hw he
    have o : OkRv f := okRv_of (rv_of_start he)
    by_cases hE : wayE f.r.rs (hrs f.sides) way = 0
    · exact ⟨_, _, _, _, _, fun f1 f2 h => Shallowest_fn g o he hE, .inr (.inr ⟨he, o, hE, rfl, rfl, rfl, rfl, rfl⟩)⟩
    · exact ⟨_, _, _, _, _, fun f1 f2 h => Shallowest_err g o he hl hE, .inr (.inl ⟨he, o, hE, rfl, rfl, rfl, rfl, rfl⟩)⟩
  · exact ⟨_, _, _, _, _, fun f1 f2 h => Shallowest_bad hw he, .inl ⟨he, rfl, rfl, rfl, rfl, rfl⟩⟩
noncomputable def lsC (s : Sw) : List AV := [I s.lo, I s.hi, I s.pass, I s.hour]
theorem lsC_eq {s : Sw} : lsC s = [I s.lo, I s.hi, I s.pass, I s.hour] := rfl
theorem leastOn_fn {p : Pg} {f1 f2 fw : Bool} {h : H} (hw : SmallF p.f) (hl : p.way.length ≤ 1000) : Fn Tryz.prog 71 [.agg (pgC p f1 f2 fw)] h (.tup [.agg (lsC (lsD p)), I (pgE p)]) h := by
  refine Fn.beside ?_ rfl h
  refine Fn.ofR0 noM (by kernel_rfl) Tryz.func71 rfl (by simp) ?_
  simp -dsimp -implicitDefEqProofs
  refine onCall_in (vin1_fn (lo := 0) (hi := 500) (x := p.keel)) ?_
  simp -dsimp -implicitDefEqProofs
  refine ifB_in (fun hk => ?_) (fun hk => ?_)
  rotate_left
  · have e : pgE p = 3 := by simp [pgE, hk]
    have e2 : lsD p = ⟨0, 0, 0, 0⟩ := by unfold lsD; rw [if_neg (by omega)]
    simp -dsimp -implicitDefEqProofs [e, e2, lsC]
  refine Exists.elim (rsw_cases (fw := fw) hw hl) fun a h => Exists.elim h fun b h => Exists.elim h fun c h => Exists.elim h fun d h => Exists.elim h fun e h => ?_
  have h1 := h.1 f1 f2
  have hR : pgE p = e ∧ lsD p = ⟨a, b, c, d⟩ := by
    rcases h.2 with ⟨q1, q2, q3, q4, q5, q6⟩ | ⟨q1, _, q7, q2, q3, q4, q5, q6⟩ | ⟨q1, _, q7, q2, q3, q4, q5, q6⟩
    · have e1 : pgE p = e := by simp [pgE, hk, q1, q6]
      exact ⟨e1, by unfold lsD; rw [if_neg (by omega), q2, q3, q4, q5]⟩
    · have e1 : pgE p = e := by simp [pgE, hk, q1, q6]
      exact ⟨e1, by unfold lsD; rw [if_neg (by omega), q2, q3, q4, q5]⟩
    · have e1 : pgE p = e := by simp [pgE, hk, q1, q6, q7]
      exact ⟨e1, by unfold lsD; rw [if_pos (by omega), q2, q3, q4, q5]⟩
  clear h
  have e1 := hR.1
  have e2 := hR.2
  simp -dsimp -implicitDefEqProofs
  refine onCall_in (h1 _) ?_
  simp -dsimp -implicitDefEqProofs [e1, e2, lsC]
theorem surely_fn {s : Sw} {a b c d e k : Int} {h : H} (hd : d.natAbs ≤ 1000000000000) (hk : k.natAbs ≤ 1000000000000) : Fn Tryz.prog 72 [.agg (lsC s), .agg [I a, I b, I c, I d, I e], I k] h (B (decide (d + k ≤ s.lo))) h := by
  refine Fn.beside ?_ rfl h
  refine Fn.ofR0 noM (by kernel_rfl) Tryz.func72 rfl (by simp) ?_
  have v := wrap_in (n := d + k) (by omega) (by omega)
  simp -dsimp -implicitDefEqProofs [lsC_eq, v]
theorem possibly_fn {s : Sw} {a b c d e k : Int} {h : H} (hd : c.natAbs ≤ 1000000000000) (hk : k.natAbs ≤ 1000000000000) : Fn Tryz.prog 73 [.agg (lsC s), .agg [I a, I b, I c, I d, I e], I k] h (B (decide (c + k ≤ s.hi))) h := by
  refine Fn.beside ?_ rfl h
  refine Fn.ofR0 noM (by kernel_rfl) Tryz.func73 rfl (by simp) ?_
  have v := wrap_in (n := c + k) (by omega) (by omega)
  simp -dsimp -implicitDefEqProofs [lsC_eq, v]
/-- A loaded hull, and water. -/
structure Ld where
  u : Hu
  l : List Int
  b : Bd
/-- The error of Safe. -/
noncomputable def safE (x : Ld) (p : Pg) : Int := if fltE x.u x.l x.b ≠ 0 then fltE x.u x.l x.b else pgE p
noncomputable def dLo (x : Ld) : Int := mZ x.u x.l x.b.hi + trm x.u x.l
noncomputable def dHi (x : Ld) : Int := mZ x.u x.l x.b.lo + trm x.u x.l
theorem flt_ok {x : Ld} (h : fltE x.u x.l x.b = 0) : OkU x.u ∧ OkL x.u x.l ∧ vB 900 1100 x.b = true ∧ dHi x ≤ lim x.u := by
  unfold fltE at h
  split at h; · omega
  split at h; · rename_i c; exact absurd h c
  split at h; · omega
  split at h
  · rename_i a b c d
    exact ⟨okU (by simpa using a), loadE_ok (by simpa using b), by simpa using c, d⟩
  · omega
theorem floatR_ok {x : Ld} (h : fltE x.u x.l x.b = 0) : floatR x.u x.l x.b = [I (mZ x.u x.l x.b.hi), I (mZ x.u x.l x.b.lo), I (dLo x), I (dHi x), I (sgn (mom x.u x.l))] := by unfold floatR; rw [if_pos h]; rfl
theorem d_in {x : Ld} (h : fltE x.u x.l x.b = 0) : (0 ≤ dLo x ∧ dLo x ≤ 200000000) ∧ 0 ≤ dHi x ∧ dHi x ≤ 1000 := by
  obtain ⟨o, k, hb, hd⟩ := flt_ok h
  have h1 := mZ_in (l := x.l) (d := x.b.hi) o
  have h2 := mZ_in (l := x.l) (d := x.b.lo) o
  have h3 := trm_in o k
  have h4 := lim_in o
  unfold dHi at hd ⊢
  unfold dLo
  omega
noncomputable def sure (x : Ld) (p : Pg) : Bool := decide (dHi x + p.keel ≤ (lsD p).lo)
noncomputable def poss (x : Ld) (p : Pg) : Bool := decide (dLo x + p.keel ≤ (lsD p).hi)
theorem keel_of {p : Pg} (h : pgE p = 0) : 0 ≤ p.keel ∧ p.keel ≤ 500 := by
  unfold pgE at h
  split at h; · omega
  rename_i hk
  exact inB_iff.1 (by simpa using hk)
theorem Safe_fn {x : Ld} {p : Pg} {g1 g2 f1 f2 fw : Bool} {h : H} (hu : SmallU x.u) (hl : (x.l.length : Int) ≤ 1000) (hw : SmallF p.f) (hwl : p.way.length ≤ 1000) :
    Fn Tryz.prog 31 [.agg [I x.u.a, .ro g1 5 (x.u.ss.map fSec)], loadAV g2 x.l, .agg [I x.b.lo, I x.b.hi], .agg (pgC p f1 f2 fw)] h
      (.tup [B (decide (safE x p = 0) && sure x p), B (decide (safE x p = 0) && poss x p), I (if safE x p = 0 then (lsD p).pass else 0), I (if safE x p = 0 then (lsD p).hour else 0), I (safE x p)]) h := by
  refine Fn.beside ?_ rfl h
  refine Fn.ofR0 noM (by kernel_rfl) Tryz.func31 rfl (by simp) ?_
  have cF : ∀ h, Fn Tryz.prog 21 [.agg [I x.u.a, .ro g1 5 (x.u.ss.map fSec)], loadAV g2 x.l, .agg [I x.b.lo, I x.b.hi]] h (.tup [.agg (floatR x.u x.l x.b), I (fltE x.u x.l x.b)]) h := fun h => Float_fn hu hl
  have cL : ∀ h, Fn Tryz.prog 71 [.agg (pgC p f1 f2 fw)] h (.tup [.agg (lsC (lsD p)), I (pgE p)]) h := fun h => leastOn_fn hw hwl
  simp only [loadAV_eq] at cF
  simp only [pgC_eq, lsC_eq] at cL
  simp -dsimp -implicitDefEqProofs
  refine onCall_in (cF _) ?_
  refine (Classical.em (fltE x.u x.l x.b = 0)).elim (fun hf => ?_) (fun hf => ?_)
  rotate_left
  · have n1 : (fltE x.u x.l x.b != 0) = true := by simpa using hf
    have e : safE x p = fltE x.u x.l x.b := by simp [safE, hf]
    have e2 : (fltE x.u x.l x.b = 0) = False := eq_false hf
    have e3 : floatR x.u x.l x.b = [I 0, I 0, I 0, I 0, I 0] := by unfold floatR; rw [if_neg hf]
    simp -dsimp -implicitDefEqProofs [n1, e, e2, e3]
  have e3 := floatR_ok hf
  simp -dsimp -implicitDefEqProofs [hf, e3]
  refine onCall_in (cL _) ?_
  refine (Classical.em (pgE p = 0)).elim (fun hp => ?_) (fun hp => ?_)
  rotate_left
  · have n1 : (pgE p != 0) = true := by simpa using hp
    have e : safE x p = pgE p := by simp [safE, hf]
    have e2 : (pgE p = 0) = False := eq_false hp
    simp -dsimp -implicitDefEqProofs [n1, e, e2]
  have e : safE x p = 0 := by simp [safE, hf, hp]
  have hd := d_in hf
  have hk := keel_of hp
  have c1 : ∀ h, Fn Tryz.prog 72 [.agg [I (lsD p).lo, I (lsD p).hi, I (lsD p).pass, I (lsD p).hour], .agg [I (mZ x.u x.l x.b.hi), I (mZ x.u x.l x.b.lo), I (dLo x), I (dHi x), I (sgn (mom x.u x.l))], I p.keel] h (B (sure x p)) h := fun h => surely_fn (s := lsD p) (by omega) (by omega)
  have c2 : ∀ h, Fn Tryz.prog 73 [.agg [I (lsD p).lo, I (lsD p).hi, I (lsD p).pass, I (lsD p).hour], .agg [I (mZ x.u x.l x.b.hi), I (mZ x.u x.l x.b.lo), I (dLo x), I (dHi x), I (sgn (mom x.u x.l))], I p.keel] h (B (poss x p)) h := fun h => possibly_fn (s := lsD p) (by omega) (by omega)
  simp -dsimp -implicitDefEqProofs [hp]
  refine DrawR.on {} (by kernel_rfl) (by simp) ?_
  simp -dsimp -implicitDefEqProofs
  refine onCallQ_in (c1 _) ?_
  simp -dsimp -implicitDefEqProofs
  refine onCallQ_in (c2 _) ?_
  simp -dsimp -implicitDefEqProofs [e]
end Go.Pe

/- Whether the program accepts a forecast; sums of flows. -/
namespace Go.Pe
open Go Go.Proofs Go.Proofs.YtffckclggkjbgaaGreat
set_option maxRecDepth 20000
set_option maxHeartbeats 8000000

open Classical in
noncomputable def okF (f : Fc) : Bool := decide (SmallF f ∧ startE f = 0)
theorem okF_iff {f : Fc} : okF f = true ↔ SmallF f ∧ startE f = 0 := by simp [okF]
theorem okF_not {f : Fc} (h : SmallF f → startE f = 0 → False) : okF f = false := by
  rw [Bool.eq_false_iff]; intro hh; exact h (okF_iff.1 hh).1 (okF_iff.1 hh).2
noncomputable abbrev Fc.av (f : Fc) : AV := .agg [f.r.reaches false, f.r.shoals, sidesAV f.sides false]
/-- Sums of flows. -/
def sm (g : Int → Bd) (b : Int) : Nat → Bd
  | 0 => ⟨0, 0⟩
  | n + 1 => ⟨(sm g b n).lo + (g (b + n)).lo, (sm g b n).hi + (g (b + n)).hi⟩
theorem sm_add {g : Int → Bd} {b : Int} {m : Nat} : ∀ {n : Nat}, (sm g b (m + n)).lo = (sm g b m).lo + (sm g (b + m) n).lo ∧ (sm g b (m + n)).hi = (sm g b m).hi + (sm g (b + m) n).hi
  | 0 => by simp [sm]
  | n + 1 => by
    have ih := sm_add (g := g) (b := b) (m := m) (n := n)
    have e : b + ((m + n : Nat) : Int) = b + (m : Int) + (n : Int) := by omega
    rw [show m + (n + 1) = (m + n) + 1 by omega, sm, sm, e]
    simp only
    omega
theorem sm_sum {g s u : Int → Bd} {b c : Int} : ∀ {n : Nat}, (∀ k : Nat, k < n → (g (b + k)).lo = (s (b + k)).lo + (u (c + k)).lo ∧ (g (b + k)).hi = (s (b + k)).hi + (u (c + k)).hi) → (sm g b n).lo = (sm s b n).lo + (sm u c n).lo ∧ (sm g b n).hi = (sm s b n).hi + (sm u c n).hi
  | 0, _ => by simp [sm]
  | n + 1, h => by
    have ih := sm_sum (g := g) (s := s) (u := u) (b := b) (c := c) (n := n) fun k hk => h k (by omega)
    have := h n (by omega)
    simp only [sm]
    omega
theorem sm_le {g s : Int → Bd} {b : Int} : ∀ {n : Nat}, (∀ k : Nat, k < n → (s (b + k)).lo ≤ (g (b + k)).lo ∧ (s (b + k)).hi ≤ (g (b + k)).hi) → (sm s b n).lo ≤ (sm g b n).lo ∧ (sm s b n).hi ≤ (sm g b n).hi
  | 0, _ => by simp [sm]
  | n + 1, h => by
    have ih := sm_le (g := g) (s := s) (b := b) (n := n) fun k hk => h k (by omega)
    have := h n (by omega)
    simp only [sm]
    omega
theorem sm_in {g : Int → Bd} {b : Int} {m : Int} : ∀ {n : Nat}, (∀ k : Nat, k < n → 0 ≤ (g (b + k)).lo ∧ (g (b + k)).lo ≤ (g (b + k)).hi ∧ (g (b + k)).hi ≤ m) → 0 ≤ (sm g b n).lo ∧ (sm g b n).lo ≤ (sm g b n).hi ∧ (sm g b n).hi ≤ n * m
  | 0, _ => by simp [sm]
  | n + 1, h => by
    have ih := sm_in (g := g) (b := b) (m := m) (n := n) fun k hk => h k (by omega)
    have := h n (by omega)
    simp only [sm]
    rw [show ((n + 1 : Nat) : Int) * m = n * m + m by rw [show ((n + 1 : Nat) : Int) = (n : Int) + 1 by omega, Int.add_mul, Int.one_mul]]
    omega
theorem total_sm {g : Int → Bd} {b : Int} : ∀ {n : Nat} {l : List Bd}, l.length = n → (∀ k : Nat, k < n → l[k]? = some (g (b + k))) → total l = sm g b n
  | 0, l, hl, _ => by rw [List.length_eq_zero_iff.1 hl]; rfl
  | n + 1, l, hl, h => by
    have e : l = l.take n ++ [g (b + n)] := by
      have := List.take_append_getElem (l := l) (i := n) (by omega)
      have h2 := h n (by omega)
      rw [List.getElem?_eq_getElem (by omega)] at h2
      rw [Option.some.inj h2] at this
      rw [this, List.take_of_length_le (by omega)]
    rw [e, total_snoc, total_sm (n := n) (g := g) (b := b) (by simp; omega) (fun k hk => by rw [List.getElem?_take, if_pos hk]; exact h k (by omega))]
    rfl
/-- Flows: none below 0, and none with its ends the wrong way round. -/
theorem sideAt_ok {f : Fc} (g : GoodF f) {i : Nat} {h : Int} : 0 ≤ (sideAt f.sides i h).lo ∧ (sideAt f.sides i h).lo ≤ (sideAt f.sides i h).hi ∧ (sideAt f.sides i h).hi ≤ 10000000000 := by
  unfold sideAt
  cases hl : f.sides[i]? with
  | none => simp
  | some l =>
    simp only [Option.getD_some]
    rw [List.getD_eq_getElem?_getD]
    cases hb : l[h.toNat]? with
    | none => simp
    | some b =>
      have := vB_iff.1 (g.oks l (List.mem_of_getElem? hl) b (List.mem_of_getElem? hb))
      simp only [Option.getD_some]; omega
theorem baseOf_ok {f : Fc} (g : GoodF f) {i : Nat} : 0 ≤ (baseOf f.r i).lo ∧ (baseOf f.r i).lo ≤ (baseOf f.r i).hi ∧ (baseOf f.r i).hi ≤ 10000000000 := by
  unfold baseOf
  cases hx : f.r.rs[i]? with
  | none => simp
  | some x =>
    have := vB_iff.1 (validR_parts ((List.all_eq_true.1 g.rv) x (List.mem_of_getElem? hx))).2.2.1
    simp only [Option.map_some, Option.getD_some]; omega
theorem rf_ok {f : Fc} (g : GoodF f) : ∀ (i : Nat) (h : Int), 0 ≤ (rf f.r f.sides i h).lo ∧ (rf f.r f.sides i h).lo ≤ (rf f.r f.sides i h).hi ∧ (rf f.r f.sides i h).hi ≤ (i + 1) * 10000000000
  | i, h => by
    by_cases hh : h < 0
    · rw [rf_neg hh]
      have := baseOf_ok g (i := i)
      have : (1 : Int) * 10000000000 ≤ (i + 1) * 10000000000 := Int.mul_le_mul_of_nonneg_right (by omega) (by omega)
      omega
    · cases i with
      | zero => rw [rf_zero hh]; have := sideAt_ok g (i := 0) (h := h); simp; omega
      | succ i =>
        rw [rf_succ hh]
        have h1 := sideAt_ok g (i := i + 1) (h := h)
        have h2 := rf_ok g i (h - delayOf f.r i)
        simp only
        rw [show ((i + 1 : Nat) : Int) = (i : Int) + 1 by omega, Int.add_mul ((i : Int) + 1)]
        omega
end Go.Pe

/- The arithmetic of the law RiverWays. -/
namespace Go.Pe
open Go Go.Proofs Go.Proofs.YtffckclggkjbgaaGreat
set_option maxRecDepth 20000

theorem firstE_73 {rs : List Rc} {n : Int} : ∀ {l : List Ps}, firstE rs n l ≠ 0 → firstE rs n l = 7 ∨ firstE rs n l = 3
  | [], h => absurd rfl h
  | p :: l, h => by
    rw [firstE] at h ⊢
    split
    · rename_i h0
      rw [if_pos h0] at h
      exact firstE_73 h
    · unfold passE
      split
      · split
        · rename_i h0 h1 h2; exact absurd (by simp [passE, h1, h2]) h0
        · exact .inr rfl
      · exact .inl rfl
/-- At no hour is the depth less than the least of all, nor more than the greatest; both are reached, the least first at the hour that is told. -/
theorem dsF_at' {d : Int → Bd} {lo : Int} : ∀ {n k : Nat}, k ≤ n → (dsF d lo n).1.lo ≤ (d (lo + k)).lo ∧ (d (lo + k)).hi ≤ (dsF d lo n).1.hi
  | 0, k, h => by
    obtain rfl : k = 0 := by omega
    rw [show lo + ((0 : Nat) : Int) = lo by omega]
    exact ⟨Int.le_refl _, Int.le_refl _⟩
  | n + 1, k, h => by
    by_cases hk : k = n + 1
    · subst hk
      rw [show lo + ((n + 1 : Nat) : Int) = lo + ((n : Int) + 1) by omega]
      simp only [dsF]
      generalize d (lo + ((n : Int) + 1)) = x
      split <;> omega
    · have ih := dsF_at' (d := d) (lo := lo) (n := n) (k := k) (by omega)
      simp only [dsF]
      generalize d (lo + ((n : Int) + 1)) = x
      split <;> omega
theorem dsF_lo {d : Int → Bd} {lo : Int} : ∀ {n : Nat}, ∃ k, k ≤ n ∧ (dsF d lo n).2 = lo + k ∧ (d (lo + k)).lo = (dsF d lo n).1.lo ∧ ∀ m : Nat, m < k → (dsF d lo n).1.lo < (d (lo + m)).lo
  | 0 => ⟨0, by omega, by simp [dsF], by simp [dsF], by intro m hm; omega⟩
  | n + 1 => by
    obtain ⟨k, h1, h2, h3, h4⟩ := dsF_lo (d := d) (lo := lo) (n := n)
    by_cases hc : (d (lo + ((n : Int) + 1))).lo < (dsF d lo n).1.lo
    · refine ⟨n + 1, by omega, ?_, ?_, fun m hm => ?_⟩
      · simp only [dsF, if_pos hc]; omega
      · rw [show lo + ((n + 1 : Nat) : Int) = lo + ((n : Int) + 1) by omega]
        simp only [dsF, if_pos hc]
      · have := (dsF_at' (d := d) (lo := lo) (n := n) (k := m) (by omega)).1
        simp only [dsF, if_pos hc]
        omega
    · refine ⟨k, by omega, ?_, ?_, fun m hm => ?_⟩
      · simp only [dsF, if_neg hc]; exact h2
      · simp only [dsF, if_neg hc]; exact h3
      · simp only [dsF, if_neg hc]; exact h4 m hm
theorem dsF_hi {d : Int → Bd} {lo : Int} : ∀ {n : Nat}, ∃ k, k ≤ n ∧ (d (lo + k)).hi = (dsF d lo n).1.hi
  | 0 => ⟨0, by omega, by simp [dsF]⟩
  | n + 1 => by
    obtain ⟨k, h1, h2⟩ := dsF_hi (d := d) (lo := lo) (n := n)
    by_cases hc : (dsF d lo n).1.hi ≤ (d (lo + ((n : Int) + 1))).hi
    · refine ⟨n + 1, by omega, ?_⟩
      rw [show lo + ((n + 1 : Nat) : Int) = lo + ((n : Int) + 1) by omega]
      simp only [dsF]; omega
    · exact ⟨k, by omega, by simp only [dsF]; omega⟩
theorem shF_le {D : Nat → Bd × Int} : ∀ {n : Nat}, (shF D n).lo ≤ 1000000 ∧ (shF D n).hi ≤ 1000000
  | 0 => by simp [shF]
  | n + 1 => by
    have ih := shF_le (D := D) (n := n)
    simp only [shF, shS]
    refine ⟨?_, ?_⟩ <;> split <;> omega
theorem shF_at {D : Nat → Bd × Int} : ∀ {n i : Nat}, i < n → (shF D n).lo ≤ (D i).1.lo ∧ (shF D n).hi ≤ (D i).1.hi
  | 0, i, h => by omega
  | n + 1, i, h => by
    simp only [shF, shS]
    by_cases hi : i = n
    · subst hi
      refine ⟨?_, ?_⟩ <;> split <;> omega
    · have ih := shF_at (D := D) (n := n) (i := i) (by omega)
      refine ⟨?_, ?_⟩ <;> split <;> omega
theorem shF_lo {D : Nat → Bd × Int} : ∀ {n : Nat}, (∀ i, i < n → (D i).1.lo ≤ 200000) → 0 < n → ∃ i : Nat, i < n ∧ (shF D n).pass = i ∧ (shF D n).hour = (D i).2 ∧ (D i).1.lo = (shF D n).lo ∧ ∀ m : Nat, m < i → (shF D n).lo < (D m).1.lo
  | 0, _, h => by omega
  | n + 1, hD, _ => by
    have hn := hD n (by omega)
    by_cases hn0 : n = 0
    · subst hn0
      have hc : (D 0).1.lo < 1000000 := by omega
      exact ⟨0, by omega, by simp [shF, shS, hc], by simp [shF, shS, hc], by simp [shF, shS, hc], by intro m hm; omega⟩
    · obtain ⟨i, h1, h2, h3, h4, h5⟩ := shF_lo (D := D) (n := n) (fun i hi => hD i (by omega)) (by omega)
      by_cases hc : (D n).1.lo < (shF D n).lo
      · refine ⟨n, by omega, by simp [shF, shS, hc], by simp [shF, shS, hc], by simp [shF, shS, hc], fun m hm => ?_⟩
        have := (shF_at (D := D) (n := n) (i := m) hm).1
        simp only [shF, shS, if_pos hc]; omega
      · exact ⟨i, by omega, by simp [shF, shS, hc, h2], by simp [shF, shS, hc, h3], by simp [shF, shS, hc, h4], fun m hm => by simp only [shF, shS, if_neg hc]; exact h5 m hm⟩
theorem shF_hi {D : Nat → Bd × Int} : ∀ {n : Nat}, (∀ i, i < n → (D i).1.hi ≤ 200000) → 0 < n → ∃ i : Nat, i < n ∧ (D i).1.hi = (shF D n).hi
  | 0, _, h => by omega
  | n + 1, hD, _ => by
    have hn := hD n (by omega)
    by_cases hn0 : n = 0
    · subst hn0
      have hc : (D 0).1.hi < 1000000 := by omega
      exact ⟨0, by omega, by simp [shF, shS, hc]⟩
    · obtain ⟨i, h1, h2⟩ := shF_hi (D := D) (n := n) (fun i hi => hD i (by omega)) (by omega)
      by_cases hc : (D n).1.hi < (shF D n).hi
      · exact ⟨n, by omega, by simp [shF, shS, hc]⟩
      · exact ⟨i, by omega, by simp [shF, shS, hc, h2]⟩
/-- The least depth of two parts. -/
theorem shF_split {D : Nat → Bd × Int} {a : Nat} : ∀ {b : Nat}, (shF D (a + b)).lo = min (shF D a).lo (shF (fun i => D (a + i)) b).lo ∧ (shF D (a + b)).hi = min (shF D a).hi (shF (fun i => D (a + i)) b).hi
  | 0 => by
    have := shF_le (D := D) (n := a)
    simp only [Nat.add_zero, shF]; omega
  | b + 1 => by
    have ih := shF_split (D := D) (a := a) (b := b)
    rw [show a + (b + 1) = (a + b) + 1 by omega]
    simp only [shF, shS]
    refine ⟨?_, ?_⟩ <;> (repeat' split) <;> omega
theorem shF_congr {D D' : Nat → Bd × Int} : ∀ {n : Nat}, (∀ i, i < n → D i = D' i) → shF D n = shF D' n
  | 0, _ => rfl
  | n + 1, h => by
    rw [shF, shF, shF_congr (n := n) fun i hi => h i (by omega), h n (by omega)]
theorem passD_take {f : Fc} {way : List Ps} {a i : Nat} (h : i < a) : passD f (way.take a) i = passD f way i := by
  rw [passD, passD, List.getElem?_take, if_pos h]
theorem passD_drop {f : Fc} {way : List Ps} {a i : Nat} : passD f (way.drop a) i = passD f way (a + i) := by
  rw [passD, passD, List.getElem?_drop]
theorem firstE_all {rs : List Rc} {n : Int} {l : List Ps} (h : ∀ p ∈ l, passE rs n p = 0) (h0 : l.length ≠ 0) (h6 : l.length ≤ 60) : wayE rs n l = 0 := by
  rw [wayE, if_neg h0, if_neg (by omega), firstE_ok h]
/-- A pass with more hours. -/
def wider (n : Int) (c d : Int) (p : Ps) : Ps := ⟨p.place, ⟨max 0 (p.hours.lo - c), min (n - 1) (p.hours.hi + d)⟩⟩
theorem wider_ok {rs : List Rc} {n c d : Int} {p : Ps} (h : passE rs n p = 0) (hc : 0 ≤ c) (hd : 0 ≤ d) : passE rs n (wider n c d p) = 0 := by
  unfold passE at h ⊢
  split at h
  · rename_i h1
    split at h
    · rename_i h2
      have h3 := vB_iff.1 h2
      have e1 : (wider n c d p).place = p.place := rfl
      rw [e1, if_pos h1, if_pos (vB_iff.2 (by simp only [wider]; omega))]
    · omega
  · omega
theorem wider_D {f : Fc} {way : List Ps} {n : Nat} {c d : Int} {i : Nat} {p : Ps} (hp : way[i]? = some p) (hv : vB 0 ((n : Int) - 1) p.hours = true) (hc : 0 ≤ c) (hd : 0 ≤ d) :
    (passD f (way.map (wider n c d)) i).1.lo ≤ (passD f way i).1.lo ∧ (passD f way i).1.hi ≤ (passD f (way.map (wider n c d)) i).1.hi := by
  have h3 := vB_iff.1 hv
  have e1 : (way.map (wider n c d))[i]? = some (wider n c d p) := by rw [List.getElem?_map, hp]; rfl
  rw [passD, passD, hp, e1]
  simp only
  obtain ⟨k, k1, k2, k3, _⟩ := dsF_lo (d := dF f p.place) (lo := p.hours.lo) (n := (p.hours.hi - p.hours.lo).toNat)
  obtain ⟨m, m1, m2⟩ := dsF_hi (d := dF f p.place) (lo := p.hours.lo) (n := (p.hours.hi - p.hours.lo).toNat)
  have w1 : (wider n c d p).place = p.place := rfl
  have w2 : (wider n c d p).hours.lo = max 0 (p.hours.lo - c) := rfl
  have w3 : (wider n c d p).hours.hi = min ((n : Int) - 1) (p.hours.hi + d) := rfl
  obtain ⟨u, hu⟩ : ∃ u : Nat, p.hours.lo + k = (wider n c d p).hours.lo + u ∧ u ≤ ((wider n c d p).hours.hi - (wider n c d p).hours.lo).toNat := ⟨(p.hours.lo + k - (wider n c d p).hours.lo).toNat, by omega, by omega⟩
  obtain ⟨v, hv⟩ : ∃ v : Nat, p.hours.lo + m = (wider n c d p).hours.lo + v ∧ v ≤ ((wider n c d p).hours.hi - (wider n c d p).hours.lo).toNat := ⟨(p.hours.lo + m - (wider n c d p).hours.lo).toNat, by omega, by omega⟩
  have g1 := (dsF_at' (d := dF f p.place) (lo := (wider n c d p).hours.lo) (k := u) hu.2).1
  have g2 := (dsF_at' (d := dF f p.place) (lo := (wider n c d p).hours.lo) (k := v) hv.2).2
  rw [w1, ← k3, ← m2, hu.1, hv.1]
  exact ⟨g1, g2⟩
end Go.Pe

/- What lies in memory that is written cell by cell; lists that are changed one by one. -/
namespace Go.Pe
open Go
section
variable {α : Type} {f : α → List AV} {k i j : Nat} {l : List α} {x y : α}
theorem get_rws (hf : ∀ a, (f a).length = k) (hx : l[i]? = some x) (hj : j < k) : (rws f l)[i * k + j]? = (f x)[j]? := by
  obtain ⟨h1, h2⟩ := rws_split hf hx
  rw [h1, List.append_assoc, List.getElem?_append_right (by omega), h2, List.getElem?_append_left (by rw [hf]; omega)]
  congr 1; omega
theorem cell_rws (hf : ∀ a, (f a).length = k) (hx : l[i]? = some x) (hj : j < k) {v : AV} (hv : (f x)[j]? = some v) : ((rws f l).drop (i * k + j)).take 1 = [v] ∧ i * k + j + 1 ≤ (rws f l).length := by
  have h := get_rws hf hx hj
  rw [hv] at h
  obtain ⟨h1, h2⟩ := List.getElem?_eq_some_iff.1 h
  refine ⟨?_, h1⟩
  rw [List.drop_eq_getElem_cons h1, h2]; rfl
theorem set_cell (hf : ∀ a, (f a).length = k) (hx : l[i]? = some x) (hj : j < k) {v : AV} (hy : (f x).set j v = f y) : (rws f l).set (i * k + j) v = rws f (l.set i y) := by
  have hi := (List.getElem?_eq_some_iff.1 hx).1
  obtain ⟨h1, h2⟩ := rws_split hf hx
  have hx' : (l.set i y)[i]? = some y := by rw [List.getElem?_set_self hi]
  obtain ⟨h3, h4⟩ := rws_split hf hx'
  have e1 : (l.set i y).take i = l.take i := by rw [List.take_set_of_le (Nat.le_refl i)]
  have e2 : (l.set i y).drop (i + 1) = l.drop (i + 1) := by rw [List.drop_set_of_lt (by omega)]
  rw [e1, e2] at h3
  rw [h1, h3, List.append_assoc, List.append_assoc, List.set_append_right _ _ (by omega), h2, show i * k + j - i * k = j by omega, List.set_append_left _ _ (by rw [hf]; exact hj), hy]
theorem storeA_cell {T : TI} {h : H} {b o : Nat} {cs cs' l : List AV} {x : AV} (hb : h.get b = some cs) (hl : cellsOf x = some l) (h1 : l.length = T.size) (h2 : o + T.size ≤ cs.length) (h3 : cs.take o ++ l ++ cs.drop (o + l.length) = cs') : storeA T h (.ptr b o) x = some (.val undef, h.set b cs') := by
  simp only [storeA, hl, hb]
  rw [if_pos ⟨h1, h2⟩, h3]
theorem on_cell {T : TI} {h : H} {b o : Nat} {v : AV} {cs cs' : List AV} {K : AV × H → Prop} {t : Tag K} (hb : h.get b = some cs) (hv : cellsOf v = some [v]) (hT : T.size = 1) (ho : o + 1 ≤ cs.length) (hs : cs.set o v = cs') (hK : K (.val undef, h.set b cs')) : onSome (storeA T h (.ptr b o) v) K t := by
  have : storeA T h (.ptr b o) v = some (.val undef, h.set b cs') := by
    refine storeA_cell hb hv (by rw [hT]; rfl) (by rw [hT]; exact ho) ?_
    rw [← hs, List.set_eq_take_append_cons_drop, if_pos (by omega)]
    simp
  rw [this]; exact hK
/-- A list whose first elements have been changed. -/
def mapL (g : α → α) (l : List α) (m : Nat) : List α := (l.take m).map g ++ l.drop m
theorem mapL_zero {g : α → α} : mapL g l 0 = l := by simp [mapL]
theorem mapL_all {g : α → α} : mapL g l l.length = l.map g := by simp [mapL]
theorem mapL_at {g : α → α} {m : Nat} (hp : l[m]? = some x) : (mapL g l m)[m]? = some x := by
  have hm := (List.getElem?_eq_some_iff.1 hp).1
  rw [mapL, List.getElem?_append_right (by simp; omega), List.getElem?_drop]
  rw [show m + (m - ((l.take m).map g).length) = m by simp; omega]
  exact hp
theorem mapL_set {g : α → α} {m : Nat} (hp : l[m]? = some x) : (mapL g l m).set m (g x) = mapL g l (m + 1) := by
  have hm := (List.getElem?_eq_some_iff.1 hp).1
  have hl : ((l.take m).map g).length = m := by simp; omega
  rw [mapL, List.set_append_right _ _ (by omega), hl, Nat.sub_self, List.drop_eq_getElem_cons hm, List.set_cons_zero, mapL, List.take_add_one, hp]
  simp
theorem mapL_len {g : α → α} {m : Nat} (hm : m ≤ l.length) : (mapL g l m).length = l.length := by simp [mapL]; omega
end
end Go.Pe
