import Derived.Test.YtffckclggkjbgaaGreatY41
import Derived.Test.YtffckclggkjbgaaGreatY30
import Derived.Test.YtffckclggkjbgaaGreatY29
set_option linter.unusedVariables false
set_option linter.unusedSimpArgs false
/- Shallowest. -/
namespace Go.Pe
open Go Go.Proofs Go.Proofs.YtffckclggkjbgaaGreat
set_option maxRecDepth 20000
set_option maxHeartbeats 8000000

/-- The shallowest pass so far: its depth, its number and its hour. -/
structure Sw where
  lo : Int
  hi : Int
  pass : Int
  hour : Int
def shS (s : Sw) (i : Nat) (d : Bd × Int) : Sw := ⟨if d.1.lo < s.lo then d.1.lo else s.lo, if d.1.hi < s.hi then d.1.hi else s.hi, if d.1.lo < s.lo then i else s.pass, if d.1.lo < s.lo then d.2 else s.hour⟩
def shF (D : Nat → Bd × Int) : Nat → Sw
  | 0 => ⟨1000000, 1000000, 0, 0⟩
  | i + 1 => shS (shF D i) i (D i)
def sgF (D : Nat → Bd × Int) (i : Nat) : Sw := if i = 0 then ⟨0, 0, 0, 0⟩ else shF D i
noncomputable def passD (f : Fc) (way : List Ps) (i : Nat) : Bd × Int := match way[i]? with
  | some p => dsF (dF f p.place) p.hours.lo (p.hours.hi - p.hours.lo).toNat
  | none => (⟨0, 0⟩, 0)
theorem dsF_in {d : Int → Bd} {a : Nat} : ∀ {n : Nat}, (∀ k : Nat, a ≤ k → k ≤ a + n → (0 ≤ (d k).lo ∧ (d k).lo ≤ 200000) ∧ 0 ≤ (d k).hi ∧ (d k).hi ≤ 200000) → (0 ≤ (dsF d a n).1.lo ∧ (dsF d a n).1.lo ≤ 200000) ∧ 0 ≤ (dsF d a n).1.hi ∧ (dsF d a n).1.hi ≤ 200000
  | 0, h => by have := h a (by omega) (by omega); simpa [dsF] using this
  | n + 1, h => by
    have ih := dsF_in (n := n) fun k h1 h2 => h k h1 (by omega)
    have hx := h (a + (n + 1)) (by omega) (by omega)
    rw [show ((a + (n + 1) : Nat) : Int) = (a : Int) + (n + 1) by omega] at hx
    simp only [dsF]
    split <;> omega
theorem pass_at {f : Fc} {way : List Ps} {p : Ps} (o : OkRv f) (hs : f.r.ss.length ≤ 50) (h : passE f.r.rs (hrs f.sides) p = 0) : (0 ≤ p.place ∧ p.place < lenSum f.r.rs) ∧ vB 0 (hrs f.sides - 1) p.hours = true := by
  unfold passE at h
  split at h
  · rename_i h1
    have := inB_iff.1 h1
    split at h
    · rename_i h2; exact ⟨by omega, h2⟩
    · omega
  · omega
theorem passD_in {f : Fc} {way : List Ps} {i : Nat} {p : Ps} (g : GoodF f) (o : OkRv f) (hp : way[i]? = some p) (h : passE f.r.rs (hrs f.sides) p = 0) : (0 ≤ (passD f way i).1.lo ∧ (passD f way i).1.lo ≤ 200000) ∧ 0 ≤ (passD f way i).1.hi ∧ (passD f way i).1.hi ≤ 200000 := by
  obtain ⟨h1, h2⟩ := pass_at (way := way) o g.small.r.m h
  have h2' := vB_iff.1 h2
  obtain ⟨q, y, ha⟩ := At.ex h1.1 h1.2
  rw [passD, hp]
  simp only
  have ea : p.hours.lo = (p.hours.lo.toNat : Int) := by omega
  rw [ea]
  refine dsF_in fun k k1 k2 => dF_in g o ha (by omega)
theorem Shallowest_bad {f : Fc} {f1 f2 fw : Bool} {way : List Ps} {h : H} (hw : SmallF f) (he : startE f ≠ 0) : Fn Tryz.prog 110 [f.r.av f1, sidesAV f.sides f2, .ro fw 3 (way.map fPs)] h (.tup [.agg [I 0, I 0], I 0, I 0, I (startE f)]) h := by
  refine Fn.beside ?_ rfl h
  refine Fn.ofR0 noM (by kernel_rfl) Tryz.func110 rfl (by simp) ?_
  have ne0 : (startE f != 0) = true := by simpa using he
  simp -dsimp -implicitDefEqProofs
  refine onCall_in (newStream_bad hw he) ?_
  simp -dsimp -implicitDefEqProofs [ne0]
theorem Shallowest_err {f : Fc} {f1 f2 fw : Bool} {way : List Ps} {h : H} (g : GoodF f) (o : OkRv f) (he : startE f = 0) (hl : way.length ≤ 1000) (hE : wayE f.r.rs (hrs f.sides) way ≠ 0) : Fn Tryz.prog 110 [f.r.av f1, sidesAV f.sides f2, .ro fw 3 (way.map fPs)] h (.tup [.agg [I 0, I 0], I 0, I 0, I (wayE f.r.rs (hrs f.sides) way)]) h := by
  refine Fn.beside ?_ rfl h
  refine Fn.ofR0 noM (by kernel_rfl) Tryz.func110 rfl (by simp) ?_
  have hm := g.hmax
  have ne0 : (wayE f.r.rs (hrs f.sides) way != 0) = true := by simpa using hE
  simp -dsimp -implicitDefEqProofs
  refine onCall_in (newStream_fn g he) ?_
  simp -dsimp -implicitDefEqProofs
  refine onCall_in (along_err o.len g.small.r.n (by omega) hl hE) ?_
  simp -dsimp -implicitDefEqProofs [ne0]
theorem Shallowest_fn {f : Fc} {f1 f2 fw : Bool} {way : List Ps} {h : H} (g : GoodF f) (o : OkRv f) (he : startE f = 0) (hE : wayE f.r.rs (hrs f.sides) way = 0) : Fn Tryz.prog 110 [f.r.av f1, sidesAV f.sides f2, .ro fw 3 (way.map fPs)] h (.tup [.agg [I (shF (passD f way) way.length).lo, I (shF (passD f way) way.length).hi], I (shF (passD f way) way.length).pass, I (shF (passD f way) way.length).hour, I 0]) h := by
  refine Fn.beside ?_ rfl h
  refine Fn.ofR0 noM (by kernel_rfl) Tryz.func110 rfl (by simp) ?_
  have hm := g.hmax
  have hmm := g.small.r.m
  have hw : way.length ≠ 0 ∧ way.length ≤ 60 ∧ ∀ p ∈ way, passE f.r.rs (hrs f.sides) p = 0 := by
    unfold wayE at hE
    split at hE
    · omega
    · split at hE
      · omega
      · exact ⟨by omega, by omega, firstE_zero hE⟩
  obtain ⟨hw0, hw6, hwp⟩ := hw
  obtain ⟨fl, hfl⟩ : ∃ fl, fl = flowsF f.r f.sides := ⟨_, rfl⟩
  have c1 : ∀ h, Fn Tryz.prog 86 [f.r.av f1, sidesAV f.sides f2] h (.tup [stAV f.r f1 (hrs f.sides) (.ro false 1 (fl.map fL)), I 0]) h := fun h => by rw [hfl]; exact newStream_fn g he
  have c2 : ∀ h, Fn Tryz.prog 145 [stAV f.r f1 (hrs f.sides) (.ro false 1 (fl.map fL)), .ro fw 3 (way.map fPs)] h (.tup [.ro false 11 ((spotsF f.r.rs way).map fSp), I 0]) h := fun h => along_fn o.len g.small.r.n (by omega) hE
  have hslen : (spotsF f.r.rs way).length = way.length := by simp [spotsF]
  obtain ⟨D, hD⟩ : ∃ D, D = passD f way := ⟨_, rfl⟩
  have c3 : ∀ i p, way[i]? = some p → ∃ (y : Rc) (q : Nat), (spotsF f.r.rs way)[i]? = some (some ⟨y, q, p.place⟩) ∧ ∀ h, Fn Tryz.prog 146 [stAV f.r f1 (hrs f.sides) (.ro false 1 (fl.map fL)), .agg (fR y ++ [I q, I p.place]), .agg [I p.hours.lo, I p.hours.hi]] h (.tup [.agg [I (D i).1.lo, I (D i).1.hi], I (D i).2]) h := fun i p hp => by
    obtain ⟨h1, h2⟩ := pass_at (way := way) o hmm (hwp p (List.mem_of_getElem? hp))
    obtain ⟨q, y, ha⟩ := At.ex h1.1 h1.2
    refine ⟨y, q, by simp [spotsF, hp, spotOf_eq o.len ha], fun h => ?_⟩
    have := depths_fn (f1 := f1) (h := h) g o ha h2
    rw [hD, passD, hp, hfl]; exact this
  have hDin : ∀ i p, way[i]? = some p → (D i).1.lo ≤ 200000 ∧ (D i).1.hi ≤ 200000 := fun i p hp => by
    have := passD_in (way := way) g o hp (hwp p (List.mem_of_getElem? hp))
    rw [hD]; omega
  rw [← hD]
  clear hD
  simp -dsimp -implicitDefEqProofs
  refine onCall_in (c1 _) ?_
  simp -dsimp -implicitDefEqProofs
  refine onCall_in (c2 _) ?_
  simp -dsimp -implicitDefEqProofs
  refine LoopCR.on 88 (fun i => [(2, .ro fw 3 (way.map fPs)), (6, .ptr 1 0), (7, I (sgF D i).pass), (8, I (sgF D i).hour), (10, .ptr 2 0), (40, .ro false 11 ((spotsF f.r.rs way).map fSp)), (41, I way.length), (42, I (i : Nat))])
    (fun i => [some [f.r.reaches f1, f.r.shoals], some [I (sgF D i).lo, I (sgF D i).hi], some [f.r.reaches f1, f.r.shoals, I (hrs f.sides), .ro false 1 (fl.map fL)]]) (fun i => i ≤ way.length) (fun i => way.length - i) 0 [0, 1, 2] (by simp) ?_ ?_
  · simp -dsimp -implicitDefEqProofs [sgF, hslen]
  intro i j hi
  simp -dsimp -implicitDefEqProofs
  refine ifD_in (fun hlt => ?_) (fun hge => ?_)
  · have hlt' : i < way.length := by omega
    obtain ⟨p, hp⟩ : ∃ p, way[i]? = some p := ⟨_, List.getElem?_eq_getElem hlt'⟩
    obtain ⟨y, q, e1, c4⟩ := c3 i p hp
    have hd := hDin i p hp
    have hs : sgF D (i + 1) = shS (shF D i) i (D i) := rfl
    obtain ⟨d, hde⟩ : ∃ d, d = D i := ⟨_, rfl⟩
    rw [← hde] at hs hd
    simp only [← hde] at c4
    have wi : IntKind.i64.wrap ((i : Int) + 1) = ((i + 1 : Nat) : Int) := by rw [wrap_in (by omega) (by omega)]; omega
    simp -dsimp -implicitDefEqProofs [e1, fSp, spotAV]
    refine DrawR.on {} (by kernel_rfl) (by simp) ?_
    simp -dsimp -implicitDefEqProofs [hp]
    refine onCallQ_in (c4 _) ?_
    by_cases h0 : i = 0
    · subst h0
      have l1 : d.1.lo < 1000000 := by omega
      have l2 : d.1.hi < 1000000 := by omega
      simp only [shF, shS, if_pos l1, if_pos l2] at hs
      simp -dsimp -implicitDefEqProofs
      refine again_in 1 [0, 1, 2] (by omega) (by omega) ?_
      simp -dsimp -implicitDefEqProofs [hs]
      exact ⟨⟨(if_pos l1).symm, (if_pos l2).symm⟩, (if_pos l1).symm, by decide⟩
    · have hg : sgF D i = shF D i := by rw [sgF, if_neg h0]
      have b0 : ((i : Int) == 0) = false := beq_eq_false_iff_ne.2 (by omega)
      rw [hg]
      obtain ⟨s, hse⟩ : ∃ s, s = shF D i := ⟨_, rfl⟩
      rw [← hse] at hs ⊢
      simp only [shS] at hs
      simp -dsimp -implicitDefEqProofs [b0, h0]
      refine ifD_in (fun h3 => ?_) (fun h3 => ?_)
      · simp only [if_pos h3] at hs
        simp -dsimp -implicitDefEqProofs [b0, h0]
        refine ifD_in (fun h4 => ?_) (fun h4 => ?_)
        · simp only [if_pos h4] at hs
          simp -dsimp -implicitDefEqProofs [wi]
          refine again_in (i + 1) [0, 1, 2] (by omega) (by omega) ?_
          simp -dsimp -implicitDefEqProofs [hs]
        · simp only [if_neg h4] at hs
          simp -dsimp -implicitDefEqProofs [wi]
          refine again_in (i + 1) [0, 1, 2] (by omega) (by omega) ?_
          simp -dsimp -implicitDefEqProofs [hs]
      · simp only [if_neg h3] at hs
        simp -dsimp -implicitDefEqProofs [b0, h0]
        refine ifD_in (fun h4 => ?_) (fun h4 => ?_)
        · simp only [if_pos h4] at hs
          simp -dsimp -implicitDefEqProofs [wi]
          refine again_in (i + 1) [0, 1, 2] (by omega) (by omega) ?_
          simp -dsimp -implicitDefEqProofs [hs]
        · simp only [if_neg h4] at hs
          simp -dsimp -implicitDefEqProofs [wi]
          refine again_in (i + 1) [0, 1, 2] (by omega) (by omega) ?_
          simp -dsimp -implicitDefEqProofs [hs]
  · have hin : i = way.length := by omega
    subst hin
    have hg : sgF D way.length = shF D way.length := by rw [sgF, if_neg hw0]
    simp -dsimp -implicitDefEqProofs [hg]
end Go.Pe

/- The law RiverShallow. -/
namespace Go.Pe
open Go Go.Proofs Go.Proofs.YtffckclggkjbgaaGreat
set_option maxRecDepth 20000
set_option maxHeartbeats 8000000
theorem neq77 {a b c a' b' c' : Int} {k : TK} {s : Nat} {z : List Value} {a1 f : Bool} {by' : Nat} : binX Tryz.prog 64 { kind := k, size := s, zero := z, agg := a1, bytes := by', fok := f, cmp := true } .neq (.agg [I a, I b, I c]) (.agg [I a', I b', I c']) = some (B (!(a == a' && ((b == b' && (c == c' && true)) && true)))) := by kernel_rfl
attribute [local simp] neq77
theorem rv_of_start {f : Fc} (h : startE f = 0) : validRv f.r = true := by
  unfold startE at h
  split at h
  · assumption
  · omega
theorem rs_cases {f : Fc} {way : List Ps} (hw : SmallF f) (hl : way.length ≤ 1000) : ∃ a b c d e : Int, (∀ f1 f2 h, Fn Tryz.prog 110 [f.r.av f1, sidesAV f.sides f2, .ro false 3 (way.map fPs)] h (.tup [.agg [I a, I b], I c, I d, I e]) h) ∧
    ((startE f ≠ 0 ∧ a = 0 ∧ b = 0 ∧ c = 0 ∧ d = 0 ∧ e = startE f) ∨ (startE f = 0 ∧ OkRv f ∧ wayE f.r.rs (hrs f.sides) way ≠ 0 ∧ a = 0 ∧ b = 0 ∧ c = 0 ∧ d = 0 ∧ e = wayE f.r.rs (hrs f.sides) way) ∨
      (startE f = 0 ∧ OkRv f ∧ wayE f.r.rs (hrs f.sides) way = 0 ∧ a = (shF (passD f way) way.length).lo ∧ b = (shF (passD f way) way.length).hi ∧ c = (shF (passD f way) way.length).pass ∧ d = (shF (passD f way) way.length).hour ∧ e = 0)) := by
  by_cases he : startE f = 0
  · have g := good_of hw he
    have o : OkRv f := okRv_of (rv_of_start he)
    by_cases hE : wayE f.r.rs (hrs f.sides) way = 0
    · exact ⟨_, _, _, _, _, fun f1 f2 h => Shallowest_fn g o he hE, .inr (.inr ⟨he, o, hE, rfl, rfl, rfl, rfl, rfl⟩)⟩
    · exact ⟨_, _, _, _, _, fun f1 f2 h => Shallowest_err g o he hl hE, .inr (.inl ⟨he, o, hE, rfl, rfl, rfl, rfl, rfl⟩)⟩
  · exact ⟨_, _, _, _, _, fun f1 f2 h => Shallowest_bad hw he, .inl ⟨he, rfl, rfl, rfl, rfl, rfl⟩⟩
end Go.Pe

/- The least depth of a passage, and whether a hull can take it. -/
namespace Go.Pe
open Go Go.Proofs Go.Proofs.YtffckclggkjbgaaGreat
set_option maxRecDepth 20000
set_option maxHeartbeats 8000000
attribute [local simp] ts22 us22 ts24 us24 ts25 us25 ts34 us34 ts39 us39 ts57 us57 ts156 us156 ts53 us53 ts64 us64
attribute [local simp] convA extA lenA
attribute [local simp] fSec_eq loadAV_eq
/-- A passage. -/
structure Pg where
  f : Fc
  way : List Ps
  keel : Int
noncomputable def pgC (p : Pg) (f1 f2 fw : Bool) : List AV := [p.f.r.reaches f1, p.f.r.shoals, sidesAV p.f.sides f2, .ro fw 3 (p.way.map fPs), I p.keel]
theorem pgC_eq {p : Pg} {f1 f2 fw : Bool} : pgC p f1 f2 fw = [p.f.r.reaches f1, p.f.r.shoals, sidesAV p.f.sides f2, .ro fw 3 (p.way.map fPs), I p.keel] := rfl
attribute [local simp] pgC_eq
/-- The error of a passage. -/
noncomputable def pgE (p : Pg) : Int := if inB 0 500 p.keel = false then 3 else if startE p.f ≠ 0 then startE p.f else wayE p.f.r.rs (hrs p.f.sides) p.way
/-- The least depth of a passage, or nothing. -/
noncomputable def lsD (p : Pg) : Sw := if pgE p = 0 then shF (passD p.f p.way) p.way.length else ⟨0, 0, 0, 0⟩
theorem rsw_cases {f : Fc} {way : List Ps} {fw : Bool} (hw : SmallF f) (hl : way.length ≤ 1000) : ∃ a b c d e : Int, (∀ f1 f2 h, Fn Tryz.prog 110 [f.r.av f1, sidesAV f.sides f2, .ro fw 3 (way.map fPs)] h (.tup [.agg [I a, I b], I c, I d, I e]) h) ∧
    ((startE f ≠ 0 ∧ a = 0 ∧ b = 0 ∧ c = 0 ∧ d = 0 ∧ e = startE f) ∨ (startE f = 0 ∧ OkRv f ∧ wayE f.r.rs (hrs f.sides) way ≠ 0 ∧ a = 0 ∧ b = 0 ∧ c = 0 ∧ d = 0 ∧ e = wayE f.r.rs (hrs f.sides) way) ∨
      (startE f = 0 ∧ OkRv f ∧ wayE f.r.rs (hrs f.sides) way = 0 ∧ a = (shF (passD f way) way.length).lo ∧ b = (shF (passD f way) way.length).hi ∧ c = (shF (passD f way) way.length).pass ∧ d = (shF (passD f way) way.length).hour ∧ e = 0)) := by
  by_cases he : startE f = 0
  · have g := good_of hw he
    have o : OkRv f := okRv_of (rv_of_start he)
    by_cases hE : wayE f.r.rs (hrs f.sides) way = 0
    · exact ⟨_, _, _, _, _, fun f1 f2 h => Shallowest_fn g o he hE, .inr (.inr ⟨he, o, hE, rfl, rfl, rfl, rfl, rfl⟩)⟩
    · exact ⟨_, _, _, _, _, fun f1 f2 h => Shallowest_err g o he hl hE, .inr (.inl ⟨he, o, hE, rfl, rfl, rfl, rfl, rfl⟩)⟩
  · exact ⟨_, _, _, _, _, fun f1 f2 h => Shallowest_bad hw he, .inl ⟨he, rfl, rfl, rfl, rfl, rfl⟩⟩
noncomputable def lsC (s : Sw) : List AV := [I s.lo, I s.hi, I s.pass, I s.hour]
theorem lsC_eq {s : Sw} : lsC s = [I s.lo, I s.hi, I s.pass, I s.hour] := rfl
theorem leastOn_fn {p : Pg} {f1 f2 fw : Bool} {h : H} (hw : SmallF p.f) (hl : p.way.length ≤ 1000) : Fn Tryz.prog 71 [.agg (pgC p f1 f2 fw)] h (.tup [.agg (lsC (lsD p)), I (pgE p)]) h := by
  refine Fn.beside ?_ rfl h
  refine Fn.ofR0 noM (by kernel_rfl) Tryz.func71 rfl (by simp) ?_
  simp -dsimp -implicitDefEqProofs
  refine onCall_in (vin1_fn (lo := 0) (hi := 500) (x := p.keel)) ?_
  simp -dsimp -implicitDefEqProofs
  refine ifB_in (fun hk => ?_) (fun hk => ?_)
  rotate_left
  · have e : pgE p = 3 := by simp [pgE, hk]
    have e2 : lsD p = ⟨0, 0, 0, 0⟩ := by unfold lsD; rw [if_neg (by omega)]
    simp -dsimp -implicitDefEqProofs [e, e2, lsC]
  refine Exists.elim (rsw_cases (fw := fw) hw hl) fun a h => Exists.elim h fun b h => Exists.elim h fun c h => Exists.elim h fun d h => Exists.elim h fun e h => ?_
  have h1 := h.1 f1 f2
  have hR : pgE p = e ∧ lsD p = ⟨a, b, c, d⟩ := by
    rcases h.2 with ⟨q1, q2, q3, q4, q5, q6⟩ | ⟨q1, _, q7, q2, q3, q4, q5, q6⟩ | ⟨q1, _, q7, q2, q3, q4, q5, q6⟩
    · have e1 : pgE p = e := by simp [pgE, hk, q1, q6]
      exact ⟨e1, by unfold lsD; rw [if_neg (by omega), q2, q3, q4, q5]⟩
    · have e1 : pgE p = e := by simp [pgE, hk, q1, q6]
      exact ⟨e1, by unfold lsD; rw [if_neg (by omega), q2, q3, q4, q5]⟩
    · have e1 : pgE p = e := by simp [pgE, hk, q1, q6, q7]
      exact ⟨e1, by unfold lsD; rw [if_pos (by omega), q2, q3, q4, q5]⟩
  clear h
  have e1 := hR.1
  have e2 := hR.2
  simp -dsimp -implicitDefEqProofs
  refine onCall_in (h1 _) ?_
  simp -dsimp -implicitDefEqProofs [e1, e2, lsC]
theorem surely_fn {s : Sw} {a b c d e k : Int} {h : H} (hd : d.natAbs ≤ 1000000000000) (hk : k.natAbs ≤ 1000000000000) : Fn Tryz.prog 72 [.agg (lsC s), .agg [I a, I b, I c, I d, I e], I k] h (B (decide (d + k ≤ s.lo))) h := by
  refine Fn.beside ?_ rfl h
  refine Fn.ofR0 noM (by kernel_rfl) Tryz.func72 rfl (by simp) ?_
  have v := wrap_in (n := d + k) (by omega) (by omega)
  simp -dsimp -implicitDefEqProofs [lsC_eq, v]
theorem possibly_fn {s : Sw} {a b c d e k : Int} {h : H} (hd : c.natAbs ≤ 1000000000000) (hk : k.natAbs ≤ 1000000000000) : Fn Tryz.prog 73 [.agg (lsC s), .agg [I a, I b, I c, I d, I e], I k] h (B (decide (c + k ≤ s.hi))) h := by
  refine Fn.beside ?_ rfl h
  refine Fn.ofR0 noM (by kernel_rfl) Tryz.func73 rfl (by simp) ?_
  have v := wrap_in (n := c + k) (by omega) (by omega)
  simp -dsimp -implicitDefEqProofs [lsC_eq, v]
/-- A loaded hull, and water. -/
structure Ld where
  u : Hu
  l : List Int
  b : Bd
/-- The error of Safe. -/
noncomputable def safE (x : Ld) (p : Pg) : Int := if fltE x.u x.l x.b ≠ 0 then fltE x.u x.l x.b else pgE p
noncomputable def dLo (x : Ld) : Int := mZ x.u x.l x.b.hi + trm x.u x.l
noncomputable def dHi (x : Ld) : Int := mZ x.u x.l x.b.lo + trm x.u x.l
theorem flt_ok {x : Ld} (h : fltE x.u x.l x.b = 0) : OkU x.u ∧ OkL x.u x.l ∧ vB 900 1100 x.b = true ∧ dHi x ≤ lim x.u := by
  unfold fltE at h
  split at h; · omega
  split at h; · rename_i c; exact absurd h c
  split at h; · omega
  split at h
  · rename_i a b c d
    exact ⟨okU (by simpa using a), loadE_ok (by simpa using b), by simpa using c, d⟩
  · omega
theorem floatR_ok {x : Ld} (h : fltE x.u x.l x.b = 0) : floatR x.u x.l x.b = [I (mZ x.u x.l x.b.hi), I (mZ x.u x.l x.b.lo), I (dLo x), I (dHi x), I (sgn (mom x.u x.l))] := by unfold floatR; rw [if_pos h]; rfl
theorem d_in {x : Ld} (h : fltE x.u x.l x.b = 0) : (0 ≤ dLo x ∧ dLo x ≤ 200000000) ∧ 0 ≤ dHi x ∧ dHi x ≤ 1000 := by
  obtain ⟨o, k, hb, hd⟩ := flt_ok h
  have h1 := mZ_in (l := x.l) (d := x.b.hi) o
  have h2 := mZ_in (l := x.l) (d := x.b.lo) o
  have h3 := trm_in o k
  have h4 := lim_in o
  unfold dHi at hd ⊢
  unfold dLo
  omega
noncomputable def sure (x : Ld) (p : Pg) : Bool := decide (dHi x + p.keel ≤ (lsD p).lo)
noncomputable def poss (x : Ld) (p : Pg) : Bool := decide (dLo x + p.keel ≤ (lsD p).hi)
theorem keel_of {p : Pg} (h : pgE p = 0) : 0 ≤ p.keel ∧ p.keel ≤ 500 := by
  unfold pgE at h
  split at h; · omega
  rename_i hk
  exact inB_iff.1 (by simpa using hk)
theorem Safe_fn {x : Ld} {p : Pg} {g1 g2 f1 f2 fw : Bool} {h : H} (hu : SmallU x.u) (hl : (x.l.length : Int) ≤ 1000) (hw : SmallF p.f) (hwl : p.way.length ≤ 1000) :
    Fn Tryz.prog 31 [.agg [I x.u.a, .ro g1 5 (x.u.ss.map fSec)], loadAV g2 x.l, .agg [I x.b.lo, I x.b.hi], .agg (pgC p f1 f2 fw)] h
      (.tup [B (decide (safE x p = 0) && sure x p), B (decide (safE x p = 0) && poss x p), I (if safE x p = 0 then (lsD p).pass else 0), I (if safE x p = 0 then (lsD p).hour else 0), I (safE x p)]) h := by
  refine Fn.beside ?_ rfl h
  refine Fn.ofR0 noM (by kernel_rfl) Tryz.func31 rfl (by simp) ?_
  have cF : ∀ h, Fn Tryz.prog 21 [.agg [I x.u.a, .ro g1 5 (x.u.ss.map fSec)], loadAV g2 x.l, .agg [I x.b.lo, I x.b.hi]] h (.tup [.agg (floatR x.u x.l x.b), I (fltE x.u x.l x.b)]) h := fun h => Float_fn hu hl
  have cL : ∀ h, Fn Tryz.prog 71 [.agg (pgC p f1 f2 fw)] h (.tup [.agg (lsC (lsD p)), I (pgE p)]) h := fun h => leastOn_fn hw hwl
  simp only [loadAV_eq] at cF
  simp only [pgC_eq, lsC_eq] at cL
  simp -dsimp -implicitDefEqProofs
  refine onCall_in (cF _) ?_
  refine (Classical.em (fltE x.u x.l x.b = 0)).elim (fun hf => ?_) (fun hf => ?_)
  rotate_left
  · have n1 : (fltE x.u x.l x.b != 0) = true := by simpa using hf
    have e : safE x p = fltE x.u x.l x.b := by simp [safE, hf]
    have e2 : (fltE x.u x.l x.b = 0) = False := eq_false hf
    have e3 : floatR x.u x.l x.b = [I 0, I 0, I 0, I 0, I 0] := by unfold floatR; rw [if_neg hf]
    simp -dsimp -implicitDefEqProofs [n1, e, e2, e3]
  have e3 := floatR_ok hf
  simp -dsimp -implicitDefEqProofs [hf, e3]
  refine onCall_in (cL _) ?_
  refine (Classical.em (pgE p = 0)).elim (fun hp => ?_) (fun hp => ?_)
  rotate_left
  · have n1 : (pgE p != 0) = true := by simpa using hp
    have e : safE x p = pgE p := by simp [safE, hf]
    have e2 : (pgE p = 0) = False := eq_false hp
    simp -dsimp -implicitDefEqProofs [n1, e, e2]
  have e : safE x p = 0 := by simp [safE, hf, hp]
  have hd := d_in hf
  have hk := keel_of hp
  have c1 : ∀ h, Fn Tryz.prog 72 [.agg [I (lsD p).lo, I (lsD p).hi, I (lsD p).pass, I (lsD p).hour], .agg [I (mZ x.u x.l x.b.hi), I (mZ x.u x.l x.b.lo), I (dLo x), I (dHi x), I (sgn (mom x.u x.l))], I p.keel] h (B (sure x p)) h := fun h => surely_fn (s := lsD p) (by omega) (by omega)
  have c2 : ∀ h, Fn Tryz.prog 73 [.agg [I (lsD p).lo, I (lsD p).hi, I (lsD p).pass, I (lsD p).hour], .agg [I (mZ x.u x.l x.b.hi), I (mZ x.u x.l x.b.lo), I (dLo x), I (dHi x), I (sgn (mom x.u x.l))], I p.keel] h (B (poss x p)) h := fun h => possibly_fn (s := lsD p) (by omega) (by omega)
  simp -dsimp -implicitDefEqProofs [hp]
  refine DrawR.on {} (by kernel_rfl) (by simp) ?_
  simp -dsimp -implicitDefEqProofs
  refine onCallQ_in (c1 _) ?_
  simp -dsimp -implicitDefEqProofs
  refine onCallQ_in (c2 _) ?_
  simp -dsimp -implicitDefEqProofs [e]
end Go.Pe
