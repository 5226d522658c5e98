import Derived.Test.YtffckclggkjbgaaGreatR01
import Derived.Test.YtffckclggkjbgaaGreatN01
set_option linter.unusedVariables false
set_option linter.unusedSimpArgs false
/- The least depth at a spot in some hours. -/
namespace Go.Pe
open Go Go.Proofs Go.Proofs.YtffckclggkjbgaaGreat
set_option maxRecDepth 20000
set_option maxHeartbeats 8000000

/-- The depth at a place in an hour. -/
noncomputable def dF (f : Fc) (p k : Int) : Bd := match spotOf f.r.rs p with
  | some s => dpt (lvl s.y (rf f.r f.sides s.q k)) (bedF p k s.y.bot f.r.ss)
  | none => ⟨0, 0⟩
theorem dF_eq {f : Fc} {p k : Int} {q : Nat} {y : Rc} (o : OkRv f) (a : At f.r.rs p q y) : dF f p k = dpt (lvl y (rf f.r f.sides q k)) (bedF p k y.bot f.r.ss) := by
  rw [dF, spotOf_eq o.len a]
theorem dpt_in {l b : Bd} (hl : (0 ≤ l.lo ∧ l.lo ≤ 10000) ∧ 0 ≤ l.hi ∧ l.hi ≤ 10000) (hb : b.lo.natAbs ≤ 100000 ∧ b.hi.natAbs ≤ 100000) : (0 ≤ (dpt l b).lo ∧ (dpt l b).lo ≤ 200000) ∧ 0 ≤ (dpt l b).hi ∧ (dpt l b).hi ≤ 200000 := by
  simp only [dpt]; omega
theorem dF_in {f : Fc} {p : Int} {k : Nat} {q : Nat} {y : Rc} (g : GoodF f) (o : OkRv f) (a : At f.r.rs p q y) (hk : k < hrs f.sides) : (0 ≤ (dF f p k).lo ∧ (dF f p k).lo ≤ 200000) ∧ 0 ≤ (dF f p k).hi ∧ (dF f p k).hi ≤ 200000 := by
  have hm := g.hmax
  have hv := validR_parts ((List.all_eq_true.1 g.rv) y (List.mem_of_getElem? a.hx))
  have hbot := vB_iff.1 hv.2.2.2.2.2.2
  rw [dF_eq o a]
  exact dpt_in (lvl_in hv.2.2.2.1 hv.2.2.2.2.1) (bedF_in (by omega) (by omega) (by omega) o.sh)
theorem depthS_fn {f : Fc} {f1 : Bool} {p : Int} {q k : Nat} {y : Rc} {h : H} (g : GoodF f) (o : OkRv f) (ha : At f.r.rs p q y) (hk : k < hrs f.sides) :
    Fn Tryz.prog 88 [stAV f.r f1 (hrs f.sides) (.ro false 1 ((flowsF f.r f.sides).map fL)), .agg (spotAV y q p), I k] h (.agg [I (dF f p k).lo, I (dF f p k).hi]) h := by
  have hn := g.small.n
  have hq := (List.getElem?_eq_some_iff.1 ha.hx).1
  obtain ⟨row, e1, e2, e3⟩ := flowsF_rf g f.sides.length (Nat.le_refl _) q (by have := g.eq; omega)
  rw [List.take_length] at e1
  have hin := rf_in g q (k : Int)
  have hbig : (q + 1) * 10000000000 ≤ 250000000000 := Nat.mul_le_mul_right 10000000000 (show q + 1 ≤ 25 by have := g.eq; omega)
  have hb : (rf f.r f.sides q k).lo.natAbs ≤ 1000000000000 ∧ (rf f.r f.sides q k).hi.natAbs ≤ 1000000000000 := by
    revert hin hbig
    generalize (q + 1) * 10000000000 = m
    intro hin hbig
    omega
  rw [dF_eq o ha]
  exact depth_fn g o ha.hx e1 (e3 k hk) hk hb.1 hb.2
/-- The bounds of the depth in so many hours more than one, and the first hour with the least of them. -/
def dsF (d : Int → Bd) (lo : Int) : Nat → Bd × Int
  | 0 => (d lo, lo)
  | n + 1 => (⟨if (d (lo + (n + 1))).lo < (dsF d lo n).1.lo then (d (lo + (n + 1))).lo else (dsF d lo n).1.lo, max (dsF d lo n).1.hi (d (lo + (n + 1))).hi⟩, if (d (lo + (n + 1))).lo < (dsF d lo n).1.lo then lo + (n + 1) else (dsF d lo n).2)
theorem depths_fn {f : Fc} {f1 : Bool} {p : Int} {q : Nat} {y : Rc} {b : Bd} {h : H} (g : GoodF f) (o : OkRv f) (ha : At f.r.rs p q y) (hb : vB 0 (hrs f.sides - 1) b = true) :
    Fn Tryz.prog 146 [stAV f.r f1 (hrs f.sides) (.ro false 1 ((flowsF f.r f.sides).map fL)), .agg (spotAV y q p), .agg [I b.lo, I b.hi]] h (.tup [.agg [I (dsF (dF f p) b.lo (b.hi - b.lo).toNat).1.lo, I (dsF (dF f p) b.lo (b.hi - b.lo).toNat).1.hi], I (dsF (dF f p) b.lo (b.hi - b.lo).toNat).2]) h := by
  refine Fn.beside ?_ rfl h
  refine Fn.ofR0 noM (by kernel_rfl) Tryz.func146 rfl (by simp) ?_
  have hm := g.hmax
  obtain ⟨a, e⟩ := b
  have hb' := vB_iff.1 hb
  simp only at hb' ⊢
  clear hb
  obtain ⟨a, rfl⟩ : ∃ k : Nat, a = k := ⟨a.toNat, by omega⟩
  obtain ⟨n, rfl⟩ : ∃ k : Nat, e = a + k := ⟨(e - a).toNat, by omega⟩
  have hn : ((a : Int) + n - a).toNat = n := by omega
  rw [hn]
  obtain ⟨d, hd⟩ : ∃ d, d = dF f p := ⟨_, rfl⟩
  have hcall : ∀ (k : Nat), k < hrs f.sides → ∀ h, Fn Tryz.prog 88 [stAV f.r f1 (hrs f.sides) (.ro false 1 ((flowsF f.r f.sides).map fL)), .agg (spotAV y q p), I k] h (.agg [I (d k).lo, I (d k).hi]) h := fun k hk h => by rw [hd]; exact depthS_fn g o ha hk
  rw [← hd]
  have w1 : IntKind.i64.wrap ((a : Int) + 1) = (a : Int) + 1 := wrap_in (by omega) (by omega)
  simp -dsimp -implicitDefEqProofs [spotAV]
  refine DrawR.on { M := [3], eff := [(7, [3])] } (by kernel_rfl) (by simp) ?_
  simp -dsimp -implicitDefEqProofs
  refine onCallQ_in (hcall a (by omega) _) ?_
  simp -dsimp -implicitDefEqProofs [w1]
  refine LoopCR.on 47 (fun m => [(3, .ptr 0 0), (4, .ptr 1 0), (5, .ptr 2 0), (6, .ptr 3 0), (7, I (dsF d a m).2), (8, I ((a : Int) + 1 + (m : Nat)))])
    (fun m => [some [f.r.reaches f1, f.r.shoals, I (hrs f.sides), .ro false 1 ((flowsF f.r f.sides).map fL)], some (fR y ++ [I q, I p]), some [I a, I ((a : Int) + n)], some [I (dsF d a m).1.lo, I (dsF d a m).1.hi]]) (fun m => m ≤ n) (fun m => n - m) 0 [0, 1, 2, 3] (by simp) ?_ ?_
  · simp -dsimp -implicitDefEqProofs [dsF]
  intro m j hmn
  simp -dsimp -implicitDefEqProofs
  refine ifD_in (fun hlt => ?_) (fun hge => ?_)
  · have hlt' : m < n := by omega
    have hc : ∀ h, Fn Tryz.prog 88 [stAV f.r f1 (hrs f.sides) (.ro false 1 ((flowsF f.r f.sides).map fL)), .agg (spotAV y q p), I ((a : Int) + 1 + m)] h (.agg [I (d (a + (m + 1))).lo, I (d (a + (m + 1))).hi]) h := fun h => by
      have := hcall (a + 1 + m) (by omega) h
      rw [show ((a + 1 + m : Nat) : Int) = (a : Int) + 1 + m by omega] at this
      rw [show (a : Int) + (m + 1) = (a : Int) + 1 + m by omega]
      exact this
    have hs : dsF d a (m + 1) = (⟨if (d (a + (m + 1))).lo < (dsF d a m).1.lo then (d (a + (m + 1))).lo else (dsF d a m).1.lo, max (dsF d a m).1.hi (d (a + (m + 1))).hi⟩, if (d (a + (m + 1))).lo < (dsF d a m).1.lo then (a : Int) + (m + 1) else (dsF d a m).2) := rfl
    obtain ⟨x, hx⟩ : ∃ x, x = d (a + (m + 1)) := ⟨_, rfl⟩
    obtain ⟨s, hse⟩ : ∃ s, s = dsF d a m := ⟨_, rfl⟩
    rw [← hx, ← hse] at hs
    simp only [← hx] at hc
    rw [← hse]
    have w2 : IntKind.i64.wrap ((a : Int) + 1 + m + 1) = (a : Int) + 1 + (m + 1 : Nat) := by rw [wrap_in (by omega) (by omega)]; omega
    simp -dsimp -implicitDefEqProofs
    refine onCall_in (hc _) ?_
    simp -dsimp -implicitDefEqProofs
    refine ifD_in (fun h3 => ?_) (fun h3 => ?_)
    · rw [if_pos h3, if_pos h3] at hs
      simp -dsimp -implicitDefEqProofs [w2]
      refine again_in (m + 1) [0, 1, 2, 3] (by omega) (by omega) ?_
      simp -dsimp -implicitDefEqProofs [hs]
      omega
    · rw [if_neg h3, if_neg h3] at hs
      simp -dsimp -implicitDefEqProofs [w2]
      refine again_in (m + 1) [0, 1, 2, 3] (by omega) (by omega) ?_
      simp -dsimp -implicitDefEqProofs [hs]
  · have hin : m = n := by omega
    subst hin
    simp -dsimp -implicitDefEqProofs
end Go.Pe

/- Shallowest. -/
namespace Go.Pe
open Go Go.Proofs Go.Proofs.YtffckclggkjbgaaGreat
set_option maxRecDepth 20000
set_option maxHeartbeats 8000000

/-- The shallowest pass so far: its depth, its number and its hour. -/
structure Sw where
  lo : Int
  hi : Int
  pass : Int
  hour : Int
def shS (s : Sw) (i : Nat) (d : Bd × Int) : Sw := ⟨if d.1.lo < s.lo then d.1.lo else s.lo, if d.1.hi < s.hi then d.1.hi else s.hi, if d.1.lo < s.lo then i else s.pass, if d.1.lo < s.lo then d.2 else s.hour⟩
def shF (D : Nat → Bd × Int) : Nat → Sw
  | 0 => ⟨1000000, 1000000, 0, 0⟩
  | i + 1 => shS (shF D i) i (D i)
def sgF (D : Nat → Bd × Int) (i : Nat) : Sw := if i = 0 then ⟨0, 0, 0, 0⟩ else shF D i
noncomputable def passD (f : Fc) (way : List Ps) (i : Nat) : Bd × Int := match way[i]? with
  | some p => dsF (dF f p.place) p.hours.lo (p.hours.hi - p.hours.lo).toNat
  | none => (⟨0, 0⟩, 0)
theorem dsF_in {d : Int → Bd} {a : Nat} : ∀ {n : Nat}, (∀ k : Nat, a ≤ k → k ≤ a + n → (0 ≤ (d k).lo ∧ (d k).lo ≤ 200000) ∧ 0 ≤ (d k).hi ∧ (d k).hi ≤ 200000) → (0 ≤ (dsF d a n).1.lo ∧ (dsF d a n).1.lo ≤ 200000) ∧ 0 ≤ (dsF d a n).1.hi ∧ (dsF d a n).1.hi ≤ 200000
  | 0, h => by have := h a (by omega) (by omega); simpa [dsF] using this
  | n + 1, h => by
    have ih := dsF_in (n := n) fun k h1 h2 => h k h1 (by omega)
    have hx := h (a + (n + 1)) (by omega) (by omega)
    rw [show ((a + (n + 1) : Nat) : Int) = (a : Int) + (n + 1) by omega] at hx
    simp only [dsF]
    split <;> omega
theorem pass_at {f : Fc} {way : List Ps} {p : Ps} (o : OkRv f) (hs : f.r.ss.length ≤ 50) (h : passE f.r.rs (hrs f.sides) p = 0) : (0 ≤ p.place ∧ p.place < lenSum f.r.rs) ∧ vB 0 (hrs f.sides - 1) p.hours = true := by
  unfold passE at h
  split at h
  · rename_i h1
    have := inB_iff.1 h1
    split at h
    · rename_i h2; exact ⟨by omega, h2⟩
    · omega
  · omega
theorem passD_in {f : Fc} {way : List Ps} {i : Nat} {p : Ps} (g : GoodF f) (o : OkRv f) (hp : way[i]? = some p) (h : passE f.r.rs (hrs f.sides) p = 0) : (0 ≤ (passD f way i).1.lo ∧ (passD f way i).1.lo ≤ 200000) ∧ 0 ≤ (passD f way i).1.hi ∧ (passD f way i).1.hi ≤ 200000 := by
  obtain ⟨h1, h2⟩ := pass_at (way := way) o g.small.r.m h
  have h2' := vB_iff.1 h2
  obtain ⟨q, y, ha⟩ := At.ex h1.1 h1.2
  rw [passD, hp]
  simp only
  have ea : p.hours.lo = (p.hours.lo.toNat : Int) := by omega
  rw [ea]
  refine dsF_in fun k k1 k2 => dF_in g o ha (by omega)
theorem Shallowest_bad {f : Fc} {f1 f2 fw : Bool} {way : List Ps} {h : H} (hw : SmallF f) (he : startE f ≠ 0) : Fn Tryz.prog 110 [f.r.av f1, sidesAV f.sides f2, .ro fw 3 (way.map fPs)] h (.tup [.agg [I 0, I 0], I 0, I 0, I (startE f)]) h := by
  refine Fn.beside ?_ rfl h
  refine Fn.ofR0 noM (by kernel_rfl) Tryz.func110 rfl (by simp) ?_
  have ne0 : (startE f != 0) = true := by simpa using he
  simp -dsimp -implicitDefEqProofs
  refine onCall_in (newStream_bad hw he) ?_
  simp -dsimp -implicitDefEqProofs [ne0]
theorem Shallowest_err {f : Fc} {f1 f2 fw : Bool} {way : List Ps} {h : H} (g : GoodF f) (o : OkRv f) (he : startE f = 0) (hl : way.length ≤ 1000) (hE : wayE f.r.rs (hrs f.sides) way ≠ 0) : Fn Tryz.prog 110 [f.r.av f1, sidesAV f.sides f2, .ro fw 3 (way.map fPs)] h (.tup [.agg [I 0, I 0], I 0, I 0, I (wayE f.r.rs (hrs f.sides) way)]) h := by
  refine Fn.beside ?_ rfl h
  refine Fn.ofR0 noM (by kernel_rfl) Tryz.func110 rfl (by simp) ?_
  have hm := g.hmax
  have ne0 : (wayE f.r.rs (hrs f.sides) way != 0) = true := by simpa using hE
  simp -dsimp -implicitDefEqProofs
  refine onCall_in (newStream_fn g he) ?_
  simp -dsimp -implicitDefEqProofs
  refine onCall_in (along_err o.len g.small.r.n (by omega) hl hE) ?_
  simp -dsimp -implicitDefEqProofs [ne0]
theorem Shallowest_fn {f : Fc} {f1 f2 fw : Bool} {way : List Ps} {h : H} (g : GoodF f) (o : OkRv f) (he : startE f = 0) (hE : wayE f.r.rs (hrs f.sides) way = 0) : Fn Tryz.prog 110 [f.r.av f1, sidesAV f.sides f2, .ro fw 3 (way.map fPs)] h (.tup [.agg [I (shF (passD f way) way.length).lo, I (shF (passD f way) way.length).hi], I (shF (passD f way) way.length).pass, I (shF (passD f way) way.length).hour, I 0]) h := by
  refine Fn.beside ?_ rfl h
  refine Fn.ofR0 noM (by kernel_rfl) Tryz.func110 rfl (by simp) ?_
  have hm := g.hmax
  have hmm := g.small.r.m
  have hw : way.length ≠ 0 ∧ way.length ≤ 60 ∧ ∀ p ∈ way, passE f.r.rs (hrs f.sides) p = 0 := by
    unfold wayE at hE
    split at hE
    · omega
    · split at hE
      · omega
      · exact ⟨by omega, by omega, firstE_zero hE⟩
  obtain ⟨hw0, hw6, hwp⟩ := hw
  obtain ⟨fl, hfl⟩ : ∃ fl, fl = flowsF f.r f.sides := ⟨_, rfl⟩
  have c1 : ∀ h, Fn Tryz.prog 86 [f.r.av f1, sidesAV f.sides f2] h (.tup [stAV f.r f1 (hrs f.sides) (.ro false 1 (fl.map fL)), I 0]) h := fun h => by rw [hfl]; exact newStream_fn g he
  have c2 : ∀ h, Fn Tryz.prog 145 [stAV f.r f1 (hrs f.sides) (.ro false 1 (fl.map fL)), .ro fw 3 (way.map fPs)] h (.tup [.ro false 11 ((spotsF f.r.rs way).map fSp), I 0]) h := fun h => along_fn o.len g.small.r.n (by omega) hE
  have hslen : (spotsF f.r.rs way).length = way.length := by simp [spotsF]
  obtain ⟨D, hD⟩ : ∃ D, D = passD f way := ⟨_, rfl⟩
  have c3 : ∀ i p, way[i]? = some p → ∃ (y : Rc) (q : Nat), (spotsF f.r.rs way)[i]? = some (some ⟨y, q, p.place⟩) ∧ ∀ h, Fn Tryz.prog 146 [stAV f.r f1 (hrs f.sides) (.ro false 1 (fl.map fL)), .agg (fR y ++ [I q, I p.place]), .agg [I p.hours.lo, I p.hours.hi]] h (.tup [.agg [I (D i).1.lo, I (D i).1.hi], I (D i).2]) h := fun i p hp => by
    obtain ⟨h1, h2⟩ := pass_at (way := way) o hmm (hwp p (List.mem_of_getElem? hp))
    obtain ⟨q, y, ha⟩ := At.ex h1.1 h1.2
    refine ⟨y, q, by simp [spotsF, hp, spotOf_eq o.len ha], fun h => ?_⟩
    have := depths_fn (f1 := f1) (h := h) g o ha h2
    rw [hD, passD, hp, hfl]; exact this
  have hDin : ∀ i p, way[i]? = some p → (D i).1.lo ≤ 200000 ∧ (D i).1.hi ≤ 200000 := fun i p hp => by
    have := passD_in (way := way) g o hp (hwp p (List.mem_of_getElem? hp))
    rw [hD]; omega
  rw [← hD]
  clear hD
  simp -dsimp -implicitDefEqProofs
  refine onCall_in (c1 _) ?_
  simp -dsimp -implicitDefEqProofs
  refine onCall_in (c2 _) ?_
  simp -dsimp -implicitDefEqProofs
  refine LoopCR.on 88 (fun i => [(2, .ro fw 3 (way.map fPs)), (6, .ptr 1 0), (7, I (sgF D i).pass), (8, I (sgF D i).hour), (10, .ptr 2 0), (40, .ro false 11 ((spotsF f.r.rs way).map fSp)), (41, I way.length), (42, I (i : Nat))])
    (fun i => [some [f.r.reaches f1, f.r.shoals], some [I (sgF D i).lo, I (sgF D i).hi], some [f.r.reaches f1, f.r.shoals, I (hrs f.sides), .ro false 1 (fl.map fL)]]) (fun i => i ≤ way.length) (fun i => way.length - i) 0 [0, 1, 2] (by simp) ?_ ?_
  · simp -dsimp -implicitDefEqProofs [sgF, hslen]
  intro i j hi
  simp -dsimp -implicitDefEqProofs
  refine ifD_in (fun hlt => ?_) (fun hge => ?_)
  · have hlt' : i < way.length := by omega
    obtain ⟨p, hp⟩ : ∃ p, way[i]? = some p := ⟨_, List.getElem?_eq_getElem hlt'⟩
    obtain ⟨y, q, e1, c4⟩ := c3 i p hp
    have hd := hDin i p hp
    have hs : sgF D (i + 1) = shS (shF D i) i (D i) := rfl
    obtain ⟨d, hde⟩ : ∃ d, d = D i := ⟨_, rfl⟩
    rw [← hde] at hs hd
    simp only [← hde] at c4
    have wi : IntKind.i64.wrap ((i : Int) + 1) = ((i + 1 : Nat) : Int) := by rw [wrap_in (by omega) (by omega)]; omega
    simp -dsimp -implicitDefEqProofs [e1, fSp, spotAV]
    refine DrawR.on {} (by kernel_rfl) (by simp) ?_
    simp -dsimp -implicitDefEqProofs [hp]
    refine onCallQ_in (c4 _) ?_
    by_cases h0 : i = 0
    · subst h0
      have l1 : d.1.lo < 1000000 := by omega
      have l2 : d.1.hi < 1000000 := by omega
      simp only [shF, shS, if_pos l1, if_pos l2] at hs
      simp -dsimp -implicitDefEqProofs
      refine again_in 1 [0, 1, 2] (by omega) (by omega) ?_
      simp -dsimp -implicitDefEqProofs [hs]
      exact ⟨⟨(if_pos l1).symm, (if_pos l2).symm⟩, (if_pos l1).symm, by decide⟩
    · have hg : sgF D i = shF D i := by rw [sgF, if_neg h0]
      have b0 : ((i : Int) == 0) = false := beq_eq_false_iff_ne.2 (by omega)
      rw [hg]
      obtain ⟨s, hse⟩ : ∃ s, s = shF D i := ⟨_, rfl⟩
      rw [← hse] at hs ⊢
      simp only [shS] at hs
      simp -dsimp -implicitDefEqProofs [b0, h0]
      refine ifD_in (fun h3 => ?_) (fun h3 => ?_)
      · simp only [if_pos h3] at hs
        simp -dsimp -implicitDefEqProofs [b0, h0]
        refine ifD_in (fun h4 => ?_) (fun h4 => ?_)
        · simp only [if_pos h4] at hs
          simp -dsimp -implicitDefEqProofs [wi]
          refine again_in (i + 1) [0, 1, 2] (by omega) (by omega) ?_
          simp -dsimp -implicitDefEqProofs [hs]
        · simp only [if_neg h4] at hs
          simp -dsimp -implicitDefEqProofs [wi]
          refine again_in (i + 1) [0, 1, 2] (by omega) (by omega) ?_
          simp -dsimp -implicitDefEqProofs [hs]
      · simp only [if_neg h3] at hs
        simp -dsimp -implicitDefEqProofs [b0, h0]
        refine ifD_in (fun h4 => ?_) (fun h4 => ?_)
        · simp only [if_pos h4] at hs
          simp -dsimp -implicitDefEqProofs [wi]
          refine again_in (i + 1) [0, 1, 2] (by omega) (by omega) ?_
          simp -dsimp -implicitDefEqProofs [hs]
        · simp only [if_neg h4] at hs
          simp -dsimp -implicitDefEqProofs [wi]
          refine again_in (i + 1) [0, 1, 2] (by omega) (by omega) ?_
          simp -dsimp -implicitDefEqProofs [hs]
  · have hin : i = way.length := by omega
    subst hin
    have hg : sgF D way.length = shF D way.length := by rw [sgF, if_neg hw0]
    simp -dsimp -implicitDefEqProofs [hg]
end Go.Pe

/- The reference's ways, and what is shallowest on them. -/
namespace Go.Pe
open Go Go.Proofs Go.Proofs.YtffckclggkjbgaaGreat
set_option maxRecDepth 20000
set_option maxHeartbeats 8000000

theorem Way_fn {r : Rv} {f1 fw : Bool} {n : Int} {way : List Ps} {h : H} (hl : ∀ x ∈ r.rs, 0 ≤ x.len ∧ x.len ≤ 5000) (hr : r.rs.length ≤ 25) (hn : 0 ≤ n ∧ n ≤ 1000) (hw : way.length ≤ 1000) :
    Fn Tryz.prog 79 [r.av f1, .ro fw 3 (way.map fPs), I n] h (I (wayE r.rs n way)) h := by
  refine Fn.beside ?_ rfl h
  refine Fn.ofR0 noM (by kernel_rfl) Tryz.func79 rfl (by simp) ?_
  have hb : ∀ x ∈ r.rs, x.len.natAbs ≤ 5000 := fun x hx => by have := hl x hx; omega
  have hls := lenSum_in hb r.rs.length (Nat.le_refl _)
  rw [List.take_length] at hls
  have w1 : IntKind.i64.wrap (n - 1) = n - 1 := wrap_in (by omega) (by omega)
  have w2 : IntKind.i64.wrap (lenSum r.rs - 1) = lenSum r.rs - 1 := wrap_in (by omega) (by omega)
  by_cases h0 : way.length = 0
  · have e : wayE r.rs n way = 4 := by rw [wayE, if_pos h0]
    have d0 : way = [] := List.length_eq_zero_iff.1 h0
    subst d0
    simp -dsimp -implicitDefEqProofs [e]
  have b0 : ((way.length : Int) == 0) = false := beq_eq_false_iff_ne.2 (by omega)
  by_cases h6 : 60 < way.length
  · have e : wayE r.rs n way = 5 := by rw [wayE, if_neg h0, if_pos h6]
    have d6 : decide ((60 : Int) < (way.length : Int)) = true := decide_eq_true (by omega)
    simp -dsimp -implicitDefEqProofs [e, b0, h0, d6]
  have e : wayE r.rs n way = firstE r.rs n way := by rw [wayE, if_neg h0, if_neg h6]
  have d6 : decide ((60 : Int) < (way.length : Int)) = false := decide_eq_false (by omega)
  rw [e]
  simp -dsimp -implicitDefEqProofs [b0, h0, d6]
  refine LoopCR.on 39 (fun i => [(1, .ro fw 3 (way.map fPs)), (2, I n), (3, .ptr 0 0), (7, I (i : Nat))])
    (fun i => [some [r.reaches f1, r.shoals]]) (fun i => i ≤ way.length ∧ ∀ k, k < i → ∀ q, way[k]? = some q → passE r.rs n q = 0) (fun i => way.length - i) 0 [0] ⟨by omega, by intro k hk; omega⟩ ?_ ?_
  · simp -dsimp -implicitDefEqProofs
  intro i j hI
  obtain ⟨hi, hpre⟩ := hI
  simp -dsimp -implicitDefEqProofs
  refine ifD_in (fun hlt => ?_) (fun hge => ?_)
  · have hlt' : i < way.length := by omega
    obtain ⟨p, hp⟩ : ∃ p, way[i]? = some p := ⟨_, List.getElem?_eq_getElem hlt'⟩
    simp -dsimp -implicitDefEqProofs
    refine DrawR.on {} (by kernel_rfl) (by simp) ?_
    simp -dsimp -implicitDefEqProofs [hp]
    refine onCallQ_in (Places_fn (by omega) (fun x hx => by have := hb x hx; omega)) ?_
    simp -dsimp -implicitDefEqProofs [w2]
    refine onCallQ_in In2_fn ?_
    cases hP : inB 0 (lenSum r.rs - 1) p.place with
    | false =>
      have hE : passE r.rs n p = 7 := by simp [passE, hP]
      have hF : firstE r.rs n way = 7 := by rw [firstE_hit hp hpre (by rw [hE]; decide), hE]
      simp -dsimp -implicitDefEqProofs [hP, hF]
    | true =>
      simp -dsimp -implicitDefEqProofs [hP, hp, w1]
      refine onCall_in Valid2_fn ?_
      cases hV : vB 0 (n - 1) p.hours with
      | false =>
        have hE : passE r.rs n p = 3 := by simp [passE, hP, hV]
        have hF : firstE r.rs n way = 3 := by rw [firstE_hit hp hpre (by rw [hE]; decide), hE]
        simp -dsimp -implicitDefEqProofs [hV, hF]
      | true =>
        have hE : passE r.rs n p = 0 := by simp [passE, hP, hV]
        simp -dsimp -implicitDefEqProofs [hV]
        refine again_in (i + 1) [0] ⟨by omega, fun k hk x hx => ?_⟩ (by omega) ?_
        · by_cases hki : k = i
          · subst hki; rw [hp] at hx; cases hx; exact hE
          · exact hpre k (by omega) x hx
        simp -dsimp -implicitDefEqProofs
        rw [wrap_in (by omega) (by omega)]
  · have hin : i = way.length := by omega
    subst hin
    have hF : firstE r.rs n way = 0 := firstE_ok fun p hp => by
      obtain ⟨k, hk, rfl⟩ := List.getElem_of_mem hp
      exact hpre k hk _ (List.getElem?_eq_getElem hk)
    simp -dsimp -implicitDefEqProofs [hF]

/-- The reference's search in the hours of a pass. -/
def rI (D : Int → Bd) (lo : Int) (i : Nat) (s : Sw) : Nat → Sw × Int
  | 0 => (s, 0)
  | m + 1 => (⟨if (dsF D lo m).1.lo < s.lo then (dsF D lo m).1.lo else s.lo, s.hi, if (dsF D lo m).1.lo < s.lo then i else s.pass, if (dsF D lo m).1.lo < s.lo then (dsF D lo m).2 else s.hour⟩, (dsF D lo m).1.hi)
theorem rI_hi {D : Int → Bd} {lo : Int} {i : Nat} {s : Sw} {m : Nat} : (rI D lo i s m).1.hi = s.hi := by cases m <;> rfl
theorem rI_step {D : Int → Bd} {lo : Int} {i : Nat} {s : Sw} {m : Nat} (h : 0 ≤ (D (lo + m)).hi) :
    rI D lo i s (m + 1) = (⟨if (D (lo + m)).lo < (rI D lo i s m).1.lo then (D (lo + m)).lo else (rI D lo i s m).1.lo, s.hi, if (D (lo + m)).lo < (rI D lo i s m).1.lo then i else (rI D lo i s m).1.pass, if (D (lo + m)).lo < (rI D lo i s m).1.lo then lo + m else (rI D lo i s m).1.hour⟩, max (rI D lo i s m).2 (D (lo + m)).hi) := by
  cases m with
  | zero =>
    have z : lo + ((0 : Nat) : Int) = lo := by omega
    rw [z] at h ⊢
    have e0 : rI D lo i s (0 + 1) = (⟨if (D lo).lo < s.lo then (D lo).lo else s.lo, s.hi, if (D lo).lo < s.lo then (i : Int) else s.pass, if (D lo).lo < s.lo then lo else s.hour⟩, (D lo).hi) := rfl
    have e1 : rI D lo i s 0 = (s, 0) := rfl
    have e : max 0 (D lo).hi = (D lo).hi := by omega
    rw [e0, e1]
    simp only [e]
  | succ m =>
    rw [show ((m + 1 : Nat) : Int) = (m : Int) + 1 by omega] at h ⊢
    have e : dsF D lo (m + 1) = (⟨if (D (lo + (m + 1))).lo < (dsF D lo m).1.lo then (D (lo + (m + 1))).lo else (dsF D lo m).1.lo, max (dsF D lo m).1.hi (D (lo + (m + 1))).hi⟩, if (D (lo + (m + 1))).lo < (dsF D lo m).1.lo then lo + (m + 1) else (dsF D lo m).2) := rfl
    rw [rI, e]
    simp only [rI]
    simp only [Prod.mk.injEq, Sw.mk.injEq, and_true, true_and]
    refine ⟨?_, ?_, ?_⟩ <;> (repeat' split) <;> first | rfl | omega
theorem rI_all {D : Int → Bd} {lo : Int} {i : Nat} {s : Sw} {n : Nat} : (⟨(rI D lo i s (n + 1)).1.lo, min s.hi (rI D lo i s (n + 1)).2, (rI D lo i s (n + 1)).1.pass, (rI D lo i s (n + 1)).1.hour⟩ : Sw) = shS s i (dsF D lo n) := by
  simp only [rI, shS, Sw.mk.injEq, true_and, and_true]
  split <;> omega
theorem rShallowest_fn {f : Fc} {f1 f2 fw : Bool} {way : List Ps} {h : H} (g : GoodF f) (o : OkRv f) (hE : wayE f.r.rs (hrs f.sides) way = 0) : Fn Tryz.prog 75 [f.r.av f1, sidesAV f.sides f2, .ro fw 3 (way.map fPs)] h (.tup [.agg [I (shF (passD f way) way.length).lo, I (shF (passD f way) way.length).hi], I (shF (passD f way) way.length).pass, I (shF (passD f way) way.length).hour]) h := by
  refine Fn.beside ?_ rfl h
  refine Fn.ofR0 noM (by kernel_rfl) Tryz.func75 rfl (by simp) ?_
  have hm := g.hmax
  have hmm := g.small.r.m
  have hw : way.length ≠ 0 ∧ way.length ≤ 60 ∧ ∀ p ∈ way, passE f.r.rs (hrs f.sides) p = 0 := by
    unfold wayE at hE
    split at hE
    · omega
    · split at hE
      · omega
      · exact ⟨by omega, by omega, firstE_zero hE⟩
  obtain ⟨hw0, hw6, hwp⟩ := hw
  have c3 : ∀ i p, way[i]? = some p → ∃ a n : Nat, p.hours = ⟨(a : Int), (a : Int) + n⟩ ∧ a + n < hrs f.sides ∧ passD f way i = dsF (dF f p.place) a n ∧ (∀ k : Nat, k < hrs f.sides → 0 ≤ (dF f p.place k).hi) ∧ ∀ k : Nat, k < hrs f.sides → ∀ h, Fn Tryz.prog 112 [f.r.av f1, sidesAV f.sides f2, I p.place, I k] h (.agg [I (dF f p.place k).lo, I (dF f p.place k).hi]) h := fun i p hp => by
    obtain ⟨h1, h2⟩ := pass_at (way := way) o hmm (hwp p (List.mem_of_getElem? hp))
    obtain ⟨q, y, ha⟩ := At.ex h1.1 h1.2
    have h3 := vB_iff.1 h2
    refine ⟨p.hours.lo.toNat, (p.hours.hi - p.hours.lo).toNat, ?_, by omega, ?_, fun k hk => (dF_in g o ha hk).2.1, fun k hk h => ?_⟩
    · obtain ⟨pl, ⟨x, z⟩⟩ := p
      simp only [Bd.mk.injEq] at h3 ⊢
      omega
    · rw [passD, hp]
      simp only
      rw [show ((p.hours.lo.toNat : Nat) : Int) = p.hours.lo by omega]
    · rw [dF_eq o ha]; exact rDepth_fn g o h1.1 ha hk
  obtain ⟨D, hD⟩ : ∃ D, D = passD f way := ⟨_, rfl⟩
  rw [← hD] at c3 ⊢
  clear hD
  simp -dsimp -implicitDefEqProofs
  refine LoopCR.on 70 (fun i => [(1, sidesAV f.sides f2), (2, .ro fw 3 (way.map fPs)), (3, .ptr 0 0), (6, .ptr 1 0), (9, .ptr 2 0), (10, I (shF D i).pass), (11, I (shF D i).hour), (12, I (i : Nat))])
    (fun i => [some [f.r.reaches f1, f.r.shoals], some [I 0, I 0], some [I (shF D i).lo, I (shF D i).hi]]) (fun i => i ≤ way.length) (fun i => way.length - i) 0 [0, 1, 2] (by simp) ?_ ?_
  · simp -dsimp -implicitDefEqProofs [shF]
  intro i j hi
  simp -dsimp -implicitDefEqProofs
  refine ifD_in (fun hlt => ?_) (fun hge => ?_)
  · have hlt' : i < way.length := by omega
    obtain ⟨p, hp⟩ : ∃ p, way[i]? = some p := ⟨_, List.getElem?_eq_getElem hlt'⟩
    obtain ⟨a, n, e1, e2, e3, e4, c4⟩ := c3 i p hp
    have hs : shF D (i + 1) = shS (shF D i) i (D i) := rfl
    rw [e3] at hs
    obtain ⟨s, hse⟩ : ∃ s, s = shF D i := ⟨_, rfl⟩
    rw [← hse] at hs ⊢
    obtain ⟨d, hd⟩ : ∃ d, d = dF f p.place := ⟨_, rfl⟩
    rw [← hd] at hs e4
    simp only [← hd] at c4
    have wi : IntKind.i64.wrap ((i : Int) + 1) = ((i + 1 : Nat) : Int) := by rw [wrap_in (by omega) (by omega)]; omega
    simp -dsimp -implicitDefEqProofs [hp, e1]
    refine LoopCR.on 70 (fun m => [(1, sidesAV f.sides f2), (2, .ro fw 3 (way.map fPs)), (3, .ptr 0 0), (6, .ptr 1 0), (9, .ptr 2 0), (10, I (rI d a i s m).1.pass), (11, I (rI d a i s m).1.hour), (12, I (i : Nat)), (13, I (rI d a i s m).2), (14, I ((a : Int) + (m : Nat)))])
      (fun m => [some [f.r.reaches f1, f.r.shoals], some [I 0, I 0], some [I (rI d a i s m).1.lo, I s.hi]]) (fun m => m ≤ n + 1) (fun m => n + 1 - m) 0 [0, 1, 2] (by simp) ?_ ?_
    · simp -dsimp -implicitDefEqProofs [rI]
    intro m j hm1
    simp -dsimp -implicitDefEqProofs [hp, e1]
    refine ifD_in (fun hlt2 => ?_) (fun hge2 => ?_)
    · have hlt3 : m < n + 1 := by omega
      have hc : ∀ h, Fn Tryz.prog 112 [f.r.av f1, sidesAV f.sides f2, I p.place, I ((a : Int) + m)] h (.agg [I (d (a + m)).lo, I (d (a + m)).hi]) h := fun h => by
        have := c4 (a + m) (by omega) h
        rw [show ((a + m : Nat) : Int) = (a : Int) + m by omega] at this
        exact this
      have h0 : 0 ≤ (d ((a : Int) + m)).hi := by
        have := e4 (a + m) (by omega)
        rw [show ((a + m : Nat) : Int) = (a : Int) + m by omega] at this
        exact this
      have hst := rI_step (D := d) (lo := a) (i := i) (s := s) (m := m) h0
      obtain ⟨x, hx⟩ : ∃ x, x = d ((a : Int) + m) := ⟨_, rfl⟩
      rw [← hx] at hst
      simp only [← hx] at hc
      obtain ⟨r, hr⟩ : ∃ r, r = rI d a i s m := ⟨_, rfl⟩
      rw [← hr] at hst ⊢
      have wm : IntKind.i64.wrap ((a : Int) + m + 1) = (a : Int) + (m + 1 : Nat) := by rw [wrap_in (by omega) (by omega)]; omega
      simp -dsimp -implicitDefEqProofs
      refine DrawR.on {} (by kernel_rfl) (by simp) ?_
      simp -dsimp -implicitDefEqProofs [hp, e1]
      refine onCallQ_in (hc _) ?_
      simp -dsimp -implicitDefEqProofs
      refine ifD_in (fun h3 => ?_) (fun h3 => ?_)
      · simp only [if_pos h3] at hst
        simp -dsimp -implicitDefEqProofs [wm]
        refine again_in (m + 1) [0, 1, 2] (by omega) (by omega) ?_
        simp -dsimp -implicitDefEqProofs [hst]
      · simp only [if_neg h3] at hst
        simp -dsimp -implicitDefEqProofs [wm]
        refine again_in (m + 1) [0, 1, 2] (by omega) (by omega) ?_
        simp -dsimp -implicitDefEqProofs [hst]
    · have hin : m = n + 1 := by omega
      subst hin
      have hall := rI_all (D := d) (lo := a) (i := i) (s := s) (n := n)
      rw [← hs] at hall
      simp -dsimp -implicitDefEqProofs [wi]
      refine again_in (i + 1) [0, 1, 2] (by omega) (by omega) ?_
      simp -dsimp -implicitDefEqProofs [← hall]
  · have hin : i = way.length := by omega
    subst hin
    simp -dsimp -implicitDefEqProofs
end Go.Pe

/- The law RiverShallow. -/
namespace Go.Pe
open Go Go.Proofs Go.Proofs.YtffckclggkjbgaaGreat
set_option maxRecDepth 20000
set_option maxHeartbeats 8000000
theorem neq77 {a b c a' b' c' : Int} {k : TK} {s : Nat} {z : List Value} {a1 f : Bool} {by' : Nat} : binX Tryz.prog 64 { kind := k, size := s, zero := z, agg := a1, bytes := by', fok := f, cmp := true } .neq (.agg [I a, I b, I c]) (.agg [I a', I b', I c']) = some (B (!(a == a' && ((b == b' && (c == c' && true)) && true)))) := by kernel_rfl
attribute [local simp] neq77
theorem rv_of_start {f : Fc} (h : startE f = 0) : validRv f.r = true := by
  unfold startE at h
  split at h
  · assumption
  · omega
theorem rs_cases {f : Fc} {way : List Ps} (hw : SmallF f) (hl : way.length ≤ 1000) : ∃ a b c d e : Int, (∀ f1 f2 h, Fn Tryz.prog 110 [f.r.av f1, sidesAV f.sides f2, .ro false 3 (way.map fPs)] h (.tup [.agg [I a, I b], I c, I d, I e]) h) ∧
    ((startE f ≠ 0 ∧ a = 0 ∧ b = 0 ∧ c = 0 ∧ d = 0 ∧ e = startE f) ∨ (startE f = 0 ∧ OkRv f ∧ wayE f.r.rs (hrs f.sides) way ≠ 0 ∧ a = 0 ∧ b = 0 ∧ c = 0 ∧ d = 0 ∧ e = wayE f.r.rs (hrs f.sides) way) ∨
      (startE f = 0 ∧ OkRv f ∧ wayE f.r.rs (hrs f.sides) way = 0 ∧ a = (shF (passD f way) way.length).lo ∧ b = (shF (passD f way) way.length).hi ∧ c = (shF (passD f way) way.length).pass ∧ d = (shF (passD f way) way.length).hour ∧ e = 0)) := by
  by_cases he : startE f = 0
  · have g := good_of hw he
    have o : OkRv f := okRv_of (rv_of_start he)
    by_cases hE : wayE f.r.rs (hrs f.sides) way = 0
    · exact ⟨_, _, _, _, _, fun f1 f2 h => Shallowest_fn g o he hE, .inr (.inr ⟨he, o, hE, rfl, rfl, rfl, rfl, rfl⟩)⟩
    · exact ⟨_, _, _, _, _, fun f1 f2 h => Shallowest_err g o he hl hE, .inr (.inl ⟨he, o, hE, rfl, rfl, rfl, rfl, rfl⟩)⟩
  · exact ⟨_, _, _, _, _, fun f1 f2 h => Shallowest_bad hw he, .inl ⟨he, rfl, rfl, rfl, rfl, rfl⟩⟩
end Go.Pe
