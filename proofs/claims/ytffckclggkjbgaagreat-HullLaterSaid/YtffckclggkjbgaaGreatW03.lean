import Derived.Test.YtffckclggkjbgaaGreatW02
set_option linter.unusedVariables false
set_option linter.unusedSimpArgs false
/- The least depth at a spot in some hours. -/
namespace Go.Pe
open Go Go.Proofs Go.Proofs.YtffckclggkjbgaaGreat
set_option maxRecDepth 20000
set_option maxHeartbeats 8000000

/-- The depth at a place in an hour. -/
noncomputable def dF (f : Fc) (p k : Int) : Bd := match spotOf f.r.rs p with
  | some s => dpt (lvl s.y (rf f.r f.sides s.q k)) (bedF p k s.y.bot f.r.ss)
  | none => ⟨0, 0⟩
theorem dF_eq {f : Fc} {p k : Int} {q : Nat} {y : Rc} (o : OkRv f) (a : At f.r.rs p q y) : dF f p k = dpt (lvl y (rf f.r f.sides q k)) (bedF p k y.bot f.r.ss) := by
  rw [dF, spotOf_eq o.len a]
theorem dpt_in {l b : Bd} (hl : (0 ≤ l.lo ∧ l.lo ≤ 10000) ∧ 0 ≤ l.hi ∧ l.hi ≤ 10000) (hb : b.lo.natAbs ≤ 100000 ∧ b.hi.natAbs ≤ 100000) : (0 ≤ (dpt l b).lo ∧ (dpt l b).lo ≤ 200000) ∧ 0 ≤ (dpt l b).hi ∧ (dpt l b).hi ≤ 200000 := by
  simp only [dpt]; omega
theorem dF_in {f : Fc} {p : Int} {k : Nat} {q : Nat} {y : Rc} (g : GoodF f) (o : OkRv f) (a : At f.r.rs p q y) (hk : k < hrs f.sides) : (0 ≤ (dF f p k).lo ∧ (dF f p k).lo ≤ 200000) ∧ 0 ≤ (dF f p k).hi ∧ (dF f p k).hi ≤ 200000 := by
  have hm := g.hmax
  have hv := validR_parts ((List.all_eq_true.1 g.rv) y (List.mem_of_getElem? a.hx))
  have hbot := vB_iff.1 hv.2.2.2.2.2.2
  rw [dF_eq o a]
  exact dpt_in (lvl_in hv.2.2.2.1 hv.2.2.2.2.1) (bedF_in (by omega) (by omega) (by omega) o.sh)
theorem depthS_fn {f : Fc} {f1 : Bool} {p : Int} {q k : Nat} {y : Rc} {h : H} (g : GoodF f) (o : OkRv f) (ha : At f.r.rs p q y) (hk : k < hrs f.sides) :
    Fn Tryz.prog 88 [stAV f.r f1 (hrs f.sides) (.ro false 1 ((flowsF f.r f.sides).map fL)), .agg (spotAV y q p), I k] h (.agg [I (dF f p k).lo, I (dF f p k).hi]) h := by
  have hn := g.small.n
  have hq := (List.getElem?_eq_some_iff.1 ha.hx).1
  obtain ⟨row, e1, e2, e3⟩ := flowsF_rf g f.sides.length (Nat.le_refl _) q (by have := g.eq; omega)
  rw [List.take_length] at e1
  have hin := rf_in g q (k : Int)
  have hbig : (q + 1) * 10000000000 ≤ 250000000000 := Nat.mul_le_mul_right 10000000000 (show q + 1 ≤ 25 by have := g.eq; omega)
  have hb : (rf f.r f.sides q k).lo.natAbs ≤ 1000000000000 ∧ (rf f.r f.sides q k).hi.natAbs ≤ 1000000000000 := by
    revert hin hbig
    generalize (q + 1) * 10000000000 = m
    intro hin hbig
    omega
  rw [dF_eq o ha]
  exact depth_fn g o ha.hx e1 (e3 k hk) hk hb.1 hb.2
/-- The bounds of the depth in so many hours more than one, and the first hour with the least of them. -/
def dsF (d : Int → Bd) (lo : Int) : Nat → Bd × Int
  | 0 => (d lo, lo)
  | n + 1 => (⟨if (d (lo + (n + 1))).lo < (dsF d lo n).1.lo then (d (lo + (n + 1))).lo else (dsF d lo n).1.lo, max (dsF d lo n).1.hi (d (lo + (n + 1))).hi⟩, if (d (lo + (n + 1))).lo < (dsF d lo n).1.lo then lo + (n + 1) else (dsF d lo n).2)
theorem depths_fn {f : Fc} {f1 : Bool} {p : Int} {q : Nat} {y : Rc} {b : Bd} {h : H} (g : GoodF f) (o : OkRv f) (ha : At f.r.rs p q y) (hb : vB 0 (hrs f.sides - 1) b = true) :
    Fn Tryz.prog 146 [stAV f.r f1 (hrs f.sides) (.ro false 1 ((flowsF f.r f.sides).map fL)), .agg (spotAV y q p), .agg [I b.lo, I b.hi]] h (.tup [.agg [I (dsF (dF f p) b.lo (b.hi - b.lo).toNat).1.lo, I (dsF (dF f p) b.lo (b.hi - b.lo).toNat).1.hi], I (dsF (dF f p) b.lo (b.hi - b.lo).toNat).2]) h := by
  refine Fn.beside ?_ rfl h
  refine Fn.ofR0 noM (by kernel_rfl) Tryz.func146 rfl (by simp) ?_
  have hm := g.hmax
  obtain ⟨a, e⟩ := b
  have hb' := vB_iff.1 hb
  simp only at hb' ⊢
  clear hb
  obtain ⟨a, rfl⟩ : ∃ k : Nat, a = k := ⟨a.toNat, by omega⟩
  obtain ⟨n, rfl⟩ : ∃ k : Nat, e = a + k := ⟨(e - a).toNat, by omega⟩
  have hn : ((a : Int) + n - a).toNat = n := by omega
  rw [hn]
  obtain ⟨d, hd⟩ : ∃ d, d = dF f p := ⟨_, rfl⟩
  have hcall : ∀ (k : Nat), k < hrs f.sides → ∀ h, Fn Tryz.prog 88 [stAV f.r f1 (hrs f.sides) (.ro false 1 ((flowsF f.r f.sides).map fL)), .agg (spotAV y q p), I k] h (.agg [I (d k).lo, I (d k).hi]) h := fun k hk h => by rw [hd]; exact depthS_fn g o ha hk
  rw [← hd]
  have w1 : IntKind.i64.wrap ((a : Int) + 1) = (a : Int) + 1 := wrap_in (by omega) (by omega)
  simp -dsimp -implicitDefEqProofs [spotAV]
  refine DrawR.on { M := [3], eff := [(7, [3])] } (by kernel_rfl) (by simp) ?_
  simp -dsimp -implicitDefEqProofs
  refine onCallQ_in (hcall a (by omega) _) ?_
  simp -dsimp -implicitDefEqProofs [w1]
  refine LoopCR.on 47 (fun m => [(3, .ptr 0 0), (4, .ptr 1 0), (5, .ptr 2 0), (6, .ptr 3 0), (7, I (dsF d a m).2), (8, I ((a : Int) + 1 + (m : Nat)))])
    (fun m => [some [f.r.reaches f1, f.r.shoals, I (hrs f.sides), .ro false 1 ((flowsF f.r f.sides).map fL)], some (fR y ++ [I q, I p]), some [I a, I ((a : Int) + n)], some [I (dsF d a m).1.lo, I (dsF d a m).1.hi]]) (fun m => m ≤ n) (fun m => n - m) 0 [0, 1, 2, 3] (by simp) ?_ ?_
  · simp -dsimp -implicitDefEqProofs [dsF]
  intro m j hmn
  simp -dsimp -implicitDefEqProofs
  refine ifD_in (fun hlt => ?_) (fun hge => ?_)
  · have hlt' : m < n := by omega
    have hc : ∀ h, Fn Tryz.prog 88 [stAV f.r f1 (hrs f.sides) (.ro false 1 ((flowsF f.r f.sides).map fL)), .agg (spotAV y q p), I ((a : Int) + 1 + m)] h (.agg [I (d (a + (m + 1))).lo, I (d (a + (m + 1))).hi]) h := fun h => by
      have := hcall (a + 1 + m) (by omega) h
      rw [show ((a + 1 + m : Nat) : Int) = (a : Int) + 1 + m by omega] at this
      rw [show (a : Int) + (m + 1) = (a : Int) + 1 + m by omega]
      exact this
    have hs : dsF d a (m + 1) = (⟨if (d (a + (m + 1))).lo < (dsF d a m).1.lo then (d (a + (m + 1))).lo else (dsF d a m).1.lo, max (dsF d a m).1.hi (d (a + (m + 1))).hi⟩, if (d (a + (m + 1))).lo < (dsF d a m).1.lo then (a : Int) + (m + 1) else (dsF d a m).2) := rfl
    obtain ⟨x, hx⟩ : ∃ x, x = d (a + (m + 1)) := ⟨_, rfl⟩
    obtain ⟨s, hse⟩ : ∃ s, s = dsF d a m := ⟨_, rfl⟩
    rw [← hx, ← hse] at hs
    simp only [← hx] at hc
    rw [← hse]
    have w2 : IntKind.i64.wrap ((a : Int) + 1 + m + 1) = (a : Int) + 1 + (m + 1 : Nat) := by rw [wrap_in (by omega) (by omega)]; omega
    simp -dsimp -implicitDefEqProofs
    refine onCall_in (hc _) ?_
    simp -dsimp -implicitDefEqProofs
    refine ifD_in (fun h3 => ?_) (fun h3 => ?_)
    · rw [if_pos h3, if_pos h3] at hs
      simp -dsimp -implicitDefEqProofs [w2]
      refine again_in (m + 1) [0, 1, 2, 3] (by omega) (by omega) ?_
      simp -dsimp -implicitDefEqProofs [hs]
      omega
    · rw [if_neg h3, if_neg h3] at hs
      simp -dsimp -implicitDefEqProofs [w2]
      refine again_in (m + 1) [0, 1, 2, 3] (by omega) (by omega) ?_
      simp -dsimp -implicitDefEqProofs [hs]
  · have hin : m = n := by omega
    subst hin
    simp -dsimp -implicitDefEqProofs
end Go.Pe

/- Shallowest. -/
namespace Go.Pe
open Go Go.Proofs Go.Proofs.YtffckclggkjbgaaGreat
set_option maxRecDepth 20000
set_option maxHeartbeats 8000000

/-- The shallowest pass so far: its depth, its number and its hour. -/
structure Sw where
  lo : Int
  hi : Int
  pass : Int
  hour : Int
def shS (s : Sw) (i : Nat) (d : Bd × Int) : Sw := ⟨if d.1.lo < s.lo then d.1.lo else s.lo, if d.1.hi < s.hi then d.1.hi else s.hi, if d.1.lo < s.lo then i else s.pass, if d.1.lo < s.lo then d.2 else s.hour⟩
def shF (D : Nat → Bd × Int) : Nat → Sw
  | 0 => ⟨1000000, 1000000, 0, 0⟩
  | i + 1 => shS (shF D i) i (D i)
def sgF (D : Nat → Bd × Int) (i : Nat) : Sw := if i = 0 then ⟨0, 0, 0, 0⟩ else shF D i
noncomputable def passD (f : Fc) (way : List Ps) (i : Nat) : Bd × Int := match way[i]? with
  | some p => dsF (dF f p.place) p.hours.lo (p.hours.hi - p.hours.lo).toNat
  | none => (⟨0, 0⟩, 0)
theorem dsF_in {d : Int → Bd} {a : Nat} : ∀ {n : Nat}, (∀ k : Nat, a ≤ k → k ≤ a + n → (0 ≤ (d k).lo ∧ (d k).lo ≤ 200000) ∧ 0 ≤ (d k).hi ∧ (d k).hi ≤ 200000) → (0 ≤ (dsF d a n).1.lo ∧ (dsF d a n).1.lo ≤ 200000) ∧ 0 ≤ (dsF d a n).1.hi ∧ (dsF d a n).1.hi ≤ 200000
  | 0, h => by have := h a (by omega) (by omega); simpa [dsF] using this
  | n + 1, h => by
    have ih := dsF_in (n := n) fun k h1 h2 => h k h1 (by omega)
    have hx := h (a + (n + 1)) (by omega) (by omega)
    rw [show ((a + (n + 1) : Nat) : Int) = (a : Int) + (n + 1) by omega] at hx
    simp only [dsF]
    split <;> omega
theorem pass_at {f : Fc} {way : List Ps} {p : Ps} (o : OkRv f) (hs : f.r.ss.length ≤ 50) (h : passE f.r.rs (hrs f.sides) p = 0) : (0 ≤ p.place ∧ p.place < lenSum f.r.rs) ∧ vB 0 (hrs f.sides - 1) p.hours = true := by
  unfold passE at h
  split at h
  · rename_i h1
    have := inB_iff.1 h1
    split at h
    · rename_i h2; exact ⟨by omega, h2⟩
    · omega
  · omega
theorem passD_in {f : Fc} {way : List Ps} {i : Nat} {p : Ps} (g : GoodF f) (o : OkRv f) (hp : way[i]? = some p) (h : passE f.r.rs (hrs f.sides) p = 0) : (0 ≤ (passD f way i).1.lo ∧ (passD f way i).1.lo ≤ 200000) ∧ 0 ≤ (passD f way i).1.hi ∧ (passD f way i).1.hi ≤ 200000 := by
  obtain ⟨h1, h2⟩ := pass_at (way := way) o g.small.r.m h
  have h2' := vB_iff.1 h2
  obtain ⟨q, y, ha⟩ := At.ex h1.1 h1.2
  rw [passD, hp]
  simp only
  have ea : p.hours.lo = (p.hours.lo.toNat : Int) := by omega
  rw [ea]
  refine dsF_in fun k k1 k2 => dF_in g o ha (by omega)
theorem Shallowest_bad {f : Fc} {f1 f2 fw : Bool} {way : List Ps} {h : H} (hw : SmallF f) (he : startE f ≠ 0) : Fn Tryz.prog 110 [f.r.av f1, sidesAV f.sides f2, .ro fw 3 (way.map fPs)] h (.tup [.agg [I 0, I 0], I 0, I 0, I (startE f)]) h := by
  refine Fn.beside ?_ rfl h
  refine Fn.ofR0 noM (by kernel_rfl) Tryz.func110 rfl (by simp) ?_
  have ne0 : (startE f != 0) = true := by simpa using he
  simp -dsimp -implicitDefEqProofs
  refine onCall_in (newStream_bad hw he) ?_
  simp -dsimp -implicitDefEqProofs [ne0]
theorem Shallowest_err {f : Fc} {f1 f2 fw : Bool} {way : List Ps} {h : H} (g : GoodF f) (o : OkRv f) (he : startE f = 0) (hl : way.length ≤ 1000) (hE : wayE f.r.rs (hrs f.sides) way ≠ 0) : Fn Tryz.prog 110 [f.r.av f1, sidesAV f.sides f2, .ro fw 3 (way.map fPs)] h (.tup [.agg [I 0, I 0], I 0, I 0, I (wayE f.r.rs (hrs f.sides) way)]) h := by
  refine Fn.beside ?_ rfl h
  refine Fn.ofR0 noM (by kernel_rfl) Tryz.func110 rfl (by simp) ?_
  have hm := g.hmax
  have ne0 : (wayE f.r.rs (hrs f.sides) way != 0) = true := by simpa using hE
  simp -dsimp -implicitDefEqProofs
  refine onCall_in (newStream_fn g he) ?_
  simp -dsimp -implicitDefEqProofs
  refine onCall_in (along_err o.len g.small.r.n (by omega) hl hE) ?_
  simp -dsimp -implicitDefEqProofs [ne0]
theorem Shallowest_fn {f : Fc} {f1 f2 fw : Bool} {way : List Ps} {h : H} (g : GoodF f) (o : OkRv f) (he : startE f = 0) (hE : wayE f.r.rs (hrs f.sides) way = 0) : Fn Tryz.prog 110 [f.r.av f1, sidesAV f.sides f2, .ro fw 3 (way.map fPs)] h (.tup [.agg [I (shF (passD f way) way.length).lo, I (shF (passD f way) way.length).hi], I (shF (passD f way) way.length).pass, I (shF (passD f way) way.length).hour, I 0]) h := by
  refine Fn.beside ?_ rfl h
  refine Fn.ofR0 noM (by kernel_rfl) Tryz.func110 rfl (by simp) ?_
  have hm := g.hmax
  have hmm := g.small.r.m
  have hw : way.length ≠ 0 ∧ way.length ≤ 60 ∧ ∀ p ∈ way, passE f.r.rs (hrs f.sides) p = 0 := by
    unfold wayE at hE
    split at hE
    · omega
    · split at hE
      · omega
      · exact ⟨by omega, by omega, firstE_zero hE⟩
  obtain ⟨hw0, hw6, hwp⟩ := hw
  obtain ⟨fl, hfl⟩ : ∃ fl, fl = flowsF f.r f.sides := ⟨_, rfl⟩
  have c1 : ∀ h, Fn Tryz.prog 86 [f.r.av f1, sidesAV f.sides f2] h (.tup [stAV f.r f1 (hrs f.sides) (.ro false 1 (fl.map fL)), I 0]) h := fun h => by rw [hfl]; exact newStream_fn g he
  have c2 : ∀ h, Fn Tryz.prog 145 [stAV f.r f1 (hrs f.sides) (.ro false 1 (fl.map fL)), .ro fw 3 (way.map fPs)] h (.tup [.ro false 11 ((spotsF f.r.rs way).map fSp), I 0]) h := fun h => along_fn o.len g.small.r.n (by omega) hE
  have hslen : (spotsF f.r.rs way).length = way.length := by simp [spotsF]
  obtain ⟨D, hD⟩ : ∃ D, D = passD f way := ⟨_, rfl⟩
  have c3 : ∀ i p, way[i]? = some p → ∃ (y : Rc) (q : Nat), (spotsF f.r.rs way)[i]? = some (some ⟨y, q, p.place⟩) ∧ ∀ h, Fn Tryz.prog 146 [stAV f.r f1 (hrs f.sides) (.ro false 1 (fl.map fL)), .agg (fR y ++ [I q, I p.place]), .agg [I p.hours.lo, I p.hours.hi]] h (.tup [.agg [I (D i).1.lo, I (D i).1.hi], I (D i).2]) h := fun i p hp => by
    obtain ⟨h1, h2⟩ := pass_at (way := way) o hmm (hwp p (List.mem_of_getElem? hp))
    obtain ⟨q, y, ha⟩ := At.ex h1.1 h1.2
    refine ⟨y, q, by simp [spotsF, hp, spotOf_eq o.len ha], fun h => ?_⟩
    have := depths_fn (f1 := f1) (h := h) g o ha h2
    rw [hD, passD, hp, hfl]; exact this
  have hDin : ∀ i p, way[i]? = some p → (D i).1.lo ≤ 200000 ∧ (D i).1.hi ≤ 200000 := fun i p hp => by
    have := passD_in (way := way) g o hp (hwp p (List.mem_of_getElem? hp))
    rw [hD]; omega
  rw [← hD]
  clear hD
  simp -dsimp -implicitDefEqProofs
  refine onCall_in (c1 _) ?_
  simp -dsimp -implicitDefEqProofs
  refine onCall_in (c2 _) ?_
  simp -dsimp -implicitDefEqProofs
  refine LoopCR.on 88 (fun i => [(2, .ro fw 3 (way.map fPs)), (6, .ptr 1 0), (7, I (sgF D i).pass), (8, I (sgF D i).hour), (10, .ptr 2 0), (40, .ro false 11 ((spotsF f.r.rs way).map fSp)), (41, I way.length), (42, I (i : Nat))])
    (fun i => [some [f.r.reaches f1, f.r.shoals], some [I (sgF D i).lo, I (sgF D i).hi], some [f.r.reaches f1, f.r.shoals, I (hrs f.sides), .ro false 1 (fl.map fL)]]) (fun i => i ≤ way.length) (fun i => way.length - i) 0 [0, 1, 2] (by simp) ?_ ?_
  · simp -dsimp -implicitDefEqProofs [sgF, hslen]
  intro i j hi
  simp -dsimp -implicitDefEqProofs
  refine ifD_in (fun hlt => ?_) (fun hge => ?_)
  · have hlt' : i < way.length := by omega
    obtain ⟨p, hp⟩ : ∃ p, way[i]? = some p := ⟨_, List.getElem?_eq_getElem hlt'⟩
    obtain ⟨y, q, e1, c4⟩ := c3 i p hp
    have hd := hDin i p hp
    have hs : sgF D (i + 1) = shS (shF D i) i (D i) := rfl
    obtain ⟨d, hde⟩ : ∃ d, d = D i := ⟨_, rfl⟩
    rw [← hde] at hs hd
    simp only [← hde] at c4
    have wi : IntKind.i64.wrap ((i : Int) + 1) = ((i + 1 : Nat) : Int) := by rw [wrap_in (by omega) (by omega)]; omega
    simp -dsimp -implicitDefEqProofs [e1, fSp, spotAV]
    refine DrawR.on {} (by kernel_rfl) (by simp) ?_
    simp -dsimp -implicitDefEqProofs [hp]
    refine onCallQ_in (c4 _) ?_
    by_cases h0 : i = 0
    · subst h0
      have l1 : d.1.lo < 1000000 := by omega
      have l2 : d.1.hi < 1000000 := by omega
      simp only [shF, shS, if_pos l1, if_pos l2] at hs
      simp -dsimp -implicitDefEqProofs
      refine again_in 1 [0, 1, 2] (by omega) (by omega) ?_
      simp -dsimp -implicitDefEqProofs [hs]
      exact ⟨⟨(if_pos l1).symm, (if_pos l2).symm⟩, (if_pos l1).symm, by decide⟩
    · have hg : sgF D i = shF D i := by rw [sgF, if_neg h0]
      have b0 : ((i : Int) == 0) = false := beq_eq_false_iff_ne.2 (by omega)
      rw [hg]
      obtain ⟨s, hse⟩ : ∃ s, s = shF D i := ⟨_, rfl⟩
      rw [← hse] at hs ⊢
      simp only [shS] at hs
      simp -dsimp -implicitDefEqProofs [b0, h0]
      refine ifD_in (fun h3 => ?_) (fun h3 => ?_)
      · simp only [if_pos h3] at hs
        simp -dsimp -implicitDefEqProofs [b0, h0]
        refine ifD_in (fun h4 => ?_) (fun h4 => ?_)
        · simp only [if_pos h4] at hs
          simp -dsimp -implicitDefEqProofs [wi]
          refine again_in (i + 1) [0, 1, 2] (by omega) (by omega) ?_
          simp -dsimp -implicitDefEqProofs [hs]
        · simp only [if_neg h4] at hs
          simp -dsimp -implicitDefEqProofs [wi]
          refine again_in (i + 1) [0, 1, 2] (by omega) (by omega) ?_
          simp -dsimp -implicitDefEqProofs [hs]
      · simp only [if_neg h3] at hs
        simp -dsimp -implicitDefEqProofs [b0, h0]
        refine ifD_in (fun h4 => ?_) (fun h4 => ?_)
        · simp only [if_pos h4] at hs
          simp -dsimp -implicitDefEqProofs [wi]
          refine again_in (i + 1) [0, 1, 2] (by omega) (by omega) ?_
          simp -dsimp -implicitDefEqProofs [hs]
        · simp only [if_neg h4] at hs
          simp -dsimp -implicitDefEqProofs [wi]
          refine again_in (i + 1) [0, 1, 2] (by omega) (by omega) ?_
          simp -dsimp -implicitDefEqProofs [hs]
  · have hin : i = way.length := by omega
    subst hin
    have hg : sgF D way.length = shF D way.length := by rw [sgF, if_neg hw0]
    simp -dsimp -implicitDefEqProofs [hg]
end Go.Pe
