import Derived.Test.YtblpmcmapadphabA27
set_option linter.unusedVariables false
set_option linter.unusedSimpArgs false
/- The law RiverWays. -/
namespace Go.Pe
open Go Go.Proofs Go.Proofs.Ytblpmcmapadphab
set_option maxRecDepth 20000
set_option maxHeartbeats 80000000

/-- The bounds of the depth are the right way round. -/
theorem dpt_le {f : Fc} {p : Int} {k q : Nat} {y : Rc} (g : GoodF f) (o : OkRv f) (ha : At f.r.rs p q y) (hk : k < hrs f.sides) : (dF f p k).lo ≤ (dF f p k).hi := by
  have hm := g.hmax
  have hv := validR_parts ((List.all_eq_true.1 g.rv) y (List.mem_of_getElem? ha.hx))
  have hbot := vB_iff.1 hv.2.2.2.2.2.2
  have hr := rf_ok g q (k : Int)
  have hl := lvl_truth (y := y) (b := rf f.r f.sides q k) (n := (rf f.r f.sides q k).lo) hv.2.2.2.1 (Int.le_refl _) hr.2.1
  have ht := topF_in (x := ⟨[], [], [], [], 0⟩) (p := p) (h := (k : Int)) (t := 24 * y.bot.lo) (b := y.bot) (by omega) ⟨by simp, by simp, by simp, by simp⟩ (ss := f.r.ss) o.sh f.r.ss.length (Nat.le_refl _)
  rw [List.take_length] at ht
  rw [dF_eq o ha]
  simp only [dpt]
  omega
/-- What is found on a way that is accepted. -/
theorem way_D {f : Fc} {way : List Ps} {i : Nat} {p : Ps} (g : GoodF f) (o : OkRv f) (he : startE f = 0) (hp : way[i]? = some p) (h0 : passE f.r.rs (hrs f.sides) p = 0) :
    ∃ lo hi : Nat, p.hours = ⟨(lo : Int), (hi : Int)⟩ ∧ lo ≤ hi ∧ hi < hrs f.sides ∧ (passD f way i).1.lo ≤ (passD f way i).1.hi ∧
      (∀ k : Nat, lo ≤ k → k ≤ hi → (passD f way i).1.lo ≤ (dF f p.place k).lo ∧ (dF f p.place k).lo ≤ 200000) ∧ (∃ k : Nat, lo ≤ k ∧ k ≤ hi ∧ (passD f way i).2 = k ∧ (dF f p.place k).lo = (passD f way i).1.lo ∧ ∀ m : Nat, lo ≤ m → m < k → (passD f way i).1.lo < (dF f p.place m).lo) ∧
      ∀ (k : Nat) f1 f2 h, k < hrs f.sides → Fn Try.prog 10 [f.r.av f1, sidesAV f.sides f2, I p.place, I k] h (.tup [.agg [I (dF f p.place k).lo, I (dF f p.place k).hi], I 0]) h := by
  obtain ⟨h1, h2⟩ := pass_at (way := way) o g.small.r.m h0
  obtain ⟨q, y, ha⟩ := At.ex h1.1 h1.2
  have h3 := vB_iff.1 h2
  have hD := passD_in g o hp h0
  obtain ⟨lo, hlo⟩ : ∃ k : Nat, p.hours.lo = k := ⟨p.hours.lo.toNat, by omega⟩
  obtain ⟨hi, hhi⟩ : ∃ k : Nat, p.hours.hi = k := ⟨p.hours.hi.toNat, by omega⟩
  have e : passD f way i = dsF (dF f p.place) lo (hi - lo) := by
    rw [passD, hp]; simp only [hlo, hhi]; congr 1; omega
  have hat := fun k (hk : k ≤ hi - lo) => dsF_at' (d := dF f p.place) (lo := (lo : Int)) hk
  refine ⟨lo, hi, ?_, by omega, by omega, ?_, fun k k1 k2 => ⟨?_, (dF_in g o ha (by omega)).1.2⟩, ?_, fun k f1 f2 h hk => ?_⟩
  · obtain ⟨pl, ⟨a, b⟩⟩ := p
    simp only at hlo hhi ⊢
    rw [hlo, hhi]
  · have h4 := hat 0 (by omega)
    have h5 := dpt_le (k := lo) g o ha (by omega)
    rw [show (lo : Int) + ((0 : Nat) : Int) = (lo : Int) by omega] at h4
    rw [e]; omega
  · have h4 := (hat (k - lo) (by omega)).1
    rw [show (lo : Int) + ((k - lo : Nat) : Int) = (k : Int) by omega] at h4
    rw [e]; exact h4
  · obtain ⟨k, k1, k2, k3, k4⟩ := dsF_lo (d := dF f p.place) (lo := (lo : Int)) (n := hi - lo)
    refine ⟨lo + k, by omega, by omega, by rw [e, k2]; omega, ?_, fun m m1 m2 => ?_⟩
    · rw [e, show ((lo + k : Nat) : Int) = (lo : Int) + k by omega]; exact k3
    · have := k4 (m - lo) (by omega)
      rw [show (lo : Int) + ((m - lo : Nat) : Int) = (m : Int) by omega] at this
      rw [e]; exact this
  · have := Depth_fn (f := f) (f1 := f1) (f2 := f2) (p := p.place) (k := k) (h := h) g o he h1.1 ha hk
    rw [dF_eq o ha]; exact this
/-- The same, as named facts. -/
structure WayD (f : Fc) (way : List Ps) (i : Nat) (p : Ps) (lo hi k' : Nat) : Prop where
  hours : p.hours = ⟨(lo : Int), (hi : Int)⟩
  le : lo ≤ hi
  hrs : hi < Pe.hrs f.sides
  dle : (passD f way i).1.lo ≤ (passD f way i).1.hi
  at' : ∀ k : Nat, lo ≤ k → k ≤ hi → (passD f way i).1.lo ≤ (dF f p.place k).lo ∧ (dF f p.place k).lo ≤ 200000
  k1 : lo ≤ k'
  k2 : k' ≤ hi
  k3 : (passD f way i).2 = k'
  k4 : (dF f p.place k').lo = (passD f way i).1.lo
  k5 : ∀ m : Nat, lo ≤ m → m < k' → (passD f way i).1.lo < (dF f p.place m).lo
  fn : ∀ (k : Nat) f1 f2 h, k < Pe.hrs f.sides → Fn Try.prog 10 [f.r.av f1, sidesAV f.sides f2, I p.place, I k] h (.tup [.agg [I (dF f p.place k).lo, I (dF f p.place k).hi], I 0]) h
theorem way_W {f : Fc} {way : List Ps} {i : Nat} {p : Ps} (g : GoodF f) (o : OkRv f) (he : startE f = 0) (hp : way[i]? = some p) (h0 : passE f.r.rs (hrs f.sides) p = 0) : ∃ lo hi k', WayD f way i p lo hi k' := by
  obtain ⟨lo, hi, q0, q1, q2, q3, q4, ⟨k, r1, r2, r3, r4, r5⟩, q5⟩ := way_D g o he hp h0
  exact ⟨lo, hi, k, q0, q1, q2, q3, q4, r1, r2, r3, r4, r5, q5⟩
/-- One pass of the law RiverWays, at an hour of it. -/
structure WayR (S : Sw) (f : Fc) (p : Ps) (i i0 k0 cut lo hi kk e : Nat) (d : Bd) : Prop where
  m1 : (cut : Int).tmod ((hi : Int) - lo + 1) = (e : Int)
  w1 : IntKind.i64.wrap ((hi : Int) - lo) = (hi : Int) - lo
  w2 : IntKind.i64.wrap ((hi : Int) - lo + 1) = (hi : Int) - lo + 1
  z1 : ¬ ((hi : Int) - lo + 1 = 0)
  w3 : IntKind.i64.wrap ((lo : Int) + e) = (kk : Int)
  fn : ∀ f1 f2 h, Fn Try.prog 10 [f.r.av f1, sidesAV f.sides f2, I p.place, I kk] h (.tup [.agg [I d.lo, I d.hi], I 0]) h
  v1 : decide ((lo : Int) < 0) = false
  v2 : decide (hi < lo) = false
  v3 : decide (hrs f.sides ≤ hi) = false
  v4 : decide (d.lo < S.lo) = false
  v5 : (d.lo == S.lo) = true → decide (i < i0) = false
  v6 : (d.lo == S.lo) = true → i = i0 → decide (kk < k0) = false
theorem way_R {S : Sw} {f : Fc} {way : List Ps} {p p0 : Ps} {i i0 k0 cut lo hi k' lo0 hi0 : Nat} (hm : hrs f.sides ≤ 400) (hcut : cut ≤ 255) (W : WayD f way i p lo hi k') (W0 : WayD f way i0 p0 lo0 hi0 k0) (hp : way[i]? = some p) (hp0 : way[i0]? = some p0)
    (hS : S.lo ≤ (passD f way i).1.lo) (hS0 : (passD f way i0).1.lo = S.lo) (h5 : ∀ m : Nat, m < i0 → S.lo < (passD f way m).1.lo) : ∃ kk e d, WayR S f p i i0 k0 cut lo hi kk e d := by
  have he1 : cut % (hi - lo + 1) < hi - lo + 1 := Nat.mod_lt _ (by omega)
  have q1 := W.le; have q2 := W.hrs
  have hde := W.at' (lo + cut % (hi - lo + 1)) (by omega) (by omega)
  refine ⟨lo + cut % (hi - lo + 1), cut % (hi - lo + 1), dF f p.place ((lo + cut % (hi - lo + 1) : Nat) : Int), ?_, wrap_in (by omega) (by omega), wrap_in (by omega) (by omega), by omega, ?_, fun f1 f2 h => W.fn _ f1 f2 h (by omega), decide_eq_false (by omega), decide_eq_false (by omega), decide_eq_false (by omega), decide_eq_false (by omega), fun hb => decide_eq_false fun hh => ?_, fun hb hh => decide_eq_false fun hlt => ?_⟩
  · rw [show (hi : Int) - lo + 1 = ((hi - lo + 1 : Nat) : Int) by omega]; rfl
  · rw [wrap_in (by omega) (by omega)]; omega
  · have hb' := eq_of_beq hb
    have := h5 i hh; omega
  · have hb' := eq_of_beq hb
    subst hh
    have hpe : p0 = p := Option.some.inj (hp0.symm.trans hp)
    subst hpe
    have hll : (lo : Int) = lo0 := by have := W.hours; rw [W0.hours] at this; exact (Bd.mk.inj this).1.symm
    have := W0.k5 (lo + cut % (hi - lo + 1)) (by omega) hlt
    omega
/-- Two parts of a way. -/
theorem way_cut {f : Fc} {way w1 w2 : List Ps} {a : Nat} (g : GoodF f) (o : OkRv f) (he : startE f = 0) (hwp : ∀ p ∈ way, passE f.r.rs (hrs f.sides) p = 0) (hl : way.length ≤ 20) (h0 : 0 < a) (ha : a < way.length) (h1 : w1 = way.take a) (h2 : w2 = way.drop a) : ∃ X Y : Sw,
    (∀ f1 f2 h, Fn Try.prog 6 [f.r.av f1, sidesAV f.sides f2, .ro false 3 (w1.map fPs)] h (.tup [.agg [I X.lo, I X.hi], I X.pass, I X.hour, I 0]) h) ∧ (∀ f1 f2 h, Fn Try.prog 6 [f.r.av f1, sidesAV f.sides f2, .ro false 3 (w2.map fPs)] h (.tup [.agg [I Y.lo, I Y.hi], I Y.pass, I Y.hour, I 0]) h) ∧
    min X.lo Y.lo = (shF (passD f way) way.length).lo ∧ min X.hi Y.hi = (shF (passD f way) way.length).hi := by
  have l1 : w1.length = a := by rw [h1, List.length_take]; omega
  have l2 : w2.length = way.length - a := by rw [h2, List.length_drop]
  have e1 : wayE f.r.rs (hrs f.sides) w1 = 0 := firstE_all (fun p hp => hwp p (by rw [h1] at hp; exact List.mem_of_mem_take hp)) (by omega) (by omega)
  have e2 : wayE f.r.rs (hrs f.sides) w2 = 0 := firstE_all (fun p hp => hwp p (by rw [h2] at hp; exact List.mem_of_mem_drop hp)) (by omega) (by omega)
  refine ⟨shF (passD f w1) w1.length, shF (passD f w2) w2.length, fun f1 f2 h => Shallowest_fn g o he e1, fun f1 f2 h => Shallowest_fn g o he e2, ?_⟩
  have c1 : shF (passD f w1) w1.length = shF (passD f way) a := by rw [l1]; exact shF_congr fun i hi => by rw [h1]; exact passD_take hi
  have c2 : shF (passD f w2) w2.length = shF (fun i => passD f way (a + i)) (way.length - a) := by rw [l2]; exact shF_congr fun i hi => by rw [h2]; exact passD_drop
  have hs := shF_split (D := passD f way) (a := a) (b := way.length - a)
  rw [show a + (way.length - a) = way.length by omega] at hs
  rw [c1, c2]
  exact ⟨hs.1.symm, hs.2.symm⟩
/-- A way with more hours. -/
theorem way_more {f : Fc} {way M : List Ps} {c d : Nat} (g : GoodF f) (o : OkRv f) (he : startE f = 0) (hwp : ∀ p ∈ way, passE f.r.rs (hrs f.sides) p = 0) (hl : way.length ≤ 20) (h0 : 0 < way.length) (hM : M = way.map (wider (hrs f.sides) c d)) : ∃ Z : Sw,
    (∀ f1 f2 h, Fn Try.prog 6 [f.r.av f1, sidesAV f.sides f2, .ro false 3 (M.map fPs)] h (.tup [.agg [I Z.lo, I Z.hi], I Z.pass, I Z.hour, I 0]) h) ∧ decide (Z.lo ≤ (shF (passD f way) way.length).lo) = true ∧ decide ((shF (passD f way) way.length).hi ≤ Z.hi) = true := by
  have l1 : M.length = way.length := by rw [hM, List.length_map]
  have hp : ∀ p ∈ M, passE f.r.rs (hrs f.sides) p = 0 := fun p hp => by
    rw [hM] at hp
    obtain ⟨q, hq, rfl⟩ := List.mem_map.1 hp
    exact wider_ok (hwp q hq) (by omega) (by omega)
  have e1 : wayE f.r.rs (hrs f.sides) M = 0 := firstE_all hp (by omega) (by omega)
  have hD : ∀ i, i < M.length → (passD f M i).1.lo ≤ (passD f way i).1.lo ∧ (passD f way i).1.hi ≤ (passD f M i).1.hi := fun i hi => by
    have hx := List.getElem?_eq_getElem (show i < way.length by omega)
    have := wider_D (f := f) (n := hrs f.sides) (c := (c : Int)) (d := (d : Int)) hx (pass_at (way := way) o g.small.r.m (hwp _ (List.mem_of_getElem? hx))).2 (by omega) (by omega)
    rw [hM]; exact this
  have hb : ∀ (w : List Ps), (∀ p ∈ w, passE f.r.rs (hrs f.sides) p = 0) → ∀ i, i < w.length → (0 ≤ (passD f w i).1.lo ∧ (passD f w i).1.lo ≤ 200000) ∧ 0 ≤ (passD f w i).1.hi ∧ (passD f w i).1.hi ≤ 200000 := fun w hw i hi => by
    have hp := List.getElem?_eq_getElem hi
    exact passD_in g o hp (hw _ (List.mem_of_getElem? hp))
  refine ⟨shF (passD f M) M.length, fun f1 f2 h => Shallowest_fn g o he e1, decide_eq_true ?_, decide_eq_true ?_⟩
  · obtain ⟨i, i1, _, _, i4, _⟩ := shF_lo (D := passD f way) (n := way.length) (fun i hi => (hb way hwp i hi).1.2) h0
    have h1 := (shF_at (D := passD f M) (n := M.length) (i := i) (by omega)).1
    have h2 := (hD i (by omega)).1
    omega
  · obtain ⟨i, i1, i2⟩ := shF_hi (D := passD f M) (n := M.length) (fun i hi => (hb M hp i hi).2.2) (by omega)
    have h1 := (shF_at (D := passD f way) (n := way.length) (i := i) (by omega)).2
    have h2 := (hD i (by omega)).2
    omega
theorem slice_to {e : TypeId} {s by' a' : Nat} {z : List Value} {a f' cm g : Bool} {E : TI} {l w : List Ps} (hE : E.size = 3) (h : a' ≤ l.length) (hw : w = l.take a') : sliceA { kind := .sl e, size := s, zero := z, agg := a, bytes := by', fok := f', cmp := cm } E (.ro g 3 (l.map fPs)) none (some (I a')) none = some (.ro false 3 (w.map fPs)) := by
  subst hw
  simp only [sliceA, boundA, intOf?]
  rw [if_pos ⟨hE.symm, by omega, by omega, by rw [List.length_map]; omega⟩]
  simp
theorem slice_from {e : TypeId} {s by' a' : Nat} {z : List Value} {a f' cm g : Bool} {E : TI} {l w : List Ps} (hE : E.size = 3) (h : a' ≤ l.length) (hw : w = l.drop a') : sliceA { kind := .sl e, size := s, zero := z, agg := a, bytes := by', fok := f', cmp := cm } E (.ro g 3 (l.map fPs)) (some (I a')) none none = some (.ro false 3 (w.map fPs)) := by
  subst hw
  simp only [sliceA, boundA, intOf?]
  rw [if_pos ⟨hE.symm, by omega, by rw [List.length_map]; omega, by omega⟩]
  congr 2
  rw [Int.toNat_natCast, Int.toNat_natCast, List.length_map, ← List.map_drop, List.take_of_length_le (by simp)]
/-- One pass that gets more hours, cell by cell. -/
structure WayS (n c d : Nat) (way : List Ps) (m : Nat) (p p1 : Ps) (L L1 : List Ps) : Prop where
  l0 : L = moreL n c d way m
  f1 : ((rws fPs L).drop (m * 3 + 1)).take 1 = [I p.hours.lo]
  g1 : m * 3 + 2 ≤ (rws fPs L).length
  s1 : (rws fPs L).set (m * 3 + 1) (I (max 0 (p.hours.lo - c))) = rws fPs L1
  f2 : ((rws fPs L1).drop (m * 3 + 2)).take 1 = [I p.hours.hi]
  g2 : m * 3 + 3 ≤ (rws fPs L1).length
  s2 : (rws fPs L1).set (m * 3 + 2) (I (min ((n : Int) - 1) (p.hours.hi + d))) = rws fPs (moreL n c d way (m + 1))
theorem way_S {n c d : Nat} {way : List Ps} {m : Nat} {p : Ps} (hp : way[m]? = some p) : ∃ p1 L L1, WayS n c d way m p p1 L L1 := by
  have hx := moreL_at (n := n) (c := c) (d := d) hp
  have hm := (List.getElem?_eq_some_iff.1 hx).1
  obtain ⟨L, hL⟩ : ∃ L, L = moreL n c d way m := ⟨_, rfl⟩
  rw [← hL] at hx hm
  have hset := moreL_set (n := n) (c := c) (d := d) hp
  rw [← hL] at hset
  have q1 := cell_rws fPs_len hx (show 1 < 3 by omega) (v := I p.hours.lo) rfl
  have hx1 : (L.set m ⟨p.place, ⟨max 0 (p.hours.lo - c), p.hours.hi⟩⟩)[m]? = some ⟨p.place, ⟨max 0 (p.hours.lo - c), p.hours.hi⟩⟩ := by rw [List.getElem?_set_self hm]
  have q2 := cell_rws fPs_len hx1 (show 2 < 3 by omega) (v := I p.hours.hi) rfl
  refine ⟨⟨p.place, ⟨max 0 (p.hours.lo - c), p.hours.hi⟩⟩, L, _, hL, q1.1, q1.2, set_cell fPs_len hx (by omega) rfl, q2.1, q2.2, ?_⟩
  rw [set_cell (y := wider n c d p) fPs_len hx1 (by omega) rfl, List.set_set, hset]
end Go.Pe
