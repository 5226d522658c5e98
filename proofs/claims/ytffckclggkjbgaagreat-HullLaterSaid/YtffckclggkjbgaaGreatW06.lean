import Derived.Test.YtffckclggkjbgaaGreatW04
import Derived.Test.YtffckclggkjbgaaGreatW05
set_option linter.unusedVariables false
set_option linter.unusedSimpArgs false
/- By how many hours a loaded hull must be later. -/
namespace Go.Pe
open Go Go.Proofs Go.Proofs.YtffckclggkjbgaaGreat
set_option maxRecDepth 20000
set_option maxHeartbeats 8000000
attribute [local simp] ts22 us22 ts24 us24 ts25 us25 ts34 us34 ts39 us39 ts57 us57 ts156 us156 ts53 us53 ts64 us64
attribute [local simp] convA extA lenA
attribute [local simp] fSec_eq loadAV_eq pgC_eq
def shP (k : Int) (q : Ps) : Ps := ⟨q.place, ⟨q.hours.lo + k, q.hours.hi + k⟩⟩
def pgS (p : Pg) (k : Int) : Pg := { p with way := p.way.map (shP k) }
theorem pgS_zero {p : Pg} : pgS p 0 = p := by
  have : p.way.map (shP 0) = p.way := by
    rw [show shP 0 = id from funext fun q => by simp [shP]]; simp
  unfold pgS; rw [this]
/-- What is known of a valid passage. -/
structure OkP (p : Pg) : Prop where
  keel : inB 0 500 p.keel = true
  st : startE p.f = 0
  pos : 0 < p.way.length
  max : p.way.length ≤ 60
  way : ∀ q ∈ p.way, passE p.f.r.rs (hrs p.f.sides) q = 0
theorem okP_of {p : Pg} (h : pgE p = 0) : OkP p := by
  unfold pgE at h
  split at h; · omega
  split at h; · rename_i c; exact absurd h c
  rename_i a b
  have hw := h
  unfold wayE at hw
  split at hw; · omega
  split at hw; · omega
  exact ⟨by simpa using a, by simpa using b, by omega, by omega, firstE_zero hw⟩
theorem okP_E {p : Pg} (o : OkP p) : pgE p = 0 := by
  unfold pgE
  rw [if_neg (by simp [o.keel]), if_neg (by simp [o.st])]
  exact firstE_all o.way (by have := o.pos; omega) o.max
theorem okP_hours {p : Pg} (o : OkP p) {q : Ps} (hq : q ∈ p.way) : 0 ≤ q.hours.lo ∧ q.hours.lo ≤ q.hours.hi ∧ q.hours.hi < hrs p.f.sides := by
  have h := o.way q hq
  unfold passE at h
  split at h
  · split at h
    · rename_i h2; have := vB_iff.1 h2; omega
    · omega
  · omega
theorem pgE_shift {p : Pg} (o : OkP p) {k : Int} (hk : 0 ≤ k) : pgE (pgS p k) = 0 ↔ ∀ q ∈ p.way, q.hours.hi + k < hrs p.f.sides := by
  constructor
  · intro h q hq
    have o' := okP_of h
    have := okP_hours o' (q := shP k q) (List.mem_map.2 ⟨q, hq, rfl⟩)
    exact this.2.2
  · intro h
    refine okP_E ⟨o.keel, o.st, by simp only [pgS, List.length_map]; exact o.pos, by simp only [pgS, List.length_map]; exact o.max, fun q' hq' => ?_⟩
    obtain ⟨q, hq, rfl⟩ := List.mem_map.1 hq'
    have h1 := o.way q hq
    have h2 := okP_hours o hq
    have h3 := h q hq
    simp only [pgS]
    unfold passE at h1 ⊢
    split at h1
    · rename_i h4
      rw [if_pos (by exact h4), if_pos]
      exact vB_iff.2 (by simp only [shP]; omega)
    · omega
theorem lsD_ok {p : Pg} (h : pgE p = 0) : lsD p = shF (passD p.f p.way) p.way.length := by unfold lsD; rw [if_pos h]
/-- Where and when the least depth is. -/
theorem least_hit {p : Pg} (hw : SmallF p.f) (h : pgE p = 0) : ∃ (i t : Nat) (q : Ps), p.way[i]? = some q ∧ (lsD p).pass = i ∧ (lsD p).hour = t ∧ (q.hours.lo ≤ t ∧ (t : Int) ≤ q.hours.hi) ∧ (dF p.f q.place t).lo = (lsD p).lo := by
  have o := okP_of h
  have g := good_of hw o.st
  have orv : OkRv p.f := okRv_of (rv_of_start o.st)
  rw [lsD_ok h]
  obtain ⟨i, h1, h2, h3, h4, _⟩ := shF_lo (D := passD p.f p.way) (n := p.way.length) (fun i hi => by
    have hq := List.getElem?_eq_getElem hi
    have := passD_in g orv hq (o.way _ (List.getElem_mem hi))
    omega) o.pos
  have hq := List.getElem?_eq_getElem h1
  have hh := okP_hours o (List.getElem_mem h1)
  rw [passD, hq] at h3 h4
  simp only at h3 h4
  obtain ⟨k, k1, k2, k3, _⟩ := dsF_lo (d := dF p.f p.way[i].place) (lo := p.way[i].hours.lo) (n := (p.way[i].hours.hi - p.way[i].hours.lo).toNat)
  have et : ((p.way[i].hours.lo + k).toNat : Int) = p.way[i].hours.lo + k := by omega
  refine ⟨i, (p.way[i].hours.lo + k).toNat, p.way[i], hq, h2, ?_, ?_, ?_⟩
  · rw [h3, k2, et]
  · rw [et]; omega
  · rw [et, k3, h4]
theorem least_le {p : Pg} (hw : SmallF p.f) (h : pgE p = 0) {q : Ps} (hq : q ∈ p.way) {t : Int} (h1 : q.hours.lo ≤ t) (h2 : t ≤ q.hours.hi) : (lsD p).lo ≤ (dF p.f q.place t).lo := by
  rw [lsD_ok h]
  obtain ⟨i, hi, rfl⟩ := List.getElem_of_mem hq
  have h3 := (shF_at (D := passD p.f p.way) hi).1
  rw [passD, List.getElem?_eq_getElem hi] at h3
  simp only at h3
  have h4 := (dsF_at' (d := dF p.f p.way[i].place) (lo := p.way[i].hours.lo) (n := (p.way[i].hours.hi - p.way[i].hours.lo).toNat) (k := (t - p.way[i].hours.lo).toNat) (by omega)).1
  rw [show p.way[i].hours.lo + ((t - p.way[i].hours.lo).toNat : Int) = t by omega] at h4
  omega
/-- As long as the hull may be there at that hour, it is not safe. -/
theorem later_jump {x : Ld} {p : Pg} {k m : Int} {i t : Nat} {q : Ps} (hw : SmallF p.f) (hk : 0 ≤ k) (hm : k ≤ m) (h : pgE (pgS p k) = 0) (hs : sure x (pgS p k) = false) (hq : p.way[i]? = some q)
    (ht : (q.hours.lo + k ≤ t ∧ (t : Int) ≤ q.hours.hi + k)) (hd : (dF p.f q.place t).lo = (lsD (pgS p k)).lo) (hmt : q.hours.lo + m ≤ t) (hE : pgE (pgS p m) = 0) : sure x (pgS p m) = false := by
  have h1 := least_le (p := pgS p m) hw hE (q := shP m q) (List.mem_map.2 ⟨q, List.mem_of_getElem? hq, rfl⟩) (t := t) (by simp only [shP]; omega) (by simp only [shP]; omega)
  have h2 := of_decide_eq_false hs
  unfold sure
  refine decide_eq_false ?_
  have e1 : (pgS p m).keel = p.keel := rfl
  have e2 : (pgS p k).keel = p.keel := rfl
  have e3 : (pgS p m).f = p.f := rfl
  have e4 : (shP m q).place = q.place := rfl
  rw [e3, e4] at h1
  rw [e1]; rw [e2] at h2
  omega
/-- The hours after which nothing more is tried. -/
def stopL (x : Ld) (p : Pg) (k : Nat) : Prop := pgE (pgS p k) ≠ 0 ∨ sure x (pgS p k) = true
theorem stop_some {x : Ld} {p : Pg} (h : pgE p = 0) : ∃ k, stopL x p k ∧ ∀ m, m < k → ¬ stopL x p m := by
  have o := okP_of h
  have hx : stopL x p (hrs p.f.sides) := .inl fun he => by
    have hq := List.getElem_mem o.pos
    have h1 := (pgE_shift o (k := (hrs p.f.sides : Nat)) (by omega)).1 he _ hq
    have h2 := okP_hours o hq
    omega
  obtain ⟨k, _, h1, h2⟩ := least_of (P := stopL x p) hx
  exact ⟨k, h1, h2⟩
open Classical in
/-- By how many hours to be later, at least, or the first number of hours for which that is no question. -/
noncomputable def latK (x : Ld) (p : Pg) : Nat := if h : ∃ k, stopL x p k ∧ ∀ m, m < k → ¬ stopL x p m then h.choose else 0
theorem latK_eq {x : Ld} {p : Pg} {k : Nat} (h1 : stopL x p k) (h2 : ∀ m, m < k → ¬ stopL x p m) : latK x p = k := by
  have h : ∃ k, stopL x p k ∧ ∀ m, m < k → ¬ stopL x p m := ⟨k, h1, h2⟩
  unfold latK
  rw [dif_pos h]
  obtain ⟨g1, g2⟩ := h.choose_spec
  rcases Nat.lt_trichotomy h.choose k with c | c | c
  · exact absurd g1 (h2 _ c)
  · exact c
  · exact absurd h1 (g2 _ c)
theorem latK_is {x : Ld} {p : Pg} (h : pgE p = 0) : stopL x p (latK x p) ∧ ∀ m, m < latK x p → ¬ stopL x p m := by
  obtain ⟨k, h1, h2⟩ := stop_some (x := x) h
  rw [latK_eq h1 h2]
  exact ⟨h1, h2⟩
theorem fPs_len (p : Ps) : (fPs p).length = 3 := rfl
theorem CloneP_fn {l : List Ps} {fu : Bool} (h1 : l.length ≠ 0) (h2 : l.length ≤ 1000) : Fn Tryz.prog 111 [.ro fu 3 (l.map fPs)] .nil (.sl 0 0 l.length 3) (mkH [some (rws fPs l)]) := by
  refine Fn.ofRx (bl0 := []) (bl := [some (rws fPs l)]) ownM (by kernel_rfl) Tryz.func111 rfl (by simp) ?_
  have hb1 : l.length * 24 ≤ 70368744177664 := by omega
  have hb2 : l.length ≤ 70368744177664 := by omega
  have h3 : (l.map fPs).length ≠ 0 := by simpa using h1
  simp -dsimp -implicitDefEqProofs [h1, hb1, hb2]
  refine ⟨[0], ?_⟩
  simp -dsimp -implicitDefEqProofs
  exact rws_rn (f := fPs) (l := l) (n := 3) fun _ => rfl
/-- One pass that is later, cell by cell. -/
structure LatS (k : Int) (way : List Ps) (m : Nat) (p : Ps) (L L1 : List Ps) : Prop where
  l0 : L = mapL (shP k) way m
  f1 : ((rws fPs L).drop (m * 3 + 1)).take 1 = [I p.hours.lo]
  g1 : m * 3 + 2 ≤ (rws fPs L).length
  s1 : (rws fPs L).set (m * 3 + 1) (I (p.hours.lo + k)) = rws fPs L1
  f2 : ((rws fPs L1).drop (m * 3 + 2)).take 1 = [I p.hours.hi]
  g2 : m * 3 + 3 ≤ (rws fPs L1).length
  s2 : (rws fPs L1).set (m * 3 + 2) (I (p.hours.hi + k)) = rws fPs (mapL (shP k) way (m + 1))
theorem lat_S {k : Int} {way : List Ps} {m : Nat} {p : Ps} (hp : way[m]? = some p) : ∃ L L1, LatS k way m p L L1 := by
  have hx := mapL_at (g := shP k) hp
  have hm := (List.getElem?_eq_some_iff.1 hx).1
  obtain ⟨L, hL⟩ : ∃ L, L = mapL (shP k) way m := ⟨_, rfl⟩
  rw [← hL] at hx hm
  have hset := mapL_set (g := shP k) hp
  rw [← hL] at hset
  have q1 := cell_rws fPs_len hx (show 1 < 3 by omega) (v := I p.hours.lo) rfl
  have hx1 : (L.set m ⟨p.place, ⟨p.hours.lo + k, p.hours.hi⟩⟩)[m]? = some ⟨p.place, ⟨p.hours.lo + k, p.hours.hi⟩⟩ := by rw [List.getElem?_set_self hm]
  have q2 := cell_rws fPs_len hx1 (show 2 < 3 by omega) (v := I p.hours.hi) rfl
  refine ⟨L, _, hL, q1.1, q1.2, set_cell fPs_len hx (by omega) rfl, q2.1, q2.2, ?_⟩
  rw [set_cell (y := shP k p) fPs_len hx1 (by omega) rfl, List.set_set, hset]
end Go.Pe

/- The function Later of package hull. -/
namespace Go.Pe
open Go Go.Proofs Go.Proofs.YtffckclggkjbgaaGreat
set_option maxRecDepth 20000
set_option maxHeartbeats 8000000
attribute [local simp] ts22 us22 ts24 us24 ts25 us25 ts34 us34 ts39 us39 ts57 us57 ts156 us156 ts53 us53 ts64 us64
attribute [local simp] convA extA lenA
attribute [local simp] fSec_eq loadAV_eq pgC_eq
theorem later_fn {p : Pg} {k : Nat} {f1 f2 fw : Bool} {h : H} (h0 : p.way.length ≠ 0) (hl : p.way.length ≤ 1000) (hh : ∀ q ∈ p.way, 0 ≤ q.hours.lo ∧ q.hours.lo ≤ 100000 ∧ 0 ≤ q.hours.hi ∧ q.hours.hi ≤ 100000) (hk : k ≤ 100000) :
    Fn Tryz.prog 74 [.agg (pgC p f1 f2 fw), I (k : Nat)] h (.agg (pgC (pgS p k) f1 f2 false)) h := by
  refine Fn.beside ?_ rfl h
  refine Fn.ofR0 noM (by kernel_rfl) Tryz.func74 rfl (by simp) ?_
  have hprn : ∀ L : List Ps, (rws fPs L).mapM (rn [0, 1, 2] 4) = some (rws fPs L) := fun L => rws_rn (f := fPs) (l := L) (n := 3) fun _ => rfl
  simp -dsimp -implicitDefEqProofs
  refine onCall_in (Fn.makes (bl := [rws fPs p.way]) (CloneP_fn h0 hl) rfl (by simp [rws_all, fPs_eq]) _ rfl) ?_
  simp -dsimp -implicitDefEqProofs
  refine LoopCR.on 42 (fun i => [(1, I (k : Nat)), (2, .ptr 0 0), (4, .ptr 1 0), (12, I (p.way.length : Nat)), (13, I (i : Nat))]) (fun i => [some [p.f.r.reaches f1, p.f.r.shoals, sidesAV p.f.sides f2, .sl 2 0 p.way.length 3, I p.keel], some [.val (.slice none 0 0), .val (.slice none 0 0), .val (.slice none 0 0), .val (.slice none 0 0), I 0], some (rws fPs (mapL (shP k) p.way i))]) (fun i => i ≤ p.way.length) (fun i => p.way.length - i) 0 [0, 1, 2] (by simp) ?_ ?_
  · simp -dsimp -implicitDefEqProofs [mapL_zero, hprn]
  intro m j hmw
  simp -dsimp -implicitDefEqProofs
  refine ifD_in (fun hlt => ?_) (fun hge => ?_)
  · refine Exists.elim (show ∃ q, p.way[m]? = some q from ⟨_, List.getElem?_eq_getElem hlt⟩) fun q hq => ?_
    refine Exists.elim (lat_S (k := k) hq) fun L b1 => Exists.elim b1 fun L1 W => ?_
    have hb := hh q (List.mem_of_getElem? hq)
    have wl : IntKind.i64.wrap (q.hours.lo + k) = q.hours.lo + k := wrap_in (by omega) (by omega)
    have wh : IntKind.i64.wrap (q.hours.hi + k) = q.hours.hi + k := wrap_in (by omega) (by omega)
    have wm : IntKind.i64.wrap ((m : Int) + 1) = (m : Int) + 1 := wrap_in (by omega) (by omega)
    have hL := W.l0.symm
    simp -dsimp -implicitDefEqProofs [indexA_sl, hlt, hL, W.f1, W.g1, wl, -storeA]
    refine on_cell (cs := rws fPs L) (by simp) rfl rfl W.g1 W.s1 ?_
    simp -dsimp -implicitDefEqProofs [indexA_sl, hlt, W.f2, W.g2, wh, -storeA]
    refine on_cell (cs := rws fPs L1) (by simp) rfl rfl W.g2 W.s2 ?_
    simp -dsimp -implicitDefEqProofs [wm]
    refine again_in (m + 1) [0, 1, 2] (by omega) (by omega) ?_
    simp -dsimp -implicitDefEqProofs [hprn]
  · have hin : m = p.way.length := by omega
    refine Exists.elim (show ∃ W, W = p.way.map (shP k) from ⟨_, rfl⟩) fun W hW => ?_
    have hWl : W.length = p.way.length := by rw [hW]; simp
    have e1 : mapL (shP k) p.way p.way.length = W := by rw [hW]; exact mapL_all
    have e2 : (pgS p k).way = W := hW.symm
    have e3 : (pgS p k).f = p.f := rfl
    have e4 : (pgS p k).keel = p.keel := rfl
    simp -dsimp -implicitDefEqProofs [hin, e1, e2, e3, e4]
    refine frz_aggL ⟨frz_one rfl, frz_one rfl, frz_one rfl, ?_, frz_one rfl, trivial⟩
    refine ⟨2, frz_rows (rows := W.map fPs) ?_ (Nat.zero_le _) ?_ ?_ (rws_all (f := fPs) fun _ => rfl)⟩
    · simp [mkH, rws]
    · simpa using hWl
    · simp [fPs_eq]
/-- The error of Later. -/
noncomputable def latE (x : Ld) (p : Pg) : Int := if safE x p ≠ 0 then safE x p else if pgE (pgS p (latK x p)) = 0 then 0 else 7
theorem Later_fn {x : Ld} {p : Pg} {g1 g2 f1 f2 fw : Bool} {h : H} (hu : SmallU x.u) (hl : (x.l.length : Int) ≤ 1000) (hw : SmallF p.f) (hwl : p.way.length ≤ 1000) :
    Fn Tryz.prog 32 [.agg [I x.u.a, .ro g1 5 (x.u.ss.map fSec)], loadAV g2 x.l, .agg [I x.b.lo, I x.b.hi], .agg (pgC p f1 f2 fw)] h
      (.tup [I (if latE x p = 0 then (latK x p : Int) else 0), I (latE x p)]) h := by
  refine Fn.beside ?_ rfl h
  refine Fn.ofR0 noM (by kernel_rfl) Tryz.func32 rfl (by simp) ?_
  have cF : ∀ h, Fn Tryz.prog 21 [.agg [I x.u.a, .ro g1 5 (x.u.ss.map fSec)], loadAV g2 x.l, .agg [I x.b.lo, I x.b.hi]] h (.tup [.agg (floatR x.u x.l x.b), I (fltE x.u x.l x.b)]) h := fun h => Float_fn hu hl
  have cL : ∀ h, Fn Tryz.prog 71 [.agg (pgC p f1 f2 fw)] h (.tup [.agg (lsC (lsD p)), I (pgE p)]) h := fun h => leastOn_fn hw hwl
  have cL2 : ∀ (k : Nat) h, Fn Tryz.prog 71 [.agg (pgC (pgS p k) f1 f2 false)] h (.tup [.agg (lsC (lsD (pgS p k))), I (pgE (pgS p k))]) h := fun k h => leastOn_fn hw (by simpa [pgS] using hwl)
  simp only [loadAV_eq] at cF
  simp only [pgC_eq, lsC_eq] at cL cL2
  simp -dsimp -implicitDefEqProofs
  refine onCall_in (cF _) ?_
  refine (Classical.em (fltE x.u x.l x.b = 0)).elim (fun hf => ?_) (fun hf => ?_)
  rotate_left
  · have n1 : (fltE x.u x.l x.b != 0) = true := by simpa using hf
    have e0 : safE x p = fltE x.u x.l x.b := by simp [safE, hf]
    have e : latE x p = fltE x.u x.l x.b := by unfold latE; rw [if_pos (by omega), e0]
    have e2 : (fltE x.u x.l x.b = 0) = False := eq_false hf
    have e3 : floatR x.u x.l x.b = [I 0, I 0, I 0, I 0, I 0] := by unfold floatR; rw [if_neg hf]
    simp -dsimp -implicitDefEqProofs [n1, e, e2, e3]
  have e3 := floatR_ok hf
  simp -dsimp -implicitDefEqProofs [hf, e3]
  refine onCall_in (cL _) ?_
  refine (Classical.em (pgE p = 0)).elim (fun hp => ?_) (fun hp => ?_)
  rotate_left
  · have n1 : (pgE p != 0) = true := by simpa using hp
    have e0 : safE x p = pgE p := by simp [safE, hf]
    have e : latE x p = pgE p := by unfold latE; rw [if_pos (by omega), e0]
    have e2 : (pgE p = 0) = False := eq_false hp
    simp -dsimp -implicitDefEqProofs [n1, e, e2]
  have e0 : safE x p = 0 := by simp [safE, hf, hp]
  have hE : latE x p = if pgE (pgS p (latK x p)) = 0 then 0 else 7 := by unfold latE; rw [if_neg (by omega)]
  have hd := d_in hf
  have hk := keel_of hp
  have op := okP_of hp
  have gf := good_of hw op.st
  have hmax := gf.hmax
  have c1 : ∀ (k : Nat) h, Fn Tryz.prog 72 [.agg [I (lsD (pgS p k)).lo, I (lsD (pgS p k)).hi, I (lsD (pgS p k)).pass, I (lsD (pgS p k)).hour], .agg [I (mZ x.u x.l x.b.hi), I (mZ x.u x.l x.b.lo), I (dLo x), I (dHi x), I (sgn (mom x.u x.l))], I p.keel] h (B (sure x (pgS p k))) h := fun k h => surely_fn (s := lsD (pgS p k)) (by omega) (by omega)
  have c2 : ∀ (k : Nat) h, k ≤ 100000 → Fn Tryz.prog 74 [.agg (pgC p f1 f2 fw), I (k : Nat)] h (.agg (pgC (pgS p k) f1 f2 false)) h := fun k h hk => later_fn (by have := op.pos; omega) hwl (fun q hq => by have := okP_hours op hq; omega) hk
  simp only [pgC_eq] at c2
  simp -dsimp -implicitDefEqProofs [hp]
  refine LoopCR.on 60 (fun k => [(7, .ptr 0 0), (10, .ptr 1 0), (12, .ptr 2 0), (13, I (k : Nat))]) (fun k => [some (pgC p f1 f2 fw), some [I (mZ x.u x.l x.b.hi), I (mZ x.u x.l x.b.lo), I (dLo x), I (dHi x), I (sgn (mom x.u x.l))], some (lsC (lsD (pgS p k)))])
    (fun k => pgE (pgS p k) = 0 ∧ ∀ m, m < k → ¬ stopL x p m) (fun k => hrs p.f.sides - k) 0 [2, 3, 4] ⟨by simpa [pgS_zero] using hp, fun m hm => by omega⟩ ?_ ?_
  · simp -dsimp -implicitDefEqProofs [pgS_zero, lsC_eq]
  rintro k j ⟨hpk, hno⟩
  have hkh : k < hrs p.f.sides := by
    have hq := List.getElem_mem op.pos
    have h1 := (pgE_shift op (k := (k : Nat)) (by omega)).1 hpk _ hq
    have h2 := okP_hours op hq
    omega
  refine Exists.elim (least_hit (p := pgS p k) hw hpk) fun i b1 => Exists.elim b1 fun t b2 => Exists.elim b2 fun q' b3 => ?_
  have hq' := b3.1
  simp only [pgS, List.getElem?_map, Option.map_eq_some_iff] at hq'
  refine Exists.elim hq' fun q hqq => ?_
  have hq := hqq.1
  have eq' := hqq.2.symm
  have l1 := b3.2.1
  have l2 := b3.2.2.1
  have l3 := b3.2.2.2.1
  have l4 := b3.2.2.2.2
  rw [eq'] at l3 l4
  have l3' : q.hours.lo + k ≤ t ∧ (t : Int) ≤ q.hours.hi + k := l3
  have l4' : (dF p.f q.place t).lo = (lsD (pgS p k)).lo := l4
  clear b1 b2 b3 hq' hqq l3 l4
  have hqh := okP_hours op (List.mem_of_getElem? hq)
  have hth : q.hours.hi + k < hrs p.f.sides := (pgE_shift op (k := (k : Nat)) (by omega)).1 hpk q (List.mem_of_getElem? hq)
  simp -dsimp -implicitDefEqProofs [lsC_eq]
  refine onCall_in (c1 k _) ?_
  simp -dsimp -implicitDefEqProofs
  refine ifB_in (fun hs => ?_) (fun hs => ?_)
  · have e : latK x p = k := latK_eq (.inr hs) hno
    have e9 : latE x p = 0 := by rw [hE, e, if_pos hpk]
    simp -dsimp -implicitDefEqProofs [e, e9]
  refine Exists.elim (show ∃ k' : Nat, (k' : Int) = t - q.hours.lo + 1 from ⟨(t - q.hours.lo + 1).toNat, by omega⟩) fun k' hk' => ?_
  have w1 : IntKind.i64.wrap ((t : Int) - q.hours.lo) = t - q.hours.lo := wrap_in (by omega) (by omega)
  have w2 : IntKind.i64.wrap ((t : Int) - q.hours.lo + 1) = (k' : Int) := by rw [hk']; exact wrap_in (by omega) (by omega)
  have hbet : ∀ m : Nat, m < k' → pgE (pgS p m) = 0 → ¬ stopL x p m := fun m hm hEm => by
    by_cases hmk : m < k
    · exact hno m hmk
    · rintro (h1 | h1)
      · exact h1 hEm
      · have := later_jump (x := x) (p := p) (k := k) (m := m) hw (by omega) (by omega) hpk hs hq l3' l4' (by omega) hEm
        rw [this] at h1; exact absurd h1 (by simp)
  simp -dsimp -implicitDefEqProofs
  refine DrawR.on {} (by kernel_rfl) (by simp) ?_
  simp -dsimp -implicitDefEqProofs [l1, l2, hq, w1, w2]
  refine onCall_in (c2 k' _ (by omega)) ?_
  simp -dsimp -implicitDefEqProofs
  refine onCall_in (cL2 k' _) ?_
  refine (Classical.em (pgE (pgS p k') = 0)).elim (fun hpk' => ?_) (fun hpk' => ?_)
  · have hall : ∀ m : Nat, m < k' → ¬ stopL x p m := fun m hm => hbet m hm ((pgE_shift op (by omega)).2 fun q2 hq2 => by
      have := (pgE_shift op (k := (k' : Nat)) (by omega)).1 hpk' q2 hq2
      omega)
    simp -dsimp -implicitDefEqProofs [hpk']
    refine again_in k' [0, 1, 2] ⟨hpk', hall⟩ (by omega) ?_
    simp -dsimp -implicitDefEqProofs [lsC_eq]
  · have n1 : (pgE (pgS p k') != 0) = true := by simpa using hpk'
    have e9 : latE x p = 7 := by
      rw [hE, if_neg]
      intro h0
      have hst := latK_is (x := x) hp
      by_cases hlk : latK x p < k'
      · exact hbet _ hlk h0 hst.1
      · refine hpk' ((pgE_shift op (by omega)).2 fun q2 hq2 => ?_)
        have := (pgE_shift op (k := (latK x p : Nat)) (by omega)).1 h0 q2 hq2
        omega
    simp -dsimp -implicitDefEqProofs [n1, e9]
end Go.Pe
