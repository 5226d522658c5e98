import Derived.Test.YtffckclggkjbgaaGreatY42
import Derived.Test.YtffckclggkjbgaaGreatY15
import Derived.Test.YtffckclggkjbgaaGreatY13
set_option linter.unusedVariables false
set_option linter.unusedSimpArgs false
/- The arithmetic of the law RiverWays. -/
namespace Go.Pe
open Go Go.Proofs Go.Proofs.YtffckclggkjbgaaGreat
set_option maxRecDepth 20000

theorem firstE_73 {rs : List Rc} {n : Int} : ∀ {l : List Ps}, firstE rs n l ≠ 0 → firstE rs n l = 7 ∨ firstE rs n l = 3
  | [], h => absurd rfl h
  | p :: l, h => by
    rw [firstE] at h ⊢
    split
    · rename_i h0
      rw [if_pos h0] at h
      exact firstE_73 h
    · unfold passE
      split
      · split
        · rename_i h0 h1 h2; exact absurd (by simp [passE, h1, h2]) h0
        · exact .inr rfl
      · exact .inl rfl
/-- At no hour is the depth less than the least of all, nor more than the greatest; both are reached, the least first at the hour that is told. -/
theorem dsF_at' {d : Int → Bd} {lo : Int} : ∀ {n k : Nat}, k ≤ n → (dsF d lo n).1.lo ≤ (d (lo + k)).lo ∧ (d (lo + k)).hi ≤ (dsF d lo n).1.hi
  | 0, k, h => by
    obtain rfl : k = 0 := by omega
    rw [show lo + ((0 : Nat) : Int) = lo by omega]
    exact ⟨Int.le_refl _, Int.le_refl _⟩
  | n + 1, k, h => by
    by_cases hk : k = n + 1
    · subst hk
      rw [show lo + ((n + 1 : Nat) : Int) = lo + ((n : Int) + 1) by omega]
      simp only [dsF]
      generalize d (lo + ((n : Int) + 1)) = x
      split <;> omega
    · have ih := dsF_at' (d := d) (lo := lo) (n := n) (k := k) (by omega)
      simp only [dsF]
      generalize d (lo + ((n : Int) + 1)) = x
      split <;> omega
theorem dsF_lo {d : Int → Bd} {lo : Int} : ∀ {n : Nat}, ∃ k, k ≤ n ∧ (dsF d lo n).2 = lo + k ∧ (d (lo + k)).lo = (dsF d lo n).1.lo ∧ ∀ m : Nat, m < k → (dsF d lo n).1.lo < (d (lo + m)).lo
  | 0 => ⟨0, by omega, by simp [dsF], by simp [dsF], by intro m hm; omega⟩
  | n + 1 => by
    obtain ⟨k, h1, h2, h3, h4⟩ := dsF_lo (d := d) (lo := lo) (n := n)
    by_cases hc : (d (lo + ((n : Int) + 1))).lo < (dsF d lo n).1.lo
    · refine ⟨n + 1, by omega, ?_, ?_, fun m hm => ?_⟩
      · simp only [dsF, if_pos hc]; omega
      · rw [show lo + ((n + 1 : Nat) : Int) = lo + ((n : Int) + 1) by omega]
        simp only [dsF, if_pos hc]
      · have := (dsF_at' (d := d) (lo := lo) (n := n) (k := m) (by omega)).1
        simp only [dsF, if_pos hc]
        omega
    · refine ⟨k, by omega, ?_, ?_, fun m hm => ?_⟩
      · simp only [dsF, if_neg hc]; exact h2
      · simp only [dsF, if_neg hc]; exact h3
      · simp only [dsF, if_neg hc]; exact h4 m hm
theorem dsF_hi {d : Int → Bd} {lo : Int} : ∀ {n : Nat}, ∃ k, k ≤ n ∧ (d (lo + k)).hi = (dsF d lo n).1.hi
  | 0 => ⟨0, by omega, by simp [dsF]⟩
  | n + 1 => by
    obtain ⟨k, h1, h2⟩ := dsF_hi (d := d) (lo := lo) (n := n)
    by_cases hc : (dsF d lo n).1.hi ≤ (d (lo + ((n : Int) + 1))).hi
    · refine ⟨n + 1, by omega, ?_⟩
      rw [show lo + ((n + 1 : Nat) : Int) = lo + ((n : Int) + 1) by omega]
      simp only [dsF]; omega
    · exact ⟨k, by omega, by simp only [dsF]; omega⟩
theorem shF_le {D : Nat → Bd × Int} : ∀ {n : Nat}, (shF D n).lo ≤ 1000000 ∧ (shF D n).hi ≤ 1000000
  | 0 => by simp [shF]
  | n + 1 => by
    have ih := shF_le (D := D) (n := n)
    simp only [shF, shS]
    refine ⟨?_, ?_⟩ <;> split <;> omega
theorem shF_at {D : Nat → Bd × Int} : ∀ {n i : Nat}, i < n → (shF D n).lo ≤ (D i).1.lo ∧ (shF D n).hi ≤ (D i).1.hi
  | 0, i, h => by omega
  | n + 1, i, h => by
    simp only [shF, shS]
    by_cases hi : i = n
    · subst hi
      refine ⟨?_, ?_⟩ <;> split <;> omega
    · have ih := shF_at (D := D) (n := n) (i := i) (by omega)
      refine ⟨?_, ?_⟩ <;> split <;> omega
theorem shF_lo {D : Nat → Bd × Int} : ∀ {n : Nat}, (∀ i, i < n → (D i).1.lo ≤ 200000) → 0 < n → ∃ i : Nat, i < n ∧ (shF D n).pass = i ∧ (shF D n).hour = (D i).2 ∧ (D i).1.lo = (shF D n).lo ∧ ∀ m : Nat, m < i → (shF D n).lo < (D m).1.lo
  | 0, _, h => by omega
  | n + 1, hD, _ => by
    have hn := hD n (by omega)
    by_cases hn0 : n = 0
    · subst hn0
      have hc : (D 0).1.lo < 1000000 := by omega
      exact ⟨0, by omega, by simp [shF, shS, hc], by simp [shF, shS, hc], by simp [shF, shS, hc], by intro m hm; omega⟩
    · obtain ⟨i, h1, h2, h3, h4, h5⟩ := shF_lo (D := D) (n := n) (fun i hi => hD i (by omega)) (by omega)
      by_cases hc : (D n).1.lo < (shF D n).lo
      · refine ⟨n, by omega, by simp [shF, shS, hc], by simp [shF, shS, hc], by simp [shF, shS, hc], fun m hm => ?_⟩
        have := (shF_at (D := D) (n := n) (i := m) hm).1
        simp only [shF, shS, if_pos hc]; omega
      · exact ⟨i, by omega, by simp [shF, shS, hc, h2], by simp [shF, shS, hc, h3], by simp [shF, shS, hc, h4], fun m hm => by simp only [shF, shS, if_neg hc]; exact h5 m hm⟩
theorem shF_hi {D : Nat → Bd × Int} : ∀ {n : Nat}, (∀ i, i < n → (D i).1.hi ≤ 200000) → 0 < n → ∃ i : Nat, i < n ∧ (D i).1.hi = (shF D n).hi
  | 0, _, h => by omega
  | n + 1, hD, _ => by
    have hn := hD n (by omega)
    by_cases hn0 : n = 0
    · subst hn0
      have hc : (D 0).1.hi < 1000000 := by omega
      exact ⟨0, by omega, by simp [shF, shS, hc]⟩
    · obtain ⟨i, h1, h2⟩ := shF_hi (D := D) (n := n) (fun i hi => hD i (by omega)) (by omega)
      by_cases hc : (D n).1.hi < (shF D n).hi
      · exact ⟨n, by omega, by simp [shF, shS, hc]⟩
      · exact ⟨i, by omega, by simp [shF, shS, hc, h2]⟩
/-- The least depth of two parts. -/
theorem shF_split {D : Nat → Bd × Int} {a : Nat} : ∀ {b : Nat}, (shF D (a + b)).lo = min (shF D a).lo (shF (fun i => D (a + i)) b).lo ∧ (shF D (a + b)).hi = min (shF D a).hi (shF (fun i => D (a + i)) b).hi
  | 0 => by
    have := shF_le (D := D) (n := a)
    simp only [Nat.add_zero, shF]; omega
  | b + 1 => by
    have ih := shF_split (D := D) (a := a) (b := b)
    rw [show a + (b + 1) = (a + b) + 1 by omega]
    simp only [shF, shS]
    refine ⟨?_, ?_⟩ <;> (repeat' split) <;> omega
theorem shF_congr {D D' : Nat → Bd × Int} : ∀ {n : Nat}, (∀ i, i < n → D i = D' i) → shF D n = shF D' n
  | 0, _ => rfl
  | n + 1, h => by
    rw [shF, shF, shF_congr (n := n) fun i hi => h i (by omega), h n (by omega)]
theorem passD_take {f : Fc} {way : List Ps} {a i : Nat} (h : i < a) : passD f (way.take a) i = passD f way i := by
  rw [passD, passD, List.getElem?_take, if_pos h]
theorem passD_drop {f : Fc} {way : List Ps} {a i : Nat} : passD f (way.drop a) i = passD f way (a + i) := by
  rw [passD, passD, List.getElem?_drop]
theorem firstE_all {rs : List Rc} {n : Int} {l : List Ps} (h : ∀ p ∈ l, passE rs n p = 0) (h0 : l.length ≠ 0) (h6 : l.length ≤ 60) : wayE rs n l = 0 := by
  rw [wayE, if_neg h0, if_neg (by omega), firstE_ok h]
/-- A pass with more hours. -/
def wider (n : Int) (c d : Int) (p : Ps) : Ps := ⟨p.place, ⟨max 0 (p.hours.lo - c), min (n - 1) (p.hours.hi + d)⟩⟩
theorem wider_ok {rs : List Rc} {n c d : Int} {p : Ps} (h : passE rs n p = 0) (hc : 0 ≤ c) (hd : 0 ≤ d) : passE rs n (wider n c d p) = 0 := by
  unfold passE at h ⊢
  split at h
  · rename_i h1
    split at h
    · rename_i h2
      have h3 := vB_iff.1 h2
      have e1 : (wider n c d p).place = p.place := rfl
      rw [e1, if_pos h1, if_pos (vB_iff.2 (by simp only [wider]; omega))]
    · omega
  · omega
theorem wider_D {f : Fc} {way : List Ps} {n : Nat} {c d : Int} {i : Nat} {p : Ps} (hp : way[i]? = some p) (hv : vB 0 ((n : Int) - 1) p.hours = true) (hc : 0 ≤ c) (hd : 0 ≤ d) :
    (passD f (way.map (wider n c d)) i).1.lo ≤ (passD f way i).1.lo ∧ (passD f way i).1.hi ≤ (passD f (way.map (wider n c d)) i).1.hi := by
  have h3 := vB_iff.1 hv
  have e1 : (way.map (wider n c d))[i]? = some (wider n c d p) := by rw [List.getElem?_map, hp]; rfl
  rw [passD, passD, hp, e1]
  simp only
  obtain ⟨k, k1, k2, k3, _⟩ := dsF_lo (d := dF f p.place) (lo := p.hours.lo) (n := (p.hours.hi - p.hours.lo).toNat)
  obtain ⟨m, m1, m2⟩ := dsF_hi (d := dF f p.place) (lo := p.hours.lo) (n := (p.hours.hi - p.hours.lo).toNat)
  have w1 : (wider n c d p).place = p.place := rfl
  have w2 : (wider n c d p).hours.lo = max 0 (p.hours.lo - c) := rfl
  have w3 : (wider n c d p).hours.hi = min ((n : Int) - 1) (p.hours.hi + d) := rfl
  obtain ⟨u, hu⟩ : ∃ u : Nat, p.hours.lo + k = (wider n c d p).hours.lo + u ∧ u ≤ ((wider n c d p).hours.hi - (wider n c d p).hours.lo).toNat := ⟨(p.hours.lo + k - (wider n c d p).hours.lo).toNat, by omega, by omega⟩
  obtain ⟨v, hv⟩ : ∃ v : Nat, p.hours.lo + m = (wider n c d p).hours.lo + v ∧ v ≤ ((wider n c d p).hours.hi - (wider n c d p).hours.lo).toNat := ⟨(p.hours.lo + m - (wider n c d p).hours.lo).toNat, by omega, by omega⟩
  have g1 := (dsF_at' (d := dF f p.place) (lo := (wider n c d p).hours.lo) (k := u) hu.2).1
  have g2 := (dsF_at' (d := dF f p.place) (lo := (wider n c d p).hours.lo) (k := v) hv.2).2
  rw [w1, ← k3, ← m2, hu.1, hv.1]
  exact ⟨g1, g2⟩
end Go.Pe

/- What lies in memory that is written cell by cell; lists that are changed one by one. -/
namespace Go.Pe
open Go
section
variable {α : Type} {f : α → List AV} {k i j : Nat} {l : List α} {x y : α}
theorem get_rws (hf : ∀ a, (f a).length = k) (hx : l[i]? = some x) (hj : j < k) : (rws f l)[i * k + j]? = (f x)[j]? := by
  obtain ⟨h1, h2⟩ := rws_split hf hx
  rw [h1, List.append_assoc, List.getElem?_append_right (by omega), h2, List.getElem?_append_left (by rw [hf]; omega)]
  congr 1; omega
theorem cell_rws (hf : ∀ a, (f a).length = k) (hx : l[i]? = some x) (hj : j < k) {v : AV} (hv : (f x)[j]? = some v) : ((rws f l).drop (i * k + j)).take 1 = [v] ∧ i * k + j + 1 ≤ (rws f l).length := by
  have h := get_rws hf hx hj
  rw [hv] at h
  obtain ⟨h1, h2⟩ := List.getElem?_eq_some_iff.1 h
  refine ⟨?_, h1⟩
  rw [List.drop_eq_getElem_cons h1, h2]; rfl
theorem set_cell (hf : ∀ a, (f a).length = k) (hx : l[i]? = some x) (hj : j < k) {v : AV} (hy : (f x).set j v = f y) : (rws f l).set (i * k + j) v = rws f (l.set i y) := by
  have hi := (List.getElem?_eq_some_iff.1 hx).1
  obtain ⟨h1, h2⟩ := rws_split hf hx
  have hx' : (l.set i y)[i]? = some y := by rw [List.getElem?_set_self hi]
  obtain ⟨h3, h4⟩ := rws_split hf hx'
  have e1 : (l.set i y).take i = l.take i := by rw [List.take_set_of_le (Nat.le_refl i)]
  have e2 : (l.set i y).drop (i + 1) = l.drop (i + 1) := by rw [List.drop_set_of_lt (by omega)]
  rw [e1, e2] at h3
  rw [h1, h3, List.append_assoc, List.append_assoc, List.set_append_right _ _ (by omega), h2, show i * k + j - i * k = j by omega, List.set_append_left _ _ (by rw [hf]; exact hj), hy]
theorem storeA_cell {T : TI} {h : H} {b o : Nat} {cs cs' l : List AV} {x : AV} (hb : h.get b = some cs) (hl : cellsOf x = some l) (h1 : l.length = T.size) (h2 : o + T.size ≤ cs.length) (h3 : cs.take o ++ l ++ cs.drop (o + l.length) = cs') : storeA T h (.ptr b o) x = some (.val undef, h.set b cs') := by
  simp only [storeA, hl, hb]
  rw [if_pos ⟨h1, h2⟩, h3]
theorem on_cell {T : TI} {h : H} {b o : Nat} {v : AV} {cs cs' : List AV} {K : AV × H → Prop} {t : Tag K} (hb : h.get b = some cs) (hv : cellsOf v = some [v]) (hT : T.size = 1) (ho : o + 1 ≤ cs.length) (hs : cs.set o v = cs') (hK : K (.val undef, h.set b cs')) : onSome (storeA T h (.ptr b o) v) K t := by
  have : storeA T h (.ptr b o) v = some (.val undef, h.set b cs') := by
    refine storeA_cell hb hv (by rw [hT]; rfl) (by rw [hT]; exact ho) ?_
    rw [← hs, List.set_eq_take_append_cons_drop, if_pos (by omega)]
    simp
  rw [this]; exact hK
/-- A list whose first elements have been changed. -/
def mapL (g : α → α) (l : List α) (m : Nat) : List α := (l.take m).map g ++ l.drop m
theorem mapL_zero {g : α → α} : mapL g l 0 = l := by simp [mapL]
theorem mapL_all {g : α → α} : mapL g l l.length = l.map g := by simp [mapL]
theorem mapL_at {g : α → α} {m : Nat} (hp : l[m]? = some x) : (mapL g l m)[m]? = some x := by
  have hm := (List.getElem?_eq_some_iff.1 hp).1
  rw [mapL, List.getElem?_append_right (by simp; omega), List.getElem?_drop]
  rw [show m + (m - ((l.take m).map g).length) = m by simp; omega]
  exact hp
theorem mapL_set {g : α → α} {m : Nat} (hp : l[m]? = some x) : (mapL g l m).set m (g x) = mapL g l (m + 1) := by
  have hm := (List.getElem?_eq_some_iff.1 hp).1
  have hl : ((l.take m).map g).length = m := by simp; omega
  rw [mapL, List.set_append_right _ _ (by omega), hl, Nat.sub_self, List.drop_eq_getElem_cons hm, List.set_cons_zero, mapL, List.take_add_one, hp]
  simp
theorem mapL_len {g : α → α} {m : Nat} (hm : m ≤ l.length) : (mapL g l m).length = l.length := by simp [mapL]; omega
end
end Go.Pe

/- By how many hours a loaded hull must be later. -/
namespace Go.Pe
open Go Go.Proofs Go.Proofs.YtffckclggkjbgaaGreat
set_option maxRecDepth 20000
set_option maxHeartbeats 8000000
attribute [local simp] ts22 us22 ts24 us24 ts25 us25 ts34 us34 ts39 us39 ts57 us57 ts156 us156 ts53 us53 ts64 us64
attribute [local simp] convA extA lenA
attribute [local simp] fSec_eq loadAV_eq pgC_eq
def shP (k : Int) (q : Ps) : Ps := ⟨q.place, ⟨q.hours.lo + k, q.hours.hi + k⟩⟩
def pgS (p : Pg) (k : Int) : Pg := { p with way := p.way.map (shP k) }
theorem pgS_zero {p : Pg} : pgS p 0 = p := by
  have : p.way.map (shP 0) = p.way := by
    rw [show shP 0 = id from funext fun q => by simp [shP]]; simp
  unfold pgS; rw [this]
/-- What is known of a valid passage. -/
structure OkP (p : Pg) : Prop where
  keel : inB 0 500 p.keel = true
  st : startE p.f = 0
  pos : 0 < p.way.length
  max : p.way.length ≤ 60
  way : ∀ q ∈ p.way, passE p.f.r.rs (hrs p.f.sides) q = 0
theorem okP_of {p : Pg} (h : pgE p = 0) : OkP p := by
  unfold pgE at h
  split at h; · omega
  split at h; · rename_i c; exact absurd h c
  rename_i a b
  have hw := h
  unfold wayE at hw
  split at hw; · omega
  split at hw; · omega
  exact ⟨by simpa using a, by simpa using b, by omega, by omega, firstE_zero hw⟩
theorem okP_E {p : Pg} (o : OkP p) : pgE p = 0 := by
  unfold pgE
  rw [if_neg (by simp [o.keel]), if_neg (by simp [o.st])]
  exact firstE_all o.way (by have := o.pos; omega) o.max
theorem okP_hours {p : Pg} (o : OkP p) {q : Ps} (hq : q ∈ p.way) : 0 ≤ q.hours.lo ∧ q.hours.lo ≤ q.hours.hi ∧ q.hours.hi < hrs p.f.sides := by
  have h := o.way q hq
  unfold passE at h
  split at h
  · split at h
    · rename_i h2; have := vB_iff.1 h2; omega
    · omega
  · omega
theorem pgE_shift {p : Pg} (o : OkP p) {k : Int} (hk : 0 ≤ k) : pgE (pgS p k) = 0 ↔ ∀ q ∈ p.way, q.hours.hi + k < hrs p.f.sides := by
  constructor
  · intro h q hq
    have o' := okP_of h
    have := okP_hours o' (q := shP k q) (List.mem_map.2 ⟨q, hq, rfl⟩)
    exact this.2.2
  · intro h
    refine okP_E ⟨o.keel, o.st, by simp only [pgS, List.length_map]; exact o.pos, by simp only [pgS, List.length_map]; exact o.max, fun q' hq' => ?_⟩
    obtain ⟨q, hq, rfl⟩ := List.mem_map.1 hq'
    have h1 := o.way q hq
    have h2 := okP_hours o hq
    have h3 := h q hq
    simp only [pgS]
    unfold passE at h1 ⊢
    split at h1
    · rename_i h4
      rw [if_pos (by exact h4), if_pos]
      exact vB_iff.2 (by simp only [shP]; omega)
    · omega
theorem lsD_ok {p : Pg} (h : pgE p = 0) : lsD p = shF (passD p.f p.way) p.way.length := by unfold lsD; rw [if_pos h]
/-- Where and when the least depth is. -/
theorem least_hit {p : Pg} (hw : SmallF p.f) (h : pgE p = 0) : ∃ (i t : Nat) (q : Ps), p.way[i]? = some q ∧ (lsD p).pass = i ∧ (lsD p).hour = t ∧ (q.hours.lo ≤ t ∧ (t : Int) ≤ q.hours.hi) ∧ (dF p.f q.place t).lo = (lsD p).lo := by
  have o := okP_of h
  have g := good_of hw o.st
  have orv : OkRv p.f := okRv_of (rv_of_start o.st)
  rw [lsD_ok h]
  obtain ⟨i, h1, h2, h3, h4, _⟩ := shF_lo (D := passD p.f p.way) (n := p.way.length) (fun i hi => by
    have hq := List.getElem?_eq_getElem hi
    have := passD_in g orv hq (o.way _ (List.getElem_mem hi))
    omega) o.pos
  have hq := List.getElem?_eq_getElem h1
  have hh := okP_hours o (List.getElem_mem h1)
  rw [passD, hq] at h3 h4
  simp only at h3 h4
  obtain ⟨k, k1, k2, k3, _⟩ := dsF_lo (d := dF p.f p.way[i].place) (lo := p.way[i].hours.lo) (n := (p.way[i].hours.hi - p.way[i].hours.lo).toNat)
  have et : ((p.way[i].hours.lo + k).toNat : Int) = p.way[i].hours.lo + k := by omega
  refine ⟨i, (p.way[i].hours.lo + k).toNat, p.way[i], hq, h2, ?_, ?_, ?_⟩
  · rw [h3, k2, et]
  · rw [et]; omega
  · rw [et, k3, h4]
theorem least_le {p : Pg} (hw : SmallF p.f) (h : pgE p = 0) {q : Ps} (hq : q ∈ p.way) {t : Int} (h1 : q.hours.lo ≤ t) (h2 : t ≤ q.hours.hi) : (lsD p).lo ≤ (dF p.f q.place t).lo := by
  rw [lsD_ok h]
  obtain ⟨i, hi, rfl⟩ := List.getElem_of_mem hq
  have h3 := (shF_at (D := passD p.f p.way) hi).1
  rw [passD, List.getElem?_eq_getElem hi] at h3
  simp only at h3
  have h4 := (dsF_at' (d := dF p.f p.way[i].place) (lo := p.way[i].hours.lo) (n := (p.way[i].hours.hi - p.way[i].hours.lo).toNat) (k := (t - p.way[i].hours.lo).toNat) (by omega)).1
  rw [show p.way[i].hours.lo + ((t - p.way[i].hours.lo).toNat : Int) = t by omega] at h4
  omega
/-- As long as the hull may be there at that hour, it is not safe. -/
theorem later_jump {x : Ld} {p : Pg} {k m : Int} {i t : Nat} {q : Ps} (hw : SmallF p.f) (hk : 0 ≤ k) (hm : k ≤ m) (h : pgE (pgS p k) = 0) (hs : sure x (pgS p k) = false) (hq : p.way[i]? = some q)
    (ht : (q.hours.lo + k ≤ t ∧ (t : Int) ≤ q.hours.hi + k)) (hd : (dF p.f q.place t).lo = (lsD (pgS p k)).lo) (hmt : q.hours.lo + m ≤ t) (hE : pgE (pgS p m) = 0) : sure x (pgS p m) = false := by
  have h1 := least_le (p := pgS p m) hw hE (q := shP m q) (List.mem_map.2 ⟨q, List.mem_of_getElem? hq, rfl⟩) (t := t) (by simp only [shP]; omega) (by simp only [shP]; omega)
  have h2 := of_decide_eq_false hs
  unfold sure
  refine decide_eq_false ?_
  have e1 : (pgS p m).keel = p.keel := rfl
  have e2 : (pgS p k).keel = p.keel := rfl
  have e3 : (pgS p m).f = p.f := rfl
  have e4 : (shP m q).place = q.place := rfl
  rw [e3, e4] at h1
  rw [e1]; rw [e2] at h2
  omega
/-- The hours after which nothing more is tried. -/
def stopL (x : Ld) (p : Pg) (k : Nat) : Prop := pgE (pgS p k) ≠ 0 ∨ sure x (pgS p k) = true
theorem stop_some {x : Ld} {p : Pg} (h : pgE p = 0) : ∃ k, stopL x p k ∧ ∀ m, m < k → ¬ stopL x p m := by
  have o := okP_of h
  have hx : stopL x p (hrs p.f.sides) := .inl fun he => by
    have hq := List.getElem_mem o.pos
    have h1 := (pgE_shift o (k := (hrs p.f.sides : Nat)) (by omega)).1 he _ hq
    have h2 := okP_hours o hq
    omega
  obtain ⟨k, _, h1, h2⟩ := least_of (P := stopL x p) hx
  exact ⟨k, h1, h2⟩
open Classical in
/-- By how many hours to be later, at least, or the first number of hours for which that is no question. -/
noncomputable def latK (x : Ld) (p : Pg) : Nat := if h : ∃ k, stopL x p k ∧ ∀ m, m < k → ¬ stopL x p m then h.choose else 0
theorem latK_eq {x : Ld} {p : Pg} {k : Nat} (h1 : stopL x p k) (h2 : ∀ m, m < k → ¬ stopL x p m) : latK x p = k := by
  have h : ∃ k, stopL x p k ∧ ∀ m, m < k → ¬ stopL x p m := ⟨k, h1, h2⟩
  unfold latK
  rw [dif_pos h]
  obtain ⟨g1, g2⟩ := h.choose_spec
  rcases Nat.lt_trichotomy h.choose k with c | c | c
  · exact absurd g1 (h2 _ c)
  · exact c
  · exact absurd h1 (g2 _ c)
theorem latK_is {x : Ld} {p : Pg} (h : pgE p = 0) : stopL x p (latK x p) ∧ ∀ m, m < latK x p → ¬ stopL x p m := by
  obtain ⟨k, h1, h2⟩ := stop_some (x := x) h
  rw [latK_eq h1 h2]
  exact ⟨h1, h2⟩
theorem fPs_len (p : Ps) : (fPs p).length = 3 := rfl
theorem CloneP_fn {l : List Ps} {fu : Bool} (h1 : l.length ≠ 0) (h2 : l.length ≤ 1000) : Fn Tryz.prog 111 [.ro fu 3 (l.map fPs)] .nil (.sl 0 0 l.length 3) (mkH [some (rws fPs l)]) := by
  refine Fn.ofRx (bl0 := []) (bl := [some (rws fPs l)]) ownM (by kernel_rfl) Tryz.func111 rfl (by simp) ?_
  have hb1 : l.length * 24 ≤ 70368744177664 := by omega
  have hb2 : l.length ≤ 70368744177664 := by omega
  have h3 : (l.map fPs).length ≠ 0 := by simpa using h1
  simp -dsimp -implicitDefEqProofs [h1, hb1, hb2]
  refine ⟨[0], ?_⟩
  simp -dsimp -implicitDefEqProofs
  exact rws_rn (f := fPs) (l := l) (n := 3) fun _ => rfl
/-- One pass that is later, cell by cell. -/
structure LatS (k : Int) (way : List Ps) (m : Nat) (p : Ps) (L L1 : List Ps) : Prop where
  l0 : L = mapL (shP k) way m
  f1 : ((rws fPs L).drop (m * 3 + 1)).take 1 = [I p.hours.lo]
  g1 : m * 3 + 2 ≤ (rws fPs L).length
  s1 : (rws fPs L).set (m * 3 + 1) (I (p.hours.lo + k)) = rws fPs L1
  f2 : ((rws fPs L1).drop (m * 3 + 2)).take 1 = [I p.hours.hi]
  g2 : m * 3 + 3 ≤ (rws fPs L1).length
  s2 : (rws fPs L1).set (m * 3 + 2) (I (p.hours.hi + k)) = rws fPs (mapL (shP k) way (m + 1))
theorem lat_S {k : Int} {way : List Ps} {m : Nat} {p : Ps} (hp : way[m]? = some p) : ∃ L L1, LatS k way m p L L1 := by
  have hx := mapL_at (g := shP k) hp
  have hm := (List.getElem?_eq_some_iff.1 hx).1
  obtain ⟨L, hL⟩ : ∃ L, L = mapL (shP k) way m := ⟨_, rfl⟩
  rw [← hL] at hx hm
  have hset := mapL_set (g := shP k) hp
  rw [← hL] at hset
  have q1 := cell_rws fPs_len hx (show 1 < 3 by omega) (v := I p.hours.lo) rfl
  have hx1 : (L.set m ⟨p.place, ⟨p.hours.lo + k, p.hours.hi⟩⟩)[m]? = some ⟨p.place, ⟨p.hours.lo + k, p.hours.hi⟩⟩ := by rw [List.getElem?_set_self hm]
  have q2 := cell_rws fPs_len hx1 (show 2 < 3 by omega) (v := I p.hours.hi) rfl
  refine ⟨L, _, hL, q1.1, q1.2, set_cell fPs_len hx (by omega) rfl, q2.1, q2.2, ?_⟩
  rw [set_cell (y := shP k p) fPs_len hx1 (by omega) rfl, List.set_set, hset]
end Go.Pe
