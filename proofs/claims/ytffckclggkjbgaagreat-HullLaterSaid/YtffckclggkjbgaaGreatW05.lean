import Derived.Test.YtffckclggkjbgaaGreatW04
import Derived.Test.YtffckclggkjbgaaGreatT14
import Derived.Test.YtffckclggkjbgaaGreatT13
set_option linter.unusedVariables false
set_option linter.unusedSimpArgs false
/- The arithmetic of the law RiverWays. -/
namespace Go.Pe
open Go Go.Proofs Go.Proofs.YtffckclggkjbgaaGreat
set_option maxRecDepth 20000

theorem firstE_73 {rs : List Rc} {n : Int} : ∀ {l : List Ps}, firstE rs n l ≠ 0 → firstE rs n l = 7 ∨ firstE rs n l = 3
  | [], h => absurd rfl h
  | p :: l, h => by
    rw [firstE] at h ⊢
    split
    · rename_i h0
      rw [if_pos h0] at h
      exact firstE_73 h
    · unfold passE
      split
      · split
        · rename_i h0 h1 h2; exact absurd (by simp [passE, h1, h2]) h0
        · exact .inr rfl
      · exact .inl rfl
/-- At no hour is the depth less than the least of all, nor more than the greatest; both are reached, the least first at the hour that is told. -/
theorem dsF_at' {d : Int → Bd} {lo : Int} : ∀ {n k : Nat}, k ≤ n → (dsF d lo n).1.lo ≤ (d (lo + k)).lo ∧ (d (lo + k)).hi ≤ (dsF d lo n).1.hi
  | 0, k, h => by
    obtain rfl : k = 0 := by omega
    rw [show lo + ((0 : Nat) : Int) = lo by omega]
    exact ⟨Int.le_refl _, Int.le_refl _⟩
  | n + 1, k, h => by
    by_cases hk : k = n + 1
    · subst hk
      rw [show lo + ((n + 1 : Nat) : Int) = lo + ((n : Int) + 1) by omega]
      simp only [dsF]
      generalize d (lo + ((n : Int) + 1)) = x
      split <;> omega
    · have ih := dsF_at' (d := d) (lo := lo) (n := n) (k := k) (by omega)
      simp only [dsF]
      generalize d (lo + ((n : Int) + 1)) = x
      split <;> omega
theorem dsF_lo {d : Int → Bd} {lo : Int} : ∀ {n : Nat}, ∃ k, k ≤ n ∧ (dsF d lo n).2 = lo + k ∧ (d (lo + k)).lo = (dsF d lo n).1.lo ∧ ∀ m : Nat, m < k → (dsF d lo n).1.lo < (d (lo + m)).lo
  | 0 => ⟨0, by omega, by simp [dsF], by simp [dsF], by intro m hm; omega⟩
  | n + 1 => by
    obtain ⟨k, h1, h2, h3, h4⟩ := dsF_lo (d := d) (lo := lo) (n := n)
    by_cases hc : (d (lo + ((n : Int) + 1))).lo < (dsF d lo n).1.lo
    · refine ⟨n + 1, by omega, ?_, ?_, fun m hm => ?_⟩
      · simp only [dsF, if_pos hc]; omega
      · rw [show lo + ((n + 1 : Nat) : Int) = lo + ((n : Int) + 1) by omega]
        simp only [dsF, if_pos hc]
      · have := (dsF_at' (d := d) (lo := lo) (n := n) (k := m) (by omega)).1
        simp only [dsF, if_pos hc]
        omega
    · refine ⟨k, by omega, ?_, ?_, fun m hm => ?_⟩
      · simp only [dsF, if_neg hc]; exact h2
      · simp only [dsF, if_neg hc]; exact h3
      · simp only [dsF, if_neg hc]; exact h4 m hm
theorem dsF_hi {d : Int → Bd} {lo : Int} : ∀ {n : Nat}, ∃ k, k ≤ n ∧ (d (lo + k)).hi = (dsF d lo n).1.hi
  | 0 => ⟨0, by omega, by simp [dsF]⟩
  | n + 1 => by
    obtain ⟨k, h1, h2⟩ := dsF_hi (d := d) (lo := lo) (n := n)
    by_cases hc : (dsF d lo n).1.hi ≤ (d (lo + ((n : Int) + 1))).hi
    · refine ⟨n + 1, by omega, ?_⟩
      rw [show lo + ((n + 1 : Nat) : Int) = lo + ((n : Int) + 1) by omega]
      simp only [dsF]; omega
    · exact ⟨k, by omega, by simp only [dsF]; omega⟩
theorem shF_le {D : Nat → Bd × Int} : ∀ {n : Nat}, (shF D n).lo ≤ 1000000 ∧ (shF D n).hi ≤ 1000000
  | 0 => by simp [shF]
  | n + 1 => by
    have ih := shF_le (D := D) (n := n)
    simp only [shF, shS]
    refine ⟨?_, ?_⟩ <;> split <;> omega
theorem shF_at {D : Nat → Bd × Int} : ∀ {n i : Nat}, i < n → (shF D n).lo ≤ (D i).1.lo ∧ (shF D n).hi ≤ (D i).1.hi
  | 0, i, h => by omega
  | n + 1, i, h => by
    simp only [shF, shS]
    by_cases hi : i = n
    · subst hi
      refine ⟨?_, ?_⟩ <;> split <;> omega
    · have ih := shF_at (D := D) (n := n) (i := i) (by omega)
      refine ⟨?_, ?_⟩ <;> split <;> omega
theorem shF_lo {D : Nat → Bd × Int} : ∀ {n : Nat}, (∀ i, i < n → (D i).1.lo ≤ 200000) → 0 < n → ∃ i : Nat, i < n ∧ (shF D n).pass = i ∧ (shF D n).hour = (D i).2 ∧ (D i).1.lo = (shF D n).lo ∧ ∀ m : Nat, m < i → (shF D n).lo < (D m).1.lo
  | 0, _, h => by omega
  | n + 1, hD, _ => by
    have hn := hD n (by omega)
    by_cases hn0 : n = 0
    · subst hn0
      have hc : (D 0).1.lo < 1000000 := by omega
      exact ⟨0, by omega, by simp [shF, shS, hc], by simp [shF, shS, hc], by simp [shF, shS, hc], by intro m hm; omega⟩
    · obtain ⟨i, h1, h2, h3, h4, h5⟩ := shF_lo (D := D) (n := n) (fun i hi => hD i (by omega)) (by omega)
      by_cases hc : (D n).1.lo < (shF D n).lo
      · refine ⟨n, by omega, by simp [shF, shS, hc], by simp [shF, shS, hc], by simp [shF, shS, hc], fun m hm => ?_⟩
        have := (shF_at (D := D) (n := n) (i := m) hm).1
        simp only [shF, shS, if_pos hc]; omega
      · exact ⟨i, by omega, by simp [shF, shS, hc, h2], by simp [shF, shS, hc, h3], by simp [shF, shS, hc, h4], fun m hm => by simp only [shF, shS, if_neg hc]; exact h5 m hm⟩
theorem shF_hi {D : Nat → Bd × Int} : ∀ {n : Nat}, (∀ i, i < n → (D i).1.hi ≤ 200000) → 0 < n → ∃ i : Nat, i < n ∧ (D i).1.hi = (shF D n).hi
  | 0, _, h => by omega
  | n + 1, hD, _ => by
    have hn := hD n (by omega)
    by_cases hn0 : n = 0
    · subst hn0
      have hc : (D 0).1.hi < 1000000 := by omega
      exact ⟨0, by omega, by simp [shF, shS, hc]⟩
    · obtain ⟨i, h1, h2⟩ := shF_hi (D := D) (n := n) (fun i hi => hD i (by omega)) (by omega)
      by_cases hc : (D n).1.hi < (shF D n).hi
      · exact ⟨n, by omega, by simp [shF, shS, hc]⟩
      · exact ⟨i, by omega, by simp [shF, shS, hc, h2]⟩
/-- The least depth of two parts. -/
theorem shF_split {D : Nat → Bd × Int} {a : Nat} : ∀ {b : Nat}, (shF D (a + b)).lo = min (shF D a).lo (shF (fun i => D (a + i)) b).lo ∧ (shF D (a + b)).hi = min (shF D a).hi (shF (fun i => D (a + i)) b).hi
  | 0 => by
    have := shF_le (D := D) (n := a)
    simp only [Nat.add_zero, shF]; omega
  | b + 1 => by
    have ih := shF_split (D := D) (a := a) (b := b)
    rw [show a + (b + 1) = (a + b) + 1 by omega]
    simp only [shF, shS]
    refine ⟨?_, ?_⟩ <;> (repeat' split) <;> omega
theorem shF_congr {D D' : Nat → Bd × Int} : ∀ {n : Nat}, (∀ i, i < n → D i = D' i) → shF D n = shF D' n
  | 0, _ => rfl
  | n + 1, h => by
    rw [shF, shF, shF_congr (n := n) fun i hi => h i (by omega), h n (by omega)]
theorem passD_take {f : Fc} {way : List Ps} {a i : Nat} (h : i < a) : passD f (way.take a) i = passD f way i := by
  rw [passD, passD, List.getElem?_take, if_pos h]
theorem passD_drop {f : Fc} {way : List Ps} {a i : Nat} : passD f (way.drop a) i = passD f way (a + i) := by
  rw [passD, passD, List.getElem?_drop]
theorem firstE_all {rs : List Rc} {n : Int} {l : List Ps} (h : ∀ p ∈ l, passE rs n p = 0) (h0 : l.length ≠ 0) (h6 : l.length ≤ 60) : wayE rs n l = 0 := by
  rw [wayE, if_neg h0, if_neg (by omega), firstE_ok h]
/-- A pass with more hours. -/
def wider (n : Int) (c d : Int) (p : Ps) : Ps := ⟨p.place, ⟨max 0 (p.hours.lo - c), min (n - 1) (p.hours.hi + d)⟩⟩
theorem wider_ok {rs : List Rc} {n c d : Int} {p : Ps} (h : passE rs n p = 0) (hc : 0 ≤ c) (hd : 0 ≤ d) : passE rs n (wider n c d p) = 0 := by
  unfold passE at h ⊢
  split at h
  · rename_i h1
    split at h
    · rename_i h2
      have h3 := vB_iff.1 h2
      have e1 : (wider n c d p).place = p.place := rfl
      rw [e1, if_pos h1, if_pos (vB_iff.2 (by simp only [wider]; omega))]
    · omega
  · omega
theorem wider_D {f : Fc} {way : List Ps} {n : Nat} {c d : Int} {i : Nat} {p : Ps} (hp : way[i]? = some p) (hv : vB 0 ((n : Int) - 1) p.hours = true) (hc : 0 ≤ c) (hd : 0 ≤ d) :
    (passD f (way.map (wider n c d)) i).1.lo ≤ (passD f way i).1.lo ∧ (passD f way i).1.hi ≤ (passD f (way.map (wider n c d)) i).1.hi := by
  have h3 := vB_iff.1 hv
  have e1 : (way.map (wider n c d))[i]? = some (wider n c d p) := by rw [List.getElem?_map, hp]; rfl
  rw [passD, passD, hp, e1]
  simp only
  obtain ⟨k, k1, k2, k3, _⟩ := dsF_lo (d := dF f p.place) (lo := p.hours.lo) (n := (p.hours.hi - p.hours.lo).toNat)
  obtain ⟨m, m1, m2⟩ := dsF_hi (d := dF f p.place) (lo := p.hours.lo) (n := (p.hours.hi - p.hours.lo).toNat)
  have w1 : (wider n c d p).place = p.place := rfl
  have w2 : (wider n c d p).hours.lo = max 0 (p.hours.lo - c) := rfl
  have w3 : (wider n c d p).hours.hi = min ((n : Int) - 1) (p.hours.hi + d) := rfl
  obtain ⟨u, hu⟩ : ∃ u : Nat, p.hours.lo + k = (wider n c d p).hours.lo + u ∧ u ≤ ((wider n c d p).hours.hi - (wider n c d p).hours.lo).toNat := ⟨(p.hours.lo + k - (wider n c d p).hours.lo).toNat, by omega, by omega⟩
  obtain ⟨v, hv⟩ : ∃ v : Nat, p.hours.lo + m = (wider n c d p).hours.lo + v ∧ v ≤ ((wider n c d p).hours.hi - (wider n c d p).hours.lo).toNat := ⟨(p.hours.lo + m - (wider n c d p).hours.lo).toNat, by omega, by omega⟩
  have g1 := (dsF_at' (d := dF f p.place) (lo := (wider n c d p).hours.lo) (k := u) hu.2).1
  have g2 := (dsF_at' (d := dF f p.place) (lo := (wider n c d p).hours.lo) (k := v) hv.2).2
  rw [w1, ← k3, ← m2, hu.1, hv.1]
  exact ⟨g1, g2⟩
end Go.Pe

/- What lies in memory that is written cell by cell; lists that are changed one by one. -/
namespace Go.Pe
open Go
section
variable {α : Type} {f : α → List AV} {k i j : Nat} {l : List α} {x y : α}
theorem get_rws (hf : ∀ a, (f a).length = k) (hx : l[i]? = some x) (hj : j < k) : (rws f l)[i * k + j]? = (f x)[j]? := by
  obtain ⟨h1, h2⟩ := rws_split hf hx
  rw [h1, List.append_assoc, List.getElem?_append_right (by omega), h2, List.getElem?_append_left (by rw [hf]; omega)]
  congr 1; omega
theorem cell_rws (hf : ∀ a, (f a).length = k) (hx : l[i]? = some x) (hj : j < k) {v : AV} (hv : (f x)[j]? = some v) : ((rws f l).drop (i * k + j)).take 1 = [v] ∧ i * k + j + 1 ≤ (rws f l).length := by
  have h := get_rws hf hx hj
  rw [hv] at h
  obtain ⟨h1, h2⟩ := List.getElem?_eq_some_iff.1 h
  refine ⟨?_, h1⟩
  rw [List.drop_eq_getElem_cons h1, h2]; rfl
theorem set_cell (hf : ∀ a, (f a).length = k) (hx : l[i]? = some x) (hj : j < k) {v : AV} (hy : (f x).set j v = f y) : (rws f l).set (i * k + j) v = rws f (l.set i y) := by
  have hi := (List.getElem?_eq_some_iff.1 hx).1
  obtain ⟨h1, h2⟩ := rws_split hf hx
  have hx' : (l.set i y)[i]? = some y := by rw [List.getElem?_set_self hi]
  obtain ⟨h3, h4⟩ := rws_split hf hx'
  have e1 : (l.set i y).take i = l.take i := by rw [List.take_set_of_le (Nat.le_refl i)]
  have e2 : (l.set i y).drop (i + 1) = l.drop (i + 1) := by rw [List.drop_set_of_lt (by omega)]
  rw [e1, e2] at h3
  rw [h1, h3, List.append_assoc, List.append_assoc, List.set_append_right _ _ (by omega), h2, show i * k + j - i * k = j by omega, List.set_append_left _ _ (by rw [hf]; exact hj), hy]
theorem storeA_cell {T : TI} {h : H} {b o : Nat} {cs cs' l : List AV} {x : AV} (hb : h.get b = some cs) (hl : cellsOf x = some l) (h1 : l.length = T.size) (h2 : o + T.size ≤ cs.length) (h3 : cs.take o ++ l ++ cs.drop (o + l.length) = cs') : storeA T h (.ptr b o) x = some (.val undef, h.set b cs') := by
  simp only [storeA, hl, hb]
  rw [if_pos ⟨h1, h2⟩, h3]
theorem on_cell {T : TI} {h : H} {b o : Nat} {v : AV} {cs cs' : List AV} {K : AV × H → Prop} {t : Tag K} (hb : h.get b = some cs) (hv : cellsOf v = some [v]) (hT : T.size = 1) (ho : o + 1 ≤ cs.length) (hs : cs.set o v = cs') (hK : K (.val undef, h.set b cs')) : onSome (storeA T h (.ptr b o) v) K t := by
  have : storeA T h (.ptr b o) v = some (.val undef, h.set b cs') := by
    refine storeA_cell hb hv (by rw [hT]; rfl) (by rw [hT]; exact ho) ?_
    rw [← hs, List.set_eq_take_append_cons_drop, if_pos (by omega)]
    simp
  rw [this]; exact hK
/-- A list whose first elements have been changed. -/
def mapL (g : α → α) (l : List α) (m : Nat) : List α := (l.take m).map g ++ l.drop m
theorem mapL_zero {g : α → α} : mapL g l 0 = l := by simp [mapL]
theorem mapL_all {g : α → α} : mapL g l l.length = l.map g := by simp [mapL]
theorem mapL_at {g : α → α} {m : Nat} (hp : l[m]? = some x) : (mapL g l m)[m]? = some x := by
  have hm := (List.getElem?_eq_some_iff.1 hp).1
  rw [mapL, List.getElem?_append_right (by simp; omega), List.getElem?_drop]
  rw [show m + (m - ((l.take m).map g).length) = m by simp; omega]
  exact hp
theorem mapL_set {g : α → α} {m : Nat} (hp : l[m]? = some x) : (mapL g l m).set m (g x) = mapL g l (m + 1) := by
  have hm := (List.getElem?_eq_some_iff.1 hp).1
  have hl : ((l.take m).map g).length = m := by simp; omega
  rw [mapL, List.set_append_right _ _ (by omega), hl, Nat.sub_self, List.drop_eq_getElem_cons hm, List.set_cons_zero, mapL, List.take_add_one, hp]
  simp
theorem mapL_len {g : α → α} {m : Nat} (hm : m ≤ l.length) : (mapL g l m).length = l.length := by simp [mapL]; omega
end
end Go.Pe
