import Derived.Test.YtffckclggkjbgaaGreatA02
import Derived.Test.YtffckclggkjbgaaGreatY42
import Derived.Test.YtffckclggkjbgaaGreatY18
set_option linter.unusedVariables false
set_option linter.unusedSimpArgs false
/- The arithmetic of the law RiverTruths. -/
namespace Go.Pe
open Go Go.Proofs Go.Proofs.YtffckclggkjbgaaGreat
set_option maxRecDepth 20000

theorem cv_ge {f : Int} {up : Bool} : ∀ {l : List Rw} {w : Rw}, srt (w :: l) → w.level ≤ cv f up (w :: l)
  | [], w, _ => Int.le_refl _
  | v :: l, w, hs => by
    obtain ⟨⟨h1, h2⟩, hs'⟩ := hs
    have ih := cv_ge (f := f) (up := up) hs'
    rw [cv]
    split
    · omega
    · split
      · have := pc_in (w := w) (v := v) (f := f) (up := up) (by omega) (by omega) h1 h2
        omega
      · omega
theorem part_mono {w v : Rw} {f f' : Int} {up : Bool} (h : f ≤ f') (h1 : w.flow < v.flow) (h2 : w.level ≤ v.level) : part w v f up ≤ part w v f' up := by
  have hc : 0 < v.flow - w.flow := by omega
  have hr : rise w v f ≤ rise w v f' := Int.mul_le_mul_of_nonneg_right (by omega) (by omega)
  unfold part
  cases up with
  | false => simp only [Bool.false_eq_true, if_false]; exact Int.ediv_le_ediv hc hr
  | true =>
    simp only [if_true]
    have := Int.ediv_le_ediv (a := -rise w v f') (b := -rise w v f) hc (by omega)
    omega
theorem cv_mono {f f' : Int} {up : Bool} (h : f ≤ f') : ∀ {l : List Rw}, srt l → cv f up l ≤ cv f' up l
  | [], _ => Int.le_refl _
  | [w], _ => Int.le_refl _
  | w :: v :: l, hs => by
    have hge := cv_ge (f := f') (up := up) hs
    obtain ⟨⟨h1, h2⟩, hs'⟩ := hs
    have ih := cv_mono (up := up) h hs'
    have hge' := cv_ge (f := f') (up := up) hs'
    by_cases a : f ≤ w.flow
    · have e : cv f up (w :: v :: l) = w.level := by rw [cv, if_pos a]
      omega
    · by_cases b : f < v.flow
      · have e : cv f up (w :: v :: l) = w.level + part w v f up := by rw [cv, if_neg a, if_pos b]
        have hp := pc_in (w := w) (v := v) (f := f) (up := up) (by omega) (by omega) h1 h2
        by_cases c : f' < v.flow
        · have e' : cv f' up (w :: v :: l) = w.level + part w v f' up := by rw [cv, if_neg (by omega), if_pos c]
          have := part_mono (up := up) h h1 h2
          omega
        · have e' : cv f' up (w :: v :: l) = cv f' up (v :: l) := by rw [cv, if_neg (by omega), if_neg c]
          omega
      · have e : cv f up (w :: v :: l) = cv f up (v :: l) := by rw [cv, if_neg a, if_neg b]
        have e' : cv f' up (w :: v :: l) = cv f' up (v :: l) := by rw [cv, if_neg (by omega), if_neg (by omega)]
        omega
theorem ceil_gap {a c : Int} (hc : 0 < c) : a / c ≤ -(-a / c) ∧ -(-a / c) ≤ a / c + 1 := by
  have h1 : a / c * c ≤ a := Int.ediv_mul_le a (by omega)
  have h2 : a < (a / c + 1) * c := Int.lt_ediv_add_one_mul_self a hc
  have h3 : -a / c ≤ -(a / c) := Int.ediv_le_of_le_mul hc (by rw [Int.neg_mul]; omega)
  have h4 : -(a / c + 1) ≤ -a / c := (Int.le_ediv_iff_mul_le hc).2 (by rw [Int.neg_mul]; omega)
  omega
theorem cv_gap {f : Int} : ∀ {l : List Rw}, srt l → cv f false l ≤ cv f true l ∧ cv f true l ≤ cv f false l + 1
  | [], _ => by simp [cv]
  | [w], _ => by simp only [cv]; omega
  | w :: v :: l, hs => by
    obtain ⟨⟨h1, h2⟩, hs'⟩ := hs
    have ih := cv_gap (f := f) hs'
    by_cases a : f ≤ w.flow
    · have e : ∀ up, cv f up (w :: v :: l) = w.level := fun up => by rw [cv, if_pos a]
      rw [e, e]; omega
    · by_cases b : f < v.flow
      · have e : ∀ up, cv f up (w :: v :: l) = w.level + part w v f up := fun up => by rw [cv, if_neg a, if_pos b]
        have := ceil_gap (a := rise w v f) (c := v.flow - w.flow) (by omega)
        rw [e, e]
        simp only [part, if_true, Bool.false_eq_true, if_false]
        omega
      · have e : ∀ up, cv f up (w :: v :: l) = cv f up (v :: l) := fun up => by rw [cv, if_neg a, if_neg b]
        rw [e, e]; exact ih
/-- The level of a true flow. -/
theorem lvl_truth {y : Rc} {b : Bd} {n : Int} (hv : validCv y.curve = true) (h1 : b.lo ≤ n) (h2 : n ≤ b.hi) :
    (lvl y b).lo ≤ (lvl y ⟨n, n⟩).lo ∧ (lvl y ⟨n, n⟩).hi ≤ (lvl y b).hi ∧ (lvl y ⟨n, n⟩).lo ≤ (lvl y ⟨n, n⟩).hi ∧ (lvl y ⟨n, n⟩).hi ≤ (lvl y ⟨n, n⟩).lo + 1 ∧ y.weir ≤ (lvl y ⟨n, n⟩).lo := by
  have hs := (valid_srt hv).1
  have m1 := cv_mono (up := false) h1 hs
  have m2 := cv_mono (up := true) h2 hs
  have m3 := cv_gap (f := n) hs
  simp only [lvl]
  omega
/-- The true top of the bed, in parts of a centimeter. -/
def topS (x : Tr) (p h : Int) (j : Nat) (t : Int) (s : Sh) : Int := if s.place = p then max t (24 * pickZ s.bed (partZ x.bed j) + pickZ s.grow (partZ x.grow j) * max 0 (h - s.snd)) else t
def topF (x : Tr) (p h t : Int) (ss : List Sh) : Nat → Int
  | 0 => t
  | j + 1 => match ss[j]? with
    | some s => topS x p h j (topF x p h t ss j) s
    | none => topF x p h t ss j
theorem topF_in {x : Tr} {p h t : Int} {b : Bd} (ht : 24 * b.lo ≤ t ∧ t ≤ 24 * b.hi) (o : OkTr x) {ss : List Sh} (hs : ∀ s ∈ ss, OkSh s) : ∀ j, j ≤ ss.length → 24 * (bedF p h b (ss.take j)).lo ≤ topF x p h t ss j ∧ topF x p h t ss j ≤ 24 * (bedF p h b (ss.take j)).hi
  | 0, _ => by simpa [bedF, topF] using ht
  | j + 1, hj => by
    have ih := topF_in (p := p) (h := h) ht o hs j (by omega)
    obtain ⟨s, hx⟩ : ∃ s, ss[j]? = some s := ⟨_, List.getElem?_eq_getElem (by omega)⟩
    have hst : ss.take (j + 1) = ss.take j ++ [s] := by rw [List.take_add_one, hx]; rfl
    rw [hst, bedF_snoc, topF, hx]
    simp only
    generalize bedF p h b (ss.take j) = B at *
    generalize topF x p h t ss j = T at *
    obtain ⟨c1, c2, c3, c4, c5, c6, c7, c8⟩ := hs s (List.mem_of_getElem? hx)
    have z1 := partZ_in (i := j) o.bed
    have z2 := partZ_in (i := j) o.grow
    have k1 := pick_in c2 z1.1 z1.2
    have k2 := pick_in c7 z2.1 z2.2
    unfold bedS topS
    by_cases hp : s.place = p
    · rw [if_pos hp, if_pos hp, grw]
      simp only
      generalize pickZ s.bed (partZ x.bed j) = P at *
      generalize pickZ s.grow (partZ x.grow j) = G at *
      have hd : 0 ≤ max 0 (h - s.snd) := by omega
      generalize max 0 (h - s.snd) = d at *
      have m1 : s.grow.lo * d ≤ G * d := Int.mul_le_mul_of_nonneg_right k2.1 hd
      have m2 : G * d ≤ s.grow.hi * d := Int.mul_le_mul_of_nonneg_right k2.2 hd
      generalize s.grow.lo * d = p1 at *
      generalize s.grow.hi * d = p2 at *
      generalize G * d = p3 at *
      omega
    · rw [if_neg hp, if_neg hp]; exact ih
/-- At no hour is the depth less than the least of all, nor more than the greatest. -/
theorem dsF_at {d : Int → Bd} {lo : Int} : ∀ {n k : Nat}, k ≤ n → (dsF d lo n).1.lo ≤ (d (lo + k)).lo ∧ (d (lo + k)).hi ≤ (dsF d lo n).1.hi
  | 0, k, h => by
    obtain rfl : k = 0 := by omega
    rw [show lo + ((0 : Nat) : Int) = lo by omega]
    exact ⟨Int.le_refl _, Int.le_refl _⟩
  | n + 1, k, h => by
    by_cases hk : k = n + 1
    · subst hk
      rw [show lo + ((n + 1 : Nat) : Int) = lo + ((n : Int) + 1) by omega]
      simp only [dsF]
      generalize d (lo + ((n : Int) + 1)) = x
      split <;> omega
    · have ih := dsF_at (d := d) (lo := lo) (n := n) (k := k) (by omega)
      simp only [dsF]
      generalize d (lo + ((n : Int) + 1)) = x
      split <;> omega
theorem shF_step {D : Nat → Bd × Int} {i : Nat} : (shF D (i + 1)).lo ≤ (D i).1.lo ∧ (shF D (i + 1)).lo ≤ (shF D i).lo ∧ ((shF D (i + 1)).hi = (D i).1.hi ∨ (shF D (i + 1)).hi = (shF D i).hi) := by
  simp only [shF, shS]
  refine ⟨?_, ?_, ?_⟩
  · split <;> omega
  · split <;> omega
  · split
    · exact .inl rfl
    · exact .inr rfl
theorem shF_in {D : Nat → Bd × Int} : ∀ {i : Nat}, (∀ k, k < i → (0 ≤ (D k).1.lo ∧ (D k).1.lo ≤ 200000) ∧ 0 ≤ (D k).1.hi ∧ (D k).1.hi ≤ 200000) → (0 ≤ (shF D i).lo ∧ (shF D i).lo ≤ 1000000) ∧ 0 ≤ (shF D i).hi ∧ (shF D i).hi ≤ 1000000
  | 0, _ => by simp [shF]
  | i + 1, h => by
    have ih := shF_in (D := D) (i := i) fun k hk => h k (by omega)
    have := h i (by omega)
    simp only [shF, shS]
    refine ⟨?_, ?_⟩ <;> split <;> omega
end Go.Pe

/- The least depth, pass by pass and hour by hour. -/
namespace Go.Pe
open Go Go.Proofs Go.Proofs.YtffckclggkjbgaaGreat
set_option maxRecDepth 20000
set_option maxHeartbeats 8000000
/-- Bounds of depths are bounds. -/
theorem dF_le {f : Fc} {p : Int} {k : Int} {q : Nat} {y : Rc} (g : GoodF f) (o : OkRv f) (a : At f.r.rs p q y) : (dF f p k).lo ≤ (dF f p k).hi := by
  have hv := validR_parts ((List.all_eq_true.1 g.rv) y (List.mem_of_getElem? a.hx))
  have t : OkTr ⟨[], [], [], [], 0⟩ := ⟨by simp, by simp, by simp, by simp⟩
  have h1 := trF_in g t q k
  have h2 := lvl_truth hv.2.2.2.1 h1.1 h1.2
  have hb := vB_iff.1 hv.2.2.2.2.2.2
  have h3 := topF_in (x := ⟨[], [], [], [], 0⟩) (p := p) (h := k) (t := 24 * y.bot.lo) (b := y.bot) (by omega) t (ss := f.r.ss) o.sh f.r.ss.length (Nat.le_refl _)
  rw [List.take_length] at h3
  rw [dF_eq o a]
  simp only [dpt]
  omega
/-- How the two loops stand. -/
structure Ts where
  al : Bool
  so : Bool
  on : Bool
  le : Int
  fi : Int
  wh : Int
noncomputable def inT (d : Int → Bd) (i lo a b : Int) (s : Ts) : Nat → Ts
  | 0 => ⟨s.al, s.so, false, s.le, s.fi, s.wh⟩
  | n + 1 => ⟨(inT d i lo a b s n).al && decide (a ≤ (d (lo + n)).lo), s.so, (inT d i lo a b s n).on || decide (b ≤ (d (lo + n)).hi),
      if (d (lo + n)).lo < (inT d i lo a b s n).le then (d (lo + n)).lo else (inT d i lo a b s n).le,
      if (d (lo + n)).lo < (inT d i lo a b s n).le then i else (inT d i lo a b s n).fi,
      if (d (lo + n)).lo < (inT d i lo a b s n).le then lo + n else (inT d i lo a b s n).wh⟩
noncomputable def ouT (f : Fc) (way : List Ps) (a b : Int) : Nat → Ts
  | 0 => ⟨true, true, false, 1073741824, 0, 0⟩
  | i + 1 => match way[i]? with
    | some q => let t := inT (dF f q.place) i q.hours.lo a b (ouT f way a b i) ((q.hours.hi - q.hours.lo).toNat + 1)
      ⟨t.al, t.so && t.on, t.on, t.le, t.fi, t.wh⟩
    | none => ouT f way a b i
theorem inT_alg {s : Ts} {a b i k t : Int} {D x : Bd} : (⟨(s.al && decide (a ≤ D.lo)) && decide (a ≤ x.lo), s.so, decide (b ≤ D.hi) || decide (b ≤ x.hi),
    if x.lo < (if D.lo < s.le then D.lo else s.le) then x.lo else (if D.lo < s.le then D.lo else s.le),
    if x.lo < (if D.lo < s.le then D.lo else s.le) then i else (if D.lo < s.le then i else s.fi),
    if x.lo < (if D.lo < s.le then D.lo else s.le) then k else (if D.lo < s.le then t else s.wh)⟩ : Ts) =
    ⟨s.al && decide (a ≤ if x.lo < D.lo then x.lo else D.lo), s.so, decide (b ≤ max D.hi x.hi),
    if (if x.lo < D.lo then x.lo else D.lo) < s.le then (if x.lo < D.lo then x.lo else D.lo) else s.le,
    if (if x.lo < D.lo then x.lo else D.lo) < s.le then i else s.fi,
    if (if x.lo < D.lo then x.lo else D.lo) < s.le then (if x.lo < D.lo then k else t) else s.wh⟩ := by
  have a1 : (s.al && decide (a ≤ D.lo) && decide (a ≤ x.lo)) = (s.al && decide (a ≤ if x.lo < D.lo then x.lo else D.lo)) := by
    by_cases h : x.lo < D.lo
    · rw [if_pos h]
      by_cases h2 : a ≤ x.lo
      · simp [h2, show a ≤ D.lo by omega]
      · simp [h2]
    · rw [if_neg h]
      by_cases h2 : a ≤ D.lo
      · simp [h2, show a ≤ x.lo by omega]
      · simp [h2]
  have a2 : (decide (b ≤ D.hi) || decide (b ≤ x.hi)) = decide (b ≤ max D.hi x.hi) := by
    by_cases h : b ≤ D.hi
    · simp [h, show b ≤ max D.hi x.hi by omega]
    · by_cases h2 : b ≤ x.hi
      · simp [h2, show b ≤ max D.hi x.hi by omega]
      · simp [h, h2, show ¬ b ≤ max D.hi x.hi by omega]
  rw [a1, a2]
  by_cases h1 : D.lo < s.le
  · simp only [if_pos h1]
    by_cases h2 : x.lo < D.lo
    · simp only [if_pos h2, if_pos (show x.lo < s.le by omega)]
    · simp only [if_neg h2, if_pos h1]
  · simp only [if_neg h1]
    by_cases h2 : x.lo < D.lo
    · simp only [if_pos h2]
    · by_cases h3 : x.lo < s.le
      · omega
      · simp only [if_neg h2, if_neg h1, if_neg h3]
theorem inT_is {d : Int → Bd} {i lo a b : Int} {s : Ts} : ∀ n : Nat, inT d i lo a b s (n + 1) = ⟨s.al && decide (a ≤ (dsF d lo n).1.lo), s.so, decide (b ≤ (dsF d lo n).1.hi),
    if (dsF d lo n).1.lo < s.le then (dsF d lo n).1.lo else s.le, if (dsF d lo n).1.lo < s.le then i else s.fi, if (dsF d lo n).1.lo < s.le then (dsF d lo n).2 else s.wh⟩
  | 0 => by
    have e : lo + ((0 : Nat) : Int) = lo := by simp
    rw [inT, inT, e]
    simp only [Bool.false_or]
    rfl
  | n + 1 => by
    have e : lo + ((n + 1 : Nat) : Int) = lo + (n + 1) := by omega
    rw [inT, inT_is n, e]
    exact inT_alg (D := (dsF d lo n).1) (x := d (lo + (n + 1))) (t := (dsF d lo n).2) (k := lo + (n + 1))
theorem and_min {a x y : Int} : (decide (a ≤ y) && decide (a ≤ x)) = decide (a ≤ if x < y then x else y) := by
  by_cases h : x < y
  · rw [if_pos h]
    by_cases h2 : a ≤ x
    · simp [h2, show a ≤ y by omega]
    · simp [h2]
  · rw [if_neg h]
    by_cases h2 : a ≤ y
    · simp [h2, show a ≤ x by omega]
    · simp [h2]
theorem ouT_alg {S : Sw} {T : Ts} {D : Bd × Int} {i : Nat} {a b : Int} (h1 : T.al = decide (a ≤ S.lo)) (h2 : T.so = decide (b ≤ S.hi)) (h3 : T.fi = S.pass) (h4 : T.wh = S.hour) (h5 : (i = 0 ∧ T.le = 1073741824 ∧ S.lo = 1000000) ∨ (0 < i ∧ T.le = S.lo)) (hd : D.1.lo ≤ 200000) :
    (T.al && decide (a ≤ D.1.lo)) = decide (a ≤ (shS S i D).lo) ∧ (T.so && decide (b ≤ D.1.hi)) = decide (b ≤ (shS S i D).hi) ∧ (if D.1.lo < T.le then (i : Int) else T.fi) = (shS S i D).pass ∧ (if D.1.lo < T.le then D.2 else T.wh) = (shS S i D).hour ∧
    (if D.1.lo < T.le then D.1.lo else T.le) = (shS S i D).lo := by
  have hlt : D.1.lo < T.le ↔ D.1.lo < S.lo := by
    rcases h5 with ⟨h6, h7, h8⟩ | ⟨h6, h7⟩
    · omega
    · rw [h7]
  rw [h1, h2, h3, h4]
  refine ⟨and_min, and_min, ?_, ?_, ?_⟩
  · show _ = if D.1.lo < S.lo then (i : Int) else S.pass
    by_cases h : D.1.lo < S.lo
    · rw [if_pos h, if_pos (hlt.2 h)]
    · rw [if_neg h, if_neg (fun h' => h (hlt.1 h'))]
  · show _ = if D.1.lo < S.lo then D.2 else S.hour
    by_cases h : D.1.lo < S.lo
    · rw [if_pos h, if_pos (hlt.2 h)]
    · rw [if_neg h, if_neg (fun h' => h (hlt.1 h'))]
  · show _ = if D.1.lo < S.lo then D.1.lo else S.lo
    by_cases h : D.1.lo < S.lo
    · rw [if_pos h, if_pos (hlt.2 h)]
    · rw [if_neg h, if_neg (fun h' => h (hlt.1 h'))]
      rcases h5 with ⟨h6, h7, h8⟩ | ⟨h6, h7⟩
      · omega
      · exact h7
/-- What the two loops come to. -/
structure OuS (f : Fc) (way : List Ps) (a b : Int) (i : Nat) : Prop where
  al : (ouT f way a b i).al = decide (a ≤ (shF (passD f way) i).lo)
  so : (ouT f way a b i).so = decide (b ≤ (shF (passD f way) i).hi)
  fi : (ouT f way a b i).fi = (shF (passD f way) i).pass
  wh : (ouT f way a b i).wh = (shF (passD f way) i).hour
  le : (i = 0 ∧ (ouT f way a b i).le = 1073741824 ∧ (shF (passD f way) i).lo = 1000000) ∨ (0 < i ∧ (ouT f way a b i).le = (shF (passD f way) i).lo)
theorem ouT_succ {f : Fc} {way : List Ps} {a b : Int} {i : Nat} {q : Ps} (hq : way[i]? = some q) : ouT f way a b (i + 1) = ⟨(inT (dF f q.place) i q.hours.lo a b (ouT f way a b i) ((q.hours.hi - q.hours.lo).toNat + 1)).al, (inT (dF f q.place) i q.hours.lo a b (ouT f way a b i) ((q.hours.hi - q.hours.lo).toNat + 1)).so && (inT (dF f q.place) i q.hours.lo a b (ouT f way a b i) ((q.hours.hi - q.hours.lo).toNat + 1)).on, (inT (dF f q.place) i q.hours.lo a b (ouT f way a b i) ((q.hours.hi - q.hours.lo).toNat + 1)).on, (inT (dF f q.place) i q.hours.lo a b (ouT f way a b i) ((q.hours.hi - q.hours.lo).toNat + 1)).le, (inT (dF f q.place) i q.hours.lo a b (ouT f way a b i) ((q.hours.hi - q.hours.lo).toNat + 1)).fi, (inT (dF f q.place) i q.hours.lo a b (ouT f way a b i) ((q.hours.hi - q.hours.lo).toNat + 1)).wh⟩ := by
  rw [ouT, hq]
theorem ouT_is {f : Fc} {way : List Ps} {a b : Int} (ha : a ≤ 1000000) (hb : b ≤ 1000000) (hd : ∀ i, i < way.length → (passD f way i).1.lo ≤ 200000) : ∀ i, i ≤ way.length → OuS f way a b i
  | 0, _ => ⟨by simp only [ouT, shF]; exact (decide_eq_true ha).symm, by simp only [ouT, shF]; exact (decide_eq_true hb).symm, rfl, rfl, .inl ⟨rfl, rfl, rfl⟩⟩
  | i + 1, h => by
    have ih := ouT_is ha hb hd i (by omega)
    obtain ⟨q, hq⟩ : ∃ q, way[i]? = some q := ⟨_, List.getElem?_eq_getElem (by omega)⟩
    have hp : dsF (dF f q.place) q.hours.lo (q.hours.hi - q.hours.lo).toNat = passD f way i := by rw [passD, hq]
    have hd' := hd i (by omega)
    have g := ouT_alg (i := i) (a := a) (b := b) ih.al ih.so ih.fi ih.wh ih.le hd'
    have e := ouT_succ (f := f) (a := a) (b := b) hq
    rw [inT_is] at e
    rw [hp] at e
    refine ⟨?_, ?_, ?_, ?_, .inr ⟨by omega, ?_⟩⟩
    · rw [e]; exact g.1
    · rw [e]; exact g.2.1
    · rw [e]; exact g.2.2.1
    · rw [e]; exact g.2.2.2.1
    · rw [e]; exact g.2.2.2.2
end Go.Pe

/- The examples of chapters 1 and 2 that moorDepth asks. -/
namespace Go.Pe
open Go Go.Proofs Go.Proofs.YtffckclggkjbgaaGreat
theorem moorDepth_fn : Fn Tryz.prog 54 [] .nil (B true) .nil := Fn.of_runT (kp := [152, 161, 111]) (n := 100000) (k := 20) tabC_ok (by kernel_rfl)
end Go.Pe
