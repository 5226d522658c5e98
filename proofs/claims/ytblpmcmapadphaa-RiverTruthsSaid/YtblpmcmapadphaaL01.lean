import Derived.Test.YtblpmcmapadphaaK01
import Derived.Test.YtblpmcmapadphaaI02
import Derived.Test.YtblpmcmapadphaaI01
set_option linter.unusedVariables false
set_option linter.unusedSimpArgs false
/- Truths of a forecast: what truly flows, and how it lies in the bounds. -/
namespace Go.Pe
open Go Go.Proofs Go.Proofs.Ytblpmcmapadphaa
set_option maxRecDepth 20000
set_option maxHeartbeats 8000000

theorem pick2_fn {b : Bd} {y : Int} {h : H} (h1 : b.lo.natAbs ≤ 1000000000000) (h2 : b.hi.natAbs ≤ 1000000000000) (h3 : 0 ≤ y) (h4 : y ≤ 255) : Fn Try.prog 52 [.agg [I b.lo, I b.hi], U y] h (I (pickZ b y)) h := by
  refine Fn.beside ?_ rfl h
  refine Fn.ofR0 noM (by kernel_rfl) Try.func52 rfl (by simp) ?_
  have m1 := mul_in (a := b.hi - b.lo) (b := y) (m := 2000000000000) (n := 255) (by omega) (by omega)
  have w1 := wrap_in (n := b.hi - b.lo) (by omega) (by omega)
  have w2 := wrap_in (n := (b.hi - b.lo) * y) (by omega) (by omega)
  have w0 := wrap_in (n := y) (by omega) (by omega)
  have q : ((b.hi - b.lo) * y).tdiv 255 ≤ 510000000000000 ∧ -510000000000000 ≤ ((b.hi - b.lo) * y).tdiv 255 := by
    rcases Int.le_total 0 ((b.hi - b.lo) * y) with h | h
    · rw [Int.tdiv_eq_ediv_of_nonneg h]; omega
    · obtain ⟨z, hz⟩ : ∃ z, z = -((b.hi - b.lo) * y) := ⟨_, rfl⟩
      rw [show (b.hi - b.lo) * y = -z by omega, Int.neg_tdiv, Int.tdiv_eq_ediv_of_nonneg (by omega)]
      omega
  have w3 := wrap_in (n := ((b.hi - b.lo) * y).tdiv 255) (by omega) (by omega)
  have w4 := wrap_in (n := b.lo + ((b.hi - b.lo) * y).tdiv 255) (by omega) (by omega)
  simp -dsimp -implicitDefEqProofs [convA, w0, w1, w2, w3, w4, pickZ]
theorem part2_fn {l : List Int} {i : Nat} {fu : Bool} {h : H} : Fn Try.prog 53 [.ro fu 1 (l.map fun n => [U n]), I i] h (U (partZ l i)) h := part_fn.beside rfl h
theorem in_fn {b : Bd} {n : Int} {h : H} : Fn Try.prog 51 [.agg [I b.lo, I b.hi], I n] h (B (inB b.lo b.hi n)) h := by
  refine Fn.beside ?_ rfl h
  refine Fn.ofR0 noM (by kernel_rfl) Try.func51 rfl (by simp) ?_
  simp -dsimp -implicitDefEqProofs
  refine ifD_in (fun h2 => ?_) (fun h2 => ?_)
  · simp -dsimp -implicitDefEqProofs [inB, decide_eq_true h2]
  · simp -dsimp -implicitDefEqProofs [inB, decide_eq_false h2]
/-- What is said of a truth's bytes. -/
structure OkTr (x : Tr) : Prop where
  base : ∀ n ∈ x.base, 0 ≤ n ∧ n ≤ 255
  side : ∀ n ∈ x.side, 0 ≤ n ∧ n ≤ 255
  bed : ∀ n ∈ x.bed, 0 ≤ n ∧ n ≤ 255
  grow : ∀ n ∈ x.grow, 0 ≤ n ∧ n ≤ 255
/-- What truly flows. -/
def trB (f : Fc) (x : Tr) (q : Nat) : Int := pickZ (baseOf f.r q) (partZ x.base q)
def trS (f : Fc) (x : Tr) (q : Nat) (h : Int) : Int := pickZ (sideAt f.sides q h) (partZ x.side (7 * q + h.toNat))
def trF (f : Fc) (x : Tr) : Nat → Int → Int
  | 0, h => if h < 0 then trB f x 0 else trS f x 0 h
  | q + 1, h => if h < 0 then trB f x (q + 1) else trS f x (q + 1) h + trF f x q (h - delayOf f.r q)
theorem trF_neg {f : Fc} {x : Tr} {q : Nat} {h : Int} (hh : h < 0) : trF f x q h = trB f x q := by cases q <;> simp [trF, hh]
theorem trF_zero {f : Fc} {x : Tr} {h : Int} (hh : ¬ h < 0) : trF f x 0 h = trS f x 0 h := by simp [trF, hh]
theorem trF_succ {f : Fc} {x : Tr} {q : Nat} {h : Int} (hh : ¬ h < 0) : trF f x (q + 1) h = trS f x (q + 1) h + trF f x q (h - delayOf f.r q) := by simp [trF, hh]
theorem trF_in {f : Fc} {x : Tr} (g : GoodF f) (t : OkTr x) : ∀ (q : Nat) (h : Int), (rf f.r f.sides q h).lo ≤ trF f x q h ∧ trF f x q h ≤ (rf f.r f.sides q h).hi
  | q, h => by
    by_cases hh : h < 0
    · rw [rf_neg hh, trF_neg hh]
      have hb := baseOf_ok g (i := q)
      have hp := partZ_in (i := q) t.base
      exact pick_in hb.2.1 hp.1 hp.2
    · cases q with
      | zero =>
        rw [rf_zero hh, trF_zero hh]
        have hb := sideAt_ok g (i := 0) (h := h)
        have hp := partZ_in (i := 7 * 0 + h.toNat) t.side
        exact pick_in hb.2.1 hp.1 hp.2
      | succ q =>
        rw [rf_succ hh, trF_succ hh]
        have ih := trF_in g t q (h - delayOf f.r q)
        have hb := sideAt_ok g (i := q + 1) (h := h)
        have hp := partZ_in (i := 7 * (q + 1) + h.toNat) t.side
        have hk := pick_in hb.2.1 hp.1 hp.2
        rw [trS]
        simp only
        omega
theorem trF_bd {f : Fc} {x : Tr} (g : GoodF f) (t : OkTr x) (q : Nat) (h : Int) : 0 ≤ trF f x q h ∧ trF f x q h ≤ (q + 1) * 10000000000 := by
  have h1 := trF_in g t q h
  have h2 := rf_ok g q h
  omega
theorem truly_fn {f : Fc} {x : Tr} {q k : Nat} {h : H} (g : GoodF f) (t : OkTr x) (hq : q < f.sides.length) (hk : k < hrs f.sides) : Fn Try.prog 50 [f.av, x.av, I q, I k] h (I (trF f x q k)) h := by
  refine Fn.beside ?_ rfl h
  refine Fn.ofR0 noM (by kernel_rfl) Try.func50 rfl (by simp) ?_
  have hm := g.hmax
  have hn := g.small.n
  have heq := g.eq
  simp -dsimp -implicitDefEqProofs
  refine LoopCR.on (σ := Int × Nat × Int) 58 (fun s => [(2, I (s.2.1 : Nat)), (3, I s.2.2), (4, .ptr 0 0), (5, .ptr 1 0), (9, I s.1)])
    (fun _ => [some [f.r.reaches false, f.r.shoals, sidesAV f.sides false], some [u8s x.base, u8s x.side, u8s x.bed, u8s x.grow, U x.snow]])
    (fun s => s.2.1 ≤ q ∧ s.2.2 ≤ k ∧ -1000 ≤ s.2.2 ∧ s.1 + trF f x s.2.1 s.2.2 = trF f x q k ∧ 0 ≤ s.1 ∧ s.1 ≤ (q - s.2.1 : Int) * 10000000000) (fun s => s.2.1) (0, q, k) [0, 1] (by simp) ?_ ?_
  · simp -dsimp -implicitDefEqProofs
  intro s j hI
  obtain ⟨n, p, e⟩ := s
  obtain ⟨i1, i2, i3, i4, i5, i6⟩ := hI
  simp only at i1 i2 i3 i4 i5 i6 ⊢
  have hp : p < f.r.rs.length := by omega
  obtain ⟨y, hy⟩ : ∃ y, f.r.rs[p]? = some y := ⟨_, List.getElem?_eq_getElem hp⟩
  obtain ⟨l, hl⟩ : ∃ l, f.sides[p]? = some l := ⟨_, List.getElem?_eq_getElem (by omega)⟩
  have hll := g.lens l (List.mem_of_getElem? hl)
  have i7 : ((q : Int) - p) * 10000000000 ≤ 25 * 10000000000 := Int.mul_le_mul_of_nonneg_right (by omega) (by omega)
  simp -dsimp -implicitDefEqProofs
  refine ifD_in (fun h0 => ?_) (fun h0 => ?_)
  · have hb := baseOf_ok g (i := p)
    have hbe : baseOf f.r p = y.base := by rw [baseOf, hy]; rfl
    have hz := partZ_in (i := p) t.base
    have hk2 := pick_in hb.2.1 hz.1 hz.2
    rw [hbe] at hb hk2
    rw [trF_neg h0, trB, hbe] at i4
    have w1 : IntKind.i64.wrap (n + pickZ y.base (partZ x.base p)) = trF f x q k := by rw [wrap_in (by omega) (by omega)]; exact i4
    simp -dsimp -implicitDefEqProofs
    refine DrawR.on {} (by kernel_rfl) (by simp) ?_
    simp -dsimp -implicitDefEqProofs [hy]
    refine onCallQ_in part2_fn ?_
    simp -dsimp -implicitDefEqProofs
    refine onCallQ_in (pick2_fn (b := y.base) (by omega) (by omega) hz.1 hz.2) ?_
    simp -dsimp -implicitDefEqProofs [w1]
  · obtain ⟨m, rfl⟩ : ∃ m : Nat, e = m := ⟨e.toNat, by omega⟩
    obtain ⟨b, hb⟩ : ∃ b, l[m]? = some b := ⟨_, List.getElem?_eq_getElem (by omega)⟩
    have hs := sideAt_ok g (i := p) (h := m)
    have hse : sideAt f.sides p m = b := by rw [sideAt, hl, Option.getD_some, List.getD_eq_getElem?_getD, Int.toNat_natCast, hb]; rfl
    have hz := partZ_in (i := 7 * p + m) t.side
    have hk2 := pick_in hs.2.1 hz.1 hz.2
    rw [hse] at hs hk2
    have hts : trS f x p m = pickZ b (partZ x.side (7 * p + m)) := by rw [trS, hse, Int.toNat_natCast]
    obtain ⟨v, hv⟩ : ∃ v, v = pickZ b (partZ x.side (7 * p + m)) := ⟨_, rfl⟩
    have cP := fun h => pick2_fn (b := b) (y := partZ x.side (7 * p + m)) (h := h) (by omega) (by omega) hz.1 hz.2
    simp only [← hv] at cP
    rw [← hv] at hk2 hts
    have w1 : IntKind.i64.wrap (7 * (p : Int)) = 7 * (p : Int) := wrap_in (by omega) (by omega)
    have w2 : IntKind.i64.wrap (7 * (p : Int) + m) = ((7 * p + m : Nat) : Int) := by rw [wrap_in (by omega) (by omega)]; omega
    have w3 : IntKind.i64.wrap (n + v) = n + v := wrap_in (by omega) (by omega)
    obtain ⟨z, hz2⟩ : ∃ z, z = 7 * p + m := ⟨_, rfl⟩
    rw [← hz2] at w2 cP
    simp -dsimp -implicitDefEqProofs
    refine DrawR.on {} (by kernel_rfl) (by simp) ?_
    simp -dsimp -implicitDefEqProofs [hl, hb, w1, w2]
    refine onCallQ_in (part2_fn (i := z)) ?_
    simp -dsimp -implicitDefEqProofs
    refine onCallQ_in (cP _) ?_
    simp -dsimp -implicitDefEqProofs [w3]
    cases p with
    | zero =>
      rw [trF_zero (by omega), hts] at i4
      simp -dsimp -implicitDefEqProofs [i4]
    | succ p =>
      have hdy := fun y (hy : f.r.rs[p]? = some y) => (validR_parts ((List.all_eq_true.1 g.rv) y (List.mem_of_getElem? hy))).2.1
      obtain ⟨u, hu⟩ : ∃ u, f.r.rs[p]? = some u := ⟨_, List.getElem?_eq_getElem (by omega)⟩
      have hdu := hdy u hu
      have hdo : delayOf f.r p = u.delay := by rw [delayOf, hu]; rfl
      rw [trF_succ (by omega), hts, hdo] at i4
      have b0 : ((p : Int) + 1 == 0) = false := beq_eq_false_iff_ne.2 (by omega)
      have w4 : IntKind.i64.wrap ((p : Int) + 1 - 1) = p := by rw [wrap_in (by omega) (by omega)]; omega
      have w4' : IntKind.i64.wrap (p : Int) = p := wrap_in (by omega) (by omega)
      have w5 : IntKind.i64.wrap ((m : Int) - u.delay) = (m : Int) - u.delay := wrap_in (by omega) (by omega)
      simp -dsimp -implicitDefEqProofs [b0, w4, w4', hu, w5]
      refine again_in (n + v, p, (m : Int) - u.delay) [0, 1] ⟨by simp only; omega, by simp only; omega, by simp only; omega, by simp only; omega, by simp only; omega, ?_⟩ (by simp) ?_
      · simp only
        rw [show ((q : Int) - ((p + 1 : Nat) : Int)) * 10000000000 = (q - p) * 10000000000 - 10000000000 by rw [show ((p + 1 : Nat) : Int) = (p : Int) + 1 by omega]; omega] at i6
        omega
      simp -dsimp -implicitDefEqProofs
end Go.Pe

/- The arithmetic of the law RiverTruths. -/
namespace Go.Pe
open Go Go.Proofs Go.Proofs.Ytblpmcmapadphaa
set_option maxRecDepth 20000

theorem cv_ge {f : Int} {up : Bool} : ∀ {l : List Rw} {w : Rw}, srt (w :: l) → w.level ≤ cv f up (w :: l)
  | [], w, _ => Int.le_refl _
  | v :: l, w, hs => by
    obtain ⟨⟨h1, h2⟩, hs'⟩ := hs
    have ih := cv_ge (f := f) (up := up) hs'
    rw [cv]
    split
    · omega
    · split
      · have := pc_in (w := w) (v := v) (f := f) (up := up) (by omega) (by omega) h1 h2
        omega
      · omega
theorem part_mono {w v : Rw} {f f' : Int} {up : Bool} (h : f ≤ f') (h1 : w.flow < v.flow) (h2 : w.level ≤ v.level) : part w v f up ≤ part w v f' up := by
  have hc : 0 < v.flow - w.flow := by omega
  have hr : rise w v f ≤ rise w v f' := Int.mul_le_mul_of_nonneg_right (by omega) (by omega)
  unfold part
  cases up with
  | false => simp only [Bool.false_eq_true, if_false]; exact Int.ediv_le_ediv hc hr
  | true =>
    simp only [if_true]
    have := Int.ediv_le_ediv (a := -rise w v f') (b := -rise w v f) hc (by omega)
    omega
theorem cv_mono {f f' : Int} {up : Bool} (h : f ≤ f') : ∀ {l : List Rw}, srt l → cv f up l ≤ cv f' up l
  | [], _ => Int.le_refl _
  | [w], _ => Int.le_refl _
  | w :: v :: l, hs => by
    have hge := cv_ge (f := f') (up := up) hs
    obtain ⟨⟨h1, h2⟩, hs'⟩ := hs
    have ih := cv_mono (up := up) h hs'
    have hge' := cv_ge (f := f') (up := up) hs'
    by_cases a : f ≤ w.flow
    · have e : cv f up (w :: v :: l) = w.level := by rw [cv, if_pos a]
      omega
    · by_cases b : f < v.flow
      · have e : cv f up (w :: v :: l) = w.level + part w v f up := by rw [cv, if_neg a, if_pos b]
        have hp := pc_in (w := w) (v := v) (f := f) (up := up) (by omega) (by omega) h1 h2
        by_cases c : f' < v.flow
        · have e' : cv f' up (w :: v :: l) = w.level + part w v f' up := by rw [cv, if_neg (by omega), if_pos c]
          have := part_mono (up := up) h h1 h2
          omega
        · have e' : cv f' up (w :: v :: l) = cv f' up (v :: l) := by rw [cv, if_neg (by omega), if_neg c]
          omega
      · have e : cv f up (w :: v :: l) = cv f up (v :: l) := by rw [cv, if_neg a, if_neg b]
        have e' : cv f' up (w :: v :: l) = cv f' up (v :: l) := by rw [cv, if_neg (by omega), if_neg (by omega)]
        omega
theorem ceil_gap {a c : Int} (hc : 0 < c) : a / c ≤ -(-a / c) ∧ -(-a / c) ≤ a / c + 1 := by
  have h1 : a / c * c ≤ a := Int.ediv_mul_le a (by omega)
  have h2 : a < (a / c + 1) * c := Int.lt_ediv_add_one_mul_self a hc
  have h3 : -a / c ≤ -(a / c) := Int.ediv_le_of_le_mul hc (by rw [Int.neg_mul]; omega)
  have h4 : -(a / c + 1) ≤ -a / c := (Int.le_ediv_iff_mul_le hc).2 (by rw [Int.neg_mul]; omega)
  omega
theorem cv_gap {f : Int} : ∀ {l : List Rw}, srt l → cv f false l ≤ cv f true l ∧ cv f true l ≤ cv f false l + 1
  | [], _ => by simp [cv]
  | [w], _ => by simp only [cv]; omega
  | w :: v :: l, hs => by
    obtain ⟨⟨h1, h2⟩, hs'⟩ := hs
    have ih := cv_gap (f := f) hs'
    by_cases a : f ≤ w.flow
    · have e : ∀ up, cv f up (w :: v :: l) = w.level := fun up => by rw [cv, if_pos a]
      rw [e, e]; omega
    · by_cases b : f < v.flow
      · have e : ∀ up, cv f up (w :: v :: l) = w.level + part w v f up := fun up => by rw [cv, if_neg a, if_pos b]
        have := ceil_gap (a := rise w v f) (c := v.flow - w.flow) (by omega)
        rw [e, e]
        simp only [part, if_true, Bool.false_eq_true, if_false]
        omega
      · have e : ∀ up, cv f up (w :: v :: l) = cv f up (v :: l) := fun up => by rw [cv, if_neg a, if_neg b]
        rw [e, e]; exact ih
/-- The level of a true flow. -/
theorem lvl_truth {y : Rc} {b : Bd} {n : Int} (hv : validCv y.curve = true) (h1 : b.lo ≤ n) (h2 : n ≤ b.hi) :
    (lvl y b).lo ≤ (lvl y ⟨n, n⟩).lo ∧ (lvl y ⟨n, n⟩).hi ≤ (lvl y b).hi ∧ (lvl y ⟨n, n⟩).lo ≤ (lvl y ⟨n, n⟩).hi ∧ (lvl y ⟨n, n⟩).hi ≤ (lvl y ⟨n, n⟩).lo + 1 ∧ y.weir ≤ (lvl y ⟨n, n⟩).lo := by
  have hs := (valid_srt hv).1
  have m1 := cv_mono (up := false) h1 hs
  have m2 := cv_mono (up := true) h2 hs
  have m3 := cv_gap (f := n) hs
  simp only [lvl]
  omega
/-- The true top of the bed, in parts of a centimeter. -/
def topS (x : Tr) (p h : Int) (j : Nat) (t : Int) (s : Sh) : Int := if s.place = p then max t (24 * pickZ s.bed (partZ x.bed j) + pickZ s.grow (partZ x.grow j) * max 0 (h - s.snd)) else t
def topF (x : Tr) (p h t : Int) (ss : List Sh) : Nat → Int
  | 0 => t
  | j + 1 => match ss[j]? with
    | some s => topS x p h j (topF x p h t ss j) s
    | none => topF x p h t ss j
theorem topF_in {x : Tr} {p h t : Int} {b : Bd} (ht : 24 * b.lo ≤ t ∧ t ≤ 24 * b.hi) (o : OkTr x) {ss : List Sh} (hs : ∀ s ∈ ss, OkSh s) : ∀ j, j ≤ ss.length → 24 * (bedF p h b (ss.take j)).lo ≤ topF x p h t ss j ∧ topF x p h t ss j ≤ 24 * (bedF p h b (ss.take j)).hi
  | 0, _ => by simpa [bedF, topF] using ht
  | j + 1, hj => by
    have ih := topF_in (p := p) (h := h) ht o hs j (by omega)
    obtain ⟨s, hx⟩ : ∃ s, ss[j]? = some s := ⟨_, List.getElem?_eq_getElem (by omega)⟩
    have hst : ss.take (j + 1) = ss.take j ++ [s] := by rw [List.take_add_one, hx]; rfl
    rw [hst, bedF_snoc, topF, hx]
    simp only
    generalize bedF p h b (ss.take j) = B at *
    generalize topF x p h t ss j = T at *
    obtain ⟨c1, c2, c3, c4, c5, c6, c7, c8⟩ := hs s (List.mem_of_getElem? hx)
    have z1 := partZ_in (i := j) o.bed
    have z2 := partZ_in (i := j) o.grow
    have k1 := pick_in c2 z1.1 z1.2
    have k2 := pick_in c7 z2.1 z2.2
    unfold bedS topS
    by_cases hp : s.place = p
    · rw [if_pos hp, if_pos hp, grw]
      simp only
      generalize pickZ s.bed (partZ x.bed j) = P at *
      generalize pickZ s.grow (partZ x.grow j) = G at *
      have hd : 0 ≤ max 0 (h - s.snd) := by omega
      generalize max 0 (h - s.snd) = d at *
      have m1 : s.grow.lo * d ≤ G * d := Int.mul_le_mul_of_nonneg_right k2.1 hd
      have m2 : G * d ≤ s.grow.hi * d := Int.mul_le_mul_of_nonneg_right k2.2 hd
      generalize s.grow.lo * d = p1 at *
      generalize s.grow.hi * d = p2 at *
      generalize G * d = p3 at *
      omega
    · rw [if_neg hp, if_neg hp]; exact ih
/-- At no hour is the depth less than the least of all, nor more than the greatest. -/
theorem dsF_at {d : Int → Bd} {lo : Int} : ∀ {n k : Nat}, k ≤ n → (dsF d lo n).1.lo ≤ (d (lo + k)).lo ∧ (d (lo + k)).hi ≤ (dsF d lo n).1.hi
  | 0, k, h => by
    obtain rfl : k = 0 := by omega
    rw [show lo + ((0 : Nat) : Int) = lo by omega]
    exact ⟨Int.le_refl _, Int.le_refl _⟩
  | n + 1, k, h => by
    by_cases hk : k = n + 1
    · subst hk
      rw [show lo + ((n + 1 : Nat) : Int) = lo + ((n : Int) + 1) by omega]
      simp only [dsF]
      generalize d (lo + ((n : Int) + 1)) = x
      split <;> omega
    · have ih := dsF_at (d := d) (lo := lo) (n := n) (k := k) (by omega)
      simp only [dsF]
      generalize d (lo + ((n : Int) + 1)) = x
      split <;> omega
theorem shF_step {D : Nat → Bd × Int} {i : Nat} : (shF D (i + 1)).lo ≤ (D i).1.lo ∧ (shF D (i + 1)).lo ≤ (shF D i).lo ∧ ((shF D (i + 1)).hi = (D i).1.hi ∨ (shF D (i + 1)).hi = (shF D i).hi) := by
  simp only [shF, shS]
  refine ⟨?_, ?_, ?_⟩
  · split <;> omega
  · split <;> omega
  · split
    · exact .inl rfl
    · exact .inr rfl
theorem shF_in {D : Nat → Bd × Int} : ∀ {i : Nat}, (∀ k, k < i → (0 ≤ (D k).1.lo ∧ (D k).1.lo ≤ 200000) ∧ 0 ≤ (D k).1.hi ∧ (D k).1.hi ≤ 200000) → (0 ≤ (shF D i).lo ∧ (shF D i).lo ≤ 1000000) ∧ 0 ≤ (shF D i).hi ∧ (shF D i).hi ≤ 1000000
  | 0, _ => by simp [shF]
  | i + 1, h => by
    have ih := shF_in (D := D) (i := i) fun k hk => h k (by omega)
    have := h i (by omega)
    simp only [shF, shS]
    refine ⟨?_, ?_⟩ <;> split <;> omega
end Go.Pe

/- The law RiverTruths: the parts that its rounds call. -/
namespace Go.Pe
open Go Go.Proofs Go.Proofs.Ytblpmcmapadphaa
set_option maxRecDepth 20000
set_option maxHeartbeats 8000000

theorem flv {f : Fc} (g : GoodF f) {i : Nat} (hi : i < f.sides.length) : ∃ x row lrow, f.r.rs[i]? = some x ∧ (flowsF f.r f.sides)[i]? = some row ∧ (LV f)[i]? = some lrow ∧ row.length = hrs f.sides ∧ lrow.length = hrs f.sides ∧
    ∀ k, k < hrs f.sides → row[k]? = some (rf f.r f.sides i k) ∧ lrow[k]? = some (lvl x (rf f.r f.sides i k)) := by
  obtain ⟨x, row, lrow, e1, e2, e3, e4, e5, e6, e7⟩ := LV_at g (i := i) (by have := g.eq; omega)
  obtain ⟨row', h1, h2, h3⟩ := flowsF_rf g f.sides.length (Nat.le_refl _) i hi
  rw [List.take_length, e2] at h1
  cases h1
  refine ⟨x, row, lrow, e1, e2, e3, e4, e5, fun k hk => ?_⟩
  obtain ⟨b, q1, q2, _⟩ := e7 k hk
  have := h3 k hk
  rw [q1] at this
  cases this
  exact ⟨q1, q2⟩
theorem LV_len {f : Fc} (g : GoodF f) : (LV f).length = f.sides.length := by
  have h1 : (flowsF f.r f.sides).length = f.sides.length := flowsF_len
  have h2 := g.eq
  simp only [LV, List.length_zipWith]
  omega
theorem rs20 {f : Fc} (h : startE f = 0) : f.r.rs.length ≤ 20 := by
  have := rv_of_start h
  simp only [validRv, Bool.and_eq_true, inB_iff] at this
  omega
/-- The level of a true flow, as the package tells it. -/
theorem levT_fn {f : Fc} {x : Tr} {q : Nat} {k : Int} {y : Rc} {h : H} (g : GoodF f) (t : OkTr x) (he : startE f = 0) (hy : f.r.rs[q]? = some y) :
    Fn Try.prog 21 [.agg (fR y), .agg [I (trF f x q k), I (trF f x q k)]] h (.tup [.agg [I (lvl y ⟨trF f x q k, trF f x q k⟩).lo, I (lvl y ⟨trF f x q k, trF f x q k⟩).hi], I 0]) h := by
  have hv := (List.all_eq_true.1 g.rv) y (List.mem_of_getElem? hy)
  have hc := (validR_parts hv).2.2.2.1
  simp only [validCv, Bool.and_eq_true, inB_iff] at hc
  have hb := trF_bd g t q k
  have hq := (List.getElem?_eq_some_iff.1 hy).1
  have h20 := rs20 he
  have hbig : ((q : Int) + 1) * 10000000000 ≤ 20 * 10000000000 := Int.mul_le_mul_of_nonneg_right (by omega) (by omega)
  have := Level_fn (r := y) (b := ⟨trF f x q k, trF f x q k⟩) (h := h) (by omega)
  have e : levRes y ⟨trF f x q k, trF f x q k⟩ = (lvl y ⟨trF f x q k, trF f x q k⟩, 0) := by
    unfold levRes
    rw [if_pos hv, if_pos (vB_iff.2 (by simp only; omega))]
  rw [e] at this
  exact this
/-- What is compared at the end of a pass. -/
theorem rt_end {u v B0 D0 : Bd} {T N1 N2 : Int} (h1 : u.lo ≤ v.lo) (h2 : v.hi ≤ u.hi) (h3 : v.lo ≤ v.hi) (h4 : (0 ≤ v.lo ∧ v.lo ≤ 10000) ∧ 0 ≤ v.hi ∧ v.hi ≤ 10000) (hT : 24 * B0.lo ≤ T ∧ T ≤ 24 * B0.hi) (hB : B0.lo.natAbs ≤ 100000 ∧ B0.hi.natAbs ≤ 100000)
    (hD : (0 ≤ D0.lo ∧ D0.lo ≤ 200000) ∧ 0 ≤ D0.hi ∧ D0.hi ≤ 200000) (hD0 : D0 = dpt u B0) (hN1 : N1 = max 0 (24 * v.hi - T)) (hN2 : N2 = max 0 (24 * v.lo - T)) :
    (IntKind.i64.wrap (24 * B0.lo) = 24 * B0.lo ∧ IntKind.i64.wrap (24 * B0.hi) = 24 * B0.hi ∧ IntKind.i64.wrap (24 * D0.lo) = 24 * D0.lo ∧ IntKind.i64.wrap (24 * D0.hi) = 24 * D0.hi ∧ IntKind.i64.wrap (24 * v.hi) = 24 * v.hi ∧ IntKind.i64.wrap (24 * v.lo) = 24 * v.lo ∧ IntKind.i64.wrap (24 * v.hi - T) = 24 * v.hi - T ∧ IntKind.i64.wrap (24 * v.lo - T) = 24 * v.lo - T) ∧
    decide (T < 24 * B0.lo) = false ∧ decide (24 * B0.hi < T) = false ∧ decide (N1 < 24 * D0.lo) = false ∧ decide (24 * D0.hi < 24 * v.lo - T) = false ∧ decide (D0.hi < D0.lo) = false ∧ 24 * D0.lo ≤ N1 ∧ N2 ≤ 24 * D0.hi ∧ 0 ≤ N1 ∧ 0 ≤ N2 := by
  have hl : D0.lo = max 0 (u.lo - B0.hi) := by rw [hD0]; rfl
  have hh : D0.hi = max 0 (u.hi - B0.lo) := by rw [hD0]; rfl
  clear hD0
  refine ⟨⟨wrap_in (by omega) (by omega), wrap_in (by omega) (by omega), wrap_in (by omega) (by omega), wrap_in (by omega) (by omega), wrap_in (by omega) (by omega), wrap_in (by omega) (by omega), wrap_in (by omega) (by omega), wrap_in (by omega) (by omega)⟩, decide_eq_false (by omega), decide_eq_false (by omega), decide_eq_false (by omega), decide_eq_false (by omega), decide_eq_false (by omega), by omega, by omega, by omega, by omega⟩
/-- How the least depths stand, pass by pass. -/
def rtInv (PD : Nat → Bd × Int) (n i : Nat) (sh dp : Int) : Prop := i ≤ n ∧ ((i = 0 ∧ sh = -1 ∧ dp = -1) ∨ (0 < i ∧ 0 ≤ sh ∧ 0 ≤ dp ∧ 24 * (shF PD i).lo ≤ sh ∧ dp ≤ 24 * (shF PD i).hi))
theorem rtInv_first {PD : Nat → Bd × Int} {n i : Nat} {N1 N2 : Int} {D0 : Bd} (hi : i < n) (h0 : i = 0) (hp : (PD i).1.hi ≤ 200000) (h1 : (PD i).1.lo ≤ D0.lo) (h2 : D0.hi ≤ (PD i).1.hi) (a1 : 24 * D0.lo ≤ N1) (a2 : N2 ≤ 24 * D0.hi) (a3 : 0 ≤ N1) (a4 : 0 ≤ N2) : rtInv PD n (i + 1) N1 N2 := by
  have hs := shF_step (D := PD) (i := i)
  have e : (shF PD i).hi = 1000000 := by rw [h0]; rfl
  exact ⟨hi, .inr ⟨by omega, a3, a4, by omega, by omega⟩⟩
theorem rtInv_next {PD : Nat → Bd × Int} {n i : Nat} {N1 N2 sh dp sh' dp' : Int} {D0 : Bd} (hi : i < n) (h : rtInv PD n i sh dp) (h0 : 0 < i) (h1 : (PD i).1.lo ≤ D0.lo) (h2 : D0.hi ≤ (PD i).1.hi) (a1 : 24 * D0.lo ≤ N1) (a2 : N2 ≤ 24 * D0.hi) (a3 : 0 ≤ N1) (a4 : 0 ≤ N2)
    (hs : sh' = N1 ∨ sh' = sh) (hd : (dp' = N2 ∧ N2 < dp) ∨ (dp' = dp ∧ ¬ N2 < dp)) : rtInv PD n (i + 1) sh' dp' := by
  have hst := shF_step (D := PD) (i := i)
  obtain ⟨_, h | ⟨b1, b2, b3, b4, b5⟩⟩ := h
  · omega
  · refine ⟨hi, .inr ⟨by omega, ?_, ?_, ?_, ?_⟩⟩
    · rcases hs with rfl | rfl <;> omega
    · rcases hd with ⟨rfl, _⟩ | ⟨rfl, _⟩ <;> omega
    · rcases hs with rfl | rfl <;> omega
    · rcases hd with ⟨rfl, _⟩ | ⟨rfl, _⟩ <;> omega
/-- All that is true at a place in an hour. -/
theorem rt_at {f : Fc} {x : Tr} {p : Int} {r k : Nat} {y : Rc} (g : GoodF f) (t : OkTr x) (o : OkRv f) (he : startE f = 0) (hp0 : 0 ≤ p) (ha : At f.r.rs p r y) (hk : k < hrs f.sides) : ∃ (n pb : Int) (v D0 B0 : Bd),
    (∀ h, Fn Try.prog 50 [f.av, x.av, I r, I k] h (I n) h) ∧ (∀ h, Fn Try.prog 21 [.agg (fR y), .agg [I n, I n]] h (.tup [.agg [I v.lo, I v.hi], I 0]) h) ∧
    (∀ f1 f2 h, Fn Try.prog 39 [f.r.av f1, sidesAV f.sides f2, I p, I k] h (.tup [.agg [I D0.lo, I D0.hi], I 0]) h) ∧ (∀ f1 h, Fn Try.prog 38 [f.r.av f1, I p, I k] h (.tup [.agg [I B0.lo, I B0.hi], I 0]) h) ∧
    (∀ h, Fn Try.prog 52 [.agg [I y.bot.lo, I y.bot.hi], U (partZ x.bed r)] h (I pb) h) ∧ IntKind.i64.wrap (24 * pb) = 24 * pb ∧ dF f p k = D0 ∧ (∀ m, m ≤ f.r.ss.length → (topF x p k (24 * pb) f.r.ss m).natAbs ≤ 10000000) ∧
    ∀ T N1 N2, T = topF x p k (24 * pb) f.r.ss f.r.ss.length → N1 = max 0 (24 * v.hi - T) → N2 = max 0 (24 * v.lo - T) →
      (IntKind.i64.wrap (24 * B0.lo) = 24 * B0.lo ∧ IntKind.i64.wrap (24 * B0.hi) = 24 * B0.hi ∧ IntKind.i64.wrap (24 * D0.lo) = 24 * D0.lo ∧ IntKind.i64.wrap (24 * D0.hi) = 24 * D0.hi ∧ IntKind.i64.wrap (24 * v.hi) = 24 * v.hi ∧ IntKind.i64.wrap (24 * v.lo) = 24 * v.lo ∧ IntKind.i64.wrap (24 * v.hi - T) = 24 * v.hi - T ∧ IntKind.i64.wrap (24 * v.lo - T) = 24 * v.lo - T) ∧
      decide (T < 24 * B0.lo) = false ∧ decide (24 * B0.hi < T) = false ∧ decide (N1 < 24 * D0.lo) = false ∧ decide (24 * D0.hi < 24 * v.lo - T) = false ∧ decide (D0.hi < D0.lo) = false ∧ 24 * D0.lo ≤ N1 ∧ N2 ≤ 24 * D0.hi ∧ 0 ≤ N1 ∧ 0 ≤ N2 := by
  have hm := g.hmax
  have hq := (List.getElem?_eq_some_iff.1 ha.hx).1
  have heq := g.eq
  have hvy := validR_parts ((List.all_eq_true.1 g.rv) y (List.mem_of_getElem? ha.hx))
  have hbot := vB_iff.1 hvy.2.2.2.2.2.2
  have hin := trF_in g t r (k : Int)
  have hlt2 := lvl_truth (y := y) (b := rf f.r f.sides r k) (n := trF f x r k) hvy.2.2.2.1 hin.1 hin.2
  have hlb2 := lvl_in (r := y) (b := ⟨trF f x r k, trF f x r k⟩) hvy.2.2.2.1 hvy.2.2.2.2.1
  have cB := fun f1 h => Bed_fn (r := f.r) (f1 := f1) (p := p) (k := (k : Int)) (h := h) g.small.r (rv_of_start he) o.len o.sh hp0 ha (by omega)
  simp only [show inB (-400) 400 (k : Int) = true from inB_iff.2 (by omega), if_true] at cB
  have hDb := dpt_in (l := lvl y (rf f.r f.sides r k)) (b := bedF p k y.bot f.r.ss) (lvl_in hvy.2.2.2.1 hvy.2.2.2.2.1) (bedF_in (by omega) (by omega) (by omega) o.sh)
  have hBb := fun m => bedF_in (p := p) (hour := (k : Int)) (b := y.bot) (ss := f.r.ss.take m) (by omega) (by omega) (by omega) (fun s hs => o.sh s (List.mem_of_mem_take hs))
  have hzb := partZ_in (i := r) t.bed
  have hkb := pick_in hbot.1 hzb.1 hzb.2
  have hTop := topF_in (x := x) (p := p) (h := (k : Int)) (t := 24 * pickZ y.bot (partZ x.bed r)) (b := y.bot) (by omega) t (ss := f.r.ss) o.sh
  refine ⟨trF f x r k, pickZ y.bot (partZ x.bed r), lvl y ⟨trF f x r k, trF f x r k⟩, dpt (lvl y (rf f.r f.sides r k)) (bedF p k y.bot f.r.ss), bedF p k y.bot f.r.ss, fun h => truly_fn (x := x) (h := h) g t (by omega) hk, fun h => levT_fn (q := r) (k := (k : Int)) (h := h) g t he ha.hx,
    fun f1 f2 h => Depth_fn (f := f) (f1 := f1) (f2 := f2) (p := p) (k := k) (h := h) g o he hp0 ha hk, cB, fun h => pick2_fn (b := y.bot) (y := partZ x.bed r) (h := h) (by omega) (by omega) hzb.1 hzb.2, wrap_in (by omega) (by omega), dF_eq (k := (k : Int)) o ha, fun m hmm => ?_, fun T N1 N2 hT h1 h2 => ?_⟩
  · have h1 := hTop m hmm
    have h2 := hBb m
    omega
  · have h1' := hTop f.r.ss.length (Nat.le_refl _)
    have h2' := hBb f.r.ss.length
    rw [List.take_length] at h1' h2'
    rw [← hT] at h1'
    exact rt_end hlt2.1 hlt2.2.1 hlt2.2.2.1 hlb2 h1' h2' hDb rfl h1 h2
/-- One shoal. -/
theorem rt_shoal {x : Tr} {p : Int} {k m : Nat} {t0 : Int} {ss : List Sh} {s : Sh} (t : OkTr x) (hk : k ≤ 400) (hs : ss[m]? = some s) (ok : OkSh s) : ∃ P G Q : Int,
    (∀ h, Fn Try.prog 52 [.agg [I s.bed.lo, I s.bed.hi], U (partZ x.bed m)] h (I P) h) ∧ (∀ h, Fn Try.prog 52 [.agg [I s.grow.lo, I s.grow.hi], U (partZ x.grow m)] h (I G) h) ∧
    IntKind.i64.wrap ((k : Int) - s.snd) = (k : Int) - s.snd ∧ IntKind.i64.wrap (24 * P) = 24 * P ∧ IntKind.i64.wrap (G * max 0 ((k : Int) - s.snd)) = Q ∧ IntKind.i64.wrap (24 * P + Q) = 24 * P + Q ∧
    (s.place = p → topF x p k t0 ss (m + 1) = max (topF x p k t0 ss m) (24 * P + Q)) ∧ (s.place ≠ p → topF x p k t0 ss (m + 1) = topF x p k t0 ss m) := by
  obtain ⟨s1, s2, s3, s4, s5, s6, s7, s8⟩ := ok
  have z1 := partZ_in (i := m) t.bed
  have z2 := partZ_in (i := m) t.grow
  have k1 := pick_in s2 z1.1 z1.2
  have k2 := pick_in s7 z2.1 z2.2
  have hgd := gd_in (g := pickZ s.grow (partZ x.grow m)) (d := max 0 ((k : Int) - s.snd)) (by omega) (by omega)
  have e : topF x p k t0 ss (m + 1) = topS x p k m (topF x p k t0 ss m) s := by rw [topF, hs]
  refine ⟨pickZ s.bed (partZ x.bed m), pickZ s.grow (partZ x.grow m), pickZ s.grow (partZ x.grow m) * max 0 ((k : Int) - s.snd), fun h => pick2_fn (b := s.bed) (y := partZ x.bed m) (h := h) (by omega) (by omega) z1.1 z1.2, fun h => pick2_fn (b := s.grow) (y := partZ x.grow m) (h := h) (by omega) (by omega) z2.1 z2.2, wrap_in (by omega) (by omega), wrap_in (by omega) (by omega), ?_, ?_, fun h => ?_, fun h => ?_⟩
  · generalize pickZ s.grow (partZ x.grow m) * max 0 ((k : Int) - s.snd) = q at *
    exact wrap_in (by omega) (by omega)
  · generalize pickZ s.grow (partZ x.grow m) * max 0 ((k : Int) - s.snd) = q at *
    exact wrap_in (by omega) (by omega)
  · rw [e, topS, if_pos h]
  · rw [e, topS, if_neg h]
end Go.Pe
