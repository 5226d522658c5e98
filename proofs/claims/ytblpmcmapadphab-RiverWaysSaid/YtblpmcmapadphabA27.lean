import Derived.Test.YtblpmcmapadphabA23
import Derived.Test.YtblpmcmapadphabA26
import Derived.Test.YtblpmcmapadphabA25
set_option linter.unusedVariables false
set_option linter.unusedSimpArgs false
/- Arguments of the laws RiverShallow, RiverCloses, RiverTruths, RiverEnds, RiverNarrows and RiverKeeps, opened. -/
namespace Go.Pe
open Go Go.Proofs Go.Proofs.Ytblpmcmapadphab
set_option maxRecDepth 100000
/-- A closure of a part of the river. -/
structure Cz where
  from' : Int
  to' : Int
  beg : Bd
  fin : Bd
noncomputable def fC (c : Cz) : List AV := [I c.from', I c.to', I c.beg.lo, I c.beg.hi, I c.fin.lo, I c.fin.hi]
theorem fC_eq {c : Cz} : fC c = [I c.from', I c.to', I c.beg.lo, I c.beg.hi, I c.fin.lo, I c.fin.hi] := rfl
theorem open_ps {n : Nat} {xs : List AV} (h : TyC Try.prog (n + 3) 41 xs) : ∃ p : Ps, xs = fPs p := by
  obtain ⟨a, r1, rfl, _, h1, b, r2, rfl, _, h2, rfl⟩ := TyC_at ti77 h
  obtain ⟨a, rfl⟩ := open_i64 h1
  obtain ⟨b, rfl⟩ := open_bd h2
  exact ⟨⟨a, b⟩, rfl⟩
theorem open_way {n : Nat} {xs : List AV} (h : TyC Try.prog (n + 4) 29 xs) : ∃ l : List Ps, xs = [.ro false 3 (l.map fPs)] := by
  obtain ⟨rows, rfl, h1, h2⟩ := TyC_at ti75 h
  obtain ⟨l, rfl, _⟩ := rows_map fPs (fun _ => True) (rows := rows) (fun r hr => (open_ps (h2 r hr).2).imp fun _ h => ⟨h, trivial⟩)
  exact ⟨l, by rw [show Try.prog.cellsOf 41 = 3 by kernel_rfl]⟩
noncomputable abbrev W16 (n : Int) : AV := .val (.int .u16 n)
theorem sh_args {ys : List AV} (h : TyVs Try.prog 20 [28, 29] ys) : ∃ (f : Fc) (way : List Ps), ys = [.agg [f.r.reaches false, f.r.shoals, sidesAV f.sides false], .ro false 3 (way.map fPs)] := by
  obtain ⟨y1, z1, rfl, v1, y2, z2, rfl, v2, rfl⟩ := h
  obtain ⟨f, hf⟩ := fc_args (ys := [y1]) ⟨y1, [], rfl, v1, rfl⟩
  have v2 := TyV_one (by kernel_rfl) v2
  obtain ⟨way, hw⟩ := open_way v2
  simp only [List.cons.injEq, and_true] at hf hw
  exact ⟨f, way, by rw [hf, hw]⟩
end Go.Pe

/- Truths of a forecast: what truly flows, and how it lies in the bounds. -/
namespace Go.Pe
open Go Go.Proofs Go.Proofs.Ytblpmcmapadphab
set_option maxRecDepth 20000
set_option maxHeartbeats 8000000

theorem in_fn {b : Bd} {n : Int} {h : H} : Fn Try.prog 9 [.agg [I b.lo, I b.hi], I n] h (B (inB b.lo b.hi n)) h := by
  refine Fn.beside ?_ rfl h
  refine Fn.ofR0 noM (by kernel_rfl) Try.func9 rfl (by simp) ?_
  simp -dsimp -implicitDefEqProofs
  refine ifD_in (fun h2 => ?_) (fun h2 => ?_)
  · simp -dsimp -implicitDefEqProofs [inB, decide_eq_true h2]
  · simp -dsimp -implicitDefEqProofs [inB, decide_eq_false h2]
/-- What is said of a truth's bytes. -/
structure OkTr (x : Tr) : Prop where
  base : ∀ n ∈ x.base, 0 ≤ n ∧ n ≤ 255
  side : ∀ n ∈ x.side, 0 ≤ n ∧ n ≤ 255
  bed : ∀ n ∈ x.bed, 0 ≤ n ∧ n ≤ 255
  grow : ∀ n ∈ x.grow, 0 ≤ n ∧ n ≤ 255
/-- What truly flows. -/
def trB (f : Fc) (x : Tr) (q : Nat) : Int := pickZ (baseOf f.r q) (partZ x.base q)
def trS (f : Fc) (x : Tr) (q : Nat) (h : Int) : Int := pickZ (sideAt f.sides q h) (partZ x.side (7 * q + h.toNat))
def trF (f : Fc) (x : Tr) : Nat → Int → Int
  | 0, h => if h < 0 then trB f x 0 else trS f x 0 h
  | q + 1, h => if h < 0 then trB f x (q + 1) else trS f x (q + 1) h + trF f x q (h - delayOf f.r q)
theorem trF_neg {f : Fc} {x : Tr} {q : Nat} {h : Int} (hh : h < 0) : trF f x q h = trB f x q := by cases q <;> simp [trF, hh]
theorem trF_zero {f : Fc} {x : Tr} {h : Int} (hh : ¬ h < 0) : trF f x 0 h = trS f x 0 h := by simp [trF, hh]
theorem trF_succ {f : Fc} {x : Tr} {q : Nat} {h : Int} (hh : ¬ h < 0) : trF f x (q + 1) h = trS f x (q + 1) h + trF f x q (h - delayOf f.r q) := by simp [trF, hh]
theorem trF_in {f : Fc} {x : Tr} (g : GoodF f) (t : OkTr x) : ∀ (q : Nat) (h : Int), (rf f.r f.sides q h).lo ≤ trF f x q h ∧ trF f x q h ≤ (rf f.r f.sides q h).hi
  | q, h => by
    by_cases hh : h < 0
    · rw [rf_neg hh, trF_neg hh]
      have hb := baseOf_ok g (i := q)
      have hp := partZ_in (i := q) t.base
      exact pick_in hb.2.1 hp.1 hp.2
    · cases q with
      | zero =>
        rw [rf_zero hh, trF_zero hh]
        have hb := sideAt_ok g (i := 0) (h := h)
        have hp := partZ_in (i := 7 * 0 + h.toNat) t.side
        exact pick_in hb.2.1 hp.1 hp.2
      | succ q =>
        rw [rf_succ hh, trF_succ hh]
        have ih := trF_in g t q (h - delayOf f.r q)
        have hb := sideAt_ok g (i := q + 1) (h := h)
        have hp := partZ_in (i := 7 * (q + 1) + h.toNat) t.side
        have hk := pick_in hb.2.1 hp.1 hp.2
        rw [trS]
        simp only
        omega
theorem trF_bd {f : Fc} {x : Tr} (g : GoodF f) (t : OkTr x) (q : Nat) (h : Int) : 0 ≤ trF f x q h ∧ trF f x q h ≤ (q + 1) * 10000000000 := by
  have h1 := trF_in g t q h
  have h2 := rf_ok g q h
  omega
end Go.Pe

/- The law RiverWays: what lies in memory that is written cell by cell; the arguments. -/
namespace Go.Pe
open Go Go.Proofs Go.Proofs.Ytblpmcmapadphab
set_option maxRecDepth 20000
section
variable {α : Type} {f : α → List AV} {k i j : Nat} {l : List α} {x y : α}
theorem get_rws (hf : ∀ a, (f a).length = k) (hx : l[i]? = some x) (hj : j < k) : (rws f l)[i * k + j]? = (f x)[j]? := by
  obtain ⟨h1, h2⟩ := rws_split hf hx
  rw [h1, List.append_assoc, List.getElem?_append_right (by omega), h2, List.getElem?_append_left (by rw [hf]; omega)]
  congr 1; omega
theorem cell_rws (hf : ∀ a, (f a).length = k) (hx : l[i]? = some x) (hj : j < k) {v : AV} (hv : (f x)[j]? = some v) : ((rws f l).drop (i * k + j)).take 1 = [v] ∧ i * k + j + 1 ≤ (rws f l).length := by
  have h := get_rws hf hx hj
  rw [hv] at h
  obtain ⟨h1, h2⟩ := List.getElem?_eq_some_iff.1 h
  refine ⟨?_, h1⟩
  rw [List.drop_eq_getElem_cons h1, h2]; rfl
theorem set_cell (hf : ∀ a, (f a).length = k) (hx : l[i]? = some x) (hj : j < k) {v : AV} (hy : (f x).set j v = f y) : (rws f l).set (i * k + j) v = rws f (l.set i y) := by
  have hi := (List.getElem?_eq_some_iff.1 hx).1
  obtain ⟨h1, h2⟩ := rws_split hf hx
  have hx' : (l.set i y)[i]? = some y := by rw [List.getElem?_set_self hi]
  obtain ⟨h3, h4⟩ := rws_split hf hx'
  have e1 : (l.set i y).take i = l.take i := by rw [List.take_set_of_le (Nat.le_refl i)]
  have e2 : (l.set i y).drop (i + 1) = l.drop (i + 1) := by rw [List.drop_set_of_lt (by omega)]
  rw [e1, e2] at h3
  rw [h1, h3, List.append_assoc, List.append_assoc, List.set_append_right _ _ (by omega), h2, show i * k + j - i * k = j by omega, List.set_append_left _ _ (by rw [hf]; exact hj), hy]
theorem on_cell {T : TI} {h : H} {b o : Nat} {v : AV} {cs cs' : List AV} {K : AV × H → Prop} {t : Tag K} (hb : h.get b = some cs) (hv : cellsOf v = some [v]) (hT : T.size = 1) (ho : o + 1 ≤ cs.length) (hs : cs.set o v = cs') (hK : K (.val undef, h.set b cs')) : onSome (storeA T h (.ptr b o) v) K t := by
  have : storeA T h (.ptr b o) v = some (.val undef, h.set b cs') := by
    refine storeA_at hb hv (by rw [hT]; rfl) (by rw [hT]; exact ho) ?_
    rw [← hs, List.set_eq_take_append_cons_drop, if_pos (by omega)]
    simp
  rw [this]; exact hK
end
theorem fPs_len (p : Ps) : (fPs p).length = 3 := rfl
/-- The way, when so many of its passes have more hours. -/
def moreL (n c d : Int) (way : List Ps) (m : Nat) : List Ps := (way.take m).map (wider n c d) ++ way.drop m
theorem moreL_zero {n c d : Int} {way : List Ps} : moreL n c d way 0 = way := by simp [moreL]
theorem moreL_all {n c d : Int} {way : List Ps} : moreL n c d way way.length = way.map (wider n c d) := by simp [moreL]
theorem moreL_at {n c d : Int} {way : List Ps} {m : Nat} {p : Ps} (hp : way[m]? = some p) : (moreL n c d way m)[m]? = some p := by
  have hm := (List.getElem?_eq_some_iff.1 hp).1
  rw [moreL, List.getElem?_append_right (by simp; omega), List.getElem?_drop]
  rw [show m + (m - ((way.take m).map (wider n c d)).length) = m by simp; omega]
  exact hp
theorem moreL_set {n c d : Int} {way : List Ps} {m : Nat} {p : Ps} (hp : way[m]? = some p) : (moreL n c d way m).set m (wider n c d p) = moreL n c d way (m + 1) := by
  have hm := (List.getElem?_eq_some_iff.1 hp).1
  have hl : ((way.take m).map (wider n c d)).length = m := by simp; omega
  rw [moreL, List.set_append_right _ _ (by omega), hl, Nat.sub_self, List.drop_eq_getElem_cons hm, List.set_cons_zero, moreL, List.take_add_one, hp]
  simp
theorem moreL_len {n c d : Int} {way : List Ps} {m : Nat} (hm : m ≤ way.length) : (moreL n c d way m).length = way.length := by simp [moreL]; omega
/-- The arguments. -/
theorem open_b8 {n : Nat} {xs : List AV} (h : TyC Try.prog (n + 1) 5 xs) : ∃ m, xs = [U m] ∧ 0 ≤ m ∧ m ≤ 255 := by
  obtain ⟨m, e, h1, h2⟩ := TyC_at ti5 h
  exact ⟨m, e, by simpa [IntKind.min, IntKind.signed] using h1, by simpa [IntKind.max, IntKind.signed, IntKind.bits] using h2⟩
theorem wa_args {ys : List AV} (h : TyVs Try.prog 20 [28, 29, 5] ys) : ∃ (f : Fc) (way : List Ps) (c : Int), ys = [f.av, .ro false 3 (way.map fPs), U c] ∧ 0 ≤ c ∧ c ≤ 255 := by
  obtain ⟨y1, z1, rfl, v1, y2, z2, rfl, v2, y3, z3, rfl, v3, rfl⟩ := h
  obtain ⟨f, hf⟩ := fc_args (ys := [y1]) ⟨y1, [], rfl, v1, rfl⟩
  have v2 := TyV_one (by kernel_rfl) v2
  have v3 := TyV_one (by kernel_rfl) v3
  obtain ⟨way, hw⟩ := open_way v2
  obtain ⟨c, hc, c1, c2⟩ := open_b8 v3
  simp only [List.cons.injEq, and_true] at hf hw hc
  exact ⟨f, way, c, by rw [hf, hw, hc], c1, c2⟩
end Go.Pe

/- The arithmetic of the law RiverTruths. -/
namespace Go.Pe
open Go Go.Proofs Go.Proofs.Ytblpmcmapadphab
set_option maxRecDepth 20000

theorem cv_ge {f : Int} {up : Bool} : ∀ {l : List Rw} {w : Rw}, srt (w :: l) → w.level ≤ cv f up (w :: l)
  | [], w, _ => Int.le_refl _
  | v :: l, w, hs => by
    obtain ⟨⟨h1, h2⟩, hs'⟩ := hs
    have ih := cv_ge (f := f) (up := up) hs'
    rw [cv]
    split
    · omega
    · split
      · have := pc_in (w := w) (v := v) (f := f) (up := up) (by omega) (by omega) h1 h2
        omega
      · omega
theorem part_mono {w v : Rw} {f f' : Int} {up : Bool} (h : f ≤ f') (h1 : w.flow < v.flow) (h2 : w.level ≤ v.level) : part w v f up ≤ part w v f' up := by
  have hc : 0 < v.flow - w.flow := by omega
  have hr : rise w v f ≤ rise w v f' := Int.mul_le_mul_of_nonneg_right (by omega) (by omega)
  unfold part
  cases up with
  | false => simp only [Bool.false_eq_true, if_false]; exact Int.ediv_le_ediv hc hr
  | true =>
    simp only [if_true]
    have := Int.ediv_le_ediv (a := -rise w v f') (b := -rise w v f) hc (by omega)
    omega
theorem cv_mono {f f' : Int} {up : Bool} (h : f ≤ f') : ∀ {l : List Rw}, srt l → cv f up l ≤ cv f' up l
  | [], _ => Int.le_refl _
  | [w], _ => Int.le_refl _
  | w :: v :: l, hs => by
    have hge := cv_ge (f := f') (up := up) hs
    obtain ⟨⟨h1, h2⟩, hs'⟩ := hs
    have ih := cv_mono (up := up) h hs'
    have hge' := cv_ge (f := f') (up := up) hs'
    by_cases a : f ≤ w.flow
    · have e : cv f up (w :: v :: l) = w.level := by rw [cv, if_pos a]
      omega
    · by_cases b : f < v.flow
      · have e : cv f up (w :: v :: l) = w.level + part w v f up := by rw [cv, if_neg a, if_pos b]
        have hp := pc_in (w := w) (v := v) (f := f) (up := up) (by omega) (by omega) h1 h2
        by_cases c : f' < v.flow
        · have e' : cv f' up (w :: v :: l) = w.level + part w v f' up := by rw [cv, if_neg (by omega), if_pos c]
          have := part_mono (up := up) h h1 h2
          omega
        · have e' : cv f' up (w :: v :: l) = cv f' up (v :: l) := by rw [cv, if_neg (by omega), if_neg c]
          omega
      · have e : cv f up (w :: v :: l) = cv f up (v :: l) := by rw [cv, if_neg a, if_neg b]
        have e' : cv f' up (w :: v :: l) = cv f' up (v :: l) := by rw [cv, if_neg (by omega), if_neg (by omega)]
        omega
theorem ceil_gap {a c : Int} (hc : 0 < c) : a / c ≤ -(-a / c) ∧ -(-a / c) ≤ a / c + 1 := by
  have h1 : a / c * c ≤ a := Int.ediv_mul_le a (by omega)
  have h2 : a < (a / c + 1) * c := Int.lt_ediv_add_one_mul_self a hc
  have h3 : -a / c ≤ -(a / c) := Int.ediv_le_of_le_mul hc (by rw [Int.neg_mul]; omega)
  have h4 : -(a / c + 1) ≤ -a / c := (Int.le_ediv_iff_mul_le hc).2 (by rw [Int.neg_mul]; omega)
  omega
theorem cv_gap {f : Int} : ∀ {l : List Rw}, srt l → cv f false l ≤ cv f true l ∧ cv f true l ≤ cv f false l + 1
  | [], _ => by simp [cv]
  | [w], _ => by simp only [cv]; omega
  | w :: v :: l, hs => by
    obtain ⟨⟨h1, h2⟩, hs'⟩ := hs
    have ih := cv_gap (f := f) hs'
    by_cases a : f ≤ w.flow
    · have e : ∀ up, cv f up (w :: v :: l) = w.level := fun up => by rw [cv, if_pos a]
      rw [e, e]; omega
    · by_cases b : f < v.flow
      · have e : ∀ up, cv f up (w :: v :: l) = w.level + part w v f up := fun up => by rw [cv, if_neg a, if_pos b]
        have := ceil_gap (a := rise w v f) (c := v.flow - w.flow) (by omega)
        rw [e, e]
        simp only [part, if_true, Bool.false_eq_true, if_false]
        omega
      · have e : ∀ up, cv f up (w :: v :: l) = cv f up (v :: l) := fun up => by rw [cv, if_neg a, if_neg b]
        rw [e, e]; exact ih
/-- The level of a true flow. -/
theorem lvl_truth {y : Rc} {b : Bd} {n : Int} (hv : validCv y.curve = true) (h1 : b.lo ≤ n) (h2 : n ≤ b.hi) :
    (lvl y b).lo ≤ (lvl y ⟨n, n⟩).lo ∧ (lvl y ⟨n, n⟩).hi ≤ (lvl y b).hi ∧ (lvl y ⟨n, n⟩).lo ≤ (lvl y ⟨n, n⟩).hi ∧ (lvl y ⟨n, n⟩).hi ≤ (lvl y ⟨n, n⟩).lo + 1 ∧ y.weir ≤ (lvl y ⟨n, n⟩).lo := by
  have hs := (valid_srt hv).1
  have m1 := cv_mono (up := false) h1 hs
  have m2 := cv_mono (up := true) h2 hs
  have m3 := cv_gap (f := n) hs
  simp only [lvl]
  omega
/-- The true top of the bed, in parts of a centimeter. -/
def topS (x : Tr) (p h : Int) (j : Nat) (t : Int) (s : Sh) : Int := if s.place = p then max t (24 * pickZ s.bed (partZ x.bed j) + pickZ s.grow (partZ x.grow j) * max 0 (h - s.snd)) else t
def topF (x : Tr) (p h t : Int) (ss : List Sh) : Nat → Int
  | 0 => t
  | j + 1 => match ss[j]? with
    | some s => topS x p h j (topF x p h t ss j) s
    | none => topF x p h t ss j
theorem topF_in {x : Tr} {p h t : Int} {b : Bd} (ht : 24 * b.lo ≤ t ∧ t ≤ 24 * b.hi) (o : OkTr x) {ss : List Sh} (hs : ∀ s ∈ ss, OkSh s) : ∀ j, j ≤ ss.length → 24 * (bedF p h b (ss.take j)).lo ≤ topF x p h t ss j ∧ topF x p h t ss j ≤ 24 * (bedF p h b (ss.take j)).hi
  | 0, _ => by simpa [bedF, topF] using ht
  | j + 1, hj => by
    have ih := topF_in (p := p) (h := h) ht o hs j (by omega)
    obtain ⟨s, hx⟩ : ∃ s, ss[j]? = some s := ⟨_, List.getElem?_eq_getElem (by omega)⟩
    have hst : ss.take (j + 1) = ss.take j ++ [s] := by rw [List.take_add_one, hx]; rfl
    rw [hst, bedF_snoc, topF, hx]
    simp only
    generalize bedF p h b (ss.take j) = B at *
    generalize topF x p h t ss j = T at *
    obtain ⟨c1, c2, c3, c4, c5, c6, c7, c8⟩ := hs s (List.mem_of_getElem? hx)
    have z1 := partZ_in (i := j) o.bed
    have z2 := partZ_in (i := j) o.grow
    have k1 := pick_in c2 z1.1 z1.2
    have k2 := pick_in c7 z2.1 z2.2
    unfold bedS topS
    by_cases hp : s.place = p
    · rw [if_pos hp, if_pos hp, grw]
      simp only
      generalize pickZ s.bed (partZ x.bed j) = P at *
      generalize pickZ s.grow (partZ x.grow j) = G at *
      have hd : 0 ≤ max 0 (h - s.snd) := by omega
      generalize max 0 (h - s.snd) = d at *
      have m1 : s.grow.lo * d ≤ G * d := Int.mul_le_mul_of_nonneg_right k2.1 hd
      have m2 : G * d ≤ s.grow.hi * d := Int.mul_le_mul_of_nonneg_right k2.2 hd
      generalize s.grow.lo * d = p1 at *
      generalize s.grow.hi * d = p2 at *
      generalize G * d = p3 at *
      omega
    · rw [if_neg hp, if_neg hp]; exact ih
/-- At no hour is the depth less than the least of all, nor more than the greatest. -/
theorem dsF_at {d : Int → Bd} {lo : Int} : ∀ {n k : Nat}, k ≤ n → (dsF d lo n).1.lo ≤ (d (lo + k)).lo ∧ (d (lo + k)).hi ≤ (dsF d lo n).1.hi
  | 0, k, h => by
    obtain rfl : k = 0 := by omega
    rw [show lo + ((0 : Nat) : Int) = lo by omega]
    exact ⟨Int.le_refl _, Int.le_refl _⟩
  | n + 1, k, h => by
    by_cases hk : k = n + 1
    · subst hk
      rw [show lo + ((n + 1 : Nat) : Int) = lo + ((n : Int) + 1) by omega]
      simp only [dsF]
      generalize d (lo + ((n : Int) + 1)) = x
      split <;> omega
    · have ih := dsF_at (d := d) (lo := lo) (n := n) (k := k) (by omega)
      simp only [dsF]
      generalize d (lo + ((n : Int) + 1)) = x
      split <;> omega
theorem shF_step {D : Nat → Bd × Int} {i : Nat} : (shF D (i + 1)).lo ≤ (D i).1.lo ∧ (shF D (i + 1)).lo ≤ (shF D i).lo ∧ ((shF D (i + 1)).hi = (D i).1.hi ∨ (shF D (i + 1)).hi = (shF D i).hi) := by
  simp only [shF, shS]
  refine ⟨?_, ?_, ?_⟩
  · split <;> omega
  · split <;> omega
  · split
    · exact .inl rfl
    · exact .inr rfl
theorem shF_in {D : Nat → Bd × Int} : ∀ {i : Nat}, (∀ k, k < i → (0 ≤ (D k).1.lo ∧ (D k).1.lo ≤ 200000) ∧ 0 ≤ (D k).1.hi ∧ (D k).1.hi ≤ 200000) → (0 ≤ (shF D i).lo ∧ (shF D i).lo ≤ 1000000) ∧ 0 ≤ (shF D i).hi ∧ (shF D i).hi ≤ 1000000
  | 0, _ => by simp [shF]
  | i + 1, h => by
    have ih := shF_in (D := D) (i := i) fun k hk => h k (by omega)
    have := h i (by omega)
    simp only [shF, shS]
    refine ⟨?_, ?_⟩ <;> split <;> omega
end Go.Pe
