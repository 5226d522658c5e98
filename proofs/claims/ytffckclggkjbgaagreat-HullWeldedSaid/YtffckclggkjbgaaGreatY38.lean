import Derived.Test.YtffckclggkjbgaaGreatY37
set_option linter.unusedVariables false
set_option linter.unusedSimpArgs false
/- Places: the reach of a place; how high a shoal has grown. -/
namespace Go.Pe
open Go Go.Proofs Go.Proofs.YtffckclggkjbgaaGreat
attribute [local simp] t3 u3 t4 u4 t5 u5 t22 u22 t23 u23 t25 u25 t27 u27 t28 u28 t30 u30 t32 u32   t37 u37 t43 u43     t50 u50   t75 u75 t77 u77     t94 u94   t102 u102 t117 u117 t119 u119     t130 u130 t134 u134 t138 u138   t155 u155 t156 u156   t172 u172
set_option maxRecDepth 20000
set_option maxHeartbeats 8000000
attribute [local simp] fW_eq fR_eq fS_eq extA fBd_eq fL_eq

/-- No place. -/
noncomputable def noSpot : List AV := [I 0, I 0, I 0, I 0, .val (.slice none 0 0), I 0, I 0, I 0, I 0, I 0, I 0]
theorem find_neg {r : Rv} {fu : Bool} {p : Int} {h : H} (hp : p < 0) : Fn Tryz.prog 122 [r.av fu, I p] h (.tup [.agg noSpot, I 7]) h := by
  refine Fn.beside ?_ rfl h
  refine Fn.ofR0 noM (by kernel_rfl) Tryz.func122 rfl (by simp) ?_
  have d : decide (p < 0) = true := decide_eq_true hp
  simp -dsimp -implicitDefEqProofs [d, noSpot]
theorem lenSum_take {l : List Rc} {i : Nat} {x : Rc} (hx : l[i]? = some x) : lenSum (l.take (i + 1)) = lenSum (l.take i) + x.len := by rw [List.take_add_one, hx, Option.toList_some, lenSum_snoc]
/-- The reach in which a place lies. -/
structure At (rs : List Rc) (p : Int) (i : Nat) (x : Rc) : Prop where
  hx : rs[i]? = some x
  lo : lenSum (rs.take i) ≤ p
  hi : p < lenSum (rs.take (i + 1))
theorem find_miss {r : Rv} {fu : Bool} {p : Int} {h : H} (hp : 0 ≤ p) (hl : ∀ x ∈ r.rs, 0 ≤ x.len ∧ x.len ≤ 5000) (hn : r.rs.length ≤ 25) (hm : ∀ i, i ≤ r.rs.length → lenSum (r.rs.take i) ≤ p) : Fn Tryz.prog 122 [r.av fu, I p] h (.tup [.agg noSpot, I 7]) h := by
  refine Fn.beside ?_ rfl h
  refine Fn.ofR0 noM (by kernel_rfl) Tryz.func122 rfl (by simp) ?_
  have d : decide (p < 0) = false := decide_eq_false (by omega)
  have hb : ∀ x ∈ r.rs, x.len.natAbs ≤ 5000 := fun x hx => by have := hl x hx; omega
  simp -dsimp -implicitDefEqProofs [d]
  refine LoopCR.on 33 (fun i => [(1, I p), (2, .ptr 0 0), (4, .ptr 1 0), (5, I 0), (6, I (lenSum (r.rs.take i))), (13, r.reaches fu), (14, I r.rs.length), (15, I (i : Nat))]) (fun i => [some [r.reaches fu, r.shoals], some noSpot]) (fun i => i ≤ r.rs.length) (fun i => r.rs.length - i) 0 [0, 1] (by simp) ?_ ?_
  · simp -dsimp -implicitDefEqProofs [lenSum, noSpot]
  intro i j hi
  simp -dsimp -implicitDefEqProofs
  refine ifD_in (fun hlt => ?_) (fun hge => ?_)
  · have hlt' : i < r.rs.length := by omega
    obtain ⟨x, hx⟩ : ∃ x, r.rs[i]? = some x := ⟨_, List.getElem?_eq_getElem hlt'⟩
    have h1 := lenSum_in hb i (by omega)
    have h2 := hb x (List.mem_of_getElem? hx)
    have h3 := lenSum_take hx
    have w1 := wrap_in (n := lenSum (r.rs.take i) + x.len) (by omega) (by omega)
    have d2 : decide (p < lenSum (r.rs.take i) + x.len) = false := decide_eq_false (by have := hm (i + 1) (by omega); omega)
    simp -dsimp -implicitDefEqProofs [hx, w1, d2]
    refine again_in (i + 1) [0, 1] (by omega) (by omega) ?_
    simp -dsimp -implicitDefEqProofs [h3, noSpot]
    rw [wrap_in (by omega) (by omega)]
  · simp -dsimp -implicitDefEqProofs [noSpot]
theorem find_hit {r : Rv} {fu : Bool} {p : Int} {h : H} {q : Nat} {y : Rc} (hp : 0 ≤ p) (hl : ∀ x ∈ r.rs, 0 ≤ x.len ∧ x.len ≤ 5000) (hn : r.rs.length ≤ 25) (ha : At r.rs p q y) : Fn Tryz.prog 122 [r.av fu, I p] h (.tup [.agg (fR y ++ [I q, I p]), I 0]) h := by
  refine Fn.beside ?_ rfl h
  refine Fn.ofR0 noM (by kernel_rfl) Tryz.func122 rfl (by simp) ?_
  have d : decide (p < 0) = false := decide_eq_false (by omega)
  have hb : ∀ x ∈ r.rs, x.len.natAbs ≤ 5000 := fun x hx => by have := hl x hx; omega
  have hq := (List.getElem?_eq_some_iff.1 ha.hx).1
  have mono : ∀ k, k ≤ r.rs.length → ∀ i, i ≤ k → lenSum (r.rs.take i) ≤ lenSum (r.rs.take k) := by
    intro k
    induction k with
    | zero => intro _ i hi; rw [show i = 0 by omega]; omega
    | succ k ih =>
      intro hk i hi
      obtain ⟨x, hx⟩ : ∃ x, r.rs[k]? = some x := ⟨_, List.getElem?_eq_getElem (by omega)⟩
      have h3 := lenSum_take hx
      have h4 := hl x (List.mem_of_getElem? hx)
      by_cases hik : i = k + 1
      · rw [hik]; omega
      · have := ih (by omega) i (by omega); omega
  simp -dsimp -implicitDefEqProofs [d]
  refine LoopCR.on 33 (fun i => [(1, I p), (2, .ptr 0 0), (4, .ptr 1 0), (5, I 0), (6, I (lenSum (r.rs.take i))), (13, r.reaches fu), (14, I r.rs.length), (15, I (i : Nat))]) (fun i => [some [r.reaches fu, r.shoals], some noSpot]) (fun i => i ≤ q) (fun i => r.rs.length - i) 0 [0, 1] (by simp) ?_ ?_
  · simp -dsimp -implicitDefEqProofs [lenSum, noSpot]
  intro i j hi
  have hlt' : i < r.rs.length := by omega
  have d0 : decide (i < r.rs.length) = true := decide_eq_true hlt'
  obtain ⟨x, hx⟩ : ∃ x, r.rs[i]? = some x := ⟨_, List.getElem?_eq_getElem hlt'⟩
  have h1 := lenSum_in hb i (by omega)
  have h2 := hb x (List.mem_of_getElem? hx)
  have h3 := lenSum_take hx
  have w1 := wrap_in (n := lenSum (r.rs.take i) + x.len) (by omega) (by omega)
  simp -dsimp -implicitDefEqProofs [d0, hx, w1]
  refine ifD_in (fun hlt => ?_) (fun hge => ?_)
  · have hiq : i = q := by
      have := mono q (by omega) (i + 1)
      have := ha.lo
      omega
    subst hiq
    have hxy : x = y := by have := ha.hx; rw [hx] at this; exact Option.some.inj this
    subst hxy
    simp -dsimp -implicitDefEqProofs [noSpot]
  · have hiq : i < q := by
      have := ha.hi
      by_cases hc : i = q
      · subst hc; omega
      · omega
    simp -dsimp -implicitDefEqProofs
    refine again_in (i + 1) [0, 1] (by omega) (by omega) ?_
    simp -dsimp -implicitDefEqProofs [h3, noSpot]
    rw [wrap_in (by omega) (by omega)]
end Go.Pe

/- How high a shoal has grown; the reference's bed. -/
namespace Go.Pe
open Go Go.Proofs Go.Proofs.YtffckclggkjbgaaGreat
attribute [local simp] t3 u3 t4 u4 t5 u5 t22 u22 t23 u23 t25 u25 t27 u27 t28 u28 t30 u30 t32 u32   t37 u37 t43 u43     t50 u50   t75 u75 t77 u77     t94 u94   t102 u102 t117 u117 t119 u119     t130 u130 t134 u134 t138 u138   t155 u155 t156 u156   t172 u172
set_option maxRecDepth 20000
set_option maxHeartbeats 8000000
attribute [local simp] fW_eq fR_eq fS_eq extA fBd_eq fL_eq

/-- How high a shoal is in an hour. -/
def grw (s : Sh) (hour : Int) : Bd := ⟨s.bed.lo + s.grow.lo * max 0 (hour - s.snd) / 24, s.bed.hi + -(-(s.grow.hi * max 0 (hour - s.snd)) / 24)⟩
structure OkSh (s : Sh) : Prop where
  lo : 0 ≤ s.bed.lo
  le : s.bed.lo ≤ s.bed.hi
  hi : s.bed.hi ≤ 10000
  s1 : -400 ≤ s.snd
  s2 : s.snd ≤ 400
  g1 : -500 ≤ s.grow.lo
  g2 : s.grow.lo ≤ s.grow.hi
  g3 : s.grow.hi ≤ 500
theorem okSh_of {n : Int} {s : Sh} (h : validSh n s = true) : OkSh s := by
  simp only [validSh, Bool.and_eq_true, inB_iff, vB_iff] at h
  exact ⟨by omega, by omega, by omega, by omega, by omega, by omega, by omega, by omega⟩
theorem gd_in {g d : Int} (hg : -500 ≤ g ∧ g ≤ 500) (hd : 0 ≤ d ∧ d ≤ 2000) : -1000000 ≤ g * d ∧ g * d ≤ 1000000 := by
  have h1 : g * d ≤ 500 * d := Int.mul_le_mul_of_nonneg_right hg.2 hd.1
  have h2 : -500 * d ≤ g * d := Int.mul_le_mul_of_nonneg_right hg.1 hd.1
  omega
theorem grown_fn {s : Sh} {hour : Int} {h : H} (hs : OkSh s) (h1 : -1000 ≤ hour) (h2 : hour ≤ 1000) : Fn Tryz.prog 188 [.agg (fS s), I hour] h (.agg [I (grw s hour).lo, I (grw s hour).hi]) h := by
  refine Fn.beside ?_ rfl h
  refine Fn.ofR0 noM (by kernel_rfl) Tryz.func188 rfl (by simp) ?_
  obtain ⟨c1, c2, c3, c4, c5, c6, c7, c8⟩ := hs
  have w1 : IntKind.i64.wrap (hour - s.snd) = hour - s.snd := wrap_in (by omega) (by omega)
  obtain ⟨d, hd⟩ : ∃ d, d = max 0 (hour - s.snd) := ⟨_, rfl⟩
  have hd1 : 0 ≤ d ∧ d ≤ 2000 := by omega
  have m1 := gd_in (g := s.grow.lo) (d := d) (by omega) hd1
  have m2 := gd_in (g := s.grow.hi) (d := d) (by omega) hd1
  obtain ⟨p, hp⟩ : ∃ p, p = s.grow.lo * d := ⟨_, rfl⟩
  obtain ⟨q, hq⟩ : ∃ q, q = s.grow.hi * d := ⟨_, rfl⟩
  rw [← hp] at m1; rw [← hq] at m2
  have w2 : IntKind.i64.wrap (s.grow.lo * d) = p := by rw [← hp]; exact wrap_in (by omega) (by omega)
  have w3 : IntKind.i64.wrap (s.grow.hi * d) = q := by rw [← hq]; exact wrap_in (by omega) (by omega)
  have w4 : IntKind.i64.wrap (s.bed.lo + p / 24) = s.bed.lo + p / 24 := wrap_in (by omega) (by omega)
  have w5 : IntKind.i64.wrap (s.bed.hi + -(-q / 24)) = s.bed.hi + -(-q / 24) := wrap_in (by omega) (by omega)
  have hg : grw s hour = ⟨s.bed.lo + p / 24, s.bed.hi + -(-q / 24)⟩ := by rw [grw, ← hd, ← hp, ← hq]
  rw [hg]
  simp -dsimp -implicitDefEqProofs [w1, ← hd]
  refine DrawR.on { M := [1], eff := [(21, [1])] } (by kernel_rfl) (by simp) ?_
  simp -dsimp -implicitDefEqProofs [w2]
  refine onCallQ_in ((floor_fn (n := p) (k := 24) (by omega) (by omega) (by omega)).beside rfl _) ?_
  simp -dsimp -implicitDefEqProofs [w3]
  refine onCallQ_in ((ceil_fn (n := q) (k := 24) (by omega) (by omega) (by omega)).beside rfl _) ?_
  simp -dsimp -implicitDefEqProofs [w4, w5]
theorem Of_fn {r : Rv} {fu : Bool} {p : Int} {h : H} {q : Nat} {y : Rc} (hp : 0 ≤ p) (hl : ∀ x ∈ r.rs, 0 ≤ x.len ∧ x.len ≤ 5000) (hn : r.rs.length ≤ 25) (ha : At r.rs p q y) : Fn Tryz.prog 147 [r.av fu, I p] h (I q) h := by
  refine Fn.beside ?_ rfl h
  refine Fn.ofR0 noM (by kernel_rfl) Tryz.func147 rfl (by simp) ?_
  have hb : ∀ x ∈ r.rs, x.len.natAbs ≤ 5000 := fun x hx => by have := hl x hx; omega
  have hq := (List.getElem?_eq_some_iff.1 ha.hx).1
  have hpb : p ≤ 125000 := by
    have h1 := lenSum_in hb (q + 1) (by omega)
    have := ha.hi
    omega
  have mono : ∀ k, k ≤ r.rs.length → ∀ i, i ≤ k → lenSum (r.rs.take i) ≤ lenSum (r.rs.take k) := by
    intro k
    induction k with
    | zero => intro _ i hi; rw [show i = 0 by omega]; omega
    | succ k ih =>
      intro hk i hi
      obtain ⟨x, hx⟩ : ∃ x, r.rs[k]? = some x := ⟨_, List.getElem?_eq_getElem (by omega)⟩
      have h3 := lenSum_take hx
      have h4 := hl x (List.mem_of_getElem? hx)
      by_cases hik : i = k + 1
      · rw [hik]; omega
      · have := ih (by omega) i (by omega); omega
  simp -dsimp -implicitDefEqProofs
  refine LoopCR.on 25 (fun i => [(1, I (p - lenSum (r.rs.take i))), (2, .ptr 0 0), (5, I (i : Nat))]) (fun i => [some [r.reaches fu, r.shoals]]) (fun i => i ≤ q) (fun i => r.rs.length - i) 0 [0] (by simp) ?_ ?_
  · simp -dsimp -implicitDefEqProofs [lenSum]
  intro i j hi
  have hlt' : i < r.rs.length := by omega
  obtain ⟨x, hx⟩ : ∃ x, r.rs[i]? = some x := ⟨_, List.getElem?_eq_getElem hlt'⟩
  have h1 := lenSum_in hb i (by omega)
  have h2 := hb x (List.mem_of_getElem? hx)
  have h3 := lenSum_take hx
  have w1 := wrap_in (n := p - lenSum (r.rs.take i) - x.len) (by omega) (by omega)
  simp -dsimp -implicitDefEqProofs [hx]
  refine ifD_in (fun hge => ?_) (fun hlt => ?_)
  · have hiq : i < q := by
      have := ha.hi
      by_cases hc : i = q
      · subst hc; omega
      · omega
    simp -dsimp -implicitDefEqProofs [hx, w1]
    refine again_in (i + 1) [0] (by omega) (by omega) ?_
    simp -dsimp -implicitDefEqProofs [h3]
    refine ⟨by omega, ?_⟩
    rw [wrap_in (by omega) (by omega)]
  · have hiq : i = q := by
      have := mono q (by omega) (i + 1)
      have := ha.lo
      omega
    subst hiq
    simp -dsimp -implicitDefEqProofs
end Go.Pe

/- The reference's bed. -/
namespace Go.Pe
open Go Go.Proofs Go.Proofs.YtffckclggkjbgaaGreat
attribute [local simp] t3 u3 t4 u4 t5 u5 t22 u22 t23 u23 t25 u25 t27 u27 t28 u28 t30 u30 t32 u32   t37 u37 t43 u43     t50 u50   t75 u75 t77 u77     t94 u94   t102 u102 t117 u117 t119 u119     t130 u130 t134 u134 t138 u138   t155 u155 t156 u156   t172 u172
set_option maxRecDepth 20000
set_option maxHeartbeats 8000000
attribute [local simp] fW_eq fR_eq fS_eq extA fBd_eq fL_eq

theorem tdiv24 (n : Int) : (0 ≤ n → n.tdiv 24 = n / 24) ∧ (n < 0 → n.tdiv 24 = -((-n) / 24)) := by
  refine ⟨fun h => Int.tdiv_eq_ediv_of_nonneg h, fun h => ?_⟩
  rw [show n = -(-n) by omega, Int.neg_tdiv, Int.tdiv_eq_ediv_of_nonneg (by omega)]
  omega
theorem Floor24_fn {n : Int} (hn : n.natAbs ≤ 1000000000000000000) {h : H} : Fn Tryz.prog 174 [I n, I 24] h (I (n / 24)) h := by
  refine Fn.beside ?_ rfl h
  refine Fn.ofR0 noM (by kernel_rfl) Tryz.func174 rfl (by simp) ?_
  obtain ⟨q, hq⟩ : ∃ q, q = n.tdiv 24 := ⟨_, rfl⟩
  have e := tdiv24 n
  rw [← hq] at e
  have w0 := wrap_in (n := q) (by omega) (by omega)
  have w1 := wrap_in (n := q * 24) (by omega) (by omega)
  have w2 := wrap_in (n := q - 1) (by omega) (by omega)
  simp -dsimp -implicitDefEqProofs [← hq, w0, w1]
  refine ifD_in (fun h => ?_) (fun h => ?_) <;> simp -dsimp -implicitDefEqProofs [← hq, w0, w1, w2] <;> omega
theorem Ceil24_fn {n : Int} (hn : n.natAbs ≤ 1000000000000000000) {h : H} : Fn Tryz.prog 108 [I n, I 24] h (I (-((-n) / 24))) h := by
  refine Fn.beside ?_ rfl h
  refine Fn.ofR0 noM (by kernel_rfl) Tryz.func108 rfl (by simp) ?_
  obtain ⟨q, hq⟩ : ∃ q, q = n.tdiv 24 := ⟨_, rfl⟩
  have e := tdiv24 n
  rw [← hq] at e
  have w0 := wrap_in (n := q) (by omega) (by omega)
  have w1 := wrap_in (n := q * 24) (by omega) (by omega)
  have w2 := wrap_in (n := q + 1) (by omega) (by omega)
  simp -dsimp -implicitDefEqProofs [← hq, w0, w1]
  refine ifD_in (fun h => ?_) (fun h => ?_) <;> simp -dsimp -implicitDefEqProofs [← hq, w0, w1, w2] <;> omega

/-- The bed: the highest of the bottom and the shoals at a place. -/
def bedS (p hour : Int) (b : Bd) (s : Sh) : Bd := if s.place = p then ⟨max b.lo (grw s hour).lo, max b.hi (grw s hour).hi⟩ else b
def bedF (p hour : Int) (b : Bd) (ss : List Sh) : Bd := ss.foldl (bedS p hour) b
theorem bedF_snoc {p hour : Int} {b : Bd} {ss : List Sh} {s : Sh} : bedF p hour b (ss ++ [s]) = bedS p hour (bedF p hour b ss) s := by simp [bedF, List.foldl_append]
theorem rBed_fn {r : Rv} {fu : Bool} {p hour : Int} {h : H} {q : Nat} {y : Rc} (hp : 0 ≤ p) (hl : ∀ x ∈ r.rs, 0 ≤ x.len ∧ x.len ≤ 5000) (hn : r.rs.length ≤ 25) (ha : At r.rs p q y) (hs : ∀ s ∈ r.ss, OkSh s) (hm : r.ss.length ≤ 50) (h1 : -1000 ≤ hour) (h2 : hour ≤ 1000) :
    Fn Tryz.prog 150 [r.av fu, I p, I hour] h (.agg [I (bedF p hour y.bot r.ss).lo, I (bedF p hour y.bot r.ss).hi]) h := by
  refine Fn.beside ?_ rfl h
  refine Fn.ofR0 noM (by kernel_rfl) Tryz.func150 rfl (by simp) ?_
  have hy := ha.hx
  simp -dsimp -implicitDefEqProofs
  refine DrawR.on {} (by kernel_rfl) (by simp) ?_
  simp -dsimp -implicitDefEqProofs
  refine onCallQ_in (Of_fn hp hl hn ha) ?_
  simp -dsimp -implicitDefEqProofs [hy]
  refine LoopCR.on 69 (fun i => [(1, I p), (2, I hour), (3, .ptr 0 0), (6, .ptr 1 0), (7, .ptr 2 0), (8, I (i : Nat))])
    (fun i => [some [r.reaches fu, r.shoals], some [I 0, I 0], some [I (bedF p hour y.bot (r.ss.take i)).lo, I (bedF p hour y.bot (r.ss.take i)).hi]]) (fun i => i ≤ r.ss.length) (fun i => r.ss.length - i) 0 [0, 1, 10] (by simp) ?_ ?_
  · simp -dsimp -implicitDefEqProofs [bedF]
  intro i j hi
  simp -dsimp -implicitDefEqProofs
  refine ifD_in (fun hlt => ?_) (fun hge => ?_)
  · have hlt' : i < r.ss.length := by omega
    obtain ⟨s, hx⟩ : ∃ s, r.ss[i]? = some s := ⟨_, List.getElem?_eq_getElem hlt'⟩
    have hst : r.ss.take (i + 1) = r.ss.take i ++ [s] := by rw [List.take_add_one, hx]; rfl
    obtain ⟨c1, c2, c3, c4, c5, c6, c7, c8⟩ := hs s (List.mem_of_getElem? hx)
    obtain ⟨b, hb⟩ : ∃ b, b = bedF p hour y.bot (r.ss.take i) := ⟨_, rfl⟩
    have hnew : bedF p hour y.bot (r.ss.take (i + 1)) = bedS p hour b s := by rw [hst, bedF_snoc, ← hb]
    simp -dsimp -implicitDefEqProofs [hx, ← hb]
    refine ifB_in (fun h3 => ?_) (fun h3 => ?_)
    · have h3' : s.place ≠ p := by simpa using h3
      simp -dsimp -implicitDefEqProofs
      refine again_in (i + 1) [0, 1, 2] (by omega) (by omega) ?_
      simp -dsimp -implicitDefEqProofs [hnew, bedS, h3']
      rw [wrap_in (by omega) (by omega)]
    · have h3' : s.place = p := by simpa using h3
      have w1 : IntKind.i64.wrap (hour - s.snd) = hour - s.snd := wrap_in (by omega) (by omega)
      obtain ⟨d, hd⟩ : ∃ d, d = max 0 (hour - s.snd) := ⟨_, rfl⟩
      have hd1 : 0 ≤ d ∧ d ≤ 2000 := by omega
      have m1 := gd_in (g := s.grow.lo) (d := d) (by omega) hd1
      have m2 := gd_in (g := s.grow.hi) (d := d) (by omega) hd1
      obtain ⟨p1, hp1⟩ : ∃ p1, p1 = s.grow.lo * d := ⟨_, rfl⟩
      obtain ⟨q1, hq1⟩ : ∃ q1, q1 = s.grow.hi * d := ⟨_, rfl⟩
      rw [← hp1] at m1; rw [← hq1] at m2
      have w2 : IntKind.i64.wrap (s.grow.lo * d) = p1 := by rw [← hp1]; exact wrap_in (by omega) (by omega)
      have w3 : IntKind.i64.wrap (s.grow.hi * d) = q1 := by rw [← hq1]; exact wrap_in (by omega) (by omega)
      have w4 : IntKind.i64.wrap (s.bed.lo + p1 / 24) = s.bed.lo + p1 / 24 := wrap_in (by omega) (by omega)
      have w5 : IntKind.i64.wrap (s.bed.hi + -(-q1 / 24)) = s.bed.hi + -(-q1 / 24) := wrap_in (by omega) (by omega)
      have hg : grw s hour = ⟨s.bed.lo + p1 / 24, s.bed.hi + -(-q1 / 24)⟩ := by rw [grw, ← hd, ← hp1, ← hq1]
      simp -dsimp -implicitDefEqProofs [w1, ← hd]
      refine DrawR.on { M := [2], see := [(1, 2)], eff := [(14, [2])] } (by kernel_rfl) (by simp) ?_
      simp -dsimp -implicitDefEqProofs [w2]
      refine onCallQ_in (Floor24_fn (n := p1) (by omega)) ?_
      simp -dsimp -implicitDefEqProofs [w4]
      refine DrawR.on { M := [2], see := [(1, 2)], eff := [(14, [2])] } (by kernel_rfl) (by simp) ?_
      simp -dsimp -implicitDefEqProofs [w3]
      refine onCallQ_in (Ceil24_fn (n := q1) (by omega)) ?_
      simp -dsimp -implicitDefEqProofs [w5]
      refine again_in (i + 1) [0, 1, 2] (by omega) (by omega) ?_
      simp -dsimp -implicitDefEqProofs [hnew, bedS, h3', hg]
      rw [wrap_in (by omega) (by omega)]
  · have hin : i = r.ss.length := by omega
    subst hin
    simp -dsimp -implicitDefEqProofs
end Go.Pe
