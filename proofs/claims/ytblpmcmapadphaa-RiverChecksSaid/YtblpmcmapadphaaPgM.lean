/- The arithmetic of the law RiverMelts. -/
import Derived.Test.YtblpmcmapadphaaPgB
set_option linter.unusedVariables false
set_option linter.unusedSimpArgs false
namespace Go.Pe
open Go Go.Proofs Go.Proofs.Ytblpmcmapadphaa
def Ct.bare (c : Ct) : Ct := { c with snow := ⟨0, 0⟩ }
def Ct.more (c : Ct) (n : Int) : Ct := { c with area := min 10000 (c.area + n), snow := ⟨c.snow.lo, min 1000000 (c.snow.hi + n)⟩ }
theorem valid_bare {c : Ct} (h : validC c = true) : validC c.bare = true := by
  simp only [validC, validB, Bool.and_eq_true, decide_eq_true_eq] at h
  obtain ⟨a, p, m, ⟨l, u⟩⟩ := c
  simp only [validC, validB, Ct.bare, Bool.and_eq_true, decide_eq_true_eq] at h ⊢
  repeat' apply And.intro
  all_goals exact decide_eq_true (by omega)
theorem valid_more {c : Ct} {n : Int} (h : validC c = true) (h0 : 0 ≤ n) : validC (c.more n) = true := by
  obtain ⟨a, p, m, ⟨l, u⟩⟩ := c
  simp only [validC, validB, Ct.more, Bool.and_eq_true, decide_eq_true_eq] at h ⊢
  repeat' apply And.intro
  all_goals exact decide_eq_true (by omega)
theorem pick_in {b : Bd} {y : Int} (h : b.lo ≤ b.hi) (h0 : 0 ≤ y) (h1 : y ≤ 255) : b.lo ≤ pickZ b y ∧ pickZ b y ≤ b.hi := by
  have h2 : 0 ≤ (b.hi - b.lo) * y := Int.mul_nonneg (by omega) h0
  have h3 : (b.hi - b.lo) * y ≤ (b.hi - b.lo) * 255 := Int.mul_le_mul_of_nonneg_left h1 (by omega)
  unfold pickZ
  rw [Int.tdiv_eq_ediv_of_nonneg h2]
  omega
theorem partZ_in {l : List Int} {i : Nat} (h : ∀ n ∈ l, 0 ≤ n ∧ n ≤ 255) : 0 ≤ partZ l i ∧ partZ l i ≤ 255 := by
  unfold partZ
  split
  · omega
  · rename_i h1
    have h2 : i % l.length < l.length := Nat.mod_lt _ (by omega)
    rw [List.getD_eq_getElem?_getD, List.getElem?_eq_getElem h2]
    exact h _ (List.getElem_mem h2)
theorem runs_get {c : Ct} : ∀ {l : List Sk} {s : Bd} {i : Nat} (hi : i < l.length), (runs c s l)[i]? = some (drain c (total [l[i].rain, melts (snowAt c s (l.take i)) (warm c l[i])]))
  | [], _, _, hi => absurd hi (by simp)
  | y :: l, s, 0, _ => by simp [runs, snowAt]
  | y :: l, s, i + 1, hi => by
      have := runs_get (c := c) (l := l) (s := left s (warm c y)) (i := i) (by simpa using hi)
      simpa [runs, snowAt] using this
theorem drain_lo {c : Ct} (h1 : 0 ≤ c.area) (h2 : 0 ≤ c.pc) {w : Bd} {n : Int} (h : w.lo ≤ n) : 10 * (drain c w).lo ≤ c.area * n * c.pc := by
  have h3 : c.area * c.pc * w.lo ≤ c.area * c.pc * n := Int.mul_le_mul_of_nonneg_left h (Int.mul_nonneg h1 h2)
  rw [Int.mul_right_comm]
  simp only [drain]
  omega
theorem drain_hi {c : Ct} (h1 : 0 ≤ c.area) (h2 : 0 ≤ c.pc) {w : Bd} {n : Int} (h : n ≤ w.hi) : c.area * n * c.pc ≤ 10 * (drain c w).hi := by
  have h3 : c.area * c.pc * n ≤ c.area * c.pc * w.hi := Int.mul_le_mul_of_nonneg_left h (Int.mul_nonneg h1 h2)
  rw [Int.mul_right_comm]
  simp only [drain]
  omega
theorem drain_lo_mono {c : Ct} (h1 : 0 ≤ c.area) (h2 : 0 ≤ c.pc) {w v : Bd} (h : w.lo ≤ v.lo) : (drain c w).lo ≤ (drain c v).lo := by
  have h3 : c.area * c.pc * w.lo ≤ c.area * c.pc * v.lo := Int.mul_le_mul_of_nonneg_left h (Int.mul_nonneg h1 h2)
  simp only [drain]
  omega
theorem drain_hi_mono {c d : Ct} (h1 : 0 ≤ c.area) (h2 : 0 ≤ c.pc) (h3 : c.area ≤ d.area) (h4 : c.pc = d.pc) {w v : Bd} (h : w.hi ≤ v.hi) (h0 : 0 ≤ w.hi) : (drain c w).hi ≤ (drain d v).hi := by
  have e1 : c.area * c.pc * w.hi ≤ c.area * c.pc * v.hi := Int.mul_le_mul_of_nonneg_left h (Int.mul_nonneg h1 h2)
  have e2 : c.area * c.pc ≤ d.area * d.pc := by rw [← h4]; exact Int.mul_le_mul_of_nonneg_right h3 h2
  have e3 : c.area * c.pc * v.hi ≤ d.area * d.pc * v.hi := Int.mul_le_mul_of_nonneg_right e2 (by omega)
  simp only [drain]
  omega
theorem drain_nonneg {c : Ct} (h1 : 0 ≤ c.area) (h2 : 0 ≤ c.pc) {w : Bd} (h : 0 ≤ w.lo) : 0 ≤ (drain c w).lo := by
  have h3 : 0 ≤ c.area * c.pc * w.lo := Int.mul_nonneg (Int.mul_nonneg h1 h2) h
  simp only [drain]
  omega
theorem snow_zero {c : Ct} : ∀ (l : List Sk), (∀ y ∈ l, 0 ≤ (warm c y).lo ∧ 0 ≤ (warm c y).hi) → snowAt c ⟨0, 0⟩ l = ⟨0, 0⟩
  | [], _ => rfl
  | y :: l, h => by
      have h1 := h y (by simp)
      have h2 : left ⟨0, 0⟩ (warm c y) = ⟨0, 0⟩ := by
        simp only [left, Bd.mk.injEq]
        omega
      have h3 := snow_zero l (fun z hz => h z (by simp [hz]))
      simp only [snowAt, List.foldl_cons] at h3 ⊢
      rw [h2]; exact h3
theorem snow_more {c d : Ct} (hm : c.melt = d.melt) : ∀ (l : List Sk) (s t : Bd), s.hi ≤ t.hi → (snowAt c s l).hi ≤ (snowAt d t l).hi
  | [], _, _, h => h
  | y :: l, s, t, h => by
      refine snow_more hm l (left s (warm c y)) (left t (warm d y)) ?_
      have : (warm c y).lo = (warm d y).lo := by simp only [warm, hm]
      simp only [left]
      omega
theorem total_lo {a b : Bd} : (total [a, b]).lo = a.lo + b.lo := by simp only [total, List.foldl_cons, List.foldl_nil]; omega
theorem total_hi {a b : Bd} : (total [a, b]).hi = a.hi + b.hi := by simp only [total, List.foldl_cons, List.foldl_nil]; omega
theorem warm_nonneg {c : Ct} (h : 0 ≤ c.melt) (y : Sk) : 0 ≤ (warm c y).lo ∧ 0 ≤ (warm c y).hi := by
  refine ⟨Int.mul_nonneg h ?_, Int.mul_nonneg h ?_⟩ <;> omega
theorem drain_big {c : Ct} (h1 : 0 ≤ c.area) (h2 : 0 ≤ c.pc) (h3 : c.area ≤ 10000) (h4 : c.pc ≤ 100) {w : Bd} (h : w.hi.natAbs ≤ 2000000) : (drain c w).hi.natAbs ≤ 10000000000000 := by
  have e1 := mul_in (a := c.area) (b := c.pc) (m := 10000) (n := 100) (by omega) (by omega)
  have e2 := mul_in (a := c.area * c.pc) (b := w.hi) (m := 10000 * 100) (n := 2000000) e1 h
  simp only [drain]
  omega
theorem melt_round {c : Ct} {y : Sk} {S : Bd} {H W sn : Int} (hC : ((0 ≤ c.area ∧ c.area ≤ 10000) ∧ 0 ≤ c.pc ∧ c.pc ≤ 100) ∧ 0 ≤ c.melt ∧ c.melt ≤ 100) (hr : 0 ≤ y.rain.lo ∧ y.rain.hi ≤ 20000) (hh : -500 ≤ y.heat.lo ∧ y.heat.hi ≤ 500) (hH : y.heat.lo ≤ H ∧ H ≤ y.heat.hi) (hW : y.rain.lo ≤ W ∧ W ≤ y.rain.hi) (hs : S.lo ≤ sn ∧ sn ≤ S.hi) (hS : 0 ≤ S.lo ∧ S.hi ≤ 1000000) :
    (0 ≤ max 0 H * c.melt ∧ max 0 H * c.melt ≤ 50000) ∧ (c.area * (W + min sn (max 0 H * c.melt))).natAbs ≤ 100000000000 ∧ (c.area * (W + min sn (max 0 H * c.melt)) * c.pc).natAbs ≤ 10000000000000 ∧
    10 * (drain c (total [y.rain, melts S (warm c y)])).lo ≤ c.area * (W + min sn (max 0 H * c.melt)) * c.pc ∧ c.area * (W + min sn (max 0 H * c.melt)) * c.pc ≤ 10 * (drain c (total [y.rain, melts S (warm c y)])).hi ∧
    0 ≤ (drain c (total [y.rain, melts S (warm c y)])).lo ∧ (drain c (total [y.rain, melts S (warm c y)])).hi.natAbs ≤ 10000000000000 ∧
    (left S (warm c y)).lo ≤ sn - min sn (max 0 H * c.melt) ∧ sn - min sn (max 0 H * c.melt) ≤ (left S (warm c y)).hi := by
  obtain ⟨⟨⟨a1, a2⟩, p1, p2⟩, m1, m2⟩ := hC
  have k1 : c.melt * max 0 y.heat.lo ≤ c.melt * max 0 H := Int.mul_le_mul_of_nonneg_left (by omega) m1
  have k2 : c.melt * max 0 H ≤ c.melt * max 0 y.heat.hi := Int.mul_le_mul_of_nonneg_left (by omega) m1
  have k3 := warm_nonneg (c := c) m1 y
  have k4 := mul_in (a := c.melt) (b := max 0 H) (m := 100) (n := 500) (by omega) (by omega)
  have k5 := mul_in (a := c.melt) (b := max 0 y.heat.hi) (m := 100) (n := 500) (by omega) (by omega)
  rw [Int.mul_comm (max 0 H)]
  have wl : (warm c y).lo = c.melt * max 0 y.heat.lo := rfl
  have wh : (warm c y).hi = c.melt * max 0 y.heat.hi := rfl
  obtain ⟨M, hM⟩ : ∃ M, M = c.melt * max 0 H := ⟨_, rfl⟩
  rw [← hM] at k1 k2 k4 ⊢
  obtain ⟨D, hD⟩ : ∃ D, D = min sn M := ⟨_, rfl⟩
  rw [← hD]
  have t1 : (total [y.rain, melts S (warm c y)]).lo ≤ W + D := by rw [total_lo]; simp only [melts]; omega
  have t2 : W + D ≤ (total [y.rain, melts S (warm c y)]).hi := by rw [total_hi]; simp only [melts]; omega
  have t3 : 0 ≤ (total [y.rain, melts S (warm c y)]).lo := by rw [total_lo]; simp only [melts]; omega
  have t4 : (total [y.rain, melts S (warm c y)]).hi.natAbs ≤ 2000000 := by rw [total_hi]; simp only [melts]; omega
  have b1 := mul_in (a := c.area) (b := W + D) (m := 10000) (n := 2000000) (by omega) (by omega)
  have b2 := mul_in (a := c.area * (W + D)) (b := c.pc) (m := 10000 * 2000000) (n := 100) b1 (by omega)
  refine ⟨⟨by omega, by omega⟩, by omega, by omega, drain_lo a1 p1 t1, drain_hi a1 p1 t2, drain_nonneg a1 p1 t3, drain_big a1 p1 a2 p2 t4, ?_, ?_⟩ <;> simp only [left] <;> omega
theorem melt_bare {c : Ct} {y : Sk} {S : Bd} {l : List Sk} (hC : ((0 ≤ c.area ∧ c.area ≤ 10000) ∧ 0 ≤ c.pc ∧ c.pc ≤ 100) ∧ 0 ≤ c.melt ∧ c.melt ≤ 100) (hr : 0 ≤ y.rain.lo ∧ y.rain.lo ≤ y.rain.hi) (hS : 0 ≤ S.lo ∧ 0 ≤ S.hi) :
    (drain c.bare (total [y.rain, melts (snowAt c.bare c.bare.snow l) (warm c.bare y)])).lo ≤ (drain c (total [y.rain, melts S (warm c y)])).lo ∧ (drain c.bare (total [y.rain, melts (snowAt c.bare c.bare.snow l) (warm c.bare y)])).hi ≤ (drain c (total [y.rain, melts S (warm c y)])).hi ∧
    (y.heat.hi ≤ 0 → y.heat.lo ≤ y.heat.hi → drain c.bare (total [y.rain, melts (snowAt c.bare c.bare.snow l) (warm c.bare y)]) = drain c (total [y.rain, melts S (warm c y)])) := by
  obtain ⟨⟨⟨a1, a2⟩, p1, p2⟩, m1, m2⟩ := hC
  have e0 : snowAt c.bare c.bare.snow l = ⟨0, 0⟩ := snow_zero l fun z _ => warm_nonneg (c := c.bare) m1 z
  have e1 := warm_nonneg (c := c.bare) m1 y
  have e2 := warm_nonneg (c := c) m1 y
  have e3 : warm c.bare y = warm c y := rfl
  rw [e0, e3]
  have e4 : melts ⟨0, 0⟩ (warm c y) = ⟨0, 0⟩ := by simp only [melts, Bd.mk.injEq]; omega
  rw [e4]
  refine ⟨drain_lo_mono (c := c) a1 p1 ?_, drain_hi_mono (c := c) (d := c) a1 p1 (Int.le_refl _) rfl ?_ ?_, fun h h' => ?_⟩
  · rw [total_lo, total_lo]; simp only [melts]; omega
  · rw [total_hi, total_hi]; simp only [melts]; omega
  · rw [total_hi]; show 0 ≤ y.rain.hi + 0; omega
  · have e5 : melts S (warm c y) = ⟨0, 0⟩ := by
      have : (warm c y).lo = 0 := by simp only [warm]; rw [show max 0 y.heat.lo = 0 by omega, Int.mul_zero]
      have : (warm c y).hi = 0 := by simp only [warm]; rw [show max 0 y.heat.hi = 0 by omega, Int.mul_zero]
      simp only [melts, Bd.mk.injEq]; omega
    rw [e5]; rfl
theorem melt_more {c : Ct} {y : Sk} {n : Int} {l : List Sk} (hC : ((0 ≤ c.area ∧ c.area ≤ 10000) ∧ 0 ≤ c.pc ∧ c.pc ≤ 100) ∧ 0 ≤ c.melt ∧ c.melt ≤ 100) (hn : 0 ≤ n) (hs : c.snow.hi ≤ 1000000) (hr : 0 ≤ y.rain.hi) (h0 : 0 ≤ (snowAt c c.snow l).hi) :
    (drain c (total [y.rain, melts (snowAt c c.snow l) (warm c y)])).hi ≤ (drain (c.more n) (total [y.rain, melts (snowAt (c.more n) (c.more n).snow l) (warm (c.more n) y)])).hi := by
  obtain ⟨⟨⟨a1, a2⟩, p1, p2⟩, m1, m2⟩ := hC
  have e1 := snow_more (c := c) (d := c.more n) rfl l c.snow (c.more n).snow (by show c.snow.hi ≤ min 1000000 (c.snow.hi + n); omega)
  have e2 := warm_nonneg (c := c) m1 y
  refine drain_hi_mono (c := c) (d := c.more n) a1 p1 (by show c.area ≤ min 10000 (c.area + n); omega) rfl ?_ ?_
  · rw [total_hi, total_hi]; simp only [melts]; have : (warm (c.more n) y).hi = (warm c y).hi := rfl; omega
  · rw [total_hi]; simp only [melts]; omega
end Go.Pe
