import Derived.Test.YtblpmcmapadphaaI02
import Derived.Test.YtblpmcmapadphaaF23
import Derived.Test.YtblpmcmapadphaaF09
import Derived.Test.YtblpmcmapadphaaRows
import Derived.ProofKit
set_option linter.unusedVariables false
set_option linter.unusedSimpArgs false
/- Whether the program accepts a forecast; sums of flows. -/
namespace Go.Pe
open Go Go.Proofs Go.Proofs.Ytblpmcmapadphaa
set_option maxRecDepth 20000
set_option maxHeartbeats 8000000

open Classical in
noncomputable def okF (f : Fc) : Bool := decide (SmallF f ∧ startE f = 0)
theorem okF_iff {f : Fc} : okF f = true ↔ SmallF f ∧ startE f = 0 := by simp [okF]
theorem okF_not {f : Fc} (h : SmallF f → startE f = 0 → False) : okF f = false := by
  rw [Bool.eq_false_iff]; intro hh; exact h (okF_iff.1 hh).1 (okF_iff.1 hh).2
noncomputable abbrev Fc.av (f : Fc) : AV := .agg [f.r.reaches false, f.r.shoals, sidesAV f.sides false]
theorem validF_fn {f : Fc} {h : H} : Fn Try.prog 49 [f.av] h (B (okF f)) h := by
  refine Fn.beside ?_ rfl h
  refine Fn.ofR0 noM (by kernel_rfl) Try.func49 rfl (by simp) ?_
  simp -dsimp -implicitDefEqProofs
  refine onCall_in large_fn ?_
  simp -dsimp -implicitDefEqProofs
  refine ifB_in (fun h1 => ?_) (fun h1 => ?_)
  · have e : okF f = false := okF_not fun hw _ => by rw [big_not hw] at h1; cases h1
    simp -dsimp -implicitDefEqProofs [e]
  have hw := small_of h1
  have hn := hw.n
  have hc := hw.c
  have hrn := hw.r.n
  simp -dsimp -implicitDefEqProofs
  refine ifD_in (fun h2 => ?_) (fun h2 => ?_)
  · have e : okF f = false := okF_not fun hw he => by have := (good_of hw he).pos; omega
    simp -dsimp -implicitDefEqProofs [e]
  have hrp : 0 < f.r.rs.length := by omega
  simp -dsimp -implicitDefEqProofs
  by_cases h3 : f.sides.length = f.r.rs.length
  rotate_left
  · have e : okF f = false := okF_not fun hw he => h3 (good_of hw he).eq
    have n1 : ((f.sides.length : Int) != f.r.rs.length) = true := by simp; omega
    simp -dsimp -implicitDefEqProofs [e, n1]
  have n1 : ((f.sides.length : Int) != f.r.rs.length) = false := by simp [h3]
  have hpos2 : 0 < f.sides.length := by omega
  have hx0 := List.getElem?_eq_getElem hpos2
  have hh : f.sides[0].length = hrs f.sides := by simp [hrs, List.headD_eq_head?_getD, List.head?_eq_getElem?, hx0]
  have hcm := hc _ (List.getElem_mem hpos2)
  simp -dsimp -implicitDefEqProofs [n1, hx0, hh]
  refine ifD_in (fun h4 => ?_) (fun h4 => ?_)
  · have e : okF f = false := okF_not fun hw he => by have := (good_of hw he).hpos; omega
    simp -dsimp -implicitDefEqProofs [e]
  have hhp : 0 < hrs f.sides := by omega
  simp -dsimp -implicitDefEqProofs
  refine onCall_in (copied_fn hw.r) ?_
  simp -dsimp -implicitDefEqProofs
  refine onCall_in (Check_fn hw.r) ?_
  cases hV : validRv f.r with
  | false =>
    have e : okF f = false := okF_not fun hw he => by have := rv_of_start he; rw [hV] at this; cases this
    simp -dsimp -implicitDefEqProofs [e]
  | true =>
    simp -dsimp -implicitDefEqProofs
    refine LoopCR.on 98 (fun i => [(1, .ptr 0 0), (3, I (i : Nat))])
      (fun _ => [some [f.r.reaches false, f.r.shoals, sidesAV f.sides false]]) (fun i => i ≤ f.sides.length ∧ ∀ l ∈ f.sides.take i, l.length = hrs f.sides ∧ ∀ b ∈ l, vB 0 10000000000 b = true) (fun i => f.sides.length - i) 0 [0] ⟨by omega, by simp⟩ ?_ ?_
    · simp -dsimp -implicitDefEqProofs
    intro i j hI
    obtain ⟨hi, hpre⟩ := hI
    simp -dsimp -implicitDefEqProofs
    refine ifD_in (fun hlt => ?_) (fun hge => ?_)
    · have hlt' : i < f.sides.length := by omega
      obtain ⟨l, hl⟩ : ∃ l, f.sides[i]? = some l := ⟨_, List.getElem?_eq_getElem hlt'⟩
      have hmem := List.mem_of_getElem? hl
      have hlc := hc l hmem
      have wi : IntKind.i64.wrap ((i : Int) + 1) = ((i + 1 : Nat) : Int) := by rw [wrap_in (by omega) (by omega)]; omega
      simp -dsimp -implicitDefEqProofs
      refine DrawR.on {} (by kernel_rfl) (by simp) ?_
      by_cases h5 : l.length = hrs f.sides
      rotate_left
      · have e : okF f = false := okF_not fun hw he => h5 ((good_of hw he).lens l hmem)
        have n2 : ((l.length : Int) != hrs f.sides) = true := by simp; omega
        simp -dsimp -implicitDefEqProofs [hl, hx0, hh, n2, e]
      have n2 : ((l.length : Int) != hrs f.sides) = false := by simp [h5]
      simp -dsimp -implicitDefEqProofs [hl, hx0, hh, n2]
      refine LoopCR.on 98 (fun k => [(1, .ptr 0 0), (3, I (i : Nat)), (4, I (k : Nat))])
        (fun _ => [some [f.r.reaches false, f.r.shoals, sidesAV f.sides false]]) (fun k => k ≤ l.length ∧ ∀ b ∈ l.take k, vB 0 10000000000 b = true) (fun k => l.length - k) 0 [0] ⟨by omega, by simp⟩ ?_ ?_
      · simp -dsimp -implicitDefEqProofs
      intro k j hK
      obtain ⟨hk, hkp⟩ := hK
      simp -dsimp -implicitDefEqProofs [hl]
      refine ifD_in (fun hlk => ?_) (fun hgk => ?_)
      · have hlk' : k < l.length := by omega
        obtain ⟨b, hb⟩ : ∃ b, l[k]? = some b := ⟨_, List.getElem?_eq_getElem hlk'⟩
        have wk : IntKind.i64.wrap ((k : Int) + 1) = ((k + 1 : Nat) : Int) := by rw [wrap_in (by omega) (by omega)]; omega
        have bad : vB 0 10000000000 b = false → okF f = false := fun hv => okF_not fun hw he => by
          have := (good_of hw he).oks l hmem b (List.mem_of_getElem? hb)
          rw [hv] at this; cases this
        have nv : ¬ (b.lo ≤ b.hi ∧ (0 ≤ b.lo ∧ b.lo ≤ 10000000000) ∧ 0 ≤ b.hi ∧ b.hi ≤ 10000000000) → okF f = false := fun hv => bad (by rw [Bool.eq_false_iff]; intro hh; exact hv (vB_iff.1 hh))
        simp -dsimp -implicitDefEqProofs [hl, hb]
        refine ifD_in (fun g1 => ?_) (fun g1 => ?_)
        · have e := nv (by omega)
          simp -dsimp -implicitDefEqProofs [e]
        simp -dsimp -implicitDefEqProofs
        refine ifD_in (fun g2 => ?_) (fun g2 => ?_)
        · have e := nv (by omega)
          simp -dsimp -implicitDefEqProofs [e]
        simp -dsimp -implicitDefEqProofs
        refine ifD_in (fun g3 => ?_) (fun g3 => ?_)
        · have e := nv (by omega)
          simp -dsimp -implicitDefEqProofs [e]
        simp -dsimp -implicitDefEqProofs [wk]
        refine again_in (k + 1) [0] ⟨by omega, ?_⟩ (by omega) ?_
        · rw [List.take_add_one, hb]
          intro x hx
          simp only [Option.toList_some, List.mem_append, List.mem_singleton] at hx
          rcases hx with hx | rfl
          · exact hkp x hx
          · exact vB_iff.2 (by omega)
        simp -dsimp -implicitDefEqProofs
      · have hin : k = l.length := by omega
        subst hin
        rw [List.take_length] at hkp
        simp -dsimp -implicitDefEqProofs [wi]
        refine again_in (i + 1) [0] ⟨by omega, ?_⟩ (by omega) ?_
        · rw [List.take_add_one, hl]
          intro x hx
          simp only [Option.toList_some, List.mem_append, List.mem_singleton] at hx
          rcases hx with hx | rfl
          · exact hpre x hx
          · exact ⟨h5, hkp⟩
        simp -dsimp -implicitDefEqProofs
    · have hin : i = f.sides.length := by omega
      subst hin
      rw [List.take_length] at hpre
      have a1 : lens f.sides = true := by
        rw [lens, List.all_eq_true]; intro l hl; simp [(hpre l hl).1]
      have a2 : oks f.sides = true := by
        rw [oks, List.all_eq_true]; intro l hl; rw [List.all_eq_true]; exact (hpre l hl).2
      have e : okF f = decide ((hrs f.sides : Int) ≤ 400) := by
        by_cases h6 : hrs f.sides ≤ 400
        · rw [decide_eq_true (by omega), okF_iff]
          refine ⟨hw, ?_⟩
          simp only [startE, hV, if_true, h3, a1, a2]
          rw [if_neg (by omega), if_neg (by omega)]
        · rw [decide_eq_false (by omega)]
          exact okF_not fun hw he => by have := (good_of hw he).hmax; omega
      simp -dsimp -implicitDefEqProofs [hx0, hh, e]
/-- Sums of flows. -/
def sm (g : Int → Bd) (b : Int) : Nat → Bd
  | 0 => ⟨0, 0⟩
  | n + 1 => ⟨(sm g b n).lo + (g (b + n)).lo, (sm g b n).hi + (g (b + n)).hi⟩
theorem sm_add {g : Int → Bd} {b : Int} {m : Nat} : ∀ {n : Nat}, (sm g b (m + n)).lo = (sm g b m).lo + (sm g (b + m) n).lo ∧ (sm g b (m + n)).hi = (sm g b m).hi + (sm g (b + m) n).hi
  | 0 => by simp [sm]
  | n + 1 => by
    have ih := sm_add (g := g) (b := b) (m := m) (n := n)
    have e : b + ((m + n : Nat) : Int) = b + (m : Int) + (n : Int) := by omega
    rw [show m + (n + 1) = (m + n) + 1 by omega, sm, sm, e]
    simp only
    omega
theorem sm_sum {g s u : Int → Bd} {b c : Int} : ∀ {n : Nat}, (∀ k : Nat, k < n → (g (b + k)).lo = (s (b + k)).lo + (u (c + k)).lo ∧ (g (b + k)).hi = (s (b + k)).hi + (u (c + k)).hi) → (sm g b n).lo = (sm s b n).lo + (sm u c n).lo ∧ (sm g b n).hi = (sm s b n).hi + (sm u c n).hi
  | 0, _ => by simp [sm]
  | n + 1, h => by
    have ih := sm_sum (g := g) (s := s) (u := u) (b := b) (c := c) (n := n) fun k hk => h k (by omega)
    have := h n (by omega)
    simp only [sm]
    omega
theorem sm_le {g s : Int → Bd} {b : Int} : ∀ {n : Nat}, (∀ k : Nat, k < n → (s (b + k)).lo ≤ (g (b + k)).lo ∧ (s (b + k)).hi ≤ (g (b + k)).hi) → (sm s b n).lo ≤ (sm g b n).lo ∧ (sm s b n).hi ≤ (sm g b n).hi
  | 0, _ => by simp [sm]
  | n + 1, h => by
    have ih := sm_le (g := g) (s := s) (b := b) (n := n) fun k hk => h k (by omega)
    have := h n (by omega)
    simp only [sm]
    omega
theorem sm_in {g : Int → Bd} {b : Int} {m : Int} : ∀ {n : Nat}, (∀ k : Nat, k < n → 0 ≤ (g (b + k)).lo ∧ (g (b + k)).lo ≤ (g (b + k)).hi ∧ (g (b + k)).hi ≤ m) → 0 ≤ (sm g b n).lo ∧ (sm g b n).lo ≤ (sm g b n).hi ∧ (sm g b n).hi ≤ n * m
  | 0, _ => by simp [sm]
  | n + 1, h => by
    have ih := sm_in (g := g) (b := b) (m := m) (n := n) fun k hk => h k (by omega)
    have := h n (by omega)
    simp only [sm]
    rw [show ((n + 1 : Nat) : Int) * m = n * m + m by rw [show ((n + 1 : Nat) : Int) = (n : Int) + 1 by omega, Int.add_mul, Int.one_mul]]
    omega
theorem total_sm {g : Int → Bd} {b : Int} : ∀ {n : Nat} {l : List Bd}, l.length = n → (∀ k : Nat, k < n → l[k]? = some (g (b + k))) → total l = sm g b n
  | 0, l, hl, _ => by rw [List.length_eq_zero_iff.1 hl]; rfl
  | n + 1, l, hl, h => by
    have e : l = l.take n ++ [g (b + n)] := by
      have := List.take_append_getElem (l := l) (i := n) (by omega)
      have h2 := h n (by omega)
      rw [List.getElem?_eq_getElem (by omega)] at h2
      rw [Option.some.inj h2] at this
      rw [this, List.take_of_length_le (by omega)]
    rw [e, total_snoc, total_sm (n := n) (g := g) (b := b) (by simp; omega) (fun k hk => by rw [List.getElem?_take, if_pos hk]; exact h k (by omega))]
    rfl
/-- Flows: none below 0, and none with its ends the wrong way round. -/
theorem sideAt_ok {f : Fc} (g : GoodF f) {i : Nat} {h : Int} : 0 ≤ (sideAt f.sides i h).lo ∧ (sideAt f.sides i h).lo ≤ (sideAt f.sides i h).hi ∧ (sideAt f.sides i h).hi ≤ 10000000000 := by
  unfold sideAt
  cases hl : f.sides[i]? with
  | none => simp
  | some l =>
    simp only [Option.getD_some]
    rw [List.getD_eq_getElem?_getD]
    cases hb : l[h.toNat]? with
    | none => simp
    | some b =>
      have := vB_iff.1 (g.oks l (List.mem_of_getElem? hl) b (List.mem_of_getElem? hb))
      simp only [Option.getD_some]; omega
theorem baseOf_ok {f : Fc} (g : GoodF f) {i : Nat} : 0 ≤ (baseOf f.r i).lo ∧ (baseOf f.r i).lo ≤ (baseOf f.r i).hi ∧ (baseOf f.r i).hi ≤ 10000000000 := by
  unfold baseOf
  cases hx : f.r.rs[i]? with
  | none => simp
  | some x =>
    have := vB_iff.1 (validR_parts ((List.all_eq_true.1 g.rv) x (List.mem_of_getElem? hx))).2.2.1
    simp only [Option.map_some, Option.getD_some]; omega
theorem rf_ok {f : Fc} (g : GoodF f) : ∀ (i : Nat) (h : Int), 0 ≤ (rf f.r f.sides i h).lo ∧ (rf f.r f.sides i h).lo ≤ (rf f.r f.sides i h).hi ∧ (rf f.r f.sides i h).hi ≤ (i + 1) * 10000000000
  | i, h => by
    by_cases hh : h < 0
    · rw [rf_neg hh]
      have := baseOf_ok g (i := i)
      have : (1 : Int) * 10000000000 ≤ (i + 1) * 10000000000 := Int.mul_le_mul_of_nonneg_right (by omega) (by omega)
      omega
    · cases i with
      | zero => rw [rf_zero hh]; have := sideAt_ok g (i := 0) (h := h); simp; omega
      | succ i =>
        rw [rf_succ hh]
        have h1 := sideAt_ok g (i := i + 1) (h := h)
        have h2 := rf_ok g i (h - delayOf f.r i)
        simp only
        rw [show ((i + 1 : Nat) : Int) = (i : Int) + 1 by omega, Int.add_mul ((i : Int) + 1)]
        omega
theorem vol_fn {f : Fc} {f1 f2 : Bool} {a b c : Nat} {h : H} (g : GoodF f) (he : startE f = 0) (ha : a < f.sides.length) (hbc : b ≤ c) (hc : c ≤ hrs f.sides) :
    Fn Try.prog 35 [f.r.av f1, sidesAV f.sides f2, I a, I b, I c] h (.tup [.agg [I (sm (rf f.r f.sides a) b (c - b)).lo, I (sm (rf f.r f.sides a) b (c - b)).hi], I 0]) h := by
  obtain ⟨row, hr, hrl, hrk⟩ := flowsF_rf g f.sides.length (Nat.le_refl _) a ha
  rw [List.take_length] at hr
  have := Volume_fn (f1 := f1) (f2 := f2) (h := h) g he ha hbc hc hr
  rw [total_sm (g := rf f.r f.sides a) (b := b) (n := c - b) (by simp; omega) (fun k hk => by
    rw [List.getElem?_take, if_pos hk, List.getElem?_drop, hrk _ (by omega)]; simp)] at this
  exact this
end Go.Pe

/- The law RiverKeeps. -/
namespace Go.Pe
open Go Go.Proofs Go.Proofs.Ytblpmcmapadphaa
set_option maxRecDepth 20000
set_option maxHeartbeats 8000000
attribute [local simp] aix0 aix1 aix2
theorem rk_law {f : Fc} {a b c : Nat} (ha : a ≤ 65535) (hb : b ≤ 65535) (hc : c ≤ 65535) : Fn Try.prog 13 [f.av, .agg [W16 a, W16 b, W16 c]] .nil (B true) .nil := by
  refine Fn.ofR0 noM (by kernel_rfl) Try.func13 rfl (by simp) ?_
  simp -dsimp -implicitDefEqProofs
  refine onCall_in validF_fn ?_
  cases hok : okF f with
  | false =>
    simp -dsimp -implicitDefEqProofs
    refine onCall_in (known_fn.beside rfl _) ?_
    simp -dsimp -implicitDefEqProofs
  | true =>
    obtain ⟨hw, he⟩ := okF_iff.1 hok
    have g := good_of hw he
    have hm := g.hmax
    have hhp := g.hpos
    have hn := hw.n
    have hcc := hw.c
    have heq := g.eq
    have hpos2 : 0 < f.sides.length := by have := g.pos; omega
    have hx0 := List.getElem?_eq_getElem hpos2
    have hh : f.sides[0].length = hrs f.sides := by simp [hrs, List.headD_eq_head?_getD, List.head?_eq_getElem?, hx0]
    have c0 : ∀ h, Fn Try.prog 29 [sidesAV f.sides false] h (sidesAV f.sides (isz f.sides.length)) h := fun h => forecast_fn (by omega) (fun x hx => by have := hcc x hx; omega)
    obtain ⟨q, hq⟩ : ∃ q, q = a % f.sides.length := ⟨_, rfl⟩
    obtain ⟨s, hs⟩ : ∃ s, s = b % (hrs f.sides + 1) := ⟨_, rfl⟩
    obtain ⟨d, hd⟩ : ∃ d, d = c % (hrs f.sides + 1 - s) := ⟨_, rfl⟩
    have q1 : q < f.sides.length := by rw [hq]; exact Nat.mod_lt _ hpos2
    have s1 : s < hrs f.sides + 1 := by rw [hs]; exact Nat.mod_lt _ (by omega)
    have d1 : d < hrs f.sides + 1 - s := by rw [hd]; exact Nat.mod_lt _ (by omega)
    have z0 : ¬ f.sides = [] := fun h => by rw [h] at hpos2; exact absurd hpos2 (by simp)
    have z1 : (f.sides.length : Int) ≠ 0 := by omega
    have z2 : (hrs f.sides : Int) + 1 ≠ 0 := by omega
    have z3 : (hrs f.sides : Int) + 1 - s ≠ 0 := by omega
    have m1 : (a : Int).tmod (f.sides.length : Int) = (q : Int) := by rw [hq]; rfl
    have m2 : (b : Int).tmod ((hrs f.sides : Int) + 1) = (s : Int) := by rw [hs]; rfl
    have m3 : (c : Int).tmod ((hrs f.sides : Int) + 1 - s) = (d : Int) := by
      rw [hd, show (hrs f.sides : Int) + 1 - s = ((hrs f.sides + 1 - s : Nat) : Int) by omega]; rfl
    clear hq hs hd
    have w1 : IntKind.i64.wrap (a : Int) = a := wrap_in (by omega) (by omega)
    have w2 : IntKind.i64.wrap (b : Int) = b := wrap_in (by omega) (by omega)
    have w3 : IntKind.i64.wrap (c : Int) = c := wrap_in (by omega) (by omega)
    have w4 : IntKind.i64.wrap ((hrs f.sides : Int) + 1) = (hrs f.sides : Int) + 1 := wrap_in (by omega) (by omega)
    have w5 : IntKind.i64.wrap ((hrs f.sides : Int) + 1 - s) = (hrs f.sides : Int) + 1 - s := wrap_in (by omega) (by omega)
    have w6 : IntKind.i64.wrap ((s : Int) + d) = ((s + d : Nat) : Int) := by rw [wrap_in (by omega) (by omega)]; omega
    obtain ⟨t, ht⟩ : ∃ t, t = s + d := ⟨_, rfl⟩
    rw [← ht] at w6
    have t1 : s ≤ t ∧ t ≤ hrs f.sides := by omega
    -- the three volumes
    obtain ⟨r, hr⟩ : ∃ r, r = rf f.r f.sides := ⟨_, rfl⟩
    have cA : ∀ f1 f2 h, Fn Try.prog 35 [f.r.av f1, sidesAV f.sides f2, I q, I 0, I s] h (.tup [.agg [I (sm (r q) 0 s).lo, I (sm (r q) 0 s).hi], I 0]) h := fun f1 f2 h => by
      rw [hr]; exact vol_fn (b := 0) g he q1 (Nat.zero_le _) (by omega)
    have cB : ∀ f1 f2 h, Fn Try.prog 35 [f.r.av f1, sidesAV f.sides f2, I q, I s, I t] h (.tup [.agg [I (sm (r q) s (t - s)).lo, I (sm (r q) s (t - s)).hi], I 0]) h := fun f1 f2 h => by
      rw [hr]; exact vol_fn g he q1 t1.1 t1.2
    have cC : ∀ f1 f2 h, Fn Try.prog 35 [f.r.av f1, sidesAV f.sides f2, I q, I 0, I t] h (.tup [.agg [I (sm (r q) 0 t).lo, I (sm (r q) 0 t).hi], I 0]) h := fun f1 f2 h => by
      rw [hr]; exact vol_fn (b := 0) g he q1 (Nat.zero_le _) t1.2
    have big : ∀ i, i < f.sides.length → ∀ (b : Int) (n : Nat), n ≤ 400 → 0 ≤ (sm (r i) b n).lo ∧ (sm (r i) b n).lo ≤ (sm (r i) b n).hi ∧ (sm (r i) b n).hi ≤ 100000000000000 := fun i hi b n hn4 => by
      have h1 := sm_in (g := r i) (b := b) (m := 250000000000) (n := n) fun k hk => by
        have h2 := rf_ok g i (b + k)
        have h3 : ((i : Int) + 1) * 10000000000 ≤ 25 * 10000000000 := Int.mul_le_mul_of_nonneg_right (by omega) (by omega)
        rw [hr]; omega
      have h4 : (n : Int) * 250000000000 ≤ 400 * 250000000000 := Int.mul_le_mul_of_nonneg_right (by omega) (by omega)
      omega
    have hadd := sm_add (g := r q) (b := 0) (m := s) (n := t - s)
    rw [show s + (t - s) = t by omega, Int.zero_add] at hadd
    obtain ⟨A, hA⟩ : ∃ A, A = sm (r q) 0 s := ⟨_, rfl⟩
    obtain ⟨Bv, hB⟩ : ∃ Bv, Bv = sm (r q) s (t - s) := ⟨_, rfl⟩
    obtain ⟨C, hC⟩ : ∃ C, C = sm (r q) 0 t := ⟨_, rfl⟩
    have bA := big q q1 0 s (by omega)
    have bB := big q q1 s (t - s) (by omega)
    have bC := big q q1 0 t (by omega)
    rw [← hA] at bA; rw [← hB] at bB; rw [← hC] at bC
    rw [← hA, ← hB, ← hC] at hadd
    simp only [← hA, ← hB, ← hC] at cA cB cC
    have v1 : IntKind.i64.wrap (A.lo + Bv.lo) = C.lo := by rw [wrap_in (by omega) (by omega)]; omega
    have v2 : IntKind.i64.wrap (A.hi + Bv.hi) = C.hi := by rw [wrap_in (by omega) (by omega)]; omega
    have v3 : decide (Bv.lo < 0) = false := decide_eq_false (by omega)
    have v4 : decide (Bv.hi < Bv.lo) = false := decide_eq_false (by omega)
    simp -dsimp -implicitDefEqProofs
    refine DrawR.on {} (by kernel_rfl) (by simp) ?_
    simp -dsimp -implicitDefEqProofs [hx0, hh, convA, w1, m1, z0, z1, hpos2, w2, w3, w4, w5, w6, m2, m3, z2, z3]
    refine DrawR.on {} (by kernel_rfl) (by simp) ?_
    simp -dsimp -implicitDefEqProofs
    refine onCallQ_in (copied_fn hw.r) ?_
    simp -dsimp -implicitDefEqProofs
    refine onCallQ_in (c0 _) ?_
    simp -dsimp -implicitDefEqProofs
    refine onCallQ_in (cA _ _ _) ?_
    simp -dsimp -implicitDefEqProofs
    refine DrawR.on {} (by kernel_rfl) (by simp) ?_
    simp -dsimp -implicitDefEqProofs
    refine onCallQ_in (copied_fn hw.r) ?_
    simp -dsimp -implicitDefEqProofs
    refine onCallQ_in (c0 _) ?_
    simp -dsimp -implicitDefEqProofs
    refine onCallQ_in (cB _ _ _) ?_
    simp -dsimp -implicitDefEqProofs
    refine DrawR.on {} (by kernel_rfl) (by simp) ?_
    simp -dsimp -implicitDefEqProofs
    refine onCallQ_in (copied_fn hw.r) ?_
    simp -dsimp -implicitDefEqProofs
    refine onCallQ_in (c0 _) ?_
    simp -dsimp -implicitDefEqProofs
    refine onCallQ_in (cC _ _ _) ?_
    simp -dsimp -implicitDefEqProofs [v1, v2, v3, v4]
    obtain ⟨S, hS⟩ : ∃ S, S = sideAt f.sides q := ⟨_, rfl⟩
    have bS : ∀ n : Nat, n ≤ 400 → 0 ≤ (sm S s n).lo ∧ (sm S s n).lo ≤ (sm S s n).hi ∧ (sm S s n).hi ≤ 4000000000000 := fun n hn4 => by
      have h1 := sm_in (g := S) (b := s) (m := 10000000000) (n := n) fun k hk => by rw [hS]; exact sideAt_ok g
      have h4 : (n : Int) * 10000000000 ≤ 400 * 10000000000 := Int.mul_le_mul_of_nonneg_right (by omega) (by omega)
      omega
    obtain ⟨side, hside⟩ : ∃ l, f.sides[q]? = some l := ⟨_, List.getElem?_eq_getElem q1⟩
    have hsl := g.lens side (List.mem_of_getElem? hside)
    have hsk : ∀ x : Nat, x < hrs f.sides → side[x]? = some (S x) := fun x hx => by
      rw [hS, sideAt, hside, Option.getD_some, List.getD_eq_getElem?_getD, Int.toNat_natCast, List.getElem?_eq_getElem (by omega)]; rfl
    refine LoopCR.on 234 (fun k => [(2, .ptr 0 0), (6, I q), (7, I s), (8, I t), (11, .ptr 1 0), (15, .ptr 2 0), (16, I ((s : Int) + (k : Nat)))])
      (fun k => [some [f.r.reaches false, f.r.shoals, sidesAV f.sides false], some [I Bv.lo, I Bv.hi], some [I (sm S s k).lo, I (sm S s k).hi]]) (fun k => k ≤ t - s) (fun k => t - s - k) 0 [0, 44, 62] (by simp) ?_ ?_
    · simp -dsimp -implicitDefEqProofs [sm]
    intro k j hk
    obtain ⟨x, hx⟩ : ∃ x, x = s + k := ⟨_, rfl⟩
    have hxi : (s : Int) + (k : Int) = (x : Int) := by omega
    rw [hxi]
    simp -dsimp -implicitDefEqProofs
    refine ifD_in (fun hlt => ?_) (fun hge => ?_)
    · have hlt' : k < t - s := by omega
      have b0 := bS k (by omega)
      have b1 := bS (k + 1) (by omega)
      have bx := hsk x (by omega)
      simp only [sm, hxi] at b1
      obtain ⟨v, hv⟩ : ∃ v, v = S x := ⟨_, rfl⟩
      obtain ⟨u, hu⟩ : ∃ u, u = sm S s k := ⟨_, rfl⟩
      have hsn : sm S s (k + 1) = ⟨u.lo + v.lo, u.hi + v.hi⟩ := by rw [sm, hxi, ← hv, ← hu]
      rw [← hv] at b1 bx
      rw [← hu] at b0 b1 ⊢
      have e1 : IntKind.i64.wrap (u.lo + v.lo) = u.lo + v.lo := wrap_in (by omega) (by omega)
      have e2 : IntKind.i64.wrap (u.hi + v.hi) = u.hi + v.hi := wrap_in (by omega) (by omega)
      have e3 : IntKind.i64.wrap ((x : Int) + 1) = (s : Int) + (k + 1 : Nat) := by rw [wrap_in (by omega) (by omega)]; omega
      simp -dsimp -implicitDefEqProofs
      refine DrawR.on { M := [2], see := [(1, 2), (13, 2)], eff := [(25, [2])] } (by kernel_rfl) (by simp) ?_
      simp -dsimp -implicitDefEqProofs [hside, bx, e1, e2, e3]
      refine again_in (k + 1) [0, 1, 2] (by omega) (by omega) ?_
      simp -dsimp -implicitDefEqProofs [hsn]
    have hin : k = t - s := by omega
    subst hin
    have b0 := bS (t - s) (by omega)
    obtain ⟨u, hu⟩ : ∃ u, u = sm S s (t - s) := ⟨_, rfl⟩
    rw [← hu] at b0 ⊢
    cases q with
    | zero =>
      have hBu : Bv = u := by
        rw [hB, hu, hS, hr]
        have h1 := sm_sum (g := rf f.r f.sides 0) (s := sideAt f.sides 0) (u := fun _ => ⟨0, 0⟩) (b := s) (c := 0) (n := t - s) fun k hk => by rw [rf_zero (by omega)]; simp
        have h2 : ∀ n, sm (fun _ => (⟨0, 0⟩ : Bd)) 0 n = ⟨0, 0⟩ := fun n => by
          induction n with
          | zero => rfl
          | succ n ih => rw [sm, ih]; rfl
        rw [h2] at h1
        simp only [Int.add_zero] at h1
        generalize sm (rf f.r f.sides 0) s (t - s) = P at *
        generalize sm (sideAt f.sides 0) s (t - s) = Q at *
        obtain ⟨a1, a2⟩ := P; obtain ⟨b1, b2⟩ := Q
        simp only [Bd.mk.injEq] at h1 ⊢
        exact h1
      rw [hBu]
      simp -dsimp -implicitDefEqProofs
      refine onCall_in (known_fn.beside rfl _) ?_
      simp -dsimp -implicitDefEqProofs
    | succ p =>
      have p1 : p < f.r.rs.length := by omega
      obtain ⟨y, hy⟩ : ∃ y, f.r.rs[p]? = some y := ⟨_, List.getElem?_eq_getElem p1⟩
      have hdy := (validR_parts ((List.all_eq_true.1 g.rv) y (List.mem_of_getElem? hy))).2.1
      obtain ⟨dl, hdl⟩ : ∃ k : Nat, y.delay = k := ⟨y.delay.toNat, by omega⟩
      have hdo : delayOf f.r p = dl := by rw [delayOf, hy]; exact hdl
      have qz : ((p : Int) + 1 == 0) = false := beq_eq_false_iff_ne.2 (by omega)
      have wp : IntKind.i64.wrap ((p : Int) + 1 - 1) = (p : Int) := by rw [wrap_in (by omega) (by omega)]; omega
      have wp' : IntKind.i64.wrap (p : Int) = (p : Int) := wrap_in (by omega) (by omega)
      have hSk : ∀ k : Nat, (r (p + 1) (s + k)).lo = (S (s + k)).lo + (r p (s + k - dl)).lo ∧ (r (p + 1) (s + k)).hi = (S (s + k)).hi + (r p (s + k - dl)).hi := fun k => by
        rw [hr, hS, rf_succ (by omega), hdo]; exact ⟨rfl, rfl⟩
      simp -dsimp -implicitDefEqProofs [qz, wp, wp', hy, hdl]
      refine ifD_in (fun h1 => ?_) (fun h1 => ?_)
      · have hle := sm_le (g := r (p + 1)) (s := S) (b := s) (n := t - s) fun k hk => by
          have h2 := hSk k
          have h3 := rf_ok g p (s + k - dl)
          rw [← hr] at h3
          omega
        rw [← hB, ← hu] at hle
        have v5 : decide (u.lo ≤ Bv.lo) = true := decide_eq_true hle.1
        have v6 : decide (u.hi ≤ Bv.hi) = true := decide_eq_true hle.2
        simp -dsimp -implicitDefEqProofs [v5, v6]
        refine onCall_in (known_fn.beside rfl _) ?_
        simp -dsimp -implicitDefEqProofs
      · have hds : dl ≤ s := by omega
        have hsum := sm_sum (g := r (p + 1)) (s := S) (u := r p) (b := s) (c := ((s - dl : Nat) : Int)) (n := t - s) fun k hk => by
          have h2 := hSk k
          rw [show ((s - dl : Nat) : Int) + (k : Int) = (s : Int) + k - dl by omega]
          exact h2
        rw [← hB, ← hu] at hsum
        have wa : IntKind.i64.wrap ((s : Int) - dl) = ((s - dl : Nat) : Int) := by rw [wrap_in (by omega) (by omega)]; omega
        have wb : IntKind.i64.wrap ((t : Int) - dl) = ((t - dl : Nat) : Int) := by rw [wrap_in (by omega) (by omega)]; omega
        have bV := big p (by omega) ((s - dl : Nat) : Int) (t - s) (by omega)
        obtain ⟨V, hV⟩ : ∃ V, V = sm (r p) ((s - dl : Nat) : Int) (t - s) := ⟨_, rfl⟩
        have cV : ∀ f1 f2 h, Fn Try.prog 35 [f.r.av f1, sidesAV f.sides f2, I p, I ((s - dl : Nat) : Int), I ((t - dl : Nat) : Int)] h (.tup [.agg [I V.lo, I V.hi], I 0]) h := fun f1 f2 h => by
          have := vol_fn (f1 := f1) (f2 := f2) (h := h) (a := p) (b := s - dl) (c := t - dl) g he (by omega) (by omega) (by omega)
          rw [show t - dl - (s - dl) = t - s by omega, ← hr, ← hV] at this
          exact this
        rw [← hV] at bV hsum
        have e1 : IntKind.i64.wrap (V.lo + u.lo) = Bv.lo := by rw [wrap_in (by omega) (by omega)]; omega
        have e2 : IntKind.i64.wrap (V.hi + u.hi) = Bv.hi := by rw [wrap_in (by omega) (by omega)]; omega
        obtain ⟨s', hs'⟩ : ∃ s', s' = s - dl := ⟨_, rfl⟩
        obtain ⟨t', ht'⟩ : ∃ t', t' = t - dl := ⟨_, rfl⟩
        rw [← hs'] at wa
        rw [← ht'] at wb
        rw [← hs', ← ht'] at cV
        simp -dsimp -implicitDefEqProofs
        refine DrawR.on {} (by kernel_rfl) (by simp) ?_
        simp -dsimp -implicitDefEqProofs
        refine onCallQ_in (copied_fn hw.r) ?_
        simp -dsimp -implicitDefEqProofs
        refine onCallQ_in (c0 _) ?_
        simp -dsimp -implicitDefEqProofs [wp, wp', wa, wb]
        refine onCallQ_in (cV _ _ _) ?_
        simp -dsimp -implicitDefEqProofs [e1, e2]
        refine onCall_in (known_fn.beside rfl _) ?_
        simp -dsimp -implicitDefEqProofs
end Go.Pe

namespace Go.Proofs.Ytblpmcmapadphaa
open Go Go.ChangeShapes Go.WideShapes Go.ChangeAt Go.RowKit
set_option linter.unusedVariables false
theorem own13 : ownKnob Try.prog.godebug = none := by kernel_rfl
set_option maxRecDepth 100000 in
theorem lifted13 (hlaw : ∀ ys, Go.Pe.TyVs Try.prog 20 [34, 106] ys → ∃ h', Go.Pe.Fn Try.prog 13 ys .nil (.val (.bool true)) h') (os : Os) (started : os.Started) (H : Type) (enc : TypeId × Value → H) :
    ReturnsInHanded {} Try.checked os 13 .any (Rows.riverKeepsSpec.pre6 enc Try.prog Try.f13 Rows.riverKeepsRow.domain false) (Rows.riverKeepsSpec.post enc Try.prog Try.f13 false true false false) := by
  refine returnsInHanded_of_change (C := Try.checked) own13 started (by kernel_rfl) Try.func13
    (ChangeSpec.witness6 (enc := enc) (C := Try.checked) false ⟨#[], #[.agg #[.slice none 0 0, .slice none 0 0, .slice none 0 0], .agg #[.int .u16 0, .int .u16 0, .int .u16 0]], []⟩ 8 (by kernel_rfl) (by kernel_rfl) (by kernel_rfl) (by kernel_rfl)) ?_
  intro W base args ds gs before hval hW _ _
  exact Go.Pe.law_contract (s := Rows.riverKeepsSpec) (ts := [34, 106]) (tb := 4) 20 (by rw [Try.params13]) (by kernel_rfl) (by kernel_rfl) (by kernel_rfl) (by kernel_rfl) Try.underlying4 rfl
    (fun ds hd => by match ds, hd with | [d1, d2], _ => rfl) hlaw W base args ds gs before hval hW
theorem holds13 (hlaw : ∀ ys, Go.Pe.TyVs Try.prog 20 [34, 106] ys → ∃ h', Go.Pe.Fn Try.prog 13 ys .nil (.val (.bool true)) h') : Rows.RiverKeepsSaid :=
  OpenClaim.holds_of_wide 13 Try.f13 rfl rfl rfl rfl rfl rfl rfl ⟨rfl, rfl, rfl, rfl, rfl⟩ rfl rfl rfl rfl rfl (by kernel_rfl) Try.func13 (by kernel_rfl)
    (of_decide_eq_true (by kernel_rfl)) (by unfold Func.isWrapper; first | (rw [if_pos (by decide +kernel)]; kernel_rfl) | (rw [if_neg (by decide +kernel)]; exact ⟨rfl, rfl⟩))
    (fun os started H enc _ => lifted13 hlaw os started H enc)
end Go.Proofs.Ytblpmcmapadphaa
