import Derived.Test.YtblpmcmapadphabA25
import Derived.Test.YtblpmcmapadphabA14
import Derived.Test.YtblpmcmapadphabA23
set_option linter.unusedVariables false
set_option linter.unusedSimpArgs false
/- The law RiverShallow. -/
namespace Go.Pe
open Go Go.Proofs Go.Proofs.Ytblpmcmapadphab
set_option maxRecDepth 20000
set_option maxHeartbeats 8000000
theorem neq77 {a b c a' b' c' : Int} {k : TK} {s : Nat} {z : List Value} {a1 f : Bool} {by' : Nat} : binX Try.prog 41 { kind := k, size := s, zero := z, agg := a1, bytes := by', fok := f, cmp := true } .neq (.agg [I a, I b, I c]) (.agg [I a', I b', I c']) = some (B (!(a == a' && ((b == b' && (c == c' && true)) && true)))) := by kernel_rfl
attribute [local simp] neq77
theorem rv_of_start {f : Fc} (h : startE f = 0) : validRv f.r = true := by
  unfold startE at h
  split at h
  · assumption
  · omega
theorem rs_cases {f : Fc} {way : List Ps} (hw : SmallF f) (hl : way.length ≤ 1000) : ∃ a b c d e : Int, (∀ f1 f2 h, Fn Try.prog 6 [f.r.av f1, sidesAV f.sides f2, .ro false 3 (way.map fPs)] h (.tup [.agg [I a, I b], I c, I d, I e]) h) ∧
    ((startE f ≠ 0 ∧ a = 0 ∧ b = 0 ∧ c = 0 ∧ d = 0 ∧ e = startE f) ∨ (startE f = 0 ∧ OkRv f ∧ wayE f.r.rs (hrs f.sides) way ≠ 0 ∧ a = 0 ∧ b = 0 ∧ c = 0 ∧ d = 0 ∧ e = wayE f.r.rs (hrs f.sides) way) ∨
      (startE f = 0 ∧ OkRv f ∧ wayE f.r.rs (hrs f.sides) way = 0 ∧ a = (shF (passD f way) way.length).lo ∧ b = (shF (passD f way) way.length).hi ∧ c = (shF (passD f way) way.length).pass ∧ d = (shF (passD f way) way.length).hour ∧ e = 0)) := by
  by_cases he : startE f = 0
  · have g := good_of hw he
    have o : OkRv f := okRv_of (rv_of_start he)
    by_cases hE : wayE f.r.rs (hrs f.sides) way = 0
    · exact ⟨_, _, _, _, _, fun f1 f2 h => Shallowest_fn g o he hE, .inr (.inr ⟨he, o, hE, rfl, rfl, rfl, rfl, rfl⟩)⟩
    · exact ⟨_, _, _, _, _, fun f1 f2 h => Shallowest_err g o he hl hE, .inr (.inl ⟨he, o, hE, rfl, rfl, rfl, rfl, rfl⟩)⟩
  · exact ⟨_, _, _, _, _, fun f1 f2 h => Shallowest_bad hw he, .inl ⟨he, rfl, rfl, rfl, rfl, rfl⟩⟩
end Go.Pe

/- Whether the program accepts a forecast; sums of flows. -/
namespace Go.Pe
open Go Go.Proofs Go.Proofs.Ytblpmcmapadphab
set_option maxRecDepth 20000
set_option maxHeartbeats 8000000

open Classical in
noncomputable def okF (f : Fc) : Bool := decide (SmallF f ∧ startE f = 0)
theorem okF_iff {f : Fc} : okF f = true ↔ SmallF f ∧ startE f = 0 := by simp [okF]
theorem okF_not {f : Fc} (h : SmallF f → startE f = 0 → False) : okF f = false := by
  rw [Bool.eq_false_iff]; intro hh; exact h (okF_iff.1 hh).1 (okF_iff.1 hh).2
noncomputable abbrev Fc.av (f : Fc) : AV := .agg [f.r.reaches false, f.r.shoals, sidesAV f.sides false]
theorem validF_fn {f : Fc} {h : H} : Fn Try.prog 4 [f.av] h (B (okF f)) h := by
  refine Fn.beside ?_ rfl h
  refine Fn.ofR0 noM (by kernel_rfl) Try.func4 rfl (by simp) ?_
  simp -dsimp -implicitDefEqProofs
  refine onCall_in large_fn ?_
  simp -dsimp -implicitDefEqProofs
  refine ifB_in (fun h1 => ?_) (fun h1 => ?_)
  · have e : okF f = false := okF_not fun hw _ => by rw [big_not hw] at h1; cases h1
    simp -dsimp -implicitDefEqProofs [e]
  have hw := small_of h1
  have hn := hw.n
  have hc := hw.c
  have hrn := hw.r.n
  simp -dsimp -implicitDefEqProofs
  refine ifD_in (fun h2 => ?_) (fun h2 => ?_)
  · have e : okF f = false := okF_not fun hw he => by have := (good_of hw he).pos; omega
    simp -dsimp -implicitDefEqProofs [e]
  have hrp : 0 < f.r.rs.length := by omega
  simp -dsimp -implicitDefEqProofs
  by_cases h3 : f.sides.length = f.r.rs.length
  rotate_left
  · have e : okF f = false := okF_not fun hw he => h3 (good_of hw he).eq
    have n1 : ((f.sides.length : Int) != f.r.rs.length) = true := by simp; omega
    simp -dsimp -implicitDefEqProofs [e, n1]
  have n1 : ((f.sides.length : Int) != f.r.rs.length) = false := by simp [h3]
  have hpos2 : 0 < f.sides.length := by omega
  have hx0 := List.getElem?_eq_getElem hpos2
  have hh : f.sides[0].length = hrs f.sides := by simp [hrs, List.headD_eq_head?_getD, List.head?_eq_getElem?, hx0]
  have hcm := hc _ (List.getElem_mem hpos2)
  simp -dsimp -implicitDefEqProofs [n1, hx0, hh]
  refine ifD_in (fun h4 => ?_) (fun h4 => ?_)
  · have e : okF f = false := okF_not fun hw he => by have := (good_of hw he).hpos; omega
    simp -dsimp -implicitDefEqProofs [e]
  have hhp : 0 < hrs f.sides := by omega
  simp -dsimp -implicitDefEqProofs
  refine onCall_in (copied_fn hw.r) ?_
  simp -dsimp -implicitDefEqProofs
  refine onCall_in (Check_fn hw.r) ?_
  cases hV : validRv f.r with
  | false =>
    have e : okF f = false := okF_not fun hw he => by have := rv_of_start he; rw [hV] at this; cases this
    simp -dsimp -implicitDefEqProofs [e]
  | true =>
    simp -dsimp -implicitDefEqProofs
    refine LoopCR.on 98 (fun i => [(1, .ptr 0 0), (3, I (i : Nat))])
      (fun _ => [some [f.r.reaches false, f.r.shoals, sidesAV f.sides false]]) (fun i => i ≤ f.sides.length ∧ ∀ l ∈ f.sides.take i, l.length = hrs f.sides ∧ ∀ b ∈ l, vB 0 10000000000 b = true) (fun i => f.sides.length - i) 0 [0] ⟨by omega, by simp⟩ ?_ ?_
    · simp -dsimp -implicitDefEqProofs
    intro i j hI
    obtain ⟨hi, hpre⟩ := hI
    simp -dsimp -implicitDefEqProofs
    refine ifD_in (fun hlt => ?_) (fun hge => ?_)
    · have hlt' : i < f.sides.length := by omega
      obtain ⟨l, hl⟩ : ∃ l, f.sides[i]? = some l := ⟨_, List.getElem?_eq_getElem hlt'⟩
      have hmem := List.mem_of_getElem? hl
      have hlc := hc l hmem
      have wi : IntKind.i64.wrap ((i : Int) + 1) = ((i + 1 : Nat) : Int) := by rw [wrap_in (by omega) (by omega)]; omega
      simp -dsimp -implicitDefEqProofs
      refine DrawR.on {} (by kernel_rfl) (by simp) ?_
      by_cases h5 : l.length = hrs f.sides
      rotate_left
      · have e : okF f = false := okF_not fun hw he => h5 ((good_of hw he).lens l hmem)
        have n2 : ((l.length : Int) != hrs f.sides) = true := by simp; omega
        simp -dsimp -implicitDefEqProofs [hl, hx0, hh, n2, e]
      have n2 : ((l.length : Int) != hrs f.sides) = false := by simp [h5]
      simp -dsimp -implicitDefEqProofs [hl, hx0, hh, n2]
      refine LoopCR.on 98 (fun k => [(1, .ptr 0 0), (3, I (i : Nat)), (4, I (k : Nat))])
        (fun _ => [some [f.r.reaches false, f.r.shoals, sidesAV f.sides false]]) (fun k => k ≤ l.length ∧ ∀ b ∈ l.take k, vB 0 10000000000 b = true) (fun k => l.length - k) 0 [0] ⟨by omega, by simp⟩ ?_ ?_
      · simp -dsimp -implicitDefEqProofs
      intro k j hK
      obtain ⟨hk, hkp⟩ := hK
      simp -dsimp -implicitDefEqProofs [hl]
      refine ifD_in (fun hlk => ?_) (fun hgk => ?_)
      · have hlk' : k < l.length := by omega
        obtain ⟨b, hb⟩ : ∃ b, l[k]? = some b := ⟨_, List.getElem?_eq_getElem hlk'⟩
        have wk : IntKind.i64.wrap ((k : Int) + 1) = ((k + 1 : Nat) : Int) := by rw [wrap_in (by omega) (by omega)]; omega
        have bad : vB 0 10000000000 b = false → okF f = false := fun hv => okF_not fun hw he => by
          have := (good_of hw he).oks l hmem b (List.mem_of_getElem? hb)
          rw [hv] at this; cases this
        have nv : ¬ (b.lo ≤ b.hi ∧ (0 ≤ b.lo ∧ b.lo ≤ 10000000000) ∧ 0 ≤ b.hi ∧ b.hi ≤ 10000000000) → okF f = false := fun hv => bad (by rw [Bool.eq_false_iff]; intro hh; exact hv (vB_iff.1 hh))
        simp -dsimp -implicitDefEqProofs [hl, hb]
        refine ifD_in (fun g1 => ?_) (fun g1 => ?_)
        · have e := nv (by omega)
          simp -dsimp -implicitDefEqProofs [e]
        simp -dsimp -implicitDefEqProofs
        refine ifD_in (fun g2 => ?_) (fun g2 => ?_)
        · have e := nv (by omega)
          simp -dsimp -implicitDefEqProofs [e]
        simp -dsimp -implicitDefEqProofs
        refine ifD_in (fun g3 => ?_) (fun g3 => ?_)
        · have e := nv (by omega)
          simp -dsimp -implicitDefEqProofs [e]
        simp -dsimp -implicitDefEqProofs [wk]
        refine again_in (k + 1) [0] ⟨by omega, ?_⟩ (by omega) ?_
        · rw [List.take_add_one, hb]
          intro x hx
          simp only [Option.toList_some, List.mem_append, List.mem_singleton] at hx
          rcases hx with hx | rfl
          · exact hkp x hx
          · exact vB_iff.2 (by omega)
        simp -dsimp -implicitDefEqProofs
      · have hin : k = l.length := by omega
        subst hin
        rw [List.take_length] at hkp
        simp -dsimp -implicitDefEqProofs [wi]
        refine again_in (i + 1) [0] ⟨by omega, ?_⟩ (by omega) ?_
        · rw [List.take_add_one, hl]
          intro x hx
          simp only [Option.toList_some, List.mem_append, List.mem_singleton] at hx
          rcases hx with hx | rfl
          · exact hpre x hx
          · exact ⟨h5, hkp⟩
        simp -dsimp -implicitDefEqProofs
    · have hin : i = f.sides.length := by omega
      subst hin
      rw [List.take_length] at hpre
      have a1 : lens f.sides = true := by
        rw [lens, List.all_eq_true]; intro l hl; simp [(hpre l hl).1]
      have a2 : oks f.sides = true := by
        rw [oks, List.all_eq_true]; intro l hl; rw [List.all_eq_true]; exact (hpre l hl).2
      have e : okF f = decide ((hrs f.sides : Int) ≤ 400) := by
        by_cases h6 : hrs f.sides ≤ 400
        · rw [decide_eq_true (by omega), okF_iff]
          refine ⟨hw, ?_⟩
          simp only [startE, hV, if_true, h3, a1, a2]
          rw [if_neg (by omega), if_neg (by omega)]
        · rw [decide_eq_false (by omega)]
          exact okF_not fun hw he => by have := (good_of hw he).hmax; omega
      simp -dsimp -implicitDefEqProofs [hx0, hh, e]
/-- Sums of flows. -/
def sm (g : Int → Bd) (b : Int) : Nat → Bd
  | 0 => ⟨0, 0⟩
  | n + 1 => ⟨(sm g b n).lo + (g (b + n)).lo, (sm g b n).hi + (g (b + n)).hi⟩
theorem sm_add {g : Int → Bd} {b : Int} {m : Nat} : ∀ {n : Nat}, (sm g b (m + n)).lo = (sm g b m).lo + (sm g (b + m) n).lo ∧ (sm g b (m + n)).hi = (sm g b m).hi + (sm g (b + m) n).hi
  | 0 => by simp [sm]
  | n + 1 => by
    have ih := sm_add (g := g) (b := b) (m := m) (n := n)
    have e : b + ((m + n : Nat) : Int) = b + (m : Int) + (n : Int) := by omega
    rw [show m + (n + 1) = (m + n) + 1 by omega, sm, sm, e]
    simp only
    omega
theorem sm_sum {g s u : Int → Bd} {b c : Int} : ∀ {n : Nat}, (∀ k : Nat, k < n → (g (b + k)).lo = (s (b + k)).lo + (u (c + k)).lo ∧ (g (b + k)).hi = (s (b + k)).hi + (u (c + k)).hi) → (sm g b n).lo = (sm s b n).lo + (sm u c n).lo ∧ (sm g b n).hi = (sm s b n).hi + (sm u c n).hi
  | 0, _ => by simp [sm]
  | n + 1, h => by
    have ih := sm_sum (g := g) (s := s) (u := u) (b := b) (c := c) (n := n) fun k hk => h k (by omega)
    have := h n (by omega)
    simp only [sm]
    omega
theorem sm_le {g s : Int → Bd} {b : Int} : ∀ {n : Nat}, (∀ k : Nat, k < n → (s (b + k)).lo ≤ (g (b + k)).lo ∧ (s (b + k)).hi ≤ (g (b + k)).hi) → (sm s b n).lo ≤ (sm g b n).lo ∧ (sm s b n).hi ≤ (sm g b n).hi
  | 0, _ => by simp [sm]
  | n + 1, h => by
    have ih := sm_le (g := g) (s := s) (b := b) (n := n) fun k hk => h k (by omega)
    have := h n (by omega)
    simp only [sm]
    omega
theorem sm_in {g : Int → Bd} {b : Int} {m : Int} : ∀ {n : Nat}, (∀ k : Nat, k < n → 0 ≤ (g (b + k)).lo ∧ (g (b + k)).lo ≤ (g (b + k)).hi ∧ (g (b + k)).hi ≤ m) → 0 ≤ (sm g b n).lo ∧ (sm g b n).lo ≤ (sm g b n).hi ∧ (sm g b n).hi ≤ n * m
  | 0, _ => by simp [sm]
  | n + 1, h => by
    have ih := sm_in (g := g) (b := b) (m := m) (n := n) fun k hk => h k (by omega)
    have := h n (by omega)
    simp only [sm]
    rw [show ((n + 1 : Nat) : Int) * m = n * m + m by rw [show ((n + 1 : Nat) : Int) = (n : Int) + 1 by omega, Int.add_mul, Int.one_mul]]
    omega
theorem total_sm {g : Int → Bd} {b : Int} : ∀ {n : Nat} {l : List Bd}, l.length = n → (∀ k : Nat, k < n → l[k]? = some (g (b + k))) → total l = sm g b n
  | 0, l, hl, _ => by rw [List.length_eq_zero_iff.1 hl]; rfl
  | n + 1, l, hl, h => by
    have e : l = l.take n ++ [g (b + n)] := by
      have := List.take_append_getElem (l := l) (i := n) (by omega)
      have h2 := h n (by omega)
      rw [List.getElem?_eq_getElem (by omega)] at h2
      rw [Option.some.inj h2] at this
      rw [this, List.take_of_length_le (by omega)]
    rw [e, total_snoc, total_sm (n := n) (g := g) (b := b) (by simp; omega) (fun k hk => by rw [List.getElem?_take, if_pos hk]; exact h k (by omega))]
    rfl
/-- Flows: none below 0, and none with its ends the wrong way round. -/
theorem sideAt_ok {f : Fc} (g : GoodF f) {i : Nat} {h : Int} : 0 ≤ (sideAt f.sides i h).lo ∧ (sideAt f.sides i h).lo ≤ (sideAt f.sides i h).hi ∧ (sideAt f.sides i h).hi ≤ 10000000000 := by
  unfold sideAt
  cases hl : f.sides[i]? with
  | none => simp
  | some l =>
    simp only [Option.getD_some]
    rw [List.getD_eq_getElem?_getD]
    cases hb : l[h.toNat]? with
    | none => simp
    | some b =>
      have := vB_iff.1 (g.oks l (List.mem_of_getElem? hl) b (List.mem_of_getElem? hb))
      simp only [Option.getD_some]; omega
theorem baseOf_ok {f : Fc} (g : GoodF f) {i : Nat} : 0 ≤ (baseOf f.r i).lo ∧ (baseOf f.r i).lo ≤ (baseOf f.r i).hi ∧ (baseOf f.r i).hi ≤ 10000000000 := by
  unfold baseOf
  cases hx : f.r.rs[i]? with
  | none => simp
  | some x =>
    have := vB_iff.1 (validR_parts ((List.all_eq_true.1 g.rv) x (List.mem_of_getElem? hx))).2.2.1
    simp only [Option.map_some, Option.getD_some]; omega
theorem rf_ok {f : Fc} (g : GoodF f) : ∀ (i : Nat) (h : Int), 0 ≤ (rf f.r f.sides i h).lo ∧ (rf f.r f.sides i h).lo ≤ (rf f.r f.sides i h).hi ∧ (rf f.r f.sides i h).hi ≤ (i + 1) * 10000000000
  | i, h => by
    by_cases hh : h < 0
    · rw [rf_neg hh]
      have := baseOf_ok g (i := i)
      have : (1 : Int) * 10000000000 ≤ (i + 1) * 10000000000 := Int.mul_le_mul_of_nonneg_right (by omega) (by omega)
      omega
    · cases i with
      | zero => rw [rf_zero hh]; have := sideAt_ok g (i := 0) (h := h); simp; omega
      | succ i =>
        rw [rf_succ hh]
        have h1 := sideAt_ok g (i := i + 1) (h := h)
        have h2 := rf_ok g i (h - delayOf f.r i)
        simp only
        rw [show ((i + 1 : Nat) : Int) = (i : Int) + 1 by omega, Int.add_mul ((i : Int) + 1)]
        omega
end Go.Pe

/- The arithmetic of the law RiverWays. -/
namespace Go.Pe
open Go Go.Proofs Go.Proofs.Ytblpmcmapadphab
set_option maxRecDepth 20000

theorem firstE_73 {rs : List Rc} {n : Int} : ∀ {l : List Ps}, firstE rs n l ≠ 0 → firstE rs n l = 7 ∨ firstE rs n l = 3
  | [], h => absurd rfl h
  | p :: l, h => by
    rw [firstE] at h ⊢
    split
    · rename_i h0
      rw [if_pos h0] at h
      exact firstE_73 h
    · unfold passE
      split
      · split
        · rename_i h0 h1 h2; exact absurd (by simp [passE, h1, h2]) h0
        · exact .inr rfl
      · exact .inl rfl
/-- At no hour is the depth less than the least of all, nor more than the greatest; both are reached, the least first at the hour that is told. -/
theorem dsF_at' {d : Int → Bd} {lo : Int} : ∀ {n k : Nat}, k ≤ n → (dsF d lo n).1.lo ≤ (d (lo + k)).lo ∧ (d (lo + k)).hi ≤ (dsF d lo n).1.hi
  | 0, k, h => by
    obtain rfl : k = 0 := by omega
    rw [show lo + ((0 : Nat) : Int) = lo by omega]
    exact ⟨Int.le_refl _, Int.le_refl _⟩
  | n + 1, k, h => by
    by_cases hk : k = n + 1
    · subst hk
      rw [show lo + ((n + 1 : Nat) : Int) = lo + ((n : Int) + 1) by omega]
      simp only [dsF]
      generalize d (lo + ((n : Int) + 1)) = x
      split <;> omega
    · have ih := dsF_at' (d := d) (lo := lo) (n := n) (k := k) (by omega)
      simp only [dsF]
      generalize d (lo + ((n : Int) + 1)) = x
      split <;> omega
theorem dsF_lo {d : Int → Bd} {lo : Int} : ∀ {n : Nat}, ∃ k, k ≤ n ∧ (dsF d lo n).2 = lo + k ∧ (d (lo + k)).lo = (dsF d lo n).1.lo ∧ ∀ m : Nat, m < k → (dsF d lo n).1.lo < (d (lo + m)).lo
  | 0 => ⟨0, by omega, by simp [dsF], by simp [dsF], by intro m hm; omega⟩
  | n + 1 => by
    obtain ⟨k, h1, h2, h3, h4⟩ := dsF_lo (d := d) (lo := lo) (n := n)
    by_cases hc : (d (lo + ((n : Int) + 1))).lo < (dsF d lo n).1.lo
    · refine ⟨n + 1, by omega, ?_, ?_, fun m hm => ?_⟩
      · simp only [dsF, if_pos hc]; omega
      · rw [show lo + ((n + 1 : Nat) : Int) = lo + ((n : Int) + 1) by omega]
        simp only [dsF, if_pos hc]
      · have := (dsF_at' (d := d) (lo := lo) (n := n) (k := m) (by omega)).1
        simp only [dsF, if_pos hc]
        omega
    · refine ⟨k, by omega, ?_, ?_, fun m hm => ?_⟩
      · simp only [dsF, if_neg hc]; exact h2
      · simp only [dsF, if_neg hc]; exact h3
      · simp only [dsF, if_neg hc]; exact h4 m hm
theorem dsF_hi {d : Int → Bd} {lo : Int} : ∀ {n : Nat}, ∃ k, k ≤ n ∧ (d (lo + k)).hi = (dsF d lo n).1.hi
  | 0 => ⟨0, by omega, by simp [dsF]⟩
  | n + 1 => by
    obtain ⟨k, h1, h2⟩ := dsF_hi (d := d) (lo := lo) (n := n)
    by_cases hc : (dsF d lo n).1.hi ≤ (d (lo + ((n : Int) + 1))).hi
    · refine ⟨n + 1, by omega, ?_⟩
      rw [show lo + ((n + 1 : Nat) : Int) = lo + ((n : Int) + 1) by omega]
      simp only [dsF]; omega
    · exact ⟨k, by omega, by simp only [dsF]; omega⟩
theorem shF_le {D : Nat → Bd × Int} : ∀ {n : Nat}, (shF D n).lo ≤ 1000000 ∧ (shF D n).hi ≤ 1000000
  | 0 => by simp [shF]
  | n + 1 => by
    have ih := shF_le (D := D) (n := n)
    simp only [shF, shS]
    refine ⟨?_, ?_⟩ <;> split <;> omega
theorem shF_at {D : Nat → Bd × Int} : ∀ {n i : Nat}, i < n → (shF D n).lo ≤ (D i).1.lo ∧ (shF D n).hi ≤ (D i).1.hi
  | 0, i, h => by omega
  | n + 1, i, h => by
    simp only [shF, shS]
    by_cases hi : i = n
    · subst hi
      refine ⟨?_, ?_⟩ <;> split <;> omega
    · have ih := shF_at (D := D) (n := n) (i := i) (by omega)
      refine ⟨?_, ?_⟩ <;> split <;> omega
theorem shF_lo {D : Nat → Bd × Int} : ∀ {n : Nat}, (∀ i, i < n → (D i).1.lo ≤ 200000) → 0 < n → ∃ i : Nat, i < n ∧ (shF D n).pass = i ∧ (shF D n).hour = (D i).2 ∧ (D i).1.lo = (shF D n).lo ∧ ∀ m : Nat, m < i → (shF D n).lo < (D m).1.lo
  | 0, _, h => by omega
  | n + 1, hD, _ => by
    have hn := hD n (by omega)
    by_cases hn0 : n = 0
    · subst hn0
      have hc : (D 0).1.lo < 1000000 := by omega
      exact ⟨0, by omega, by simp [shF, shS, hc], by simp [shF, shS, hc], by simp [shF, shS, hc], by intro m hm; omega⟩
    · obtain ⟨i, h1, h2, h3, h4, h5⟩ := shF_lo (D := D) (n := n) (fun i hi => hD i (by omega)) (by omega)
      by_cases hc : (D n).1.lo < (shF D n).lo
      · refine ⟨n, by omega, by simp [shF, shS, hc], by simp [shF, shS, hc], by simp [shF, shS, hc], fun m hm => ?_⟩
        have := (shF_at (D := D) (n := n) (i := m) hm).1
        simp only [shF, shS, if_pos hc]; omega
      · exact ⟨i, by omega, by simp [shF, shS, hc, h2], by simp [shF, shS, hc, h3], by simp [shF, shS, hc, h4], fun m hm => by simp only [shF, shS, if_neg hc]; exact h5 m hm⟩
theorem shF_hi {D : Nat → Bd × Int} : ∀ {n : Nat}, (∀ i, i < n → (D i).1.hi ≤ 200000) → 0 < n → ∃ i : Nat, i < n ∧ (D i).1.hi = (shF D n).hi
  | 0, _, h => by omega
  | n + 1, hD, _ => by
    have hn := hD n (by omega)
    by_cases hn0 : n = 0
    · subst hn0
      have hc : (D 0).1.hi < 1000000 := by omega
      exact ⟨0, by omega, by simp [shF, shS, hc]⟩
    · obtain ⟨i, h1, h2⟩ := shF_hi (D := D) (n := n) (fun i hi => hD i (by omega)) (by omega)
      by_cases hc : (D n).1.hi < (shF D n).hi
      · exact ⟨n, by omega, by simp [shF, shS, hc]⟩
      · exact ⟨i, by omega, by simp [shF, shS, hc, h2]⟩
/-- The least depth of two parts. -/
theorem shF_split {D : Nat → Bd × Int} {a : Nat} : ∀ {b : Nat}, (shF D (a + b)).lo = min (shF D a).lo (shF (fun i => D (a + i)) b).lo ∧ (shF D (a + b)).hi = min (shF D a).hi (shF (fun i => D (a + i)) b).hi
  | 0 => by
    have := shF_le (D := D) (n := a)
    simp only [Nat.add_zero, shF]; omega
  | b + 1 => by
    have ih := shF_split (D := D) (a := a) (b := b)
    rw [show a + (b + 1) = (a + b) + 1 by omega]
    simp only [shF, shS]
    refine ⟨?_, ?_⟩ <;> (repeat' split) <;> omega
theorem shF_congr {D D' : Nat → Bd × Int} : ∀ {n : Nat}, (∀ i, i < n → D i = D' i) → shF D n = shF D' n
  | 0, _ => rfl
  | n + 1, h => by
    rw [shF, shF, shF_congr (n := n) fun i hi => h i (by omega), h n (by omega)]
theorem passD_take {f : Fc} {way : List Ps} {a i : Nat} (h : i < a) : passD f (way.take a) i = passD f way i := by
  rw [passD, passD, List.getElem?_take, if_pos h]
theorem passD_drop {f : Fc} {way : List Ps} {a i : Nat} : passD f (way.drop a) i = passD f way (a + i) := by
  rw [passD, passD, List.getElem?_drop]
theorem firstE_all {rs : List Rc} {n : Int} {l : List Ps} (h : ∀ p ∈ l, passE rs n p = 0) (h0 : l.length ≠ 0) (h6 : l.length ≤ 60) : wayE rs n l = 0 := by
  rw [wayE, if_neg h0, if_neg (by omega), firstE_ok h]
/-- A pass with more hours. -/
def wider (n : Int) (c d : Int) (p : Ps) : Ps := ⟨p.place, ⟨max 0 (p.hours.lo - c), min (n - 1) (p.hours.hi + d)⟩⟩
theorem wider_ok {rs : List Rc} {n c d : Int} {p : Ps} (h : passE rs n p = 0) (hc : 0 ≤ c) (hd : 0 ≤ d) : passE rs n (wider n c d p) = 0 := by
  unfold passE at h ⊢
  split at h
  · rename_i h1
    split at h
    · rename_i h2
      have h3 := vB_iff.1 h2
      have e1 : (wider n c d p).place = p.place := rfl
      rw [e1, if_pos h1, if_pos (vB_iff.2 (by simp only [wider]; omega))]
    · omega
  · omega
theorem wider_D {f : Fc} {way : List Ps} {n : Nat} {c d : Int} {i : Nat} {p : Ps} (hp : way[i]? = some p) (hv : vB 0 ((n : Int) - 1) p.hours = true) (hc : 0 ≤ c) (hd : 0 ≤ d) :
    (passD f (way.map (wider n c d)) i).1.lo ≤ (passD f way i).1.lo ∧ (passD f way i).1.hi ≤ (passD f (way.map (wider n c d)) i).1.hi := by
  have h3 := vB_iff.1 hv
  have e1 : (way.map (wider n c d))[i]? = some (wider n c d p) := by rw [List.getElem?_map, hp]; rfl
  rw [passD, passD, hp, e1]
  simp only
  obtain ⟨k, k1, k2, k3, _⟩ := dsF_lo (d := dF f p.place) (lo := p.hours.lo) (n := (p.hours.hi - p.hours.lo).toNat)
  obtain ⟨m, m1, m2⟩ := dsF_hi (d := dF f p.place) (lo := p.hours.lo) (n := (p.hours.hi - p.hours.lo).toNat)
  have w1 : (wider n c d p).place = p.place := rfl
  have w2 : (wider n c d p).hours.lo = max 0 (p.hours.lo - c) := rfl
  have w3 : (wider n c d p).hours.hi = min ((n : Int) - 1) (p.hours.hi + d) := rfl
  obtain ⟨u, hu⟩ : ∃ u : Nat, p.hours.lo + k = (wider n c d p).hours.lo + u ∧ u ≤ ((wider n c d p).hours.hi - (wider n c d p).hours.lo).toNat := ⟨(p.hours.lo + k - (wider n c d p).hours.lo).toNat, by omega, by omega⟩
  obtain ⟨v, hv⟩ : ∃ v : Nat, p.hours.lo + m = (wider n c d p).hours.lo + v ∧ v ≤ ((wider n c d p).hours.hi - (wider n c d p).hours.lo).toNat := ⟨(p.hours.lo + m - (wider n c d p).hours.lo).toNat, by omega, by omega⟩
  have g1 := (dsF_at' (d := dF f p.place) (lo := (wider n c d p).hours.lo) (k := u) hu.2).1
  have g2 := (dsF_at' (d := dF f p.place) (lo := (wider n c d p).hours.lo) (k := v) hv.2).2
  rw [w1, ← k3, ← m2, hu.1, hv.1]
  exact ⟨g1, g2⟩
end Go.Pe

namespace Go.Pe
open Go Go.Proofs Go.Proofs.Ytblpmcmapadphab
set_option maxRecDepth 100000
theorem open_u8 {n : Nat} {xs : List AV} (h : TyC Try.prog (n + 1) 5 xs) : ∃ m, xs = [U m] ∧ 0 ≤ m ∧ m ≤ 255 := by
  obtain ⟨m, e, h1, h2⟩ := TyC_at ti5 h
  exact ⟨m, e, by simpa [IntKind.min, IntKind.signed] using h1, by simpa [IntKind.max, IntKind.signed, IntKind.bits] using h2⟩
theorem open_sk {n : Nat} {xs : List AV} (h : TyC Try.prog (n + 3) 56 xs) : ∃ b : Sk, xs = b.row := by
  obtain ⟨a, r, rfl, _, h1, a', r', rfl, _, h2, rfl⟩ := TyC_at ti54 h
  obtain ⟨m, rfl⟩ := open_bd h1
  obtain ⟨k, rfl⟩ := open_bd h2
  exact ⟨⟨m, k⟩, rfl⟩
theorem open_ct {n : Nat} {xs : List AV} (h : TyC Try.prog (n + 3) 54 xs) : ∃ c : Ct, AV.agg xs = c.av := by
  obtain ⟨a, r, rfl, _, h1, a', r', rfl, _, h2, a'', r'', rfl, _, h3, a3, r3, rfl, _, h4, rfl⟩ := TyC_at ti48 h
  obtain ⟨m, rfl⟩ := open_i64 h1
  obtain ⟨k, rfl⟩ := open_i64 h2
  obtain ⟨l, rfl⟩ := open_i64 h3
  obtain ⟨b, rfl⟩ := open_bd h4
  exact ⟨⟨m, k, l, b⟩, rfl⟩
theorem open_sky {n : Nat} {xs : List AV} (h : TyC Try.prog (n + 4) 57 xs) : ∃ l : List Sk, xs = [.ro false 4 (l.map Sk.row)] ∧ l.length ≤ maxLen := by
  obtain ⟨rows, rfl, h1, h2⟩ := TyC_at ti49 h
  obtain ⟨l, rfl, h3⟩ := rows_map Sk.row (fun _ => True) (rows := rows) (fun r hr => (open_sk (h2 r hr).2).imp fun _ h => ⟨h, trivial⟩)
  exact ⟨l, by rw [show Try.prog.cellsOf 56 = 4 by kernel_rfl], by simpa using h1⟩
theorem rr_args {ys : List AV} (h : TyVs Try.prog 20 [54, 57] ys) : ∃ (c : Ct) (sky : List Sk), ys = [c.av, .ro false 4 (sky.map Sk.row)] ∧ sky.length ≤ maxLen := by
  obtain ⟨y1, z1, rfl, v1, y2, z2, rfl, v2, rfl⟩ := h
  obtain ⟨x1, rfl, w1⟩ := TyV_st (by kernel_rfl) v1
  have v2 := TyV_one (by kernel_rfl) v2
  obtain ⟨c, e1⟩ := open_ct w1
  obtain ⟨sky, e2, hl⟩ := open_sky v2
  exact ⟨c, sky, by rw [e1]; simpa using e2, hl⟩
end Go.Pe
