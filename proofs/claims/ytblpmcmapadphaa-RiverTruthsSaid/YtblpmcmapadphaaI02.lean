import Derived.Test.YtblpmcmapadphaaI01
import Derived.Test.YtblpmcmapadphaaF16
import Derived.Test.YtblpmcmapadphaaF18
import Derived.Test.YtblpmcmapadphaaF23
import Derived.Test.YtblpmcmapadphaaF24
set_option linter.unusedVariables false
set_option linter.unusedSimpArgs false
/- The reference's ways, and what is shallowest on them. -/
namespace Go.Pe
open Go Go.Proofs Go.Proofs.Ytblpmcmapadphaa
set_option maxRecDepth 20000
set_option maxHeartbeats 8000000

theorem Way_fn {r : Rv} {f1 fw : Bool} {n : Int} {way : List Ps} {h : H} (hl : ∀ x ∈ r.rs, 0 ≤ x.len ∧ x.len ≤ 5000) (hr : r.rs.length ≤ 25) (hn : 0 ≤ n ∧ n ≤ 1000) (hw : way.length ≤ 1000) :
    Fn Try.prog 44 [r.av f1, .ro fw 3 (way.map fPs), I n] h (I (wayE r.rs n way)) h := by
  refine Fn.beside ?_ rfl h
  refine Fn.ofR0 noM (by kernel_rfl) Try.func44 rfl (by simp) ?_
  have hb : ∀ x ∈ r.rs, x.len.natAbs ≤ 5000 := fun x hx => by have := hl x hx; omega
  have hls := lenSum_in hb r.rs.length (Nat.le_refl _)
  rw [List.take_length] at hls
  have w1 : IntKind.i64.wrap (n - 1) = n - 1 := wrap_in (by omega) (by omega)
  have w2 : IntKind.i64.wrap (lenSum r.rs - 1) = lenSum r.rs - 1 := wrap_in (by omega) (by omega)
  by_cases h0 : way.length = 0
  · have e : wayE r.rs n way = 4 := by rw [wayE, if_pos h0]
    have d0 : way = [] := List.length_eq_zero_iff.1 h0
    subst d0
    simp -dsimp -implicitDefEqProofs [e]
  have b0 : ((way.length : Int) == 0) = false := beq_eq_false_iff_ne.2 (by omega)
  by_cases h6 : 60 < way.length
  · have e : wayE r.rs n way = 5 := by rw [wayE, if_neg h0, if_pos h6]
    have d6 : decide ((60 : Int) < (way.length : Int)) = true := decide_eq_true (by omega)
    simp -dsimp -implicitDefEqProofs [e, b0, h0, d6]
  have e : wayE r.rs n way = firstE r.rs n way := by rw [wayE, if_neg h0, if_neg h6]
  have d6 : decide ((60 : Int) < (way.length : Int)) = false := decide_eq_false (by omega)
  rw [e]
  simp -dsimp -implicitDefEqProofs [b0, h0, d6]
  refine LoopCR.on 39 (fun i => [(1, .ro fw 3 (way.map fPs)), (2, I n), (3, .ptr 0 0), (7, I (i : Nat))])
    (fun i => [some [r.reaches f1, r.shoals]]) (fun i => i ≤ way.length ∧ ∀ k, k < i → ∀ q, way[k]? = some q → passE r.rs n q = 0) (fun i => way.length - i) 0 [0] ⟨by omega, by intro k hk; omega⟩ ?_ ?_
  · simp -dsimp -implicitDefEqProofs
  intro i j hI
  obtain ⟨hi, hpre⟩ := hI
  simp -dsimp -implicitDefEqProofs
  refine ifD_in (fun hlt => ?_) (fun hge => ?_)
  · have hlt' : i < way.length := by omega
    obtain ⟨p, hp⟩ : ∃ p, way[i]? = some p := ⟨_, List.getElem?_eq_getElem hlt'⟩
    simp -dsimp -implicitDefEqProofs
    refine DrawR.on {} (by kernel_rfl) (by simp) ?_
    simp -dsimp -implicitDefEqProofs [hp]
    refine onCallQ_in (Places_fn (by omega) (fun x hx => by have := hb x hx; omega)) ?_
    simp -dsimp -implicitDefEqProofs [w2]
    refine onCallQ_in In2_fn ?_
    cases hP : inB 0 (lenSum r.rs - 1) p.place with
    | false =>
      have hE : passE r.rs n p = 7 := by simp [passE, hP]
      have hF : firstE r.rs n way = 7 := by rw [firstE_hit hp hpre (by rw [hE]; decide), hE]
      simp -dsimp -implicitDefEqProofs [hP, hF]
    | true =>
      simp -dsimp -implicitDefEqProofs [hP, hp, w1]
      refine onCall_in Valid2_fn ?_
      cases hV : vB 0 (n - 1) p.hours with
      | false =>
        have hE : passE r.rs n p = 3 := by simp [passE, hP, hV]
        have hF : firstE r.rs n way = 3 := by rw [firstE_hit hp hpre (by rw [hE]; decide), hE]
        simp -dsimp -implicitDefEqProofs [hV, hF]
      | true =>
        have hE : passE r.rs n p = 0 := by simp [passE, hP, hV]
        simp -dsimp -implicitDefEqProofs [hV]
        refine again_in (i + 1) [0] ⟨by omega, fun k hk x hx => ?_⟩ (by omega) ?_
        · by_cases hki : k = i
          · subst hki; rw [hp] at hx; cases hx; exact hE
          · exact hpre k (by omega) x hx
        simp -dsimp -implicitDefEqProofs
        rw [wrap_in (by omega) (by omega)]
  · have hin : i = way.length := by omega
    subst hin
    have hF : firstE r.rs n way = 0 := firstE_ok fun p hp => by
      obtain ⟨k, hk, rfl⟩ := List.getElem_of_mem hp
      exact hpre k hk _ (List.getElem?_eq_getElem hk)
    simp -dsimp -implicitDefEqProofs [hF]

/-- The reference's search in the hours of a pass. -/
def rI (D : Int → Bd) (lo : Int) (i : Nat) (s : Sw) : Nat → Sw × Int
  | 0 => (s, 0)
  | m + 1 => (⟨if (dsF D lo m).1.lo < s.lo then (dsF D lo m).1.lo else s.lo, s.hi, if (dsF D lo m).1.lo < s.lo then i else s.pass, if (dsF D lo m).1.lo < s.lo then (dsF D lo m).2 else s.hour⟩, (dsF D lo m).1.hi)
theorem rI_hi {D : Int → Bd} {lo : Int} {i : Nat} {s : Sw} {m : Nat} : (rI D lo i s m).1.hi = s.hi := by cases m <;> rfl
theorem rI_step {D : Int → Bd} {lo : Int} {i : Nat} {s : Sw} {m : Nat} (h : 0 ≤ (D (lo + m)).hi) :
    rI D lo i s (m + 1) = (⟨if (D (lo + m)).lo < (rI D lo i s m).1.lo then (D (lo + m)).lo else (rI D lo i s m).1.lo, s.hi, if (D (lo + m)).lo < (rI D lo i s m).1.lo then i else (rI D lo i s m).1.pass, if (D (lo + m)).lo < (rI D lo i s m).1.lo then lo + m else (rI D lo i s m).1.hour⟩, max (rI D lo i s m).2 (D (lo + m)).hi) := by
  cases m with
  | zero =>
    have z : lo + ((0 : Nat) : Int) = lo := by omega
    rw [z] at h ⊢
    have e0 : rI D lo i s (0 + 1) = (⟨if (D lo).lo < s.lo then (D lo).lo else s.lo, s.hi, if (D lo).lo < s.lo then (i : Int) else s.pass, if (D lo).lo < s.lo then lo else s.hour⟩, (D lo).hi) := rfl
    have e1 : rI D lo i s 0 = (s, 0) := rfl
    have e : max 0 (D lo).hi = (D lo).hi := by omega
    rw [e0, e1]
    simp only [e]
  | succ m =>
    rw [show ((m + 1 : Nat) : Int) = (m : Int) + 1 by omega] at h ⊢
    have e : dsF D lo (m + 1) = (⟨if (D (lo + (m + 1))).lo < (dsF D lo m).1.lo then (D (lo + (m + 1))).lo else (dsF D lo m).1.lo, max (dsF D lo m).1.hi (D (lo + (m + 1))).hi⟩, if (D (lo + (m + 1))).lo < (dsF D lo m).1.lo then lo + (m + 1) else (dsF D lo m).2) := rfl
    rw [rI, e]
    simp only [rI]
    simp only [Prod.mk.injEq, Sw.mk.injEq, and_true, true_and]
    refine ⟨?_, ?_, ?_⟩ <;> (repeat' split) <;> first | rfl | omega
theorem rI_all {D : Int → Bd} {lo : Int} {i : Nat} {s : Sw} {n : Nat} : (⟨(rI D lo i s (n + 1)).1.lo, min s.hi (rI D lo i s (n + 1)).2, (rI D lo i s (n + 1)).1.pass, (rI D lo i s (n + 1)).1.hour⟩ : Sw) = shS s i (dsF D lo n) := by
  simp only [rI, shS, Sw.mk.injEq, true_and, and_true]
  split <;> omega
theorem rShallowest_fn {f : Fc} {f1 f2 fw : Bool} {way : List Ps} {h : H} (g : GoodF f) (o : OkRv f) (hE : wayE f.r.rs (hrs f.sides) way = 0) : Fn Try.prog 45 [f.r.av f1, sidesAV f.sides f2, .ro fw 3 (way.map fPs)] h (.tup [.agg [I (shF (passD f way) way.length).lo, I (shF (passD f way) way.length).hi], I (shF (passD f way) way.length).pass, I (shF (passD f way) way.length).hour]) h := by
  refine Fn.beside ?_ rfl h
  refine Fn.ofR0 noM (by kernel_rfl) Try.func45 rfl (by simp) ?_
  have hm := g.hmax
  have hmm := g.small.r.m
  have hw : way.length ≠ 0 ∧ way.length ≤ 60 ∧ ∀ p ∈ way, passE f.r.rs (hrs f.sides) p = 0 := by
    unfold wayE at hE
    split at hE
    · omega
    · split at hE
      · omega
      · exact ⟨by omega, by omega, firstE_zero hE⟩
  obtain ⟨hw0, hw6, hwp⟩ := hw
  have c3 : ∀ i p, way[i]? = some p → ∃ a n : Nat, p.hours = ⟨(a : Int), (a : Int) + n⟩ ∧ a + n < hrs f.sides ∧ passD f way i = dsF (dF f p.place) a n ∧ (∀ k : Nat, k < hrs f.sides → 0 ≤ (dF f p.place k).hi) ∧ ∀ k : Nat, k < hrs f.sides → ∀ h, Fn Try.prog 42 [f.r.av f1, sidesAV f.sides f2, I p.place, I k] h (.agg [I (dF f p.place k).lo, I (dF f p.place k).hi]) h := fun i p hp => by
    obtain ⟨h1, h2⟩ := pass_at (way := way) o hmm (hwp p (List.mem_of_getElem? hp))
    obtain ⟨q, y, ha⟩ := At.ex h1.1 h1.2
    have h3 := vB_iff.1 h2
    refine ⟨p.hours.lo.toNat, (p.hours.hi - p.hours.lo).toNat, ?_, by omega, ?_, fun k hk => (dF_in g o ha hk).2.1, fun k hk h => ?_⟩
    · obtain ⟨pl, ⟨x, z⟩⟩ := p
      simp only [Bd.mk.injEq] at h3 ⊢
      omega
    · rw [passD, hp]
      simp only
      rw [show ((p.hours.lo.toNat : Nat) : Int) = p.hours.lo by omega]
    · rw [dF_eq o ha]; exact rDepth_fn g o h1.1 ha hk
  obtain ⟨D, hD⟩ : ∃ D, D = passD f way := ⟨_, rfl⟩
  rw [← hD] at c3 ⊢
  clear hD
  simp -dsimp -implicitDefEqProofs
  refine LoopCR.on 70 (fun i => [(1, sidesAV f.sides f2), (2, .ro fw 3 (way.map fPs)), (3, .ptr 0 0), (6, .ptr 1 0), (9, .ptr 2 0), (10, I (shF D i).pass), (11, I (shF D i).hour), (12, I (i : Nat))])
    (fun i => [some [f.r.reaches f1, f.r.shoals], some [I 0, I 0], some [I (shF D i).lo, I (shF D i).hi]]) (fun i => i ≤ way.length) (fun i => way.length - i) 0 [0, 1, 2] (by simp) ?_ ?_
  · simp -dsimp -implicitDefEqProofs [shF]
  intro i j hi
  simp -dsimp -implicitDefEqProofs
  refine ifD_in (fun hlt => ?_) (fun hge => ?_)
  · have hlt' : i < way.length := by omega
    obtain ⟨p, hp⟩ : ∃ p, way[i]? = some p := ⟨_, List.getElem?_eq_getElem hlt'⟩
    obtain ⟨a, n, e1, e2, e3, e4, c4⟩ := c3 i p hp
    have hs : shF D (i + 1) = shS (shF D i) i (D i) := rfl
    rw [e3] at hs
    obtain ⟨s, hse⟩ : ∃ s, s = shF D i := ⟨_, rfl⟩
    rw [← hse] at hs ⊢
    obtain ⟨d, hd⟩ : ∃ d, d = dF f p.place := ⟨_, rfl⟩
    rw [← hd] at hs e4
    simp only [← hd] at c4
    have wi : IntKind.i64.wrap ((i : Int) + 1) = ((i + 1 : Nat) : Int) := by rw [wrap_in (by omega) (by omega)]; omega
    simp -dsimp -implicitDefEqProofs [hp, e1]
    refine LoopCR.on 70 (fun m => [(1, sidesAV f.sides f2), (2, .ro fw 3 (way.map fPs)), (3, .ptr 0 0), (6, .ptr 1 0), (9, .ptr 2 0), (10, I (rI d a i s m).1.pass), (11, I (rI d a i s m).1.hour), (12, I (i : Nat)), (13, I (rI d a i s m).2), (14, I ((a : Int) + (m : Nat)))])
      (fun m => [some [f.r.reaches f1, f.r.shoals], some [I 0, I 0], some [I (rI d a i s m).1.lo, I s.hi]]) (fun m => m ≤ n + 1) (fun m => n + 1 - m) 0 [0, 1, 2] (by simp) ?_ ?_
    · simp -dsimp -implicitDefEqProofs [rI]
    intro m j hm1
    simp -dsimp -implicitDefEqProofs [hp, e1]
    refine ifD_in (fun hlt2 => ?_) (fun hge2 => ?_)
    · have hlt3 : m < n + 1 := by omega
      have hc : ∀ h, Fn Try.prog 42 [f.r.av f1, sidesAV f.sides f2, I p.place, I ((a : Int) + m)] h (.agg [I (d (a + m)).lo, I (d (a + m)).hi]) h := fun h => by
        have := c4 (a + m) (by omega) h
        rw [show ((a + m : Nat) : Int) = (a : Int) + m by omega] at this
        exact this
      have h0 : 0 ≤ (d ((a : Int) + m)).hi := by
        have := e4 (a + m) (by omega)
        rw [show ((a + m : Nat) : Int) = (a : Int) + m by omega] at this
        exact this
      have hst := rI_step (D := d) (lo := a) (i := i) (s := s) (m := m) h0
      obtain ⟨x, hx⟩ : ∃ x, x = d ((a : Int) + m) := ⟨_, rfl⟩
      rw [← hx] at hst
      simp only [← hx] at hc
      obtain ⟨r, hr⟩ : ∃ r, r = rI d a i s m := ⟨_, rfl⟩
      rw [← hr] at hst ⊢
      have wm : IntKind.i64.wrap ((a : Int) + m + 1) = (a : Int) + (m + 1 : Nat) := by rw [wrap_in (by omega) (by omega)]; omega
      simp -dsimp -implicitDefEqProofs
      refine DrawR.on {} (by kernel_rfl) (by simp) ?_
      simp -dsimp -implicitDefEqProofs [hp, e1]
      refine onCallQ_in (hc _) ?_
      simp -dsimp -implicitDefEqProofs
      refine ifD_in (fun h3 => ?_) (fun h3 => ?_)
      · simp only [if_pos h3] at hst
        simp -dsimp -implicitDefEqProofs [wm]
        refine again_in (m + 1) [0, 1, 2] (by omega) (by omega) ?_
        simp -dsimp -implicitDefEqProofs [hst]
      · simp only [if_neg h3] at hst
        simp -dsimp -implicitDefEqProofs [wm]
        refine again_in (m + 1) [0, 1, 2] (by omega) (by omega) ?_
        simp -dsimp -implicitDefEqProofs [hst]
    · have hin : m = n + 1 := by omega
      subst hin
      have hall := rI_all (D := d) (lo := a) (i := i) (s := s) (n := n)
      rw [← hs] at hall
      simp -dsimp -implicitDefEqProofs [wi]
      refine again_in (i + 1) [0, 1, 2] (by omega) (by omega) ?_
      simp -dsimp -implicitDefEqProofs [← hall]
  · have hin : i = way.length := by omega
    subst hin
    simp -dsimp -implicitDefEqProofs
end Go.Pe

/- The law RiverShallow. -/
namespace Go.Pe
open Go Go.Proofs Go.Proofs.Ytblpmcmapadphaa
set_option maxRecDepth 20000
set_option maxHeartbeats 8000000
theorem neq77 {a b c a' b' c' : Int} {k : TK} {s : Nat} {z : List Value} {a1 f : Bool} {by' : Nat} : binX Try.prog 77 { kind := k, size := s, zero := z, agg := a1, bytes := by', fok := f, cmp := true } .neq (.agg [I a, I b, I c]) (.agg [I a', I b', I c']) = some (B (!(a == a' && ((b == b' && (c == c' && true)) && true)))) := by kernel_rfl
attribute [local simp] neq77
theorem rv_of_start {f : Fc} (h : startE f = 0) : validRv f.r = true := by
  unfold startE at h
  split at h
  · assumption
  · omega
theorem rs_cases {f : Fc} {way : List Ps} (hw : SmallF f) (hl : way.length ≤ 1000) : ∃ a b c d e : Int, (∀ f1 f2 h, Fn Try.prog 43 [f.r.av f1, sidesAV f.sides f2, .ro false 3 (way.map fPs)] h (.tup [.agg [I a, I b], I c, I d, I e]) h) ∧
    ((startE f ≠ 0 ∧ a = 0 ∧ b = 0 ∧ c = 0 ∧ d = 0 ∧ e = startE f) ∨ (startE f = 0 ∧ OkRv f ∧ wayE f.r.rs (hrs f.sides) way ≠ 0 ∧ a = 0 ∧ b = 0 ∧ c = 0 ∧ d = 0 ∧ e = wayE f.r.rs (hrs f.sides) way) ∨
      (startE f = 0 ∧ OkRv f ∧ wayE f.r.rs (hrs f.sides) way = 0 ∧ a = (shF (passD f way) way.length).lo ∧ b = (shF (passD f way) way.length).hi ∧ c = (shF (passD f way) way.length).pass ∧ d = (shF (passD f way) way.length).hour ∧ e = 0)) := by
  by_cases he : startE f = 0
  · have g := good_of hw he
    have o : OkRv f := okRv_of (rv_of_start he)
    by_cases hE : wayE f.r.rs (hrs f.sides) way = 0
    · exact ⟨_, _, _, _, _, fun f1 f2 h => Shallowest_fn g o he hE, .inr (.inr ⟨he, o, hE, rfl, rfl, rfl, rfl, rfl⟩)⟩
    · exact ⟨_, _, _, _, _, fun f1 f2 h => Shallowest_err g o he hl hE, .inr (.inl ⟨he, o, hE, rfl, rfl, rfl, rfl, rfl⟩)⟩
  · exact ⟨_, _, _, _, _, fun f1 f2 h => Shallowest_bad hw he, .inl ⟨he, rfl, rfl, rfl, rfl, rfl⟩⟩
theorem rs_law {f : Fc} {way : List Ps} : Fn Try.prog 8 [.agg [f.r.reaches false, f.r.shoals, sidesAV f.sides false], .ro false 3 (way.map fPs)] .nil (B true) .nil := by
  refine Fn.ofR0 noM (by kernel_rfl) Try.func8 rfl (by simp) ?_
  simp -dsimp -implicitDefEqProofs
  refine onCall_in large_fn ?_
  simp -dsimp -implicitDefEqProofs
  refine ifB_in (fun h1 => ?_) (fun h1 => ?_)
  · simp -dsimp -implicitDefEqProofs
    refine onCall_in (known_fn.beside rfl _) ?_
    simp -dsimp -implicitDefEqProofs
  have hw := small_of h1
  have hn := hw.n
  have hc := hw.c
  have hrn := hw.r.n
  simp -dsimp -implicitDefEqProofs
  refine ifD_in (fun h7 => ?_) (fun h7 => ?_)
  · simp -dsimp -implicitDefEqProofs
    refine onCall_in (known_fn.beside rfl _) ?_
    simp -dsimp -implicitDefEqProofs
  have hl : way.length ≤ 70 := by omega
  have hb1 : way.length * 24 ≤ 70368744177664 := by omega
  have hb2 : way.length ≤ 70368744177664 := by omega
  simp -dsimp -implicitDefEqProofs
  refine LoopCR.on (σ := Nat × Int) 147 (fun s => [(1, .ro false 3 (way.map fPs)), (2, .ptr 0 0), (5, I s.2), (6, I (s.1 : Nat))])
    (fun _ => [some [f.r.reaches false, f.r.shoals, sidesAV f.sides false]]) (fun s => s.1 ≤ way.length ∧ s.2.natAbs ≤ 400 * s.1) (fun s => way.length - s.1) (0, 0) [0] ⟨by simp, by simp⟩ ?_ ?_
  · simp -dsimp -implicitDefEqProofs
  intro s j hI
  obtain ⟨i, m⟩ := s
  obtain ⟨hi, hmi⟩ := hI
  simp only at hi hmi ⊢
  have wi : i < way.length → IntKind.i64.wrap ((i : Int) + 1) = ((i + 1 : Nat) : Int) := fun _ => by rw [wrap_in (by omega) (by omega)]; omega
  simp -dsimp -implicitDefEqProofs
  refine ifD_in (fun hlt => ?_) (fun hge => ?_)
  · have hlt' : i < way.length := by omega
    obtain ⟨p, hp⟩ : ∃ p, way[i]? = some p := ⟨_, List.getElem?_eq_getElem hlt'⟩
    simp -dsimp -implicitDefEqProofs [hp]
    refine onCall_in Valid2_fn ?_
    cases hV : vB 0 400 p.hours with
    | false =>
      simp -dsimp -implicitDefEqProofs [wi hlt']
      refine again_in (i + 1, m) [0] ⟨by simp; omega, by simp; omega⟩ (by simp; omega) ?_
      simp -dsimp -implicitDefEqProofs
    | true =>
      have hV' := vB_iff.1 hV
      have w1 : IntKind.i64.wrap (p.hours.hi - p.hours.lo) = p.hours.hi - p.hours.lo := wrap_in (by omega) (by omega)
      have w2 : IntKind.i64.wrap (m + (p.hours.hi - p.hours.lo)) = m + (p.hours.hi - p.hours.lo) := wrap_in (by omega) (by omega)
      simp -dsimp -implicitDefEqProofs [w1, w2, wi hlt']
      refine again_in (i + 1, m + (p.hours.hi - p.hours.lo)) [0] ⟨by simp; omega, by simp; omega⟩ (by simp; omega) ?_
      simp -dsimp -implicitDefEqProofs
  simp -dsimp -implicitDefEqProofs
  refine ifD_in (fun h8 => ?_) (fun h8 => ?_)
  · simp -dsimp -implicitDefEqProofs
    refine onCall_in (known_fn.beside rfl _) ?_
    simp -dsimp -implicitDefEqProofs
  obtain ⟨a, b, c, d, e, hS, hcase⟩ := rs_cases (way := way) hw (by omega)
  have c0 : ∀ h, Fn Try.prog 29 [sidesAV f.sides false] h (sidesAV f.sides (isz f.sides.length)) h := fun h => forecast_fn (by omega) (fun x hx => by have := hc x hx; omega)
  clear wi hi hmi hge h8
  simp -dsimp -implicitDefEqProofs [hb1, hb2]
  refine DrawR.on {} (by kernel_rfl) (by simp) ?_
  simp -dsimp -implicitDefEqProofs
  refine onCallQ_in (copied_fn hw.r) ?_
  simp -dsimp -implicitDefEqProofs
  refine onCallQ_in (c0 _) ?_
  simp -dsimp -implicitDefEqProofs
  refine onCallQ_in (hS _ _ _) ?_
  simp -dsimp -implicitDefEqProofs
  refine LoopCR.on 147 (fun i => [(1, .ro false 3 (way.map fPs)), (2, .ptr 0 0), (8, .ro false 3 (way.map fPs)), (9, .ptr 1 0), (10, I c), (11, I d), (12, I e), (13, I (i : Nat))])
    (fun _ => [some [f.r.reaches false, f.r.shoals, sidesAV f.sides false], some [I a, I b]]) (fun i => i ≤ way.length) (fun i => way.length - i) 0 [0, 14] (by simp) ?_ ?_
  · simp -dsimp -implicitDefEqProofs
  intro i j hi
  simp -dsimp -implicitDefEqProofs
  refine ifD_in (fun hlt => ?_) (fun hge => ?_)
  · have hlt' : i < way.length := by omega
    obtain ⟨p, hp⟩ : ∃ p, way[i]? = some p := ⟨_, List.getElem?_eq_getElem hlt'⟩
    simp -dsimp -implicitDefEqProofs
    refine DrawR.on {} (by kernel_rfl) (by simp) ?_
    simp -dsimp -implicitDefEqProofs [hp]
    refine again_in (i + 1) [0, 1] (by omega) (by omega) ?_
    simp -dsimp -implicitDefEqProofs
    rw [wrap_in (by omega) (by omega)]
  simp -dsimp -implicitDefEqProofs
  refine onCall_in (rStart_fn hw) ?_
  rcases hcase with ⟨he, rfl, rfl, rfl, rfl, rfl⟩ | ⟨he, o, hE, rfl, rfl, rfl, rfl, rfl⟩ | ⟨he, o, hE, rfl, rfl, rfl, rfl, rfl⟩
  · have ne0 : (startE f != 0) = true := by simpa using he
    have ne1 : (startE f == 0) = false := by simpa using he
    simp -dsimp -implicitDefEqProofs [ne0, ne1]
    refine onCall_in (known_fn.beside rfl _) ?_
    simp -dsimp -implicitDefEqProofs
  · have g := good_of hw he
    have hm := g.hmax
    have hpos2 : 0 < f.sides.length := by have := g.pos; have := g.eq; omega
    have hx0 := List.getElem?_eq_getElem hpos2
    have hh : f.sides[0].length = hrs f.sides := by simp [hrs, List.headD_eq_head?_getD, List.head?_eq_getElem?, hx0]
    have ne0 : (wayE f.r.rs (hrs f.sides) way != 0) = true := by simpa using hE
    simp -dsimp -implicitDefEqProofs [he]
    refine DrawR.on {} (by kernel_rfl) (by simp) ?_
    simp -dsimp -implicitDefEqProofs [hx0, hh]
    refine onCallQ_in (Way_fn o.len hrn (by omega) (by omega)) ?_
    simp -dsimp -implicitDefEqProofs [ne0]
    refine onCall_in (known_fn.beside rfl _) ?_
    simp -dsimp -implicitDefEqProofs
  · have g := good_of hw he
    have hm := g.hmax
    have hpos2 : 0 < f.sides.length := by have := g.pos; have := g.eq; omega
    have hx0 := List.getElem?_eq_getElem hpos2
    have hh : f.sides[0].length = hrs f.sides := by simp [hrs, List.headD_eq_head?_getD, List.head?_eq_getElem?, hx0]
    have cR : ∀ h, Fn Try.prog 44 [f.r.av false, .ro false 3 (way.map fPs), I (hrs f.sides)] h (I 0) h := fun h => by rw [← hE]; exact Way_fn o.len hrn (by omega) (by omega)
    simp -dsimp -implicitDefEqProofs [he]
    refine DrawR.on {} (by kernel_rfl) (by simp) ?_
    simp -dsimp -implicitDefEqProofs [hx0, hh]
    refine onCallQ_in (cR _) ?_
    simp -dsimp -implicitDefEqProofs
    refine onCall_in (rShallowest_fn g o hE) ?_
    simp -dsimp -implicitDefEqProofs
    refine onCall_in (known_fn.beside rfl _) ?_
    simp -dsimp -implicitDefEqProofs
end Go.Pe

namespace Go.Pe
open Go Go.Proofs Go.Proofs.Ytblpmcmapadphaa
set_option maxRecDepth 100000
theorem open_u8 {n : Nat} {xs : List AV} (h : TyC Try.prog (n + 1) 5 xs) : ∃ m, xs = [U m] ∧ 0 ≤ m ∧ m ≤ 255 := by
  obtain ⟨m, e, h1, h2⟩ := TyC_at ti5 h
  exact ⟨m, e, by simpa [IntKind.min, IntKind.signed] using h1, by simpa [IntKind.max, IntKind.signed, IntKind.bits] using h2⟩
theorem open_sk {n : Nat} {xs : List AV} (h : TyC Try.prog (n + 3) 54 xs) : ∃ b : Sk, xs = b.row := by
  obtain ⟨a, r, rfl, _, h1, a', r', rfl, _, h2, rfl⟩ := TyC_at ti54 h
  obtain ⟨m, rfl⟩ := open_bd h1
  obtain ⟨k, rfl⟩ := open_bd h2
  exact ⟨⟨m, k⟩, rfl⟩
theorem open_ct {n : Nat} {xs : List AV} (h : TyC Try.prog (n + 3) 48 xs) : ∃ c : Ct, AV.agg xs = c.av := by
  obtain ⟨a, r, rfl, _, h1, a', r', rfl, _, h2, a'', r'', rfl, _, h3, a3, r3, rfl, _, h4, rfl⟩ := TyC_at ti48 h
  obtain ⟨m, rfl⟩ := open_i64 h1
  obtain ⟨k, rfl⟩ := open_i64 h2
  obtain ⟨l, rfl⟩ := open_i64 h3
  obtain ⟨b, rfl⟩ := open_bd h4
  exact ⟨⟨m, k, l, b⟩, rfl⟩
theorem open_u8s {n : Nat} {xs : List AV} (h : TyC Try.prog (n + 2) 94 xs) : ∃ l : List Int, xs = [u8s l] ∧ l.length ≤ maxLen ∧ ∀ n ∈ l, 0 ≤ n ∧ n ≤ 255 := by
  obtain ⟨rows, rfl, h1, h2⟩ := TyC_at ti94 h
  obtain ⟨l, rfl, h3⟩ := rows_map (fun n => [U n]) (fun n => 0 ≤ n ∧ n ≤ 255) (rows := rows) (fun r hr => open_u8 (h2 r hr).2)
  exact ⟨l, by rw [show Try.prog.cellsOf 5 = 1 by kernel_rfl], by simpa using h1, h3⟩
theorem open_sky {n : Nat} {xs : List AV} (h : TyC Try.prog (n + 4) 49 xs) : ∃ l : List Sk, xs = [.ro false 4 (l.map Sk.row)] ∧ l.length ≤ maxLen := by
  obtain ⟨rows, rfl, h1, h2⟩ := TyC_at ti49 h
  obtain ⟨l, rfl, h3⟩ := rows_map Sk.row (fun _ => True) (rows := rows) (fun r hr => (open_sk (h2 r hr).2).imp fun _ h => ⟨h, trivial⟩)
  exact ⟨l, by rw [show Try.prog.cellsOf 54 = 4 by kernel_rfl], by simpa using h1⟩
theorem open_tr {n : Nat} {xs : List AV} (h : TyC Try.prog (n + 3) 96 xs) : ∃ x : Tr, AV.agg xs = x.av ∧ (0 ≤ x.snow ∧ x.snow ≤ 255) ∧ (∀ n ∈ x.side, 0 ≤ n ∧ n ≤ 255) ∧ (∀ n ∈ x.base, 0 ≤ n ∧ n ≤ 255) := by
  obtain ⟨a, r, rfl, _, h1, a', r', rfl, _, h2, a'', r'', rfl, _, h3, a3, r3, rfl, _, h4, a5, r5, rfl, _, h5, rfl⟩ := TyC_at ti96 h
  obtain ⟨m1, rfl, _, b1⟩ := open_u8s h1
  obtain ⟨m2, rfl, _, b2⟩ := open_u8s h2
  obtain ⟨m3, rfl, _, b3⟩ := open_u8s h3
  obtain ⟨m4, rfl, _, b4⟩ := open_u8s h4
  obtain ⟨k, rfl, k1, k2⟩ := open_u8 h5
  exact ⟨⟨m1, m2, m3, m4, k⟩, rfl, ⟨k1, k2⟩, b2, b1⟩
theorem rr_args {ys : List AV} (h : TyVs Try.prog 20 [48, 49] ys) : ∃ (c : Ct) (sky : List Sk), ys = [c.av, .ro false 4 (sky.map Sk.row)] ∧ sky.length ≤ maxLen := by
  obtain ⟨y1, z1, rfl, v1, y2, z2, rfl, v2, rfl⟩ := h
  obtain ⟨x1, rfl, w1⟩ := TyV_st (by kernel_rfl) v1
  have v2 := TyV_one (by kernel_rfl) v2
  obtain ⟨c, e1⟩ := open_ct w1
  obtain ⟨sky, e2, hl⟩ := open_sky v2
  exact ⟨c, sky, by rw [e1]; simpa using e2, hl⟩
theorem melts_args {ys : List AV} (h : TyVs Try.prog 20 [48, 49, 96] ys) : ∃ (c : Ct) (sky : List Sk) (x : Tr), ys = [c.av, .ro false 4 (sky.map Sk.row), x.av] ∧ sky.length ≤ maxLen ∧ (0 ≤ x.snow ∧ x.snow ≤ 255) ∧ (∀ n ∈ x.side, 0 ≤ n ∧ n ≤ 255) ∧ (∀ n ∈ x.base, 0 ≤ n ∧ n ≤ 255) := by
  obtain ⟨y1, z1, rfl, v1, y2, z2, rfl, v2, y3, z3, rfl, v3, rfl⟩ := h
  obtain ⟨x1, rfl, w1⟩ := TyV_st (by kernel_rfl) v1
  have v2 := TyV_one (by kernel_rfl) v2
  obtain ⟨x3, rfl, w3⟩ := TyV_st (by kernel_rfl) v3
  obtain ⟨c, e1⟩ := open_ct w1
  obtain ⟨sky, e2, hl⟩ := open_sky v2
  obtain ⟨x, e3, hx⟩ := open_tr w3
  exact ⟨c, sky, x, by rw [e1, e3]; simpa using e2, hl, hx⟩
end Go.Pe

/- Arguments of the laws RiverShallow, RiverCloses, RiverTruths, RiverEnds, RiverNarrows and RiverKeeps, opened. -/
namespace Go.Pe
open Go Go.Proofs Go.Proofs.Ytblpmcmapadphaa
set_option maxRecDepth 100000
/-- A closure of a part of the river. -/
structure Cz where
  from' : Int
  to' : Int
  beg : Bd
  fin : Bd
noncomputable def fC (c : Cz) : List AV := [I c.from', I c.to', I c.beg.lo, I c.beg.hi, I c.fin.lo, I c.fin.hi]
theorem fC_eq {c : Cz} : fC c = [I c.from', I c.to', I c.beg.lo, I c.beg.hi, I c.fin.lo, I c.fin.hi] := rfl
theorem open_ps {n : Nat} {xs : List AV} (h : TyC Try.prog (n + 3) 77 xs) : ∃ p : Ps, xs = fPs p := by
  obtain ⟨a, r1, rfl, _, h1, b, r2, rfl, _, h2, rfl⟩ := TyC_at ti77 h
  obtain ⟨a, rfl⟩ := open_i64 h1
  obtain ⟨b, rfl⟩ := open_bd h2
  exact ⟨⟨a, b⟩, rfl⟩
theorem open_way {n : Nat} {xs : List AV} (h : TyC Try.prog (n + 4) 75 xs) : ∃ l : List Ps, xs = [.ro false 3 (l.map fPs)] := by
  obtain ⟨rows, rfl, h1, h2⟩ := TyC_at ti75 h
  obtain ⟨l, rfl, _⟩ := rows_map fPs (fun _ => True) (rows := rows) (fun r hr => (open_ps (h2 r hr).2).imp fun _ h => ⟨h, trivial⟩)
  exact ⟨l, by rw [show Try.prog.cellsOf 77 = 3 by kernel_rfl]⟩
theorem open_cz {n : Nat} {xs : List AV} (h : TyC Try.prog (n + 3) 89 xs) : ∃ p : Cz, xs = fC p := by
  obtain ⟨a, r1, rfl, _, h1, b, r2, rfl, _, h2, c, r3, rfl, _, h3, d, r4, rfl, _, h4, rfl⟩ := TyC_at ti89 h
  obtain ⟨a, rfl⟩ := open_i64 h1
  obtain ⟨b, rfl⟩ := open_i64 h2
  obtain ⟨c, rfl⟩ := open_bd h3
  obtain ⟨d, rfl⟩ := open_bd h4
  exact ⟨⟨a, b, c, d⟩, rfl⟩
theorem open_czs {n : Nat} {xs : List AV} (h : TyC Try.prog (n + 4) 84 xs) : ∃ l : List Cz, xs = [.ro false 6 (l.map fC)] := by
  obtain ⟨rows, rfl, h1, h2⟩ := TyC_at ti84 h
  obtain ⟨l, rfl, _⟩ := rows_map fC (fun _ => True) (rows := rows) (fun r hr => (open_cz (h2 r hr).2).imp fun _ h => ⟨h, trivial⟩)
  exact ⟨l, by rw [show Try.prog.cellsOf 89 = 6 by kernel_rfl]⟩
noncomputable abbrev W16 (n : Int) : AV := .val (.int .u16 n)
theorem open_u16 {n : Nat} {xs : List AV} (h : TyC Try.prog (n + 1) 105 xs) : ∃ m, xs = [W16 m] ∧ 0 ≤ m ∧ m ≤ 65535 := by
  obtain ⟨m, e, h1, h2⟩ := TyC_at ti105 h
  exact ⟨m, e, by simpa [IntKind.min, IntKind.signed] using h1, by simpa [IntKind.max, IntKind.signed, IntKind.bits] using h2⟩
theorem sh_args {ys : List AV} (h : TyVs Try.prog 20 [34, 75] ys) : ∃ (f : Fc) (way : List Ps), ys = [.agg [f.r.reaches false, f.r.shoals, sidesAV f.sides false], .ro false 3 (way.map fPs)] := by
  obtain ⟨y1, z1, rfl, v1, y2, z2, rfl, v2, rfl⟩ := h
  obtain ⟨f, hf⟩ := fc_args (ys := [y1]) ⟨y1, [], rfl, v1, rfl⟩
  have v2 := TyV_one (by kernel_rfl) v2
  obtain ⟨way, hw⟩ := open_way v2
  simp only [List.cons.injEq, and_true] at hf hw
  exact ⟨f, way, by rw [hf, hw]⟩
theorem cl_args {ys : List AV} (h : TyVs Try.prog 20 [34, 84, 85] ys) : ∃ (f : Fc) (l : List Cz) (a b : Int), ys = [.agg [f.r.reaches false, f.r.shoals, sidesAV f.sides false], .ro false 6 (l.map fC), .agg [I a, I b]] := by
  obtain ⟨y1, z1, rfl, v1, y2, z2, rfl, v2, y3, z3, rfl, v3, rfl⟩ := h
  obtain ⟨f, hf⟩ := fc_args (ys := [y1]) ⟨y1, [], rfl, v1, rfl⟩
  have v2 := TyV_one (by kernel_rfl) v2
  obtain ⟨l, hl⟩ := open_czs v2
  obtain ⟨x3, rfl, w3⟩ := TyV_st (by kernel_rfl) v3
  obtain ⟨a, r1, rfl, _, g1, b, r2, rfl, _, g2, rfl⟩ := TyC_at ti85 w3
  obtain ⟨a, rfl⟩ := open_i64 g1
  obtain ⟨b, rfl⟩ := open_i64 g2
  simp only [List.cons.injEq, and_true] at hf hl
  exact ⟨f, l, a, b, by rw [hf, hl]; rfl⟩
theorem u16_args {v : AV} (v3 : TyV Try.prog 20 106 v) : ∃ a b c : Int, v = .agg [W16 a, W16 b, W16 c] ∧ (0 ≤ a ∧ a ≤ 65535) ∧ (0 ≤ b ∧ b ≤ 65535) ∧ 0 ≤ c ∧ c ≤ 65535 := by
  obtain ⟨x3, rfl, w3⟩ := TyV_st (by kernel_rfl) v3
  obtain ⟨a, r1, rfl, _, g1, b, r2, rfl, _, g2, c, r3, rfl, _, g3, rfl⟩ := TyC_at ti106 w3
  obtain ⟨a, rfl, a1⟩ := open_u16 g1
  obtain ⟨b, rfl, b1⟩ := open_u16 g2
  obtain ⟨c, rfl, c1⟩ := open_u16 g3
  exact ⟨a, b, c, rfl, a1, b1, c1⟩
theorem ke_args {ys : List AV} (h : TyVs Try.prog 20 [34, 106] ys) : ∃ (f : Fc) (a b c : Int), ys = [.agg [f.r.reaches false, f.r.shoals, sidesAV f.sides false], .agg [W16 a, W16 b, W16 c]] ∧ (0 ≤ a ∧ a ≤ 65535) ∧ (0 ≤ b ∧ b ≤ 65535) ∧ 0 ≤ c ∧ c ≤ 65535 := by
  obtain ⟨y1, z1, rfl, v1, y2, z2, rfl, v2, rfl⟩ := h
  obtain ⟨f, hf⟩ := fc_args (ys := [y1]) ⟨y1, [], rfl, v1, rfl⟩
  obtain ⟨a, b, c, rfl, hb⟩ := u16_args v2
  simp only [List.cons.injEq, and_true] at hf
  exact ⟨f, a, b, c, by rw [hf], hb⟩
theorem tr_args {ys : List AV} (h : TyVs Try.prog 20 [34, 96, 75] ys) : ∃ (f : Fc) (x : Tr) (way : List Ps), ys = [.agg [f.r.reaches false, f.r.shoals, sidesAV f.sides false], x.av, .ro false 3 (way.map fPs)] ∧ (∀ n ∈ x.side, 0 ≤ n ∧ n ≤ 255) ∧ (∀ n ∈ x.base, 0 ≤ n ∧ n ≤ 255) := by
  obtain ⟨y1, z1, rfl, v1, y2, z2, rfl, v2, y3, z3, rfl, v3, rfl⟩ := h
  obtain ⟨f, hf⟩ := fc_args (ys := [y1]) ⟨y1, [], rfl, v1, rfl⟩
  obtain ⟨x2, rfl, w2⟩ := TyV_st (by kernel_rfl) v2
  obtain ⟨x, ex, _, hs, hb⟩ := open_tr w2
  have v3 := TyV_one (by kernel_rfl) v3
  obtain ⟨way, hw⟩ := open_way v3
  simp only [List.cons.injEq, and_true] at hf hw
  exact ⟨f, x, way, by rw [hf, hw, ex], hs, hb⟩
end Go.Pe
