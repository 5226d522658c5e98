import Derived.Test.YtffckclggkjbgaaGreatY43
import Derived.Test.YtffckclggkjbgaaGreatY34
set_option linter.unusedVariables false
set_option linter.unusedSimpArgs false
/- Passages that are not too great, and copies of them. -/
namespace Go.Pe
open Go Go.Proofs Go.Proofs.YtffckclggkjbgaaGreat
set_option maxRecDepth 20000
set_option maxHeartbeats 8000000
attribute [local simp] ts22 us22 ts24 us24 ts25 us25 ts34 us34 ts39 us39 ts57 us57 ts156 us156 ts53 us53 ts64 us64
attribute [local simp] convA extA lenA
attribute [local simp] fW_eq fR_eq fS_eq fBd_eq fL_eq pgC_eq
/-- What the statements look at. -/
structure WOk (p : Pg) : Prop where
  n : p.f.r.rs.length ≤ 5
  m : p.f.r.ss.length ≤ 45
  s : p.f.sides.length ≤ 6
  w : p.way.length ≤ 12
  c : ∀ x ∈ p.f.r.rs, x.curve.length ≤ 35
  h : ∀ l ∈ p.f.sides, ¬ (40 < l.length ∧ l.length ≤ 400) ∧ l.length ≤ 450
theorem WOk.small {p : Pg} (h : WOk p) : SmallF p.f := ⟨⟨by have := h.n; omega, by have := h.m; omega, fun x hx => by have := h.c x hx; omega⟩, by have := h.s; omega, fun l hl => (h.h l hl).2⟩
open Classical in
noncomputable def wideF (p : Pg) : Bool := decide (¬ WOk p)
theorem wide_of {p : Pg} (h : ¬ WOk p) : wideF p = true := by simp [wideF, h]
theorem wide_not {p : Pg} (h : WOk p) : wideF p = false := by simp [wideF, h]
theorem wok_of {p : Pg} (h : wideF p = false) : WOk p := by simpa [wideF] using h
theorem wide_fn {p : Pg} {f1 f2 fw : Bool} {h : H} : Fn Tryz.prog 29 [.agg (pgC p f1 f2 fw)] h (B (wideF p)) h := by
  refine Fn.beside ?_ rfl h
  refine Fn.ofR0 noM (by kernel_rfl) Tryz.func29 rfl (by simp) ?_
  simp -dsimp -implicitDefEqProofs
  refine ifD_in (fun h1 => ?_) (fun h1 => ?_)
  · have e := wide_of (p := p) fun w => by have := w.n; omega
    simp -dsimp -implicitDefEqProofs [e]
  simp -dsimp -implicitDefEqProofs
  refine ifD_in (fun h2 => ?_) (fun h2 => ?_)
  · have e := wide_of (p := p) fun w => by have := w.m; omega
    simp -dsimp -implicitDefEqProofs [e]
  simp -dsimp -implicitDefEqProofs
  refine ifD_in (fun h3 => ?_) (fun h3 => ?_)
  · have e := wide_of (p := p) fun w => by have := w.s; omega
    simp -dsimp -implicitDefEqProofs [e]
  simp -dsimp -implicitDefEqProofs
  refine ifD_in (fun h4 => ?_) (fun h4 => ?_)
  · have e := wide_of (p := p) fun w => by have := w.w; omega
    simp -dsimp -implicitDefEqProofs [e]
  simp -dsimp -implicitDefEqProofs
  refine LoopCR.on 78 (fun i => [(1, .ptr 0 0), (3, I (i : Nat))]) (fun i => [some (pgC p f1 f2 fw)]) (fun i => i ≤ p.f.r.rs.length ∧ ∀ (k : Nat) (x : Rc), k < i → p.f.r.rs[k]? = some x → x.curve.length ≤ 35) (fun i => p.f.r.rs.length - i) 0 [0] ⟨by simp, fun k x hk => by omega⟩ ?_ ?_
  · simp -dsimp -implicitDefEqProofs
  rintro i j ⟨hi, hc⟩
  simp -dsimp -implicitDefEqProofs
  refine ifD_in (fun hlt => ?_) (fun hge => ?_)
  · refine Exists.elim (show ∃ x, p.f.r.rs[i]? = some x from ⟨_, List.getElem?_eq_getElem hlt⟩) fun x hx => ?_
    have w1 : IntKind.i64.wrap ((i : Int) + 1) = (i : Int) + 1 := wrap_in (by omega) (by omega)
    simp -dsimp -implicitDefEqProofs [hx]
    refine ifD_in (fun h5 => ?_) (fun h5 => ?_)
    · have e := wide_of (p := p) fun w => by have := w.c x (List.mem_of_getElem? hx); omega
      simp -dsimp -implicitDefEqProofs [e]
    have hst : ∀ (k : Nat) (x : Rc), k < i + 1 → p.f.r.rs[k]? = some x → x.curve.length ≤ 35 := fun k x' hk hk2 => by
      by_cases hki : k = i
      · subst hki; rw [hx] at hk2; cases hk2; omega
      · exact hc k x' (by omega) hk2
    simp -dsimp -implicitDefEqProofs [w1]
    refine again_in (i + 1) [0] ⟨by omega, hst⟩ (by omega) ?_
    simp -dsimp -implicitDefEqProofs
  have hcc : ∀ x ∈ p.f.r.rs, x.curve.length ≤ 35 := fun x hx => by
    obtain ⟨k, hk, rfl⟩ := List.getElem_of_mem hx
    exact hc k _ (by omega) (List.getElem?_eq_getElem hk)
  simp -dsimp -implicitDefEqProofs
  refine LoopCR.on 78 (fun i => [(1, .ptr 0 0), (4, I (i : Nat))]) (fun i => [some (pgC p f1 f2 fw)]) (fun i => i ≤ p.f.sides.length ∧ ∀ (k : Nat) (l : List Bd), k < i → p.f.sides[k]? = some l → ¬ (40 < l.length ∧ l.length ≤ 400) ∧ l.length ≤ 450) (fun i => p.f.sides.length - i) 0 [0] ⟨by simp, fun k x hk => by omega⟩ ?_ ?_
  · simp -dsimp -implicitDefEqProofs
  rintro i j ⟨hi, hs⟩
  simp -dsimp -implicitDefEqProofs
  refine ifD_in (fun hlt => ?_) (fun hge => ?_)
  · refine Exists.elim (show ∃ x, p.f.sides[i]? = some x from ⟨_, List.getElem?_eq_getElem hlt⟩) fun l hx => ?_
    have w1 : IntKind.i64.wrap ((i : Int) + 1) = (i : Int) + 1 := wrap_in (by omega) (by omega)
    have hbad : ¬ (¬ (40 < l.length ∧ l.length ≤ 400) ∧ l.length ≤ 450) → wideF p = true := fun hb => wide_of fun w => hb (w.h l (List.mem_of_getElem? hx))
    have hst : (¬ (40 < l.length ∧ l.length ≤ 400) ∧ l.length ≤ 450) → ∀ (k : Nat) (l : List Bd), k < i + 1 → p.f.sides[k]? = some l → ¬ (40 < l.length ∧ l.length ≤ 400) ∧ l.length ≤ 450 := fun hg k x' hk hk2 => by
      by_cases hki : k = i
      · subst hki; rw [hx] at hk2; cases hk2; exact hg
      · exact hs k x' (by omega) hk2
    refine (Classical.em (¬ (40 < l.length ∧ l.length ≤ 400) ∧ l.length ≤ 450)).elim (fun hg => ?_) (fun hg => ?_)
    · have hst := hst hg
      refine (Classical.em (40 < l.length)).elim (fun h6 => ?_) (fun h6 => ?_)
      · have d1 : decide ((40 : Int) < (l.length : Int)) = true := decide_eq_true (by omega)
        have d2 : decide ((l.length : Int) ≤ 400) = false := decide_eq_false (by omega)
        have d3 : decide ((450 : Int) < (l.length : Int)) = false := decide_eq_false (by omega)
        simp -dsimp -implicitDefEqProofs [hx, d1, d2, d3, w1]
        refine again_in (i + 1) [0] ⟨by omega, hst⟩ (by omega) ?_
        simp -dsimp -implicitDefEqProofs
      · have d1 : decide ((40 : Int) < (l.length : Int)) = false := decide_eq_false (by omega)
        have d3 : decide ((450 : Int) < (l.length : Int)) = false := decide_eq_false (by omega)
        simp -dsimp -implicitDefEqProofs [hx, d1, d3, w1]
        refine again_in (i + 1) [0] ⟨by omega, hst⟩ (by omega) ?_
        simp -dsimp -implicitDefEqProofs
    · have e := hbad hg
      have d1 : decide ((40 : Int) < (l.length : Int)) = true := decide_eq_true (by omega)
      refine (Classical.em (l.length ≤ 400)).elim (fun h6 => ?_) (fun h6 => ?_)
      · have d2 : decide ((l.length : Int) ≤ 400) = true := decide_eq_true (by omega)
        simp -dsimp -implicitDefEqProofs [hx, d1, d2, e]
      · have d2 : decide ((l.length : Int) ≤ 400) = false := decide_eq_false (by omega)
        have d3 : decide ((450 : Int) < (l.length : Int)) = true := decide_eq_true (by omega)
        simp -dsimp -implicitDefEqProofs [hx, d1, d2, d3, e]
  have hss : ∀ l ∈ p.f.sides, ¬ (40 < l.length ∧ l.length ≤ 400) ∧ l.length ≤ 450 := fun l hl => by
    obtain ⟨k, hk, rfl⟩ := List.getElem_of_mem hl
    exact hs k _ (by omega) (List.getElem?_eq_getElem hk)
  have e := wide_not (p := p) ⟨by omega, by omega, by omega, by omega, hcc, hss⟩
  simp -dsimp -implicitDefEqProofs [e]
theorem way_fn {p : Pg} {f1 f2 fw : Bool} {h : H} (hw : WOk p) : Fn Tryz.prog 30 [.agg (pgC p f1 f2 fw)] h (.agg (pgC p (isz p.f.r.rs.length) (isz p.f.sides.length) false)) h := by
  refine Fn.weak (x := .agg [roN 9 (p.f.r.rs.map fR), p.f.r.shoals, roN 1 (p.f.sides.map fL), .ro false 3 (p.way.map fPs), I p.keel]) ?_ (fun c w D v hv => ?_)
  rotate_left
  · refine R_agg_to (l := [roN 9 (p.f.r.rs.map fR), p.f.r.shoals, roN 1 (p.f.sides.map fL), .ro false 3 (p.way.map fPs), I p.keel]) rfl (fun i x y hx hy v hv => ?_) hv
    match i, hx, hy with
    | 0, hx, hy =>
      cases hx; cases hy
      have := roN_R hv
      rwa [List.length_map] at this
    | 1, hx, hy => cases hx; cases hy; exact hv
    | 2, hx, hy =>
      cases hx; cases hy
      have := roN_R hv
      rwa [List.length_map] at this
    | 3, hx, hy => cases hx; cases hy; exact hv
    | 4, hx, hy => cases hx; cases hy; exact hv
  refine Fn.beside ?_ rfl h
  refine Fn.ofR0 (butM [12, 31, 43, 62]) (by kernel_rfl) Tryz.func30 rfl (by simp) ?_
  have hn := hw.n
  have hm := hw.m
  have hs := hw.s
  have hwy := hw.w
  have b1 : p.f.r.ss.length * 48 ≤ 70368744177664 := by omega
  have b2 : p.f.r.ss.length ≤ 70368744177664 := by omega
  have b3 : p.way.length * 24 ≤ 70368744177664 := by omega
  have b4 : p.way.length ≤ 70368744177664 := by omega
  simp -dsimp -implicitDefEqProofs [b1, b2]
  refine LoopCR.on 67 (fun i => [(1, .ptr 0 0), (2, .ptr 1 0), (3, .ptr 2 0), (4, I (i : Nat))]) (fun i => [some (pgC p f1 f2 fw), some [.val (.slice none 0 0), .val (.slice none 0 0), .val (.slice none 0 0), .val (.slice none 0 0), I 0], some [growN 3 9 i, p.f.r.shoals], grown i (rws fR (p.f.r.rs.take i))]) (fun i => i ≤ p.f.r.rs.length) (fun i => p.f.r.rs.length - i) 0 [0, 1, 2, 99] (by simp) ?_ ?_
  · simp -dsimp -implicitDefEqProofs
  intro i j hi
  simp -dsimp -implicitDefEqProofs
  refine ifD_in (fun hlt => ?_) (fun hge => ?_)
  · refine Exists.elim (show ∃ x, p.f.r.rs[i]? = some x from ⟨_, List.getElem?_eq_getElem hlt⟩) fun x hx => ?_
    have hcx := hw.c x (List.mem_of_getElem? hx)
    have hst : p.f.r.rs.take (i + 1) = p.f.r.rs.take i ++ [x] := by rw [List.take_add_one, hx]; rfl
    have w1 : IntKind.i64.wrap ((i : Int) + 1) = (i : Int) + 1 := wrap_in (by omega) (by omega)
    have b5 : x.curve.length * 16 ≤ 70368744177664 := by omega
    have b6 : x.curve.length ≤ 70368744177664 := by omega
    simp -dsimp -implicitDefEqProofs [hx, b5, b6]
    refine on_appendN fR (p.f.r.rs.take i) x (by simp) (by rw [List.length_take]; omega) (by simp; omega) (by omega) rfl rfl (by simp) rfl (fun _ => rfl) ?_ (by simp)
    simp -dsimp -implicitDefEqProofs [w1]
    refine again_in (i + 1) [0, 1, 2, 5] (by omega) (by omega) ?_
    simp -dsimp -implicitDefEqProofs [hst]
  have hin : i = p.f.r.rs.length := by omega
  simp -dsimp -implicitDefEqProofs [hin]
  refine DrawR.on {} (by kernel_rfl) (by simp) ?_
  simp -dsimp -implicitDefEqProofs [b3, b4]
  refine LoopCR.on 67 (fun i => [(1, .ptr 0 0), (2, .ptr 1 0), (6, .ptr 2 0), (7, I (i : Nat))]) (fun i => [some (pgC p f1 f2 fw), some [.val (.slice none 0 0), .val (.slice none 0 0), .val (.slice none 0 0), .val (.slice none 0 0), I 0], some [growN 3 9 p.f.r.rs.length, p.f.r.shoals, growN 4 1 i, .ro false 3 (p.way.map fPs), I p.keel], grown p.f.r.rs.length (rws fR p.f.r.rs), grown i (rws fL (p.f.sides.take i))]) (fun i => i ≤ p.f.sides.length) (fun i => p.f.sides.length - i) 0 [0, 1, 12, 3, 99] (by simp) ?_ ?_
  · simp -dsimp -implicitDefEqProofs
  intro i j hi
  simp -dsimp -implicitDefEqProofs
  refine ifD_in (fun hlt => ?_) (fun hge => ?_)
  · refine Exists.elim (show ∃ x, p.f.sides[i]? = some x from ⟨_, List.getElem?_eq_getElem hlt⟩) fun x hx => ?_
    have hcx := (hw.h x (List.mem_of_getElem? hx)).2
    have hst : p.f.sides.take (i + 1) = p.f.sides.take i ++ [x] := by rw [List.take_add_one, hx]; rfl
    have w1 : IntKind.i64.wrap ((i : Int) + 1) = (i : Int) + 1 := wrap_in (by omega) (by omega)
    have b5 : x.length * 16 ≤ 70368744177664 := by omega
    have b6 : x.length ≤ 70368744177664 := by omega
    simp -dsimp -implicitDefEqProofs
    refine DrawR.on { M := [2, 4], see := [(1, 2)], eff := [(10, [4]), (12, [2])] } (by kernel_rfl) (by simp) ?_
    simp -dsimp -implicitDefEqProofs [hx, b5, b6, -storeA]
    refine on_appendN fL (p.f.sides.take i) x (by simp) (by rw [List.length_take]; omega) (show (i + 1) * 24 ≤ 70368744177664 by omega) (by omega) rfl rfl (by simp) rfl (fun _ => rfl) ?_ rfl
    simp -dsimp -implicitDefEqProofs [w1]
    refine again_in (i + 1) [0, 1, 2, 3, 15] (by omega) (by omega) ?_
    simp -dsimp -implicitDefEqProofs [hst]
  have hin2 : i = p.f.sides.length := by omega
  simp -dsimp -implicitDefEqProofs [hin2]
  have fz : ∀ {α : Type} (f : α → List AV) (l : List α) (b k : Nat) (hh : H), hh.get b = grown l.length (rws f l) → (∀ a, (f a).length = k) → (∀ a, ((f a).all fun x => clean1 x && one x) = true) → ∃ q, frz q hh 0 (growN b k l.length) = some (roN k (l.map f)) := fun f l b k hh hb hk hc => by
    by_cases h0 : l.length = 0
    · have hl : l = [] := List.length_eq_zero_iff.1 h0
      subst hl
      exact ⟨1, by simp [roN, growN_zero, frz]⟩
    · have e : roN k (l.map f) = .ro false k (l.map f) := by unfold roN; rw [if_neg (by rw [List.length_map]; omega)]
      rw [e]
      exact frz_rwsN hb (Nat.zero_le _) rfl h0 hk hc
  refine frz_aggL ⟨fz fR p.f.r.rs 3 9 _ (by simp [mkH]) (fun _ => rfl) (fun _ => rfl), frz_one rfl, fz fL p.f.sides 4 1 _ (by simp [mkH]) (fun _ => rfl) (fun _ => rfl), frz_one rfl, frz_one rfl, trivial⟩
end Go.Pe

/- Passages by small numbers. -/
namespace Go.Pe
open Go Go.Proofs Go.Proofs.YtffckclggkjbgaaGreat
set_option maxRecDepth 20000
set_option maxHeartbeats 8000000
attribute [local simp] ts5 us5 ts22 us22 ts24 us24 ts25 us25 ts34 us34 ts39 us39 ts57 us57 ts156 us156 ts53 us53 ts64 us64 ts95 us95 ts96 us96 ts99 us99 ts101 us101
attribute [local simp] convA extA lenA ixar fQ_eq
/-- A river, its forecast and a way by small numbers. -/
structure Sr where
  base : Q4
  bot : Q4
  sh : Q4
  way : Q4
  rows : List Q4
  keel : Int
structure Sr.Ok (x : Sr) : Prop where
  base : okQ x.base
  bot : okQ x.bot
  sh : okQ x.sh
  way : okQ x.way
  rows : ∀ q ∈ x.rows, okQ q
  keel : 0 ≤ x.keel ∧ x.keel ≤ 255
noncomputable def stC (x : Sr) : List AV := [U x.base.a, U x.base.b, U x.base.c, U x.base.d, U x.bot.a, U x.bot.b, U x.bot.c, U x.bot.d, U x.sh.a, U x.sh.b, U x.sh.c, U x.sh.d, U x.way.a, U x.way.b, U x.way.c, U x.way.d, .ro false 4 (x.rows.map fQ), U x.keel]
theorem stC_eq {x : Sr} : stC x = [U x.base.a, U x.base.b, U x.base.c, U x.base.d, U x.bot.a, U x.bot.b, U x.bot.c, U x.bot.d, U x.sh.a, U x.sh.b, U x.sh.c, U x.sh.d, U x.way.a, U x.way.b, U x.way.c, U x.way.d, .ro false 4 (x.rows.map fQ), U x.keel] := rfl
attribute [local simp] stC_eq
def span (a b : Int) : Bd := ⟨a, a + b % 40⟩
theorem span_fn {a b : Int} {h : H} (ha : 0 ≤ a ∧ a ≤ 255) (hb : 0 ≤ b ∧ b ≤ 255) : Fn Tryz.prog 85 [U a, U b] h (.agg [I (span a b).lo, I (span a b).hi]) h := by
  refine Fn.beside ?_ rfl h
  refine Fn.ofR0 noM (by kernel_rfl) Tryz.func85 rfl (by simp) ?_
  have c1 : IntKind.i64.wrap a = a := wrap_in (by omega) (by omega)
  have c2 : IntKind.i64.wrap b = b := wrap_in (by omega) (by omega)
  have c3 := tm (v := b) (n := 40) hb.1
  have c4 : IntKind.i64.wrap (a + b % 40) = a + b % 40 := wrap_in (by omega) (by omega)
  simp -dsimp -implicitDefEqProofs [c1, c2, c3, c4, span]
def rowsS (x : Sr) : List Q4 := if x.rows.length = 0 then [⟨0, 0, 0, 0⟩] else x.rows.take 12
theorem rowsS_ok {x : Sr} (h : x.Ok) : ∀ q ∈ rowsS x, okQ q := fun q hq => by
  unfold rowsS at hq
  split at hq
  · simp at hq; subst hq; unfold okQ; simp
  · exact h.rows q (List.mem_of_mem_take hq)
theorem rowsS_len {x : Sr} : 1 ≤ (rowsS x).length ∧ (rowsS x).length ≤ 12 := by
  unfold rowsS
  split
  · simp
  · rw [List.length_take]; omega
def side0S (x : Sr) : List Bd := (rowsS x).map fun q => span q.a q.b
def side1S (x : Sr) : List Bd := (rowsS x).map fun q => span q.c q.d
def curveS : List Rw := [⟨0, 0⟩, ⟨5000, 5000⟩]
def riverS (x : Sr) : Rv := ⟨[⟨10, 1, span x.base.a x.base.b, curveS, 0, span x.bot.a x.bot.b, 9000⟩, ⟨10, 1, span x.base.c x.base.d, curveS, 0, span x.bot.c x.bot.d, 9000⟩],
  [⟨12, span x.sh.a x.sh.b, 0, ⟨24 * (x.sh.c % 3 - 1), 24 * (x.sh.c % 3 - 1 + x.sh.d % 2)⟩⟩]⟩
def wayS (x : Sr) (n : Int) : List Ps := [⟨5, ⟨x.way.a % n, min (n - 1) (x.way.a % n + x.way.b % 3)⟩⟩, ⟨12, ⟨x.way.c % n, min (n - 1) (x.way.c % n + x.way.d % 3)⟩⟩]
def pgOf (x : Sr) : Pg := ⟨⟨riverS x, [side0S x, side1S x]⟩, wayS x (rowsS x).length, x.keel % 30⟩
theorem pgOf_hrs {x : Sr} : hrs (pgOf x).f.sides = (rowsS x).length := by simp [hrs, pgOf, side0S]
theorem span_in {a b : Int} (ha : 0 ≤ a ∧ a ≤ 255) (hb : 0 ≤ b ∧ b ≤ 255) : 0 ≤ (span a b).lo ∧ (span a b).lo ≤ (span a b).hi ∧ (span a b).hi ≤ 295 := by simp only [span]; omega
theorem pgOf_wok {x : Sr} : WOk (pgOf x) := by
  have hL := rowsS_len (x := x)
  refine ⟨by simp [pgOf, riverS], by simp [pgOf, riverS], by simp [pgOf], by simp [pgOf, wayS], fun y hy => ?_, fun l hl => ?_⟩
  · simp only [pgOf, riverS, List.mem_cons, List.not_mem_nil, or_false] at hy
    rcases hy with rfl | rfl <;> simp [curveS]
  · simp only [pgOf, List.mem_cons, List.not_mem_nil, or_false] at hl
    rcases hl with rfl | rfl
    · simp only [side0S, List.length_map]; omega
    · simp only [side1S, List.length_map]; omega
end Go.Pe

/- The passage by small numbers, as the program makes it. -/
namespace Go.Pe
open Go Go.Proofs Go.Proofs.YtffckclggkjbgaaGreat
set_option maxRecDepth 20000
set_option maxHeartbeats 8000000
attribute [local simp] ts5 us5 ts22 us22 ts24 us24 ts25 us25 ts34 us34 ts39 us39 ts57 us57 ts156 us156 ts53 us53 ts64 us64 ts95 us95 ts96 us96 ts99 us99 ts101 us101
attribute [local simp] convA extA lenA ixar fQ_eq stC_eq
/-- The cells of the passage, as they are written down. -/
noncomputable def fRT (r : Rc) : List AV := [I r.len, I r.delay, I r.base.lo, I r.base.hi, .ro true 2 (r.curve.map fW), I r.weir, I r.bot.lo, I r.bot.hi, I r.flood]
noncomputable def pgT (x : Sr) : List AV := [.ro true 9 ((riverS x).rs.map fRT), .ro true 6 ((riverS x).ss.map fS), .ro false 1 [fL (side0S x), fL (side1S x)], .ro false 3 ((wayS x (rowsS x).length).map fPs), I (x.keel % 30)]
theorem pgT_R {x : Sr} {c : Cx} {w : World} {D : Nat → Prop} {v : Value} (h : R c w D (.agg (pgT x)) v) : R c w D (.agg (pgC (pgOf x) true false false)) v := by
  refine R_agg_to (l := pgT x) rfl (fun i a b ha hb v hv => ?_) h
  match i, ha, hb with
  | 0, ha, hb =>
    cases ha; cases hb
    refine R_rows (by simp [pgOf]) (fun i rx ry h1 h2 => ?_) hv
    simp only [pgOf] at h2
    rw [List.getElem?_map] at h1 h2
    cases hl : (riverS x).rs[i]? with
    | none => rw [hl] at h1; simp at h1
    | some s =>
      rw [hl] at h1 h2
      simp only [Option.map_some, Option.some.injEq] at h1 h2
      subst h1; subst h2
      refine ⟨rfl, fun j x y h3 h4 D v hv => ?_⟩
      match j, h3, h4 with
      | 0, h3, h4 => cases h3; cases h4; exact hv
      | 1, h3, h4 => cases h3; cases h4; exact hv
      | 2, h3, h4 => cases h3; cases h4; exact hv
      | 3, h3, h4 => cases h3; cases h4; exact hv
      | 4, h3, h4 => cases h3; cases h4; exact R_flag hv
      | 5, h3, h4 => cases h3; cases h4; exact hv
      | 6, h3, h4 => cases h3; cases h4; exact hv
      | 7, h3, h4 => cases h3; cases h4; exact hv
      | 8, h3, h4 => cases h3; cases h4; exact hv
  | 1, ha, hb => cases ha; cases hb; exact R_flag hv
  | 2, ha, hb => cases ha; cases hb; exact hv
  | 3, ha, hb => cases ha; cases hb; exact hv
  | 4, ha, hb => cases ha; cases hb; exact hv
theorem ixsl {s s2 by' by2 o len b : Nat} {z z2 : List Value} {a f c a2 f2 c2 : Bool} {e : TypeId} {k2 : TK} {i : Int} (h0 : 0 ≤ i) (h1 : i < len) : indexA { kind := .sl e, size := s, zero := z, agg := a, bytes := by', fok := f, cmp := c } { kind := k2, size := s2, zero := z2, agg := a2, bytes := by2, fok := f2, cmp := c2 } (.sl b o len s2) i = some (.ptr b (o + i.toNat * s2)) := by
  unfold indexA
  rw [if_neg (by omega)]
  simp [h1]
attribute [local simp] ixsl
/-- Two rows of own memory, in own memory. -/
theorem frz_two {h : H} {N b : Nat} {x1 x2 y1 y2 : AV} (hb : h.get b = some [x1, x2]) (hN : N ≤ b) (h1 : ∃ k, frz k h N x1 = some y1) (h2 : ∃ k, frz k h N x2 = some y2) (hc : (clean y1 && one y1) = true ∧ (clean y2 && one y2) = true) : ∃ k, frz k h N (.sl b 0 2 1) = some (.ro false 1 [[y1], [y2]]) := by
  obtain ⟨k, hk⟩ := frzL_mapM (h := h) (N := N) (l := [x1, x2]) (l' := [y1, y2]) ⟨h1, h2, trivial⟩
  refine ⟨k + 1, ?_⟩
  have e := hk k (Nat.le_refl _)
  rw [frz, if_neg (by omega), hb]
  simp only [takeAt]
  rw [if_pos (by simp)]
  simp only [List.drop_zero, show List.take (2 * 1) [x1, x2] = [x1, x2] from rfl, e]
  rw [if_pos (by simp [hc.1, hc.2])]
  rfl
set_option maxHeartbeats 20000000 in
theorem passage_small {x : Sr} {h : H} (hx : x.Ok) : Fn Tryz.prog 45 [.agg (stC x)] h (.agg (pgC (pgOf x) true false false)) h := by
  refine Fn.weak (x := .agg (pgT x)) ?_ (fun c w D v hv => pgT_R hv)
  refine Fn.beside ?_ rfl h
  refine Fn.ofR0 (butM []) (by kernel_rfl) Tryz.func45 rfl (by simp) ?_
  have hL := rowsS_len (x := x)
  have hb := hx.base
  have ho := hx.bot
  have hs := hx.sh
  have hw := hx.way
  have hk := hx.keel
  have c1 : IntKind.i64.wrap x.sh.c = x.sh.c := wrap_in (by have := hs.2.2.1; omega) (by have := hs.2.2.1; omega)
  have c2 : IntKind.i64.wrap x.sh.d = x.sh.d := wrap_in (by have := hs.2.2.2; omega) (by have := hs.2.2.2; omega)
  have c3 := tm (v := x.sh.c) (n := 3) hs.2.2.1.1
  have c4 := tm (v := x.sh.d) (n := 2) hs.2.2.2.1
  have c5 : IntKind.i64.wrap (x.sh.c % 3 - 1) = x.sh.c % 3 - 1 := wrap_in (by omega) (by omega)
  have c6 : IntKind.i64.wrap (24 * (x.sh.c % 3 - 1)) = 24 * (x.sh.c % 3 - 1) := wrap_in (by omega) (by omega)
  have c7 : IntKind.i64.wrap (x.sh.c % 3 - 1 + x.sh.d % 2) = x.sh.c % 3 - 1 + x.sh.d % 2 := wrap_in (by omega) (by omega)
  have c8 : IntKind.i64.wrap (24 * (x.sh.c % 3 - 1 + x.sh.d % 2)) = 24 * (x.sh.c % 3 - 1 + x.sh.d % 2) := wrap_in (by omega) (by omega)
  have c9 : IntKind.i64.wrap x.keel = x.keel := wrap_in (by omega) (by omega)
  have c10 := tm (v := x.keel) (n := 30) hk.1
  simp -dsimp -implicitDefEqProofs
  refine DrawR.on {} (by kernel_rfl) (by simp) ?_
  simp (maxSteps := 10000000) -dsimp -implicitDefEqProofs
  refine onCallQ_in (span_fn hb.1 hb.2.1) ?_
  simp (maxSteps := 10000000) -dsimp -implicitDefEqProofs
  refine onCallQ_in (span_fn ho.1 ho.2.1) ?_
  simp (maxSteps := 10000000) -dsimp -implicitDefEqProofs
  refine onCallQ_in (span_fn hb.2.2.1 hb.2.2.2) ?_
  simp (maxSteps := 10000000) -dsimp -implicitDefEqProofs
  refine onCallQ_in (span_fn ho.2.2.1 ho.2.2.2) ?_
  simp (maxSteps := 10000000) -dsimp -implicitDefEqProofs
  refine onCallQ_in (span_fn hs.1 hs.2.1) ?_
  simp (maxSteps := 10000000) -dsimp -implicitDefEqProofs [c1, c2, c3, c4, c5, c6, c7, c8, c9, c10]
  refine Exists.elim (show ∃ n, n = (rowsS x).length from ⟨_, rfl⟩) fun n hn => ?_
  rw [← hn] at hL
  have hatI : ∀ i : Nat, i < n → (i < x.rows.length → x.rows[i]? = (rowsS x)[i]?) ∧ (¬ i < x.rows.length → (rowsS x)[i]? = some ⟨0, 0, 0, 0⟩) ∧ (i = 0 ∨ (i < x.rows.length ∧ i < 12)) := fun i hi => by
    rw [hn] at hi
    unfold rowsS at hi ⊢
    split at hi
    · rename_i h0
      simp at hi
      subst hi
      rw [if_pos h0]
      exact ⟨fun h => by omega, fun _ => rfl, .inl rfl⟩
    · rename_i h0
      rw [if_neg h0]
      rw [List.length_take] at hi
      exact ⟨fun h => by rw [List.getElem?_take_of_lt (by omega)], fun h => by omega, .inr (by omega)⟩
  have hend : ¬ (n < x.rows.length ∧ n < 12) := by
    rw [hn]; unfold rowsS
    split
    · rename_i h0; simp; omega
    · rw [List.length_take]; omega
  refine LoopCR.on 181 (fun i => [(1, .ptr 0 0), (2, .ptr 1 0), (5, .ptr 2 0), (6, I (i : Nat))]) (fun i => [some (stC x), some [.val (.slice none 0 0), .val (.slice none 0 0), .val (.slice none 0 0), .val (.slice none 0 0), I 0], some [.ro true 9 ((riverS x).rs.map fRT), .ro true 6 ((riverS x).ss.map fS), .sl 3 0 2 1, .val (.slice none 0 0), I (x.keel % 30)], some [growN 4 2 i, growN 5 2 i], grown i (rws fBd ((side0S x).take i)), grown i (rws fBd ((side1S x).take i))]) (fun i => i ≤ n) (fun i => n - i) 0 [0, 1, 69, 68, 99, 98] (by simp) ?_ ?_
  · simp -dsimp -implicitDefEqProofs [riverS, fRT, curveS, span]
    done
  intro i j hi
  have w1 : IntKind.i64.wrap ((i : Int) + 1) = (i : Int) + 1 := wrap_in (by omega) (by omega)
  have gp0 : growN 4 2 n = .sl 4 0 n 2 := growN_pos (by omega)
  have gp1 : growN 5 2 n = .sl 5 0 n 2 := growN_pos (by omega)
  have hnz' : (n = 0) = False := eq_false (by omega)
  have hnz : ((n : Int) = 0) = False := eq_false (by omega)
  have u1 := hw.1
  have u2 := hw.2.1
  have u3 := hw.2.2.1
  have u4 := hw.2.2.2
  have a1 : IntKind.i64.wrap x.way.a = x.way.a := wrap_in (by omega) (by omega)
  have a2 : IntKind.i64.wrap x.way.b = x.way.b := wrap_in (by omega) (by omega)
  have a3 : IntKind.i64.wrap x.way.c = x.way.c := wrap_in (by omega) (by omega)
  have a4 : IntKind.i64.wrap x.way.d = x.way.d := wrap_in (by omega) (by omega)
  have m1 := tm (v := x.way.a) (n := n) u1.1
  have m2 := tm (v := x.way.b) (n := 3) u2.1
  have m3 := tm (v := x.way.c) (n := n) u3.1
  have m4 := tm (v := x.way.d) (n := 3) u4.1
  have b1 := Int.emod_nonneg x.way.a (show (n : Int) ≠ 0 by omega)
  have b2 := Int.emod_lt_of_pos x.way.a (show (0 : Int) < n by omega)
  have b3 := Int.emod_nonneg x.way.c (show (n : Int) ≠ 0 by omega)
  have b4 := Int.emod_lt_of_pos x.way.c (show (0 : Int) < n by omega)
  have a5 : IntKind.i64.wrap (x.way.a % n + x.way.b % 3) = x.way.a % n + x.way.b % 3 := wrap_in (by omega) (by omega)
  have a6 : IntKind.i64.wrap (x.way.c % n + x.way.d % 3) = x.way.c % n + x.way.d % 3 := wrap_in (by omega) (by omega)
  have a7 : IntKind.i64.wrap ((n : Int) - 1) = (n : Int) - 1 := wrap_in (by omega) (by omega)
  have z0 : IntKind.i64.wrap 0 = 0 := rfl
  have z1 : IntKind.i64.wrap 1 = 1 := rfl
  have z2 : IntKind.i64.wrap 2 = 2 := rfl
  have z3 : IntKind.i64.wrap 3 = 3 := rfl
  have z5 : IntKind.i64.wrap 5 = 5 := rfl
  have z7 : IntKind.i64.wrap 7 = 7 := rfl
  have z12 : IntKind.i64.wrap 12 = 12 := rfl
  have a9 : IntKind.i64.wrap (x.way.c % n) = x.way.c % n := wrap_in (by omega) (by omega)
  have a8 : IntKind.i64.wrap (x.way.a % n) = x.way.a % n := wrap_in (by omega) (by omega)
  refine (Classical.em (i = n)).elim (fun hin => ?_) (fun hne => ?_)
  · have n0 : ((i : Int) == 0) = false := by simp; omega
    have t0 : (side0S x).take i = side0S x := List.take_of_length_le (by rw [side0S, List.length_map]; omega)
    have t1 : (side1S x).take i = side1S x := List.take_of_length_le (by rw [side1S, List.length_map]; omega)
    refine (Classical.em (i < x.rows.length)).elim (fun hc => ?_) (fun hc => ?_)
    · have d1 : decide ((i : Int) < (x.rows.length : Int)) = true := decide_eq_true (by omega)
      have d1' : decide (i < x.rows.length) = true := decide_eq_true (by omega)
      have d2 : decide ((i : Int) < 12) = false := decide_eq_false (by omega)
      have d2' : decide (i < 12) = false := decide_eq_false (by omega)
      have hin' := hin.symm
      subst hin'
      simp -dsimp -implicitDefEqProofs [n0, d1, d1', d2, d2', t0, t1, -lenA, lenA_growN, lenA_ro]
      refine LoopCR.on 181 (fun k => [(1, .ptr 0 0), (2, .ptr 1 0), (5, .ptr 2 0), (8, I (n : Nat)), (9, I (k : Nat))]) (fun k => [some (stC x), some [.val (.slice none 0 0), .val (.slice none 0 0), .val (.slice none 0 0), .val (.slice none 0 0), I 0], some [.ro true 9 ((riverS x).rs.map fRT), .ro true 6 ((riverS x).ss.map fS), .sl 3 0 2 1, growN 6 3 k, I (x.keel % 30)], some [growN 4 2 n, growN 5 2 n], grown n (rws fBd (side0S x)), grown n (rws fBd (side1S x)), grown k (rws fPs ((wayS x n).take k))]) (fun k => k ≤ 2) (fun k => 2 - k) 0 [0, 1, 2, 3, 4, 5, 99] (by simp) ?_ ?_
      · simp -dsimp -implicitDefEqProofs
      intro k j hk
      refine (Classical.em (k = 0)).elim (fun hk0 => ?_) (fun hk0 => ?_)
      · subst hk0
        simp -dsimp -implicitDefEqProofs [m1, m2, m3, m4, a1, a2, a3, a4, a5, a6, a7, a8, a9, z0, z2, z5, z7, z12, z1, z3, hnz, hnz']
        refine DrawR.on { M := [2, 6], see := [(1, 2)], eff := [(22, [6]), (24, [2])] } (by kernel_rfl) (by simp) ?_
        simp -dsimp -implicitDefEqProofs [m1, m2, m3, m4, a1, a2, a3, a4, a5, a6, a7, a8, a9, z0, z2, z5, z7, z12, z1, z3, hnz, hnz', -storeA]
        refine on_appendN (b := 6) (n := 0) fPs [] ⟨5, ⟨x.way.a % n, min (n - 1) (x.way.a % n + x.way.b % 3)⟩⟩ (by simp [wayS]) rfl (show (0 + 1) * 24 ≤ 70368744177664 by omega) (by omega) rfl rfl (by simp) rfl (fun _ => rfl) ?_ rfl
        simp -dsimp -implicitDefEqProofs [z0, z1, z2]
        refine again_in 1 [0, 1, 2, 3, 4, 5, 29] (by omega) (by omega) ?_
        simp -dsimp -implicitDefEqProofs [wayS]
        done
      refine (Classical.em (k = 1)).elim (fun hk1 => ?_) (fun hk1 => ?_)
      · subst hk1
        simp -dsimp -implicitDefEqProofs [m1, m2, m3, m4, a1, a2, a3, a4, a5, a6, a7, a8, a9, z0, z2, z5, z7, z12, z1, z3, hnz, hnz']
        refine DrawR.on { M := [2, 6], see := [(1, 2)], eff := [(22, [6]), (24, [2])] } (by kernel_rfl) (by simp) ?_
        simp -dsimp -implicitDefEqProofs [m1, m2, m3, m4, a1, a2, a3, a4, a5, a6, a7, a8, a9, z0, z2, z5, z7, z12, z1, z3, hnz, hnz', -storeA]
        refine on_appendN (b := 6) (n := 1) fPs [⟨5, ⟨x.way.a % n, min (n - 1) (x.way.a % n + x.way.b % 3)⟩⟩] ⟨12, ⟨x.way.c % n, min (n - 1) (x.way.c % n + x.way.d % 3)⟩⟩ (by simp [wayS]) rfl (show (1 + 1) * 24 ≤ 70368744177664 by omega) (by omega) rfl rfl (by simp) rfl (fun _ => rfl) ?_ rfl
        simp -dsimp -implicitDefEqProofs [z0, z1, z2]
        refine again_in 2 [0, 1, 2, 3, 4, 5, 29] (by omega) (by omega) ?_
        simp -dsimp -implicitDefEqProofs [wayS]
        done
      obtain rfl : k = 2 := by omega
      simp -dsimp -implicitDefEqProofs
      have g0 : (side0S x).length = n := by rw [side0S, List.length_map]; omega
      have g1 : (side1S x).length = n := by rw [side1S, List.length_map]; omega
      refine frz_aggL ⟨⟨1, rfl⟩, ⟨1, rfl⟩, frz_two (b := 3) (x1 := growN 4 2 n) (x2 := growN 5 2 n) (by simp [mkH]) (Nat.zero_le _) (frz_rwsN (f := fBd) (l := side0S x) (b := 4) (n := n) (by simp [mkH]) (Nat.zero_le _) g0 (by omega) (fun _ => rfl) (fun _ => rfl)) (frz_rwsN (f := fBd) (l := side1S x) (b := 5) (n := n) (by simp [mkH]) (Nat.zero_le _) g1 (by omega) (fun _ => rfl) (fun _ => rfl)) ⟨rfl, rfl⟩, ?_, ⟨1, rfl⟩, trivial⟩
      rw [← hn]
      exact frz_rwsN (f := fPs) (l := wayS x n) (b := 6) (n := 2) (by simp [mkH, wayS]) (Nat.zero_le _) rfl (by omega) (fun _ => rfl) (fun _ => rfl)
    · have d1 : decide ((i : Int) < (x.rows.length : Int)) = false := decide_eq_false (by omega)
      have d1' : decide (i < x.rows.length) = false := decide_eq_false (by omega)
      have d2 := d1
      have d2' := d1'
      have hin' := hin.symm
      subst hin'
      simp -dsimp -implicitDefEqProofs [n0, d1, d1', d2, d2', t0, t1, -lenA, lenA_growN, lenA_ro]
      refine LoopCR.on 181 (fun k => [(1, .ptr 0 0), (2, .ptr 1 0), (5, .ptr 2 0), (8, I (n : Nat)), (9, I (k : Nat))]) (fun k => [some (stC x), some [.val (.slice none 0 0), .val (.slice none 0 0), .val (.slice none 0 0), .val (.slice none 0 0), I 0], some [.ro true 9 ((riverS x).rs.map fRT), .ro true 6 ((riverS x).ss.map fS), .sl 3 0 2 1, growN 6 3 k, I (x.keel % 30)], some [growN 4 2 n, growN 5 2 n], grown n (rws fBd (side0S x)), grown n (rws fBd (side1S x)), grown k (rws fPs ((wayS x n).take k))]) (fun k => k ≤ 2) (fun k => 2 - k) 0 [0, 1, 2, 3, 4, 5, 99] (by simp) ?_ ?_
      · simp -dsimp -implicitDefEqProofs
      intro k j hk
      refine (Classical.em (k = 0)).elim (fun hk0 => ?_) (fun hk0 => ?_)
      · subst hk0
        simp -dsimp -implicitDefEqProofs [m1, m2, m3, m4, a1, a2, a3, a4, a5, a6, a7, a8, a9, z0, z2, z5, z7, z12, z1, z3, hnz, hnz']
        refine DrawR.on { M := [2, 6], see := [(1, 2)], eff := [(22, [6]), (24, [2])] } (by kernel_rfl) (by simp) ?_
        simp -dsimp -implicitDefEqProofs [m1, m2, m3, m4, a1, a2, a3, a4, a5, a6, a7, a8, a9, z0, z2, z5, z7, z12, z1, z3, hnz, hnz', -storeA]
        refine on_appendN (b := 6) (n := 0) fPs [] ⟨5, ⟨x.way.a % n, min (n - 1) (x.way.a % n + x.way.b % 3)⟩⟩ (by simp [wayS]) rfl (show (0 + 1) * 24 ≤ 70368744177664 by omega) (by omega) rfl rfl (by simp) rfl (fun _ => rfl) ?_ rfl
        simp -dsimp -implicitDefEqProofs [z0, z1, z2]
        refine again_in 1 [0, 1, 2, 3, 4, 5, 29] (by omega) (by omega) ?_
        simp -dsimp -implicitDefEqProofs [wayS]
        done
      refine (Classical.em (k = 1)).elim (fun hk1 => ?_) (fun hk1 => ?_)
      · subst hk1
        simp -dsimp -implicitDefEqProofs [m1, m2, m3, m4, a1, a2, a3, a4, a5, a6, a7, a8, a9, z0, z2, z5, z7, z12, z1, z3, hnz, hnz']
        refine DrawR.on { M := [2, 6], see := [(1, 2)], eff := [(22, [6]), (24, [2])] } (by kernel_rfl) (by simp) ?_
        simp -dsimp -implicitDefEqProofs [m1, m2, m3, m4, a1, a2, a3, a4, a5, a6, a7, a8, a9, z0, z2, z5, z7, z12, z1, z3, hnz, hnz', -storeA]
        refine on_appendN (b := 6) (n := 1) fPs [⟨5, ⟨x.way.a % n, min (n - 1) (x.way.a % n + x.way.b % 3)⟩⟩] ⟨12, ⟨x.way.c % n, min (n - 1) (x.way.c % n + x.way.d % 3)⟩⟩ (by simp [wayS]) rfl (show (1 + 1) * 24 ≤ 70368744177664 by omega) (by omega) rfl rfl (by simp) rfl (fun _ => rfl) ?_ rfl
        simp -dsimp -implicitDefEqProofs [z0, z1, z2]
        refine again_in 2 [0, 1, 2, 3, 4, 5, 29] (by omega) (by omega) ?_
        simp -dsimp -implicitDefEqProofs [wayS]
        done
      obtain rfl : k = 2 := by omega
      simp -dsimp -implicitDefEqProofs
      have g0 : (side0S x).length = n := by rw [side0S, List.length_map]; omega
      have g1 : (side1S x).length = n := by rw [side1S, List.length_map]; omega
      refine frz_aggL ⟨⟨1, rfl⟩, ⟨1, rfl⟩, frz_two (b := 3) (x1 := growN 4 2 n) (x2 := growN 5 2 n) (by simp [mkH]) (Nat.zero_le _) (frz_rwsN (f := fBd) (l := side0S x) (b := 4) (n := n) (by simp [mkH]) (Nat.zero_le _) g0 (by omega) (fun _ => rfl) (fun _ => rfl)) (frz_rwsN (f := fBd) (l := side1S x) (b := 5) (n := n) (by simp [mkH]) (Nat.zero_le _) g1 (by omega) (fun _ => rfl) (fun _ => rfl)) ⟨rfl, rfl⟩, ?_, ⟨1, rfl⟩, trivial⟩
      rw [← hn]
      exact frz_rwsN (f := fPs) (l := wayS x n) (b := 6) (n := 2) (by simp [mkH, wayS]) (Nat.zero_le _) rfl (by omega) (fun _ => rfl) (fun _ => rfl)
  have hlt : i < n := by omega
  have hat := hatI i hlt
  refine Exists.elim (show ∃ r, (rowsS x)[i]? = some r from ⟨_, List.getElem?_eq_getElem (by omega)⟩) fun r hr => ?_
  have hok := rowsS_ok hx r (List.mem_of_getElem? hr)
  have hst0 : (side0S x).take (i + 1) = (side0S x).take i ++ [span r.a r.b] := by rw [List.take_add_one, side0S, List.getElem?_map, hr]; rfl
  have hst1 : (side1S x).take (i + 1) = (side1S x).take i ++ [span r.c r.d] := by rw [List.take_add_one, side1S, List.getElem?_map, hr]; rfl
  have hl0 : ((side0S x).take i).length = i := by rw [List.length_take, side0S, List.length_map]; omega
  have hl1 : ((side1S x).take i).length = i := by rw [List.length_take, side1S, List.length_map]; omega
  refine (Classical.em (i < x.rows.length)).elim (fun hc => ?_) (fun hc => ?_)
  · have hrow : x.rows[i]? = some r := by rw [hat.1 hc, hr]
    have d1 : decide ((i : Int) < (x.rows.length : Int)) = true := decide_eq_true (by omega)
    have d1' : decide (i < x.rows.length) = true := decide_eq_true (by omega)
    refine (Classical.em (i = 0)).elim (fun h0 => ?_) (fun h0 => ?_)
    · have n0 : ((i : Int) == 0) = true := by simp; omega
      simp -dsimp -implicitDefEqProofs [n0, d1, d1', hrow]
      refine DrawR.on { M := [3, 4, 5], see := [(7, 3), (18, 3)], eff := [(14, [4]), (25, [5]), (27, [3]), (29, [3])] } (by kernel_rfl) (by simp) ?_
      simp -dsimp -implicitDefEqProofs [-storeA]
      refine onCallQ_in (span_fn hok.1 hok.2.1) ?_
      simp -dsimp -implicitDefEqProofs [-storeA]
      refine on_appendN fBd ((side0S x).take i) (span r.a r.b) (by simp) hl0 (show (i + 1) * 16 ≤ 70368744177664 by omega) (by omega) rfl rfl (by simp) rfl (fun _ => rfl) ?_ rfl
      simp -dsimp -implicitDefEqProofs [-storeA]
      refine onCallQ_in (span_fn hok.2.2.1 hok.2.2.2) ?_
      simp -dsimp -implicitDefEqProofs [-storeA]
      refine on_appendN fBd ((side1S x).take i) (span r.c r.d) (by simp) hl1 (show (i + 1) * 16 ≤ 70368744177664 by omega) (by omega) rfl rfl (by simp) rfl (fun _ => rfl) ?_ rfl
      simp -dsimp -implicitDefEqProofs [w1]
      refine again_in (i + 1) [0, 1, 2, 3, 21, 32] (by omega) (by omega) ?_
      simp -dsimp -implicitDefEqProofs [hst0, hst1]
    · have n0 : ((i : Int) == 0) = false := by simp; omega
      have d2 : decide ((i : Int) < 12) = true := decide_eq_true (by omega)
      have d2' : decide (i < 12) = true := decide_eq_true (by omega)
      simp -dsimp -implicitDefEqProofs [n0, d1, d1', d2, d2', hrow]
      refine DrawR.on { M := [3, 4, 5], see := [(7, 3), (18, 3)], eff := [(14, [4]), (25, [5]), (27, [3]), (29, [3])] } (by kernel_rfl) (by simp) ?_
      simp -dsimp -implicitDefEqProofs [-storeA]
      refine onCallQ_in (span_fn hok.1 hok.2.1) ?_
      simp -dsimp -implicitDefEqProofs [-storeA]
      refine on_appendN fBd ((side0S x).take i) (span r.a r.b) (by simp) hl0 (show (i + 1) * 16 ≤ 70368744177664 by omega) (by omega) rfl rfl (by simp) rfl (fun _ => rfl) ?_ rfl
      simp -dsimp -implicitDefEqProofs [-storeA]
      refine onCallQ_in (span_fn hok.2.2.1 hok.2.2.2) ?_
      simp -dsimp -implicitDefEqProofs [-storeA]
      refine on_appendN fBd ((side1S x).take i) (span r.c r.d) (by simp) hl1 (show (i + 1) * 16 ≤ 70368744177664 by omega) (by omega) rfl rfl (by simp) rfl (fun _ => rfl) ?_ rfl
      simp -dsimp -implicitDefEqProofs [w1]
      refine again_in (i + 1) [0, 1, 2, 3, 21, 32] (by omega) (by omega) ?_
      simp -dsimp -implicitDefEqProofs [hst0, hst1]
  · have hz : r = ⟨0, 0, 0, 0⟩ := by have := hat.2.1 hc; rw [hr] at this; exact Option.some.inj this
    have h0 : i = 0 := by rcases hat.2.2 with h | h <;> omega
    have d1 : decide ((i : Int) < (x.rows.length : Int)) = false := decide_eq_false (by omega)
    have d1' : decide (i < x.rows.length) = false := decide_eq_false (by omega)
    have n0 : ((i : Int) == 0) = true := by simp; omega
    subst hz
    simp -dsimp -implicitDefEqProofs [n0, d1, d1']
    refine DrawR.on { M := [3, 4, 5], see := [(7, 3), (18, 3)], eff := [(14, [4]), (25, [5]), (27, [3]), (29, [3])] } (by kernel_rfl) (by simp) ?_
    simp -dsimp -implicitDefEqProofs [-storeA]
    refine onCallQ_in (span_fn hok.1 hok.2.1) ?_
    simp -dsimp -implicitDefEqProofs [-storeA]
    refine on_appendN fBd ((side0S x).take i) (span 0 0) (by simp) hl0 (show (i + 1) * 16 ≤ 70368744177664 by omega) (by omega) rfl rfl (by simp) rfl (fun _ => rfl) ?_ rfl
    simp -dsimp -implicitDefEqProofs [-storeA]
    refine onCallQ_in (span_fn hok.2.2.1 hok.2.2.2) ?_
    simp -dsimp -implicitDefEqProofs [-storeA]
    refine on_appendN fBd ((side1S x).take i) (span 0 0) (by simp) hl1 (show (i + 1) * 16 ≤ 70368744177664 by omega) (by omega) rfl rfl (by simp) rfl (fun _ => rfl) ?_ rfl
    simp -dsimp -implicitDefEqProofs [w1]
    refine again_in (i + 1) [0, 1, 2, 3, 21, 32] (by omega) (by omega) ?_
    simp -dsimp -implicitDefEqProofs [hst0, hst1]
end Go.Pe
