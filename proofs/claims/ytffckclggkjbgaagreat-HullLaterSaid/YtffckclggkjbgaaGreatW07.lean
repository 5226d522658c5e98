import Derived.Test.YtffckclggkjbgaaGreatW06
set_option linter.unusedVariables false
set_option linter.unusedSimpArgs false
/- Passages that are not too great, and copies of them. -/
namespace Go.Pe
open Go Go.Proofs Go.Proofs.YtffckclggkjbgaaGreat
set_option maxRecDepth 20000
set_option maxHeartbeats 8000000
attribute [local simp] ts22 us22 ts24 us24 ts25 us25 ts34 us34 ts39 us39 ts57 us57 ts156 us156 ts53 us53 ts64 us64
attribute [local simp] convA extA lenA
attribute [local simp] fW_eq fR_eq fS_eq fBd_eq fL_eq pgC_eq
/-- What the statements look at. -/
structure WOk (p : Pg) : Prop where
  n : p.f.r.rs.length ≤ 5
  m : p.f.r.ss.length ≤ 45
  s : p.f.sides.length ≤ 6
  w : p.way.length ≤ 12
  c : ∀ x ∈ p.f.r.rs, x.curve.length ≤ 35
  h : ∀ l ∈ p.f.sides, ¬ (40 < l.length ∧ l.length ≤ 400) ∧ l.length ≤ 450
theorem WOk.small {p : Pg} (h : WOk p) : SmallF p.f := ⟨⟨by have := h.n; omega, by have := h.m; omega, fun x hx => by have := h.c x hx; omega⟩, by have := h.s; omega, fun l hl => (h.h l hl).2⟩
open Classical in
noncomputable def wideF (p : Pg) : Bool := decide (¬ WOk p)
theorem wide_of {p : Pg} (h : ¬ WOk p) : wideF p = true := by simp [wideF, h]
theorem wide_not {p : Pg} (h : WOk p) : wideF p = false := by simp [wideF, h]
theorem wok_of {p : Pg} (h : wideF p = false) : WOk p := by simpa [wideF] using h
theorem wide_fn {p : Pg} {f1 f2 fw : Bool} {h : H} : Fn Tryz.prog 29 [.agg (pgC p f1 f2 fw)] h (B (wideF p)) h := by
  refine Fn.beside ?_ rfl h
  refine Fn.ofR0 noM (by kernel_rfl) Tryz.func29 rfl (by simp) ?_
  simp -dsimp -implicitDefEqProofs
  refine ifD_in (fun h1 => ?_) (fun h1 => ?_)
  · have e := wide_of (p := p) fun w => by have := w.n; omega
    simp -dsimp -implicitDefEqProofs [e]
  simp -dsimp -implicitDefEqProofs
  refine ifD_in (fun h2 => ?_) (fun h2 => ?_)
  · have e := wide_of (p := p) fun w => by have := w.m; omega
    simp -dsimp -implicitDefEqProofs [e]
  simp -dsimp -implicitDefEqProofs
  refine ifD_in (fun h3 => ?_) (fun h3 => ?_)
  · have e := wide_of (p := p) fun w => by have := w.s; omega
    simp -dsimp -implicitDefEqProofs [e]
  simp -dsimp -implicitDefEqProofs
  refine ifD_in (fun h4 => ?_) (fun h4 => ?_)
  · have e := wide_of (p := p) fun w => by have := w.w; omega
    simp -dsimp -implicitDefEqProofs [e]
  simp -dsimp -implicitDefEqProofs
  refine LoopCR.on 78 (fun i => [(1, .ptr 0 0), (3, I (i : Nat))]) (fun i => [some (pgC p f1 f2 fw)]) (fun i => i ≤ p.f.r.rs.length ∧ ∀ (k : Nat) (x : Rc), k < i → p.f.r.rs[k]? = some x → x.curve.length ≤ 35) (fun i => p.f.r.rs.length - i) 0 [0] ⟨by simp, fun k x hk => by omega⟩ ?_ ?_
  · simp -dsimp -implicitDefEqProofs
  rintro i j ⟨hi, hc⟩
  simp -dsimp -implicitDefEqProofs
  refine ifD_in (fun hlt => ?_) (fun hge => ?_)
  · refine Exists.elim (show ∃ x, p.f.r.rs[i]? = some x from ⟨_, List.getElem?_eq_getElem hlt⟩) fun x hx => ?_
    have w1 : IntKind.i64.wrap ((i : Int) + 1) = (i : Int) + 1 := wrap_in (by omega) (by omega)
    simp -dsimp -implicitDefEqProofs [hx]
    refine ifD_in (fun h5 => ?_) (fun h5 => ?_)
    · have e := wide_of (p := p) fun w => by have := w.c x (List.mem_of_getElem? hx); omega
      simp -dsimp -implicitDefEqProofs [e]
    have hst : ∀ (k : Nat) (x : Rc), k < i + 1 → p.f.r.rs[k]? = some x → x.curve.length ≤ 35 := fun k x' hk hk2 => by
      by_cases hki : k = i
      · subst hki; rw [hx] at hk2; cases hk2; omega
      · exact hc k x' (by omega) hk2
    simp -dsimp -implicitDefEqProofs [w1]
    refine again_in (i + 1) [0] ⟨by omega, hst⟩ (by omega) ?_
    simp -dsimp -implicitDefEqProofs
  have hcc : ∀ x ∈ p.f.r.rs, x.curve.length ≤ 35 := fun x hx => by
    obtain ⟨k, hk, rfl⟩ := List.getElem_of_mem hx
    exact hc k _ (by omega) (List.getElem?_eq_getElem hk)
  simp -dsimp -implicitDefEqProofs
  refine LoopCR.on 78 (fun i => [(1, .ptr 0 0), (4, I (i : Nat))]) (fun i => [some (pgC p f1 f2 fw)]) (fun i => i ≤ p.f.sides.length ∧ ∀ (k : Nat) (l : List Bd), k < i → p.f.sides[k]? = some l → ¬ (40 < l.length ∧ l.length ≤ 400) ∧ l.length ≤ 450) (fun i => p.f.sides.length - i) 0 [0] ⟨by simp, fun k x hk => by omega⟩ ?_ ?_
  · simp -dsimp -implicitDefEqProofs
  rintro i j ⟨hi, hs⟩
  simp -dsimp -implicitDefEqProofs
  refine ifD_in (fun hlt => ?_) (fun hge => ?_)
  · refine Exists.elim (show ∃ x, p.f.sides[i]? = some x from ⟨_, List.getElem?_eq_getElem hlt⟩) fun l hx => ?_
    have w1 : IntKind.i64.wrap ((i : Int) + 1) = (i : Int) + 1 := wrap_in (by omega) (by omega)
    have hbad : ¬ (¬ (40 < l.length ∧ l.length ≤ 400) ∧ l.length ≤ 450) → wideF p = true := fun hb => wide_of fun w => hb (w.h l (List.mem_of_getElem? hx))
    have hst : (¬ (40 < l.length ∧ l.length ≤ 400) ∧ l.length ≤ 450) → ∀ (k : Nat) (l : List Bd), k < i + 1 → p.f.sides[k]? = some l → ¬ (40 < l.length ∧ l.length ≤ 400) ∧ l.length ≤ 450 := fun hg k x' hk hk2 => by
      by_cases hki : k = i
      · subst hki; rw [hx] at hk2; cases hk2; exact hg
      · exact hs k x' (by omega) hk2
    refine (Classical.em (¬ (40 < l.length ∧ l.length ≤ 400) ∧ l.length ≤ 450)).elim (fun hg => ?_) (fun hg => ?_)
    · have hst := hst hg
      refine (Classical.em (40 < l.length)).elim (fun h6 => ?_) (fun h6 => ?_)
      · have d1 : decide ((40 : Int) < (l.length : Int)) = true := decide_eq_true (by omega)
        have d2 : decide ((l.length : Int) ≤ 400) = false := decide_eq_false (by omega)
        have d3 : decide ((450 : Int) < (l.length : Int)) = false := decide_eq_false (by omega)
        simp -dsimp -implicitDefEqProofs [hx, d1, d2, d3, w1]
        refine again_in (i + 1) [0] ⟨by omega, hst⟩ (by omega) ?_
        simp -dsimp -implicitDefEqProofs
      · have d1 : decide ((40 : Int) < (l.length : Int)) = false := decide_eq_false (by omega)
        have d3 : decide ((450 : Int) < (l.length : Int)) = false := decide_eq_false (by omega)
        simp -dsimp -implicitDefEqProofs [hx, d1, d3, w1]
        refine again_in (i + 1) [0] ⟨by omega, hst⟩ (by omega) ?_
        simp -dsimp -implicitDefEqProofs
    · have e := hbad hg
      have d1 : decide ((40 : Int) < (l.length : Int)) = true := decide_eq_true (by omega)
      refine (Classical.em (l.length ≤ 400)).elim (fun h6 => ?_) (fun h6 => ?_)
      · have d2 : decide ((l.length : Int) ≤ 400) = true := decide_eq_true (by omega)
        simp -dsimp -implicitDefEqProofs [hx, d1, d2, e]
      · have d2 : decide ((l.length : Int) ≤ 400) = false := decide_eq_false (by omega)
        have d3 : decide ((450 : Int) < (l.length : Int)) = true := decide_eq_true (by omega)
        simp -dsimp -implicitDefEqProofs [hx, d1, d2, d3, e]
  have hss : ∀ l ∈ p.f.sides, ¬ (40 < l.length ∧ l.length ≤ 400) ∧ l.length ≤ 450 := fun l hl => by
    obtain ⟨k, hk, rfl⟩ := List.getElem_of_mem hl
    exact hs k _ (by omega) (List.getElem?_eq_getElem hk)
  have e := wide_not (p := p) ⟨by omega, by omega, by omega, by omega, hcc, hss⟩
  simp -dsimp -implicitDefEqProofs [e]
theorem way_fn {p : Pg} {f1 f2 fw : Bool} {h : H} (hw : WOk p) : Fn Tryz.prog 30 [.agg (pgC p f1 f2 fw)] h (.agg (pgC p (isz p.f.r.rs.length) (isz p.f.sides.length) false)) h := by
  refine Fn.weak (x := .agg [roN 9 (p.f.r.rs.map fR), p.f.r.shoals, roN 1 (p.f.sides.map fL), .ro false 3 (p.way.map fPs), I p.keel]) ?_ (fun c w D v hv => ?_)
  rotate_left
  · refine R_agg_to (l := [roN 9 (p.f.r.rs.map fR), p.f.r.shoals, roN 1 (p.f.sides.map fL), .ro false 3 (p.way.map fPs), I p.keel]) rfl (fun i x y hx hy v hv => ?_) hv
    match i, hx, hy with
    | 0, hx, hy =>
      cases hx; cases hy
      have := roN_R hv
      rwa [List.length_map] at this
    | 1, hx, hy => cases hx; cases hy; exact hv
    | 2, hx, hy =>
      cases hx; cases hy
      have := roN_R hv
      rwa [List.length_map] at this
    | 3, hx, hy => cases hx; cases hy; exact hv
    | 4, hx, hy => cases hx; cases hy; exact hv
  refine Fn.beside ?_ rfl h
  refine Fn.ofR0 (butM [12, 31, 43, 62]) (by kernel_rfl) Tryz.func30 rfl (by simp) ?_
  have hn := hw.n
  have hm := hw.m
  have hs := hw.s
  have hwy := hw.w
  have b1 : p.f.r.ss.length * 48 ≤ 70368744177664 := by omega
  have b2 : p.f.r.ss.length ≤ 70368744177664 := by omega
  have b3 : p.way.length * 24 ≤ 70368744177664 := by omega
  have b4 : p.way.length ≤ 70368744177664 := by omega
  simp -dsimp -implicitDefEqProofs [b1, b2]
  refine LoopCR.on 67 (fun i => [(1, .ptr 0 0), (2, .ptr 1 0), (3, .ptr 2 0), (4, I (i : Nat))]) (fun i => [some (pgC p f1 f2 fw), some [.val (.slice none 0 0), .val (.slice none 0 0), .val (.slice none 0 0), .val (.slice none 0 0), I 0], some [growN 3 9 i, p.f.r.shoals], grown i (rws fR (p.f.r.rs.take i))]) (fun i => i ≤ p.f.r.rs.length) (fun i => p.f.r.rs.length - i) 0 [0, 1, 2, 99] (by simp) ?_ ?_
  · simp -dsimp -implicitDefEqProofs
  intro i j hi
  simp -dsimp -implicitDefEqProofs
  refine ifD_in (fun hlt => ?_) (fun hge => ?_)
  · refine Exists.elim (show ∃ x, p.f.r.rs[i]? = some x from ⟨_, List.getElem?_eq_getElem hlt⟩) fun x hx => ?_
    have hcx := hw.c x (List.mem_of_getElem? hx)
    have hst : p.f.r.rs.take (i + 1) = p.f.r.rs.take i ++ [x] := by rw [List.take_add_one, hx]; rfl
    have w1 : IntKind.i64.wrap ((i : Int) + 1) = (i : Int) + 1 := wrap_in (by omega) (by omega)
    have b5 : x.curve.length * 16 ≤ 70368744177664 := by omega
    have b6 : x.curve.length ≤ 70368744177664 := by omega
    simp -dsimp -implicitDefEqProofs [hx, b5, b6]
    refine on_appendN fR (p.f.r.rs.take i) x (by simp) (by rw [List.length_take]; omega) (by simp; omega) (by omega) rfl rfl (by simp) rfl (fun _ => rfl) ?_ (by simp)
    simp -dsimp -implicitDefEqProofs [w1]
    refine again_in (i + 1) [0, 1, 2, 5] (by omega) (by omega) ?_
    simp -dsimp -implicitDefEqProofs [hst]
  have hin : i = p.f.r.rs.length := by omega
  simp -dsimp -implicitDefEqProofs [hin]
  refine DrawR.on {} (by kernel_rfl) (by simp) ?_
  simp -dsimp -implicitDefEqProofs [b3, b4]
  refine LoopCR.on 67 (fun i => [(1, .ptr 0 0), (2, .ptr 1 0), (6, .ptr 2 0), (7, I (i : Nat))]) (fun i => [some (pgC p f1 f2 fw), some [.val (.slice none 0 0), .val (.slice none 0 0), .val (.slice none 0 0), .val (.slice none 0 0), I 0], some [growN 3 9 p.f.r.rs.length, p.f.r.shoals, growN 4 1 i, .ro false 3 (p.way.map fPs), I p.keel], grown p.f.r.rs.length (rws fR p.f.r.rs), grown i (rws fL (p.f.sides.take i))]) (fun i => i ≤ p.f.sides.length) (fun i => p.f.sides.length - i) 0 [0, 1, 12, 3, 99] (by simp) ?_ ?_
  · simp -dsimp -implicitDefEqProofs
  intro i j hi
  simp -dsimp -implicitDefEqProofs
  refine ifD_in (fun hlt => ?_) (fun hge => ?_)
  · refine Exists.elim (show ∃ x, p.f.sides[i]? = some x from ⟨_, List.getElem?_eq_getElem hlt⟩) fun x hx => ?_
    have hcx := (hw.h x (List.mem_of_getElem? hx)).2
    have hst : p.f.sides.take (i + 1) = p.f.sides.take i ++ [x] := by rw [List.take_add_one, hx]; rfl
    have w1 : IntKind.i64.wrap ((i : Int) + 1) = (i : Int) + 1 := wrap_in (by omega) (by omega)
    have b5 : x.length * 16 ≤ 70368744177664 := by omega
    have b6 : x.length ≤ 70368744177664 := by omega
    simp -dsimp -implicitDefEqProofs
    refine DrawR.on { M := [2, 4], see := [(1, 2)], eff := [(10, [4]), (12, [2])] } (by kernel_rfl) (by simp) ?_
    simp -dsimp -implicitDefEqProofs [hx, b5, b6, -storeA]
    refine on_appendN fL (p.f.sides.take i) x (by simp) (by rw [List.length_take]; omega) (show (i + 1) * 24 ≤ 70368744177664 by omega) (by omega) rfl rfl (by simp) rfl (fun _ => rfl) ?_ rfl
    simp -dsimp -implicitDefEqProofs [w1]
    refine again_in (i + 1) [0, 1, 2, 3, 15] (by omega) (by omega) ?_
    simp -dsimp -implicitDefEqProofs [hst]
  have hin2 : i = p.f.sides.length := by omega
  simp -dsimp -implicitDefEqProofs [hin2]
  have fz : ∀ {α : Type} (f : α → List AV) (l : List α) (b k : Nat) (hh : H), hh.get b = grown l.length (rws f l) → (∀ a, (f a).length = k) → (∀ a, ((f a).all fun x => clean1 x && one x) = true) → ∃ q, frz q hh 0 (growN b k l.length) = some (roN k (l.map f)) := fun f l b k hh hb hk hc => by
    by_cases h0 : l.length = 0
    · have hl : l = [] := List.length_eq_zero_iff.1 h0
      subst hl
      exact ⟨1, by simp [roN, growN_zero, frz]⟩
    · have e : roN k (l.map f) = .ro false k (l.map f) := by unfold roN; rw [if_neg (by rw [List.length_map]; omega)]
      rw [e]
      exact frz_rwsN hb (Nat.zero_le _) rfl h0 hk hc
  refine frz_aggL ⟨fz fR p.f.r.rs 3 9 _ (by simp [mkH]) (fun _ => rfl) (fun _ => rfl), frz_one rfl, fz fL p.f.sides 4 1 _ (by simp [mkH]) (fun _ => rfl) (fun _ => rfl), frz_one rfl, frz_one rfl, trivial⟩
end Go.Pe

/- By how many hours to be later: bounds. -/
namespace Go.Pe
open Go Go.Proofs Go.Proofs.YtffckclggkjbgaaGreat
set_option maxRecDepth 20000
set_option maxHeartbeats 8000000
theorem latK_le {x : Ld} {p : Pg} (h : pgE p = 0) : latK x p ≤ hrs p.f.sides := by
  have o := okP_of h
  have hx : stopL x p (hrs p.f.sides) := .inl fun he => by
    have hq := List.getElem_mem o.pos
    have h1 := (pgE_shift o (k := (hrs p.f.sides : Nat)) (by omega)).1 he _ hq
    have h2 := okP_hours o hq
    omega
  rcases Nat.lt_or_ge (hrs p.f.sides) (latK x p) with c | c
  · exact absurd hx ((latK_is h).2 _ c)
  · exact c
theorem latK_at {x : Ld} {p : Pg} {k : Nat} (h : pgE p = 0) (hk : k ≤ latK x p) (hs : stopL x p k) : latK x p = k := by
  rcases Nat.lt_or_ge k (latK x p) with c | c
  · exact absurd hs ((latK_is h).2 _ c)
  · omega
end Go.Pe
