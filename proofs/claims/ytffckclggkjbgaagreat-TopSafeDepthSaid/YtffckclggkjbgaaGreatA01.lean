import Derived.Test.YtffckclggkjbgaaGreatY42
import Derived.Test.YtffckclggkjbgaaGreatY44
set_option linter.unusedVariables false
set_option linter.unusedSimpArgs false
/- Whether the program accepts a forecast; sums of flows. -/
namespace Go.Pe
open Go Go.Proofs Go.Proofs.YtffckclggkjbgaaGreat
set_option maxRecDepth 20000
set_option maxHeartbeats 8000000

open Classical in
noncomputable def okF (f : Fc) : Bool := decide (SmallF f ∧ startE f = 0)
theorem okF_iff {f : Fc} : okF f = true ↔ SmallF f ∧ startE f = 0 := by simp [okF]
theorem okF_not {f : Fc} (h : SmallF f → startE f = 0 → False) : okF f = false := by
  rw [Bool.eq_false_iff]; intro hh; exact h (okF_iff.1 hh).1 (okF_iff.1 hh).2
noncomputable abbrev Fc.av (f : Fc) : AV := .agg [f.r.reaches false, f.r.shoals, sidesAV f.sides false]
/-- Sums of flows. -/
def sm (g : Int → Bd) (b : Int) : Nat → Bd
  | 0 => ⟨0, 0⟩
  | n + 1 => ⟨(sm g b n).lo + (g (b + n)).lo, (sm g b n).hi + (g (b + n)).hi⟩
theorem sm_add {g : Int → Bd} {b : Int} {m : Nat} : ∀ {n : Nat}, (sm g b (m + n)).lo = (sm g b m).lo + (sm g (b + m) n).lo ∧ (sm g b (m + n)).hi = (sm g b m).hi + (sm g (b + m) n).hi
  | 0 => by simp [sm]
  | n + 1 => by
    have ih := sm_add (g := g) (b := b) (m := m) (n := n)
    have e : b + ((m + n : Nat) : Int) = b + (m : Int) + (n : Int) := by omega
    rw [show m + (n + 1) = (m + n) + 1 by omega, sm, sm, e]
    simp only
    omega
theorem sm_sum {g s u : Int → Bd} {b c : Int} : ∀ {n : Nat}, (∀ k : Nat, k < n → (g (b + k)).lo = (s (b + k)).lo + (u (c + k)).lo ∧ (g (b + k)).hi = (s (b + k)).hi + (u (c + k)).hi) → (sm g b n).lo = (sm s b n).lo + (sm u c n).lo ∧ (sm g b n).hi = (sm s b n).hi + (sm u c n).hi
  | 0, _ => by simp [sm]
  | n + 1, h => by
    have ih := sm_sum (g := g) (s := s) (u := u) (b := b) (c := c) (n := n) fun k hk => h k (by omega)
    have := h n (by omega)
    simp only [sm]
    omega
theorem sm_le {g s : Int → Bd} {b : Int} : ∀ {n : Nat}, (∀ k : Nat, k < n → (s (b + k)).lo ≤ (g (b + k)).lo ∧ (s (b + k)).hi ≤ (g (b + k)).hi) → (sm s b n).lo ≤ (sm g b n).lo ∧ (sm s b n).hi ≤ (sm g b n).hi
  | 0, _ => by simp [sm]
  | n + 1, h => by
    have ih := sm_le (g := g) (s := s) (b := b) (n := n) fun k hk => h k (by omega)
    have := h n (by omega)
    simp only [sm]
    omega
theorem sm_in {g : Int → Bd} {b : Int} {m : Int} : ∀ {n : Nat}, (∀ k : Nat, k < n → 0 ≤ (g (b + k)).lo ∧ (g (b + k)).lo ≤ (g (b + k)).hi ∧ (g (b + k)).hi ≤ m) → 0 ≤ (sm g b n).lo ∧ (sm g b n).lo ≤ (sm g b n).hi ∧ (sm g b n).hi ≤ n * m
  | 0, _ => by simp [sm]
  | n + 1, h => by
    have ih := sm_in (g := g) (b := b) (m := m) (n := n) fun k hk => h k (by omega)
    have := h n (by omega)
    simp only [sm]
    rw [show ((n + 1 : Nat) : Int) * m = n * m + m by rw [show ((n + 1 : Nat) : Int) = (n : Int) + 1 by omega, Int.add_mul, Int.one_mul]]
    omega
theorem total_sm {g : Int → Bd} {b : Int} : ∀ {n : Nat} {l : List Bd}, l.length = n → (∀ k : Nat, k < n → l[k]? = some (g (b + k))) → total l = sm g b n
  | 0, l, hl, _ => by rw [List.length_eq_zero_iff.1 hl]; rfl
  | n + 1, l, hl, h => by
    have e : l = l.take n ++ [g (b + n)] := by
      have := List.take_append_getElem (l := l) (i := n) (by omega)
      have h2 := h n (by omega)
      rw [List.getElem?_eq_getElem (by omega)] at h2
      rw [Option.some.inj h2] at this
      rw [this, List.take_of_length_le (by omega)]
    rw [e, total_snoc, total_sm (n := n) (g := g) (b := b) (by simp; omega) (fun k hk => by rw [List.getElem?_take, if_pos hk]; exact h k (by omega))]
    rfl
/-- Flows: none below 0, and none with its ends the wrong way round. -/
theorem sideAt_ok {f : Fc} (g : GoodF f) {i : Nat} {h : Int} : 0 ≤ (sideAt f.sides i h).lo ∧ (sideAt f.sides i h).lo ≤ (sideAt f.sides i h).hi ∧ (sideAt f.sides i h).hi ≤ 10000000000 := by
  unfold sideAt
  cases hl : f.sides[i]? with
  | none => simp
  | some l =>
    simp only [Option.getD_some]
    rw [List.getD_eq_getElem?_getD]
    cases hb : l[h.toNat]? with
    | none => simp
    | some b =>
      have := vB_iff.1 (g.oks l (List.mem_of_getElem? hl) b (List.mem_of_getElem? hb))
      simp only [Option.getD_some]; omega
theorem baseOf_ok {f : Fc} (g : GoodF f) {i : Nat} : 0 ≤ (baseOf f.r i).lo ∧ (baseOf f.r i).lo ≤ (baseOf f.r i).hi ∧ (baseOf f.r i).hi ≤ 10000000000 := by
  unfold baseOf
  cases hx : f.r.rs[i]? with
  | none => simp
  | some x =>
    have := vB_iff.1 (validR_parts ((List.all_eq_true.1 g.rv) x (List.mem_of_getElem? hx))).2.2.1
    simp only [Option.map_some, Option.getD_some]; omega
theorem rf_ok {f : Fc} (g : GoodF f) : ∀ (i : Nat) (h : Int), 0 ≤ (rf f.r f.sides i h).lo ∧ (rf f.r f.sides i h).lo ≤ (rf f.r f.sides i h).hi ∧ (rf f.r f.sides i h).hi ≤ (i + 1) * 10000000000
  | i, h => by
    by_cases hh : h < 0
    · rw [rf_neg hh]
      have := baseOf_ok g (i := i)
      have : (1 : Int) * 10000000000 ≤ (i + 1) * 10000000000 := Int.mul_le_mul_of_nonneg_right (by omega) (by omega)
      omega
    · cases i with
      | zero => rw [rf_zero hh]; have := sideAt_ok g (i := 0) (h := h); simp; omega
      | succ i =>
        rw [rf_succ hh]
        have h1 := sideAt_ok g (i := i + 1) (h := h)
        have h2 := rf_ok g i (h - delayOf f.r i)
        simp only
        rw [show ((i + 1 : Nat) : Int) = (i : Int) + 1 by omega, Int.add_mul ((i : Int) + 1)]
        omega
end Go.Pe

/- A hull with two holds, and its load, as moorHull makes it. -/
namespace Go.Pe
open Go Go.Proofs Go.Proofs.YtffckclggkjbgaaGreat
set_option maxRecDepth 20000
set_option maxHeartbeats 8000000
attribute [local simp] ts5 us5 ts22 us22 ts24 us24 ts25 us25 t27 u27 ts34 us34 ts39 us39 ts57 us57 ts53 us53 ts64 us64 ts95 us95 ts96 us96 ts99 us99 ts72 us72 ts75 us75 ts118 us118 ts120 us120 ts128 us128 ts130 us130 ts132 us132 ts150 us150
attribute [local simp] convA extA lenA ixar ixsl
structure Mh where
  s0 : Int
  s1 : Int
  s2 : Int
  s3 : Int
  s4 : Int
  s5 : Int
  l0 : Int
  l1 : Int
structure Mh.Ok (x : Mh) : Prop where
  s0 : 0 ≤ x.s0 ∧ x.s0 ≤ 255
  s1 : 0 ≤ x.s1 ∧ x.s1 ≤ 255
  s2 : 0 ≤ x.s2 ∧ x.s2 ≤ 255
  s3 : 0 ≤ x.s3 ∧ x.s3 ≤ 255
  s4 : 0 ≤ x.s4 ∧ x.s4 ≤ 255
  s5 : 0 ≤ x.s5 ∧ x.s5 ≤ 255
  l0 : 0 ≤ x.l0 ∧ x.l0 ≤ 255
  l1 : 0 ≤ x.l1 ∧ x.l1 ≤ 255
noncomputable def mhC (x : Mh) : List AV := [U x.s0, U x.s1, U x.s2, U x.s3, U x.s4, U x.s5, U x.l0, U x.l1]
theorem mhC_eq {x : Mh} : mhC x = [U x.s0, U x.s1, U x.s2, U x.s3, U x.s4, U x.s5, U x.l0, U x.l1] := rfl
attribute [local simp] mhC_eq
def secH (x : Mh) : Sec := ⟨60, x.s2 % 80, 1 + x.s3, [⟨0, 0⟩, ⟨60 + x.s0 % 60, 100 + x.s1⟩, ⟨400, 100 + x.s1 + 1000⟩], [⟨10 + x.s4 % 10, 5⟩, ⟨45, 5⟩]⟩
def huH (x : Mh) : Hu := ⟨1 + x.s5 % 20, [secH x]⟩
def ldH (x : Mh) : List Int := [x.l0 % 6, x.l1 % 6]
theorem moorB_fn {a b : Int} {h : H} (ha : 0 ≤ a ∧ a ≤ 255) (hb : 0 ≤ b ∧ b ≤ 255) : Fn Tryz.prog 129 [U a, U b] h (.agg [I (span a b).lo, I (span a b).hi]) h := by
  refine Fn.beside ?_ rfl h
  refine Fn.ofR0 noM (by kernel_rfl) Tryz.func129 rfl (by simp) ?_
  have c1 : IntKind.i64.wrap a = a := wrap_in (by omega) (by omega)
  have c2 : IntKind.i64.wrap b = b := wrap_in (by omega) (by omega)
  have c3 := tm (v := b) (n := 40) hb.1
  have c4 : IntKind.i64.wrap (a + b % 40) = a + b % 40 := wrap_in (by omega) (by omega)
  simp -dsimp -implicitDefEqProofs [c1, c2, c3, c4, span]
theorem moorHull_fn {x : Mh} {h : H} (hx : x.Ok) : Fn Tryz.prog 52 [.agg (mhC x)] h (.tup [.agg [I (huH x).a, .ro false 5 ((huH x).ss.map fSec)], .ro false 1 ((ldH x).map fun n => [I n])]) h := by
  refine Fn.weak (x := .tup [.agg [I (huH x).a, .ro true 5 ((huH x).ss.map fSecT)], .ro true 1 ((ldH x).map fun n => [I n])]) ?_ (fun c w D v hv => ?_)
  rotate_left
  · refine R_tup_to (l := [.agg [I (huH x).a, .ro true 5 ((huH x).ss.map fSecT)], .ro true 1 ((ldH x).map fun n => [I n])]) rfl (fun i a b hx hy v hv => ?_) hv
    match i, hx, hy with
    | 0, hx, hy =>
      cases hx; cases hy
      refine R_agg_to (l := [I (huH x).a, .ro true 5 ((huH x).ss.map fSecT)]) rfl (fun i a b hx hy v hv => ?_) hv
      match i, hx, hy with
      | 0, hx, hy => cases hx; cases hy; exact hv
      | 1, hx, hy => cases hx; cases hy; exact R_flag (secT_R hv)
    | 1, hx, hy => cases hx; cases hy; exact R_flag hv
  refine Fn.beside ?_ rfl h
  refine Fn.ofR0 (butM []) (by kernel_rfl) Tryz.func52 rfl (by simp) ?_
  have h0 := hx.s0
  have h1 := hx.s1
  have h2 := hx.s2
  have h3 := hx.s3
  have h4 := hx.s4
  have h5 := hx.s5
  have g0 := hx.l0
  have g1 := hx.l1
  have c0 : IntKind.i64.wrap x.s0 = x.s0 := wrap_in (by omega) (by omega)
  have c1 : IntKind.i64.wrap x.s1 = x.s1 := wrap_in (by omega) (by omega)
  have c2 : IntKind.i64.wrap x.s2 = x.s2 := wrap_in (by omega) (by omega)
  have c3 : IntKind.i64.wrap x.s3 = x.s3 := wrap_in (by omega) (by omega)
  have c4 : IntKind.i64.wrap x.s4 = x.s4 := wrap_in (by omega) (by omega)
  have c5 : IntKind.i64.wrap x.s5 = x.s5 := wrap_in (by omega) (by omega)
  have e0 : IntKind.i64.wrap x.l0 = x.l0 := wrap_in (by omega) (by omega)
  have e1 : IntKind.i64.wrap x.l1 = x.l1 := wrap_in (by omega) (by omega)
  have m0 := tm (v := x.s0) (n := 60) h0.1
  have m2 := tm (v := x.s2) (n := 80) h2.1
  have m4 := tm (v := x.s4) (n := 10) h4.1
  have m5 := tm (v := x.s5) (n := 20) h5.1
  have m6 := tm (v := x.l0) (n := 6) g0.1
  have m7 := tm (v := x.l1) (n := 6) g1.1
  have w1 : IntKind.i64.wrap (60 + x.s0 % 60) = 60 + x.s0 % 60 := wrap_in (by omega) (by omega)
  have w2 : IntKind.i64.wrap (100 + x.s1) = 100 + x.s1 := wrap_in (by omega) (by omega)
  have w3 : IntKind.i64.wrap (1 + x.s3) = 1 + x.s3 := wrap_in (by omega) (by omega)
  have w4 : IntKind.i64.wrap (100 + x.s1 + 1000) = 100 + x.s1 + 1000 := wrap_in (by omega) (by omega)
  have w5 : IntKind.i64.wrap (10 + x.s4 % 10) = 10 + x.s4 % 10 := wrap_in (by omega) (by omega)
  have w6 : IntKind.i64.wrap (1 + x.s5 % 20) = 1 + x.s5 % 20 := wrap_in (by omega) (by omega)
  simp -dsimp -implicitDefEqProofs
  refine DrawR.on {} (by kernel_rfl) (by simp) ?_
  simp -dsimp -implicitDefEqProofs [c0, c1, c2, c3, c4, m0, m2, m4, w1, w2, w3, w4, w5]
  refine DrawR.on { M := [1], eff := [(20, [1])] } (by kernel_rfl) (by simp) ?_
  simp -dsimp -implicitDefEqProofs [c5, e0, e1, m5, m6, m7, w6, huH, ldH, secH, fSecT_eq, fPt_eq]
  done
end Go.Pe

/- A river and its forecast, as moorRiver makes them. -/
namespace Go.Pe
open Go Go.Proofs Go.Proofs.YtffckclggkjbgaaGreat
set_option maxRecDepth 20000
set_option maxHeartbeats 8000000
attribute [local simp] ts5 us5 ts22 us22 ts24 us24 ts25 us25 t27 u27 ts34 us34 ts39 us39 ts57 us57 ts53 us53 ts64 us64 ts95 us95 ts96 us96 ts99 us99 ts72 us72 ts75 us75 ts118 us118 ts120 us120 ts128 us128 ts130 us130 ts132 us132 ts150 us150
attribute [local simp] t28 u28 t30 u30 t102 u102 t50 u50 t119 u119 t32 u32 t75 u75 t22 u22 t23 u23
attribute [local simp] convA extA lenA ixar ixsl fQ_eq
/-- The water of a mooring: its keel is not looked at. -/
noncomputable def mwC (x : Sr) : List AV := [U x.base.a, U x.base.b, U x.base.c, U x.base.d, U x.bot.a, U x.bot.b, U x.bot.c, U x.bot.d, U x.sh.a, U x.sh.b, U x.sh.c, U x.sh.d, U x.way.a, U x.way.b, U x.way.c, U x.way.d, .ro false 4 (x.rows.map fQ)]
theorem mwC_eq {x : Sr} : mwC x = [U x.base.a, U x.base.b, U x.base.c, U x.base.d, U x.bot.a, U x.bot.b, U x.bot.c, U x.bot.d, U x.sh.a, U x.sh.b, U x.sh.c, U x.sh.d, U x.way.a, U x.way.b, U x.way.c, U x.way.d, .ro false 4 (x.rows.map fQ)] := rfl
attribute [local simp] mwC_eq
def rc0M (x : Sr) : Rc := ⟨50, 1, span x.base.a x.base.b, curveS, 0, span x.bot.a x.bot.b, 9000⟩
def rc1M (x : Sr) : Rc := ⟨50, 1, span x.base.c x.base.d, curveS, 0, span x.bot.c x.bot.d, 9000⟩
def shM (x : Sr) : Sh := ⟨60, span x.sh.a x.sh.b, 0, ⟨x.sh.c % 40 - 20, x.sh.c % 40 - 20 + x.sh.d % 30⟩⟩
def riverM (x : Sr) : Rv := ⟨[rc0M x, rc1M x], [shM x]⟩
theorem rcM_R {x : Sr} {c : Cx} {w : World} {D : Nat → Prop} {v : Value} (h : R c w D (.ro true 9 [fR (rc0M x), fRT (rc1M x)]) v) : R c w D ((riverM x).reaches true) v := by
  refine R_rows (by simp [riverM]) (fun i rx ry h1 h2 => ?_) h
  match i, h1, h2 with
  | 0, h1, h2 => cases h1; cases h2; exact ⟨rfl, fun j x y h3 h4 D v hv => by rw [h3] at h4; cases h4; exact hv⟩
  | 1, h1, h2 =>
    cases h1; cases h2
    refine ⟨rfl, fun j x y h3 h4 D v hv => ?_⟩
    match j, h3, h4 with
    | 0, h3, h4 => cases h3; cases h4; exact hv
    | 1, h3, h4 => cases h3; cases h4; exact hv
    | 2, h3, h4 => cases h3; cases h4; exact hv
    | 3, h3, h4 => cases h3; cases h4; exact hv
    | 4, h3, h4 => cases h3; cases h4; exact R_flag hv
    | 5, h3, h4 => cases h3; cases h4; exact hv
    | 6, h3, h4 => cases h3; cases h4; exact hv
    | 7, h3, h4 => cases h3; cases h4; exact hv
    | 8, h3, h4 => cases h3; cases h4; exact hv
set_option maxHeartbeats 20000000 in
theorem moorRiver_fn {x : Sr} {h : H} (hx : x.Ok) : Fn Tryz.prog 91 [.agg (mwC x)] h (.tup [.agg [(riverM x).reaches true, (riverM x).shoals], sidesAV [side0S x, side1S x] false]) h := by
  refine Fn.weak (x := .tup [.agg [.ro true 9 [fR (rc0M x), fRT (rc1M x)], .ro true 6 [fS (shM x)]], .ro false 1 [fL (side0S x), fL (side1S x)]]) ?_ (fun c w D v hv => ?_)
  rotate_left
  · refine R_tup_to (l := [.agg [.ro true 9 [fR (rc0M x), fRT (rc1M x)], .ro true 6 [fS (shM x)]], .ro false 1 [fL (side0S x), fL (side1S x)]]) rfl (fun i a b hx hy v hv => ?_) hv
    match i, hx, hy with
    | 0, hx, hy =>
      cases hx; cases hy
      refine R_agg_to (l := [.ro true 9 [fR (rc0M x), fRT (rc1M x)], .ro true 6 [fS (shM x)]]) rfl (fun i a b hx hy v hv => ?_) hv
      match i, hx, hy with
      | 0, hx, hy => cases hx; cases hy; exact rcM_R hv
      | 1, hx, hy => cases hx; cases hy; exact R_flag hv
    | 1, hx, hy => cases hx; cases hy; exact hv
  refine Fn.beside ?_ rfl h
  refine Fn.ofR0 (butM [21]) (by kernel_rfl) Tryz.func91 rfl (by simp) ?_
  have hL := rowsS_len (x := x)
  have hb := hx.base
  have ho := hx.bot
  have hs := hx.sh
  have c1 : IntKind.i64.wrap x.sh.c = x.sh.c := wrap_in (by have := hs.2.2.1; omega) (by have := hs.2.2.1; omega)
  have c2 : IntKind.i64.wrap x.sh.d = x.sh.d := wrap_in (by have := hs.2.2.2; omega) (by have := hs.2.2.2; omega)
  have c3 := tm (v := x.sh.c) (n := 40) hs.2.2.1.1
  have c4 := tm (v := x.sh.d) (n := 30) hs.2.2.2.1
  have c5 : IntKind.i64.wrap (x.sh.c % 40 - 20) = x.sh.c % 40 - 20 := wrap_in (by omega) (by omega)
  have c7 : IntKind.i64.wrap (x.sh.c % 40 - 20 + x.sh.d % 30) = x.sh.c % 40 - 20 + x.sh.d % 30 := wrap_in (by omega) (by omega)
  simp -dsimp -implicitDefEqProofs
  refine DrawR.on {} (by kernel_rfl) (by simp) ?_
  simp (maxSteps := 10000000) -dsimp -implicitDefEqProofs
  refine onCallQ_in (moorB_fn hb.1 hb.2.1) ?_
  simp (maxSteps := 10000000) -dsimp -implicitDefEqProofs
  refine onCallQ_in (moorB_fn ho.1 ho.2.1) ?_
  simp (maxSteps := 10000000) -dsimp -implicitDefEqProofs
  refine onCallQ_in (moorB_fn hb.2.2.1 hb.2.2.2) ?_
  simp (maxSteps := 10000000) -dsimp -implicitDefEqProofs
  refine onCallQ_in (moorB_fn ho.2.2.1 ho.2.2.2) ?_
  simp (maxSteps := 10000000) -dsimp -implicitDefEqProofs
  refine DrawR.on { M := [38], eff := [(29, [38])] } (by kernel_rfl) (by simp) ?_
  simp (maxSteps := 10000000) -dsimp -implicitDefEqProofs
  refine onCallQ_in (moorB_fn hs.1 hs.2.1) ?_
  simp (maxSteps := 10000000) -dsimp -implicitDefEqProofs [c1, c2, c3, c4, c5, c7]
  refine Exists.elim (show ∃ n, n = (rowsS x).length from ⟨_, rfl⟩) fun n hn => ?_
  rw [← hn] at hL
  have hatI : ∀ i : Nat, i < n → (i < x.rows.length → x.rows[i]? = (rowsS x)[i]?) ∧ (¬ i < x.rows.length → (rowsS x)[i]? = some ⟨0, 0, 0, 0⟩) ∧ (i = 0 ∨ (i < x.rows.length ∧ i < 12)) := fun i hi => by
    rw [hn] at hi
    unfold rowsS at hi ⊢
    split at hi
    · rename_i h0
      simp at hi
      subst hi
      rw [if_pos h0]
      exact ⟨fun h => by omega, fun _ => rfl, .inl rfl⟩
    · rename_i h0
      rw [if_neg h0]
      rw [List.length_take] at hi
      exact ⟨fun h => by rw [List.getElem?_take_of_lt (by omega)], fun h => by omega, .inr (by omega)⟩
  have hend : ¬ (n < x.rows.length ∧ n < 12) := by
    rw [hn]; unfold rowsS
    split
    · rename_i h0; simp; omega
    · rw [List.length_take]; omega
  refine LoopCR.on 132 (fun i => [(1, .ptr 0 0), (2, .ptr 1 0), (5, .ptr 2 0), (6, .sl 3 0 2 1), (7, I (i : Nat))]) (fun i => [some (mwC x), some [.val (.slice none 0 0), .val (.slice none 0 0)], some [.ro true 9 [fR (rc0M x), fRT (rc1M x)], .ro true 6 [fS (shM x)]], some [grow 4 2 i, grow 5 2 i], grown i (rws fBd ((side0S x).take i)), grown i (rws fBd ((side1S x).take i))]) (fun i => i ≤ n) (fun i => n - i) 0 [0, 1, 38, 70, 99, 98] (by simp) ?_ ?_
  · simp -dsimp -implicitDefEqProofs [rc0M, rc1M, shM, fRT, curveS, span]
    done
  intro i j hi
  have w1 : IntKind.i64.wrap ((i : Int) + 1) = (i : Int) + 1 := wrap_in (by omega) (by omega)
  refine (Classical.em (i = n)).elim (fun hin => ?_) (fun hne => ?_)
  · have n0 : ((i : Int) == 0) = false := by simp; omega
    have t0 : (side0S x).take i = side0S x := List.take_of_length_le (by rw [side0S, List.length_map]; omega)
    have t1 : (side1S x).take i = side1S x := List.take_of_length_le (by rw [side1S, List.length_map]; omega)
    have g0 : (side0S x).length = n := by rw [side0S, List.length_map]; omega
    have g1 : (side1S x).length = n := by rw [side1S, List.length_map]; omega
    have hiz : isz n = false := by unfold isz; rw [decide_eq_false_iff_not]; omega
    refine (Classical.em (i < x.rows.length)).elim (fun hc => ?_) (fun hc => ?_)
    · have d1 : decide ((i : Int) < (x.rows.length : Int)) = true := decide_eq_true (by omega)
      have d1' : decide (i < x.rows.length) = true := decide_eq_true (by omega)
      have d2 : decide ((i : Int) < 12) = false := decide_eq_false (by omega)
      have d2' : decide (i < 12) = false := decide_eq_false (by omega)
      have hin' := hin.symm
      subst hin'
      simp -dsimp -implicitDefEqProofs [n0, d1, d1', d2, d2', t0, t1, -lenA, lenA_ro]
      refine frz_tup_two (frz_agg_two (frz_one rfl) (frz_one rfl)) ?_
      have k0 := frz_rws (f := fBd) (l := side0S x) (b := 4) (n := n) (k := 2) (N := 0) (h := (mkH [some (mwC x), some [.val (.slice none 0 0), .val (.slice none 0 0)], some [.ro true 9 [fR (rc0M x), fRT (rc1M x)], .ro true 6 [fS (shM x)]], some [grow 4 2 n, grow 5 2 n], grown n (rws fBd (side0S x)), grown n (rws fBd (side1S x))]).set 1 [.ro true 9 [fR (rc0M x), fRT (rc1M x)], .ro true 6 [fS (shM x)]]) (by simp [mkH, H.set]) (Nat.zero_le _) g0 (fun _ => rfl) (fun _ => rfl)
      have k1 := frz_rws (f := fBd) (l := side1S x) (b := 5) (n := n) (k := 2) (N := 0) (h := (mkH [some (mwC x), some [.val (.slice none 0 0), .val (.slice none 0 0)], some [.ro true 9 [fR (rc0M x), fRT (rc1M x)], .ro true 6 [fS (shM x)]], some [grow 4 2 n, grow 5 2 n], grown n (rws fBd (side0S x)), grown n (rws fBd (side1S x))]).set 1 [.ro true 9 [fR (rc0M x), fRT (rc1M x)], .ro true 6 [fS (shM x)]]) (by simp [mkH, H.set]) (Nat.zero_le _) g1 (fun _ => rfl) (fun _ => rfl)
      rw [hiz] at k0 k1
      exact frz_two (b := 3) (x1 := grow 4 2 n) (x2 := grow 5 2 n) (by simp [mkH, H.set]) (Nat.zero_le _) k0 k1 ⟨rfl, rfl⟩
    · have d1 : decide ((i : Int) < (x.rows.length : Int)) = false := decide_eq_false (by omega)
      have d1' : decide (i < x.rows.length) = false := decide_eq_false (by omega)
      have d2 := d1
      have d2' := d1'
      have hin' := hin.symm
      subst hin'
      simp -dsimp -implicitDefEqProofs [n0, d1, d1', d2, d2', t0, t1, -lenA, lenA_ro]
      refine frz_tup_two (frz_agg_two (frz_one rfl) (frz_one rfl)) ?_
      have k0 := frz_rws (f := fBd) (l := side0S x) (b := 4) (n := n) (k := 2) (N := 0) (h := (mkH [some (mwC x), some [.val (.slice none 0 0), .val (.slice none 0 0)], some [.ro true 9 [fR (rc0M x), fRT (rc1M x)], .ro true 6 [fS (shM x)]], some [grow 4 2 n, grow 5 2 n], grown n (rws fBd (side0S x)), grown n (rws fBd (side1S x))]).set 1 [.ro true 9 [fR (rc0M x), fRT (rc1M x)], .ro true 6 [fS (shM x)]]) (by simp [mkH, H.set]) (Nat.zero_le _) g0 (fun _ => rfl) (fun _ => rfl)
      have k1 := frz_rws (f := fBd) (l := side1S x) (b := 5) (n := n) (k := 2) (N := 0) (h := (mkH [some (mwC x), some [.val (.slice none 0 0), .val (.slice none 0 0)], some [.ro true 9 [fR (rc0M x), fRT (rc1M x)], .ro true 6 [fS (shM x)]], some [grow 4 2 n, grow 5 2 n], grown n (rws fBd (side0S x)), grown n (rws fBd (side1S x))]).set 1 [.ro true 9 [fR (rc0M x), fRT (rc1M x)], .ro true 6 [fS (shM x)]]) (by simp [mkH, H.set]) (Nat.zero_le _) g1 (fun _ => rfl) (fun _ => rfl)
      rw [hiz] at k0 k1
      exact frz_two (b := 3) (x1 := grow 4 2 n) (x2 := grow 5 2 n) (by simp [mkH, H.set]) (Nat.zero_le _) k0 k1 ⟨rfl, rfl⟩
  have hlt : i < n := by omega
  have hat := hatI i hlt
  refine Exists.elim (show ∃ r, (rowsS x)[i]? = some r from ⟨_, List.getElem?_eq_getElem (by omega)⟩) fun r hr => ?_
  have hok := rowsS_ok hx r (List.mem_of_getElem? hr)
  have hst0 : (side0S x).take (i + 1) = (side0S x).take i ++ [span r.a r.b] := by rw [List.take_add_one, side0S, List.getElem?_map, hr]; rfl
  have hst1 : (side1S x).take (i + 1) = (side1S x).take i ++ [span r.c r.d] := by rw [List.take_add_one, side1S, List.getElem?_map, hr]; rfl
  have hl0 : ((side0S x).take i).length = i := by rw [List.length_take, side0S, List.length_map]; omega
  have hl1 : ((side1S x).take i).length = i := by rw [List.length_take, side1S, List.length_map]; omega
  refine (Classical.em (i < x.rows.length)).elim (fun hc => ?_) (fun hc => ?_)
  · have hrow : x.rows[i]? = some r := by rw [hat.1 hc, hr]
    have d1 : decide ((i : Int) < (x.rows.length : Int)) = true := decide_eq_true (by omega)
    have d1' : decide (i < x.rows.length) = true := decide_eq_true (by omega)
    refine (Classical.em (i = 0)).elim (fun h0 => ?_) (fun h0 => ?_)
    · have n0 : ((i : Int) == 0) = true := by simp; omega
      simp -dsimp -implicitDefEqProofs [n0, d1, d1', hrow]
      refine DrawR.on { M := [3, 4, 5], see := [(4, 3), (14, 3)], eff := [(11, [4]), (21, [5]), (23, [3]), (25, [3])] } (by kernel_rfl) (by simp) ?_
      simp -dsimp -implicitDefEqProofs [-storeA]
      refine onCallQ_in (moorB_fn hok.1 hok.2.1) ?_
      simp -dsimp -implicitDefEqProofs [-storeA]
      refine on_append fBd ((side0S x).take i) (span r.a r.b) (by simp) hl0 (show (i + 1) * 16 ≤ 70368744177664 by omega) (by omega) rfl rfl (by simp) rfl (fun _ => rfl) ?_ rfl
      simp -dsimp -implicitDefEqProofs [-storeA]
      refine onCallQ_in (moorB_fn hok.2.2.1 hok.2.2.2) ?_
      simp -dsimp -implicitDefEqProofs [-storeA]
      refine on_append fBd ((side1S x).take i) (span r.c r.d) (by simp) hl1 (show (i + 1) * 16 ≤ 70368744177664 by omega) (by omega) rfl rfl (by simp) rfl (fun _ => rfl) ?_ rfl
      simp -dsimp -implicitDefEqProofs [w1]
      refine again_in (i + 1) [0, 1, 2, 3, 18, 28] (by omega) (by omega) ?_
      simp -dsimp -implicitDefEqProofs [hst0, hst1]
      done
    · have n0 : ((i : Int) == 0) = false := by simp; omega
      have d2 : decide ((i : Int) < 12) = true := decide_eq_true (by omega)
      have d2' : decide (i < 12) = true := decide_eq_true (by omega)
      simp -dsimp -implicitDefEqProofs [n0, d1, d1', d2, d2', hrow]
      refine DrawR.on { M := [3, 4, 5], see := [(4, 3), (14, 3)], eff := [(11, [4]), (21, [5]), (23, [3]), (25, [3])] } (by kernel_rfl) (by simp) ?_
      simp -dsimp -implicitDefEqProofs [-storeA]
      refine onCallQ_in (moorB_fn hok.1 hok.2.1) ?_
      simp -dsimp -implicitDefEqProofs [-storeA]
      refine on_append fBd ((side0S x).take i) (span r.a r.b) (by simp) hl0 (show (i + 1) * 16 ≤ 70368744177664 by omega) (by omega) rfl rfl (by simp) rfl (fun _ => rfl) ?_ rfl
      simp -dsimp -implicitDefEqProofs [-storeA]
      refine onCallQ_in (moorB_fn hok.2.2.1 hok.2.2.2) ?_
      simp -dsimp -implicitDefEqProofs [-storeA]
      refine on_append fBd ((side1S x).take i) (span r.c r.d) (by simp) hl1 (show (i + 1) * 16 ≤ 70368744177664 by omega) (by omega) rfl rfl (by simp) rfl (fun _ => rfl) ?_ rfl
      simp -dsimp -implicitDefEqProofs [w1]
      refine again_in (i + 1) [0, 1, 2, 3, 18, 28] (by omega) (by omega) ?_
      simp -dsimp -implicitDefEqProofs [hst0, hst1]
      done
  · have hz : r = ⟨0, 0, 0, 0⟩ := by have := hat.2.1 hc; rw [hr] at this; exact Option.some.inj this
    have h0 : i = 0 := by rcases hat.2.2 with h | h <;> omega
    have d1 : decide ((i : Int) < (x.rows.length : Int)) = false := decide_eq_false (by omega)
    have d1' : decide (i < x.rows.length) = false := decide_eq_false (by omega)
    have n0 : ((i : Int) == 0) = true := by simp; omega
    subst hz
    simp -dsimp -implicitDefEqProofs [n0, d1, d1']
    refine DrawR.on { M := [3, 4, 5], see := [(4, 3), (14, 3)], eff := [(11, [4]), (21, [5]), (23, [3]), (25, [3])] } (by kernel_rfl) (by simp) ?_
    simp -dsimp -implicitDefEqProofs [-storeA]
    refine onCallQ_in (moorB_fn hok.1 hok.2.1) ?_
    simp -dsimp -implicitDefEqProofs [-storeA]
    refine on_append fBd ((side0S x).take i) (span 0 0) (by simp) hl0 (show (i + 1) * 16 ≤ 70368744177664 by omega) (by omega) rfl rfl (by simp) rfl (fun _ => rfl) ?_ rfl
    simp -dsimp -implicitDefEqProofs [-storeA]
    refine onCallQ_in (moorB_fn hok.2.2.1 hok.2.2.2) ?_
    simp -dsimp -implicitDefEqProofs [-storeA]
    refine on_append fBd ((side1S x).take i) (span 0 0) (by simp) hl1 (show (i + 1) * 16 ≤ 70368744177664 by omega) (by omega) rfl rfl (by simp) rfl (fun _ => rfl) ?_ rfl
    simp -dsimp -implicitDefEqProofs [w1]
    refine again_in (i + 1) [0, 1, 2, 3, 18, 28] (by omega) (by omega) ?_
    simp -dsimp -implicitDefEqProofs [hst0, hst1]
    done
end Go.Pe
