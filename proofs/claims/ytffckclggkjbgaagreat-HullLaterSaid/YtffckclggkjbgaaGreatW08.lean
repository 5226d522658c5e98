import Derived.Test.YtffckclggkjbgaaGreatV02
import Derived.Test.YtffckclggkjbgaaGreatW07
set_option linter.unusedVariables false
set_option linter.unusedSimpArgs false
/- Passages by small numbers. -/
namespace Go.Pe
open Go Go.Proofs Go.Proofs.YtffckclggkjbgaaGreat
set_option maxRecDepth 20000
set_option maxHeartbeats 8000000
attribute [local simp] ts5 us5 ts22 us22 ts24 us24 ts25 us25 ts34 us34 ts39 us39 ts57 us57 ts156 us156 ts53 us53 ts64 us64 ts95 us95 ts96 us96 ts99 us99 ts101 us101
attribute [local simp] convA extA lenA ixar fQ_eq
/-- A river, its forecast and a way by small numbers. -/
structure Sr where
  base : Q4
  bot : Q4
  sh : Q4
  way : Q4
  rows : List Q4
  keel : Int
structure Sr.Ok (x : Sr) : Prop where
  base : okQ x.base
  bot : okQ x.bot
  sh : okQ x.sh
  way : okQ x.way
  rows : ∀ q ∈ x.rows, okQ q
  keel : 0 ≤ x.keel ∧ x.keel ≤ 255
noncomputable def stC (x : Sr) : List AV := [U x.base.a, U x.base.b, U x.base.c, U x.base.d, U x.bot.a, U x.bot.b, U x.bot.c, U x.bot.d, U x.sh.a, U x.sh.b, U x.sh.c, U x.sh.d, U x.way.a, U x.way.b, U x.way.c, U x.way.d, .ro false 4 (x.rows.map fQ), U x.keel]
theorem stC_eq {x : Sr} : stC x = [U x.base.a, U x.base.b, U x.base.c, U x.base.d, U x.bot.a, U x.bot.b, U x.bot.c, U x.bot.d, U x.sh.a, U x.sh.b, U x.sh.c, U x.sh.d, U x.way.a, U x.way.b, U x.way.c, U x.way.d, .ro false 4 (x.rows.map fQ), U x.keel] := rfl
attribute [local simp] stC_eq
def span (a b : Int) : Bd := ⟨a, a + b % 40⟩
theorem span_fn {a b : Int} {h : H} (ha : 0 ≤ a ∧ a ≤ 255) (hb : 0 ≤ b ∧ b ≤ 255) : Fn Tryz.prog 85 [U a, U b] h (.agg [I (span a b).lo, I (span a b).hi]) h := by
  refine Fn.beside ?_ rfl h
  refine Fn.ofR0 noM (by kernel_rfl) Tryz.func85 rfl (by simp) ?_
  have c1 : IntKind.i64.wrap a = a := wrap_in (by omega) (by omega)
  have c2 : IntKind.i64.wrap b = b := wrap_in (by omega) (by omega)
  have c3 := tm (v := b) (n := 40) hb.1
  have c4 : IntKind.i64.wrap (a + b % 40) = a + b % 40 := wrap_in (by omega) (by omega)
  simp -dsimp -implicitDefEqProofs [c1, c2, c3, c4, span]
def rowsS (x : Sr) : List Q4 := if x.rows.length = 0 then [⟨0, 0, 0, 0⟩] else x.rows.take 12
theorem rowsS_ok {x : Sr} (h : x.Ok) : ∀ q ∈ rowsS x, okQ q := fun q hq => by
  unfold rowsS at hq
  split at hq
  · simp at hq; subst hq; unfold okQ; simp
  · exact h.rows q (List.mem_of_mem_take hq)
theorem rowsS_len {x : Sr} : 1 ≤ (rowsS x).length ∧ (rowsS x).length ≤ 12 := by
  unfold rowsS
  split
  · simp
  · rw [List.length_take]; omega
def side0S (x : Sr) : List Bd := (rowsS x).map fun q => span q.a q.b
def side1S (x : Sr) : List Bd := (rowsS x).map fun q => span q.c q.d
def curveS : List Rw := [⟨0, 0⟩, ⟨5000, 5000⟩]
def riverS (x : Sr) : Rv := ⟨[⟨10, 1, span x.base.a x.base.b, curveS, 0, span x.bot.a x.bot.b, 9000⟩, ⟨10, 1, span x.base.c x.base.d, curveS, 0, span x.bot.c x.bot.d, 9000⟩],
  [⟨12, span x.sh.a x.sh.b, 0, ⟨24 * (x.sh.c % 3 - 1), 24 * (x.sh.c % 3 - 1 + x.sh.d % 2)⟩⟩]⟩
def wayS (x : Sr) (n : Int) : List Ps := [⟨5, ⟨x.way.a % n, min (n - 1) (x.way.a % n + x.way.b % 3)⟩⟩, ⟨12, ⟨x.way.c % n, min (n - 1) (x.way.c % n + x.way.d % 3)⟩⟩]
def pgOf (x : Sr) : Pg := ⟨⟨riverS x, [side0S x, side1S x]⟩, wayS x (rowsS x).length, x.keel % 30⟩
theorem pgOf_hrs {x : Sr} : hrs (pgOf x).f.sides = (rowsS x).length := by simp [hrs, pgOf, side0S]
theorem span_in {a b : Int} (ha : 0 ≤ a ∧ a ≤ 255) (hb : 0 ≤ b ∧ b ≤ 255) : 0 ≤ (span a b).lo ∧ (span a b).lo ≤ (span a b).hi ∧ (span a b).hi ≤ 295 := by simp only [span]; omega
theorem pgOf_wok {x : Sr} : WOk (pgOf x) := by
  have hL := rowsS_len (x := x)
  refine ⟨by simp [pgOf, riverS], by simp [pgOf, riverS], by simp [pgOf], by simp [pgOf, wayS], fun y hy => ?_, fun l hl => ?_⟩
  · simp only [pgOf, riverS, List.mem_cons, List.not_mem_nil, or_false] at hy
    rcases hy with rfl | rfl <;> simp [curveS]
  · simp only [pgOf, List.mem_cons, List.not_mem_nil, or_false] at hl
    rcases hl with rfl | rfl
    · simp only [side0S, List.length_map]; omega
    · simp only [side1S, List.length_map]; omega
end Go.Pe

/- The passage by small numbers, as the program makes it. -/
namespace Go.Pe
open Go Go.Proofs Go.Proofs.YtffckclggkjbgaaGreat
set_option maxRecDepth 20000
set_option maxHeartbeats 8000000
attribute [local simp] ts5 us5 ts22 us22 ts24 us24 ts25 us25 ts34 us34 ts39 us39 ts57 us57 ts156 us156 ts53 us53 ts64 us64 ts95 us95 ts96 us96 ts99 us99 ts101 us101
attribute [local simp] convA extA lenA ixar fQ_eq stC_eq
/-- The cells of the passage, as they are written down. -/
noncomputable def fRT (r : Rc) : List AV := [I r.len, I r.delay, I r.base.lo, I r.base.hi, .ro true 2 (r.curve.map fW), I r.weir, I r.bot.lo, I r.bot.hi, I r.flood]
noncomputable def pgT (x : Sr) : List AV := [.ro true 9 ((riverS x).rs.map fRT), .ro true 6 ((riverS x).ss.map fS), .ro false 1 [fL (side0S x), fL (side1S x)], .ro false 3 ((wayS x (rowsS x).length).map fPs), I (x.keel % 30)]
theorem pgT_R {x : Sr} {c : Cx} {w : World} {D : Nat → Prop} {v : Value} (h : R c w D (.agg (pgT x)) v) : R c w D (.agg (pgC (pgOf x) true false false)) v := by
  refine R_agg_to (l := pgT x) rfl (fun i a b ha hb v hv => ?_) h
  match i, ha, hb with
  | 0, ha, hb =>
    cases ha; cases hb
    refine R_rows (by simp [pgOf]) (fun i rx ry h1 h2 => ?_) hv
    simp only [pgOf] at h2
    rw [List.getElem?_map] at h1 h2
    cases hl : (riverS x).rs[i]? with
    | none => rw [hl] at h1; simp at h1
    | some s =>
      rw [hl] at h1 h2
      simp only [Option.map_some, Option.some.injEq] at h1 h2
      subst h1; subst h2
      refine ⟨rfl, fun j x y h3 h4 D v hv => ?_⟩
      match j, h3, h4 with
      | 0, h3, h4 => cases h3; cases h4; exact hv
      | 1, h3, h4 => cases h3; cases h4; exact hv
      | 2, h3, h4 => cases h3; cases h4; exact hv
      | 3, h3, h4 => cases h3; cases h4; exact hv
      | 4, h3, h4 => cases h3; cases h4; exact R_flag hv
      | 5, h3, h4 => cases h3; cases h4; exact hv
      | 6, h3, h4 => cases h3; cases h4; exact hv
      | 7, h3, h4 => cases h3; cases h4; exact hv
      | 8, h3, h4 => cases h3; cases h4; exact hv
  | 1, ha, hb => cases ha; cases hb; exact R_flag hv
  | 2, ha, hb => cases ha; cases hb; exact hv
  | 3, ha, hb => cases ha; cases hb; exact hv
  | 4, ha, hb => cases ha; cases hb; exact hv
theorem ixsl {s s2 by' by2 o len b : Nat} {z z2 : List Value} {a f c a2 f2 c2 : Bool} {e : TypeId} {k2 : TK} {i : Int} (h0 : 0 ≤ i) (h1 : i < len) : indexA { kind := .sl e, size := s, zero := z, agg := a, bytes := by', fok := f, cmp := c } { kind := k2, size := s2, zero := z2, agg := a2, bytes := by2, fok := f2, cmp := c2 } (.sl b o len s2) i = some (.ptr b (o + i.toNat * s2)) := by
  unfold indexA
  rw [if_neg (by omega)]
  simp [h1]
attribute [local simp] ixsl
/-- Two rows of own memory, in own memory. -/
theorem frz_two {h : H} {N b : Nat} {x1 x2 y1 y2 : AV} (hb : h.get b = some [x1, x2]) (hN : N ≤ b) (h1 : ∃ k, frz k h N x1 = some y1) (h2 : ∃ k, frz k h N x2 = some y2) (hc : (clean y1 && one y1) = true ∧ (clean y2 && one y2) = true) : ∃ k, frz k h N (.sl b 0 2 1) = some (.ro false 1 [[y1], [y2]]) := by
  obtain ⟨k, hk⟩ := frzL_mapM (h := h) (N := N) (l := [x1, x2]) (l' := [y1, y2]) ⟨h1, h2, trivial⟩
  refine ⟨k + 1, ?_⟩
  have e := hk k (Nat.le_refl _)
  rw [frz, if_neg (by omega), hb]
  simp only [takeAt]
  rw [if_pos (by simp)]
  simp only [List.drop_zero, show List.take (2 * 1) [x1, x2] = [x1, x2] from rfl, e]
  rw [if_pos (by simp [hc.1, hc.2])]
  rfl
set_option maxHeartbeats 20000000 in
theorem passage_small {x : Sr} {h : H} (hx : x.Ok) : Fn Tryz.prog 45 [.agg (stC x)] h (.agg (pgC (pgOf x) true false false)) h := by
  refine Fn.weak (x := .agg (pgT x)) ?_ (fun c w D v hv => pgT_R hv)
  refine Fn.beside ?_ rfl h
  refine Fn.ofR0 (butM []) (by kernel_rfl) Tryz.func45 rfl (by simp) ?_
  have hL := rowsS_len (x := x)
  have hb := hx.base
  have ho := hx.bot
  have hs := hx.sh
  have hw := hx.way
  have hk := hx.keel
  have c1 : IntKind.i64.wrap x.sh.c = x.sh.c := wrap_in (by have := hs.2.2.1; omega) (by have := hs.2.2.1; omega)
  have c2 : IntKind.i64.wrap x.sh.d = x.sh.d := wrap_in (by have := hs.2.2.2; omega) (by have := hs.2.2.2; omega)
  have c3 := tm (v := x.sh.c) (n := 3) hs.2.2.1.1
  have c4 := tm (v := x.sh.d) (n := 2) hs.2.2.2.1
  have c5 : IntKind.i64.wrap (x.sh.c % 3 - 1) = x.sh.c % 3 - 1 := wrap_in (by omega) (by omega)
  have c6 : IntKind.i64.wrap (24 * (x.sh.c % 3 - 1)) = 24 * (x.sh.c % 3 - 1) := wrap_in (by omega) (by omega)
  have c7 : IntKind.i64.wrap (x.sh.c % 3 - 1 + x.sh.d % 2) = x.sh.c % 3 - 1 + x.sh.d % 2 := wrap_in (by omega) (by omega)
  have c8 : IntKind.i64.wrap (24 * (x.sh.c % 3 - 1 + x.sh.d % 2)) = 24 * (x.sh.c % 3 - 1 + x.sh.d % 2) := wrap_in (by omega) (by omega)
  have c9 : IntKind.i64.wrap x.keel = x.keel := wrap_in (by omega) (by omega)
  have c10 := tm (v := x.keel) (n := 30) hk.1
  simp -dsimp -implicitDefEqProofs
  refine DrawR.on {} (by kernel_rfl) (by simp) ?_
  simp (maxSteps := 10000000) -dsimp -implicitDefEqProofs
  refine onCallQ_in (span_fn hb.1 hb.2.1) ?_
  simp (maxSteps := 10000000) -dsimp -implicitDefEqProofs
  refine onCallQ_in (span_fn ho.1 ho.2.1) ?_
  simp (maxSteps := 10000000) -dsimp -implicitDefEqProofs
  refine onCallQ_in (span_fn hb.2.2.1 hb.2.2.2) ?_
  simp (maxSteps := 10000000) -dsimp -implicitDefEqProofs
  refine onCallQ_in (span_fn ho.2.2.1 ho.2.2.2) ?_
  simp (maxSteps := 10000000) -dsimp -implicitDefEqProofs
  refine onCallQ_in (span_fn hs.1 hs.2.1) ?_
  simp (maxSteps := 10000000) -dsimp -implicitDefEqProofs [c1, c2, c3, c4, c5, c6, c7, c8, c9, c10]
  refine Exists.elim (show ∃ n, n = (rowsS x).length from ⟨_, rfl⟩) fun n hn => ?_
  rw [← hn] at hL
  have hatI : ∀ i : Nat, i < n → (i < x.rows.length → x.rows[i]? = (rowsS x)[i]?) ∧ (¬ i < x.rows.length → (rowsS x)[i]? = some ⟨0, 0, 0, 0⟩) ∧ (i = 0 ∨ (i < x.rows.length ∧ i < 12)) := fun i hi => by
    rw [hn] at hi
    unfold rowsS at hi ⊢
    split at hi
    · rename_i h0
      simp at hi
      subst hi
      rw [if_pos h0]
      exact ⟨fun h => by omega, fun _ => rfl, .inl rfl⟩
    · rename_i h0
      rw [if_neg h0]
      rw [List.length_take] at hi
      exact ⟨fun h => by rw [List.getElem?_take_of_lt (by omega)], fun h => by omega, .inr (by omega)⟩
  have hend : ¬ (n < x.rows.length ∧ n < 12) := by
    rw [hn]; unfold rowsS
    split
    · rename_i h0; simp; omega
    · rw [List.length_take]; omega
  refine LoopCR.on 181 (fun i => [(1, .ptr 0 0), (2, .ptr 1 0), (5, .ptr 2 0), (6, I (i : Nat))]) (fun i => [some (stC x), some [.val (.slice none 0 0), .val (.slice none 0 0), .val (.slice none 0 0), .val (.slice none 0 0), I 0], some [.ro true 9 ((riverS x).rs.map fRT), .ro true 6 ((riverS x).ss.map fS), .sl 3 0 2 1, .val (.slice none 0 0), I (x.keel % 30)], some [growN 4 2 i, growN 5 2 i], grown i (rws fBd ((side0S x).take i)), grown i (rws fBd ((side1S x).take i))]) (fun i => i ≤ n) (fun i => n - i) 0 [0, 1, 69, 68, 99, 98] (by simp) ?_ ?_
  · simp -dsimp -implicitDefEqProofs [riverS, fRT, curveS, span]
    done
  intro i j hi
  have w1 : IntKind.i64.wrap ((i : Int) + 1) = (i : Int) + 1 := wrap_in (by omega) (by omega)
  have gp0 : growN 4 2 n = .sl 4 0 n 2 := growN_pos (by omega)
  have gp1 : growN 5 2 n = .sl 5 0 n 2 := growN_pos (by omega)
  have hnz' : (n = 0) = False := eq_false (by omega)
  have hnz : ((n : Int) = 0) = False := eq_false (by omega)
  have u1 := hw.1
  have u2 := hw.2.1
  have u3 := hw.2.2.1
  have u4 := hw.2.2.2
  have a1 : IntKind.i64.wrap x.way.a = x.way.a := wrap_in (by omega) (by omega)
  have a2 : IntKind.i64.wrap x.way.b = x.way.b := wrap_in (by omega) (by omega)
  have a3 : IntKind.i64.wrap x.way.c = x.way.c := wrap_in (by omega) (by omega)
  have a4 : IntKind.i64.wrap x.way.d = x.way.d := wrap_in (by omega) (by omega)
  have m1 := tm (v := x.way.a) (n := n) u1.1
  have m2 := tm (v := x.way.b) (n := 3) u2.1
  have m3 := tm (v := x.way.c) (n := n) u3.1
  have m4 := tm (v := x.way.d) (n := 3) u4.1
  have b1 := Int.emod_nonneg x.way.a (show (n : Int) ≠ 0 by omega)
  have b2 := Int.emod_lt_of_pos x.way.a (show (0 : Int) < n by omega)
  have b3 := Int.emod_nonneg x.way.c (show (n : Int) ≠ 0 by omega)
  have b4 := Int.emod_lt_of_pos x.way.c (show (0 : Int) < n by omega)
  have a5 : IntKind.i64.wrap (x.way.a % n + x.way.b % 3) = x.way.a % n + x.way.b % 3 := wrap_in (by omega) (by omega)
  have a6 : IntKind.i64.wrap (x.way.c % n + x.way.d % 3) = x.way.c % n + x.way.d % 3 := wrap_in (by omega) (by omega)
  have a7 : IntKind.i64.wrap ((n : Int) - 1) = (n : Int) - 1 := wrap_in (by omega) (by omega)
  have z0 : IntKind.i64.wrap 0 = 0 := rfl
  have z1 : IntKind.i64.wrap 1 = 1 := rfl
  have z2 : IntKind.i64.wrap 2 = 2 := rfl
  have z3 : IntKind.i64.wrap 3 = 3 := rfl
  have z5 : IntKind.i64.wrap 5 = 5 := rfl
  have z7 : IntKind.i64.wrap 7 = 7 := rfl
  have z12 : IntKind.i64.wrap 12 = 12 := rfl
  have a9 : IntKind.i64.wrap (x.way.c % n) = x.way.c % n := wrap_in (by omega) (by omega)
  have a8 : IntKind.i64.wrap (x.way.a % n) = x.way.a % n := wrap_in (by omega) (by omega)
  refine (Classical.em (i = n)).elim (fun hin => ?_) (fun hne => ?_)
  · have n0 : ((i : Int) == 0) = false := by simp; omega
    have t0 : (side0S x).take i = side0S x := List.take_of_length_le (by rw [side0S, List.length_map]; omega)
    have t1 : (side1S x).take i = side1S x := List.take_of_length_le (by rw [side1S, List.length_map]; omega)
    refine (Classical.em (i < x.rows.length)).elim (fun hc => ?_) (fun hc => ?_)
    · have d1 : decide ((i : Int) < (x.rows.length : Int)) = true := decide_eq_true (by omega)
      have d1' : decide (i < x.rows.length) = true := decide_eq_true (by omega)
      have d2 : decide ((i : Int) < 12) = false := decide_eq_false (by omega)
      have d2' : decide (i < 12) = false := decide_eq_false (by omega)
      have hin' := hin.symm
      subst hin'
      simp -dsimp -implicitDefEqProofs [n0, d1, d1', d2, d2', t0, t1, -lenA, lenA_growN, lenA_ro]
      refine LoopCR.on 181 (fun k => [(1, .ptr 0 0), (2, .ptr 1 0), (5, .ptr 2 0), (8, I (n : Nat)), (9, I (k : Nat))]) (fun k => [some (stC x), some [.val (.slice none 0 0), .val (.slice none 0 0), .val (.slice none 0 0), .val (.slice none 0 0), I 0], some [.ro true 9 ((riverS x).rs.map fRT), .ro true 6 ((riverS x).ss.map fS), .sl 3 0 2 1, growN 6 3 k, I (x.keel % 30)], some [growN 4 2 n, growN 5 2 n], grown n (rws fBd (side0S x)), grown n (rws fBd (side1S x)), grown k (rws fPs ((wayS x n).take k))]) (fun k => k ≤ 2) (fun k => 2 - k) 0 [0, 1, 2, 3, 4, 5, 99] (by simp) ?_ ?_
      · simp -dsimp -implicitDefEqProofs
      intro k j hk
      refine (Classical.em (k = 0)).elim (fun hk0 => ?_) (fun hk0 => ?_)
      · subst hk0
        simp -dsimp -implicitDefEqProofs [m1, m2, m3, m4, a1, a2, a3, a4, a5, a6, a7, a8, a9, z0, z2, z5, z7, z12, z1, z3, hnz, hnz']
        refine DrawR.on { M := [2, 6], see := [(1, 2)], eff := [(22, [6]), (24, [2])] } (by kernel_rfl) (by simp) ?_
        simp -dsimp -implicitDefEqProofs [m1, m2, m3, m4, a1, a2, a3, a4, a5, a6, a7, a8, a9, z0, z2, z5, z7, z12, z1, z3, hnz, hnz', -storeA]
        refine on_appendN (b := 6) (n := 0) fPs [] ⟨5, ⟨x.way.a % n, min (n - 1) (x.way.a % n + x.way.b % 3)⟩⟩ (by simp [wayS]) rfl (show (0 + 1) * 24 ≤ 70368744177664 by omega) (by omega) rfl rfl (by simp) rfl (fun _ => rfl) ?_ rfl
        simp -dsimp -implicitDefEqProofs [z0, z1, z2]
        refine again_in 1 [0, 1, 2, 3, 4, 5, 29] (by omega) (by omega) ?_
        simp -dsimp -implicitDefEqProofs [wayS]
        done
      refine (Classical.em (k = 1)).elim (fun hk1 => ?_) (fun hk1 => ?_)
      · subst hk1
        simp -dsimp -implicitDefEqProofs [m1, m2, m3, m4, a1, a2, a3, a4, a5, a6, a7, a8, a9, z0, z2, z5, z7, z12, z1, z3, hnz, hnz']
        refine DrawR.on { M := [2, 6], see := [(1, 2)], eff := [(22, [6]), (24, [2])] } (by kernel_rfl) (by simp) ?_
        simp -dsimp -implicitDefEqProofs [m1, m2, m3, m4, a1, a2, a3, a4, a5, a6, a7, a8, a9, z0, z2, z5, z7, z12, z1, z3, hnz, hnz', -storeA]
        refine on_appendN (b := 6) (n := 1) fPs [⟨5, ⟨x.way.a % n, min (n - 1) (x.way.a % n + x.way.b % 3)⟩⟩] ⟨12, ⟨x.way.c % n, min (n - 1) (x.way.c % n + x.way.d % 3)⟩⟩ (by simp [wayS]) rfl (show (1 + 1) * 24 ≤ 70368744177664 by omega) (by omega) rfl rfl (by simp) rfl (fun _ => rfl) ?_ rfl
        simp -dsimp -implicitDefEqProofs [z0, z1, z2]
        refine again_in 2 [0, 1, 2, 3, 4, 5, 29] (by omega) (by omega) ?_
        simp -dsimp -implicitDefEqProofs [wayS]
        done
      obtain rfl : k = 2 := by omega
      simp -dsimp -implicitDefEqProofs
      have g0 : (side0S x).length = n := by rw [side0S, List.length_map]; omega
      have g1 : (side1S x).length = n := by rw [side1S, List.length_map]; omega
      refine frz_aggL ⟨⟨1, rfl⟩, ⟨1, rfl⟩, frz_two (b := 3) (x1 := growN 4 2 n) (x2 := growN 5 2 n) (by simp [mkH]) (Nat.zero_le _) (frz_rwsN (f := fBd) (l := side0S x) (b := 4) (n := n) (by simp [mkH]) (Nat.zero_le _) g0 (by omega) (fun _ => rfl) (fun _ => rfl)) (frz_rwsN (f := fBd) (l := side1S x) (b := 5) (n := n) (by simp [mkH]) (Nat.zero_le _) g1 (by omega) (fun _ => rfl) (fun _ => rfl)) ⟨rfl, rfl⟩, ?_, ⟨1, rfl⟩, trivial⟩
      rw [← hn]
      exact frz_rwsN (f := fPs) (l := wayS x n) (b := 6) (n := 2) (by simp [mkH, wayS]) (Nat.zero_le _) rfl (by omega) (fun _ => rfl) (fun _ => rfl)
    · have d1 : decide ((i : Int) < (x.rows.length : Int)) = false := decide_eq_false (by omega)
      have d1' : decide (i < x.rows.length) = false := decide_eq_false (by omega)
      have d2 := d1
      have d2' := d1'
      have hin' := hin.symm
      subst hin'
      simp -dsimp -implicitDefEqProofs [n0, d1, d1', d2, d2', t0, t1, -lenA, lenA_growN, lenA_ro]
      refine LoopCR.on 181 (fun k => [(1, .ptr 0 0), (2, .ptr 1 0), (5, .ptr 2 0), (8, I (n : Nat)), (9, I (k : Nat))]) (fun k => [some (stC x), some [.val (.slice none 0 0), .val (.slice none 0 0), .val (.slice none 0 0), .val (.slice none 0 0), I 0], some [.ro true 9 ((riverS x).rs.map fRT), .ro true 6 ((riverS x).ss.map fS), .sl 3 0 2 1, growN 6 3 k, I (x.keel % 30)], some [growN 4 2 n, growN 5 2 n], grown n (rws fBd (side0S x)), grown n (rws fBd (side1S x)), grown k (rws fPs ((wayS x n).take k))]) (fun k => k ≤ 2) (fun k => 2 - k) 0 [0, 1, 2, 3, 4, 5, 99] (by simp) ?_ ?_
      · simp -dsimp -implicitDefEqProofs
      intro k j hk
      refine (Classical.em (k = 0)).elim (fun hk0 => ?_) (fun hk0 => ?_)
      · subst hk0
        simp -dsimp -implicitDefEqProofs [m1, m2, m3, m4, a1, a2, a3, a4, a5, a6, a7, a8, a9, z0, z2, z5, z7, z12, z1, z3, hnz, hnz']
        refine DrawR.on { M := [2, 6], see := [(1, 2)], eff := [(22, [6]), (24, [2])] } (by kernel_rfl) (by simp) ?_
        simp -dsimp -implicitDefEqProofs [m1, m2, m3, m4, a1, a2, a3, a4, a5, a6, a7, a8, a9, z0, z2, z5, z7, z12, z1, z3, hnz, hnz', -storeA]
        refine on_appendN (b := 6) (n := 0) fPs [] ⟨5, ⟨x.way.a % n, min (n - 1) (x.way.a % n + x.way.b % 3)⟩⟩ (by simp [wayS]) rfl (show (0 + 1) * 24 ≤ 70368744177664 by omega) (by omega) rfl rfl (by simp) rfl (fun _ => rfl) ?_ rfl
        simp -dsimp -implicitDefEqProofs [z0, z1, z2]
        refine again_in 1 [0, 1, 2, 3, 4, 5, 29] (by omega) (by omega) ?_
        simp -dsimp -implicitDefEqProofs [wayS]
        done
      refine (Classical.em (k = 1)).elim (fun hk1 => ?_) (fun hk1 => ?_)
      · subst hk1
        simp -dsimp -implicitDefEqProofs [m1, m2, m3, m4, a1, a2, a3, a4, a5, a6, a7, a8, a9, z0, z2, z5, z7, z12, z1, z3, hnz, hnz']
        refine DrawR.on { M := [2, 6], see := [(1, 2)], eff := [(22, [6]), (24, [2])] } (by kernel_rfl) (by simp) ?_
        simp -dsimp -implicitDefEqProofs [m1, m2, m3, m4, a1, a2, a3, a4, a5, a6, a7, a8, a9, z0, z2, z5, z7, z12, z1, z3, hnz, hnz', -storeA]
        refine on_appendN (b := 6) (n := 1) fPs [⟨5, ⟨x.way.a % n, min (n - 1) (x.way.a % n + x.way.b % 3)⟩⟩] ⟨12, ⟨x.way.c % n, min (n - 1) (x.way.c % n + x.way.d % 3)⟩⟩ (by simp [wayS]) rfl (show (1 + 1) * 24 ≤ 70368744177664 by omega) (by omega) rfl rfl (by simp) rfl (fun _ => rfl) ?_ rfl
        simp -dsimp -implicitDefEqProofs [z0, z1, z2]
        refine again_in 2 [0, 1, 2, 3, 4, 5, 29] (by omega) (by omega) ?_
        simp -dsimp -implicitDefEqProofs [wayS]
        done
      obtain rfl : k = 2 := by omega
      simp -dsimp -implicitDefEqProofs
      have g0 : (side0S x).length = n := by rw [side0S, List.length_map]; omega
      have g1 : (side1S x).length = n := by rw [side1S, List.length_map]; omega
      refine frz_aggL ⟨⟨1, rfl⟩, ⟨1, rfl⟩, frz_two (b := 3) (x1 := growN 4 2 n) (x2 := growN 5 2 n) (by simp [mkH]) (Nat.zero_le _) (frz_rwsN (f := fBd) (l := side0S x) (b := 4) (n := n) (by simp [mkH]) (Nat.zero_le _) g0 (by omega) (fun _ => rfl) (fun _ => rfl)) (frz_rwsN (f := fBd) (l := side1S x) (b := 5) (n := n) (by simp [mkH]) (Nat.zero_le _) g1 (by omega) (fun _ => rfl) (fun _ => rfl)) ⟨rfl, rfl⟩, ?_, ⟨1, rfl⟩, trivial⟩
      rw [← hn]
      exact frz_rwsN (f := fPs) (l := wayS x n) (b := 6) (n := 2) (by simp [mkH, wayS]) (Nat.zero_le _) rfl (by omega) (fun _ => rfl) (fun _ => rfl)
  have hlt : i < n := by omega
  have hat := hatI i hlt
  refine Exists.elim (show ∃ r, (rowsS x)[i]? = some r from ⟨_, List.getElem?_eq_getElem (by omega)⟩) fun r hr => ?_
  have hok := rowsS_ok hx r (List.mem_of_getElem? hr)
  have hst0 : (side0S x).take (i + 1) = (side0S x).take i ++ [span r.a r.b] := by rw [List.take_add_one, side0S, List.getElem?_map, hr]; rfl
  have hst1 : (side1S x).take (i + 1) = (side1S x).take i ++ [span r.c r.d] := by rw [List.take_add_one, side1S, List.getElem?_map, hr]; rfl
  have hl0 : ((side0S x).take i).length = i := by rw [List.length_take, side0S, List.length_map]; omega
  have hl1 : ((side1S x).take i).length = i := by rw [List.length_take, side1S, List.length_map]; omega
  refine (Classical.em (i < x.rows.length)).elim (fun hc => ?_) (fun hc => ?_)
  · have hrow : x.rows[i]? = some r := by rw [hat.1 hc, hr]
    have d1 : decide ((i : Int) < (x.rows.length : Int)) = true := decide_eq_true (by omega)
    have d1' : decide (i < x.rows.length) = true := decide_eq_true (by omega)
    refine (Classical.em (i = 0)).elim (fun h0 => ?_) (fun h0 => ?_)
    · have n0 : ((i : Int) == 0) = true := by simp; omega
      simp -dsimp -implicitDefEqProofs [n0, d1, d1', hrow]
      refine DrawR.on { M := [3, 4, 5], see := [(7, 3), (18, 3)], eff := [(14, [4]), (25, [5]), (27, [3]), (29, [3])] } (by kernel_rfl) (by simp) ?_
      simp -dsimp -implicitDefEqProofs [-storeA]
      refine onCallQ_in (span_fn hok.1 hok.2.1) ?_
      simp -dsimp -implicitDefEqProofs [-storeA]
      refine on_appendN fBd ((side0S x).take i) (span r.a r.b) (by simp) hl0 (show (i + 1) * 16 ≤ 70368744177664 by omega) (by omega) rfl rfl (by simp) rfl (fun _ => rfl) ?_ rfl
      simp -dsimp -implicitDefEqProofs [-storeA]
      refine onCallQ_in (span_fn hok.2.2.1 hok.2.2.2) ?_
      simp -dsimp -implicitDefEqProofs [-storeA]
      refine on_appendN fBd ((side1S x).take i) (span r.c r.d) (by simp) hl1 (show (i + 1) * 16 ≤ 70368744177664 by omega) (by omega) rfl rfl (by simp) rfl (fun _ => rfl) ?_ rfl
      simp -dsimp -implicitDefEqProofs [w1]
      refine again_in (i + 1) [0, 1, 2, 3, 21, 32] (by omega) (by omega) ?_
      simp -dsimp -implicitDefEqProofs [hst0, hst1]
    · have n0 : ((i : Int) == 0) = false := by simp; omega
      have d2 : decide ((i : Int) < 12) = true := decide_eq_true (by omega)
      have d2' : decide (i < 12) = true := decide_eq_true (by omega)
      simp -dsimp -implicitDefEqProofs [n0, d1, d1', d2, d2', hrow]
      refine DrawR.on { M := [3, 4, 5], see := [(7, 3), (18, 3)], eff := [(14, [4]), (25, [5]), (27, [3]), (29, [3])] } (by kernel_rfl) (by simp) ?_
      simp -dsimp -implicitDefEqProofs [-storeA]
      refine onCallQ_in (span_fn hok.1 hok.2.1) ?_
      simp -dsimp -implicitDefEqProofs [-storeA]
      refine on_appendN fBd ((side0S x).take i) (span r.a r.b) (by simp) hl0 (show (i + 1) * 16 ≤ 70368744177664 by omega) (by omega) rfl rfl (by simp) rfl (fun _ => rfl) ?_ rfl
      simp -dsimp -implicitDefEqProofs [-storeA]
      refine onCallQ_in (span_fn hok.2.2.1 hok.2.2.2) ?_
      simp -dsimp -implicitDefEqProofs [-storeA]
      refine on_appendN fBd ((side1S x).take i) (span r.c r.d) (by simp) hl1 (show (i + 1) * 16 ≤ 70368744177664 by omega) (by omega) rfl rfl (by simp) rfl (fun _ => rfl) ?_ rfl
      simp -dsimp -implicitDefEqProofs [w1]
      refine again_in (i + 1) [0, 1, 2, 3, 21, 32] (by omega) (by omega) ?_
      simp -dsimp -implicitDefEqProofs [hst0, hst1]
  · have hz : r = ⟨0, 0, 0, 0⟩ := by have := hat.2.1 hc; rw [hr] at this; exact Option.some.inj this
    have h0 : i = 0 := by rcases hat.2.2 with h | h <;> omega
    have d1 : decide ((i : Int) < (x.rows.length : Int)) = false := decide_eq_false (by omega)
    have d1' : decide (i < x.rows.length) = false := decide_eq_false (by omega)
    have n0 : ((i : Int) == 0) = true := by simp; omega
    subst hz
    simp -dsimp -implicitDefEqProofs [n0, d1, d1']
    refine DrawR.on { M := [3, 4, 5], see := [(7, 3), (18, 3)], eff := [(14, [4]), (25, [5]), (27, [3]), (29, [3])] } (by kernel_rfl) (by simp) ?_
    simp -dsimp -implicitDefEqProofs [-storeA]
    refine onCallQ_in (span_fn hok.1 hok.2.1) ?_
    simp -dsimp -implicitDefEqProofs [-storeA]
    refine on_appendN fBd ((side0S x).take i) (span 0 0) (by simp) hl0 (show (i + 1) * 16 ≤ 70368744177664 by omega) (by omega) rfl rfl (by simp) rfl (fun _ => rfl) ?_ rfl
    simp -dsimp -implicitDefEqProofs [-storeA]
    refine onCallQ_in (span_fn hok.2.2.1 hok.2.2.2) ?_
    simp -dsimp -implicitDefEqProofs [-storeA]
    refine on_appendN fBd ((side1S x).take i) (span 0 0) (by simp) hl1 (show (i + 1) * 16 ≤ 70368744177664 by omega) (by omega) rfl rfl (by simp) rfl (fun _ => rfl) ?_ rfl
    simp -dsimp -implicitDefEqProofs [w1]
    refine again_in (i + 1) [0, 1, 2, 3, 21, 32] (by omega) (by omega) ?_
    simp -dsimp -implicitDefEqProofs [hst0, hst1]
end Go.Pe
