import Derived.Test.YtffckclggkjbgaaGreatY11
import Derived.Test.YtffckclggkjbgaaGreatY30
import Derived.Test.YtffckclggkjbgaaGreatY29
import Derived.Test.YtffckclggkjbgaaGreatY32
import Derived.Test.YtffckclggkjbgaaGreatY33
import Derived.Test.YtffckclggkjbgaaGreatY19
import Derived.Test.YtffckclggkjbgaaGreatRows
import Derived.ProofKit
import Derived.Test.YtffckclggkjbgaaGreatY18
set_option linter.unusedVariables false
set_option linter.unusedSimpArgs false
/- Four small numbers; an array by an index. -/
namespace Go.Pe
open Go Go.Proofs Go.Proofs.YtffckclggkjbgaaGreat
set_option maxRecDepth 20000
structure Q4 where
  a : Int
  b : Int
  c : Int
  d : Int
noncomputable def fQ (q : Q4) : List AV := [U q.a, U q.b, U q.c, U q.d]
theorem fQ_eq {q : Q4} : fQ q = [U q.a, U q.b, U q.c, U q.d] := rfl
def okQ (q : Q4) : Prop := (0 ≤ q.a ∧ q.a ≤ 255) ∧ (0 ≤ q.b ∧ q.b ≤ 255) ∧ (0 ≤ q.c ∧ q.c ≤ 255) ∧ (0 ≤ q.d ∧ q.d ≤ 255)
theorem ixar {n s s2 by' by2 : Nat} {z z2 : List Value} {a f c a2 f2 c2 : Bool} {e : TypeId} {k2 : TK} {b o : Nat} {i : Int} (h0 : 0 ≤ i) (h1 : i < n) : indexA { kind := .ar n e, size := s, zero := z, agg := a, bytes := by', fok := f, cmp := c } { kind := k2, size := s2, zero := z2, agg := a2, bytes := by2, fok := f2, cmp := c2 } (.ptr b o) i = some (.ptr b (o + i.toNat * s2)) := by
  unfold indexA
  rw [if_neg (by omega)]
  simp only [h1, if_true]
end Go.Pe

/- Hulls by small numbers. -/
namespace Go.Pe
open Go Go.Proofs Go.Proofs.YtffckclggkjbgaaGreat
set_option maxRecDepth 20000
set_option maxHeartbeats 8000000
attribute [local simp] t3 u3 t4 u4 t27 u27
attribute [local simp] ts5 us5 ts22 us22 ts24 us24 ts72 us72 ts118 us118 ts120 us120 ts25 us25 ts75 us75 ts150 us150 ts94 us94 ts95 us95 ts96 us96 ts98 us98 ts172 us172
attribute [local simp] convA extA lenA ixar
/-- A row of a slice that is known to be as long as its memory is one all the same. -/
theorem R_flag {c : Cx} {w : World} {D : Nat → Prop} {k : Nat} {xs : List (List AV)} {v : Value} (h : R c w D (.ro true k xs) v) : R c w D (.ro false k xs) v := by
  cases h with
  | ro cell hS hl hc hf hk hcell ho h => exact .ro cell hS hl hc (fun e => absurd e (by simp)) hk hcell ho h
  | nil => exact .nil
  | emp => exact .emp
theorem R_rows {c : Cx} {w : World} {D : Nat → Prop} {f : Bool} {k : Nat} {xs ys : List (List AV)} {v : Value} (hlen : ys.length = xs.length)
    (hrow : ∀ (i : Nat) (rx ry : List AV), xs[i]? = some rx → ys[i]? = some ry → ry.length = rx.length ∧ ∀ (j : Nat) (x y : AV), rx[j]? = some x → ry[j]? = some y → ∀ (D : Nat → Prop) v, R c w D x v → R c w D y v) (h : R c w D (.ro f k xs) v) : R c w D (.ro f k ys) v := by
  cases h with
  | ro cell hS hl hc hf hk hcell ho h =>
    refine .ro cell hS (by omega) hc hf (fun row hr => ?_) hcell ho (fun i j row x h1 h2 => ?_)
    · obtain ⟨i, hi, e⟩ := List.getElem_of_mem hr
      have h1 : ys[i]? = some row := by rw [List.getElem?_eq_getElem hi, e]
      have h2 : xs[i]? = some xs[i] := List.getElem?_eq_getElem (by omega)
      rw [(hrow i _ _ h2 h1).1]
      exact hk _ (List.getElem_mem (by omega))
    · have hi := (List.getElem?_eq_some_iff.1 h1).1
      have h3 : xs[i]? = some xs[i] := List.getElem?_eq_getElem (by omega)
      have hr := hrow i _ _ h3 h1
      have hj := (List.getElem?_eq_some_iff.1 h2).1
      have h4 : xs[i][j]? = some xs[i][j] := List.getElem?_eq_getElem (by omega)
      exact hr.2 j _ _ h4 h2 _ _ (h i j _ _ h3 h4)
  | nil =>
    have : ys = [] := List.length_eq_zero_iff.1 (by simpa using hlen)
    rw [this]; exact .nil
  | emp =>
    have : ys = [] := List.length_eq_zero_iff.1 (by simpa using hlen)
    rw [this]; exact .emp
structure R5 where
  v0 : Int
  v1 : Int
  v2 : Int
  v3 : Int
  v4 : Int
structure R5.Ok (r : R5) : Prop where
  h0 : 0 ≤ r.v0 ∧ r.v0 ≤ 255
  h1 : 0 ≤ r.v1 ∧ r.v1 ≤ 255
  h2 : 0 ≤ r.v2 ∧ r.v2 ≤ 255
  h3 : 0 ≤ r.v3 ∧ r.v3 ≤ 255
  h4 : 0 ≤ r.v4 ∧ r.v4 ≤ 255
noncomputable def fR5 (r : R5) : List AV := [U r.v0, U r.v1, U r.v2, U r.v3, U r.v4]
theorem fR5_eq {r : R5} : fR5 r = [U r.v0, U r.v1, U r.v2, U r.v3, U r.v4] := rfl
def R5.zero : R5 := ⟨0, 0, 0, 0, 0⟩
theorem R5.zero_ok : R5.zero.Ok := ⟨by decide, by decide, by decide, by decide, by decide⟩
/-- A hull, a load and a density by small numbers. -/
structure Sm where
  lot : Int
  rows : List R5
  l0 : Int
  l1 : Int
  l2 : Int
  l3 : Int
  d0 : Int
  d1 : Int
structure Sm.Ok (x : Sm) : Prop where
  lot : 0 ≤ x.lot ∧ x.lot ≤ 255
  rows : ∀ r ∈ x.rows, r.Ok
  l0 : 0 ≤ x.l0 ∧ x.l0 ≤ 255
  l1 : 0 ≤ x.l1 ∧ x.l1 ≤ 255
  l2 : 0 ≤ x.l2 ∧ x.l2 ≤ 255
  l3 : 0 ≤ x.l3 ∧ x.l3 ≤ 255
  d0 : 0 ≤ x.d0 ∧ x.d0 ≤ 255
  d1 : 0 ≤ x.d1 ∧ x.d1 ≤ 255
noncomputable def smC (x : Sm) : List AV := [U x.lot, .ro false 5 (x.rows.map fR5), U x.l0, U x.l1, U x.l2, U x.l3, U x.d0, U x.d1]
theorem smC_eq {x : Sm} : smC x = [U x.lot, .ro false 5 (x.rows.map fR5), U x.l0, U x.l1, U x.l2, U x.l3, U x.d0, U x.d1] := rfl
def secOf (r : R5) : Sec := ⟨10 + r.v0 % 20, r.v3 % 60, 1 + r.v4, [⟨0, 0⟩, ⟨40 + r.v1 % 100, 60 + r.v2⟩, ⟨40 + r.v1 % 100 + 50 + r.v0, 60 + r.v2 + 200 + 2 * r.v1⟩], [⟨r.v4 % 11, r.v2 % 6⟩]⟩
def rowsM (x : Sm) (m : Nat) : List R5 := if x.rows.length = 0 then [R5.zero] else x.rows.take m
def huM (x : Sm) (m : Nat) : Hu := ⟨1 + x.lot % 30, (rowsM x m).map secOf⟩
theorem rowsM_ok {x : Sm} {m : Nat} (h : x.Ok) : ∀ r ∈ rowsM x m, r.Ok := fun r hr => by
  unfold rowsM at hr
  split at hr
  · simp at hr; subst hr; exact R5.zero_ok
  · exact h.rows r (List.mem_of_mem_take hr)
theorem rowsM_len {x : Sm} {m : Nat} (hm : 1 ≤ m) : 1 ≤ (rowsM x m).length ∧ (rowsM x m).length ≤ m := by
  unfold rowsM
  split
  · simp; omega
  · rw [List.length_take]; omega
/-- A section whose rows are written down. -/
noncomputable def fSecT (s : Sec) : List AV := [I s.a, I s.b, I s.c, .ro true 2 (s.ps.map fPt), .ro true 2 (s.qs.map fPt)]
theorem fSecT_eq {s : Sec} : fSecT s = [I s.a, I s.b, I s.c, .ro true 2 (s.ps.map fPt), .ro true 2 (s.qs.map fPt)] := rfl
attribute [local simp] fSecT_eq smC_eq fR5_eq fPt_eq
theorem secT_R {c : Cx} {w : World} {D : Nat → Prop} {f : Bool} {l : List Sec} {v : Value} (h : R c w D (.ro f 5 (l.map fSecT)) v) : R c w D (.ro f 5 (l.map fSec)) v := by
  refine R_rows (by simp) (fun i rx ry h1 h2 => ?_) h
  rw [List.getElem?_map] at h1 h2
  cases hl : l[i]? with
  | none => rw [hl] at h1; simp at h1
  | some s =>
    rw [hl] at h1 h2
    simp only [Option.map_some, Option.some.injEq] at h1 h2
    subst h1; subst h2
    refine ⟨rfl, fun j x y h3 h4 D v hv => ?_⟩
    match j, h3, h4 with
    | 0, h3, h4 => cases h3; cases h4; exact hv
    | 1, h3, h4 => cases h3; cases h4; exact hv
    | 2, h3, h4 => cases h3; cases h4; exact hv
    | 3, h3, h4 => cases h3; cases h4; exact R_flag hv
    | 4, h3, h4 => cases h3; cases h4; exact R_flag hv
theorem tm {v n : Int} (h : 0 ≤ v) : v.tmod n = v % n := Int.tmod_eq_emod_of_nonneg h
theorem small_hull {x : Sm} {m : Nat} {h : H} (hx : x.Ok) (hm : 1 ≤ m) (hm2 : m ≤ 10) : Fn Tryz.prog 44 [.agg (smC x), I (m : Nat)] h (.agg [I (huM x m).a, .ro false 5 ((huM x m).ss.map fSec)]) h := by
  refine Fn.weak (x := .agg [I (huM x m).a, .ro false 5 ((huM x m).ss.map fSecT)]) ?_ (fun c w D v hv => ?_)
  rotate_left
  · refine R_agg_to (l := [I (huM x m).a, .ro false 5 ((huM x m).ss.map fSecT)]) rfl (fun i x y hx hy v hv => ?_) hv
    match i, hx, hy with
    | 0, hx, hy => cases hx; cases hy; exact hv
    | 1, hx, hy => cases hx; cases hy; exact secT_R hv
  refine Fn.beside ?_ rfl h
  refine Fn.ofR0 (butM []) (by kernel_rfl) Tryz.func44 rfl (by simp) ?_
  have hL := rowsM_len (x := x) hm
  have hlot := hx.lot
  refine Exists.elim (show ∃ l, l = rowsM x m from ⟨_, rfl⟩) fun l hl => ?_
  refine Exists.elim (show ∃ a, a = 1 + x.lot % 30 from ⟨_, rfl⟩) fun a ha => ?_
  have hhu : huM x m = ⟨a, l.map secOf⟩ := by rw [hl, ha]; rfl
  have hokl : ∀ r ∈ l, r.Ok := by rw [hl]; exact rowsM_ok hx
  rw [← hl] at hL
  have c0 : IntKind.i64.wrap x.lot = x.lot := wrap_in (by omega) (by omega)
  have c1 := tm (n := 30) hlot.1
  have c2 : IntKind.i64.wrap (1 + x.lot % 30) = a := by rw [ha]; exact wrap_in (by omega) (by omega)
  have hatI : ∀ i : Nat, i < l.length → (i < x.rows.length → x.rows[i]? = l[i]?) ∧ (¬ i < x.rows.length → l[i]? = some R5.zero) ∧ (i = 0 ∨ (i < x.rows.length ∧ i < m)) := fun i hi => by
    rw [hl] at hi ⊢
    unfold rowsM at hi ⊢
    split at hi
    · rename_i h0
      simp at hi
      subst hi
      rw [if_pos h0]
      exact ⟨fun h => by omega, fun _ => rfl, .inl rfl⟩
    · rename_i h0
      rw [if_neg h0]
      rw [List.length_take] at hi
      exact ⟨fun h => by rw [List.getElem?_take_of_lt (by omega)], fun h => by omega, .inr (by omega)⟩
  have hend : ¬ (l.length < x.rows.length ∧ l.length < m) := by
    rw [hl]; unfold rowsM
    split
    · rename_i h0; omega
    · rw [List.length_take]; omega
  simp -dsimp -implicitDefEqProofs [c0, c1, c2, hhu]
  refine LoopCR.on 101 (fun i => [(1, I (m : Nat)), (2, .ptr 0 0), (4, .ptr 1 0), (5, .ptr 2 0), (6, I (i : Nat))]) (fun i => [some (smC x), some [I 0, .val (.slice none 0 0)], some [I a, growN 3 5 i], grown i (rws fSecT ((l.map secOf).take i))]) (fun i => i ≤ l.length) (fun i => l.length - i) 0 [0, 1, 2, 99] (by simp) ?_ ?_
  · simp -dsimp -implicitDefEqProofs
  intro i j hi
  have w1 : IntKind.i64.wrap ((i : Int) + 1) = (i : Int) + 1 := wrap_in (by omega) (by omega)
  refine (Classical.em (i = l.length)).elim (fun hin => ?_) (fun hne => ?_)
  · have n0 : ((i : Int) == 0) = false := by simp; omega
    have hlm : (l.map secOf).length = l.length := by simp
    refine (Classical.em (i < x.rows.length)).elim (fun h1 => ?_) (fun h1 => ?_)
    · have d1 : decide ((i : Int) < (x.rows.length : Int)) = true := decide_eq_true (by omega)
      have d2 : decide ((i : Int) < (m : Int)) = false := decide_eq_false (by omega)
      have d1' : decide (i < x.rows.length) = true := decide_eq_true (by omega)
      have d2' : decide (i < m) = false := decide_eq_false (by omega)
      have ht : (l.map secOf).take i = l.map secOf := List.take_of_length_le (by simp; omega)
      simp -dsimp -implicitDefEqProofs [n0, d1, d1', d2, d2', ht]
      rw [hhu]
      refine frz_agg_two (frz_one rfl) ?_
      exact frz_rwsN (f := fSecT) (l := l.map secOf) (by simp [mkH]) (Nat.zero_le _) (by simp; omega) (by omega) (fun _ => rfl) (fun _ => rfl)
    · have d1 : decide ((i : Int) < (x.rows.length : Int)) = false := decide_eq_false (by omega)
      have d1' : decide (i < x.rows.length) = false := decide_eq_false (by omega)
      have d2 := d1
      have d2' := d1'
      have ht : (l.map secOf).take i = l.map secOf := List.take_of_length_le (by simp; omega)
      simp -dsimp -implicitDefEqProofs [n0, d1, d1', d2, d2', ht]
      rw [hhu]
      refine frz_agg_two (frz_one rfl) ?_
      exact frz_rwsN (f := fSecT) (l := l.map secOf) (by simp [mkH]) (Nat.zero_le _) (by simp; omega) (by omega) (fun _ => rfl) (fun _ => rfl)
  have hlt : i < l.length := by omega
  have hat := hatI i hlt
  refine Exists.elim (show ∃ r, l[i]? = some r from ⟨_, List.getElem?_eq_getElem hlt⟩) fun r hr => ?_
  have hok := hokl r (List.mem_of_getElem? hr)
  have k0 := hok.h0
  have k1 := hok.h1
  have k2 := hok.h2
  have k3 := hok.h3
  have k4 := hok.h4
  have hst : (l.map secOf).take (i + 1) = (l.map secOf).take i ++ [secOf r] := by rw [List.take_add_one, List.getElem?_map, hr]; rfl
  have e0 : IntKind.i64.wrap r.v0 = r.v0 := wrap_in (by omega) (by omega)
  have e1 : IntKind.i64.wrap r.v1 = r.v1 := wrap_in (by omega) (by omega)
  have e2 : IntKind.i64.wrap r.v2 = r.v2 := wrap_in (by omega) (by omega)
  have e3 : IntKind.i64.wrap r.v3 = r.v3 := wrap_in (by omega) (by omega)
  have e4 : IntKind.i64.wrap r.v4 = r.v4 := wrap_in (by omega) (by omega)
  have m0 := tm (n := 20) k0.1
  have m1 := tm (n := 100) k1.1
  have m2 := tm (n := 6) k2.1
  have m3 := tm (n := 60) k3.1
  have m4 := tm (n := 11) k4.1
  have f1 : IntKind.i64.wrap (40 + r.v1 % 100) = 40 + r.v1 % 100 := wrap_in (by omega) (by omega)
  have f2 : IntKind.i64.wrap (60 + r.v2) = 60 + r.v2 := wrap_in (by omega) (by omega)
  have f3 : IntKind.i64.wrap (10 + r.v0 % 20) = 10 + r.v0 % 20 := wrap_in (by omega) (by omega)
  have f4 : IntKind.i64.wrap (1 + r.v4) = 1 + r.v4 := wrap_in (by omega) (by omega)
  have f5 : IntKind.i64.wrap (40 + r.v1 % 100 + 50) = 40 + r.v1 % 100 + 50 := wrap_in (by omega) (by omega)
  have f6 : IntKind.i64.wrap (40 + r.v1 % 100 + 50 + r.v0) = 40 + r.v1 % 100 + 50 + r.v0 := wrap_in (by omega) (by omega)
  have f7 : IntKind.i64.wrap (60 + r.v2 + 200) = 60 + r.v2 + 200 := wrap_in (by omega) (by omega)
  have f8 : IntKind.i64.wrap (2 * r.v1) = 2 * r.v1 := wrap_in (by omega) (by omega)
  have f9 : IntKind.i64.wrap (60 + r.v2 + 200 + 2 * r.v1) = 60 + r.v2 + 200 + 2 * r.v1 := wrap_in (by omega) (by omega)
  have g1 : IntKind.i64.wrap (r.v3 % 60) = r.v3 % 60 := wrap_in (by omega) (by omega)
  have g2 : IntKind.i64.wrap (r.v4 % 11) = r.v4 % 11 := wrap_in (by omega) (by omega)
  have g3 : IntKind.i64.wrap (r.v2 % 6) = r.v2 % 6 := wrap_in (by omega) (by omega)
  refine (Classical.em (i < x.rows.length)).elim (fun hc => ?_) (fun hc => ?_)
  · have hrow : x.rows[i]? = some r := by rw [hat.1 hc, hr]
    have d1 : decide ((i : Int) < (x.rows.length : Int)) = true := decide_eq_true (by omega)
    have d1' : decide (i < x.rows.length) = true := decide_eq_true (by omega)
    refine (Classical.em (i = 0)).elim (fun h0 => ?_) (fun h0 => ?_)
    · have n0 : ((i : Int) == 0) = true := by simp; omega
      have d2 := d1
      have d2' := d1'
      simp -dsimp -implicitDefEqProofs [n0, d1, d1', d2, d2', hrow]
      refine DrawR.on {} (by kernel_rfl) (by simp) ?_
      simp -dsimp -implicitDefEqProofs [e0, e1, e2, e3, e4, m0, m1, m2, m3, m4, f1, f2, f3, f4, f5, f6, f7, f8, f9, g1, g2, g3]
      refine on_appendN fSecT ((l.map secOf).take i) (secOf r) (by simp) (by rw [List.length_take]; simp; omega) (show (i + 1) * 72 ≤ 70368744177664 by omega) (by omega) rfl rfl (by simp) rfl (fun _ => rfl) ?_ (by simp)
      simp -dsimp -implicitDefEqProofs [w1]
      refine again_in (i + 1) [0, 1, 2, 16] (by omega) (by omega) ?_
      simp -dsimp -implicitDefEqProofs [hst]
    · have n0 : ((i : Int) == 0) = false := by simp; omega
      have hm3 : i < m := by rcases hat.2.2 with h | h <;> omega
      have d2 : decide ((i : Int) < (m : Int)) = true := decide_eq_true (by omega)
      have d2' : decide (i < m) = true := decide_eq_true (by omega)
      simp -dsimp -implicitDefEqProofs [n0, d1, d1', d2, d2', hrow]
      refine DrawR.on {} (by kernel_rfl) (by simp) ?_
      simp -dsimp -implicitDefEqProofs [e0, e1, e2, e3, e4, m0, m1, m2, m3, m4, f1, f2, f3, f4, f5, f6, f7, f8, f9, g1, g2, g3]
      refine on_appendN fSecT ((l.map secOf).take i) (secOf r) (by simp) (by rw [List.length_take]; simp; omega) (show (i + 1) * 72 ≤ 70368744177664 by omega) (by omega) rfl rfl (by simp) rfl (fun _ => rfl) ?_ (by simp)
      simp -dsimp -implicitDefEqProofs [w1]
      refine again_in (i + 1) [0, 1, 2, 16] (by omega) (by omega) ?_
      simp -dsimp -implicitDefEqProofs [hst]
  · have hz : r = R5.zero := by have := hat.2.1 hc; rw [hr] at this; exact Option.some.inj this
    have h0 : i = 0 := by rcases hat.2.2 with h | h <;> omega
    have d1 : decide ((i : Int) < (x.rows.length : Int)) = false := decide_eq_false (by omega)
    have d1' : decide (i < x.rows.length) = false := decide_eq_false (by omega)
    have n0 : ((i : Int) == 0) = true := by simp; omega
    have d2 := d1
    have d2' := d1'
    have hrow := d1
    have zz : ∀ v : Int, v = 0 → (I v : AV) = I 0 := fun v h => by rw [h]
    simp -dsimp -implicitDefEqProofs [n0, d1, d1', d2, d2', hrow]
    refine DrawR.on {} (by kernel_rfl) (by simp) ?_
    simp -dsimp -implicitDefEqProofs [e0, e1, e2, e3, e4, m0, m1, m2, m3, m4, f1, f2, f3, f4, f5, f6, f7, f8, f9, g1, g2, g3]
    refine on_appendN fSecT ((l.map secOf).take i) (secOf r) (by simp) (by rw [List.length_take]; simp; omega) (show (i + 1) * 72 ≤ 70368744177664 by omega) (by omega) (by rw [hz]; rfl) rfl (by simp) rfl (fun _ => rfl) ?_ (by simp)
    simp -dsimp -implicitDefEqProofs [w1]
    refine again_in (i + 1) [0, 1, 2, 16] (by omega) (by omega) ?_
    simp -dsimp -implicitDefEqProofs [hst]
end Go.Pe

/- Hulls, loads and densities by small numbers are valid. -/
namespace Go.Pe
open Go Go.Proofs Go.Proofs.YtffckclggkjbgaaGreat
set_option maxRecDepth 20000
set_option maxHeartbeats 8000000
theorem secOf_ok {r : R5} (h : r.Ok) : secOk (secOf r) = true := by
  have h0 := h.h0
  have h1 := h.h1
  have h2 := h.h2
  have h3 := h.h3
  have h4 := h.h4
  have hc : hullCv (secOf r).ps = true := by
    refine hullCv_iff.2 ⟨by simp [secOf, inB], ⟨⟨0, 0⟩, rfl, rfl, rfl⟩, fun k p q hk hp hq => ?_, ⟨_, rfl, ?_, ?_⟩⟩
    · have hk2 : k < 2 := by simpa [secOf] using hk
      match k, hk2, hp, hq with
      | 0, _, hp, hq => simp [secOf] at hp hq; subst hp; subst hq; simp only; omega
      | 1, _, hp, hq => simp [secOf] at hp hq; subst hp; subst hq; simp only; omega
    · simp only; omega
    · simp only; omega
  have a1 : inB 1 100 (secOf r).a = true := inB_iff.2 (by simp only [secOf]; omega)
  have a2 : inB 0 10000 (secOf r).b = true := inB_iff.2 (by simp only [secOf]; omega)
  have a3 : inB 1 100000 (secOf r).c = true := inB_iff.2 (by simp only [secOf]; omega)
  have a4 : (secOf r).qs.all (holdOk (secOf r).a) = true := by
    simp only [secOf, List.all_cons, List.all_nil, Bool.and_true, holdOk, Bool.and_eq_true]
    exact ⟨inB_iff.2 (by omega), inB_iff.2 (by omega)⟩
  unfold secOk
  rw [hc, a1, a2, a3, a4]; rfl
theorem huM_ok {x : Sm} {m : Nat} (hx : x.Ok) (hm : 1 ≤ m) (hm2 : m ≤ 4) : hullOk (huM x m) = true := by
  have hL := rowsM_len (x := x) hm
  have hr := rowsM_ok (m := m) hx
  have hlot := hx.lot
  have hn : (huM x m).ss.length = (rowsM x m).length := by simp [huM]
  have hmem : ∀ s ∈ (huM x m).ss, ∃ r, r.Ok ∧ s = secOf r := fun s hs => by
    obtain ⟨r, h1, h2⟩ := List.mem_map.1 hs
    exact ⟨r, hr r h1, h2.symm⟩
  have h1 := sumI_inm (f := Sec.a) (m := 29) (l := (huM x m).ss) (fun s hs => by
    obtain ⟨r, hok, rfl⟩ := hmem s hs
    have := hok.h0
    simp only [secOf]; omega) _ (Nat.le_refl _)
  have h2 := sumI_inm (f := fun s => (s.qs.length : Int)) (m := 1) (l := (huM x m).ss) (fun s hs => by
    obtain ⟨r, hok, rfl⟩ := hmem s hs
    simp [secOf]) _ (Nat.le_refl _)
  simp only [hullOk, Bool.and_eq_true, decide_eq_true_eq]
  refine ⟨inB_iff.2 ?_, inB_iff.2 (by omega), List.all_eq_true.2 fun s hs => ?_, by omega, by omega⟩
  · simp only [huM]; omega
  · obtain ⟨r, hok, rfl⟩ := hmem s hs
    exact secOf_ok hok
theorem huM_small {x : Sm} {m : Nat} (hm : 1 ≤ m) (hm2 : m ≤ 10) : SmallU (huM x m) := by
  have hL := rowsM_len (x := x) hm
  refine ⟨by simp [huM]; omega, fun s hs => ?_⟩
  obtain ⟨r, h1, rfl⟩ := List.mem_map.1 hs
  simp [secOf]
/-- Holds, one in each section. -/
theorem hsI_one {l : List Sec} (h1 : ∀ s ∈ l, s.qs.length = 1) : ∀ i, i ≤ l.length → (hsI l i).length = i ∧ ∀ (k : Nat) (s : Sec) (q : Pt), k < i → l[k]? = some s → s.qs = [q] → (hsI l i)[k]? = some (moved (sumI Sec.a l k) q)
  | 0, _ => ⟨by simp [hsI], fun k s q hk => by omega⟩
  | i + 1, hi => by
    have hx := List.getElem?_eq_getElem (show i < l.length by omega)
    have hq := h1 _ (List.getElem_mem (show i < l.length by omega))
    obtain ⟨g1, g2⟩ := hsI_one h1 i (by omega)
    rw [hsI_succ hx]
    refine ⟨by simp [g1, hq], fun k s q hk hs hsq => ?_⟩
    by_cases hki : k = i
    · subst hki
      rw [hx] at hs; cases hs
      rw [List.getElem?_append_right (by omega), g1, Nat.sub_self, hsq]; rfl
    · rw [List.getElem?_append_left (by omega)]
      exact g2 k s q (by omega) hs hsq
def Sm.lv (x : Sm) (i : Nat) : Int := if i = 0 then x.l0 else if i = 1 then x.l1 else if i = 2 then x.l2 else x.l3
theorem Sm.lv_in {x : Sm} (h : x.Ok) (i : Nat) : 0 ≤ x.lv i ∧ x.lv i ≤ 255 := by
  unfold Sm.lv
  split; · exact h.l0
  split; · exact h.l1
  split; · exact h.l2
  exact h.l3
def ldM (x : Sm) (m : Nat) : List Int := (rowsM x m).mapIdx fun i r => x.lv i % (r.v2 % 6 + 1)
theorem ldM_len {x : Sm} {m : Nat} : (ldM x m).length = (rowsM x m).length := by simp [ldM]
theorem ldM_at {x : Sm} {m i : Nat} {r : R5} (h : (rowsM x m)[i]? = some r) : (ldM x m)[i]? = some (x.lv i % (r.v2 % 6 + 1)) := by unfold ldM; rw [List.getElem?_mapIdx, h]; rfl
theorem ldM_ok {x : Sm} {m : Nat} (hx : x.Ok) (hm : 1 ≤ m) (hm2 : m ≤ 4) : OkL (huM x m) (ldM x m) := by
  have h1 : ∀ s ∈ (huM x m).ss, s.qs.length = 1 := fun s hs => by
    obtain ⟨r, _, rfl⟩ := List.mem_map.1 hs
    simp [secOf]
  have hn : (huM x m).ss.length = (rowsM x m).length := by simp [huM]
  obtain ⟨g1, g2⟩ := hsI_one h1 _ (Nat.le_refl _)
  refine ⟨by rw [ldM_len, hsU, g1, hn], fun i n p hi hp => ?_⟩
  have hil := (List.getElem?_eq_some_iff.1 hi).1
  rw [ldM_len] at hil
  have hr := List.getElem?_eq_getElem hil
  have hok := rowsM_ok (m := m) hx _ (List.getElem_mem hil)
  have hs : (huM x m).ss[i]? = some (secOf (rowsM x m)[i]) := by simp only [huM, List.getElem?_map, hr, Option.map_some]
  have h3 := g2 i _ _ (by omega) hs rfl
  rw [hsU] at hp
  rw [h3] at hp
  rw [ldM_at hr] at hi
  cases hi; cases hp
  have hv := x.lv_in hx i
  have h2 := hok.h2
  simp only [moved]
  have a1 := Int.emod_nonneg (x.lv i) (show (rowsM x m)[i].v2 % 6 + 1 ≠ 0 by omega)
  have a2 := Int.emod_lt_of_pos (x.lv i) (show 0 < (rowsM x m)[i].v2 % 6 + 1 by omega)
  omega
def dens (x : Sm) : Bd := ⟨900 + min x.d0 x.d1 % 130, 900 + min x.d0 x.d1 % 130 + max x.d0 x.d1 % 50⟩
theorem dens_ok {x : Sm} (hx : x.Ok) : vB 900 1100 (dens x) = true := by
  have h0 := hx.d0
  have h1 := hx.d1
  refine vB_iff.2 ?_
  simp only [dens]
  omega
attribute [local simp] t3 u3 t4 u4 t27 u27
attribute [local simp] ts5 us5 ts22 us22 ts24 us24 ts72 us72 ts118 us118 ts120 us120 ts25 us25 ts75 us75 ts150 us150 ts94 us94 ts95 us95 ts96 us96 ts98 us98 ts172 us172
attribute [local simp] convA extA lenA ixar fSec_eq fPt_eq smC_eq
theorem density_small {x : Sm} {h : H} (hx : x.Ok) : Fn Tryz.prog 47 [.agg (smC x)] h (.agg [I (dens x).lo, I (dens x).hi]) h := by
  refine Fn.beside ?_ rfl h
  refine Fn.ofR0 noM (by kernel_rfl) Tryz.func47 rfl (by simp) ?_
  have h0 := hx.d0
  have h1 := hx.d1
  have c1 : IntKind.i64.wrap (min x.d0 x.d1) = min x.d0 x.d1 := wrap_in (by omega) (by omega)
  have c2 : IntKind.i64.wrap (max x.d0 x.d1) = max x.d0 x.d1 := wrap_in (by omega) (by omega)
  have m1 := tm (v := min x.d0 x.d1) (n := 130) (by omega)
  have m2 := tm (v := max x.d0 x.d1) (n := 50) (by omega)
  have w1 : IntKind.i64.wrap (900 + min x.d0 x.d1 % 130) = 900 + min x.d0 x.d1 % 130 := wrap_in (by omega) (by omega)
  have w2 : IntKind.i64.wrap (900 + min x.d0 x.d1 % 130 + max x.d0 x.d1 % 50) = 900 + min x.d0 x.d1 % 130 + max x.d0 x.d1 % 50 := wrap_in (by omega) (by omega)
  simp -dsimp -implicitDefEqProofs [c1, c2, m1, m2, w1, w2, dens]
theorem load_small {x : Sm} {m : Nat} {h : H} (hx : x.Ok) (hm : 1 ≤ m) (hm2 : m ≤ 4) : Fn Tryz.prog 46 [.agg (smC x), .agg [I (huM x m).a, .ro false 5 ((huM x m).ss.map fSec)]] h (loadAV false (ldM x m)) h := by
  refine Fn.beside ?_ rfl h
  refine Fn.ofR0 (butM []) (by kernel_rfl) Tryz.func46 rfl (by simp) ?_
  have hL := rowsM_len (x := x) hm
  refine Exists.elim (show ∃ D, D = ldM x m from ⟨_, rfl⟩) fun D hD => ?_
  have hDl : D.length = (rowsM x m).length := by rw [hD]; exact ldM_len
  refine Exists.elim (show ∃ u : Hu, u = huM x m from ⟨_, rfl⟩) fun u hu => ?_
  have hun : u.ss.length = (rowsM x m).length := by rw [hu]; simp [huM]
  rw [← hD, ← hu]
  simp -dsimp -implicitDefEqProofs [loadAV]
  refine LoopCR.on 36 (fun i => [(2, .ptr 0 0), (3, .ptr 1 0), (5, grow 2 1 i), (6, I (i : Nat))]) (fun i => [some (smC x), some [I u.a, .ro false 5 (u.ss.map fSec)], grown i (rws (fun n => [I n]) (D.take i))]) (fun i => i ≤ u.ss.length) (fun i => u.ss.length - i) 0 [0, 1, 99] (by simp) ?_ ?_
  · simp -dsimp -implicitDefEqProofs
  intro i j hi
  simp -dsimp -implicitDefEqProofs
  refine ifD_in (fun hlt => ?_) (fun hge => ?_)
  · have hir : i < (rowsM x m).length := by omega
    refine Exists.elim (show ∃ r, (rowsM x m)[i]? = some r from ⟨_, List.getElem?_eq_getElem hir⟩) fun r hr => ?_
    have hok := rowsM_ok hx r (List.mem_of_getElem? hr)
    have h2 := hok.h2
    have hs : u.ss[i]? = some (secOf r) := by rw [hu]; simp only [huM, List.getElem?_map, hr, Option.map_some]
    have hv := x.lv_in hx i
    have hd : D[i]? = some (x.lv i % (r.v2 % 6 + 1)) := by rw [hD]; exact ldM_at hr
    have hst : D.take (i + 1) = D.take i ++ [x.lv i % (r.v2 % 6 + 1)] := by rw [List.take_add_one, hd]; rfl
    have w1 : IntKind.i64.wrap ((i : Int) + 1) = (i : Int) + 1 := wrap_in (by omega) (by omega)
    have k1 : (i : Int).tmod 4 = (i : Int) := by rw [tm (by omega)]; omega
    have hi8 : 2 + i + 1 ≤ 8 := by omega
    have hi4 : (i : Int) < 4 := by omega
    have hi4' : i < 4 := by omega
    have hcell : List.take 1 (List.drop (2 + i) [U x.lot, .ro false 5 (x.rows.map fR5), U x.l0, U x.l1, U x.l2, U x.l3, U x.d0, U x.d1]) = [U (x.lv i)] := by
      match i, hi4' with
      | 0, _ => rfl
      | 1, _ => rfl
      | 2, _ => rfl
      | 3, _ => rfl
    have c1 : IntKind.i64.wrap (x.lv i) = x.lv i := wrap_in (by omega) (by omega)
    have c2 : IntKind.i64.wrap (r.v2 % 6 + 1) = r.v2 % 6 + 1 := wrap_in (by omega) (by omega)
    have c3 := tm (v := x.lv i) (n := r.v2 % 6 + 1) hv.1
    have hn0 : (r.v2 % 6 + 1 = 0) = False := eq_false (by omega)
    have hq : (secOf r).qs = [⟨r.v4 % 11, r.v2 % 6⟩] := rfl
    simp -dsimp -implicitDefEqProofs
    refine DrawR.on { M := [2], eff := [(19, [2])] } (by kernel_rfl) (by simp) ?_
    simp -dsimp -implicitDefEqProofs [k1, hi8, hi4, hi4', hcell, hs, hq, c1, c2, c3, hn0, -storeA]
    refine on_append (fun n : Int => [I n]) (D.take i) (x.lv i % (r.v2 % 6 + 1)) (by simp) (by rw [List.length_take]; omega) (show (i + 1) * 8 ≤ 70368744177664 by omega) (by omega) rfl rfl (by simp) rfl (fun _ => rfl) ?_ rfl
    simp -dsimp -implicitDefEqProofs [w1]
    refine again_in (i + 1) [0, 1, 22] (by omega) (by omega) ?_
    simp -dsimp -implicitDefEqProofs [hst]
  · have hin : i = D.length := by omega
    have ht : D.take D.length = D := List.take_length
    simp -dsimp -implicitDefEqProofs [hin, ht]
    have := frz_rws (f := fun n : Int => [I n]) (l := D) (n := D.length) (b := 2) (k := 1) (N := 0) (h := mkH [some (smC x), some [I u.a, .ro false 5 (u.ss.map fSec)], grown D.length (rws (fun n => [I n]) D)]) (by simp [mkH]) (Nat.zero_le _) rfl (fun _ => rfl) (fun _ => rfl)
    have e : isz D.length = false := by unfold isz; rw [decide_eq_false_iff_not]; omega
    rw [e] at this
    simpa [smC_eq, loadAV_eq] using this
end Go.Pe
