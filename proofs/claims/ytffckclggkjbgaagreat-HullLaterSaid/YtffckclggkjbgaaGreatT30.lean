import Derived.Test.YtffckclggkjbgaaGreatT09
import Derived.Test.YtffckclggkjbgaaGreatRows
import Derived.Test.YtffckclggkjbgaaGreatT21
import Derived.Test.YtffckclggkjbgaaGreatT17
import Derived.Test.YtffckclggkjbgaaGreatT26
set_option linter.unusedVariables false
set_option linter.unusedSimpArgs false
/- What the types of the program are. -/
namespace Go.Pe
open Go Go.Proofs Go.Proofs.YtffckclggkjbgaaGreat
theorem tsi94 : ti Tryz.prog 94 = some { kind := TK.sl 172, size := 1, zero := [Value.slice none 0 0], agg := false, bytes := 24, fok := true, cmp := true } := by kernel_rfl
theorem ts94 {f : TI → Option AV} : tyInt Tryz.prog 94 f = f { kind := TK.sl 172, size := 1, zero := [Value.slice none 0 0], agg := false, bytes := 24, fok := true, cmp := true } := tyInt_of tsi94
theorem us94 {f : TI → Option (AV × H)} : tyInt2 Tryz.prog 94 f = f { kind := TK.sl 172, size := 1, zero := [Value.slice none 0 0], agg := false, bytes := 24, fok := true, cmp := true } := tyInt2_of tsi94
theorem tsi113 : ti Tryz.prog 113 = some { kind := TK.ar 2 3, size := 2, zero := [Value.int IntKind.i64 0, Value.int IntKind.i64 0], agg := true, bytes := 16, fok := true, cmp := true } := by kernel_rfl
theorem ts113 {f : TI → Option AV} : tyInt Tryz.prog 113 f = f { kind := TK.ar 2 3, size := 2, zero := [Value.int IntKind.i64 0, Value.int IntKind.i64 0], agg := true, bytes := 16, fok := true, cmp := true } := tyInt_of tsi113
theorem us113 {f : TI → Option (AV × H)} : tyInt2 Tryz.prog 113 f = f { kind := TK.ar 2 3, size := 2, zero := [Value.int IntKind.i64 0, Value.int IntKind.i64 0], agg := true, bytes := 16, fok := true, cmp := true } := tyInt2_of tsi113
theorem tsi128 : ti Tryz.prog 128 = some { kind := TK.ar 6 5, size := 6, zero := [Value.int IntKind.u8 0, Value.int IntKind.u8 0, Value.int IntKind.u8 0, Value.int IntKind.u8 0, Value.int IntKind.u8 0, Value.int IntKind.u8 0], agg := true, bytes := 6, fok := true, cmp := true } := by kernel_rfl
theorem ts128 {f : TI → Option AV} : tyInt Tryz.prog 128 f = f { kind := TK.ar 6 5, size := 6, zero := [Value.int IntKind.u8 0, Value.int IntKind.u8 0, Value.int IntKind.u8 0, Value.int IntKind.u8 0, Value.int IntKind.u8 0, Value.int IntKind.u8 0], agg := true, bytes := 6, fok := true, cmp := true } := tyInt_of tsi128
theorem us128 {f : TI → Option (AV × H)} : tyInt2 Tryz.prog 128 f = f { kind := TK.ar 6 5, size := 6, zero := [Value.int IntKind.u8 0, Value.int IntKind.u8 0, Value.int IntKind.u8 0, Value.int IntKind.u8 0, Value.int IntKind.u8 0, Value.int IntKind.u8 0], agg := true, bytes := 6, fok := true, cmp := true } := tyInt2_of tsi128
theorem tsi130 : ti Tryz.prog 130 = some { kind := TK.st [(0, 6, 128), (6, 2, 96)], size := 8, zero := [Value.int IntKind.u8 0, Value.int IntKind.u8 0, Value.int IntKind.u8 0, Value.int IntKind.u8 0, Value.int IntKind.u8 0, Value.int IntKind.u8 0, Value.int IntKind.u8 0, Value.int IntKind.u8 0], agg := true, bytes := 8, fok := true, cmp := true } := by kernel_rfl
theorem ts130 {f : TI → Option AV} : tyInt Tryz.prog 130 f = f { kind := TK.st [(0, 6, 128), (6, 2, 96)], size := 8, zero := [Value.int IntKind.u8 0, Value.int IntKind.u8 0, Value.int IntKind.u8 0, Value.int IntKind.u8 0, Value.int IntKind.u8 0, Value.int IntKind.u8 0, Value.int IntKind.u8 0, Value.int IntKind.u8 0], agg := true, bytes := 8, fok := true, cmp := true } := tyInt_of tsi130
theorem us130 {f : TI → Option (AV × H)} : tyInt2 Tryz.prog 130 f = f { kind := TK.st [(0, 6, 128), (6, 2, 96)], size := 8, zero := [Value.int IntKind.u8 0, Value.int IntKind.u8 0, Value.int IntKind.u8 0, Value.int IntKind.u8 0, Value.int IntKind.u8 0, Value.int IntKind.u8 0, Value.int IntKind.u8 0, Value.int IntKind.u8 0], agg := true, bytes := 8, fok := true, cmp := true } := tyInt2_of tsi130
theorem tsi132 : ti Tryz.prog 132 = some { kind := TK.st [(0, 4, 95), (4, 4, 95), (8, 4, 95), (12, 4, 95), (16, 1, 99)], size := 17, zero := [Value.int IntKind.u8 0, Value.int IntKind.u8 0, Value.int IntKind.u8 0, Value.int IntKind.u8 0, Value.int IntKind.u8 0, Value.int IntKind.u8 0, Value.int IntKind.u8 0, Value.int IntKind.u8 0, Value.int IntKind.u8 0, Value.int IntKind.u8 0, Value.int IntKind.u8 0, Value.int IntKind.u8 0, Value.int IntKind.u8 0, Value.int IntKind.u8 0, Value.int IntKind.u8 0, Value.int IntKind.u8 0, Value.slice none 0 0], agg := true, bytes := 40, fok := true, cmp := true } := by kernel_rfl
theorem ts132 {f : TI → Option AV} : tyInt Tryz.prog 132 f = f { kind := TK.st [(0, 4, 95), (4, 4, 95), (8, 4, 95), (12, 4, 95), (16, 1, 99)], size := 17, zero := [Value.int IntKind.u8 0, Value.int IntKind.u8 0, Value.int IntKind.u8 0, Value.int IntKind.u8 0, Value.int IntKind.u8 0, Value.int IntKind.u8 0, Value.int IntKind.u8 0, Value.int IntKind.u8 0, Value.int IntKind.u8 0, Value.int IntKind.u8 0, Value.int IntKind.u8 0, Value.int IntKind.u8 0, Value.int IntKind.u8 0, Value.int IntKind.u8 0, Value.int IntKind.u8 0, Value.int IntKind.u8 0, Value.slice none 0 0], agg := true, bytes := 40, fok := true, cmp := true } := tyInt_of tsi132
theorem us132 {f : TI → Option (AV × H)} : tyInt2 Tryz.prog 132 f = f { kind := TK.st [(0, 4, 95), (4, 4, 95), (8, 4, 95), (12, 4, 95), (16, 1, 99)], size := 17, zero := [Value.int IntKind.u8 0, Value.int IntKind.u8 0, Value.int IntKind.u8 0, Value.int IntKind.u8 0, Value.int IntKind.u8 0, Value.int IntKind.u8 0, Value.int IntKind.u8 0, Value.int IntKind.u8 0, Value.int IntKind.u8 0, Value.int IntKind.u8 0, Value.int IntKind.u8 0, Value.int IntKind.u8 0, Value.int IntKind.u8 0, Value.int IntKind.u8 0, Value.int IntKind.u8 0, Value.int IntKind.u8 0, Value.slice none 0 0], agg := true, bytes := 40, fok := true, cmp := true } := tyInt2_of tsi132
theorem tsi172 : ti Tryz.prog 172 = some { kind := TK.ar 5 5, size := 5, zero := [Value.int IntKind.u8 0, Value.int IntKind.u8 0, Value.int IntKind.u8 0, Value.int IntKind.u8 0, Value.int IntKind.u8 0], agg := true, bytes := 5, fok := true, cmp := true } := by kernel_rfl
theorem ts172 {f : TI → Option AV} : tyInt Tryz.prog 172 f = f { kind := TK.ar 5 5, size := 5, zero := [Value.int IntKind.u8 0, Value.int IntKind.u8 0, Value.int IntKind.u8 0, Value.int IntKind.u8 0, Value.int IntKind.u8 0], agg := true, bytes := 5, fok := true, cmp := true } := tyInt_of tsi172
theorem us172 {f : TI → Option (AV × H)} : tyInt2 Tryz.prog 172 f = f { kind := TK.ar 5 5, size := 5, zero := [Value.int IntKind.u8 0, Value.int IntKind.u8 0, Value.int IntKind.u8 0, Value.int IntKind.u8 0, Value.int IntKind.u8 0], agg := true, bytes := 5, fok := true, cmp := true } := tyInt2_of tsi172
end Go.Pe

/- The law HullLives. -/
namespace Go.Pe
open Go Go.Proofs Go.Proofs.YtffckclggkjbgaaGreat
attribute [local simp] t3 u3 t4 u4 t5 u5 t22 u22 t23 u23 t25 u25 t27 u27 t28 u28 t30 u30 t32 u32 t37 u37 t43 u43 t50 u50 t75 u75 t77 u77 t94 u94 t102 u102 t117 u117 t119 u119 t130 u130 t134 u134 t138 u138 t155 u155 t156 u156 t172 u172
attribute [local simp] tz22 uz22 tz26 uz26 tz29 uz29 tz30 uz30 tz68 uz68 tz69 uz69
attribute [local simp] fP_eq
set_option maxRecDepth 20000
set_option maxHeartbeats 8000000

theorem neq90 {a b c d a' b' c' d' : Int} {k : TK} {s : Nat} {z : List Value} {a1 f : Bool} {by' : Nat} : binX Tryz.prog 90 { kind := k, size := s, zero := z, agg := a1, bytes := by', fok := f, cmp := true } .neq (.agg [I a, I b, I c, I d]) (.agg [I a', I b', I c', I d']) = some (B (!((a == a' && (b == b' && true)) && ((c == c' && (d == d' && true)) && true)))) := by kernel_rfl
theorem eq27 {a b a' b' : Int} {k : TK} {s : Nat} {z : List Value} {a1 f : Bool} {by' : Nat} : binX Tryz.prog 27 { kind := k, size := s, zero := z, agg := a1, bytes := by', fok := f, cmp := true } .eql (.agg [I a, I b]) (.agg [I a', I b']) = some (B (a == a' && (b == b' && true))) := by kernel_rfl
attribute [local simp] neq90 eq27

/-- What the law wants after so many plates. -/
def w0L (l : List Pl) : Int := if l.length = 0 then 4 else if 50 < l.length then 5 else 0
def wL (l : List Pl) (i : Nat) : Int := if w0L l = 0 then (if (l.take i).all okP then 0 else 2) else w0L l
theorem wL_zero {l : List Pl} : wL l 0 = w0L l := by unfold wL; split <;> simp_all
theorem wL_skip {l : List Pl} {i : Nat} (h : wL l i ≠ 0) : wL l (i + 1) = wL l i := by
  unfold wL at h ⊢
  split
  · rename_i h0
    rw [if_pos h0] at h
    split at h
    · exact absurd rfl h
    · rename_i h1
      rw [if_neg h1, if_neg]
      intro h2
      exact h1 (List.all_eq_true.2 fun x hx => (List.all_eq_true.1 h2) x (by
        obtain ⟨j, hj⟩ := List.getElem?_of_mem hx
        rw [List.getElem?_take] at hj
        split at hj
        · exact List.mem_of_getElem? (i := j) (by rw [List.getElem?_take, if_pos (by omega)]; exact hj)
        · cases hj))
  · rfl
theorem wL_next {l : List Pl} {i : Nat} {p : Pl} (hx : l[i]? = some p) (h : wL l i = 0) : wL l (i + 1) = if okP p = true then 0 else 2 := by
  unfold wL at h ⊢
  have h0 : w0L l = 0 := by
    cases Decidable.em (w0L l = 0) with
    | inl h => exact h
    | inr h1 => rw [if_neg h1] at h; exact h
  rw [if_pos h0] at h ⊢
  have hall : (l.take i).all okP = true := by
    cases ha : (l.take i).all okP with
    | true => rfl
    | false => rw [ha] at h; simp at h
  have : (l.take (i + 1)).all okP = okP p := by
    rw [List.take_add_one, List.all_append, hall, hx]; simp
  rw [this]
theorem wL_end {l : List Pl} {least : Int} : lifeE l least = if wL l l.length = 0 ∧ inB 0 100000 least = false then 3 else wL l l.length := by
  unfold lifeE wL w0L
  rw [List.take_length]
  by_cases h1 : l.length = 0
  · simp [h1]
  · by_cases h2 : 50 < l.length
    · simp [h1, h2]
    · cases h3 : l.all okP <;> cases h4 : inB 0 100000 least <;> simp [h1, h2]
theorem hl_law {l : List Pl} {least lo hi k e : Int} {b0 b1 : Bool} (h60 : l.length ≤ 60) (e0 : ((l.length : Int) == 0) = b0) (e1 : decide ((50 : Int) < l.length) = b1) (ew : w0L l = if b1 = true then 5 else if b0 = true then 4 else 0) (he : e = lifeE l least)
    (hLife : Fn Tryz.prog 42 [.ro false 4 (l.map fP), I least] .nil (.tup [.agg [I lo, I hi], I k, I e]) .nil) (hbad : e ≠ 0 → lo = 0 ∧ hi = 0 ∧ k = 0)
    (hok : e = 0 → Fn Tryz.prog 43 [.ro false 4 (l.map fP), I least] .nil (.tup [.agg [I lo, I hi], I k]) .nil) : Fn Tryz.prog 6 [.ro false 4 (l.map fP), I least] .nil (B true) .nil := by
  have d1 : decide ((60 : Int) < (l.length : Int)) = false := decide_eq_false (by omega)
  have hb1 : l.length * 32 ≤ 70368744177664 := by omega
  have hb2 : l.length ≤ 70368744177664 := by omega
  refine Fn.ofR0 noM (by kernel_rfl) Tryz.func6 rfl (by simp) ?_
  simp -dsimp -implicitDefEqProofs [d1, hb1, hb2, appendA, rowsA]
  refine onCall_in (hLife.beside rfl _) ?_
  have step : ∀ {ρ : List AV} {h : H}, True := trivial
  cases b0 <;> cases b1 <;> simp -dsimp -implicitDefEqProofs [extA, e0, e1]
  all_goals
    refine LoopCR.on 145 (fun i => [(0, .ro false 4 (l.map fP)), (1, I least), (5, .ro false 4 (l.map fP)), (6, .ptr 0 0), (7, I k), (8, I e), (9, I (wL l i)), (10, I (i : Nat))]) (fun i => [some [I lo, I hi]]) (fun i => i ≤ l.length) (fun i => l.length - i) 0 [0] (by simp) ?_ ?_
    · simp -dsimp -implicitDefEqProofs [wL_zero, ew]
    intro i j hi'
    simp -dsimp -implicitDefEqProofs
    refine ifD_in (fun hlt => ?_) (fun hge => ?_)
    · have w1 : IntKind.i64.wrap ((i : Int) + 1) = (i : Int) + 1 := wrap_in (by omega) (by omega)
      refine Exists.elim (show ∃ p, l[i]? = some p from ⟨_, List.getElem?_eq_getElem hlt⟩) fun p hx => ?_
      simp -dsimp -implicitDefEqProofs
      refine DrawR.on {} (by kernel_rfl) (by simp) ?_
      simp -dsimp -implicitDefEqProofs [hx]
      refine (Classical.em (wL l i = 0)).elim (fun hw => ?_) (fun hw => ?_)
      · have hn := wL_next hx hw
        have hw' : (wL l i == 0) = true := by simp [hw]
        simp -dsimp -implicitDefEqProofs [hw', w1]
        refine ifD_in (fun hq1 => ?_) (fun hq1 => ?_)
        · have hf : okP p = false := Bool.eq_false_iff.2 fun h => by simp [okP, vB_iff] at h; omega
          simp -dsimp -implicitDefEqProofs [w1]
          refine again_in (i + 1) [0] (by omega) (by omega) ?_
          simp -dsimp -implicitDefEqProofs [hn, hf]
        simp -dsimp -implicitDefEqProofs
        refine ifD_in (fun hq2 => ?_) (fun hq2 => ?_)
        · have hf : okP p = false := Bool.eq_false_iff.2 fun h => by simp [okP, vB_iff] at h; omega
          simp -dsimp -implicitDefEqProofs [w1]
          refine again_in (i + 1) [0] (by omega) (by omega) ?_
          simp -dsimp -implicitDefEqProofs [hn, hf]
        simp -dsimp -implicitDefEqProofs
        refine ifD_in (fun hq3 => ?_) (fun hq3 => ?_)
        · have hf : okP p = false := Bool.eq_false_iff.2 fun h => by simp [okP, vB_iff] at h; omega
          simp -dsimp -implicitDefEqProofs [w1]
          refine again_in (i + 1) [0] (by omega) (by omega) ?_
          simp -dsimp -implicitDefEqProofs [hn, hf]
        simp -dsimp -implicitDefEqProofs
        refine ifD_in (fun hq4 => ?_) (fun hq4 => ?_)
        · have hf : okP p = false := Bool.eq_false_iff.2 fun h => by simp [okP, vB_iff] at h; omega
          simp -dsimp -implicitDefEqProofs [w1]
          refine again_in (i + 1) [0] (by omega) (by omega) ?_
          simp -dsimp -implicitDefEqProofs [hn, hf]
        simp -dsimp -implicitDefEqProofs
        refine ifD_in (fun hq5 => ?_) (fun hq5 => ?_)
        · have hf : okP p = false := Bool.eq_false_iff.2 fun h => by simp [okP, vB_iff] at h; omega
          simp -dsimp -implicitDefEqProofs [w1]
          refine again_in (i + 1) [0] (by omega) (by omega) ?_
          simp -dsimp -implicitDefEqProofs [hn, hf]
        simp -dsimp -implicitDefEqProofs
        refine ifD_in (fun hq6 => ?_) (fun hq6 => ?_)
        · have hf : okP p = false := Bool.eq_false_iff.2 fun h => by simp [okP, vB_iff] at h; omega
          simp -dsimp -implicitDefEqProofs [w1]
          refine again_in (i + 1) [0] (by omega) (by omega) ?_
          simp -dsimp -implicitDefEqProofs [hn, hf]
        have hf : okP p = true := by simp [okP, vB_iff]; omega
        simp -dsimp -implicitDefEqProofs [w1]
        refine again_in (i + 1) [0] (by omega) (by omega) ?_
        simp -dsimp -implicitDefEqProofs [hn, hf, hw]
      · have hn := wL_skip hw
        have hw' : (wL l i == 0) = false := by simp [hw]
        simp -dsimp -implicitDefEqProofs [hw', w1]
        refine again_in (i + 1) [0] (by omega) (by omega) ?_
        simp -dsimp -implicitDefEqProofs [hn]
    · have hin : i = l.length := by omega
      have hend := wL_end (l := l) (least := least)
      rw [← hin, ← he] at hend
      simp -dsimp -implicitDefEqProofs
      refine (Classical.em (wL l i = 0)).elim (fun hw => ?_) (fun hw => ?_)
      · have hw' : (wL l i == 0) = true := by simp [hw]
        simp -dsimp -implicitDefEqProofs [hw', hw]
        refine ifD_in (fun g1 => ?_) (fun g1 => ?_)
        · have hf : e = 3 := by rw [hend, if_pos ⟨hw, by simp [inB]; omega⟩]
          have hz := hbad (by omega)
          simp -dsimp -implicitDefEqProofs [hf, hz.1, hz.2.1, hz.2.2]
          refine onCall_in (known_fn.beside rfl _) ?_
          simp -dsimp -implicitDefEqProofs
        · simp -dsimp -implicitDefEqProofs [hw', hw]
          refine ifD_in (fun g2 => ?_) (fun g2 => ?_)
          · have hf : e = 3 := by rw [hend, if_pos ⟨hw, by simp [inB]; omega⟩]
            have hz := hbad (by omega)
            simp -dsimp -implicitDefEqProofs [hf, hz.1, hz.2.1, hz.2.2]
            refine onCall_in (known_fn.beside rfl _) ?_
            simp -dsimp -implicitDefEqProofs
          · have hf : e = 0 := by rw [hend, if_neg (fun h => by have := h.2; simp [inB] at this; omega), hw]
            simp -dsimp -implicitDefEqProofs [hf, hw]
            refine onCall_in ((hok hf).beside rfl _) ?_
            simp -dsimp -implicitDefEqProofs [hf, extA]
            refine onCall_in (known_fn.beside rfl _) ?_
            simp -dsimp -implicitDefEqProofs
      · have hw' : (wL l i == 0) = false := by simp [hw]
        have hf : e = wL l i := by rw [hend, if_neg (fun h => hw h.1)]
        have hz := hbad (by omega)
        have hw2 : (wL l i != 0) = true := by simp [hw]
        simp -dsimp -implicitDefEqProofs [hw', hw2, hf, hz.1, hz.2.1, hz.2.2]
        refine onCall_in (known_fn.beside rfl _) ?_
        simp -dsimp -implicitDefEqProofs
end Go.Pe

/- Plates by small numbers, and what is true of their years. -/
namespace Go.Pe
open Go Go.Proofs Go.Proofs.YtffckclggkjbgaaGreat
set_option maxRecDepth 20000

structure Q4 where
  a : Int
  b : Int
  c : Int
  d : Int
noncomputable def fQ (q : Q4) : List AV := [U q.a, U q.b, U q.c, U q.d]
theorem fQ_eq {q : Q4} : fQ q = [U q.a, U q.b, U q.c, U q.d] := rfl
def okQ (q : Q4) : Prop := (0 ≤ q.a ∧ q.a ≤ 255) ∧ (0 ≤ q.b ∧ q.b ≤ 255) ∧ (0 ≤ q.c ∧ q.c ≤ 255) ∧ (0 ≤ q.d ∧ q.d ≤ 255)
def plQ (q : Q4) : Pl := ⟨⟨q.a, q.a + q.b⟩, ⟨q.c.tmod 20, q.c.tmod 20 + q.d.tmod 20⟩⟩
theorem plQ_ok {q : Q4} (h : okQ q) : okP (plQ q) = true := by
  obtain ⟨h1, h2, h3, h4⟩ := h
  have a1 := Int.tmod_nonneg 20 h3.1
  have a2 := Int.tmod_lt_of_pos q.c (show (0 : Int) < 20 by omega)
  have a3 := Int.tmod_nonneg 20 h4.1
  have a4 := Int.tmod_lt_of_pos q.d (show (0 : Int) < 20 by omega)
  simp only [okP, plQ, Bool.and_eq_true, vB_iff]
  omega

/-- The first plate with the least years. -/
theorem lfI_facts {m least : Int} {l : List Pl} : ∀ i, i ≤ l.length →
    (lfI m least l i).lo ≤ m ∧ (lfI m least l i).hi ≤ m ∧ (∀ (j : Nat) (p : Pl), j < i → l[j]? = some p → (lfI m least l i).lo ≤ loP least p ∧ (lfI m least l i).hi ≤ hiP least p) ∧
    (((lfI m least l i).lo = m ∧ (lfI m least l i).k = 0) ∨ ((lfI m least l i).k < i ∧ (∃ p, l[(lfI m least l i).k]? = some p ∧ loP least p = (lfI m least l i).lo) ∧ ∀ (j : Nat) (p : Pl), j < (lfI m least l i).k → l[j]? = some p → (lfI m least l i).lo < loP least p)) ∧
    ((lfI m least l i).hi = m ∨ ∃ (j : Nat) (p : Pl), j < i ∧ l[j]? = some p ∧ hiP least p = (lfI m least l i).hi)
  | 0, _ => by
    rw [lfI_zero]
    exact ⟨Int.le_refl _, Int.le_refl _, fun j p hj => by omega, .inl ⟨rfl, rfl⟩, .inl rfl⟩
  | i + 1, hi => by
    have hx : ∃ p, l[i]? = some p := ⟨_, List.getElem?_eq_getElem (by omega)⟩
    obtain ⟨p, hx⟩ := hx
    obtain ⟨h1, h2, h3, h4, h5⟩ := lfI_facts (m := m) (least := least) (l := l) i (by omega)
    rw [lfI_succ hx]
    generalize lfI m least l i = s at h1 h2 h3 h4 h5
    have hlo : (lfS least i s p).lo = if loP least p < s.lo then loP least p else s.lo := rfl
    have hhi : (lfS least i s p).hi = min s.hi (hiP least p) := rfl
    have hk : (lfS least i s p).k = if loP least p < s.lo then i else s.k := rfl
    rw [hlo, hhi, hk]
    refine ⟨by split <;> omega, by omega, fun j q hj hq => ?_, ?_, ?_⟩
    · by_cases hji : j = i
      · subst hji; rw [hx] at hq; cases hq
        constructor
        · split <;> omega
        · omega
      · have := h3 j q (by omega) hq
        constructor
        · split <;> omega
        · omega
    · by_cases hc : loP least p < s.lo
      · rw [if_pos hc, if_pos hc]
        refine .inr ⟨by omega, ⟨p, hx, rfl⟩, fun j q hj hq => ?_⟩
        have := (h3 j q hj hq).1
        omega
      · rw [if_neg hc, if_neg hc]
        rcases h4 with h4 | ⟨g1, g2, g3⟩
        · exact .inl h4
        · exact .inr ⟨by omega, g2, g3⟩
    · rcases h5 with h5 | ⟨j, q, g1, g2, g3⟩
      · by_cases hc : hiP least p ≤ s.hi
        · exact .inr ⟨i, p, by omega, hx, by omega⟩
        · exact .inl (by omega)
      · by_cases hc : hiP least p ≤ s.hi
        · exact .inr ⟨i, p, by omega, hx, by omega⟩
        · exact .inr ⟨j, q, by omega, g2, by omega⟩

theorem yA_mono {s s' w w' : Int} (hs : s ≤ s') (hw : w' ≤ w) (h0 : 0 ≤ w') : yA s w ≤ yA s' w' := by
  unfold yA
  by_cases h1 : s < 0
  · rw [if_pos h1]
    split
    · omega
    · split
      · omega
      · rename_i a b
        have := Int.ediv_nonneg (a := s') (b := w') (by omega) (by omega)
        omega
  · rw [if_neg h1, if_neg (show ¬ s' < 0 by omega)]
    by_cases h2 : w' = 0
    · rw [if_pos h2]; split <;> omega
    · rw [if_neg h2, if_neg (show ¬ w = 0 by omega)]
      have a : s / w ≤ s' / w := Int.ediv_le_ediv (by omega) hs
      have b : s' / w ≤ s' / w' := by
        refine Int.le_ediv_of_mul_le (by omega) ?_
        have c := Int.mul_le_mul_of_nonneg_left hw (Int.ediv_nonneg (a := s') (b := w) (by omega) (by omega))
        have d := Int.ediv_mul_le s' (b := w) (by omega)
        omega
      omega

/-- Thickness and wear that are looked at: the least years, the most, or some between. -/
def tw (way : Nat) (ps : List Int) (i : Nat) (p : Pl) : Int × Int :=
  if way = 1 then (p.thick.hi, p.wear.lo)
  else if way = 2 ∧ 0 < ps.length then (p.thick.lo + (ps.getD (i % ps.length) 0).tmod (p.thick.hi - p.thick.lo + 1), p.wear.hi - (ps.getD ((i + 1) % ps.length) 0).tmod (p.wear.hi - p.wear.lo + 1))
  else (p.thick.lo, p.wear.hi)
theorem tw_in {way : Nat} {ps : List Int} {i : Nat} {p : Pl} (hp : okP p = true) (hps : ∀ n ∈ ps, 0 ≤ n ∧ n ≤ 255) : p.thick.lo ≤ (tw way ps i p).1 ∧ (tw way ps i p).1 ≤ p.thick.hi ∧ p.wear.lo ≤ (tw way ps i p).2 ∧ (tw way ps i p).2 ≤ p.wear.hi := by
  simp only [okP, Bool.and_eq_true, vB_iff] at hp
  have hg : ∀ k, 0 ≤ ps.getD k 0 := fun k => by
    rw [List.getD_eq_getElem?_getD]
    cases h : ps[k]? with
    | none => simp
    | some n => simp; exact (hps n (List.mem_of_getElem? h)).1
  unfold tw
  split
  · simp only; omega
  · split
    · have a1 := Int.tmod_nonneg (p.thick.hi - p.thick.lo + 1) (hg (i % ps.length))
      have a2 := Int.tmod_lt_of_pos (ps.getD (i % ps.length) 0) (show (0 : Int) < p.thick.hi - p.thick.lo + 1 by omega)
      have a3 := Int.tmod_nonneg (p.wear.hi - p.wear.lo + 1) (hg ((i + 1) % ps.length))
      have a4 := Int.tmod_lt_of_pos (ps.getD ((i + 1) % ps.length) 0) (show (0 : Int) < p.wear.hi - p.wear.lo + 1 by omega)
      simp only; omega
    · simp only; omega
def yT (way : Nat) (least : Int) (ps : List Int) (i : Nat) (p : Pl) : Int := yA ((tw way ps i p).1 - least) (tw way ps i p).2
theorem yT_in {way : Nat} {least : Int} {ps : List Int} {i : Nat} {p : Pl} (hp : okP p = true) (hps : ∀ n ∈ ps, 0 ≤ n ∧ n ≤ 255) : loP least p ≤ yT way least ps i p ∧ yT way least ps i p ≤ hiP least p := by
  obtain ⟨h1, h2, h3, h4⟩ := tw_in (way := way) (i := i) hp hps
  have hp' := hp
  simp only [okP, Bool.and_eq_true, vB_iff] at hp'
  exact ⟨yA_mono (by omega) h4 (by omega), yA_mono (by omega) h3 (by omega)⟩
/-- The years of all plates, up to one of them. -/
def yrs (way : Nat) (least : Int) (ps : List Int) (l : List Pl) : Nat → Int
  | 0 => 1000
  | i + 1 => match l[i]? with
    | some p => min (yrs way least ps l i) (yT way least ps i p)
    | none => yrs way least ps l i
theorem yrs_succ {way : Nat} {least : Int} {ps : List Int} {l : List Pl} {i : Nat} {p : Pl} (h : l[i]? = some p) : yrs way least ps l (i + 1) = min (yrs way least ps l i) (yT way least ps i p) := by simp [yrs, h]
theorem yrs_in {way : Nat} {least : Int} {ps : List Int} {l : List Pl} (hl : ∀ p ∈ l, okP p = true) (hps : ∀ n ∈ ps, 0 ≤ n ∧ n ≤ 255) : ∀ i, i ≤ l.length → (lfI 1000 least l i).lo ≤ yrs way least ps l i ∧ yrs way least ps l i ≤ (lfI 1000 least l i).hi ∧ (way = 0 → yrs way least ps l i = (lfI 1000 least l i).lo) ∧ (way = 1 → yrs way least ps l i = (lfI 1000 least l i).hi)
  | 0, _ => ⟨Int.le_refl _, Int.le_refl _, fun _ => rfl, fun _ => rfl⟩
  | i + 1, hi => by
    have hx : ∃ p, l[i]? = some p := ⟨_, List.getElem?_eq_getElem (by omega)⟩
    obtain ⟨p, hx⟩ := hx
    obtain ⟨h1, h2, h3, h4⟩ := yrs_in (way := way) (least := least) hl hps i (by omega)
    obtain ⟨h5, h6⟩ := yT_in (way := way) (least := least) (i := i) (hl p (List.mem_of_getElem? hx)) hps
    rw [lfI_succ hx, yrs_succ hx]
    have hlo : (lfS least i (lfI 1000 least l i) p).lo = if loP least p < (lfI 1000 least l i).lo then loP least p else (lfI 1000 least l i).lo := rfl
    have hhi : (lfS least i (lfI 1000 least l i) p).hi = min (lfI 1000 least l i).hi (hiP least p) := rfl
    rw [hlo, hhi]
    refine ⟨by split <;> omega, by omega, fun hw => ?_, fun hw => ?_⟩
    · subst hw
      have : yT 0 least ps i p = loP least p := by simp [yT, tw, loP]
      have := h3 rfl
      split <;> omega
    · subst hw
      have : yT 1 least ps i p = hiP least p := by simp [yT, tw, hiP]
      have := h4 rfl
      omega
end Go.Pe

/- The law HullWears. -/
namespace Go.Pe
open Go Go.Proofs Go.Proofs.YtffckclggkjbgaaGreat
attribute [local simp] t3 u3 t4 u4 t5 u5 t22 u22 t23 u23 t25 u25 t27 u27 t28 u28 t30 u30 t32 u32 t37 u37 t43 u43 t50 u50 t75 u75 t77 u77 t94 u94 t102 u102 t117 u117 t119 u119 t130 u130 t134 u134 t138 u138 t155 u155 t156 u156 t172 u172
attribute [local simp] tz22 uz22 tz26 uz26 tz29 uz29 tz30 uz30 tz68 uz68 tz69 uz69 ts95 us95 ts99 us99 eq27
attribute [local simp] fP_eq fQ_eq convA extA
set_option maxRecDepth 20000
set_option maxHeartbeats 8000000

theorem ixar {n s s2 by' by2 : Nat} {z z2 : List Value} {a f c a2 f2 c2 : Bool} {e : TypeId} {k2 : TK} {b o : Nat} {i : Int} (h0 : 0 ≤ i) (h1 : i < n) : indexA { kind := .ar n e, size := s, zero := z, agg := a, bytes := by', fok := f, cmp := c } { kind := k2, size := s2, zero := z2, agg := a2, bytes := by2, fok := f2, cmp := c2 } (.ptr b o) i = some (.ptr b (o + i.toNat * s2)) := by
  unfold indexA
  rw [if_neg (by omega)]
  simp only [h1, if_true]
attribute [local simp] ixar
theorem y_end {T W least : Int} {y : Nat} (hW : 0 ≤ W) (hy : y = 0 ∨ (y ≤ 1001 ∧ ((y : Int) - 1) * W ≤ T - least)) (hy1 : (y : Int) - 1 < 1000) (hy2 : ¬ least ≤ T - y * W) : (y : Int) - 1 = yA (T - least) W := by
  rcases Nat.eq_zero_or_pos y with h0 | h0
  · subst h0
    have h : ((0 : Nat) : Int) * W = 0 := by simp
    have : T - least < 0 := by omega
    unfold yA
    rw [if_pos this]; rfl
  · have e1 : (((y - 1 : Nat) : Nat) : Int) = (y : Int) - 1 := by omega
    rcases hy with h1 | ⟨h1, h2⟩
    · omega
    · have hn0 : 0 ≤ ((y : Int) - 1) * W := Int.mul_nonneg (by omega) hW
      rw [← e1]
      refine (yA_end (by omega) hW (by omega) ?_ ?_).symm
      · rw [e1]; exact h2
      · rw [e1, show (y : Int) - 1 + 1 = y by omega]; omega
theorem y_full {T W least : Int} {y : Nat} (hW : 0 ≤ W) (hy : y = 0 ∨ (y ≤ 1001 ∧ ((y : Int) - 1) * W ≤ T - least)) (hy1 : ¬ (y : Int) - 1 < 1000) : (y : Int) - 1 = yA (T - least) W := by
  have e1 : (((y - 1 : Nat) : Nat) : Int) = (y : Int) - 1 := by omega
  rcases hy with h1 | ⟨h1, h2⟩
  · omega
  · have hn0 : 0 ≤ ((y : Int) - 1) * W := Int.mul_nonneg (by omega) hW
    rw [← e1]
    refine (yA_full (by omega) hW ?_ (by omega)).symm
    rw [e1]; exact h2
theorem loP_max {least : Int} {p : Pl} : loP least p ≤ 1000 := by
  unfold loP yA
  split
  · omega
  · split
    · omega
    · exact Int.min_le_right _ _
theorem first_lo {least : Int} {L : List Pl} {i : Nat} {p : Pl} {S : Lf} (hS : S = lfI 1000 least L L.length) (hx : L[i]? = some p) : (i < S.k → S.lo < loP least p) ∧ (i = S.k → loP least p = S.lo) := by
  have hf := lfI_facts (m := 1000) (least := least) (l := L) L.length (Nat.le_refl _)
  rw [← hS] at hf
  have hi : i < L.length := List.getElem?_eq_some_iff.1 hx |>.1
  rcases hf.2.2.2.1 with ⟨g1, g2⟩ | ⟨g1, ⟨p', g2, g3⟩, g4⟩
  · refine ⟨fun h => by omega, fun h => ?_⟩
    have := (hf.2.2.1 i p hi hx).1
    have := loP_max (least := least) (p := p)
    omega
  · refine ⟨fun h => g4 i p h hx, fun h => ?_⟩
    rw [← h, hx] at g2
    cases g2
    exact g3
theorem lfI_take {m least : Int} {L : List Pl} {n : Nat} : ∀ i, i ≤ n → n ≤ L.length → lfI m least (L.take n) i = lfI m least L i
  | 0, _, _ => by rw [lfI_zero, lfI_zero]
  | i + 1, hi, hn => by
    have hx : ∃ p, L[i]? = some p := ⟨_, List.getElem?_eq_getElem (by omega)⟩
    obtain ⟨p, hx⟩ := hx
    have hx2 : (L.take n)[i]? = some p := by rw [List.getElem?_take_of_lt (by omega)]; exact hx
    rw [lfI_succ hx, lfI_succ hx2, lfI_take i (by omega) hn]
theorem lfI_le {m least : Int} {L : List Pl} {i : Nat} (hi : i < L.length) : (lfI m least L (i + 1)).lo ≤ (lfI m least L i).lo ∧ (lfI m least L (i + 1)).hi ≤ (lfI m least L i).hi := by
  have hx : ∃ p, L[i]? = some p := ⟨_, List.getElem?_eq_getElem hi⟩
  obtain ⟨p, hx⟩ := hx
  rw [lfI_succ hx]
  generalize lfI m least L i = s
  have hlo : (lfS least i s p).lo = if loP least p < s.lo then loP least p else s.lo := rfl
  have hhi : (lfS least i s p).hi = min s.hi (hiP least p) := rfl
  rw [hlo, hhi]
  exact ⟨by split <;> omega, Int.min_le_left _ _⟩
theorem life_take {L : List Pl} {least : Int} {n : Nat} (h0 : 0 < n) (hn : n ≤ L.length) (hL : L.length ≤ 20) (hok : ∀ p ∈ L, okP p = true) (hl : 0 ≤ least ∧ least ≤ 255) :
    Fn Tryz.prog 42 [.ro false 4 ((L.take n).map fP), I least] .nil (.tup [.agg [I (lfI 1000 least L n).lo, I (lfI 1000 least L n).hi], I (lfI 1000 least L n).k, I 0]) .nil := by
  have e1 : (L.take n).length = n := by rw [List.length_take]; omega
  have hall : (L.take n).all okP = true := List.all_eq_true.2 fun p hp => hok p (List.mem_of_mem_take hp)
  have hin : inB 0 100000 least = true := inB_iff.2 (by omega)
  have he : lifeE (L.take n) least = 0 := by
    unfold lifeE
    rw [e1, if_neg (by omega), if_neg (by omega), hall, hin]; rfl
  have := Life_fn (l := L.take n) (least := least) (h := .nil) (fu := false) (by rw [e1]; omega) he
  rw [e1, lfI_take n (Nat.le_refl _) hn] at this
  exact this
/-- The plates that are looked at. -/
def plates (x : List Q4) : List Pl := (x.take 20).map plQ
theorem hw_law {x : List Q4} {least : Int} {ps : List Int} (hx : ∀ q ∈ x, okQ q) (hl : 0 ≤ least ∧ least ≤ 255) (hps : ∀ n ∈ ps, 0 ≤ n ∧ n ≤ 255) (hxl : (x.length : Int) ≤ 9223372036854775807) (hpl : (ps.length : Int) ≤ 9223372036854775807) :
    Fn Tryz.prog 12 [.ro false 4 (x.map fQ), U least, u8s ps] .nil (B true) .nil := by
  have hLok : ∀ p ∈ plates x, okP p = true := fun p hp => by
    obtain ⟨q, hq, rfl⟩ := List.mem_map.1 hp
    exact plQ_ok (hx q (List.mem_of_mem_take hq))
  have hL20 : (plates x).length ≤ 20 := by simp [plates]; omega
  obtain ⟨L, hLd⟩ : ∃ L, L = plates x := ⟨_, rfl⟩
  rw [← hLd] at hLok hL20
  obtain ⟨S, hS⟩ : ∃ S, S = lfI 1000 least L L.length := ⟨_, rfl⟩
  have hLL : (L.length : Int) < 2^62 := by omega
  have hlife : ∀ n, 0 < n → n ≤ L.length → Fn Tryz.prog 42 [.ro false 4 ((L.take n).map fP), I least] .nil (.tup [.agg [I (lfI 1000 least L n).lo, I (lfI 1000 least L n).hi], I (lfI 1000 least L n).k, I 0]) .nil := fun n h0 hn => life_take h0 hn hL20 hLok (by omega)
  have hlife0 : Fn Tryz.prog 42 [.ro false 4 [], I least] .nil (.tup [.agg [I 0, I 0], I 0, I 4]) .nil := Life_bad (l := []) (least := least) (fu := false) (by simp) (by simp [lifeE])
  have wl : IntKind.i64.wrap least = least := wrap_in (by omega) (by omega)
  have hb1 : L.length * 32 ≤ 70368744177664 := by omega
  have hb2 : L.length ≤ 70368744177664 := by omega
  refine Fn.ofR0 (butM [69, 258]) (by kernel_rfl) Tryz.func12 rfl (by simp) ?_
  simp -dsimp -implicitDefEqProofs
  refine LoopCR.onZ 293 (fun i => [(0, .ro false 4 (x.map fQ)), (1, U least), (2, u8s ps), (7, grow 0 4 i), (8, I (i : Nat))]) (fun i => [grown i (rws fP ((x.take i).map plQ))]) (fun i => i ≤ x.length ∧ i ≤ 20) (fun i => 20 - i) 0 [99] (by simp) ?_ ?_
  · simp -dsimp -implicitDefEqProofs
  rintro i j ⟨hi, hi20⟩
  simp -dsimp -implicitDefEqProofs
  refine ifD_in (fun hlt => ?_) (fun hge => ?_)
  simp -dsimp -implicitDefEqProofs
  refine ifD_in (fun h20 => ?_) (fun h20 => ?_)
  · refine Exists.elim (show ∃ p, x[i]? = some p from ⟨_, List.getElem?_eq_getElem hlt⟩) fun q hq => ?_
    have hok := hx q (List.mem_of_getElem? hq)
    have w1 : IntKind.i64.wrap q.a = q.a := wrap_in (by have := hok.1; omega) (by have := hok.1; omega)
    have w2 : IntKind.i64.wrap q.b = q.b := wrap_in (by have := hok.2.1; omega) (by have := hok.2.1; omega)
    have w3 : IntKind.i64.wrap q.c = q.c := wrap_in (by have := hok.2.2.1; omega) (by have := hok.2.2.1; omega)
    have w4 : IntKind.i64.wrap q.d = q.d := wrap_in (by have := hok.2.2.2; omega) (by have := hok.2.2.2; omega)
    have w5 : IntKind.i64.wrap (q.a + q.b) = q.a + q.b := wrap_in (by have := hok.1; have := hok.2.1; omega) (by have := hok.1; have := hok.2.1; omega)
    have hp := plQ_ok hok
    have t1 : IntKind.i64.wrap (q.c.tmod 20) = q.c.tmod 20 := by
      have a1 := Int.tmod_nonneg 20 hok.2.2.1.1
      have a2 := Int.tmod_lt_of_pos q.c (show (0 : Int) < 20 by omega)
      exact wrap_in (by omega) (by omega)
    have t2 : IntKind.i64.wrap (q.d.tmod 20) = q.d.tmod 20 := by
      have a1 := Int.tmod_nonneg 20 hok.2.2.2.1
      have a2 := Int.tmod_lt_of_pos q.d (show (0 : Int) < 20 by omega)
      exact wrap_in (by omega) (by omega)
    have t3 : IntKind.i64.wrap (q.c.tmod 20 + q.d.tmod 20) = q.c.tmod 20 + q.d.tmod 20 := by
      have a1 := Int.tmod_nonneg 20 hok.2.2.1.1
      have a2 := Int.tmod_lt_of_pos q.c (show (0 : Int) < 20 by omega)
      have a3 := Int.tmod_nonneg 20 hok.2.2.2.1
      have a4 := Int.tmod_lt_of_pos q.d (show (0 : Int) < 20 by omega)
      exact wrap_in (by omega) (by omega)
    have w6 : IntKind.i64.wrap ((i : Int) + 1) = (i : Int) + 1 := wrap_in (by omega) (by omega)
    have hst : (x.take (i + 1)).map plQ = (x.take i).map plQ ++ [plQ q] := by rw [List.take_add_one, hq]; simp
    simp -dsimp -implicitDefEqProofs [hq, w1, w2, w3, w4, w5, t1, t2, t3]
    refine on_append fP ((x.take i).map plQ) (plQ q) (by simp) (by rw [List.length_map, List.length_take]; omega) (show (i + 1) * 32 ≤ 70368744177664 by omega) (by omega) rfl rfl (by simp) rfl (fun _ => rfl) ?_ (by simp)
    simp -dsimp -implicitDefEqProofs [w6]
    refine again_in (i + 1) [2] (by omega) (by omega) ?_
    simp -dsimp -implicitDefEqProofs [hst]
  all_goals
    have hex : i = 20 ∨ (x.length ≤ i ∧ x.length ≤ 20) := by omega
    have hL : (x.take i).map plQ = L := by
      rw [hLd]; unfold plates
      congr 1
      rcases hex with h | h
      · rw [h]
      · rw [List.take_of_length_le h.1, List.take_of_length_le h.2]
    have hiL : L.length = i := by rw [← hL, List.length_map, List.length_take]; omega
    refine (Nat.eq_zero_or_pos i).elim (fun h0 => ?_) (fun hpos => ?_)
    · have hLn : L = [] := List.length_eq_zero_iff.1 (by omega)
      rw [h0]
      simp -dsimp -implicitDefEqProofs
      refine exitZ_in ?_
      simp -dsimp -implicitDefEqProofs [appendA, rowsA, wl]
      refine onCall_in (hlife0.beside rfl _) ?_
      simp -dsimp -implicitDefEqProofs
      refine onCall_in (known_fn.beside rfl _) ?_
      simp -dsimp -implicitDefEqProofs
    · refine Exists.elim (show ∃ m, i = m + 1 from ⟨i - 1, by omega⟩) fun m hm => ?_
      subst hm
      have hz : ∀ h : H, h.get 0 = some (rws fP L) → fzv h 0 (.sl 0 0 (m + 1) 4) = .ro false 4 (L.map fP) := fun h hg => fzv_hit hg (by omega) (fun _ => rfl) (fun _ => rfl)
      have hL' : (x.map plQ).take (m + 1) = L := by rw [← List.map_take]; exact hL
      have hlL := hlife L.length (by omega) (by omega)
      rw [List.take_length, ← hS] at hlL
      simp -dsimp -implicitDefEqProofs
      refine exitZ_fz 0 ?_
      simp -dsimp -implicitDefEqProofs [hz, hL', appendA, rowsA, wl, hb1, hb2]
      refine onCall_in (hlL.beside rfl _) ?_
      have e0 : ((L.length : Int) == 0) = false := by simp; intro h; simp [h] at hiL
      have hf0 := lfI_facts (m := 1000) (least := least) (l := L) L.length (Nat.le_refl _)
      rw [← hS] at hf0
      have hkL : S.k < L.length := by
        rcases hf0.2.2.2.1 with h | h
        · omega
        · exact h.1
      have k0 : decide ((S.k : Int) < 0) = false := decide_eq_false (by omega)
      have k1 : decide (L.length ≤ S.k) = false := decide_eq_false (by omega)
      simp -dsimp -implicitDefEqProofs [extA, e0, k0, k1]
      refine LoopCR.on 293 (fun i => [(1, U least), (2, u8s ps), (7, .ro false 4 (L.map fP)), (10, .ptr 0 0), (11, I (S.k : Nat)), (13, I (i : Nat))]) (fun i => [some [I S.lo, I S.hi]]) (fun i => i ≤ 3) (fun i => 3 - i) 0 [1] (by simp) ?_ ?_
      · simp -dsimp -implicitDefEqProofs
      intro way j hway
      simp -dsimp -implicitDefEqProofs
      refine ifD_in (fun hw3 => ?_) (fun hw3 => ?_)
      · simp -dsimp -implicitDefEqProofs
        refine LoopCR.on 293 (fun i => [(1, U least), (2, u8s ps), (7, .ro false 4 (L.map fP)), (10, .ptr 0 0), (11, I (S.k : Nat)), (13, I (way : Nat)), (14, I (yrs way least ps L i)), (15, I (i : Nat))]) (fun i => [some [I S.lo, I S.hi]]) (fun i => i ≤ L.length) (fun i => L.length - i) 0 [0] (by simp) ?_ ?_
        · simp -dsimp -implicitDefEqProofs [yrs]
        intro i jj hi'
        simp -dsimp -implicitDefEqProofs
        refine ifD_in (fun hlt2 => ?_) (fun hge2 => ?_)
        · refine Exists.elim (show ∃ p, L[i]? = some p from ⟨_, List.getElem?_eq_getElem hlt2⟩) fun p hx2 => ?_
          simp -dsimp -implicitDefEqProofs
          refine DrawR.on {} (by kernel_rfl) (by simp) ?_
          simp -dsimp -implicitDefEqProofs [hx2]
          have hp := hLok p (List.mem_of_getElem? hx2)
          have hb := hp
          simp only [okP, Bool.and_eq_true, vB_iff] at hb
          have hc : way = 0 ∨ way = 1 ∨ (way = 2 ∧ ps = []) ∨ (way = 2 ∧ ps ≠ []) := by
            rcases (show way = 0 ∨ way = 1 ∨ way = 2 by omega) with h | h | h
            · exact .inl h
            · exact .inr (.inl h)
            · exact .inr (.inr ((Classical.em (ps = [])).elim (fun g => .inl ⟨h, g⟩) (fun g => .inr ⟨h, g⟩)))
          have hpos2 : ps ≠ [] → 0 < ps.length := List.length_pos_iff.2
          refine hc.elim (fun hw => ?_) (fun hc => hc.elim (fun hw => ?_) (fun hc => hc.elim (fun hw => ?_) (fun hw => ?_)))
          have c0 : ((way : Int) == 0) = true := by simp [hw]
          have c1 : ((way : Int) == 1) = false := by simp [hw]
          have c2 : ((way : Int) == 2) = false := by simp [hw]
          simp -dsimp -implicitDefEqProofs [c0, c1, c2]
          have ht1 : (tw way ps i p).1 = p.thick.lo := by simp [tw, hw]
          have ht2 : (tw way ps i p).2 = p.wear.hi := by simp [tw, hw]
          rotate_left
          have c0 : ((way : Int) == 0) = false := by simp [hw]
          have c1 : ((way : Int) == 1) = true := by simp [hw]
          have c2 : ((way : Int) == 2) = false := by simp [hw]
          simp -dsimp -implicitDefEqProofs [c0, c1, c2]
          refine DrawR.on {} (by kernel_rfl) (by simp) ?_
          simp -dsimp -implicitDefEqProofs [hx2, c0, c1, c2]
          have ht1 : (tw way ps i p).1 = p.thick.hi := by simp [tw, hw]
          have ht2 : (tw way ps i p).2 = p.wear.lo := by simp [tw, hw]
          rotate_left
          have c0 : ((way : Int) == 0) = false := by simp [hw.1]
          have c1 : ((way : Int) == 1) = false := by simp [hw.1]
          have c2 : ((way : Int) == 2) = true := by simp [hw.1]
          have c3 : decide (0 < ps.length) = false := by simp [hw.2]
          simp -dsimp -implicitDefEqProofs [c0, c1, c2, c3]
          have ht1 : (tw way ps i p).1 = p.thick.lo := by simp [tw, hw.1, hw.2]
          have ht2 : (tw way ps i p).2 = p.wear.hi := by simp [tw, hw.1, hw.2]
          rotate_left
          have c0 : ((way : Int) == 0) = false := by simp [hw.1]
          have c1 : ((way : Int) == 1) = false := by simp [hw.1]
          have c2 : ((way : Int) == 2) = true := by simp [hw.1]
          have hn := hpos2 hw.2
          have c3 : decide (0 < ps.length) = true := by simp [hn]
          have hi62 : (i : Int) < 2^62 := by omega
          refine Exists.elim (show ∃ K, K = i % ps.length from ⟨_, rfl⟩) fun K hK => ?_
          refine Exists.elim (show ∃ K, K = (i + 1) % ps.length from ⟨_, rfl⟩) fun K2 hK2 => ?_
          have r1 : (i : Int).tmod (ps.length : Int) = (K : Int) := by rw [hK]; exact (Int.ofNat_tmod _ _).symm
          have r2 : IntKind.i64.wrap ((i : Int) + 1) = (i : Int) + 1 := wrap_in (by omega) (by omega)
          have r3 : ((i : Int) + 1).tmod (ps.length : Int) = (K2 : Int) := by rw [hK2]; exact (Int.ofNat_tmod _ _).symm
          have b1 := Nat.mod_lt i hn
          have b2 := Nat.mod_lt (i + 1) hn
          rw [← hK] at b1
          rw [← hK2] at b2
          refine Exists.elim (show ∃ v, ps[K]? = some v from ⟨_, List.getElem?_eq_getElem b1⟩) fun v1 hv1 => ?_
          refine Exists.elim (show ∃ v, ps[K2]? = some v from ⟨_, List.getElem?_eq_getElem b2⟩) fun v2 hv2 => ?_
          simp -dsimp -implicitDefEqProofs [c0, c1, c2, c3]
          refine DrawR.on {} (by kernel_rfl) (by simp) ?_
          have hv1' := hps v1 (List.mem_of_getElem? hv1)
          have hv2' := hps v2 (List.mem_of_getElem? hv2)
          have s1 : IntKind.i64.wrap v1 = v1 := wrap_in (by omega) (by omega)
          have s2 : IntKind.i64.wrap v2 = v2 := wrap_in (by omega) (by omega)
          have a1 := Int.tmod_nonneg (p.thick.hi - p.thick.lo + 1) hv1'.1
          have a2 := Int.tmod_lt_of_pos v1 (show (0 : Int) < p.thick.hi - p.thick.lo + 1 by omega)
          have a3 := Int.tmod_nonneg (p.wear.hi - p.wear.lo + 1) hv2'.1
          have a4 := Int.tmod_lt_of_pos v2 (show (0 : Int) < p.wear.hi - p.wear.lo + 1 by omega)
          have q1 : IntKind.i64.wrap (p.thick.hi - p.thick.lo) = p.thick.hi - p.thick.lo := wrap_in (by omega) (by omega)
          have q2 : IntKind.i64.wrap (p.thick.hi - p.thick.lo + 1) = p.thick.hi - p.thick.lo + 1 := wrap_in (by omega) (by omega)
          have q3 : ¬ p.thick.hi - p.thick.lo + 1 = 0 := by omega
          have q4 : IntKind.i64.wrap (v1.tmod (p.thick.hi - p.thick.lo + 1)) = v1.tmod (p.thick.hi - p.thick.lo + 1) := wrap_in (by omega) (by omega)
          have q5 : IntKind.i64.wrap (p.thick.lo + v1.tmod (p.thick.hi - p.thick.lo + 1)) = p.thick.lo + v1.tmod (p.thick.hi - p.thick.lo + 1) := wrap_in (by omega) (by omega)
          have q6 : IntKind.i64.wrap (p.wear.hi - p.wear.lo) = p.wear.hi - p.wear.lo := wrap_in (by omega) (by omega)
          have q7 : IntKind.i64.wrap (p.wear.hi - p.wear.lo + 1) = p.wear.hi - p.wear.lo + 1 := wrap_in (by omega) (by omega)
          have q8 : ¬ p.wear.hi - p.wear.lo + 1 = 0 := by omega
          have q9 : IntKind.i64.wrap (v2.tmod (p.wear.hi - p.wear.lo + 1)) = v2.tmod (p.wear.hi - p.wear.lo + 1) := wrap_in (by omega) (by omega)
          have q10 : IntKind.i64.wrap (p.wear.hi - v2.tmod (p.wear.hi - p.wear.lo + 1)) = p.wear.hi - v2.tmod (p.wear.hi - p.wear.lo + 1) := wrap_in (by omega) (by omega)
          simp -dsimp -implicitDefEqProofs [hx2, r1, r2, r3, hv1, hv2, hw.2, s1, q1, q2, q3, q4, q5]
          refine DrawR.on {} (by kernel_rfl) (by simp) ?_
          simp -dsimp -implicitDefEqProofs [hx2, r1, r2, r3, hv1, hv2, hw.2, s2, q6, q7, q8, q9, q10]
          have ht1 : (tw way ps i p).1 = p.thick.lo + v1.tmod (p.thick.hi - p.thick.lo + 1) := by simp [tw, hw.1, hn, ← hK, List.getD_eq_getElem?_getD, hv1]
          have ht2 : (tw way ps i p).2 = p.wear.hi - v2.tmod (p.wear.hi - p.wear.lo + 1) := by simp [tw, hw.1, hn, ← hK2, List.getD_eq_getElem?_getD, hv2]
          rotate_left
          all_goals
            have htw := tw_in (way := way) (i := i) hp hps
            refine Exists.elim (show ∃ T, T = (tw way ps i p).1 from ⟨_, rfl⟩) fun T hT => ?_
            refine Exists.elim (show ∃ W, W = (tw way ps i p).2 from ⟨_, rfl⟩) fun W hW => ?_
            have hYT : yT way least ps i p = yA (T - least) W := by rw [hT, hW]; rfl
            rw [← hT, ← hW] at htw
            rw [← hT] at ht1
            rw [← hW] at ht2
            refine LoopCR.on 293 (fun y => [(1, U least), (2, u8s ps), (7, .ro false 4 (L.map fP)), (10, .ptr 0 0), (11, I (S.k : Nat)), (13, I (way : Nat)), (14, I (yrs way least ps L i)), (15, I (i : Nat)), (16, I T), (17, I W), (19, I ((y : Nat) - 1))]) (fun i => [some [I S.lo, I S.hi]]) (fun y => y = 0 ∨ (y ≤ 1001 ∧ ((y : Int) - 1) * W ≤ T - least)) (fun y => 1001 - y) 0 [0] (.inl rfl) ?_ ?_
            · simp -dsimp -implicitDefEqProofs [ht1, ht2]
            intro y jy hy
            simp -dsimp -implicitDefEqProofs
            refine ifD_in (fun hy1 => ?_) (fun hy1 => ?_)
            · have y1 : (y : Int) ≤ 1000 := by omega
              have y2 : 0 ≤ (y : Int) * W := Int.mul_nonneg (by omega) (by omega)
              have y3 : (y : Int) * W ≤ 1000 * 1000 := Int.mul_le_mul y1 (by omega) (by omega) (by omega)
              have v1 : IntKind.i64.wrap (y : Int) = y := wrap_in (by omega) (by omega)
              have v2 : IntKind.i64.wrap ((y : Int) * W) = y * W := wrap_in (by omega) (by omega)
              have v3 : IntKind.i64.wrap (T - (y : Int) * W) = T - y * W := wrap_in (by omega) (by omega)
              simp -dsimp -implicitDefEqProofs [v1, v2, v3, wl]
              refine ifD_in (fun hy2 => ?_) (fun hy2 => ?_)
              · simp -dsimp -implicitDefEqProofs [v1]
                refine again_in (y + 1) [0] (.inr ⟨by omega, by rw [show (((y + 1 : Nat) : Int) - 1) = y by omega]; omega⟩) (by omega) ?_
                simp -dsimp -implicitDefEqProofs
              · simp -dsimp -implicitDefEqProofs
                have hY := y_end (by omega) hy hy1 hy2
                have wi : IntKind.i64.wrap ((i : Int) + 1) = (i : Int) + 1 := wrap_in (by omega) (by omega)
                have hmin : min (yrs way least ps L i) (yA (T - least) W) = yrs way least ps L (i + 1) := by rw [yrs_succ hx2, hYT]
                have hfl := first_lo hS hx2
                first
                | have c0' : ((way : Int) == 0) = false := c0
                  simp -dsimp -implicitDefEqProofs [c0, hY, hmin, wi]
                  refine again_in (i + 1) [0] (Nat.succ_le_of_lt hlt2) (by omega) ?_
                  simp -dsimp -implicitDefEqProofs
                | have hA : loP least p = yA (T - least) W := by rw [ht1, ht2]; rfl
                  rw [hA] at hfl
                  refine (Classical.em (i < S.k)).elim (fun h1 => ?_) (fun h1 => (Classical.em (i = S.k)).elim (fun h2 => ?_) (fun h2 => ?_))
                  · have d0 : decide (i < S.k) = true := decide_eq_true h1
                    have d1 : decide (yA (T - least) W ≤ S.lo) = false := decide_eq_false (Int.not_le.2 (hfl.1 h1))
                    have d2 : ((i : Int) == (S.k : Int)) = false := beq_eq_false_iff_ne.2 (fun h => Nat.ne_of_lt h1 (Int.ofNat.inj h))
                    simp -dsimp -implicitDefEqProofs [c0, hY, hmin, wi, d0, d1, d2]
                    refine again_in (i + 1) [0] (Nat.succ_le_of_lt hlt2) (Nat.sub_succ_lt_self _ _ hlt2) ?_
                    simp -dsimp -implicitDefEqProofs
                  · have d0 : decide (i < S.k) = false := decide_eq_false h1
                    have d2 : ((i : Int) == (S.k : Int)) = true := by rw [h2]; exact BEq.rfl
                    have d3 : (yA (T - least) W != S.lo) = false := by rw [hfl.2 h2]; exact bne_self_eq_false _
                    simp -dsimp -implicitDefEqProofs [c0, hY, hmin, wi, d0, d2, d3]
                    refine again_in (i + 1) [0] (Nat.succ_le_of_lt hlt2) (Nat.sub_succ_lt_self _ _ hlt2) ?_
                    simp -dsimp -implicitDefEqProofs
                  · have d0 : decide (i < S.k) = false := decide_eq_false h1
                    have d2 : ((i : Int) == (S.k : Int)) = false := beq_eq_false_iff_ne.2 (fun h => h2 (Int.ofNat.inj h))
                    simp -dsimp -implicitDefEqProofs [c0, hY, hmin, wi, d0, d2]
                    refine again_in (i + 1) [0] (Nat.succ_le_of_lt hlt2) (Nat.sub_succ_lt_self _ _ hlt2) ?_
                    simp -dsimp -implicitDefEqProofs
            · simp -dsimp -implicitDefEqProofs
              have hY := y_full (by omega) hy hy1
              have wi : IntKind.i64.wrap ((i : Int) + 1) = (i : Int) + 1 := wrap_in (by omega) (by omega)
              have hmin : min (yrs way least ps L i) (yA (T - least) W) = yrs way least ps L (i + 1) := by rw [yrs_succ hx2, hYT]
              have hfl := first_lo hS hx2
              first
              | have c0' : ((way : Int) == 0) = false := c0
                simp -dsimp -implicitDefEqProofs [c0, hY, hmin, wi]
                refine again_in (i + 1) [0] (Nat.succ_le_of_lt hlt2) (by omega) ?_
                simp -dsimp -implicitDefEqProofs
              | have hA : loP least p = yA (T - least) W := by rw [ht1, ht2]; rfl
                rw [hA] at hfl
                refine (Classical.em (i < S.k)).elim (fun h1 => ?_) (fun h1 => (Classical.em (i = S.k)).elim (fun h2 => ?_) (fun h2 => ?_))
                · have d0 : decide (i < S.k) = true := decide_eq_true h1
                  have d1 : decide (yA (T - least) W ≤ S.lo) = false := decide_eq_false (Int.not_le.2 (hfl.1 h1))
                  have d2 : ((i : Int) == (S.k : Int)) = false := beq_eq_false_iff_ne.2 (fun h => Nat.ne_of_lt h1 (Int.ofNat.inj h))
                  simp -dsimp -implicitDefEqProofs [c0, hY, hmin, wi, d0, d1, d2]
                  refine again_in (i + 1) [0] (Nat.succ_le_of_lt hlt2) (Nat.sub_succ_lt_self _ _ hlt2) ?_
                  simp -dsimp -implicitDefEqProofs
                · have d0 : decide (i < S.k) = false := decide_eq_false h1
                  have d2 : ((i : Int) == (S.k : Int)) = true := by rw [h2]; exact BEq.rfl
                  have d3 : (yA (T - least) W != S.lo) = false := by rw [hfl.2 h2]; exact bne_self_eq_false _
                  simp -dsimp -implicitDefEqProofs [c0, hY, hmin, wi, d0, d2, d3]
                  refine again_in (i + 1) [0] (Nat.succ_le_of_lt hlt2) (Nat.sub_succ_lt_self _ _ hlt2) ?_
                  simp -dsimp -implicitDefEqProofs
                · have d0 : decide (i < S.k) = false := decide_eq_false h1
                  have d2 : ((i : Int) == (S.k : Int)) = false := beq_eq_false_iff_ne.2 (fun h => h2 (Int.ofNat.inj h))
                  simp -dsimp -implicitDefEqProofs [c0, hY, hmin, wi, d0, d2]
                  refine again_in (i + 1) [0] (Nat.succ_le_of_lt hlt2) (Nat.sub_succ_lt_self _ _ hlt2) ?_
                  simp -dsimp -implicitDefEqProofs
        · have hiL2 : i = L.length := Nat.le_antisymm hi' (Nat.le_of_not_lt hge2)
          have hyl := yrs_in (way := way) (least := least) hLok hps i hi'
          rw [show lfI 1000 least L i = S by rw [hiL2, hS]] at hyl
          have ww : IntKind.i64.wrap ((way : Int) + 1) = (way : Int) + 1 := wrap_in (by omega) (by omega)
          have r1 : decide (yrs way least ps L i < S.lo) = false := decide_eq_false (Int.not_lt.2 hyl.1)
          have r2 : decide (S.hi < yrs way least ps L i) = false := decide_eq_false (Int.not_lt.2 hyl.2.1)
          refine (show way = 0 ∨ way = 1 ∨ way = 2 by omega).elim (fun hw => ?_) (fun hc => hc.elim (fun hw => ?_) (fun hw => ?_))
          · have c0 : ((way : Int) == 0) = true := by simp [hw]
            have c1 : ((way : Int) == 1) = false := by simp [hw]
            have r3 : (yrs way least ps L i != S.lo) = false := by rw [hyl.2.2.1 hw]; exact bne_self_eq_false _
            simp -dsimp -implicitDefEqProofs [c0, c1, r1, r2, r3, ww]
            refine again_in (way + 1) [0] (by omega) (by omega) ?_
            simp -dsimp -implicitDefEqProofs
          · have c0 : ((way : Int) == 0) = false := by simp [hw]
            have c1 : ((way : Int) == 1) = true := by simp [hw]
            have r3 : (yrs way least ps L i != S.hi) = false := by rw [hyl.2.2.2 hw]; exact bne_self_eq_false _
            simp -dsimp -implicitDefEqProofs [c0, c1, r1, r2, r3, ww]
            refine again_in (way + 1) [0] (by omega) (by omega) ?_
            simp -dsimp -implicitDefEqProofs
          · have c0 : ((way : Int) == 0) = false := by simp [hw]
            have c1 : ((way : Int) == 1) = false := by simp [hw]
            simp -dsimp -implicitDefEqProofs [c0, c1, r1, r2, ww]
            refine again_in (way + 1) [0] (by omega) (by omega) ?_
            simp -dsimp -implicitDefEqProofs
      · have z1 : IntKind.i64.wrap ((L.length : Int) - 1) = (m : Int) := by rw [wrap_in (by omega) (by omega)]; omega
        have z2 : m ≤ L.length := by omega
        refine (Nat.eq_zero_or_pos m).elim (fun hm0 => ?_) (fun hm0 => ?_)
        · have z3 : ((L.length : Int) == 1) = true := by rw [hiL, hm0]; rfl
          simp -dsimp -implicitDefEqProofs [z1, z2, sliceA, boundA, intOf?, hm0, appendA, rowsA, wl]
          refine onCall_in (hlife0.beside rfl _) ?_
          simp -dsimp -implicitDefEqProofs [extA, z3]
          refine onCall_in (known_fn.beside rfl _) ?_
          simp -dsimp -implicitDefEqProofs
        · have z3 : ((L.length : Int) == 1) = false := beq_eq_false_iff_ne.2 (by omega)
          refine Exists.elim (show ∃ S2, S2 = lfI 1000 least L m from ⟨_, rfl⟩) fun S2 hS2 => ?_
          have hlM := hlife m hm0 z2
          have hmo : S.lo ≤ (lfI 1000 least L m).lo ∧ S.hi ≤ (lfI 1000 least L m).hi := by rw [hS, hiL]; exact lfI_le (by omega)
          rw [← hS2] at hlM hmo
          rw [List.map_take] at hlM
          have o1 : decide (S.lo ≤ S2.lo) = true := decide_eq_true hmo.1
          have o2 : decide (S.hi ≤ S2.hi) = true := decide_eq_true hmo.2
          have z4 : min m L.length = m := Nat.min_eq_left z2
          have hb3 : m * 32 ≤ 70368744177664 := by omega
          have hb4 : m ≤ 70368744177664 := by omega
          simp -dsimp -implicitDefEqProofs [z1, z2, z4, sliceA, boundA, intOf?, appendA, rowsA, wl, hb3, hb4]
          refine onCall_in (hlM.beside rfl _) ?_
          simp -dsimp -implicitDefEqProofs [extA, z3, o1, o2]
          refine onCall_in (known_fn.beside rfl _) ?_
          simp -dsimp -implicitDefEqProofs
end Go.Pe
