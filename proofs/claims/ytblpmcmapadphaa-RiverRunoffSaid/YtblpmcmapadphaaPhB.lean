/- The law RiverRunoff. -/
import Derived.Test.YtblpmcmapadphaaPhA
import Derived.Test.YtblpmcmapadphaaPgM
import Derived.Test.YtblpmcmapadphaaPfK
set_option linter.unusedVariables false
set_option linter.unusedSimpArgs false
namespace Go.Pe
open Go Go.Proofs Go.Proofs.Ytblpmcmapadphaa
attribute [local simp] t3 u3 t4 u4 t5 u5 t22 u22 t23 u23 t25 u25 t27 u27 t28 u28 t30 u30 t32 u32 t34 u34 t37 u37 t43 u43 t48 u48 t49 u49 t50 u50 t54 u54 t75 u75 t77 u77 t84 u84 t89 u89 t94 u94 t96 u96 t102 u102 t117 u117 t119 u119 t123 u123 t125 u125 t130 u130 t134 u134 t138 u138 t152 u152 t155 u155 t156 u156 t160 u160 t172 u172
set_option maxRecDepth 20000

theorem neq54 {a b c d a' b' c' d' : Int} {k : TK} {s : Nat} {z : List Value} {a1 f : Bool} {by' : Nat} : binX Try.prog 54 { kind := k, size := s, zero := z, agg := a1, bytes := by', fok := f, cmp := true } .neq (.agg [I a, I b, I c, I d]) (.agg [I a', I b', I c', I d']) = some (B (!((a == a' && (b == b' && true)) && ((c == c' && (d == d' && true)) && true)))) := by kernel_rfl
theorem neq27 {a b a' b' : Int} {k : TK} {s : Nat} {z : List Value} {a1 f : Bool} {by' : Nat} : binX Try.prog 27 { kind := k, size := s, zero := z, agg := a1, bytes := by', fok := f, cmp := true } .neq (.agg [I a, I b]) (.agg [I a', I b']) = some (B (!(a == a' && (b == b' && true)))) := by kernel_rfl
attribute [local simp] neq54 neq27 fB_eq

theorem same2_fn {l : List Bd} (hl : (l.length : Int) < 2^62) {f1 f2 : Bool} : Fn Try.prog 27 [.ro f1 2 (l.map fB), .ro f2 2 (l.map fB)] .nil (B true) .nil := by
  refine Fn.ofR0 noM (by kernel_rfl) Try.func27 rfl (by simp) ?_
  have n0 : ((l.length : Int) != l.length) = false := by simp
  simp -dsimp -implicitDefEqProofs [n0]
  refine LoopCR.on 26 (fun i => [(0, .ro f1 2 (l.map fB)), (1, .ro f2 2 (l.map fB)), (5, I (i : Nat))]) (fun i => []) (fun i => i ≤ l.length) (fun i => l.length - i) 0 [] (by simp) ?_ ?_
  · simp -dsimp -implicitDefEqProofs
  intro i j hi
  simp -dsimp -implicitDefEqProofs
  refine ifD_in (fun hlt => ?_) (fun hge => ?_)
  · have hlt' : i < l.length := by omega
    have hx := List.getElem?_eq_getElem hlt'
    simp -dsimp -implicitDefEqProofs
    refine DrawR.on {} (by kernel_rfl) (by simp) ?_
    simp -dsimp -implicitDefEqProofs [hx]
    refine again_in (i + 1) [] (by omega) (by omega) ?_
    simp -dsimp -implicitDefEqProofs
    rw [wrap_in (by omega) (by omega)]
  · simp -dsimp -implicitDefEqProofs

theorem snow_warms {c : Ct} (hr : 0 ≤ c.melt) : ∀ (l : List Sk) (s : Bd), 0 ≤ s.lo → 0 ≤ s.hi → snowL c.melt s.lo (warms l) = (snowAt c s l).lo ∧ snowL c.melt s.hi (colds l) = (snowAt c s l).hi
  | [], s, _, _ => ⟨rfl, rfl⟩
  | y :: l, s, h1, h2 => by
    have p1 : 0 ≤ c.melt * max 0 y.heat.lo := Int.mul_nonneg hr (by omega)
    have p2 : 0 ≤ c.melt * max 0 y.heat.hi := Int.mul_nonneg hr (by omega)
    have ih := snow_warms hr l (left s (warm c y)) (by simp only [left]; omega) (by simp only [left]; omega)
    have e1 : s.lo - min s.lo (max 0 y.heat.hi * c.melt) = (left s (warm c y)).lo := by simp only [left, warm]; rw [Int.mul_comm]; omega
    have e2 : s.hi - min s.hi (max 0 y.heat.lo * c.melt) = (left s (warm c y)).hi := by simp only [left, warm]; rw [Int.mul_comm]; omega
    show snowL c.melt (s.lo - min s.lo (max 0 y.heat.hi * c.melt)) (warms l) = (snowAt c (left s (warm c y)) l).lo ∧ snowL c.melt (s.hi - min s.hi (max 0 y.heat.lo * c.melt)) (colds l) = (snowAt c (left s (warm c y)) l).hi
    rw [e1, e2]; exact ih
theorem rRuns_eq {c : Ct} {sky : List Sk} (hc : validC c = true) : rRuns c sky = runs c c.snow sky := by
  simp only [validC, validB, Bool.and_eq_true, decide_eq_true_eq] at hc
  apply List.ext_getElem?
  intro i
  by_cases hi : i < sky.length
  · rw [runs_get hi, rRuns, List.getElem?_mapIdx, List.getElem?_eq_getElem hi]
    have hs := snow_warms (c := c) (by omega) (sky.take i) c.snow (by omega) (by omega)
    simp only [Option.map_some, Option.some.injEq, rRun]
    have e1 : (List.take i sky).map (fun y => y.heat.hi) = warms (sky.take i) := rfl
    have e2 : (List.take i sky).map (fun y => y.heat.lo) = colds (sky.take i) := rfl
    rw [e1, e2, hs.1, hs.2]
    simp only [drain, total, List.foldl_cons, List.foldl_nil, melts, warm]
    rw [Int.mul_comm (max 0 sky[i].heat.lo), Int.mul_comm (max 0 sky[i].heat.hi)]
    rw [show (0 : Int) + sky[i].rain.lo + min (c.melt * max 0 sky[i].heat.lo) (snowAt c c.snow (sky.take i)).lo = sky[i].rain.lo + min (snowAt c c.snow (sky.take i)).lo (c.melt * max 0 sky[i].heat.lo) by omega]
    rw [show (0 : Int) + sky[i].rain.hi + min (c.melt * max 0 sky[i].heat.hi) (snowAt c c.snow (sky.take i)).hi = sky[i].rain.hi + min (snowAt c c.snow (sky.take i)).hi (c.melt * max 0 sky[i].heat.hi) by omega]
    rw [Int.mul_right_comm, Int.mul_right_comm c.area (sky[i].rain.hi + _)]
  · rw [List.getElem?_eq_none (by rw [rRuns, List.length_mapIdx]; omega), List.getElem?_eq_none (by rw [runs_len]; omega)]

set_option maxHeartbeats 8000000 in
theorem rr_skip2 {c : Ct} {sky : List Sk} (h : 100 < sky.length ∧ sky.length ≤ 400 ∨ 450 < sky.length) (hl : sky.length ≤ 9223372036854775807) : Fn Try.prog 4 [c.av, .ro false 4 (sky.map Sk.row)] .nil (B true) .nil := by
  refine Fn.ofR0 noM (by kernel_rfl) Try.func4 rfl (by simp) ?_
  simp -dsimp -implicitDefEqProofs
  refine ifD_in (fun h1 => ?_) (fun h1 => ?_)
  case refine_2 =>
    have h1' := h1
    clear h1
    exfalso
    omega
  simp -dsimp -implicitDefEqProofs
  refine ifD_in (fun h2 => ?_) (fun h2 => ?_)
  · simp -dsimp -implicitDefEqProofs
    refine onCall_in (known_fn.beside rfl _) ?_
    simp -dsimp -implicitDefEqProofs
  · simp -dsimp -implicitDefEqProofs
    refine ifD_in (fun h3 => ?_) (fun h3 => ?_)
    · simp -dsimp -implicitDefEqProofs
      refine onCall_in (known_fn.beside rfl _) ?_
      simp -dsimp -implicitDefEqProofs
    · exfalso
      omega

set_option maxHeartbeats 8000000 in
/-- What is looked at: the error's way, or the runoff's. -/
theorem rr_look {c : Ct} {sky : List Sk} {e : Int} {L : AV} (h : sky.length ≤ 100 ∨ 400 < sky.length ∧ sky.length ≤ 450) (hL : clean1 L = true) (hr : Fn Try.prog 25 [c.av, .ro false 4 (sky.map Sk.row)] .nil (.tup [L, I e]) .nil) (hc : Fn Try.prog 26 [c.av, .ro false 4 (sky.map Sk.row)] .nil (I e) .nil)
    (he : e ≠ 0 → L = .val (.slice none 0 0)) (h0 : e = 0 → Fn Try.prog 28 [c.av, .ro false 4 (sky.map Sk.row)] .nil (.ro (isz sky.length) 2 ((rRuns c sky).map fB)) .nil ∧ ∃ f, L = .ro f 2 ((rRuns c sky).map fB)) : Fn Try.prog 4 [c.av, .ro false 4 (sky.map Sk.row)] .nil (B true) .nil := by
  refine Fn.ofR0 noM (by kernel_rfl) Try.func4 rfl (by simp) ?_
  have t2 : decide ((450 : Int) < sky.length) = false := decide_eq_false (by omega)
  have t3 : (100 : Int) < sky.length → decide ((sky.length : Int) ≤ 400) = false := fun h1 => decide_eq_false (by omega)
  have hb1 : sky.length * 32 ≤ 70368744177664 := by omega
  have hb2 : sky.length ≤ 70368744177664 := by omega
  have ee : (e == e) = true := by simp
  have hrl : (((rRuns c sky).length : Nat) : Int) < 2^62 := by rw [rRuns, List.length_mapIdx]; omega
  simp -dsimp -implicitDefEqProofs
  have hrn : ∀ bs n, rn bs (n + 1) L = some L := fun bs n => by cases L <;> first | rfl | (simp [clean1] at hL)
  refine ifD_in (fun h1 => ?_) (fun h1 => ?_)
  · have t3' := t3 h1
    simp -dsimp -implicitDefEqProofs [t2, hb1, hb2, appendA, rowsA, t3']
    refine onCall_in (hr.beside rfl _) ?_
    simp -dsimp -implicitDefEqProofs [extA]
    refine LoopCR.on 76 (fun i => [(0, c.av), (1, .ro false 4 (sky.map Sk.row)), (2, .ptr 0 0), (5, .ro false 4 (sky.map Sk.row)), (6, L), (7, I e), (8, I (i : Nat))]) (fun i => [some (cAV c)]) (fun i => i ≤ sky.length) (fun i => sky.length - i) 0 [0] (by simp) ?_ ?_
    · simp -dsimp -implicitDefEqProofs [hrn]
    intro i j hi
    simp -dsimp -implicitDefEqProofs
    refine ifD_in (fun hlt => ?_) (fun hge => ?_)
    · have hlt' : i < sky.length := by omega
      have hx := List.getElem?_eq_getElem hlt'
      simp -dsimp -implicitDefEqProofs
      refine DrawR.on {} (by kernel_rfl) (by simp) ?_
      simp -dsimp -implicitDefEqProofs [hx]
      refine again_in (i + 1) [0] (by omega) (by omega) ?_
      simp -dsimp -implicitDefEqProofs [hrn]
      rw [wrap_in (by omega) (by omega)]
    · simp -dsimp -implicitDefEqProofs
      refine onCall_in (hc.beside rfl _) ?_
      simp -dsimp -implicitDefEqProofs
      by_cases he0 : e = 0
      · obtain ⟨g1, f, g2⟩ := h0 he0
        subst he0; subst g2
        simp -dsimp -implicitDefEqProofs
        refine onCall_in (g1.beside rfl _) ?_
        simp -dsimp -implicitDefEqProofs
        refine onCall_in ((same2_fn hrl).beside rfl _) ?_
        simp -dsimp -implicitDefEqProofs
        refine onCall_in (known_fn.beside rfl _) ?_
        simp -dsimp -implicitDefEqProofs
      · have ne0 : (e != 0) = true := by simpa using he0
        have g2 := he he0
        subst g2
        simp -dsimp -implicitDefEqProofs [ne0, ee, lenA]
        refine onCall_in (known_fn.beside rfl _) ?_
        simp -dsimp -implicitDefEqProofs
  · simp -dsimp -implicitDefEqProofs [t2, hb1, hb2, appendA, rowsA]
    refine onCall_in (hr.beside rfl _) ?_
    simp -dsimp -implicitDefEqProofs [extA]
    refine LoopCR.on 76 (fun i => [(0, c.av), (1, .ro false 4 (sky.map Sk.row)), (2, .ptr 0 0), (5, .ro false 4 (sky.map Sk.row)), (6, L), (7, I e), (8, I (i : Nat))]) (fun i => [some (cAV c)]) (fun i => i ≤ sky.length) (fun i => sky.length - i) 0 [0] (by simp) ?_ ?_
    · simp -dsimp -implicitDefEqProofs [hrn]
    intro i j hi
    simp -dsimp -implicitDefEqProofs
    refine ifD_in (fun hlt => ?_) (fun hge => ?_)
    · have hlt' : i < sky.length := by omega
      have hx := List.getElem?_eq_getElem hlt'
      simp -dsimp -implicitDefEqProofs
      refine DrawR.on {} (by kernel_rfl) (by simp) ?_
      simp -dsimp -implicitDefEqProofs [hx]
      refine again_in (i + 1) [0] (by omega) (by omega) ?_
      simp -dsimp -implicitDefEqProofs [hrn]
      rw [wrap_in (by omega) (by omega)]
    · simp -dsimp -implicitDefEqProofs
      refine onCall_in (hc.beside rfl _) ?_
      simp -dsimp -implicitDefEqProofs
      by_cases he0 : e = 0
      · obtain ⟨g1, f, g2⟩ := h0 he0
        subst he0; subst g2
        simp -dsimp -implicitDefEqProofs
        refine onCall_in (g1.beside rfl _) ?_
        simp -dsimp -implicitDefEqProofs
        refine onCall_in ((same2_fn hrl).beside rfl _) ?_
        simp -dsimp -implicitDefEqProofs
        refine onCall_in (known_fn.beside rfl _) ?_
        simp -dsimp -implicitDefEqProofs
      · have ne0 : (e != 0) = true := by simpa using he0
        have g2 := he he0
        subst g2
        simp -dsimp -implicitDefEqProofs [ne0, ee, lenA]
        refine onCall_in (known_fn.beside rfl _) ?_
        simp -dsimp -implicitDefEqProofs

end Go.Pe
