/- Rivers: checked, copied, compared. -/
import Derived.Test.YtblpmcmapadphaaPiF
set_option linter.unusedVariables false
set_option linter.unusedSimpArgs false
namespace Go.Pe
open Go Go.Proofs Go.Proofs.Ytblpmcmapadphaa
attribute [local simp] t3 u3 t4 u4 t5 u5 t22 u22 t23 u23 t25 u25 t27 u27 t28 u28 t30 u30 t32 u32 t34 u34 t37 u37 t43 u43 t48 u48 t49 u49 t50 u50 t54 u54 t75 u75 t77 u77 t84 u84 t89 u89 t94 u94 t96 u96 t102 u102 t117 u117 t119 u119 t123 u123 t125 u125 t130 u130 t134 u134 t138 u138 t152 u152 t155 u155 t156 u156 t160 u160 t172 u172
set_option maxRecDepth 20000
set_option maxHeartbeats 8000000
attribute [local simp] fW_eq fR_eq fS_eq extA

structure Small (r : Rv) : Prop where
  n : r.rs.length ≤ 25
  m : r.ss.length ≤ 50
  c : ∀ x ∈ r.rs, x.curve.length ≤ 40
open Classical in
noncomputable def validRv (r : Rv) : Bool := inB 1 20 r.rs.length && (decide (r.ss.length ≤ 40) && (r.rs.all validR && r.ss.all (validSh (lenSum r.rs))))
theorem lens_of {r : Rv} (h : r.rs.all validR = true) : ∀ x ∈ r.rs, x.len.natAbs ≤ 1000000 := fun x hx => by
  have := (validR_parts ((List.all_eq_true.1 h) x hx)).1
  omega
theorem lens_sum {r : Rv} (hw : Small r) (h : ∀ x ∈ r.rs, x.len.natAbs ≤ 1000000) : (lenSum r.rs).natAbs ≤ 25000000 := by
  have := lenSum_in h r.rs.length (Nat.le_refl _)
  rw [List.take_length] at this
  have := hw.n
  omega

theorem Check_fn {r : Rv} {fu : Bool} {h : H} (hw : Small r) : Fn Try.prog 18 [r.av fu] h (I (if validRv r = true then 0 else 2)) h := by
  refine Fn.beside ?_ rfl h
  refine Fn.ofR0 noM (by kernel_rfl) Try.func18 rfl (by simp) ?_
  have hn := hw.n
  have hm := hw.m
  simp -dsimp -implicitDefEqProofs
  refine onCall_in in1_fn ?_
  simp -dsimp -implicitDefEqProofs
  refine ifB_in (fun h1 => ?_) (fun h1 => ?_)
  rotate_left
  · simp -dsimp -implicitDefEqProofs [validRv, h1]
  simp -dsimp -implicitDefEqProofs
  refine ifD_in (fun h2 => ?_) (fun h2 => ?_)
  · have h2' : decide (r.ss.length ≤ 40) = false := decide_eq_false (by omega)
    simp -dsimp -implicitDefEqProofs [validRv, h2']
  have h2' : decide (r.ss.length ≤ 40) = true := decide_eq_true (by omega)
  simp -dsimp -implicitDefEqProofs
  refine onCall_in (reaches_fn (by omega) (fun x hx => by have := hw.c x hx; omega)) ?_
  simp -dsimp -implicitDefEqProofs
  refine ifB_in (fun h3 => ?_) (fun h3 => ?_)
  rotate_left
  · simp -dsimp -implicitDefEqProofs [validRv, h3]
  have hls := lens_of h3
  have hsum := lens_sum hw hls
  simp -dsimp -implicitDefEqProofs
  refine onCall_in (lengthOf_fn (r := r) (by omega) hls) ?_
  simp -dsimp -implicitDefEqProofs
  refine onCall_in (shoals_fn (b := 1) (len := lenSum r.rs) (by omega) (by simp) (by simp) (by omega)) ?_
  simp -dsimp -implicitDefEqProofs
  refine ifB_in (fun h4 => ?_) (fun h4 => ?_)
  rotate_left
  · simp -dsimp -implicitDefEqProofs [validRv, h4]
  simp -dsimp -implicitDefEqProofs [validRv, h1, h2', h3, h4]

theorem rRiver_fn {r : Rv} {fu : Bool} {h : H} (hw : Small r) : Fn Try.prog 19 [r.av fu] h (B (validRv r)) h := by
  refine Fn.beside ?_ rfl h
  refine Fn.ofR0 noM (by kernel_rfl) Try.func19 rfl (by simp) ?_
  have hn := hw.n
  have hm := hw.m
  simp -dsimp -implicitDefEqProofs
  refine onCall_in In2_fn ?_
  simp -dsimp -implicitDefEqProofs
  refine ifB_in (fun h1 => ?_) (fun h1 => ?_)
  rotate_left
  · simp -dsimp -implicitDefEqProofs [validRv, h1]
  simp -dsimp -implicitDefEqProofs
  refine ifD_in (fun h2 => ?_) (fun h2 => ?_)
  · have h2' : decide (r.ss.length ≤ 40) = false := decide_eq_false (by omega)
    simp -dsimp -implicitDefEqProofs [validRv, h2']
  have h2' : decide (r.ss.length ≤ 40) = true := decide_eq_true (by omega)
  simp -dsimp -implicitDefEqProofs
  refine LoopCR.on 68 (fun i => [(1, .ptr 0 0), (3, I (i : Nat))]) (fun i => [some [r.reaches fu, r.shoals]]) (fun i => i ≤ r.rs.length ∧ (r.rs.take i).all validR = true) (fun i => r.rs.length - i) 0 [0] (by simp) ?_ ?_
  · simp -dsimp -implicitDefEqProofs
  rintro i j ⟨hi, hal⟩
  simp -dsimp -implicitDefEqProofs
  refine ifD_in (fun hlt => ?_) (fun hge => ?_)
  · have hlt' : i < r.rs.length := by omega
    have hx := List.getElem?_eq_getElem hlt'
    have hst : (r.rs.take (i + 1)).all validR = ((r.rs.take i).all validR && validR r.rs[i]) := by rw [List.take_add_one, hx]; simp only [Option.toList_some, List.all_append, List.all_cons, List.all_nil, Bool.and_true]
    have hcx := hw.c _ (List.getElem_mem hlt')
    have hbad : validR r.rs[i] = false → r.rs.all validR = false := fun hb => by
      cases ha : r.rs.all validR with
      | false => rfl
      | true => have := (List.all_eq_true.1 ha) _ (List.getElem_mem hlt'); rw [hb] at this; cases this
    simp -dsimp -implicitDefEqProofs [hx]
    refine onCall_in (rReach_fn (r := r.rs[i]) (by omega)) ?_
    simp -dsimp -implicitDefEqProofs
    refine ifB_in (fun h3 => ?_) (fun h3 => ?_)
    rotate_left
    · have := hbad h3
      simp -dsimp -implicitDefEqProofs [validRv, this]
    simp -dsimp -implicitDefEqProofs
    have hal2 : (r.rs.take (i + 1)).all validR = true := by rw [hst, hal, h3]; rfl
    refine again_in (i + 1) [0] ⟨by omega, hal2⟩ (by omega) ?_
    simp -dsimp -implicitDefEqProofs
    rw [wrap_in (by omega) (by omega)]
  have hin : i = r.rs.length := by omega
  subst hin
  rw [List.take_length] at hal
  have hls := lens_of hal
  have hsum := lens_sum hw hls
  have w1 := wrap_in (n := lenSum r.rs - 1) (by omega) (by omega)
  simp -dsimp -implicitDefEqProofs
  refine LoopCR.on 68 (fun i => [(1, .ptr 0 0), (4, I (i : Nat))]) (fun i => [some [r.reaches fu, r.shoals]]) (fun i => i ≤ r.ss.length ∧ (r.ss.take i).all (validSh (lenSum r.rs)) = true) (fun i => r.ss.length - i) 0 [0] (by simp) ?_ ?_
  · simp -dsimp -implicitDefEqProofs
  rintro i j ⟨hi, hal2⟩
  simp -dsimp -implicitDefEqProofs
  refine ifD_in (fun hlt => ?_) (fun hge => ?_)
  · have hlt' : i < r.ss.length := by omega
    have hx := List.getElem?_eq_getElem hlt'
    have hst : (r.ss.take (i + 1)).all (validSh (lenSum r.rs)) = ((r.ss.take i).all (validSh (lenSum r.rs)) && validSh (lenSum r.rs) r.ss[i]) := by rw [List.take_add_one, hx]; simp only [Option.toList_some, List.all_append, List.all_cons, List.all_nil, Bool.and_true]
    have hbad : validSh (lenSum r.rs) r.ss[i] = false → validRv r = false := fun hb => by
      have : r.ss.all (validSh (lenSum r.rs)) = false := by
        cases ha : r.ss.all (validSh (lenSum r.rs)) with
        | false => rfl
        | true => have := (List.all_eq_true.1 ha) _ (List.getElem_mem hlt'); rw [hb] at this; cases this
      simp [validRv, this]
    simp -dsimp -implicitDefEqProofs [hx]
    refine DrawR.on {} (by kernel_rfl) (by simp) ?_
    simp -dsimp -implicitDefEqProofs
    refine onCallQ_in (Places_fn (r := r) (by omega) hls) ?_
    simp -dsimp -implicitDefEqProofs [w1]
    refine onCallQ_in In2_fn ?_
    simp -dsimp -implicitDefEqProofs
    refine ifB_in (fun h3 => ?_) (fun h3 => ?_)
    rotate_left
    · have := hbad (by simp [validSh, h3])
      simp -dsimp -implicitDefEqProofs [this]
    simp -dsimp -implicitDefEqProofs
    refine onCallQ_in Valid2_fn ?_
    simp -dsimp -implicitDefEqProofs
    refine ifB_in (fun h4 => ?_) (fun h4 => ?_)
    rotate_left
    · have := hbad (by simp [validSh, h4])
      simp -dsimp -implicitDefEqProofs [this]
    simp -dsimp -implicitDefEqProofs
    refine onCallQ_in In2_fn ?_
    simp -dsimp -implicitDefEqProofs
    refine ifB_in (fun h5 => ?_) (fun h5 => ?_)
    rotate_left
    · have := hbad (by simp [validSh, h5])
      simp -dsimp -implicitDefEqProofs [this]
    simp -dsimp -implicitDefEqProofs
    refine onCallQ_in Valid2_fn ?_
    simp -dsimp -implicitDefEqProofs
    refine ifB_in (fun h6 => ?_) (fun h6 => ?_)
    rotate_left
    · have := hbad (by simp [validSh, h6])
      simp -dsimp -implicitDefEqProofs [this]
    simp -dsimp -implicitDefEqProofs
    have hal3 : (r.ss.take (i + 1)).all (validSh (lenSum r.rs)) = true := by rw [hst, hal2]; simp [validSh, h3, h4, h5, h6]
    refine again_in (i + 1) [0] ⟨by omega, hal3⟩ (by omega) ?_
    simp -dsimp -implicitDefEqProofs
    rw [wrap_in (by omega) (by omega)]
  have hin : i = r.ss.length := by omega
  subst hin
  rw [List.take_length] at hal2
  simp -dsimp -implicitDefEqProofs [validRv, h1, h2', hal, hal2]
end Go.Pe
