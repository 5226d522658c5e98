/- The law RiverChecks. -/
import Derived.Test.YtblpmcmapadphaaPiH
import Derived.Test.YtblpmcmapadphaaPfK
set_option linter.unusedVariables false
set_option linter.unusedSimpArgs false
namespace Go.Pe
open Go Go.Proofs Go.Proofs.Ytblpmcmapadphaa
attribute [local simp] t3 u3 t4 u4 t5 u5 t22 u22 t23 u23 t25 u25 t27 u27 t28 u28 t30 u30 t32 u32 t34 u34 t37 u37 t43 u43 t48 u48 t49 u49 t50 u50 t54 u54 t75 u75 t77 u77 t84 u84 t89 u89 t94 u94 t96 u96 t102 u102 t117 u117 t119 u119 t123 u123 t125 u125 t130 u130 t134 u134 t138 u138 t152 u152 t155 u155 t156 u156 t160 u160 t172 u172
set_option maxRecDepth 20000
set_option maxHeartbeats 8000000
attribute [local simp] fW_eq fR_eq fS_eq extA

theorem eql27 {a b a' b' : Int} {k : TK} {s : Nat} {z : List Value} {a1 f : Bool} {by' : Nat} : binX Try.prog 27 { kind := k, size := s, zero := z, agg := a1, bytes := by', fok := f, cmp := true } .eql (.agg [I a, I b]) (.agg [I a', I b']) = some (B (a == a' && (b == b' && true))) := by kernel_rfl
attribute [local simp] eql27

theorem rc_law {r : Rv} {x : Rc} {b : Bd} : Fn Try.prog 3 [r.av false, .agg (fR x), .agg [I b.lo, I b.hi]] .nil (B true) .nil := by
  refine Fn.ofR0 (butM [48]) (by kernel_rfl) Try.func3 rfl (by simp) ?_
  simp -dsimp -implicitDefEqProofs
  refine onCall_in large0_fn ?_
  simp -dsimp -implicitDefEqProofs
  refine ifB_in (fun h1 => ?_) (fun h1 => ?_)
  · simp -dsimp -implicitDefEqProofs
    refine onCall_in (known_fn.beside rfl _) ?_
    simp -dsimp -implicitDefEqProofs
  have hw := (small_of h1).r
  simp only at hw
  simp -dsimp -implicitDefEqProofs
  refine ifD_in (fun h2 => ?_) (fun h2 => ?_)
  · simp -dsimp -implicitDefEqProofs
    refine onCall_in (known_fn.beside rfl _) ?_
    simp -dsimp -implicitDefEqProofs
  have hxl : (x.curve.length : Int) < 2^62 := by omega
  have hb1 : x.curve.length * 16 ≤ 70368744177664 := by omega
  have hb2 : x.curve.length ≤ 70368744177664 := by omega
  simp -dsimp -implicitDefEqProofs
  refine onCall_in (copied_fn hw) ?_
  simp -dsimp -implicitDefEqProofs
  refine onCall_in (Check_fn hw) ?_
  cases hV : validRv r
  all_goals
    simp -dsimp -implicitDefEqProofs
    refine onCall_in (rRiver_fn hw) ?_
    simp -dsimp -implicitDefEqProofs [hV]
    refine onCall_in (unchanged_fn hw) ?_
    simp -dsimp -implicitDefEqProofs [hb1, hb2]
    refine onCall_in (Level_fn (r := x) (b := b) hxl) ?_
    simp -dsimp -implicitDefEqProofs
    refine onCall_in (rReach_fn (r := x) hxl) ?_
    simp -dsimp -implicitDefEqProofs
    refine ifB_in (fun h3 => ?_) (fun h3 => ?_)
    rotate_left
    · simp -dsimp -implicitDefEqProofs [levRes, h3]
      refine onCall_in (known_fn.beside rfl _) ?_
      simp -dsimp -implicitDefEqProofs
    simp -dsimp -implicitDefEqProofs
    refine onCall_in Valid2_fn ?_
    simp -dsimp -implicitDefEqProofs
    refine ifB_in (fun h4 => ?_) (fun h4 => ?_)
    rotate_left
    · simp -dsimp -implicitDefEqProofs [levRes, h3, h4]
      refine onCall_in (known_fn.beside rfl _) ?_
      simp -dsimp -implicitDefEqProofs
    have hbb := vB_iff.1 h4
    simp -dsimp -implicitDefEqProofs [levRes, h3, h4]
    refine DrawR.on {} (by kernel_rfl) (by simp) ?_
    simp -dsimp -implicitDefEqProofs
    refine onCallQ_in (rLevel_fn (r := x) (b := b) (validR_parts h3).2.2.2.1 (by omega) (by omega)) ?_
    simp -dsimp -implicitDefEqProofs
    refine onCallQ_in (known_fn.beside rfl _) ?_
    simp -dsimp -implicitDefEqProofs
end Go.Pe
