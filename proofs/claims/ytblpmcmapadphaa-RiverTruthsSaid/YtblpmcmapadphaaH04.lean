import Derived.Test.YtblpmcmapadphaaH03
import Derived.Test.YtblpmcmapadphaaG01
set_option linter.unusedVariables false
set_option linter.unusedSimpArgs false
/- The law RiverDepths. -/
namespace Go.Pe
open Go Go.Proofs Go.Proofs.Ytblpmcmapadphaa
attribute [local simp] t3 u3 t4 u4 t5 u5 t22 u22 t23 u23 t25 u25 t27 u27 t28 u28 t30 u30 t32 u32 t34 u34 t37 u37 t43 u43 t48 u48 t49 u49 t50 u50 t54 u54 t75 u75 t77 u77 t84 u84 t89 u89 t94 u94 t96 u96 t102 u102 t117 u117 t119 u119 t123 u123 t125 u125 t130 u130 t134 u134 t138 u138 t152 u152 t155 u155 t156 u156 t160 u160 t172 u172
set_option maxRecDepth 20000
set_option maxHeartbeats 8000000
attribute [local simp] fW_eq fR_eq fS_eq extA fBd_eq fL_eq lenA_nil eqlB27 neqB2

theorem rd_law {f : Fc} {p k : Int} : Fn Try.prog 7 [.agg [f.r.reaches false, f.r.shoals, sidesAV f.sides false], I p, I k] .nil (B true) .nil := by
  refine Fn.ofR0 noM (by kernel_rfl) Try.func7 rfl (by simp) ?_
  simp -dsimp -implicitDefEqProofs
  refine onCall_in large_fn ?_
  simp -dsimp -implicitDefEqProofs
  refine ifB_in (fun h1 => ?_) (fun h1 => ?_)
  · simp -dsimp -implicitDefEqProofs
    refine onCall_in (known_fn.beside rfl _) ?_
    simp -dsimp -implicitDefEqProofs
  have hw := small_of h1
  have hn := hw.n
  have hc := hw.c
  have hrn := hw.r.n
  simp -dsimp -implicitDefEqProofs
  refine onCall_in (copied_fn hw.r) ?_
  simp -dsimp -implicitDefEqProofs
  have c0 : ∀ h, Fn Try.prog 29 [sidesAV f.sides false] h (sidesAV f.sides (isz f.sides.length)) h := fun h => forecast_fn (by omega) (fun x hx => by have := hc x hx; omega)
  cases hV : validRv f.r with
  | false =>
    have he : startE f = 2 := by simp [startE, hV]
    have cB := fun f1 h => Bed_bad (f1 := f1) (p := p) (k := k) (h := h) hw.r hV
    have cD : ∀ f1 f2 h, Fn Try.prog 39 [f.r.av f1, sidesAV f.sides f2, I p, I k] h (.tup [.agg [I 0, I 0], I 2]) h := fun f1 f2 h => by rw [← he]; exact Depth_bad hw (by rw [he]; decide)
    refine onCall_in (cB _ _) ?_
    simp -dsimp -implicitDefEqProofs [hV]
    refine DrawR.on {} (by kernel_rfl) (by simp) ?_
    simp -dsimp -implicitDefEqProofs [hV]
    refine onCallQ_in (copied_fn hw.r) ?_
    simp -dsimp -implicitDefEqProofs [hV]
    refine onCallQ_in (c0 _) ?_
    simp -dsimp -implicitDefEqProofs [hV]
    refine onCallQ_in (cD _ _ _) ?_
    simp -dsimp -implicitDefEqProofs [hV]
    refine onCall_in (rRiver_fn hw.r) ?_
    simp -dsimp -implicitDefEqProofs [hV]
    refine onCall_in (rRiver_fn hw.r) ?_
    simp -dsimp -implicitDefEqProofs [hV]
    refine onCall_in (rStart_fn hw) ?_
    simp -dsimp -implicitDefEqProofs [hV, he]
    refine onCall_in (known_fn.beside rfl _) ?_
    simp -dsimp -implicitDefEqProofs [hV]
  | true =>
    have o := okRv_of hV
    have hlen : ∀ x ∈ f.r.rs, x.len.natAbs ≤ 1000000 := fun x hx => by have := o.len x hx; omega
    have hls := lens_sum hw.r hlen
    have w1 : IntKind.i64.wrap (lenSum f.r.rs - 1) = lenSum f.r.rs - 1 := wrap_in (by omega) (by omega)
    cases hP : inB 0 (lenSum f.r.rs - 1) p with
    | false =>
      have hp : p < 0 ∨ lenSum f.r.rs ≤ p := by
        have h4 : ¬ inB 0 (lenSum f.r.rs - 1) p = true := by simp [hP]
        rw [inB_iff] at h4; omega
      have cB := fun f1 h => Bed_none (f1 := f1) (p := p) (k := k) (h := h) hw.r hV o.len hp
      by_cases he : startE f = 0
      · have g := good_of hw he
        have cD := fun f1 f2 h => Depth_none (f := f) (f1 := f1) (f2 := f2) (p := p) (k := k) (h := h) g o he hp
        refine onCall_in (cB _ _) ?_
        simp -dsimp -implicitDefEqProofs [hV, hP]
        refine DrawR.on {} (by kernel_rfl) (by simp) ?_
        simp -dsimp -implicitDefEqProofs [hV, hP]
        refine onCallQ_in (copied_fn hw.r) ?_
        simp -dsimp -implicitDefEqProofs [hV, hP]
        refine onCallQ_in (c0 _) ?_
        simp -dsimp -implicitDefEqProofs [hV, hP]
        refine onCallQ_in (cD _ _ _) ?_
        simp -dsimp -implicitDefEqProofs [hV, hP]
        refine onCall_in (rRiver_fn hw.r) ?_
        simp -dsimp -implicitDefEqProofs [hV, hP]
        refine onCall_in (Places_fn (by omega) hlen) ?_
        simp -dsimp -implicitDefEqProofs [hV, hP, w1]
        refine onCall_in In2_fn ?_
        simp -dsimp -implicitDefEqProofs [hV, hP]
        refine onCall_in (rRiver_fn hw.r) ?_
        simp -dsimp -implicitDefEqProofs [hV, hP]
        refine onCall_in (rStart_fn hw) ?_
        simp -dsimp -implicitDefEqProofs [hV, hP, he]
        refine onCall_in (known_fn.beside rfl _) ?_
        simp -dsimp -implicitDefEqProofs [hV, hP]
      · have ne0 : (startE f != 0) = true := by simpa using he
        have ne1 : (startE f == 0) = false := by simpa using he
        have cD := fun f1 f2 h => Depth_bad (f := f) (f1 := f1) (f2 := f2) (p := p) (k := k) (h := h) hw he
        refine onCall_in (cB _ _) ?_
        simp -dsimp -implicitDefEqProofs [hV, hP]
        refine DrawR.on {} (by kernel_rfl) (by simp) ?_
        simp -dsimp -implicitDefEqProofs [hV, hP]
        refine onCallQ_in (copied_fn hw.r) ?_
        simp -dsimp -implicitDefEqProofs [hV, hP]
        refine onCallQ_in (c0 _) ?_
        simp -dsimp -implicitDefEqProofs [hV, hP]
        refine onCallQ_in (cD _ _ _) ?_
        simp -dsimp -implicitDefEqProofs [hV, hP]
        refine onCall_in (rRiver_fn hw.r) ?_
        simp -dsimp -implicitDefEqProofs [hV, hP]
        refine onCall_in (Places_fn (by omega) hlen) ?_
        simp -dsimp -implicitDefEqProofs [hV, hP, w1]
        refine onCall_in In2_fn ?_
        simp -dsimp -implicitDefEqProofs [hV, hP]
        refine onCall_in (rRiver_fn hw.r) ?_
        simp -dsimp -implicitDefEqProofs [hV, hP]
        refine onCall_in (rStart_fn hw) ?_
        simp -dsimp -implicitDefEqProofs [hV, hP, ne0, ne1]
        refine onCall_in (known_fn.beside rfl _) ?_
        simp -dsimp -implicitDefEqProofs [hV, hP]
    | true =>
      have hP' := inB_iff.1 hP
      obtain ⟨q, y, ha⟩ := At.ex (rs := f.r.rs) (p := p) (by omega) (by omega)
      have hyv := validR_parts ((List.all_eq_true.1 (show f.r.rs.all validR = true by simp only [validRv, Bool.and_eq_true] at hV; exact hV.2.2.1)) y (List.mem_of_getElem? ha.hx))
      have hbot := vB_iff.1 hyv.2.2.2.2.2.2
      have cB0 := fun f1 h => Bed_fn (f1 := f1) (k := k) (h := h) hw.r hV o.len o.sh hP'.1 ha (by omega)
      cases hK : inB (-400) 400 k with
      | false =>
        have cB := cB0
        simp only [hK, if_true, Bool.false_eq_true, if_false] at cB
        by_cases he : startE f = 0
        rotate_left
        · have ne0 : (startE f != 0) = true := by simpa using he
          have ne1 : (startE f == 0) = false := by simpa using he
          have cD := fun f1 f2 h => Depth_bad (f := f) (f1 := f1) (f2 := f2) (p := p) (k := k) (h := h) hw he
          refine onCall_in (cB _ _) ?_
          simp -dsimp -implicitDefEqProofs [hV, hP, hK]
          refine DrawR.on {} (by kernel_rfl) (by simp) ?_
          simp -dsimp -implicitDefEqProofs [hV, hP, hK]
          refine onCallQ_in (copied_fn hw.r) ?_
          simp -dsimp -implicitDefEqProofs [hV, hP, hK]
          refine onCallQ_in (c0 _) ?_
          simp -dsimp -implicitDefEqProofs [hV, hP, hK]
          refine onCallQ_in (cD _ _ _) ?_
          simp -dsimp -implicitDefEqProofs [hV, hP, hK]
          refine onCall_in (rRiver_fn hw.r) ?_
          simp -dsimp -implicitDefEqProofs [hV, hP, hK]
          refine onCall_in (Places_fn (by omega) hlen) ?_
          simp -dsimp -implicitDefEqProofs [hV, hP, hK, w1]
          refine onCall_in In2_fn ?_
          simp -dsimp -implicitDefEqProofs [hV, hP, hK]
          refine onCall_in (rRiver_fn hw.r) ?_
          simp -dsimp -implicitDefEqProofs [hV, hP, hK]
          refine onCall_in In2_fn ?_
          simp -dsimp -implicitDefEqProofs [hV, hP, hK]
          refine onCall_in (rStart_fn hw) ?_
          simp -dsimp -implicitDefEqProofs [hV, hP, hK, ne0, ne1]
          refine onCall_in (known_fn.beside rfl _) ?_
          simp -dsimp -implicitDefEqProofs [hV, hP, hK]
        have g := good_of hw he
        have hm := g.hmax
        have hpos2 : 0 < f.sides.length := by have := g.pos; have := g.eq; omega
        have hx0 := List.getElem?_eq_getElem hpos2
        have hh : f.sides[0].length = hrs f.sides := by simp [hrs, List.headD_eq_head?_getD, List.head?_eq_getElem?, hx0]
        have w2 : IntKind.i64.wrap ((hrs f.sides : Int) - 1) = (hrs f.sides : Int) - 1 := wrap_in (by omega) (by omega)
        cases hH : inB 0 ((hrs f.sides : Int) - 1) k with
        | false =>
          have cD := fun f1 f2 h => Depth_err (f := f) (f1 := f1) (f2 := f2) (p := p) (k := k) (h := h) g o he hP'.1 ha hH
          refine onCall_in (cB _ _) ?_
          simp -dsimp -implicitDefEqProofs [hV, hP, hK, hH]
          refine DrawR.on {} (by kernel_rfl) (by simp) ?_
          simp -dsimp -implicitDefEqProofs [hV, hP, hK, hH]
          refine onCallQ_in (copied_fn hw.r) ?_
          simp -dsimp -implicitDefEqProofs [hV, hP, hK, hH]
          refine onCallQ_in (c0 _) ?_
          simp -dsimp -implicitDefEqProofs [hV, hP, hK, hH]
          refine onCallQ_in (cD _ _ _) ?_
          simp -dsimp -implicitDefEqProofs [hV, hP, hK, hH]
          refine onCall_in (rRiver_fn hw.r) ?_
          simp -dsimp -implicitDefEqProofs [hV, hP, hK, hH]
          refine onCall_in (Places_fn (by omega) hlen) ?_
          simp -dsimp -implicitDefEqProofs [hV, hP, hK, hH, w1]
          refine onCall_in In2_fn ?_
          simp -dsimp -implicitDefEqProofs [hV, hP, hK, hH]
          refine onCall_in (rRiver_fn hw.r) ?_
          simp -dsimp -implicitDefEqProofs [hV, hP, hK, hH]
          refine onCall_in In2_fn ?_
          simp -dsimp -implicitDefEqProofs [hV, hP, hK, hH]
          refine onCall_in (rStart_fn hw) ?_
          simp -dsimp -implicitDefEqProofs [hV, hP, hK, hH, he, hx0, hh, w2]
          refine onCall_in In2_fn ?_
          simp -dsimp -implicitDefEqProofs [hV, hP, hK, hH, he, hx0, hh, w2]
          refine onCall_in (known_fn.beside rfl _) ?_
          simp -dsimp -implicitDefEqProofs [hV, hP, hK, hH]
        | true =>
          have hH' := inB_iff.1 hH
          obtain ⟨k, rfl⟩ : ∃ m : Nat, k = m := ⟨k.toNat, by omega⟩
          have cD := fun f1 f2 h => Depth_fn (f := f) (f1 := f1) (f2 := f2) (p := p) (k := k) (h := h) g o he hP'.1 ha (by omega)
          have cE := fun h => rDepth_fn (f := f) (f1 := false) (f2 := false) (p := p) (k := k) (h := h) g o hP'.1 ha (by omega)
          exfalso
          have h4 : ¬ inB (-400) 400 (k : Int) = true := by simp [hK]
          rw [inB_iff] at h4; omega
      | true =>
        have cB := cB0
        simp only [hK, if_true, Bool.false_eq_true, if_false] at cB
        have hK' := inB_iff.1 hK
        have cR := fun h => rBed_fn (r := f.r) (fu := false) (hour := k) (h := h) hP'.1 o.len hrn ha o.sh hw.r.m (by omega) (by omega)
        by_cases he : startE f = 0
        rotate_left
        · have ne0 : (startE f != 0) = true := by simpa using he
          have ne1 : (startE f == 0) = false := by simpa using he
          have cD := fun f1 f2 h => Depth_bad (f := f) (f1 := f1) (f2 := f2) (p := p) (k := k) (h := h) hw he
          refine onCall_in (cB _ _) ?_
          simp -dsimp -implicitDefEqProofs [hV, hP, hK]
          refine DrawR.on {} (by kernel_rfl) (by simp) ?_
          simp -dsimp -implicitDefEqProofs [hV, hP, hK]
          refine onCallQ_in (copied_fn hw.r) ?_
          simp -dsimp -implicitDefEqProofs [hV, hP, hK]
          refine onCallQ_in (c0 _) ?_
          simp -dsimp -implicitDefEqProofs [hV, hP, hK]
          refine onCallQ_in (cD _ _ _) ?_
          simp -dsimp -implicitDefEqProofs [hV, hP, hK]
          refine onCall_in (rRiver_fn hw.r) ?_
          simp -dsimp -implicitDefEqProofs [hV, hP, hK]
          refine onCall_in (Places_fn (by omega) hlen) ?_
          simp -dsimp -implicitDefEqProofs [hV, hP, hK, w1]
          refine onCall_in In2_fn ?_
          simp -dsimp -implicitDefEqProofs [hV, hP, hK]
          refine onCall_in (rRiver_fn hw.r) ?_
          simp -dsimp -implicitDefEqProofs [hV, hP, hK]
          refine onCall_in In2_fn ?_
          simp -dsimp -implicitDefEqProofs [hV, hP, hK]
          refine DrawR.on {} (by kernel_rfl) (by simp) ?_
          simp -dsimp -implicitDefEqProofs [hV, hP, hK]
          refine onCallQ_in (cR _) ?_
          simp -dsimp -implicitDefEqProofs [hV, hP, hK]
          refine onCall_in (rStart_fn hw) ?_
          simp -dsimp -implicitDefEqProofs [hV, hP, hK, ne0, ne1]
          refine onCall_in (known_fn.beside rfl _) ?_
          simp -dsimp -implicitDefEqProofs [hV, hP, hK]
        have g := good_of hw he
        have hm := g.hmax
        have hpos2 : 0 < f.sides.length := by have := g.pos; have := g.eq; omega
        have hx0 := List.getElem?_eq_getElem hpos2
        have hh : f.sides[0].length = hrs f.sides := by simp [hrs, List.headD_eq_head?_getD, List.head?_eq_getElem?, hx0]
        have w2 : IntKind.i64.wrap ((hrs f.sides : Int) - 1) = (hrs f.sides : Int) - 1 := wrap_in (by omega) (by omega)
        cases hH : inB 0 ((hrs f.sides : Int) - 1) k with
        | false =>
          have cD := fun f1 f2 h => Depth_err (f := f) (f1 := f1) (f2 := f2) (p := p) (k := k) (h := h) g o he hP'.1 ha hH
          refine onCall_in (cB _ _) ?_
          simp -dsimp -implicitDefEqProofs [hV, hP, hK, hH]
          refine DrawR.on {} (by kernel_rfl) (by simp) ?_
          simp -dsimp -implicitDefEqProofs [hV, hP, hK, hH]
          refine onCallQ_in (copied_fn hw.r) ?_
          simp -dsimp -implicitDefEqProofs [hV, hP, hK, hH]
          refine onCallQ_in (c0 _) ?_
          simp -dsimp -implicitDefEqProofs [hV, hP, hK, hH]
          refine onCallQ_in (cD _ _ _) ?_
          simp -dsimp -implicitDefEqProofs [hV, hP, hK, hH]
          refine onCall_in (rRiver_fn hw.r) ?_
          simp -dsimp -implicitDefEqProofs [hV, hP, hK, hH]
          refine onCall_in (Places_fn (by omega) hlen) ?_
          simp -dsimp -implicitDefEqProofs [hV, hP, hK, hH, w1]
          refine onCall_in In2_fn ?_
          simp -dsimp -implicitDefEqProofs [hV, hP, hK, hH]
          refine onCall_in (rRiver_fn hw.r) ?_
          simp -dsimp -implicitDefEqProofs [hV, hP, hK, hH]
          refine onCall_in In2_fn ?_
          simp -dsimp -implicitDefEqProofs [hV, hP, hK, hH]
          refine DrawR.on {} (by kernel_rfl) (by simp) ?_
          simp -dsimp -implicitDefEqProofs [hV, hP, hK, hH]
          refine onCallQ_in (cR _) ?_
          simp -dsimp -implicitDefEqProofs [hV, hP, hK, hH]
          refine onCall_in (rStart_fn hw) ?_
          simp -dsimp -implicitDefEqProofs [hV, hP, hK, hH, he, hx0, hh, w2]
          refine onCall_in In2_fn ?_
          simp -dsimp -implicitDefEqProofs [hV, hP, hK, hH, he, hx0, hh, w2]
          refine onCall_in (known_fn.beside rfl _) ?_
          simp -dsimp -implicitDefEqProofs [hV, hP, hK, hH]
        | true =>
          have hH' := inB_iff.1 hH
          obtain ⟨k, rfl⟩ : ∃ m : Nat, k = m := ⟨k.toNat, by omega⟩
          have cD := fun f1 f2 h => Depth_fn (f := f) (f1 := f1) (f2 := f2) (p := p) (k := k) (h := h) g o he hP'.1 ha (by omega)
          have cE := fun h => rDepth_fn (f := f) (f1 := false) (f2 := false) (p := p) (k := k) (h := h) g o hP'.1 ha (by omega)
          refine onCall_in (cB _ _) ?_
          simp -dsimp -implicitDefEqProofs [hV, hP, hK, hH]
          refine DrawR.on {} (by kernel_rfl) (by simp) ?_
          simp -dsimp -implicitDefEqProofs [hV, hP, hK, hH]
          refine onCallQ_in (copied_fn hw.r) ?_
          simp -dsimp -implicitDefEqProofs [hV, hP, hK, hH]
          refine onCallQ_in (c0 _) ?_
          simp -dsimp -implicitDefEqProofs [hV, hP, hK, hH]
          refine onCallQ_in (cD _ _ _) ?_
          simp -dsimp -implicitDefEqProofs [hV, hP, hK, hH]
          refine onCall_in (rRiver_fn hw.r) ?_
          simp -dsimp -implicitDefEqProofs [hV, hP, hK, hH]
          refine onCall_in (Places_fn (by omega) hlen) ?_
          simp -dsimp -implicitDefEqProofs [hV, hP, hK, hH, w1]
          refine onCall_in In2_fn ?_
          simp -dsimp -implicitDefEqProofs [hV, hP, hK, hH]
          refine onCall_in (rRiver_fn hw.r) ?_
          simp -dsimp -implicitDefEqProofs [hV, hP, hK, hH]
          refine onCall_in In2_fn ?_
          simp -dsimp -implicitDefEqProofs [hV, hP, hK, hH]
          refine DrawR.on {} (by kernel_rfl) (by simp) ?_
          simp -dsimp -implicitDefEqProofs [hV, hP, hK, hH]
          refine onCallQ_in (cR _) ?_
          simp -dsimp -implicitDefEqProofs [hV, hP, hK, hH]
          refine onCall_in (rStart_fn hw) ?_
          simp -dsimp -implicitDefEqProofs [hV, hP, hK, hH, he, hx0, hh, w2]
          refine onCall_in In2_fn ?_
          simp -dsimp -implicitDefEqProofs [hV, hP, hK, hH, he, hx0, hh, w2]
          refine DrawR.on {} (by kernel_rfl) (by simp) ?_
          simp -dsimp -implicitDefEqProofs [hV, hP, hK, hH]
          refine onCallQ_in (cE _) ?_
          simp -dsimp -implicitDefEqProofs [hV, hP, hK, hH]
          refine onCallQ_in (known_fn.beside rfl _) ?_
          simp -dsimp -implicitDefEqProofs [hV, hP, hK, hH]
end Go.Pe
