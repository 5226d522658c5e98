/- Rivers that are valid: the program's and the reference's word. -/
import Derived.Test.YtblpmcmapadphaaPiD
set_option linter.unusedVariables false
set_option linter.unusedSimpArgs false
namespace Go.Pe
open Go Go.Proofs Go.Proofs.Ytblpmcmapadphaa
attribute [local simp] t3 u3 t4 u4 t5 u5 t22 u22 t23 u23 t25 u25 t27 u27 t28 u28 t30 u30 t32 u32 t34 u34 t37 u37 t43 u43 t48 u48 t49 u49 t50 u50 t54 u54 t75 u75 t77 u77 t84 u84 t89 u89 t94 u94 t96 u96 t102 u102 t117 u117 t119 u119 t123 u123 t125 u125 t130 u130 t134 u134 t138 u138 t152 u152 t155 u155 t156 u156 t160 u160 t172 u172
set_option maxRecDepth 20000
set_option maxHeartbeats 8000000
attribute [local simp] fW_eq fR_eq fS_eq extA

theorem In2_fn {n lo hi : Int} {h : H} : Fn Try.prog 36 [I n, I lo, I hi] h (B (inB lo hi n)) h := In_fn
theorem Valid2_fn {b : Bd} {lo hi : Int} {h : H} : Fn Try.prog 23 [.agg [I b.lo, I b.hi], I lo, I hi] h (B (vB lo hi b)) h := by
  have := Valid_fn (b := b) (lo := lo) (hi := hi) (h := h)
  rwa [rValid_eq] at this
theorem rLevel_fn {r : Rc} {b : Bd} {h : H} (hv : validCv r.curve = true) (h1 : b.lo.natAbs ≤ 1000000000000) (h2 : b.hi.natAbs ≤ 1000000000000) : Fn Try.prog 24 [.agg (fR r), .agg [I b.lo, I b.hi]] h (.agg [I (lvl r b).lo, I (lvl r b).hi]) h := by
  refine Fn.beside ?_ rfl h
  refine Fn.ofR0 noM (by kernel_rfl) Try.func24 rfl (by simp) ?_
  simp -dsimp -implicitDefEqProofs
  refine DrawR.on { M := [2], eff := [(15, [2])] } (by kernel_rfl) (by simp) ?_
  simp -dsimp -implicitDefEqProofs
  refine onCallQ_in (Curve_fn hv h1) ?_
  simp -dsimp -implicitDefEqProofs
  refine onCallQ_in (Curve_fn hv h2) ?_
  simp -dsimp -implicitDefEqProofs [lvl]
  exact ⟨Int.max_comm _ _, Int.max_comm _ _⟩

theorem rReach_fn {r : Rc} {h : H} (hl : (r.curve.length : Int) < 2^62) : Fn Try.prog 22 [.agg (fR r)] h (B (validR r)) h := by
  refine Fn.beside ?_ rfl h
  refine Fn.ofR0 noM (by kernel_rfl) Try.func22 rfl (by simp) ?_
  simp -dsimp -implicitDefEqProofs
  refine onCall_in In2_fn ?_
  simp -dsimp -implicitDefEqProofs
  refine ifB_in (fun h1 => ?_) (fun h1 => ?_)
  rotate_left
  · simp -dsimp -implicitDefEqProofs [validR, h1]
  simp -dsimp -implicitDefEqProofs
  refine onCall_in In2_fn ?_
  simp -dsimp -implicitDefEqProofs
  refine ifB_in (fun h2 => ?_) (fun h2 => ?_)
  rotate_left
  · simp -dsimp -implicitDefEqProofs [validR, h2]
  simp -dsimp -implicitDefEqProofs
  refine onCall_in Valid2_fn ?_
  simp -dsimp -implicitDefEqProofs
  refine ifB_in (fun h3 => ?_) (fun h3 => ?_)
  rotate_left
  · simp -dsimp -implicitDefEqProofs [validR, h3]
  simp -dsimp -implicitDefEqProofs
  refine onCall_in In2_fn ?_
  simp -dsimp -implicitDefEqProofs
  refine ifB_in (fun h4 => ?_) (fun h4 => ?_)
  rotate_left
  · simp -dsimp -implicitDefEqProofs [validR, validCv, h4]
  simp -dsimp -implicitDefEqProofs
  refine onCall_in In2_fn ?_
  simp -dsimp -implicitDefEqProofs
  refine ifB_in (fun h5 => ?_) (fun h5 => ?_)
  rotate_left
  · simp -dsimp -implicitDefEqProofs [validR, h5]
  simp -dsimp -implicitDefEqProofs
  refine onCall_in Valid2_fn ?_
  simp -dsimp -implicitDefEqProofs
  refine ifB_in (fun h6 => ?_) (fun h6 => ?_)
  rotate_left
  · simp -dsimp -implicitDefEqProofs [validR, h6]
  simp -dsimp -implicitDefEqProofs
  refine onCall_in In2_fn ?_
  simp -dsimp -implicitDefEqProofs
  refine ifB_in (fun h7 => ?_) (fun h7 => ?_)
  rotate_left
  · simp -dsimp -implicitDefEqProofs [validR, h7]
  simp -dsimp -implicitDefEqProofs
  obtain ⟨l, hle⟩ : ∃ l, l = r.curve := ⟨_, rfl⟩
  rw [← hle] at hl h4
  have hvc : validR r = validCv l := by rw [validR, h1, h2, h3, h5, h6, h7, hle]; simp
  have hav : fR r = [I r.len, I r.delay, I r.base.lo, I r.base.hi, .ro false 2 (l.map fW), I r.weir, I r.bot.lo, I r.bot.hi, I r.flood] := by rw [hle]; rfl
  refine LoopCR.on 104 (fun i => [(1, .ptr 0 0), (3, I (i : Nat))]) (fun i => [some [I r.len, I r.delay, I r.base.lo, I r.base.hi, .ro false 2 (l.map fW), I r.weir, I r.bot.lo, I r.bot.hi, I r.flood]]) (fun i => i ≤ l.length ∧ upTo l i) (fun i => l.length - i) 0 [0] ⟨by simp, fun k _ hk => by omega⟩ ?_ ?_
  · simp -dsimp -implicitDefEqProofs [hle]
  rintro i j ⟨hi, hu⟩
  simp -dsimp -implicitDefEqProofs
  refine ifD_in (fun hlt => ?_) (fun hge => ?_)
  rotate_left
  · have hin : i = l.length := by omega
    subst hin
    simp -dsimp -implicitDefEqProofs [hvc, validCv, h4, hu]
  have hlt' : i < l.length := by omega
  have hx := List.getElem?_eq_getElem hlt'
  have bad : ∀ (P : Prop), (¬ P) → (upTo l l.length → P) → validCv l = false := fun P h2 h3 => by
    simp only [validCv, Bool.and_eq_false_iff, decide_eq_false_iff_not]
    exact .inr fun h4 => h2 (h3 h4)
  have b1 : (¬ inB 0 10000000000 l[i].flow = true) → validCv l = false := fun h9 => bad _ h9 fun hh => (hh i hlt' hlt').1.1
  have b2 : (¬ inB 0 10000 l[i].level = true) → validCv l = false := fun h9 => bad _ h9 fun hh => (hh i hlt' hlt').1.2
  have hst : ∀ (h5 : inB 0 10000000000 l[i].flow = true) (h6 : inB 0 10000 l[i].level = true) (h7 : ∀ (h0 : 0 < i), l[i - 1].flow < l[i].flow ∧ l[i - 1].level ≤ l[i].level), upTo l (i + 1) := fun h5 h6 h7 k hk hki => by
    by_cases hk' : k < i
    · exact hu k hk hk'
    · have : k = i := by omega
      subst this; exact ⟨⟨h5, h6⟩, h7⟩
  have b3 : ∀ (h0 : 0 < i), ¬ (l[i - 1].flow < l[i].flow ∧ l[i - 1].level ≤ l[i].level) → validCv l = false := fun h0 h2 => bad _ h2 fun hh => (hh i hlt' hlt').2 h0
  simp -dsimp -implicitDefEqProofs [hx]
  refine onCall_in In2_fn ?_
  simp -dsimp -implicitDefEqProofs
  refine ifB_in (fun h8 => ?_) (fun h8 => ?_)
  rotate_left
  · have := b1 (by simp [h8])
    simp -dsimp -implicitDefEqProofs [hvc, this]
  simp -dsimp -implicitDefEqProofs [hx]
  refine onCall_in In2_fn ?_
  simp -dsimp -implicitDefEqProofs
  refine ifB_in (fun h9 => ?_) (fun h9 => ?_)
  rotate_left
  · have := b2 (by simp [h9])
    simp -dsimp -implicitDefEqProofs [hvc, this]
  simp -dsimp -implicitDefEqProofs
  refine DrawR.on {} (by kernel_rfl) (by simp) ?_
  simp -dsimp -implicitDefEqProofs
  refine ifD_in (fun h10 => ?_) (fun h10 => ?_)
  · have h0 : 0 < i := by omega
    have e1 : IntKind.i64.wrap ((i : Int) - 1) = ((i - 1 : Nat) : Int) := by rw [wrap_in (by omega) (by omega)]; omega
    have hx2 := List.getElem?_eq_getElem (show i - 1 < l.length by omega)
    have b3' := b3 h0
    have hst' := hst h8 h9
    clear hst
    simp -dsimp -implicitDefEqProofs [hx, e1, hx2]
    refine ifD_in (fun h11 => ?_) (fun h11 => ?_)
    · have := b3' (by omega)
      simp -dsimp -implicitDefEqProofs [hvc, this]
    simp -dsimp -implicitDefEqProofs [hx, e1, hx2]
    refine ifD_in (fun h12 => ?_) (fun h12 => ?_)
    · have := b3' (by omega)
      simp -dsimp -implicitDefEqProofs [hvc, this]
    simp -dsimp -implicitDefEqProofs
    have hst2 := hst' fun _ => by omega
    refine again_in (i + 1) [0] ⟨by omega, hst2⟩ (by omega) ?_
    simp -dsimp -implicitDefEqProofs
    rw [wrap_in (by omega) (by omega)]
  · simp -dsimp -implicitDefEqProofs
    have hst2 := hst h8 h9 fun _ => by omega
    refine again_in (i + 1) [0] ⟨by omega, hst2⟩ (by omega) ?_
    simp -dsimp -implicitDefEqProofs
    rw [wrap_in (by omega) (by omega)]

theorem Places_fn {r : Rv} {fu : Bool} {h : H} (hl : r.rs.length ≤ 1000000) (hb : ∀ x ∈ r.rs, x.len.natAbs ≤ 1000000) : Fn Try.prog 40 [r.av fu] h (I (lenSum r.rs)) h := by
  refine Fn.beside ?_ rfl h
  refine Fn.ofR0 noM (by kernel_rfl) Try.func40 rfl (by simp) ?_
  simp -dsimp -implicitDefEqProofs
  refine LoopCR.on 21 (fun i => [(1, .ptr 0 0), (3, I (lenSum (r.rs.take i))), (4, I (i : Nat))]) (fun i => [some [r.reaches fu, r.shoals]]) (fun i => i ≤ r.rs.length) (fun i => r.rs.length - i) 0 [0] (by simp) ?_ ?_
  · simp -dsimp -implicitDefEqProofs [lenSum]
  intro i j hi
  simp -dsimp -implicitDefEqProofs
  refine ifD_in (fun hlt => ?_) (fun hge => ?_)
  · have hlt' : i < r.rs.length := by omega
    have hx := List.getElem?_eq_getElem hlt'
    have h1 := lenSum_in hb i (by omega)
    have h2 := hb _ (List.getElem_mem hlt')
    have h3 : lenSum (r.rs.take (i + 1)) = lenSum (r.rs.take i) + r.rs[i].len := by rw [List.take_add_one, hx, Option.toList_some, lenSum_snoc]
    have w1 := wrap_in (n := lenSum (r.rs.take i) + r.rs[i].len) (by omega) (by omega)
    simp -dsimp -implicitDefEqProofs [hx, w1]
    refine again_in (i + 1) [0] (by omega) (by omega) ?_
    simp -dsimp -implicitDefEqProofs [h3]
    rw [wrap_in (by omega) (by omega)]
  · have hin : i = r.rs.length := by omega
    subst hin
    simp -dsimp -implicitDefEqProofs
end Go.Pe
