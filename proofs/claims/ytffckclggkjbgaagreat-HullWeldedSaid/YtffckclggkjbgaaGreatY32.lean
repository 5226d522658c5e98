import Derived.Test.YtffckclggkjbgaaGreatY31
import Derived.Test.YtffckclggkjbgaaGreatY29
set_option linter.unusedVariables false
set_option linter.unusedSimpArgs false
/- Levels of a reach, and the reference's. -/
namespace Go.Pe
open Go Go.Proofs Go.Proofs.YtffckclggkjbgaaGreat
attribute [local simp] t3 u3 t4 u4 t5 u5 t22 u22 t23 u23 t25 u25 t27 u27 t28 u28 t30 u30 t32 u32   t37 u37 t43 u43     t50 u50   t75 u75 t77 u77     t94 u94   t102 u102 t117 u117 t119 u119     t130 u130 t134 u134 t138 u138   t155 u155 t156 u156   t172 u172
set_option maxRecDepth 20000
set_option maxHeartbeats 8000000
attribute [local simp] fW_eq fR_eq fS_eq extA

def lvl (r : Rc) (b : Bd) : Bd := ⟨max (cv b.lo false r.curve) r.weir, max (cv b.hi true r.curve) r.weir⟩
theorem levelAt_fn {r : Rc} {b : Bd} {h : H} (hv : validCv r.curve = true) (h1 : b.lo.natAbs ≤ 1000000000000) (h2 : b.hi.natAbs ≤ 1000000000000) : Fn Tryz.prog 132 [.agg (fR r), .agg [I b.lo, I b.hi]] h (.agg [I (lvl r b).lo, I (lvl r b).hi]) h := by
  refine Fn.beside ?_ rfl h
  refine Fn.ofR0 noM (by kernel_rfl) Tryz.func132 rfl (by simp) ?_
  simp -dsimp -implicitDefEqProofs
  refine onCall_in (curveAt_fn hv h1) ?_
  simp -dsimp -implicitDefEqProofs
  refine onCall_in (curveAt_fn hv h2) ?_
  simp -dsimp -implicitDefEqProofs [lvl]
theorem validR_parts {r : Rc} (h : validR r = true) : (1 ≤ r.len ∧ r.len ≤ 5000) ∧ (0 ≤ r.delay ∧ r.delay ≤ 200) ∧ vB 0 10000000000 r.base = true ∧ validCv r.curve = true ∧ (0 ≤ r.weir ∧ r.weir ≤ 10000) ∧ (0 ≤ r.flood ∧ r.flood ≤ 10000) ∧ vB 0 10000 r.bot = true := by
  simp only [validR, Bool.and_eq_true, inB_iff] at h
  obtain ⟨h1, h2, h3, h4, ⟨h5, h6⟩, h7⟩ := h
  exact ⟨h1, h2, h3, h4, h5, h6, h7⟩
open Classical in
noncomputable def levRes (r : Rc) (b : Bd) : Bd × Int := if validR r = true then (if vB 0 210000000000 b = true then (lvl r b, 0) else (⟨0, 0⟩, 3)) else (⟨0, 0⟩, 2)
theorem Level_fn {r : Rc} {b : Bd} {h : H} (hl : (r.curve.length : Int) < 2^62) : Fn Tryz.prog 93 [.agg (fR r), .agg [I b.lo, I b.hi]] h (.tup [.agg [I (levRes r b).1.lo, I (levRes r b).1.hi], I (levRes r b).2]) h := by
  refine Fn.beside ?_ rfl h
  refine Fn.ofR0 noM (by kernel_rfl) Tryz.func93 rfl (by simp) ?_
  simp -dsimp -implicitDefEqProofs
  refine onCall_in (validReach_fn hl) ?_
  simp -dsimp -implicitDefEqProofs
  refine ifB_in (fun h1 => ?_) (fun h1 => ?_)
  rotate_left
  · simp -dsimp -implicitDefEqProofs [levRes, h1]
  simp -dsimp -implicitDefEqProofs
  refine onCall_in v_fn ?_
  simp -dsimp -implicitDefEqProofs
  refine ifB_in (fun h2 => ?_) (fun h2 => ?_)
  rotate_left
  · simp -dsimp -implicitDefEqProofs [levRes, h1, h2]
  have hb := vB_iff.1 h2
  simp -dsimp -implicitDefEqProofs
  refine onCall_in (levelAt_fn (validR_parts h1).2.2.2.1 (by omega) (by omega)) ?_
  simp -dsimp -implicitDefEqProofs [levRes, h1, h2]

/-- The reference's divisions, for what is not below 0. -/
theorem FloorN_fn {n k : Int} (hk : 0 < k) (h0 : 0 ≤ n) (hn : n ≤ 1000000000000000000) {h : H} : Fn Tryz.prog 174 [I n, I k] h (I (n / k)) h := by
  refine Fn.beside ?_ rfl h
  refine Fn.ofR0 noM (by kernel_rfl) Tryz.func174 rfl (by simp) ?_
  have hk0 : k ≠ 0 := by omega
  have e : n.tdiv k = n / k := Int.tdiv_eq_ediv_of_nonneg h0
  have hd : k * (n / k) ≤ n := by have := Int.mul_ediv_add_emod n k; have := Int.emod_nonneg n hk0; omega
  have hq0 : 0 ≤ n / k := Int.ediv_nonneg h0 (by omega)
  have hq1 : 0 ≤ k * (n / k) := Int.mul_nonneg (by omega) hq0
  have hql : n / k ≤ n := Int.ediv_le_self _ h0
  have w0 := wrap_in (n := n / k) (by omega) (by omega)
  have w1 := wrap_in (n := n / k * k) (by rw [Int.mul_comm]; omega) (by rw [Int.mul_comm]; omega)
  have hc : decide (n < n / k * k) = false := decide_eq_false (by rw [Int.mul_comm]; omega)
  simp -dsimp -implicitDefEqProofs [hk0, e, w0, w1, hc]
theorem CeilN_fn {n k : Int} (hk : 0 < k) (h0 : 0 ≤ n) (hn : n ≤ 1000000000000000000) {h : H} : Fn Tryz.prog 108 [I n, I k] h (I (-((-n) / k))) h := by
  refine Fn.beside ?_ rfl h
  refine Fn.ofR0 noM (by kernel_rfl) Tryz.func108 rfl (by simp) ?_
  have hk0 : k ≠ 0 := by omega
  have e : n.tdiv k = n / k := Int.tdiv_eq_ediv_of_nonneg h0
  have hme := Int.mul_ediv_add_emod n k
  have hm0 := Int.emod_nonneg n hk0
  have hm1 := Int.emod_lt_of_pos n hk
  have hq0 : 0 ≤ n / k := Int.ediv_nonneg h0 (by omega)
  have hq1 : 0 ≤ k * (n / k) := Int.mul_nonneg (by omega) hq0
  have hql : n / k ≤ n := Int.ediv_le_self _ h0
  have w0 := wrap_in (n := n / k) (by omega) (by omega)
  have w1 := wrap_in (n := n / k * k) (by rw [Int.mul_comm]; omega) (by rw [Int.mul_comm]; omega)
  have w2 := wrap_in (n := n / k + 1) (by omega) (by omega)
  have hc : -((-n) / k) = if n / k * k < n then n / k + 1 else n / k := by
    split
    · rename_i hlt
      rw [Int.mul_comm] at hlt
      have : (-n) / k = -(n / k) - 1 := by
        rw [Int.ediv_eq_iff_of_pos hk, Int.sub_mul, Int.neg_mul, Int.one_mul, Int.mul_comm (n / k) k]
        omega
      omega
    · rename_i hge
      rw [Int.mul_comm] at hge
      have hz : n % k = 0 := by omega
      have hdv : k ∣ n := Int.dvd_of_emod_eq_zero hz
      rw [Int.neg_ediv_of_dvd hdv]; omega
  simp -dsimp -implicitDefEqProofs [hk0, e, w0, w1]
  refine ifD_in (fun h => ?_) (fun h => ?_)
  · simp -dsimp -implicitDefEqProofs [hk0, e, w0, w1, w2, hc, h]
  · simp -dsimp -implicitDefEqProofs [hk0, e, w0, w1, w2, hc, h]

/-- The reference's curve. -/
theorem Curve_fn {r : Rc} {f : Int} {up : Bool} {h : H} (hv : validCv r.curve = true) (hf : f.natAbs ≤ 1000000000000) : Fn Tryz.prog 173 [.agg (fR r), I f, B up] h (I (cv f up r.curve)) h := by
  refine Fn.beside ?_ rfl h
  refine Fn.ofR0 noM (by kernel_rfl) Tryz.func173 rfl (by simp) ?_
  obtain ⟨l, hle⟩ : ∃ l, l = r.curve := ⟨_, rfl⟩
  obtain ⟨hl, hs, hb⟩ := validCv_parts hv
  rw [← hle] at hl hs hb
  have hx0 := List.getElem?_eq_getElem (show 0 < l.length by omega)
  have hxl := List.getElem?_eq_getElem (show l.length - 1 < l.length by omega)
  have hlast : l.getLast? = some l[l.length - 1] := by rw [List.getLast?_eq_getElem?, hxl]
  have w1 : IntKind.i64.wrap ((l.length : Int) - 1) = ((l.length - 1 : Nat) : Int) := by rw [wrap_in (by omega) (by omega)]; omega
  have hcl : f ≤ l[0].flow → cv f up l = l[0].level := fun h9 => by
    cases l with
    | nil => simp at hl
    | cons w l => exact cv_low h9
  have hsort : ∀ (k : Nat) (h : k + 1 < l.length), l[k].flow < l[k + 1].flow ∧ l[k].level ≤ l[k + 1].level := fun k hk => by
    simp only [validCv, Bool.and_eq_true, decide_eq_true_eq] at hv
    rw [← hle] at hv
    have := (hv.2 (k + 1) hk hk).2 (by omega)
    simpa using this
  have hav : AV.agg (fR r) = .agg [I r.len, I r.delay, I r.base.lo, I r.base.hi, .ro false 2 (l.map fW), I r.weir, I r.bot.lo, I r.bot.hi, I r.flood] := by rw [hle]; rfl
  rw [hav, ← hle]
  simp -dsimp -implicitDefEqProofs [w1, hxl, hx0]
  refine ifD_in (fun h1 => ?_) (fun h1 => ?_)
  · have c1 := hcl h1
    simp -dsimp -implicitDefEqProofs [hx0, c1]
  simp -dsimp -implicitDefEqProofs
  refine ifD_in (fun h2 => ?_) (fun h2 => ?_)
  · have c2 := cv_high (up := up) hs hlast h2
    simp -dsimp -implicitDefEqProofs [c2]
  simp -dsimp -implicitDefEqProofs
  refine LoopCR.on 89 (fun i => [(1, I f), (2, B up), (3, .ptr 0 0), (8, I (i : Nat))]) (fun i => [some [I r.len, I r.delay, I r.base.lo, I r.base.hi, .ro false 2 (l.map fW), I r.weir, I r.bot.lo, I r.bot.hi, I r.flood]]) (fun i => i + 1 < l.length ∧ ∀ (h : i < l.length), l[i].flow < f) (fun i => l.length - i) 0 [0] ⟨by omega, fun _ => by omega⟩ ?_ ?_
  · simp -dsimp -implicitDefEqProofs
  rintro i j ⟨hi, hlt⟩
  have hlt := hlt (by omega)
  have hx := List.getElem?_eq_getElem (show i < l.length by omega)
  have hx1 := List.getElem?_eq_getElem hi
  have w2 : IntKind.i64.wrap ((i : Int) + 1) = ((i + 1 : Nat) : Int) := by rw [wrap_in (by omega) (by omega)]; omega
  simp -dsimp -implicitDefEqProofs [w2, hx1]
  refine ifD_in (fun h3 => ?_) (fun h3 => ?_)
  · have hi2 : i + 1 + 1 < l.length := by
      by_cases h9 : i + 1 + 1 < l.length
      · exact h9
      · have : i + 1 = l.length - 1 := by omega
        have : l[i + 1].flow = l[l.length - 1].flow := by simp only [this]
        omega
    simp -dsimp -implicitDefEqProofs [w2]
    refine again_in (i + 1) [0] ⟨hi2, fun _ => h3⟩ (by omega) ?_
    simp -dsimp -implicitDefEqProofs [w2]
  have hsr := hsort i hi
  have hb1 := hb _ (List.getElem_mem hi)
  have hb2 := hb _ (List.getElem_mem (show i < l.length by omega))
  have c1 := cv_mid (f := f) (up := up) hs hx hx1 (by omega) (by omega)
  have hr := rise_in hb2 hb1 (show l[i].flow ≤ f by omega) (by omega) hsr.2
  have p1 := part_in (up := up) hr (by omega)
  have er : (f - l[i].flow) * (l[i + 1].level - l[i].level) = rise l[i] l[i + 1] f := rfl
  have v1 := wrap_in (n := f - l[i].flow) (by omega) (by omega)
  have v2 := wrap_in (n := l[i + 1].level - l[i].level) (by omega) (by omega)
  have v3 := wrap_in (n := rise l[i] l[i + 1] f) (by omega) (by omega)
  have v4 := wrap_in (n := l[i + 1].flow - l[i].flow) (by omega) (by omega)
  have v5 := wrap_in (n := l[i].level + part l[i] l[i + 1] f up) (by omega) (by omega)
  have f1 := FloorN_fn (n := rise l[i] l[i + 1] f) (k := l[i + 1].flow - l[i].flow) (h := .nil) (by omega) (by omega) (by omega)
  have f2 := CeilN_fn (n := rise l[i] l[i + 1] f) (k := l[i + 1].flow - l[i].flow) (h := .nil) (by omega) (by omega) (by omega)
  simp -dsimp -implicitDefEqProofs
  refine DrawR.on {} (by kernel_rfl) (by simp) ?_
  simp -dsimp -implicitDefEqProofs [w2, hx, hx1]
  refine DrawR.on {} (by kernel_rfl) (by simp) ?_
  simp -dsimp -implicitDefEqProofs [v1, v2, er, v3, v4]
  cases up with
  | true =>
    simp -dsimp -implicitDefEqProofs
    refine DrawR.on {} (by kernel_rfl) (by simp) ?_
    simp -dsimp -implicitDefEqProofs
    refine onCallQ_in (f2.beside rfl _) ?_
    simp -dsimp -implicitDefEqProofs [c1]
    simpa [part] using v5
  | false =>
    simp -dsimp -implicitDefEqProofs
    refine DrawR.on {} (by kernel_rfl) (by simp) ?_
    simp -dsimp -implicitDefEqProofs
    refine onCallQ_in (f1.beside rfl _) ?_
    simp -dsimp -implicitDefEqProofs [c1]
    simpa [part] using v5
end Go.Pe

/- Rivers that are valid: the program's and the reference's word. -/
namespace Go.Pe
open Go Go.Proofs Go.Proofs.YtffckclggkjbgaaGreat
attribute [local simp] t3 u3 t4 u4 t5 u5 t22 u22 t23 u23 t25 u25 t27 u27 t28 u28 t30 u30 t32 u32   t37 u37 t43 u43     t50 u50   t75 u75 t77 u77     t94 u94   t102 u102 t117 u117 t119 u119     t130 u130 t134 u134 t138 u138   t155 u155 t156 u156   t172 u172
set_option maxRecDepth 20000
set_option maxHeartbeats 8000000
attribute [local simp] fW_eq fR_eq fS_eq extA

theorem In2_fn {n lo hi : Int} {h : H} : Fn Tryz.prog 65 [I n, I lo, I hi] h (B (inB lo hi n)) h := In_fn
theorem Valid2_fn {b : Bd} {lo hi : Int} {h : H} : Fn Tryz.prog 77 [.agg [I b.lo, I b.hi], I lo, I hi] h (B (vB lo hi b)) h := by
  have := Valid_fn (b := b) (lo := lo) (hi := hi) (h := h)
  rwa [rValid_eq] at this
theorem rLevel_fn {r : Rc} {b : Bd} {h : H} (hv : validCv r.curve = true) (h1 : b.lo.natAbs ≤ 1000000000000) (h2 : b.hi.natAbs ≤ 1000000000000) : Fn Tryz.prog 148 [.agg (fR r), .agg [I b.lo, I b.hi]] h (.agg [I (lvl r b).lo, I (lvl r b).hi]) h := by
  refine Fn.beside ?_ rfl h
  refine Fn.ofR0 noM (by kernel_rfl) Tryz.func148 rfl (by simp) ?_
  simp -dsimp -implicitDefEqProofs
  refine DrawR.on { M := [2], eff := [(15, [2])] } (by kernel_rfl) (by simp) ?_
  simp -dsimp -implicitDefEqProofs
  refine onCallQ_in (Curve_fn hv h1) ?_
  simp -dsimp -implicitDefEqProofs
  refine onCallQ_in (Curve_fn hv h2) ?_
  simp -dsimp -implicitDefEqProofs [lvl]
  exact ⟨Int.max_comm _ _, Int.max_comm _ _⟩

theorem rReach_fn {r : Rc} {h : H} (hl : (r.curve.length : Int) < 2^62) : Fn Tryz.prog 153 [.agg (fR r)] h (B (validR r)) h := by
  refine Fn.beside ?_ rfl h
  refine Fn.ofR0 noM (by kernel_rfl) Tryz.func153 rfl (by simp) ?_
  simp -dsimp -implicitDefEqProofs
  refine onCall_in In2_fn ?_
  simp -dsimp -implicitDefEqProofs
  refine ifB_in (fun h1 => ?_) (fun h1 => ?_)
  rotate_left
  · simp -dsimp -implicitDefEqProofs [validR, h1]
  simp -dsimp -implicitDefEqProofs
  refine onCall_in In2_fn ?_
  simp -dsimp -implicitDefEqProofs
  refine ifB_in (fun h2 => ?_) (fun h2 => ?_)
  rotate_left
  · simp -dsimp -implicitDefEqProofs [validR, h2]
  simp -dsimp -implicitDefEqProofs
  refine onCall_in Valid2_fn ?_
  simp -dsimp -implicitDefEqProofs
  refine ifB_in (fun h3 => ?_) (fun h3 => ?_)
  rotate_left
  · simp -dsimp -implicitDefEqProofs [validR, h3]
  simp -dsimp -implicitDefEqProofs
  refine onCall_in In2_fn ?_
  simp -dsimp -implicitDefEqProofs
  refine ifB_in (fun h4 => ?_) (fun h4 => ?_)
  rotate_left
  · simp -dsimp -implicitDefEqProofs [validR, validCv, h4]
  simp -dsimp -implicitDefEqProofs
  refine onCall_in In2_fn ?_
  simp -dsimp -implicitDefEqProofs
  refine ifB_in (fun h5 => ?_) (fun h5 => ?_)
  rotate_left
  · simp -dsimp -implicitDefEqProofs [validR, h5]
  simp -dsimp -implicitDefEqProofs
  refine onCall_in Valid2_fn ?_
  simp -dsimp -implicitDefEqProofs
  refine ifB_in (fun h6 => ?_) (fun h6 => ?_)
  rotate_left
  · simp -dsimp -implicitDefEqProofs [validR, h6]
  simp -dsimp -implicitDefEqProofs
  refine onCall_in In2_fn ?_
  simp -dsimp -implicitDefEqProofs
  refine ifB_in (fun h7 => ?_) (fun h7 => ?_)
  rotate_left
  · simp -dsimp -implicitDefEqProofs [validR, h7]
  simp -dsimp -implicitDefEqProofs
  obtain ⟨l, hle⟩ : ∃ l, l = r.curve := ⟨_, rfl⟩
  rw [← hle] at hl h4
  have hvc : validR r = validCv l := by rw [validR, h1, h2, h3, h5, h6, h7, hle]; simp
  have hav : fR r = [I r.len, I r.delay, I r.base.lo, I r.base.hi, .ro false 2 (l.map fW), I r.weir, I r.bot.lo, I r.bot.hi, I r.flood] := by rw [hle]; rfl
  refine LoopCR.on 104 (fun i => [(1, .ptr 0 0), (3, I (i : Nat))]) (fun i => [some [I r.len, I r.delay, I r.base.lo, I r.base.hi, .ro false 2 (l.map fW), I r.weir, I r.bot.lo, I r.bot.hi, I r.flood]]) (fun i => i ≤ l.length ∧ upTo l i) (fun i => l.length - i) 0 [0] ⟨by simp, fun k _ hk => by omega⟩ ?_ ?_
  · simp -dsimp -implicitDefEqProofs [hle]
  rintro i j ⟨hi, hu⟩
  simp -dsimp -implicitDefEqProofs
  refine ifD_in (fun hlt => ?_) (fun hge => ?_)
  rotate_left
  · have hin : i = l.length := by omega
    subst hin
    simp -dsimp -implicitDefEqProofs [hvc, validCv, h4, hu]
  have hlt' : i < l.length := by omega
  have hx := List.getElem?_eq_getElem hlt'
  have bad : ∀ (P : Prop), (¬ P) → (upTo l l.length → P) → validCv l = false := fun P h2 h3 => by
    simp only [validCv, Bool.and_eq_false_iff, decide_eq_false_iff_not]
    exact .inr fun h4 => h2 (h3 h4)
  have b1 : (¬ inB 0 10000000000 l[i].flow = true) → validCv l = false := fun h9 => bad _ h9 fun hh => (hh i hlt' hlt').1.1
  have b2 : (¬ inB 0 10000 l[i].level = true) → validCv l = false := fun h9 => bad _ h9 fun hh => (hh i hlt' hlt').1.2
  have hst : ∀ (h5 : inB 0 10000000000 l[i].flow = true) (h6 : inB 0 10000 l[i].level = true) (h7 : ∀ (h0 : 0 < i), l[i - 1].flow < l[i].flow ∧ l[i - 1].level ≤ l[i].level), upTo l (i + 1) := fun h5 h6 h7 k hk hki => by
    by_cases hk' : k < i
    · exact hu k hk hk'
    · have : k = i := by omega
      subst this; exact ⟨⟨h5, h6⟩, h7⟩
  have b3 : ∀ (h0 : 0 < i), ¬ (l[i - 1].flow < l[i].flow ∧ l[i - 1].level ≤ l[i].level) → validCv l = false := fun h0 h2 => bad _ h2 fun hh => (hh i hlt' hlt').2 h0
  simp -dsimp -implicitDefEqProofs [hx]
  refine onCall_in In2_fn ?_
  simp -dsimp -implicitDefEqProofs
  refine ifB_in (fun h8 => ?_) (fun h8 => ?_)
  rotate_left
  · have := b1 (by simp [h8])
    simp -dsimp -implicitDefEqProofs [hvc, this]
  simp -dsimp -implicitDefEqProofs [hx]
  refine onCall_in In2_fn ?_
  simp -dsimp -implicitDefEqProofs
  refine ifB_in (fun h9 => ?_) (fun h9 => ?_)
  rotate_left
  · have := b2 (by simp [h9])
    simp -dsimp -implicitDefEqProofs [hvc, this]
  simp -dsimp -implicitDefEqProofs
  refine DrawR.on {} (by kernel_rfl) (by simp) ?_
  simp -dsimp -implicitDefEqProofs
  refine ifD_in (fun h10 => ?_) (fun h10 => ?_)
  · have h0 : 0 < i := by omega
    have e1 : IntKind.i64.wrap ((i : Int) - 1) = ((i - 1 : Nat) : Int) := by rw [wrap_in (by omega) (by omega)]; omega
    have hx2 := List.getElem?_eq_getElem (show i - 1 < l.length by omega)
    have b3' := b3 h0
    have hst' := hst h8 h9
    clear hst
    simp -dsimp -implicitDefEqProofs [hx, e1, hx2]
    refine ifD_in (fun h11 => ?_) (fun h11 => ?_)
    · have := b3' (by omega)
      simp -dsimp -implicitDefEqProofs [hvc, this]
    simp -dsimp -implicitDefEqProofs [hx, e1, hx2]
    refine ifD_in (fun h12 => ?_) (fun h12 => ?_)
    · have := b3' (by omega)
      simp -dsimp -implicitDefEqProofs [hvc, this]
    simp -dsimp -implicitDefEqProofs
    have hst2 := hst' fun _ => by omega
    refine again_in (i + 1) [0] ⟨by omega, hst2⟩ (by omega) ?_
    simp -dsimp -implicitDefEqProofs
    rw [wrap_in (by omega) (by omega)]
  · simp -dsimp -implicitDefEqProofs
    have hst2 := hst h8 h9 fun _ => by omega
    refine again_in (i + 1) [0] ⟨by omega, hst2⟩ (by omega) ?_
    simp -dsimp -implicitDefEqProofs
    rw [wrap_in (by omega) (by omega)]

theorem Places_fn {r : Rv} {fu : Bool} {h : H} (hl : r.rs.length ≤ 1000000) (hb : ∀ x ∈ r.rs, x.len.natAbs ≤ 1000000) : Fn Tryz.prog 116 [r.av fu] h (I (lenSum r.rs)) h := by
  refine Fn.beside ?_ rfl h
  refine Fn.ofR0 noM (by kernel_rfl) Tryz.func116 rfl (by simp) ?_
  simp -dsimp -implicitDefEqProofs
  refine LoopCR.on 21 (fun i => [(1, .ptr 0 0), (3, I (lenSum (r.rs.take i))), (4, I (i : Nat))]) (fun i => [some [r.reaches fu, r.shoals]]) (fun i => i ≤ r.rs.length) (fun i => r.rs.length - i) 0 [0] (by simp) ?_ ?_
  · simp -dsimp -implicitDefEqProofs [lenSum]
  intro i j hi
  simp -dsimp -implicitDefEqProofs
  refine ifD_in (fun hlt => ?_) (fun hge => ?_)
  · have hlt' : i < r.rs.length := by omega
    have hx := List.getElem?_eq_getElem hlt'
    have h1 := lenSum_in hb i (by omega)
    have h2 := hb _ (List.getElem_mem hlt')
    have h3 : lenSum (r.rs.take (i + 1)) = lenSum (r.rs.take i) + r.rs[i].len := by rw [List.take_add_one, hx, Option.toList_some, lenSum_snoc]
    have w1 := wrap_in (n := lenSum (r.rs.take i) + r.rs[i].len) (by omega) (by omega)
    simp -dsimp -implicitDefEqProofs [hx, w1]
    refine again_in (i + 1) [0] (by omega) (by omega) ?_
    simp -dsimp -implicitDefEqProofs [h3]
    rw [wrap_in (by omega) (by omega)]
  · have hin : i = r.rs.length := by omega
    subst hin
    simp -dsimp -implicitDefEqProofs
end Go.Pe

/- Mean drafts: less density, more draft. -/
namespace Go.Pe
open Go Go.Proofs Go.Proofs.YtffckclggkjbgaaGreat
set_option maxRecDepth 20000
set_option maxHeartbeats 8000000
theorem cdiv_le {n d q : Int} (hd : 0 < d) : cdiv n d ≤ q ↔ n ≤ q * d := by
  unfold cdiv
  have h := Int.ediv_lt_iff_lt_mul (a := n + d - 1) (b := q + 1) hd
  rw [Int.add_mul] at h
  omega
theorem cdiv_anti {n d d' : Int} (hn : 0 ≤ n) (hd : 0 < d) (hdd : d ≤ d') : cdiv n d' ≤ cdiv n d := by
  refine (cdiv_le (by omega)).2 ?_
  have h1 := (cdiv_le (n := n) (d := d) (q := cdiv n d) hd).1 (Int.le_refl _)
  have h2 := Int.mul_le_mul_of_nonneg_left hdd (cdiv_in hn hd).1
  omega
theorem cdiv_mono {n n' d : Int} (hd : 0 < d) (hn : n ≤ n') : cdiv n d ≤ cdiv n' d := by
  refine (cdiv_le hd).2 ?_
  have h1 := (cdiv_le (n := n') (d := d) (q := cdiv n' d) hd).1 (Int.le_refl _)
  omega
theorem meanZ_mono {u : Hu} {n n' : Int} (h : n ≤ n') : meanZ u n ≤ meanZ u n' := by
  have a := firstN_is (P := fun d => decide (n ≤ vol u (d : Nat))) (n := (lim u).toNat + 1)
  have b := firstN_is (P := fun d => decide (n' ≤ vol u (d : Nat))) (n := (lim u).toNat + 1)
  by_cases hlt : meanZ u n' < meanZ u n
  · have h1 := a.no _ hlt
    have h2 := b.hit (by have := a.le; unfold meanZ at hlt; omega)
    have h3 := of_decide_eq_false h1
    have h4 := of_decide_eq_true h2
    unfold meanZ at h3
    omega
  · omega
theorem mZ_anti {u : Hu} {l : List Int} {d d' : Int} (o : OkU u) (k : OkL u l) (hd : 0 < d) (hdd : d ≤ d') : mZ u l d' ≤ mZ u l d := by
  have hm := mass_in o k (n := l.length) (Nat.le_refl _)
  have := meanZ_mono (u := u) (cdiv_anti (n := mass u l l.length * 1000) (by omega) hd hdd)
  unfold mZ
  omega
end Go.Pe
