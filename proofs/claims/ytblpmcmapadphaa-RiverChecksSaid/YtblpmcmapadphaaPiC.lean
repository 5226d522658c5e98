/- Levels of a curve. -/
import Derived.Test.YtblpmcmapadphaaPiB
import Derived.Test.YtblpmcmapadphaaPgQ
set_option linter.unusedVariables false
set_option linter.unusedSimpArgs false
namespace Go.Pe
open Go Go.Proofs Go.Proofs.Ytblpmcmapadphaa
attribute [local simp] t3 u3 t4 u4 t5 u5 t22 u22 t23 u23 t25 u25 t27 u27 t28 u28 t30 u30 t32 u32 t34 u34 t37 u37 t43 u43 t48 u48 t49 u49 t50 u50 t54 u54 t75 u75 t77 u77 t84 u84 t89 u89 t94 u94 t96 u96 t102 u102 t117 u117 t119 u119 t123 u123 t125 u125 t130 u130 t134 u134 t138 u138 t152 u152 t155 u155 t156 u156 t160 u160 t172 u172
set_option maxRecDepth 20000
set_option maxHeartbeats 8000000
attribute [local simp] fW_eq fR_eq fS_eq

def rise (w v : Rw) (f : Int) : Int := (f - w.flow) * (v.level - w.level)
def part (w v : Rw) (f : Int) (up : Bool) : Int := if up then -((-rise w v f) / (v.flow - w.flow)) else rise w v f / (v.flow - w.flow)
def cv (f : Int) (up : Bool) : List Rw → Int
  | [] => 0
  | w :: l => match l with
    | [] => w.level
    | v :: _ => if f ≤ w.flow then w.level else if f < v.flow then w.level + part w v f up else cv f up l
def srt : List Rw → Prop
  | [] => True
  | w :: l => (match l with | [] => True | v :: _ => w.flow < v.flow ∧ w.level ≤ v.level) ∧ srt l
theorem part_at {w v : Rw} {up : Bool} : part w v w.flow up = 0 := by simp [part, rise]
theorem part_end {w v : Rw} {up : Bool} (h : w.flow < v.flow) : w.level + part w v v.flow up = v.level := by
  have h0 : v.flow - w.flow ≠ 0 := by omega
  simp only [part, rise]
  split
  · rw [← Int.mul_neg, Int.mul_ediv_cancel_left _ h0]; omega
  · rw [Int.mul_ediv_cancel_left _ h0]; omega
theorem cv_low {f : Int} {up : Bool} {w : Rw} {l : List Rw} (h : f ≤ w.flow) : cv f up (w :: l) = w.level := by
  cases l with
  | nil => rfl
  | cons v l => simp [cv, h]
theorem srt_lt : ∀ {l : List Rw} {i : Nat} {v : Rw}, srt l → 0 < i → l[i]? = some v → ∃ w, l.head? = some w ∧ w.flow < v.flow
  | [], i, v, _, _, h => by simp at h
  | [w], i, v, _, hi, h => by
    cases i with
    | zero => omega
    | succ i => simp at h
  | w :: u :: l, i, v, hs, hi, h => by
    obtain ⟨⟨h1, _⟩, hs'⟩ := hs
    cases i with
    | zero => omega
    | succ i =>
      by_cases hi0 : i = 0
      · subst hi0; simp at h; subst h; exact ⟨w, rfl, h1⟩
      · obtain ⟨u', h2, h3⟩ := srt_lt (l := u :: l) (i := i) hs' (by omega) (by simpa using h)
        simp at h2; subst h2
        exact ⟨w, rfl, by omega⟩
theorem cv_mid {f : Int} {up : Bool} : ∀ {l : List Rw} {i : Nat} {w v : Rw}, srt l → l[i]? = some w → l[i + 1]? = some v → w.flow ≤ f → f ≤ v.flow → cv f up l = w.level + part w v f up
  | [], i, w, v, _, h, _, _, _ => by simp at h
  | [x], i, w, v, _, _, h, _, _ => by simp at h
  | x :: y :: l, i, w, v, hs, hw, hv, h1, h2 => by
    obtain ⟨⟨g1, g2⟩, hs'⟩ := hs
    cases i with
    | zero =>
      simp at hw hv; subst hw; subst hv
      by_cases he : f ≤ x.flow
      · have : f = x.flow := by omega
        subst this
        rw [cv_low (Int.le_refl _), part_at]; omega
      · by_cases hy : f < y.flow
        · simp [cv, he, hy]
        · have : f = y.flow := by omega
          subst this
          rw [part_end g1]
          have : cv y.flow up (x :: y :: l) = cv y.flow up (y :: l) := by simp [cv, he]
          rw [this, cv_low (Int.le_refl _)]
    | succ i =>
      have hw' : (y :: l)[i]? = some w := by simpa using hw
      have hv' : (y :: l)[i + 1]? = some v := by simpa using hv
      have hyw : y.flow ≤ w.flow := by
        by_cases hi0 : i = 0
        · subst hi0; simp at hw'; subst hw'; exact Int.le_refl _
        · obtain ⟨y', h3, h4⟩ := srt_lt hs' (by omega) hw'
          simp at h3; subst h3; omega
      have e : cv f up (x :: y :: l) = cv f up (y :: l) := by
        have a1 : ¬ f ≤ x.flow := by omega
        have a2 : ¬ f < y.flow := by omega
        simp [cv, a1, a2]
      rw [e]; exact cv_mid hs' hw' hv' h1 h2
theorem cv_high {f : Int} {up : Bool} : ∀ {l : List Rw} {w : Rw}, srt l → l.getLast? = some w → w.flow ≤ f → cv f up l = w.level
  | [], w, _, h, _ => by simp at h
  | [x], w, _, h, _ => by simp at h; subst h; rfl
  | x :: y :: l, w, hs, hw, hf => by
    obtain ⟨⟨g1, g2⟩, hs'⟩ := hs
    have hw' : (y :: l).getLast? = some w := by simpa [List.getLast?_cons_cons] using hw
    have hyw : y.flow ≤ w.flow := by
      rw [List.getLast?_eq_getElem?] at hw'
      by_cases hi0 : (y :: l).length - 1 = 0
      · rw [hi0] at hw'; simp at hw'; subst hw'; exact Int.le_refl _
      · obtain ⟨y', h3, h4⟩ := srt_lt hs' (by omega) hw'
        simp at h3; subst h3; omega
    have e : cv f up (x :: y :: l) = cv f up (y :: l) := by
      have a1 : ¬ f ≤ x.flow := by omega
      have a2 : ¬ f < y.flow := by omega
      simp [cv, a1, a2]
    rw [e]; exact cv_high hs' hw' hf
theorem srt_of : ∀ {l : List Rw}, (∀ (k : Nat) (h : k + 1 < l.length), l[k].flow < l[k + 1].flow ∧ l[k].level ≤ l[k + 1].level) → srt l
  | [], _ => trivial
  | [w], _ => ⟨trivial, trivial⟩
  | w :: v :: l, h => ⟨h 0 (by simp), srt_of (l := v :: l) fun k hk => h (k + 1) (by simpa using hk)⟩
theorem validCv_parts {l : List Rw} (h : validCv l = true) : (2 ≤ l.length ∧ l.length ≤ 30) ∧ srt l ∧ ∀ w ∈ l, (0 ≤ w.flow ∧ w.flow ≤ 10000000000) ∧ 0 ≤ w.level ∧ w.level ≤ 10000 := by
  simp only [validCv, Bool.and_eq_true, decide_eq_true_eq, inB_iff] at h
  obtain ⟨h1, h2⟩ := h
  refine ⟨by omega, srt_of fun k hk => ?_, fun w hw => ?_⟩
  · have := (h2 (k + 1) hk hk).2 (by omega)
    simpa using this
  · obtain ⟨k, hk, rfl⟩ := List.getElem_of_mem hw
    have := (h2 k hk hk).1
    simpa only [inB_iff] using this

theorem rise_in {w v : Rw} {f : Int} (hw : (0 ≤ w.flow ∧ w.flow ≤ 10000000000) ∧ 0 ≤ w.level ∧ w.level ≤ 10000) (hv : (0 ≤ v.flow ∧ v.flow ≤ 10000000000) ∧ 0 ≤ v.level ∧ v.level ≤ 10000) (h1 : w.flow ≤ f) (h2 : f ≤ v.flow) (h3 : w.level ≤ v.level) : 0 ≤ rise w v f ∧ (rise w v f).natAbs ≤ 10000000000 * 10000 :=
  ⟨Int.mul_nonneg (by omega) (by omega), mul_in (by omega) (by omega)⟩
theorem part_in {w v : Rw} {f : Int} {up : Bool} (hr : 0 ≤ rise w v f ∧ (rise w v f).natAbs ≤ 10000000000 * 10000) (hd : 0 < v.flow - w.flow) : (part w v f up).natAbs ≤ 10000000000 * 10000 := by
  unfold part
  split
  · have := Int.natAbs_ediv_le_natAbs (-rise w v f) (v.flow - w.flow)
    omega
  · have := Int.natAbs_ediv_le_natAbs (rise w v f) (v.flow - w.flow)
    omega

/-- The levels of a valid curve at a flow. -/
theorem curveAt_fn {l : List Rw} {f : Int} {fu : Bool} {h : H} (hv : validCv l = true) (hf : f.natAbs ≤ 1000000000000) : Fn Try.prog 100 [.ro fu 2 (l.map fW), I f] h (.tup [I (cv f false l), I (cv f true l)]) h := by
  refine Fn.beside ?_ rfl h
  refine Fn.ofR0 noM (by kernel_rfl) Try.func100 rfl (by simp) ?_
  obtain ⟨hl, hs, hb⟩ := validCv_parts hv
  have ha := above_fn (l := l) (f := f) (fu := fu) (h := (mkH []).push [I f]) (b := 0) (by simp) (by omega)
  simp -dsimp -implicitDefEqProofs
  refine onCall_in ha ?_
  simp -dsimp -implicitDefEqProofs
  cases hi : l.findIdx? (fun w => decide (f < w.flow)) with
  | none =>
    have e : idx (fun w => decide (f < w.flow)) l = -1 := by simp [idx, hi]
    have hall := List.findIdx?_eq_none_iff.1 hi
    have hx := List.getElem?_eq_getElem (show l.length - 1 < l.length by omega)
    have w1 : IntKind.i64.wrap ((l.length : Int) - 1) = ((l.length - 1 : Nat) : Int) := by rw [wrap_in (by omega) (by omega)]; omega
    have hlast : l.getLast? = some l[l.length - 1] := by rw [List.getLast?_eq_getElem?, hx]
    have hle : l[l.length - 1].flow ≤ f := by have := hall _ (List.getElem_mem (show l.length - 1 < l.length by omega)); simpa using this
    have c1 := cv_high (up := false) hs hlast hle
    have c2 := cv_high (up := true) hs hlast hle
    simp -dsimp -implicitDefEqProofs [e, w1, hx]
    refine DrawR.on {} (by kernel_rfl) (by simp) ?_
    simp -dsimp -implicitDefEqProofs [c1, c2]
  | some i =>
    have e : idx (fun w => decide (f < w.flow)) l = (i : Nat) := by simp [idx, hi]
    obtain ⟨hil, hp, hq⟩ := List.findIdx?_eq_some_iff_getElem.1 hi
    simp only [decide_eq_true_eq] at hp hq
    have hx := List.getElem?_eq_getElem hil
    by_cases hi0 : i = 0
    · subst hi0
      have c1 : cv f false l = l[0].level := by cases l with | nil => simp at hil | cons w l => exact (cv_low (by have h9 := hp; simp only [List.getElem_cons_zero] at h9; omega)).trans (by simp)
      have c2 : cv f true l = l[0].level := by cases l with | nil => simp at hil | cons w l => exact (cv_low (by have h9 := hp; simp only [List.getElem_cons_zero] at h9; omega)).trans (by simp)
      simp -dsimp -implicitDefEqProofs [e]
      refine DrawR.on {} (by kernel_rfl) (by simp) ?_
      simp -dsimp -implicitDefEqProofs [c1, c2, hx]
    · have n1 : ((i : Int) == 0) = false := by simpa using hi0
      have n2 : ((i : Int) == -1) = false := by simp only [beq_eq_false_iff_ne, ne_eq]; omega
      have w1 : IntKind.i64.wrap ((i : Int) - 1) = ((i - 1 : Nat) : Int) := by rw [wrap_in (by omega) (by omega)]; omega
      have hx2 := List.getElem?_eq_getElem (show i - 1 < l.length by omega)
      have hlo : l[i - 1].flow ≤ f := by have := hq (i - 1) (by omega); simpa using this
      have hb1 := hb _ (List.getElem_mem hil)
      have hb2 := hb _ (List.getElem_mem (show i - 1 < l.length by omega))
      have hsr : l[i - 1].flow < l[i].flow ∧ l[i - 1].level ≤ l[i].level := by
        simp only [validCv, Bool.and_eq_true, decide_eq_true_eq] at hv
        exact (hv.2 i hil hil).2 (by omega)
      have hx' : l[i - 1 + 1]? = some l[i] := by rw [show i - 1 + 1 = i by omega]; exact hx
      have c1 := cv_mid (f := f) (up := false) hs hx2 hx' hlo (by omega)
      have c2 := cv_mid (f := f) (up := true) hs hx2 hx' hlo (by omega)
      have hr := rise_in hb2 hb1 hlo (by omega) hsr.2
      have p1 := part_in (up := false) hr (by omega)
      have p2 := part_in (up := true) hr (by omega)
      have er : (f - l[i - 1].flow) * (l[i].level - l[i - 1].level) = rise l[i - 1] l[i] f := rfl
      have v1 := wrap_in (n := f - l[i - 1].flow) (by omega) (by omega)
      have v2 := wrap_in (n := l[i].level - l[i - 1].level) (by omega) (by omega)
      have v3 := wrap_in (n := rise l[i - 1] l[i] f) (by omega) (by omega)
      have v4 := wrap_in (n := l[i].flow - l[i - 1].flow) (by omega) (by omega)
      have v5 := wrap_in (n := l[i - 1].level + part l[i - 1] l[i] f false) (by omega) (by omega)
      have v6 := wrap_in (n := l[i - 1].level + part l[i - 1] l[i] f true) (by omega) (by omega)
      have f1 := floor_fn (n := rise l[i - 1] l[i] f) (k := l[i].flow - l[i - 1].flow) (by omega) (by omega) (by omega)
      have f2 := ceil_fn (n := rise l[i - 1] l[i] f) (k := l[i].flow - l[i - 1].flow) (by omega) (by omega) (by omega)
      simp -dsimp -implicitDefEqProofs [e, n1, n2]
      refine DrawR.on {} (by kernel_rfl) (by simp) ?_
      simp -dsimp -implicitDefEqProofs [w1, hx, hx2]
      refine DrawR.on {} (by kernel_rfl) (by simp) ?_
      simp -dsimp -implicitDefEqProofs [v1, v2, er, v3, v4]
      refine DrawR.on {} (by kernel_rfl) (by simp) ?_
      simp -dsimp -implicitDefEqProofs
      refine onCallQ_in (f1.beside rfl _) ?_
      simp -dsimp -implicitDefEqProofs
      refine onCallQ_in (f2.beside rfl _) ?_
      simp -dsimp -implicitDefEqProofs [c1, c2]
      exact ⟨by simpa [part] using v5, by simpa [part] using v6⟩
end Go.Pe
