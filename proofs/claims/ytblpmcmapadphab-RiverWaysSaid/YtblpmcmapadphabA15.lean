import Derived.Test.YtblpmcmapadphabA12
import Derived.Test.YtblpmcmapadphabA14
set_option linter.unusedVariables false
set_option linter.unusedSimpArgs false
/- Levels of a curve. -/
namespace Go.Pe
open Go Go.Proofs Go.Proofs.Ytblpmcmapadphab
attribute [local simp] t3 u3 t4 u4 t5 u5 t22 u22 t23 u23 t25 u25 t27 u27 t28 u28 t30 u30 t32 u32 t34 u34 t37 u37 t43 u43 t48 u48 t49 u49 t50 u50 t54 u54 t75 u75 t77 u77         t102 u102 t117 u117 t119 u119 t123 u123 t125 u125 t130 u130 t134 u134 t138 u138   t155 u155 t156 u156 t160 u160 t172 u172
set_option maxRecDepth 20000
set_option maxHeartbeats 8000000
attribute [local simp] fW_eq fR_eq fS_eq

def rise (w v : Rw) (f : Int) : Int := (f - w.flow) * (v.level - w.level)
def part (w v : Rw) (f : Int) (up : Bool) : Int := if up then -((-rise w v f) / (v.flow - w.flow)) else rise w v f / (v.flow - w.flow)
def cv (f : Int) (up : Bool) : List Rw → Int
  | [] => 0
  | w :: l => match l with
    | [] => w.level
    | v :: _ => if f ≤ w.flow then w.level else if f < v.flow then w.level + part w v f up else cv f up l
def srt : List Rw → Prop
  | [] => True
  | w :: l => (match l with | [] => True | v :: _ => w.flow < v.flow ∧ w.level ≤ v.level) ∧ srt l
theorem part_at {w v : Rw} {up : Bool} : part w v w.flow up = 0 := by simp [part, rise]
theorem part_end {w v : Rw} {up : Bool} (h : w.flow < v.flow) : w.level + part w v v.flow up = v.level := by
  have h0 : v.flow - w.flow ≠ 0 := by omega
  simp only [part, rise]
  split
  · rw [← Int.mul_neg, Int.mul_ediv_cancel_left _ h0]; omega
  · rw [Int.mul_ediv_cancel_left _ h0]; omega
theorem cv_low {f : Int} {up : Bool} {w : Rw} {l : List Rw} (h : f ≤ w.flow) : cv f up (w :: l) = w.level := by
  cases l with
  | nil => rfl
  | cons v l => simp [cv, h]
theorem srt_lt : ∀ {l : List Rw} {i : Nat} {v : Rw}, srt l → 0 < i → l[i]? = some v → ∃ w, l.head? = some w ∧ w.flow < v.flow
  | [], i, v, _, _, h => by simp at h
  | [w], i, v, _, hi, h => by
    cases i with
    | zero => omega
    | succ i => simp at h
  | w :: u :: l, i, v, hs, hi, h => by
    obtain ⟨⟨h1, _⟩, hs'⟩ := hs
    cases i with
    | zero => omega
    | succ i =>
      by_cases hi0 : i = 0
      · subst hi0; simp at h; subst h; exact ⟨w, rfl, h1⟩
      · obtain ⟨u', h2, h3⟩ := srt_lt (l := u :: l) (i := i) hs' (by omega) (by simpa using h)
        simp at h2; subst h2
        exact ⟨w, rfl, by omega⟩
theorem cv_mid {f : Int} {up : Bool} : ∀ {l : List Rw} {i : Nat} {w v : Rw}, srt l → l[i]? = some w → l[i + 1]? = some v → w.flow ≤ f → f ≤ v.flow → cv f up l = w.level + part w v f up
  | [], i, w, v, _, h, _, _, _ => by simp at h
  | [x], i, w, v, _, _, h, _, _ => by simp at h
  | x :: y :: l, i, w, v, hs, hw, hv, h1, h2 => by
    obtain ⟨⟨g1, g2⟩, hs'⟩ := hs
    cases i with
    | zero =>
      simp at hw hv; subst hw; subst hv
      by_cases he : f ≤ x.flow
      · have : f = x.flow := by omega
        subst this
        rw [cv_low (Int.le_refl _), part_at]; omega
      · by_cases hy : f < y.flow
        · simp [cv, he, hy]
        · have : f = y.flow := by omega
          subst this
          rw [part_end g1]
          have : cv y.flow up (x :: y :: l) = cv y.flow up (y :: l) := by simp [cv, he]
          rw [this, cv_low (Int.le_refl _)]
    | succ i =>
      have hw' : (y :: l)[i]? = some w := by simpa using hw
      have hv' : (y :: l)[i + 1]? = some v := by simpa using hv
      have hyw : y.flow ≤ w.flow := by
        by_cases hi0 : i = 0
        · subst hi0; simp at hw'; subst hw'; exact Int.le_refl _
        · obtain ⟨y', h3, h4⟩ := srt_lt hs' (by omega) hw'
          simp at h3; subst h3; omega
      have e : cv f up (x :: y :: l) = cv f up (y :: l) := by
        have a1 : ¬ f ≤ x.flow := by omega
        have a2 : ¬ f < y.flow := by omega
        simp [cv, a1, a2]
      rw [e]; exact cv_mid hs' hw' hv' h1 h2
theorem cv_high {f : Int} {up : Bool} : ∀ {l : List Rw} {w : Rw}, srt l → l.getLast? = some w → w.flow ≤ f → cv f up l = w.level
  | [], w, _, h, _ => by simp at h
  | [x], w, _, h, _ => by simp at h; subst h; rfl
  | x :: y :: l, w, hs, hw, hf => by
    obtain ⟨⟨g1, g2⟩, hs'⟩ := hs
    have hw' : (y :: l).getLast? = some w := by simpa [List.getLast?_cons_cons] using hw
    have hyw : y.flow ≤ w.flow := by
      rw [List.getLast?_eq_getElem?] at hw'
      by_cases hi0 : (y :: l).length - 1 = 0
      · rw [hi0] at hw'; simp at hw'; subst hw'; exact Int.le_refl _
      · obtain ⟨y', h3, h4⟩ := srt_lt hs' (by omega) hw'
        simp at h3; subst h3; omega
    have e : cv f up (x :: y :: l) = cv f up (y :: l) := by
      have a1 : ¬ f ≤ x.flow := by omega
      have a2 : ¬ f < y.flow := by omega
      simp [cv, a1, a2]
    rw [e]; exact cv_high hs' hw' hf
theorem srt_of : ∀ {l : List Rw}, (∀ (k : Nat) (h : k + 1 < l.length), l[k].flow < l[k + 1].flow ∧ l[k].level ≤ l[k + 1].level) → srt l
  | [], _ => trivial
  | [w], _ => ⟨trivial, trivial⟩
  | w :: v :: l, h => ⟨h 0 (by simp), srt_of (l := v :: l) fun k hk => h (k + 1) (by simpa using hk)⟩
theorem validCv_parts {l : List Rw} (h : validCv l = true) : (2 ≤ l.length ∧ l.length ≤ 30) ∧ srt l ∧ ∀ w ∈ l, (0 ≤ w.flow ∧ w.flow ≤ 10000000000) ∧ 0 ≤ w.level ∧ w.level ≤ 10000 := by
  simp only [validCv, Bool.and_eq_true, decide_eq_true_eq, inB_iff] at h
  obtain ⟨h1, h2⟩ := h
  refine ⟨by omega, srt_of fun k hk => ?_, fun w hw => ?_⟩
  · have := (h2 (k + 1) hk hk).2 (by omega)
    simpa using this
  · obtain ⟨k, hk, rfl⟩ := List.getElem_of_mem hw
    have := (h2 k hk hk).1
    simpa only [inB_iff] using this

theorem rise_in {w v : Rw} {f : Int} (hw : (0 ≤ w.flow ∧ w.flow ≤ 10000000000) ∧ 0 ≤ w.level ∧ w.level ≤ 10000) (hv : (0 ≤ v.flow ∧ v.flow ≤ 10000000000) ∧ 0 ≤ v.level ∧ v.level ≤ 10000) (h1 : w.flow ≤ f) (h2 : f ≤ v.flow) (h3 : w.level ≤ v.level) : 0 ≤ rise w v f ∧ (rise w v f).natAbs ≤ 10000000000 * 10000 :=
  ⟨Int.mul_nonneg (by omega) (by omega), mul_in (by omega) (by omega)⟩
theorem part_in {w v : Rw} {f : Int} {up : Bool} (hr : 0 ≤ rise w v f ∧ (rise w v f).natAbs ≤ 10000000000 * 10000) (hd : 0 < v.flow - w.flow) : (part w v f up).natAbs ≤ 10000000000 * 10000 := by
  unfold part
  split
  · have := Int.natAbs_ediv_le_natAbs (-rise w v f) (v.flow - w.flow)
    omega
  · have := Int.natAbs_ediv_le_natAbs (rise w v f) (v.flow - w.flow)
    omega

/-- The levels of a valid curve at a flow. -/
theorem curveAt_fn {l : List Rw} {f : Int} {fu : Bool} {h : H} (hv : validCv l = true) (hf : f.natAbs ≤ 1000000000000) : Fn Try.prog 70 [.ro fu 2 (l.map fW), I f] h (.tup [I (cv f false l), I (cv f true l)]) h := by
  refine Fn.beside ?_ rfl h
  refine Fn.ofR0 noM (by kernel_rfl) Try.func70 rfl (by simp) ?_
  obtain ⟨hl, hs, hb⟩ := validCv_parts hv
  have ha := above_fn (l := l) (f := f) (fu := fu) (h := (mkH []).push [I f]) (b := 0) (by simp) (by omega)
  simp -dsimp -implicitDefEqProofs
  refine onCall_in ha ?_
  simp -dsimp -implicitDefEqProofs
  cases hi : l.findIdx? (fun w => decide (f < w.flow)) with
  | none =>
    have e : idx (fun w => decide (f < w.flow)) l = -1 := by simp [idx, hi]
    have hall := List.findIdx?_eq_none_iff.1 hi
    have hx := List.getElem?_eq_getElem (show l.length - 1 < l.length by omega)
    have w1 : IntKind.i64.wrap ((l.length : Int) - 1) = ((l.length - 1 : Nat) : Int) := by rw [wrap_in (by omega) (by omega)]; omega
    have hlast : l.getLast? = some l[l.length - 1] := by rw [List.getLast?_eq_getElem?, hx]
    have hle : l[l.length - 1].flow ≤ f := by have := hall _ (List.getElem_mem (show l.length - 1 < l.length by omega)); simpa using this
    have c1 := cv_high (up := false) hs hlast hle
    have c2 := cv_high (up := true) hs hlast hle
    simp -dsimp -implicitDefEqProofs [e, w1, hx]
    refine DrawR.on {} (by kernel_rfl) (by simp) ?_
    simp -dsimp -implicitDefEqProofs [c1, c2]
  | some i =>
    have e : idx (fun w => decide (f < w.flow)) l = (i : Nat) := by simp [idx, hi]
    obtain ⟨hil, hp, hq⟩ := List.findIdx?_eq_some_iff_getElem.1 hi
    simp only [decide_eq_true_eq] at hp hq
    have hx := List.getElem?_eq_getElem hil
    by_cases hi0 : i = 0
    · subst hi0
      have c1 : cv f false l = l[0].level := by cases l with | nil => simp at hil | cons w l => exact (cv_low (by have h9 := hp; simp only [List.getElem_cons_zero] at h9; omega)).trans (by simp)
      have c2 : cv f true l = l[0].level := by cases l with | nil => simp at hil | cons w l => exact (cv_low (by have h9 := hp; simp only [List.getElem_cons_zero] at h9; omega)).trans (by simp)
      simp -dsimp -implicitDefEqProofs [e]
      refine DrawR.on {} (by kernel_rfl) (by simp) ?_
      simp -dsimp -implicitDefEqProofs [c1, c2, hx]
    · have n1 : ((i : Int) == 0) = false := by simpa using hi0
      have n2 : ((i : Int) == -1) = false := by simp only [beq_eq_false_iff_ne, ne_eq]; omega
      have w1 : IntKind.i64.wrap ((i : Int) - 1) = ((i - 1 : Nat) : Int) := by rw [wrap_in (by omega) (by omega)]; omega
      have hx2 := List.getElem?_eq_getElem (show i - 1 < l.length by omega)
      have hlo : l[i - 1].flow ≤ f := by have := hq (i - 1) (by omega); simpa using this
      have hb1 := hb _ (List.getElem_mem hil)
      have hb2 := hb _ (List.getElem_mem (show i - 1 < l.length by omega))
      have hsr : l[i - 1].flow < l[i].flow ∧ l[i - 1].level ≤ l[i].level := by
        simp only [validCv, Bool.and_eq_true, decide_eq_true_eq] at hv
        exact (hv.2 i hil hil).2 (by omega)
      have hx' : l[i - 1 + 1]? = some l[i] := by rw [show i - 1 + 1 = i by omega]; exact hx
      have c1 := cv_mid (f := f) (up := false) hs hx2 hx' hlo (by omega)
      have c2 := cv_mid (f := f) (up := true) hs hx2 hx' hlo (by omega)
      have hr := rise_in hb2 hb1 hlo (by omega) hsr.2
      have p1 := part_in (up := false) hr (by omega)
      have p2 := part_in (up := true) hr (by omega)
      have er : (f - l[i - 1].flow) * (l[i].level - l[i - 1].level) = rise l[i - 1] l[i] f := rfl
      have v1 := wrap_in (n := f - l[i - 1].flow) (by omega) (by omega)
      have v2 := wrap_in (n := l[i].level - l[i - 1].level) (by omega) (by omega)
      have v3 := wrap_in (n := rise l[i - 1] l[i] f) (by omega) (by omega)
      have v4 := wrap_in (n := l[i].flow - l[i - 1].flow) (by omega) (by omega)
      have v5 := wrap_in (n := l[i - 1].level + part l[i - 1] l[i] f false) (by omega) (by omega)
      have v6 := wrap_in (n := l[i - 1].level + part l[i - 1] l[i] f true) (by omega) (by omega)
      have f1 := floor_fn (n := rise l[i - 1] l[i] f) (k := l[i].flow - l[i - 1].flow) (by omega) (by omega) (by omega)
      have f2 := ceil_fn (n := rise l[i - 1] l[i] f) (k := l[i].flow - l[i - 1].flow) (by omega) (by omega) (by omega)
      simp -dsimp -implicitDefEqProofs [e, n1, n2]
      refine DrawR.on {} (by kernel_rfl) (by simp) ?_
      simp -dsimp -implicitDefEqProofs [w1, hx, hx2]
      refine DrawR.on {} (by kernel_rfl) (by simp) ?_
      simp -dsimp -implicitDefEqProofs [v1, v2, er, v3, v4]
      refine DrawR.on {} (by kernel_rfl) (by simp) ?_
      simp -dsimp -implicitDefEqProofs
      refine onCallQ_in (f1.beside rfl _) ?_
      simp -dsimp -implicitDefEqProofs
      refine onCallQ_in (f2.beside rfl _) ?_
      simp -dsimp -implicitDefEqProofs [c1, c2]
      exact ⟨by simpa [part] using v5, by simpa [part] using v6⟩
end Go.Pe

/- Levels of a reach, and the reference's. -/
namespace Go.Pe
open Go Go.Proofs Go.Proofs.Ytblpmcmapadphab
attribute [local simp] t3 u3 t4 u4 t5 u5 t22 u22 t23 u23 t25 u25 t27 u27 t28 u28 t30 u30 t32 u32 t34 u34 t37 u37 t43 u43 t48 u48 t49 u49 t50 u50 t54 u54 t75 u75 t77 u77         t102 u102 t117 u117 t119 u119 t123 u123 t125 u125 t130 u130 t134 u134 t138 u138   t155 u155 t156 u156 t160 u160 t172 u172
set_option maxRecDepth 20000
set_option maxHeartbeats 8000000
attribute [local simp] fW_eq fR_eq fS_eq extA

def lvl (r : Rc) (b : Bd) : Bd := ⟨max (cv b.lo false r.curve) r.weir, max (cv b.hi true r.curve) r.weir⟩
theorem levelAt_fn {r : Rc} {b : Bd} {h : H} (hv : validCv r.curve = true) (h1 : b.lo.natAbs ≤ 1000000000000) (h2 : b.hi.natAbs ≤ 1000000000000) : Fn Try.prog 59 [.agg (fR r), .agg [I b.lo, I b.hi]] h (.agg [I (lvl r b).lo, I (lvl r b).hi]) h := by
  refine Fn.beside ?_ rfl h
  refine Fn.ofR0 noM (by kernel_rfl) Try.func59 rfl (by simp) ?_
  simp -dsimp -implicitDefEqProofs
  refine onCall_in (curveAt_fn hv h1) ?_
  simp -dsimp -implicitDefEqProofs
  refine onCall_in (curveAt_fn hv h2) ?_
  simp -dsimp -implicitDefEqProofs [lvl]
theorem validR_parts {r : Rc} (h : validR r = true) : (1 ≤ r.len ∧ r.len ≤ 5000) ∧ (0 ≤ r.delay ∧ r.delay ≤ 200) ∧ vB 0 10000000000 r.base = true ∧ validCv r.curve = true ∧ (0 ≤ r.weir ∧ r.weir ≤ 10000) ∧ (0 ≤ r.flood ∧ r.flood ≤ 10000) ∧ vB 0 10000 r.bot = true := by
  simp only [validR, Bool.and_eq_true, inB_iff] at h
  obtain ⟨h1, h2, h3, h4, ⟨h5, h6⟩, h7⟩ := h
  exact ⟨h1, h2, h3, h4, h5, h6, h7⟩
open Classical in
noncomputable def levRes (r : Rc) (b : Bd) : Bd × Int := if validR r = true then (if vB 0 210000000000 b = true then (lvl r b, 0) else (⟨0, 0⟩, 3)) else (⟨0, 0⟩, 2)
end Go.Pe

/- Rivers that are valid: the program's and the reference's word. -/
namespace Go.Pe
open Go Go.Proofs Go.Proofs.Ytblpmcmapadphab
attribute [local simp] t3 u3 t4 u4 t5 u5 t22 u22 t23 u23 t25 u25 t27 u27 t28 u28 t30 u30 t32 u32 t34 u34 t37 u37 t43 u43 t48 u48 t49 u49 t50 u50 t54 u54 t75 u75 t77 u77         t102 u102 t117 u117 t119 u119 t123 u123 t125 u125 t130 u130 t134 u134 t138 u138   t155 u155 t156 u156 t160 u160 t172 u172
set_option maxRecDepth 20000
set_option maxHeartbeats 8000000
attribute [local simp] fW_eq fR_eq fS_eq extA

end Go.Pe

/- A shoal, by the length of its river. -/
namespace Go.Pe
open Go Go.Proofs Go.Proofs.Ytblpmcmapadphab
attribute [local simp] ap_skip ap_region ap_seq ap_cond ap_block ap_loop ap_exit ap_ret ap_seq_normal ap_seq_ret ap_seq_exit ap_block_normal ap_block_ret ap_block_exit ap_block_other ap_nil ap_draw ap_dr_nil ap_fin_ret ap_fin_normal ap_loopK dstT_zero dstT_succ Nat.add_assoc onSome_some onSome_none ifB_true ifB_false ifB_not onClo_clo onBool_bool onBool_tup frz_val frz_ro takeAt elemTy LeN_refl LeN_push LeN_set push_get push_next set_get set_next nil_get nil_next pop_move pop_assign pop_pick pop_load pop_fieldAddr pop_indexAddr pop_field pop_binOp pop_unOp pop_convert pop_extract pop_makeFunc pop_nilCheck pop_build pop_slice pop_len pop_max pop_min eop_alloc eop_box eop_store eop_buildSlice eop_makeSlice eop_append as_move as_assign as_pick as_load as_fieldAddr as_indexAddr as_field as_binOp as_unOp as_convert as_extract as_makeFunc as_nilCheck as_build as_slice as_len as_max as_min as_alloc as_box as_store as_buildSlice as_makeSlice as_append as_call cons_free cons_guard putA_some putA_none aev_tmp aev_int aev_bool aev_nil aev_func pickA_and pickA_or pickA_true pickA_false nnA_ptr nnA_rop idxA_some intOf_int boxA_some bin_int binI_add binI_sub binI_mul binI_quo binI_rem binI_eql binI_neq binI_lss binI_leq binI_gtr binI_geq unA_not unA_neg loadA_ptr loadA_rop loadO_some asLoaded_agg asLoaded_one resA_one resA_two resOne_tmp resOne_cell cellsOf_int cellsOf_bool cellsOf_clo cellsOf_ptr cellsOf_ro cellsOf_sl cellsOf_nil cellsOf_agg one_int one_bool one_nil one_clo one_ptr one_ro one_sl one_rop mm_max mm_min elS_sl elS2_sl mkA_some chunk_zero chunk_succ zcells_zero zcells_succ clean_val clean_ro clean_rop clean1_val clean1_ro clean1_rop flat_val flat_ro flat_agg frz_agg frz_tup
attribute [local simp] t3 u3 t4 u4 t5 u5 t22 u22 t23 u23 t25 u25 t27 u27 t28 u28 t30 u30 t32 u32 t34 u34 t37 u37 t43 u43 t48 u48 t49 u49 t50 u50 t54 u54 t75 u75 t77 u77         t102 u102 t117 u117 t119 u119 t123 u123 t125 u125 t130 u130 t134 u134 t138 u138   t155 u155 t156 u156 t160 u160 t172 u172
attribute [local simp] lenA_ro indexA_ro fieldA
set_option maxRecDepth 20000

theorem check1_fn {s : Sh} {len : Int} {h : H} {b : Nat} (hb : h.get b = some [I len]) (hl : len.natAbs ≤ 1000000000000) : Fn Try.prog 26 [.agg (fS s), .ptr b 0] h (B (validSh len s)) h := by
  refine Fn.keep noM noC (by kernel_rfl) Try.func26 rfl rfl fun live => ?_
  have hne : ¬ b = h.next := by have := (live.1 b _ hb).1; omega
  simp -dsimp -implicitDefEqProofs [hb, hne, fS_eq]
  refine onCall_in (validShoal_fn (s := s) hl) ?_
  simp -dsimp -implicitDefEqProofs
open Classical in
/-- A truth about what lies in a row, said of the row. -/
noncomputable def pOf {α : Type} (f : α → List AV) (q : α → Bool) (x : List AV) : Bool := if h : ∃ a, f a = x then q h.choose else false
theorem pOf_eq {α : Type} {f : α → List AV} {q : α → Bool} (hf : ∀ a b, f a = f b → a = b) (a : α) : pOf f q (f a) = q a := by
  have h : ∃ b, f b = f a := ⟨a, rfl⟩
  unfold pOf
  rw [dif_pos h, hf _ _ h.choose_spec]
theorem all_pOf {α : Type} {f : α → List AV} {q : α → Bool} (hf : ∀ a b, f a = f b → a = b) (l : List α) : (l.map f).all (pOf f q) = l.all q := by
  rw [List.all_map]
  congr 1
  funext a
  exact pOf_eq hf a
theorem fW_inj (a b : Rw) (h : fW a = fW b) : a = b := by
  cases a; cases b; simp [fW] at h; simp [h]
theorem map_inj {α β : Type} {f : α → β} (hf : ∀ a b, f a = f b → a = b) : ∀ (l m : List α), l.map f = m.map f → l = m
  | [], [], _ => rfl
  | [], _ :: _, h => by simp at h
  | _ :: _, [], h => by simp at h
  | a :: l, b :: m, h => by
    simp only [List.map_cons, List.cons.injEq] at h
    rw [hf a b h.1, map_inj hf l m h.2]
theorem fR_inj (a b : Rc) (h : fR a = fR b) : a = b := by
  obtain ⟨a1, a2, ⟨a3, a4⟩, a5, a6, ⟨a7, a8⟩, a9⟩ := a
  obtain ⟨b1, b2, ⟨b3, b4⟩, b5, b6, ⟨b7, b8⟩, b9⟩ := b
  simp [fR] at h
  obtain ⟨h1, h2, h3, h4, h5, h6, h7, h8, h9⟩ := h
  have h5' : a5 = b5 := by
    refine map_inj fW_inj _ _ ?_
    first | exact h5 | (rw [List.map_inj_left] at *; exact h5) | simpa using h5
  rw [h1, h2, h3, h4, h5', h6, h7, h8, h9]
theorem fS_inj (a b : Sh) (h : fS a = fS b) : a = b := by
  obtain ⟨a1, ⟨a3, a4⟩, a5, ⟨a7, a8⟩⟩ := a
  obtain ⟨b1, ⟨b3, b4⟩, b5, ⟨b7, b8⟩⟩ := b
  simp [fS] at h
  obtain ⟨h1, h2, h3, h4, h5, h6⟩ := h
  rw [h1, h2, h3, h4, h5, h6]
theorem reaches_fn {l : List Rc} {fu : Bool} {h : H} (hl : (l.length : Int) < 2^62) (hc : ∀ r ∈ l, (r.curve.length : Int) < 2^62) : Fn Try.prog 22 [.ro fu 9 (l.map fR), .clo 23 []] h (B (l.all validR)) h := by
  have := every_reach (f := 23) (caps := []) (h := h) (p := pOf fR validR) (xs := l.map fR) (fu := fu) (by simpa using hl) (by simp [fR_eq]) (by simp [fR_eq, one_int, one_ro]) (fun x hx => by
    obtain ⟨r, hr, rfl⟩ := List.mem_map.1 hx
    rw [pOf_eq fR_inj]
    exact validReach_fn (hc r hr))
  rwa [all_pOf fR_inj] at this
theorem shoals_fn {l : List Sh} {len : Int} {b : Nat} {h : H} (hl : (l.length : Int) < 2^62) (hb : h.get b = some [I len]) (hbn : b < h.next) (hlen : len.natAbs ≤ 1000000000000) : Fn Try.prog 25 [.ro false 6 (l.map fS), .clo 26 [.ptr b 0]] h (B (l.all (validSh len))) h := by
  have := every_shoal (f := 26) (caps := [.ptr b 0]) (h := h) (p := pOf fS (validSh len)) (xs := l.map fS) (fu := false) (by simpa using hl) (by simp [fS_eq]) (by simp [fS_eq, one_int]) (fun x hx => by
    obtain ⟨s, hs, rfl⟩ := List.mem_map.1 hx
    rw [pOf_eq fS_inj]
    refine check1_fn ?_ hlen
    have e1 : b ≠ h.next + 1 := by omega
    have e2 : b ≠ h.next := by omega
    simp [e1, e2, hb])
  rwa [all_pOf fS_inj] at this
end Go.Pe
