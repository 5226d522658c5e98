import Derived.Test.YtffckclggkjbgaaGreatT26
import Derived.Test.YtffckclggkjbgaaGreatT25
set_option linter.unusedVariables false
set_option linter.unusedSimpArgs false
/- What the reference of package river does with land and a sky: bounds, rounding, errors. -/
namespace Go.Pe
open Go Go.Proofs Go.Proofs.YtffckclggkjbgaaGreat
attribute [local simp] ap_skip ap_region ap_seq ap_cond ap_block ap_loop ap_exit ap_ret ap_seq_normal ap_seq_ret ap_seq_exit ap_block_normal ap_block_ret ap_block_exit ap_block_other ap_nil ap_draw ap_dr_nil ap_fin_ret ap_fin_normal ap_loopK dstT_zero dstT_succ Nat.add_assoc onSome_some onSome_none ifB_true ifB_false ifB_not onClo_clo onBool_bool onBool_tup frz_val frz_ro takeAt elemTy LeN_refl LeN_push LeN_set push_get push_next set_get set_next nil_get nil_next pop_move pop_assign pop_pick pop_load pop_fieldAddr pop_indexAddr pop_field pop_binOp pop_unOp pop_convert pop_extract pop_makeFunc pop_nilCheck pop_build pop_slice pop_len pop_max pop_min eop_alloc eop_box eop_store eop_buildSlice eop_makeSlice eop_append as_move as_assign as_pick as_load as_fieldAddr as_indexAddr as_field as_binOp as_unOp as_convert as_extract as_makeFunc as_nilCheck as_build as_slice as_len as_max as_min as_alloc as_box as_store as_buildSlice as_makeSlice as_append as_call cons_free cons_guard putA_some putA_none aev_tmp aev_int aev_bool aev_nil aev_func pickA_and pickA_or pickA_true pickA_false nnA_ptr nnA_rop idxA_some intOf_int boxA_some bin_int binI_add binI_sub binI_mul binI_quo binI_rem binI_eql binI_neq binI_lss binI_leq binI_gtr binI_geq unA_not unA_neg loadA_ptr loadA_rop loadO_some asLoaded_agg asLoaded_one resA_one resA_two resOne_tmp resOne_cell cellsOf_int cellsOf_bool cellsOf_clo cellsOf_ptr cellsOf_ro cellsOf_sl cellsOf_nil cellsOf_agg one_int one_bool one_nil one_clo one_ptr one_ro one_sl one_rop mm_max mm_min elS_sl elS2_sl mkA_some chunk_zero chunk_succ zcells_zero zcells_succ clean_val clean_ro clean_rop clean1_val clean1_ro clean1_rop flat_val flat_ro flat_agg frz_agg frz_tup
attribute [local simp] t3 u3 t4 u4 t5 u5 t22 u22 t23 u23 t25 u25 t27 u27 t28 u28 t30 u30 t32 u32   t37 u37 t43 u43     t50 u50   t75 u75 t77 u77     t94 u94   t102 u102 t117 u117 t119 u119     t130 u130 t134 u134 t138 u138   t155 u155 t156 u156   t172 u172
attribute [local simp] lenA_ro indexA_ro fieldA fldA partA buildA fillA storeA buildSliceA
attribute [local simp] quietA effectful allocs fpo findNew_nil q_move q_assign q_pick q_load q_fieldAddr q_indexAddr q_field q_binOp q_unOp q_convert q_extract q_makeFunc q_nilCheck q_build q_slice q_len q_max q_min e_alloc e_box e_store e_buildSlice e_makeSlice e_append q_call e_call dr_free dr_guard qView_next eView_next hit_nil hit_cons qView_get optL_some optL_none eView_get fp_alloc fp_box fp_make fp_append fp_build fp_call fp_store mergeG_get LeN_nil new_store findNew_cons
attribute [local simp] one_get one_next ap_finw_ret ap_finw_normal
set_option maxRecDepth 20000

attribute [local simp] extA lenA appendA rowsA

theorem In_fn {a lo hi : Int} {h : H} : Fn Tryz.prog 65 [I a, I lo, I hi] h (B (decide (lo ≤ a) && decide (a ≤ hi))) h := by
  refine Fn.keep noM noC (by kernel_rfl) Tryz.func65 rfl rfl fun _ => ?_
  simp -dsimp -implicitDefEqProofs
  refine ifD_in (fun h => ?_) (fun h => ?_)
  · simp -dsimp -implicitDefEqProofs [h]
  · simp -dsimp -implicitDefEqProofs [h]
def rValid (b : Bd) (lo hi : Int) : Bool := (decide (lo ≤ b.lo) && decide (b.lo ≤ hi)) && (decide (b.lo ≤ b.hi) && decide (b.hi ≤ hi))
theorem Valid_fn {b : Bd} {lo hi : Int} {h : H} : Fn Tryz.prog 77 [b.av, I lo, I hi] h (B (rValid b lo hi)) h := by
  refine Fn.keep noM noC (by kernel_rfl) Tryz.func77 rfl rfl fun _ => ?_
  simp -dsimp -implicitDefEqProofs
  refine onCall_in In_fn ?_
  simp -dsimp -implicitDefEqProofs
  refine ifB_in (fun h => ?_) (fun h => ?_)
  · simp -dsimp -implicitDefEqProofs
    refine onCall_in In_fn ?_
    simp -dsimp -implicitDefEqProofs [rValid, h]
  · simp -dsimp -implicitDefEqProofs [rValid, h]
theorem rValid_eq {b : Bd} {lo hi : Int} : rValid b lo hi = validB b lo hi := by
  rw [Bool.eq_iff_iff]
  simp only [rValid, validB, Bool.and_eq_true, decide_eq_true_eq]
  omega
theorem tdiv10 (n : Int) : (0 ≤ n → n.tdiv 10 = n / 10) ∧ (n < 0 → n.tdiv 10 = -((-n) / 10)) := by
  refine ⟨fun h => Int.tdiv_eq_ediv_of_nonneg h, fun h => ?_⟩
  rw [show n = -(-n) by omega, Int.neg_tdiv, Int.tdiv_eq_ediv_of_nonneg (by omega)]
  omega
theorem Floor_fn {n : Int} (hn : n.natAbs ≤ 1000000000000000000) {h : H} : Fn Tryz.prog 174 [I n, I 10] h (I (n / 10)) h := by
  refine Fn.keep noM noC (by kernel_rfl) Tryz.func174 rfl rfl fun _ => ?_
  obtain ⟨q, hq⟩ : ∃ q, q = n.tdiv 10 := ⟨_, rfl⟩
  have e := tdiv10 n
  rw [← hq] at e
  have w0 := wrap_in (n := q) (by omega) (by omega)
  have w1 := wrap_in (n := q * 10) (by omega) (by omega)
  have w2 := wrap_in (n := q - 1) (by omega) (by omega)
  simp -dsimp -implicitDefEqProofs [← hq, w0, w1]
  refine ifD_in (fun h => ?_) (fun h => ?_) <;> simp -dsimp -implicitDefEqProofs [← hq, w0, w1, w2] <;> omega
theorem Ceil_fn {n : Int} (hn : n.natAbs ≤ 1000000000000000000) {h : H} : Fn Tryz.prog 108 [I n, I 10] h (I (-((-n) / 10))) h := by
  refine Fn.keep noM noC (by kernel_rfl) Tryz.func108 rfl rfl fun _ => ?_
  obtain ⟨q, hq⟩ : ∃ q, q = n.tdiv 10 := ⟨_, rfl⟩
  have e := tdiv10 n
  rw [← hq] at e
  have w0 := wrap_in (n := q) (by omega) (by omega)
  have w1 := wrap_in (n := q * 10) (by omega) (by omega)
  have w2 := wrap_in (n := q + 1) (by omega) (by omega)
  simp -dsimp -implicitDefEqProofs [← hq, w0, w1]
  refine ifD_in (fun h => ?_) (fun h => ?_) <;> simp -dsimp -implicitDefEqProofs [← hq, w0, w1, w2] <;> omega
/-- The reference's error of land and a sky. -/
def rCatch (c : Ct) (sky : List Sk) : Int := if validC c = false then 2 else if 400 < sky.length then 5 else if sky.all validS = false then 2 else 0
theorem rC_eq {c : Ct} : validC c = (((decide (0 ≤ c.area) && decide (c.area ≤ 10000)) && (decide (0 ≤ c.pc) && decide (c.pc ≤ 100))) && (decide (0 ≤ c.melt) && decide (c.melt ≤ 100)) && rValid c.snow 0 1000000) := by
  rw [rValid_eq]; rfl
theorem neqB2 {a b : Int} {k : TK} {s : Nat} {z : List Value} {a' f : Bool} {by' : Nat} : binX Tryz.prog 27 { kind := k, size := s, zero := z, agg := a', bytes := by', fok := f, cmp := true } .neq (.agg [I a, I b]) (.agg [I a, I b]) = some (B false) := by
  simp [binX, eqV, eqFs, partA, ti27, ti3]
end Go.Pe

/- Levels of a curve. -/
namespace Go.Pe
open Go Go.Proofs Go.Proofs.YtffckclggkjbgaaGreat
attribute [local simp] t3 u3 t4 u4 t5 u5 t22 u22 t23 u23 t25 u25 t27 u27 t28 u28 t30 u30 t32 u32   t37 u37 t43 u43     t50 u50   t75 u75 t77 u77     t94 u94   t102 u102 t117 u117 t119 u119     t130 u130 t134 u134 t138 u138   t155 u155 t156 u156   t172 u172
set_option maxRecDepth 20000
set_option maxHeartbeats 8000000
attribute [local simp] fW_eq fR_eq fS_eq

def rise (w v : Rw) (f : Int) : Int := (f - w.flow) * (v.level - w.level)
def part (w v : Rw) (f : Int) (up : Bool) : Int := if up then -((-rise w v f) / (v.flow - w.flow)) else rise w v f / (v.flow - w.flow)
def cv (f : Int) (up : Bool) : List Rw → Int
  | [] => 0
  | w :: l => match l with
    | [] => w.level
    | v :: _ => if f ≤ w.flow then w.level else if f < v.flow then w.level + part w v f up else cv f up l
def srt : List Rw → Prop
  | [] => True
  | w :: l => (match l with | [] => True | v :: _ => w.flow < v.flow ∧ w.level ≤ v.level) ∧ srt l
theorem part_at {w v : Rw} {up : Bool} : part w v w.flow up = 0 := by simp [part, rise]
theorem part_end {w v : Rw} {up : Bool} (h : w.flow < v.flow) : w.level + part w v v.flow up = v.level := by
  have h0 : v.flow - w.flow ≠ 0 := by omega
  simp only [part, rise]
  split
  · rw [← Int.mul_neg, Int.mul_ediv_cancel_left _ h0]; omega
  · rw [Int.mul_ediv_cancel_left _ h0]; omega
theorem cv_low {f : Int} {up : Bool} {w : Rw} {l : List Rw} (h : f ≤ w.flow) : cv f up (w :: l) = w.level := by
  cases l with
  | nil => rfl
  | cons v l => simp [cv, h]
theorem srt_lt : ∀ {l : List Rw} {i : Nat} {v : Rw}, srt l → 0 < i → l[i]? = some v → ∃ w, l.head? = some w ∧ w.flow < v.flow
  | [], i, v, _, _, h => by simp at h
  | [w], i, v, _, hi, h => by
    cases i with
    | zero => omega
    | succ i => simp at h
  | w :: u :: l, i, v, hs, hi, h => by
    obtain ⟨⟨h1, _⟩, hs'⟩ := hs
    cases i with
    | zero => omega
    | succ i =>
      by_cases hi0 : i = 0
      · subst hi0; simp at h; subst h; exact ⟨w, rfl, h1⟩
      · obtain ⟨u', h2, h3⟩ := srt_lt (l := u :: l) (i := i) hs' (by omega) (by simpa using h)
        simp at h2; subst h2
        exact ⟨w, rfl, by omega⟩
theorem cv_mid {f : Int} {up : Bool} : ∀ {l : List Rw} {i : Nat} {w v : Rw}, srt l → l[i]? = some w → l[i + 1]? = some v → w.flow ≤ f → f ≤ v.flow → cv f up l = w.level + part w v f up
  | [], i, w, v, _, h, _, _, _ => by simp at h
  | [x], i, w, v, _, _, h, _, _ => by simp at h
  | x :: y :: l, i, w, v, hs, hw, hv, h1, h2 => by
    obtain ⟨⟨g1, g2⟩, hs'⟩ := hs
    cases i with
    | zero =>
      simp at hw hv; subst hw; subst hv
      by_cases he : f ≤ x.flow
      · have : f = x.flow := by omega
        subst this
        rw [cv_low (Int.le_refl _), part_at]; omega
      · by_cases hy : f < y.flow
        · simp [cv, he, hy]
        · have : f = y.flow := by omega
          subst this
          rw [part_end g1]
          have : cv y.flow up (x :: y :: l) = cv y.flow up (y :: l) := by simp [cv, he]
          rw [this, cv_low (Int.le_refl _)]
    | succ i =>
      have hw' : (y :: l)[i]? = some w := by simpa using hw
      have hv' : (y :: l)[i + 1]? = some v := by simpa using hv
      have hyw : y.flow ≤ w.flow := by
        by_cases hi0 : i = 0
        · subst hi0; simp at hw'; subst hw'; exact Int.le_refl _
        · obtain ⟨y', h3, h4⟩ := srt_lt hs' (by omega) hw'
          simp at h3; subst h3; omega
      have e : cv f up (x :: y :: l) = cv f up (y :: l) := by
        have a1 : ¬ f ≤ x.flow := by omega
        have a2 : ¬ f < y.flow := by omega
        simp [cv, a1, a2]
      rw [e]; exact cv_mid hs' hw' hv' h1 h2
theorem cv_high {f : Int} {up : Bool} : ∀ {l : List Rw} {w : Rw}, srt l → l.getLast? = some w → w.flow ≤ f → cv f up l = w.level
  | [], w, _, h, _ => by simp at h
  | [x], w, _, h, _ => by simp at h; subst h; rfl
  | x :: y :: l, w, hs, hw, hf => by
    obtain ⟨⟨g1, g2⟩, hs'⟩ := hs
    have hw' : (y :: l).getLast? = some w := by simpa [List.getLast?_cons_cons] using hw
    have hyw : y.flow ≤ w.flow := by
      rw [List.getLast?_eq_getElem?] at hw'
      by_cases hi0 : (y :: l).length - 1 = 0
      · rw [hi0] at hw'; simp at hw'; subst hw'; exact Int.le_refl _
      · obtain ⟨y', h3, h4⟩ := srt_lt hs' (by omega) hw'
        simp at h3; subst h3; omega
    have e : cv f up (x :: y :: l) = cv f up (y :: l) := by
      have a1 : ¬ f ≤ x.flow := by omega
      have a2 : ¬ f < y.flow := by omega
      simp [cv, a1, a2]
    rw [e]; exact cv_high hs' hw' hf
theorem srt_of : ∀ {l : List Rw}, (∀ (k : Nat) (h : k + 1 < l.length), l[k].flow < l[k + 1].flow ∧ l[k].level ≤ l[k + 1].level) → srt l
  | [], _ => trivial
  | [w], _ => ⟨trivial, trivial⟩
  | w :: v :: l, h => ⟨h 0 (by simp), srt_of (l := v :: l) fun k hk => h (k + 1) (by simpa using hk)⟩
theorem validCv_parts {l : List Rw} (h : validCv l = true) : (2 ≤ l.length ∧ l.length ≤ 30) ∧ srt l ∧ ∀ w ∈ l, (0 ≤ w.flow ∧ w.flow ≤ 10000000000) ∧ 0 ≤ w.level ∧ w.level ≤ 10000 := by
  simp only [validCv, Bool.and_eq_true, decide_eq_true_eq, inB_iff] at h
  obtain ⟨h1, h2⟩ := h
  refine ⟨by omega, srt_of fun k hk => ?_, fun w hw => ?_⟩
  · have := (h2 (k + 1) hk hk).2 (by omega)
    simpa using this
  · obtain ⟨k, hk, rfl⟩ := List.getElem_of_mem hw
    have := (h2 k hk hk).1
    simpa only [inB_iff] using this

theorem rise_in {w v : Rw} {f : Int} (hw : (0 ≤ w.flow ∧ w.flow ≤ 10000000000) ∧ 0 ≤ w.level ∧ w.level ≤ 10000) (hv : (0 ≤ v.flow ∧ v.flow ≤ 10000000000) ∧ 0 ≤ v.level ∧ v.level ≤ 10000) (h1 : w.flow ≤ f) (h2 : f ≤ v.flow) (h3 : w.level ≤ v.level) : 0 ≤ rise w v f ∧ (rise w v f).natAbs ≤ 10000000000 * 10000 :=
  ⟨Int.mul_nonneg (by omega) (by omega), mul_in (by omega) (by omega)⟩
theorem part_in {w v : Rw} {f : Int} {up : Bool} (hr : 0 ≤ rise w v f ∧ (rise w v f).natAbs ≤ 10000000000 * 10000) (hd : 0 < v.flow - w.flow) : (part w v f up).natAbs ≤ 10000000000 * 10000 := by
  unfold part
  split
  · have := Int.natAbs_ediv_le_natAbs (-rise w v f) (v.flow - w.flow)
    omega
  · have := Int.natAbs_ediv_le_natAbs (rise w v f) (v.flow - w.flow)
    omega

/-- The levels of a valid curve at a flow. -/
theorem curveAt_fn {l : List Rw} {f : Int} {fu : Bool} {h : H} (hv : validCv l = true) (hf : f.natAbs ≤ 1000000000000) : Fn Tryz.prog 168 [.ro fu 2 (l.map fW), I f] h (.tup [I (cv f false l), I (cv f true l)]) h := by
  refine Fn.beside ?_ rfl h
  refine Fn.ofR0 noM (by kernel_rfl) Tryz.func168 rfl (by simp) ?_
  obtain ⟨hl, hs, hb⟩ := validCv_parts hv
  have ha := above_fn (l := l) (f := f) (fu := fu) (h := (mkH []).push [I f]) (b := 0) (by simp) (by omega)
  simp -dsimp -implicitDefEqProofs
  refine onCall_in ha ?_
  simp -dsimp -implicitDefEqProofs
  cases hi : l.findIdx? (fun w => decide (f < w.flow)) with
  | none =>
    have e : idx (fun w => decide (f < w.flow)) l = -1 := by simp [idx, hi]
    have hall := List.findIdx?_eq_none_iff.1 hi
    have hx := List.getElem?_eq_getElem (show l.length - 1 < l.length by omega)
    have w1 : IntKind.i64.wrap ((l.length : Int) - 1) = ((l.length - 1 : Nat) : Int) := by rw [wrap_in (by omega) (by omega)]; omega
    have hlast : l.getLast? = some l[l.length - 1] := by rw [List.getLast?_eq_getElem?, hx]
    have hle : l[l.length - 1].flow ≤ f := by have := hall _ (List.getElem_mem (show l.length - 1 < l.length by omega)); simpa using this
    have c1 := cv_high (up := false) hs hlast hle
    have c2 := cv_high (up := true) hs hlast hle
    simp -dsimp -implicitDefEqProofs [e, w1, hx]
    refine DrawR.on {} (by kernel_rfl) (by simp) ?_
    simp -dsimp -implicitDefEqProofs [c1, c2]
  | some i =>
    have e : idx (fun w => decide (f < w.flow)) l = (i : Nat) := by simp [idx, hi]
    obtain ⟨hil, hp, hq⟩ := List.findIdx?_eq_some_iff_getElem.1 hi
    simp only [decide_eq_true_eq] at hp hq
    have hx := List.getElem?_eq_getElem hil
    by_cases hi0 : i = 0
    · subst hi0
      have c1 : cv f false l = l[0].level := by cases l with | nil => simp at hil | cons w l => exact (cv_low (by have h9 := hp; simp only [List.getElem_cons_zero] at h9; omega)).trans (by simp)
      have c2 : cv f true l = l[0].level := by cases l with | nil => simp at hil | cons w l => exact (cv_low (by have h9 := hp; simp only [List.getElem_cons_zero] at h9; omega)).trans (by simp)
      simp -dsimp -implicitDefEqProofs [e]
      refine DrawR.on {} (by kernel_rfl) (by simp) ?_
      simp -dsimp -implicitDefEqProofs [c1, c2, hx]
    · have n1 : ((i : Int) == 0) = false := by simpa using hi0
      have n2 : ((i : Int) == -1) = false := by simp only [beq_eq_false_iff_ne, ne_eq]; omega
      have w1 : IntKind.i64.wrap ((i : Int) - 1) = ((i - 1 : Nat) : Int) := by rw [wrap_in (by omega) (by omega)]; omega
      have hx2 := List.getElem?_eq_getElem (show i - 1 < l.length by omega)
      have hlo : l[i - 1].flow ≤ f := by have := hq (i - 1) (by omega); simpa using this
      have hb1 := hb _ (List.getElem_mem hil)
      have hb2 := hb _ (List.getElem_mem (show i - 1 < l.length by omega))
      have hsr : l[i - 1].flow < l[i].flow ∧ l[i - 1].level ≤ l[i].level := by
        simp only [validCv, Bool.and_eq_true, decide_eq_true_eq] at hv
        exact (hv.2 i hil hil).2 (by omega)
      have hx' : l[i - 1 + 1]? = some l[i] := by rw [show i - 1 + 1 = i by omega]; exact hx
      have c1 := cv_mid (f := f) (up := false) hs hx2 hx' hlo (by omega)
      have c2 := cv_mid (f := f) (up := true) hs hx2 hx' hlo (by omega)
      have hr := rise_in hb2 hb1 hlo (by omega) hsr.2
      have p1 := part_in (up := false) hr (by omega)
      have p2 := part_in (up := true) hr (by omega)
      have er : (f - l[i - 1].flow) * (l[i].level - l[i - 1].level) = rise l[i - 1] l[i] f := rfl
      have v1 := wrap_in (n := f - l[i - 1].flow) (by omega) (by omega)
      have v2 := wrap_in (n := l[i].level - l[i - 1].level) (by omega) (by omega)
      have v3 := wrap_in (n := rise l[i - 1] l[i] f) (by omega) (by omega)
      have v4 := wrap_in (n := l[i].flow - l[i - 1].flow) (by omega) (by omega)
      have v5 := wrap_in (n := l[i - 1].level + part l[i - 1] l[i] f false) (by omega) (by omega)
      have v6 := wrap_in (n := l[i - 1].level + part l[i - 1] l[i] f true) (by omega) (by omega)
      have f1 := floor_fn (n := rise l[i - 1] l[i] f) (k := l[i].flow - l[i - 1].flow) (by omega) (by omega) (by omega)
      have f2 := ceil_fn (n := rise l[i - 1] l[i] f) (k := l[i].flow - l[i - 1].flow) (by omega) (by omega) (by omega)
      simp -dsimp -implicitDefEqProofs [e, n1, n2]
      refine DrawR.on {} (by kernel_rfl) (by simp) ?_
      simp -dsimp -implicitDefEqProofs [w1, hx, hx2]
      refine DrawR.on {} (by kernel_rfl) (by simp) ?_
      simp -dsimp -implicitDefEqProofs [v1, v2, er, v3, v4]
      refine DrawR.on {} (by kernel_rfl) (by simp) ?_
      simp -dsimp -implicitDefEqProofs
      refine onCallQ_in (f1.beside rfl _) ?_
      simp -dsimp -implicitDefEqProofs
      refine onCallQ_in (f2.beside rfl _) ?_
      simp -dsimp -implicitDefEqProofs [c1, c2]
      exact ⟨by simpa [part] using v5, by simpa [part] using v6⟩
end Go.Pe

/- Levels of a reach, and the reference's. -/
namespace Go.Pe
open Go Go.Proofs Go.Proofs.YtffckclggkjbgaaGreat
attribute [local simp] t3 u3 t4 u4 t5 u5 t22 u22 t23 u23 t25 u25 t27 u27 t28 u28 t30 u30 t32 u32   t37 u37 t43 u43     t50 u50   t75 u75 t77 u77     t94 u94   t102 u102 t117 u117 t119 u119     t130 u130 t134 u134 t138 u138   t155 u155 t156 u156   t172 u172
set_option maxRecDepth 20000
set_option maxHeartbeats 8000000
attribute [local simp] fW_eq fR_eq fS_eq extA

def lvl (r : Rc) (b : Bd) : Bd := ⟨max (cv b.lo false r.curve) r.weir, max (cv b.hi true r.curve) r.weir⟩
theorem levelAt_fn {r : Rc} {b : Bd} {h : H} (hv : validCv r.curve = true) (h1 : b.lo.natAbs ≤ 1000000000000) (h2 : b.hi.natAbs ≤ 1000000000000) : Fn Tryz.prog 132 [.agg (fR r), .agg [I b.lo, I b.hi]] h (.agg [I (lvl r b).lo, I (lvl r b).hi]) h := by
  refine Fn.beside ?_ rfl h
  refine Fn.ofR0 noM (by kernel_rfl) Tryz.func132 rfl (by simp) ?_
  simp -dsimp -implicitDefEqProofs
  refine onCall_in (curveAt_fn hv h1) ?_
  simp -dsimp -implicitDefEqProofs
  refine onCall_in (curveAt_fn hv h2) ?_
  simp -dsimp -implicitDefEqProofs [lvl]
theorem validR_parts {r : Rc} (h : validR r = true) : (1 ≤ r.len ∧ r.len ≤ 5000) ∧ (0 ≤ r.delay ∧ r.delay ≤ 200) ∧ vB 0 10000000000 r.base = true ∧ validCv r.curve = true ∧ (0 ≤ r.weir ∧ r.weir ≤ 10000) ∧ (0 ≤ r.flood ∧ r.flood ≤ 10000) ∧ vB 0 10000 r.bot = true := by
  simp only [validR, Bool.and_eq_true, inB_iff] at h
  obtain ⟨h1, h2, h3, h4, ⟨h5, h6⟩, h7⟩ := h
  exact ⟨h1, h2, h3, h4, h5, h6, h7⟩
open Classical in
noncomputable def levRes (r : Rc) (b : Bd) : Bd × Int := if validR r = true then (if vB 0 210000000000 b = true then (lvl r b, 0) else (⟨0, 0⟩, 3)) else (⟨0, 0⟩, 2)
theorem Level_fn {r : Rc} {b : Bd} {h : H} (hl : (r.curve.length : Int) < 2^62) : Fn Tryz.prog 93 [.agg (fR r), .agg [I b.lo, I b.hi]] h (.tup [.agg [I (levRes r b).1.lo, I (levRes r b).1.hi], I (levRes r b).2]) h := by
  refine Fn.beside ?_ rfl h
  refine Fn.ofR0 noM (by kernel_rfl) Tryz.func93 rfl (by simp) ?_
  simp -dsimp -implicitDefEqProofs
  refine onCall_in (validReach_fn hl) ?_
  simp -dsimp -implicitDefEqProofs
  refine ifB_in (fun h1 => ?_) (fun h1 => ?_)
  rotate_left
  · simp -dsimp -implicitDefEqProofs [levRes, h1]
  simp -dsimp -implicitDefEqProofs
  refine onCall_in v_fn ?_
  simp -dsimp -implicitDefEqProofs
  refine ifB_in (fun h2 => ?_) (fun h2 => ?_)
  rotate_left
  · simp -dsimp -implicitDefEqProofs [levRes, h1, h2]
  have hb := vB_iff.1 h2
  simp -dsimp -implicitDefEqProofs
  refine onCall_in (levelAt_fn (validR_parts h1).2.2.2.1 (by omega) (by omega)) ?_
  simp -dsimp -implicitDefEqProofs [levRes, h1, h2]

/-- The reference's divisions, for what is not below 0. -/
theorem FloorN_fn {n k : Int} (hk : 0 < k) (h0 : 0 ≤ n) (hn : n ≤ 1000000000000000000) {h : H} : Fn Tryz.prog 174 [I n, I k] h (I (n / k)) h := by
  refine Fn.beside ?_ rfl h
  refine Fn.ofR0 noM (by kernel_rfl) Tryz.func174 rfl (by simp) ?_
  have hk0 : k ≠ 0 := by omega
  have e : n.tdiv k = n / k := Int.tdiv_eq_ediv_of_nonneg h0
  have hd : k * (n / k) ≤ n := by have := Int.mul_ediv_add_emod n k; have := Int.emod_nonneg n hk0; omega
  have hq0 : 0 ≤ n / k := Int.ediv_nonneg h0 (by omega)
  have hq1 : 0 ≤ k * (n / k) := Int.mul_nonneg (by omega) hq0
  have hql : n / k ≤ n := Int.ediv_le_self _ h0
  have w0 := wrap_in (n := n / k) (by omega) (by omega)
  have w1 := wrap_in (n := n / k * k) (by rw [Int.mul_comm]; omega) (by rw [Int.mul_comm]; omega)
  have hc : decide (n < n / k * k) = false := decide_eq_false (by rw [Int.mul_comm]; omega)
  simp -dsimp -implicitDefEqProofs [hk0, e, w0, w1, hc]
theorem CeilN_fn {n k : Int} (hk : 0 < k) (h0 : 0 ≤ n) (hn : n ≤ 1000000000000000000) {h : H} : Fn Tryz.prog 108 [I n, I k] h (I (-((-n) / k))) h := by
  refine Fn.beside ?_ rfl h
  refine Fn.ofR0 noM (by kernel_rfl) Tryz.func108 rfl (by simp) ?_
  have hk0 : k ≠ 0 := by omega
  have e : n.tdiv k = n / k := Int.tdiv_eq_ediv_of_nonneg h0
  have hme := Int.mul_ediv_add_emod n k
  have hm0 := Int.emod_nonneg n hk0
  have hm1 := Int.emod_lt_of_pos n hk
  have hq0 : 0 ≤ n / k := Int.ediv_nonneg h0 (by omega)
  have hq1 : 0 ≤ k * (n / k) := Int.mul_nonneg (by omega) hq0
  have hql : n / k ≤ n := Int.ediv_le_self _ h0
  have w0 := wrap_in (n := n / k) (by omega) (by omega)
  have w1 := wrap_in (n := n / k * k) (by rw [Int.mul_comm]; omega) (by rw [Int.mul_comm]; omega)
  have w2 := wrap_in (n := n / k + 1) (by omega) (by omega)
  have hc : -((-n) / k) = if n / k * k < n then n / k + 1 else n / k := by
    split
    · rename_i hlt
      rw [Int.mul_comm] at hlt
      have : (-n) / k = -(n / k) - 1 := by
        rw [Int.ediv_eq_iff_of_pos hk, Int.sub_mul, Int.neg_mul, Int.one_mul, Int.mul_comm (n / k) k]
        omega
      omega
    · rename_i hge
      rw [Int.mul_comm] at hge
      have hz : n % k = 0 := by omega
      have hdv : k ∣ n := Int.dvd_of_emod_eq_zero hz
      rw [Int.neg_ediv_of_dvd hdv]; omega
  simp -dsimp -implicitDefEqProofs [hk0, e, w0, w1]
  refine ifD_in (fun h => ?_) (fun h => ?_)
  · simp -dsimp -implicitDefEqProofs [hk0, e, w0, w1, w2, hc, h]
  · simp -dsimp -implicitDefEqProofs [hk0, e, w0, w1, w2, hc, h]

/-- The reference's curve. -/
theorem Curve_fn {r : Rc} {f : Int} {up : Bool} {h : H} (hv : validCv r.curve = true) (hf : f.natAbs ≤ 1000000000000) : Fn Tryz.prog 173 [.agg (fR r), I f, B up] h (I (cv f up r.curve)) h := by
  refine Fn.beside ?_ rfl h
  refine Fn.ofR0 noM (by kernel_rfl) Tryz.func173 rfl (by simp) ?_
  obtain ⟨l, hle⟩ : ∃ l, l = r.curve := ⟨_, rfl⟩
  obtain ⟨hl, hs, hb⟩ := validCv_parts hv
  rw [← hle] at hl hs hb
  have hx0 := List.getElem?_eq_getElem (show 0 < l.length by omega)
  have hxl := List.getElem?_eq_getElem (show l.length - 1 < l.length by omega)
  have hlast : l.getLast? = some l[l.length - 1] := by rw [List.getLast?_eq_getElem?, hxl]
  have w1 : IntKind.i64.wrap ((l.length : Int) - 1) = ((l.length - 1 : Nat) : Int) := by rw [wrap_in (by omega) (by omega)]; omega
  have hcl : f ≤ l[0].flow → cv f up l = l[0].level := fun h9 => by
    cases l with
    | nil => simp at hl
    | cons w l => exact cv_low h9
  have hsort : ∀ (k : Nat) (h : k + 1 < l.length), l[k].flow < l[k + 1].flow ∧ l[k].level ≤ l[k + 1].level := fun k hk => by
    simp only [validCv, Bool.and_eq_true, decide_eq_true_eq] at hv
    rw [← hle] at hv
    have := (hv.2 (k + 1) hk hk).2 (by omega)
    simpa using this
  have hav : AV.agg (fR r) = .agg [I r.len, I r.delay, I r.base.lo, I r.base.hi, .ro false 2 (l.map fW), I r.weir, I r.bot.lo, I r.bot.hi, I r.flood] := by rw [hle]; rfl
  rw [hav, ← hle]
  simp -dsimp -implicitDefEqProofs [w1, hxl, hx0]
  refine ifD_in (fun h1 => ?_) (fun h1 => ?_)
  · have c1 := hcl h1
    simp -dsimp -implicitDefEqProofs [hx0, c1]
  simp -dsimp -implicitDefEqProofs
  refine ifD_in (fun h2 => ?_) (fun h2 => ?_)
  · have c2 := cv_high (up := up) hs hlast h2
    simp -dsimp -implicitDefEqProofs [c2]
  simp -dsimp -implicitDefEqProofs
  refine LoopCR.on 89 (fun i => [(1, I f), (2, B up), (3, .ptr 0 0), (8, I (i : Nat))]) (fun i => [some [I r.len, I r.delay, I r.base.lo, I r.base.hi, .ro false 2 (l.map fW), I r.weir, I r.bot.lo, I r.bot.hi, I r.flood]]) (fun i => i + 1 < l.length ∧ ∀ (h : i < l.length), l[i].flow < f) (fun i => l.length - i) 0 [0] ⟨by omega, fun _ => by omega⟩ ?_ ?_
  · simp -dsimp -implicitDefEqProofs
  rintro i j ⟨hi, hlt⟩
  have hlt := hlt (by omega)
  have hx := List.getElem?_eq_getElem (show i < l.length by omega)
  have hx1 := List.getElem?_eq_getElem hi
  have w2 : IntKind.i64.wrap ((i : Int) + 1) = ((i + 1 : Nat) : Int) := by rw [wrap_in (by omega) (by omega)]; omega
  simp -dsimp -implicitDefEqProofs [w2, hx1]
  refine ifD_in (fun h3 => ?_) (fun h3 => ?_)
  · have hi2 : i + 1 + 1 < l.length := by
      by_cases h9 : i + 1 + 1 < l.length
      · exact h9
      · have : i + 1 = l.length - 1 := by omega
        have : l[i + 1].flow = l[l.length - 1].flow := by simp only [this]
        omega
    simp -dsimp -implicitDefEqProofs [w2]
    refine again_in (i + 1) [0] ⟨hi2, fun _ => h3⟩ (by omega) ?_
    simp -dsimp -implicitDefEqProofs [w2]
  have hsr := hsort i hi
  have hb1 := hb _ (List.getElem_mem hi)
  have hb2 := hb _ (List.getElem_mem (show i < l.length by omega))
  have c1 := cv_mid (f := f) (up := up) hs hx hx1 (by omega) (by omega)
  have hr := rise_in hb2 hb1 (show l[i].flow ≤ f by omega) (by omega) hsr.2
  have p1 := part_in (up := up) hr (by omega)
  have er : (f - l[i].flow) * (l[i + 1].level - l[i].level) = rise l[i] l[i + 1] f := rfl
  have v1 := wrap_in (n := f - l[i].flow) (by omega) (by omega)
  have v2 := wrap_in (n := l[i + 1].level - l[i].level) (by omega) (by omega)
  have v3 := wrap_in (n := rise l[i] l[i + 1] f) (by omega) (by omega)
  have v4 := wrap_in (n := l[i + 1].flow - l[i].flow) (by omega) (by omega)
  have v5 := wrap_in (n := l[i].level + part l[i] l[i + 1] f up) (by omega) (by omega)
  have f1 := FloorN_fn (n := rise l[i] l[i + 1] f) (k := l[i + 1].flow - l[i].flow) (h := .nil) (by omega) (by omega) (by omega)
  have f2 := CeilN_fn (n := rise l[i] l[i + 1] f) (k := l[i + 1].flow - l[i].flow) (h := .nil) (by omega) (by omega) (by omega)
  simp -dsimp -implicitDefEqProofs
  refine DrawR.on {} (by kernel_rfl) (by simp) ?_
  simp -dsimp -implicitDefEqProofs [w2, hx, hx1]
  refine DrawR.on {} (by kernel_rfl) (by simp) ?_
  simp -dsimp -implicitDefEqProofs [v1, v2, er, v3, v4]
  cases up with
  | true =>
    simp -dsimp -implicitDefEqProofs
    refine DrawR.on {} (by kernel_rfl) (by simp) ?_
    simp -dsimp -implicitDefEqProofs
    refine onCallQ_in (f2.beside rfl _) ?_
    simp -dsimp -implicitDefEqProofs [c1]
    simpa [part] using v5
  | false =>
    simp -dsimp -implicitDefEqProofs
    refine DrawR.on {} (by kernel_rfl) (by simp) ?_
    simp -dsimp -implicitDefEqProofs
    refine onCallQ_in (f1.beside rfl _) ?_
    simp -dsimp -implicitDefEqProofs [c1]
    simpa [part] using v5
end Go.Pe

/- Rivers that are valid: the program's and the reference's word. -/
namespace Go.Pe
open Go Go.Proofs Go.Proofs.YtffckclggkjbgaaGreat
attribute [local simp] t3 u3 t4 u4 t5 u5 t22 u22 t23 u23 t25 u25 t27 u27 t28 u28 t30 u30 t32 u32   t37 u37 t43 u43     t50 u50   t75 u75 t77 u77     t94 u94   t102 u102 t117 u117 t119 u119     t130 u130 t134 u134 t138 u138   t155 u155 t156 u156   t172 u172
set_option maxRecDepth 20000
set_option maxHeartbeats 8000000
attribute [local simp] fW_eq fR_eq fS_eq extA

theorem In2_fn {n lo hi : Int} {h : H} : Fn Tryz.prog 65 [I n, I lo, I hi] h (B (inB lo hi n)) h := In_fn
theorem Valid2_fn {b : Bd} {lo hi : Int} {h : H} : Fn Tryz.prog 77 [.agg [I b.lo, I b.hi], I lo, I hi] h (B (vB lo hi b)) h := by
  have := Valid_fn (b := b) (lo := lo) (hi := hi) (h := h)
  rwa [rValid_eq] at this
theorem rLevel_fn {r : Rc} {b : Bd} {h : H} (hv : validCv r.curve = true) (h1 : b.lo.natAbs ≤ 1000000000000) (h2 : b.hi.natAbs ≤ 1000000000000) : Fn Tryz.prog 148 [.agg (fR r), .agg [I b.lo, I b.hi]] h (.agg [I (lvl r b).lo, I (lvl r b).hi]) h := by
  refine Fn.beside ?_ rfl h
  refine Fn.ofR0 noM (by kernel_rfl) Tryz.func148 rfl (by simp) ?_
  simp -dsimp -implicitDefEqProofs
  refine DrawR.on { M := [2], eff := [(15, [2])] } (by kernel_rfl) (by simp) ?_
  simp -dsimp -implicitDefEqProofs
  refine onCallQ_in (Curve_fn hv h1) ?_
  simp -dsimp -implicitDefEqProofs
  refine onCallQ_in (Curve_fn hv h2) ?_
  simp -dsimp -implicitDefEqProofs [lvl]
  exact ⟨Int.max_comm _ _, Int.max_comm _ _⟩

theorem rReach_fn {r : Rc} {h : H} (hl : (r.curve.length : Int) < 2^62) : Fn Tryz.prog 153 [.agg (fR r)] h (B (validR r)) h := by
  refine Fn.beside ?_ rfl h
  refine Fn.ofR0 noM (by kernel_rfl) Tryz.func153 rfl (by simp) ?_
  simp -dsimp -implicitDefEqProofs
  refine onCall_in In2_fn ?_
  simp -dsimp -implicitDefEqProofs
  refine ifB_in (fun h1 => ?_) (fun h1 => ?_)
  rotate_left
  · simp -dsimp -implicitDefEqProofs [validR, h1]
  simp -dsimp -implicitDefEqProofs
  refine onCall_in In2_fn ?_
  simp -dsimp -implicitDefEqProofs
  refine ifB_in (fun h2 => ?_) (fun h2 => ?_)
  rotate_left
  · simp -dsimp -implicitDefEqProofs [validR, h2]
  simp -dsimp -implicitDefEqProofs
  refine onCall_in Valid2_fn ?_
  simp -dsimp -implicitDefEqProofs
  refine ifB_in (fun h3 => ?_) (fun h3 => ?_)
  rotate_left
  · simp -dsimp -implicitDefEqProofs [validR, h3]
  simp -dsimp -implicitDefEqProofs
  refine onCall_in In2_fn ?_
  simp -dsimp -implicitDefEqProofs
  refine ifB_in (fun h4 => ?_) (fun h4 => ?_)
  rotate_left
  · simp -dsimp -implicitDefEqProofs [validR, validCv, h4]
  simp -dsimp -implicitDefEqProofs
  refine onCall_in In2_fn ?_
  simp -dsimp -implicitDefEqProofs
  refine ifB_in (fun h5 => ?_) (fun h5 => ?_)
  rotate_left
  · simp -dsimp -implicitDefEqProofs [validR, h5]
  simp -dsimp -implicitDefEqProofs
  refine onCall_in Valid2_fn ?_
  simp -dsimp -implicitDefEqProofs
  refine ifB_in (fun h6 => ?_) (fun h6 => ?_)
  rotate_left
  · simp -dsimp -implicitDefEqProofs [validR, h6]
  simp -dsimp -implicitDefEqProofs
  refine onCall_in In2_fn ?_
  simp -dsimp -implicitDefEqProofs
  refine ifB_in (fun h7 => ?_) (fun h7 => ?_)
  rotate_left
  · simp -dsimp -implicitDefEqProofs [validR, h7]
  simp -dsimp -implicitDefEqProofs
  obtain ⟨l, hle⟩ : ∃ l, l = r.curve := ⟨_, rfl⟩
  rw [← hle] at hl h4
  have hvc : validR r = validCv l := by rw [validR, h1, h2, h3, h5, h6, h7, hle]; simp
  have hav : fR r = [I r.len, I r.delay, I r.base.lo, I r.base.hi, .ro false 2 (l.map fW), I r.weir, I r.bot.lo, I r.bot.hi, I r.flood] := by rw [hle]; rfl
  refine LoopCR.on 104 (fun i => [(1, .ptr 0 0), (3, I (i : Nat))]) (fun i => [some [I r.len, I r.delay, I r.base.lo, I r.base.hi, .ro false 2 (l.map fW), I r.weir, I r.bot.lo, I r.bot.hi, I r.flood]]) (fun i => i ≤ l.length ∧ upTo l i) (fun i => l.length - i) 0 [0] ⟨by simp, fun k _ hk => by omega⟩ ?_ ?_
  · simp -dsimp -implicitDefEqProofs [hle]
  rintro i j ⟨hi, hu⟩
  simp -dsimp -implicitDefEqProofs
  refine ifD_in (fun hlt => ?_) (fun hge => ?_)
  rotate_left
  · have hin : i = l.length := by omega
    subst hin
    simp -dsimp -implicitDefEqProofs [hvc, validCv, h4, hu]
  have hlt' : i < l.length := by omega
  have hx := List.getElem?_eq_getElem hlt'
  have bad : ∀ (P : Prop), (¬ P) → (upTo l l.length → P) → validCv l = false := fun P h2 h3 => by
    simp only [validCv, Bool.and_eq_false_iff, decide_eq_false_iff_not]
    exact .inr fun h4 => h2 (h3 h4)
  have b1 : (¬ inB 0 10000000000 l[i].flow = true) → validCv l = false := fun h9 => bad _ h9 fun hh => (hh i hlt' hlt').1.1
  have b2 : (¬ inB 0 10000 l[i].level = true) → validCv l = false := fun h9 => bad _ h9 fun hh => (hh i hlt' hlt').1.2
  have hst : ∀ (h5 : inB 0 10000000000 l[i].flow = true) (h6 : inB 0 10000 l[i].level = true) (h7 : ∀ (h0 : 0 < i), l[i - 1].flow < l[i].flow ∧ l[i - 1].level ≤ l[i].level), upTo l (i + 1) := fun h5 h6 h7 k hk hki => by
    by_cases hk' : k < i
    · exact hu k hk hk'
    · have : k = i := by omega
      subst this; exact ⟨⟨h5, h6⟩, h7⟩
  have b3 : ∀ (h0 : 0 < i), ¬ (l[i - 1].flow < l[i].flow ∧ l[i - 1].level ≤ l[i].level) → validCv l = false := fun h0 h2 => bad _ h2 fun hh => (hh i hlt' hlt').2 h0
  simp -dsimp -implicitDefEqProofs [hx]
  refine onCall_in In2_fn ?_
  simp -dsimp -implicitDefEqProofs
  refine ifB_in (fun h8 => ?_) (fun h8 => ?_)
  rotate_left
  · have := b1 (by simp [h8])
    simp -dsimp -implicitDefEqProofs [hvc, this]
  simp -dsimp -implicitDefEqProofs [hx]
  refine onCall_in In2_fn ?_
  simp -dsimp -implicitDefEqProofs
  refine ifB_in (fun h9 => ?_) (fun h9 => ?_)
  rotate_left
  · have := b2 (by simp [h9])
    simp -dsimp -implicitDefEqProofs [hvc, this]
  simp -dsimp -implicitDefEqProofs
  refine DrawR.on {} (by kernel_rfl) (by simp) ?_
  simp -dsimp -implicitDefEqProofs
  refine ifD_in (fun h10 => ?_) (fun h10 => ?_)
  · have h0 : 0 < i := by omega
    have e1 : IntKind.i64.wrap ((i : Int) - 1) = ((i - 1 : Nat) : Int) := by rw [wrap_in (by omega) (by omega)]; omega
    have hx2 := List.getElem?_eq_getElem (show i - 1 < l.length by omega)
    have b3' := b3 h0
    have hst' := hst h8 h9
    clear hst
    simp -dsimp -implicitDefEqProofs [hx, e1, hx2]
    refine ifD_in (fun h11 => ?_) (fun h11 => ?_)
    · have := b3' (by omega)
      simp -dsimp -implicitDefEqProofs [hvc, this]
    simp -dsimp -implicitDefEqProofs [hx, e1, hx2]
    refine ifD_in (fun h12 => ?_) (fun h12 => ?_)
    · have := b3' (by omega)
      simp -dsimp -implicitDefEqProofs [hvc, this]
    simp -dsimp -implicitDefEqProofs
    have hst2 := hst' fun _ => by omega
    refine again_in (i + 1) [0] ⟨by omega, hst2⟩ (by omega) ?_
    simp -dsimp -implicitDefEqProofs
    rw [wrap_in (by omega) (by omega)]
  · simp -dsimp -implicitDefEqProofs
    have hst2 := hst h8 h9 fun _ => by omega
    refine again_in (i + 1) [0] ⟨by omega, hst2⟩ (by omega) ?_
    simp -dsimp -implicitDefEqProofs
    rw [wrap_in (by omega) (by omega)]

theorem Places_fn {r : Rv} {fu : Bool} {h : H} (hl : r.rs.length ≤ 1000000) (hb : ∀ x ∈ r.rs, x.len.natAbs ≤ 1000000) : Fn Tryz.prog 116 [r.av fu] h (I (lenSum r.rs)) h := by
  refine Fn.beside ?_ rfl h
  refine Fn.ofR0 noM (by kernel_rfl) Tryz.func116 rfl (by simp) ?_
  simp -dsimp -implicitDefEqProofs
  refine LoopCR.on 21 (fun i => [(1, .ptr 0 0), (3, I (lenSum (r.rs.take i))), (4, I (i : Nat))]) (fun i => [some [r.reaches fu, r.shoals]]) (fun i => i ≤ r.rs.length) (fun i => r.rs.length - i) 0 [0] (by simp) ?_ ?_
  · simp -dsimp -implicitDefEqProofs [lenSum]
  intro i j hi
  simp -dsimp -implicitDefEqProofs
  refine ifD_in (fun hlt => ?_) (fun hge => ?_)
  · have hlt' : i < r.rs.length := by omega
    have hx := List.getElem?_eq_getElem hlt'
    have h1 := lenSum_in hb i (by omega)
    have h2 := hb _ (List.getElem_mem hlt')
    have h3 : lenSum (r.rs.take (i + 1)) = lenSum (r.rs.take i) + r.rs[i].len := by rw [List.take_add_one, hx, Option.toList_some, lenSum_snoc]
    have w1 := wrap_in (n := lenSum (r.rs.take i) + r.rs[i].len) (by omega) (by omega)
    simp -dsimp -implicitDefEqProofs [hx, w1]
    refine again_in (i + 1) [0] (by omega) (by omega) ?_
    simp -dsimp -implicitDefEqProofs [h3]
    rw [wrap_in (by omega) (by omega)]
  · have hin : i = r.rs.length := by omega
    subst hin
    simp -dsimp -implicitDefEqProofs
end Go.Pe
