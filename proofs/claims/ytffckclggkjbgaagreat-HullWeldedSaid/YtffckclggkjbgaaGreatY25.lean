import Derived.Test.YtffckclggkjbgaaGreatY24
set_option linter.unusedVariables false
set_option linter.unusedSimpArgs false
/- How long a hull is, and how many holds it has. -/
namespace Go.Pe
open Go Go.Proofs Go.Proofs.YtffckclggkjbgaaGreat
attribute [local simp] t3 u3 t4 u4
attribute [local simp] ts22 us22 ts24 us24 ts72 us72 ts118 us118 ts120 us120 ts25 us25 ts75 us75 ts150 us150
attribute [local simp] convA extA lenA
set_option maxRecDepth 20000
set_option maxHeartbeats 8000000
attribute [local simp] fSec_eq

def sumI (f : Sec → Int) (l : List Sec) : Nat → Int
  | 0 => 0
  | i + 1 => match l[i]? with
    | some s => sumI f l i + f s
    | none => sumI f l i
theorem sumI_succ {f : Sec → Int} {l : List Sec} {i : Nat} {s : Sec} (h : l[i]? = some s) : sumI f l (i + 1) = sumI f l i + f s := by simp [sumI, h]
theorem sumI_in {f : Sec → Int} {l : List Sec} (hf : ∀ s ∈ l, 0 ≤ f s ∧ f s ≤ 1000) : ∀ i, i ≤ l.length → 0 ≤ sumI f l i ∧ sumI f l i ≤ 1000 * i
  | 0, _ => by simp [sumI]
  | i + 1, hi => by
    have hx : ∃ p, l[i]? = some p := ⟨_, List.getElem?_eq_getElem (by omega)⟩
    obtain ⟨p, hx⟩ := hx
    have := sumI_in hf i (by omega)
    have := hf p (List.mem_of_getElem? hx)
    rw [sumI_succ hx]
    omega
theorem hullLen_fn {l : List Sec} {f1 : Bool} {h : H} (hn : l.length ≤ 10) (hl : ∀ s ∈ l, 0 ≤ s.a ∧ s.a ≤ 1000) : Fn Tryz.prog 97 [.ro f1 5 (l.map fSec)] h (I (sumI Sec.a l l.length)) h := by
  refine Fn.beside ?_ rfl h
  refine Fn.ofR0 noM (by kernel_rfl) Tryz.func97 rfl (by simp) ?_
  simp -dsimp -implicitDefEqProofs
  refine LoopCR.on 18 (fun i => [(3, I (sumI Sec.a l i)), (6, .ro f1 5 (l.map fSec)), (7, I (l.length : Nat)), (8, I (i : Nat))]) (fun i => []) (fun i => i ≤ l.length) (fun i => l.length - i) 0 [] (by simp) ?_ ?_
  · simp -dsimp -implicitDefEqProofs [sumI]
  intro i j hi
  simp -dsimp -implicitDefEqProofs
  refine ifD_in (fun hlt => ?_) (fun hge => ?_)
  · refine Exists.elim (show ∃ s, l[i]? = some s from ⟨_, List.getElem?_eq_getElem hlt⟩) fun s hs => ?_
    have w1 : IntKind.i64.wrap ((i : Int) + 1) = (i : Int) + 1 := wrap_in (by omega) (by omega)
    have hb := sumI_in (f := Sec.a) hl i hi
    have hs1 := hl s (List.mem_of_getElem? hs)
    have w2 : IntKind.i64.wrap (sumI Sec.a l i + s.a) = sumI Sec.a l (i + 1) := by rw [sumI_succ hs]; exact wrap_in (by omega) (by omega)
    simp -dsimp -implicitDefEqProofs [hs, w1, w2]
    refine again_in (i + 1) [] (by omega) (by omega) ?_
    simp -dsimp -implicitDefEqProofs
  · have hin : i = l.length := by omega
    simp -dsimp -implicitDefEqProofs [hin]
theorem hullHolds_fn {l : List Sec} {f1 : Bool} {h : H} (hn : l.length ≤ 10) (hl : ∀ s ∈ l, s.qs.length ≤ 1000) : Fn Tryz.prog 98 [.ro f1 5 (l.map fSec)] h (I (sumI (fun s => (s.qs.length : Int)) l l.length)) h := by
  refine Fn.beside ?_ rfl h
  refine Fn.ofR0 noM (by kernel_rfl) Tryz.func98 rfl (by simp) ?_
  simp -dsimp -implicitDefEqProofs
  refine LoopCR.on 19 (fun i => [(3, I (sumI (fun s => (s.qs.length : Int)) l i)), (6, .ro f1 5 (l.map fSec)), (7, I (l.length : Nat)), (8, I (i : Nat))]) (fun i => []) (fun i => i ≤ l.length) (fun i => l.length - i) 0 [] (by simp) ?_ ?_
  · simp -dsimp -implicitDefEqProofs [sumI]
  intro i j hi
  simp -dsimp -implicitDefEqProofs
  refine ifD_in (fun hlt => ?_) (fun hge => ?_)
  · refine Exists.elim (show ∃ s, l[i]? = some s from ⟨_, List.getElem?_eq_getElem hlt⟩) fun s hs => ?_
    have w1 : IntKind.i64.wrap ((i : Int) + 1) = (i : Int) + 1 := wrap_in (by omega) (by omega)
    have hb := sumI_in (f := fun s => (s.qs.length : Int)) (fun s h => ⟨by simp, by have := hl s h; simp; omega⟩) i hi
    have hs1 := hl s (List.mem_of_getElem? hs)
    have w2 : IntKind.i64.wrap (sumI (fun s => (s.qs.length : Int)) l i + (s.qs.length : Int)) = sumI (fun s => (s.qs.length : Int)) l (i + 1) := by rw [sumI_succ hs]; exact wrap_in (by omega) (by omega)
    simp -dsimp -implicitDefEqProofs [hs, w1, w2]
    refine again_in (i + 1) [] (by omega) (by omega) ?_
    simp -dsimp -implicitDefEqProofs
  · have hin : i = l.length := by omega
    simp -dsimp -implicitDefEqProofs [hin]
end Go.Pe

/- The curve of a section. -/
namespace Go.Pe
open Go Go.Proofs Go.Proofs.YtffckclggkjbgaaGreat
attribute [local simp] t3 u3 t4 u4
attribute [local simp] ts22 us22 ts24 us24 ts72 us72 ts118 us118 ts120 us120 ts25 us25 ts75 us75 ts150 us150
attribute [local simp] convA extA lenA
set_option maxRecDepth 20000
set_option maxHeartbeats 8000000
attribute [local simp] fPt_eq neq150
/-- Rows that rise. -/
def upC (l : List Pt) (i : Nat) : Prop := ∀ (k : Nat) (p q : Pt), k < i → l[k]? = some p → l[k + 1]? = some q → p.x < q.x ∧ p.y < q.y
open Classical in
noncomputable def hullCv (l : List Pt) : Bool := inB 2 20 l.length && decide (∃ p, l[0]? = some p ∧ p.x = 0 ∧ p.y = 0) && decide (upC l (l.length - 1)) && decide (∃ p, l[l.length - 1]? = some p ∧ p.x ≤ 1000 ∧ p.y ≤ 100000)
theorem hullCv_iff {l : List Pt} : hullCv l = true ↔ inB 2 20 l.length = true ∧ (∃ p, l[0]? = some p ∧ p.x = 0 ∧ p.y = 0) ∧ upC l (l.length - 1) ∧ ∃ p, l[l.length - 1]? = some p ∧ p.x ≤ 1000 ∧ p.y ≤ 100000 := by
  simp only [hullCv, Bool.and_eq_true, decide_eq_true_eq, and_assoc]
theorem hullCurve_fn {l : List Pt} {fu : Bool} {h : H} (hl : (l.length : Int) < 2^62) : Fn Tryz.prog 135 [.ro fu 2 (l.map fPt)] h (B (hullCv l)) h := by
  refine Fn.beside ?_ rfl h
  refine Fn.ofR0 noM (by kernel_rfl) Tryz.func135 rfl (by simp) ?_
  simp -dsimp -implicitDefEqProofs
  refine onCall_in vin1_fn ?_
  cases h1 : inB 2 20 (l.length : Int) with
  | false => simp -dsimp -implicitDefEqProofs [hullCv, h1]
  | true =>
    have h2 := inB_iff.1 h1
    cases l with
    | nil => simp at h2
    | cons p0 r =>
      have hr : 1 ≤ r.length ∧ r.length ≤ 19 := by simp at h2; omega
      simp -dsimp -implicitDefEqProofs
      refine ifB_in (fun h3 => ?_) (fun h3 => ?_)
      · have hz : ¬ (p0.x = 0 ∧ p0.y = 0) := by simp at h3; omega
        have hv : hullCv (p0 :: r) = false := by simp [hullCv, hz]
        simp -dsimp -implicitDefEqProofs [hv]
      · have hz : p0.x = 0 ∧ p0.y = 0 := by simpa using h3
        have s1 : (0 : Int) ≤ (r.length : Int) + 1 := by omega
        have s2 : (1 : Int) ≤ (r.length : Int) + 1 := by omega
        have s3 : List.take r.length (List.map fPt r) = List.map fPt r := List.take_of_length_le (by simp)
        refine Exists.elim (show ∃ X, X = (p0 :: r).map fPt from ⟨_, rfl⟩) fun X hX => ?_
        have hXl : X.length = r.length + 1 := by rw [hX]; simp
        have hXg : ∀ (i : Nat) (p : Pt), (p0 :: r)[i]? = some p → X[i]? = some [I p.x, I p.y] := fun i p h => by rw [hX, List.getElem?_map, h]; rfl
        simp -dsimp -implicitDefEqProofs [sliceA, boundA, intOf?, s1, s2, s3]
        refine LoopCR.on 58 (fun i => [(0, .ro fu 2 X), (20, .ro false 2 (r.map fPt)), (21, I (r.length : Nat)), (22, I (i : Nat))]) (fun i => []) (fun i => i ≤ r.length ∧ upC (p0 :: r) i) (fun i => r.length - i) 0 [] ⟨by simp, fun k p q hk => by omega⟩ ?_ ?_
        · simp -dsimp -implicitDefEqProofs [hX]
        rintro i j ⟨hi, hu⟩
        simp -dsimp -implicitDefEqProofs
        refine ifD_in (fun hlt => ?_) (fun hge => ?_)
        · refine Exists.elim (show ∃ q, r[i]? = some q from ⟨_, List.getElem?_eq_getElem hlt⟩) fun q hq => ?_
          refine Exists.elim (show ∃ p, (p0 :: r)[i]? = some p from ⟨_, List.getElem?_eq_getElem (show i < (p0 :: r).length by simp; omega)⟩) fun p hp => ?_
          have hp' := hXg i p hp
          have hq2 : (p0 :: r)[i + 1]? = some q := by simpa using hq
          have w1 : IntKind.i64.wrap ((i : Int) + 1) = (i : Int) + 1 := wrap_in (by omega) (by omega)
          refine (Classical.em (p.x < q.x ∧ p.y < q.y)).elim (fun hb => ?_) (fun hb => ?_)
          · have d1 : decide (q.x ≤ p.x) = false := decide_eq_false (by omega)
            have d2 : decide (q.y ≤ p.y) = false := decide_eq_false (by omega)
            have hu2 : upC (p0 :: r) (i + 1) := fun k a b hk ha hb' => by
              by_cases hki : k = i
              · subst hki; rw [hp] at ha; rw [hq2] at hb'; cases ha; cases hb'; exact hb
              · exact hu k a b (by omega) ha hb'
            simp -dsimp -implicitDefEqProofs [hq, hp', d1, d2, w1]
            refine again_in (i + 1) [] ⟨by omega, hu2⟩ (by omega) ?_
            simp -dsimp -implicitDefEqProofs
          · have hv : hullCv (p0 :: r) = false := by
              have : ¬ upC (p0 :: r) ((p0 :: r).length - 1) := fun h => hb (h i p q (by simp; omega) hp hq2)
              exact Bool.eq_false_iff.2 fun h => this (hullCv_iff.1 h).2.2.1
            refine (Classical.em (q.x ≤ p.x)).elim (fun h4 => ?_) (fun h4 => ?_)
            · have d1 : decide (q.x ≤ p.x) = true := decide_eq_true h4
              simp -dsimp -implicitDefEqProofs [hq, hp', d1, hv]
            · have d1 : decide (q.x ≤ p.x) = false := decide_eq_false h4
              have d2 : decide (q.y ≤ p.y) = true := decide_eq_true (by omega)
              simp -dsimp -implicitDefEqProofs [hq, hp', d1, d2, hv]
        · have hin : i = r.length := by omega
          refine Exists.elim (show ∃ p, (p0 :: r)[r.length]? = some p from ⟨_, List.getElem?_eq_getElem (show r.length < (p0 :: r).length by simp)⟩) fun p hp => ?_
          have hp' := hXg r.length p hp
          have hg : ∀ hb : r.length < X.length, X[r.length] = [I p.x, I p.y] := fun hb => (List.getElem?_eq_some_iff.1 hp').2
          have w2 : IntKind.i64.wrap (r.length : Int) = r.length := wrap_in (by omega) (by omega)
          rw [hin] at hu
          have hv : hullCv (p0 :: r) = (decide (p.x ≤ 1000) && decide (p.y ≤ 100000)) := by
            have e1 : upC (p0 :: r) ((p0 :: r).length - 1) := by simpa using hu
            have e2 : ((p0 :: r)[(p0 :: r).length - 1]?) = some p := by simpa using hp
            have e3 : hullCv (p0 :: r) = true ↔ p.x ≤ 1000 ∧ p.y ≤ 100000 := by
              rw [hullCv_iff, e2]
              exact ⟨fun h => by obtain ⟨_, _, _, a, h5, h6⟩ := h; cases h5; exact h6, fun h => ⟨h1, ⟨p0, rfl, hz⟩, e1, p, rfl, h⟩⟩
            rw [Bool.eq_iff_iff, e3, Bool.and_eq_true, decide_eq_true_iff, decide_eq_true_iff]
          refine (Classical.em (p.x ≤ 1000)).elim (fun h4 => ?_) (fun h4 => ?_)
          · have d1 : decide (p.x ≤ 1000) = true := decide_eq_true h4
            rw [d1, Bool.true_and] at hv
            simp -dsimp -implicitDefEqProofs [hXl, hp', hg, w2, d1, hv]
          · have d1 : decide (p.x ≤ 1000) = false := decide_eq_false h4
            rw [d1, Bool.false_and] at hv
            simp -dsimp -implicitDefEqProofs [hXl, hp', hg, w2, d1, hv]
end Go.Pe

/- Functions over sections and holds. -/
namespace Go.Pe
open Go Go.Proofs Go.Proofs.YtffckclggkjbgaaGreat
theorem tsi152 : ti Tryz.prog 152 = some { kind := TK.oth, size := 1, zero := [Value.nilFunc], agg := false, bytes := 8, fok := true, cmp := true } := by kernel_rfl
theorem ts152 {f : TI → Option AV} : tyInt Tryz.prog 152 f = f { kind := TK.oth, size := 1, zero := [Value.nilFunc], agg := false, bytes := 8, fok := true, cmp := true } := tyInt_of tsi152
theorem us152 {f : TI → Option (AV × H)} : tyInt2 Tryz.prog 152 f = f { kind := TK.oth, size := 1, zero := [Value.nilFunc], agg := false, bytes := 8, fok := true, cmp := true } := tyInt2_of tsi152
theorem tsi222 : ti Tryz.prog 222 = some { kind := TK.oth, size := 1, zero := [Value.nilFunc], agg := false, bytes := 8, fok := true, cmp := true } := by kernel_rfl
theorem ts222 {f : TI → Option AV} : tyInt Tryz.prog 222 f = f { kind := TK.oth, size := 1, zero := [Value.nilFunc], agg := false, bytes := 8, fok := true, cmp := true } := tyInt_of tsi222
theorem us222 {f : TI → Option (AV × H)} : tyInt2 Tryz.prog 222 f = f { kind := TK.oth, size := 1, zero := [Value.nilFunc], agg := false, bytes := 8, fok := true, cmp := true } := tyInt2_of tsi222
section
attribute [local simp] ap_skip ap_region ap_seq ap_cond ap_block ap_loop ap_exit ap_ret ap_seq_normal ap_seq_ret ap_seq_exit ap_block_normal ap_block_ret ap_block_exit ap_block_other ap_nil ap_draw ap_dr_nil ap_fin_ret ap_fin_normal ap_loopK dstT_zero dstT_succ Nat.add_assoc onSome_some onSome_none ifB_true ifB_false ifB_not onClo_clo onBool_bool onBool_tup frz_val frz_ro takeAt elemTy LeN_refl LeN_push LeN_set push_get push_next set_get set_next nil_get nil_next pop_move pop_assign pop_pick pop_load pop_fieldAddr pop_indexAddr pop_field pop_binOp pop_unOp pop_convert pop_extract pop_makeFunc pop_nilCheck pop_build pop_slice pop_len pop_max pop_min eop_alloc eop_box eop_store eop_buildSlice eop_makeSlice eop_append as_move as_assign as_pick as_load as_fieldAddr as_indexAddr as_field as_binOp as_unOp as_convert as_extract as_makeFunc as_nilCheck as_build as_slice as_len as_max as_min as_alloc as_box as_store as_buildSlice as_makeSlice as_append as_call cons_free cons_guard putA_some putA_none aev_tmp aev_int aev_bool aev_nil aev_func pickA_and pickA_or pickA_true pickA_false nnA_ptr nnA_rop idxA_some intOf_int boxA_some bin_int binI_add binI_sub binI_mul binI_quo binI_rem binI_eql binI_neq binI_lss binI_leq binI_gtr binI_geq unA_not unA_neg loadA_ptr loadA_rop loadO_some asLoaded_agg asLoaded_one resA_one resA_two resOne_tmp resOne_cell cellsOf_int cellsOf_bool cellsOf_clo cellsOf_ptr cellsOf_ro cellsOf_sl cellsOf_nil cellsOf_agg one_int one_bool one_nil one_clo one_ptr one_ro one_sl one_rop mm_max mm_min elS_sl elS2_sl mkA_some chunk_zero chunk_succ zcells_zero zcells_succ clean_val clean_ro clean_rop clean1_val clean1_ro clean1_rop flat_val flat_ro flat_agg frz_agg frz_tup
attribute [local simp] t3 u3 t4 u4 t5 u5 t22 u22 t23 u23 t25 u25 t27 u27 t28 u28 t30 u30 t32 u32   t37 u37 t43 u43     t50 u50   t75 u75 t77 u77     t94 u94   t102 u102 t117 u117 t119 u119     t130 u130 t134 u134 t138 u138   t155 u155 t156 u156   t172 u172
attribute [local simp] lenA_ro indexA_ro
attribute [local simp] ts22 us22 ts24 us24 ts72 us72 ts118 us118 ts120 us120 ts25 us25 ts75 us75 ts150 us150 ts152 us152 ts222 us222 tz22 uz22 tz26 uz26 tz29 uz29 tz30 uz30 tz68 uz68 tz69 uz69
set_option maxRecDepth 20000
theorem indexFunc_sec {f : FuncId} {caps : List AV} {h : H} {p : List AV → Bool} {xs : List (List AV)} {fu : Bool} (hlen : (xs.length : Int) < 2^62) (hk : ∀ r ∈ xs, r.length = 5) (hF : ∀ x ∈ xs, Fn Tryz.prog f ([AV.agg x] ++ caps) h (B (p x)) h) :
    Fn Tryz.prog 169 [.ro fu 5 xs, .clo f caps] h (I (idx p xs)) h := by
  refine Fn.keep noM noC (by kernel_rfl) Tryz.func169 rfl rfl fun _ => ?_
  simp -dsimp -implicitDefEqProofs
  refine LoopC.on (σ := Nat) (fun i j => [.ro fu 5 xs, .clo f caps, j 2, j 3, j 4, j 5, j 6, I xs.length, I i, j 9, j 10, j 11, j 12, j 13, j 14, j 15, j 16, j 17, j 18])
    (fun i k => k = h ∧ i ≤ xs.length ∧ ∀ q, q < i → ∀ x, xs[q]? = some x → p x = false) (fun i => xs.length - i) 0 ⟨rfl, by omega, fun q hq => by omega⟩ (by simp) ?_
  rintro i j h' ⟨rfl, hi, hp⟩
  simp -dsimp -implicitDefEqProofs
  refine ifD_in (fun hlt => ?_) (fun hge => ?_)
  · have hx := List.getElem?_eq_getElem (show i < xs.length by omega)
    have hl := hk _ (List.getElem_mem (show i < xs.length by omega))
    have ht : xs[i].take 5 = xs[i] := List.take_of_length_le (by omega)
    simp -dsimp -implicitDefEqProofs [hx, hl, ht]
    refine onCall_in (hF _ (List.getElem_mem (by omega))) ?_
    simp -dsimp -implicitDefEqProofs
    refine ifB_in (fun hb => by simp -dsimp -implicitDefEqProofs [idx_hit hx hb hp]) (fun hb => ?_)
    simp -dsimp -implicitDefEqProofs
    refine ⟨i + 1, ⟨by omega, fun q hq x hqx => ?_⟩, ?_, by omega⟩
    · by_cases hqi : q = i
      · subst hqi; rw [hx] at hqx; cases hqx; simpa using hb
      · exact hp q (by omega) x hqx
    · rw [wrap_in (by omega) (by omega)]; omega
  · simp -dsimp -implicitDefEqProofs
    exact (idx_miss fun q hq => hp q (by omega)).symm
theorem containsFunc_sec {f : FuncId} {caps : List AV} {h : H} {p : List AV → Bool} {xs : List (List AV)} {fu : Bool} (hlen : (xs.length : Int) < 2^62) (hk : ∀ r ∈ xs, r.length = 5) (hF : ∀ x ∈ xs, Fn Tryz.prog f ([AV.agg x] ++ caps) h (B (p x)) h) :
    Fn Tryz.prog 133 [.ro fu 5 xs, .clo f caps] h (B (xs.any p)) h := by
  refine Fn.keep noM noC (by kernel_rfl) Tryz.func133 rfl rfl fun _ => ?_
  simp -dsimp -implicitDefEqProofs
  refine onCall_in (indexFunc_sec hlen hk hF) ?_
  simp -dsimp -implicitDefEqProofs
  exact idx_any
theorem every1_sec {f : FuncId} {caps : List AV} {h : H} {b : Nat} {x : List AV} {v : Bool} (hb : h.get b = some [.clo f caps]) (ho : ∀ a ∈ x, one a = true) (hl : x.length = 5) (hF : Fn Tryz.prog f ([AV.agg x] ++ caps) (h.push x) (B v) (h.push x)) : Fn Tryz.prog 134 [AV.agg x, .ptr b 0] h (B !v) h := by
  refine Fn.keep noM noC (by kernel_rfl) Tryz.func134 rfl rfl fun live => ?_
  have hne : ¬ b = h.next := by have := (live.1 b _ hb).1; omega
  have ht : x.take 5 = x := List.take_of_length_le (by omega)
  simp -dsimp -implicitDefEqProofs [hb, hl, ht, hne]
  rw [if_pos ho]
  simp -dsimp -implicitDefEqProofs [hb, hl, ht, hne]
  refine onCall_in hF ?_
  simp -dsimp -implicitDefEqProofs
theorem every_sec {f : FuncId} {caps : List AV} {h : H} {p : List AV → Bool} {xs : List (List AV)} {fu : Bool} (hlen : (xs.length : Int) < 2^62) (hk : ∀ r ∈ xs, r.length = 5) (ho : ∀ x ∈ xs, ∀ a ∈ x, one a = true) (hF : ∀ x ∈ xs, Fn Tryz.prog f ([AV.agg x] ++ caps) ((h.push [.clo f caps]).push x) (B (p x)) ((h.push [.clo f caps]).push x)) :
    Fn Tryz.prog 95 [.ro fu 5 xs, .clo f caps] h (B (xs.all p)) h := by
  refine Fn.keep noM noC (by kernel_rfl) Tryz.func95 rfl rfl fun _ => ?_
  simp -dsimp -implicitDefEqProofs
  refine onCall_in (containsFunc_sec (p := fun x => !p x) hlen hk fun x hx => every1_sec (b := h.next) (f := f) (caps := caps) (by simp) (ho x hx) (hk x hx) (hF x hx)) ?_
  simp -dsimp -implicitDefEqProofs
  rw [Bool.eq_iff_iff]; simp

end
section
attribute [local simp] ap_skip ap_region ap_seq ap_cond ap_block ap_loop ap_exit ap_ret ap_seq_normal ap_seq_ret ap_seq_exit ap_block_normal ap_block_ret ap_block_exit ap_block_other ap_nil ap_draw ap_dr_nil ap_fin_ret ap_fin_normal ap_loopK dstT_zero dstT_succ Nat.add_assoc onSome_some onSome_none ifB_true ifB_false ifB_not onClo_clo onBool_bool onBool_tup frz_val frz_ro takeAt elemTy LeN_refl LeN_push LeN_set push_get push_next set_get set_next nil_get nil_next pop_move pop_assign pop_pick pop_load pop_fieldAddr pop_indexAddr pop_field pop_binOp pop_unOp pop_convert pop_extract pop_makeFunc pop_nilCheck pop_build pop_slice pop_len pop_max pop_min eop_alloc eop_box eop_store eop_buildSlice eop_makeSlice eop_append as_move as_assign as_pick as_load as_fieldAddr as_indexAddr as_field as_binOp as_unOp as_convert as_extract as_makeFunc as_nilCheck as_build as_slice as_len as_max as_min as_alloc as_box as_store as_buildSlice as_makeSlice as_append as_call cons_free cons_guard putA_some putA_none aev_tmp aev_int aev_bool aev_nil aev_func pickA_and pickA_or pickA_true pickA_false nnA_ptr nnA_rop idxA_some intOf_int boxA_some bin_int binI_add binI_sub binI_mul binI_quo binI_rem binI_eql binI_neq binI_lss binI_leq binI_gtr binI_geq unA_not unA_neg loadA_ptr loadA_rop loadO_some asLoaded_agg asLoaded_one resA_one resA_two resOne_tmp resOne_cell cellsOf_int cellsOf_bool cellsOf_clo cellsOf_ptr cellsOf_ro cellsOf_sl cellsOf_nil cellsOf_agg one_int one_bool one_nil one_clo one_ptr one_ro one_sl one_rop mm_max mm_min elS_sl elS2_sl mkA_some chunk_zero chunk_succ zcells_zero zcells_succ clean_val clean_ro clean_rop clean1_val clean1_ro clean1_rop flat_val flat_ro flat_agg frz_agg frz_tup
attribute [local simp] t3 u3 t4 u4 t5 u5 t22 u22 t23 u23 t25 u25 t27 u27 t28 u28 t30 u30 t32 u32   t37 u37 t43 u43     t50 u50   t75 u75 t77 u77     t94 u94   t102 u102 t117 u117 t119 u119     t130 u130 t134 u134 t138 u138   t155 u155 t156 u156   t172 u172
attribute [local simp] lenA_ro indexA_ro
attribute [local simp] ts22 us22 ts24 us24 ts72 us72 ts118 us118 ts120 us120 ts25 us25 ts75 us75 ts150 us150 ts152 us152 ts222 us222 tz22 uz22 tz26 uz26 tz29 uz29 tz30 uz30 tz68 uz68 tz69 uz69
set_option maxRecDepth 20000
theorem indexFunc_hold {f : FuncId} {caps : List AV} {h : H} {p : List AV → Bool} {xs : List (List AV)} {fu : Bool} (hlen : (xs.length : Int) < 2^62) (hk : ∀ r ∈ xs, r.length = 2) (hF : ∀ x ∈ xs, Fn Tryz.prog f ([AV.agg x] ++ caps) h (B (p x)) h) :
    Fn Tryz.prog 193 [.ro fu 2 xs, .clo f caps] h (I (idx p xs)) h := by
  refine Fn.keep noM noC (by kernel_rfl) Tryz.func193 rfl rfl fun _ => ?_
  simp -dsimp -implicitDefEqProofs
  refine LoopC.on (σ := Nat) (fun i j => [.ro fu 2 xs, .clo f caps, j 2, j 3, j 4, j 5, j 6, I xs.length, I i, j 9, j 10, j 11, j 12, j 13, j 14, j 15, j 16, j 17, j 18])
    (fun i k => k = h ∧ i ≤ xs.length ∧ ∀ q, q < i → ∀ x, xs[q]? = some x → p x = false) (fun i => xs.length - i) 0 ⟨rfl, by omega, fun q hq => by omega⟩ (by simp) ?_
  rintro i j h' ⟨rfl, hi, hp⟩
  simp -dsimp -implicitDefEqProofs
  refine ifD_in (fun hlt => ?_) (fun hge => ?_)
  · have hx := List.getElem?_eq_getElem (show i < xs.length by omega)
    have hl := hk _ (List.getElem_mem (show i < xs.length by omega))
    have ht : xs[i].take 2 = xs[i] := List.take_of_length_le (by omega)
    simp -dsimp -implicitDefEqProofs [hx, hl, ht]
    refine onCall_in (hF _ (List.getElem_mem (by omega))) ?_
    simp -dsimp -implicitDefEqProofs
    refine ifB_in (fun hb => by simp -dsimp -implicitDefEqProofs [idx_hit hx hb hp]) (fun hb => ?_)
    simp -dsimp -implicitDefEqProofs
    refine ⟨i + 1, ⟨by omega, fun q hq x hqx => ?_⟩, ?_, by omega⟩
    · by_cases hqi : q = i
      · subst hqi; rw [hx] at hqx; cases hqx; simpa using hb
      · exact hp q (by omega) x hqx
    · rw [wrap_in (by omega) (by omega)]; omega
  · simp -dsimp -implicitDefEqProofs
    exact (idx_miss fun q hq => hp q (by omega)).symm
theorem containsFunc_hold {f : FuncId} {caps : List AV} {h : H} {p : List AV → Bool} {xs : List (List AV)} {fu : Bool} (hlen : (xs.length : Int) < 2^62) (hk : ∀ r ∈ xs, r.length = 2) (hF : ∀ x ∈ xs, Fn Tryz.prog f ([AV.agg x] ++ caps) h (B (p x)) h) :
    Fn Tryz.prog 170 [.ro fu 2 xs, .clo f caps] h (B (xs.any p)) h := by
  refine Fn.keep noM noC (by kernel_rfl) Tryz.func170 rfl rfl fun _ => ?_
  simp -dsimp -implicitDefEqProofs
  refine onCall_in (indexFunc_hold hlen hk hF) ?_
  simp -dsimp -implicitDefEqProofs
  exact idx_any
theorem every1_hold {f : FuncId} {caps : List AV} {h : H} {b : Nat} {x : List AV} {v : Bool} (hb : h.get b = some [.clo f caps]) (ho : ∀ a ∈ x, one a = true) (hl : x.length = 2) (hF : Fn Tryz.prog f ([AV.agg x] ++ caps) (h.push x) (B v) (h.push x)) : Fn Tryz.prog 171 [AV.agg x, .ptr b 0] h (B !v) h := by
  refine Fn.keep noM noC (by kernel_rfl) Tryz.func171 rfl rfl fun live => ?_
  have hne : ¬ b = h.next := by have := (live.1 b _ hb).1; omega
  have ht : x.take 2 = x := List.take_of_length_le (by omega)
  simp -dsimp -implicitDefEqProofs [hb, hl, ht, hne]
  rw [if_pos ho]
  simp -dsimp -implicitDefEqProofs [hb, hl, ht, hne]
  refine onCall_in hF ?_
  simp -dsimp -implicitDefEqProofs
theorem every_hold {f : FuncId} {caps : List AV} {h : H} {p : List AV → Bool} {xs : List (List AV)} {fu : Bool} (hlen : (xs.length : Int) < 2^62) (hk : ∀ r ∈ xs, r.length = 2) (ho : ∀ x ∈ xs, ∀ a ∈ x, one a = true) (hF : ∀ x ∈ xs, Fn Tryz.prog f ([AV.agg x] ++ caps) ((h.push [.clo f caps]).push x) (B (p x)) ((h.push [.clo f caps]).push x)) :
    Fn Tryz.prog 136 [.ro fu 2 xs, .clo f caps] h (B (xs.all p)) h := by
  refine Fn.keep noM noC (by kernel_rfl) Tryz.func136 rfl rfl fun _ => ?_
  simp -dsimp -implicitDefEqProofs
  refine onCall_in (containsFunc_hold (p := fun x => !p x) hlen hk fun x hx => every1_hold (b := h.next) (f := f) (caps := caps) (by simp) (ho x hx) (hk x hx) (hF x hx)) ?_
  simp -dsimp -implicitDefEqProofs
  rw [Bool.eq_iff_iff]; simp

end
end Go.Pe
