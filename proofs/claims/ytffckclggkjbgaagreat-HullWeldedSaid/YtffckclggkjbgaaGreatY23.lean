import Derived.Test.YtffckclggkjbgaaGreatY22
import Derived.Test.YtffckclggkjbgaaGreatY14
set_option linter.unusedVariables false
set_option linter.unusedSimpArgs false
/- Plates: the reference's years of one. -/
namespace Go.Pe
open Go Go.Proofs Go.Proofs.YtffckclggkjbgaaGreat
attribute [local simp] t3 u3 t4 u4 t5 u5 t22 u22 t23 u23 t25 u25 t27 u27 t28 u28 t30 u30 t32 u32 t37 u37 t43 u43 t50 u50 t75 u75 t77 u77 t94 u94 t102 u102 t117 u117 t119 u119 t130 u130 t134 u134 t138 u138 t155 u155 t156 u156 t172 u172
attribute [local simp] tz22 uz22 tz26 uz26 tz29 uz29 tz30 uz30 tz68 uz68 tz69 uz69
set_option maxRecDepth 20000
set_option maxHeartbeats 8000000

theorem yA_full {s w : Int} {i : Nat} (hs : 0 ≤ s) (hw : 0 ≤ w) (hi : (i : Int) * w ≤ s) (h1 : i = 1000) : yA s w = i := by
  subst h1
  have : ¬ s < 0 := by omega
  unfold yA
  rw [if_neg this]
  by_cases h0 : w = 0
  · simp [h0]
  · have : (1000 : Int) ≤ s / w := Int.le_ediv_of_mul_le (by omega) hi
    rw [if_neg h0]; simp only [Int.min_def]; split <;> omega
theorem yA_end {s w : Int} {i : Nat} (hs : 0 ≤ s) (hw : 0 ≤ w) (h1 : (i : Int) ≤ 1000) (hi : (i : Int) * w ≤ s) (he : s < ((i : Int) + 1) * w) : yA s w = i := by
  have : ¬ s < 0 := by omega
  unfold yA
  rw [if_neg this]
  by_cases h0 : w = 0
  · subst h0; simp at he; omega
  · have e : s / w = i := by
      have a : (i : Int) ≤ s / w := Int.le_ediv_of_mul_le (by omega) hi
      have b : s / w < (i : Int) + 1 := Int.ediv_lt_of_lt_mul (by omega) he
      omega
    rw [if_neg h0, e]; simp only [Int.min_def]; split <;> omega
theorem Years_fn {t w l : Int} {h : H} (ht : 0 ≤ t ∧ t ≤ 100000) (hw : 0 ≤ w ∧ w ≤ 1000) (hl : 0 ≤ l ∧ l ≤ 100000) : Fn Tryz.prog 84 [I t, I w, I l] h (I (yA (t - l) w)) h := by
  refine Fn.beside ?_ rfl h
  refine Fn.ofR0 noM (by kernel_rfl) Tryz.func84 rfl (by simp) ?_
  simp -dsimp -implicitDefEqProofs
  refine ifD_in (fun hs => ?_) (fun hs => ?_)
  · have : t - l < 0 := by omega
    simp -dsimp -implicitDefEqProofs [yA, this]
  simp -dsimp -implicitDefEqProofs
  refine LoopCR.on 26 (fun i => [(0, I t), (1, I w), (2, I l), (7, I (i : Nat))]) (fun i => []) (fun i => i ≤ 1000 ∧ (i : Int) * w ≤ t - l) (fun i => 1000 - i) 0 [] (by simp; omega) ?_ ?_
  · simp -dsimp -implicitDefEqProofs
  rintro i j ⟨hi, hm⟩
  simp -dsimp -implicitDefEqProofs
  refine ifD_in (fun hlt => ?_) (fun hge => ?_)
  · have hm1 : ((i : Int) + 1) * w ≤ 1001 * 1000 := by
      have := Int.mul_le_mul (show (i : Int) + 1 ≤ 1001 by omega) hw.2 hw.1 (by omega)
      exact this
    have hm0 : 0 ≤ ((i : Int) + 1) * w := Int.mul_nonneg (by omega) hw.1
    have w1 := wrap_in (n := (i : Int) + 1) (by omega) (by omega)
    have w2 := wrap_in (n := ((i : Int) + 1) * w) (by omega) (by omega)
    have w3 := wrap_in (n := t - ((i : Int) + 1) * w) (by omega) (by omega)
    simp -dsimp -implicitDefEqProofs [w1, w2, w3]
    refine ifD_in (fun h1 => ?_) (fun h1 => ?_)
    · simp -dsimp -implicitDefEqProofs [w1]
      refine again_in (i + 1) [] (by constructor; · omega
                                     · push_cast; omega) (by omega) ?_
      simp -dsimp -implicitDefEqProofs
    · simp -dsimp -implicitDefEqProofs
      exact (yA_end (by omega) hw.1 (by omega) hm (by omega)).symm
  · simp -dsimp -implicitDefEqProofs
    exact (yA_full (by omega) hw.1 hm (by omega)).symm
end Go.Pe

/- Plates: the reference's life of a hull. -/
namespace Go.Pe
open Go Go.Proofs Go.Proofs.YtffckclggkjbgaaGreat
attribute [local simp] t3 u3 t4 u4 t5 u5 t22 u22 t23 u23 t25 u25 t27 u27 t28 u28 t30 u30 t32 u32 t37 u37 t43 u43 t50 u50 t75 u75 t77 u77 t94 u94 t102 u102 t117 u117 t119 u119 t130 u130 t134 u134 t138 u138 t155 u155 t156 u156 t172 u172
attribute [local simp] tz22 uz22 tz26 uz26 tz29 uz29 tz30 uz30 tz68 uz68 tz69 uz69
attribute [local simp] fP_eq
set_option maxRecDepth 20000
set_option maxHeartbeats 8000000

structure Lf where
  lo : Int
  hi : Int
  k : Nat
def loP (least : Int) (p : Pl) : Int := yA (p.thick.lo - least) p.wear.hi
def hiP (least : Int) (p : Pl) : Int := yA (p.thick.hi - least) p.wear.lo
def lfS (least : Int) (i : Nat) (s : Lf) (p : Pl) : Lf := ⟨if loP least p < s.lo then loP least p else s.lo, min s.hi (hiP least p), if loP least p < s.lo then i else s.k⟩
def lfI (m least : Int) (l : List Pl) : Nat → Lf
  | 0 => ⟨m, m, 0⟩
  | i + 1 => match l[i]? with | some p => lfS least i (lfI m least l i) p | none => lfI m least l i
theorem lfI_zero {m least : Int} {l : List Pl} : lfI m least l 0 = ⟨m, m, 0⟩ := rfl
theorem lfI_succ {m least : Int} {l : List Pl} {i : Nat} {p : Pl} (h : l[i]? = some p) : lfI m least l (i + 1) = lfS least i (lfI m least l i) p := by simp [lfI, h]
theorem yA_le {s w : Int} : yA s w ≤ 1000 := by
  unfold yA
  split
  · omega
  · split <;> omega
theorem lfS_first {m least : Int} {p : Pl} (h : 1000 ≤ m) : lfS least 0 ⟨m, m, 0⟩ p = ⟨loP least p, hiP least p, 0⟩ := by
  have a : loP least p ≤ 1000 := yA_le
  have b : hiP least p ≤ 1000 := yA_le
  have c1 : (if loP least p < m then loP least p else m) = loP least p := by split <;> omega
  have c3 : min m (hiP least p) = hiP least p := by omega
  show (⟨if loP least p < m then loP least p else m, min m (hiP least p), if loP least p < m then 0 else 0⟩ : Lf) = _
  rw [c1, c3, ite_self]
/-- From any high beginning the same comes. -/
theorem lfI_any {m m' least : Int} {l : List Pl} (h1 : 1000 ≤ m) (h2 : 1000 ≤ m') : ∀ i, 0 < i → i ≤ l.length → lfI m least l i = lfI m' least l i := by
  intro i h0 hi
  induction i with
  | zero => omega
  | succ i ih =>
    obtain ⟨p, hx⟩ : ∃ p, l[i]? = some p := ⟨_, List.getElem?_eq_getElem (by omega)⟩
    rw [lfI_succ hx, lfI_succ hx]
    by_cases hz : i = 0
    · subst hz
      rw [lfI_zero, lfI_zero, lfS_first h1, lfS_first h2]
    · rw [ih (by omega) (by omega)]

theorem rLife_fn {l : List Pl} {least : Int} {h : H} {fu : Bool} (hn : l.length ≤ 100) (hp : ∀ p ∈ l, okP p = true) (hl : 0 ≤ least ∧ least ≤ 100000) :
    Fn Tryz.prog 43 [.ro fu 4 (l.map fP), I least] h (.tup [.agg [I (lfI 1000000 least l l.length).lo, I (lfI 1000000 least l l.length).hi], I (lfI 1000000 least l l.length).k]) h := by
  refine Fn.beside ?_ rfl h
  refine Fn.ofR0 noM (by kernel_rfl) Tryz.func43 rfl (by simp) ?_
  simp -dsimp -implicitDefEqProofs
  refine LoopCR.on 58 (fun i => [(0, .ro fu 4 (l.map fP)), (1, I least), (4, .ptr 0 0), (6, .ptr 1 0), (7, I (lfI 1000000 least l i).k), (8, I (i : Nat))]) (fun i => [some [I 0, I 0], some [I (lfI 1000000 least l i).lo, I (lfI 1000000 least l i).hi]]) (fun i => i ≤ l.length) (fun i => l.length - i) 0 [0, 1] (by simp) ?_ ?_
  · simp -dsimp -implicitDefEqProofs [lfI_zero]
  intro i j hi
  simp -dsimp -implicitDefEqProofs
  refine ifD_in (fun hlt => ?_) (fun hge => ?_)
  · have hlt' : i < l.length := by omega
    obtain ⟨p, hx⟩ : ∃ p, l[i]? = some p := ⟨_, List.getElem?_eq_getElem hlt'⟩
    have hok := hp p (List.mem_of_getElem? hx)
    have hok' := hok
    simp [okP, vB_iff] at hok'
    obtain ⟨⟨a1, ⟨a2, a3⟩, a4, a5⟩, b1, ⟨b2, b3⟩, b4, b5⟩ := hok'
    obtain ⟨s, hs⟩ : ∃ s, s = lfI 1000000 least l i := ⟨_, rfl⟩
    have hnew : lfI 1000000 least l (i + 1) = lfS least i s p := by rw [lfI_succ hx, ← hs]
    have w1 : IntKind.i64.wrap ((i : Int) + 1) = (i : Int) + 1 := wrap_in (by omega) (by omega)
    simp -dsimp -implicitDefEqProofs [hx, ← hs]
    refine DrawR.on {} (by kernel_rfl) (by simp) ?_
    simp -dsimp -implicitDefEqProofs [hx]
    refine onCallQ_in ((Years_fn ⟨a2, a3⟩ ⟨b4, b5⟩ hl).beside rfl _) ?_
    simp -dsimp -implicitDefEqProofs
    refine ifD_in (fun h3 => ?_) (fun h3 => ?_)
    · simp -dsimp -implicitDefEqProofs [hx]
      refine DrawR.on { M := [1], see := [(1, 1)], eff := [(18, [1])] } (by kernel_rfl) (by simp) ?_
      simp -dsimp -implicitDefEqProofs [hx]
      refine onCallQ_in ((Years_fn ⟨a4, a5⟩ ⟨b2, b3⟩ hl).beside rfl _) ?_
      simp -dsimp -implicitDefEqProofs [w1]
      refine again_in (i + 1) [0, 1] (by omega) (by omega) ?_
      have h3' : loP least p < s.lo := h3
      simp -dsimp -implicitDefEqProofs [hnew, lfS, h3']
      exact ⟨rfl, rfl⟩
    · simp -dsimp -implicitDefEqProofs [hx]
      refine DrawR.on { M := [1], see := [(1, 1)], eff := [(18, [1])] } (by kernel_rfl) (by simp) ?_
      simp -dsimp -implicitDefEqProofs [hx]
      refine onCallQ_in ((Years_fn ⟨a4, a5⟩ ⟨b2, b3⟩ hl).beside rfl _) ?_
      simp -dsimp -implicitDefEqProofs [w1]
      refine again_in (i + 1) [0, 1] (by omega) (by omega) ?_
      have h3' : ¬ loP least p < s.lo := h3
      simp -dsimp -implicitDefEqProofs [hnew, lfS, h3']
      rfl
  · have hin : i = l.length := by omega
    subst hin
    simp -dsimp -implicitDefEqProofs
end Go.Pe

/- Plates: the life of a hull. -/
namespace Go.Pe
open Go Go.Proofs Go.Proofs.YtffckclggkjbgaaGreat
attribute [local simp] t3 u3 t4 u4 t5 u5 t22 u22 t23 u23 t25 u25 t27 u27 t28 u28 t30 u30 t32 u32 t37 u37 t43 u43 t50 u50 t75 u75 t77 u77 t94 u94 t102 u102 t117 u117 t119 u119 t130 u130 t134 u134 t138 u138 t155 u155 t156 u156 t172 u172
attribute [local simp] tz22 uz22 tz26 uz26 tz29 uz29 tz30 uz30 tz68 uz68 tz69 uz69
attribute [local simp] fP_eq
set_option maxRecDepth 20000
set_option maxHeartbeats 8000000

open Classical in
/-- A truth about what lies in a row, said of the row. -/
noncomputable def pOf {α : Type} (f : α → List AV) (q : α → Bool) (x : List AV) : Bool := if h : ∃ a, f a = x then q h.choose else false
theorem pOf_eq {α : Type} {f : α → List AV} {q : α → Bool} (hf : ∀ a b, f a = f b → a = b) (a : α) : pOf f q (f a) = q a := by
  have h : ∃ b, f b = f a := ⟨a, rfl⟩
  unfold pOf
  rw [dif_pos h, hf _ _ h.choose_spec]
theorem all_pOf {α : Type} {f : α → List AV} {q : α → Bool} (hf : ∀ a b, f a = f b → a = b) (l : List α) : (l.map f).all (pOf f q) = l.all q := by
  rw [List.all_map]
  congr 1
  funext a
  exact pOf_eq hf a

theorem fP_inj (a b : Pl) (h : fP a = fP b) : a = b := by
  obtain ⟨⟨a1, a2⟩, a3, a4⟩ := a
  obtain ⟨⟨b1, b2⟩, b3, b4⟩ := b
  simp at h
  obtain ⟨h1, h2, h3, h4⟩ := h
  rw [h1, h2, h3, h4]
theorem plates_fn {l : List Pl} {fu : Bool} {h : H} (hl : (l.length : Int) < 2^62) : Fn Tryz.prog 81 [.ro fu 4 (l.map fP), .clo 82 []] h (B (l.all okP)) h := by
  have := every_plate (f := 82) (caps := []) (h := h) (p := pOf fP okP) (xs := l.map fP) (fu := fu) (by simpa using hl) (by simp) (by simp [one_int]) (fun x hx => by
    obtain ⟨r, hr, rfl⟩ := List.mem_map.1 hx
    rw [pOf_eq fP_inj]
    exact validPlate_fn)
  rwa [all_pOf fP_inj] at this
theorem vin1_fn {lo hi x : Int} {h : H} : Fn Tryz.prog 60 [I lo, I hi, .ro true 1 [[I x]]] h (B (inB lo hi x)) h := by
  have := vWithin_fn (lo := lo) (hi := hi) (h := h) (xs := [x]) (fu := true) (by simp)
  have e : ([x].all fun x => decide (lo ≤ x) && decide (x ≤ hi)) = inB lo hi x := by simp [inB]
  rwa [e] at this

def lifeE (l : List Pl) (least : Int) : Int := if l.length = 0 then 4 else if 50 < l.length then 5 else if l.all okP = false then 2 else if inB 0 100000 least = false then 3 else 0
theorem Life_bad {l : List Pl} {least : Int} {h : H} {fu : Bool} (hl : (l.length : Int) < 2^62) (he : lifeE l least ≠ 0) :
    Fn Tryz.prog 42 [.ro fu 4 (l.map fP), I least] h (.tup [.agg [I 0, I 0], I 0, I (lifeE l least)]) h := by
  refine Fn.beside ?_ rfl h
  refine Fn.ofR0 noM (by kernel_rfl) Tryz.func42 rfl (by simp) ?_
  simp -dsimp -implicitDefEqProofs
  refine ifD_in (fun h1 => ?_) (fun h1 => ?_)
  · have h0 : l = [] := List.length_eq_zero_iff.1 (by omega)
    simp -dsimp -implicitDefEqProofs [lifeE, h0]
  simp -dsimp -implicitDefEqProofs
  refine ifD_in (fun h2 => ?_) (fun h2 => ?_)
  · have h2' : 50 < l.length := by omega
    have h0 : l ≠ [] := by rintro rfl; simp at h1
    simp -dsimp -implicitDefEqProofs [lifeE, h0, h2']
  have h2' : ¬ 50 < l.length := by omega
  have h0 : l ≠ [] := by rintro rfl; simp at h1
  simp -dsimp -implicitDefEqProofs
  refine onCall_in (plates_fn hl) ?_
  simp -dsimp -implicitDefEqProofs
  refine ifB_in (fun h3 => ?_) (fun h3 => ?_)
  · have h3' : l.all okP = true := h3
    simp -dsimp -implicitDefEqProofs
    refine onCall_in vin1_fn ?_
    simp -dsimp -implicitDefEqProofs
    refine ifB_in (fun h4 => ?_) (fun h4 => ?_)
    · exact absurd (by simp [lifeE, h0, h2', h3', h4]) he
    · simp -dsimp -implicitDefEqProofs [lifeE, h0, h2', h3', h4]
  · have h3' : l.all okP = false := h3
    simp -dsimp -implicitDefEqProofs [lifeE, h0, h2', h3']
theorem Life_fn {l : List Pl} {least : Int} {h : H} {fu : Bool} (hl : (l.length : Int) < 2^62) (he : lifeE l least = 0) :
    Fn Tryz.prog 42 [.ro fu 4 (l.map fP), I least] h (.tup [.agg [I (lfI 1000 least l l.length).lo, I (lfI 1000 least l l.length).hi], I (lfI 1000 least l l.length).k, I 0]) h := by
  refine Fn.beside ?_ rfl h
  have g : (l.length ≠ 0 ∧ l.length ≤ 50) ∧ l.all okP = true ∧ inB 0 100000 least = true := by
    unfold lifeE at he
    split at he; · omega
    split at he; · omega
    split at he; · omega
    split at he; · omega
    rename_i a b c d
    exact ⟨⟨a, by omega⟩, by simpa using c, by simpa using d⟩
  obtain ⟨⟨g1, g2⟩, g3, g4⟩ := g
  have g5 := inB_iff.1 g4
  have d1 : decide ((l.length : Int) = 0) = false := by simpa using g1
  have d2 : decide ((l.length : Int) > 50) = false := by simp; omega
  have d3 : decide (50 < (l.length : Int)) = false := by simp; omega
  refine Fn.ofR0 noM (by kernel_rfl) Tryz.func42 rfl (by simp) ?_
  simp -dsimp -implicitDefEqProofs
  refine ifD_in (fun h1 => ?_) (fun h1 => ?_)
  · exact absurd (by simpa using h1) g1
  simp -dsimp -implicitDefEqProofs
  refine ifD_in (fun h1 => ?_) (fun h1 => ?_)
  · exact absurd h1 (by omega)
  simp -dsimp -implicitDefEqProofs
  refine onCall_in (plates_fn hl) ?_
  simp -dsimp -implicitDefEqProofs [g3]
  refine onCall_in vin1_fn ?_
  simp -dsimp -implicitDefEqProofs [g4]
  refine LoopCR.on 56 (fun i => [(1, I least), (4, .ptr 0 0), (5, I (lfI 1000 least l i).k), (6, I 0), (28, .ro fu 4 (l.map fP)), (29, I l.length), (30, I (i : Nat))]) (fun i => [some [I (lfI 1000 least l i).lo, I (lfI 1000 least l i).hi]]) (fun i => i ≤ l.length) (fun i => l.length - i) 0 [0] (by simp) ?_ ?_
  · simp -dsimp -implicitDefEqProofs [lfI_zero]
  intro i j hi
  simp -dsimp -implicitDefEqProofs
  refine ifD_in (fun hlt => ?_) (fun hge => ?_)
  · have hlt' : i < l.length := by omega
    obtain ⟨p, hx⟩ : ∃ p, l[i]? = some p := ⟨_, List.getElem?_eq_getElem hlt'⟩
    have hok : okP p = true := List.all_eq_true.1 g3 p (List.mem_of_getElem? hx)
    obtain ⟨s, hs⟩ : ∃ s, s = lfI 1000 least l i := ⟨_, rfl⟩
    have hnew : lfI 1000 least l (i + 1) = lfS least i s p := by rw [lfI_succ hx, ← hs]
    have w1 : IntKind.i64.wrap ((i : Int) + 1) = (i : Int) + 1 := wrap_in (by omega) (by omega)
    have hy := yearsOf_fn (p := p) (least := least) (h := .nil) hok g5
    rw [fP_eq] at hy
    simp -dsimp -implicitDefEqProofs [hx, ← hs]
    refine onCall_in (hy.beside rfl _) ?_
    simp -dsimp -implicitDefEqProofs
    refine ifD_in (fun h3 => ?_) (fun h3 => ?_)
    · simp -dsimp -implicitDefEqProofs [w1]
      refine again_in (i + 1) [0] (by omega) (by omega) ?_
      have h3' : loP least p < s.lo := h3
      simp -dsimp -implicitDefEqProofs [hnew, lfS, h3']
      exact ⟨rfl, rfl⟩
    · simp -dsimp -implicitDefEqProofs [w1]
      refine again_in (i + 1) [0] (by omega) (by omega) ?_
      have h3' : ¬ loP least p < s.lo := h3
      simp -dsimp -implicitDefEqProofs [hnew, lfS, h3']
      rfl
  · have hin : i = l.length := by omega
    subst hin
    simp -dsimp -implicitDefEqProofs
end Go.Pe
