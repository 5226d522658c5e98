import Derived.Test.YtffckclggkjbgaaGreatP02
import Derived.Test.YtffckclggkjbgaaGreatM15
set_option linter.unusedVariables false
set_option linter.unusedSimpArgs false
/- Flows, and copies and comparison of forecasts. -/
namespace Go.Pe
open Go Go.Proofs Go.Proofs.YtffckclggkjbgaaGreat
attribute [local simp] t3 u3 t4 u4 t5 u5 t22 u22 t23 u23 t25 u25 t27 u27 t28 u28 t30 u30 t32 u32   t37 u37 t43 u43     t50 u50   t75 u75 t77 u77     t94 u94   t102 u102 t117 u117 t119 u119     t130 u130 t134 u134 t138 u138   t155 u155 t156 u156   t172 u172
set_option maxRecDepth 20000
set_option maxHeartbeats 8000000
attribute [local simp] fW_eq fR_eq fS_eq extA fBd_eq fL_eq

end Go.Pe

/- The reference's errors of a forecast, and its flows. -/
namespace Go.Pe
open Go Go.Proofs Go.Proofs.YtffckclggkjbgaaGreat
attribute [local simp] t3 u3 t4 u4 t5 u5 t22 u22 t23 u23 t25 u25 t27 u27 t28 u28 t30 u30 t32 u32   t37 u37 t43 u43     t50 u50   t75 u75 t77 u77     t94 u94   t102 u102 t117 u117 t119 u119     t130 u130 t134 u134 t138 u138   t155 u155 t156 u156   t172 u172
set_option maxRecDepth 20000
set_option maxHeartbeats 8000000
attribute [local simp] fW_eq fR_eq fS_eq extA fBd_eq fL_eq

theorem rStart_fn {f : Fc} {f1 f2 : Bool} {h : H} (hw : SmallF f) : Fn Tryz.prog 78 [f.r.av f1, sidesAV f.sides f2] h (I (startE f)) h := by
  refine Fn.beside ?_ rfl h
  refine Fn.ofR0 noM (by kernel_rfl) Tryz.func78 rfl (by simp) ?_
  have hn := hw.n
  have hrn := hw.r.n
  simp -dsimp -implicitDefEqProofs
  refine onCall_in (rRiver_fn hw.r) ?_
  cases hV : validRv f.r with
  | false => simp -dsimp -implicitDefEqProofs [startE, hV]
  | true =>
    simp -dsimp -implicitDefEqProofs
    by_cases h1 : f.sides.length = f.r.rs.length
    rotate_left
    · have n1 : ((f.sides.length : Int) != f.r.rs.length) = true := by simp; omega
      simp -dsimp -implicitDefEqProofs [startE, hV, h1, n1]
    have n1 : ((f.sides.length : Int) != f.r.rs.length) = false := by simp [h1]
    have hpos : 0 < f.sides.length := by
      have := hV
      simp only [validRv, Bool.and_eq_true, inB_iff] at this
      omega
    have hx0 := List.getElem?_eq_getElem hpos
    have hh : f.sides[0].length = hrs f.sides := by simp [hrs, List.headD_eq_head?_getD, List.head?_eq_getElem?, hx0]
    have hc0 := hw.c _ (List.getElem_mem hpos)
    simp -dsimp -implicitDefEqProofs [n1, hx0, hh]
    refine ifB_in (fun h2 => ?_) (fun h2 => ?_)
    · have h2' : hrs f.sides = 0 := by simpa using h2
      simp -dsimp -implicitDefEqProofs [startE, hV, h1, h2']
    have h2' : hrs f.sides ≠ 0 := by simpa using h2
    simp -dsimp -implicitDefEqProofs
    refine LoopCR.on 69 (fun i => [(1, sidesAV f.sides f2), (2, .ptr 0 0), (5, I (i : Nat))]) (fun i => [some [f.r.reaches f1, f.r.shoals]]) (fun i => i ≤ f.sides.length ∧ ∀ l ∈ f.sides.take i, l.length = hrs f.sides) (fun i => f.sides.length - i) 0 [0] (by simp) ?_ ?_
    · simp -dsimp -implicitDefEqProofs
    rintro i j ⟨hi, hal⟩
    simp -dsimp -implicitDefEqProofs
    refine ifD_in (fun hlt => ?_) (fun hge => ?_)
    · have hlt' : i < f.sides.length := by omega
      have hx := List.getElem?_eq_getElem hlt'
      simp -dsimp -implicitDefEqProofs
      refine DrawR.on {} (by kernel_rfl) (by simp) ?_
      simp -dsimp -implicitDefEqProofs [hx, hx0, hh]
      refine ifB_in (fun h3 => ?_) (fun h3 => ?_)
      · have h3' : f.sides[i].length ≠ hrs f.sides := by simp at h3; omega
        have hl : lens f.sides = false := by
          rw [Bool.eq_false_iff]
          intro hl
          have := (List.all_eq_true.1 hl) _ (List.getElem_mem hlt')
          simp at this; omega
        simp -dsimp -implicitDefEqProofs [startE, hV, h1, h2', hl]
      have h3' : f.sides[i].length = hrs f.sides := by simp at h3; omega
      have hal2 : ∀ x ∈ f.sides.take (i + 1), x.length = hrs f.sides := fun x hxm => by
        rw [List.take_add_one, hx, Option.toList_some] at hxm
        rcases List.mem_append.1 hxm with hxm | hxm
        · exact hal x hxm
        · rw [List.mem_singleton] at hxm; rw [hxm]; exact h3'
      simp -dsimp -implicitDefEqProofs
      refine again_in (i + 1) [0] ⟨by omega, hal2⟩ (by omega) ?_
      simp -dsimp -implicitDefEqProofs
      rw [wrap_in (by omega) (by omega)]
    have hin : i = f.sides.length := by omega
    subst hin
    rw [List.take_length] at hal
    have hl : lens f.sides = true := List.all_eq_true.2 fun l hl => by have := hal l hl; simp; omega
    simp -dsimp -implicitDefEqProofs [hx0, hh]
    refine ifD_in (fun h4 => ?_) (fun h4 => ?_)
    · have h4' : 400 < hrs f.sides := by omega
      simp -dsimp -implicitDefEqProofs [startE, hV, h1, h2', hl, h4']
    have h4' : ¬ 400 < hrs f.sides := by omega
    simp -dsimp -implicitDefEqProofs
    have hbad : ∀ l ∈ f.sides, (∃ b ∈ l, vB 0 10000000000 b = false) → startE f = 2 := fun l hlm ⟨b, hb, hv⟩ => by
      have : oks f.sides = false := by
        rw [Bool.eq_false_iff]
        intro ho
        have := (List.all_eq_true.1 ((List.all_eq_true.1 ho) l hlm)) b hb
        rw [hv] at this; cases this
      simp [startE, hV, h1, h2', hl, h4', this]
    refine LoopCR.on 69 (fun i => [(1, sidesAV f.sides f2), (2, .ptr 0 0), (6, I (i : Nat))]) (fun i => [some [f.r.reaches f1, f.r.shoals]]) (fun i => i ≤ f.sides.length ∧ ∀ l ∈ f.sides.take i, l.all (vB 0 10000000000) = true) (fun i => f.sides.length - i) 0 [0] (by simp) ?_ ?_
    · simp -dsimp -implicitDefEqProofs
    rintro i j ⟨hi, hok⟩
    simp -dsimp -implicitDefEqProofs
    refine ifD_in (fun hlt => ?_) (fun hge => ?_)
    · have hlt' : i < f.sides.length := by omega
      have hx := List.getElem?_eq_getElem hlt'
      have hcx := hw.c _ (List.getElem_mem hlt')
      simp -dsimp -implicitDefEqProofs
      refine LoopCR.on 69 (fun k => [(1, sidesAV f.sides f2), (2, .ptr 0 0), (6, I (i : Nat)), (7, I (k : Nat))]) (fun k => [some [f.r.reaches f1, f.r.shoals]]) (fun k => k ≤ f.sides[i].length ∧ ∀ b ∈ f.sides[i].take k, vB 0 10000000000 b = true) (fun k => f.sides[i].length - k) 0 [0] (by simp) ?_ ?_
      · simp -dsimp -implicitDefEqProofs
      rintro k j ⟨hk, hokk⟩
      simp -dsimp -implicitDefEqProofs [hx]
      refine ifD_in (fun hlk => ?_) (fun hgk => ?_)
      · have hlk' : k < f.sides[i].length := by omega
        have hxk := List.getElem?_eq_getElem hlk'
        simp -dsimp -implicitDefEqProofs [hx, hxk]
        refine onCall_in Valid2_fn ?_
        simp -dsimp -implicitDefEqProofs
        refine ifB_in (fun h5 => ?_) (fun h5 => ?_)
        · have hokk2 : ∀ b ∈ f.sides[i].take (k + 1), vB 0 10000000000 b = true := fun x hxm => by
            rw [List.take_add_one, hxk, Option.toList_some] at hxm
            rcases List.mem_append.1 hxm with hxm | hxm
            · exact hokk x hxm
            · rw [List.mem_singleton] at hxm; rw [hxm]; exact h5
          simp -dsimp -implicitDefEqProofs
          refine again_in (k + 1) [0] ⟨by omega, hokk2⟩ (by omega) ?_
          simp -dsimp -implicitDefEqProofs
          rw [wrap_in (by omega) (by omega)]
        · have := hbad _ (List.getElem_mem hlt') ⟨_, List.getElem_mem hlk', h5⟩
          simp -dsimp -implicitDefEqProofs [this]
      have hkn : k = f.sides[i].length := by omega
      subst hkn
      rw [List.take_length] at hokk
      have hok2 : ∀ l ∈ f.sides.take (i + 1), l.all (vB 0 10000000000) = true := fun x hxm => by
        rw [List.take_add_one, hx, Option.toList_some] at hxm
        rcases List.mem_append.1 hxm with hxm | hxm
        · exact hok x hxm
        · rw [List.mem_singleton] at hxm; rw [hxm]; exact List.all_eq_true.2 hokk
      simp -dsimp -implicitDefEqProofs
      refine again_in (i + 1) [0] ⟨by omega, hok2⟩ (by omega) ?_
      simp -dsimp -implicitDefEqProofs
      rw [wrap_in (by omega) (by omega)]
    have hin : i = f.sides.length := by omega
    subst hin
    rw [List.take_length] at hok
    have ho : oks f.sides = true := List.all_eq_true.2 hok
    simp -dsimp -implicitDefEqProofs [startE, hV, h1, h2', hl, h4', ho]
end Go.Pe

/- The reference's flows. -/
namespace Go.Pe
open Go Go.Proofs Go.Proofs.YtffckclggkjbgaaGreat
attribute [local simp] t3 u3 t4 u4 t5 u5 t22 u22 t23 u23 t25 u25 t27 u27 t28 u28 t30 u30 t32 u32   t37 u37 t43 u43     t50 u50   t75 u75 t77 u77     t94 u94   t102 u102 t117 u117 t119 u119     t130 u130 t134 u134 t138 u138   t155 u155 t156 u156   t172 u172
set_option maxRecDepth 20000
set_option maxHeartbeats 8000000
attribute [local simp] fW_eq fR_eq fS_eq extA fBd_eq fL_eq

def baseOf (r : Rv) (i : Nat) : Bd := ((r.rs[i]?).map Rc.base).getD ⟨0, 0⟩
def delayOf (r : Rv) (i : Nat) : Int := ((r.rs[i]?).map Rc.delay).getD 0
def sideAt (s : List (List Bd)) (i : Nat) (h : Int) : Bd := ((s[i]?).getD []).getD h.toNat ⟨0, 0⟩
def rf (r : Rv) (s : List (List Bd)) : Nat → Int → Bd
  | 0, h => if h < 0 then baseOf r 0 else sideAt s 0 h
  | i + 1, h => if h < 0 then baseOf r (i + 1) else ⟨(sideAt s (i + 1) h).lo + (rf r s i (h - delayOf r i)).lo, (sideAt s (i + 1) h).hi + (rf r s i (h - delayOf r i)).hi⟩
theorem rf_neg {r : Rv} {s : List (List Bd)} {i : Nat} {h : Int} (hh : h < 0) : rf r s i h = baseOf r i := by cases i <;> simp [rf, hh]
theorem rf_zero {r : Rv} {s : List (List Bd)} {h : Int} (hh : ¬ h < 0) : rf r s 0 h = sideAt s 0 h := by simp [rf, hh]
theorem rf_succ {r : Rv} {s : List (List Bd)} {i : Nat} {h : Int} (hh : ¬ h < 0) : rf r s (i + 1) h = ⟨(sideAt s (i + 1) h).lo + (rf r s i (h - delayOf r i)).lo, (sideAt s (i + 1) h).hi + (rf r s i (h - delayOf r i)).hi⟩ := by simp [rf, hh]
theorem sideAt_in {f : Fc} (g : GoodF f) {i : Nat} {h : Int} : (sideAt f.sides i h).lo.natAbs ≤ 10000000000 ∧ (sideAt f.sides i h).hi.natAbs ≤ 10000000000 := by
  unfold sideAt
  cases hi : f.sides[i]? with
  | none => simp
  | some l =>
    simp only [Option.getD_some, List.getD_eq_getElem?_getD]
    cases hx : l[h.toNat]? with
    | none => simp
    | some b =>
      have := vB_iff.1 (g.oks l (List.mem_of_getElem? hi) b (List.mem_of_getElem? hx))
      simp only [Option.getD_some]
      omega
theorem baseOf_in {f : Fc} (g : GoodF f) {i : Nat} : (baseOf f.r i).lo.natAbs ≤ 10000000000 ∧ (baseOf f.r i).hi.natAbs ≤ 10000000000 := by
  unfold baseOf
  cases hi : f.r.rs[i]? with
  | none => simp
  | some x =>
    have := vB_iff.1 (validR_parts ((List.all_eq_true.1 g.rv) x (List.mem_of_getElem? hi))).2.2.1
    simp only [Option.map_some, Option.getD_some]
    omega
theorem rf_in {f : Fc} (g : GoodF f) : ∀ (i : Nat) (h : Int), (rf f.r f.sides i h).lo.natAbs ≤ (i + 1) * 10000000000 ∧ (rf f.r f.sides i h).hi.natAbs ≤ (i + 1) * 10000000000 := by
  intro i
  induction i with
  | zero =>
    intro h
    by_cases hh : h < 0
    · rw [rf_neg hh]; simpa using baseOf_in g
    · rw [rf_zero hh]; simpa using sideAt_in g
  | succ i ih =>
    intro h
    have hm : (i + 1 + 1) * 10000000000 = (i + 1) * 10000000000 + 10000000000 := Nat.succ_mul _ _
    have ih' := ih (h - delayOf f.r i)
    have hs := sideAt_in g (i := i + 1) (h := h)
    have hb := baseOf_in g (i := i + 1)
    rw [hm]
    revert ih'
    generalize (i + 1) * 10000000000 = m
    intro ih'
    by_cases hh : h < 0
    · rw [rf_neg hh]; omega
    · rw [rf_succ hh]; simp only; omega
theorem rFlow_fn {f : Fc} {f1 f2 : Bool} (g : GoodF f) : ∀ (i : Nat), i < f.sides.length → ∀ (hour : Int), -1000 ≤ hour → hour < hrs f.sides →
    Fn Tryz.prog 149 [f.r.av f1, sidesAV f.sides f2, I i, I hour] .nil (.agg [I (rf f.r f.sides i hour).lo, I (rf f.r f.sides i hour).hi]) .nil := by
  have hm := g.hmax
  have hn := g.small.n
  intro i
  induction i using Nat.strongRecOn with
  | _ i ih =>
  intro hi hour h1 h2
  have hir : i < f.r.rs.length := by have := g.eq; omega
  have hx := List.getElem?_eq_getElem hir
  have hbase : baseOf f.r i = f.r.rs[i].base := by simp [baseOf, hx]
  refine Fn.ofR0 noM (by kernel_rfl) Tryz.func149 rfl (by simp) ?_
  simp -dsimp -implicitDefEqProofs
  refine ifD_in (fun h3 => ?_) (fun h3 => ?_)
  · simp -dsimp -implicitDefEqProofs [hx, rf_neg h3, hbase]
  obtain ⟨k, rfl⟩ : ∃ k : Nat, hour = k := ⟨hour.toNat, by omega⟩
  have hs := List.getElem?_eq_getElem hi
  have hl := g.lens _ (List.getElem_mem hi)
  have hb := List.getElem?_eq_getElem (show k < f.sides[i].length by omega)
  have hside : sideAt f.sides i k = f.sides[i][k] := by simp [sideAt, hs, hb, List.getD_eq_getElem?_getD]
  simp -dsimp -implicitDefEqProofs [hs, hb]
  refine ifD_in (fun h4 => ?_) (fun h4 => ?_)
  · obtain ⟨p, hp⟩ : ∃ p, i = p + 1 := ⟨i - 1, by omega⟩
    have w1 : IntKind.i64.wrap ((i : Int) - 1) = (p : Int) := by rw [wrap_in (by omega) (by omega)]; omega
    have hxp := List.getElem?_eq_getElem (show p < f.r.rs.length by omega)
    have hdel : delayOf f.r p = f.r.rs[p].delay := by simp [delayOf, hxp]
    have hd := (validR_parts ((List.all_eq_true.1 g.rv) f.r.rs[p] (List.getElem_mem _))).2.1
    have w2 : IntKind.i64.wrap ((k : Int) - f.r.rs[p].delay) = (k : Int) - f.r.rs[p].delay := by rw [wrap_in (by omega) (by omega)]
    have key := ih p (by omega) (by omega) ((k : Int) - f.r.rs[p].delay) (by omega) (by omega)
    have hrf : rf f.r f.sides i k = ⟨f.sides[i][k].lo + (rf f.r f.sides p ((k : Int) - f.r.rs[p].delay)).lo, f.sides[i][k].hi + (rf f.r f.sides p ((k : Int) - f.r.rs[p].delay)).hi⟩ := by
      rw [← hside, ← hdel]
      have := rf_succ (r := f.r) (s := f.sides) (i := p) (h := (k : Int)) (by omega)
      rwa [← hp] at this
    have hin := rf_in g p ((k : Int) - f.r.rs[p].delay)
    have hsin := sideAt_in g (i := i) (h := k)
    rw [hside] at hsin
    have hbig : (p + 1) * 10000000000 ≤ 250000000000 := Nat.mul_le_mul_right 10000000000 (show p + 1 ≤ 25 by omega)
    simp -dsimp -implicitDefEqProofs
    refine DrawR.on {} (by kernel_rfl) (by simp) ?_
    simp -dsimp -implicitDefEqProofs [w1, hxp, w2]
    refine onCallQ_in (key.beside rfl _) ?_
    simp -dsimp -implicitDefEqProofs
    rw [hrf]
    generalize (p + 1) * 10000000000 = m at *
    have e1 : IntKind.i64.wrap (f.sides[i][k].lo + (rf f.r f.sides p ((k : Int) - f.r.rs[p].delay)).lo) = f.sides[i][k].lo + (rf f.r f.sides p ((k : Int) - f.r.rs[p].delay)).lo := wrap_in (by omega) (by omega)
    have e2 : IntKind.i64.wrap (f.sides[i][k].hi + (rf f.r f.sides p ((k : Int) - f.r.rs[p].delay)).hi) = f.sides[i][k].hi + (rf f.r f.sides p ((k : Int) - f.r.rs[p].delay)).hi := wrap_in (by omega) (by omega)
    simp -dsimp -implicitDefEqProofs [e1, e2]
  · have hi0 : i = 0 := by omega
    have hrf : rf f.r f.sides i k = f.sides[i][k] := by
      rw [← hside]
      subst hi0
      exact rf_zero (by omega)
    rw [hrf]
    simp -dsimp -implicitDefEqProofs
end Go.Pe

/- The flows of the reference are those of the package; all levels. -/
namespace Go.Pe
open Go Go.Proofs Go.Proofs.YtffckclggkjbgaaGreat
attribute [local simp] t3 u3 t4 u4 t5 u5 t22 u22 t23 u23 t25 u25 t27 u27 t28 u28 t30 u30 t32 u32   t37 u37 t43 u43     t50 u50   t75 u75 t77 u77     t94 u94   t102 u102 t117 u117 t119 u119     t130 u130 t134 u134 t138 u138   t155 u155 t156 u156   t172 u172
set_option maxRecDepth 20000
set_option maxHeartbeats 8000000
attribute [local simp] fW_eq fR_eq fS_eq extA fBd_eq fL_eq

theorem flowsF_rf {f : Fc} (g : GoodF f) : ∀ i, i ≤ f.sides.length → ∀ q, q < i → ∃ row, (flowsF f.r (f.sides.take i))[q]? = some row ∧ row.length = hrs f.sides ∧ ∀ k, k < hrs f.sides → row[k]? = some (rf f.r f.sides q k) := by
  intro i
  induction i with
  | zero => intro _ q hq; omega
  | succ i ih =>
    intro hi q hq
    have hlf : (flowsF f.r (f.sides.take i)).length = i := by rw [flowsF_len, List.length_take]; omega
    have hs := List.getElem?_eq_getElem (show i < f.sides.length by omega)
    have hl := g.lens _ (List.getElem_mem (show i < f.sides.length by omega))
    rw [flowsF_take (by omega)]
    by_cases hqi : q < i
    · obtain ⟨row, e1, e2⟩ := ih (by omega) q hqi
      exact ⟨row, by rw [List.getElem?_append_left (by omega)]; exact e1, e2⟩
    obtain rfl : q = i := by omega
    refine ⟨_, by rw [List.getElem?_append_right (by omega), hlf, Nat.sub_self]; rfl, by rw [nextF_len, hl], fun k hk => ?_⟩
    have hb := List.getElem?_eq_getElem (show k < f.sides[q].length by omega)
    have hside : sideAt f.sides q k = f.sides[q][k] := by simp [sideAt, hs, hb, List.getD_eq_getElem?_getD]
    cases q with
    | zero =>
      have : nextF f.r (flowsF f.r (f.sides.take 0)) f.sides[0] = f.sides[0] := by simp [nextF, flowsF]
      rw [this, hb, rf_zero (by omega), hside]
    | succ p =>
      obtain ⟨prev, e1, e2, e3⟩ := ih (by omega) p (by omega)
      obtain ⟨x, hx⟩ : ∃ x, f.r.rs[p]? = some x := ⟨_, List.getElem?_eq_getElem (show p < f.r.rs.length by have := g.eq; omega)⟩
      obtain ⟨fl, hfl⟩ : ∃ fl, fl = flowsF f.r (f.sides.take (p + 1)) := ⟨_, rfl⟩
      rw [← hfl] at e1 hlf ⊢
      have hgl : fl.getLast? = some prev := by rw [List.getLast?_eq_getElem?, show fl.length - 1 = p by omega]; exact e1
      have hnext : nextF f.r fl f.sides[p + 1] = flowOf x prev f.sides[p + 1] := by
        unfold nextF
        rw [hgl, show fl.length - 1 = p by omega, hx]
      have hbase : baseOf f.r p = x.base := by simp [baseOf, hx]
      have hdel : delayOf f.r p = x.delay := by simp [delayOf, hx]
      have hd := (validR_parts ((List.all_eq_true.1 g.rv) x (List.mem_of_getElem? hx))).2.1
      have habv : above x prev k = rf f.r f.sides p ((k : Int) - delayOf f.r p) := by
        rw [hdel]
        unfold above
        by_cases hkd : (k : Int) < x.delay
        · rw [if_pos hkd, rf_neg (by omega), hbase]
        · rw [if_neg hkd, List.getD_eq_getElem?_getD, e3 _ (by omega)]
          rw [show ((k - x.delay.toNat : Nat) : Int) = (k : Int) - x.delay by omega]; rfl
      rw [hnext, rf_succ (by omega), hside, ← habv, flowOf, List.getElem?_mapIdx, hb]; rfl

/-- Rows in memory. -/
noncomputable def gLs (l : List (List Bd)) : List AV := l.map fun x => .ro false 2 (x.map fBd)
theorem gLs_clean {l : List (List Bd)} : (gLs l).all clean1 = true := clean1_map fun _ => rfl
theorem gLs_fz {h : H} {b : Nat} {l : List (List Bd)} : (gLs l).map (fzv h b) = gLs l := fz_clean1 gLs_clean
theorem gLs_rn {bs : List Nat} {n : Nat} {l : List (List Bd)} : (gLs l).mapM (rn bs (n + 1)) = some (gLs l) := rnL_clean gLs_clean
theorem gLs_len {l : List (List Bd)} : (gLs l).length = l.length := by simp [gLs]
theorem gLs_nil : gLs [] = [] := rfl
theorem gLs_snoc {l : List (List Bd)} {x : List Bd} : gLs l ++ [.ro false 2 (x.map fBd)] = gLs (l ++ [x]) := by simp [gLs]
theorem gLs_rws {l : List (List Bd)} : gLs l = rws fL l := by
  induction l with
  | nil => rfl
  | cons x l ih => simpa [gLs, rws, fL] using ih
attribute [local simp] gLs_fz gLs_rn gLs_len gLs_nil

end Go.Pe
