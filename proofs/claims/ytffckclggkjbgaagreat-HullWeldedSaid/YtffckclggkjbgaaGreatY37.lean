import Derived.Test.YtffckclggkjbgaaGreatY36
import Derived.Test.YtffckclggkjbgaaGreatY13
set_option linter.unusedVariables false
set_option linter.unusedSimpArgs false
/- A stream: the flows of all reaches. -/
namespace Go.Pe
open Go Go.Proofs Go.Proofs.YtffckclggkjbgaaGreat
attribute [local simp] t3 u3 t4 u4 t5 u5 t22 u22 t23 u23 t25 u25 t27 u27 t28 u28 t30 u30 t32 u32   t37 u37 t43 u43     t50 u50   t75 u75 t77 u77     t94 u94   t102 u102 t117 u117 t119 u119     t130 u130 t134 u134 t138 u138   t155 u155 t156 u156   t172 u172
set_option maxRecDepth 20000
set_option maxHeartbeats 8000000
attribute [local simp] fW_eq fR_eq fS_eq extA fBd_eq fL_eq

def nextF (r : Rv) (fl : List (List Bd)) (side : List Bd) : List Bd := match fl.getLast?, r.rs[fl.length - 1]? with
  | some prev, some x => flowOf x prev side
  | _, _ => side
def flowsF (r : Rv) (s : List (List Bd)) : List (List Bd) := s.foldl (fun fl side => fl ++ [nextF r fl side]) []
theorem flowsF_snoc {r : Rv} {s : List (List Bd)} {side : List Bd} : flowsF r (s ++ [side]) = flowsF r s ++ [nextF r (flowsF r s) side] := by simp [flowsF, List.foldl_append]
theorem flowsF_len {r : Rv} {s : List (List Bd)} : (flowsF r s).length = s.length := by
  have gen : ∀ (s : List (List Bd)) (a : List (List Bd)), (s.foldl (fun fl side => fl ++ [nextF r fl side]) a).length = a.length + s.length := by
    intro s
    induction s with
    | nil => intro a; simp
    | cons x s ih => intro a; rw [List.foldl_cons, ih]; simp; omega
  have := gen s []
  simpa [flowsF] using this
theorem nextF_len {r : Rv} {fl : List (List Bd)} {side : List Bd} : (nextF r fl side).length = side.length := by
  unfold nextF
  split
  · exact flowOf_len
  · rfl
theorem flowsF_take {r : Rv} {s : List (List Bd)} {i : Nat} (hi : i < s.length) : flowsF r (s.take (i + 1)) = flowsF r (s.take i) ++ [nextF r (flowsF r (s.take i)) s[i]] := by
  rw [List.take_add_one, List.getElem?_eq_getElem hi, Option.toList_some, flowsF_snoc]

/-- What a valid river and forecast are. -/
structure GoodF (f : Fc) : Prop where
  small : SmallF f
  rv : f.r.rs.all validR = true
  eq : f.sides.length = f.r.rs.length
  pos : 0 < f.r.rs.length
  hpos : 0 < hrs f.sides
  hmax : hrs f.sides ≤ 400
  lens : ∀ l ∈ f.sides, l.length = hrs f.sides
  oks : ∀ l ∈ f.sides, ∀ b ∈ l, vB 0 10000000000 b = true
theorem good_of {f : Fc} (hw : SmallF f) (h : startE f = 0) : GoodF f := by
  unfold startE at h
  split at h
  · rename_i h1
    split at h
    · rename_i h2
      split at h
      · simp at h
      · rename_i h3
        split at h
        · rename_i h4
          split at h
          · simp at h
          · rename_i h5
            split at h
            · rename_i h6
              simp only [validRv, Bool.and_eq_true, inB_iff] at h1
              refine ⟨hw, h1.2.2.1, h2, by omega, by omega, by omega, fun l hl => ?_, fun l hl b hb => ?_⟩
              · have := (List.all_eq_true.1 h4) l hl
                simp only [beq_iff_eq] at this
                omega
              · have := (List.all_eq_true.1 h6) l hl
                exact (List.all_eq_true.1 this) b hb
            · simp at h
        · simp at h
    · simp at h
  · simp at h
theorem flowOf_in {x : Rc} {prev side : List Bd} {m n : Nat} (hb : x.base.lo.natAbs ≤ m ∧ x.base.hi.natAbs ≤ m) (hp : ∀ b ∈ prev, b.lo.natAbs ≤ m ∧ b.hi.natAbs ≤ m) (hs : ∀ b ∈ side, b.lo.natAbs ≤ n ∧ b.hi.natAbs ≤ n) : ∀ b ∈ flowOf x prev side, b.lo.natAbs ≤ m + n ∧ b.hi.natAbs ≤ m + n := fun b hb' => by
  obtain ⟨k, hk, rfl⟩ := List.getElem_of_mem hb'
  have hk' : k < side.length := by rwa [flowOf_len] at hk
  have h1 := above_in (x := x) (prev := prev) hb hp k
  have h2 := hs _ (List.getElem_mem hk')
  simp only [flowOf, List.getElem_mapIdx]
  omega
theorem flowsF_in {f : Fc} (g : GoodF f) : ∀ i, i ≤ f.sides.length → ∀ l ∈ flowsF f.r (f.sides.take i), l.length = hrs f.sides ∧ ∀ b ∈ l, b.lo.natAbs ≤ i * 10000000000 ∧ b.hi.natAbs ≤ i * 10000000000 := by
  intro i
  induction i with
  | zero => intro _ l hl; simp [flowsF] at hl
  | succ i ih =>
    intro hi l hl
    have ih' := ih (by omega)
    have hm : i * 10000000000 + 10000000000 = (i + 1) * 10000000000 := (Nat.succ_mul _ _).symm
    have hmi : 1 ≤ i → 10000000000 ≤ i * 10000000000 := fun h => by omega
    revert ih' hmi
    rw [← hm]
    generalize i * 10000000000 = m
    intro ih' hmi
    have hmi' := fun h => hmi h
    have hside : ∀ b ∈ f.sides[i], b.lo.natAbs ≤ 10000000000 ∧ b.hi.natAbs ≤ 10000000000 := fun b hb => by
      have := vB_iff.1 (g.oks _ (List.getElem_mem (show i < f.sides.length by omega)) b hb)
      omega
    rw [flowsF_take (by omega)] at hl
    rcases List.mem_append.1 hl with hl | hl
    · refine ⟨(ih' l hl).1, fun b hb => ?_⟩
      have := (ih' l hl).2 b hb
      omega
    · rw [List.mem_singleton] at hl
      subst hl
      refine ⟨by rw [nextF_len]; exact g.lens _ (List.getElem_mem _), fun b hb => ?_⟩
      unfold nextF at hb
      split at hb
      · rename_i prev x hp hx
        have hpm := List.mem_of_getLast? hp
        have hil : (flowsF f.r (f.sides.take i)).length = i := by rw [flowsF_len, List.length_take]; omega
        have hi1 : 1 ≤ i := by
          have := List.length_pos_of_mem hpm
          omega
        have hxv := vB_iff.1 (validR_parts ((List.all_eq_true.1 g.rv) x (List.mem_of_getElem? hx))).2.2.1
        have hmi2 := hmi hi1
        have := flowOf_in (m := m) (n := 10000000000) (x := x) (prev := prev) (side := f.sides[i]) (by omega) (fun b hb => (ih' prev hpm).2 b hb) hside b hb
        exact this
      · have := hside b hb
        omega

theorem newStream_bad {f : Fc} {f1 f2 : Bool} {h : H} (hw : SmallF f) (he : startE f ≠ 0) : Fn Tryz.prog 86 [f.r.av f1, sidesAV f.sides f2] h (.tup [.agg [.val (.slice none 0 0), .val (.slice none 0 0), I 0, .val (.slice none 0 0)], I (startE f)]) h := by
  refine Fn.beside ?_ rfl h
  refine Fn.ofR0 noM (by kernel_rfl) Tryz.func86 rfl (by simp) ?_
  have ne0 : (startE f != 0) = true := by simpa using he
  simp -dsimp -implicitDefEqProofs
  refine onCall_in (checkForecast_fn hw) ?_
  simp -dsimp -implicitDefEqProofs [ne0]
/-- One more flow, where block 3 holds those before. -/
theorem flow_at {f : Fc} {f1 fu : Bool} {i : Nat} (g : GoodF f) (hi : i < f.sides.length) (h : H) (hg : h.get 3 = grown i (rws fL (flowsF f.r (f.sides.take i)))) : Fn Tryz.prog 121 [stAV f.r f1 (hrs f.sides) (growN 3 1 i), I i, .ro fu 2 (f.sides[i].map fBd)] h (.ro false 2 ((nextF f.r (flowsF f.r (f.sides.take i)) f.sides[i]).map fBd)) h := by
  have hm := g.hmax
  have hp := g.hpos
  have hn := g.small.n
  have hl := g.lens _ (List.getElem_mem hi)
  have hlf : (flowsF f.r (f.sides.take i)).length = i := by rw [flowsF_len, List.length_take]; omega
  have hbd : ∀ b ∈ f.sides[i], b.lo.natAbs ≤ 500000000000 ∧ b.hi.natAbs ≤ 500000000000 := fun b hb => by
    have := vB_iff.1 (g.oks _ (List.getElem_mem hi) b hb)
    omega
  cases i with
  | zero => exact (flow0_fn (by omega) (by omega)).beside rfl h
  | succ i =>
    obtain ⟨fl, hfl⟩ : ∃ fl, fl = flowsF f.r (f.sides.take (i + 1)) := ⟨_, rfl⟩
    rw [← hfl] at hg hlf ⊢
    have hfi := flowsF_in g (i + 1) (by omega)
    rw [← hfl] at hfi
    obtain ⟨x, hx⟩ : ∃ x, f.r.rs[i]? = some x := ⟨_, List.getElem?_eq_getElem (show i < f.r.rs.length by have := g.eq; omega)⟩
    obtain ⟨prev, hpv⟩ : ∃ p, fl[i]? = some p := ⟨_, List.getElem?_eq_getElem (show i < fl.length by omega)⟩
    have hgl : fl.getLast? = some prev := by rw [List.getLast?_eq_getElem?, show fl.length - 1 = i by omega]; exact hpv
    have hnext : nextF f.r fl f.sides[i + 1] = flowOf x prev f.sides[i + 1] := by
      unfold nextF
      rw [hgl, show fl.length - 1 = i by omega, hx]
    have hpi := hfi _ (List.mem_of_getElem? hpv)
    have hv := validR_parts ((List.all_eq_true.1 g.rv) x (List.mem_of_getElem? hx))
    have hxv := vB_iff.1 hv.2.2.1
    have key := flow_fn (r := f.r) (f1 := f1) (fu := fu) (side := f.sides[i + 1]) (prev := prev) (fl := fl) (i := i) (x := x) hx hlf hpv (by rw [hpi.1, hl]) hv.2.1.1 (by omega) (by omega) (by omega) (by omega) (fun b hb => by have := hpi.2 b hb; omega) hbd
    rw [hnext]
    rw [grown_succ] at hg
    rw [growN_succ]
    rw [hl, hlf] at key
    exact Fn.reads (cs0 := [rws fL fl]) [3] key (by simp) (by simp [hg, rws_rn, fL_eq]) (by simp) (fun b hb cs hc => by simp at hb; subst hb; rw [hg] at hc; cases hc; exact rws_all fun _ => rfl) rfl
theorem newStream_fn {f : Fc} {f1 f2 : Bool} {h : H} (g : GoodF f) (he : startE f = 0) : Fn Tryz.prog 86 [f.r.av f1, sidesAV f.sides f2] h (.tup [stAV f.r f1 (hrs f.sides) (.ro false 1 ((flowsF f.r f.sides).map fL)), I 0]) h := by
  refine Fn.beside ?_ rfl h
  refine Fn.ofR0 ownM (by kernel_rfl) Tryz.func86 rfl (by simp) ?_
  have hn := g.small.n
  have hpos : 0 < f.sides.length := by rw [g.eq]; exact g.pos
  have hx0 := List.getElem?_eq_getElem hpos
  have hh : f.sides[0].length = hrs f.sides := by simp [hrs, List.headD_eq_head?_getD, List.head?_eq_getElem?, hx0]
  have hm := g.hmax
  simp -dsimp -implicitDefEqProofs
  refine onCall_in (checkForecast_fn g.small) ?_
  simp -dsimp -implicitDefEqProofs [he]
  refine DrawR.on {} (by kernel_rfl) (by simp) ?_
  simp -dsimp -implicitDefEqProofs [hx0, hh]
  refine LoopCR.on 41 (fun i => [(4, .ptr 1 0), (7, .ptr 2 0), (23, sidesAV f.sides f2), (24, I f.sides.length), (25, I (i : Nat))])
    (fun i => [some [f.r.reaches f1, f.r.shoals], some [.val (.slice none 0 0), .val (.slice none 0 0), I 0, .val (.slice none 0 0)], some [f.r.reaches f1, f.r.shoals, I (hrs f.sides), growN 3 1 i], grown i (rws fL (flowsF f.r (f.sides.take i)))]) (fun i => i ≤ f.sides.length) (fun i => f.sides.length - i) 0 [0, 1, 8, 99] (by simp) ?_ ?_
  · simp -dsimp -implicitDefEqProofs
  intro i j hi
  simp -dsimp -implicitDefEqProofs
  refine ifD_in (fun hlt => ?_) (fun hge => ?_)
  · have hlt' : i < f.sides.length := by omega
    have hs := List.getElem?_eq_getElem hlt'
    have hcall := flow_at (f1 := f1) (fu := false) g hlt'
    have hlf : (flowsF f.r (f.sides.take i)).length = i := by rw [flowsF_len, List.length_take]; omega
    simp -dsimp -implicitDefEqProofs [hs]
    refine DrawR.on { M := [2, 3], see := [(1, 2), (2, 2), (5, 3)], eff := [(7, [3]), (9, [2])] } (by kernel_rfl) (by simp) ?_
    simp -dsimp -implicitDefEqProofs [hs]
    refine onCallQ_in (hcall _ (by simp)) ?_
    simp -dsimp -implicitDefEqProofs [-storeA]
    refine on_appendN fL (flowsF f.r (f.sides.take i)) (nextF f.r (flowsF f.r (f.sides.take i)) f.sides[i]) (by simp) hlf (show (i + 1) * 24 ≤ 70368744177664 by omega) (by omega) rfl rfl (by simp) rfl (fun _ => rfl) ?_ rfl
    rw [← flowsF_take hlt']
    simp -dsimp -implicitDefEqProofs
    refine again_in (i + 1) [0, 1, 2, 11] (by omega) (by omega) ?_
    simp -dsimp -implicitDefEqProofs
    rw [wrap_in (by omega) (by omega)]
  · have hin : i = f.sides.length := by omega
    subst hin
    simp -dsimp -implicitDefEqProofs
    refine frz_tups ⟨frz_aggs ⟨⟨1, rfl⟩, ⟨1, rfl⟩, ⟨1, rfl⟩, ?_, trivial⟩, ⟨1, rfl⟩, trivial⟩
    exact frz_rwsN (l := flowsF f.r f.sides) (f := fL) (by simp [mkH]) (Nat.zero_le _) flowsF_len (by omega) (fun _ => rfl) (fun _ => rfl)
end Go.Pe

/- The reference's flows. -/
namespace Go.Pe
open Go Go.Proofs Go.Proofs.YtffckclggkjbgaaGreat
attribute [local simp] t3 u3 t4 u4 t5 u5 t22 u22 t23 u23 t25 u25 t27 u27 t28 u28 t30 u30 t32 u32   t37 u37 t43 u43     t50 u50   t75 u75 t77 u77     t94 u94   t102 u102 t117 u117 t119 u119     t130 u130 t134 u134 t138 u138   t155 u155 t156 u156   t172 u172
set_option maxRecDepth 20000
set_option maxHeartbeats 8000000
attribute [local simp] fW_eq fR_eq fS_eq extA fBd_eq fL_eq

def baseOf (r : Rv) (i : Nat) : Bd := ((r.rs[i]?).map Rc.base).getD ⟨0, 0⟩
def delayOf (r : Rv) (i : Nat) : Int := ((r.rs[i]?).map Rc.delay).getD 0
def sideAt (s : List (List Bd)) (i : Nat) (h : Int) : Bd := ((s[i]?).getD []).getD h.toNat ⟨0, 0⟩
def rf (r : Rv) (s : List (List Bd)) : Nat → Int → Bd
  | 0, h => if h < 0 then baseOf r 0 else sideAt s 0 h
  | i + 1, h => if h < 0 then baseOf r (i + 1) else ⟨(sideAt s (i + 1) h).lo + (rf r s i (h - delayOf r i)).lo, (sideAt s (i + 1) h).hi + (rf r s i (h - delayOf r i)).hi⟩
theorem rf_neg {r : Rv} {s : List (List Bd)} {i : Nat} {h : Int} (hh : h < 0) : rf r s i h = baseOf r i := by cases i <;> simp [rf, hh]
theorem rf_zero {r : Rv} {s : List (List Bd)} {h : Int} (hh : ¬ h < 0) : rf r s 0 h = sideAt s 0 h := by simp [rf, hh]
theorem rf_succ {r : Rv} {s : List (List Bd)} {i : Nat} {h : Int} (hh : ¬ h < 0) : rf r s (i + 1) h = ⟨(sideAt s (i + 1) h).lo + (rf r s i (h - delayOf r i)).lo, (sideAt s (i + 1) h).hi + (rf r s i (h - delayOf r i)).hi⟩ := by simp [rf, hh]
theorem sideAt_in {f : Fc} (g : GoodF f) {i : Nat} {h : Int} : (sideAt f.sides i h).lo.natAbs ≤ 10000000000 ∧ (sideAt f.sides i h).hi.natAbs ≤ 10000000000 := by
  unfold sideAt
  cases hi : f.sides[i]? with
  | none => simp
  | some l =>
    simp only [Option.getD_some, List.getD_eq_getElem?_getD]
    cases hx : l[h.toNat]? with
    | none => simp
    | some b =>
      have := vB_iff.1 (g.oks l (List.mem_of_getElem? hi) b (List.mem_of_getElem? hx))
      simp only [Option.getD_some]
      omega
theorem baseOf_in {f : Fc} (g : GoodF f) {i : Nat} : (baseOf f.r i).lo.natAbs ≤ 10000000000 ∧ (baseOf f.r i).hi.natAbs ≤ 10000000000 := by
  unfold baseOf
  cases hi : f.r.rs[i]? with
  | none => simp
  | some x =>
    have := vB_iff.1 (validR_parts ((List.all_eq_true.1 g.rv) x (List.mem_of_getElem? hi))).2.2.1
    simp only [Option.map_some, Option.getD_some]
    omega
theorem rf_in {f : Fc} (g : GoodF f) : ∀ (i : Nat) (h : Int), (rf f.r f.sides i h).lo.natAbs ≤ (i + 1) * 10000000000 ∧ (rf f.r f.sides i h).hi.natAbs ≤ (i + 1) * 10000000000 := by
  intro i
  induction i with
  | zero =>
    intro h
    by_cases hh : h < 0
    · rw [rf_neg hh]; simpa using baseOf_in g
    · rw [rf_zero hh]; simpa using sideAt_in g
  | succ i ih =>
    intro h
    have hm : (i + 1 + 1) * 10000000000 = (i + 1) * 10000000000 + 10000000000 := Nat.succ_mul _ _
    have ih' := ih (h - delayOf f.r i)
    have hs := sideAt_in g (i := i + 1) (h := h)
    have hb := baseOf_in g (i := i + 1)
    rw [hm]
    revert ih'
    generalize (i + 1) * 10000000000 = m
    intro ih'
    by_cases hh : h < 0
    · rw [rf_neg hh]; omega
    · rw [rf_succ hh]; simp only; omega
theorem rFlow_fn {f : Fc} {f1 f2 : Bool} (g : GoodF f) : ∀ (i : Nat), i < f.sides.length → ∀ (hour : Int), -1000 ≤ hour → hour < hrs f.sides →
    Fn Tryz.prog 149 [f.r.av f1, sidesAV f.sides f2, I i, I hour] .nil (.agg [I (rf f.r f.sides i hour).lo, I (rf f.r f.sides i hour).hi]) .nil := by
  have hm := g.hmax
  have hn := g.small.n
  intro i
  induction i using Nat.strongRecOn with
  | _ i ih =>
  intro hi hour h1 h2
  have hir : i < f.r.rs.length := by have := g.eq; omega
  have hx := List.getElem?_eq_getElem hir
  have hbase : baseOf f.r i = f.r.rs[i].base := by simp [baseOf, hx]
  refine Fn.ofR0 noM (by kernel_rfl) Tryz.func149 rfl (by simp) ?_
  simp -dsimp -implicitDefEqProofs
  refine ifD_in (fun h3 => ?_) (fun h3 => ?_)
  · simp -dsimp -implicitDefEqProofs [hx, rf_neg h3, hbase]
  obtain ⟨k, rfl⟩ : ∃ k : Nat, hour = k := ⟨hour.toNat, by omega⟩
  have hs := List.getElem?_eq_getElem hi
  have hl := g.lens _ (List.getElem_mem hi)
  have hb := List.getElem?_eq_getElem (show k < f.sides[i].length by omega)
  have hside : sideAt f.sides i k = f.sides[i][k] := by simp [sideAt, hs, hb, List.getD_eq_getElem?_getD]
  simp -dsimp -implicitDefEqProofs [hs, hb]
  refine ifD_in (fun h4 => ?_) (fun h4 => ?_)
  · obtain ⟨p, hp⟩ : ∃ p, i = p + 1 := ⟨i - 1, by omega⟩
    have w1 : IntKind.i64.wrap ((i : Int) - 1) = (p : Int) := by rw [wrap_in (by omega) (by omega)]; omega
    have hxp := List.getElem?_eq_getElem (show p < f.r.rs.length by omega)
    have hdel : delayOf f.r p = f.r.rs[p].delay := by simp [delayOf, hxp]
    have hd := (validR_parts ((List.all_eq_true.1 g.rv) f.r.rs[p] (List.getElem_mem _))).2.1
    have w2 : IntKind.i64.wrap ((k : Int) - f.r.rs[p].delay) = (k : Int) - f.r.rs[p].delay := by rw [wrap_in (by omega) (by omega)]
    have key := ih p (by omega) (by omega) ((k : Int) - f.r.rs[p].delay) (by omega) (by omega)
    have hrf : rf f.r f.sides i k = ⟨f.sides[i][k].lo + (rf f.r f.sides p ((k : Int) - f.r.rs[p].delay)).lo, f.sides[i][k].hi + (rf f.r f.sides p ((k : Int) - f.r.rs[p].delay)).hi⟩ := by
      rw [← hside, ← hdel]
      have := rf_succ (r := f.r) (s := f.sides) (i := p) (h := (k : Int)) (by omega)
      rwa [← hp] at this
    have hin := rf_in g p ((k : Int) - f.r.rs[p].delay)
    have hsin := sideAt_in g (i := i) (h := k)
    rw [hside] at hsin
    have hbig : (p + 1) * 10000000000 ≤ 250000000000 := Nat.mul_le_mul_right 10000000000 (show p + 1 ≤ 25 by omega)
    simp -dsimp -implicitDefEqProofs
    refine DrawR.on {} (by kernel_rfl) (by simp) ?_
    simp -dsimp -implicitDefEqProofs [w1, hxp, w2]
    refine onCallQ_in (key.beside rfl _) ?_
    simp -dsimp -implicitDefEqProofs
    rw [hrf]
    generalize (p + 1) * 10000000000 = m at *
    have e1 : IntKind.i64.wrap (f.sides[i][k].lo + (rf f.r f.sides p ((k : Int) - f.r.rs[p].delay)).lo) = f.sides[i][k].lo + (rf f.r f.sides p ((k : Int) - f.r.rs[p].delay)).lo := wrap_in (by omega) (by omega)
    have e2 : IntKind.i64.wrap (f.sides[i][k].hi + (rf f.r f.sides p ((k : Int) - f.r.rs[p].delay)).hi) = f.sides[i][k].hi + (rf f.r f.sides p ((k : Int) - f.r.rs[p].delay)).hi := wrap_in (by omega) (by omega)
    simp -dsimp -implicitDefEqProofs [e1, e2]
  · have hi0 : i = 0 := by omega
    have hrf : rf f.r f.sides i k = f.sides[i][k] := by
      rw [← hside]
      subst hi0
      exact rf_zero (by omega)
    rw [hrf]
    simp -dsimp -implicitDefEqProofs
end Go.Pe

/- The flows of the reference are those of the package; all levels. -/
namespace Go.Pe
open Go Go.Proofs Go.Proofs.YtffckclggkjbgaaGreat
attribute [local simp] t3 u3 t4 u4 t5 u5 t22 u22 t23 u23 t25 u25 t27 u27 t28 u28 t30 u30 t32 u32   t37 u37 t43 u43     t50 u50   t75 u75 t77 u77     t94 u94   t102 u102 t117 u117 t119 u119     t130 u130 t134 u134 t138 u138   t155 u155 t156 u156   t172 u172
set_option maxRecDepth 20000
set_option maxHeartbeats 8000000
attribute [local simp] fW_eq fR_eq fS_eq extA fBd_eq fL_eq

theorem flowsF_rf {f : Fc} (g : GoodF f) : ∀ i, i ≤ f.sides.length → ∀ q, q < i → ∃ row, (flowsF f.r (f.sides.take i))[q]? = some row ∧ row.length = hrs f.sides ∧ ∀ k, k < hrs f.sides → row[k]? = some (rf f.r f.sides q k) := by
  intro i
  induction i with
  | zero => intro _ q hq; omega
  | succ i ih =>
    intro hi q hq
    have hlf : (flowsF f.r (f.sides.take i)).length = i := by rw [flowsF_len, List.length_take]; omega
    have hs := List.getElem?_eq_getElem (show i < f.sides.length by omega)
    have hl := g.lens _ (List.getElem_mem (show i < f.sides.length by omega))
    rw [flowsF_take (by omega)]
    by_cases hqi : q < i
    · obtain ⟨row, e1, e2⟩ := ih (by omega) q hqi
      exact ⟨row, by rw [List.getElem?_append_left (by omega)]; exact e1, e2⟩
    obtain rfl : q = i := by omega
    refine ⟨_, by rw [List.getElem?_append_right (by omega), hlf, Nat.sub_self]; rfl, by rw [nextF_len, hl], fun k hk => ?_⟩
    have hb := List.getElem?_eq_getElem (show k < f.sides[q].length by omega)
    have hside : sideAt f.sides q k = f.sides[q][k] := by simp [sideAt, hs, hb, List.getD_eq_getElem?_getD]
    cases q with
    | zero =>
      have : nextF f.r (flowsF f.r (f.sides.take 0)) f.sides[0] = f.sides[0] := by simp [nextF, flowsF]
      rw [this, hb, rf_zero (by omega), hside]
    | succ p =>
      obtain ⟨prev, e1, e2, e3⟩ := ih (by omega) p (by omega)
      obtain ⟨x, hx⟩ : ∃ x, f.r.rs[p]? = some x := ⟨_, List.getElem?_eq_getElem (show p < f.r.rs.length by have := g.eq; omega)⟩
      obtain ⟨fl, hfl⟩ : ∃ fl, fl = flowsF f.r (f.sides.take (p + 1)) := ⟨_, rfl⟩
      rw [← hfl] at e1 hlf ⊢
      have hgl : fl.getLast? = some prev := by rw [List.getLast?_eq_getElem?, show fl.length - 1 = p by omega]; exact e1
      have hnext : nextF f.r fl f.sides[p + 1] = flowOf x prev f.sides[p + 1] := by
        unfold nextF
        rw [hgl, show fl.length - 1 = p by omega, hx]
      have hbase : baseOf f.r p = x.base := by simp [baseOf, hx]
      have hdel : delayOf f.r p = x.delay := by simp [delayOf, hx]
      have hd := (validR_parts ((List.all_eq_true.1 g.rv) x (List.mem_of_getElem? hx))).2.1
      have habv : above x prev k = rf f.r f.sides p ((k : Int) - delayOf f.r p) := by
        rw [hdel]
        unfold above
        by_cases hkd : (k : Int) < x.delay
        · rw [if_pos hkd, rf_neg (by omega), hbase]
        · rw [if_neg hkd, List.getD_eq_getElem?_getD, e3 _ (by omega)]
          rw [show ((k - x.delay.toNat : Nat) : Int) = (k : Int) - x.delay by omega]; rfl
      rw [hnext, rf_succ (by omega), hside, ← habv, flowOf, List.getElem?_mapIdx, hb]; rfl

/-- Rows in memory. -/
noncomputable def gLs (l : List (List Bd)) : List AV := l.map fun x => .ro false 2 (x.map fBd)
theorem gLs_clean {l : List (List Bd)} : (gLs l).all clean1 = true := clean1_map fun _ => rfl
theorem gLs_fz {h : H} {b : Nat} {l : List (List Bd)} : (gLs l).map (fzv h b) = gLs l := fz_clean1 gLs_clean
theorem gLs_rn {bs : List Nat} {n : Nat} {l : List (List Bd)} : (gLs l).mapM (rn bs (n + 1)) = some (gLs l) := rnL_clean gLs_clean
theorem gLs_len {l : List (List Bd)} : (gLs l).length = l.length := by simp [gLs]
theorem gLs_nil : gLs [] = [] := rfl
theorem gLs_snoc {l : List (List Bd)} {x : List Bd} : gLs l ++ [.ro false 2 (x.map fBd)] = gLs (l ++ [x]) := by simp [gLs]
theorem gLs_rws {l : List (List Bd)} : gLs l = rws fL l := by
  induction l with
  | nil => rfl
  | cons x l ih => simpa [gLs, rws, fL] using ih
attribute [local simp] gLs_fz gLs_rn gLs_len gLs_nil

end Go.Pe
