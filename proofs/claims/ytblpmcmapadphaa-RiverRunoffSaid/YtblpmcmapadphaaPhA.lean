/- The reference's runoff. -/
import Derived.Test.YtblpmcmapadphaaPgR
import Derived.Test.YtblpmcmapadphaaPeZc
set_option linter.unusedVariables false
set_option linter.unusedSimpArgs false
namespace Go.Pe
open Go Go.Proofs Go.Proofs.Ytblpmcmapadphaa
attribute [local simp] t3 u3 t4 u4 t5 u5 t22 u22 t23 u23 t25 u25 t27 u27 t28 u28 t30 u30 t32 u32 t34 u34 t37 u37 t43 u43 t48 u48 t49 u49 t50 u50 t54 u54 t75 u75 t77 u77 t84 u84 t89 u89 t94 u94 t96 u96 t102 u102 t117 u117 t119 u119 t123 u123 t125 u125 t130 u130 t134 u134 t138 u138 t152 u152 t155 u155 t156 u156 t160 u160 t172 u172
set_option maxRecDepth 20000

def rRun (c : Ct) (sky : List Sk) (i : Nat) (x : Sk) : Bd :=
  let least := min (snowL c.melt c.snow.lo ((sky.take i).map fun y => y.heat.hi)) (max 0 x.heat.lo * c.melt)
  let most := min (snowL c.melt c.snow.hi ((sky.take i).map fun y => y.heat.lo)) (max 0 x.heat.hi * c.melt)
  ⟨(c.area * (x.rain.lo + least) * c.pc) / 10, -((-(c.area * (x.rain.hi + most) * c.pc)) / 10)⟩
def rRuns (c : Ct) (sky : List Sk) : List Bd := sky.mapIdx (rRun c sky)

noncomputable def fB (b : Bd) : List AV := [I b.lo, I b.hi]
noncomputable def fI (n : Int) : List AV := [I n]
theorem fB_eq {b : Bd} : fB b = [I b.lo, I b.hi] := rfl
theorem fI_eq {n : Int} : fI n = [I n] := rfl
attribute [local simp] fB_eq fI_eq
noncomputable abbrev cAV (c : Ct) : List AV := [I c.area, I c.pc, I c.melt, I c.snow.lo, I c.snow.hi]
def colds (sky : List Sk) : List Int := sky.map fun y => y.heat.lo
def warms (sky : List Sk) : List Int := sky.map fun y => y.heat.hi
theorem colds_snoc {l : List Sk} {x : Sk} : colds (l ++ [x]) = colds l ++ [x.heat.lo] := by simp [colds]
theorem warms_snoc {l : List Sk} {x : Sk} : warms (l ++ [x]) = warms l ++ [x.heat.hi] := by simp [warms]
theorem colds_len {l : List Sk} : (colds l).length = l.length := by simp [colds]
theorem warms_len {l : List Sk} : (warms l).length = l.length := by simp [warms]
set_option maxHeartbeats 4000000 in
theorem rMelts_fn {rate s0 : Int} {hs : List Int} {fu : Bool} (h1 : 0 ≤ rate ∧ rate ≤ 100) (h2 : 0 ≤ s0 ∧ s0 ≤ 1000000) (h3 : ∀ x ∈ hs, -500 ≤ x ∧ x ≤ 500) (hl : hs.length ≤ 400) :
    Fn Try.prog 73 [I rate, I s0, .ro fu 1 (hs.map fI)] .nil (.ro (isz hs.length) 1 ((meltsL rate s0 hs).map fI)) .nil := by
  refine Fn.ofR0 ownM (by kernel_rfl) Try.func73 rfl (by simp) ?_
  simp -dsimp -implicitDefEqProofs
  refine LoopCR.on 34 (fun i => [(0, I rate), (1, I (snowL rate s0 (hs.take i))), (2, .ro fu 1 (hs.map fI)), (7, grow 0 1 i), (8, I (i : Nat))])
    (fun i => [grown i (rws fI (meltsL rate s0 (hs.take i)))]) (fun i => i ≤ hs.length) (fun i => hs.length - i) 0 [99] (by simp) ?_ ?_
  · simp -dsimp -implicitDefEqProofs [snowL]
  intro i j hi
  simp -dsimp -implicitDefEqProofs
  refine ifD_in (fun hlt => ?_) (fun hge => ?_)
  · have hlt' : i < hs.length := by omega
    have hx := List.getElem?_eq_getElem hlt'
    have hst : hs.take (i + 1) = hs.take i ++ [hs[i]] := by rw [List.take_add_one, hx]; rfl
    have hxin := h3 _ (List.getElem_mem hlt')
    obtain ⟨x, hxe⟩ : ∃ x, x = hs[i] := ⟨_, rfl⟩
    rw [← hxe] at hxin hst hx
    have sin := snowL_in h1.1 (hs.take i) h2.1
    have pm := mul_in (a := max 0 x) (b := rate) (m := 500) (n := 100) (by omega) (by omega)
    have hm0 : 0 ≤ max 0 x * rate := Int.mul_nonneg (by omega) h1.1
    have ml := meltsL_snoc (rate := rate) (l := hs.take i) (s := s0) (x := x)
    have sl := snowL_snoc (rate := rate) (l := hs.take i) (s := s0) (x := x)
    rw [← hst] at ml sl
    obtain ⟨sn, hsn⟩ : ∃ sn, sn = snowL rate s0 (hs.take i) := ⟨_, rfl⟩
    rw [← hsn] at ml sl sin ⊢
    have w1 := wrap_in (n := max 0 x * rate) (by omega) (by omega)
    have w2 := wrap_in (n := sn - min sn (max 0 x * rate)) (by omega) (by omega)
    simp -dsimp -implicitDefEqProofs [hx, w1, w2]
    refine on_append fI (meltsL rate s0 (hs.take i)) (min sn (max 0 x * rate)) (by simp) (by rw [meltsL_len, List.length_take]; omega) (by simp; omega) (by omega) rfl rfl (by simp) rfl (fun _ => rfl) ?_ (by simp)
    simp -dsimp -implicitDefEqProofs [hx, w1, w2]
    refine again_in (i + 1) [1] (by omega) (by omega) ?_
    simp -dsimp -implicitDefEqProofs [ml, sl]
    rw [wrap_in (by omega) (by omega)]
  · have hin : i = hs.length := by omega
    subst hin
    simp -dsimp -implicitDefEqProofs
    exact frz_rws (f := fI) (l := meltsL rate s0 hs) (by simp [mkH]) (Nat.zero_le _) meltsL_len (fun _ => rfl) (fun _ => rfl)
set_option maxHeartbeats 4000000 in
theorem rRunoff_fn {c : Ct} {sky : List Sk} (h : sky.length ≤ 100) (hc : validC c = true) (hs : sky.all validS = true) : Fn Try.prog 28 [c.av, .ro false 4 (sky.map Sk.row)] .nil (.ro (isz sky.length) 2 ((rRuns c sky).map fB)) .nil := by
  refine Fn.ofR0 (butM [57, 75]) (by kernel_rfl) Try.func28 rfl (by simp) ?_
  simp -dsimp -implicitDefEqProofs
  refine LoopCR.on 115 (fun i => [(0, c.av), (1, .ro false 4 (sky.map Sk.row)), (2, .ptr 0 0), (5, grow 1 2 i), (6, I (i : Nat))])
    (fun i => [some (cAV c), grown i (rws fB ((rRuns c sky).take i))]) (fun i => i ≤ sky.length) (fun i => sky.length - i) 0 [0, 99] (by simp) ?_ ?_
  · simp -dsimp -implicitDefEqProofs
  intro i j hi
  simp -dsimp -implicitDefEqProofs
  refine ifD_in (fun hlt => ?_) (fun hge => ?_)
  · have hlt' : i < sky.length := by omega
    simp -dsimp -implicitDefEqProofs
    refine LoopCR.on 115 (fun k => [(0, c.av), (1, .ro false 4 (sky.map Sk.row)), (2, .ptr 0 0), (5, grow 1 2 i), (6, I (i : Nat)), (7, grow 2 1 k), (8, grow 3 1 k), (9, I (k : Nat))])
      (fun k => [some (cAV c), grown i (rws fB ((rRuns c sky).take i)), grown k (rws fI (colds (sky.take k))), grown k (rws fI (warms (sky.take k)))]) (fun k => k ≤ i) (fun k => i - k) 0 [0, 1, 98, 99] (by simp) ?_ ?_
    · simp -dsimp -implicitDefEqProofs
    intro k j hk
    simp -dsimp -implicitDefEqProofs
    refine ifD_in (fun hlk => ?_) (fun hgk => ?_)
    · have hx := List.getElem?_eq_getElem (show k < sky.length by omega)
      have hst : sky.take (k + 1) = sky.take k ++ [sky[k]] := by rw [List.take_add_one, hx]; rfl
      obtain ⟨x, hxe⟩ : ∃ x, x = sky[k] := ⟨_, rfl⟩
      rw [← hxe] at hst hx
      simp -dsimp -implicitDefEqProofs
      refine DrawR.on { M := [2, 3], eff := [(8, [2]), (17, [3])] } (by kernel_rfl) (by simp) ?_
      simp -dsimp -implicitDefEqProofs [hx]
      refine on_append fI (colds (sky.take k)) x.heat.lo (by simp) (by rw [colds_len, List.length_take]; omega) (by simp; omega) (by omega) rfl rfl (by simp) rfl (fun _ => rfl) ?_ (by simp)
      simp -dsimp -implicitDefEqProofs [hx]
      refine on_append fI (warms (sky.take k)) x.heat.hi (by simp) (by rw [warms_len, List.length_take]; omega) (by simp; omega) (by omega) rfl rfl (by simp) rfl (fun _ => rfl) ?_ (by simp)
      simp -dsimp -implicitDefEqProofs [hx]
      refine again_in (k + 1) [0, 1, 12, 21] (by omega) (by omega) ?_
      simp -dsimp -implicitDefEqProofs [hst, colds_snoc, warms_snoc]
      rw [wrap_in (by omega) (by omega)]
    · simp -dsimp -implicitDefEqProofs
      have hki : k = i := by omega
      subst hki
      have hx := List.getElem?_eq_getElem hlt'
      obtain ⟨x, hxe⟩ : ∃ x, x = sky[k] := ⟨_, rfl⟩
      rw [← hxe] at hx
      simp -dsimp -implicitDefEqProofs
      refine DrawR.on { M := [3], eff := [(13, [3])] } (by kernel_rfl) (by simp) ?_
      simp -dsimp -implicitDefEqProofs [hx]
      refine on_append_ro fI (warms (sky.take k)) x.heat.lo (by simp) (by simp) (by rw [warms_len, List.length_take]; omega) (by simp; omega) (by omega) rfl rfl (by simp) rfl (fun _ => rfl) (fun _ => rfl) ?_ (by simp)
      have hC := hc
      simp only [validC, validB, Bool.and_eq_true, decide_eq_true_eq] at hC
      have hV : ∀ y ∈ sky, (-500 ≤ y.heat.lo ∧ y.heat.lo ≤ 500) ∧ (-500 ≤ y.heat.hi ∧ y.heat.hi ≤ 500) := fun y hy => by
        have := (List.all_eq_true.1 hs) y hy
        simp only [validS, validB, Bool.and_eq_true, decide_eq_true_eq] at this
        omega
      have hxV := hV x (by rw [hxe]; exact List.getElem_mem _)
      have hm1 : ∀ z ∈ warms (sky.take k) ++ [x.heat.lo], -500 ≤ z ∧ z ≤ 500 := fun z hz => by
        rcases List.mem_append.1 hz with hz | hz
        · obtain ⟨y, hy, rfl⟩ := List.mem_map.1 hz
          exact (hV y (List.mem_of_mem_take hy)).2
        · rw [List.mem_singleton] at hz; rw [hz]; exact hxV.1
      have hm2 : ∀ z ∈ colds (sky.take k) ++ [x.heat.hi], -500 ≤ z ∧ z ≤ 500 := fun z hz => by
        rcases List.mem_append.1 hz with hz | hz
        · obtain ⟨y, hy, rfl⟩ := List.mem_map.1 hz
          exact (hV y (List.mem_of_mem_take hy)).1
        · rw [List.mem_singleton] at hz; rw [hz]; exact hxV.2
      have wl : (warms (sky.take k)).length = k := by rw [warms_len, List.length_take]; omega
      have cl : (colds (sky.take k)).length = k := by rw [colds_len, List.length_take]; omega
      have q1 : (meltsL c.melt c.snow.lo (warms (sky.take k) ++ [x.heat.lo]))[k]? = some (min (snowL c.melt c.snow.lo (warms (sky.take k))) (max 0 x.heat.lo * c.melt)) := by
        rw [meltsL_snoc, List.getElem?_append_right (by rw [meltsL_len]; omega), meltsL_len, wl]; simp
      have q2 : (meltsL c.melt c.snow.hi (colds (sky.take k) ++ [x.heat.hi]))[k]? = some (min (snowL c.melt c.snow.hi (colds (sky.take k))) (max 0 x.heat.hi * c.melt)) := by
        rw [meltsL_snoc, List.getElem?_append_right (by rw [meltsL_len]; omega), meltsL_len, cl]; simp
      simp -dsimp -implicitDefEqProofs [hx]
      have r1 := rMelts_fn (rate := c.melt) (s0 := c.snow.lo) (hs := warms (sky.take k) ++ [x.heat.lo]) (fu := false) (by omega) (by omega) hm1 (by simp; omega)
      have r2 := rMelts_fn (rate := c.melt) (s0 := c.snow.hi) (hs := colds (sky.take k) ++ [x.heat.hi]) (fu := false) (by omega) (by omega) hm2 (by simp; omega)
      have b1 := snowL_in (rate := c.melt) (by omega) (warms (sky.take k)) (s := c.snow.lo) (by omega)
      have b2 := snowL_in (rate := c.melt) (by omega) (colds (sky.take k)) (s := c.snow.hi) (by omega)
      have rr : rRun c sky k x = ⟨(c.area * (x.rain.lo + min (snowL c.melt c.snow.lo (warms (sky.take k))) (max 0 x.heat.lo * c.melt)) * c.pc) / 10, -((-(c.area * (x.rain.hi + min (snowL c.melt c.snow.hi (colds (sky.take k))) (max 0 x.heat.hi * c.melt)) * c.pc)) / 10)⟩ := rfl
      obtain ⟨m1, hm1e⟩ : ∃ m, m = min (snowL c.melt c.snow.lo (warms (sky.take k))) (max 0 x.heat.lo * c.melt) := ⟨_, rfl⟩
      obtain ⟨m2, hm2e⟩ : ∃ m, m = min (snowL c.melt c.snow.hi (colds (sky.take k))) (max 0 x.heat.hi * c.melt) := ⟨_, rfl⟩
      have p1 := mul_in (a := max 0 x.heat.lo) (b := c.melt) (m := 500) (n := 100) (by omega) (by omega)
      have p2 := mul_in (a := max 0 x.heat.hi) (b := c.melt) (m := 500) (n := 100) (by omega) (by omega)
      rw [← hm1e] at q1 rr
      rw [← hm2e] at q2 rr
      simp only [List.map_append, List.map_cons, List.map_nil, fI_eq] at r1 r2
      refine onCallQ_in (r1.beside rfl _) ?_
      simp -dsimp -implicitDefEqProofs [hx, q1]
      refine DrawR.on { M := [2], eff := [(13, [2])] } (by kernel_rfl) (by simp) ?_
      simp -dsimp -implicitDefEqProofs [hx]
      refine on_append_ro fI (colds (sky.take k)) x.heat.hi (by simp) (by simp) cl (by simp; omega) (by omega) rfl rfl (by simp) rfl (fun _ => rfl) (fun _ => rfl) ?_ (by simp)
      simp -dsimp -implicitDefEqProofs [hx]
      refine onCallQ_in (r2.beside rfl _) ?_
      simp -dsimp -implicitDefEqProofs [hx, q2]
      have hS := (List.all_eq_true.1 hs) x (by rw [hxe]; exact List.getElem_mem _)
      simp only [validS, validB, Bool.and_eq_true, decide_eq_true_eq] at hS
      have z1 := mul_in (a := c.area) (b := x.rain.lo + m1) (m := 10000) (n := 2000000) (by omega) (by omega)
      have z2 := mul_in (a := c.area) (b := x.rain.hi + m2) (m := 10000) (n := 2000000) (by omega) (by omega)
      have y1 := mul_in (b := c.pc) (n := 100) z1 (by omega)
      have y2 := mul_in (b := c.pc) (n := 100) z2 (by omega)
      have w1 := wrap_in (n := x.rain.lo + m1) (by omega) (by omega)
      have w2 := wrap_in (n := x.rain.hi + m2) (by omega) (by omega)
      have w3 := wrap_in (n := c.area * (x.rain.lo + m1)) (by omega) (by omega)
      have w4 := wrap_in (n := c.area * (x.rain.hi + m2)) (by omega) (by omega)
      have w5 := wrap_in (n := c.area * (x.rain.lo + m1) * c.pc) (by omega) (by omega)
      have w6 := wrap_in (n := c.area * (x.rain.hi + m2) * c.pc) (by omega) (by omega)
      refine DrawR.on { M := [1], eff := [(33, [1])] } (by kernel_rfl) (by simp) ?_
      simp -dsimp -implicitDefEqProofs [hx, w1, w2, w3, w4, w5, w6]
      refine onCallQ_in (Floor_fn (by omega)) ?_
      simp -dsimp -implicitDefEqProofs [hx, w1, w2, w3, w4, w5, w6]
      refine onCallQ_in (Ceil_fn (by omega)) ?_
      simp -dsimp -implicitDefEqProofs [hx, w1, w2, w3, w4, w5, w6]
      have rl : ((rRuns c sky).take k).length = k := by rw [List.length_take, rRuns, List.length_mapIdx]; omega
      have rt : (rRuns c sky).take (k + 1) = (rRuns c sky).take k ++ [rRun c sky k x] := by
        rw [List.take_add_one, rRuns, List.getElem?_mapIdx, hx]; rfl
      refine on_append fB ((rRuns c sky).take k) (rRun c sky k x) (by simp) rl (by simp; omega) (by omega) (by rw [rr]; rfl) rfl (by simp) rfl (fun _ => rfl) ?_ (by simp)
      simp -dsimp -implicitDefEqProofs [hx]
      refine again_in (k + 1) [0, 75] (by omega) (by omega) ?_
      simp -dsimp -implicitDefEqProofs [rt]
      rw [wrap_in (by omega) (by omega)]
  · have hin : i = sky.length := by omega
    subst hin
    have rl : (rRuns c sky).length = sky.length := by rw [rRuns, List.length_mapIdx]
    have rt : (rRuns c sky).take sky.length = rRuns c sky := List.take_of_length_le (by omega)
    simp -dsimp -implicitDefEqProofs [rt]
    exact frz_rws (f := fB) (l := rRuns c sky) (by simp [mkH]) (Nat.zero_le _) rl (fun _ => rfl) (fun _ => rfl)
end Go.Pe
