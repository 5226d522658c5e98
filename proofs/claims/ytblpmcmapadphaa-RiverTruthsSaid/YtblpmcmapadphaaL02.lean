import Derived.Test.YtblpmcmapadphaaL01
set_option linter.unusedVariables false
set_option linter.unusedSimpArgs false
/- The law RiverTruths. -/
namespace Go.Pe
open Go Go.Proofs Go.Proofs.Ytblpmcmapadphaa
set_option maxRecDepth 20000
set_option maxHeartbeats 80000000
attribute [local simp] neq77
theorem rt_law {f : Fc} {x : Tr} {way : List Ps} (t : OkTr x) : Fn Try.prog 10 [f.av, x.av, .ro false 3 (way.map fPs)] .nil (B true) .nil := by
  refine Fn.ofR0 noM (by kernel_rfl) Try.func10 rfl (by simp) ?_
  simp -dsimp -implicitDefEqProofs
  refine onCall_in validF_fn ?_
  cases hok : okF f with
  | false =>
    simp -dsimp -implicitDefEqProofs
    refine onCall_in (known_fn.beside rfl _) ?_
    simp -dsimp -implicitDefEqProofs
  | true =>
    obtain ⟨hw, he⟩ := okF_iff.1 hok
    have g := good_of hw he
    have o : OkRv f := okRv_of (rv_of_start he)
    have hm := g.hmax
    have hhp := g.hpos
    have hn := hw.n
    have hrn := hw.r.n
    have hcc := hw.c
    have heq := g.eq
    have hpos2 : 0 < f.sides.length := by have := g.pos; omega
    have hx0 := List.getElem?_eq_getElem hpos2
    have hh : f.sides[0].length = hrs f.sides := by simp [hrs, List.headD_eq_head?_getD, List.head?_eq_getElem?, hx0]
    have c0 : ∀ h, Fn Try.prog 29 [sidesAV f.sides false] h (sidesAV f.sides (isz f.sides.length)) h := fun h => forecast_fn (by omega) (fun x hx => by have := hcc x hx; omega)
    have cF := fun f1 f2 h => Flows_fn (f := f) (f1 := f1) (f2 := f2) (h := h) g he
    have cL := fun f1 f2 h => Levels_fn (f := f) (f1 := f1) (f2 := f2) (h := h) g he
    have hfv := fun i (hi : i < f.sides.length) => flv g hi
    have hfl : (flowsF f.r f.sides).length = f.sides.length := flowsF_len
    have hll := LV_len g
    refine Exists.elim (⟨_, rfl⟩ : ∃ fl, fl = flowsF f.r f.sides) fun fl hfle => ?_
    refine Exists.elim (⟨_, rfl⟩ : ∃ lv, lv = LV f) fun lv hlve => ?_
    rw [← hfle] at hfl
    rw [← hlve] at hll
    simp only [← hfle, ← hlve] at cF cL hfv
    simp -dsimp -implicitDefEqProofs
    refine ifD_in (fun h7 => ?_) (fun h7 => ?_)
    · simp -dsimp -implicitDefEqProofs
      refine onCall_in (known_fn.beside rfl _) ?_
      simp -dsimp -implicitDefEqProofs
    have hwl : way.length ≤ 20 := by omega
    have hb1 : way.length * 24 ≤ 70368744177664 := by omega
    have hb2 : way.length ≤ 70368744177664 := by omega
    simp -dsimp -implicitDefEqProofs
    refine DrawR.on {} (by kernel_rfl) (by simp) ?_
    simp -dsimp -implicitDefEqProofs
    refine onCallQ_in (copied_fn hw.r) ?_
    simp -dsimp -implicitDefEqProofs
    refine onCallQ_in (c0 _) ?_
    simp -dsimp -implicitDefEqProofs
    refine onCallQ_in (cF _ _ _) ?_
    simp -dsimp -implicitDefEqProofs
    refine DrawR.on {} (by kernel_rfl) (by simp) ?_
    simp -dsimp -implicitDefEqProofs
    refine onCallQ_in (copied_fn hw.r) ?_
    simp -dsimp -implicitDefEqProofs
    refine onCallQ_in (c0 _) ?_
    simp -dsimp -implicitDefEqProofs
    refine onCallQ_in (cL _ _ _) ?_
    have n1 : ((f.sides.length : Int) != f.sides.length) = false := by simp
    have n2 : ((hrs f.sides : Int) != hrs f.sides) = false := by simp
    simp -dsimp -implicitDefEqProofs [hfl, hll, n1]
    refine LoopCR.on 498 (fun i => [(2, .ro false 3 (way.map fPs)), (3, .ptr 0 0), (4, .ptr 1 0), (7, .ro false 1 (fl.map fL)), (9, .ro false 1 (lv.map fL)), (11, I (i : Nat))])
      (fun _ => [some [f.r.reaches false, f.r.shoals, sidesAV f.sides false], some [u8s x.base, u8s x.side, u8s x.bed, u8s x.grow, U x.snow]]) (fun i => i ≤ f.sides.length) (fun i => f.sides.length - i) 0 [0, 1] (by simp) ?_ ?_
    · simp -dsimp -implicitDefEqProofs
    intro i j hi
    simp -dsimp -implicitDefEqProofs [hfl]
    refine ifD_in (fun hlt => ?_) (fun hge => ?_)
    · have hlt' : i < f.sides.length := by omega
      refine Exists.elim (hfv i hlt') fun y a1 => Exists.elim a1 fun row a2 => Exists.elim a2 fun lrow a3 => ?_
      have e1 := a3.1; have e2 := a3.2.1; have e3 := a3.2.2.1; have e4 := a3.2.2.2.1; have e5 := a3.2.2.2.2.1; have e6 := a3.2.2.2.2.2
      have wi : IntKind.i64.wrap ((i : Int) + 1) = ((i + 1 : Nat) : Int) := by rw [wrap_in (by omega) (by omega)]; omega
      have hvy := validR_parts ((List.all_eq_true.1 g.rv) y (List.mem_of_getElem? e1))
      simp -dsimp -implicitDefEqProofs
      refine DrawR.on {} (by kernel_rfl) (by simp) ?_
      simp -dsimp -implicitDefEqProofs [e2, e3, e4, e5, hx0, hh, n2]
      refine Exists.elim (⟨_, rfl⟩ : ∃ d : Nat, d = hrs f.sides / 10) fun d10 hd10 => ?_
      have v1 : IntKind.i64.wrap ((hrs f.sides : Int).tdiv 10) = (d10 : Int) := by
        rw [Int.tdiv_eq_ediv_of_nonneg (by omega), wrap_in (by omega) (by omega)]; omega
      have v1' : IntKind.i64.wrap ((hrs f.sides : Int) / 10) = (d10 : Int) := by rw [wrap_in (by omega) (by omega)]; omega
      have v2 : IntKind.i64.wrap (1 + (d10 : Int)) = 1 + (d10 : Int) := wrap_in (by omega) (by omega)
      refine LoopCR.on 498 (fun k => [(2, .ro false 3 (way.map fPs)), (3, .ptr 0 0), (4, .ptr 1 0), (7, .ro false 1 (fl.map fL)), (9, .ro false 1 (lv.map fL)), (11, I (i : Nat)), (12, I (k : Nat))])
        (fun _ => [some [f.r.reaches false, f.r.shoals, sidesAV f.sides false], some [u8s x.base, u8s x.side, u8s x.bed, u8s x.grow, U x.snow]]) (fun k => k ≤ 1000) (fun k => 1000 - k) 0 [0, 1] (by simp) ?_ ?_
      · simp -dsimp -implicitDefEqProofs
      intro k j hk
      simp -dsimp -implicitDefEqProofs [e2, e4]
      refine ifD_in (fun hlk => ?_) (fun hgk => ?_)
      · have hlk' : k < hrs f.sides := by omega
        have q1 := (e6 k hlk').1; have q2 := (e6 k hlk').2
        have hin := trF_in g t i (k : Int)
        have hlt2 := lvl_truth (y := y) (b := rf f.r f.sides i k) (n := trF f x i k) hvy.2.2.2.1 hin.1 hin.2
        have hlb := lvl_in (r := y) (b := ⟨trF f x i k, trF f x i k⟩) hvy.2.2.2.1 hvy.2.2.2.2.1
        have cT := fun h => truly_fn (x := x) (h := h) g t hlt' hlk'
        have cV := fun h => levT_fn (q := i) (k := (k : Int)) (h := h) g t he e1
        refine Exists.elim (⟨_, rfl⟩ : ∃ n, n = trF f x i k) fun n hne => ?_
        refine Exists.elim (⟨_, rfl⟩ : ∃ b, b = rf f.r f.sides i k) fun b hbe => ?_
        refine Exists.elim (⟨_, rfl⟩ : ∃ v, v = lvl y ⟨n, n⟩) fun v hve => ?_
        refine Exists.elim (⟨_, rfl⟩ : ∃ u, u = lvl y b) fun u hue => ?_
        rw [← hbe] at q1 q2 hin hlt2
        rw [← hne] at hin hlt2 hlb
        rw [← hve] at hlt2 hlb
        rw [← hue] at hlt2 q2
        simp only [← hne, ← hve] at cT cV
        have g1 : inB b.lo b.hi n = true := inB_iff.2 hin
        have g2 : decide (v.lo < u.lo) = false := decide_eq_false (by omega)
        have g3 : decide (u.hi < v.hi) = false := decide_eq_false (by omega)
        have g4 : IntKind.i64.wrap (v.hi - v.lo) = v.hi - v.lo := wrap_in (by omega) (by omega)
        have g5 : decide (1 < v.hi - v.lo) = false := decide_eq_false (by omega)
        have g6 : decide (v.lo < y.weir) = false := decide_eq_false (by omega)
        have v3 : IntKind.i64.wrap ((k : Int) + (1 + (d10 : Int))) = ((k + 1 + d10 : Nat) : Int) := by rw [wrap_in (by omega) (by omega)]; omega
        simp -dsimp -implicitDefEqProofs
        refine onCall_in (cT _) ?_
        simp -dsimp -implicitDefEqProofs
        refine onCall_in (copied_fn hw.r) ?_
        simp -dsimp -implicitDefEqProofs [e1]
        refine onCall_in (cV _) ?_
        simp -dsimp -implicitDefEqProofs
        refine DrawR.on {} (by kernel_rfl) (by simp) ?_
        simp -dsimp -implicitDefEqProofs [e2, q1]
        refine onCallQ_in in_fn ?_
        simp -dsimp -implicitDefEqProofs [g1, e3, q2, g2, g3, g4, g5, e1, g6, e2, e4, v1, v1', v2, v3]
        refine again_in (k + 1 + d10) [0, 1] (by omega) (by omega) ?_
        simp -dsimp -implicitDefEqProofs
      · simp -dsimp -implicitDefEqProofs [wi]
        refine again_in (i + 1) [0, 1] (by omega) (by omega) ?_
        simp -dsimp -implicitDefEqProofs
    clear hi hge
    refine Exists.elim (rs_cases (way := way) hw (by omega)) fun sa a1 => Exists.elim a1 fun sb a2 => Exists.elim a2 fun sc a3 => Exists.elim a3 fun sd a4 => Exists.elim a4 fun se a5 => ?_
    have hS := a5.1; have hcase := a5.2
    simp -dsimp -implicitDefEqProofs
    refine DrawR.on {} (by kernel_rfl) (by simp) ?_
    simp -dsimp -implicitDefEqProofs
    refine onCallQ_in (copied_fn hw.r) ?_
    simp -dsimp -implicitDefEqProofs
    refine onCallQ_in (c0 _) ?_
    simp -dsimp -implicitDefEqProofs [hb1, hb2]
    refine onCallQ_in (hS _ _ _) ?_
    have hcase2 : (se ≠ 0 ∧ sa = 0 ∧ sb = 0 ∧ sc = 0 ∧ sd = 0) ∨ (wayE f.r.rs (hrs f.sides) way = 0 ∧ sa = (shF (passD f way) way.length).lo ∧ sb = (shF (passD f way) way.length).hi ∧ se = 0) := by
      rcases hcase with ⟨h1, _⟩ | ⟨_, _, h2, h3, h4, h5, h6, h7⟩ | ⟨_, _, h2, h3, h4, _, _, h7⟩
      · exact absurd he h1
      · exact .inl ⟨by rw [h7]; exact h2, h3, h4, h5, h6⟩
      · exact .inr ⟨h2, h3, h4, h7⟩
    refine hcase2.elim (fun h8 => ?_) (fun h8 => ?_)
    · have ne0 : (se != 0) = true := by simpa using h8.1
      simp -dsimp -implicitDefEqProofs [ne0, h8.2.1, h8.2.2.1, h8.2.2.2.1, h8.2.2.2.2]
      refine onCall_in (known_fn.beside rfl _) ?_
      simp -dsimp -implicitDefEqProofs
    have hE := h8.1; have hsa := h8.2.1; have hsb := h8.2.2.1; have hse := h8.2.2.2
    have hwp' : way.length ≠ 0 ∧ ∀ p ∈ way, passE f.r.rs (hrs f.sides) p = 0 := by
      unfold wayE at hE
      split at hE
      · omega
      · split at hE
        · omega
        · exact ⟨by omega, firstE_zero hE⟩
    have hw0 := hwp'.1; have hwp := hwp'.2
    have hmm := g.small.r.m
    have hPin : ∀ i, i < way.length → (0 ≤ (passD f way i).1.lo ∧ (passD f way i).1.lo ≤ 200000) ∧ 0 ≤ (passD f way i).1.hi ∧ (passD f way i).1.hi ≤ 200000 := fun i hi => by
      have hp := List.getElem?_eq_getElem hi
      exact passD_in g o hp (hwp _ (List.mem_of_getElem? hp))
    have hSin := shF_in (D := passD f way) (i := way.length) hPin
    have hPat : ∀ i p, way[i]? = some p → ∃ (k q : Nat) (y : Rc), pickZ p.hours (partZ x.side i) = k ∧ k < hrs f.sides ∧ 0 ≤ p.place ∧ At f.r.rs p.place q y ∧ (passD f way i).1.lo ≤ (dF f p.place k).lo ∧ (dF f p.place k).hi ≤ (passD f way i).1.hi ∧ (p.hours.lo.natAbs ≤ 1000 ∧ p.hours.hi.natAbs ≤ 1000) := fun i p hp => by
      obtain ⟨h1, h2⟩ := pass_at (way := way) o hmm (hwp p (List.mem_of_getElem? hp))
      obtain ⟨q, y, ha⟩ := At.ex h1.1 h1.2
      have h3 := vB_iff.1 h2
      have hz := partZ_in (i := i) t.side
      have hk := pick_in h3.1 hz.1 hz.2
      refine Exists.elim (⟨(pickZ p.hours (partZ x.side i)).toNat, by omega⟩ : ∃ k : Nat, pickZ p.hours (partZ x.side i) = k) fun k hke => ?_
      have hd := dsF_at (d := dF f p.place) (lo := p.hours.lo) (n := (p.hours.hi - p.hours.lo).toNat) (k := k - p.hours.lo.toNat) (by omega)
      rw [show p.hours.lo + ((k - p.hours.lo.toNat : Nat) : Int) = (k : Int) by omega] at hd
      exact ⟨k, q, y, hke, by omega, h1.1, ha, by rw [passD, hp]; exact hd.1, by rw [passD, hp]; exact hd.2, by omega, by omega⟩
    refine Exists.elim (⟨_, rfl⟩ : ∃ PD, PD = passD f way) fun PD hPD => ?_
    rw [← hPD] at hSin
    simp only [← hPD] at hPat hsa hsb hPin
    simp -dsimp -implicitDefEqProofs [hse]
    refine LoopCR.on (σ := Nat × Int × Int) 498 (fun s => [(2, .ro false 3 (way.map fPs)), (3, .ptr 0 0), (4, .ptr 1 0), (7, .ro false 1 (fl.map fL)), (16, .ptr 2 0), (19, I s.2.1), (20, I s.2.2), (21, I (s.1 : Nat))])
      (fun _ => [some [f.r.reaches false, f.r.shoals, sidesAV f.sides false], some [u8s x.base, u8s x.side, u8s x.bed, u8s x.grow, U x.snow], some [I sa, I sb]])
      (fun s => rtInv PD way.length s.1 s.2.1 s.2.2) (fun s => way.length - s.1) (0, -1, -1) [0, 1, 17] ⟨by simp, .inl ⟨rfl, rfl, rfl⟩⟩ ?_ ?_
    · simp -dsimp -implicitDefEqProofs
    intro s j hI
    obtain ⟨i, sh, dp⟩ := s
    have hi := hI.1
    simp only at hi hI ⊢
    simp -dsimp -implicitDefEqProofs
    refine ifD_in (fun hlt => ?_) (fun hge => ?_)
    rotate_left
    · have hin : i = way.length := by omega
      have hI' := hI
      rw [hin] at hI'
      have hin2 : 24 * sa ≤ sh ∧ dp ≤ 24 * sb := by
        rw [hsa, hsb]
        rcases hI'.2 with h1 | h1
        · exact absurd h1.1 hw0
        · exact ⟨h1.2.2.2.1, h1.2.2.2.2⟩
      have u1 : IntKind.i64.wrap (24 * sa) = 24 * sa := wrap_in (by omega) (by omega)
      have u2 : IntKind.i64.wrap (24 * sb) = 24 * sb := wrap_in (by omega) (by omega)
      have u3 : decide (24 * sa ≤ sh) = true := decide_eq_true hin2.1
      have u4 : decide (dp ≤ 24 * sb) = true := decide_eq_true hin2.2
      simp -dsimp -implicitDefEqProofs [u1, u2, u3, u4]
      refine onCall_in (known_fn.beside rfl _) ?_
      simp -dsimp -implicitDefEqProofs
    have hlt' : i < way.length := by omega
    refine Exists.elim (⟨_, List.getElem?_eq_getElem hlt'⟩ : ∃ p, way[i]? = some p) fun p hp => ?_
    refine Exists.elim (hPat i p hp) fun k a1 => Exists.elim a1 fun q a2 => Exists.elim a2 fun y a3 => ?_
    have hk1 := a3.1; have hk2 := a3.2.1; have hp0 := a3.2.2.1; have ha := a3.2.2.2.1; have hd1' := a3.2.2.2.2.1; have hd2' := a3.2.2.2.2.2.1; have hph := a3.2.2.2.2.2.2
    have hpi := hPin i hlt'
    have wi : IntKind.i64.wrap ((i : Int) + 1) = ((i + 1 : Nat) : Int) := by rw [wrap_in (by omega) (by omega)]; omega
    have hz := partZ_in (i := i) t.side
    have cP := fun h => pick2_fn (b := p.hours) (y := partZ x.side i) (h := h) (by omega) (by omega) hz.1 hz.2
    rw [hk1] at cP
    simp -dsimp -implicitDefEqProofs [hp]
    refine DrawR.on {} (by kernel_rfl) (by simp) ?_
    simp -dsimp -implicitDefEqProofs
    refine onCallQ_in (part2_fn (i := i)) ?_
    simp -dsimp -implicitDefEqProofs
    refine onCallQ_in (cP _) ?_
    simp -dsimp -implicitDefEqProofs
    -- the place's reach
    have hq := (List.getElem?_eq_some_iff.1 ha.hx).1
    have hlb : ∀ x ∈ f.r.rs, x.len.natAbs ≤ 5000 := fun x hx => by have := o.len x hx; omega
    have w1 : IntKind.i64.wrap ((f.r.rs.length : Int) - 1) = (f.r.rs.length : Int) - 1 := wrap_in (by omega) (by omega)
    refine LoopCR.on 498 (fun r => [(2, .ro false 3 (way.map fPs)), (3, .ptr 0 0), (4, .ptr 1 0), (7, .ro false 1 (fl.map fL)), (16, .ptr 2 0), (19, I sh), (20, I dp), (21, I (i : Nat)), (22, .ptr 3 0), (23, I k), (24, I (r : Nat)), (25, I (lenSum (f.r.rs.take r)))])
      (fun _ => [some [f.r.reaches false, f.r.shoals, sidesAV f.sides false], some [u8s x.base, u8s x.side, u8s x.bed, u8s x.grow, U x.snow], some [I sa, I sb], some (fPs p)])
      (fun r => r ≤ q) (fun r => f.r.rs.length - r) 0 [0, 1, 2, 3] (by simp) ?_ ?_
    · simp -dsimp -implicitDefEqProofs [lenSum]
    intro r j hr
    refine Exists.elim (⟨_, List.getElem?_eq_getElem (by omega)⟩ : ∃ z, f.r.rs[r]? = some z) fun z hz => ?_
    have l1 := lenSum_in hlb r (by omega)
    have l2 := hlb z (List.mem_of_getElem? hz)
    have l3 := lenSum_take hz
    have w2 : IntKind.i64.wrap (lenSum (f.r.rs.take r) + z.len) = lenSum (f.r.rs.take (r + 1)) := by rw [l3, wrap_in (by omega) (by omega)]
    refine (Classical.em (r < q)).elim (fun hrq => ?_) (fun hrq => ?_)
    · have d1 : decide ((r : Int) < (f.r.rs.length : Int) - 1) = true := decide_eq_true (by omega)
      have d2 : decide (lenSum (f.r.rs.take (r + 1)) ≤ p.place) = true := decide_eq_true (by
        have := lenSum_mono o.len q (by omega) (r + 1) (by omega)
        have := ha.lo
        omega)
      have wr : IntKind.i64.wrap ((r : Int) + 1) = ((r + 1 : Nat) : Int) := by rw [wrap_in (by omega) (by omega)]; omega
      simp -dsimp -implicitDefEqProofs
      refine DrawR.on {} (by kernel_rfl) (by simp) ?_
      simp -dsimp -implicitDefEqProofs [w1, d1, hz, w2, d2, wr]
      refine again_in (r + 1) [0, 1, 2, 3] (by omega) (by omega) ?_
      simp -dsimp -implicitDefEqProofs
    have hrq' : r = q := by omega
    have ha' : At f.r.rs p.place r y := hrq' ▸ ha
    have hz' := ha'.hx
    have d2 : decide (lenSum (f.r.rs.take (r + 1)) ≤ p.place) = false := decide_eq_false (by have := ha'.hi; omega)
    have hrs' : r < f.sides.length := by omega
    refine Exists.elim (hfv r hrs') fun y' a1 => Exists.elim a1 fun row a2 => Exists.elim a2 fun lrow a3 => ?_
    have e2 := a3.2.1; have e4 := a3.2.2.2.1
    refine Exists.elim (rt_at (x := x) (k := k) g t o he hp0 ha' hk2) fun n a4 => Exists.elim a4 fun pb a5 => Exists.elim a5 fun v a6 => Exists.elim a6 fun D0 a7 => Exists.elim a7 fun B0 a8 => ?_
    have cT := a8.1; have cV := a8.2.1; have cD := a8.2.2.1; have cB := a8.2.2.2.1; have cPb := a8.2.2.2.2.1; have w3 := a8.2.2.2.2.2.1; have hDe := a8.2.2.2.2.2.2.1; have hEnd := a8.2.2.2.2.2.2.2.2
    have hd1 := hd1'; have hd2 := hd2'
    rw [hDe] at hd1 hd2
    have w2' : IntKind.i64.wrap (lenSum (f.r.rs.take r) + y.len) = lenSum (f.r.rs.take (r + 1)) := by
      have := lenSum_take hz'
      have := hlb y (List.mem_of_getElem? hz')
      rw [lenSum_take hz', wrap_in (by omega) (by omega)]
    have hk0 : decide ((k : Int) < 0) = false := decide_eq_false (by omega)
    have hk3 : decide ((hrs f.sides : Int) ≤ k) = false := decide_eq_false (by omega)
    have hk3' : decide (hrs f.sides ≤ k) = false := decide_eq_false (by omega)
    simp -dsimp -implicitDefEqProofs
    refine DrawR.on {} (by kernel_rfl) (by simp) ?_
    simp -dsimp -implicitDefEqProofs [w1]
    refine ifD_in (fun hq1 => ?_) (fun hq1 => ?_)
    all_goals
      simp -dsimp -implicitDefEqProofs [hz', w2', d2, hk0, e2, e4, hk3, hk3']
      refine onCall_in (cT _) ?_
      simp -dsimp -implicitDefEqProofs
      refine onCall_in (copied_fn hw.r) ?_
      simp -dsimp -implicitDefEqProofs [hz']
      refine onCall_in (cV _) ?_
      simp -dsimp -implicitDefEqProofs
      refine DrawR.on {} (by kernel_rfl) (by simp) ?_
      simp -dsimp -implicitDefEqProofs
      refine onCallQ_in (copied_fn hw.r) ?_
      simp -dsimp -implicitDefEqProofs
      refine onCallQ_in (c0 _) ?_
      simp -dsimp -implicitDefEqProofs
      refine onCallQ_in (cD _ _ _) ?_
      simp -dsimp -implicitDefEqProofs
      refine DrawR.on {} (by kernel_rfl) (by simp) ?_
      simp -dsimp -implicitDefEqProofs
      refine onCallQ_in (copied_fn hw.r) ?_
      simp -dsimp -implicitDefEqProofs
      refine onCallQ_in (cB _ _) ?_
      simp -dsimp -implicitDefEqProofs
      refine DrawR.on {} (by kernel_rfl) (by simp) ?_
      simp -dsimp -implicitDefEqProofs [hz']
      refine onCallQ_in (part2_fn (i := r)) ?_
      simp -dsimp -implicitDefEqProofs
      refine onCallQ_in (cPb _) ?_
      simp -dsimp -implicitDefEqProofs [w3]
      refine LoopCR.on 498 (fun m => [(2, .ro false 3 (way.map fPs)), (3, .ptr 0 0), (4, .ptr 1 0), (7, .ro false 1 (fl.map fL)), (16, .ptr 2 0), (19, I sh), (20, I dp), (21, I (i : Nat)), (22, .ptr 3 0), (23, I k), (27, .ptr 4 0), (29, .ptr 5 0), (31, .ptr 6 0), (33, I (topF x p.place k (24 * pb) f.r.ss m)), (34, I (m : Nat))])
        (fun _ => [some [f.r.reaches false, f.r.shoals, sidesAV f.sides false], some [u8s x.base, u8s x.side, u8s x.bed, u8s x.grow, U x.snow], some [I sa, I sb], some (fPs p), some [I v.lo, I v.hi], some [I D0.lo, I D0.hi], some [I B0.lo, I B0.hi]])
        (fun m => m ≤ f.r.ss.length) (fun m => f.r.ss.length - m) 0 [0, 1, 2, 3, 25, 39, 52] (by simp) ?_ ?_
      · simp -dsimp -implicitDefEqProofs [topF]
      intro m j hm2
      simp -dsimp -implicitDefEqProofs
      refine ifD_in (fun hlm => ?_) (fun hgm => ?_)
      · have hlm' : m < f.r.ss.length := by omega
        refine Exists.elim (⟨_, List.getElem?_eq_getElem hlm'⟩ : ∃ s, f.r.ss[m]? = some s) fun s hs => ?_
        refine Exists.elim (rt_shoal (p := p.place) (k := k) (t0 := 24 * pb) t (by omega) hs (o.sh s (List.mem_of_getElem? hs))) fun P b1 => Exists.elim b1 fun G b2 => Exists.elim b2 fun Q b3 => ?_
        have c1 := b3.1; have c2 := b3.2.1; have v0 := b3.2.2.1; have v1 := b3.2.2.2.1; have v2 := b3.2.2.2.2.1; have v3 := b3.2.2.2.2.2.1; have tp := b3.2.2.2.2.2.2.1; have tn := b3.2.2.2.2.2.2.2
        have wm : IntKind.i64.wrap ((m : Int) + 1) = ((m + 1 : Nat) : Int) := by rw [wrap_in (by omega) (by omega)]; omega
        refine Exists.elim (⟨_, rfl⟩ : ∃ T, T = topF x p.place k (24 * pb) f.r.ss m) fun T hT => ?_
        refine Exists.elim (⟨_, rfl⟩ : ∃ T', T' = topF x p.place k (24 * pb) f.r.ss (m + 1)) fun T' hT' => ?_
        rw [← hT, ← hT'] at tp tn
        rw [← hT]
        simp -dsimp -implicitDefEqProofs [hs]
        refine ifB_in (fun h3 => ?_) (fun h3 => ?_)
        · have h3' : s.place = p.place := by simpa using h3
          have hts := tp h3'
          simp -dsimp -implicitDefEqProofs
          refine DrawR.on {} (by kernel_rfl) (by simp) ?_
          simp -dsimp -implicitDefEqProofs
          refine onCallQ_in (part2_fn (i := m)) ?_
          simp -dsimp -implicitDefEqProofs
          refine onCallQ_in (c1 _) ?_
          simp -dsimp -implicitDefEqProofs [v1]
          refine onCallQ_in (part2_fn (i := m)) ?_
          simp -dsimp -implicitDefEqProofs
          refine onCallQ_in (c2 _) ?_
          simp -dsimp -implicitDefEqProofs [v0, v2, v3, wm]
          refine again_in (m + 1) [0, 1, 2, 3, 4, 5, 6] (by omega) (by omega) ?_
          simp -dsimp -implicitDefEqProofs [← hT', hts]
        · have h3' : s.place ≠ p.place := by simpa using h3
          have hts := tn h3'
          simp -dsimp -implicitDefEqProofs [wm]
          refine again_in (m + 1) [0, 1, 2, 3, 4, 5, 6] (by omega) (by omega) ?_
          simp -dsimp -implicitDefEqProofs [← hT', hts]
      have hin3 : m = f.r.ss.length := by omega
      refine Exists.elim (⟨_, rfl⟩ : ∃ T, T = topF x p.place k (24 * pb) f.r.ss f.r.ss.length) fun T hT => ?_
      have hT2 : topF x p.place k (24 * pb) f.r.ss m = T := by rw [hin3, hT]
      rw [hT2]
      refine Exists.elim (⟨_, rfl⟩ : ∃ N1, N1 = max 0 (24 * v.hi - T)) fun N1 hN1 => ?_
      refine Exists.elim (⟨_, rfl⟩ : ∃ N2, N2 = max 0 (24 * v.lo - T)) fun N2 hN2 => ?_
      have hE2 := hEnd T N1 N2 hT hN1 hN2
      have q1 := hE2.1.1; have q2 := hE2.1.2.1; have q3 := hE2.1.2.2.1; have q4 := hE2.1.2.2.2.1; have q5 := hE2.1.2.2.2.2.1; have q6 := hE2.1.2.2.2.2.2.1; have q7 := hE2.1.2.2.2.2.2.2.1; have q8 := hE2.1.2.2.2.2.2.2.2
      have d3 := hE2.2.1; have d4 := hE2.2.2.1; have d5 := hE2.2.2.2.1; have d6 := hE2.2.2.2.2.1; have d7 := hE2.2.2.2.2.2.1; have a1 := hE2.2.2.2.2.2.2.1; have a2 := hE2.2.2.2.2.2.2.2.1; have a3 := hE2.2.2.2.2.2.2.2.2.1; have a4 := hE2.2.2.2.2.2.2.2.2.2
      simp -dsimp -implicitDefEqProofs [q1, q2, q3, q4, q5, q6, q7, q8, ← hN1, ← hN2, d3, d4, d5, d6, d7]
      refine hI.2.elim (fun h6 => ?_) (fun h6 => ?_)
      · have h1 := h6.1; have h2 := h6.2.1; have h3 := h6.2.2
        have hn := rtInv_first hlt' h1 hpi.2.2 hd1 hd2 a1 a2 a3 a4
        simp -dsimp -implicitDefEqProofs [wi, q6, q8, ← hN2, h2, h3]
        refine again_in (i + 1, N1, N2) [0, 1, 2] hn (Nat.sub_lt_sub_left hlt' (Nat.lt_succ_self i)) ?_
        simp -dsimp -implicitDefEqProofs
      · have h1 := h6.1; have h2 := h6.2.1; have h3 := h6.2.2.1
        have b1 : decide (sh < 0) = false := decide_eq_false (Int.not_lt.2 h2)
        have b2 : decide (dp < 0) = false := decide_eq_false (Int.not_lt.2 h3)
        simp -dsimp -implicitDefEqProofs [b1]
        refine ifD_in (fun g1 => ?_) (fun g1 => ?_)
        · simp -dsimp -implicitDefEqProofs [b2, q6, q8, ← hN2]
          refine ifD_in (fun g2 => ?_) (fun g2 => ?_)
          · have hn := rtInv_next hlt' hI h1 hd1 hd2 a1 a2 a3 a4 (.inl rfl) (.inl ⟨rfl, g2⟩)
            simp -dsimp -implicitDefEqProofs [wi]
            refine again_in (i + 1, N1, N2) [0, 1, 2] hn (Nat.sub_lt_sub_left hlt' (Nat.lt_succ_self i)) ?_
            simp -dsimp -implicitDefEqProofs
          · have hn := rtInv_next hlt' hI h1 hd1 hd2 a1 a2 a3 a4 (.inl rfl) (.inr ⟨rfl, g2⟩)
            simp -dsimp -implicitDefEqProofs [wi]
            refine again_in (i + 1, N1, dp) [0, 1, 2] hn (Nat.sub_lt_sub_left hlt' (Nat.lt_succ_self i)) ?_
            simp -dsimp -implicitDefEqProofs
        · simp -dsimp -implicitDefEqProofs [b2, q6, q8, ← hN2]
          refine ifD_in (fun g2 => ?_) (fun g2 => ?_)
          · have hn := rtInv_next hlt' hI h1 hd1 hd2 a1 a2 a3 a4 (.inr rfl) (.inl ⟨rfl, g2⟩)
            simp -dsimp -implicitDefEqProofs [wi]
            refine again_in (i + 1, sh, N2) [0, 1, 2] hn (Nat.sub_lt_sub_left hlt' (Nat.lt_succ_self i)) ?_
            simp -dsimp -implicitDefEqProofs
          · have hn := rtInv_next hlt' hI h1 hd1 hd2 a1 a2 a3 a4 (.inr rfl) (.inr ⟨rfl, g2⟩)
            simp -dsimp -implicitDefEqProofs [wi]
            refine again_in (i + 1, sh, dp) [0, 1, 2] hn (Nat.sub_lt_sub_left hlt' (Nat.lt_succ_self i)) ?_
            simp -dsimp -implicitDefEqProofs
end Go.Pe
