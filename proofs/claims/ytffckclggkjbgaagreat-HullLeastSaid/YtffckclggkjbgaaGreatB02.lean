import Derived.Test.YtffckclggkjbgaaGreatB01
import Derived.Test.YtffckclggkjbgaaGreatY45
import Derived.Test.YtffckclggkjbgaaGreatY47
set_option linter.unusedVariables false
set_option linter.unusedSimpArgs false
/- The law HullLeast. -/
namespace Go.Pe
open Go Go.Proofs Go.Proofs.YtffckclggkjbgaaGreat
set_option maxRecDepth 20000
set_option maxHeartbeats 20000000
attribute [local simp] ts5 us5 ts22 us22 ts24 us24 ts25 us25 t27 u27 ts29 us29 ts34 us34 ts39 us39 ts57 us57 ts156 us156 ts53 us53 ts64 us64 ts98 us98 ts101 us101 ts102 us102 ts72 us72 ts75 us75 ts118 us118 ts120 us120 ts150 us150 ts113 us113
attribute [local simp] convA extA lenA ixar q_index ixV_ar
attribute [local simp] loadAV_eq smC_eq eq39z fSec_eq fPt_eq
theorem hleast_law {x : Sm} {hold more : Int} (hx : x.Ok) (hh : 0 ≤ hold ∧ hold ≤ 255) (hmo : 0 ≤ more ∧ more ≤ 255) : Fn Tryz.prog 9 [.agg (smC x), U hold, U more] .nil (B true) .nil := by
  refine Fn.ofR0 noM (by kernel_rfl) Tryz.func9 rfl (by simp) ?_
  refine Exists.elim (show ∃ u : Hu, u = huM x 4 from ⟨_, rfl⟩) fun u hu => ?_
  refine Exists.elim (show ∃ l, l = ldM x 4 from ⟨_, rfl⟩) fun l hl => ?_
  refine Exists.elim (show ∃ b, b = dens x from ⟨_, rfl⟩) fun b hb => ?_
  have cU : ∀ h, Fn Tryz.prog 44 [.agg (smC x), I (4 : Nat)] h (.agg [I u.a, .ro false 5 (u.ss.map fSec)]) h := fun h => by rw [hu]; exact small_hull hx (by omega) (by omega)
  have cL : Fn Tryz.prog 46 [.agg (smC x), .agg [I u.a, .ro false 5 (u.ss.map fSec)]] .nil (.sl 0 0 l.length 1) (mkH [some (rws (fun n => [I n]) l)]) := by rw [hu, hl]; exact load_own hx (by omega) (by omega)
  have cD : ∀ h, Fn Tryz.prog 47 [.agg (smC x)] h (.agg [I b.lo, I b.hi]) h := fun h => by rw [hb]; exact density_small hx
  have hsu : SmallU u := by rw [hu]; exact huM_small (by omega) (by omega)
  have hrow := rowsM_len (x := x) (m := 4) (by omega)
  have hll : l.length = (rowsM x 4).length := by rw [hl]; exact ldM_len
  have hul : u.ss.length = (rowsM x 4).length := by rw [hu]; simp [huM]
  have hfl : fltE u l b = 0 ∨ fltE u l b = 8 := by rw [hu, hl, hb]; exact flt_small hx (by omega) (by omega)
  have cO : ∀ h, Fn Tryz.prog 17 [.agg [I u.a, .ro false 5 (u.ss.map fSec)]] h (.agg [I u.a, .ro (isz u.ss.length) 5 (u.ss.map fSec)]) h := fun h => own_is hsu
  have okU : OkU u := by rw [hu]; exact Go.Pe.okU (huM_ok hx (by omega) (by omega))
  have okL : OkL u l := by rw [hu, hl]; exact ldM_ok hx (by omega) (by omega)
  have cN : ∀ (h : H) (b : Nat), h.get b = some (rws (fun n => [I n]) l) → Fn Tryz.prog 18 [.sl b 0 l.length 1] h (.ro false 1 (l.map fun n => [I n])) h := fun h b hb => numbersH (by omega) (by omega) hb
  refine Exists.elim (show ∃ fa, fa = floatR u l b from ⟨_, rfl⟩) fun fa hfa => ?_
  refine Exists.elim (show ∃ fe, fe = fltE u l b from ⟨_, rfl⟩) fun fe hfe => ?_
  have cF : ∀ g1 h, Fn Tryz.prog 21 [.agg [I u.a, .ro g1 5 (u.ss.map fSec)], .ro false 1 (l.map fun n => [I n]), .agg [I b.lo, I b.hi]] h (.tup [.agg fa, I fe]) h := fun g1 h => by
    rw [hfa, hfe]; exact Float_fn hsu (by omega)
  simp only [smC_eq] at cU cL cD
  simp -dsimp -implicitDefEqProofs
  refine onCall_in (cU _) ?_
  simp -dsimp -implicitDefEqProofs
  refine DrawR.on { eff := [(2, [])] } (by kernel_rfl) (by simp) ?_
  simp -dsimp -implicitDefEqProofs
  refine onCallE_makes1 cL rfl (rws_all (f := fun n : Int => [I n]) (q := clean) fun _ => rfl) rfl (fun _ => rfl) ?_
  simp -dsimp -implicitDefEqProofs
  refine onCallQ_all cD ?_
  simp -dsimp -implicitDefEqProofs
  refine DrawR.on {} (by kernel_rfl) (by simp) ?_
  simp -dsimp -implicitDefEqProofs
  refine onCallQ_all cO ?_
  simp -dsimp -implicitDefEqProofs
  refine onCallQ_in (cN _ _ (by simp -dsimp -implicitDefEqProofs)) ?_
  simp -dsimp -implicitDefEqProofs
  refine onCallQ_all (cF _) ?_
  refine hfl.elim (fun hF => ?_) (fun hF => ?_)
  rotate_left
  · have q4 : fe = 8 := by rw [hfe]; exact hF
    have q5 : fa = [I 0, I 0, I 0, I 0, I 0] := by
      rw [hfa]; unfold floatR
      rw [if_neg (by omega)]
    simp -dsimp -implicitDefEqProofs [q4, q5]
    refine onCall_in (known_fn.beside rfl _) ?_
    simp -dsimp -implicitDefEqProofs
    done
  have q4 : fe = 0 := by rw [hfe]; exact hF
  refine Exists.elim (show ∃ a1 a2 a3 a4 a5 : Int, a1 = mZ u l b.hi ∧ a2 = mZ u l b.lo ∧ a3 = mZ u l b.hi + trm u l ∧ a4 = mZ u l b.lo + trm u l ∧ a5 = sgn (mom u l) from ⟨_, _, _, _, _, rfl, rfl, rfl, rfl, rfl⟩) fun a1 h => Exists.elim h fun a2 h => Exists.elim h fun a3 h => Exists.elim h fun a4 h => Exists.elim h fun a5 h => ?_
  have d1 := h.1
  have d2 := h.2.1
  have d3 := h.2.2.1
  have d4 := h.2.2.2.1
  have d5 := h.2.2.2.2
  clear h
  have q5 : fa = [I a1, I a2, I a3, I a4, I a5] := by
    rw [hfa, d1, d2, d3, d4, d5]; unfold floatR; rw [if_pos hF]; rfl
  have hbv : vB 900 1100 b = true := by rw [hb]; exact dens_ok hx
  have hbb := vB_iff.1 hbv
  have htr := trm_in okU okL
  have hlim := lim_in okU
  have hz2 : a2 + trm u l ≤ lim u := by
    have := (flt_ok (x := ⟨u, l, b⟩) hF).2.2.2
    rw [d2]; exact this
  have hz1 : a1 ≤ a2 := by rw [d1, d2]; exact mZ_anti okU okL (by omega) hbb.1
  have hms := mass_in okU okL (n := l.length) (Nat.le_refl _)
  refine Exists.elim (show ∃ M, M = mass u l l.length from ⟨_, rfl⟩) fun M hM => ?_
  rw [← hM] at hms
  have mt1 := mean_at (l := l) (n := b.hi) okU (by rw [← hM]; omega) (by omega) (by rw [← d1]; omega)
  have mt2 := mean_at (l := l) (n := b.lo) okU (by rw [← hM]; omega) (by omega) (by rw [← d2]; omega)
  rw [← hM, ← d1] at mt1
  rw [← hM, ← d2] at mt2
  simp -dsimp -implicitDefEqProofs [q4, q5]
  refine LoopCR.gen 22 (fun G => G 1 = some [I u.a, .ro false 5 (u.ss.map fSec)] ∧ G 7 = some [I b.lo, I b.hi] ∧ G 19 = some [I a1, I a2, I a3, I a4, I a5] ∧ G 4 = some (rws (fun n => [I n]) l)) (by simp -dsimp -implicitDefEqProofs) (by rfl) (by simp -dsimp -implicitDefEqProofs) fun G hG => ?_
  have G1 := hG.1
  have G2 := hG.2.1
  have G3 := hG.2.2.1
  have G4 := hG.2.2.2
  clear hG
  refine LoopCR.on 295 (fun i => [(1, U hold), (2, U more), (7, .ptr 0 0), (8, .sl 3 0 l.length 1), (9, .ptr 1 0), (10, .ptr 2 0), (12, I (msI u l i)), (13, I (i : Nat))]) (fun _ => [some [I u.a, .ro false 5 (u.ss.map fSec)], some [I b.lo, I b.hi], some [I a1, I a2, I a3, I a4, I a5], some (rws (fun n => [I n]) l)]) (fun i => i ≤ u.ss.length) (fun i => u.ss.length - i) 0 [1, 7, 19, 4] (by simp) ?_ ?_
  · simp -dsimp -implicitDefEqProofs [G1, G2, G3, G4, msI, -List.mapM_map, rws_rn (f := fun n : Int => [I n]) (l := l) (n := 3) (bs := [1, 7, 19, 4]) fun _ => rfl]
    done
  intro i j hi
  simp -dsimp -implicitDefEqProofs
  refine ifD_in (fun hlt => ?_) (fun hge => ?_)
  · refine Exists.elim (show ∃ s v, u.ss[i]? = some s ∧ l[i]? = some v from ⟨_, _, List.getElem?_eq_getElem hlt, List.getElem?_eq_getElem (by omega)⟩) fun s h => Exists.elim h fun v h => ?_
    have hs := h.1
    have hv := h.2
    clear h
    have hil : i < l.length := by omega
    have hc := rws1_at hv
    have hc1 := hc.1
    have hc2 := hc.2
    have hld : ld l i = v := by unfold ld; rw [hv]; rfl
    have hsb := (okU.sec s (List.mem_of_getElem? hs)).2.1
    have hlo := (lot_in okU okL i).1
    rw [hld, Int.mul_comm] at hlo
    have hmi := msI_in okU okL i hi
    have hms2 := msI_succ (l := l) hs
    rw [hld] at hms2
    have on := okU.n
    have w1 : IntKind.i64.wrap (v * u.a) = v * u.a := wrap_in (by omega) (by omega)
    have w2 : IntKind.i64.wrap (s.b + v * u.a) = s.b + v * u.a := wrap_in (by omega) (by omega)
    have w3 : IntKind.i64.wrap (msI u l i + (s.b + v * u.a)) = msI u l i + (s.b + v * u.a) := wrap_in (by omega) (by omega)
    have w4 : IntKind.i64.wrap ((i : Int) + 1) = (i : Int) + 1 := wrap_in (by omega) (by omega)
    simp -dsimp -implicitDefEqProofs
    refine DrawR.on {} (by kernel_rfl) (by simp) ?_
    simp -dsimp -implicitDefEqProofs [hs, indexA_sl, hil, hc1, hc2, w1, w2, w3, w4]
    refine again_in (i + 1) [0, 1, 2, 3] (by omega) (by omega) ?_
    simp -dsimp -implicitDefEqProofs [hms2, -List.mapM_map, rws_rn (f := fun n : Int => [I n]) (l := l) (n := 3) (bs := [0, 1, 2, 3]) fun _ => rfl]
    done
  have hmM : msI u l i = M := by rw [show i = u.ss.length by omega, msI_mass (by omega), hM]
  simp -dsimp -implicitDefEqProofs [hmM]
  refine LoopCR.on 295 (fun k => [(1, U hold), (2, U more), (7, .ptr 0 0), (8, .sl 3 0 l.length 1), (9, .ptr 1 0), (10, .ptr 2 0), (12, I M), (14, I (k : Nat))]) (fun _ => [some [I u.a, .ro false 5 (u.ss.map fSec)], some [I b.lo, I b.hi], some [I a1, I a2, I a3, I a4, I a5], some (rws (fun n => [I n]) l)]) (fun k => k ≤ 2) (fun k => 2 - k) 0 [0, 1, 2, 3] (by simp) ?_ ?_
  · simp -dsimp -implicitDefEqProofs [-List.mapM_map, rws_rn (f := fun n : Int => [I n]) (l := l) (n := 3) (bs := [0, 1, 2, 3]) fun _ => rfl]
    done
  intro k j2 hk
  have cV : ∀ (d : Int), 0 ≤ d → d ≤ lim u → ∀ g1 h, Fn Tryz.prog 20 [.agg [I u.a, .ro g1 5 (u.ss.map fSec)], I d] h (.tup [I (vol u d), I 0]) h := fun d h0 h1 g1 h => by
    have := Volume_fn (u := u) (d := d) (f1 := g1) (h := h) hsu
    have hE : vlE u d = 0 := by
      unfold vlE
      rw [if_neg (by rw [hu, huM_ok hx (by omega) (by omega)]; simp), if_neg (by rw [inB_iff.2 (by omega)]; simp)]
    rw [hE, if_pos rfl] at this
    exact this
  refine (Classical.em (k < 2)).elim (fun hk2 => ?_) (fun hk2 => ?_)
  · refine (show k = 0 ∨ k = 1 by omega).elim (fun hk0 => ?_) (fun hk0 => ?_)
    · have hv0 := mt1.1
      have hv1 := mt1.2.1
      have hv2 := mt1.2.2
      have hvb := vol_in (u := u) (d := a1) okU hv0 (by omega)
      refine Exists.elim (show ∃ V, V = vol u a1 from ⟨_, rfl⟩) fun V hV => ?_
      have cV1 := cV a1 hv0 (by omega)
      rw [← hV] at hv1 hv2 hvb cV1
      have p1 : 0 ≤ V * b.hi := Int.mul_nonneg hvb.1 (by omega)
      have p2 : V * b.hi ≤ 600000 * 1100 := Int.mul_le_mul hvb.2 (by omega) (by omega) (by omega)
      have w1 : IntKind.i64.wrap (V * b.hi) = V * b.hi := wrap_in (by omega) (by omega)
      have w2 : IntKind.i64.wrap (M * 1000) = M * 1000 := wrap_in (by omega) (by omega)
      have n1 : decide (a1 < 0) = false := decide_eq_false (by omega)
      have n2 : decide (V * b.hi < M * 1000) = false := decide_eq_false (by omega)
      have z1 : IntKind.i64.wrap 1 = 1 := rfl
      have z2 : IntKind.i64.wrap 2 = 2 := rfl
      simp -dsimp -implicitDefEqProofs [hk0]
      refine DrawR.on {} (by kernel_rfl) (by simp) ?_
      simp -dsimp -implicitDefEqProofs [hk0]
      refine onCall_in (cO _) ?_
      simp -dsimp -implicitDefEqProofs
      refine onCall_in (cV1 _ _) ?_
      simp -dsimp -implicitDefEqProofs [n1, n2, w1, w2]
      refine (Classical.em (0 < a1)).elim (fun hpos => ?_) (fun hpos => ?_)
      · have n3 : decide (0 < a1) = true := decide_eq_true hpos
        have hW := hv2 hpos
        have hwb := vol_in (u := u) (d := a1 - 1) okU (by omega) (by omega)
        refine Exists.elim (show ∃ W, W = vol u (a1 - 1) from ⟨_, rfl⟩) fun W hWd => ?_
        have cV2 := cV (a1 - 1) (by omega) (by omega)
        rw [← hWd] at hW hwb cV2
        have p3 : 0 ≤ W * b.hi := Int.mul_nonneg hwb.1 (by omega)
        have w3 : IntKind.i64.wrap (W * b.hi) = W * b.hi := wrap_in (by omega) (by omega)
        have w4 : IntKind.i64.wrap (a1 - 1) = a1 - 1 := wrap_in (by omega) (by omega)
        have n4 : decide (M * 1000 ≤ W * b.hi) = false := decide_eq_false (by omega)
        have n5 : decide (V < W) = false := decide_eq_false (by omega)
        simp -dsimp -implicitDefEqProofs [n3, w4]
        refine onCall_in (cO _) ?_
        simp -dsimp -implicitDefEqProofs [w4]
        refine onCall_in (cV2 _ _) ?_
        simp -dsimp -implicitDefEqProofs [w2, w3, n4, n5, hk0, z1, z2]
        refine again_in 1 [0, 1, 2, 3] (by omega) (by omega) ?_
        simp -dsimp -implicitDefEqProofs [hk0, -List.mapM_map, rws_rn (f := fun n : Int => [I n]) (l := l) (n := 3) (bs := [0, 1, 2, 3]) fun _ => rfl]
        done
      · have n3 : decide (0 < a1) = false := decide_eq_false hpos
        simp -dsimp -implicitDefEqProofs [n3, hk0, z1, z2]
        refine again_in 1 [0, 1, 2, 3] (by omega) (by omega) ?_
        simp -dsimp -implicitDefEqProofs [hk0, -List.mapM_map, rws_rn (f := fun n : Int => [I n]) (l := l) (n := 3) (bs := [0, 1, 2, 3]) fun _ => rfl]
        done
    · have hv0 := mt2.1
      have hv1 := mt2.2.1
      have hv2 := mt2.2.2
      have hvb := vol_in (u := u) (d := a2) okU hv0 (by omega)
      refine Exists.elim (show ∃ V, V = vol u a2 from ⟨_, rfl⟩) fun V hV => ?_
      have cV1 := cV a2 hv0 (by omega)
      rw [← hV] at hv1 hv2 hvb cV1
      have p1 : 0 ≤ V * b.lo := Int.mul_nonneg hvb.1 (by omega)
      have p2 : V * b.lo ≤ 600000 * 1100 := Int.mul_le_mul hvb.2 (by omega) (by omega) (by omega)
      have w1 : IntKind.i64.wrap (V * b.lo) = V * b.lo := wrap_in (by omega) (by omega)
      have w2 : IntKind.i64.wrap (M * 1000) = M * 1000 := wrap_in (by omega) (by omega)
      have n1 : decide (a2 < 0) = false := decide_eq_false (by omega)
      have n2 : decide (V * b.lo < M * 1000) = false := decide_eq_false (by omega)
      have z1 : IntKind.i64.wrap 1 = 1 := rfl
      have z2 : IntKind.i64.wrap 2 = 2 := rfl
      simp -dsimp -implicitDefEqProofs [hk0]
      refine DrawR.on {} (by kernel_rfl) (by simp) ?_
      simp -dsimp -implicitDefEqProofs [hk0]
      refine onCall_in (cO _) ?_
      simp -dsimp -implicitDefEqProofs
      refine onCall_in (cV1 _ _) ?_
      simp -dsimp -implicitDefEqProofs [n1, n2, w1, w2]
      refine (Classical.em (0 < a2)).elim (fun hpos => ?_) (fun hpos => ?_)
      · have n3 : decide (0 < a2) = true := decide_eq_true hpos
        have hW := hv2 hpos
        have hwb := vol_in (u := u) (d := a2 - 1) okU (by omega) (by omega)
        refine Exists.elim (show ∃ W, W = vol u (a2 - 1) from ⟨_, rfl⟩) fun W hWd => ?_
        have cV2 := cV (a2 - 1) (by omega) (by omega)
        rw [← hWd] at hW hwb cV2
        have p3 : 0 ≤ W * b.lo := Int.mul_nonneg hwb.1 (by omega)
        have w3 : IntKind.i64.wrap (W * b.lo) = W * b.lo := wrap_in (by omega) (by omega)
        have w4 : IntKind.i64.wrap (a2 - 1) = a2 - 1 := wrap_in (by omega) (by omega)
        have n4 : decide (M * 1000 ≤ W * b.lo) = false := decide_eq_false (by omega)
        have n5 : decide (V < W) = false := decide_eq_false (by omega)
        simp -dsimp -implicitDefEqProofs [n3, w4]
        refine onCall_in (cO _) ?_
        simp -dsimp -implicitDefEqProofs [w4]
        refine onCall_in (cV2 _ _) ?_
        simp -dsimp -implicitDefEqProofs [w2, w3, n4, n5, hk0, z1, z2]
        refine again_in 2 [0, 1, 2, 3] (by omega) (by omega) ?_
        simp -dsimp -implicitDefEqProofs [hk0, -List.mapM_map, rws_rn (f := fun n : Int => [I n]) (l := l) (n := 3) (bs := [0, 1, 2, 3]) fun _ => rfl]
        done
      · have n3 : decide (0 < a2) = false := decide_eq_false hpos
        simp -dsimp -implicitDefEqProofs [n3, hk0, z1, z2]
        refine again_in 2 [0, 1, 2, 3] (by omega) (by omega) ?_
        simp -dsimp -implicitDefEqProofs [hk0, -List.mapM_map, rws_rn (f := fun n : Int => [I n]) (l := l) (n := 3) (bs := [0, 1, 2, 3]) fun _ => rfl]
        done
  have hke : k = 2 := by omega
  have htz := trm_zero okU okL
  have u1 : IntKind.i64.wrap (a3 - a1) = a3 - a1 := wrap_in (by omega) (by omega)
  have u2 : IntKind.i64.wrap (a4 - a2) = a4 - a2 := wrap_in (by omega) (by omega)
  have u3 : (a3 - a1 != a4 - a2) = false := by rw [bne_eq_false_iff_eq]; omega
  have u4 : decide (a3 < a1) = false := decide_eq_false (by omega)
  have u5 : ((a5 == 0) == (a3 == a1)) = true := by
    rw [beq_iff_eq]
    by_cases h0 : trm u l = 0
    · have h5 : a5 = 0 := by rw [d5]; exact htz.1 h0
      have h3 : a3 = a1 := by omega
      rw [h5, h3]; simp
    · have h5 : a5 ≠ 0 := by rw [d5]; exact fun h => h0 (htz.2 h)
      have h3 : a3 ≠ a1 := by omega
      rw [beq_eq_false_iff_ne.2 h5, beq_eq_false_iff_ne.2 h3]
  have m1 : IntKind.i64.wrap more = more := wrap_in (by omega) (by omega)
  have m2 := tm (v := more) (n := 20) hmo.1
  refine Exists.elim (show ∃ dl dh : Int, dl = b.lo + more % 20 ∧ dh = b.hi + more % 20 from ⟨_, _, rfl, rfl⟩) fun dl h => Exists.elim h fun dh h => ?_
  have hdl := h.1
  have hdh := h.2
  clear h
  have hbs : b.hi ≤ 1078 := by rw [hb]; have := hx.d0; have := hx.d1; simp only [dens]; omega
  have m3 : IntKind.i64.wrap (b.lo + more % 20) = dl := by rw [hdl]; exact wrap_in (by omega) (by omega)
  have m4 : IntKind.i64.wrap (b.hi + more % 20) = dh := by rw [hdh]; exact wrap_in (by omega) (by omega)
  have hhok : hullOk u = true := by rw [hu]; exact huM_ok hx (by omega) (by omega)
  have hdv : vB 900 1100 ⟨dl, dh⟩ = true := vB_iff.2 (by simp only; omega)
  have g1a : mZ u l dh ≤ a1 := by rw [d1]; exact mZ_anti okU okL (by omega) (by omega)
  have g2a : mZ u l dl ≤ a2 := by rw [d2]; exact mZ_anti okU okL (by omega) (by omega)
  have hG := flt_zero (b := ⟨dl, dh⟩) hhok okL hdv (by simp only; omega)
  refine Exists.elim (show ∃ g1 g2 : Int, g1 = mZ u l dh ∧ g2 = mZ u l dl from ⟨_, _, rfl, rfl⟩) fun g1 h => Exists.elim h fun g2 h => ?_
  have hg1 := h.1
  have hg2 := h.2
  clear h
  rw [← hg1] at g1a
  rw [← hg2] at g2a
  refine Exists.elim (show ∃ yy : AV, yy = .tup [.agg [I g1, I g2, I (g1 + trm u l), I (g2 + trm u l), I a5], I 0] from ⟨_, rfl⟩) fun yy hyy => ?_
  have cG : ∀ q h, Fn Tryz.prog 21 [.agg [I u.a, .ro q 5 (u.ss.map fSec)], .ro false 1 (l.map fun n => [I n]), .agg [I dl, I dh]] h yy h := fun q h => by
    have := Float_fn (u := u) (l := l) (b := ⟨dl, dh⟩) (f1 := q) (f3 := false) (h := h) hsu (by omega)
    rw [hG, show floatR u l ⟨dl, dh⟩ = [I g1, I g2, I (g1 + trm u l), I (g2 + trm u l), I a5] by unfold floatR; rw [if_pos hG, floatC_eq, hg1, hg2, d5]] at this
    rw [hyy]; exact this
  have v1 : decide (a1 < g1) = false := decide_eq_false (by omega)
  have v2 : decide (a2 < g2) = false := decide_eq_false (by omega)
  have v3 : decide (a4 < g2 + trm u l) = false := decide_eq_false (by omega)
  simp -dsimp -implicitDefEqProofs [hke, u1, u2, u3, u4, u5, m1, m2, m3, m4]
  refine DrawR.on {} (by kernel_rfl) (by simp) ?_
  simp -dsimp -implicitDefEqProofs
  refine onCallQ_all cO ?_
  simp -dsimp -implicitDefEqProofs
  refine onCallQ_in (cN _ _ (by simp -dsimp -implicitDefEqProofs)) ?_
  simp -dsimp -implicitDefEqProofs
  refine onCallQ_all (cG _) ?_
  have e1 : IntKind.i64.wrap hold = hold := wrap_in (by omega) (by omega)
  have e2 := tm (v := hold) (n := l.length) hh.1
  have hlz : (l = []) = False := eq_false (fun h => by rw [h] at hll; simp at hll; omega)
  have b1 := Int.emod_nonneg hold (show (l.length : Int) ≠ 0 by omega)
  have b2 := Int.emod_lt_of_pos hold (show (0 : Int) < l.length by omega)
  refine Exists.elim (show ∃ K : Nat, (K : Int) = hold % l.length from ⟨(hold % l.length).toNat, by omega⟩) fun K hK => ?_
  have hKl : K < l.length := by omega
  rw [← hK] at e2
  refine Exists.elim (show ∃ r v, (rowsM x 4)[K]? = some r ∧ l[K]? = some v from ⟨_, _, List.getElem?_eq_getElem (by omega), List.getElem?_eq_getElem hKl⟩) fun r h => Exists.elim h fun v h => ?_
  have hr := h.1
  have hv := h.2
  clear h
  have hok := rowsM_ok hx r (List.mem_of_getElem? hr)
  have h2 := hok.h2
  have hs : u.ss[K]? = some (secOf r) := by rw [hu]; simp only [huM, List.getElem?_map, hr, Option.map_some]
  have hq : (secOf r).qs = [⟨r.v4 % 11, r.v2 % 6⟩] := rfl
  have hp : ∃ o, (hsU u)[K]? = some (moved o ⟨r.v4 % 11, r.v2 % 6⟩) := by
    have h1 : ∀ s ∈ u.ss, s.qs.length = 1 := fun s hs => by
      rw [hu] at hs
      obtain ⟨r, _, rfl⟩ := List.mem_map.1 hs
      simp [secOf]
    exact ⟨_, (hsI_one h1 _ (Nat.le_refl _)).2 K _ _ (by omega) hs hq⟩
  have hvy : v ≤ r.v2 % 6 ∧ 0 ≤ v := by
    obtain ⟨o, hp⟩ := hp
    have := okL.lots K v _ hv hp
    simp only [moved] at this
    omega
  have hc := rws1_at hv
  have hc1 := hc.1
  have hc2 := hc.2
  have w1 : IntKind.i64.wrap (v + 1) = v + 1 := wrap_in (by omega) (by omega)
  simp -dsimp -implicitDefEqProofs [hyy, v1, v2, v3, e1, e2, hlz]
  refine DrawR.on {} (by kernel_rfl) (by simp) ?_
  simp -dsimp -implicitDefEqProofs [indexA_sl, hKl, hc1, hc2, hs, hq]
  refine ifD_in (fun hlt => ?_) (fun hge => ?_)
  rotate_left
  · simp -dsimp -implicitDefEqProofs
    refine onCall_in (known_fn.beside rfl _) ?_
    simp -dsimp -implicitDefEqProofs
    done
  have okL' : OkL u (l.set K (v + 1)) := by
    obtain ⟨o, hp⟩ := hp
    exact OkL_set okL hv hp (by simp only [moved]; omega)
  have hms3 := mass_set okU hv
  have hst := rws1_set (w := v + 1) hv
  refine Exists.elim (show ∃ l', l' = l.set K (v + 1) from ⟨_, rfl⟩) fun l' hl' => ?_
  rw [← hl'] at okL' hms3 hst
  have hll' : l'.length = l.length := by rw [hl', List.length_set]
  have cN' : ∀ (h : H) (b : Nat), h.get b = some (rws (fun n => [I n]) l') → Fn Tryz.prog 18 [.sl b 0 l.length 1] h (.ro false 1 (l'.map fun n => [I n])) h := fun h b hb => by
    rw [← hll']; exact numbersH (by omega) (by omega) hb
  refine Exists.elim (show ∃ zz : AV, zz = .tup [.agg (floatR u l' b), I (fltE u l' b)] from ⟨_, rfl⟩) fun zz hzz => ?_
  have cZ : ∀ q h, Fn Tryz.prog 21 [.agg [I u.a, .ro q 5 (u.ss.map fSec)], .ro false 1 (l'.map fun n => [I n]), .agg [I b.lo, I b.hi]] h zz h := fun q h => by
    rw [hzz]; exact Float_fn hsu (by omega)
  simp -dsimp -implicitDefEqProofs [indexA_sl, hKl, hc1, hc2, w1, hst]
  refine DrawR.on {} (by kernel_rfl) (by simp) ?_
  simp -dsimp -implicitDefEqProofs
  refine onCallQ_all cO ?_
  simp -dsimp -implicitDefEqProofs
  refine onCallQ_in (cN' _ _ (by simp -dsimp -implicitDefEqProofs)) ?_
  simp -dsimp -implicitDefEqProofs
  refine onCallQ_all (cZ _) ?_
  refine (flt_ok8 hhok okL' hbv).elim (fun hF' => ?_) (fun hF' => ?_)
  · have f1 : floatR u l' b = [I (mZ u l' b.hi), I (mZ u l' b.lo), I (mZ u l' b.hi + trm u l'), I (mZ u l' b.lo + trm u l'), I (sgn (mom u l'))] := by unfold floatR; rw [if_pos hF']; rfl
    have f2 : decide (mZ u l' b.hi < a1) = false := decide_eq_false (by have := mZ_more (d := b.hi) (by omega) hms3; omega)
    have f3 : decide (mZ u l' b.lo < a2) = false := decide_eq_false (by have := mZ_more (d := b.lo) (by omega) hms3; omega)
    simp -dsimp -implicitDefEqProofs [hzz, f1, hF', f2, f3]
    refine onCall_in (known_fn.beside rfl _) ?_
    simp -dsimp -implicitDefEqProofs
    done
  · have f1 : floatR u l' b = [I 0, I 0, I 0, I 0, I 0] := by unfold floatR; rw [if_neg (by omega)]
    simp -dsimp -implicitDefEqProofs [hzz, f1, hF']
    refine onCall_in (known_fn.beside rfl _) ?_
    simp -dsimp -implicitDefEqProofs
    done
end Go.Pe
