import Derived.Test.YtblpmcmapadphabA28
set_option linter.unusedVariables false
set_option linter.unusedSimpArgs false
/- The law RiverWays. -/
namespace Go.Pe
open Go Go.Proofs Go.Proofs.Ytblpmcmapadphab
set_option maxRecDepth 20000
set_option maxHeartbeats 80000000
theorem lenA_sl {e : TypeId} {s by' : Nat} {z : List Value} {a f' cm : Bool} {b o k n : Nat} : lenA { kind := .sl e, size := s, zero := z, agg := a, bytes := by', fok := f', cmp := cm } (.sl b o n k) = some (.val (.int .i64 n)) := rfl
attribute [local simp] neq77 lenA_sl

theorem wy_law {f : Fc} {way : List Ps} {cut : Nat} (hcut : cut ≤ 255) : Fn Try.prog 3 [f.av, .ro false 3 (way.map fPs), U cut] .nil (B true) .nil := by
  refine Fn.ofR0 (butM [54, 254, 271]) (by kernel_rfl) Try.func3 rfl (by simp) ?_
  simp -dsimp -implicitDefEqProofs
  refine onCall_in validF_fn ?_
  cases hok : okF f with
  | false =>
    simp -dsimp -implicitDefEqProofs
    refine onCall_in (known_fn.beside rfl _) ?_
    simp -dsimp -implicitDefEqProofs
  | true =>
    obtain ⟨hw, he⟩ := okF_iff.1 hok
    have g := good_of hw he
    have o : OkRv f := okRv_of (rv_of_start he)
    have hm := g.hmax
    have hhp := g.hpos
    have hn := hw.n
    have hcc := hw.c
    have heq := g.eq
    have hpos2 : 0 < f.sides.length := by have := g.pos; omega
    have hx0 := List.getElem?_eq_getElem hpos2
    have hh : f.sides[0].length = hrs f.sides := by simp [hrs, List.headD_eq_head?_getD, List.head?_eq_getElem?, hx0]
    have c0 : ∀ h, Fn Try.prog 8 [sidesAV f.sides false] h (sidesAV f.sides (isz f.sides.length)) h := fun h => forecast_fn (by omega) (fun x hx => by have := hcc x hx; omega)
    simp -dsimp -implicitDefEqProofs
    refine ifD_in (fun h7 => ?_) (fun h7 => ?_)
    · simp -dsimp -implicitDefEqProofs
      refine onCall_in (known_fn.beside rfl _) ?_
      simp -dsimp -implicitDefEqProofs
    simp -dsimp -implicitDefEqProofs
    refine ifD_in (fun h8 => ?_) (fun h8 => ?_)
    · simp -dsimp -implicitDefEqProofs
      refine onCall_in (known_fn.beside rfl _) ?_
      simp -dsimp -implicitDefEqProofs
    have hl0 : 0 < way.length := by omega
    have hl20 : way.length ≤ 20 := by omega
    clear h7 h8
    have hb1 : way.length * 24 ≤ 70368744177664 := by omega
    have hb2 : way.length ≤ 70368744177664 := by omega
    by_cases hE : wayE f.r.rs (hrs f.sides) way = 0
    rotate_left
    · have h73 : wayE f.r.rs (hrs f.sides) way = 7 ∨ wayE f.r.rs (hrs f.sides) way = 3 := by
        have e : wayE f.r.rs (hrs f.sides) way = firstE f.r.rs (hrs f.sides) way := by rw [wayE, if_neg (by omega), if_neg (by omega)]
        rw [e] at hE ⊢; exact firstE_73 hE
      have cS := fun f1 f2 h => Shallowest_err (f := f) (f1 := f1) (f2 := f2) (fw := false) (way := way) (h := h) g o he (by omega) hE
      have ne0 : (wayE f.r.rs (hrs f.sides) way != 0) = true := by simpa using hE
      simp -dsimp -implicitDefEqProofs
      refine DrawR.on {} (by kernel_rfl) (by simp) ?_
      simp -dsimp -implicitDefEqProofs
      refine onCallQ_in (copied_fn hw.r) ?_
      simp -dsimp -implicitDefEqProofs
      refine onCallQ_in (c0 _) ?_
      simp -dsimp -implicitDefEqProofs [hb1, hb2]
      refine onCallQ_in (cS _ _ _) ?_
      rcases h73 with h73 | h73
      · simp -dsimp -implicitDefEqProofs [h73]
        refine onCall_in (known_fn.beside rfl _) ?_
        simp -dsimp -implicitDefEqProofs
      · simp -dsimp -implicitDefEqProofs [h73]
        refine onCall_in (known_fn.beside rfl _) ?_
        simp -dsimp -implicitDefEqProofs
    have hwp : ∀ p ∈ way, passE f.r.rs (hrs f.sides) p = 0 := by
      unfold wayE at hE
      split at hE
      · omega
      · split at hE
        · omega
        · exact firstE_zero hE
    have hD := fun i p (hp : way[i]? = some p) => way_W g o he hp (hwp p (List.mem_of_getElem? hp))
    have hDb : ∀ i, i < way.length → (0 ≤ (passD f way i).1.lo ∧ (passD f way i).1.lo ≤ 200000) ∧ 0 ≤ (passD f way i).1.hi ∧ (passD f way i).1.hi ≤ 200000 := fun i hi => by
      have hp := List.getElem?_eq_getElem hi
      exact passD_in g o hp (hwp _ (List.mem_of_getElem? hp))
    have cS0 := fun f1 f2 h => Shallowest_fn (f := f) (f1 := f1) (f2 := f2) (fw := false) (way := way) (h := h) g o he hE
    refine Exists.elim (⟨_, rfl⟩ : ∃ S, S = shF (passD f way) way.length) fun S hS => ?_
    have hlo0 := shF_lo (D := passD f way) (n := way.length) (fun i hi => (hDb i hi).1.2) hl0
    have hhi0 := shF_hi (D := passD f way) (n := way.length) (fun i hi => (hDb i hi).2.2) hl0
    have hat := fun i (hi : i < way.length) => shF_at (D := passD f way) (n := way.length) hi
    simp only [← hS] at cS0 hlo0 hhi0 hat
    refine Exists.elim hlo0 fun i0 a1 => ?_
    have i1 := a1.1; have i2 := a1.2.1; have i3 := a1.2.2.1; have i4 := a1.2.2.2.1; have i5 := a1.2.2.2.2
    refine Exists.elim hhi0 fun i6 a2 => ?_
    refine Exists.elim (⟨_, List.getElem?_eq_getElem i1⟩ : ∃ p, way[i0]? = some p) fun p0 hp0 => ?_
    refine Exists.elim (hD i0 p0 hp0) fun lo0 b1 => Exists.elim b1 fun hi0 b2 => Exists.elim b2 fun k0 W0 => ?_
    have hble : S.lo ≤ S.hi := by
      obtain ⟨p6, hp6⟩ : ∃ p, way[i6]? = some p := ⟨_, List.getElem?_eq_getElem a2.1⟩
      obtain ⟨_, _, _, W6⟩ := hD i6 p6 hp6
      have h1 := W6.dle
      have h2 := hat i6 a2.1
      have h3 := a2.2
      omega
    have hb0 := (hDb i0 i1).1
    have i3' : S.hour = k0 := by rw [i3, W0.k3]
    have cS : ∀ f1 f2 h, Fn Try.prog 6 [f.r.av f1, sidesAV f.sides f2, .ro false 3 (way.map fPs)] h (.tup [.agg [I S.lo, I S.hi], I i0, I k0, I 0]) h := fun f1 f2 h => by
      have := cS0 f1 f2 h
      rw [i2, i3'] at this; exact this
    have u1 : inB p0.hours.lo p0.hours.hi k0 = true := by rw [W0.hours]; exact inB_iff.2 ⟨by have := W0.k1; simp only; omega, by have := W0.k2; simp only; omega⟩
    have u2 : decide ((i0 : Int) < 0) = false := decide_eq_false (by omega)
    have u3 : decide (way.length ≤ i0) = false := decide_eq_false (by omega)
    have u4 : decide (S.lo < 0) = false := decide_eq_false (by omega)
    have u5 : decide (S.hi < S.lo) = false := decide_eq_false (by omega)
    have cD1 : ∀ f1 f2 h, Fn Try.prog 10 [f.r.av f1, sidesAV f.sides f2, I p0.place, I k0] h (.tup [.agg [I S.lo, I (dF f p0.place k0).hi], I 0]) h := fun f1 f2 h => by
      have := W0.fn k0 f1 f2 h (by have := W0.k2; have := W0.hrs; omega)
      rw [W0.k4, i4] at this; exact this
    have hR := fun i p lo hi k' (hp : way[i]? = some p) (hi' : i < way.length) (W : WayD f way i p lo hi k') => way_R (S := S) (cut := cut) hm hcut W W0 hp hp0 (hat i hi').1 i4 i5
    simp -dsimp -implicitDefEqProofs
    refine DrawR.on {} (by kernel_rfl) (by simp) ?_
    simp -dsimp -implicitDefEqProofs
    refine onCallQ_in (copied_fn hw.r) ?_
    simp -dsimp -implicitDefEqProofs
    refine onCallQ_in (c0 _) ?_
    simp -dsimp -implicitDefEqProofs [hb1, hb2]
    refine onCallQ_in (cS _ _ _) ?_
    simp -dsimp -implicitDefEqProofs [u2, u3, hp0]
    refine onCall_in in_fn ?_
    simp -dsimp -implicitDefEqProofs [u1, u4, u5]
    refine DrawR.on {} (by kernel_rfl) (by simp) ?_
    simp -dsimp -implicitDefEqProofs
    refine onCallQ_in (copied_fn hw.r) ?_
    simp -dsimp -implicitDefEqProofs
    refine onCallQ_in (c0 _) ?_
    simp -dsimp -implicitDefEqProofs [hp0]
    refine onCallQ_in (cD1 _ _ _) ?_
    simp -dsimp -implicitDefEqProofs
    refine LoopCR.on 377 (fun i => [(1, .ro false 3 (way.map fPs)), (2, U cut), (3, .ptr 0 0), (7, .ptr 1 0), (8, I i0), (9, I k0), (12, I (i : Nat))])
      (fun _ => [some [f.r.reaches false, f.r.shoals, sidesAV f.sides false], some [I S.lo, I S.hi]]) (fun i => i ≤ way.length) (fun i => way.length - i) 0 [0, 16] (by simp) ?_ ?_
    · simp -dsimp -implicitDefEqProofs
    intro i j hi
    have w0 : IntKind.i64.wrap (cut : Int) = cut := wrap_in (by omega) (by omega)
    simp -dsimp -implicitDefEqProofs
    refine ifD_in (fun hlt => ?_) (fun hge => ?_)
    · have hlt' : i < way.length := by omega
      refine Exists.elim (⟨_, List.getElem?_eq_getElem hlt'⟩ : ∃ p, way[i]? = some p) fun p hp => ?_
      refine Exists.elim (hD i p hp) fun lo b1 => Exists.elim b1 fun hi' b2 => Exists.elim b2 fun k' W => ?_
      refine Exists.elim (hR i p lo hi' k' hp hlt' W) fun kk b1 => Exists.elim b1 fun e b2 => Exists.elim b2 fun d R => ?_
      have wi : IntKind.i64.wrap ((i : Int) + 1) = ((i + 1 : Nat) : Int) := by rw [wrap_in (by omega) (by omega)]; omega
      simp -dsimp -implicitDefEqProofs [hp, W.hours]
      refine DrawR.on {} (by kernel_rfl) (by simp) ?_
      simp -dsimp -implicitDefEqProofs [R.v1, R.v2, R.v3, hx0, hh]
      refine DrawR.on {} (by kernel_rfl) (by simp) ?_
      simp -dsimp -implicitDefEqProofs [hp, W.hours, convA, w0, R.w1, R.w2, R.z1, R.m1, R.w3]
      refine DrawR.on {} (by kernel_rfl) (by simp) ?_
      simp -dsimp -implicitDefEqProofs
      refine onCallQ_in (copied_fn hw.r) ?_
      simp -dsimp -implicitDefEqProofs
      refine onCallQ_in (c0 _) ?_
      simp -dsimp -implicitDefEqProofs [hp]
      refine onCallQ_in (R.fn _ _ _) ?_
      simp -dsimp -implicitDefEqProofs [R.v4]
      refine ifB_in (fun hb => ?_) (fun hb => ?_)
      rotate_left
      · simp -dsimp -implicitDefEqProofs [wi]
        refine again_in (i + 1) [0, 1] (by omega) (by omega) ?_
        simp -dsimp -implicitDefEqProofs
      · have v5 := R.v5 hb
        simp -dsimp -implicitDefEqProofs [v5]
        refine ifB_in (fun hii => ?_) (fun hii => ?_)
        · have v6 := R.v6 hb (by have := eq_of_beq hii; omega)
          simp -dsimp -implicitDefEqProofs [v6, wi]
          refine again_in (i + 1) [0, 1] (by omega) (by omega) ?_
          simp -dsimp -implicitDefEqProofs
        · simp -dsimp -implicitDefEqProofs [wi]
          refine again_in (i + 1) [0, 1] (by omega) (by omega) ?_
          simp -dsimp -implicitDefEqProofs
    clear hi hge
    refine Exists.elim (⟨_, rfl⟩ : ∃ a, a = cut % way.length) fun at' hat' => ?_
    have hat1 : at' < way.length := by rw [hat']; exact Nat.mod_lt _ hl0
    have m2 : (cut : Int).tmod (way.length : Int) = (at' : Int) := by rw [hat']; rfl
    have z2 : ¬ ((way.length : Int) = 0) := by omega
    have z3 : ¬ way = [] := fun h => by rw [h] at hl0; exact absurd hl0 (by simp)
    refine Exists.elim (⟨_, rfl⟩ : ∃ c, c = cut % 5) fun c hc5 => Exists.elim (⟨_, rfl⟩ : ∃ d, d = cut % 4) fun d hd4 => Exists.elim (⟨_, rfl⟩ : ∃ M, M = way.map (wider (hrs f.sides) c d)) fun M hM => ?_
    refine Exists.elim (way_more g o he hwp hl20 hl0 hM) fun Z hZ => ?_
    have cZ := hZ.1; have y1 := hZ.2.1; have y2 := hZ.2.2
    rw [← hS] at y1 y2
    have m5 : (cut : Int).tmod 5 = (c : Int) := by rw [hc5]; rfl
    have m4 : (cut : Int).tmod 4 = (d : Int) := by rw [hd4]; rfl
    have m5' : (cut : Int) % 5 = (c : Int) := by rw [hc5]; rfl
    have m4' : (cut : Int) % 4 = (d : Int) := by rw [hd4]; rfl
    have w5 : IntKind.i64.wrap ((hrs f.sides : Int) - 1) = (hrs f.sides : Int) - 1 := wrap_in (by omega) (by omega)
    have hfl : (way.map fPs).flatten = rws fPs way := rfl
    have hMl : M.length = way.length := by rw [hM, List.length_map]
    have hMe : moreL (hrs f.sides) c d way way.length = M := by rw [moreL_all, hM]
    have hz : ∀ h : H, h.get 2 = some (rws fPs M) → fzv h 2 (.sl 2 0 way.length 3) = .ro false 3 (M.map fPs) := fun h hg => fzv_hit hg hMl fPs_len (fun _ => rfl)
    have hprn : ∀ (bs : List Nat) (n : Nat) (l : List Ps), (rws fPs l).mapM (rn bs (n + 1)) = some (rws fPs l) := fun bs n l => rws_rn fun _ => rfl
    simp -dsimp -implicitDefEqProofs [convA, w0, m2, z2, z3]
    refine ifD_in (fun ha0 => ?_) (fun ha0 => ?_)
    · refine Exists.elim (⟨_, rfl⟩ : ∃ w, w = way.take at') fun wa hwa => Exists.elim (⟨_, rfl⟩ : ∃ w, w = way.drop at') fun wb hwb => ?_
      refine Exists.elim (way_cut g o he hwp hl20 (by omega) hat1 hwa hwb) fun X b1 => Exists.elim b1 fun Y b2 => ?_
      have cX := b2.1; have cY := b2.2.1; have x1 := b2.2.2.1; have x2 := b2.2.2.2
      rw [← hS] at x1 x2
      have hla : wa.length * 24 ≤ 70368744177664 ∧ wa.length ≤ 70368744177664 := by rw [hwa, List.length_take]; omega
      have hlb : wb.length * 24 ≤ 70368744177664 ∧ wb.length ≤ 70368744177664 := by rw [hwb, List.length_drop]; omega
      have s1 := fun {e s by' z a f' cm g E} hE => slice_to (e := e) (s := s) (by' := by') (z := z) (a := a) (f' := f') (cm := cm) (g := g) (E := E) hE (by omega) hwa
      have s2 := fun {e s by' z a f' cm g E} hE => slice_from (e := e) (s := s) (by' := by') (z := z) (a := a) (f' := f') (cm := cm) (g := g) (E := E) hE (by omega) hwb
      simp -dsimp -implicitDefEqProofs
      refine DrawR.on {} (by kernel_rfl) (by simp) ?_
      simp -dsimp -implicitDefEqProofs
      refine onCallQ_in (copied_fn hw.r) ?_
      simp -dsimp -implicitDefEqProofs
      refine onCallQ_in (c0 _) ?_
      simp -dsimp -implicitDefEqProofs [s1, hla.1, hla.2]
      refine onCallQ_in (cX _ _ _) ?_
      simp -dsimp -implicitDefEqProofs
      refine DrawR.on {} (by kernel_rfl) (by simp) ?_
      simp -dsimp -implicitDefEqProofs
      refine onCallQ_in (copied_fn hw.r) ?_
      simp -dsimp -implicitDefEqProofs
      refine onCallQ_in (c0 _) ?_
      simp -dsimp -implicitDefEqProofs [s2, hlb.1, hlb.2]
      refine onCallQ_in (cY _ _ _) ?_
      simp -dsimp -implicitDefEqProofs [x1, x2, hb1, hb2, hfl, z3]
      refine LoopCR.onZ 377 (fun m => [(1, .ro false 3 (way.map fPs)), (2, U cut), (3, .ptr 0 0), (7, .ptr 1 0), (26, .sl 2 0 way.length 3), (27, I (m : Nat))])
        (fun m => [some [f.r.reaches false, f.r.shoals, sidesAV f.sides false], some [I S.lo, I S.hi], some (rws fPs (moreL (hrs f.sides) c d way m))]) (fun m => m ≤ way.length) (fun m => way.length - m) 0 [0, 1, 46] (by simp) ?_ ?_
      · simp -dsimp -implicitDefEqProofs [moreL_zero, hprn]
      intro m j hmw
      simp -dsimp -implicitDefEqProofs
      refine ifD_in (fun hlt => ?_) (fun hge => ?_)
      · have hlt' : m < way.length := by omega
        refine Exists.elim (⟨_, List.getElem?_eq_getElem hlt'⟩ : ∃ p, way[m]? = some p) fun p hp => ?_
        refine Exists.elim (way_S (n := hrs f.sides) (c := c) (d := d) hp) fun p1 b1 => Exists.elim b1 fun L b2 => Exists.elim b2 fun L1 W => ?_
        have hpb := (vB_iff.1 (pass_at (way := way) o g.small.r.m (hwp p (List.mem_of_getElem? hp))).2)
        have wl : IntKind.i64.wrap (p.hours.lo - c) = p.hours.lo - c := wrap_in (by omega) (by omega)
        have wh : IntKind.i64.wrap (p.hours.hi + d) = p.hours.hi + d := wrap_in (by omega) (by omega)
        have wm : IntKind.i64.wrap ((m : Int) + 1) = ((m + 1 : Nat) : Int) := by rw [wrap_in (by omega) (by omega)]; omega
        have hL := W.l0.symm
        simp -dsimp -implicitDefEqProofs [indexA_sl, hlt', hL, W.f1, W.g1, convA, w0, m5, m5', wl, -storeA]
        refine on_cell (cs := rws fPs L) (by simp) rfl rfl W.g1 W.s1 ?_
        simp -dsimp -implicitDefEqProofs
        refine DrawR.on { M := [2], see := [(13, 2)], eff := [(22, [2])] } (by kernel_rfl) (by simp) ?_
        simp -dsimp -implicitDefEqProofs [indexA_sl, hlt', hx0, hh, w5, W.f2, W.g2, convA, w0, m4, m4', wh, -storeA]
        refine on_cell (cs := rws fPs L1) (by simp) rfl rfl W.g2 W.s2 ?_
        simp -dsimp -implicitDefEqProofs [wm]
        refine again_in (m + 1) [0, 1, 2] (by omega) (by omega) ?_
        simp -dsimp -implicitDefEqProofs [hprn]
      have hin : m = way.length := by omega
      have hME : moreL (hrs f.sides) c d way m = M := by rw [hin]; exact hMe
      simp -dsimp -implicitDefEqProofs [hME]
      refine exitZ_fz 2 ?_
      simp -dsimp -implicitDefEqProofs [hz]
      refine DrawR.on {} (by kernel_rfl) (by simp) ?_
      simp -dsimp -implicitDefEqProofs
      refine onCallQ_in (copied_fn hw.r) ?_
      simp -dsimp -implicitDefEqProofs
      refine onCallQ_in (c0 _) ?_
      simp -dsimp -implicitDefEqProofs
      refine onCallQ_in (cZ _ _ _) ?_
      simp -dsimp -implicitDefEqProofs [y1, y2]
      refine onCall_in (known_fn.beside rfl _) ?_
      simp -dsimp -implicitDefEqProofs
    · simp -dsimp -implicitDefEqProofs [hb1, hb2, hfl, z3]
      refine LoopCR.onZ 377 (fun m => [(1, .ro false 3 (way.map fPs)), (2, U cut), (3, .ptr 0 0), (7, .ptr 1 0), (26, .sl 2 0 way.length 3), (27, I (m : Nat))])
        (fun m => [some [f.r.reaches false, f.r.shoals, sidesAV f.sides false], some [I S.lo, I S.hi], some (rws fPs (moreL (hrs f.sides) c d way m))]) (fun m => m ≤ way.length) (fun m => way.length - m) 0 [0, 1, 2] (by simp) ?_ ?_
      · simp -dsimp -implicitDefEqProofs [moreL_zero, hprn]
      intro m j hmw
      simp -dsimp -implicitDefEqProofs
      refine ifD_in (fun hlt => ?_) (fun hge => ?_)
      · have hlt' : m < way.length := by omega
        refine Exists.elim (⟨_, List.getElem?_eq_getElem hlt'⟩ : ∃ p, way[m]? = some p) fun p hp => ?_
        refine Exists.elim (way_S (n := hrs f.sides) (c := c) (d := d) hp) fun p1 b1 => Exists.elim b1 fun L b2 => Exists.elim b2 fun L1 W => ?_
        have hpb := (vB_iff.1 (pass_at (way := way) o g.small.r.m (hwp p (List.mem_of_getElem? hp))).2)
        have wl : IntKind.i64.wrap (p.hours.lo - c) = p.hours.lo - c := wrap_in (by omega) (by omega)
        have wh : IntKind.i64.wrap (p.hours.hi + d) = p.hours.hi + d := wrap_in (by omega) (by omega)
        have wm : IntKind.i64.wrap ((m : Int) + 1) = ((m + 1 : Nat) : Int) := by rw [wrap_in (by omega) (by omega)]; omega
        have hL := W.l0.symm
        simp -dsimp -implicitDefEqProofs [indexA_sl, hlt', hL, W.f1, W.g1, convA, w0, m5, m5', wl, -storeA]
        refine on_cell (cs := rws fPs L) (by simp) rfl rfl W.g1 W.s1 ?_
        simp -dsimp -implicitDefEqProofs
        refine DrawR.on { M := [2], see := [(13, 2)], eff := [(22, [2])] } (by kernel_rfl) (by simp) ?_
        simp -dsimp -implicitDefEqProofs [indexA_sl, hlt', hx0, hh, w5, W.f2, W.g2, convA, w0, m4, m4', wh, -storeA]
        refine on_cell (cs := rws fPs L1) (by simp) rfl rfl W.g2 W.s2 ?_
        simp -dsimp -implicitDefEqProofs [wm]
        refine again_in (m + 1) [0, 1, 2] (by omega) (by omega) ?_
        simp -dsimp -implicitDefEqProofs [hprn]
      have hin : m = way.length := by omega
      have hME : moreL (hrs f.sides) c d way m = M := by rw [hin]; exact hMe
      simp -dsimp -implicitDefEqProofs [hME]
      refine exitZ_fz 2 ?_
      simp -dsimp -implicitDefEqProofs [hz]
      refine DrawR.on {} (by kernel_rfl) (by simp) ?_
      simp -dsimp -implicitDefEqProofs
      refine onCallQ_in (copied_fn hw.r) ?_
      simp -dsimp -implicitDefEqProofs
      refine onCallQ_in (c0 _) ?_
      simp -dsimp -implicitDefEqProofs
      refine onCallQ_in (cZ _ _ _) ?_
      simp -dsimp -implicitDefEqProofs [y1, y2]
      refine onCall_in (known_fn.beside rfl _) ?_
      simp -dsimp -implicitDefEqProofs
end Go.Pe
