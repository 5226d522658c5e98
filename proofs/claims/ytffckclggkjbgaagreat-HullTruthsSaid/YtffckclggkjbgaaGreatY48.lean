import Derived.Test.YtffckclggkjbgaaGreatY46
import Derived.Test.YtffckclggkjbgaaGreatY47
set_option linter.unusedVariables false
set_option linter.unusedSimpArgs false
/- The law HullTruths. -/
namespace Go.Pe
open Go Go.Proofs Go.Proofs.YtffckclggkjbgaaGreat
set_option maxRecDepth 20000
set_option maxHeartbeats 20000000
attribute [local simp] ts5 us5 ts22 us22 ts24 us24 ts25 us25 t27 u27 ts29 us29 ts34 us34 ts39 us39 ts57 us57 ts156 us156 ts53 us53 ts64 us64 ts98 us98 ts101 us101 ts102 us102
attribute [local simp] convA extA lenA indexA_lit1 ixar
attribute [local simp] pgC_eq loadAV_eq neq77 smC_eq stC_eq
theorem htruths_law {x : Sm} {y : Sr} {ps : List Int} (hx : x.Ok) (hy : y.Ok) (hps : ∀ v ∈ ps, 0 ≤ v ∧ v ≤ 255) (hpl : (ps.length : Int) ≤ 9223372036854775807) : Fn Tryz.prog 7 [.agg (smC x), .agg (stC y), .ro false 1 (ps.map fun v => [U v])] .nil (B true) .nil := by
  refine Fn.ofR0 noM (by kernel_rfl) Tryz.func7 rfl (by simp) ?_
  refine Exists.elim (show ∃ u : Hu, u = huM x 4 from ⟨_, rfl⟩) fun u hu => ?_
  refine Exists.elim (show ∃ l, l = ldM x 4 from ⟨_, rfl⟩) fun l hl => ?_
  refine Exists.elim (show ∃ b, b = dens x from ⟨_, rfl⟩) fun b hb => ?_
  refine Exists.elim (show ∃ p, p = pgOf y from ⟨_, rfl⟩) fun p hpd => ?_
  have cU : ∀ h, Fn Tryz.prog 44 [.agg (smC x), I (4 : Nat)] h (.agg [I u.a, .ro false 5 (u.ss.map fSec)]) h := fun h => by rw [hu]; exact small_hull hx (by omega) (by omega)
  have cP : ∀ h, Fn Tryz.prog 45 [.agg (stC y)] h (.agg (pgC p true false false)) h := fun h => by rw [hpd]; exact passage_small hy
  have cL : ∀ h, Fn Tryz.prog 46 [.agg (smC x), .agg [I u.a, .ro false 5 (u.ss.map fSec)]] h (loadAV false l) h := fun h => by rw [hu, hl]; exact load_small hx (by omega) (by omega)
  have cD : ∀ h, Fn Tryz.prog 47 [.agg (smC x)] h (.agg [I b.lo, I b.hi]) h := fun h => by rw [hb]; exact density_small hx
  have hsu : SmallU u := by rw [hu]; exact huM_small (by omega) (by omega)
  have hw : WOk p := by rw [hpd]; exact pgOf_wok
  have hp : pgE p = 0 := by rw [hpd]; exact pgE_of hy
  have hll : l.length ≤ 4 := by rw [hl, ldM_len]; exact (rowsM_len (by omega)).2
  have hfl : fltE u l b = 0 ∨ fltE u l b = 8 := by rw [hu, hl, hb]; exact flt_small hx (by omega) (by omega)
  have op := okP_of hp
  refine Exists.elim (show ∃ s : Ld, s = ⟨u, l, b⟩ from ⟨_, rfl⟩) fun s hs => ?_
  have su : s.u = u := by rw [hs]
  have sl : s.l = l := by rw [hs]
  have sb : s.b = b := by rw [hs]
  have cO : ∀ h, Fn Tryz.prog 17 [.agg [I u.a, .ro false 5 (u.ss.map fSec)]] h (.agg [I u.a, .ro (isz u.ss.length) 5 (u.ss.map fSec)]) h := fun h => own_is hsu
  have cN : ∀ h, Fn Tryz.prog 18 [loadAV false l] h (loadAV false l) h := fun h => numbers_fn (by omega)
  have cY : ∀ h, Fn Tryz.prog 30 [.agg (pgC p true false false)] h (.agg (pgC p (isz p.f.r.rs.length) (isz p.f.sides.length) false)) h := fun h => way_fn hw
  refine Exists.elim (show ∃ va vb vc vd ve, va = (decide (safE s p = 0) && sure s p) ∧ vb = (decide (safE s p = 0) && poss s p) ∧ vc = (if safE s p = 0 then (lsD p).pass else 0) ∧ vd = (if safE s p = 0 then (lsD p).hour else 0) ∧ ve = safE s p from ⟨_, _, _, _, _, rfl, rfl, rfl, rfl, rfl⟩) fun va h => Exists.elim h fun vb h => Exists.elim h fun vc h => Exists.elim h fun vd h => Exists.elim h fun ve h => ?_
  have e1 := h.1
  have e2 := h.2.1
  have e3 := h.2.2.1
  have e4 := h.2.2.2.1
  have e5 := h.2.2.2.2
  clear h
  refine Exists.elim (show ∃ xx : AV, xx = .tup [B va, B vb, I vc, I vd, I ve] from ⟨_, rfl⟩) fun xx hxx => ?_
  have cS : ∀ g1 f1 f2 h, Fn Tryz.prog 31 [.agg [I u.a, .ro g1 5 (u.ss.map fSec)], loadAV false l, .agg [I b.lo, I b.hi], .agg (pgC p f1 f2 false)] h xx h := fun g1 f1 f2 h => by
    have := Safe_fn (x := s) (p := p) (g1 := g1) (g2 := false) (f1 := f1) (f2 := f2) (fw := false) (h := h) (by rw [su]; exact hsu) (by rw [sl]; omega) hw.small (by rw [hpd]; show 2 ≤ 1000; omega)
    rw [su, sl, sb] at this
    rw [hxx, e1, e2, e3, e4, e5]
    exact this
  refine Exists.elim (show ∃ fa, fa = floatR u l b from ⟨_, rfl⟩) fun fa hfa => ?_
  refine Exists.elim (show ∃ fe, fe = fltE u l b from ⟨_, rfl⟩) fun fe hfe => ?_
  have cF : ∀ g1 h, Fn Tryz.prog 21 [.agg [I u.a, .ro g1 5 (u.ss.map fSec)], loadAV false l, .agg [I b.lo, I b.hi]] h (.tup [.agg fa, I fe]) h := fun g1 h => by
    rw [hfa, hfe]; exact Float_fn hsu (by omega)
  have hfs : fltE s.u s.l s.b = 0 ∨ fltE s.u s.l s.b = 8 := by rw [su, sl, sb]; exact hfl
  simp only [pgC_eq, loadAV_eq, smC_eq, stC_eq] at cU cP cL cD cY cN cS cF
  simp -dsimp -implicitDefEqProofs
  refine DrawR.on {} (by kernel_rfl) (by simp) ?_
  simp -dsimp -implicitDefEqProofs
  refine onCallQ_all cU ?_
  simp -dsimp -implicitDefEqProofs
  refine onCallQ_all cP ?_
  simp -dsimp -implicitDefEqProofs
  refine DrawR.on {} (by kernel_rfl) (by simp) ?_
  simp -dsimp -implicitDefEqProofs
  refine onCallQ_all cL ?_
  simp -dsimp -implicitDefEqProofs
  refine onCallQ_all cD ?_
  simp -dsimp -implicitDefEqProofs
  refine DrawR.on {} (by kernel_rfl) (by simp) ?_
  simp -dsimp -implicitDefEqProofs
  refine onCallQ_all cO ?_
  simp -dsimp -implicitDefEqProofs
  refine onCallQ_all cN ?_
  simp -dsimp -implicitDefEqProofs
  refine onCallQ_all cY ?_
  simp -dsimp -implicitDefEqProofs
  refine onCallQ_all (cS _ _ _) ?_
  refine hfs.elim (fun hF => ?_) (fun hF => ?_)
  rotate_left
  · have hsE : safE s p = 8 := by unfold safE; rw [if_pos (by omega)]; exact hF
    have q1 : va = false := by rw [e1, hsE]; rfl
    have q2 : vb = false := by rw [e2, hsE]; rfl
    have q3 : ve = 8 := by rw [e5]; exact hsE
    have q4 : fe = 8 := by rw [hfe, ← su, ← sl, ← sb]; exact hF
    have q5 : fa = [I 0, I 0, I 0, I 0, I 0] := by
      rw [hfa]; unfold floatR
      rw [if_neg (by rw [← hfe]; omega)]
    simp -dsimp -implicitDefEqProofs [hxx, q1, q2, q3]
    refine DrawR.on {} (by kernel_rfl) (by simp) ?_
    simp -dsimp -implicitDefEqProofs
    refine onCallQ_all cO ?_
    simp -dsimp -implicitDefEqProofs
    refine onCallQ_all cN ?_
    simp -dsimp -implicitDefEqProofs
    refine onCallQ_all (cF _) ?_
    simp -dsimp -implicitDefEqProofs [q4, q5]
    refine onCall_in (known_fn.beside rfl _) ?_
    simp -dsimp -implicitDefEqProofs
    done
  have hsE : safE s p = 0 := by unfold safE; rw [if_neg (by omega)]; exact hp
  have q3 : ve = 0 := by rw [e5]; exact hsE
  have q4 : fe = 0 := by rw [hfe, ← su, ← sl, ← sb]; exact hF
  refine Exists.elim (show ∃ a1 a2 a3 a4 a5 : Int, a1 = mZ u l b.hi ∧ a2 = mZ u l b.lo ∧ a3 = dLo s ∧ a4 = dHi s ∧ a5 = sgn (mom u l) from ⟨_, _, _, _, _, rfl, rfl, rfl, rfl, rfl⟩) fun a1 h => Exists.elim h fun a2 h => Exists.elim h fun a3 h => Exists.elim h fun a4 h => Exists.elim h fun a5 h => ?_
  have d1 := h.1
  have d2 := h.2.1
  have d3 := h.2.2.1
  have d4 := h.2.2.2.1
  have d5 := h.2.2.2.2
  clear h
  have q5 : fa = [I a1, I a2, I a3, I a4, I a5] := by
    rw [hfa, d1, d2, d3, d4, d5, ← su, ← sl, ← sb, floatR_ok hF]
  refine Exists.elim (least_hit hw.small hp) fun i h => Exists.elim h fun t h => Exists.elim h fun q h => ?_
  have w1 := h.1
  have w2 := h.2.1
  have w3 := h.2.2.1
  have w4 := h.2.2.2.1
  have w5 := h.2.2.2.2
  clear h
  have q6 : vc = (i : Int) := by rw [e3, if_pos hsE, w2]
  have q7 : vd = (t : Int) := by rw [e4, if_pos hsE, w3]
  have hi2 : i < 2 := by have := (List.getElem?_eq_some_iff.1 w1).1; rw [hpd] at this; exact this
  have c1 : decide ((i : Int) < 0) = false := decide_eq_false (by omega)
  have c2 : decide (1 < (i : Int)) = false := decide_eq_false (by omega)
  have c2' : decide (1 < i) = false := decide_eq_false (by omega)
  have c3 : decide ((t : Int) < q.hours.lo) = false := decide_eq_false (by omega)
  have c4 : decide (q.hours.hi < (t : Int)) = false := decide_eq_false (by omega)
  have hva : va = sure s p := by rw [e1, hsE]; rfl
  have hvb : vb = poss s p := by rw [e2, hsE]; rfl
  have hbv := vB_iff.1 (flt_ok hF).2.2.1
  rw [sb] at hbv
  have hbb : 0 ≤ b.lo + 500 ∧ b.lo ≤ b.hi ∧ b.hi ≤ 100000 := by omega
  refine Exists.elim (show ∃ T1, T1 = pkT ps (0 + 1) b from ⟨_, rfl⟩) fun T1 hT1 => ?_
  have bT1 : b.lo ≤ T1 ∧ T1 ≤ b.hi := by rw [hT1]; exact pkT_in hbb.2.1
  have hF0 : fltE u l b = 0 := by rw [← hfe]; exact q4
  have ft := flt_truth hF0 bT1.1 bT1.2
  refine Exists.elim (show ∃ m1 m2 : Int, m1 = mZ u l T1 ∧ m2 = mZ u l T1 + trm u l from ⟨_, _, rfl, rfl⟩) fun m1 h => Exists.elim h fun m2 h => ?_
  have f1 := h.1
  have f2 := h.2
  clear h
  have cT : ∀ g1 h, Fn Tryz.prog 21 [.agg [I u.a, .ro g1 5 (u.ss.map fSec)], .ro false 1 (l.map fun n => [I n]), .agg [I T1, I T1]] h (.tup [.agg [I m1, I m1, I m2, I m2, I a5], I 0]) h := fun g1 h => by
    have := Float_fn (u := u) (l := l) (b := ⟨T1, T1⟩) (f1 := g1) (f3 := false) (h := h) hsu (by omega)
    rw [ft.1, show floatR u l ⟨T1, T1⟩ = [I m1, I m1, I m2, I m2, I a5] by unfold floatR; rw [if_pos ft.1, floatC_eq, f1, f2, d5]] at this
    exact this
  have ja : a3 = mZ u l b.hi + trm u l := by rw [d3]; unfold dLo; rw [su, sl, sb]
  have jb : a4 = mZ u l b.lo + trm u l := by rw [d4]; unfold dHi; rw [su, sl, sb]
  have j1 : decide (m2 < a3) = false := decide_eq_false (by omega)
  have j2 : decide (a4 < m2) = false := decide_eq_false (by omega)
  have j3 : (m2 != m2) = false := by simp
  have j4 : (a5 != a5) = false := by simp
  refine Exists.elim (show ∃ (A0 D0 D1 Z0 : Bd) (R0 R1 : Rc) (S0 : Sh), A0 = span y.base.a y.base.b ∧ D0 = span y.bot.a y.bot.b ∧ D1 = span y.bot.c y.bot.d ∧ Z0 = span y.sh.a y.sh.b ∧ p.f.r.rs[0]? = some R0 ∧ p.f.r.rs[1]? = some R1 ∧ p.f.r.ss[0]? = some S0 ∧ R0.base = A0 ∧ R0.bot = D0 ∧ R1.bot = D1 ∧ S0.bed = Z0 ∧ S0.grow.lo.tdiv 24 = y.sh.c % 3 - 1 ∧ S0.grow.hi.tdiv 24 = y.sh.c % 3 - 1 + y.sh.d % 2 from ⟨_, _, _, _, _, _, _, rfl, rfl, rfl, rfl, by rw [hpd]; rfl, by rw [hpd]; rfl, by rw [hpd]; rfl, rfl, rfl, rfl, rfl, by simp, by simp⟩) fun A0 h => Exists.elim h fun D0 h => Exists.elim h fun D1 h => Exists.elim h fun Z0 h => Exists.elim h fun R0 h => Exists.elim h fun R1 h => Exists.elim h fun S0 h => ?_
  have v1 := h.1
  have v2 := h.2.1
  have v3 := h.2.2.1
  have v4 := h.2.2.2.1
  have v5 := h.2.2.2.2.1
  have v6 := h.2.2.2.2.2.1
  have v7 := h.2.2.2.2.2.2.1
  have v8 := h.2.2.2.2.2.2.2.1
  have v9 := h.2.2.2.2.2.2.2.2.1
  have v10 := h.2.2.2.2.2.2.2.2.2.1
  have v11 := h.2.2.2.2.2.2.2.2.2.2.1
  have v12 := h.2.2.2.2.2.2.2.2.2.2.2.1
  have v13 := h.2.2.2.2.2.2.2.2.2.2.2.2
  clear h
  have iA := span_in hy.base.1 hy.base.2.1
  have iD := span_in hy.bot.1 hy.bot.2.1
  have iE := span_in hy.bot.2.2.1 hy.bot.2.2.2
  have iZ := span_in hy.sh.1 hy.sh.2.1
  rw [← v1] at iA
  rw [← v2] at iD
  rw [← v3] at iE
  rw [← v4] at iZ
  refine Exists.elim (show ∃ H1 H2 : Int, H1 = y.sh.c % 3 - 1 ∧ H2 = y.sh.c % 3 - 1 + y.sh.d % 2 from ⟨_, _, rfl, rfl⟩) fun H1 h => Exists.elim h fun H2 h => ?_
  have v14 := h.1
  have v15 := h.2
  clear h
  rw [← v14] at v12
  rw [← v15] at v13
  have iH : -1 ≤ H1 ∧ H1 ≤ H2 ∧ H2 ≤ 2 := by omega
  refine Exists.elim (show ∃ T2 T3 T4 T5 T6 : Int, T2 = pkT ps (1 + 1) A0 ∧ T3 = pkT ps (2 + 1) D0 ∧ T4 = pkT ps (3 + 1) D1 ∧ T5 = pkT ps (4 + 1) Z0 ∧ T6 = pkT ps (5 + 1) ⟨H1, H2⟩ from ⟨_, _, _, _, _, rfl, rfl, rfl, rfl, rfl⟩) fun T2 h => Exists.elim h fun T3 h => Exists.elim h fun T4 h => Exists.elim h fun T5 h => Exists.elim h fun T6 h => ?_
  have y2 := h.1
  have y3 := h.2.1
  have y4 := h.2.2.1
  have y5 := h.2.2.2.1
  have y6 := h.2.2.2.2
  clear h
  have b2 : A0.lo ≤ T2 ∧ T2 ≤ A0.hi := by rw [y2]; exact pkT_in iA.2.1
  have b3 : D0.lo ≤ T3 ∧ T3 ≤ D0.hi := by rw [y3]; exact pkT_in iD.2.1
  have b4 : D1.lo ≤ T4 ∧ T4 ≤ D1.hi := by rw [y4]; exact pkT_in iE.2.1
  have b5 : Z0.lo ≤ T5 ∧ T5 ≤ Z0.hi := by rw [y5]; exact pkT_in iZ.2.1
  have b6 : H1 ≤ T6 ∧ T6 ≤ H2 := by rw [y6]; exact pkT_in (b := ⟨H1, H2⟩) iH.2.1
  have x1 : IntKind.i64.wrap H1 = H1 := wrap_in (by omega) (by omega)
  have x2 : IntKind.i64.wrap H2 = H2 := wrap_in (by omega) (by omega)
  refine Exists.elim (show ∃ (s0 s1 : List Bd) (q0 q1 : Ps), s0 = side0S y ∧ s1 = side1S y ∧ p.f.sides[0]? = some s0 ∧ p.f.sides[1]? = some s1 ∧ p.way[0]? = some q0 ∧ p.way[1]? = some q1 ∧ q0.place = 5 ∧ q1.place = 12 ∧ s0.length = (rowsS y).length ∧ s1.length = (rowsS y).length from ⟨_, _, _, _, rfl, rfl, by rw [hpd]; rfl, by rw [hpd]; rfl, by rw [hpd]; rfl, by rw [hpd]; rfl, rfl, rfl, by simp [side0S], by simp [side1S]⟩) fun s0 h => Exists.elim h fun s1 h => Exists.elim h fun q0 h => Exists.elim h fun q1 h => ?_
  have s0d := h.1
  have s1d := h.2.1
  have o0 := h.2.2.1
  have o1 := h.2.2.2.1
  have o2 := h.2.2.2.2.1
  have o3 := h.2.2.2.2.2.1
  have o4 := h.2.2.2.2.2.2.1
  have o5 := h.2.2.2.2.2.2.2.1
  have o6 := h.2.2.2.2.2.2.2.2.1
  have o7 := h.2.2.2.2.2.2.2.2.2
  clear h
  have n12 := rowsS_len (x := y)
  have sp0 : ∀ (i : Nat) (c : Bd), s0[i]? = some c → 0 ≤ c.lo ∧ c.lo ≤ c.hi ∧ c.hi ≤ 295 := fun i c hc => by
    rw [s0d] at hc
    obtain ⟨q, hq, rfl⟩ := List.mem_map.1 (List.mem_of_getElem? hc)
    have hr := rowsS_ok hy q hq
    exact span_in hr.1 hr.2.1
  have sp1 : ∀ (i : Nat) (c : Bd), s1[i]? = some c → 0 ≤ c.lo ∧ c.lo ≤ c.hi ∧ c.hi ≤ 295 := fun i c hc => by
    rw [s1d] at hc
    obtain ⟨q, hq, rfl⟩ := List.mem_map.1 (List.mem_of_getElem? hc)
    have hr := rowsS_ok hy q hq
    exact span_in hr.2.2.1 hr.2.2.2
  have hab0 : ∀ i, i ≤ s0.length → (rf p.f.r p.f.sides 0 ((i : Int) - 1)).lo ≤ abT ps A0 s0 i ∧ abT ps A0 s0 i ≤ 295 ∧ 0 ≤ abT ps A0 s0 i := fun i hi => by
    have h1 := abT_in (ps := ps) hy (i := i) (by omega)
    have h2 := rf0_in hy (i := i) (by omega)
    rw [hpd, v1, s0d]
    omega
  have bk := keel_of hp
  have bd := d_in hF
  have bm : 0 ≤ m2 ∧ m2 ≤ a4 := by
    have ok := flt_ok hF
    have e1 := (mZ_in (l := s.l) (d := T1) ok.1).1
    have e2 := (trm_in ok.1 ok.2.1).1
    rw [su, sl] at e1 e2
    omega
  have dp0 : ∀ (i : Nat) (c : Bd) (F : Int), s0[i]? = some c → c.lo ≤ F → q0.hours.lo ≤ (i : Int) → (i : Int) ≤ q0.hours.hi → (lsD p).lo ≤ max 0 (F - T3) := fun i c F hc h1 h2 h3 => by
    have h4 := least_le hw.small hp (List.mem_of_getElem? o2) h2 h3
    rw [o4] at h4
    rw [s0d] at hc
    have hin : i < (rowsS y).length := by rw [← o6, s0d]; exact (List.getElem?_eq_some_iff.1 hc).1
    have hq := List.getElem?_eq_getElem hin
    have e : (side0S y)[i]? = some (span (rowsS y)[i].a (rowsS y)[i].b) := by simp [side0S, hq]
    rw [e] at hc; cases hc
    have h5 := dep0_S hy (T := F) (B := T3) hq h1 (by rw [← v2]; exact b3.2)
    rw [hpd] at h4 ⊢
    omega
  have dp1 : ∀ (i : Nat) (c : Bd) (S A : Int), s1[i]? = some c → c.lo ≤ S → (rf p.f.r p.f.sides 0 ((i : Int) - 1)).lo ≤ A → q1.hours.lo ≤ (i : Int) → (i : Int) ≤ q1.hours.hi → (lsD p).lo ≤ max 0 (S + A - max T4 (T5 + T6 * (i : Int))) := fun i c S A hc h1 hA h2 h3 => by
    have h4 := least_le hw.small hp (List.mem_of_getElem? o3) h2 h3
    rw [o5] at h4
    rw [s1d] at hc
    have hin : i < (rowsS y).length := by rw [← o7, s1d]; exact (List.getElem?_eq_some_iff.1 hc).1
    have hq := List.getElem?_eq_getElem hin
    have e : (side1S y)[i]? = some (span (rowsS y)[i].c (rowsS y)[i].d) := by simp [side1S, hq]
    rw [e] at hc; cases hc
    rw [hpd] at hA
    have h5 := dep1_S hy (S := S) (A := A) (B := T4) (Z := T5) (G := T6) hq h1 hA (by rw [← v3]; exact b4.2) (by rw [← v4]; exact b5.2) (by rw [← v15]; exact b6.2)
    rw [hpd] at h4 ⊢
    omega
  refine (Bool.eq_false_or_eq_true va).elim (fun g0 => ?_) (fun g0 => ?_)
  · have hsr : a4 + p.keel ≤ (lsD p).lo := by rw [hva] at g0; rw [d4]; exact of_decide_eq_true g0
    have g1 : vb = true := by
      have h1 : dHi s + p.keel ≤ (lsD p).lo := by rw [hva] at g0; exact of_decide_eq_true g0
      have h2 : (lsD p).lo ≤ (lsD p).hi := by rw [hpd]; exact lsD_le hy
      have h3 : dLo s ≤ dHi s := by
        have ok := flt_ok hF
        have := mZ_anti ok.1 ok.2.1 (d := s.b.lo) (d' := s.b.hi) (by have := vB_iff.1 ok.2.2.1; omega) (vB_iff.1 ok.2.2.1).1
        unfold dLo dHi; omega
      rw [hvb]; exact decide_eq_true (by omega)
    simp -dsimp -implicitDefEqProofs [hxx, q3]
    refine DrawR.on {} (by kernel_rfl) (by simp) ?_
    simp -dsimp -implicitDefEqProofs
    refine onCallQ_all cO ?_
    simp -dsimp -implicitDefEqProofs
    refine onCallQ_all cN ?_
    simp -dsimp -implicitDefEqProofs
    refine onCallQ_all (cF _) ?_
    simp -dsimp -implicitDefEqProofs [q4, q5, g0, g1, q6, q7, c1, c2, c2', c3, c4, w1]
    refine onCall_in (pickH_fn (n := 0) (m := 0) (m' := 1) rfl rfl (by omega) hps hpl hbb (by omega) (by simp -dsimp -implicitDefEqProofs) (by simp -dsimp -implicitDefEqProofs)) ?_
    rw [← hT1]
    simp -dsimp -implicitDefEqProofs
    refine onCall_in (cO _) ?_
    simp -dsimp -implicitDefEqProofs
    refine onCall_in (cN _) ?_
    simp -dsimp -implicitDefEqProofs
    refine onCall_in (cT _ _) ?_
    simp -dsimp -implicitDefEqProofs [j1, j2, j3, j4]
    refine DrawR.gen 52 (fun G => G 2 = some [.ro false 1 (ps.map fun v => [U v])] ∧ G 8 = some (pgC p true false false) ∧ G 47 = some [I a1, I a2, I a3, I a4, I a5] ∧ G 50 = some [I 1] ∧ G 51 = some [I m1, I m1, I m2, I m2, I a5]) (by simp -dsimp -implicitDefEqProofs) (by rfl) (by simp -dsimp -implicitDefEqProofs) fun G hG => ?_
    have G1 := hG.1
    have G2 := hG.2.1
    have G3 := hG.2.2.1
    have G4 := hG.2.2.2.1
    have G5 := hG.2.2.2.2
    clear hG
    simp only [pgC_eq] at G2
    refine DrawR.on { M := [50, 2], eff := [(7, [50, 2]), (15, [50, 2]), (23, [50, 2]), (32, [50, 2]), (51, [50, 2])] } (by kernel_rfl) (by simp) ?_
    simp -dsimp -implicitDefEqProofs [G1, G2, G3, G4, G5, v5, v8]
    refine pickE_in (b := A0) 1 2 hps hpl (by omega) rfl rfl (by omega) (by omega) (by simp -dsimp -implicitDefEqProofs [G4]) (by simp -dsimp -implicitDefEqProofs [G1]) (fun _ => rfl) ?_
    rw [← y2]
    simp -dsimp -implicitDefEqProofs [G1, G2, G3, G4, G5, v5, v9]
    refine pickE_in (b := D0) 2 3 hps hpl (by omega) rfl rfl (by omega) (by omega) (by simp -dsimp -implicitDefEqProofs [G4]) (by simp -dsimp -implicitDefEqProofs [G1]) (fun _ => rfl) ?_
    rw [← y3]
    simp -dsimp -implicitDefEqProofs [G1, G2, G3, G4, G5, v6, v10]
    refine pickE_in (b := D1) 3 4 hps hpl (by omega) rfl rfl (by omega) (by omega) (by simp -dsimp -implicitDefEqProofs [G4]) (by simp -dsimp -implicitDefEqProofs [G1]) (fun _ => rfl) ?_
    rw [← y4]
    simp -dsimp -implicitDefEqProofs [G1, G2, G3, G4, G5, v7, v11]
    refine pickE_in (b := Z0) 4 5 hps hpl (by omega) rfl rfl (by omega) (by omega) (by simp -dsimp -implicitDefEqProofs [G4]) (by simp -dsimp -implicitDefEqProofs [G1]) (fun _ => rfl) ?_
    rw [← y5]
    simp -dsimp -implicitDefEqProofs [G1, G2, G3, G4, G5, v7, v12, v13, x1, x2]
    refine pickE_in (b := ⟨H1, H2⟩) 5 6 hps hpl (by simp only; omega) rfl rfl (by omega) (by omega) (by simp -dsimp -implicitDefEqProofs [G4]) (by simp -dsimp -implicitDefEqProofs [G1]) (fun _ => rfl) ?_
    rw [← y6]
    simp -dsimp -implicitDefEqProofs
    refine LoopCR.gen 109 (fun G => G 8 = some (pgC p true false false) ∧ G 47 = some [I a1, I a2, I a3, I a4, I a5] ∧ G 51 = some [I m1, I m1, I m2, I m2, I a5] ∧ G 104 = some [I T3, I T4] ∧ G 50 = some [I 6] ∧ G 2 = some [.ro false 1 (ps.map fun v => [U v])]) (by simp -dsimp -implicitDefEqProofs) (by rfl) (by simp -dsimp -implicitDefEqProofs [G1, G2, G3, G4, G5]) fun L hL => ?_
    have L1 := hL.1
    have L2 := hL.2.1
    have L3 := hL.2.2.1
    have L4 := hL.2.2.2.1
    have L5 := hL.2.2.2.2.1
    have L6 := hL.2.2.2.2.2
    clear hL
    simp only [pgC_eq] at L1
    refine LoopCR.on 337 (fun i => [(8, .ptr 0 0), (11, B va), (16, .ptr 1 0), (21, .clo 49 [.ptr 4 0, .ptr 5 0]), (23, .ptr 2 0), (24, I (abT ps A0 s0 i)), (25, .ptr 3 0), (26, I T5), (27, I T6), (28, I (i : Nat))]) (fun i => [some (pgC p true false false), some [I a1, I a2, I a3, I a4, I a5], some [I m1, I m1, I m2, I m2, I a5], some [I T3, I T4], some [I ((6 + 2 * i : Nat) : Int)], some [.ro false 1 (ps.map fun v => [U v])]]) (fun i => i ≤ s0.length) (fun i => s0.length - i) 0 [8, 47, 51, 104, 50, 2] (by simp) ?_ ?_
    · simp -dsimp -implicitDefEqProofs [L1, L2, L3, L4, L5, L6, g0, abT, y2]
      done
    intro i j hi
    simp -dsimp -implicitDefEqProofs [o0]
    refine ifD_in (fun hlt => ?_) (fun hge => ?_)
    rotate_left
    · simp -dsimp -implicitDefEqProofs
      refine onCall_in (known_fn.beside rfl _) ?_
      simp -dsimp -implicitDefEqProofs
      done
    have hlt1 : i < s1.length := by omega
    refine Exists.elim (show ∃ c0 c1 : Bd, s0[i]? = some c0 ∧ s1[i]? = some c1 from ⟨_, _, List.getElem?_eq_getElem hlt, List.getElem?_eq_getElem hlt1⟩) fun c0 h => Exists.elim h fun c1 h => ?_
    have r0 := h.1
    have r1 := h.2
    clear h
    have k0 := sp0 i c0 r0
    have k1 := sp1 i c1 r1
    refine Exists.elim (show ∃ F0 F1 : Int, F0 = pkT ps (6 + 2 * i + 1) c0 ∧ F1 = pkT ps (7 + 2 * i + 1) c1 from ⟨_, _, rfl, rfl⟩) fun F0 h => Exists.elim h fun F1 h => ?_
    have z0 := h.1
    have z1 := h.2
    clear h
    have bF0 : c0.lo ≤ F0 ∧ F0 ≤ c0.hi := by rw [z0]; exact pkT_in k0.2.1
    have bF1 : c1.lo ≤ F1 ∧ F1 ≤ c1.hi := by rw [z1]; exact pkT_in k1.2.1
    have hab := hab0 i (by omega)
    refine Exists.elim (show ∃ B0, B0 = abT ps A0 s0 i from ⟨_, rfl⟩) fun B0 hB0 => ?_
    rw [← hB0] at hab
    have x3 : IntKind.i64.wrap (F1 + B0) = F1 + B0 := wrap_in (by omega) (by omega)
    have wk0 : IntKind.i64.wrap 0 = 0 := rfl
    have wk1 : IntKind.i64.wrap 1 = 1 := rfl
    have wk2 : IntKind.i64.wrap 2 = 2 := rfl
    have wi : IntKind.i64.wrap ((i : Int) + 1) = (i : Int) + 1 := wrap_in (by omega) (by omega)
    have x4 : IntKind.i64.wrap (m2 + p.keel) = m2 + p.keel := wrap_in (by omega) (by omega)
    have x5 : IntKind.i64.wrap (F0 - T3) = F0 - T3 := wrap_in (by omega) (by omega)
    have p6a : -1 * (i : Int) ≤ T6 * (i : Int) := Int.mul_le_mul_of_nonneg_right (by omega) (by omega)
    have p6b : T6 * (i : Int) ≤ 2 * (i : Int) := Int.mul_le_mul_of_nonneg_right (by omega) (by omega)
    have x6 : IntKind.i64.wrap (T6 * (i : Int)) = T6 * (i : Int) := wrap_in (by omega) (by omega)
    have x7 : IntKind.i64.wrap (T5 + T6 * (i : Int)) = T5 + T6 * (i : Int) := wrap_in (by omega) (by omega)
    have x8 : IntKind.i64.wrap (F1 + B0 - max T4 (T5 + T6 * (i : Int))) = F1 + B0 - max T4 (T5 + T6 * (i : Int)) := wrap_in (by omega) (by omega)
    have habn : abT ps A0 s0 (i + 1) = F0 := by
      show pkT ps (6 + 2 * i + 1) (s0.getD i ⟨0, 0⟩) = F0
      rw [z0, List.getD_eq_getElem?_getD, r0]; rfl
    simp -dsimp -implicitDefEqProofs
    refine DrawR.on { M := [4, 5], eff := [(8, [4, 5]), (17, [4, 5])] } (by kernel_rfl) (by simp) ?_
    simp -dsimp -implicitDefEqProofs [o0, o1, r0, r1, ← hB0]
    refine pickE_in (b := c0) (m := 6 + 2 * (i : Int)) (6 + 2 * i) (7 + 2 * (i : Int)) hps hpl (by omega) (by omega) (by omega) (by omega) (by omega) (by simp -dsimp -implicitDefEqProofs) (by simp -dsimp -implicitDefEqProofs) (fun _ => rfl) ?_
    rw [← z0]
    simp -dsimp -implicitDefEqProofs [o0, o1, r0, r1]
    refine pickE_in (b := c1) (m := 7 + 2 * (i : Int)) (7 + 2 * i) (8 + 2 * (i : Int)) hps hpl (by omega) (by omega) (by omega) (by omega) (by omega) (by simp -dsimp -implicitDefEqProofs) (by simp -dsimp -implicitDefEqProofs) (fun _ => rfl) ?_
    rw [← z1]
    simp -dsimp -implicitDefEqProofs [x3]
    refine LoopCR.on 337 (fun k => [(8, .ptr 0 0), (11, B va), (16, .ptr 1 0), (21, .clo 49 [.ptr 4 0, .ptr 5 0]), (23, .ptr 2 0), (24, I F0), (25, .ptr 3 0), (26, I T5), (27, I T6), (28, I (i : Nat)), (29, .ptr 6 0), (30, I (k : Nat))]) (fun _ => [some (pgC p true false false), some [I a1, I a2, I a3, I a4, I a5], some [I m1, I m1, I m2, I m2, I a5], some [I T3, I T4], some [I (8 + 2 * (i : Int))], some [.ro false 1 (ps.map fun v => [U v])], some [I F0, I (F1 + B0)]]) (fun k => k ≤ 2) (fun k => 2 - k) 0 [0, 1, 2, 3, 4, 5, 27] (by simp) ?_ ?_
    · simp -dsimp -implicitDefEqProofs
      done
    intro k j2 hk
    simp -dsimp -implicitDefEqProofs
    refine ifD_in (fun hk2 => ?_) (fun hk2 => ?_)
    rotate_left
    · simp -dsimp -implicitDefEqProofs [wi]
      refine again_in (i + 1) [0, 1, 2, 3, 4, 5] (by omega) (by omega) ?_
      simp -dsimp -implicitDefEqProofs [habn]
      omega
    refine (show k = 0 ∨ k = 1 by omega).elim (fun hk0 => ?_) (fun hk0 => ?_)
    · refine (Classical.em (q0.hours.lo ≤ (i : Int) ∧ (i : Int) ≤ q0.hours.hi)).elim (fun hwin => ?_) (fun hwin => ?_)
      · have n1 : decide ((i : Int) < q0.hours.lo) = false := decide_eq_false (by omega)
        have n2 : decide (q0.hours.hi < (i : Int)) = false := decide_eq_false (by omega)
        have n3 := dp0 i c0 F0 r0 bF0.1 hwin.1 hwin.2
        have n4 : decide (max 0 (F0 - T3) < m2 + p.keel) = false := decide_eq_false (by omega)
        simp -dsimp -implicitDefEqProofs [hk0, o2, n1, n2, wk0, wk1, g0, n4, x4, x5]
        refine again_in 1 [0, 1, 2, 3, 4, 5, 6] (by omega) (by omega) ?_
        simp -dsimp -implicitDefEqProofs [hk0, g0]
        done
      · refine (Classical.em ((i : Int) < q0.hours.lo)).elim (fun hw1 => ?_) (fun hw1 => ?_)
        · have n1 : decide ((i : Int) < q0.hours.lo) = true := decide_eq_true hw1
          simp -dsimp -implicitDefEqProofs [hk0, o2, n1, wk0, wk1]
          refine again_in 1 [0, 1, 2, 3, 4, 5, 6] (by omega) (by omega) ?_
          simp -dsimp -implicitDefEqProofs [hk0, g0]
          done
        · have n1 : decide ((i : Int) < q0.hours.lo) = false := decide_eq_false hw1
          have n2 : decide (q0.hours.hi < (i : Int)) = true := decide_eq_true (by omega)
          simp -dsimp -implicitDefEqProofs [hk0, o2, n1, n2, wk0, wk1]
          refine again_in 1 [0, 1, 2, 3, 4, 5, 6] (by omega) (by omega) ?_
          simp -dsimp -implicitDefEqProofs [hk0, g0]
          done
    · refine (Classical.em (q1.hours.lo ≤ (i : Int) ∧ (i : Int) ≤ q1.hours.hi)).elim (fun hwin => ?_) (fun hwin => ?_)
      · have n1 : decide ((i : Int) < q1.hours.lo) = false := decide_eq_false (by omega)
        have n2 : decide (q1.hours.hi < (i : Int)) = false := decide_eq_false (by omega)
        have n3 := dp1 i c1 F1 B0 r1 bF1.1 hab.1 hwin.1 hwin.2
        have n4 : decide (max 0 (F1 + B0 - max T4 (T5 + T6 * (i : Int))) < m2 + p.keel) = false := decide_eq_false (by omega)
        simp -dsimp -implicitDefEqProofs [hk0, o3, n1, n2, wk0, wk1, wk2, g0, n4, x4, x6, x7, x8]
        refine again_in 2 [0, 1, 2, 3, 4, 5, 6] (by omega) (by omega) ?_
        simp -dsimp -implicitDefEqProofs [hk0, g0]
        done
      · refine (Classical.em ((i : Int) < q1.hours.lo)).elim (fun hw1 => ?_) (fun hw1 => ?_)
        · have n1 : decide ((i : Int) < q1.hours.lo) = true := decide_eq_true hw1
          simp -dsimp -implicitDefEqProofs [hk0, o3, n1, wk0, wk1, wk2]
          refine again_in 2 [0, 1, 2, 3, 4, 5, 6] (by omega) (by omega) ?_
          simp -dsimp -implicitDefEqProofs [hk0, g0]
          done
        · have n1 : decide ((i : Int) < q1.hours.lo) = false := decide_eq_false hw1
          have n2 : decide (q1.hours.hi < (i : Int)) = true := decide_eq_true (by omega)
          simp -dsimp -implicitDefEqProofs [hk0, o3, n1, n2, wk0, wk1, wk2]
          refine again_in 2 [0, 1, 2, 3, 4, 5, 6] (by omega) (by omega) ?_
          simp -dsimp -implicitDefEqProofs [hk0, g0]
          done
  · have hns : ¬ a4 + p.keel ≤ (lsD p).lo := by rw [hva] at g0; rw [d4]; exact of_decide_eq_false g0
    refine Exists.elim (show ∃ dl dh : Int, dl = (lsD p).lo ∧ ∀ h, Fn Tryz.prog 48 [.agg [p.f.r.reaches true, p.f.r.shoals], sidesAV p.f.sides false, I q.place, I (t : Nat)] h (.tup [.agg [I dl, I dh], I 0]) h from ?_) fun dl h => Exists.elim h fun dh h => ?_
    · have o := okRv_of (rv_of_start op.st)
      have hh := okP_hours op (List.mem_of_getElem? w1)
      obtain ⟨h1, h2⟩ := pass_at (way := p.way) o (good_of hw.small op.st).small.r.m (op.way q (List.mem_of_getElem? w1))
      obtain ⟨n, yy, ha⟩ := At.ex h1.1 h1.2
      refine ⟨_, _, ?_, fun h => Depth_fn (good_of hw.small op.st) o op.st h1.1 ha (by omega)⟩
      rw [← w5, dF_eq o ha]
    have u1 := h.1
    have cE := h.2
    clear h
    have u2 : decide (a4 + p.keel ≤ dl) = false := decide_eq_false (by omega)
    have u3 : IntKind.i64.wrap (a4 + p.keel) = a4 + p.keel := wrap_in (by omega) (by omega)
    simp -dsimp -implicitDefEqProofs [hxx, q3]
    refine DrawR.on {} (by kernel_rfl) (by simp) ?_
    simp -dsimp -implicitDefEqProofs
    refine onCallQ_all cO ?_
    simp -dsimp -implicitDefEqProofs
    refine onCallQ_all cN ?_
    simp -dsimp -implicitDefEqProofs
    refine onCallQ_all (cF _) ?_
    simp -dsimp -implicitDefEqProofs [q4, q5, g0, q6, q7, c1, c2, c2', c3, c4, w1]
    refine DrawR.on {} (by kernel_rfl) (by simp) ?_
    simp -dsimp -implicitDefEqProofs [w1]
    refine onCallQ_all cE ?_
    simp -dsimp -implicitDefEqProofs [u2, u3]
    refine onCall_in (pickH_fn (n := 0) (m := 0) (m' := 1) rfl rfl (by omega) hps hpl hbb (by omega) (by simp -dsimp -implicitDefEqProofs) (by simp -dsimp -implicitDefEqProofs)) ?_
    rw [← hT1]
    simp -dsimp -implicitDefEqProofs
    refine onCall_in (cO _) ?_
    simp -dsimp -implicitDefEqProofs
    refine onCall_in (cN _) ?_
    simp -dsimp -implicitDefEqProofs
    refine onCall_in (cT _ _) ?_
    simp -dsimp -implicitDefEqProofs [j1, j2, j3, j4]
    refine DrawR.gen 70 (fun G => G 2 = some [.ro false 1 (ps.map fun v => [U v])] ∧ G 8 = some (pgC p true false false) ∧ G 47 = some [I a1, I a2, I a3, I a4, I a5] ∧ G 68 = some [I 1] ∧ G 69 = some [I m1, I m1, I m2, I m2, I a5]) (by simp -dsimp -implicitDefEqProofs) (by rfl) (by simp -dsimp -implicitDefEqProofs) fun G hG => ?_
    have G1 := hG.1
    have G2 := hG.2.1
    have G3 := hG.2.2.1
    have G4 := hG.2.2.2.1
    have G5 := hG.2.2.2.2
    clear hG
    simp only [pgC_eq] at G2
    refine DrawR.on { M := [68, 2], eff := [(7, [68, 2]), (15, [68, 2]), (23, [68, 2]), (32, [68, 2]), (51, [68, 2])] } (by kernel_rfl) (by simp) ?_
    simp -dsimp -implicitDefEqProofs [G1, G2, G3, G4, G5, v5, v8]
    refine pickE_in (b := A0) 1 2 hps hpl (by omega) rfl rfl (by omega) (by omega) (by simp -dsimp -implicitDefEqProofs [G4]) (by simp -dsimp -implicitDefEqProofs [G1]) (fun _ => rfl) ?_
    rw [← y2]
    simp -dsimp -implicitDefEqProofs [G1, G2, G3, G4, G5, v5, v9]
    refine pickE_in (b := D0) 2 3 hps hpl (by omega) rfl rfl (by omega) (by omega) (by simp -dsimp -implicitDefEqProofs [G4]) (by simp -dsimp -implicitDefEqProofs [G1]) (fun _ => rfl) ?_
    rw [← y3]
    simp -dsimp -implicitDefEqProofs [G1, G2, G3, G4, G5, v6, v10]
    refine pickE_in (b := D1) 3 4 hps hpl (by omega) rfl rfl (by omega) (by omega) (by simp -dsimp -implicitDefEqProofs [G4]) (by simp -dsimp -implicitDefEqProofs [G1]) (fun _ => rfl) ?_
    rw [← y4]
    simp -dsimp -implicitDefEqProofs [G1, G2, G3, G4, G5, v7, v11]
    refine pickE_in (b := Z0) 4 5 hps hpl (by omega) rfl rfl (by omega) (by omega) (by simp -dsimp -implicitDefEqProofs [G4]) (by simp -dsimp -implicitDefEqProofs [G1]) (fun _ => rfl) ?_
    rw [← y5]
    simp -dsimp -implicitDefEqProofs [G1, G2, G3, G4, G5, v7, v12, v13, x1, x2]
    refine pickE_in (b := ⟨H1, H2⟩) 5 6 hps hpl (by simp only; omega) rfl rfl (by omega) (by omega) (by simp -dsimp -implicitDefEqProofs [G4]) (by simp -dsimp -implicitDefEqProofs [G1]) (fun _ => rfl) ?_
    rw [← y6]
    simp -dsimp -implicitDefEqProofs
    refine LoopCR.gen 127 (fun G => G 8 = some (pgC p true false false) ∧ G 47 = some [I a1, I a2, I a3, I a4, I a5] ∧ G 69 = some [I m1, I m1, I m2, I m2, I a5] ∧ G 122 = some [I T3, I T4] ∧ G 68 = some [I 6] ∧ G 2 = some [.ro false 1 (ps.map fun v => [U v])]) (by simp -dsimp -implicitDefEqProofs) (by rfl) (by simp -dsimp -implicitDefEqProofs [G1, G2, G3, G4, G5]) fun L hL => ?_
    have L1 := hL.1
    have L2 := hL.2.1
    have L3 := hL.2.2.1
    have L4 := hL.2.2.2.1
    have L5 := hL.2.2.2.2.1
    have L6 := hL.2.2.2.2.2
    clear hL
    simp only [pgC_eq] at L1
    refine LoopCR.on 337 (fun i => [(8, .ptr 0 0), (11, B va), (16, .ptr 1 0), (21, .clo 49 [.ptr 4 0, .ptr 5 0]), (23, .ptr 2 0), (24, I (abT ps A0 s0 i)), (25, .ptr 3 0), (26, I T5), (27, I T6), (28, I (i : Nat))]) (fun i => [some (pgC p true false false), some [I a1, I a2, I a3, I a4, I a5], some [I m1, I m1, I m2, I m2, I a5], some [I T3, I T4], some [I ((6 + 2 * i : Nat) : Int)], some [.ro false 1 (ps.map fun v => [U v])]]) (fun i => i ≤ s0.length) (fun i => s0.length - i) 0 [8, 47, 69, 122, 68, 2] (by simp) ?_ ?_
    · simp -dsimp -implicitDefEqProofs [L1, L2, L3, L4, L5, L6, g0, abT, y2]
      done
    intro i j hi
    simp -dsimp -implicitDefEqProofs [o0]
    refine ifD_in (fun hlt => ?_) (fun hge => ?_)
    rotate_left
    · simp -dsimp -implicitDefEqProofs
      refine onCall_in (known_fn.beside rfl _) ?_
      simp -dsimp -implicitDefEqProofs
      done
    have hlt1 : i < s1.length := by omega
    refine Exists.elim (show ∃ c0 c1 : Bd, s0[i]? = some c0 ∧ s1[i]? = some c1 from ⟨_, _, List.getElem?_eq_getElem hlt, List.getElem?_eq_getElem hlt1⟩) fun c0 h => Exists.elim h fun c1 h => ?_
    have r0 := h.1
    have r1 := h.2
    clear h
    have k0 := sp0 i c0 r0
    have k1 := sp1 i c1 r1
    refine Exists.elim (show ∃ F0 F1 : Int, F0 = pkT ps (6 + 2 * i + 1) c0 ∧ F1 = pkT ps (7 + 2 * i + 1) c1 from ⟨_, _, rfl, rfl⟩) fun F0 h => Exists.elim h fun F1 h => ?_
    have z0 := h.1
    have z1 := h.2
    clear h
    have bF0 : c0.lo ≤ F0 ∧ F0 ≤ c0.hi := by rw [z0]; exact pkT_in k0.2.1
    have bF1 : c1.lo ≤ F1 ∧ F1 ≤ c1.hi := by rw [z1]; exact pkT_in k1.2.1
    have hab := hab0 i (by omega)
    refine Exists.elim (show ∃ B0, B0 = abT ps A0 s0 i from ⟨_, rfl⟩) fun B0 hB0 => ?_
    rw [← hB0] at hab
    have x3 : IntKind.i64.wrap (F1 + B0) = F1 + B0 := wrap_in (by omega) (by omega)
    have wk0 : IntKind.i64.wrap 0 = 0 := rfl
    have wk1 : IntKind.i64.wrap 1 = 1 := rfl
    have wk2 : IntKind.i64.wrap 2 = 2 := rfl
    have wi : IntKind.i64.wrap ((i : Int) + 1) = (i : Int) + 1 := wrap_in (by omega) (by omega)
    have x4 : IntKind.i64.wrap (m2 + p.keel) = m2 + p.keel := wrap_in (by omega) (by omega)
    have x5 : IntKind.i64.wrap (F0 - T3) = F0 - T3 := wrap_in (by omega) (by omega)
    have p6a : -1 * (i : Int) ≤ T6 * (i : Int) := Int.mul_le_mul_of_nonneg_right (by omega) (by omega)
    have p6b : T6 * (i : Int) ≤ 2 * (i : Int) := Int.mul_le_mul_of_nonneg_right (by omega) (by omega)
    have x6 : IntKind.i64.wrap (T6 * (i : Int)) = T6 * (i : Int) := wrap_in (by omega) (by omega)
    have x7 : IntKind.i64.wrap (T5 + T6 * (i : Int)) = T5 + T6 * (i : Int) := wrap_in (by omega) (by omega)
    have x8 : IntKind.i64.wrap (F1 + B0 - max T4 (T5 + T6 * (i : Int))) = F1 + B0 - max T4 (T5 + T6 * (i : Int)) := wrap_in (by omega) (by omega)
    have habn : abT ps A0 s0 (i + 1) = F0 := by
      show pkT ps (6 + 2 * i + 1) (s0.getD i ⟨0, 0⟩) = F0
      rw [z0, List.getD_eq_getElem?_getD, r0]; rfl
    simp -dsimp -implicitDefEqProofs
    refine DrawR.on { M := [4, 5], eff := [(8, [4, 5]), (17, [4, 5])] } (by kernel_rfl) (by simp) ?_
    simp -dsimp -implicitDefEqProofs [o0, o1, r0, r1, ← hB0]
    refine pickE_in (b := c0) (m := 6 + 2 * (i : Int)) (6 + 2 * i) (7 + 2 * (i : Int)) hps hpl (by omega) (by omega) (by omega) (by omega) (by omega) (by simp -dsimp -implicitDefEqProofs) (by simp -dsimp -implicitDefEqProofs) (fun _ => rfl) ?_
    rw [← z0]
    simp -dsimp -implicitDefEqProofs [o0, o1, r0, r1]
    refine pickE_in (b := c1) (m := 7 + 2 * (i : Int)) (7 + 2 * i) (8 + 2 * (i : Int)) hps hpl (by omega) (by omega) (by omega) (by omega) (by omega) (by simp -dsimp -implicitDefEqProofs) (by simp -dsimp -implicitDefEqProofs) (fun _ => rfl) ?_
    rw [← z1]
    simp -dsimp -implicitDefEqProofs [x3]
    refine LoopCR.on 337 (fun k => [(8, .ptr 0 0), (11, B va), (16, .ptr 1 0), (21, .clo 49 [.ptr 4 0, .ptr 5 0]), (23, .ptr 2 0), (24, I F0), (25, .ptr 3 0), (26, I T5), (27, I T6), (28, I (i : Nat)), (29, .ptr 6 0), (30, I (k : Nat))]) (fun _ => [some (pgC p true false false), some [I a1, I a2, I a3, I a4, I a5], some [I m1, I m1, I m2, I m2, I a5], some [I T3, I T4], some [I (8 + 2 * (i : Int))], some [.ro false 1 (ps.map fun v => [U v])], some [I F0, I (F1 + B0)]]) (fun k => k ≤ 2) (fun k => 2 - k) 0 [0, 1, 2, 3, 4, 5, 27] (by simp) ?_ ?_
    · simp -dsimp -implicitDefEqProofs
      done
    intro k j2 hk
    simp -dsimp -implicitDefEqProofs
    refine ifD_in (fun hk2 => ?_) (fun hk2 => ?_)
    rotate_left
    · simp -dsimp -implicitDefEqProofs [wi]
      refine again_in (i + 1) [0, 1, 2, 3, 4, 5] (by omega) (by omega) ?_
      simp -dsimp -implicitDefEqProofs [habn]
      omega
    refine (show k = 0 ∨ k = 1 by omega).elim (fun hk0 => ?_) (fun hk0 => ?_)
    · refine (Classical.em (q0.hours.lo ≤ (i : Int) ∧ (i : Int) ≤ q0.hours.hi)).elim (fun hwin => ?_) (fun hwin => ?_)
      · have n1 : decide ((i : Int) < q0.hours.lo) = false := decide_eq_false (by omega)
        have n2 : decide (q0.hours.hi < (i : Int)) = false := decide_eq_false (by omega)
        simp -dsimp -implicitDefEqProofs [hk0, o2, n1, n2, wk0, wk1, g0, x5]
        refine again_in 1 [0, 1, 2, 3, 4, 5, 6] (by omega) (by omega) ?_
        simp -dsimp -implicitDefEqProofs [hk0, g0]
        done
      · refine (Classical.em ((i : Int) < q0.hours.lo)).elim (fun hw1 => ?_) (fun hw1 => ?_)
        · have n1 : decide ((i : Int) < q0.hours.lo) = true := decide_eq_true hw1
          simp -dsimp -implicitDefEqProofs [hk0, o2, n1, wk0, wk1]
          refine again_in 1 [0, 1, 2, 3, 4, 5, 6] (by omega) (by omega) ?_
          simp -dsimp -implicitDefEqProofs [hk0, g0]
          done
        · have n1 : decide ((i : Int) < q0.hours.lo) = false := decide_eq_false hw1
          have n2 : decide (q0.hours.hi < (i : Int)) = true := decide_eq_true (by omega)
          simp -dsimp -implicitDefEqProofs [hk0, o2, n1, n2, wk0, wk1]
          refine again_in 1 [0, 1, 2, 3, 4, 5, 6] (by omega) (by omega) ?_
          simp -dsimp -implicitDefEqProofs [hk0, g0]
          done
    · refine (Classical.em (q1.hours.lo ≤ (i : Int) ∧ (i : Int) ≤ q1.hours.hi)).elim (fun hwin => ?_) (fun hwin => ?_)
      · have n1 : decide ((i : Int) < q1.hours.lo) = false := decide_eq_false (by omega)
        have n2 : decide (q1.hours.hi < (i : Int)) = false := decide_eq_false (by omega)
        simp -dsimp -implicitDefEqProofs [hk0, o3, n1, n2, wk0, wk1, wk2, g0, x6, x7, x8]
        refine again_in 2 [0, 1, 2, 3, 4, 5, 6] (by omega) (by omega) ?_
        simp -dsimp -implicitDefEqProofs [hk0, g0]
        done
      · refine (Classical.em ((i : Int) < q1.hours.lo)).elim (fun hw1 => ?_) (fun hw1 => ?_)
        · have n1 : decide ((i : Int) < q1.hours.lo) = true := decide_eq_true hw1
          simp -dsimp -implicitDefEqProofs [hk0, o3, n1, wk0, wk1, wk2]
          refine again_in 2 [0, 1, 2, 3, 4, 5, 6] (by omega) (by omega) ?_
          simp -dsimp -implicitDefEqProofs [hk0, g0]
          done
        · have n1 : decide ((i : Int) < q1.hours.lo) = false := decide_eq_false hw1
          have n2 : decide (q1.hours.hi < (i : Int)) = true := decide_eq_true (by omega)
          simp -dsimp -implicitDefEqProofs [hk0, o3, n1, n2, wk0, wk1, wk2]
          refine again_in 2 [0, 1, 2, 3, 4, 5, 6] (by omega) (by omega) ?_
          simp -dsimp -implicitDefEqProofs [hk0, g0]
          done
end Go.Pe
