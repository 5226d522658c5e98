import Derived.Test.YtffckclggkjbgaaGreatA03
import Derived.Test.YtffckclggkjbgaaGreatA04
set_option linter.unusedVariables false
set_option linter.unusedSimpArgs false
/- The law TopSafeDepth. -/
namespace Go.Pe
open Go Go.Proofs Go.Proofs.YtffckclggkjbgaaGreat
set_option maxRecDepth 20000
set_option maxHeartbeats 20000000
attribute [local simp] ts5 us5 ts22 us22 ts24 us24 ts25 us25 t27 u27 ts29 us29 ts34 us34 ts39 us39 ts57 us57 ts156 us156 ts53 us53 ts64 us64 ts98 us98 ts101 us101 ts102 us102 ts130 us130 ts132 us132 t32 u32 t75 u75
attribute [local simp] convA extA lenA indexA_one ixar
attribute [local simp] pgC_eq loadAV_eq neq77 mhC_eq mwC_eq
theorem tsafe_law {x : Mh} {y : Sr} {k : Int} (hx : x.Ok) (hy : y.Ok) (hk : 0 ≤ k ∧ k ≤ 255) : Fn Tryz.prog 13 [.agg (mhC x), .agg (mwC y), U k] .nil (B true) .nil := by
  refine Fn.ofR0 noM (by kernel_rfl) Tryz.func13 rfl (by simp) ?_
  refine Exists.elim (show ∃ u : Hu, u = huH x from ⟨_, rfl⟩) fun u hu => ?_
  refine Exists.elim (show ∃ l, l = ldH x from ⟨_, rfl⟩) fun l hl => ?_
  refine Exists.elim (show ∃ K, K = k % 60 from ⟨_, rfl⟩) fun K hK => ?_
  refine Exists.elim (show ∃ p, p = pgM y K from ⟨_, rfl⟩) fun p hpd => ?_
  have cU : ∀ h, Fn Tryz.prog 52 [.agg (mhC x)] h (.tup [.agg [I u.a, .ro false 5 (u.ss.map fSec)], loadAV false l]) h := fun h => by rw [hu, hl]; exact moorHull_fn hx
  have cP : ∀ h, Fn Tryz.prog 53 [.agg (mwC y), I K] h (.agg (pgC p true false false)) h := fun h => by rw [hpd]; exact moorPassage_fn hy
  have hsu : SmallU u := by rw [hu]; exact huH_small
  have hw : SmallF p.f := by rw [hpd]; exact pgM_small
  have hp : pgE p = 0 := by rw [hpd]; exact pgE_M hy (by omega)
  have hll : l.length = 2 := by rw [hl]; rfl
  have hwl : p.way.length = 2 := by rw [hpd]; rfl
  refine Exists.elim (show ∃ b : Bd, b = ⟨990, 1010⟩ from ⟨_, rfl⟩) fun b hb => ?_
  have hfl : fltE u l b = 0 ∨ fltE u l b = 8 := by rw [hu, hl, hb]; exact flt_moor hx (vB_iff.2 (by simp only; omega))
  have op := okP_of hp
  have okr := okRv_of (rv_of_start op.st)
  have gd := good_of hw op.st
  refine Exists.elim (show ∃ s : Ld, s = ⟨u, l, b⟩ from ⟨_, rfl⟩) fun s hs => ?_
  have su : s.u = u := by rw [hs]
  have sl : s.l = l := by rw [hs]
  have sb : s.b = b := by rw [hs]
  refine Exists.elim (show ∃ va vb vc vd ve, va = (decide (safE s p = 0) && sure s p) ∧ vb = (decide (safE s p = 0) && poss s p) ∧ vc = (if safE s p = 0 then (lsD p).pass else 0) ∧ vd = (if safE s p = 0 then (lsD p).hour else 0) ∧ ve = safE s p from ⟨_, _, _, _, _, rfl, rfl, rfl, rfl, rfl⟩) fun va h => Exists.elim h fun vb h => Exists.elim h fun vc h => Exists.elim h fun vd h => Exists.elim h fun ve h => ?_
  have e1 := h.1
  have e2 := h.2.1
  have e3 := h.2.2.1
  have e4 := h.2.2.2.1
  have e5 := h.2.2.2.2
  clear h
  refine Exists.elim (show ∃ xx : AV, xx = .tup [B va, B vb, I vc, I vd, I ve] from ⟨_, rfl⟩) fun xx hxx => ?_
  have cS : ∀ g1 g2 f1 f2 h, Fn Tryz.prog 31 [.agg [I u.a, .ro g1 5 (u.ss.map fSec)], .ro g2 1 (l.map fun n => [I n]), .agg [I 990, I 1010], .agg (pgC p f1 f2 false)] h xx h := fun g1 g2 f1 f2 h => by
    have := Safe_fn (x := s) (p := p) (g1 := g1) (g2 := g2) (f1 := f1) (f2 := f2) (fw := false) (h := h) (by rw [su]; exact hsu) (by rw [sl]; omega) hw (by omega)
    rw [su, sl, sb, hb] at this
    rw [hxx, e1, e2, e3, e4, e5]
    exact this
  refine Exists.elim (show ∃ fa, fa = floatR u l b from ⟨_, rfl⟩) fun fa hfa => ?_
  refine Exists.elim (show ∃ fe, fe = fltE u l b from ⟨_, rfl⟩) fun fe hfe => ?_
  have cF : ∀ g1 g2 h, Fn Tryz.prog 21 [.agg [I u.a, .ro g1 5 (u.ss.map fSec)], .ro g2 1 (l.map fun n => [I n]), .agg [I 990, I 1010]] h (.tup [.agg fa, I fe]) h := fun g1 g2 h => by
    have := Float_fn (u := u) (l := l) (b := b) (f1 := g1) (f3 := g2) (h := h) hsu (by omega)
    rw [hfa, hfe]
    rw [hb] at this ⊢
    exact this
  have hfs : fltE s.u s.l s.b = 0 ∨ fltE s.u s.l s.b = 8 := by rw [su, sl, sb]; exact hfl
  have cD : ∀ (i : Nat) (q : Ps) (t : Int), p.way[i]? = some q → 0 ≤ t → t < hrs p.f.sides → ∀ h, Fn Tryz.prog 48 [.agg [p.f.r.reaches true, p.f.r.shoals], sidesAV p.f.sides false, I q.place, I t] h (.tup [.agg [I (dF p.f q.place t).lo, I (dF p.f q.place t).hi], I 0]) h := fun i q t hq h1 h2 h => by
    refine Exists.elim (show ∃ m : Nat, t = m from ⟨t.toNat, by omega⟩) fun m hm => ?_
    rw [hm]
    obtain ⟨g1, g2⟩ := pass_at (way := p.way) okr gd.small.r.m (op.way q (List.mem_of_getElem? hq))
    obtain ⟨n, yy, ha⟩ := At.ex g1.1 g1.2
    rw [dF_eq okr ha]
    exact Depth_fn gd okr op.st g1.1 ha (by omega)
  have c0 : IntKind.i64.wrap k = k := wrap_in (by omega) (by omega)
  have c1 : k.tmod 60 = K := by rw [hK]; exact tm hk.1
  have hb1 : l.length * 8 ≤ 70368744177664 := by omega
  have hb2 : l.length ≤ 70368744177664 := by omega
  simp only [pgC_eq, loadAV_eq, mhC_eq, mwC_eq] at cU cP cS
  simp -dsimp -implicitDefEqProofs
  refine onCall_in (cU _) ?_
  simp -dsimp -implicitDefEqProofs [c0, c1]
  refine onCall_in (cP _) ?_
  simp -dsimp -implicitDefEqProofs
  refine DrawR.on {} (by kernel_rfl) (by simp) ?_
  simp -dsimp -implicitDefEqProofs [hb1, hb2]
  refine onCallQ_eve (cF _ _) ?_
  refine hfs.elim (fun hF => ?_) (fun hF => ?_)
  rotate_left
  · have hsE : safE s p = 8 := by unfold safE; rw [if_pos (by omega)]; exact hF
    have q3 : ve = 8 := by rw [e5]; exact hsE
    have q4 : fe = 8 := by rw [hfe, ← su, ← sl, ← sb]; exact hF
    have q5 : fa = [I 0, I 0, I 0, I 0, I 0] := by
      rw [hfa]; unfold floatR
      rw [if_neg (by rw [← hfe]; omega)]
    simp -dsimp -implicitDefEqProofs [q4, q5]
    refine DrawR.on {} (by kernel_rfl) (by simp) ?_
    simp -dsimp -implicitDefEqProofs [hb1, hb2]
    refine onCallQ_eve (cS _ _ _ _) ?_
    simp -dsimp -implicitDefEqProofs [hxx, q3]
    refine onCall_in (moorDepth_fn.beside rfl _) ?_
    simp -dsimp -implicitDefEqProofs
    done
  have hsE : safE s p = 0 := by unfold safE; rw [if_neg (by omega)]; exact hp
  have q3 : ve = 0 := by rw [e5]; exact hsE
  have q4 : fe = 0 := by rw [hfe, ← su, ← sl, ← sb]; exact hF
  refine Exists.elim (show ∃ a1 a2 a3 a4 a5 : Int, a1 = mZ u l b.hi ∧ a2 = mZ u l b.lo ∧ a3 = dLo s ∧ a4 = dHi s ∧ a5 = sgn (mom u l) from ⟨_, _, _, _, _, rfl, rfl, rfl, rfl, rfl⟩) fun a1 h => Exists.elim h fun a2 h => Exists.elim h fun a3 h => Exists.elim h fun a4 h => Exists.elim h fun a5 h => ?_
  have d1 := h.1
  have d2 := h.2.1
  have d3 := h.2.2.1
  have d4 := h.2.2.2.1
  have d5 := h.2.2.2.2
  clear h
  have q5 : fa = [I a1, I a2, I a3, I a4, I a5] := by
    rw [hfa, d1, d2, d3, d4, d5, ← su, ← sl, ← sb, floatR_ok hF]
  have bk := keel_of hp
  have bd := d_in hF
  have b34 : a3 ≤ a4 := by
    have ok := flt_ok hF
    have := mZ_anti ok.1 ok.2.1 (d := s.b.lo) (d' := s.b.hi) (by have := vB_iff.1 ok.2.2.1; omega) (vB_iff.1 ok.2.2.1).1
    rw [d3, d4]
    unfold dLo dHi; omega
  have x1 : IntKind.i64.wrap (a4 + p.keel) = a4 + p.keel := wrap_in (by omega) (by omega)
  have x2 : IntKind.i64.wrap (a3 + p.keel) = a3 + p.keel := wrap_in (by omega) (by omega)
  refine Exists.elim (show ∃ ka kb : Int, ka = a4 + p.keel ∧ kb = a3 + p.keel from ⟨_, _, rfl, rfl⟩) fun ka h => Exists.elim h fun kb h => ?_
  have hka := h.1
  have hkb := h.2
  clear h
  have hO := ouT_is (f := p.f) (way := p.way) (a := ka) (b := kb) (by omega) (by omega) (fun i hi => (passD_in gd okr (List.getElem?_eq_getElem hi) (op.way _ (List.getElem_mem hi))).1.2) 2 (by omega)
  have hva : va = (ouT p.f p.way ka kb 2).al := by rw [e1, hsE, hO.al]; unfold sure; rw [lsD_ok hp, hwl, hka, d4]; rfl
  have hvb : vb = (ouT p.f p.way ka kb 2).so := by rw [e2, hsE, hO.so]; unfold poss; rw [lsD_ok hp, hwl, hkb, d3]; rfl
  have hvc : vc = (ouT p.f p.way ka kb 2).fi := by rw [e3, if_pos hsE, hO.fi, lsD_ok hp, hwl]
  have hvd : vd = (ouT p.f p.way ka kb 2).wh := by rw [e4, if_pos hsE, hO.wh, lsD_ok hp, hwl]
  simp -dsimp -implicitDefEqProofs [q4, q5]
  refine DrawR.on {} (by kernel_rfl) (by simp) ?_
  simp -dsimp -implicitDefEqProofs [hb1, hb2]
  refine onCallQ_eve (cS _ _ _ _) ?_
  simp -dsimp -implicitDefEqProofs [hxx, q3]
  refine LoopCR.on 184 (fun i => [(9, .ptr 0 0), (10, .ptr 1 0), (12, B va), (13, B vb), (14, I vc), (15, I vd), (17, B (ouT p.f p.way ka kb i).al), (18, B (ouT p.f p.way ka kb i).so), (19, I (ouT p.f p.way ka kb i).le), (20, I (ouT p.f p.way ka kb i).fi), (21, I (ouT p.f p.way ka kb i).wh), (22, I (i : Nat))]) (fun _ => [some (pgC p true false false), some [I a1, I a2, I a3, I a4, I a5]]) (fun i => i ≤ 2) (fun i => 2 - i) 0 [3, 13] (by simp) ?_ ?_
  · simp -dsimp -implicitDefEqProofs [ouT]
    done
  intro i j hi
  simp -dsimp -implicitDefEqProofs [hwl]
  refine ifD_in (fun hlt => ?_) (fun hge => ?_)
  rotate_left
  · have hi2 : i = 2 := by omega
    rw [hi2]
    simp -dsimp -implicitDefEqProofs [hva, hvb, hvc, hvd]
    refine onCall_in (moorDepth_fn.beside rfl _) ?_
    simp -dsimp -implicitDefEqProofs
    done
  refine Exists.elim (show ∃ q, p.way[i]? = some q from ⟨_, List.getElem?_eq_getElem (by omega)⟩) fun q hq => ?_
  have hh := okP_hours op (List.mem_of_getElem? hq)
  have hmx := op.max
  have cDq := cD i q
  have hsu2 := ouT_succ (f := p.f) (a := ka) (b := kb) hq
  refine Exists.elim (show ∃ m, m = (q.hours.hi - q.hours.lo).toNat + 1 from ⟨_, rfl⟩) fun m hm => ?_
  rw [← hm] at hsu2
  refine Exists.elim (show ∃ S, S = ouT p.f p.way ka kb i from ⟨_, rfl⟩) fun S hS => ?_
  rw [← hS] at hsu2
  have wi : IntKind.i64.wrap ((i : Int) + 1) = (i : Int) + 1 := wrap_in (by omega) (by omega)
  simp -dsimp -implicitDefEqProofs [hq, ← hS]
  refine LoopCR.on 184 (fun n => [(9, .ptr 0 0), (10, .ptr 1 0), (12, B va), (13, B vb), (14, I vc), (15, I vd), (17, B (inT (dF p.f q.place) i q.hours.lo ka kb S n).al), (18, B (inT (dF p.f q.place) i q.hours.lo ka kb S n).so), (19, I (inT (dF p.f q.place) i q.hours.lo ka kb S n).le), (20, I (inT (dF p.f q.place) i q.hours.lo ka kb S n).fi), (21, I (inT (dF p.f q.place) i q.hours.lo ka kb S n).wh), (22, I (i : Nat)), (23, B (inT (dF p.f q.place) i q.hours.lo ka kb S n).on), (24, I (q.hours.lo + (n : Nat)))]) (fun _ => [some (pgC p true false false), some [I a1, I a2, I a3, I a4, I a5]]) (fun n => n ≤ m) (fun n => m - n) 0 [0, 1] (by simp) ?_ ?_
  · simp -dsimp -implicitDefEqProofs [inT]
    done
  intro n j2 hn
  refine (Classical.em (n < m)).elim (fun hnl => ?_) (fun hnl => ?_)
  rotate_left
  · have hnm : n = m := by omega
    have dn : decide (q.hours.lo + (n : Int) ≤ q.hours.hi) = false := decide_eq_false (by omega)
    rw [hnm] at dn ⊢
    simp -dsimp -implicitDefEqProofs [hq, dn]
    refine (Bool.eq_false_or_eq_true (inT (dF p.f q.place) i q.hours.lo ka kb S m).so).elim (fun c1 => ?_) (fun c1 => ?_)
    · simp -dsimp -implicitDefEqProofs [c1, wi]
      refine again_in (i + 1) [0, 1] (by omega) (by omega) ?_
      simp -dsimp -implicitDefEqProofs [hsu2, c1]
      done
    · simp -dsimp -implicitDefEqProofs [c1, wi]
      refine again_in (i + 1) [0, 1] (by omega) (by omega) ?_
      simp -dsimp -implicitDefEqProofs [hsu2, c1]
      done
  have hhr : hrs p.f.sides ≤ 400 := gd.hmax
  have dn : decide (q.hours.lo + (n : Int) ≤ q.hours.hi) = true := decide_eq_true (by omega)
  have wk : IntKind.i64.wrap (q.hours.lo + (n : Int) + 1) = q.hours.lo + (n : Int) + 1 := wrap_in (by omega) (by omega)
  refine Exists.elim (show ∃ T, T = inT (dF p.f q.place) i q.hours.lo ka kb S n from ⟨_, rfl⟩) fun T hT => ?_
  refine Exists.elim (show ∃ t, t = q.hours.lo + (n : Int) from ⟨_, rfl⟩) fun t ht => ?_
  have cDt := cDq t hq (by omega) (by omega)
  have hle : (dF p.f q.place t).lo ≤ (dF p.f q.place t).hi := by
    obtain ⟨g1, g2⟩ := pass_at (way := p.way) okr gd.small.r.m (op.way q (List.mem_of_getElem? hq))
    obtain ⟨_, _, ha⟩ := At.ex g1.1 g1.2
    exact dF_le gd okr ha
  have h0l : 0 ≤ (dF p.f q.place t).lo := by
    obtain ⟨g1, g2⟩ := pass_at (way := p.way) okr gd.small.r.m (op.way q (List.mem_of_getElem? hq))
    obtain ⟨_, _, ha⟩ := At.ex g1.1 g1.2
    rw [dF_eq okr ha]; simp only [dpt]; omega
  refine Exists.elim (show ∃ dl dh : Int, dl = (dF p.f q.place t).lo ∧ dh = (dF p.f q.place t).hi from ⟨_, _, rfl, rfl⟩) fun dl h => Exists.elim h fun dh h => ?_
  have hdl := h.1
  have hdh := h.2
  clear h
  rw [← hdl, ← hdh] at cDt hle
  rw [← hdl] at h0l
  have d1n : decide (dl < 0) = false := decide_eq_false (by omega)
  have d2n : decide (dh < dl) = false := decide_eq_false (by omega)
  have hn1 : inT (dF p.f q.place) i q.hours.lo ka kb S (n + 1) = ⟨T.al && decide (ka ≤ dl), S.so, T.on || decide (kb ≤ dh), if dl < T.le then dl else T.le, if dl < T.le then (i : Int) else T.fi, if dl < T.le then t else T.wh⟩ := by
    rw [hdl, hdh, ht, hT, inT]
  rw [← ht] at dn wk
  have hso : T.so = S.so := by rw [hT]; cases n <;> rw [inT]
  have x1 : IntKind.i64.wrap (a4 + p.keel) = ka := by rw [hka]; exact x1
  have x2 : IntKind.i64.wrap (a3 + p.keel) = kb := by rw [hkb]; exact x2
  simp -dsimp -implicitDefEqProofs [hq, ← ht, dn, ← hT]
  refine DrawR.on {} (by kernel_rfl) (by simp) ?_
  simp -dsimp -implicitDefEqProofs [hq]
  refine onCallQ_eve cDt ?_
  simp -dsimp -implicitDefEqProofs [d1n, d2n]
  refine (Bool.eq_false_or_eq_true T.al).elim (fun c1 => ?_) (fun c1 => ?_)
  · refine (Bool.eq_false_or_eq_true T.on).elim (fun c2 => ?_) (fun c2 => ?_)
    · refine (Bool.eq_false_or_eq_true (decide (dl < T.le))).elim (fun c3 => ?_) (fun c3 => ?_)
      · have c3p : (dl < T.le) = True := eq_true (of_decide_eq_true c3)
        simp -dsimp -implicitDefEqProofs [c1, c2, c3, x1, x2, wk]
        refine DrawR.on {} (by kernel_rfl) (by simp) ?_
        simp -dsimp -implicitDefEqProofs [c1, c2, c3, x1, x2, wk]
        refine again_in (n + 1) [0, 1] (by omega) (by omega) ?_
        simp -dsimp -implicitDefEqProofs [hn1, hso, c1, c2, c3p]
        omega
      · have c3p : (dl < T.le) = False := eq_false (of_decide_eq_false c3)
        simp -dsimp -implicitDefEqProofs [c1, c2, c3, x1, x2, wk]
        refine DrawR.on {} (by kernel_rfl) (by simp) ?_
        simp -dsimp -implicitDefEqProofs [c1, c2, c3, x1, x2, wk]
        refine again_in (n + 1) [0, 1] (by omega) (by omega) ?_
        simp -dsimp -implicitDefEqProofs [hn1, hso, c1, c2, c3p]
        omega
    · refine (Bool.eq_false_or_eq_true (decide (dl < T.le))).elim (fun c3 => ?_) (fun c3 => ?_)
      · have c3p : (dl < T.le) = True := eq_true (of_decide_eq_true c3)
        simp -dsimp -implicitDefEqProofs [c1, c2, c3, x1, x2, wk]
        refine DrawR.on {} (by kernel_rfl) (by simp) ?_
        simp -dsimp -implicitDefEqProofs [c1, c2, c3, x1, x2, wk]
        refine again_in (n + 1) [0, 1] (by omega) (by omega) ?_
        simp -dsimp -implicitDefEqProofs [hn1, hso, c1, c2, c3p]
        omega
      · have c3p : (dl < T.le) = False := eq_false (of_decide_eq_false c3)
        simp -dsimp -implicitDefEqProofs [c1, c2, c3, x1, x2, wk]
        refine DrawR.on {} (by kernel_rfl) (by simp) ?_
        simp -dsimp -implicitDefEqProofs [c1, c2, c3, x1, x2, wk]
        refine again_in (n + 1) [0, 1] (by omega) (by omega) ?_
        simp -dsimp -implicitDefEqProofs [hn1, hso, c1, c2, c3p]
        omega
  · refine (Bool.eq_false_or_eq_true T.on).elim (fun c2 => ?_) (fun c2 => ?_)
    · refine (Bool.eq_false_or_eq_true (decide (dl < T.le))).elim (fun c3 => ?_) (fun c3 => ?_)
      · have c3p : (dl < T.le) = True := eq_true (of_decide_eq_true c3)
        simp -dsimp -implicitDefEqProofs [c1, c2, c3, x1, x2, wk]
        refine DrawR.on {} (by kernel_rfl) (by simp) ?_
        simp -dsimp -implicitDefEqProofs [c1, c2, c3, x1, x2, wk]
        refine again_in (n + 1) [0, 1] (by omega) (by omega) ?_
        simp -dsimp -implicitDefEqProofs [hn1, hso, c1, c2, c3p]
        omega
      · have c3p : (dl < T.le) = False := eq_false (of_decide_eq_false c3)
        simp -dsimp -implicitDefEqProofs [c1, c2, c3, x1, x2, wk]
        refine DrawR.on {} (by kernel_rfl) (by simp) ?_
        simp -dsimp -implicitDefEqProofs [c1, c2, c3, x1, x2, wk]
        refine again_in (n + 1) [0, 1] (by omega) (by omega) ?_
        simp -dsimp -implicitDefEqProofs [hn1, hso, c1, c2, c3p]
        omega
    · refine (Bool.eq_false_or_eq_true (decide (dl < T.le))).elim (fun c3 => ?_) (fun c3 => ?_)
      · have c3p : (dl < T.le) = True := eq_true (of_decide_eq_true c3)
        simp -dsimp -implicitDefEqProofs [c1, c2, c3, x1, x2, wk]
        refine DrawR.on {} (by kernel_rfl) (by simp) ?_
        simp -dsimp -implicitDefEqProofs [c1, c2, c3, x1, x2, wk]
        refine again_in (n + 1) [0, 1] (by omega) (by omega) ?_
        simp -dsimp -implicitDefEqProofs [hn1, hso, c1, c2, c3p]
        omega
      · have c3p : (dl < T.le) = False := eq_false (of_decide_eq_false c3)
        simp -dsimp -implicitDefEqProofs [c1, c2, c3, x1, x2, wk]
        refine DrawR.on {} (by kernel_rfl) (by simp) ?_
        simp -dsimp -implicitDefEqProofs [c1, c2, c3, x1, x2, wk]
        refine again_in (n + 1) [0, 1] (by omega) (by omega) ?_
        simp -dsimp -implicitDefEqProofs [hn1, hso, c1, c2, c3p]
        omega
end Go.Pe
