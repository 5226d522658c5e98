import Derived.Test.YtffckclggkjbgaaGreatW09
import Derived.Test.YtffckclggkjbgaaGreatW08
import Derived.Test.YtffckclggkjbgaaGreatV01
set_option linter.unusedVariables false
set_option linter.unusedSimpArgs false
/- The law HullLater. -/
namespace Go.Pe
open Go Go.Proofs Go.Proofs.YtffckclggkjbgaaGreat
set_option maxRecDepth 20000
set_option maxHeartbeats 20000000
attribute [local simp] ts5 us5 ts22 us22 ts24 us24 ts25 us25 t27 u27 ts29 us29 ts34 us34 ts39 us39 ts57 us57 ts156 us156 ts53 us53 ts64 us64 ts98 us98 ts101 us101
attribute [local simp] convA extA lenA
attribute [local simp] pgC_eq loadAV_eq neq77 smC_eq stC_eq
/-- One pass of own memory, whose hours are read and written whole. -/
theorem hours_S {k : Int} {way : List Ps} {m : Nat} {q : Ps} (hq : way[m]? = some q) : ∃ L, L = mapL (shP k) way m ∧ ((rws fPs L).drop (m * 3 + 1)).take 2 = [I q.hours.lo, I q.hours.hi] ∧ m * 3 + 3 ≤ (rws fPs L).length ∧ (rws fPs L).take (m * 3 + 1) ++ [I (q.hours.lo + k), I (q.hours.hi + k)] ++ (rws fPs L).drop (m * 3 + 1 + 2) = rws fPs (mapL (shP k) way (m + 1)) := by
  have hx := mapL_at (g := shP k) hq
  have hm := (List.getElem?_eq_some_iff.1 hx).1
  obtain ⟨L, hL⟩ : ∃ L, L = mapL (shP k) way m := ⟨_, rfl⟩
  have hset := mapL_set (g := shP k) hq
  rw [← hL] at hx hm hset
  obtain ⟨h1, h2⟩ := rws_split fPs_len hx
  have hx2 : (L.set m (shP k q))[m]? = some (shP k q) := by rw [List.getElem?_set_self hm]
  obtain ⟨h3, h4⟩ := rws_split fPs_len hx2
  have e1 : (L.set m (shP k q)).take m = L.take m := by rw [List.take_set_of_le (Nat.le_refl m)]
  have e2 : (L.set m (shP k q)).drop (m + 1) = L.drop (m + 1) := by rw [List.drop_set_of_lt (by omega)]
  rw [e1, e2, hset] at h3
  obtain ⟨A, hA⟩ : ∃ A, A = rws fPs (L.take m) := ⟨_, rfl⟩
  obtain ⟨B', hB⟩ : ∃ B', B' = rws fPs (L.drop (m + 1)) := ⟨_, rfl⟩
  rw [← hA, ← hB] at h1 h3
  rw [← hA] at h2
  have d1 : A.drop (A.length + 1) = [] := List.drop_eq_nil_of_le (by omega)
  have d2 : A.drop (A.length + 1 + 2) = [] := List.drop_eq_nil_of_le (by omega)
  have t1 : A.take (A.length + 1) = A := List.take_of_length_le (by omega)
  have s3 : A.length + 1 + 2 - A.length = 3 := by omega
  refine ⟨L, hL, ?_, ?_, ?_⟩
  · rw [h1, ← h2, List.append_assoc, List.drop_append]
    simp [fPs_eq, d1]
  · rw [h1]; simp [fPs_eq]; omega
  · rw [h1, h3, ← h2]
    simp [fPs_eq, List.take_append, List.drop_append, shP, d2, t1, s3]
theorem onCallQ_all {g : Nat} {args : List AV} {h : H} {x : AV} {K : AV → Prop} {t : Tag K} (h1 : ∀ h, Fn Tryz.prog g args h x h) (h2 : K x) : onCallQ Tryz.prog g args h K t := onCallQ_in (h1 h) h2
theorem hlater_law {x : Sm} {y : Sr} (hx : x.Ok) (hy : y.Ok) : Fn Tryz.prog 11 [.agg (smC x), .agg (stC y)] .nil (B true) .nil := by
  refine Fn.ofR0 noM (by kernel_rfl) Tryz.func11 rfl (by simp) ?_
  refine Exists.elim (show ∃ u : Hu, u = huM x 4 from ⟨_, rfl⟩) fun u hu => ?_
  refine Exists.elim (show ∃ l, l = ldM x 4 from ⟨_, rfl⟩) fun l hl => ?_
  refine Exists.elim (show ∃ b, b = dens x from ⟨_, rfl⟩) fun b hb => ?_
  refine Exists.elim (show ∃ p, p = pgOf y from ⟨_, rfl⟩) fun p hpd => ?_
  have cU : ∀ h, Fn Tryz.prog 44 [.agg (smC x), I (4 : Nat)] h (.agg [I u.a, .ro false 5 (u.ss.map fSec)]) h := fun h => by rw [hu]; exact small_hull hx (by omega) (by omega)
  have cP : ∀ h, Fn Tryz.prog 45 [.agg (stC y)] h (.agg (pgC p true false false)) h := fun h => by rw [hpd]; exact passage_small hy
  have cL : ∀ h, Fn Tryz.prog 46 [.agg (smC x), .agg [I u.a, .ro false 5 (u.ss.map fSec)]] h (loadAV false l) h := fun h => by rw [hu, hl]; exact load_small hx (by omega) (by omega)
  have cD : ∀ h, Fn Tryz.prog 47 [.agg (smC x)] h (.agg [I b.lo, I b.hi]) h := fun h => by rw [hb]; exact density_small hx
  have hsu : SmallU u := by rw [hu]; exact huM_small (by omega) (by omega)
  have hw : WOk p := by rw [hpd]; exact pgOf_wok
  have hp : pgE p = 0 := by rw [hpd]; exact pgE_of hy
  have z1 : p.f.r.rs.length = 2 := by rw [hpd]; rfl
  have z2 : p.f.sides.length = 2 := by rw [hpd]; rfl
  have z3 : p.way.length = 2 := by rw [hpd]; rfl
  have hll : l.length ≤ 4 := by rw [hl, ldM_len]; exact (rowsM_len (by omega)).2
  have hh : hrs p.f.sides ≤ 12 := by rw [hpd, pgOf_hrs]; exact rowsS_len.2
  have hfl : fltE u l b = 0 ∨ fltE u l b = 8 := by rw [hu, hl, hb]; exact flt_small hx (by omega) (by omega)
  clear hu hl hb hpd
  have op := okP_of hp
  have hpl : ∀ q ∈ p.way, 0 ≤ q.hours.lo ∧ q.hours.lo ≤ q.hours.hi ∧ q.hours.hi < hrs p.f.sides := fun q hq => okP_hours op hq
  refine Exists.elim (show ∃ s : Ld, s = ⟨u, l, b⟩ from ⟨_, rfl⟩) fun s hs => ?_
  have su : s.u = u := by rw [hs]
  have sl : s.l = l := by rw [hs]
  have sb : s.b = b := by rw [hs]
  have cO : ∀ h, Fn Tryz.prog 17 [.agg [I u.a, .ro false 5 (u.ss.map fSec)]] h (.agg [I u.a, .ro (isz u.ss.length) 5 (u.ss.map fSec)]) h := fun h => own_is hsu
  have cN : ∀ h, Fn Tryz.prog 18 [loadAV false l] h (loadAV false l) h := fun h => numbers_fn (by omega)
  have cY : ∀ h, Fn Tryz.prog 30 [.agg (pgC p true false false)] h (.agg (pgC p (isz p.f.r.rs.length) (isz p.f.sides.length) false)) h := fun h => way_fn hw
  have cY2 := way_own (p := p) (f1 := true) (f2 := false) (fw := false) hw (by omega) (by omega) (by omega)
  have cS : ∀ (k : Int) g1 f1 f2 h, Fn Tryz.prog 31 [.agg [I u.a, .ro g1 5 (u.ss.map fSec)], loadAV false l, .agg [I b.lo, I b.hi], .agg [p.f.r.reaches f1, p.f.r.shoals, sidesAV p.f.sides f2, .ro false 3 ((p.way.map (shP k)).map fPs), I p.keel]] h
      (.tup [B (decide (safE s (pgS p k) = 0) && sure s (pgS p k)), B (decide (safE s (pgS p k) = 0) && poss s (pgS p k)), I (if safE s (pgS p k) = 0 then (lsD (pgS p k)).pass else 0), I (if safE s (pgS p k) = 0 then (lsD (pgS p k)).hour else 0), I (safE s (pgS p k))]) h := fun k g1 f1 f2 h => by
    have := Safe_fn (x := s) (p := pgS p k) (g1 := g1) (g2 := false) (f1 := f1) (f2 := f2) (fw := false) (h := h) (by rw [su]; exact hsu) (by rw [sl]; omega) hw.small (by simp only [pgS, List.length_map]; omega)
    rw [su, sl, sb] at this
    exact this
  have cT : ∀ g1 f1 f2 h, Fn Tryz.prog 32 [.agg [I u.a, .ro g1 5 (u.ss.map fSec)], loadAV false l, .agg [I b.lo, I b.hi], .agg (pgC p f1 f2 false)] h
      (.tup [I (if latE s p = 0 then (latK s p : Int) else 0), I (latE s p)]) h := fun g1 f1 f2 h => by
    have := Later_fn (x := s) (p := p) (g1 := g1) (g2 := false) (f1 := f1) (f2 := f2) (fw := false) (h := h) (by rw [su]; exact hsu) (by rw [sl]; omega) hw.small (by omega)
    rw [su, sl, sb] at this
    exact this
  have cS0 : ∀ g1 f1 f2 h, Fn Tryz.prog 31 [.agg [I u.a, .ro g1 5 (u.ss.map fSec)], loadAV false l, .agg [I b.lo, I b.hi], .agg (pgC p f1 f2 false)] h
      (.tup [B (decide (safE s p = 0) && sure s p), B (decide (safE s p = 0) && poss s p), I (if safE s p = 0 then (lsD p).pass else 0), I (if safE s p = 0 then (lsD p).hour else 0), I (safE s p)]) h := fun g1 f1 f2 h => by
    have := Safe_fn (x := s) (p := p) (g1 := g1) (g2 := false) (f1 := f1) (f2 := f2) (fw := false) (h := h) (by rw [su]; exact hsu) (by rw [sl]; omega) hw.small (by omega)
    rw [su, sl, sb] at this
    exact this
  have hfs : fltE s.u s.l s.b = 0 ∨ fltE s.u s.l s.b = 8 := by rw [su, sl, sb]; exact hfl
  have hrl := fun k => latK_at (x := s) (k := k) hp
  have hk12 : latK s p ≤ 12 := by have := latK_le (x := s) hp; omega
  simp only [pgC_eq, loadAV_eq, smC_eq, stC_eq] at cU cP cL cD cY cY2 cN cS cT cS0
  simp -dsimp -implicitDefEqProofs
  refine DrawR.on {} (by kernel_rfl) (by simp) ?_
  simp -dsimp -implicitDefEqProofs
  refine onCallQ_all cU ?_
  simp -dsimp -implicitDefEqProofs
  refine onCallQ_all cP ?_
  simp -dsimp -implicitDefEqProofs
  refine DrawR.on {} (by kernel_rfl) (by simp) ?_
  simp -dsimp -implicitDefEqProofs
  refine onCallQ_all cL ?_
  simp -dsimp -implicitDefEqProofs
  refine onCallQ_all cD ?_
  simp -dsimp -implicitDefEqProofs
  refine DrawR.on {} (by kernel_rfl) (by simp) ?_
  simp -dsimp -implicitDefEqProofs
  refine onCallQ_all cO ?_
  simp -dsimp -implicitDefEqProofs
  refine onCallQ_all cN ?_
  simp -dsimp -implicitDefEqProofs
  refine onCallQ_all cY ?_
  simp -dsimp -implicitDefEqProofs
  refine onCallQ_all (cT _ _ _) ?_
  refine Exists.elim (show ∃ lv le, lv = (if latE s p = 0 then (latK s p : Int) else 0) ∧ le = latE s p from ⟨_, _, rfl, rfl⟩) fun lv h => Exists.elim h fun le h => ?_
  have hlv := h.1
  have hle := h.2
  clear h
  rw [← hlv, ← hle]
  simp -dsimp -implicitDefEqProofs
  refine DrawR.on {} (by kernel_rfl) (by simp) ?_
  simp -dsimp -implicitDefEqProofs
  refine onCallQ_all cO ?_
  simp -dsimp -implicitDefEqProofs
  refine onCallQ_all cN ?_
  simp -dsimp -implicitDefEqProofs
  refine onCallQ_all cY ?_
  simp -dsimp -implicitDefEqProofs
  refine Exists.elim (show ∃ a b c d e, a = (decide (safE s p = 0) && sure s p) ∧ b = (decide (safE s p = 0) && poss s p) ∧ c = (if safE s p = 0 then (lsD p).pass else 0) ∧ d = (if safE s p = 0 then (lsD p).hour else 0) ∧ e = safE s p from ⟨_, _, _, _, _, rfl, rfl, rfl, rfl, rfl⟩) fun va h => Exists.elim h fun vb h => Exists.elim h fun vc h => Exists.elim h fun vd h => Exists.elim h fun ve h => ?_
  have e1 := h.1
  have e2 := h.2.1
  have e3 := h.2.2.1
  have e4 := h.2.2.2.1
  have e5 := h.2.2.2.2
  clear h
  rw [← e1, ← e2, ← e3, ← e4, ← e5] at cS0
  refine Exists.elim (show ∃ xx : AV, xx = .tup [B va, B vb, I vc, I vd, I ve] from ⟨_, rfl⟩) fun xx hxx => ?_
  rw [← hxx] at cS0
  refine onCallQ_all (cS0 _ _ _) ?_
  refine hfs.elim (fun hF => ?_) (fun hF => ?_)
  rotate_left
  · have hsE : safE s p = 8 := by unfold safE; rw [if_pos (by omega)]; exact hF
    have hl8 : latE s p = 8 := by unfold latE; rw [if_pos (by omega)]; exact hsE
    have q1 : lv = 0 := by rw [hlv, if_neg (by omega)]
    have q2 : le = 8 := by rw [hle]; exact hl8
    have q3 : ve = 8 := by rw [e5]; exact hsE
    simp -dsimp -implicitDefEqProofs [hxx, q1, q2, q3]
    refine onCall_in (known_fn.beside rfl _) ?_
    simp -dsimp -implicitDefEqProofs
    done
  have hsE : safE s p = 0 := by unfold safE; rw [if_neg (by omega)]; exact hp
  have q3 : ve = 0 := by rw [e5]; exact hsE
  have hsure := sure_lat (x := s) hF hp
  have hva : va = (decide (latE s p = 0) && decide (latK s p = 0)) := by rw [e1, hsE, hsure]; simp
  have hlE : latE s p = if pgE (pgS p (latK s p)) = 0 then 0 else 7 := by unfold latE; rw [if_neg (by omega)]
  have hlE2 : latE s p = 0 ∨ latE s p = 7 := by rw [hlE]; split; exact .inl rfl; exact .inr rfl
  refine hlE2.elim (fun hA => ?_) (fun hA => ?_)
  · have q1 : le = 0 := by rw [hle, hA]
    have q2 : lv = (latK s p : Int) := by rw [hlv, if_pos hA]
    have q4 : va = (lv == 0) := by
      rw [hva, hA, q2]
      by_cases hk : latK s p = 0
      · simp [hk]
      · have : ((latK s p : Int) == 0) = false := by simp; exact hk
        rw [this]; simp [hk]
    simp -dsimp -implicitDefEqProofs [hxx, q1, q3, q4]
    refine LoopCR.on 163 (fun i => [(2, .ptr 0 0), (3, .ptr 1 0), (5, .ptr 2 0), (6, .ptr 3 0), (7, loadAV false l), (8, .ptr 4 0), (9, I lv), (10, I 0), (16, I (i : Nat))]) (fun i => [some (smC x), some (stC y), some [I u.a, .ro false 5 (u.ss.map fSec)], some (pgC p true false false), some [I b.lo, I b.hi]]) (fun i => i ≤ latK s p) (fun i => latK s p + 1 - i) 0 [0, 1, 6, 7, 15] (by simp) ?_ ?_
    · simp -dsimp -implicitDefEqProofs
    intro i j hi
    have d13 : decide ((i : Int) < 13) = true := decide_eq_true (by omega)
    have d13' : decide (i < 13) = true := decide_eq_true (by omega)
    have w1 : IntKind.i64.wrap ((i : Int) + 1) = (i : Int) + 1 := wrap_in (by omega) (by omega)
    simp -dsimp -implicitDefEqProofs [d13, d13']
    refine onCall_in (Fn.makes (bl := [rws fPs p.way]) cY2 rfl (by simp [rws_all, fPs_eq]) _ rfl) ?_
    simp -dsimp -implicitDefEqProofs
    refine LoopCR.onZ 163 (fun m => [(2, .ptr 0 0), (3, .ptr 1 0), (5, .ptr 2 0), (6, .ptr 3 0), (7, loadAV false l), (8, .ptr 4 0), (9, I lv), (10, I 0), (16, I (i : Nat)), (17, .ptr 5 0), (18, I (m : Nat))]) (fun m => [some (smC x), some (stC y), some [I u.a, .ro false 5 (u.ss.map fSec)], some (pgC p true false false), some [I b.lo, I b.hi], some [.ro false 9 (p.f.r.rs.map fR), p.f.r.shoals, .ro false 1 (p.f.sides.map fL), .sl 6 0 p.way.length 3, I p.keel], some (rws fPs (mapL (shP i) p.way m))]) (fun m => m ≤ p.way.length) (fun m => p.way.length - m) 0 [0, 1, 2, 3, 4, 6, 5] (by simp) ?_ ?_
    · simp -dsimp -implicitDefEqProofs [mapL_zero]
    intro m j2 hm
    simp -dsimp -implicitDefEqProofs
    refine ifD_in (fun hlt => ?_) (fun hge => ?_)
    · refine Exists.elim (show ∃ q, p.way[m]? = some q from ⟨_, List.getElem?_eq_getElem hlt⟩) fun q hq => ?_
      refine Exists.elim (hours_S (k := i) hq) fun L W => ?_
      have hL := W.1.symm
      have c1 := W.2.1
      have c2 : m * 3 + 1 + 2 ≤ (rws fPs L).length := by have := W.2.2.1; omega
      have c3 := W.2.2.2
      have hb := hpl q (List.mem_of_getElem? hq)
      have wl : IntKind.i64.wrap (q.hours.lo + i) = q.hours.lo + i := wrap_in (by omega) (by omega)
      have wh : IntKind.i64.wrap (q.hours.hi + i) = q.hours.hi + i := wrap_in (by omega) (by omega)
      have wm : IntKind.i64.wrap ((m : Int) + 1) = (m : Int) + 1 := wrap_in (by omega) (by omega)
      simp -dsimp -implicitDefEqProofs [indexA_sl, hlt, hL, c1, c2, c3, wl, wh, wm]
      refine again_in (m + 1) [0, 1, 2, 3, 4, 5, 6] (by omega) (by omega) ?_
      simp -dsimp -implicitDefEqProofs
    have hmw : m = p.way.length := by omega
    refine Exists.elim (show ∃ W, W = p.way.map (shP i) from ⟨_, rfl⟩) fun W hW => ?_
    have hWl : W.length = p.way.length := by rw [hW]; simp
    have hWm : mapL (shP i) p.way p.way.length = W := by rw [hW]; exact mapL_all
    have hz : ∀ h : H, h.get 6 = some (rws fPs W) → fzv h 6 (.sl 6 0 p.way.length 3) = .ro false 3 (W.map fPs) := fun h hg => fzv_hit hg hWl fPs_len (fun _ => rfl)
    refine Exists.elim (show ∃ a b c d e, a = (decide (safE s (pgS p i) = 0) && sure s (pgS p i)) ∧ b = (decide (safE s (pgS p i) = 0) && poss s (pgS p i)) ∧ c = (if safE s (pgS p i) = 0 then (lsD (pgS p i)).pass else 0) ∧ d = (if safE s (pgS p i) = 0 then (lsD (pgS p i)).hour else 0) ∧ e = safE s (pgS p i) from ⟨_, _, _, _, _, rfl, rfl, rfl, rfl, rfl⟩) fun ga h => Exists.elim h fun gb h => Exists.elim h fun gc h => Exists.elim h fun gd h => Exists.elim h fun ge h => ?_
    have k1 := h.1
    have k2 := h.2.1
    have k3 := h.2.2.1
    have k4 := h.2.2.2.1
    have k5 := h.2.2.2.2
    clear h
    refine Exists.elim (show ∃ yy : AV, yy = .tup [B ga, B gb, I gc, I gd, I ge] from ⟨_, rfl⟩) fun yy hyy => ?_
    have cSi : ∀ h, Fn Tryz.prog 31 [.agg [I u.a, .ro (isz u.ss.length) 5 (u.ss.map fSec)], .ro false 1 (l.map fun n => [I n]), .agg [I b.lo, I b.hi], .agg [.ro false 9 (p.f.r.rs.map fR), .ro false 6 (p.f.r.ss.map fS), .ro false 1 (p.f.sides.map fL), .ro false 3 (W.map fPs), I p.keel]] h yy h := fun h => by
      rw [hyy, k1, k2, k3, k4, k5, hW]
      exact cS i (isz u.ss.length) false false h
    have hgE : safE s (pgS p i) = pgE (pgS p i) := by unfold safE; rw [if_neg (by omega)]
    have hg3 := pgE_late op (k := (i : Nat)) (by omega)
    simp -dsimp -implicitDefEqProofs [hmw, hWm]
    refine exitZ_fz 6 ?_
    simp -dsimp -implicitDefEqProofs
    refine DrawR.on {} (by kernel_rfl) (by simp) ?_
    simp -dsimp -implicitDefEqProofs [hz]
    refine onCallQ_all cO ?_
    simp -dsimp -implicitDefEqProofs [hz]
    refine onCallQ_all cN ?_
    simp -dsimp -implicitDefEqProofs [hz]
    refine onCallQ_all cSi ?_
    refine (Classical.em (pgE (pgS p i) = 0)).elim (fun g0 => ?_) (fun g0 => ?_)
    rotate_left
    · have g3 : ge = 3 := by rw [k5, hgE]; exact hg3.resolve_left g0
      have hK := latK_at (x := s) hp hi (.inl g0)
      have hbad : latE s p = 7 := by rw [hlE, hK, if_neg g0]
      exact absurd hA (by omega)
    have g4 : ge = 0 := by rw [k5, hgE]; exact g0
    refine (Bool.eq_false_or_eq_true (sure s (pgS p i))).elim (fun gs => ?_) (fun gs => ?_)
    · have hK := latK_at (x := s) hp hi (.inr gs)
      have g5 : ga = true := by rw [k1, hgE, g0, gs]; rfl
      have q5 : lv = (i : Int) := by rw [q2, hK]
      simp -dsimp -implicitDefEqProofs [hyy, g4, g5, q5]
      refine onCall_in (known_fn.beside rfl _) ?_
      simp -dsimp -implicitDefEqProofs
    have g5 : ga = false := by rw [k1, hgE, g0, gs]; rfl
    have hne : i ≠ latK s p := fun he => by
      rcases (latK_is (x := s) hp).1 with h1 | h1
      · exact h1 (by rw [← he]; exact g0)
      · rw [← he, gs] at h1; exact absurd h1 (by simp)
    simp -dsimp -implicitDefEqProofs [hyy, g4, g5, w1]
    refine again_in (i + 1) [0, 1, 2, 3, 4] (by omega) (by omega) ?_
    simp -dsimp -implicitDefEqProofs
  · have q1 : le = 7 := by rw [hle, hA]
    have q2 : lv = 0 := by rw [hlv, if_neg (by omega)]
    have q4 : va = false := by rw [hva, hA]; rfl
    simp -dsimp -implicitDefEqProofs [hxx, q1, q3, q4]
    refine LoopCR.on 163 (fun i => [(2, .ptr 0 0), (3, .ptr 1 0), (5, .ptr 2 0), (6, .ptr 3 0), (7, loadAV false l), (8, .ptr 4 0), (9, I lv), (10, I 7), (16, I (i : Nat))]) (fun i => [some (smC x), some (stC y), some [I u.a, .ro false 5 (u.ss.map fSec)], some (pgC p true false false), some [I b.lo, I b.hi]]) (fun i => i ≤ latK s p) (fun i => latK s p + 1 - i) 0 [0, 1, 6, 7, 15] (by simp) ?_ ?_
    · simp -dsimp -implicitDefEqProofs
    intro i j hi
    have d13 : decide ((i : Int) < 13) = true := decide_eq_true (by omega)
    have d13' : decide (i < 13) = true := decide_eq_true (by omega)
    have w1 : IntKind.i64.wrap ((i : Int) + 1) = (i : Int) + 1 := wrap_in (by omega) (by omega)
    simp -dsimp -implicitDefEqProofs [d13, d13']
    refine onCall_in (Fn.makes (bl := [rws fPs p.way]) cY2 rfl (by simp [rws_all, fPs_eq]) _ rfl) ?_
    simp -dsimp -implicitDefEqProofs
    refine LoopCR.onZ 163 (fun m => [(2, .ptr 0 0), (3, .ptr 1 0), (5, .ptr 2 0), (6, .ptr 3 0), (7, loadAV false l), (8, .ptr 4 0), (9, I lv), (10, I 7), (16, I (i : Nat)), (17, .ptr 5 0), (18, I (m : Nat))]) (fun m => [some (smC x), some (stC y), some [I u.a, .ro false 5 (u.ss.map fSec)], some (pgC p true false false), some [I b.lo, I b.hi], some [.ro false 9 (p.f.r.rs.map fR), p.f.r.shoals, .ro false 1 (p.f.sides.map fL), .sl 6 0 p.way.length 3, I p.keel], some (rws fPs (mapL (shP i) p.way m))]) (fun m => m ≤ p.way.length) (fun m => p.way.length - m) 0 [0, 1, 2, 3, 4, 6, 5] (by simp) ?_ ?_
    · simp -dsimp -implicitDefEqProofs [mapL_zero]
    intro m j2 hm
    simp -dsimp -implicitDefEqProofs
    refine ifD_in (fun hlt => ?_) (fun hge => ?_)
    · refine Exists.elim (show ∃ q, p.way[m]? = some q from ⟨_, List.getElem?_eq_getElem hlt⟩) fun q hq => ?_
      refine Exists.elim (hours_S (k := i) hq) fun L W => ?_
      have hL := W.1.symm
      have c1 := W.2.1
      have c2 : m * 3 + 1 + 2 ≤ (rws fPs L).length := by have := W.2.2.1; omega
      have c3 := W.2.2.2
      have hb := hpl q (List.mem_of_getElem? hq)
      have wl : IntKind.i64.wrap (q.hours.lo + i) = q.hours.lo + i := wrap_in (by omega) (by omega)
      have wh : IntKind.i64.wrap (q.hours.hi + i) = q.hours.hi + i := wrap_in (by omega) (by omega)
      have wm : IntKind.i64.wrap ((m : Int) + 1) = (m : Int) + 1 := wrap_in (by omega) (by omega)
      simp -dsimp -implicitDefEqProofs [indexA_sl, hlt, hL, c1, c2, c3, wl, wh, wm]
      refine again_in (m + 1) [0, 1, 2, 3, 4, 5, 6] (by omega) (by omega) ?_
      simp -dsimp -implicitDefEqProofs
    have hmw : m = p.way.length := by omega
    refine Exists.elim (show ∃ W, W = p.way.map (shP i) from ⟨_, rfl⟩) fun W hW => ?_
    have hWl : W.length = p.way.length := by rw [hW]; simp
    have hWm : mapL (shP i) p.way p.way.length = W := by rw [hW]; exact mapL_all
    have hz : ∀ h : H, h.get 6 = some (rws fPs W) → fzv h 6 (.sl 6 0 p.way.length 3) = .ro false 3 (W.map fPs) := fun h hg => fzv_hit hg hWl fPs_len (fun _ => rfl)
    refine Exists.elim (show ∃ a b c d e, a = (decide (safE s (pgS p i) = 0) && sure s (pgS p i)) ∧ b = (decide (safE s (pgS p i) = 0) && poss s (pgS p i)) ∧ c = (if safE s (pgS p i) = 0 then (lsD (pgS p i)).pass else 0) ∧ d = (if safE s (pgS p i) = 0 then (lsD (pgS p i)).hour else 0) ∧ e = safE s (pgS p i) from ⟨_, _, _, _, _, rfl, rfl, rfl, rfl, rfl⟩) fun ga h => Exists.elim h fun gb h => Exists.elim h fun gc h => Exists.elim h fun gd h => Exists.elim h fun ge h => ?_
    have k1 := h.1
    have k2 := h.2.1
    have k3 := h.2.2.1
    have k4 := h.2.2.2.1
    have k5 := h.2.2.2.2
    clear h
    refine Exists.elim (show ∃ yy : AV, yy = .tup [B ga, B gb, I gc, I gd, I ge] from ⟨_, rfl⟩) fun yy hyy => ?_
    have cSi : ∀ h, Fn Tryz.prog 31 [.agg [I u.a, .ro (isz u.ss.length) 5 (u.ss.map fSec)], .ro false 1 (l.map fun n => [I n]), .agg [I b.lo, I b.hi], .agg [.ro false 9 (p.f.r.rs.map fR), .ro false 6 (p.f.r.ss.map fS), .ro false 1 (p.f.sides.map fL), .ro false 3 (W.map fPs), I p.keel]] h yy h := fun h => by
      rw [hyy, k1, k2, k3, k4, k5, hW]
      exact cS i (isz u.ss.length) false false h
    have hgE : safE s (pgS p i) = pgE (pgS p i) := by unfold safE; rw [if_neg (by omega)]
    have hg3 := pgE_late op (k := (i : Nat)) (by omega)
    simp -dsimp -implicitDefEqProofs [hmw, hWm]
    refine exitZ_fz 6 ?_
    simp -dsimp -implicitDefEqProofs
    refine DrawR.on {} (by kernel_rfl) (by simp) ?_
    simp -dsimp -implicitDefEqProofs [hz]
    refine onCallQ_all cO ?_
    simp -dsimp -implicitDefEqProofs [hz]
    refine onCallQ_all cN ?_
    simp -dsimp -implicitDefEqProofs [hz]
    refine onCallQ_all cSi ?_
    refine (Classical.em (pgE (pgS p i) = 0)).elim (fun g0 => ?_) (fun g0 => ?_)
    rotate_left
    · have g3 : ge = 3 := by rw [k5, hgE]; exact hg3.resolve_left g0
      have hK := latK_at (x := s) hp hi (.inl g0)
      simp -dsimp -implicitDefEqProofs [hyy, g3, q2]
      refine onCall_in (known_fn.beside rfl _) ?_
      simp -dsimp -implicitDefEqProofs
    have g4 : ge = 0 := by rw [k5, hgE]; exact g0
    refine (Bool.eq_false_or_eq_true (sure s (pgS p i))).elim (fun gs => ?_) (fun gs => ?_)
    · have hK := latK_at (x := s) hp hi (.inr gs)
      have g5 : ga = true := by rw [k1, hgE, g0, gs]; rfl
      have hbad : latE s p = 0 := by rw [hlE, hK, if_pos g0]
      exact absurd hA (by omega)
    have g5 : ga = false := by rw [k1, hgE, g0, gs]; rfl
    have hne : i ≠ latK s p := fun he => by
      rcases (latK_is (x := s) hp).1 with h1 | h1
      · exact h1 (by rw [← he]; exact g0)
      · rw [← he, gs] at h1; exact absurd h1 (by simp)
    simp -dsimp -implicitDefEqProofs [hyy, g4, g5, w1]
    refine again_in (i + 1) [0, 1, 2, 3, 4] (by omega) (by omega) ?_
    simp -dsimp -implicitDefEqProofs
end Go.Pe

/- Small numbers that a law is given. -/
namespace Go.Pe
open Go Go.Proofs Go.Proofs.YtffckclggkjbgaaGreat
set_option maxRecDepth 100000
theorem open_b {n : Nat} {xs : List AV} (h : TyC Tryz.prog (n + 1) 5 xs) : ∃ m, xs = [U m] ∧ 0 ≤ m ∧ m ≤ 255 := by
  obtain ⟨m, e, h1, h2⟩ := TyC_at tsi5 h
  exact ⟨m, e, by simpa [IntKind.min, IntKind.signed] using h1, by simpa [IntKind.max, IntKind.signed, IntKind.bits] using h2⟩
theorem open_b2 {n : Nat} {xs : List AV} (h : TyC Tryz.prog (n + 2) 96 xs) : ∃ a b, xs = [U a, U b] ∧ (0 ≤ a ∧ a ≤ 255) ∧ 0 ≤ b ∧ b ≤ 255 := by
  obtain ⟨a, b, rfl, _, h1, a2, b2, rfl, _, h2, rfl⟩ := TyC_at tsi96 h
  obtain ⟨m1, rfl, p1⟩ := open_b h1
  obtain ⟨m2, rfl, p2⟩ := open_b h2
  exact ⟨m1, m2, rfl, p1, p2⟩
theorem open_b4 {n : Nat} {xs : List AV} (h : TyC Tryz.prog (n + 2) 95 xs) : ∃ q : Q4, xs = fQ q ∧ okQ q := by
  obtain ⟨a, b, rfl, _, h1, a2, b2, rfl, _, h2, a3, b3, rfl, _, h3, a4, b4, rfl, _, h4, rfl⟩ := TyC_at tsi95 h
  obtain ⟨m1, rfl, p1⟩ := open_b h1
  obtain ⟨m2, rfl, p2⟩ := open_b h2
  obtain ⟨m3, rfl, p3⟩ := open_b h3
  obtain ⟨m4, rfl, p4⟩ := open_b h4
  exact ⟨⟨m1, m2, m3, m4⟩, rfl, p1, p2, p3, p4⟩
theorem open_b5 {n : Nat} {xs : List AV} (h : TyC Tryz.prog (n + 2) 172 xs) : ∃ r : R5, xs = fR5 r ∧ r.Ok := by
  obtain ⟨a, b, rfl, _, h1, a2, b2, rfl, _, h2, a3, b3, rfl, _, h3, a4, b4, rfl, _, h4, a5, b5, rfl, _, h5, rfl⟩ := TyC_at tsi172 h
  obtain ⟨m1, rfl, p1⟩ := open_b h1
  obtain ⟨m2, rfl, p2⟩ := open_b h2
  obtain ⟨m3, rfl, p3⟩ := open_b h3
  obtain ⟨m4, rfl, p4⟩ := open_b h4
  obtain ⟨m5, rfl, p5⟩ := open_b h5
  exact ⟨⟨m1, m2, m3, m4, m5⟩, rfl, p1, p2, p3, p4, p5⟩
theorem open_b4s {n : Nat} {xs : List AV} (h : TyC Tryz.prog (n + 3) 99 xs) : ∃ x : List Q4, xs = [.ro false 4 (x.map fQ)] ∧ ∀ q ∈ x, okQ q := by
  obtain ⟨rows, rfl, h1, h2⟩ := TyC_at tsi99 h
  obtain ⟨l, rfl, h3⟩ := rows_map fQ okQ (rows := rows) (fun r hr => open_b4 (h2 r hr).2)
  exact ⟨l, by rw [show Tryz.prog.cellsOf 95 = 4 by kernel_rfl], h3⟩
theorem open_b5s {n : Nat} {xs : List AV} (h : TyC Tryz.prog (n + 3) 94 xs) : ∃ x : List R5, xs = [.ro false 5 (x.map fR5)] ∧ ∀ q ∈ x, q.Ok := by
  obtain ⟨rows, rfl, h1, h2⟩ := TyC_at tsi94 h
  obtain ⟨l, rfl, h3⟩ := rows_map fR5 R5.Ok (rows := rows) (fun r hr => open_b5 (h2 r hr).2)
  exact ⟨l, by rw [show Tryz.prog.cellsOf 172 = 5 by kernel_rfl], h3⟩
theorem open_sm {n : Nat} {xs : List AV} (h : TyC Tryz.prog (n + 4) 98 xs) : ∃ x : Sm, xs = smC x ∧ x.Ok := by
  obtain ⟨a, b, rfl, _, h1, a2, b2, rfl, _, h2, a3, b3, rfl, _, h3, a4, b4, rfl, _, h4, rfl⟩ := TyC_at tsi98 h
  obtain ⟨m1, rfl, p1⟩ := open_b h1
  obtain ⟨rs, rfl, p2⟩ := open_b5s h2
  obtain ⟨q, rfl, p3⟩ := open_b4 h3
  obtain ⟨d, d', rfl, p4, p5⟩ := open_b2 h4
  exact ⟨⟨m1, rs, q.a, q.b, q.c, q.d, d, d'⟩, rfl, p1, p2, p3.1, p3.2.1, p3.2.2.1, p3.2.2.2, p4, p5⟩
theorem open_sr {n : Nat} {xs : List AV} (h : TyC Tryz.prog (n + 4) 101 xs) : ∃ x : Sr, xs = stC x ∧ x.Ok := by
  obtain ⟨a, b, rfl, _, h1, a2, b2, rfl, _, h2, a3, b3, rfl, _, h3, a4, b4, rfl, _, h4, a5, b5, rfl, _, h5, a6, b6, rfl, _, h6, rfl⟩ := TyC_at tsi101 h
  obtain ⟨q1, rfl, p1⟩ := open_b4 h1
  obtain ⟨q2, rfl, p2⟩ := open_b4 h2
  obtain ⟨q3, rfl, p3⟩ := open_b4 h3
  obtain ⟨q4, rfl, p4⟩ := open_b4 h4
  obtain ⟨rs, rfl, p5⟩ := open_b4s h5
  obtain ⟨m, rfl, p6⟩ := open_b h6
  exact ⟨⟨q1, q2, q3, q4, rs, m⟩, rfl, p1, p2, p3, p4, p5, p6⟩
end Go.Pe
