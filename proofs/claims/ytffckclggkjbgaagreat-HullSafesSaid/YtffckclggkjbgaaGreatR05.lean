import Derived.Test.YtffckclggkjbgaaGreatR04
import Derived.Test.YtffckclggkjbgaaGreatM20
import Derived.Test.YtffckclggkjbgaaGreatM09
import Derived.Test.YtffckclggkjbgaaGreatRows
import Derived.ProofKit
import Derived.Test.YtffckclggkjbgaaGreatO05
import Derived.Test.YtffckclggkjbgaaGreatM21
set_option linter.unusedVariables false
set_option linter.unusedSimpArgs false
/- By how many hours to be later, as the reference says. -/
namespace Go.Pe
open Go Go.Proofs Go.Proofs.YtffckclggkjbgaaGreat
set_option maxRecDepth 20000
set_option maxHeartbeats 8000000
attribute [local simp] ts22 us22 ts24 us24 ts25 us25 ts29 us29 ts34 us34 ts39 us39 ts57 us57 ts156 us156 ts53 us53 ts64 us64
attribute [local simp] convA extA lenA
attribute [local simp] pgC_eq
theorem latK_le {x : Ld} {p : Pg} (h : pgE p = 0) : latK x p ≤ hrs p.f.sides := by
  have o := okP_of h
  have hx : stopL x p (hrs p.f.sides) := .inl fun he => by
    have hq := List.getElem_mem o.pos
    have h1 := (pgE_shift o (k := (hrs p.f.sides : Nat)) (by omega)).1 he _ hq
    have h2 := okP_hours o hq
    omega
  rcases Nat.lt_or_ge (hrs p.f.sides) (latK x p) with c | c
  · exact absurd hx ((latK_is h).2 _ c)
  · exact c
theorem latK_at {x : Ld} {p : Pg} {k : Nat} (h : pgE p = 0) (hk : k ≤ latK x p) (hs : stopL x p k) : latK x p = k := by
  rcases Nat.lt_or_ge k (latK x p) with c | c
  · exact absurd hs ((latK_is h).2 _ c)
  · omega
theorem rLater_fn {x : Ld} {p : Pg} {f1 f2 fw : Bool} {h : H} (hf : fltE x.u x.l x.b = 0) (hw : SmallF p.f) (hp : pgE p = 0) :
    Fn Tryz.prog 36 [.agg [I (mZ x.u x.l x.b.hi), I (mZ x.u x.l x.b.lo), I (dLo x), I (dHi x), I (sgn (mom x.u x.l))], .agg (pgC p f1 f2 fw)] h (I (if pgE (pgS p (latK x p)) = 0 then (latK x p : Int) else -1)) h := by
  refine Fn.beside ?_ rfl h
  refine Fn.ofR0 (butM []) (by kernel_rfl) Tryz.func36 rfl (by simp) ?_
  have op := okP_of hp
  have g := good_of hw op.st
  have hmax := g.hmax
  have hd := d_in hf
  have hpos := op.pos
  have hmx := op.max
  have hlk := latK_le (x := x) hp
  have hgr : ∀ b, growN b 3 p.way.length = .sl b 0 p.way.length 3 := fun b => growN_pos (by omega)
  refine Exists.elim (side0 g) fun s0 hs0 => ?_
  have s1 := hs0.1
  have s2 := hs0.2
  clear hs0
  simp -dsimp -implicitDefEqProofs
  refine LoopCR.on 62 (fun k => [(2, .ptr 0 0), (3, .ptr 1 0), (5, I (k : Nat))]) (fun k => [some [I (mZ x.u x.l x.b.hi), I (mZ x.u x.l x.b.lo), I (dLo x), I (dHi x), I (sgn (mom x.u x.l))], some (pgC p f1 f2 fw)])
    (fun k => k ≤ latK x p) (fun k => latK x p - k) 0 [0, 1] (by simp) ?_ ?_
  · simp -dsimp -implicitDefEqProofs
  intro k j hk
  have wk : IntKind.i64.wrap ((k : Int) + 1) = (k : Int) + 1 := wrap_in (by omega) (by omega)
  refine Exists.elim (show ∃ W, W = p.way.map (shP k) from ⟨_, rfl⟩) fun W hW => ?_
  have hWl : W.length = p.way.length := by rw [hW]; simp
  have cF : ∀ h, pgE (pgS p k) = 0 → Fn Tryz.prog 34 [.agg [I (mZ x.u x.l x.b.hi), I (mZ x.u x.l x.b.lo), I (dLo x), I (dHi x), I (sgn (mom x.u x.l))], .agg [p.f.r.reaches f1, p.f.r.shoals, sidesAV p.f.sides f2, .ro false 3 (W.map fPs), I p.keel]] h (.tup [B (sure x (pgS p k)), B (poss x (pgS p k))]) h := fun h hE => by
    rw [hW]; exact fits_fn (p := pgS p k) (fw := false) hw hE (by omega) (by omega)
  have hz : ∀ h : H, h.get 3 = some (rws fPs W) → fzv h 3 (.sl 3 0 p.way.length 3) = .ro false 3 (W.map fPs) := fun h hg => fzv_hit hg hWl fPs_len (fun _ => rfl)
  simp -dsimp -implicitDefEqProofs
  refine LoopCR.onZ 62 (fun i => [(2, .ptr 0 0), (3, .ptr 1 0), (5, I (k : Nat)), (6, .ptr 2 0), (7, I (i : Nat))]) (fun i => [some [I (mZ x.u x.l x.b.hi), I (mZ x.u x.l x.b.lo), I (dLo x), I (dHi x), I (sgn (mom x.u x.l))], some (pgC p f1 f2 fw), some [p.f.r.reaches f1, p.f.r.shoals, sidesAV p.f.sides f2, growN 3 3 i, I p.keel], grown i (rws fPs (W.take i))])
    (fun i => i ≤ p.way.length ∧ ∀ (m : Nat) (q : Ps), m < i → p.way[m]? = some q → q.hours.hi + k < hrs p.f.sides) (fun i => p.way.length - i) 0 [0, 1, 2, 99] ⟨by simp, fun m q hm => by omega⟩ ?_ ?_
  · simp -dsimp -implicitDefEqProofs
  rintro i j2 ⟨hi, hno⟩
  simp -dsimp -implicitDefEqProofs
  refine ifD_in (fun hlt => ?_) (fun hge => ?_)
  · refine Exists.elim (show ∃ q, p.way[i]? = some q from ⟨_, List.getElem?_eq_getElem hlt⟩) fun q hq => ?_
    have hqh := okP_hours op (List.mem_of_getElem? hq)
    have w1 : IntKind.i64.wrap ((i : Int) + 1) = (i : Int) + 1 := wrap_in (by omega) (by omega)
    have w2 : IntKind.i64.wrap (q.hours.lo + k) = q.hours.lo + k := wrap_in (by omega) (by omega)
    have w3 : IntKind.i64.wrap (q.hours.hi + k) = q.hours.hi + k := wrap_in (by omega) (by omega)
    have hst : W.take (i + 1) = W.take i ++ [shP k q] := by rw [List.take_add_one, hW, List.getElem?_map, hq]; rfl
    simp -dsimp -implicitDefEqProofs [hq, w2, w3]
    refine DrawR.on {} (by kernel_rfl) (by simp) ?_
    simp -dsimp -implicitDefEqProofs [s1, s2]
    refine ifD_in (fun hbig => ?_) (fun hsm => ?_)
    · have hE : pgE (pgS p k) ≠ 0 := fun hE => by
        have := (pgE_shift op (k := (k : Nat)) (by omega)).1 hE q (List.mem_of_getElem? hq)
        omega
      have e := latK_at (x := x) hp hk (.inl hE)
      have e2 : (pgE (pgS p k) = 0) = False := eq_false hE
      simp -dsimp -implicitDefEqProofs
      refine exitZ_in ?_
      simp -dsimp -implicitDefEqProofs [e, e2]
    · have hstep : ∀ (m : Nat) (q : Ps), m < i + 1 → p.way[m]? = some q → q.hours.hi + k < hrs p.f.sides := fun m q' hm hq2 => by
        by_cases hmi : m = i
        · subst hmi; rw [hq] at hq2; cases hq2; omega
        · exact hno m q' (by omega) hq2
      simp -dsimp -implicitDefEqProofs
      refine on_appendN fPs (W.take i) (shP k q) (by simp) (by rw [List.length_take]; omega) (show (i + 1) * 24 ≤ 70368744177664 by omega) (by omega) rfl rfl (by simp) rfl (fun _ => rfl) ?_ (by simp)
      simp -dsimp -implicitDefEqProofs [w1]
      refine again_in (i + 1) [0, 1, 2, 14] ⟨by omega, hstep⟩ (by omega) ?_
      simp -dsimp -implicitDefEqProofs [hst]
  have hin : i = p.way.length := by omega
  have hWt : W.take p.way.length = W := List.take_of_length_le (by omega)
  have hE : pgE (pgS p k) = 0 := (pgE_shift op (by omega)).2 fun q hq => by
    obtain ⟨m, hm, rfl⟩ := List.getElem_of_mem hq
    exact hno m _ (by omega) (List.getElem?_eq_getElem hm)
  have hgn : grown p.way.length (rws fPs W) = some (rws fPs W) := by unfold grown; rw [if_neg (by omega)]
  simp -dsimp -implicitDefEqProofs [hin, hWt, hgr, hgn]
  refine exitZ_fz 3 ?_
  simp -dsimp -implicitDefEqProofs [hz]
  refine onCall_in (cF _ hE) ?_
  simp -dsimp -implicitDefEqProofs
  refine ifB_in (fun hs => ?_) (fun hs => ?_)
  · have e := latK_at (x := x) hp hk (.inr hs)
    simp -dsimp -implicitDefEqProofs [e, hE]
  · have hne : k ≠ latK x p := fun he => by
      rcases (latK_is (x := x) hp).1 with h1 | h1
      · exact h1 (by rw [← he]; exact hE)
      · rw [← he, hs] at h1; exact absurd h1 (by simp)
    simp -dsimp -implicitDefEqProofs [wk]
    refine again_in (k + 1) [0, 1] (by omega) (by omega) ?_
    simp -dsimp -implicitDefEqProofs
end Go.Pe

/- The law HullSafes. -/
namespace Go.Pe
open Go Go.Proofs Go.Proofs.YtffckclggkjbgaaGreat
set_option maxRecDepth 20000
set_option maxHeartbeats 8000000
attribute [local simp] ts22 us22 ts24 us24 ts25 us25 ts29 us29 ts34 us34 ts39 us39 ts57 us57 ts156 us156 ts53 us53 ts64 us64
attribute [local simp] convA extA lenA
attribute [local simp] pgC_eq loadAV_eq neq77
theorem hs_big {x : Ld} {p : Pg} (hg : greatF x.u = true ∨ 20 < x.l.length ∨ wideF p = true) : Fn Tryz.prog 4 [.agg [I x.u.a, .ro false 5 (x.u.ss.map fSec), loadAV false x.l, I x.b.lo, I x.b.hi], .agg (pgC p false false false)] .nil (B true) .nil := by
  refine Fn.ofR0 noM (by kernel_rfl) Tryz.func4 rfl (by simp) ?_
  have cG : ∀ h, Fn Tryz.prog 15 [.agg [I x.u.a, .ro false 5 (x.u.ss.map fSec)]] h (B (greatF x.u)) h := fun h => great_fn (u := x.u)
  have cW : ∀ h, Fn Tryz.prog 29 [.agg (pgC p false false false)] h (B (wideF p)) h := fun h => wide_fn
  simp only [pgC_eq] at cW
  simp -dsimp -implicitDefEqProofs
  refine onCall_in (cG _) ?_
  simp -dsimp -implicitDefEqProofs
  refine ifB_in (fun h1 => ?_) (fun h1 => ?_)
  · simp -dsimp -implicitDefEqProofs
    refine onCall_in (known_fn.beside rfl _) ?_
    simp -dsimp -implicitDefEqProofs
  simp -dsimp -implicitDefEqProofs
  refine ifD_in (fun h2 => ?_) (fun h2 => ?_)
  · simp -dsimp -implicitDefEqProofs
    refine onCall_in (known_fn.beside rfl _) ?_
    simp -dsimp -implicitDefEqProofs
  have hw : wideF p = true := by
    rcases hg with h | h | h
    · rw [h1] at h; exact absurd h (by simp)
    · omega
    · exact h
  simp -dsimp -implicitDefEqProofs
  refine onCall_in (cW _) ?_
  simp -dsimp -implicitDefEqProofs [hw]
  refine onCall_in (known_fn.beside rfl _) ?_
  simp -dsimp -implicitDefEqProofs
theorem hs_law {x : Ld} {p : Pg} (hu : SmallU x.u) (hg : greatF x.u = false) (hl : x.l.length ≤ 20) (hw : WOk p) : Fn Tryz.prog 4 [.agg [I x.u.a, .ro false 5 (x.u.ss.map fSec), loadAV false x.l, I x.b.lo, I x.b.hi], .agg (pgC p false false false)] .nil (B true) .nil := by
  refine Fn.ofR0 noM (by kernel_rfl) Tryz.func4 rfl (by simp) ?_
  have d1 : decide ((20 : Int) < (x.l.length : Int)) = false := decide_eq_false (by omega)
  have hwl : p.way.length ≤ 1000 := by have := hw.w; omega
  have hwy := hw.w
  have cG : ∀ h, Fn Tryz.prog 15 [.agg [I x.u.a, .ro false 5 (x.u.ss.map fSec)]] h (B false) h := fun h => by have := great_fn (u := x.u) (h := h); rwa [hg] at this
  have cW : ∀ h, Fn Tryz.prog 29 [.agg (pgC p false false false)] h (B false) h := fun h => by have := wide_fn (p := p) (f1 := false) (f2 := false) (fw := false) (h := h); rwa [wide_not hw] at this
  have cY : ∀ h, Fn Tryz.prog 30 [.agg (pgC p false false false)] h (.agg (pgC p (isz p.f.r.rs.length) (isz p.f.sides.length) false)) h := fun h => way_fn hw
  have cO : ∀ h, Fn Tryz.prog 17 [.agg [I x.u.a, .ro false 5 (x.u.ss.map fSec)]] h (.agg [I x.u.a, .ro (isz x.u.ss.length) 5 (x.u.ss.map fSec)]) h := fun h => own_is hu
  have cN : ∀ h, Fn Tryz.prog 18 [loadAV false x.l] h (loadAV false x.l) h := fun h => numbers_fn (by omega)
  have cS : ∀ g1 g2 f1 f2 fw h, Fn Tryz.prog 31 [.agg [I x.u.a, .ro g1 5 (x.u.ss.map fSec)], loadAV g2 x.l, .agg [I x.b.lo, I x.b.hi], .agg (pgC p f1 f2 fw)] h
      (.tup [B (decide (safE x p = 0) && sure x p), B (decide (safE x p = 0) && poss x p), I (if safE x p = 0 then (lsD p).pass else 0), I (if safE x p = 0 then (lsD p).hour else 0), I (safE x p)]) h := fun g1 g2 f1 f2 fw h => Safe_fn hu (by omega) hw.small hwl
  have cT : ∀ g1 g2 f1 f2 fw h, Fn Tryz.prog 32 [.agg [I x.u.a, .ro g1 5 (x.u.ss.map fSec)], loadAV g2 x.l, .agg [I x.b.lo, I x.b.hi], .agg (pgC p f1 f2 fw)] h
      (.tup [I (if latE x p = 0 then (latK x p : Int) else 0), I (latE x p)]) h := fun g1 g2 f1 f2 fw h => Later_fn hu (by omega) hw.small hwl
  have cB : ∀ h, Fn Tryz.prog 33 [.agg [I x.u.a, .ro false 5 (x.u.ss.map fSec), loadAV false x.l, I x.b.lo, I x.b.hi], .agg (pgC p false false false)] h (.tup [.agg (floatR x.u x.l x.b), I (safE x p)]) h := fun h => start_fn hu (by omega) hw.small hwl
  simp only [pgC_eq, loadAV_eq] at cW cY cN cS cT cB
  simp -dsimp -implicitDefEqProofs
  refine onCall_in (cG _) ?_
  simp -dsimp -implicitDefEqProofs [d1]
  refine onCall_in (cW _) ?_
  simp -dsimp -implicitDefEqProofs
  refine onCall_in (cY _) ?_
  simp -dsimp -implicitDefEqProofs
  refine DrawR.on {} (by kernel_rfl) (by simp) ?_
  simp -dsimp -implicitDefEqProofs
  refine onCallQ_in (cO _) ?_
  simp -dsimp -implicitDefEqProofs
  refine onCallQ_in (cN _) ?_
  simp -dsimp -implicitDefEqProofs
  refine onCallQ_in (cS _ _ _ _ _ _) ?_
  simp -dsimp -implicitDefEqProofs
  refine DrawR.on {} (by kernel_rfl) (by simp) ?_
  simp -dsimp -implicitDefEqProofs
  refine onCallQ_in (cO _) ?_
  simp -dsimp -implicitDefEqProofs
  refine onCallQ_in (cN _) ?_
  simp -dsimp -implicitDefEqProofs
  refine onCallQ_in (cT _ _ _ _ _ _) ?_
  refine Exists.elim (show ∃ lv le, lv = (if latE x p = 0 then (latK x p : Int) else 0) ∧ le = latE x p from ⟨_, _, rfl, rfl⟩) fun lv h => Exists.elim h fun le h => ?_
  have hlv := h.1
  have hle := h.2
  clear h
  rw [← hlv, ← hle]
  refine Exists.elim (show ∃ a b c d e, a = (decide (safE x p = 0) && sure x p) ∧ b = (decide (safE x p = 0) && poss x p) ∧ c = (if safE x p = 0 then (lsD p).pass else 0) ∧ d = (if safE x p = 0 then (lsD p).hour else 0) ∧ e = safE x p from ⟨_, _, _, _, _, rfl, rfl, rfl, rfl, rfl⟩) fun va h => Exists.elim h fun vb h => Exists.elim h fun vc h => Exists.elim h fun vd h => Exists.elim h fun ve h => ?_
  have e1 := h.1
  have e2 := h.2.1
  have e3 := h.2.2.1
  have e4 := h.2.2.2.1
  have e5 := h.2.2.2.2
  clear h
  rw [← e1, ← e2, ← e3, ← e4, ← e5]
  simp -dsimp -implicitDefEqProofs
  refine LoopCR.on 180 (fun i => [(2, .ptr 0 0), (3, .ptr 1 0), (5, .ptr 2 0), (6, B va), (7, B vb), (8, I vc), (9, I vd), (10, I ve), (11, I lv), (12, I le), (13, I (i : Nat))]) (fun i => [some [I x.u.a, .ro false 5 (x.u.ss.map fSec), loadAV false x.l, I x.b.lo, I x.b.hi], some (pgC p false false false), some (pgC p (isz p.f.r.rs.length) (isz p.f.sides.length) false)])
    (fun i => i ≤ p.way.length) (fun i => p.way.length - i) 0 [0, 1, 2] (by simp) ?_ ?_
  · simp -dsimp -implicitDefEqProofs
  intro i j hi
  simp -dsimp -implicitDefEqProofs
  refine ifD_in (fun hlt => ?_) (fun hge => ?_)
  · refine Exists.elim (show ∃ q, p.way[i]? = some q from ⟨_, List.getElem?_eq_getElem hlt⟩) fun q hq => ?_
    have w1 : IntKind.i64.wrap ((i : Int) + 1) = (i : Int) + 1 := wrap_in (by omega) (by omega)
    simp -dsimp -implicitDefEqProofs
    refine DrawR.on {} (by kernel_rfl) (by simp) ?_
    simp -dsimp -implicitDefEqProofs [hq, w1]
    refine again_in (i + 1) [0, 1, 2] (by omega) (by omega) ?_
    simp -dsimp -implicitDefEqProofs
  simp -dsimp -implicitDefEqProofs
  refine onCall_in (cB _) ?_
  refine (Classical.em (safE x p = 0)).elim (fun hE => ?_) (fun hE => ?_)
  rotate_left
  · have n1 : (safE x p != 0) = true := by simpa using hE
    have a1 : va = false := by rw [e1]; simp [hE]
    have a2 : vb = false := by rw [e2]; simp [hE]
    have a3 : vc = 0 := by rw [e3, if_neg hE]
    have a4 : vd = 0 := by rw [e4, if_neg hE]
    have a5 : latE x p = safE x p := by unfold latE; rw [if_pos hE]
    have a6 : le = safE x p := by rw [hle, a5]
    have a7 : lv = 0 := by rw [hlv, a5, if_neg hE]
    refine Exists.elim (show ∃ r1 r2 r3 r4 r5 : Int, floatR x.u x.l x.b = [I r1, I r2, I r3, I r4, I r5] by
      unfold floatR
      split
      · exact ⟨_, _, _, _, _, floatC_eq⟩
      · exact ⟨_, _, _, _, _, rfl⟩) fun r1 h => Exists.elim h fun r2 h => Exists.elim h fun r3 h => Exists.elim h fun r4 h => Exists.elim h fun r5 hr => ?_
    clear h
    simp -dsimp -implicitDefEqProofs [hr, n1, a1, a2, a3, a4, a6, a7, e5]
    refine onCall_in (known_fn.beside rfl _) ?_
    simp -dsimp -implicitDefEqProofs
  have hfp : fltE x.u x.l x.b = 0 ∧ pgE p = 0 := by
    have h := hE
    unfold safE at h
    split at h
    · rename_i c; exact absurd h c
    · rename_i c; exact ⟨by simpa using c, h⟩
  have hf := hfp.1
  have hp := hfp.2
  have hR := floatR_ok hf
  have hd := d_in hf
  have a1 : va = sure x p := by rw [e1]; simp [hE]
  have a2 : vb = poss x p := by rw [e2]; simp [hE]
  have a3 : vc = (lsD p).pass := by rw [e3, if_pos hE]
  have a4 : vd = (lsD p).hour := by rw [e4, if_pos hE]
  have a5 : latE x p = if pgE (pgS p (latK x p)) = 0 then 0 else 7 := by unfold latE; rw [if_neg (by omega)]
  have b1 : (sure x p != sure x p) = false := by simp
  have b2 : (poss x p != poss x p) = false := by simp
  have b3 : ((lsD p).pass != (lsD p).pass) = false := by simp
  have b4 : ((lsD p).hour != (lsD p).hour) = false := by simp
  have cI : ∀ h, Fn Tryz.prog 34 [.agg [I (mZ x.u x.l x.b.hi), I (mZ x.u x.l x.b.lo), I (dLo x), I (dHi x), I (sgn (mom x.u x.l))], .agg (pgC p false false false)] h (.tup [B (sure x p), B (poss x p)]) h := fun h => fits_fn hw.small hp (by omega) (by omega)
  have cH : ∀ h, Fn Tryz.prog 35 [.agg (pgC p false false false)] h (.tup [.agg [I (lsD p).lo, I (lsD p).hi], I (lsD p).pass, I (lsD p).hour]) h := fun h => shallowest_fn hw.small hp
  have cR : ∀ h, Fn Tryz.prog 36 [.agg [I (mZ x.u x.l x.b.hi), I (mZ x.u x.l x.b.lo), I (dLo x), I (dHi x), I (sgn (mom x.u x.l))], .agg (pgC p false false false)] h (I (if pgE (pgS p (latK x p)) = 0 then (latK x p : Int) else -1)) h := fun h => rLater_fn hf hw.small hp
  simp only [pgC_eq] at cI cH cR
  simp -dsimp -implicitDefEqProofs [hE, hR, a1, a2, a3, a4, e5]
  refine onCall_in (cI _) ?_
  simp -dsimp -implicitDefEqProofs [b1, b2]
  refine onCall_in (cH _) ?_
  simp -dsimp -implicitDefEqProofs [b3, b4]
  refine onCall_in (cR _) ?_
  refine (Classical.em (pgE (pgS p (latK x p)) = 0)).elim (fun hk => ?_) (fun hk => ?_)
  · have a6 : le = 0 := by rw [hle, a5, if_pos hk]
    have a7 : lv = latK x p := by rw [hlv, ← hle, a6]; rfl
    have n2 : decide (0 ≤ (latK x p : Int)) = true := decide_eq_true (by omega)
    simp -dsimp -implicitDefEqProofs [hk, a6, a7, n2]
    refine onCall_in (known_fn.beside rfl _) ?_
    simp -dsimp -implicitDefEqProofs
  · have a6 : le = 7 := by rw [hle, a5, if_neg hk]
    have a7 : lv = 0 := by rw [hlv, ← hle, a6]; rfl
    simp -dsimp -implicitDefEqProofs [hk, a6, a7]
    refine onCall_in (known_fn.beside rfl _) ?_
    simp -dsimp -implicitDefEqProofs
end Go.Pe

namespace Go.Proofs.YtffckclggkjbgaaGreat
open Go Go.ChangeShapes Go.WideShapes Go.ChangeAt Go.RowKit
set_option linter.unusedVariables false
theorem own4 : ownKnob Tryz.prog.godebug = none := by kernel_rfl
set_option maxRecDepth 100000 in
theorem lifted4 (hlaw : ∀ ys, Go.Pe.TyVs Tryz.prog 20 [29, 57] ys → ∃ h', Go.Pe.Fn Tryz.prog 4 ys .nil (.val (.bool true)) h') (os : Os) (started : os.Started) (H : Type) (enc : TypeId × Value → H) :
    ReturnsInHanded {} Tryz.checked os 4 .any (Rows.hullSafesSpec.pre6 enc Tryz.prog Tryz.f4 Rows.hullSafesRow.domain false) (Rows.hullSafesSpec.post enc Tryz.prog Tryz.f4 false true false false) := by
  refine returnsInHanded_of_change (C := Tryz.checked) own4 started (by kernel_rfl) Tryz.func4
    (ChangeSpec.witness6 (enc := enc) (C := Tryz.checked) false ⟨#[], #[.agg #[.int .i64 0, .slice none 0 0, .slice none 0 0, .int .i64 0, .int .i64 0], .agg #[.slice none 0 0, .slice none 0 0, .slice none 0 0, .slice none 0 0, .int .i64 0]], []⟩ 8 (by kernel_rfl) (by kernel_rfl) (by kernel_rfl) (by kernel_rfl)) ?_
  intro W base args ds gs before hval hW _ _
  exact Go.Pe.law_contract (s := Rows.hullSafesSpec) (ts := [29, 57]) (tb := 4) 20 (by rw [Tryz.params4]) (by kernel_rfl) (by kernel_rfl) (by kernel_rfl) (by kernel_rfl) Tryz.underlying4 rfl
    (fun ds hd => by match ds, hd with | [d1, d2], _ => rfl) hlaw W base args ds gs before hval hW
theorem holds4 (hlaw : ∀ ys, Go.Pe.TyVs Tryz.prog 20 [29, 57] ys → ∃ h', Go.Pe.Fn Tryz.prog 4 ys .nil (.val (.bool true)) h') : Rows.HullSafesSaid :=
  OpenClaim.holds_of_wide 4 Tryz.f4 rfl rfl rfl rfl rfl rfl rfl ⟨rfl, rfl, rfl, rfl, rfl⟩ rfl rfl rfl rfl rfl (by kernel_rfl) Tryz.func4 (by kernel_rfl)
    (of_decide_eq_true (by kernel_rfl)) (by unfold Func.isWrapper; first | (rw [if_pos (by decide +kernel)]; kernel_rfl) | (rw [if_neg (by decide +kernel)]; exact ⟨rfl, rfl⟩))
    (fun os started H enc _ => lifted4 hlaw os started H enc)
end Go.Proofs.YtffckclggkjbgaaGreat

namespace Go.Pe
open Go Go.Proofs Go.Proofs.YtffckclggkjbgaaGreat
set_option maxRecDepth 100000
theorem open_u8 {n : Nat} {xs : List AV} (h : TyC Tryz.prog (n + 1) 5 xs) : ∃ m, xs = [U m] ∧ 0 ≤ m ∧ m ≤ 255 := by
  obtain ⟨m, e, h1, h2⟩ := TyC_at ti5 h
  exact ⟨m, e, by simpa [IntKind.min, IntKind.signed] using h1, by simpa [IntKind.max, IntKind.signed, IntKind.bits] using h2⟩
theorem open_u8s {n : Nat} {xs : List AV} (h : TyC Tryz.prog (n + 2) 102 xs) : ∃ l : List Int, xs = [u8s l] ∧ l.length ≤ maxLen ∧ ∀ n ∈ l, 0 ≤ n ∧ n ≤ 255 := by
  obtain ⟨rows, rfl, h1, h2⟩ := TyC_at ti94 h
  obtain ⟨l, rfl, h3⟩ := rows_map (fun n => [U n]) (fun n => 0 ≤ n ∧ n ≤ 255) (rows := rows) (fun r hr => open_u8 (h2 r hr).2)
  exact ⟨l, by rw [show Tryz.prog.cellsOf 5 = 1 by kernel_rfl], by simpa using h1, h3⟩
end Go.Pe
