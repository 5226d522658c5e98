import Derived.Test.YtffckclggkjbgaaGreatO05
import Derived.Test.YtffckclggkjbgaaGreatO06
import Derived.Test.YtffckclggkjbgaaGreatM20
import Derived.Test.YtffckclggkjbgaaGreatM09
import Derived.Test.YtffckclggkjbgaaGreatRows
import Derived.ProofKit
set_option linter.unusedVariables false
set_option linter.unusedSimpArgs false
/- The reference's moment, trim, drafts and errors of a loaded hull. -/
namespace Go.Pe
open Go Go.Proofs Go.Proofs.YtffckclggkjbgaaGreat
set_option maxRecDepth 20000
set_option maxHeartbeats 8000000
attribute [local simp] t3 u3 t4 u4 t27 u27
attribute [local simp] ts22 us22 ts24 us24 ts72 us72 ts118 us118 ts120 us120 ts25 us25 ts75 us75 ts150 us150 ts224 us224 ts142 us142 ts140 us140 ts196 us196 ts34 us34 ts39 us39 ts198 us198 ts200 us200
attribute [local simp] convA extA lenA
attribute [local simp] fSec_eq fPt_eq loadAV_eq
/-- What the reference's functions want to know of a valid hull. -/
theorem okU_small {u : Hu} (hu : SmallU u) (o : OkU u) : (∀ s ∈ u.ss, 0 ≤ s.a ∧ s.a ≤ 1000) ∧ (∀ s ∈ u.ss, s.qs.length ≤ 8) ∧ (∀ s ∈ u.ss, ∀ q ∈ s.qs, 0 ≤ q.x ∧ q.x ≤ 1000) ∧ ∀ s ∈ u.ss, 0 < s.ps.length ∧ s.ps.length ≤ 25 := by
  refine ⟨fun s hs => by have := o.sec s hs; omega, fun s hs => (hu.p s hs).2, fun s hs q hq => ?_, fun s hs => by have := cv_len (o.sec s hs).2.2.2.1; omega⟩
  have h1 := (o.sec s hs).2.2.2.2 q hq
  have h2 := (o.sec s hs).1
  omega
theorem rLong_fn {u : Hu} {f1 : Bool} {h : H} (hu : SmallU u) (o : OkU u) : Fn Tryz.prog 67 [.agg [I u.a, .ro f1 5 (u.ss.map fSec)]] h (I (long u)) h := rLength_fn hu.n (okU_small hu o).1
theorem rHs_fn {u : Hu} {f1 : Bool} {h : H} (hu : SmallU u) (o : OkU u) : Fn Tryz.prog 37 [.agg [I u.a, .ro f1 5 (u.ss.map fSec)]] h (.ro (isz (hsU u).length) 2 ((hsU u).map fPt)) h := rHolds_fn hu.n (okU_small hu o).1 (okU_small hu o).2.1 (okU_small hu o).2.2.1
theorem rLim_fn {u : Hu} {f1 : Bool} {h : H} (hu : SmallU u) (o : OkU u) : Fn Tryz.prog 25 [.agg [I u.a, .ro f1 5 (u.ss.map fSec)]] h (I (lim u)) h := rLimit_fn hu.n (okU_small hu o).2.2.2
theorem rMoment_fn {u : Hu} {l : List Int} {f1 f3 : Bool} {h : H} (hu : SmallU u) (o : OkU u) (k : OkL u l) : Fn Tryz.prog 70 [.agg [I u.a, .ro f1 5 (u.ss.map fSec)], loadAV f3 l] h (I (mom u l)) h := by
  refine Fn.beside ?_ rfl h
  refine Fn.ofR0 noM (by kernel_rfl) Tryz.func70 rfl (by simp) ?_
  have hn := o.n
  have hh := hsU_len o
  have hlen := k.len
  have hL := long_in o
  simp -dsimp -implicitDefEqProofs
  refine DrawR.on {} (by kernel_rfl) (by simp) ?_
  simp -dsimp -implicitDefEqProofs
  refine onCallQ_in (rLong_fn hu o) ?_
  simp -dsimp -implicitDefEqProofs
  refine onCallQ_in (rHs_fn hu o) ?_
  simp -dsimp -implicitDefEqProofs
  refine LoopCR.on 69 (fun i => [(1, loadAV f3 l), (2, .ptr 0 0), (5, I (momI (long u) u.ss i)), (6, I (sumI Sec.a u.ss i)), (7, I (long u)), (8, .ro (isz (hsU u).length) 2 ((hsU u).map fPt)), (9, I (i : Nat))]) (fun i => [some [I u.a, .ro f1 5 (u.ss.map fSec)]]) (fun i => i ≤ u.ss.length) (fun i => u.ss.length - i) 0 [0] (by simp) ?_ ?_
  · simp -dsimp -implicitDefEqProofs [sumI, momI]
  intro i j hi
  simp -dsimp -implicitDefEqProofs
  refine ifD_in (fun hlt => ?_) (fun hge => ?_)
  · refine Exists.elim (show ∃ s, u.ss[i]? = some s from ⟨_, List.getElem?_eq_getElem hlt⟩) fun s hs => ?_
    have os := o.sec s (List.mem_of_getElem? hs)
    have w1 : IntKind.i64.wrap ((i : Int) + 1) = (i : Int) + 1 := wrap_in (by omega) (by omega)
    have ha := sumI_inm (f := Sec.a) (m := 100) (l := u.ss) (fun s hs => by have := o.sec s hs; omega) i hi
    have hmm := momI_in o i hi
    have v0 := wrap_in (n := 2 * sumI Sec.a u.ss i) (by omega) (by omega)
    have v1 := wrap_in (n := 2 * sumI Sec.a u.ss i + s.a) (by omega) (by omega)
    have v2 := wrap_in (n := 2 * sumI Sec.a u.ss i + s.a - long u) (by omega) (by omega)
    have p1 : (s.b * (2 * sumI Sec.a u.ss i + s.a - long u)).natAbs ≤ 10000 * 2000 := mul_in (by omega) (by omega)
    have w7 := wrap_in (n := s.b * (2 * sumI Sec.a u.ss i + s.a - long u)) (by omega) (by omega)
    have w8 : IntKind.i64.wrap (momI (long u) u.ss i + s.b * (2 * sumI Sec.a u.ss i + s.a - long u)) = momI (long u) u.ss (i + 1) := by rw [momI_succ hs]; exact wrap_in (by omega) (by omega)
    have w4 : IntKind.i64.wrap (sumI Sec.a u.ss i + s.a) = sumI Sec.a u.ss (i + 1) := by rw [sumI_succ hs]; exact wrap_in (by omega) (by omega)
    simp -dsimp -implicitDefEqProofs [hs, v0, v1, v2, w7, w8, w4, w1]
    refine again_in (i + 1) [0] (by omega) (by omega) ?_
    simp -dsimp -implicitDefEqProofs
  have hin : i = u.ss.length := by omega
  have hm0 : momI (long u) u.ss u.ss.length = moment u l 0 := rfl
  simp -dsimp -implicitDefEqProofs [hin, hm0]
  refine LoopCR.on 69 (fun i => [(1, loadAV f3 l), (2, .ptr 0 0), (5, I (moment u l i)), (7, I (long u)), (8, .ro (isz (hsU u).length) 2 ((hsU u).map fPt)), (11, I (i : Nat))]) (fun i => [some [I u.a, .ro f1 5 (u.ss.map fSec)]]) (fun i => i ≤ l.length) (fun i => l.length - i) 0 [0] (by simp) ?_ ?_
  · simp -dsimp -implicitDefEqProofs
  intro i j hi
  simp -dsimp -implicitDefEqProofs
  refine ifD_in (fun hlt => ?_) (fun hge => ?_)
  · refine Exists.elim (show ∃ n, l[i]? = some n from ⟨_, List.getElem?_eq_getElem hlt⟩) fun n hn => ?_
    refine Exists.elim (show ∃ p, (hsU u)[i]? = some p from ⟨_, List.getElem?_eq_getElem (by omega)⟩) fun p hp => ?_
    have hpi := hsU_in o (List.mem_of_getElem? hp)
    have w1 : IntKind.i64.wrap ((i : Int) + 1) = (i : Int) + 1 := wrap_in (by omega) (by omega)
    have e1 := ld_at hn
    have e2 : arm u i = 2 * p.x - long u := by unfold arm; rw [hp]
    have hl := lot_in o k i
    have hm := moment_in o k hi
    have hm' := moment_in o k (n := i + 1) (by omega)
    have s1 : moment u l (i + 1) = moment u l i + n * u.a * (2 * p.x - long u) := by rw [← e2, ← e1, Int.mul_comm (ld l i)]; rfl
    rw [e1, e2, Int.mul_comm u.a] at hl
    have v0 := wrap_in (n := 2 * p.x) (by omega) (by omega)
    have v1 := wrap_in (n := n * u.a) (by omega) (by omega)
    have v2 := wrap_in (n := 2 * p.x - long u) (by omega) (by omega)
    have v3 := wrap_in (n := n * u.a * (2 * p.x - long u)) (by omega) (by omega)
    have v4 : IntKind.i64.wrap (moment u l i + n * u.a * (2 * p.x - long u)) = moment u l (i + 1) := by rw [← s1]; exact wrap_in (by omega) (by omega)
    simp -dsimp -implicitDefEqProofs
    refine DrawR.on {} (by kernel_rfl) (by simp) ?_
    simp -dsimp -implicitDefEqProofs [hn, hp, v0, v1, v2, v3, v4, w1]
    refine again_in (i + 1) [0] (by omega) (by omega) ?_
    simp -dsimp -implicitDefEqProofs
  · have hin : i = l.length := by omega
    simp -dsimp -implicitDefEqProofs [hin, mom]
theorem rTrim_fn {u : Hu} {l : List Int} {f1 f3 : Bool} {h : H} (hu : SmallU u) (o : OkU u) (k : OkL u l) : Fn Tryz.prog 69 [.agg [I u.a, .ro f1 5 (u.ss.map fSec)], loadAV f3 l] h (I (trm u l)) h := by
  refine Fn.beside ?_ rfl h
  refine Fn.ofR0 noM (by kernel_rfl) Tryz.func69 rfl (by simp) ?_
  have hn := o.n
  have ht := trU_in o
  have hm := moment_in o k (n := l.length) (Nat.le_refl _)
  have hm' : (mom u l).natAbs ≤ 100000000 := hm
  have c1 : ∀ h, Fn Tryz.prog 108 [I (max (mom u l) (-mom u l)), I (4 * trU u)] h (I (trm u l)) h := fun h => rceil_fn (by omega) (by omega)
  have v1 := wrap_in (n := -mom u l) (by omega) (by omega)
  have v2 := wrap_in (n := 4 * trU u) (by omega) (by omega)
  simp -dsimp -implicitDefEqProofs
  refine onCall_in (rMoment_fn hu o k) ?_
  simp -dsimp -implicitDefEqProofs
  refine LoopCR.on 33 (fun i => [(2, .ptr 0 0), (5, I (sumI Sec.c u.ss i)), (6, I (mom u l)), (7, I (i : Nat))]) (fun i => [some [I u.a, .ro f1 5 (u.ss.map fSec)]]) (fun i => i ≤ u.ss.length) (fun i => u.ss.length - i) 0 [0] (by simp) ?_ ?_
  · simp -dsimp -implicitDefEqProofs [sumI]
  intro i j hi
  simp -dsimp -implicitDefEqProofs
  refine ifD_in (fun hlt => ?_) (fun hge => ?_)
  · refine Exists.elim (show ∃ s, u.ss[i]? = some s from ⟨_, List.getElem?_eq_getElem hlt⟩) fun s hs => ?_
    have os := o.sec s (List.mem_of_getElem? hs)
    have w1 : IntKind.i64.wrap ((i : Int) + 1) = (i : Int) + 1 := wrap_in (by omega) (by omega)
    have hb := sumI_inm (f := Sec.c) (m := 100000) (l := u.ss) (fun s hs => by have := o.sec s hs; omega) i hi
    have w4 : IntKind.i64.wrap (sumI Sec.c u.ss i + s.c) = sumI Sec.c u.ss (i + 1) := by rw [sumI_succ hs]; exact wrap_in (by omega) (by omega)
    simp -dsimp -implicitDefEqProofs [hs, w4, w1]
    refine again_in (i + 1) [0] (by omega) (by omega) ?_
    simp -dsimp -implicitDefEqProofs
  have hin : i = u.ss.length := by omega
  have ht0 : sumI Sec.c u.ss u.ss.length = trU u := rfl
  simp -dsimp -implicitDefEqProofs [hin, ht0, v1, v2]
  refine onCall_in (c1 _) ?_
  simp -dsimp -implicitDefEqProofs
/-- The mean draft with a density, or -1. -/
noncomputable def rMean (u : Hu) (l : List Int) (d : Int) : Int := if mZ u l d ≤ lim u then mZ u l d else -1
theorem rMean_fn {u : Hu} {l : List Int} {d : Int} {f1 f3 : Bool} {h : H} (hu : SmallU u) (o : OkU u) (k : OkL u l) (hd : 900 ≤ d ∧ d ≤ 1100) : Fn Tryz.prog 68 [.agg [I u.a, .ro f1 5 (u.ss.map fSec)], loadAV f3 l, I d] h (I (rMean u l d)) h := by
  refine Fn.beside ?_ rfl h
  refine Fn.ofR0 noM (by kernel_rfl) Tryz.func68 rfl (by simp) ?_
  have hm := mass_in o k (n := l.length) (Nat.le_refl _)
  have hli := lim_in o
  have v1 := wrap_in (n := mass u l l.length * 1000) (by omega) (by omega)
  refine Exists.elim (show ∃ nd, nd = cdiv (mass u l l.length * 1000) d from ⟨_, rfl⟩) fun nd hnd => ?_
  have hmz : mZ u l d = (firstN (fun d' => decide (nd ≤ vol u (d' : Nat))) ((lim u).toNat + 1) : Nat) := by rw [hnd]; rfl
  have c1 : ∀ h, Fn Tryz.prog 108 [I (mass u l l.length * 1000), I d] h (I nd) h := fun h => by rw [hnd]; exact rceil_fn (by omega) (by omega)
  simp -dsimp -implicitDefEqProofs
  refine onCall_in (rMass_fn o k) ?_
  simp -dsimp -implicitDefEqProofs [v1]
  refine onCall_in (c1 _) ?_
  simp -dsimp -implicitDefEqProofs
  refine LoopCR.on 27 (fun i => [(3, .ptr 0 0), (7, I nd), (8, I (i : Nat))]) (fun i => [some [I u.a, .ro f1 5 (u.ss.map fSec)]]) (fun i => (i : Int) ≤ lim u + 1 ∧ ∀ q : Nat, q < i → decide (nd ≤ vol u q) = false) (fun i => (lim u).toNat + 1 - i) 0 [0] ⟨by simp; omega, fun q hq => by omega⟩ ?_ ?_
  · simp -dsimp -implicitDefEqProofs
  rintro i j ⟨hi, hq⟩
  simp -dsimp -implicitDefEqProofs
  refine onCall_in (rLim_fn hu o) ?_
  simp -dsimp -implicitDefEqProofs
  refine ifD_in (fun hlt => ?_) (fun hge => ?_)
  · have w1 : IntKind.i64.wrap ((i : Int) + 1) = (i : Int) + 1 := wrap_in (by omega) (by omega)
    simp -dsimp -implicitDefEqProofs
    refine onCall_in (rVolume_fn (u := u) (d := i) o (by omega) hlt) ?_
    simp -dsimp -implicitDefEqProofs
    refine ifD_in (fun hv => ?_) (fun hv => ?_)
    · have e : firstN (fun d' => decide (nd ≤ vol u (d' : Nat))) ((lim u).toNat + 1) = i := firstN_eq ⟨by omega, hq, fun _ => decide_eq_true hv⟩
      have e2 : rMean u l d = i := by unfold rMean; rw [hmz, e, if_pos hlt]
      simp -dsimp -implicitDefEqProofs [e2]
    · simp -dsimp -implicitDefEqProofs [w1]
      refine again_in (i + 1) [0] ⟨by omega, fun q h1 => ?_⟩ (by omega) ?_
      · by_cases hqi : q = i
        · subst hqi; exact decide_eq_false hv
        · exact hq q (by omega)
      simp -dsimp -implicitDefEqProofs
  · have e : firstN (fun d' => decide (nd ≤ vol u (d' : Nat))) ((lim u).toNat + 1) = (lim u).toNat + 1 := firstN_eq ⟨by omega, fun q h1 => hq q (by omega), fun h => by omega⟩
    have e2 : rMean u l d = -1 := by unfold rMean; rw [hmz, e, if_neg (by omega)]
    simp -dsimp -implicitDefEqProofs [e2]
theorem rDensity_fn {b : Bd} {h : H} : Fn Tryz.prog 39 [.agg [I b.lo, I b.hi]] h (B (vB 900 1100 b)) h := by
  refine Fn.beside ?_ rfl h
  refine Fn.ofR0 noM (by kernel_rfl) Tryz.func39 rfl (by simp) ?_
  simp -dsimp -implicitDefEqProofs
  refine onCall_in (Valid2_fn.beside rfl _) ?_
  simp -dsimp -implicitDefEqProofs
end Go.Pe

/- The reference's word on valid hulls, errors of loads and drafts. -/
namespace Go.Pe
open Go Go.Proofs Go.Proofs.YtffckclggkjbgaaGreat
set_option maxRecDepth 20000
set_option maxHeartbeats 8000000
attribute [local simp] t3 u3 t4 u4 t27 u27
attribute [local simp] ts22 us22 ts24 us24 ts72 us72 ts118 us118 ts120 us120 ts25 us25 ts75 us75 ts150 us150 ts224 us224 ts142 us142 ts140 us140 ts196 us196 ts34 us34 ts39 us39 ts198 us198 ts200 us200
attribute [local simp] convA extA lenA
attribute [local simp] fSec_eq fPt_eq loadAV_eq floatC_eq neq150 neq75
theorem cdiv_le {n d q : Int} (hd : 0 < d) : cdiv n d ≤ q ↔ n ≤ q * d := by
  unfold cdiv
  have h := Int.ediv_lt_iff_lt_mul (a := n + d - 1) (b := q + 1) hd
  rw [Int.add_mul] at h
  omega
theorem cdiv_anti {n d d' : Int} (hn : 0 ≤ n) (hd : 0 < d) (hdd : d ≤ d') : cdiv n d' ≤ cdiv n d := by
  refine (cdiv_le (by omega)).2 ?_
  have h1 := (cdiv_le (n := n) (d := d) (q := cdiv n d) hd).1 (Int.le_refl _)
  have h2 := Int.mul_le_mul_of_nonneg_left hdd (cdiv_in hn hd).1
  omega
theorem cdiv_mono {n n' d : Int} (hd : 0 < d) (hn : n ≤ n') : cdiv n d ≤ cdiv n' d := by
  refine (cdiv_le hd).2 ?_
  have h1 := (cdiv_le (n := n') (d := d) (q := cdiv n' d) hd).1 (Int.le_refl _)
  omega
theorem meanZ_mono {u : Hu} {n n' : Int} (h : n ≤ n') : meanZ u n ≤ meanZ u n' := by
  have a := firstN_is (P := fun d => decide (n ≤ vol u (d : Nat))) (n := (lim u).toNat + 1)
  have b := firstN_is (P := fun d => decide (n' ≤ vol u (d : Nat))) (n := (lim u).toNat + 1)
  by_cases hlt : meanZ u n' < meanZ u n
  · have h1 := a.no _ hlt
    have h2 := b.hit (by have := a.le; unfold meanZ at hlt; omega)
    have h3 := of_decide_eq_false h1
    have h4 := of_decide_eq_true h2
    unfold meanZ at h3
    omega
  · omega
theorem mZ_anti {u : Hu} {l : List Int} {d d' : Int} (o : OkU u) (k : OkL u l) (hd : 0 < d) (hdd : d ≤ d') : mZ u l d' ≤ mZ u l d := by
  have hm := mass_in o k (n := l.length) (Nat.le_refl _)
  have := meanZ_mono (u := u) (cdiv_anti (n := mass u l l.length * 1000) (by omega) hd hdd)
  unfold mZ
  omega
theorem rFloat_fn {u : Hu} {l : List Int} {b : Bd} {f1 f3 : Bool} {h : H} (hu : SmallU u) (o : OkU u) (k : OkL u l) (hb : vB 900 1100 b = true) :
    Fn Tryz.prog 28 [.agg [I u.a, .ro f1 5 (u.ss.map fSec)], loadAV f3 l, .agg [I b.lo, I b.hi]] h (.tup [.agg (if mZ u l b.lo + trm u l ≤ lim u then floatC u l b else [I 0, I 0, I 0, I 0, I 0]), B (decide (mZ u l b.lo + trm u l ≤ lim u))]) h := by
  refine Fn.beside ?_ rfl h
  refine Fn.ofR0 noM (by kernel_rfl) Tryz.func28 rfl (by simp) ?_
  have hb' := vB_iff.1 hb
  have htm := trm_in o k
  have hz1 := mZ_in (l := l) (d := b.lo) o
  have hz2 := mZ_in (l := l) (d := b.hi) o
  have hli := lim_in o
  have hm : mZ u l b.hi ≤ mZ u l b.lo := mZ_anti o k (by omega) (by omega)
  simp -dsimp -implicitDefEqProofs
  refine DrawR.on {} (by kernel_rfl) (by simp) ?_
  simp -dsimp -implicitDefEqProofs
  refine onCallQ_in (rMean_fn hu o k (by omega)) ?_
  simp -dsimp -implicitDefEqProofs
  refine onCallQ_in (rMean_fn hu o k (by omega)) ?_
  simp -dsimp -implicitDefEqProofs
  refine onCallQ_in (rTrim_fn hu o k) ?_
  simp -dsimp -implicitDefEqProofs
  refine onCallQ_in (rMoment_fn hu o k) ?_
  refine (Classical.em (mZ u l b.lo ≤ lim u)).elim (fun hA => ?_) (fun hA => ?_)
  rotate_left
  · have e1 : rMean u l b.lo = -1 := by unfold rMean; rw [if_neg hA]
    have e2 : (mZ u l b.lo + trm u l ≤ lim u) = False := eq_false (by omega)
    simp -dsimp -implicitDefEqProofs [e1, e2]
  have e1 : rMean u l b.lo = mZ u l b.lo := by unfold rMean; rw [if_pos hA]
  have e3 : rMean u l b.hi = mZ u l b.hi := by unfold rMean; rw [if_pos (by omega)]
  have d0 : decide (mZ u l b.lo < 0) = false := decide_eq_false (by omega)
  have v2 := wrap_in (n := mZ u l b.lo + trm u l) (by omega) (by omega)
  have v3 := wrap_in (n := mZ u l b.hi + trm u l) (by omega) (by omega)
  simp -dsimp -implicitDefEqProofs [e1, d0, v2]
  refine onCall_in (rLim_fn hu o) ?_
  refine (Classical.em (mZ u l b.lo + trm u l ≤ lim u)).elim (fun hB => ?_) (fun hB => ?_)
  rotate_left
  · have e2 : (mZ u l b.lo + trm u l ≤ lim u) = False := eq_false hB
    have d1 : decide (lim u < mZ u l b.lo + trm u l) = true := decide_eq_true (by omega)
    simp -dsimp -implicitDefEqProofs [e2, d1]
  have e2 : (mZ u l b.lo + trm u l ≤ lim u) = True := eq_true hB
  have d1 : decide (lim u < mZ u l b.lo + trm u l) = false := decide_eq_false (by omega)
  simp -dsimp -implicitDefEqProofs [e2, d1, e3, v2, v3]
  refine ifD_in (fun hm1 => ?_) (fun hm1 => ?_)
  · have d2 : decide (0 < mom u l) = false := decide_eq_false (by omega)
    simp -dsimp -implicitDefEqProofs [d2, sgn, hm1]
    exact hB
  · simp -dsimp -implicitDefEqProofs
    refine ifD_in (fun hm2 => ?_) (fun hm2 => ?_)
    · simp -dsimp -implicitDefEqProofs [sgn, hm1, hm2]
      exact hB
    · simp -dsimp -implicitDefEqProofs [sgn, hm1, hm2]
      exact ⟨fun h => by omega, hB⟩
/-- What is known of the first rows of a curve that is tried row by row. -/
def cvTo (l : List Pt) (i : Nat) : Prop := (0 < i → ∃ p, l[0]? = some p ∧ p.x = 0 ∧ p.y = 0) ∧ upC l (i - 1) ∧ ∀ (k : Nat) (p : Pt), k < i → l[k]? = some p → (0 ≤ p.x ∧ p.x ≤ 1000) ∧ 0 ≤ p.y ∧ p.y ≤ 100000
theorem cvTo_all {l : List Pt} (hl : inB 2 20 l.length = true) (h : cvTo l l.length) : hullCv l = true := by
  have h2 := inB_iff.1 hl
  refine hullCv_iff.2 ⟨hl, h.1 (by omega), h.2.1, ?_⟩
  have hx := List.getElem?_eq_getElem (show l.length - 1 < l.length by omega)
  have := h.2.2 _ _ (show l.length - 1 < l.length by omega) hx
  exact ⟨_, hx, by omega, by omega⟩
theorem rSection_fn {s : Sec} {h : H} (hp : s.ps.length ≤ 25) (hq : s.qs.length ≤ 8) : Fn Tryz.prog 66 [.agg (fSec s)] h (B (secOk s)) h := by
  refine Fn.beside ?_ rfl h
  refine Fn.ofR0 noM (by kernel_rfl) Tryz.func66 rfl (by simp) ?_
  simp -dsimp -implicitDefEqProofs
  refine onCall_in In2_fn ?_
  simp -dsimp -implicitDefEqProofs
  refine ifB_in (fun h1 => ?_) (fun h1 => ?_)
  rotate_left
  · simp -dsimp -implicitDefEqProofs [secOk, h1]
  simp -dsimp -implicitDefEqProofs
  refine onCall_in In2_fn ?_
  simp -dsimp -implicitDefEqProofs
  refine ifB_in (fun h2 => ?_) (fun h2 => ?_)
  rotate_left
  · simp -dsimp -implicitDefEqProofs [secOk, h2]
  simp -dsimp -implicitDefEqProofs
  refine onCall_in In2_fn ?_
  simp -dsimp -implicitDefEqProofs
  refine ifB_in (fun h3 => ?_) (fun h3 => ?_)
  rotate_left
  · simp -dsimp -implicitDefEqProofs [secOk, h3]
  simp -dsimp -implicitDefEqProofs
  refine onCall_in In2_fn ?_
  simp -dsimp -implicitDefEqProofs
  refine ifB_in (fun h4 => ?_) (fun h4 => ?_)
  rotate_left
  · simp -dsimp -implicitDefEqProofs [secOk, hullCv, h4]
  have h4' := inB_iff.1 h4
  refine Exists.elim (show ∃ l, l = s.ps from ⟨_, rfl⟩) fun l hl => ?_
  have hsec : secOk s = (hullCv l && s.qs.all (holdOk s.a)) := by rw [hl]; simp [secOk, h1, h2, h3]
  have hav : fSec s = [I s.a, I s.b, I s.c, .ro false 2 (l.map fPt), .ro false 2 (s.qs.map fPt)] := by rw [hl]; rfl
  rw [← hl] at hp h4 h4'
  simp -dsimp -implicitDefEqProofs [hsec]
  refine LoopCR.on 127 (fun i => [(1, .ptr 0 0), (3, I (i : Nat))]) (fun i => [some [I s.a, I s.b, I s.c, .ro false 2 (l.map fPt), .ro false 2 (s.qs.map fPt)]]) (fun i => i ≤ l.length ∧ cvTo l i) (fun i => l.length - i) 0 [0] ⟨by simp, fun h => by omega, fun k p q hk => by omega, fun k p hk => by omega⟩ ?_ ?_
  · simp -dsimp -implicitDefEqProofs [hl]
  rintro i j ⟨hi, hu⟩
  simp -dsimp -implicitDefEqProofs
  refine ifD_in (fun hlt => ?_) (fun hge => ?_)
  rotate_left
  · have hin : i = l.length := by omega
    have hcv : hullCv l = true := cvTo_all h4 (by rw [← hin]; exact hu)
    simp -dsimp -implicitDefEqProofs [hcv]
    refine LoopCR.on 127 (fun i => [(1, .ptr 0 0), (4, I (i : Nat))]) (fun i => [some [I s.a, I s.b, I s.c, .ro false 2 (l.map fPt), .ro false 2 (s.qs.map fPt)]]) (fun i => i ≤ s.qs.length ∧ ∀ (k : Nat) (q : Pt), k < i → s.qs[k]? = some q → holdOk s.a q = true) (fun i => s.qs.length - i) 0 [0] ⟨by simp, fun k p hk => by omega⟩ ?_ ?_
    · simp -dsimp -implicitDefEqProofs
    rintro m jm ⟨hm, hok⟩
    simp -dsimp -implicitDefEqProofs
    refine ifD_in (fun hlt => ?_) (fun hge => ?_)
    rotate_left
    · have hall : s.qs.all (holdOk s.a) = true := List.all_eq_true.2 fun q hq => by
        obtain ⟨k, hk, rfl⟩ := List.getElem_of_mem hq
        exact hok k _ (by omega) (List.getElem?_eq_getElem hk)
      simp -dsimp -implicitDefEqProofs [hsec, hcv, hall]
    refine Exists.elim (show ∃ q, s.qs[m]? = some q from ⟨_, List.getElem?_eq_getElem hlt⟩) fun q hq2 => ?_
    have w1 : IntKind.i64.wrap ((m : Int) + 1) = (m : Int) + 1 := wrap_in (by omega) (by omega)
    have hbad : holdOk s.a q = false → s.qs.all (holdOk s.a) = false := fun hf => Bool.eq_false_iff.2 fun ht => by
      have := List.all_eq_true.1 ht q (List.mem_of_getElem? hq2)
      rw [hf] at this; exact absurd this (by simp)
    have hstep : holdOk s.a q = true → ∀ (k : Nat) (q : Pt), k < m + 1 → s.qs[k]? = some q → holdOk s.a q = true := fun ht k q' hk hk2 => by
      by_cases hkm : k = m
      · subst hkm; rw [hq2] at hk2; cases hk2; exact ht
      · exact hok k q' (by omega) hk2
    simp -dsimp -implicitDefEqProofs
    refine DrawR.on {} (by kernel_rfl) (by simp) ?_
    simp -dsimp -implicitDefEqProofs [hq2]
    refine onCallQ_in (In2_fn (n := q.x) (lo := 0) (hi := s.a)) ?_
    simp -dsimp -implicitDefEqProofs
    refine ifB_in (fun h5 => ?_) (fun h5 => ?_)
    rotate_left
    · have hf := hbad (by simp [holdOk, h5])
      simp -dsimp -implicitDefEqProofs [hsec, hcv, hf]
    simp -dsimp -implicitDefEqProofs [hq2]
    refine onCallQ_in (In2_fn (n := q.y) (lo := 0) (hi := 20)) ?_
    simp -dsimp -implicitDefEqProofs
    refine ifB_in (fun h6 => ?_) (fun h6 => ?_)
    rotate_left
    · have hf := hbad (by simp [holdOk, h6])
      simp -dsimp -implicitDefEqProofs [hsec, hcv, hf]
    have ht := hstep (by simp [holdOk, h5, h6])
    simp -dsimp -implicitDefEqProofs [w1]
    refine again_in (m + 1) [0] ⟨by omega, ht⟩ (by omega) ?_
    simp -dsimp -implicitDefEqProofs
  refine Exists.elim (show ∃ p, l[i]? = some p from ⟨_, List.getElem?_eq_getElem hlt⟩) fun p hp2 => ?_
  have w1 : IntKind.i64.wrap ((i : Int) + 1) = (i : Int) + 1 := wrap_in (by omega) (by omega)
  have bad : (hullCv l = true → False) → hullCv l = false := fun h => Bool.eq_false_iff.2 h
  have b1 : inB 0 1000 p.x = false → hullCv l = false := fun hf => bad fun ht => by
    have := cv_row ht hp2
    rw [inB_iff.2 this.1] at hf; exact absurd hf (by simp)
  have b2 : inB 0 100000 p.y = false → hullCv l = false := fun hf => bad fun ht => by
    have := cv_row ht hp2
    rw [inB_iff.2 this.2] at hf; exact absurd hf (by simp)
  have b3 : i = 0 → ¬ (p.x = 0 ∧ p.y = 0) → hullCv l = false := fun h0 hz => bad fun ht => by
    obtain ⟨_, ⟨p0, g1, g2⟩, _⟩ := hullCv_iff.1 ht
    rw [h0, g1] at hp2; cases hp2; exact hz g2
  have b4 : ∀ q, 0 < i → l[i - 1]? = some q → ¬ (q.x < p.x ∧ q.y < p.y) → hullCv l = false := fun q h0 hq hz => bad fun ht => by
    have := (hullCv_iff.1 ht).2.2.1 (i - 1) q p (by omega) hq (by rw [show i - 1 + 1 = i by omega]; exact hp2)
    exact hz this
  have hst : inB 0 1000 p.x = true → inB 0 100000 p.y = true → (i = 0 → p.x = 0 ∧ p.y = 0) → (∀ q, 0 < i → l[i - 1]? = some q → q.x < p.x ∧ q.y < p.y) → cvTo l (i + 1) := fun g1 g2 g3 g4 => by
    refine ⟨fun _ => ?_, fun k a b hk ha hb => ?_, fun k a hk ha => ?_⟩
    · by_cases h0 : i = 0
      · have hp3 := hp2
        rw [h0] at hp3
        exact ⟨p, hp3, g3 h0⟩
      · exact hu.1 (by omega)
    · by_cases hki : k + 1 = i
      · rw [hki, hp2] at hb; cases hb
        exact g4 a (by omega) (by rw [← hki, Nat.add_sub_cancel]; exact ha)
      · exact hu.2.1 k a b (by omega) ha hb
    · by_cases hki : k = i
      · subst hki; rw [hp2] at ha; cases ha; exact ⟨inB_iff.1 g1, inB_iff.1 g2⟩
      · exact hu.2.2 k a (by omega) ha
  simp -dsimp -implicitDefEqProofs [hp2]
  refine onCall_in In2_fn ?_
  simp -dsimp -implicitDefEqProofs
  refine ifB_in (fun h5 => ?_) (fun h5 => ?_)
  rotate_left
  · have hf := b1 h5
    simp -dsimp -implicitDefEqProofs [hsec, hf]
  simp -dsimp -implicitDefEqProofs [hp2]
  refine onCall_in In2_fn ?_
  simp -dsimp -implicitDefEqProofs
  refine ifB_in (fun h6 => ?_) (fun h6 => ?_)
  rotate_left
  · have hf := b2 h6
    simp -dsimp -implicitDefEqProofs [hsec, hf]
  have hst := hst h5 h6
  refine (Classical.em (i = 0)).elim (fun h0 => ?_) (fun h0 => ?_)
  · have n0 : ((i : Int) == 0) = true := by simpa using h0
    have n1 : decide ((0 : Int) < (i : Int)) = false := decide_eq_false (by omega)
    have n1' : decide (0 < i) = false := decide_eq_false (by omega)
    refine (Classical.em (p.x = 0 ∧ p.y = 0)).elim (fun hz => ?_) (fun hz => ?_)
    · have e : (p.x == 0 && p.y == 0) = true := by simpa using hz
      have hst := hst (fun _ => hz) (fun q hq => by omega)
      simp -dsimp -implicitDefEqProofs
      refine DrawR.on {} (by kernel_rfl) (by simp) ?_
      simp -dsimp -implicitDefEqProofs [n0, n1, n1', hp2, e, w1]
      refine again_in (i + 1) [0] ⟨by omega, hst⟩ (by omega) ?_
      simp -dsimp -implicitDefEqProofs
    · have hf := b3 h0 hz
      have e : (p.x == 0 && p.y == 0) = false := by
        refine Bool.eq_false_iff.2 fun h => hz (by simpa using h)
      simp -dsimp -implicitDefEqProofs
      refine DrawR.on {} (by kernel_rfl) (by simp) ?_
      simp -dsimp -implicitDefEqProofs [n0, n1, n1', hp2, e, hf, hsec]
  · have n0 : ((i : Int) == 0) = false := by simpa using h0
    have n1 : decide ((0 : Int) < (i : Int)) = true := decide_eq_true (by omega)
    have n1' : decide (0 < i) = true := decide_eq_true (by omega)
    refine Exists.elim (show ∃ q, l[i - 1]? = some q from ⟨_, List.getElem?_eq_getElem (by omega)⟩) fun q hq2 => ?_
    have w2 : IntKind.i64.wrap ((i : Int) - 1) = ((i - 1 : Nat) : Int) := by rw [wrap_in (by omega) (by omega)]; omega
    have b4 := b4 q (by omega) hq2
    have hst := fun h => hst (fun h => absurd h h0) (fun q' _ hq' => by rw [hq2] at hq'; cases hq'; exact h)
    simp -dsimp -implicitDefEqProofs
    refine DrawR.on {} (by kernel_rfl) (by simp) ?_
    refine (Classical.em (p.x ≤ q.x)).elim (fun h7 => ?_) (fun h7 => ?_)
    · have hf := b4 (by omega)
      have d1 : decide (p.x ≤ q.x) = true := decide_eq_true h7
      simp -dsimp -implicitDefEqProofs [n0, n1, n1', hp2, w2, hq2, d1, hf, hsec]
    have d1 : decide (p.x ≤ q.x) = false := decide_eq_false h7
    refine (Classical.em (p.y ≤ q.y)).elim (fun h8 => ?_) (fun h8 => ?_)
    · have hf := b4 (by omega)
      have d2 : decide (p.y ≤ q.y) = true := decide_eq_true h8
      simp -dsimp -implicitDefEqProofs [n0, n1, n1', hp2, w2, hq2, d1, d2, hf, hsec]
    have d2 : decide (p.y ≤ q.y) = false := decide_eq_false h8
    have hst := hst (by omega)
    simp -dsimp -implicitDefEqProofs [n0, n1, n1', hp2, w2, hq2, d1, d2, w1]
    refine again_in (i + 1) [0] ⟨by omega, hst⟩ (by omega) ?_
    simp -dsimp -implicitDefEqProofs
end Go.Pe

/- The law HullFloats, for hulls and loads that are not too great. -/
namespace Go.Pe
open Go Go.Proofs Go.Proofs.YtffckclggkjbgaaGreat
set_option maxRecDepth 20000
set_option maxHeartbeats 8000000
attribute [local simp] t3 u3 t4 u4 t27 u27
attribute [local simp] ts22 us22 ts24 us24 ts72 us72 ts118 us118 ts120 us120 ts25 us25 ts75 us75 ts150 us150 ts224 us224 ts142 us142 ts140 us140 ts196 us196 ts34 us34 ts39 us39 ts198 us198 ts200 us200 ts29 us29
attribute [local simp] convA extA lenA
attribute [local simp] fSec_eq fPt_eq loadAV_eq
theorem rHull_fn {u : Hu} {f1 : Bool} {h : H} (hu : SmallU u) : Fn Tryz.prog 24 [.agg [I u.a, .ro f1 5 (u.ss.map fSec)]] h (B (hullOk u)) h := by
  refine Fn.beside ?_ rfl h
  refine Fn.ofR0 noM (by kernel_rfl) Tryz.func24 rfl (by simp) ?_
  have hn := hu.n
  simp -dsimp -implicitDefEqProofs
  refine onCall_in In2_fn ?_
  simp -dsimp -implicitDefEqProofs
  refine ifB_in (fun h1 => ?_) (fun h1 => ?_)
  rotate_left
  · simp -dsimp -implicitDefEqProofs [hullOk, h1]
  simp -dsimp -implicitDefEqProofs
  refine onCall_in In2_fn ?_
  simp -dsimp -implicitDefEqProofs
  refine ifB_in (fun h2 => ?_) (fun h2 => ?_)
  rotate_left
  · simp -dsimp -implicitDefEqProofs [hullOk, h2]
  have hok : hullOk u = (u.ss.all secOk && (decide (sumI Sec.a u.ss u.ss.length ≤ 200) && decide (sumI (fun s => (s.qs.length : Int)) u.ss u.ss.length ≤ 4))) := by simp [hullOk, h1, h2]
  simp -dsimp -implicitDefEqProofs
  refine LoopCR.on 38 (fun i => [(1, .ptr 0 0), (3, I (i : Nat))]) (fun i => [some [I u.a, .ro f1 5 (u.ss.map fSec)]]) (fun i => i ≤ u.ss.length ∧ ∀ (k : Nat) (s : Sec), k < i → u.ss[k]? = some s → secOk s = true) (fun i => u.ss.length - i) 0 [0] ⟨by simp, fun k s hk => by omega⟩ ?_ ?_
  · simp -dsimp -implicitDefEqProofs
  rintro i j ⟨hi, hs0⟩
  simp -dsimp -implicitDefEqProofs
  refine ifD_in (fun hlt => ?_) (fun hge => ?_)
  · refine Exists.elim (show ∃ s, u.ss[i]? = some s from ⟨_, List.getElem?_eq_getElem hlt⟩) fun s hs => ?_
    have hp := hu.p s (List.mem_of_getElem? hs)
    have w1 : IntKind.i64.wrap ((i : Int) + 1) = (i : Int) + 1 := wrap_in (by omega) (by omega)
    simp -dsimp -implicitDefEqProofs [hs]
    refine onCall_in (rSection_fn hp.1 hp.2) ?_
    simp -dsimp -implicitDefEqProofs
    refine ifB_in (fun h3 => ?_) (fun h3 => ?_)
    · have hst : ∀ (k : Nat) (s : Sec), k < i + 1 → u.ss[k]? = some s → secOk s = true := fun k s' hk hk2 => by
        by_cases hki : k = i
        · subst hki; rw [hs] at hk2; cases hk2; exact h3
        · exact hs0 k s' (by omega) hk2
      simp -dsimp -implicitDefEqProofs [w1]
      refine again_in (i + 1) [0] ⟨by omega, hst⟩ (by omega) ?_
      simp -dsimp -implicitDefEqProofs
    · have hf : u.ss.all secOk = false := Bool.eq_false_iff.2 fun ht => by
        have := List.all_eq_true.1 ht s (List.mem_of_getElem? hs)
        rw [h3] at this; exact absurd this (by simp)
      simp -dsimp -implicitDefEqProofs [hok, hf]
  have hall : u.ss.all secOk = true := List.all_eq_true.2 fun s hs => by
    obtain ⟨k, hk, rfl⟩ := List.getElem_of_mem hs
    exact hs0 k _ (by omega) (List.getElem?_eq_getElem hk)
  have hsec : ∀ s ∈ u.ss, (0 ≤ s.a ∧ s.a ≤ 1000) ∧ ∀ q ∈ s.qs, 0 ≤ q.x ∧ q.x ≤ 1000 := fun s hs => by
    have h9 := List.all_eq_true.1 hall s hs
    simp only [secOk, Bool.and_eq_true] at h9
    have g1 := inB_iff.1 h9.1
    refine ⟨by omega, fun q hq => ?_⟩
    have h8 := List.all_eq_true.1 h9.2.2.2.2 q hq
    simp only [holdOk, Bool.and_eq_true] at h8
    have g2 := inB_iff.1 h8.1
    omega
  have hlen : ((hsI u.ss u.ss.length).length : Int) = sumI (fun s => (s.qs.length : Int)) u.ss u.ss.length := by rw [hdI_hsI _ (Nat.le_refl _), List.length_map]; exact hdI_len _ (Nat.le_refl _)
  simp -dsimp -implicitDefEqProofs
  refine onCall_in (rLength_fn hn fun s hs => (hsec s hs).1) ?_
  simp -dsimp -implicitDefEqProofs
  refine ifD_in (fun h4 => ?_) (fun h4 => ?_)
  · simp -dsimp -implicitDefEqProofs
    refine onCall_in (rHolds_fn hn (fun s hs => (hsec s hs).1) (fun s hs => (hu.p s hs).2) fun s hs => (hsec s hs).2) ?_
    simp -dsimp -implicitDefEqProofs [hok, hall, h4, hlen]
  · simp -dsimp -implicitDefEqProofs [hok, hall, h4]
/-- The reference's error of a hull, a load and a density. -/
noncomputable def ldE (u : Hu) (l : List Int) (b : Bd) : Int := if hullOk u = false then 2 else if loadE u l ≠ 0 then loadE u l else if vB 900 1100 b = false then 2 else 0
theorem rLoad_fn {u : Hu} {l : List Int} {b : Bd} {f1 f3 : Bool} {h : H} (hu : SmallU u) (hl : (l.length : Int) ≤ 1000) :
    Fn Tryz.prog 27 [.agg [I u.a, .ro f1 5 (u.ss.map fSec)], loadAV f3 l, .agg [I b.lo, I b.hi]] h (I (ldE u l b)) h := by
  refine Fn.beside ?_ rfl h
  refine Fn.ofR0 noM (by kernel_rfl) Tryz.func27 rfl (by simp) ?_
  simp -dsimp -implicitDefEqProofs
  refine onCall_in (rHull_fn hu) ?_
  simp -dsimp -implicitDefEqProofs
  refine ifB_in (fun hok => ?_) (fun hok => ?_)
  rotate_left
  · simp -dsimp -implicitDefEqProofs [ldE, hok]
  have o := okU hok
  have hdl := hsU_len o
  simp -dsimp -implicitDefEqProofs
  refine onCall_in (rHs_fn hu o) ?_
  refine (Classical.em (l.length = (hsU u).length)).elim (fun hlen => ?_) (fun hlen => ?_)
  rotate_left
  · have n1 : ((l.length : Int) != ((hsU u).length : Int)) = true := by simp; omega
    have e1 : loadE u l = 4 := by unfold loadE; rw [if_pos hlen]
    have e : ldE u l b = 4 := by simp [ldE, hok, e1]
    simp -dsimp -implicitDefEqProofs [n1, e]
  have n1 : ((l.length : Int) != ((hsU u).length : Int)) = false := by simp; omega
  simp -dsimp -implicitDefEqProofs [n1]
  refine LoopCR.on 39 (fun i => [(1, loadAV f3 l), (5, .ptr 0 0), (7, .ro (isz (hsU u).length) 2 ((hsU u).map fPt)), (8, I (i : Nat))]) (fun i => [some [I b.lo, I b.hi]]) (fun i => i ≤ l.length ∧ ∀ (k : Nat) (n : Int) (p : Pt), k < i → l[k]? = some n → (hsU u)[k]? = some p → 0 ≤ n ∧ n ≤ p.y) (fun i => l.length - i) 0 [1] ⟨by simp, fun k n p hk => by omega⟩ ?_ ?_
  · simp -dsimp -implicitDefEqProofs
  rintro i j ⟨hi, hok2⟩
  simp -dsimp -implicitDefEqProofs
  refine ifD_in (fun hlt => ?_) (fun hge => ?_)
  · refine Exists.elim (show ∃ n, l[i]? = some n from ⟨_, List.getElem?_eq_getElem hlt⟩) fun n hn => ?_
    refine Exists.elim (show ∃ p, (hsU u)[i]? = some p from ⟨_, List.getElem?_eq_getElem (by omega)⟩) fun p hp => ?_
    have w1 : IntKind.i64.wrap ((i : Int) + 1) = (i : Int) + 1 := wrap_in (by omega) (by omega)
    simp -dsimp -implicitDefEqProofs
    refine DrawR.on {} (by kernel_rfl) (by simp) ?_
    simp -dsimp -implicitDefEqProofs [hn, hp]
    refine onCallQ_in (In2_fn (n := n) (lo := 0) (hi := p.y)) ?_
    simp -dsimp -implicitDefEqProofs
    refine ifB_in (fun hb => ?_) (fun hb => ?_)
    · have hb' := inB_iff.1 hb
      have hst : ∀ (k : Nat) (n : Int) (p : Pt), k < i + 1 → l[k]? = some n → (hsU u)[k]? = some p → 0 ≤ n ∧ n ≤ p.y := fun k n' p' hk h1 h2 => by
        by_cases hki : k = i
        · subst hki; rw [hn] at h1; rw [hp] at h2; cases h1; cases h2; omega
        · exact hok2 k n' p' (by omega) h1 h2
      simp -dsimp -implicitDefEqProofs [w1]
      refine again_in (i + 1) [0] ⟨by omega, hst⟩ (by omega) ?_
      simp -dsimp -implicitDefEqProofs
    · have hno : lotsOk u l = false := Bool.eq_false_iff.2 fun hyes => absurd (inB_iff.2 (lotsOk_iff.1 hyes i n p hn hp)) (by rw [hb]; simp)
      have e1 : loadE u l = 3 := by unfold loadE; rw [if_neg (by omega), if_pos hno]
      have e : ldE u l b = 3 := by simp [ldE, hok, e1]
      simp -dsimp -implicitDefEqProofs [e]
  have hyes : lotsOk u l = true := lotsOk_iff.2 fun k n p h1 h2 => hok2 k n p (by have := (List.getElem?_eq_some_iff.1 h1).1; omega) h1 h2
  have e1 : loadE u l = 0 := by unfold loadE; rw [if_neg (by omega), if_neg (by simp [hyes])]
  simp -dsimp -implicitDefEqProofs
  refine onCall_in rDensity_fn ?_
  simp -dsimp -implicitDefEqProofs
  refine ifB_in (fun hb => ?_) (fun hb => ?_)
  · simp -dsimp -implicitDefEqProofs [ldE, hok, e1, hb]
  · simp -dsimp -implicitDefEqProofs [ldE, hok, e1, hb]
end Go.Pe

namespace Go.Proofs.YtffckclggkjbgaaGreat
open Go Go.ChangeShapes Go.WideShapes Go.ChangeAt Go.RowKit
set_option linter.unusedVariables false
theorem own3 : ownKnob Tryz.prog.godebug = none := by kernel_rfl
set_option maxRecDepth 100000 in
theorem lifted3 (hlaw : ∀ ys, Go.Pe.TyVs Tryz.prog 20 [29, 3] ys → ∃ h', Go.Pe.Fn Tryz.prog 3 ys .nil (.val (.bool true)) h') (os : Os) (started : os.Started) (H : Type) (enc : TypeId × Value → H) :
    ReturnsInHanded {} Tryz.checked os 3 .any (Rows.hullFloatsSpec.pre6 enc Tryz.prog Tryz.f3 Rows.hullFloatsRow.domain false) (Rows.hullFloatsSpec.post enc Tryz.prog Tryz.f3 false true false false) := by
  refine returnsInHanded_of_change (C := Tryz.checked) own3 started (by kernel_rfl) Tryz.func3
    (ChangeSpec.witness6 (enc := enc) (C := Tryz.checked) false ⟨#[], #[.agg #[.int .i64 0, .slice none 0 0, .slice none 0 0, .int .i64 0, .int .i64 0], .int .i64 0], []⟩ 8 (by kernel_rfl) (by kernel_rfl) (by kernel_rfl) (by kernel_rfl)) ?_
  intro W base args ds gs before hval hW _ _
  exact Go.Pe.law_contract (s := Rows.hullFloatsSpec) (ts := [29, 3]) (tb := 4) 20 (by rw [Tryz.params3]) (by kernel_rfl) (by kernel_rfl) (by kernel_rfl) (by kernel_rfl) Tryz.underlying4 rfl
    (fun ds hd => by match ds, hd with | [d1, d2], _ => rfl) hlaw W base args ds gs before hval hW
theorem holds3 (hlaw : ∀ ys, Go.Pe.TyVs Tryz.prog 20 [29, 3] ys → ∃ h', Go.Pe.Fn Tryz.prog 3 ys .nil (.val (.bool true)) h') : Rows.HullFloatsSaid :=
  OpenClaim.holds_of_wide 3 Tryz.f3 rfl rfl rfl rfl rfl rfl rfl ⟨rfl, rfl, rfl, rfl, rfl⟩ rfl rfl rfl rfl rfl (by kernel_rfl) Tryz.func3 (by kernel_rfl)
    (of_decide_eq_true (by kernel_rfl)) (by unfold Func.isWrapper; first | (rw [if_pos (by decide +kernel)]; kernel_rfl) | (rw [if_neg (by decide +kernel)]; exact ⟨rfl, rfl⟩))
    (fun os started H enc _ => lifted3 hlaw os started H enc)
end Go.Proofs.YtffckclggkjbgaaGreat
