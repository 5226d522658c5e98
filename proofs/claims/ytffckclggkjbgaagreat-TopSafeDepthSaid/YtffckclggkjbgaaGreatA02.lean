import Derived.Test.YtffckclggkjbgaaGreatA01
import Derived.Test.YtffckclggkjbgaaGreatY45
import Derived.Test.YtffckclggkjbgaaGreatY33
import Derived.Test.YtffckclggkjbgaaGreatY35
import Derived.Test.YtffckclggkjbgaaGreatY31
import Derived.Test.YtffckclggkjbgaaGreatY41
set_option linter.unusedVariables false
set_option linter.unusedSimpArgs false
/- A way, and a passage, as moorWay and moorPassage make them. -/
namespace Go.Pe
open Go Go.Proofs Go.Proofs.YtffckclggkjbgaaGreat
set_option maxRecDepth 20000
set_option maxHeartbeats 8000000
attribute [local simp] ts5 us5 ts22 us22 ts24 us24 ts25 us25 t27 u27 ts34 us34 ts39 us39 ts57 us57 ts53 us53 ts64 us64 ts95 us95 ts96 us96 ts99 us99 ts72 us72 ts75 us75 ts118 us118 ts120 us120 ts128 us128 ts130 us130 ts132 us132 ts150 us150
attribute [local simp] t28 u28 t30 u30 t102 u102 t50 u50 t119 u119 t32 u32 t75 u75 t22 u22 t23 u23
attribute [local simp] convA extA lenA ixar ixsl fQ_eq mwC_eq
def wayM (x : Sr) (n : Int) : List Ps := [⟨20, ⟨x.way.a % n, min (n - 1) (x.way.a % n + x.way.b % 4)⟩⟩, ⟨60, ⟨x.way.c % n, min (n - 1) (x.way.c % n + x.way.d % 4)⟩⟩]
def pgM (x : Sr) (k : Int) : Pg := ⟨⟨riverM x, [side0S x, side1S x]⟩, wayM x (rowsS x).length, k⟩
theorem moorWay_fn {x : Sr} {n : Nat} {h : H} (hx : x.Ok) (hn : 1 ≤ n ∧ n ≤ 12) : Fn Tryz.prog 92 [.agg (mwC x), I (n : Nat)] h (.ro false 3 ((wayM x n).map fPs)) h := by
  refine Fn.beside ?_ rfl h
  refine Fn.ofR0 (butM []) (by kernel_rfl) Tryz.func92 rfl (by simp) ?_
  have hw := hx.way
  have u1 := hw.1
  have u2 := hw.2.1
  have u3 := hw.2.2.1
  have u4 := hw.2.2.2
  have hnz' : (n = 0) = False := eq_false (by omega)
  have hnz : ((n : Int) = 0) = False := eq_false (by omega)
  have a1 : IntKind.i64.wrap x.way.a = x.way.a := wrap_in (by omega) (by omega)
  have a2 : IntKind.i64.wrap x.way.b = x.way.b := wrap_in (by omega) (by omega)
  have a3 : IntKind.i64.wrap x.way.c = x.way.c := wrap_in (by omega) (by omega)
  have a4 : IntKind.i64.wrap x.way.d = x.way.d := wrap_in (by omega) (by omega)
  have m1 := tm (v := x.way.a) (n := n) u1.1
  have m2 := tm (v := x.way.b) (n := 4) u2.1
  have m3 := tm (v := x.way.c) (n := n) u3.1
  have m4 := tm (v := x.way.d) (n := 4) u4.1
  have b1 := Int.emod_nonneg x.way.a (show (n : Int) ≠ 0 by omega)
  have b2 := Int.emod_lt_of_pos x.way.a (show (0 : Int) < n by omega)
  have b3 := Int.emod_nonneg x.way.c (show (n : Int) ≠ 0 by omega)
  have b4 := Int.emod_lt_of_pos x.way.c (show (0 : Int) < n by omega)
  have a5 : IntKind.i64.wrap (x.way.a % n + x.way.b % 4) = x.way.a % n + x.way.b % 4 := wrap_in (by omega) (by omega)
  have a6 : IntKind.i64.wrap (x.way.c % n + x.way.d % 4) = x.way.c % n + x.way.d % 4 := wrap_in (by omega) (by omega)
  have a7 : IntKind.i64.wrap ((n : Int) - 1) = (n : Int) - 1 := wrap_in (by omega) (by omega)
  have z0 : IntKind.i64.wrap 0 = 0 := rfl
  have z1 : IntKind.i64.wrap 1 = 1 := rfl
  have z2 : IntKind.i64.wrap 2 = 2 := rfl
  have z3 : IntKind.i64.wrap 3 = 3 := rfl
  have z20 : IntKind.i64.wrap 20 = 20 := rfl
  have z40 : IntKind.i64.wrap 40 = 40 := rfl
  have z60 : IntKind.i64.wrap 60 = 60 := rfl
  have a9 : IntKind.i64.wrap (x.way.c % n) = x.way.c % n := wrap_in (by omega) (by omega)
  have a8 : IntKind.i64.wrap (x.way.a % n) = x.way.a % n := wrap_in (by omega) (by omega)
  simp -dsimp -implicitDefEqProofs
  refine LoopCR.on 44 (fun k => [(1, I (n : Nat)), (2, .ptr 0 0), (5, grow 1 3 k), (6, I (k : Nat))]) (fun k => [some (mwC x), grown k (rws fPs ((wayM x n).take k))]) (fun k => k ≤ 2) (fun k => 2 - k) 0 [0, 99] (by simp) ?_ ?_
  · simp -dsimp -implicitDefEqProofs
    done
  intro k j hk
  refine (Classical.em (k = 0)).elim (fun hk0 => ?_) (fun hk0 => ?_)
  · subst hk0
    simp -dsimp -implicitDefEqProofs [m1, m2, m3, m4, a1, a2, a3, a4, a5, a6, a7, a8, a9, z0, z2, z20, z40, z60, z1, z3, hnz, hnz']
    refine again_in 1 [0, 2] (by omega) (by omega) ?_
    simp -dsimp -implicitDefEqProofs [wayM, rws, fPs_eq]
    done
  refine (Classical.em (k = 1)).elim (fun hk1 => ?_) (fun hk1 => ?_)
  · subst hk1
    simp -dsimp -implicitDefEqProofs [m1, m2, m3, m4, a1, a2, a3, a4, a5, a6, a7, a8, a9, z0, z2, z20, z40, z60, z1, z3, hnz, hnz']
    refine on_append (b := 1) (n := 1) fPs [⟨20, ⟨x.way.a % n, min (n - 1) (x.way.a % n + x.way.b % 4)⟩⟩] ⟨60, ⟨x.way.c % n, min (n - 1) (x.way.c % n + x.way.d % 4)⟩⟩ (by simp [wayM, grown]) rfl (show (1 + 1) * 24 ≤ 70368744177664 by omega) (by omega) rfl rfl (by simp) rfl (fun _ => rfl) ?_ rfl
    simp -dsimp -implicitDefEqProofs [z0, z1, z2]
    refine again_in 2 [0, 2] (by omega) (by omega) ?_
    simp -dsimp -implicitDefEqProofs [wayM]
    done
  obtain rfl : k = 2 := by omega
  simp -dsimp -implicitDefEqProofs
  have := frz_rws (f := fPs) (l := wayM x n) (b := 1) (n := 2) (k := 3) (N := 0) (h := mkH [some (mwC x), some (rws fPs (wayM x n))]) (by simp [mkH, grown]) (Nat.zero_le _) rfl (fun _ => rfl) (fun _ => rfl)
  exact this
theorem moorPassage_fn {x : Sr} {k : Int} {h : H} (hx : x.Ok) : Fn Tryz.prog 53 [.agg (mwC x), I k] h (.agg (pgC (pgM x k) true false false)) h := by
  refine Fn.beside ?_ rfl h
  refine Fn.ofR0 (butM []) (by kernel_rfl) Tryz.func53 rfl (by simp) ?_
  have hL := rowsS_len (x := x)
  have hl0 : (side0S x).length = (rowsS x).length := by simp [side0S]
  have cR : ∀ h, Fn Tryz.prog 91 [.agg (mwC x)] h (.tup [.agg [(riverM x).reaches true, (riverM x).shoals], sidesAV [side0S x, side1S x] false]) h := fun h => moorRiver_fn hx
  refine Exists.elim (show ∃ n, n = (rowsS x).length from ⟨_, rfl⟩) fun n hn => ?_
  rw [← hn] at hl0 hL
  have cW : ∀ h, Fn Tryz.prog 92 [.agg (mwC x), I (n : Nat)] h (.ro false 3 ((wayM x n).map fPs)) h := fun h => moorWay_fn hx hL
  refine Exists.elim (show ∃ r, r = riverM x from ⟨_, rfl⟩) fun r hr => ?_
  refine Exists.elim (show ∃ W, W = wayM x n from ⟨_, rfl⟩) fun W hW => ?_
  refine Exists.elim (show ∃ s, s = [side0S x, side1S x] from ⟨_, rfl⟩) fun s hs => ?_
  refine Exists.elim (show ∃ s0, s0 = side0S x from ⟨_, rfl⟩) fun s0 hs0 => ?_
  have hp : pgM x k = ⟨⟨r, s⟩, W, k⟩ := by rw [hr, hs, hW, hn]; rfl
  rw [← hr, ← hs] at cR
  rw [← hW] at cW
  have hz : s[0]? = some s0 := by rw [hs, hs0]; rfl
  rw [← hs0] at hl0
  rw [hp]
  simp only [mwC_eq] at cR cW
  simp -dsimp -implicitDefEqProofs
  refine onCall_in (cR _) ?_
  simp -dsimp -implicitDefEqProofs
  refine DrawR.on { M := [1], eff := [(10, [1])] } (by kernel_rfl) (by simp) ?_
  simp -dsimp -implicitDefEqProofs [hz, hl0]
  refine onCallQ_in (cW _) ?_
  simp -dsimp -implicitDefEqProofs [pgC_eq]
  done
end Go.Pe

/- What is known of moored hulls and their passages. -/
namespace Go.Pe
open Go Go.Proofs Go.Proofs.YtffckclggkjbgaaGreat
set_option maxRecDepth 20000
set_option maxHeartbeats 8000000
theorem secH_ok {x : Mh} (h : x.Ok) : secOk (secH x) = true := by
  have h0 := h.s0
  have h1 := h.s1
  have h2 := h.s2
  have h3 := h.s3
  have h4 := h.s4
  have hc : hullCv (secH x).ps = true := by
    refine hullCv_iff.2 ⟨by simp [secH, inB], ⟨⟨0, 0⟩, rfl, rfl, rfl⟩, fun k p q hk hp hq => ?_, ⟨_, rfl, ?_, ?_⟩⟩
    · have hk2 : k < 2 := by simpa [secH] using hk
      match k, hk2, hp, hq with
      | 0, _, hp, hq => simp [secH] at hp hq; subst hp; subst hq; simp only; omega
      | 1, _, hp, hq => simp [secH] at hp hq; subst hp; subst hq; simp only; omega
    · simp only; omega
    · simp only; omega
  have a1 : inB 1 100 (secH x).a = true := inB_iff.2 (by simp only [secH]; omega)
  have a2 : inB 0 10000 (secH x).b = true := inB_iff.2 (by simp only [secH]; omega)
  have a3 : inB 1 100000 (secH x).c = true := inB_iff.2 (by simp only [secH]; omega)
  have a4 : (secH x).qs.all (holdOk (secH x).a) = true := by
    simp only [secH, List.all_cons, List.all_nil, Bool.and_true, holdOk, Bool.and_eq_true]
    exact ⟨⟨inB_iff.2 (by omega), inB_iff.2 (by omega)⟩, inB_iff.2 (by omega), inB_iff.2 (by omega)⟩
  unfold secOk
  rw [hc, a1, a2, a3, a4]; rfl
theorem huH_ok {x : Mh} (hx : x.Ok) : hullOk (huH x) = true := by
  have h5 := hx.s5
  simp only [hullOk, Bool.and_eq_true, decide_eq_true_eq]
  refine ⟨inB_iff.2 ?_, inB_iff.2 (by simp [huH]), List.all_eq_true.2 fun s hs => ?_, ?_, ?_⟩
  · simp only [huH]; omega
  · simp only [huH, List.mem_cons, List.not_mem_nil, or_false] at hs
    subst hs
    exact secH_ok hx
  · show (0 : Int) + 60 ≤ 200; omega
  · show (0 : Int) + 2 ≤ 4; omega
theorem huH_small {x : Mh} : SmallU (huH x) := by
  refine ⟨by simp [huH], fun s hs => ?_⟩
  simp only [huH, List.mem_cons, List.not_mem_nil, or_false] at hs
  subst hs
  simp [secH]
theorem ldH_ok {x : Mh} (hx : x.Ok) : OkL (huH x) (ldH x) := by
  have g0 := hx.l0
  have g1 := hx.l1
  have e : hsU (huH x) = [moved 0 ⟨10 + x.s4 % 10, 5⟩, moved 0 ⟨45, 5⟩] := rfl
  refine ⟨by rw [e]; rfl, fun i n p hi hp => ?_⟩
  rw [e] at hp
  match i, hi, hp with
  | 0, hi, hp => simp [ldH] at hi hp; subst hi; subst hp; simp only [moved]; omega
  | 1, hi, hp => simp [ldH] at hi hp; subst hi; subst hp; simp only [moved]; omega
theorem flt_moor {x : Mh} (hx : x.Ok) {b : Bd} (hb : vB 900 1100 b = true) : fltE (huH x) (ldH x) b = 0 ∨ fltE (huH x) (ldH x) b = 8 := by
  have h1 := huH_ok hx
  have h2 := ldH_ok hx
  have h4 : loadE (huH x) (ldH x) = 0 := by
    unfold loadE
    rw [if_neg (by have := h2.1; omega), if_neg]
    rw [lotsOk_iff.2 h2.2]; simp
  unfold fltE
  rw [if_neg (by simp [h1]), if_neg (by simp [h4]), if_neg (by simp [hb])]
  split
  · exact .inl rfl
  · exact .inr rfl
theorem pgM_hrs {x : Sr} {k : Int} : hrs (pgM x k).f.sides = (rowsS x).length := by simp [hrs, pgM, side0S]
theorem pgM_small {x : Sr} {k : Int} : SmallF (pgM x k).f := by
  have hL := rowsS_len (x := x)
  refine ⟨⟨by simp [pgM, riverM], by simp [pgM, riverM], fun y hy => ?_⟩, by simp [pgM], fun l hl => ?_⟩
  · simp only [pgM, riverM, List.mem_cons, List.not_mem_nil, or_false] at hy
    rcases hy with rfl | rfl <;> simp [rc0M, rc1M, curveS]
  · simp only [pgM, List.mem_cons, List.not_mem_nil, or_false] at hl
    rcases hl with rfl | rfl
    · simp only [side0S, List.length_map]; omega
    · simp only [side1S, List.length_map]; omega
theorem validM {x : Sr} (hx : x.Ok) : validRv (riverM x) = true := by
  have hb := hx.base
  have ho := hx.bot
  have hs := hx.sh
  have s1 := span_in hb.1 hb.2.1
  have s2 := span_in hb.2.2.1 hb.2.2.2
  have s3 := span_in ho.1 ho.2.1
  have s4 := span_in ho.2.2.1 ho.2.2.2
  have s5 := span_in hs.1 hs.2.1
  have hcv : validCv curveS = true := by
    have hu : upTo curveS curveS.length := fun k hk _ => by
      have h2 : k < 2 := hk
      match k, h2 with
      | 0, _ => exact ⟨⟨rfl, rfl⟩, fun h => by omega⟩
      | 1, _ => exact ⟨⟨rfl, rfl⟩, fun _ => ⟨show (0 : Int) < 5000 by omega, show (0 : Int) ≤ 5000 by omega⟩⟩
    unfold validCv
    rw [Bool.and_eq_true]
    exact ⟨rfl, @decide_eq_true _ (Classical.propDecidable _) hu⟩
  have r1 : validR (rc0M x) = true := by
    simp only [rc0M, validR, Bool.and_eq_true]
    exact ⟨inB_iff.2 (by omega), inB_iff.2 (by omega), vB_iff.2 (by omega), hcv, ⟨inB_iff.2 (by omega), inB_iff.2 (by omega)⟩, vB_iff.2 (by omega)⟩
  have r2 : validR (rc1M x) = true := by
    simp only [rc1M, validR, Bool.and_eq_true]
    exact ⟨inB_iff.2 (by omega), inB_iff.2 (by omega), vB_iff.2 (by omega), hcv, ⟨inB_iff.2 (by omega), inB_iff.2 (by omega)⟩, vB_iff.2 (by omega)⟩
  have r3 : validSh 100 (shM x) = true := by
    simp only [shM, validSh, Bool.and_eq_true]
    exact ⟨inB_iff.2 (by omega), vB_iff.2 (by omega), inB_iff.2 (by omega), vB_iff.2 (by simp only; omega)⟩
  have hl : lenSum (riverM x).rs = 100 := rfl
  simp only [validRv, Bool.and_eq_true, decide_eq_true_eq, hl]
  refine ⟨inB_iff.2 (by simp [riverM]), by simp [riverM], ?_, ?_⟩
  · simp only [riverM, List.all_cons, List.all_nil, r1, r2, Bool.and_self]
  · simp only [riverM, List.all_cons, List.all_nil, r3, Bool.and_self]
theorem pgE_M {x : Sr} {k : Int} (hx : x.Ok) (hk : 0 ≤ k ∧ k ≤ 500) : pgE (pgM x k) = 0 := by
  have hL := rowsS_len (x := x)
  have hw := hx.way
  have hst : startE (pgM x k).f = 0 := by
    have h0 : hrs (pgM x k).f.sides = (rowsS x).length := pgM_hrs
    unfold startE
    rw [if_pos (show validRv (pgM x k).f.r = true from validM hx), if_pos (by rfl), if_neg (by omega), if_pos, if_neg (by omega), if_pos]
    · refine List.all_eq_true.2 fun l hl => ?_
      simp only [pgM, List.mem_cons, List.not_mem_nil, or_false] at hl
      have hr := rowsS_ok hx
      rcases hl with rfl | rfl
      · refine List.all_eq_true.2 fun b hb => ?_
        obtain ⟨q, hq, rfl⟩ := List.mem_map.1 hb
        have := span_in (hr q hq).1 (hr q hq).2.1
        exact vB_iff.2 (by omega)
      · refine List.all_eq_true.2 fun b hb => ?_
        obtain ⟨q, hq, rfl⟩ := List.mem_map.1 hb
        have := span_in (hr q hq).2.2.1 (hr q hq).2.2.2
        exact vB_iff.2 (by omega)
    · refine List.all_eq_true.2 fun l hl => ?_
      simp only [pgM, List.mem_cons, List.not_mem_nil, or_false] at hl
      rw [h0]
      rcases hl with rfl | rfl
      · simp [side0S]
      · simp [side1S]
  have hway : wayE (pgM x k).f.r.rs (hrs (pgM x k).f.sides) (pgM x k).way = 0 := by
    rw [pgM_hrs]
    have b1 := Int.emod_nonneg x.way.a (show ((rowsS x).length : Int) ≠ 0 by omega)
    have b2 := Int.emod_lt_of_pos x.way.a (show (0 : Int) < (rowsS x).length by omega)
    have b3 := Int.emod_nonneg x.way.c (show ((rowsS x).length : Int) ≠ 0 by omega)
    have b4 := Int.emod_lt_of_pos x.way.c (show (0 : Int) < (rowsS x).length by omega)
    have u2 := hw.2.1
    have u4 := hw.2.2.2
    have hl : lenSum (pgM x k).f.r.rs = 100 := rfl
    unfold wayE
    rw [if_neg (by simp [pgM, wayM]), if_neg (by simp [pgM, wayM])]
    refine firstE_ok fun p hp => ?_
    simp only [pgM, wayM, List.mem_cons, List.not_mem_nil, or_false] at hp
    unfold passE
    rw [hl]
    rcases hp with rfl | rfl
    · rw [if_pos (inB_iff.2 (by simp only; omega)), if_pos (vB_iff.2 (by simp only; omega))]
    · rw [if_pos (inB_iff.2 (by simp only; omega)), if_pos (vB_iff.2 (by simp only; omega))]
  unfold pgE
  rw [if_neg, if_neg (by simp [hst])]
  · exact hway
  · have : inB 0 500 (pgM x k).keel = true := inB_iff.2 (by simp only [pgM]; omega)
    simp [this]
end Go.Pe

/- Truths of a forecast: what truly flows, and how it lies in the bounds. -/
namespace Go.Pe
open Go Go.Proofs Go.Proofs.YtffckclggkjbgaaGreat
set_option maxRecDepth 20000
set_option maxHeartbeats 8000000

/-- What is said of a truth's bytes. -/
structure OkTr (x : Tr) : Prop where
  base : ∀ n ∈ x.base, 0 ≤ n ∧ n ≤ 255
  side : ∀ n ∈ x.side, 0 ≤ n ∧ n ≤ 255
  bed : ∀ n ∈ x.bed, 0 ≤ n ∧ n ≤ 255
  grow : ∀ n ∈ x.grow, 0 ≤ n ∧ n ≤ 255
/-- What truly flows. -/
def trB (f : Fc) (x : Tr) (q : Nat) : Int := pickZ (baseOf f.r q) (partZ x.base q)
def trS (f : Fc) (x : Tr) (q : Nat) (h : Int) : Int := pickZ (sideAt f.sides q h) (partZ x.side (7 * q + h.toNat))
def trF (f : Fc) (x : Tr) : Nat → Int → Int
  | 0, h => if h < 0 then trB f x 0 else trS f x 0 h
  | q + 1, h => if h < 0 then trB f x (q + 1) else trS f x (q + 1) h + trF f x q (h - delayOf f.r q)
theorem trF_neg {f : Fc} {x : Tr} {q : Nat} {h : Int} (hh : h < 0) : trF f x q h = trB f x q := by cases q <;> simp [trF, hh]
theorem trF_zero {f : Fc} {x : Tr} {h : Int} (hh : ¬ h < 0) : trF f x 0 h = trS f x 0 h := by simp [trF, hh]
theorem trF_succ {f : Fc} {x : Tr} {q : Nat} {h : Int} (hh : ¬ h < 0) : trF f x (q + 1) h = trS f x (q + 1) h + trF f x q (h - delayOf f.r q) := by simp [trF, hh]
theorem trF_in {f : Fc} {x : Tr} (g : GoodF f) (t : OkTr x) : ∀ (q : Nat) (h : Int), (rf f.r f.sides q h).lo ≤ trF f x q h ∧ trF f x q h ≤ (rf f.r f.sides q h).hi
  | q, h => by
    by_cases hh : h < 0
    · rw [rf_neg hh, trF_neg hh]
      have hb := baseOf_ok g (i := q)
      have hp := partZ_in (i := q) t.base
      exact pick_in hb.2.1 hp.1 hp.2
    · cases q with
      | zero =>
        rw [rf_zero hh, trF_zero hh]
        have hb := sideAt_ok g (i := 0) (h := h)
        have hp := partZ_in (i := 7 * 0 + h.toNat) t.side
        exact pick_in hb.2.1 hp.1 hp.2
      | succ q =>
        rw [rf_succ hh, trF_succ hh]
        have ih := trF_in g t q (h - delayOf f.r q)
        have hb := sideAt_ok g (i := q + 1) (h := h)
        have hp := partZ_in (i := 7 * (q + 1) + h.toNat) t.side
        have hk := pick_in hb.2.1 hp.1 hp.2
        rw [trS]
        simp only
        omega
theorem trF_bd {f : Fc} {x : Tr} (g : GoodF f) (t : OkTr x) (q : Nat) (h : Int) : 0 ≤ trF f x q h ∧ trF f x q h ≤ (q + 1) * 10000000000 := by
  have h1 := trF_in g t q h
  have h2 := rf_ok g q h
  omega
end Go.Pe
