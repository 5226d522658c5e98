import Derived.Test.YtffckclggkjbgaaGreatY44
import Derived.Test.YtffckclggkjbgaaGreatY32
set_option linter.unusedVariables false
set_option linter.unusedSimpArgs false
/- What is known of hulls and passages by small numbers. -/
namespace Go.Pe
open Go Go.Proofs Go.Proofs.YtffckclggkjbgaaGreat
set_option maxRecDepth 20000
set_option maxHeartbeats 8000000
theorem pgE_of {x : Sr} (hx : x.Ok) : pgE (pgOf x) = 0 := by
  have hL := rowsS_len (x := x)
  have hb := hx.base
  have ho := hx.bot
  have hs := hx.sh
  have hw := hx.way
  have hk := hx.keel
  have hcv : validCv curveS = true := by
    have hu : upTo curveS curveS.length := fun k hk _ => by
      have h2 : k < 2 := hk
      match k, h2 with
      | 0, _ => exact ⟨⟨rfl, rfl⟩, fun h => by omega⟩
      | 1, _ => exact ⟨⟨rfl, rfl⟩, fun _ => ⟨show (0 : Int) < 5000 by omega, show (0 : Int) ≤ 5000 by omega⟩⟩
    unfold validCv
    rw [Bool.and_eq_true]
    exact ⟨rfl, @decide_eq_true _ (Classical.propDecidable _) hu⟩
  have s1 := span_in hb.1 hb.2.1
  have s2 := span_in hb.2.2.1 hb.2.2.2
  have s3 := span_in ho.1 ho.2.1
  have s4 := span_in ho.2.2.1 ho.2.2.2
  have s5 := span_in hs.1 hs.2.1
  have hv : validRv (riverS x) = true := by
    have r1 : validR ⟨10, 1, span x.base.a x.base.b, curveS, 0, span x.bot.a x.bot.b, 9000⟩ = true := by
      simp only [validR, Bool.and_eq_true]
      exact ⟨inB_iff.2 (by omega), inB_iff.2 (by omega), vB_iff.2 (by omega), hcv, ⟨inB_iff.2 (by omega), inB_iff.2 (by omega)⟩, vB_iff.2 (by omega)⟩
    have r2 : validR ⟨10, 1, span x.base.c x.base.d, curveS, 0, span x.bot.c x.bot.d, 9000⟩ = true := by
      simp only [validR, Bool.and_eq_true]
      exact ⟨inB_iff.2 (by omega), inB_iff.2 (by omega), vB_iff.2 (by omega), hcv, ⟨inB_iff.2 (by omega), inB_iff.2 (by omega)⟩, vB_iff.2 (by omega)⟩
    have r3 : validSh 20 ⟨12, span x.sh.a x.sh.b, 0, ⟨24 * (x.sh.c % 3 - 1), 24 * (x.sh.c % 3 - 1 + x.sh.d % 2)⟩⟩ = true := by
      simp only [validSh, Bool.and_eq_true]
      exact ⟨inB_iff.2 (by omega), vB_iff.2 (by omega), inB_iff.2 (by omega), vB_iff.2 (by simp only; omega)⟩
    have hl : lenSum (riverS x).rs = 20 := rfl
    simp only [validRv, Bool.and_eq_true, decide_eq_true_eq, hl]
    refine ⟨inB_iff.2 (by simp [riverS]), by simp [riverS], ?_, ?_⟩
    · simp only [riverS, List.all_cons, List.all_nil, r1, r2, Bool.and_self]
    · simp only [riverS, List.all_cons, List.all_nil, r3, Bool.and_self]
  have hst : startE (pgOf x).f = 0 := by
    have h0 : hrs (pgOf x).f.sides = (rowsS x).length := pgOf_hrs
    unfold startE
    rw [if_pos (show validRv (pgOf x).f.r = true from hv), if_pos (by rfl), if_neg (by omega), if_pos, if_neg (by omega), if_pos]
    · refine List.all_eq_true.2 fun l hl => ?_
      simp only [pgOf, List.mem_cons, List.not_mem_nil, or_false] at hl
      have hr := rowsS_ok hx
      rcases hl with rfl | rfl
      · refine List.all_eq_true.2 fun b hb => ?_
        obtain ⟨q, hq, rfl⟩ := List.mem_map.1 hb
        have := span_in (hr q hq).1 (hr q hq).2.1
        exact vB_iff.2 (by omega)
      · refine List.all_eq_true.2 fun b hb => ?_
        obtain ⟨q, hq, rfl⟩ := List.mem_map.1 hb
        have := span_in (hr q hq).2.2.1 (hr q hq).2.2.2
        exact vB_iff.2 (by omega)
    · refine List.all_eq_true.2 fun l hl => ?_
      simp only [pgOf, List.mem_cons, List.not_mem_nil, or_false] at hl
      rw [h0]
      rcases hl with rfl | rfl
      · simp [side0S]
      · simp [side1S]
  have hway : wayE (pgOf x).f.r.rs (hrs (pgOf x).f.sides) (pgOf x).way = 0 := by
    rw [pgOf_hrs]
    have b1 := Int.emod_nonneg x.way.a (show ((rowsS x).length : Int) ≠ 0 by omega)
    have b2 := Int.emod_lt_of_pos x.way.a (show (0 : Int) < (rowsS x).length by omega)
    have b3 := Int.emod_nonneg x.way.c (show ((rowsS x).length : Int) ≠ 0 by omega)
    have b4 := Int.emod_lt_of_pos x.way.c (show (0 : Int) < (rowsS x).length by omega)
    have u2 := hw.2.1
    have u4 := hw.2.2.2
    have hl : lenSum (pgOf x).f.r.rs = 20 := rfl
    unfold wayE
    rw [if_neg (by simp [pgOf, wayS]), if_neg (by simp [pgOf, wayS])]
    refine firstE_ok fun p hp => ?_
    simp only [pgOf, wayS, List.mem_cons, List.not_mem_nil, or_false] at hp
    unfold passE
    rw [hl]
    rcases hp with rfl | rfl
    · rw [if_pos (inB_iff.2 (by simp only; omega)), if_pos (vB_iff.2 (by simp only; omega))]
    · rw [if_pos (inB_iff.2 (by simp only; omega)), if_pos (vB_iff.2 (by simp only; omega))]
  unfold pgE
  rw [if_neg, if_neg (by simp [hst])]
  · exact hway
  · have : inB 0 500 (pgOf x).keel = true := inB_iff.2 (by simp only [pgOf]; omega)
    simp [this]
/-- A passage that is later ends too late, or is valid. -/
theorem pgE_late {p : Pg} (o : OkP p) {k : Int} (hk : 0 ≤ k) : pgE (pgS p k) = 0 ∨ pgE (pgS p k) = 3 := by
  have h3 : ∀ l : List Ps, (∀ q ∈ l, passE p.f.r.rs (hrs p.f.sides) q = 0 ∨ passE p.f.r.rs (hrs p.f.sides) q = 3) → firstE p.f.r.rs (hrs p.f.sides) l = 0 ∨ firstE p.f.r.rs (hrs p.f.sides) l = 3 := by
    intro l
    induction l with
    | nil => intro _; exact .inl rfl
    | cons q l ih =>
      intro h
      rw [firstE]
      split
      · exact ih fun q hq => h q (by simp [hq])
      · rename_i h0
        rcases h q (by simp) with h1 | h1
        · exact absurd h1 h0
        · exact .inr h1
  have hp := o.pos
  have hm := o.max
  unfold pgE
  rw [if_neg (by show ¬ inB 0 500 p.keel = false; simp [o.keel]), if_neg (by show ¬ startE p.f ≠ 0; simp [o.st])]
  unfold wayE
  rw [if_neg (by simp only [pgS, List.length_map]; omega), if_neg (by simp only [pgS, List.length_map]; omega)]
  refine h3 _ fun q' hq' => ?_
  obtain ⟨q, hq, rfl⟩ := List.mem_map.1 hq'
  have h1 := o.way q hq
  unfold passE at h1 ⊢
  split at h1
  · rename_i h4
    rw [if_pos (by exact h4)]
    split
    · exact .inl rfl
    · exact .inr rfl
  · omega
/-- A hull that is loaded by small numbers floats, or is too deep. -/
theorem flt_small {x : Sm} {m : Nat} (hx : x.Ok) (hm : 1 ≤ m) (hm2 : m ≤ 4) : fltE (huM x m) (ldM x m) (dens x) = 0 ∨ fltE (huM x m) (ldM x m) (dens x) = 8 := by
  have h1 := huM_ok hx hm hm2
  have h2 := ldM_ok hx hm hm2
  have h3 := dens_ok hx
  have h4 : loadE (huM x m) (ldM x m) = 0 := by
    unfold loadE
    rw [if_neg (by have := h2.1; omega), if_neg]
    rw [lotsOk_iff.2 h2.2]; simp
  unfold fltE
  rw [if_neg (by simp [h1]), if_neg (by simp [h4]), if_neg (by simp [h3])]
  split
  · exact .inl rfl
  · exact .inr rfl
end Go.Pe

/- The picks of the law HullTruths. -/
namespace Go.Pe
open Go Go.Proofs Go.Proofs.YtffckclggkjbgaaGreat
set_option maxRecDepth 20000
set_option maxHeartbeats 8000000
attribute [local simp] ts5 us5 ts22 us22 ts24 us24 ts25 us25 t27 u27 ts34 us34 ts39 us39 ts57 us57 ts156 us156 ts53 us53 ts64 us64 ts98 us98 ts101 us101 ts102 us102
attribute [local simp] convA extA lenA ixar
/-- What is picked within bounds, as the n-th. -/
def pkT (ps : List Int) (n : Nat) (b : Bd) : Int := if ps.length = 0 then b.lo else b.lo + ps.getD (n % ps.length) 0 % (b.hi - b.lo + 1)
theorem pkT_in {ps : List Int} {n : Nat} {b : Bd} (h : b.lo ≤ b.hi) : b.lo ≤ pkT ps n b ∧ pkT ps n b ≤ b.hi := by
  unfold pkT
  split
  · omega
  · have h1 := Int.emod_nonneg (ps.getD (n % ps.length) 0) (show b.hi - b.lo + 1 ≠ 0 by omega)
    have h2 := Int.emod_lt_of_pos (ps.getD (n % ps.length) 0) (show 0 < b.hi - b.lo + 1 by omega)
    omega
theorem pickB_fn {ps : List Int} {n : Nat} {b : Bd} (hn : n < 1000) (hps : ∀ v ∈ ps, 0 ≤ v ∧ v ≤ 255) (hl : (ps.length : Int) ≤ 9223372036854775807) (hb : 0 ≤ b.lo + 500 ∧ b.lo ≤ b.hi ∧ b.hi ≤ 100000) :
    Fn Tryz.prog 49 [.agg [I b.lo, I b.hi], .ptr 0 0, .ptr 1 0] (mkH [some [I (n : Nat)], some [.ro false 1 (ps.map fun v => [U v])]]) (I (pkT ps (n + 1) b)) (mkH [some [I ((n + 1 : Nat) : Int)], some [.ro false 1 (ps.map fun v => [U v])]]) := by
  refine Fn.ofR (cs0 := [[I (n : Nat)], [.ro false 1 (ps.map fun v => [U v])]]) (cs1 := [[I ((n + 1 : Nat) : Int)], [.ro false 1 (ps.map fun v => [U v])]]) noM (by kernel_rfl) Tryz.func49 rfl (by simp) rfl (by rfl) ?_
  have w1 : IntKind.i64.wrap ((n : Int) + 1) = (n : Int) + 1 := wrap_in (by omega) (by omega)
  refine (Classical.em (ps.length = 0)).elim (fun h0 => ?_) (fun h0 => ?_)
  · have hp : pkT ps (n + 1) b = b.lo := by unfold pkT; rw [if_pos h0]
    have e0 : ((ps.length : Int) == 0) = true := by simp; exact List.length_eq_zero_iff.1 h0
    simp -dsimp -implicitDefEqProofs [w1, e0, hp]
    done
  · have hp : pkT ps (n + 1) b = b.lo + ps.getD ((n + 1) % ps.length) 0 % (b.hi - b.lo + 1) := by unfold pkT; rw [if_neg h0]
    have e0 : ((ps.length : Int) == 0) = false := by simp; intro h; simp [h] at h0
    refine Exists.elim (show ∃ K, K = (n + 1) % ps.length from ⟨_, rfl⟩) fun K hK => ?_
    have hKl : K < ps.length := by rw [hK]; exact Nat.mod_lt _ (by omega)
    refine Exists.elim (show ∃ v, ps[K]? = some v from ⟨_, List.getElem?_eq_getElem hKl⟩) fun v hv => ?_
    have hvb := hps v (List.mem_of_getElem? hv)
    have hgd : ps.getD K 0 = v := by rw [List.getD_eq_getElem?_getD, hv]; rfl
    rw [← hK, hgd] at hp
    have kt : ((n : Int) + 1).tmod (ps.length : Int) = (K : Int) := by rw [tm (by omega), hK]; simp
    have hz : ((ps.length : Int) = 0) = False := eq_false (by omega)
    have hz2 : (ps = []) = False := eq_false (fun h => h0 (by simp [h]))
    have a1 : IntKind.i64.wrap (b.hi - b.lo) = b.hi - b.lo := wrap_in (by omega) (by omega)
    have a2 : IntKind.i64.wrap (b.hi - b.lo + 1) = b.hi - b.lo + 1 := wrap_in (by omega) (by omega)
    have a3 : IntKind.i64.wrap v = v := wrap_in (by omega) (by omega)
    have a4 : v.tmod (b.hi - b.lo + 1) = v % (b.hi - b.lo + 1) := tm hvb.1
    have a5 : (b.hi - b.lo + 1 = 0) = False := eq_false (by omega)
    have r1 := Int.emod_nonneg v (show b.hi - b.lo + 1 ≠ 0 by omega)
    have r2 := Int.emod_lt_of_pos v (show 0 < b.hi - b.lo + 1 by omega)
    have a6 : IntKind.i64.wrap (b.lo + v % (b.hi - b.lo + 1)) = b.lo + v % (b.hi - b.lo + 1) := wrap_in (by omega) (by omega)
    have a7 : IntKind.i64.wrap (v % (b.hi - b.lo + 1)) = v % (b.hi - b.lo + 1) := wrap_in (by omega) (by omega)
    have a8 : IntKind.i64.wrap (K : Int) = (K : Int) := wrap_in (by omega) (by omega)
    simp -dsimp -implicitDefEqProofs [w1, e0]
    refine DrawR.on {} (by kernel_rfl) (by simp) ?_
    simp -dsimp -implicitDefEqProofs [kt, hz, hz2, hv, a1, a2, a3, a4, a5, a6, a7, a8, hp]
    done
end Go.Pe

/- Depths in a truth of small numbers; drafts in a truth of the density. -/
namespace Go.Pe
open Go Go.Proofs Go.Proofs.YtffckclggkjbgaaGreat
set_option maxRecDepth 20000
set_option maxHeartbeats 8000000
theorem curveS_cv {n : Int} {up : Bool} (h0 : 0 ≤ n) (h1 : n ≤ 5000) : cv n up curveS = n := by
  unfold curveS
  rw [cv]
  by_cases h2 : n ≤ 0
  · rw [if_pos (by exact h2)]; show (0 : Int) = n; omega
  rw [if_neg (by exact h2)]
  by_cases h3 : n < 5000
  · rw [if_pos (by exact h3)]
    have e1 : rise ⟨0, 0⟩ ⟨5000, 5000⟩ n = n * 5000 := by simp [rise]
    unfold part
    rw [e1]
    have e2 : (5000 : Int) - 0 = 5000 := rfl
    show 0 + _ = n
    split
    · show 0 + -(-(n * 5000) / (5000 - 0)) = n
      rw [e2, ← Int.neg_mul, Int.mul_ediv_cancel _ (by omega)]; omega
    · show 0 + n * 5000 / (5000 - 0) = n
      rw [e2, Int.mul_ediv_cancel _ (by omega)]; omega
  · rw [if_neg (by exact h3)]
    simp only [cv]; omega
theorem at0_S {x : Sr} : At (pgOf x).f.r.rs 5 0 ⟨10, 1, span x.base.a x.base.b, curveS, 0, span x.bot.a x.bot.b, 9000⟩ := ⟨rfl, by show (0 : Int) ≤ 5; omega, by show (5 : Int) < 10; omega⟩
theorem at1_S {x : Sr} : At (pgOf x).f.r.rs 12 1 ⟨10, 1, span x.base.c x.base.d, curveS, 0, span x.bot.c x.bot.d, 9000⟩ := ⟨rfl, by show (10 : Int) ≤ 12; omega, by show (12 : Int) < 20; omega⟩
theorem ss_S {x : Sr} : (pgOf x).f.r.ss = [⟨12, span x.sh.a x.sh.b, 0, ⟨24 * (x.sh.c % 3 - 1), 24 * (x.sh.c % 3 - 1 + x.sh.d % 2)⟩⟩] := rfl
theorem okRv_S {x : Sr} (hx : x.Ok) : OkRv (pgOf x).f := okRv_of (rv_of_start (okP_of (pgE_of hx)).st)
/-- The i-th row of the sides. -/
theorem side_S {x : Sr} {i : Nat} {q : Q4} (h : (rowsS x)[i]? = some q) : sideAt (pgOf x).f.sides 0 i = span q.a q.b ∧ sideAt (pgOf x).f.sides 1 i = span q.c q.d := by
  have e0 : (side0S x)[i]? = some (span q.a q.b) := by simp [side0S, h]
  have e1 : (side1S x)[i]? = some (span q.c q.d) := by simp [side1S, h]
  constructor
  · show ((side0S x)).getD ((i : Int).toNat) ⟨0, 0⟩ = _
    rw [Int.toNat_natCast, List.getD_eq_getElem?_getD, e0]; rfl
  · show ((side1S x)).getD ((i : Int).toNat) ⟨0, 0⟩ = _
    rw [Int.toNat_natCast, List.getD_eq_getElem?_getD, e1]; rfl
theorem rf0_S {x : Sr} {i : Nat} {q : Q4} (h : (rowsS x)[i]? = some q) : rf (pgOf x).f.r (pgOf x).f.sides 0 i = span q.a q.b := by
  rw [rf_zero (by omega), (side_S h).1]
theorem rf0_neg {x : Sr} : rf (pgOf x).f.r (pgOf x).f.sides 0 (-1) = span x.base.a x.base.b := by
  rw [rf_neg (by omega)]; rfl
theorem rf1_S {x : Sr} {i : Nat} {q : Q4} (h : (rowsS x)[i]? = some q) : rf (pgOf x).f.r (pgOf x).f.sides 1 i = ⟨(span q.c q.d).lo + (rf (pgOf x).f.r (pgOf x).f.sides 0 ((i : Int) - 1)).lo, (span q.c q.d).hi + (rf (pgOf x).f.r (pgOf x).f.sides 0 ((i : Int) - 1)).hi⟩ := by
  rw [rf_succ (by omega), (side_S h).2]; rfl
theorem rf0_in {x : Sr} (hx : x.Ok) {i : Nat} (h : i ≤ (rowsS x).length) : 0 ≤ (rf (pgOf x).f.r (pgOf x).f.sides 0 ((i : Int) - 1)).lo ∧ (rf (pgOf x).f.r (pgOf x).f.sides 0 ((i : Int) - 1)).lo ≤ 295 := by
  have hb := hx.base
  cases i with
  | zero =>
    show 0 ≤ (rf (pgOf x).f.r (pgOf x).f.sides 0 (-1)).lo ∧ (rf (pgOf x).f.r (pgOf x).f.sides 0 (-1)).lo ≤ 295
    rw [rf0_neg]
    have := span_in hb.1 hb.2.1
    omega
  | succ i =>
    have e : (((i + 1 : Nat) : Int) - 1) = (i : Int) := by omega
    rw [e]
    have hq : ∃ q, (rowsS x)[i]? = some q := ⟨_, List.getElem?_eq_getElem (by omega)⟩
    obtain ⟨q, hq⟩ := hq
    have hr := rowsS_ok hx q (List.mem_of_getElem? hq)
    rw [rf0_S hq]
    have := span_in hr.1 hr.2.1
    omega
/-- The first pass in a truth. -/
theorem dep0_S {x : Sr} (hx : x.Ok) {i : Nat} {q : Q4} {T B : Int} (h : (rowsS x)[i]? = some q) (hT : (span q.a q.b).lo ≤ T) (hB : B ≤ (span x.bot.a x.bot.b).hi) : (dF (pgOf x).f 5 i).lo ≤ max 0 (T - B) := by
  have hr := rowsS_ok hx q (List.mem_of_getElem? h)
  have hs := span_in hr.1 hr.2.1
  rw [dF_eq (okRv_S hx) at0_S, rf0_S h]
  have e1 : bedF 5 i (span x.bot.a x.bot.b) (pgOf x).f.r.ss = span x.bot.a x.bot.b := by
    simp only [bedF, ss_S, List.foldl_cons, List.foldl_nil, bedS]
    rw [if_neg (by omega)]
  show (dpt (lvl _ _) (bedF 5 i (span x.bot.a x.bot.b) (pgOf x).f.r.ss)).lo ≤ _
  rw [e1]
  simp only [dpt, lvl]
  rw [curveS_cv hs.1 (by omega)]
  omega
/-- The second pass in a truth. -/
theorem dep1_S {x : Sr} (hx : x.Ok) {i : Nat} {q : Q4} {S A B Z G : Int} (h : (rowsS x)[i]? = some q) (hS : (span q.c q.d).lo ≤ S) (hA : (rf (pgOf x).f.r (pgOf x).f.sides 0 ((i : Int) - 1)).lo ≤ A) (hB : B ≤ (span x.bot.c x.bot.d).hi) (hZ : Z ≤ (span x.sh.a x.sh.b).hi) (hG : G ≤ x.sh.c % 3 - 1 + x.sh.d % 2) : (dF (pgOf x).f 12 i).lo ≤ max 0 (S + A - max B (Z + G * i)) := by
  have hi := (List.getElem?_eq_some_iff.1 h).1
  have hr := rowsS_ok hx q (List.mem_of_getElem? h)
  have hs := span_in hr.2.2.1 hr.2.2.2
  have ha := rf0_in hx (i := i) (by omega)
  have hl := rowsS_len (x := x)
  rw [dF_eq (okRv_S hx) at1_S, rf1_S h]
  have e1 : (bedF 12 i (span x.bot.c x.bot.d) (pgOf x).f.r.ss).hi = max (span x.bot.c x.bot.d).hi (grw ⟨12, span x.sh.a x.sh.b, 0, ⟨24 * (x.sh.c % 3 - 1), 24 * (x.sh.c % 3 - 1 + x.sh.d % 2)⟩⟩ i).hi := by
    simp only [bedF, ss_S, List.foldl_cons, List.foldl_nil, bedS]
    rw [if_pos trivial]
  show (dpt (lvl _ _) (bedF 12 i (span x.bot.c x.bot.d) (pgOf x).f.r.ss)).lo ≤ _
  simp only [dpt, e1, lvl]
  rw [curveS_cv (by omega) (by omega)]
  have hmul : G * i ≤ (x.sh.c % 3 - 1 + x.sh.d % 2) * i := Int.mul_le_mul_of_nonneg_right hG (by omega)
  have hgr : (grw ⟨12, span x.sh.a x.sh.b, 0, ⟨24 * (x.sh.c % 3 - 1), 24 * (x.sh.c % 3 - 1 + x.sh.d % 2)⟩⟩ i).hi = (span x.sh.a x.sh.b).hi + (x.sh.c % 3 - 1 + x.sh.d % 2) * i := by
    have em : max 0 ((i : Int) - 0) = i := by omega
    simp only [grw, em]
    rw [← Int.neg_mul, show -(24 * (x.sh.c % 3 - 1 + x.sh.d % 2)) * (i : Int) = -((x.sh.c % 3 - 1 + x.sh.d % 2) * i) * 24 by rw [Int.neg_mul, Int.neg_mul, Int.mul_assoc, Int.mul_comm], Int.mul_ediv_cancel _ (by omega)]
    omega
  rw [hgr]
  omega
theorem dF_le0 {x : Sr} (hx : x.Ok) {i : Nat} (h : i < (rowsS x).length) : (dF (pgOf x).f 5 i).lo ≤ (dF (pgOf x).f 5 i).hi := by
  obtain ⟨q, h⟩ : ∃ q, (rowsS x)[i]? = some q := ⟨_, List.getElem?_eq_getElem h⟩
  have hr := rowsS_ok hx q (List.mem_of_getElem? h)
  have hs := span_in hr.1 hr.2.1
  have hb := span_in hx.bot.1 hx.bot.2.1
  rw [dF_eq (okRv_S hx) at0_S, rf0_S h]
  have e1 : bedF 5 i (span x.bot.a x.bot.b) (pgOf x).f.r.ss = span x.bot.a x.bot.b := by
    simp only [bedF, ss_S, List.foldl_cons, List.foldl_nil, bedS]
    rw [if_neg (by omega)]
  show (dpt (lvl _ _) (bedF 5 i (span x.bot.a x.bot.b) (pgOf x).f.r.ss)).lo ≤ (dpt (lvl _ _) (bedF 5 i (span x.bot.a x.bot.b) (pgOf x).f.r.ss)).hi
  rw [e1]
  simp only [dpt, lvl]
  rw [curveS_cv hs.1 (by omega), curveS_cv (by omega) (by omega)]
  omega
theorem rf0_le {x : Sr} (hx : x.Ok) {i : Nat} (h : i ≤ (rowsS x).length) : (rf (pgOf x).f.r (pgOf x).f.sides 0 ((i : Int) - 1)).lo ≤ (rf (pgOf x).f.r (pgOf x).f.sides 0 ((i : Int) - 1)).hi ∧ (rf (pgOf x).f.r (pgOf x).f.sides 0 ((i : Int) - 1)).hi ≤ 295 := by
  have hb := hx.base
  cases i with
  | zero =>
    show (rf (pgOf x).f.r (pgOf x).f.sides 0 (-1)).lo ≤ (rf (pgOf x).f.r (pgOf x).f.sides 0 (-1)).hi ∧ (rf (pgOf x).f.r (pgOf x).f.sides 0 (-1)).hi ≤ 295
    rw [rf0_neg]
    have := span_in hb.1 hb.2.1
    omega
  | succ i =>
    have e : (((i + 1 : Nat) : Int) - 1) = (i : Int) := by omega
    rw [e]
    have hq : ∃ q, (rowsS x)[i]? = some q := ⟨_, List.getElem?_eq_getElem (by omega)⟩
    obtain ⟨q, hq⟩ := hq
    have hr := rowsS_ok hx q (List.mem_of_getElem? hq)
    rw [rf0_S hq]
    have := span_in hr.1 hr.2.1
    omega
theorem dF_le1 {x : Sr} (hx : x.Ok) {i : Nat} (h : i < (rowsS x).length) : (dF (pgOf x).f 12 i).lo ≤ (dF (pgOf x).f 12 i).hi := by
  have ha := rf0_in hx (i := i) (by omega)
  have ha2 := rf0_le hx (i := i) (by omega)
  obtain ⟨q, h⟩ : ∃ q, (rowsS x)[i]? = some q := ⟨_, List.getElem?_eq_getElem h⟩
  have hi := (List.getElem?_eq_some_iff.1 h).1
  have hr := rowsS_ok hx q (List.mem_of_getElem? h)
  have hs := span_in hr.2.2.1 hr.2.2.2
  have hb := span_in hx.bot.2.2.1 hx.bot.2.2.2
  have hh := span_in hx.sh.1 hx.sh.2.1
  have hd := hx.sh.2.2.2
  rw [dF_eq (okRv_S hx) at1_S, rf1_S h]
  have e1 : bedF 12 i (span x.bot.c x.bot.d) (pgOf x).f.r.ss = ⟨max (span x.bot.c x.bot.d).lo (grw ⟨12, span x.sh.a x.sh.b, 0, ⟨24 * (x.sh.c % 3 - 1), 24 * (x.sh.c % 3 - 1 + x.sh.d % 2)⟩⟩ i).lo, max (span x.bot.c x.bot.d).hi (grw ⟨12, span x.sh.a x.sh.b, 0, ⟨24 * (x.sh.c % 3 - 1), 24 * (x.sh.c % 3 - 1 + x.sh.d % 2)⟩⟩ i).hi⟩ := by
    simp only [bedF, ss_S, List.foldl_cons, List.foldl_nil, bedS]
    rw [if_pos trivial]
  have hg : (grw ⟨12, span x.sh.a x.sh.b, 0, ⟨24 * (x.sh.c % 3 - 1), 24 * (x.sh.c % 3 - 1 + x.sh.d % 2)⟩⟩ i).lo ≤ (grw ⟨12, span x.sh.a x.sh.b, 0, ⟨24 * (x.sh.c % 3 - 1), 24 * (x.sh.c % 3 - 1 + x.sh.d % 2)⟩⟩ i).hi := by
    have em : max 0 ((i : Int) - 0) = i := by omega
    simp only [grw, em]
    have hmul : (x.sh.c % 3 - 1) * (i : Int) ≤ (x.sh.c % 3 - 1 + x.sh.d % 2) * i := Int.mul_le_mul_of_nonneg_right (by omega) (by omega)
    rw [← Int.neg_mul, show -(24 * (x.sh.c % 3 - 1 + x.sh.d % 2)) * (i : Int) = -((x.sh.c % 3 - 1 + x.sh.d % 2) * i) * 24 by rw [Int.neg_mul, Int.neg_mul, Int.mul_assoc, Int.mul_comm], Int.mul_ediv_cancel _ (by omega),
      show 24 * (x.sh.c % 3 - 1) * (i : Int) = ((x.sh.c % 3 - 1) * i) * 24 by rw [Int.mul_assoc, Int.mul_comm], Int.mul_ediv_cancel _ (by omega)]
    omega
  show (dpt (lvl _ _) (bedF 12 i (span x.bot.c x.bot.d) (pgOf x).f.r.ss)).lo ≤ (dpt (lvl _ _) (bedF 12 i (span x.bot.c x.bot.d) (pgOf x).f.r.ss)).hi
  rw [e1]
  simp only [dpt, lvl]
  rw [curveS_cv (by omega) (by omega), curveS_cv (by omega) (by omega)]
  omega
/-- The bounds of the least depth. -/
theorem lsD_le {x : Sr} (hx : x.Ok) : (lsD (pgOf x)).lo ≤ (lsD (pgOf x)).hi := by
  have hp := pgE_of hx
  have o := okP_of hp
  have hn := pgOf_hrs (x := x)
  have h2 : (pgOf x).way.length = 2 := rfl
  rw [lsD_ok hp, h2]
  have key : ∀ i, i < 2 → (passD (pgOf x).f (pgOf x).way i).1.lo ≤ (passD (pgOf x).f (pgOf x).way i).1.hi := by
    intro i hi
    obtain ⟨q, hq⟩ : ∃ q, (pgOf x).way[i]? = some q := ⟨_, List.getElem?_eq_getElem (by omega)⟩
    have hh := okP_hours o (List.mem_of_getElem? hq)
    have hle : (dF (pgOf x).f q.place q.hours.lo).lo ≤ (dF (pgOf x).f q.place q.hours.lo).hi := by
      obtain ⟨t, ht⟩ : ∃ t : Nat, q.hours.lo = t := ⟨q.hours.lo.toNat, by omega⟩
      rw [ht]
      match i, hi with
      | 0, _ =>
        have : q.place = 5 := by simp [pgOf, wayS] at hq; rw [← hq]
        rw [this]; exact dF_le0 hx (by omega)
      | 1, _ =>
        have : q.place = 12 := by simp [pgOf, wayS] at hq; rw [← hq]
        rw [this]; exact dF_le1 hx (by omega)
    rw [passD, hq]
    have h3 := dsF_at' (d := dF (pgOf x).f q.place) (lo := q.hours.lo) (n := (q.hours.hi - q.hours.lo).toNat) (k := 0) (Nat.zero_le _)
    rw [show q.hours.lo + ((0 : Nat) : Int) = q.hours.lo by omega] at h3
    simp only
    omega
  by_cases hb : ∀ i, i < 2 → (passD (pgOf x).f (pgOf x).way i).1.hi ≤ 200000
  · obtain ⟨i, hi, he⟩ := shF_hi hb (by omega)
    have h4 := (shF_at (D := passD (pgOf x).f (pgOf x).way) hi).1
    have h5 := key i hi
    omega
  · exfalso
    refine hb fun i hi => ?_
    obtain ⟨q, hq⟩ : ∃ q, (pgOf x).way[i]? = some q := ⟨_, List.getElem?_eq_getElem (by omega)⟩
    exact (passD_in (good_of pgOf_wok.small o.st) (okRv_S hx) hq (o.way q (List.mem_of_getElem? hq))).2.2
theorem mZ_mono {u : Hu} {l : List Int} {d d' : Int} (hm : 0 ≤ mass u l l.length) (hd : 0 < d) (h : d ≤ d') : mZ u l d' ≤ mZ u l d := by
  unfold mZ
  exact Int.ofNat_le.2 (meanZ_mono (cdiv_anti (by omega) hd h))
end Go.Pe
