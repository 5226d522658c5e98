import Derived.Test.YtffckclggkjbgaaGreatO07
import Derived.Test.YtffckclggkjbgaaGreatM21
import Derived.Test.YtffckclggkjbgaaGreatO01
set_option linter.unusedVariables false
set_option linter.unusedSimpArgs false
/- The law HullFloats. -/
namespace Go.Pe
open Go Go.Proofs Go.Proofs.YtffckclggkjbgaaGreat
set_option maxRecDepth 20000
set_option maxHeartbeats 8000000
attribute [local simp] t3 u3 t4 u4 t27 u27
attribute [local simp] ts22 us22 ts24 us24 ts72 us72 ts118 us118 ts120 us120 ts25 us25 ts75 us75 ts150 us150 ts224 us224 ts142 us142 ts140 us140 ts196 us196 ts34 us34 ts39 us39 ts198 us198 ts200 us200 ts29 us29
attribute [local simp] convA extA lenA
attribute [local simp] fSec_eq fPt_eq loadAV_eq
theorem small_ofU {u : Hu} (h : greatF u = false) : SmallU u := by
  unfold greatF at h
  rw [Bool.or_eq_false_iff] at h
  have hn : u.ss.length ≤ 10 := by have := of_decide_eq_false h.2; omega
  refine ⟨hn, fun s hs => ?_⟩
  rw [List.take_of_length_le (by omega)] at h
  have h1 : bigSec s = false := by
    refine Bool.eq_false_iff.2 fun ht => ?_
    have := List.any_eq_true.2 ⟨s, hs, ht⟩
    rw [h.1] at this; exact absurd this (by simp)
  simp only [bigSec, Bool.or_eq_false_iff, decide_eq_false_iff_not] at h1
  omega
theorem eq39 {a b c d e : Int} {k : TK} {s : Nat} {z : List Value} {a1 f : Bool} {by' : Nat} : binX Tryz.prog 39 { kind := k, size := s, zero := z, agg := a1, bytes := by', fok := f, cmp := true } .eql (.agg [I a, I b, I c, I d, I e]) (.agg [I a, I b, I c, I d, I e]) = some (B true) := by
  have e1 : binX Tryz.prog 39 { kind := k, size := s, zero := z, agg := a1, bytes := by', fok := f, cmp := true } .eql (.agg [I a, I b, I c, I d, I e]) (.agg [I a, I b, I c, I d, I e]) = some (B ((a == a && (b == b && true)) && ((c == c && (d == d && true)) && (e == e && true)))) := by kernel_rfl
  rw [e1]; simp
attribute [local simp] eq39
theorem hf_big {u : Hu} {l : List Int} {b : Bd} {d : Int} (hg : greatF u = true ∨ 20 < l.length) : Fn Tryz.prog 3 [.agg [I u.a, .ro false 5 (u.ss.map fSec), loadAV false l, I b.lo, I b.hi], I d] .nil (B true) .nil := by
  refine Fn.ofR0 noM (by kernel_rfl) Tryz.func3 rfl (by simp) ?_
  simp -dsimp -implicitDefEqProofs
  refine onCall_in (great_fn (u := u)) ?_
  simp -dsimp -implicitDefEqProofs
  refine ifB_in (fun h1 => ?_) (fun h1 => ?_)
  · simp -dsimp -implicitDefEqProofs
    refine onCall_in (known_fn.beside rfl _) ?_
    simp -dsimp -implicitDefEqProofs
  · have h20 : 20 < l.length := hg.elim (fun h => by rw [h1] at h; exact absurd h (by simp)) id
    have d1 : decide ((20 : Int) < (l.length : Int)) = true := decide_eq_true (by omega)
    simp -dsimp -implicitDefEqProofs [d1]
    refine onCall_in (known_fn.beside rfl _) ?_
    simp -dsimp -implicitDefEqProofs
theorem hf_law {u : Hu} {l : List Int} {b : Bd} {d r1 r2 r3 r4 r5 vv ev fe : Int} (hu : SmallU u) (hg : greatF u = false) (hl : l.length ≤ 20)
    (cV : ∀ f1 h, Fn Tryz.prog 20 [.agg [I u.a, .ro f1 5 (u.ss.map fSec)], I d] h (.tup [I vv, I ev]) h)
    (cF : ∀ f1 f3 h, Fn Tryz.prog 21 [.agg [I u.a, .ro f1 5 (u.ss.map fSec)], loadAV f3 l, .agg [I b.lo, I b.hi]] h (.tup [.agg [I r1, I r2, I r3, I r4, I r5], I fe]) h)
    (h0 : hullOk u = false → ev = 2 ∧ fe = 2 ∧ vv = 0 ∧ r1 = 0 ∧ r2 = 0 ∧ r3 = 0 ∧ r4 = 0 ∧ r5 = 0)
    (h1 : hullOk u = true → inB 0 (lim u) d = false → ev = 3 ∧ vv = 0)
    (h2 : hullOk u = true → inB 0 (lim u) d = true → ev = 0 ∧ vv = vol u d)
    (h3 : hullOk u = true → ldE u l b ≠ 0 → fe = ldE u l b ∧ r1 = 0 ∧ r2 = 0 ∧ r3 = 0 ∧ r4 = 0 ∧ r5 = 0)
    (h4 : hullOk u = true → ldE u l b = 0 → mZ u l b.lo + trm u l ≤ lim u → fe = 0 ∧ floatC u l b = [I r1, I r2, I r3, I r4, I r5])
    (h5 : hullOk u = true → ldE u l b = 0 → ¬ mZ u l b.lo + trm u l ≤ lim u → fe = 8 ∧ r1 = 0 ∧ r2 = 0 ∧ r3 = 0 ∧ r4 = 0 ∧ r5 = 0) :
    Fn Tryz.prog 3 [.agg [I u.a, .ro false 5 (u.ss.map fSec), loadAV false l, I b.lo, I b.hi], I d] .nil (B true) .nil := by
  refine Fn.ofR0 noM (by kernel_rfl) Tryz.func3 rfl (by simp) ?_
  have d1 : decide ((20 : Int) < (l.length : Int)) = false := decide_eq_false (by omega)
  have cG : ∀ h, Fn Tryz.prog 15 [.agg [I u.a, .ro false 5 (u.ss.map fSec)]] h (B false) h := fun h => by have := great_fn (u := u) (h := h); rwa [hg] at this
  have cO : ∀ h, Fn Tryz.prog 17 [.agg [I u.a, .ro false 5 (u.ss.map fSec)]] h (.agg [I u.a, .ro (isz u.ss.length) 5 (u.ss.map fSec)]) h := fun h => own_is hu
  simp -dsimp -implicitDefEqProofs
  refine onCall_in (cG _) ?_
  simp -dsimp -implicitDefEqProofs [d1]
  refine DrawR.on {} (by kernel_rfl) (by simp) ?_
  simp -dsimp -implicitDefEqProofs
  refine onCallQ_in (cO _) ?_
  simp -dsimp -implicitDefEqProofs
  refine onCallQ_in (numbers_fn (l := l) (by omega)) ?_
  simp -dsimp -implicitDefEqProofs
  refine onCall_in (check_fn hu) ?_
  simp -dsimp -implicitDefEqProofs
  refine onCall_in (cV _ _) ?_
  simp -dsimp -implicitDefEqProofs
  refine onCall_in (cF _ _ _) ?_
  simp -dsimp -implicitDefEqProofs
  refine onCall_in (same_fn hu) ?_
  simp -dsimp -implicitDefEqProofs
  refine onCall_in (equal_fn (l := l) (by omega)) ?_
  simp -dsimp -implicitDefEqProofs
  refine onCall_in (rHull_fn hu) ?_
  simp -dsimp -implicitDefEqProofs
  refine ifB_in (fun hok => ?_) (fun hok => ?_)
  rotate_left
  · have g := h0 hok
    have g1 := g.1
    have g2 := g.2.1
    have g3 := g.2.2.1
    have g4 := g.2.2.2.1
    have g5 := g.2.2.2.2.1
    have g6 := g.2.2.2.2.2.1
    have g7 := g.2.2.2.2.2.2.1
    have g8 := g.2.2.2.2.2.2.2
    clear g h0 h1 h2 h3 h4 h5
    simp -dsimp -implicitDefEqProofs [hok, g1, g2, g3, g4, g5, g6, g7, g8]
    refine onCall_in (known_fn.beside rfl _) ?_
    simp -dsimp -implicitDefEqProofs
  have o := okU hok
  have h1 := h1 hok
  have h2 := h2 hok
  have h3 := h3 hok
  have h4 := h4 hok
  have h5 := h5 hok
  have hli := lim_in o
  have cL : ∀ h, Fn Tryz.prog 25 [.agg [I u.a, .ro false 5 (u.ss.map fSec)]] h (I (lim u)) h := fun h => rLim_fn hu o
  simp -dsimp -implicitDefEqProofs [hok]
  refine ifD_in (fun hd1 => ?_) (fun hd1 => ?_)
  · have g := h1 (Bool.eq_false_iff.2 fun h => by have := inB_iff.1 h; omega)
    have g1 := g.1
    have g2 := g.2
    simp -dsimp -implicitDefEqProofs [g1, g2]
    refine onCall_in (rLoad_fn hu (by omega)) ?_
    clear h0 h1 h2
    refine (Classical.em (ldE u l b = 0)).elim (fun hE => ?_) (fun hE => ?_)
    rotate_left
    · have g := h3 hE
      have n1 : (ldE u l b == 0) = false := by simpa using hE
      have g1 := g.1
      have g4 := g.2.1
      have g5 := g.2.2.1
      have g6 := g.2.2.2.1
      have g7 := g.2.2.2.2.1
      have g8 := g.2.2.2.2.2
      clear g h3 h4 h5
      simp -dsimp -implicitDefEqProofs [n1, g1, g4, g5, g6, g7, g8]
      refine onCall_in (known_fn.beside rfl _) ?_
      simp -dsimp -implicitDefEqProofs
    have hE2 : loadE u l = 0 ∧ vB 900 1100 b = true := by
      have hE' := hE
      unfold ldE at hE'
      rw [if_neg (by rw [hok]; simp)] at hE'
      split at hE'; · rename_i x; exact absurd hE' x
      split at hE'; · omega
      rename_i x y
      exact ⟨by simpa using x, by simpa using y⟩
    simp -dsimp -implicitDefEqProofs [hE]
    refine onCall_in (rFloat_fn hu o (loadE_ok hE2.1) hE2.2) ?_
    refine (Classical.em (mZ u l b.lo + trm u l ≤ lim u)).elim (fun hf => ?_) (fun hf => ?_)
    · have g := h4 hE hf
      have g1 := g.1
      have g2 := g.2
      clear g h3 h4 h5
      simp -dsimp -implicitDefEqProofs [hf, g1, g2]
      refine onCall_in (known_fn.beside rfl _) ?_
      simp -dsimp -implicitDefEqProofs
    · have g := h5 hE hf
      have g1 := g.1
      have g4 := g.2.1
      have g5 := g.2.2.1
      have g6 := g.2.2.2.1
      have g7 := g.2.2.2.2.1
      have g8 := g.2.2.2.2.2
      clear g h3 h4 h5
      simp -dsimp -implicitDefEqProofs [hf, g1, g4, g5, g6, g7, g8]
      refine onCall_in (known_fn.beside rfl _) ?_
      simp -dsimp -implicitDefEqProofs
  simp -dsimp -implicitDefEqProofs
  refine onCall_in (cL _) ?_
  simp -dsimp -implicitDefEqProofs
  refine ifD_in (fun hd2 => ?_) (fun hd2 => ?_)
  · have g := h1 (Bool.eq_false_iff.2 fun h => by have := inB_iff.1 h; omega)
    have g1 := g.1
    have g2 := g.2
    simp -dsimp -implicitDefEqProofs [g1, g2]
    refine onCall_in (rLoad_fn hu (by omega)) ?_
    clear h0 h1 h2
    refine (Classical.em (ldE u l b = 0)).elim (fun hE => ?_) (fun hE => ?_)
    rotate_left
    · have g := h3 hE
      have n1 : (ldE u l b == 0) = false := by simpa using hE
      have g1 := g.1
      have g4 := g.2.1
      have g5 := g.2.2.1
      have g6 := g.2.2.2.1
      have g7 := g.2.2.2.2.1
      have g8 := g.2.2.2.2.2
      clear g h3 h4 h5
      simp -dsimp -implicitDefEqProofs [n1, g1, g4, g5, g6, g7, g8]
      refine onCall_in (known_fn.beside rfl _) ?_
      simp -dsimp -implicitDefEqProofs
    have hE2 : loadE u l = 0 ∧ vB 900 1100 b = true := by
      have hE' := hE
      unfold ldE at hE'
      rw [if_neg (by rw [hok]; simp)] at hE'
      split at hE'; · rename_i x; exact absurd hE' x
      split at hE'; · omega
      rename_i x y
      exact ⟨by simpa using x, by simpa using y⟩
    simp -dsimp -implicitDefEqProofs [hE]
    refine onCall_in (rFloat_fn hu o (loadE_ok hE2.1) hE2.2) ?_
    refine (Classical.em (mZ u l b.lo + trm u l ≤ lim u)).elim (fun hf => ?_) (fun hf => ?_)
    · have g := h4 hE hf
      have g1 := g.1
      have g2 := g.2
      clear g h3 h4 h5
      simp -dsimp -implicitDefEqProofs [hf, g1, g2]
      refine onCall_in (known_fn.beside rfl _) ?_
      simp -dsimp -implicitDefEqProofs
    · have g := h5 hE hf
      have g1 := g.1
      have g4 := g.2.1
      have g5 := g.2.2.1
      have g6 := g.2.2.2.1
      have g7 := g.2.2.2.2.1
      have g8 := g.2.2.2.2.2
      clear g h3 h4 h5
      simp -dsimp -implicitDefEqProofs [hf, g1, g4, g5, g6, g7, g8]
      refine onCall_in (known_fn.beside rfl _) ?_
      simp -dsimp -implicitDefEqProofs
  · have g := h2 (inB_iff.2 (by omega))
    have g1 := g.1
    have g2 := g.2
    simp -dsimp -implicitDefEqProofs [g1]
    refine onCall_in (rVolume_fn (d := d) o (by omega) (by omega)) ?_
    simp -dsimp -implicitDefEqProofs [g2]
    refine onCall_in (rLoad_fn hu (by omega)) ?_
    clear h0 h1 h2
    refine (Classical.em (ldE u l b = 0)).elim (fun hE => ?_) (fun hE => ?_)
    rotate_left
    · have g := h3 hE
      have n1 : (ldE u l b == 0) = false := by simpa using hE
      have g1 := g.1
      have g4 := g.2.1
      have g5 := g.2.2.1
      have g6 := g.2.2.2.1
      have g7 := g.2.2.2.2.1
      have g8 := g.2.2.2.2.2
      clear g h3 h4 h5
      simp -dsimp -implicitDefEqProofs [n1, g1, g4, g5, g6, g7, g8]
      refine onCall_in (known_fn.beside rfl _) ?_
      simp -dsimp -implicitDefEqProofs
    have hE2 : loadE u l = 0 ∧ vB 900 1100 b = true := by
      have hE' := hE
      unfold ldE at hE'
      rw [if_neg (by rw [hok]; simp)] at hE'
      split at hE'; · rename_i x; exact absurd hE' x
      split at hE'; · omega
      rename_i x y
      exact ⟨by simpa using x, by simpa using y⟩
    simp -dsimp -implicitDefEqProofs [hE]
    refine onCall_in (rFloat_fn hu o (loadE_ok hE2.1) hE2.2) ?_
    refine (Classical.em (mZ u l b.lo + trm u l ≤ lim u)).elim (fun hf => ?_) (fun hf => ?_)
    · have g := h4 hE hf
      have g1 := g.1
      have g2 := g.2
      clear g h3 h4 h5
      simp -dsimp -implicitDefEqProofs [hf, g1, g2]
      refine onCall_in (known_fn.beside rfl _) ?_
      simp -dsimp -implicitDefEqProofs
    · have g := h5 hE hf
      have g1 := g.1
      have g4 := g.2.1
      have g5 := g.2.2.1
      have g6 := g.2.2.2.1
      have g7 := g.2.2.2.2.1
      have g8 := g.2.2.2.2.2
      clear g h3 h4 h5
      simp -dsimp -implicitDefEqProofs [hf, g1, g4, g5, g6, g7, g8]
      refine onCall_in (known_fn.beside rfl _) ?_
      simp -dsimp -implicitDefEqProofs
end Go.Pe

/- Arguments of the laws on hulls, opened. -/
namespace Go.Pe
open Go Go.Proofs Go.Proofs.YtffckclggkjbgaaGreat
set_option maxRecDepth 100000
theorem open_row {n : Nat} {xs : List AV} (h : TyC Tryz.prog (n + 2) 150 xs) : ∃ p : Pt, xs = fPt p := by
  obtain ⟨a, r, rfl, _, h1, a', r', rfl, _, h2, rfl⟩ := TyC_at tsi150 h
  obtain ⟨m, rfl⟩ := open_i64 h1
  obtain ⟨k, rfl⟩ := open_i64 h2
  exact ⟨⟨m, k⟩, rfl⟩
theorem open_hold {n : Nat} {xs : List AV} (h : TyC Tryz.prog (n + 2) 75 xs) : ∃ p : Pt, xs = fPt p := by
  obtain ⟨a, r, rfl, _, h1, a', r', rfl, _, h2, rfl⟩ := TyC_at tsi75 h
  obtain ⟨m, rfl⟩ := open_i64 h1
  obtain ⟨k, rfl⟩ := open_i64 h2
  exact ⟨⟨m, k⟩, rfl⟩
theorem open_hrows {n : Nat} {xs : List AV} (h : TyC Tryz.prog (n + 3) 118 xs) : ∃ l : List Pt, xs = [.ro false 2 (l.map fPt)] := by
  obtain ⟨rows, rfl, h1, h2⟩ := TyC_at tsi118 h
  obtain ⟨l, rfl, _⟩ := rows_map fPt (fun _ => True) (rows := rows) (fun r hr => (open_row (h2 r hr).2).imp fun _ h => ⟨h, trivial⟩)
  exact ⟨l, by rw [show Tryz.prog.cellsOf 150 = 2 by kernel_rfl]⟩
theorem open_holds {n : Nat} {xs : List AV} (h : TyC Tryz.prog (n + 3) 72 xs) : ∃ l : List Pt, xs = [.ro false 2 (l.map fPt)] := by
  obtain ⟨rows, rfl, h1, h2⟩ := TyC_at tsi72 h
  obtain ⟨l, rfl, _⟩ := rows_map fPt (fun _ => True) (rows := rows) (fun r hr => (open_hold (h2 r hr).2).imp fun _ h => ⟨h, trivial⟩)
  exact ⟨l, by rw [show Tryz.prog.cellsOf 75 = 2 by kernel_rfl]⟩
theorem open_sec {n : Nat} {xs : List AV} (h : TyC Tryz.prog (n + 4) 120 xs) : ∃ s : Sec, xs = fSec s := by
  obtain ⟨x1, r1, rfl, _, h1, x2, r2, rfl, _, h2, x3, r3, rfl, _, h3, x4, r4, rfl, _, h4, x5, r5, rfl, _, h5, rfl⟩ := TyC_at tsi120 h
  obtain ⟨m1, rfl⟩ := open_i64 h1
  obtain ⟨m2, rfl⟩ := open_i64 h2
  obtain ⟨m3, rfl⟩ := open_i64 h3
  obtain ⟨l4, rfl⟩ := open_hrows h4
  obtain ⟨l5, rfl⟩ := open_holds h5
  exact ⟨⟨m1, m2, m3, l4, l5⟩, rfl⟩
theorem open_secs {n : Nat} {xs : List AV} (h : TyC Tryz.prog (n + 5) 22 xs) : ∃ l : List Sec, xs = [.ro false 5 (l.map fSec)] := by
  obtain ⟨rows, rfl, h1, h2⟩ := TyC_at tsi22 h
  obtain ⟨l, rfl, _⟩ := rows_map fSec (fun _ => True) (rows := rows) (fun r hr => (open_sec (h2 r hr).2).imp fun _ h => ⟨h, trivial⟩)
  exact ⟨l, by rw [show Tryz.prog.cellsOf 120 = 5 by kernel_rfl]⟩
theorem open_hu {n : Nat} {xs : List AV} (h : TyC Tryz.prog (n + 6) 24 xs) : ∃ u : Hu, xs = [I u.a, .ro false 5 (u.ss.map fSec)] := by
  obtain ⟨x1, r1, rfl, _, h1, x2, r2, rfl, _, h2, rfl⟩ := TyC_at tsi24 h
  obtain ⟨m1, rfl⟩ := open_i64 h1
  obtain ⟨l2, rfl⟩ := open_secs h2
  exact ⟨⟨m1, l2⟩, rfl⟩
theorem open_ints {n : Nat} {xs : List AV} (h : TyC Tryz.prog (n + 3) 25 xs) : ∃ l : List Int, xs = [.ro false 1 (l.map fun n => [I n])] := by
  obtain ⟨rows, rfl, h1, h2⟩ := TyC_at tsi25 h
  obtain ⟨l, rfl, _⟩ := rows_map (fun n : Int => [I n]) (fun _ => True) (rows := rows) (fun r hr => (open_i64 (h2 r hr).2).imp fun _ h => ⟨h, trivial⟩)
  exact ⟨l, by rw [show Tryz.prog.cellsOf 3 = 1 by kernel_rfl]⟩
theorem open_loaded {n : Nat} {xs : List AV} (h : TyC Tryz.prog (n + 7) 29 xs) : ∃ (u : Hu) (l : List Int) (b : Bd), xs = [I u.a, .ro false 5 (u.ss.map fSec), .ro false 1 (l.map fun n => [I n]), I b.lo, I b.hi] := by
  obtain ⟨x1, r1, rfl, _, h1, x2, r2, rfl, _, h2, x3, r3, rfl, _, h3, rfl⟩ := TyC_at tsi29 h
  obtain ⟨u, rfl⟩ := open_hu h1
  obtain ⟨l, rfl⟩ := open_ints h2
  obtain ⟨b, rfl⟩ := open_bd h3
  exact ⟨u, l, b, rfl⟩
end Go.Pe

/- The law HullFloats of package hull returns true for every hull, every load, all bounds of the density and every draft. It has no condition. -/
namespace Go.Pe
open Go Go.Proofs Go.Proofs.YtffckclggkjbgaaGreat
set_option maxRecDepth 100000
theorem floatR_five {u : Hu} {l : List Int} {b : Bd} : ∃ r1 r2 r3 r4 r5 : Int, floatR u l b = [I r1, I r2, I r3, I r4, I r5] := by
  unfold floatR
  split
  · exact ⟨_, _, _, _, _, floatC_eq⟩
  · exact ⟨_, _, _, _, _, rfl⟩
theorem zero_five {r1 r2 r3 r4 r5 : Int} (h : ([I 0, I 0, I 0, I 0, I 0] : List AV) = [I r1, I r2, I r3, I r4, I r5]) : r1 = 0 ∧ r2 = 0 ∧ r3 = 0 ∧ r4 = 0 ∧ r5 = 0 := by
  simp only [List.cons.injEq, AV.val.injEq, Value.int.injEq, true_and, and_true] at h
  obtain ⟨a, b, c, d, e⟩ := h
  exact ⟨a.symm, b.symm, c.symm, d.symm, e.symm⟩
theorem floatR_no {u : Hu} {l : List Int} {b : Bd} (h : fltE u l b ≠ 0) : floatR u l b = [I 0, I 0, I 0, I 0, I 0] := by unfold floatR; rw [if_neg h]
theorem fltE_ld {u : Hu} {l : List Int} {b : Bd} : fltE u l b = if ldE u l b ≠ 0 then ldE u l b else if mZ u l b.lo + trm u l ≤ lim u then 0 else 8 := by
  unfold fltE ldE
  split
  · simp
  · split
    · rfl
    · split <;> simp
theorem hf_all (ys : List AV) (h : TyVs Tryz.prog 20 [29, 3] ys) : ∃ h', Fn Tryz.prog 3 ys .nil (.val (.bool true)) h' := by
  obtain ⟨y1, z1, rfl, v1, y2, z2, rfl, v2, rfl⟩ := h
  obtain ⟨x1, rfl, w1⟩ := TyV_st (by kernel_rfl) v1
  have v2 := TyV_one (by kernel_rfl) v2
  obtain ⟨u, l, b, rfl⟩ := open_loaded w1
  obtain ⟨d, e2⟩ := open_i64 v2
  cases e2
  refine ⟨.nil, ?_⟩
  by_cases hbig : greatF u = true ∨ 20 < l.length
  · exact hf_big hbig
  have hg : greatF u = false := Bool.eq_false_iff.2 fun h => hbig (.inl h)
  have hl : l.length ≤ 20 := by have := fun h => hbig (.inr h); omega
  have hu := small_ofU hg
  obtain ⟨r1, r2, r3, r4, r5, hR⟩ := floatR_five (u := u) (l := l) (b := b)
  refine hf_law (r1 := r1) (r2 := r2) (r3 := r3) (r4 := r4) (r5 := r5) (vv := if vlE u d = 0 then vol u d else 0) (ev := vlE u d) (fe := fltE u l b) hu hg hl (fun f1 h => Volume_fn hu) (fun f1 f3 h => by rw [← hR]; exact Float_fn hu (by omega)) ?_ ?_ ?_ ?_ ?_ ?_
  · intro hok
    have e1 : vlE u d = 2 := by simp [vlE, hok]
    have e2 : fltE u l b = 2 := by simp [fltE, hok]
    have e3 := floatR_no (u := u) (l := l) (b := b) (by omega)
    rw [e1, e2]
    exact ⟨rfl, rfl, rfl, zero_five (by rw [← e3, hR])⟩
  · intro hok hd
    have e1 : vlE u d = 3 := by simp [vlE, hok, hd]
    rw [e1]; exact ⟨rfl, rfl⟩
  · intro hok hd
    have e1 : vlE u d = 0 := by simp [vlE, hok, hd]
    rw [e1]; exact ⟨rfl, rfl⟩
  · intro hok hE
    have e2 : fltE u l b = ldE u l b := by rw [fltE_ld, if_pos hE]
    have e3 := floatR_no (u := u) (l := l) (b := b) (by omega)
    exact ⟨e2, zero_five (by rw [← e3, hR])⟩
  · intro hok hE hf
    have e2 : fltE u l b = 0 := by rw [fltE_ld, if_neg (by omega), if_pos hf]
    have e3 : floatR u l b = floatC u l b := by unfold floatR; rw [if_pos e2]
    exact ⟨e2, by rw [← e3, hR]⟩
  · intro hok hE hf
    have e2 : fltE u l b = 8 := by rw [fltE_ld, if_neg (by omega), if_neg hf]
    have e3 := floatR_no (u := u) (l := l) (b := b) (by omega)
    exact ⟨e2, zero_five (by rw [← e3, hR])⟩
end Go.Pe
namespace Go.Proofs.YtffckclggkjbgaaGreat
theorem hullFloats : Rows.HullFloatsSaid := holds3 Go.Pe.hf_all
end Go.Proofs.YtffckclggkjbgaaGreat
