import Derived.Test.YtffckclggkjbgaaGreatY18
import Derived.Test.YtffckclggkjbgaaGreatY19
import Derived.Test.YtffckclggkjbgaaGreatY23
set_option linter.unusedVariables false
set_option linter.unusedSimpArgs false
/- Hulls as data; too great ones. -/
namespace Go.Pe
open Go Go.Proofs Go.Proofs.YtffckclggkjbgaaGreat
attribute [local simp] t3 u3 t4 u4
attribute [local simp] ts22 us22 ts24 us24 ts72 us72 ts118 us118 ts120 us120 ts25 us25 ts75 us75 ts150 us150
attribute [local simp] convA extA lenA
set_option maxRecDepth 20000
set_option maxHeartbeats 8000000

structure Pt where
  x : Int
  y : Int
noncomputable def fPt (p : Pt) : List AV := [I p.x, I p.y]
structure Sec where
  a : Int
  b : Int
  c : Int
  ps : List Pt
  qs : List Pt
noncomputable def fSec (s : Sec) : List AV := [I s.a, I s.b, I s.c, .ro false 2 (s.ps.map fPt), .ro false 2 (s.qs.map fPt)]
structure Hu where
  a : Int
  ss : List Sec
noncomputable def Hu.cells (u : Hu) : List AV := [I u.a, .ro false 5 (u.ss.map fSec)]
theorem fSec_eq {s : Sec} : fSec s = [I s.a, I s.b, I s.c, .ro false 2 (s.ps.map fPt), .ro false 2 (s.qs.map fPt)] := rfl
theorem Hu_eq {u : Hu} : u.cells = [I u.a, .ro false 5 (u.ss.map fSec)] := rfl
attribute [local simp] fSec_eq Hu_eq
def bigSec (s : Sec) : Bool := decide (25 < s.ps.length) || decide (8 < s.qs.length)
def greatF (u : Hu) : Bool := (u.ss.take 11).any bigSec || decide (10 < u.ss.length)

theorem great_big {u : Hu} {i : Nat} {s : Sec} (hs : u.ss[i]? = some s) (hi : i < 11) (hb : bigSec s = true) : greatF u = true := by
  unfold greatF
  rw [Bool.or_eq_true]
  refine .inl (List.any_eq_true.2 ⟨s, List.mem_of_getElem? (i := i) (by rw [List.getElem?_take_of_lt hi]; exact hs), hb⟩)
theorem great_next {u : Hu} {i : Nat} {s : Sec} (hs : u.ss[i]? = some s) (hb : bigSec s = false) (h : (u.ss.take i).any bigSec = false) : (u.ss.take (i + 1)).any bigSec = false := by
  rw [List.take_add_one, hs, List.any_append, h]; simp [hb]
theorem great_end {u : Hu} {i : Nat} (hi : i = 11 ∨ u.ss.length ≤ i) (h11 : i ≤ 11) (h : (u.ss.take i).any bigSec = false) : greatF u = decide ((10 : Int) < (u.ss.length : Int)) := by
  have h2 : (u.ss.take 11).any bigSec = false := by
    rcases hi with rfl | hi
    · exact h
    · rw [List.take_of_length_le (by omega)]
      rw [List.take_of_length_le hi] at h
      exact h
  unfold greatF
  rw [h2, Bool.false_or]
  exact decide_eq_decide.2 (by omega)
theorem great_fn {u : Hu} {h : H} : Fn Tryz.prog 15 [.agg u.cells] h (B (greatF u)) h := by
  refine Fn.beside ?_ rfl h
  refine Fn.ofR0 noM (by kernel_rfl) Tryz.func15 rfl (by simp) ?_
  simp -dsimp -implicitDefEqProofs
  refine LoopCR.on 37 (fun i => [(1, .ptr 0 0), (3, I (i : Nat))]) (fun i => [some [I u.a, .ro false 5 (u.ss.map fSec)]]) (fun i => i ≤ u.ss.length ∧ i ≤ 11 ∧ (u.ss.take i).any bigSec = false) (fun i => 11 - i) 0 [0] (by simp) ?_ ?_
  · simp -dsimp -implicitDefEqProofs
  rintro i j ⟨hi, hi11, hno⟩
  simp -dsimp -implicitDefEqProofs
  refine ifD_in (fun hlt => ?_) (fun hge => ?_)
  simp -dsimp -implicitDefEqProofs
  refine ifD_in (fun h20 => ?_) (fun h20 => ?_)
  · refine Exists.elim (show ∃ s, u.ss[i]? = some s from ⟨_, List.getElem?_eq_getElem hlt⟩) fun s hs => ?_
    refine (Classical.em (bigSec s = true)).elim (fun hb => ?_) (fun hb => ?_)
    · have hg := great_big hs (by omega) hb
      refine (Classical.em (25 < s.ps.length)).elim (fun h1 => ?_) (fun h1 => ?_)
      · have d1 : decide ((25 : Int) < (s.ps.length : Int)) = true := decide_eq_true (by omega)
        simp -dsimp -implicitDefEqProofs [hs, d1, hg]
      · have d1 : decide ((25 : Int) < (s.ps.length : Int)) = false := decide_eq_false (by omega)
        have h2 : 8 < s.qs.length := by simpa [bigSec, h1] using hb
        have d2 : decide ((8 : Int) < (s.qs.length : Int)) = true := decide_eq_true (by omega)
        simp -dsimp -implicitDefEqProofs [hs, d1, d2, hg]
    · have hb' : bigSec s = false := Bool.eq_false_iff.2 hb
      have h1 : ¬ 25 < s.ps.length ∧ ¬ 8 < s.qs.length := by simpa [bigSec] using hb
      have d1 : decide ((25 : Int) < (s.ps.length : Int)) = false := decide_eq_false (by omega)
      have d2 : decide ((8 : Int) < (s.qs.length : Int)) = false := decide_eq_false (by omega)
      have w1 : IntKind.i64.wrap ((i : Int) + 1) = (i : Int) + 1 := wrap_in (by omega) (by omega)
      simp -dsimp -implicitDefEqProofs [hs, d1, d2, w1]
      refine again_in (i + 1) [0] ⟨hlt, by omega, great_next hs hb' hno⟩ (by omega) ?_
      simp -dsimp -implicitDefEqProofs
  all_goals
    have hg := great_end (u := u) (i := i) (by omega) hi11 hno
    simp -dsimp -implicitDefEqProofs [hg]
end Go.Pe

/- Hulls copied. -/
namespace Go.Pe
open Go Go.Proofs Go.Proofs.YtffckclggkjbgaaGreat
attribute [local simp] t3 u3 t4 u4
attribute [local simp] ts22 us22 ts24 us24 ts72 us72 ts118 us118 ts120 us120 ts25 us25 ts75 us75 ts150 us150
attribute [local simp] convA extA lenA
set_option maxRecDepth 20000
set_option maxHeartbeats 8000000
attribute [local simp] fSec_eq Hu_eq
structure SmallU (u : Hu) : Prop where
  n : u.ss.length ≤ 10
  p : ∀ s ∈ u.ss, s.ps.length ≤ 25 ∧ s.qs.length ≤ 8
theorem numbers_fn {l : List Int} {f1 : Bool} {h : H} (hl : (l.length : Int) ≤ 1000) : Fn Tryz.prog 18 [.ro f1 1 (l.map fun n => [I n])] h (.ro false 1 (l.map fun n => [I n])) h := by
  refine Fn.beside ?_ rfl h
  refine Fn.ofR0 noM (by kernel_rfl) Tryz.func18 rfl (by simp) ?_
  have hb1 : l.length * 8 ≤ 70368744177664 := by omega
  have hb2 : l.length ≤ 70368744177664 := by omega
  simp -dsimp -implicitDefEqProofs [hb1, hb2]
/-- A slice that was nil and has got these rows. -/
def roN (k : Nat) (rows : List (List AV)) : AV := if rows.length = 0 then .val (.slice none 0 0) else .ro false k rows
theorem own_fn {u : Hu} {h : H} (hu : SmallU u) : Fn Tryz.prog 17 [.agg u.cells] h (.agg [I u.a, roN 5 (u.ss.map fSec)]) h := by
  refine Fn.beside ?_ rfl h
  refine Fn.ofR0 (butM [24, 28]) (by kernel_rfl) Tryz.func17 rfl (by simp) ?_
  have hn := hu.n
  simp -dsimp -implicitDefEqProofs
  refine LoopCR.on 38 (fun i => [(1, .ptr 0 0), (2, .ptr 1 0), (3, .ptr 2 0), (4, I (i : Nat))]) (fun i => [some [I u.a, .ro false 5 (u.ss.map fSec)], some [I 0, .val (.slice none 0 0)], some [I u.a, growN 3 5 i], grown i (rws fSec (u.ss.take i))]) (fun i => i ≤ u.ss.length) (fun i => u.ss.length - i) 0 [0, 1, 2, 99] (by simp) ?_ ?_
  · simp -dsimp -implicitDefEqProofs
  intro i j hi
  simp -dsimp -implicitDefEqProofs
  refine ifD_in (fun hlt => ?_) (fun hge => ?_)
  · refine Exists.elim (show ∃ s, u.ss[i]? = some s from ⟨_, List.getElem?_eq_getElem hlt⟩) fun s hs => ?_
    have hp := hu.p s (List.mem_of_getElem? hs)
    have hb1 : s.ps.length * 16 ≤ 70368744177664 := by omega
    have hb2 : s.ps.length ≤ 70368744177664 := by omega
    have hb3 : s.qs.length * 16 ≤ 70368744177664 := by omega
    have hb4 : s.qs.length ≤ 70368744177664 := by omega
    simp -dsimp -implicitDefEqProofs [hs]
    refine DrawR.on { M := [4], see := [(2, 4), (6, 4)], eff := [(9, [4]), (11, [4])] } (by kernel_rfl) (by simp) ?_
    simp -dsimp -implicitDefEqProofs [hb1, hb2, hb3, hb4]
    refine on_appendN fSec (u.ss.take i) s (by simp) (by rw [List.length_take]; omega) (show (i + 1) * 72 ≤ 70368744177664 by omega) (by omega) rfl rfl (by simp) rfl (fun _ => rfl) ?_ (by simp)
    have w1 : IntKind.i64.wrap ((i : Int) + 1) = (i : Int) + 1 := wrap_in (by omega) (by omega)
    have hst : u.ss.take (i + 1) = u.ss.take i ++ [s] := by rw [List.take_add_one, hs]; rfl
    simp -dsimp -implicitDefEqProofs [w1]
    refine again_in (i + 1) [0, 1, 2, 17] (by omega) (by omega) ?_
    simp -dsimp -implicitDefEqProofs [hst]
  · have hin : i = u.ss.length := by omega
    simp -dsimp -implicitDefEqProofs [hin]
    refine frz_agg_two (frz_one rfl) ?_
    refine (Nat.eq_zero_or_pos u.ss.length).elim (fun h0 => ?_) (fun h0 => ?_)
    · rw [h0]
      exact ⟨1, by simp [roN, h0, growN_zero, frz]⟩
    · have e : roN 5 (u.ss.map fSec) = .ro false 5 (u.ss.map fSec) := by unfold roN; rw [if_neg (by rw [List.length_map]; omega)]
      rw [e]
      exact frz_rwsN (f := fSec) (l := u.ss) (by simp [mkH]) (Nat.zero_le _) rfl (by omega) (fun _ => rfl) (fun _ => rfl)
end Go.Pe

/- Hulls compared. -/
namespace Go.Pe
open Go Go.Proofs Go.Proofs.YtffckclggkjbgaaGreat
attribute [local simp] t3 u3 t4 u4
attribute [local simp] ts22 us22 ts24 us24 ts72 us72 ts118 us118 ts120 us120 ts25 us25 ts75 us75 ts150 us150
attribute [local simp] convA extA lenA
set_option maxRecDepth 20000
set_option maxHeartbeats 8000000
attribute [local simp] fSec_eq
theorem fPt_eq {p : Pt} : fPt p = [I p.x, I p.y] := rfl
theorem neq150 {a b a' b' : Int} {k : TK} {s : Nat} {z : List Value} {a1 f : Bool} {by' : Nat} : binX Tryz.prog 150 { kind := k, size := s, zero := z, agg := a1, bytes := by', fok := f, cmp := true } .neq (.agg [I a, I b]) (.agg [I a', I b']) = some (B (!(a == a' && (b == b' && true)))) := by kernel_rfl
theorem neq75 {a b a' b' : Int} {k : TK} {s : Nat} {z : List Value} {a1 f : Bool} {by' : Nat} : binX Tryz.prog 75 { kind := k, size := s, zero := z, agg := a1, bytes := by', fok := f, cmp := true } .neq (.agg [I a, I b]) (.agg [I a', I b']) = some (B (!(a == a' && (b == b' && true)))) := by kernel_rfl
attribute [local simp] fPt_eq neq150 neq75
/-- Lists of numbers that have the same in them. -/
theorem equal_fn {l : List Int} {f1 f2 : Bool} {h : H} (hl : (l.length : Int) ≤ 1000) : Fn Tryz.prog 23 [.ro f1 1 (l.map fun n => [I n]), .ro f2 1 (l.map fun n => [I n])] h (B true) h := by
  refine Fn.beside ?_ rfl h
  refine Fn.ofR0 noM (by kernel_rfl) Tryz.func23 rfl (by simp) ?_
  have n1 : ((l.length : Int) != l.length) = false := by simp
  simp -dsimp -implicitDefEqProofs [n1]
  refine LoopCR.on 26 (fun i => [(0, .ro f1 1 (l.map fun n => [I n])), (1, .ro f2 1 (l.map fun n => [I n])), (5, I (i : Nat))]) (fun i => []) (fun i => i ≤ l.length) (fun i => l.length - i) 0 [] (by simp) ?_ ?_
  · simp -dsimp -implicitDefEqProofs
  intro i j hi
  simp -dsimp -implicitDefEqProofs
  refine ifD_in (fun hlt => ?_) (fun hge => ?_)
  · refine Exists.elim (show ∃ s, l[i]? = some s from ⟨_, List.getElem?_eq_getElem hlt⟩) fun s hs => ?_
    have w1 : IntKind.i64.wrap ((i : Int) + 1) = (i : Int) + 1 := wrap_in (by omega) (by omega)
    have n2 : (s != s) = false := by simp
    simp -dsimp -implicitDefEqProofs
    refine DrawR.on {} (by kernel_rfl) (by simp) ?_
    simp -dsimp -implicitDefEqProofs [hs, n2, w1]
    refine again_in (i + 1) [] (by omega) (by omega) ?_
    simp -dsimp -implicitDefEqProofs
  · simp -dsimp -implicitDefEqProofs
/-- Hulls that have the same in them. -/
theorem same_fn {u : Hu} {f1 f2 : Bool} {h : H} (hu : SmallU u) : Fn Tryz.prog 22 [.agg [I u.a, .ro f1 5 (u.ss.map fSec)], .agg [I u.a, .ro f2 5 (u.ss.map fSec)]] h (B true) h := by
  refine Fn.beside ?_ rfl h
  refine Fn.ofR0 noM (by kernel_rfl) Tryz.func22 rfl (by simp) ?_
  have hn := hu.n
  have n0 : (u.a != u.a) = false := by simp
  have n1 : ((u.ss.length : Int) != u.ss.length) = false := by simp
  simp -dsimp -implicitDefEqProofs [n0, n1]
  refine LoopCR.on 114 (fun i => [(2, .ptr 0 0), (3, .ptr 1 0), (5, I (i : Nat))]) (fun i => [some [I u.a, .ro f1 5 (u.ss.map fSec)], some [I u.a, .ro f2 5 (u.ss.map fSec)]]) (fun i => i ≤ u.ss.length) (fun i => u.ss.length - i) 0 [0, 1] (by simp) ?_ ?_
  · simp -dsimp -implicitDefEqProofs
  intro i j hi
  simp -dsimp -implicitDefEqProofs
  refine ifD_in (fun hlt => ?_) (fun hge => ?_)
  · refine Exists.elim (show ∃ s, u.ss[i]? = some s from ⟨_, List.getElem?_eq_getElem hlt⟩) fun s hs => ?_
    have hp := hu.p s (List.mem_of_getElem? hs)
    have w1 : IntKind.i64.wrap ((i : Int) + 1) = (i : Int) + 1 := wrap_in (by omega) (by omega)
    have m1 : (s.a != s.a) = false := by simp
    have m2 : (s.b != s.b) = false := by simp
    have m3 : (s.c != s.c) = false := by simp
    have m4 : ((s.ps.length : Int) != s.ps.length) = false := by simp
    have m5 : ((s.qs.length : Int) != s.qs.length) = false := by simp
    simp -dsimp -implicitDefEqProofs
    refine DrawR.on {} (by kernel_rfl) (by simp) ?_
    simp -dsimp -implicitDefEqProofs [hs, m1, m2, m3, m4, m5]
    refine LoopCR.on 114 (fun k => [(2, .ptr 0 0), (3, .ptr 1 0), (5, I (i : Nat)), (6, .ptr 2 0), (7, .ptr 3 0), (8, I (k : Nat))]) (fun k => [some [I u.a, .ro f1 5 (u.ss.map fSec)], some [I u.a, .ro f2 5 (u.ss.map fSec)], some (fSec s), some (fSec s)]) (fun k => k ≤ s.ps.length) (fun k => s.ps.length - k) 0 [0, 1, 12, 13] (by simp) ?_ ?_
    · simp -dsimp -implicitDefEqProofs
    intro k jk hk
    simp -dsimp -implicitDefEqProofs
    refine ifD_in (fun hkl => ?_) (fun hkg => ?_)
    · refine Exists.elim (show ∃ p, s.ps[k]? = some p from ⟨_, List.getElem?_eq_getElem hkl⟩) fun p hp2 => ?_
      have wk : IntKind.i64.wrap ((k : Int) + 1) = (k : Int) + 1 := wrap_in (by omega) (by omega)
      simp -dsimp -implicitDefEqProofs
      refine DrawR.on {} (by kernel_rfl) (by simp) ?_
      simp -dsimp -implicitDefEqProofs [hp2, wk]
      refine again_in (k + 1) [0, 1, 2, 3] (by omega) (by omega) ?_
      simp -dsimp -implicitDefEqProofs
    · simp -dsimp -implicitDefEqProofs
      refine LoopCR.on 114 (fun k => [(2, .ptr 0 0), (3, .ptr 1 0), (5, I (i : Nat)), (6, .ptr 2 0), (7, .ptr 3 0), (9, I (k : Nat))]) (fun k => [some [I u.a, .ro f1 5 (u.ss.map fSec)], some [I u.a, .ro f2 5 (u.ss.map fSec)], some (fSec s), some (fSec s)]) (fun k => k ≤ s.qs.length) (fun k => s.qs.length - k) 0 [0, 1, 2, 3] (by simp) ?_ ?_
      · simp -dsimp -implicitDefEqProofs
      intro q jq hq
      simp -dsimp -implicitDefEqProofs
      refine ifD_in (fun hql => ?_) (fun hqg => ?_)
      · refine Exists.elim (show ∃ p, s.qs[q]? = some p from ⟨_, List.getElem?_eq_getElem hql⟩) fun p hp2 => ?_
        have wk : IntKind.i64.wrap ((q : Int) + 1) = (q : Int) + 1 := wrap_in (by omega) (by omega)
        simp -dsimp -implicitDefEqProofs
        refine DrawR.on {} (by kernel_rfl) (by simp) ?_
        simp -dsimp -implicitDefEqProofs [hp2, wk]
        refine again_in (q + 1) [0, 1, 2, 3] (by omega) (by omega) ?_
        simp -dsimp -implicitDefEqProofs
      · simp -dsimp -implicitDefEqProofs [w1]
        refine again_in (i + 1) [0, 1] (by omega) (by omega) ?_
        simp -dsimp -implicitDefEqProofs
  · simp -dsimp -implicitDefEqProofs
end Go.Pe
