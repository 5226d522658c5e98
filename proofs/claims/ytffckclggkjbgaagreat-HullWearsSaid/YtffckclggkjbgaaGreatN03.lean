import Derived.Test.YtffckclggkjbgaaGreatN01
import Derived.Test.YtffckclggkjbgaaGreatN02
import Derived.Test.YtffckclggkjbgaaGreatM20
import Derived.Test.YtffckclggkjbgaaGreatM09
import Derived.Test.YtffckclggkjbgaaGreatRows
import Derived.ProofKit
import Derived.Test.YtffckclggkjbgaaGreatM21
set_option linter.unusedVariables false
set_option linter.unusedSimpArgs false
/- The law HullWears. -/
namespace Go.Pe
open Go Go.Proofs Go.Proofs.YtffckclggkjbgaaGreat
attribute [local simp] t3 u3 t4 u4 t5 u5 t22 u22 t23 u23 t25 u25 t27 u27 t28 u28 t30 u30 t32 u32 t37 u37 t43 u43 t50 u50 t75 u75 t77 u77 t94 u94 t102 u102 t117 u117 t119 u119 t130 u130 t134 u134 t138 u138 t155 u155 t156 u156 t172 u172
attribute [local simp] tz22 uz22 tz26 uz26 tz29 uz29 tz30 uz30 tz68 uz68 tz69 uz69 ts95 us95 ts99 us99 eq27
attribute [local simp] fP_eq fQ_eq convA extA
set_option maxRecDepth 20000
set_option maxHeartbeats 8000000

theorem ixar {n s s2 by' by2 : Nat} {z z2 : List Value} {a f c a2 f2 c2 : Bool} {e : TypeId} {k2 : TK} {b o : Nat} {i : Int} (h0 : 0 ≤ i) (h1 : i < n) : indexA { kind := .ar n e, size := s, zero := z, agg := a, bytes := by', fok := f, cmp := c } { kind := k2, size := s2, zero := z2, agg := a2, bytes := by2, fok := f2, cmp := c2 } (.ptr b o) i = some (.ptr b (o + i.toNat * s2)) := by
  unfold indexA
  rw [if_neg (by omega)]
  simp only [h1, if_true]
attribute [local simp] ixar
theorem y_end {T W least : Int} {y : Nat} (hW : 0 ≤ W) (hy : y = 0 ∨ (y ≤ 1001 ∧ ((y : Int) - 1) * W ≤ T - least)) (hy1 : (y : Int) - 1 < 1000) (hy2 : ¬ least ≤ T - y * W) : (y : Int) - 1 = yA (T - least) W := by
  rcases Nat.eq_zero_or_pos y with h0 | h0
  · subst h0
    have h : ((0 : Nat) : Int) * W = 0 := by simp
    have : T - least < 0 := by omega
    unfold yA
    rw [if_pos this]; rfl
  · have e1 : (((y - 1 : Nat) : Nat) : Int) = (y : Int) - 1 := by omega
    rcases hy with h1 | ⟨h1, h2⟩
    · omega
    · have hn0 : 0 ≤ ((y : Int) - 1) * W := Int.mul_nonneg (by omega) hW
      rw [← e1]
      refine (yA_end (by omega) hW (by omega) ?_ ?_).symm
      · rw [e1]; exact h2
      · rw [e1, show (y : Int) - 1 + 1 = y by omega]; omega
theorem y_full {T W least : Int} {y : Nat} (hW : 0 ≤ W) (hy : y = 0 ∨ (y ≤ 1001 ∧ ((y : Int) - 1) * W ≤ T - least)) (hy1 : ¬ (y : Int) - 1 < 1000) : (y : Int) - 1 = yA (T - least) W := by
  have e1 : (((y - 1 : Nat) : Nat) : Int) = (y : Int) - 1 := by omega
  rcases hy with h1 | ⟨h1, h2⟩
  · omega
  · have hn0 : 0 ≤ ((y : Int) - 1) * W := Int.mul_nonneg (by omega) hW
    rw [← e1]
    refine (yA_full (by omega) hW ?_ (by omega)).symm
    rw [e1]; exact h2
theorem loP_max {least : Int} {p : Pl} : loP least p ≤ 1000 := by
  unfold loP yA
  split
  · omega
  · split
    · omega
    · exact Int.min_le_right _ _
theorem first_lo {least : Int} {L : List Pl} {i : Nat} {p : Pl} {S : Lf} (hS : S = lfI 1000 least L L.length) (hx : L[i]? = some p) : (i < S.k → S.lo < loP least p) ∧ (i = S.k → loP least p = S.lo) := by
  have hf := lfI_facts (m := 1000) (least := least) (l := L) L.length (Nat.le_refl _)
  rw [← hS] at hf
  have hi : i < L.length := List.getElem?_eq_some_iff.1 hx |>.1
  rcases hf.2.2.2.1 with ⟨g1, g2⟩ | ⟨g1, ⟨p', g2, g3⟩, g4⟩
  · refine ⟨fun h => by omega, fun h => ?_⟩
    have := (hf.2.2.1 i p hi hx).1
    have := loP_max (least := least) (p := p)
    omega
  · refine ⟨fun h => g4 i p h hx, fun h => ?_⟩
    rw [← h, hx] at g2
    cases g2
    exact g3
theorem lfI_take {m least : Int} {L : List Pl} {n : Nat} : ∀ i, i ≤ n → n ≤ L.length → lfI m least (L.take n) i = lfI m least L i
  | 0, _, _ => by rw [lfI_zero, lfI_zero]
  | i + 1, hi, hn => by
    have hx : ∃ p, L[i]? = some p := ⟨_, List.getElem?_eq_getElem (by omega)⟩
    obtain ⟨p, hx⟩ := hx
    have hx2 : (L.take n)[i]? = some p := by rw [List.getElem?_take_of_lt (by omega)]; exact hx
    rw [lfI_succ hx, lfI_succ hx2, lfI_take i (by omega) hn]
theorem lfI_le {m least : Int} {L : List Pl} {i : Nat} (hi : i < L.length) : (lfI m least L (i + 1)).lo ≤ (lfI m least L i).lo ∧ (lfI m least L (i + 1)).hi ≤ (lfI m least L i).hi := by
  have hx : ∃ p, L[i]? = some p := ⟨_, List.getElem?_eq_getElem hi⟩
  obtain ⟨p, hx⟩ := hx
  rw [lfI_succ hx]
  generalize lfI m least L i = s
  have hlo : (lfS least i s p).lo = if loP least p < s.lo then loP least p else s.lo := rfl
  have hhi : (lfS least i s p).hi = min s.hi (hiP least p) := rfl
  rw [hlo, hhi]
  exact ⟨by split <;> omega, Int.min_le_left _ _⟩
theorem life_take {L : List Pl} {least : Int} {n : Nat} (h0 : 0 < n) (hn : n ≤ L.length) (hL : L.length ≤ 20) (hok : ∀ p ∈ L, okP p = true) (hl : 0 ≤ least ∧ least ≤ 255) :
    Fn Tryz.prog 42 [.ro false 4 ((L.take n).map fP), I least] .nil (.tup [.agg [I (lfI 1000 least L n).lo, I (lfI 1000 least L n).hi], I (lfI 1000 least L n).k, I 0]) .nil := by
  have e1 : (L.take n).length = n := by rw [List.length_take]; omega
  have hall : (L.take n).all okP = true := List.all_eq_true.2 fun p hp => hok p (List.mem_of_mem_take hp)
  have hin : inB 0 100000 least = true := inB_iff.2 (by omega)
  have he : lifeE (L.take n) least = 0 := by
    unfold lifeE
    rw [e1, if_neg (by omega), if_neg (by omega), hall, hin]; rfl
  have := Life_fn (l := L.take n) (least := least) (h := .nil) (fu := false) (by rw [e1]; omega) he
  rw [e1, lfI_take n (Nat.le_refl _) hn] at this
  exact this
/-- The plates that are looked at. -/
def plates (x : List Q4) : List Pl := (x.take 20).map plQ
theorem hw_law {x : List Q4} {least : Int} {ps : List Int} (hx : ∀ q ∈ x, okQ q) (hl : 0 ≤ least ∧ least ≤ 255) (hps : ∀ n ∈ ps, 0 ≤ n ∧ n ≤ 255) (hxl : (x.length : Int) ≤ 9223372036854775807) (hpl : (ps.length : Int) ≤ 9223372036854775807) :
    Fn Tryz.prog 12 [.ro false 4 (x.map fQ), U least, u8s ps] .nil (B true) .nil := by
  have hLok : ∀ p ∈ plates x, okP p = true := fun p hp => by
    obtain ⟨q, hq, rfl⟩ := List.mem_map.1 hp
    exact plQ_ok (hx q (List.mem_of_mem_take hq))
  have hL20 : (plates x).length ≤ 20 := by simp [plates]; omega
  obtain ⟨L, hLd⟩ : ∃ L, L = plates x := ⟨_, rfl⟩
  rw [← hLd] at hLok hL20
  obtain ⟨S, hS⟩ : ∃ S, S = lfI 1000 least L L.length := ⟨_, rfl⟩
  have hLL : (L.length : Int) < 2^62 := by omega
  have hlife : ∀ n, 0 < n → n ≤ L.length → Fn Tryz.prog 42 [.ro false 4 ((L.take n).map fP), I least] .nil (.tup [.agg [I (lfI 1000 least L n).lo, I (lfI 1000 least L n).hi], I (lfI 1000 least L n).k, I 0]) .nil := fun n h0 hn => life_take h0 hn hL20 hLok (by omega)
  have hlife0 : Fn Tryz.prog 42 [.ro false 4 [], I least] .nil (.tup [.agg [I 0, I 0], I 0, I 4]) .nil := Life_bad (l := []) (least := least) (fu := false) (by simp) (by simp [lifeE])
  have wl : IntKind.i64.wrap least = least := wrap_in (by omega) (by omega)
  have hb1 : L.length * 32 ≤ 70368744177664 := by omega
  have hb2 : L.length ≤ 70368744177664 := by omega
  refine Fn.ofR0 (butM [69, 258]) (by kernel_rfl) Tryz.func12 rfl (by simp) ?_
  simp -dsimp -implicitDefEqProofs
  refine LoopCR.onZ 293 (fun i => [(0, .ro false 4 (x.map fQ)), (1, U least), (2, u8s ps), (7, grow 0 4 i), (8, I (i : Nat))]) (fun i => [grown i (rws fP ((x.take i).map plQ))]) (fun i => i ≤ x.length ∧ i ≤ 20) (fun i => 20 - i) 0 [99] (by simp) ?_ ?_
  · simp -dsimp -implicitDefEqProofs
  rintro i j ⟨hi, hi20⟩
  simp -dsimp -implicitDefEqProofs
  refine ifD_in (fun hlt => ?_) (fun hge => ?_)
  simp -dsimp -implicitDefEqProofs
  refine ifD_in (fun h20 => ?_) (fun h20 => ?_)
  · refine Exists.elim (show ∃ p, x[i]? = some p from ⟨_, List.getElem?_eq_getElem hlt⟩) fun q hq => ?_
    have hok := hx q (List.mem_of_getElem? hq)
    have w1 : IntKind.i64.wrap q.a = q.a := wrap_in (by have := hok.1; omega) (by have := hok.1; omega)
    have w2 : IntKind.i64.wrap q.b = q.b := wrap_in (by have := hok.2.1; omega) (by have := hok.2.1; omega)
    have w3 : IntKind.i64.wrap q.c = q.c := wrap_in (by have := hok.2.2.1; omega) (by have := hok.2.2.1; omega)
    have w4 : IntKind.i64.wrap q.d = q.d := wrap_in (by have := hok.2.2.2; omega) (by have := hok.2.2.2; omega)
    have w5 : IntKind.i64.wrap (q.a + q.b) = q.a + q.b := wrap_in (by have := hok.1; have := hok.2.1; omega) (by have := hok.1; have := hok.2.1; omega)
    have hp := plQ_ok hok
    have t1 : IntKind.i64.wrap (q.c.tmod 20) = q.c.tmod 20 := by
      have a1 := Int.tmod_nonneg 20 hok.2.2.1.1
      have a2 := Int.tmod_lt_of_pos q.c (show (0 : Int) < 20 by omega)
      exact wrap_in (by omega) (by omega)
    have t2 : IntKind.i64.wrap (q.d.tmod 20) = q.d.tmod 20 := by
      have a1 := Int.tmod_nonneg 20 hok.2.2.2.1
      have a2 := Int.tmod_lt_of_pos q.d (show (0 : Int) < 20 by omega)
      exact wrap_in (by omega) (by omega)
    have t3 : IntKind.i64.wrap (q.c.tmod 20 + q.d.tmod 20) = q.c.tmod 20 + q.d.tmod 20 := by
      have a1 := Int.tmod_nonneg 20 hok.2.2.1.1
      have a2 := Int.tmod_lt_of_pos q.c (show (0 : Int) < 20 by omega)
      have a3 := Int.tmod_nonneg 20 hok.2.2.2.1
      have a4 := Int.tmod_lt_of_pos q.d (show (0 : Int) < 20 by omega)
      exact wrap_in (by omega) (by omega)
    have w6 : IntKind.i64.wrap ((i : Int) + 1) = (i : Int) + 1 := wrap_in (by omega) (by omega)
    have hst : (x.take (i + 1)).map plQ = (x.take i).map plQ ++ [plQ q] := by rw [List.take_add_one, hq]; simp
    simp -dsimp -implicitDefEqProofs [hq, w1, w2, w3, w4, w5, t1, t2, t3]
    refine on_append fP ((x.take i).map plQ) (plQ q) (by simp) (by rw [List.length_map, List.length_take]; omega) (show (i + 1) * 32 ≤ 70368744177664 by omega) (by omega) rfl rfl (by simp) rfl (fun _ => rfl) ?_ (by simp)
    simp -dsimp -implicitDefEqProofs [w6]
    refine again_in (i + 1) [2] (by omega) (by omega) ?_
    simp -dsimp -implicitDefEqProofs [hst]
  all_goals
    have hex : i = 20 ∨ (x.length ≤ i ∧ x.length ≤ 20) := by omega
    have hL : (x.take i).map plQ = L := by
      rw [hLd]; unfold plates
      congr 1
      rcases hex with h | h
      · rw [h]
      · rw [List.take_of_length_le h.1, List.take_of_length_le h.2]
    have hiL : L.length = i := by rw [← hL, List.length_map, List.length_take]; omega
    refine (Nat.eq_zero_or_pos i).elim (fun h0 => ?_) (fun hpos => ?_)
    · have hLn : L = [] := List.length_eq_zero_iff.1 (by omega)
      rw [h0]
      simp -dsimp -implicitDefEqProofs
      refine exitZ_in ?_
      simp -dsimp -implicitDefEqProofs [appendA, rowsA, wl]
      refine onCall_in (hlife0.beside rfl _) ?_
      simp -dsimp -implicitDefEqProofs
      refine onCall_in (known_fn.beside rfl _) ?_
      simp -dsimp -implicitDefEqProofs
    · refine Exists.elim (show ∃ m, i = m + 1 from ⟨i - 1, by omega⟩) fun m hm => ?_
      subst hm
      have hz : ∀ h : H, h.get 0 = some (rws fP L) → fzv h 0 (.sl 0 0 (m + 1) 4) = .ro false 4 (L.map fP) := fun h hg => fzv_hit hg (by omega) (fun _ => rfl) (fun _ => rfl)
      have hL' : (x.map plQ).take (m + 1) = L := by rw [← List.map_take]; exact hL
      have hlL := hlife L.length (by omega) (by omega)
      rw [List.take_length, ← hS] at hlL
      simp -dsimp -implicitDefEqProofs
      refine exitZ_fz 0 ?_
      simp -dsimp -implicitDefEqProofs [hz, hL', appendA, rowsA, wl, hb1, hb2]
      refine onCall_in (hlL.beside rfl _) ?_
      have e0 : ((L.length : Int) == 0) = false := by simp; intro h; simp [h] at hiL
      have hf0 := lfI_facts (m := 1000) (least := least) (l := L) L.length (Nat.le_refl _)
      rw [← hS] at hf0
      have hkL : S.k < L.length := by
        rcases hf0.2.2.2.1 with h | h
        · omega
        · exact h.1
      have k0 : decide ((S.k : Int) < 0) = false := decide_eq_false (by omega)
      have k1 : decide (L.length ≤ S.k) = false := decide_eq_false (by omega)
      simp -dsimp -implicitDefEqProofs [extA, e0, k0, k1]
      refine LoopCR.on 293 (fun i => [(1, U least), (2, u8s ps), (7, .ro false 4 (L.map fP)), (10, .ptr 0 0), (11, I (S.k : Nat)), (13, I (i : Nat))]) (fun i => [some [I S.lo, I S.hi]]) (fun i => i ≤ 3) (fun i => 3 - i) 0 [1] (by simp) ?_ ?_
      · simp -dsimp -implicitDefEqProofs
      intro way j hway
      simp -dsimp -implicitDefEqProofs
      refine ifD_in (fun hw3 => ?_) (fun hw3 => ?_)
      · simp -dsimp -implicitDefEqProofs
        refine LoopCR.on 293 (fun i => [(1, U least), (2, u8s ps), (7, .ro false 4 (L.map fP)), (10, .ptr 0 0), (11, I (S.k : Nat)), (13, I (way : Nat)), (14, I (yrs way least ps L i)), (15, I (i : Nat))]) (fun i => [some [I S.lo, I S.hi]]) (fun i => i ≤ L.length) (fun i => L.length - i) 0 [0] (by simp) ?_ ?_
        · simp -dsimp -implicitDefEqProofs [yrs]
        intro i jj hi'
        simp -dsimp -implicitDefEqProofs
        refine ifD_in (fun hlt2 => ?_) (fun hge2 => ?_)
        · refine Exists.elim (show ∃ p, L[i]? = some p from ⟨_, List.getElem?_eq_getElem hlt2⟩) fun p hx2 => ?_
          simp -dsimp -implicitDefEqProofs
          refine DrawR.on {} (by kernel_rfl) (by simp) ?_
          simp -dsimp -implicitDefEqProofs [hx2]
          have hp := hLok p (List.mem_of_getElem? hx2)
          have hb := hp
          simp only [okP, Bool.and_eq_true, vB_iff] at hb
          have hc : way = 0 ∨ way = 1 ∨ (way = 2 ∧ ps = []) ∨ (way = 2 ∧ ps ≠ []) := by
            rcases (show way = 0 ∨ way = 1 ∨ way = 2 by omega) with h | h | h
            · exact .inl h
            · exact .inr (.inl h)
            · exact .inr (.inr ((Classical.em (ps = [])).elim (fun g => .inl ⟨h, g⟩) (fun g => .inr ⟨h, g⟩)))
          have hpos2 : ps ≠ [] → 0 < ps.length := List.length_pos_iff.2
          refine hc.elim (fun hw => ?_) (fun hc => hc.elim (fun hw => ?_) (fun hc => hc.elim (fun hw => ?_) (fun hw => ?_)))
          have c0 : ((way : Int) == 0) = true := by simp [hw]
          have c1 : ((way : Int) == 1) = false := by simp [hw]
          have c2 : ((way : Int) == 2) = false := by simp [hw]
          simp -dsimp -implicitDefEqProofs [c0, c1, c2]
          have ht1 : (tw way ps i p).1 = p.thick.lo := by simp [tw, hw]
          have ht2 : (tw way ps i p).2 = p.wear.hi := by simp [tw, hw]
          rotate_left
          have c0 : ((way : Int) == 0) = false := by simp [hw]
          have c1 : ((way : Int) == 1) = true := by simp [hw]
          have c2 : ((way : Int) == 2) = false := by simp [hw]
          simp -dsimp -implicitDefEqProofs [c0, c1, c2]
          refine DrawR.on {} (by kernel_rfl) (by simp) ?_
          simp -dsimp -implicitDefEqProofs [hx2, c0, c1, c2]
          have ht1 : (tw way ps i p).1 = p.thick.hi := by simp [tw, hw]
          have ht2 : (tw way ps i p).2 = p.wear.lo := by simp [tw, hw]
          rotate_left
          have c0 : ((way : Int) == 0) = false := by simp [hw.1]
          have c1 : ((way : Int) == 1) = false := by simp [hw.1]
          have c2 : ((way : Int) == 2) = true := by simp [hw.1]
          have c3 : decide (0 < ps.length) = false := by simp [hw.2]
          simp -dsimp -implicitDefEqProofs [c0, c1, c2, c3]
          have ht1 : (tw way ps i p).1 = p.thick.lo := by simp [tw, hw.1, hw.2]
          have ht2 : (tw way ps i p).2 = p.wear.hi := by simp [tw, hw.1, hw.2]
          rotate_left
          have c0 : ((way : Int) == 0) = false := by simp [hw.1]
          have c1 : ((way : Int) == 1) = false := by simp [hw.1]
          have c2 : ((way : Int) == 2) = true := by simp [hw.1]
          have hn := hpos2 hw.2
          have c3 : decide (0 < ps.length) = true := by simp [hn]
          have hi62 : (i : Int) < 2^62 := by omega
          refine Exists.elim (show ∃ K, K = i % ps.length from ⟨_, rfl⟩) fun K hK => ?_
          refine Exists.elim (show ∃ K, K = (i + 1) % ps.length from ⟨_, rfl⟩) fun K2 hK2 => ?_
          have r1 : (i : Int).tmod (ps.length : Int) = (K : Int) := by rw [hK]; exact (Int.ofNat_tmod _ _).symm
          have r2 : IntKind.i64.wrap ((i : Int) + 1) = (i : Int) + 1 := wrap_in (by omega) (by omega)
          have r3 : ((i : Int) + 1).tmod (ps.length : Int) = (K2 : Int) := by rw [hK2]; exact (Int.ofNat_tmod _ _).symm
          have b1 := Nat.mod_lt i hn
          have b2 := Nat.mod_lt (i + 1) hn
          rw [← hK] at b1
          rw [← hK2] at b2
          refine Exists.elim (show ∃ v, ps[K]? = some v from ⟨_, List.getElem?_eq_getElem b1⟩) fun v1 hv1 => ?_
          refine Exists.elim (show ∃ v, ps[K2]? = some v from ⟨_, List.getElem?_eq_getElem b2⟩) fun v2 hv2 => ?_
          simp -dsimp -implicitDefEqProofs [c0, c1, c2, c3]
          refine DrawR.on {} (by kernel_rfl) (by simp) ?_
          have hv1' := hps v1 (List.mem_of_getElem? hv1)
          have hv2' := hps v2 (List.mem_of_getElem? hv2)
          have s1 : IntKind.i64.wrap v1 = v1 := wrap_in (by omega) (by omega)
          have s2 : IntKind.i64.wrap v2 = v2 := wrap_in (by omega) (by omega)
          have a1 := Int.tmod_nonneg (p.thick.hi - p.thick.lo + 1) hv1'.1
          have a2 := Int.tmod_lt_of_pos v1 (show (0 : Int) < p.thick.hi - p.thick.lo + 1 by omega)
          have a3 := Int.tmod_nonneg (p.wear.hi - p.wear.lo + 1) hv2'.1
          have a4 := Int.tmod_lt_of_pos v2 (show (0 : Int) < p.wear.hi - p.wear.lo + 1 by omega)
          have q1 : IntKind.i64.wrap (p.thick.hi - p.thick.lo) = p.thick.hi - p.thick.lo := wrap_in (by omega) (by omega)
          have q2 : IntKind.i64.wrap (p.thick.hi - p.thick.lo + 1) = p.thick.hi - p.thick.lo + 1 := wrap_in (by omega) (by omega)
          have q3 : ¬ p.thick.hi - p.thick.lo + 1 = 0 := by omega
          have q4 : IntKind.i64.wrap (v1.tmod (p.thick.hi - p.thick.lo + 1)) = v1.tmod (p.thick.hi - p.thick.lo + 1) := wrap_in (by omega) (by omega)
          have q5 : IntKind.i64.wrap (p.thick.lo + v1.tmod (p.thick.hi - p.thick.lo + 1)) = p.thick.lo + v1.tmod (p.thick.hi - p.thick.lo + 1) := wrap_in (by omega) (by omega)
          have q6 : IntKind.i64.wrap (p.wear.hi - p.wear.lo) = p.wear.hi - p.wear.lo := wrap_in (by omega) (by omega)
          have q7 : IntKind.i64.wrap (p.wear.hi - p.wear.lo + 1) = p.wear.hi - p.wear.lo + 1 := wrap_in (by omega) (by omega)
          have q8 : ¬ p.wear.hi - p.wear.lo + 1 = 0 := by omega
          have q9 : IntKind.i64.wrap (v2.tmod (p.wear.hi - p.wear.lo + 1)) = v2.tmod (p.wear.hi - p.wear.lo + 1) := wrap_in (by omega) (by omega)
          have q10 : IntKind.i64.wrap (p.wear.hi - v2.tmod (p.wear.hi - p.wear.lo + 1)) = p.wear.hi - v2.tmod (p.wear.hi - p.wear.lo + 1) := wrap_in (by omega) (by omega)
          simp -dsimp -implicitDefEqProofs [hx2, r1, r2, r3, hv1, hv2, hw.2, s1, q1, q2, q3, q4, q5]
          refine DrawR.on {} (by kernel_rfl) (by simp) ?_
          simp -dsimp -implicitDefEqProofs [hx2, r1, r2, r3, hv1, hv2, hw.2, s2, q6, q7, q8, q9, q10]
          have ht1 : (tw way ps i p).1 = p.thick.lo + v1.tmod (p.thick.hi - p.thick.lo + 1) := by simp [tw, hw.1, hn, ← hK, List.getD_eq_getElem?_getD, hv1]
          have ht2 : (tw way ps i p).2 = p.wear.hi - v2.tmod (p.wear.hi - p.wear.lo + 1) := by simp [tw, hw.1, hn, ← hK2, List.getD_eq_getElem?_getD, hv2]
          rotate_left
          all_goals
            have htw := tw_in (way := way) (i := i) hp hps
            refine Exists.elim (show ∃ T, T = (tw way ps i p).1 from ⟨_, rfl⟩) fun T hT => ?_
            refine Exists.elim (show ∃ W, W = (tw way ps i p).2 from ⟨_, rfl⟩) fun W hW => ?_
            have hYT : yT way least ps i p = yA (T - least) W := by rw [hT, hW]; rfl
            rw [← hT, ← hW] at htw
            rw [← hT] at ht1
            rw [← hW] at ht2
            refine LoopCR.on 293 (fun y => [(1, U least), (2, u8s ps), (7, .ro false 4 (L.map fP)), (10, .ptr 0 0), (11, I (S.k : Nat)), (13, I (way : Nat)), (14, I (yrs way least ps L i)), (15, I (i : Nat)), (16, I T), (17, I W), (19, I ((y : Nat) - 1))]) (fun i => [some [I S.lo, I S.hi]]) (fun y => y = 0 ∨ (y ≤ 1001 ∧ ((y : Int) - 1) * W ≤ T - least)) (fun y => 1001 - y) 0 [0] (.inl rfl) ?_ ?_
            · simp -dsimp -implicitDefEqProofs [ht1, ht2]
            intro y jy hy
            simp -dsimp -implicitDefEqProofs
            refine ifD_in (fun hy1 => ?_) (fun hy1 => ?_)
            · have y1 : (y : Int) ≤ 1000 := by omega
              have y2 : 0 ≤ (y : Int) * W := Int.mul_nonneg (by omega) (by omega)
              have y3 : (y : Int) * W ≤ 1000 * 1000 := Int.mul_le_mul y1 (by omega) (by omega) (by omega)
              have v1 : IntKind.i64.wrap (y : Int) = y := wrap_in (by omega) (by omega)
              have v2 : IntKind.i64.wrap ((y : Int) * W) = y * W := wrap_in (by omega) (by omega)
              have v3 : IntKind.i64.wrap (T - (y : Int) * W) = T - y * W := wrap_in (by omega) (by omega)
              simp -dsimp -implicitDefEqProofs [v1, v2, v3, wl]
              refine ifD_in (fun hy2 => ?_) (fun hy2 => ?_)
              · simp -dsimp -implicitDefEqProofs [v1]
                refine again_in (y + 1) [0] (.inr ⟨by omega, by rw [show (((y + 1 : Nat) : Int) - 1) = y by omega]; omega⟩) (by omega) ?_
                simp -dsimp -implicitDefEqProofs
              · simp -dsimp -implicitDefEqProofs
                have hY := y_end (by omega) hy hy1 hy2
                have wi : IntKind.i64.wrap ((i : Int) + 1) = (i : Int) + 1 := wrap_in (by omega) (by omega)
                have hmin : min (yrs way least ps L i) (yA (T - least) W) = yrs way least ps L (i + 1) := by rw [yrs_succ hx2, hYT]
                have hfl := first_lo hS hx2
                first
                | have c0' : ((way : Int) == 0) = false := c0
                  simp -dsimp -implicitDefEqProofs [c0, hY, hmin, wi]
                  refine again_in (i + 1) [0] (Nat.succ_le_of_lt hlt2) (by omega) ?_
                  simp -dsimp -implicitDefEqProofs
                | have hA : loP least p = yA (T - least) W := by rw [ht1, ht2]; rfl
                  rw [hA] at hfl
                  refine (Classical.em (i < S.k)).elim (fun h1 => ?_) (fun h1 => (Classical.em (i = S.k)).elim (fun h2 => ?_) (fun h2 => ?_))
                  · have d0 : decide (i < S.k) = true := decide_eq_true h1
                    have d1 : decide (yA (T - least) W ≤ S.lo) = false := decide_eq_false (Int.not_le.2 (hfl.1 h1))
                    have d2 : ((i : Int) == (S.k : Int)) = false := beq_eq_false_iff_ne.2 (fun h => Nat.ne_of_lt h1 (Int.ofNat.inj h))
                    simp -dsimp -implicitDefEqProofs [c0, hY, hmin, wi, d0, d1, d2]
                    refine again_in (i + 1) [0] (Nat.succ_le_of_lt hlt2) (Nat.sub_succ_lt_self _ _ hlt2) ?_
                    simp -dsimp -implicitDefEqProofs
                  · have d0 : decide (i < S.k) = false := decide_eq_false h1
                    have d2 : ((i : Int) == (S.k : Int)) = true := by rw [h2]; exact BEq.rfl
                    have d3 : (yA (T - least) W != S.lo) = false := by rw [hfl.2 h2]; exact bne_self_eq_false _
                    simp -dsimp -implicitDefEqProofs [c0, hY, hmin, wi, d0, d2, d3]
                    refine again_in (i + 1) [0] (Nat.succ_le_of_lt hlt2) (Nat.sub_succ_lt_self _ _ hlt2) ?_
                    simp -dsimp -implicitDefEqProofs
                  · have d0 : decide (i < S.k) = false := decide_eq_false h1
                    have d2 : ((i : Int) == (S.k : Int)) = false := beq_eq_false_iff_ne.2 (fun h => h2 (Int.ofNat.inj h))
                    simp -dsimp -implicitDefEqProofs [c0, hY, hmin, wi, d0, d2]
                    refine again_in (i + 1) [0] (Nat.succ_le_of_lt hlt2) (Nat.sub_succ_lt_self _ _ hlt2) ?_
                    simp -dsimp -implicitDefEqProofs
            · simp -dsimp -implicitDefEqProofs
              have hY := y_full (by omega) hy hy1
              have wi : IntKind.i64.wrap ((i : Int) + 1) = (i : Int) + 1 := wrap_in (by omega) (by omega)
              have hmin : min (yrs way least ps L i) (yA (T - least) W) = yrs way least ps L (i + 1) := by rw [yrs_succ hx2, hYT]
              have hfl := first_lo hS hx2
              first
              | have c0' : ((way : Int) == 0) = false := c0
                simp -dsimp -implicitDefEqProofs [c0, hY, hmin, wi]
                refine again_in (i + 1) [0] (Nat.succ_le_of_lt hlt2) (by omega) ?_
                simp -dsimp -implicitDefEqProofs
              | have hA : loP least p = yA (T - least) W := by rw [ht1, ht2]; rfl
                rw [hA] at hfl
                refine (Classical.em (i < S.k)).elim (fun h1 => ?_) (fun h1 => (Classical.em (i = S.k)).elim (fun h2 => ?_) (fun h2 => ?_))
                · have d0 : decide (i < S.k) = true := decide_eq_true h1
                  have d1 : decide (yA (T - least) W ≤ S.lo) = false := decide_eq_false (Int.not_le.2 (hfl.1 h1))
                  have d2 : ((i : Int) == (S.k : Int)) = false := beq_eq_false_iff_ne.2 (fun h => Nat.ne_of_lt h1 (Int.ofNat.inj h))
                  simp -dsimp -implicitDefEqProofs [c0, hY, hmin, wi, d0, d1, d2]
                  refine again_in (i + 1) [0] (Nat.succ_le_of_lt hlt2) (Nat.sub_succ_lt_self _ _ hlt2) ?_
                  simp -dsimp -implicitDefEqProofs
                · have d0 : decide (i < S.k) = false := decide_eq_false h1
                  have d2 : ((i : Int) == (S.k : Int)) = true := by rw [h2]; exact BEq.rfl
                  have d3 : (yA (T - least) W != S.lo) = false := by rw [hfl.2 h2]; exact bne_self_eq_false _
                  simp -dsimp -implicitDefEqProofs [c0, hY, hmin, wi, d0, d2, d3]
                  refine again_in (i + 1) [0] (Nat.succ_le_of_lt hlt2) (Nat.sub_succ_lt_self _ _ hlt2) ?_
                  simp -dsimp -implicitDefEqProofs
                · have d0 : decide (i < S.k) = false := decide_eq_false h1
                  have d2 : ((i : Int) == (S.k : Int)) = false := beq_eq_false_iff_ne.2 (fun h => h2 (Int.ofNat.inj h))
                  simp -dsimp -implicitDefEqProofs [c0, hY, hmin, wi, d0, d2]
                  refine again_in (i + 1) [0] (Nat.succ_le_of_lt hlt2) (Nat.sub_succ_lt_self _ _ hlt2) ?_
                  simp -dsimp -implicitDefEqProofs
        · have hiL2 : i = L.length := Nat.le_antisymm hi' (Nat.le_of_not_lt hge2)
          have hyl := yrs_in (way := way) (least := least) hLok hps i hi'
          rw [show lfI 1000 least L i = S by rw [hiL2, hS]] at hyl
          have ww : IntKind.i64.wrap ((way : Int) + 1) = (way : Int) + 1 := wrap_in (by omega) (by omega)
          have r1 : decide (yrs way least ps L i < S.lo) = false := decide_eq_false (Int.not_lt.2 hyl.1)
          have r2 : decide (S.hi < yrs way least ps L i) = false := decide_eq_false (Int.not_lt.2 hyl.2.1)
          refine (show way = 0 ∨ way = 1 ∨ way = 2 by omega).elim (fun hw => ?_) (fun hc => hc.elim (fun hw => ?_) (fun hw => ?_))
          · have c0 : ((way : Int) == 0) = true := by simp [hw]
            have c1 : ((way : Int) == 1) = false := by simp [hw]
            have r3 : (yrs way least ps L i != S.lo) = false := by rw [hyl.2.2.1 hw]; exact bne_self_eq_false _
            simp -dsimp -implicitDefEqProofs [c0, c1, r1, r2, r3, ww]
            refine again_in (way + 1) [0] (by omega) (by omega) ?_
            simp -dsimp -implicitDefEqProofs
          · have c0 : ((way : Int) == 0) = false := by simp [hw]
            have c1 : ((way : Int) == 1) = true := by simp [hw]
            have r3 : (yrs way least ps L i != S.hi) = false := by rw [hyl.2.2.2 hw]; exact bne_self_eq_false _
            simp -dsimp -implicitDefEqProofs [c0, c1, r1, r2, r3, ww]
            refine again_in (way + 1) [0] (by omega) (by omega) ?_
            simp -dsimp -implicitDefEqProofs
          · have c0 : ((way : Int) == 0) = false := by simp [hw]
            have c1 : ((way : Int) == 1) = false := by simp [hw]
            simp -dsimp -implicitDefEqProofs [c0, c1, r1, r2, ww]
            refine again_in (way + 1) [0] (by omega) (by omega) ?_
            simp -dsimp -implicitDefEqProofs
      · have z1 : IntKind.i64.wrap ((L.length : Int) - 1) = (m : Int) := by rw [wrap_in (by omega) (by omega)]; omega
        have z2 : m ≤ L.length := by omega
        refine (Nat.eq_zero_or_pos m).elim (fun hm0 => ?_) (fun hm0 => ?_)
        · have z3 : ((L.length : Int) == 1) = true := by rw [hiL, hm0]; rfl
          simp -dsimp -implicitDefEqProofs [z1, z2, sliceA, boundA, intOf?, hm0, appendA, rowsA, wl]
          refine onCall_in (hlife0.beside rfl _) ?_
          simp -dsimp -implicitDefEqProofs [extA, z3]
          refine onCall_in (known_fn.beside rfl _) ?_
          simp -dsimp -implicitDefEqProofs
        · have z3 : ((L.length : Int) == 1) = false := beq_eq_false_iff_ne.2 (by omega)
          refine Exists.elim (show ∃ S2, S2 = lfI 1000 least L m from ⟨_, rfl⟩) fun S2 hS2 => ?_
          have hlM := hlife m hm0 z2
          have hmo : S.lo ≤ (lfI 1000 least L m).lo ∧ S.hi ≤ (lfI 1000 least L m).hi := by rw [hS, hiL]; exact lfI_le (by omega)
          rw [← hS2] at hlM hmo
          rw [List.map_take] at hlM
          have o1 : decide (S.lo ≤ S2.lo) = true := decide_eq_true hmo.1
          have o2 : decide (S.hi ≤ S2.hi) = true := decide_eq_true hmo.2
          have z4 : min m L.length = m := Nat.min_eq_left z2
          have hb3 : m * 32 ≤ 70368744177664 := by omega
          have hb4 : m ≤ 70368744177664 := by omega
          simp -dsimp -implicitDefEqProofs [z1, z2, z4, sliceA, boundA, intOf?, appendA, rowsA, wl, hb3, hb4]
          refine onCall_in (hlM.beside rfl _) ?_
          simp -dsimp -implicitDefEqProofs [extA, z3, o1, o2]
          refine onCall_in (known_fn.beside rfl _) ?_
          simp -dsimp -implicitDefEqProofs
end Go.Pe

namespace Go.Proofs.YtffckclggkjbgaaGreat
open Go Go.ChangeShapes Go.WideShapes Go.ChangeAt Go.RowKit
set_option linter.unusedVariables false
theorem own12 : ownKnob Tryz.prog.godebug = none := by kernel_rfl
set_option maxRecDepth 100000 in
theorem lifted12 (hlaw : ∀ ys, Go.Pe.TyVs Tryz.prog 20 [99, 5, 102] ys → ∃ h', Go.Pe.Fn Tryz.prog 12 ys .nil (.val (.bool true)) h') (os : Os) (started : os.Started) (H : Type) (enc : TypeId × Value → H) :
    ReturnsInHanded {} Tryz.checked os 12 .any (Rows.hullWearsSpec.pre6 enc Tryz.prog Tryz.f12 Rows.hullWearsRow.domain false) (Rows.hullWearsSpec.post enc Tryz.prog Tryz.f12 false true false false) := by
  refine returnsInHanded_of_change (C := Tryz.checked) own12 started (by kernel_rfl) Tryz.func12
    (ChangeSpec.witness6 (enc := enc) (C := Tryz.checked) false ⟨#[], #[.slice none 0 0, .int .u8 0, .slice none 0 0], []⟩ 8 (by kernel_rfl) (by kernel_rfl) (by kernel_rfl) (by kernel_rfl)) ?_
  intro W base args ds gs before hval hW _ _
  exact Go.Pe.law_contract (s := Rows.hullWearsSpec) (ts := [99, 5, 102]) (tb := 4) 20 (by rw [Tryz.params12]) (by kernel_rfl) (by kernel_rfl) (by kernel_rfl) (by kernel_rfl) Tryz.underlying4 rfl
    (fun ds hd => by match ds, hd with | [d1, d2, d3], _ => rfl) hlaw W base args ds gs before hval hW
theorem holds12 (hlaw : ∀ ys, Go.Pe.TyVs Tryz.prog 20 [99, 5, 102] ys → ∃ h', Go.Pe.Fn Tryz.prog 12 ys .nil (.val (.bool true)) h') : Rows.HullWearsSaid :=
  OpenClaim.holds_of_wide 12 Tryz.f12 rfl rfl rfl rfl rfl rfl rfl ⟨rfl, rfl, rfl, rfl, rfl⟩ rfl rfl rfl rfl rfl (by kernel_rfl) Tryz.func12 (by kernel_rfl)
    (of_decide_eq_true (by kernel_rfl)) (by unfold Func.isWrapper; first | (rw [if_pos (by decide +kernel)]; kernel_rfl) | (rw [if_neg (by decide +kernel)]; exact ⟨rfl, rfl⟩))
    (fun os started H enc _ => lifted12 hlaw os started H enc)
end Go.Proofs.YtffckclggkjbgaaGreat

/- The law HullWears of package hull returns true for all plates by small numbers, every least thickness and all picks. It has no condition. -/
namespace Go.Pe
open Go Go.Proofs Go.Proofs.YtffckclggkjbgaaGreat
set_option maxRecDepth 100000
theorem open_small {n : Nat} {xs : List AV} (h : TyC Tryz.prog (n + 1) 5 xs) : ∃ m, xs = [U m] ∧ 0 ≤ m ∧ m ≤ 255 := by
  obtain ⟨m, e, h1, h2⟩ := TyC_at tsi5 h
  exact ⟨m, e, by simpa [IntKind.min, IntKind.signed] using h1, by simpa [IntKind.max, IntKind.signed, IntKind.bits] using h2⟩
theorem open_four {n : Nat} {xs : List AV} (h : TyC Tryz.prog (n + 2) 95 xs) : ∃ q : Q4, xs = fQ q ∧ okQ q := by
  obtain ⟨a, b, rfl, _, h1, a2, b2, rfl, _, h2, a3, b3, rfl, _, h3, a4, b4, rfl, _, h4, rfl⟩ := TyC_at tsi95 h
  obtain ⟨m1, rfl, p1⟩ := open_small h1
  obtain ⟨m2, rfl, p2⟩ := open_small h2
  obtain ⟨m3, rfl, p3⟩ := open_small h3
  obtain ⟨m4, rfl, p4⟩ := open_small h4
  exact ⟨⟨m1, m2, m3, m4⟩, rfl, p1, p2, p3, p4⟩
theorem open_fours {n : Nat} {xs : List AV} (h : TyC Tryz.prog (n + 3) 99 xs) : ∃ x : List Q4, xs = [.ro false 4 (x.map fQ)] ∧ x.length ≤ maxLen ∧ ∀ q ∈ x, okQ q := by
  obtain ⟨rows, rfl, h1, h2⟩ := TyC_at tsi99 h
  obtain ⟨l, rfl, h3⟩ := rows_map fQ okQ (rows := rows) (fun r hr => open_four (h2 r hr).2)
  exact ⟨l, by rw [show Tryz.prog.cellsOf 95 = 4 by kernel_rfl], by simpa using h1, h3⟩
theorem open_smalls {n : Nat} {xs : List AV} (h : TyC Tryz.prog (n + 2) 102 xs) : ∃ l : List Int, xs = [u8s l] ∧ l.length ≤ maxLen ∧ ∀ n ∈ l, 0 ≤ n ∧ n ≤ 255 := by
  obtain ⟨rows, rfl, h1, h2⟩ := TyC_at tsi102 h
  obtain ⟨l, rfl, h3⟩ := rows_map (fun n => [U n]) (fun n => 0 ≤ n ∧ n ≤ 255) (rows := rows) (fun r hr => open_small (h2 r hr).2)
  exact ⟨l, by rw [show Tryz.prog.cellsOf 5 = 1 by kernel_rfl], by simpa using h1, h3⟩
theorem hw_all (ys : List AV) (h : TyVs Tryz.prog 20 [99, 5, 102] ys) : ∃ h', Fn Tryz.prog 12 ys .nil (.val (.bool true)) h' := by
  obtain ⟨y1, z1, rfl, v1, y2, z2, rfl, v2, y3, z3, rfl, v3, rfl⟩ := h
  obtain ⟨x, e1, hx, okx⟩ := open_fours (TyV_one (by kernel_rfl) v1)
  obtain ⟨least, e2, hl⟩ := open_small (TyV_one (by kernel_rfl) v2)
  obtain ⟨ps, e3, hp, okp⟩ := open_smalls (TyV_one (by kernel_rfl) v3)
  cases e1; cases e2; cases e3
  unfold maxLen at hx hp
  exact ⟨.nil, hw_law okx hl okp (by omega) (by omega)⟩
end Go.Pe
namespace Go.Proofs.YtffckclggkjbgaaGreat
theorem hullWears : Rows.HullWearsSaid := holds12 Go.Pe.hw_all
end Go.Proofs.YtffckclggkjbgaaGreat
