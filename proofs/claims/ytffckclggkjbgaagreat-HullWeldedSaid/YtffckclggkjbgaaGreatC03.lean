import Derived.Test.YtffckclggkjbgaaGreatC02
import Derived.Test.YtffckclggkjbgaaGreatY34
set_option linter.unusedVariables false
set_option linter.unusedSimpArgs false
/- The law HullWelded. -/
namespace Go.Pe
open Go Go.Proofs Go.Proofs.YtffckclggkjbgaaGreat
set_option maxRecDepth 20000
set_option maxHeartbeats 20000000
attribute [local simp] t3 u3 t4 u4
attribute [local simp] ts5 us5 ts22 us22 ts24 us24 ts25 us25 t27 u27 ts29 us29 ts34 us34 ts39 us39 ts98 us98 ts72 us72 ts75 us75 ts118 us118 ts120 us120 ts150 us150
attribute [local simp] convA extA lenA
attribute [local simp] smC_eq
theorem hwelded_law {x : Sm} {at0 draft : Int} (hx : x.Ok) (hat : 0 ≤ at0 ∧ at0 ≤ 255) (hd : 0 ≤ draft ∧ draft ≤ 255) : Fn Tryz.prog 10 [.agg (smC x), U at0, U draft] .nil (B true) .nil := by
  refine Fn.ofR0 noM (by kernel_rfl) Tryz.func10 rfl (by simp) ?_
  refine Exists.elim (show ∃ u : Hu, u = huM x 4 from ⟨_, rfl⟩) fun u hu => ?_
  have cU : ∀ h, Fn Tryz.prog 44 [.agg (smC x), I (4 : Nat)] h (.agg [I u.a, .ro false 5 (u.ss.map fSec)]) h := fun h => by rw [hu]; exact small_hull hx (by omega) (by omega)
  have hsu : SmallU u := by rw [hu]; exact huM_small (by omega) (by omega)
  have hhok : hullOk u = true := by rw [hu]; exact huM_ok hx (by omega) (by omega)
  have hrow := rowsM_len (x := x) (m := 4) (by omega)
  have hul : u.ss.length = (rowsM x 4).length := by rw [hu]; simp [huM]
  have hN : SecsN u.ss := fun s hs => by
    rw [hu] at hs
    obtain ⟨r, _, rfl⟩ := List.mem_map.1 hs
    simp [secOf]
  have cO : ∀ h, Fn Tryz.prog 17 [.agg [I u.a, .ro false 5 (u.ss.map fSec)]] h (.agg [I u.a, .ro (isz u.ss.length) 5 (u.ss.map fSec)]) h := fun h => own_is hsu
  simp only [smC_eq] at cU
  refine Exists.elim (show ∃ n, n = u.ss.length from ⟨_, rfl⟩) fun n hn => ?_
  rw [← hn] at hul
  simp -dsimp -implicitDefEqProofs
  refine onCall_in (cU _) ?_
  refine (Classical.em (n < 2)).elim (fun hn2 => ?_) (fun hn2 => ?_)
  · have h1 : u.ss.length = 1 := by omega
    have cA : ∀ f h, Fn Tryz.prog 50 [.agg [I u.a, .ro f 5 (u.ss.map fSec)], I 0, I 1] h (.tup [.agg [I 0, .val (.slice none 0 0)], I 4]) h := fun f h => cutAll_fn hhok hsu h1
    have hd2 : decide ((n : Int) < 2) = true := decide_eq_true (by omega)
    have hd2' : decide (n < 2) = true := decide_eq_true (by omega)
    simp -dsimp -implicitDefEqProofs [← hn, hd2, hd2']
    refine onCall_in (cO _) ?_
    simp -dsimp -implicitDefEqProofs
    refine onCall_in (cA _ _) ?_
    simp -dsimp -implicitDefEqProofs
    refine onCall_in (known_fn.beside rfl _) ?_
    simp -dsimp -implicitDefEqProofs
    done
  have hd2 : decide ((n : Int) < 2) = false := decide_eq_false (by omega)
  have hd2' : decide (n < 2) = false := decide_eq_false (by omega)
  have e1 : IntKind.i64.wrap at0 = at0 := wrap_in (by omega) (by omega)
  have e2 : IntKind.i64.wrap ((n : Int) - 1) = (n : Int) - 1 := wrap_in (by omega) (by omega)
  have e3 := tm (v := at0) (n := (n : Int) - 1) hat.1
  have e4 : ((n : Int) - 1 = 0) = False := eq_false (by omega)
  have b1 := Int.emod_nonneg at0 (show ((n : Int) - 1) ≠ 0 by omega)
  have b2 := Int.emod_lt_of_pos at0 (show (0 : Int) < (n : Int) - 1 by omega)
  refine Exists.elim (show ∃ k : Nat, (k : Int) = 1 + at0 % ((n : Int) - 1) from ⟨(1 + at0 % ((n : Int) - 1)).toNat, by omega⟩) fun k hk => ?_
  have e5 : IntKind.i64.wrap (1 + at0 % ((n : Int) - 1)) = (k : Int) := by rw [← hk]; exact wrap_in (by omega) (by omega)
  refine Exists.elim (show ∃ A B : List Sec, A = u.ss.take k ∧ B = u.ss.drop k from ⟨_, _, rfl, rfl⟩) fun A h => Exists.elim h fun B h => ?_
  have hA := h.1
  have hB := h.2
  clear h
  have hAB : u.ss = A ++ B := by rw [hA, hB, List.take_append_drop]
  have lA : A.length = k := by rw [hA, List.length_take]; omega
  have lB : B.length = n - k := by rw [hB, List.length_drop, hn]
  have cA : ∀ f h, Fn Tryz.prog 50 [.agg [I u.a, .ro f 5 (u.ss.map fSec)], I (k : Nat), I (n : Nat)] h (.tup [.agg [I u.a, .ro false 5 (A.map fSec)], I 0]) h := fun f h => by
    have := cut_fn (u := u) (i := k) (j := n) (f1 := f) (h := h) hhok hsu (by omega) (by omega) hN (by omega)
    rwa [← hA, hn, List.drop_length, List.append_nil, ← hn] at this
  have cB : ∀ f h, Fn Tryz.prog 50 [.agg [I u.a, .ro f 5 (u.ss.map fSec)], I 0, I (k : Nat)] h (.tup [.agg [I u.a, .ro false 5 (B.map fSec)], I 0]) h := fun f h => by
    have := cut_fn (u := u) (i := 0) (j := k) (f1 := f) (h := h) hhok hsu (by omega) (by omega) hN (by omega)
    rwa [← hB, List.take_zero, List.nil_append] at this
  have hpo := part_ok hhok hAB
  have okA := hpo.1 (by omega)
  have okB := hpo.2 (by omega)
  have smA : SmallU ⟨u.a, A⟩ := ⟨by simp only; have := hsu.n; omega, fun s hs => hsu.p s (by rw [hAB]; simp [show s ∈ A from hs])⟩
  have smB : SmallU ⟨u.a, B⟩ := ⟨by simp only; have := hsu.n; omega, fun s hs => hsu.p s (by rw [hAB]; simp [show s ∈ B from hs])⟩
  have cOA : ∀ h, Fn Tryz.prog 17 [.agg [I u.a, .ro false 5 (A.map fSec)]] h (.agg [I u.a, .ro (isz A.length) 5 (A.map fSec)]) h := fun h => own_is (u := ⟨u.a, A⟩) smA
  have cOB : ∀ h, Fn Tryz.prog 17 [.agg [I u.a, .ro false 5 (B.map fSec)]] h (.agg [I u.a, .ro (isz B.length) 5 (B.map fSec)]) h := fun h => own_is (u := ⟨u.a, B⟩) smB
  have cW : ∀ f g h, Fn Tryz.prog 51 [.agg [I u.a, .ro f 5 (A.map fSec)], .agg [I u.a, .ro g 5 (B.map fSec)]] h (.tup [.agg [I u.a, .ro false 5 (u.ss.map fSec)], I 0]) h := fun f g h =>
    weld_fn (a := ⟨u.a, A⟩) (b := ⟨u.a, B⟩) (L := u.ss) okA okB smA smB rfl hAB hN hhok hsu (by omega)
  have cE : ∀ f g h, Fn Tryz.prog 22 [.agg [I u.a, .ro f 5 (u.ss.map fSec)], .agg [I u.a, .ro g 5 (u.ss.map fSec)]] h (Go.Pe.B true) h := fun f g h => same_fn hsu
  refine Exists.elim (show ∃ D, D = 2 * draft from ⟨_, rfl⟩) fun D hD => ?_
  have e6 : IntKind.i64.wrap draft = draft := wrap_in (by omega) (by omega)
  have e7 : IntKind.i64.wrap (2 * draft) = D := by rw [hD]; exact wrap_in (by omega) (by omega)
  have e8 : IntKind.i64.wrap ((n : Int) - (k : Int)) = (n : Int) - (k : Int) := wrap_in (by omega) (by omega)
  have e9 : ((B.length : Int) != (n : Int) - (k : Int)) = false := by rw [bne_eq_false_iff_eq]; omega
  have e9' : ((B.length : Int) == (n : Int) - (k : Int)) = true := by rw [beq_iff_eq]; omega
  have hD0 : 0 ≤ D := by omega
  have fA := vlE_of okA hD0
  have fB := vlE_of okB hD0
  have fW := vlE_of hhok hD0
  have hlp := lim_parts (d := D) hAB
  have hvp := vol_parts (d := D) hAB
  refine Exists.elim (show ∃ va ea vb eb vw ew : Int, va = (if vlE ⟨u.a, A⟩ D = 0 then vol ⟨u.a, A⟩ D else 0) ∧ ea = vlE ⟨u.a, A⟩ D ∧ vb = (if vlE ⟨u.a, B⟩ D = 0 then vol ⟨u.a, B⟩ D else 0) ∧ eb = vlE ⟨u.a, B⟩ D ∧ vw = (if vlE u D = 0 then vol u D else 0) ∧ ew = vlE u D from ⟨_, _, _, _, _, _, rfl, rfl, rfl, rfl, rfl, rfl⟩) fun va h => Exists.elim h fun ea h => Exists.elim h fun vb h => Exists.elim h fun eb h => Exists.elim h fun vw h => Exists.elim h fun ew h => ?_
  have g1 := h.1
  have g2 := h.2.1
  have g3 := h.2.2.1
  have g4 := h.2.2.2.1
  have g5 := h.2.2.2.2.1
  have g6 := h.2.2.2.2.2
  clear h
  have cVA : ∀ f h, Fn Tryz.prog 20 [.agg [I u.a, .ro f 5 (A.map fSec)], I D] h (.tup [I va, I ea]) h := fun f h => by rw [g1, g2]; exact Volume_fn (u := ⟨u.a, A⟩) smA
  have cVB : ∀ f h, Fn Tryz.prog 20 [.agg [I u.a, .ro f 5 (B.map fSec)], I D] h (.tup [I vb, I eb]) h := fun f h => by rw [g3, g4]; exact Volume_fn (u := ⟨u.a, B⟩) smB
  have cVW : ∀ f h, Fn Tryz.prog 20 [.agg [I u.a, .ro f 5 (u.ss.map fSec)], I D] h (.tup [I vw, I ew]) h := fun f h => by rw [g5, g6]; exact Volume_fn hsu
  have hcase : (ea = 0 ∧ eb = 0 ∧ ew = 0 ∧ IntKind.i64.wrap (va + vb) = vw) ∨ (ea = 0 ∧ eb = 3 ∧ ew = 3 ∧ vw = 0) ∨ (ea = 3 ∧ ew = 3 ∧ vw = 0) := by
    rw [fA] at g1 g2
    rw [fB] at g3 g4
    rw [fW] at g5 g6
    by_cases pA : D ≤ lim ⟨u.a, A⟩
    · by_cases pB : D ≤ lim ⟨u.a, B⟩
      · have pW := hlp.2 ⟨pA, pB⟩
        have hvb := vol_in (okU hhok) hD0 pW
        rw [if_pos pA] at g2
        rw [if_pos pB] at g4
        rw [if_pos pW] at g6
        rw [if_pos pA, if_pos rfl] at g1
        rw [if_pos pB, if_pos rfl] at g3
        rw [if_pos pW, if_pos rfl] at g5
        refine .inl ⟨g2, g4, g6, ?_⟩
        rw [g1, g3, ← hvp, ← g5]
        rw [← g5] at hvb
        exact wrap_in (by omega) (by omega)
      · have pW : ¬ D ≤ lim u := fun h => pB (hlp.1 h).2
        rw [if_pos pA] at g2
        rw [if_neg pB] at g4
        rw [if_neg pW] at g6
        rw [if_neg pW, if_neg (by omega)] at g5
        exact .inr (.inl ⟨g2, g4, g6, g5⟩)
    · have pW : ¬ D ≤ lim u := fun h => pA (hlp.1 h).1
      rw [if_neg pA] at g2
      rw [if_neg pW] at g6
      rw [if_neg pW, if_neg (by omega)] at g5
      exact .inr (.inr ⟨g2, g6, g5⟩)
  clear g1 g2 g3 g4 g5 g6
  refine Exists.elim (show ∃ X Y Z : AV, X = .tup [I va, I ea] ∧ Y = .tup [I vb, I eb] ∧ Z = .tup [I vw, I ew] from ⟨_, _, _, rfl, rfl, rfl⟩) fun X h => Exists.elim h fun Y h => Exists.elim h fun Z h => ?_
  have hX := h.1
  have hY := h.2.1
  have hZ := h.2.2
  clear h
  rw [← hX] at cVA
  rw [← hY] at cVB
  rw [← hZ] at cVW
  simp -dsimp -implicitDefEqProofs [← hn, hd2, hd2', e1, e2, e3, e4, e5]
  refine onCall_in (cO _) ?_
  simp -dsimp -implicitDefEqProofs
  refine onCall_in (cA _ _) ?_
  simp -dsimp -implicitDefEqProofs
  refine onCall_in (cO _) ?_
  simp -dsimp -implicitDefEqProofs
  refine onCall_in (cB _ _) ?_
  simp -dsimp -implicitDefEqProofs
  refine DrawR.on {} (by kernel_rfl) (by simp) ?_
  simp -dsimp -implicitDefEqProofs
  refine onCallQ_ev cOA ?_
  simp -dsimp -implicitDefEqProofs
  refine onCallQ_ev cOB ?_
  simp -dsimp -implicitDefEqProofs
  refine onCallQ_ev (cW _ _) ?_
  simp -dsimp -implicitDefEqProofs
  refine onCall_in (cE _ _ _) ?_
  simp -dsimp -implicitDefEqProofs [lA, e6, e7, e8, e9, e9']
  refine onCall.gen 15 (fun G => G 2 = some [I u.a, .ro false 5 (A.map fSec)] ∧ G 3 = some [I u.a, .ro false 5 (B.map fSec)] ∧ G 12 = some [I u.a, .ro false 5 (u.ss.map fSec)]) (by simp -dsimp -implicitDefEqProofs) (by rfl) (by simp -dsimp -implicitDefEqProofs) fun G hG => ?_
  have G1 := hG.1
  have G2 := hG.2.1
  have G3 := hG.2.2
  clear hG
  refine onCall_in (cVA _ _) ?_
  simp -dsimp -implicitDefEqProofs [hX, G1, G2, G3]
  refine onCall_in (cVB _ _) ?_
  simp -dsimp -implicitDefEqProofs [hY, G1, G2, G3]
  refine onCall_in (cVW _ _) ?_
  simp -dsimp -implicitDefEqProofs [hZ]
  refine hcase.elim (fun c => ?_) (fun c => c.elim (fun c => ?_) (fun c => ?_))
  · simp -dsimp -implicitDefEqProofs [c.1, c.2.1, c.2.2.1, c.2.2.2]
    refine onCall_in (known_fn.beside rfl _) ?_
    simp -dsimp -implicitDefEqProofs
    done
  · simp -dsimp -implicitDefEqProofs [c.1, c.2.1, c.2.2.1, c.2.2.2]
    refine onCall_in (known_fn.beside rfl _) ?_
    simp -dsimp -implicitDefEqProofs
    done
  · simp -dsimp -implicitDefEqProofs [c.1, c.2.1, c.2.2]
    refine onCall_in (known_fn.beside rfl _) ?_
    simp -dsimp -implicitDefEqProofs
    done
end Go.Pe
