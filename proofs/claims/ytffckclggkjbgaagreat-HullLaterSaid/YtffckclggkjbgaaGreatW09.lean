import Derived.Test.YtffckclggkjbgaaGreatW07
import Derived.Test.YtffckclggkjbgaaGreatW08
set_option linter.unusedVariables false
set_option linter.unusedSimpArgs false
/- The law's own copy of a passage, whose hours are own memory. -/
namespace Go.Pe
open Go Go.Proofs Go.Proofs.YtffckclggkjbgaaGreat
set_option maxRecDepth 20000
set_option maxHeartbeats 8000000
attribute [local simp] ts22 us22 ts24 us24 ts25 us25 ts34 us34 ts39 us39 ts57 us57 ts156 us156 ts53 us53 ts64 us64
attribute [local simp] convA extA lenA
attribute [local simp] fW_eq fR_eq fS_eq fBd_eq fL_eq pgC_eq
theorem way_own {p : Pg} {f1 f2 fw : Bool} (hw : WOk p) (z1 : p.f.r.rs.length ≠ 0) (z2 : p.f.sides.length ≠ 0) (z3 : p.way.length ≠ 0) : Fn Tryz.prog 30 [.agg (pgC p f1 f2 fw)] .nil (.agg [.ro false 9 (p.f.r.rs.map fR), p.f.r.shoals, .ro false 1 (p.f.sides.map fL), .sl 0 0 p.way.length 3, I p.keel]) (mkH [some (rws fPs p.way)]) := by
  refine Fn.ofRx (bl0 := []) (bl := [some (rws fPs p.way)]) (butM [12, 31, 62]) (by kernel_rfl) Tryz.func30 rfl (by simp) ?_
  have g1 : growN 3 9 p.f.r.rs.length = .sl 3 0 p.f.r.rs.length 9 := growN_pos z1
  have g2 : growN 4 1 p.f.sides.length = .sl 4 0 p.f.sides.length 1 := growN_pos z2
  have gn1 : grown p.f.r.rs.length (rws fR p.f.r.rs) = some (rws fR p.f.r.rs) := by unfold grown; rw [if_neg (by omega)]
  have gn2 : grown p.f.sides.length (rws fL p.f.sides) = some (rws fL p.f.sides) := by unfold grown; rw [if_neg (by omega)]
  have hz1 : ∀ h : H, h.get 3 = some (rws fR p.f.r.rs) → fzv h 3 (.sl 3 0 p.f.r.rs.length 9) = .ro false 9 (p.f.r.rs.map fR) := fun h hg => fzv_hit hg (by omega) (fun _ => rfl) (fun _ => rfl)
  have hz2 : ∀ h : H, h.get 4 = some (rws fL p.f.sides) → fzv h 4 (.sl 4 0 p.f.sides.length 1) = .ro false 1 (p.f.sides.map fL) := fun h hg => fzv_hit hg (by omega) (fun _ => rfl) (fun _ => rfl)
  have z3' : (p.way.map fPs).length ≠ 0 := by simpa using z3
  have hn := hw.n
  have hm := hw.m
  have hs := hw.s
  have hwy := hw.w
  have b1 : p.f.r.ss.length * 48 ≤ 70368744177664 := by omega
  have b2 : p.f.r.ss.length ≤ 70368744177664 := by omega
  have b3 : p.way.length * 24 ≤ 70368744177664 := by omega
  have b4 : p.way.length ≤ 70368744177664 := by omega
  simp -dsimp -implicitDefEqProofs [b1, b2]
  refine LoopCR.onZ 67 (fun i => [(1, .ptr 0 0), (2, .ptr 1 0), (3, .ptr 2 0), (4, I (i : Nat))]) (fun i => [some (pgC p f1 f2 fw), some [.val (.slice none 0 0), .val (.slice none 0 0), .val (.slice none 0 0), .val (.slice none 0 0), I 0], some [growN 3 9 i, p.f.r.shoals], grown i (rws fR (p.f.r.rs.take i))]) (fun i => i ≤ p.f.r.rs.length) (fun i => p.f.r.rs.length - i) 0 [0, 1, 2, 99] (by simp) ?_ ?_
  · simp -dsimp -implicitDefEqProofs
  intro i j hi
  simp -dsimp -implicitDefEqProofs
  refine ifD_in (fun hlt => ?_) (fun hge => ?_)
  · refine Exists.elim (show ∃ x, p.f.r.rs[i]? = some x from ⟨_, List.getElem?_eq_getElem hlt⟩) fun x hx => ?_
    have hcx := hw.c x (List.mem_of_getElem? hx)
    have hst : p.f.r.rs.take (i + 1) = p.f.r.rs.take i ++ [x] := by rw [List.take_add_one, hx]; rfl
    have w1 : IntKind.i64.wrap ((i : Int) + 1) = (i : Int) + 1 := wrap_in (by omega) (by omega)
    have b5 : x.curve.length * 16 ≤ 70368744177664 := by omega
    have b6 : x.curve.length ≤ 70368744177664 := by omega
    simp -dsimp -implicitDefEqProofs [hx, b5, b6]
    refine on_appendN fR (p.f.r.rs.take i) x (by simp) (by rw [List.length_take]; omega) (by simp; omega) (by omega) rfl rfl (by simp) rfl (fun _ => rfl) ?_ (by simp)
    simp -dsimp -implicitDefEqProofs [w1]
    refine again_in (i + 1) [0, 1, 2, 5] (by omega) (by omega) ?_
    simp -dsimp -implicitDefEqProofs [hst]
  have hin : i = p.f.r.rs.length := by omega
  have ht1 : p.f.r.rs.take p.f.r.rs.length = p.f.r.rs := List.take_length
  simp -dsimp -implicitDefEqProofs [hin, ht1, g1, gn1]
  refine exitZ_fz 3 ?_
  simp -dsimp -implicitDefEqProofs [hz1]
  refine DrawR.on {} (by kernel_rfl) (by simp) ?_
  simp -dsimp -implicitDefEqProofs [b3, b4, z3, z3', hz1]
  refine LoopCR.onZ 67 (fun i => [(1, .ptr 0 0), (2, .ptr 1 0), (6, .ptr 2 0), (7, I (i : Nat))]) (fun i => [some (pgC p f1 f2 fw), some [.val (.slice none 0 0), .val (.slice none 0 0), .val (.slice none 0 0), .val (.slice none 0 0), I 0], some [.ro false 9 (p.f.r.rs.map fR), p.f.r.shoals, growN 4 1 i, .sl 3 0 p.way.length 3, I p.keel], some (rws fPs p.way), grown i (rws fL (p.f.sides.take i))]) (fun i => i ≤ p.f.sides.length) (fun i => p.f.sides.length - i) 0 [0, 1, 12, 8, 99] (by simp) ?_ ?_
  · simp -dsimp -implicitDefEqProofs
    exact rws_rn (f := fPs) (l := p.way) (n := 3) fun _ => rfl
  intro i j hi
  simp -dsimp -implicitDefEqProofs
  refine ifD_in (fun hlt => ?_) (fun hge => ?_)
  · refine Exists.elim (show ∃ x, p.f.sides[i]? = some x from ⟨_, List.getElem?_eq_getElem hlt⟩) fun x hx => ?_
    have hcx := (hw.h x (List.mem_of_getElem? hx)).2
    have hst : p.f.sides.take (i + 1) = p.f.sides.take i ++ [x] := by rw [List.take_add_one, hx]; rfl
    have w1 : IntKind.i64.wrap ((i : Int) + 1) = (i : Int) + 1 := wrap_in (by omega) (by omega)
    have b5 : x.length * 16 ≤ 70368744177664 := by omega
    have b6 : x.length ≤ 70368744177664 := by omega
    simp -dsimp -implicitDefEqProofs
    refine DrawR.on { M := [2, 4], see := [(1, 2)], eff := [(10, [4]), (12, [2])] } (by kernel_rfl) (by simp) ?_
    simp -dsimp -implicitDefEqProofs [hx, b5, b6, -storeA]
    refine on_appendN fL (p.f.sides.take i) x (by simp) (by rw [List.length_take]; omega) (show (i + 1) * 24 ≤ 70368744177664 by omega) (by omega) rfl rfl (by simp) rfl (fun _ => rfl) ?_ rfl
    simp -dsimp -implicitDefEqProofs [w1]
    refine again_in (i + 1) [0, 1, 2, 3, 15] (by omega) (by omega) ?_
    simp -dsimp -implicitDefEqProofs [hst]
  have hin2 : i = p.f.sides.length := by omega
  have ht2 : p.f.sides.take p.f.sides.length = p.f.sides := List.take_length
  simp -dsimp -implicitDefEqProofs [hin2, ht2, g2, gn2]
  refine exitZ_fz 4 ?_
  simp -dsimp -implicitDefEqProofs [hz2]
  refine ⟨[3], ?_⟩
  have hfz : ∀ h b, (rws fPs p.way).map (fzv h b) = rws fPs p.way := fun h b => by
    have hall := rws_all (f := fPs) (q := clean1) (l := p.way) fun _ => rfl
    refine (List.map_congr_left (fun x hx => fzv_clean1 (List.all_eq_true.1 hall x hx))).trans (List.map_id _)
  simp -dsimp -implicitDefEqProofs [hz2, hfz, -List.mapM_map, rws_rn (f := fPs) (l := p.way) (n := 3) (bs := [3]) fun _ => rfl]
end Go.Pe

/- What is known of hulls and passages by small numbers. -/
namespace Go.Pe
open Go Go.Proofs Go.Proofs.YtffckclggkjbgaaGreat
set_option maxRecDepth 20000
set_option maxHeartbeats 8000000
theorem pgE_of {x : Sr} (hx : x.Ok) : pgE (pgOf x) = 0 := by
  have hL := rowsS_len (x := x)
  have hb := hx.base
  have ho := hx.bot
  have hs := hx.sh
  have hw := hx.way
  have hk := hx.keel
  have hcv : validCv curveS = true := by
    have hu : upTo curveS curveS.length := fun k hk _ => by
      have h2 : k < 2 := hk
      match k, h2 with
      | 0, _ => exact ⟨⟨rfl, rfl⟩, fun h => by omega⟩
      | 1, _ => exact ⟨⟨rfl, rfl⟩, fun _ => ⟨show (0 : Int) < 5000 by omega, show (0 : Int) ≤ 5000 by omega⟩⟩
    unfold validCv
    rw [Bool.and_eq_true]
    exact ⟨rfl, @decide_eq_true _ (Classical.propDecidable _) hu⟩
  have s1 := span_in hb.1 hb.2.1
  have s2 := span_in hb.2.2.1 hb.2.2.2
  have s3 := span_in ho.1 ho.2.1
  have s4 := span_in ho.2.2.1 ho.2.2.2
  have s5 := span_in hs.1 hs.2.1
  have hv : validRv (riverS x) = true := by
    have r1 : validR ⟨10, 1, span x.base.a x.base.b, curveS, 0, span x.bot.a x.bot.b, 9000⟩ = true := by
      simp only [validR, Bool.and_eq_true]
      exact ⟨inB_iff.2 (by omega), inB_iff.2 (by omega), vB_iff.2 (by omega), hcv, ⟨inB_iff.2 (by omega), inB_iff.2 (by omega)⟩, vB_iff.2 (by omega)⟩
    have r2 : validR ⟨10, 1, span x.base.c x.base.d, curveS, 0, span x.bot.c x.bot.d, 9000⟩ = true := by
      simp only [validR, Bool.and_eq_true]
      exact ⟨inB_iff.2 (by omega), inB_iff.2 (by omega), vB_iff.2 (by omega), hcv, ⟨inB_iff.2 (by omega), inB_iff.2 (by omega)⟩, vB_iff.2 (by omega)⟩
    have r3 : validSh 20 ⟨12, span x.sh.a x.sh.b, 0, ⟨24 * (x.sh.c % 3 - 1), 24 * (x.sh.c % 3 - 1 + x.sh.d % 2)⟩⟩ = true := by
      simp only [validSh, Bool.and_eq_true]
      exact ⟨inB_iff.2 (by omega), vB_iff.2 (by omega), inB_iff.2 (by omega), vB_iff.2 (by simp only; omega)⟩
    have hl : lenSum (riverS x).rs = 20 := rfl
    simp only [validRv, Bool.and_eq_true, decide_eq_true_eq, hl]
    refine ⟨inB_iff.2 (by simp [riverS]), by simp [riverS], ?_, ?_⟩
    · simp only [riverS, List.all_cons, List.all_nil, r1, r2, Bool.and_self]
    · simp only [riverS, List.all_cons, List.all_nil, r3, Bool.and_self]
  have hst : startE (pgOf x).f = 0 := by
    have h0 : hrs (pgOf x).f.sides = (rowsS x).length := pgOf_hrs
    unfold startE
    rw [if_pos (show validRv (pgOf x).f.r = true from hv), if_pos (by rfl), if_neg (by omega), if_pos, if_neg (by omega), if_pos]
    · refine List.all_eq_true.2 fun l hl => ?_
      simp only [pgOf, List.mem_cons, List.not_mem_nil, or_false] at hl
      have hr := rowsS_ok hx
      rcases hl with rfl | rfl
      · refine List.all_eq_true.2 fun b hb => ?_
        obtain ⟨q, hq, rfl⟩ := List.mem_map.1 hb
        have := span_in (hr q hq).1 (hr q hq).2.1
        exact vB_iff.2 (by omega)
      · refine List.all_eq_true.2 fun b hb => ?_
        obtain ⟨q, hq, rfl⟩ := List.mem_map.1 hb
        have := span_in (hr q hq).2.2.1 (hr q hq).2.2.2
        exact vB_iff.2 (by omega)
    · refine List.all_eq_true.2 fun l hl => ?_
      simp only [pgOf, List.mem_cons, List.not_mem_nil, or_false] at hl
      rw [h0]
      rcases hl with rfl | rfl
      · simp [side0S]
      · simp [side1S]
  have hway : wayE (pgOf x).f.r.rs (hrs (pgOf x).f.sides) (pgOf x).way = 0 := by
    rw [pgOf_hrs]
    have b1 := Int.emod_nonneg x.way.a (show ((rowsS x).length : Int) ≠ 0 by omega)
    have b2 := Int.emod_lt_of_pos x.way.a (show (0 : Int) < (rowsS x).length by omega)
    have b3 := Int.emod_nonneg x.way.c (show ((rowsS x).length : Int) ≠ 0 by omega)
    have b4 := Int.emod_lt_of_pos x.way.c (show (0 : Int) < (rowsS x).length by omega)
    have u2 := hw.2.1
    have u4 := hw.2.2.2
    have hl : lenSum (pgOf x).f.r.rs = 20 := rfl
    unfold wayE
    rw [if_neg (by simp [pgOf, wayS]), if_neg (by simp [pgOf, wayS])]
    refine firstE_ok fun p hp => ?_
    simp only [pgOf, wayS, List.mem_cons, List.not_mem_nil, or_false] at hp
    unfold passE
    rw [hl]
    rcases hp with rfl | rfl
    · rw [if_pos (inB_iff.2 (by simp only; omega)), if_pos (vB_iff.2 (by simp only; omega))]
    · rw [if_pos (inB_iff.2 (by simp only; omega)), if_pos (vB_iff.2 (by simp only; omega))]
  unfold pgE
  rw [if_neg, if_neg (by simp [hst])]
  · exact hway
  · have : inB 0 500 (pgOf x).keel = true := inB_iff.2 (by simp only [pgOf]; omega)
    simp [this]
/-- A passage that is later ends too late, or is valid. -/
theorem pgE_late {p : Pg} (o : OkP p) {k : Int} (hk : 0 ≤ k) : pgE (pgS p k) = 0 ∨ pgE (pgS p k) = 3 := by
  have h3 : ∀ l : List Ps, (∀ q ∈ l, passE p.f.r.rs (hrs p.f.sides) q = 0 ∨ passE p.f.r.rs (hrs p.f.sides) q = 3) → firstE p.f.r.rs (hrs p.f.sides) l = 0 ∨ firstE p.f.r.rs (hrs p.f.sides) l = 3 := by
    intro l
    induction l with
    | nil => intro _; exact .inl rfl
    | cons q l ih =>
      intro h
      rw [firstE]
      split
      · exact ih fun q hq => h q (by simp [hq])
      · rename_i h0
        rcases h q (by simp) with h1 | h1
        · exact absurd h1 h0
        · exact .inr h1
  have hp := o.pos
  have hm := o.max
  unfold pgE
  rw [if_neg (by show ¬ inB 0 500 p.keel = false; simp [o.keel]), if_neg (by show ¬ startE p.f ≠ 0; simp [o.st])]
  unfold wayE
  rw [if_neg (by simp only [pgS, List.length_map]; omega), if_neg (by simp only [pgS, List.length_map]; omega)]
  refine h3 _ fun q' hq' => ?_
  obtain ⟨q, hq, rfl⟩ := List.mem_map.1 hq'
  have h1 := o.way q hq
  unfold passE at h1 ⊢
  split at h1
  · rename_i h4
    rw [if_pos (by exact h4)]
    split
    · exact .inl rfl
    · exact .inr rfl
  · omega
/-- A hull that is loaded by small numbers floats, or is too deep. -/
theorem flt_small {x : Sm} {m : Nat} (hx : x.Ok) (hm : 1 ≤ m) (hm2 : m ≤ 4) : fltE (huM x m) (ldM x m) (dens x) = 0 ∨ fltE (huM x m) (ldM x m) (dens x) = 8 := by
  have h1 := huM_ok hx hm hm2
  have h2 := ldM_ok hx hm hm2
  have h3 := dens_ok hx
  have h4 : loadE (huM x m) (ldM x m) = 0 := by
    unfold loadE
    rw [if_neg (by have := h2.1; omega), if_neg]
    rw [lotsOk_iff.2 h2.2]; simp
  unfold fltE
  rw [if_neg (by simp [h1]), if_neg (by simp [h4]), if_neg (by simp [h3])]
  split
  · exact .inl rfl
  · exact .inr rfl
/-- A hull is surely safe if it need not be later. -/
theorem sure_lat {x : Ld} {p : Pg} (hf : fltE x.u x.l x.b = 0) (hp : pgE p = 0) : sure x p = (decide (latE x p = 0) && decide (latK x p = 0)) := by
  have hs : safE x p = 0 := by unfold safE; rw [if_neg (by omega)]; exact hp
  cases h : sure x p with
  | true =>
    have hk : latK x p = 0 := latK_eq (.inr (by rw [Int.natCast_zero, pgS_zero]; exact h)) (fun m hm => by omega)
    have he : latE x p = 0 := by unfold latE; rw [if_neg (by omega), hk, Int.natCast_zero, pgS_zero, if_pos hp]
    simp [hk, he]
  | false =>
    have hk : latK x p ≠ 0 := fun hk => by
      have := (latK_is (x := x) hp).1
      rw [hk] at this
      unfold stopL at this
      rw [Int.natCast_zero, pgS_zero] at this
      rcases this with h1 | h1
      · exact h1 hp
      · rw [h] at h1; exact absurd h1 (by simp)
    simp [hk]
end Go.Pe
