import Derived.Test.YtffckclggkjbgaaGreatC01
import Derived.Test.YtffckclggkjbgaaGreatY27
set_option linter.unusedVariables false
set_option linter.unusedSimpArgs false
/- Hulls built of sections. -/
namespace Go.Pe
open Go Go.Proofs Go.Proofs.YtffckclggkjbgaaGreat
set_option maxRecDepth 20000
set_option maxHeartbeats 8000000
attribute [local simp] t3 u3 t4 u4
attribute [local simp] ts22 us22 ts24 us24 ts72 us72 ts118 us118 ts120 us120 ts25 us25 ts75 us75 ts150 us150 ts216 us216 ts34 us34 ts187 us187
attribute [local simp] convA extA lenA indexA_fst
attribute [local simp] fSec_eq Hu_eq
theorem cloneC_fn {l : List Pt} {f : Bool} {h : H} (h0 : l.length ≠ 0) (hl : l.length ≤ 1000) : Fn Tryz.prog 126 [.ro f 2 (l.map fPt)] h (.ro false 2 (l.map fPt)) h := by
  refine Fn.beside ?_ rfl h
  refine Fn.ofR0 noM (by kernel_rfl) Tryz.func126 rfl (by simp) ?_
  have hb1 : l.length * 16 ≤ 70368744177664 := by omega
  have hb2 : l.length ≤ 70368744177664 := by omega
  have hz : (l = []) = False := eq_false (fun h => h0 (by simp [h]))
  simp -dsimp -implicitDefEqProofs [hb1, hb2, hz]
  done
theorem cloneH_fn {l : List Pt} {f : Bool} {h : H} (h0 : l.length ≠ 0) (hl : l.length ≤ 1000) : Fn Tryz.prog 127 [.ro f 2 (l.map fPt)] h (.ro false 2 (l.map fPt)) h := by
  refine Fn.beside ?_ rfl h
  refine Fn.ofR0 noM (by kernel_rfl) Tryz.func127 rfl (by simp) ?_
  have hb1 : l.length * 16 ≤ 70368744177664 := by omega
  have hb2 : l.length ≤ 70368744177664 := by omega
  have hz : (l = []) = False := eq_false (fun h => h0 (by simp [h]))
  simp -dsimp -implicitDefEqProofs [hb1, hb2, hz]
  done
/-- Sections that are what they should be to be copied. -/
def SecsN (L : List Sec) : Prop := ∀ s ∈ L, (s.ps.length ≠ 0 ∧ s.ps.length ≤ 1000) ∧ s.qs.length ≠ 0 ∧ s.qs.length ≤ 1000
theorem build_fn {L : List Sec} {a : Int} {f : Bool} {h : H} (h0 : L.length ≠ 0) (hl : L.length ≤ 20) (hL : SecsN L) : Fn Tryz.prog 89 [I a, .ro f 5 (L.map fSec)] h (.agg [I a, .ro false 5 (L.map fSec)]) h := by
  refine Fn.beside ?_ rfl h
  refine Fn.ofR0 (butM []) (by kernel_rfl) Tryz.func89 rfl (by simp) ?_
  simp -dsimp -implicitDefEqProofs
  refine LoopCR.on 32 (fun i => [(4, .ptr 0 0), (5, .ptr 1 0), (10, .ro f 5 (L.map fSec)), (11, I (L.length : Nat)), (12, I (i : Nat))]) (fun i => [some [I 0, .val (.slice none 0 0)], some [I a, growN 2 5 i], grown i (rws fSec (L.take i))]) (fun i => i ≤ L.length) (fun i => L.length - i) 0 [0, 1, 99] (by simp) ?_ ?_
  · simp -dsimp -implicitDefEqProofs
    done
  intro i j hi
  simp -dsimp -implicitDefEqProofs
  refine ifD_in (fun hlt => ?_) (fun hge => ?_)
  · refine Exists.elim (show ∃ s, L[i]? = some s from ⟨_, List.getElem?_eq_getElem hlt⟩) fun s hs => ?_
    have hp := hL s (List.mem_of_getElem? hs)
    have hst : L.take (i + 1) = L.take i ++ [s] := by rw [List.take_add_one, hs]; rfl
    have w1 : IntKind.i64.wrap ((i : Int) + 1) = (i : Int) + 1 := wrap_in (by omega) (by omega)
    simp -dsimp -implicitDefEqProofs [hs]
    refine DrawR.on { M := [3], see := [(1, 3), (4, 3)], eff := [(7, [3]), (9, [3])] } (by kernel_rfl) (by simp) ?_
    simp -dsimp -implicitDefEqProofs
    refine onCallQ_in (cloneC_fn hp.1.1 hp.1.2) ?_
    simp -dsimp -implicitDefEqProofs
    refine onCallQ_in (cloneH_fn hp.2.1 hp.2.2) ?_
    simp -dsimp -implicitDefEqProofs
    refine on_appendN fSec (L.take i) s (by simp) (by rw [List.length_take]; omega) (show (i + 1) * 72 ≤ 70368744177664 by omega) (by omega) rfl rfl (by simp) rfl (fun _ => rfl) ?_ (by simp)
    simp -dsimp -implicitDefEqProofs [w1]
    refine again_in (i + 1) [0, 1, 14] (by omega) (by omega) ?_
    simp -dsimp -implicitDefEqProofs [hst]
    done
  have hin : i = L.length := by omega
  have ht : L.take L.length = L := List.take_length
  simp -dsimp -implicitDefEqProofs [hin, ht]
  exact frz_agg_two (frz_one rfl) (frz_rwsN (f := fSec) (l := L) (b := 2) (n := L.length) (by simp [mkH, H.set]) (Nat.zero_le _) rfl h0 (fun _ => rfl) (fun _ => rfl))
end Go.Pe

/- Hulls cut and welded. -/
namespace Go.Pe
open Go Go.Proofs Go.Proofs.YtffckclggkjbgaaGreat
set_option maxRecDepth 20000
set_option maxHeartbeats 8000000
attribute [local simp] t3 u3 t4 u4
attribute [local simp] ts22 us22 ts24 us24 ts72 us72 ts118 us118 ts120 us120 ts25 us25 ts75 us75 ts150 us150 ts216 us216 ts34 us34 ts187 us187
attribute [local simp] convA extA lenA indexA_fst
attribute [local simp] Hu_eq sliceA boundA intOf?
theorem within2_fn {lo hi x y : Int} {h : H} (h1 : lo ≤ x ∧ x ≤ hi) (h2 : lo ≤ y ∧ y ≤ hi) : Fn Tryz.prog 60 [I lo, I hi, .ro true 1 [[I x], [I y]]] h (B true) h := by
  have := vWithin_fn (lo := lo) (hi := hi) (h := h) (xs := [x, y]) (fu := true) (by simp)
  have e : ([x, y].all fun x => decide (lo ≤ x) && decide (x ≤ hi)) = true := by simp; omega
  rw [e] at this
  exact this
theorem cut_fn {u : Hu} {i j : Nat} {f1 : Bool} {h : H} (hok : hullOk u = true) (hsu : SmallU u) (hij : i < j) (hj : j ≤ u.ss.length) (hN : SecsN u.ss) (hne : j - i ≠ u.ss.length) :
    Fn Tryz.prog 50 [.agg [I u.a, .ro f1 5 (u.ss.map fSec)], I (i : Nat), I (j : Nat)] h (.tup [.agg [I u.a, .ro false 5 ((u.ss.take i ++ u.ss.drop j).map fSec)], I 0]) h := by
  refine Fn.beside ?_ rfl h
  refine Fn.ofR0 noM (by kernel_rfl) Tryz.func50 rfl (by simp) ?_
  have hn := hsu.n
  have cC : ∀ h, Fn Tryz.prog 19 [.agg [I u.a, .ro f1 5 (u.ss.map fSec)]] h (I 0) h := fun h => by have := check_fn (u := u) (f1 := f1) (h := h) hsu; rwa [hok, if_pos rfl] at this
  have d1 : decide ((j : Int) ≤ (i : Int)) = false := decide_eq_false (by omega)
  have d1' : decide (j ≤ i) = false := decide_eq_false (by omega)
  have w1 : IntKind.i64.wrap ((j : Int) - (i : Int)) = (j : Int) - (i : Int) := wrap_in (by omega) (by omega)
  have d2 : ((j : Int) - (i : Int) == (u.ss.length : Int)) = false := by rw [beq_eq_false_iff_ne]; omega
  have hi' : i ≤ u.ss.length := by omega
  refine Exists.elim (show ∃ A B L : List Sec, A = u.ss.take i ∧ B = u.ss.drop j ∧ L = A ++ B from ⟨_, _, _, rfl, rfl, rfl⟩) fun A h => Exists.elim h fun B h => Exists.elim h fun L h => ?_
  have hA := h.1
  have hB := h.2.1
  have hL := h.2.2
  clear h
  have eA : List.take i (List.map fSec u.ss) = List.map fSec A := by rw [hA, List.map_take]
  have eB : List.take (u.ss.length - j) (List.drop j (List.map fSec u.ss)) = List.map fSec B := by
    rw [List.take_of_length_le (by simp), hB, List.map_drop]
  have lA : A.length = i := by rw [hA, List.length_take]; omega
  have lB : B.length = u.ss.length - j := by rw [hB, List.length_drop]
  have lL : L.length = A.length + B.length := by rw [hL, List.length_append]
  have hLN : SecsN L := fun s hs => by
    rw [hL, List.mem_append, hA, hB] at hs
    exact hN s (hs.elim List.mem_of_mem_take List.mem_of_mem_drop)
  have cK : ∀ f1 f2 h, Fn Tryz.prog 90 [.ro true 1 [[.ro f1 5 (A.map fSec)], [.ro f2 5 (B.map fSec)]]] h (.ro false 5 (L.map fSec)) h := fun f1 f2 h => by rw [hL]; exact concat_fn (by omega) (by omega)
  have cB : ∀ f h, Fn Tryz.prog 89 [I u.a, .ro f 5 (L.map fSec)] h (.agg [I u.a, .ro false 5 (L.map fSec)]) h := fun f h => build_fn (by omega) (by omega) hLN
  rw [← hA, ← hB, ← hL]
  simp -dsimp -implicitDefEqProofs
  refine onCall_in (cC _) ?_
  simp -dsimp -implicitDefEqProofs [d1, d1']
  refine onCall_in (within2_fn (by omega) (by omega)) ?_
  simp -dsimp -implicitDefEqProofs [w1, d2]
  refine DrawR.on { M := [1], eff := [(13, [1])] } (by kernel_rfl) (by simp) ?_
  simp -dsimp -implicitDefEqProofs [hi', hj, eA, eB]
  refine onCallQ_in (cK _ _ _) ?_
  simp -dsimp -implicitDefEqProofs
  refine onCallQ_in (cB _ _) ?_
  simp -dsimp -implicitDefEqProofs
  done
/-- A hull of which all would be cut off. -/
theorem cutAll_fn {u : Hu} {f1 : Bool} {h : H} (hok : hullOk u = true) (hsu : SmallU u) (h1 : u.ss.length = 1) :
    Fn Tryz.prog 50 [.agg [I u.a, .ro f1 5 (u.ss.map fSec)], I 0, I 1] h (.tup [.agg [I 0, .val (.slice none 0 0)], I 4]) h := by
  refine Fn.beside ?_ rfl h
  refine Fn.ofR0 noM (by kernel_rfl) Tryz.func50 rfl (by simp) ?_
  have cC : ∀ h, Fn Tryz.prog 19 [.agg [I u.a, .ro f1 5 (u.ss.map fSec)]] h (I 0) h := fun h => by have := check_fn (u := u) (f1 := f1) (h := h) hsu; rwa [hok, if_pos rfl] at this
  have w1 : IntKind.i64.wrap 1 = 1 := rfl
  simp -dsimp -implicitDefEqProofs
  refine onCall_in (cC _) ?_
  simp -dsimp -implicitDefEqProofs [h1]
  refine onCall_in (within2_fn (by omega) (by omega)) ?_
  simp -dsimp -implicitDefEqProofs [w1, h1]
  done
theorem weld_fn {a b : Hu} {f1 f2 : Bool} {L : List Sec} {h : H} (ha : hullOk a = true) (hb : hullOk b = true) (hsa : SmallU a) (hsb : SmallU b) (hab : b.a = a.a) (hL : L = a.ss ++ b.ss) (hN : SecsN L) (hv : hullOk ⟨a.a, L⟩ = true) (hsL : SmallU ⟨a.a, L⟩) (h0 : L.length ≠ 0) :
    Fn Tryz.prog 51 [.agg [I a.a, .ro f1 5 (a.ss.map fSec)], .agg [I b.a, .ro f2 5 (b.ss.map fSec)]] h (.tup [.agg [I a.a, .ro false 5 (L.map fSec)], I 0]) h := by
  refine Fn.beside ?_ rfl h
  refine Fn.ofR0 noM (by kernel_rfl) Tryz.func51 rfl (by simp) ?_
  have cA : ∀ h, Fn Tryz.prog 19 [.agg [I a.a, .ro f1 5 (a.ss.map fSec)]] h (I 0) h := fun h => by have := check_fn (u := a) (f1 := f1) (h := h) hsa; rwa [ha, if_pos rfl] at this
  have cB : ∀ h, Fn Tryz.prog 19 [.agg [I a.a, .ro f2 5 (b.ss.map fSec)]] h (I 0) h := fun h => by have := check_fn (u := b) (f1 := f2) (h := h) hsb; rw [hb, if_pos rfl, hab] at this; exact this
  have hln : L.length ≤ 10 := hsL.n
  have lL : L.length = a.ss.length + b.ss.length := by rw [hL, List.length_append]
  have cK : ∀ f1 f2 h, Fn Tryz.prog 90 [.ro true 1 [[.ro f1 5 (a.ss.map fSec)], [.ro f2 5 (b.ss.map fSec)]]] h (.ro false 5 (L.map fSec)) h := fun f1 f2 h => by rw [hL]; exact concat_fn (by omega) (by omega)
  have cU : ∀ f h, Fn Tryz.prog 89 [I a.a, .ro f 5 (L.map fSec)] h (.agg [I a.a, .ro false 5 (L.map fSec)]) h := fun f h => build_fn h0 (by omega) hN
  have cV : ∀ f h, Fn Tryz.prog 58 [.agg [I a.a, .ro f 5 (L.map fSec)]] h (B true) h := fun f h => by have := validHull_fn (u := ⟨a.a, L⟩) (f1 := f) (h := h) hsL; rwa [hv] at this
  have w1 : IntKind.i64.wrap 1 = 1 := rfl
  have w2 : IntKind.i64.wrap 2 = 2 := rfl
  rw [hab]
  simp -dsimp -implicitDefEqProofs
  refine LoopCR.on 45 (fun i => [(2, .ptr 0 0), (3, .ptr 1 0), (4, .ptr 2 0), (12, .ro true 2 [[I a.a, .ro f1 5 (a.ss.map fSec)], [I a.a, .ro f2 5 (b.ss.map fSec)]]), (13, I 2), (14, I (i : Nat))]) (fun _ => [some [I a.a, .ro f1 5 (a.ss.map fSec)], some [I a.a, .ro f2 5 (b.ss.map fSec)], some [I 0, .val (.slice none 0 0)]]) (fun i => i ≤ 2) (fun i => 2 - i) 0 [0, 1, 2] (by simp) ?_ ?_
  · simp -dsimp -implicitDefEqProofs
    done
  intro i j hi
  refine (show i = 0 ∨ i = 1 ∨ i = 2 by omega).elim (fun hi0 => ?_) (fun hi12 => hi12.elim (fun hi1 => ?_) (fun hi2 => ?_))
  · simp -dsimp -implicitDefEqProofs [hi0]
    refine onCall_in (cA _) ?_
    simp -dsimp -implicitDefEqProofs [w1]
    refine again_in 1 [0, 1, 2] (by omega) (by omega) ?_
    simp -dsimp -implicitDefEqProofs
    done
  · simp -dsimp -implicitDefEqProofs [hi1]
    refine onCall_in (cB _) ?_
    simp -dsimp -implicitDefEqProofs [w1, w2]
    refine again_in 2 [0, 1, 2] (by omega) (by omega) ?_
    simp -dsimp -implicitDefEqProofs
    done
  simp -dsimp -implicitDefEqProofs [hi2]
  refine DrawR.on {} (by kernel_rfl) (by simp) ?_
  simp -dsimp -implicitDefEqProofs
  refine onCallQ_in (cK _ _ _) ?_
  simp -dsimp -implicitDefEqProofs
  refine onCallQ_in (cU _ _) ?_
  simp -dsimp -implicitDefEqProofs
  refine onCall_in (cV _ _) ?_
  simp -dsimp -implicitDefEqProofs
  done
end Go.Pe

/- A hull and its parts. -/
namespace Go.Pe
open Go Go.Proofs Go.Proofs.YtffckclggkjbgaaGreat
set_option maxRecDepth 20000
set_option maxHeartbeats 8000000
def smS (f : Sec → Int) : List Sec → Int
  | [] => 0
  | s :: l => f s + smS f l
theorem smS_append {f : Sec → Int} {B : List Sec} : ∀ A : List Sec, smS f (A ++ B) = smS f A + smS f B
  | [] => by simp [smS]
  | s :: A => by rw [List.cons_append, smS, smS, smS_append A]; omega
theorem smS_pos {f : Sec → Int} : ∀ {A : List Sec}, (∀ s ∈ A, 0 ≤ f s) → 0 ≤ smS f A
  | [], _ => by simp [smS]
  | s :: A, h => by
    have h1 := h s (by simp)
    have h2 := smS_pos (A := A) fun t ht => h t (by simp [ht])
    rw [smS]; omega
theorem sumI_take {f : Sec → Int} {l : List Sec} : ∀ i, i ≤ l.length → sumI f l i = smS f (l.take i)
  | 0, _ => by simp [sumI, smS]
  | i + 1, h => by
    obtain ⟨s, hs⟩ : ∃ s, l[i]? = some s := ⟨_, List.getElem?_eq_getElem (by omega)⟩
    rw [sumI_succ hs, sumI_take i (by omega), List.take_add_one, hs, smS_append]
    simp [smS]
theorem sumI_smS {f : Sec → Int} {l : List Sec} : sumI f l l.length = smS f l := by rw [sumI_take _ (Nat.le_refl _), List.take_length]
/-- A part of a hull is a hull. -/
theorem part_ok {u : Hu} {A B : List Sec} (h : hullOk u = true) (hu : u.ss = A ++ B) : (A.length ≠ 0 → hullOk ⟨u.a, A⟩ = true) ∧ (B.length ≠ 0 → hullOk ⟨u.a, B⟩ = true) := by
  simp only [hullOk, Bool.and_eq_true, decide_eq_true_eq, sumI_smS] at h ⊢
  rw [hu] at h
  obtain ⟨h1, h2, h3, h4, h5⟩ := h
  rw [smS_append] at h4 h5
  rw [List.all_append, Bool.and_eq_true] at h3
  have h2' := inB_iff.1 h2
  rw [List.length_append] at h2'
  have pa : ∀ {L : List Sec}, L.all secOk = true → 0 ≤ smS Sec.a L := fun hL => smS_pos fun s hs => by
    have := (List.all_eq_true.1 hL) s hs
    simp only [secOk, Bool.and_eq_true] at this
    have := inB_iff.1 this.1
    omega
  have pb : ∀ {L : List Sec}, 0 ≤ smS (fun s => (s.qs.length : Int)) L := smS_pos fun s _ => by omega
  have a1 := pa h3.1
  have a2 := pa h3.2
  have b1 := pb (L := A)
  have b2 := pb (L := B)
  exact ⟨fun h0 => ⟨h1, inB_iff.2 (by omega), h3.1, by omega, by omega⟩, fun h0 => ⟨h1, inB_iff.2 (by omega), h3.2, by omega, by omega⟩⟩
theorem vol_parts {u : Hu} {A B : List Sec} {d : Int} (hu : u.ss = A ++ B) : vol u d = vol ⟨u.a, A⟩ d + vol ⟨u.a, B⟩ d := by
  simp only [vol, sumI_smS]
  rw [hu, smS_append]
theorem le_limI {l : List Sec} {d : Int} : ∀ i, i ≤ l.length → (d ≤ limI l i ↔ d ≤ 1000 ∧ ∀ j s, j < i → l[j]? = some s → d ≤ lastX s)
  | 0, _ => by simp [limI]
  | i + 1, h => by
    obtain ⟨s, hs⟩ : ∃ s, l[i]? = some s := ⟨_, List.getElem?_eq_getElem (by omega)⟩
    rw [limI_succ hs]
    have ih := le_limI (l := l) (d := d) i (by omega)
    constructor
    · intro hd
      have h1 := ih.1 (by omega)
      refine ⟨h1.1, fun j t hj ht => ?_⟩
      by_cases hji : j = i
      · subst hji; rw [hs] at ht; cases ht; omega
      · exact h1.2 j t (by omega) ht
    · intro hd
      have h1 := ih.2 ⟨hd.1, fun j t hj ht => hd.2 j t (by omega) ht⟩
      have h2 := hd.2 i s (by omega) hs
      omega
theorem le_lim {u : Hu} {d : Int} : d ≤ lim u ↔ d ≤ 1000 ∧ ∀ s ∈ u.ss, d ≤ lastX s := by
  unfold lim
  rw [le_limI _ (Nat.le_refl _)]
  constructor
  · rintro ⟨h1, h2⟩
    refine ⟨h1, fun s hs => ?_⟩
    obtain ⟨j, hj, e⟩ := List.getElem_of_mem hs
    exact h2 j s hj (by rw [List.getElem?_eq_getElem hj, e])
  · rintro ⟨h1, h2⟩
    exact ⟨h1, fun j s _ hs => h2 s (List.mem_of_getElem? hs)⟩
theorem lim_parts {u : Hu} {A B : List Sec} {d : Int} (hu : u.ss = A ++ B) : d ≤ lim u ↔ d ≤ lim ⟨u.a, A⟩ ∧ d ≤ lim ⟨u.a, B⟩ := by
  rw [le_lim, le_lim, le_lim, hu]
  simp only [List.mem_append]
  constructor
  · rintro ⟨h1, h2⟩; exact ⟨⟨h1, fun s hs => h2 s (.inl hs)⟩, h1, fun s hs => h2 s (.inr hs)⟩
  · rintro ⟨⟨h1, h2⟩, _, h3⟩; exact ⟨h1, fun s hs => hs.elim (h2 s) (h3 s)⟩
theorem vlE_of {u : Hu} {d : Int} (h : hullOk u = true) (h0 : 0 ≤ d) : vlE u d = if d ≤ lim u then 0 else 3 := by
  unfold vlE
  rw [if_neg (by simp [h])]
  by_cases hd : d ≤ lim u
  · rw [if_pos hd, if_neg (by rw [inB_iff.2 ⟨h0, hd⟩]; simp)]
  · rw [if_neg hd, if_pos]
    cases hb : inB 0 (lim u) d with
    | false => rfl
    | true => exact absurd (inB_iff.1 hb).2 hd
/-- Of a deep heap only some blocks are looked at from here on. -/
theorem onCall.gen {P : Program} {g : Nat} {args : List AV} {h : H} {K : AV → H → Prop} {t : Tag K} (n : Nat) (F : (Nat → Option (List AV)) → Prop) (hn : h.next = n) (hl : h.lp = fun _ => none) (hF : F h.get) (k : ∀ G, F G → onCall P g args { next := n, get := G, lp := fun _ => none } K t) : onCall P g args h K t := by
  have e : h = { next := n, get := h.get, lp := fun _ => none } := by cases h; simp_all
  rw [e]
  exact k _ hF
theorem onCallQ_ev {g : Nat} {args : List AV} {h : H} {x : AV} {K : AV → Prop} {t : Tag K} (h1 : ∀ h, Fn Tryz.prog g args h x h) (h2 : K x) : onCallQ Tryz.prog g args h K t := onCallQ_in (h1 h) h2
end Go.Pe
