import Derived.Test.YtffckclggkjbgaaGreatY14
import Derived.Test.YtffckclggkjbgaaGreatY09
import Derived.Test.YtffckclggkjbgaaGreatRows
import Derived.Test.YtffckclggkjbgaaGreatY40
import Derived.Test.YtffckclggkjbgaaGreatY33
import Derived.Test.YtffckclggkjbgaaGreatY35
import Derived.Test.YtffckclggkjbgaaGreatY19
import Derived.ProofKit
set_option linter.unusedVariables false
set_option linter.unusedSimpArgs false
/- What the types of the program are. -/
namespace Go.Pe
open Go Go.Proofs Go.Proofs.YtffckclggkjbgaaGreat
theorem ti85 : ti Tryz.prog 113 = some { kind := TK.ar 2 3, size := 2, zero := [Value.int IntKind.i64 0, Value.int IntKind.i64 0], agg := true, bytes := 16, fok := true, cmp := true } := by kernel_rfl
theorem t85 {f : TI → Option AV} : tyInt Tryz.prog 113 f = f { kind := TK.ar 2 3, size := 2, zero := [Value.int IntKind.i64 0, Value.int IntKind.i64 0], agg := true, bytes := 16, fok := true, cmp := true } := tyInt_of ti85
theorem u85 {f : TI → Option (AV × H)} : tyInt2 Tryz.prog 113 f = f { kind := TK.ar 2 3, size := 2, zero := [Value.int IntKind.i64 0, Value.int IntKind.i64 0], agg := true, bytes := 16, fok := true, cmp := true } := tyInt2_of ti85
theorem ti145 : ti Tryz.prog 226 = some { kind := TK.sl 181, size := 1, zero := [Value.slice none 0 0], agg := false, bytes := 24, fok := true, cmp := true } := by kernel_rfl
theorem t145 {f : TI → Option AV} : tyInt Tryz.prog 226 f = f { kind := TK.sl 181, size := 1, zero := [Value.slice none 0 0], agg := false, bytes := 24, fok := true, cmp := true } := tyInt_of ti145
theorem u145 {f : TI → Option (AV × H)} : tyInt2 Tryz.prog 226 f = f { kind := TK.sl 181, size := 1, zero := [Value.slice none 0 0], agg := false, bytes := 24, fok := true, cmp := true } := tyInt2_of ti145
section
variable {P : Program} {ρ : List AV} {h : H}
end
attribute [simp] resA_three resA_four
attribute [simp] t3 u3 t4 u4 t5 u5 t22 u22 t23 u23 t25 u25 t27 u27 t28 u28 t30 u30 t32 u32   t37 u37 t43 u43     t50 u50   t75 u75 t77 u77     t94 u94   t102 u102 t117 u117 t119 u119     t130 u130 t134 u134 t138 u138   t155 u155 t156 u156   t172 u172       t85 u85 t145 u145
attribute [simp] fW_eq fR_eq fS_eq extA fBd_eq fL_eq lenA_nil eqlB27 neqB2
end Go.Pe

/- The spots of a way. -/
namespace Go.Pe
open Go Go.Proofs Go.Proofs.YtffckclggkjbgaaGreat
set_option maxRecDepth 20000
set_option maxHeartbeats 8000000

/-- A pass of a way. -/
structure Ps where
  place : Int
  hours : Bd
noncomputable def fPs (p : Ps) : List AV := [I p.place, I p.hours.lo, I p.hours.hi]
theorem fPs_eq {p : Ps} : fPs p = [I p.place, I p.hours.lo, I p.hours.hi] := rfl
attribute [simp] fPs_eq
/-- The error of a pass, for a river and so many hours. -/
def passE (rs : List Rc) (n : Int) (p : Ps) : Int := if inB 0 (lenSum rs - 1) p.place = true then (if vB 0 (n - 1) p.hours = true then 0 else 3) else 7
def firstE (rs : List Rc) (n : Int) : List Ps → Int
  | [] => 0
  | p :: l => if passE rs n p = 0 then firstE rs n l else passE rs n p
def wayE (rs : List Rc) (n : Int) (way : List Ps) : Int := if way.length = 0 then 4 else if 60 < way.length then 5 else firstE rs n way
theorem firstE_ok {rs : List Rc} {n : Int} : ∀ {l : List Ps}, (∀ p ∈ l, passE rs n p = 0) → firstE rs n l = 0
  | [], _ => rfl
  | p :: l, h => by rw [firstE, if_pos (h p (by simp))]; exact firstE_ok fun q hq => h q (by simp [hq])
theorem firstE_zero {rs : List Rc} {n : Int} : ∀ {l : List Ps}, firstE rs n l = 0 → ∀ p ∈ l, passE rs n p = 0
  | [], _, p, hp => by simp at hp
  | q :: l, h, p, hp => by
    rw [firstE] at h
    split at h
    · rename_i h0
      rcases List.mem_cons.1 hp with rfl | hp
      · exact h0
      · exact firstE_zero h p hp
    · rename_i h0; exact absurd h h0
theorem firstE_hit {rs : List Rc} {n : Int} : ∀ {l : List Ps} {i : Nat} {p : Ps}, l[i]? = some p → (∀ k, k < i → ∀ q, l[k]? = some q → passE rs n q = 0) → passE rs n p ≠ 0 → firstE rs n l = passE rs n p
  | [], i, p, h, _, _ => by simp at h
  | q :: l, 0, p, h, _, hp => by
    simp at h; subst h
    rw [firstE, if_neg hp]
  | q :: l, i + 1, p, h, hb, hp => by
    rw [firstE, if_pos (hb 0 (by omega) q rfl)]
    exact firstE_hit (i := i) (by simpa using h) (fun k hk x hx => hb (k + 1) (by omega) x (by simpa using hx)) hp
/-- A spot, or none. -/
structure Sp where
  y : Rc
  q : Nat
  p : Int
noncomputable def fSp : Option Sp → List AV
  | none => noSpot
  | some s => spotAV s.y s.q s.p
theorem fSp_len (s : Option Sp) : (fSp s).length = 11 := by cases s <;> rfl
theorem fSp_all (s : Option Sp) : ((fSp s).all fun x => clean1 x && one x) = true := by cases s <;> rfl
theorem fSp_rn {bs : List Nat} {n : Nat} {l : List (Option Sp)} : (rws fSp l).mapM (rn bs (n + 1)) = some (rws fSp l) := rnL_clean (rws_all fun s => by cases s <;> rfl)
attribute [simp] fSp_rn
open Classical in
noncomputable def spotOf (rs : List Rc) (p : Int) : Option Sp := if h : ∃ s : Sp, At rs p s.q s.y ∧ s.p = p then some h.choose else none
theorem At.uniq {rs : List Rc} {p : Int} {q q' : Nat} {y y' : Rc} (hl : ∀ x ∈ rs, 0 ≤ x.len ∧ x.len ≤ 5000) (a : At rs p q y) (b : At rs p q' y') : q = q' ∧ y = y' := by
  have e : q = q' := by
    have ha := (List.getElem?_eq_some_iff.1 a.hx).1
    have hb := (List.getElem?_eq_some_iff.1 b.hx).1
    have a1 := a.lo; have a2 := a.hi; have b1 := b.lo; have b2 := b.hi
    rcases Nat.lt_trichotomy q q' with h | h | h
    · have := lenSum_mono hl q' (by omega) (q + 1) (by omega); omega
    · exact h
    · have := lenSum_mono hl q (by omega) (q' + 1) (by omega); omega
  subst e
  exact ⟨rfl, Option.some.inj (a.hx.symm.trans b.hx)⟩
theorem spotOf_eq {rs : List Rc} {p : Int} {q : Nat} {y : Rc} (hl : ∀ x ∈ rs, 0 ≤ x.len ∧ x.len ≤ 5000) (a : At rs p q y) : spotOf rs p = some ⟨y, q, p⟩ := by
  have h : ∃ s : Sp, At rs p s.q s.y ∧ s.p = p := ⟨⟨y, q, p⟩, a, rfl⟩
  rw [spotOf, dif_pos h]
  obtain ⟨h1, h2⟩ := h.choose_spec
  obtain ⟨e1, e2⟩ := At.uniq hl h1 a
  congr 1
  generalize h.choose = s at *
  cases s; simp_all
noncomputable def spotsF (rs : List Rc) (way : List Ps) : List (Option Sp) := way.map fun p => spotOf rs p.place
/-- The memory of the spots when so many are found. -/
noncomputable def spotM (rs : List Rc) (way : List Ps) (i : Nat) : List (Option Sp) := spotsF rs (way.take i) ++ List.replicate (way.length - i) none
theorem spotM_len {rs : List Rc} {way : List Ps} {i : Nat} (hi : i ≤ way.length) : (spotM rs way i).length = way.length := by simp [spotM, spotsF]; omega
theorem spotM_zero {rs : List Rc} {way : List Ps} : zcells way.length [.int .i64 0, .int .i64 0, .int .i64 0, .int .i64 0, .slice none 0 0, .int .i64 0, .int .i64 0, .int .i64 0, .int .i64 0, .int .i64 0, .int .i64 0] = rws fSp (spotM rs way 0) := by
  simp only [zcells, rws, spotM, spotsF, List.take_zero, List.map_nil, List.nil_append, Nat.sub_zero, List.map_replicate]
  rfl
theorem spotM_set {rs : List Rc} {way : List Ps} {i : Nat} {p : Ps} (hp : way[i]? = some p) : (spotM rs way i).set i (spotOf rs p.place) = spotM rs way (i + 1) := by
  have hi := (List.getElem?_eq_some_iff.1 hp).1
  have hl : (spotsF rs (way.take i)).length = i := by simp [spotsF]; omega
  rw [spotM, List.set_append_right _ _ (by omega), hl, Nat.sub_self, show way.length - i = (way.length - (i + 1)) + 1 by omega, List.replicate_succ, List.set_cons_zero, spotM, List.take_add_one, hp]
  simp [spotsF]
theorem spotM_all {rs : List Rc} {way : List Ps} : spotM rs way way.length = spotsF rs way := by simp [spotM]

theorem along_err {r : Rv} {f1 fw : Bool} {hours : Int} {fl : List (List Bd)} {way : List Ps} {h : H} (hl : ∀ x ∈ r.rs, 0 ≤ x.len ∧ x.len ≤ 5000) (hn : r.rs.length ≤ 25) (hh : 0 ≤ hours ∧ hours ≤ 1000) (hw : way.length ≤ 1000) (he : wayE r.rs hours way ≠ 0) :
    Fn Tryz.prog 145 [stAV r f1 hours (.ro false 1 (fl.map fL)), .ro fw 3 (way.map fPs)] h (.tup [.val (.slice none 0 0), I (wayE r.rs hours way)]) h := by
  refine Fn.beside ?_ rfl h
  refine Fn.ofR0 noM (by kernel_rfl) Tryz.func145 rfl (by simp) ?_
  have w1 : IntKind.i64.wrap (hours - 1) = hours - 1 := wrap_in (by omega) (by omega)
  by_cases h0 : way.length = 0
  · have e : wayE r.rs hours way = 4 := by rw [wayE, if_pos h0]
    have d0 : way = [] := List.length_eq_zero_iff.1 h0
    subst d0
    simp -dsimp -implicitDefEqProofs [e]
  have b0 : ((way.length : Int) == 0) = false := beq_eq_false_iff_ne.2 (by omega)
  by_cases h6 : 60 < way.length
  · have e : wayE r.rs hours way = 5 := by rw [wayE, if_neg h0, if_pos h6]
    have d6 : decide ((60 : Int) < (way.length : Int)) = true := decide_eq_true (by omega)
    simp -dsimp -implicitDefEqProofs [e, b0, h0, d6]
  have e : wayE r.rs hours way = firstE r.rs hours way := by rw [wayE, if_neg h0, if_neg h6]
  have d6 : decide ((60 : Int) < (way.length : Int)) = false := decide_eq_false (by omega)
  rw [e] at he ⊢
  have hmk : ∀ h, makeSliceA { kind := TK.st [(0, 9, 112), (9, 1, 3), (10, 1, 3)], size := 11, zero := [.int .i64 0, .int .i64 0, .int .i64 0, .int .i64 0, .slice none 0 0, .int .i64 0, .int .i64 0, .int .i64 0, .int .i64 0, .int .i64 0, .int .i64 0], agg := true, bytes := 104, fok := true, cmp := true } h (way.length : Int) (way.length : Int) = some (.sl h.next 0 way.length 11, h.push (rws fSp (spotM r.rs way 0))) := fun h => by
    rw [← spotM_zero]
    exact make_rows (show 104 * way.length ≤ 70368744177664 by omega) (by omega) rfl
  simp -dsimp -implicitDefEqProofs [b0, h0, d6, hmk]
  refine LoopCR.on 51 (fun i => [(1, .ro fw 3 (way.map fPs)), (2, .ptr 0 0), (6, .sl 1 0 way.length 11), (20, .ro fw 3 (way.map fPs)), (21, I way.length), (22, I (i : Nat))])
    (fun i => [some [r.reaches f1, r.shoals, I hours, .ro false 1 (fl.map fL)], some (rws fSp (spotM r.rs way i))]) (fun i => i ≤ way.length ∧ ∀ k, k < i → ∀ q, way[k]? = some q → passE r.rs hours q = 0) (fun i => way.length - i) 0 [0, 1] ⟨by omega, by intro k hk; omega⟩ ?_ ?_
  · simp -dsimp -implicitDefEqProofs
  intro i j hI
  obtain ⟨hi, hpre⟩ := hI
  simp -dsimp -implicitDefEqProofs
  refine ifD_in (fun hlt => ?_) (fun hge => ?_)
  · have hlt' : i < way.length := by omega
    obtain ⟨p, hp⟩ : ∃ p, way[i]? = some p := ⟨_, List.getElem?_eq_getElem hlt'⟩
    cases hP : inB 0 (lenSum r.rs - 1) p.place with
    | false =>
      have hE : passE r.rs hours p = 7 := by simp [passE, hP]
      have hF : firstE r.rs hours way = 7 := by rw [firstE_hit hp hpre (by rw [hE]; decide), hE]
      have hpp : p.place < 0 ∨ lenSum r.rs ≤ p.place := by
        have h4 : ¬ inB 0 (lenSum r.rs - 1) p.place = true := by simp [hP]
        rw [inB_iff] at h4; omega
      have key : ∀ h, Fn Tryz.prog 122 [r.av f1, I p.place] h (.tup [.agg noSpot, I 7]) h := fun h => by
        by_cases h0 : p.place < 0
        · exact find_neg h0
        · exact find_over (by omega) hl hn (by omega)
      simp -dsimp -implicitDefEqProofs [hp]
      refine onCall_in (key _) ?_
      simp -dsimp -implicitDefEqProofs [noSpot, hF]
    | true =>
      have hP' := inB_iff.1 hP
      obtain ⟨q, y, ha⟩ := At.ex (rs := r.rs) (p := p.place) (by omega) (by omega)
      have hfind := fun h => find_hit (r := r) (fu := f1) (h := h) (by omega) hl hn ha
      cases hV : vB 0 (hours - 1) p.hours with
      | false =>
        have hE : passE r.rs hours p = 3 := by simp [passE, hP, hV]
        have hF : firstE r.rs hours way = 3 := by rw [firstE_hit hp hpre (by rw [hE]; decide), hE]
        simp -dsimp -implicitDefEqProofs [hp]
        refine onCall_in (hfind _) ?_
        simp -dsimp -implicitDefEqProofs [w1]
        refine onCall_in v_fn ?_
        simp -dsimp -implicitDefEqProofs [hV, hF]
      | true =>
        have hE : passE r.rs hours p = 0 := by simp [passE, hP, hV]
        simp -dsimp -implicitDefEqProofs [hp]
        refine onCall_in (hfind _) ?_
        simp -dsimp -implicitDefEqProofs [w1]
        refine onCall_in v_fn ?_
        simp -dsimp -implicitDefEqProofs [hV, -storeA]
        rw [indexA_sl rfl hlt']
        simp -dsimp -implicitDefEqProofs [-storeA]
        refine on_store fSp (spotM r.rs way i) i (spotOf r.rs p.place) (k := 11) (by simp) (by rw [spotM_len (by omega)]; omega) (by omega) (by rw [spotOf_eq hl ha]; rfl) fSp_len rfl ?_
        rw [spotM_set hp]
        simp -dsimp -implicitDefEqProofs
        refine again_in (i + 1) [0, 1] ⟨by omega, fun k hk x hx => ?_⟩ (by omega) ?_
        · by_cases hki : k = i
          · subst hki; rw [hp] at hx; cases hx; exact hE
          · exact hpre k (by omega) x hx
        simp -dsimp -implicitDefEqProofs
        rw [wrap_in (by omega) (by omega)]
  · have hin : i = way.length := by omega
    subst hin
    exfalso
    apply he
    refine firstE_ok fun p hp => ?_
    obtain ⟨k, hk, rfl⟩ := List.getElem_of_mem hp
    exact hpre k hk _ (List.getElem?_eq_getElem hk)
theorem along_fn {r : Rv} {f1 fw : Bool} {hours : Int} {fl : List (List Bd)} {way : List Ps} {h : H} (hl : ∀ x ∈ r.rs, 0 ≤ x.len ∧ x.len ≤ 5000) (hn : r.rs.length ≤ 25) (hh : 0 ≤ hours ∧ hours ≤ 1000) (he : wayE r.rs hours way = 0) :
    Fn Tryz.prog 145 [stAV r f1 hours (.ro false 1 (fl.map fL)), .ro fw 3 (way.map fPs)] h (.tup [.ro false 11 ((spotsF r.rs way).map fSp), I 0]) h := by
  refine Fn.beside ?_ rfl h
  refine Fn.ofR0 noM (by kernel_rfl) Tryz.func145 rfl (by simp) ?_
  have w1 : IntKind.i64.wrap (hours - 1) = hours - 1 := wrap_in (by omega) (by omega)
  by_cases h0 : way.length = 0
  · rw [wayE, if_pos h0] at he; omega
  rw [wayE, if_neg h0] at he
  by_cases h6 : 60 < way.length
  · rw [if_pos h6] at he; omega
  rw [if_neg h6] at he
  have he' := firstE_zero he
  have b0 : ((way.length : Int) == 0) = false := beq_eq_false_iff_ne.2 (by omega)
  have d6 : decide ((60 : Int) < (way.length : Int)) = false := decide_eq_false (by omega)
  have hmk : ∀ h, makeSliceA { kind := TK.st [(0, 9, 112), (9, 1, 3), (10, 1, 3)], size := 11, zero := [.int .i64 0, .int .i64 0, .int .i64 0, .int .i64 0, .slice none 0 0, .int .i64 0, .int .i64 0, .int .i64 0, .int .i64 0, .int .i64 0, .int .i64 0], agg := true, bytes := 104, fok := true, cmp := true } h (way.length : Int) (way.length : Int) = some (.sl h.next 0 way.length 11, h.push (rws fSp (spotM r.rs way 0))) := fun h => by
    rw [← spotM_zero]
    exact make_rows (show 104 * way.length ≤ 70368744177664 by omega) (by omega) rfl
  simp -dsimp -implicitDefEqProofs [b0, h0, d6, hmk]
  refine LoopCR.on 51 (fun i => [(1, .ro fw 3 (way.map fPs)), (2, .ptr 0 0), (6, .sl 1 0 way.length 11), (20, .ro fw 3 (way.map fPs)), (21, I way.length), (22, I (i : Nat))])
    (fun i => [some [r.reaches f1, r.shoals, I hours, .ro false 1 (fl.map fL)], some (rws fSp (spotM r.rs way i))]) (fun i => i ≤ way.length ∧ ∀ k, k < i → ∀ q, way[k]? = some q → passE r.rs hours q = 0) (fun i => way.length - i) 0 [0, 1] ⟨by omega, by intro k hk; omega⟩ ?_ ?_
  · simp -dsimp -implicitDefEqProofs
  intro i j hI
  obtain ⟨hi, hpre⟩ := hI
  simp -dsimp -implicitDefEqProofs
  refine ifD_in (fun hlt => ?_) (fun hge => ?_)
  · have hlt' : i < way.length := by omega
    obtain ⟨p, hp⟩ : ∃ p, way[i]? = some p := ⟨_, List.getElem?_eq_getElem hlt'⟩
    cases hP : inB 0 (lenSum r.rs - 1) p.place with
    | false =>
      exfalso
      have := he' p (List.mem_of_getElem? hp)
      simp [passE, hP] at this
    | true =>
      have hP' := inB_iff.1 hP
      obtain ⟨q, y, ha⟩ := At.ex (rs := r.rs) (p := p.place) (by omega) (by omega)
      have hfind := fun h => find_hit (r := r) (fu := f1) (h := h) (by omega) hl hn ha
      cases hV : vB 0 (hours - 1) p.hours with
      | false =>
        exfalso
        have := he' p (List.mem_of_getElem? hp)
        simp [passE, hP, hV] at this
      | true =>
        have hE : passE r.rs hours p = 0 := by simp [passE, hP, hV]
        simp -dsimp -implicitDefEqProofs [hp]
        refine onCall_in (hfind _) ?_
        simp -dsimp -implicitDefEqProofs [w1]
        refine onCall_in v_fn ?_
        simp -dsimp -implicitDefEqProofs [hV, -storeA]
        rw [indexA_sl rfl hlt']
        simp -dsimp -implicitDefEqProofs [-storeA]
        refine on_store fSp (spotM r.rs way i) i (spotOf r.rs p.place) (k := 11) (by simp) (by rw [spotM_len (by omega)]; omega) (by omega) (by rw [spotOf_eq hl ha]; rfl) fSp_len rfl ?_
        rw [spotM_set hp]
        simp -dsimp -implicitDefEqProofs
        refine again_in (i + 1) [0, 1] ⟨by omega, fun k hk x hx => ?_⟩ (by omega) ?_
        · by_cases hki : k = i
          · subst hki; rw [hp] at hx; cases hx; exact hE
          · exact hpre k (by omega) x hx
        simp -dsimp -implicitDefEqProofs
        rw [wrap_in (by omega) (by omega)]
  · have hin : i = way.length := by omega
    subst hin
    simp -dsimp -implicitDefEqProofs [spotM_all]
    refine frz_tups ⟨⟨2, frz_rows (rows := (spotsF r.rs way).map fSp) (by simp [mkH, rws]) (Nat.zero_le _) (by simp [spotsF]) (fun r hr => by obtain ⟨a, _, rfl⟩ := List.mem_map.1 hr; exact fSp_len a) (rws_all (f := fSp) fSp_all)⟩, ⟨1, rfl⟩, trivial⟩
end Go.Pe

/- The least depth at a spot in some hours. -/
namespace Go.Pe
open Go Go.Proofs Go.Proofs.YtffckclggkjbgaaGreat
set_option maxRecDepth 20000
set_option maxHeartbeats 8000000

/-- The depth at a place in an hour. -/
noncomputable def dF (f : Fc) (p k : Int) : Bd := match spotOf f.r.rs p with
  | some s => dpt (lvl s.y (rf f.r f.sides s.q k)) (bedF p k s.y.bot f.r.ss)
  | none => ⟨0, 0⟩
theorem dF_eq {f : Fc} {p k : Int} {q : Nat} {y : Rc} (o : OkRv f) (a : At f.r.rs p q y) : dF f p k = dpt (lvl y (rf f.r f.sides q k)) (bedF p k y.bot f.r.ss) := by
  rw [dF, spotOf_eq o.len a]
theorem dpt_in {l b : Bd} (hl : (0 ≤ l.lo ∧ l.lo ≤ 10000) ∧ 0 ≤ l.hi ∧ l.hi ≤ 10000) (hb : b.lo.natAbs ≤ 100000 ∧ b.hi.natAbs ≤ 100000) : (0 ≤ (dpt l b).lo ∧ (dpt l b).lo ≤ 200000) ∧ 0 ≤ (dpt l b).hi ∧ (dpt l b).hi ≤ 200000 := by
  simp only [dpt]; omega
theorem dF_in {f : Fc} {p : Int} {k : Nat} {q : Nat} {y : Rc} (g : GoodF f) (o : OkRv f) (a : At f.r.rs p q y) (hk : k < hrs f.sides) : (0 ≤ (dF f p k).lo ∧ (dF f p k).lo ≤ 200000) ∧ 0 ≤ (dF f p k).hi ∧ (dF f p k).hi ≤ 200000 := by
  have hm := g.hmax
  have hv := validR_parts ((List.all_eq_true.1 g.rv) y (List.mem_of_getElem? a.hx))
  have hbot := vB_iff.1 hv.2.2.2.2.2.2
  rw [dF_eq o a]
  exact dpt_in (lvl_in hv.2.2.2.1 hv.2.2.2.2.1) (bedF_in (by omega) (by omega) (by omega) o.sh)
theorem depthS_fn {f : Fc} {f1 : Bool} {p : Int} {q k : Nat} {y : Rc} {h : H} (g : GoodF f) (o : OkRv f) (ha : At f.r.rs p q y) (hk : k < hrs f.sides) :
    Fn Tryz.prog 88 [stAV f.r f1 (hrs f.sides) (.ro false 1 ((flowsF f.r f.sides).map fL)), .agg (spotAV y q p), I k] h (.agg [I (dF f p k).lo, I (dF f p k).hi]) h := by
  have hn := g.small.n
  have hq := (List.getElem?_eq_some_iff.1 ha.hx).1
  obtain ⟨row, e1, e2, e3⟩ := flowsF_rf g f.sides.length (Nat.le_refl _) q (by have := g.eq; omega)
  rw [List.take_length] at e1
  have hin := rf_in g q (k : Int)
  have hbig : (q + 1) * 10000000000 ≤ 250000000000 := Nat.mul_le_mul_right 10000000000 (show q + 1 ≤ 25 by have := g.eq; omega)
  have hb : (rf f.r f.sides q k).lo.natAbs ≤ 1000000000000 ∧ (rf f.r f.sides q k).hi.natAbs ≤ 1000000000000 := by
    revert hin hbig
    generalize (q + 1) * 10000000000 = m
    intro hin hbig
    omega
  rw [dF_eq o ha]
  exact depth_fn g o ha.hx e1 (e3 k hk) hk hb.1 hb.2
/-- The bounds of the depth in so many hours more than one, and the first hour with the least of them. -/
def dsF (d : Int → Bd) (lo : Int) : Nat → Bd × Int
  | 0 => (d lo, lo)
  | n + 1 => (⟨if (d (lo + (n + 1))).lo < (dsF d lo n).1.lo then (d (lo + (n + 1))).lo else (dsF d lo n).1.lo, max (dsF d lo n).1.hi (d (lo + (n + 1))).hi⟩, if (d (lo + (n + 1))).lo < (dsF d lo n).1.lo then lo + (n + 1) else (dsF d lo n).2)
theorem depths_fn {f : Fc} {f1 : Bool} {p : Int} {q : Nat} {y : Rc} {b : Bd} {h : H} (g : GoodF f) (o : OkRv f) (ha : At f.r.rs p q y) (hb : vB 0 (hrs f.sides - 1) b = true) :
    Fn Tryz.prog 146 [stAV f.r f1 (hrs f.sides) (.ro false 1 ((flowsF f.r f.sides).map fL)), .agg (spotAV y q p), .agg [I b.lo, I b.hi]] h (.tup [.agg [I (dsF (dF f p) b.lo (b.hi - b.lo).toNat).1.lo, I (dsF (dF f p) b.lo (b.hi - b.lo).toNat).1.hi], I (dsF (dF f p) b.lo (b.hi - b.lo).toNat).2]) h := by
  refine Fn.beside ?_ rfl h
  refine Fn.ofR0 noM (by kernel_rfl) Tryz.func146 rfl (by simp) ?_
  have hm := g.hmax
  obtain ⟨a, e⟩ := b
  have hb' := vB_iff.1 hb
  simp only at hb' ⊢
  clear hb
  obtain ⟨a, rfl⟩ : ∃ k : Nat, a = k := ⟨a.toNat, by omega⟩
  obtain ⟨n, rfl⟩ : ∃ k : Nat, e = a + k := ⟨(e - a).toNat, by omega⟩
  have hn : ((a : Int) + n - a).toNat = n := by omega
  rw [hn]
  obtain ⟨d, hd⟩ : ∃ d, d = dF f p := ⟨_, rfl⟩
  have hcall : ∀ (k : Nat), k < hrs f.sides → ∀ h, Fn Tryz.prog 88 [stAV f.r f1 (hrs f.sides) (.ro false 1 ((flowsF f.r f.sides).map fL)), .agg (spotAV y q p), I k] h (.agg [I (d k).lo, I (d k).hi]) h := fun k hk h => by rw [hd]; exact depthS_fn g o ha hk
  rw [← hd]
  have w1 : IntKind.i64.wrap ((a : Int) + 1) = (a : Int) + 1 := wrap_in (by omega) (by omega)
  simp -dsimp -implicitDefEqProofs [spotAV]
  refine DrawR.on { M := [3], eff := [(7, [3])] } (by kernel_rfl) (by simp) ?_
  simp -dsimp -implicitDefEqProofs
  refine onCallQ_in (hcall a (by omega) _) ?_
  simp -dsimp -implicitDefEqProofs [w1]
  refine LoopCR.on 47 (fun m => [(3, .ptr 0 0), (4, .ptr 1 0), (5, .ptr 2 0), (6, .ptr 3 0), (7, I (dsF d a m).2), (8, I ((a : Int) + 1 + (m : Nat)))])
    (fun m => [some [f.r.reaches f1, f.r.shoals, I (hrs f.sides), .ro false 1 ((flowsF f.r f.sides).map fL)], some (fR y ++ [I q, I p]), some [I a, I ((a : Int) + n)], some [I (dsF d a m).1.lo, I (dsF d a m).1.hi]]) (fun m => m ≤ n) (fun m => n - m) 0 [0, 1, 2, 3] (by simp) ?_ ?_
  · simp -dsimp -implicitDefEqProofs [dsF]
  intro m j hmn
  simp -dsimp -implicitDefEqProofs
  refine ifD_in (fun hlt => ?_) (fun hge => ?_)
  · have hlt' : m < n := by omega
    have hc : ∀ h, Fn Tryz.prog 88 [stAV f.r f1 (hrs f.sides) (.ro false 1 ((flowsF f.r f.sides).map fL)), .agg (spotAV y q p), I ((a : Int) + 1 + m)] h (.agg [I (d (a + (m + 1))).lo, I (d (a + (m + 1))).hi]) h := fun h => by
      have := hcall (a + 1 + m) (by omega) h
      rw [show ((a + 1 + m : Nat) : Int) = (a : Int) + 1 + m by omega] at this
      rw [show (a : Int) + (m + 1) = (a : Int) + 1 + m by omega]
      exact this
    have hs : dsF d a (m + 1) = (⟨if (d (a + (m + 1))).lo < (dsF d a m).1.lo then (d (a + (m + 1))).lo else (dsF d a m).1.lo, max (dsF d a m).1.hi (d (a + (m + 1))).hi⟩, if (d (a + (m + 1))).lo < (dsF d a m).1.lo then (a : Int) + (m + 1) else (dsF d a m).2) := rfl
    obtain ⟨x, hx⟩ : ∃ x, x = d (a + (m + 1)) := ⟨_, rfl⟩
    obtain ⟨s, hse⟩ : ∃ s, s = dsF d a m := ⟨_, rfl⟩
    rw [← hx, ← hse] at hs
    simp only [← hx] at hc
    rw [← hse]
    have w2 : IntKind.i64.wrap ((a : Int) + 1 + m + 1) = (a : Int) + 1 + (m + 1 : Nat) := by rw [wrap_in (by omega) (by omega)]; omega
    simp -dsimp -implicitDefEqProofs
    refine onCall_in (hc _) ?_
    simp -dsimp -implicitDefEqProofs
    refine ifD_in (fun h3 => ?_) (fun h3 => ?_)
    · rw [if_pos h3, if_pos h3] at hs
      simp -dsimp -implicitDefEqProofs [w2]
      refine again_in (m + 1) [0, 1, 2, 3] (by omega) (by omega) ?_
      simp -dsimp -implicitDefEqProofs [hs]
      omega
    · rw [if_neg h3, if_neg h3] at hs
      simp -dsimp -implicitDefEqProofs [w2]
      refine again_in (m + 1) [0, 1, 2, 3] (by omega) (by omega) ?_
      simp -dsimp -implicitDefEqProofs [hs]
  · have hin : m = n := by omega
    subst hin
    simp -dsimp -implicitDefEqProofs
end Go.Pe
