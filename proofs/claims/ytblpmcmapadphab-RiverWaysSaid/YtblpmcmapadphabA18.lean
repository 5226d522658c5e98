import Derived.Test.YtblpmcmapadphabA17
set_option linter.unusedVariables false
set_option linter.unusedSimpArgs false
/- A stream: the flows of all reaches. -/
namespace Go.Pe
open Go Go.Proofs Go.Proofs.Ytblpmcmapadphab
attribute [local simp] t3 u3 t4 u4 t5 u5 t22 u22 t23 u23 t25 u25 t27 u27 t28 u28 t30 u30 t32 u32 t34 u34 t37 u37 t43 u43 t48 u48 t49 u49 t50 u50 t54 u54 t75 u75 t77 u77         t102 u102 t117 u117 t119 u119 t123 u123 t125 u125 t130 u130 t134 u134 t138 u138   t155 u155 t156 u156 t160 u160 t172 u172
set_option maxRecDepth 20000
set_option maxHeartbeats 8000000
attribute [local simp] fW_eq fR_eq fS_eq extA fBd_eq fL_eq

def nextF (r : Rv) (fl : List (List Bd)) (side : List Bd) : List Bd := match fl.getLast?, r.rs[fl.length - 1]? with
  | some prev, some x => flowOf x prev side
  | _, _ => side
def flowsF (r : Rv) (s : List (List Bd)) : List (List Bd) := s.foldl (fun fl side => fl ++ [nextF r fl side]) []
theorem flowsF_snoc {r : Rv} {s : List (List Bd)} {side : List Bd} : flowsF r (s ++ [side]) = flowsF r s ++ [nextF r (flowsF r s) side] := by simp [flowsF, List.foldl_append]
theorem flowsF_len {r : Rv} {s : List (List Bd)} : (flowsF r s).length = s.length := by
  have gen : ∀ (s : List (List Bd)) (a : List (List Bd)), (s.foldl (fun fl side => fl ++ [nextF r fl side]) a).length = a.length + s.length := by
    intro s
    induction s with
    | nil => intro a; simp
    | cons x s ih => intro a; rw [List.foldl_cons, ih]; simp; omega
  have := gen s []
  simpa [flowsF] using this
theorem nextF_len {r : Rv} {fl : List (List Bd)} {side : List Bd} : (nextF r fl side).length = side.length := by
  unfold nextF
  split
  · exact flowOf_len
  · rfl
theorem flowsF_take {r : Rv} {s : List (List Bd)} {i : Nat} (hi : i < s.length) : flowsF r (s.take (i + 1)) = flowsF r (s.take i) ++ [nextF r (flowsF r (s.take i)) s[i]] := by
  rw [List.take_add_one, List.getElem?_eq_getElem hi, Option.toList_some, flowsF_snoc]

/-- What a valid river and forecast are. -/
structure GoodF (f : Fc) : Prop where
  small : SmallF f
  rv : f.r.rs.all validR = true
  eq : f.sides.length = f.r.rs.length
  pos : 0 < f.r.rs.length
  hpos : 0 < hrs f.sides
  hmax : hrs f.sides ≤ 400
  lens : ∀ l ∈ f.sides, l.length = hrs f.sides
  oks : ∀ l ∈ f.sides, ∀ b ∈ l, vB 0 10000000000 b = true
theorem good_of {f : Fc} (hw : SmallF f) (h : startE f = 0) : GoodF f := by
  unfold startE at h
  split at h
  · rename_i h1
    split at h
    · rename_i h2
      split at h
      · simp at h
      · rename_i h3
        split at h
        · rename_i h4
          split at h
          · simp at h
          · rename_i h5
            split at h
            · rename_i h6
              simp only [validRv, Bool.and_eq_true, inB_iff] at h1
              refine ⟨hw, h1.2.2.1, h2, by omega, by omega, by omega, fun l hl => ?_, fun l hl b hb => ?_⟩
              · have := (List.all_eq_true.1 h4) l hl
                simp only [beq_iff_eq] at this
                omega
              · have := (List.all_eq_true.1 h6) l hl
                exact (List.all_eq_true.1 this) b hb
            · simp at h
        · simp at h
    · simp at h
  · simp at h
theorem flowOf_in {x : Rc} {prev side : List Bd} {m n : Nat} (hb : x.base.lo.natAbs ≤ m ∧ x.base.hi.natAbs ≤ m) (hp : ∀ b ∈ prev, b.lo.natAbs ≤ m ∧ b.hi.natAbs ≤ m) (hs : ∀ b ∈ side, b.lo.natAbs ≤ n ∧ b.hi.natAbs ≤ n) : ∀ b ∈ flowOf x prev side, b.lo.natAbs ≤ m + n ∧ b.hi.natAbs ≤ m + n := fun b hb' => by
  obtain ⟨k, hk, rfl⟩ := List.getElem_of_mem hb'
  have hk' : k < side.length := by rwa [flowOf_len] at hk
  have h1 := above_in (x := x) (prev := prev) hb hp k
  have h2 := hs _ (List.getElem_mem hk')
  simp only [flowOf, List.getElem_mapIdx]
  omega
theorem flowsF_in {f : Fc} (g : GoodF f) : ∀ i, i ≤ f.sides.length → ∀ l ∈ flowsF f.r (f.sides.take i), l.length = hrs f.sides ∧ ∀ b ∈ l, b.lo.natAbs ≤ i * 10000000000 ∧ b.hi.natAbs ≤ i * 10000000000 := by
  intro i
  induction i with
  | zero => intro _ l hl; simp [flowsF] at hl
  | succ i ih =>
    intro hi l hl
    have ih' := ih (by omega)
    have hm : i * 10000000000 + 10000000000 = (i + 1) * 10000000000 := (Nat.succ_mul _ _).symm
    have hmi : 1 ≤ i → 10000000000 ≤ i * 10000000000 := fun h => by omega
    revert ih' hmi
    rw [← hm]
    generalize i * 10000000000 = m
    intro ih' hmi
    have hmi' := fun h => hmi h
    have hside : ∀ b ∈ f.sides[i], b.lo.natAbs ≤ 10000000000 ∧ b.hi.natAbs ≤ 10000000000 := fun b hb => by
      have := vB_iff.1 (g.oks _ (List.getElem_mem (show i < f.sides.length by omega)) b hb)
      omega
    rw [flowsF_take (by omega)] at hl
    rcases List.mem_append.1 hl with hl | hl
    · refine ⟨(ih' l hl).1, fun b hb => ?_⟩
      have := (ih' l hl).2 b hb
      omega
    · rw [List.mem_singleton] at hl
      subst hl
      refine ⟨by rw [nextF_len]; exact g.lens _ (List.getElem_mem _), fun b hb => ?_⟩
      unfold nextF at hb
      split at hb
      · rename_i prev x hp hx
        have hpm := List.mem_of_getLast? hp
        have hil : (flowsF f.r (f.sides.take i)).length = i := by rw [flowsF_len, List.length_take]; omega
        have hi1 : 1 ≤ i := by
          have := List.length_pos_of_mem hpm
          omega
        have hxv := vB_iff.1 (validR_parts ((List.all_eq_true.1 g.rv) x (List.mem_of_getElem? hx))).2.2.1
        have hmi2 := hmi hi1
        have := flowOf_in (m := m) (n := 10000000000) (x := x) (prev := prev) (side := f.sides[i]) (by omega) (fun b hb => (ih' prev hpm).2 b hb) hside b hb
        exact this
      · have := hside b hb
        omega

theorem newStream_bad {f : Fc} {f1 f2 : Bool} {h : H} (hw : SmallF f) (he : startE f ≠ 0) : Fn Try.prog 16 [f.r.av f1, sidesAV f.sides f2] h (.tup [.agg [.val (.slice none 0 0), .val (.slice none 0 0), I 0, .val (.slice none 0 0)], I (startE f)]) h := by
  refine Fn.beside ?_ rfl h
  refine Fn.ofR0 noM (by kernel_rfl) Try.func16 rfl (by simp) ?_
  have ne0 : (startE f != 0) = true := by simpa using he
  simp -dsimp -implicitDefEqProofs
  refine onCall_in (checkForecast_fn hw) ?_
  simp -dsimp -implicitDefEqProofs [ne0]
/-- One more flow, where block 3 holds those before. -/
theorem flow_at {f : Fc} {f1 fu : Bool} {i : Nat} (g : GoodF f) (hi : i < f.sides.length) (h : H) (hg : h.get 3 = grown i (rws fL (flowsF f.r (f.sides.take i)))) : Fn Try.prog 36 [stAV f.r f1 (hrs f.sides) (growN 3 1 i), I i, .ro fu 2 (f.sides[i].map fBd)] h (.ro false 2 ((nextF f.r (flowsF f.r (f.sides.take i)) f.sides[i]).map fBd)) h := by
  have hm := g.hmax
  have hp := g.hpos
  have hn := g.small.n
  have hl := g.lens _ (List.getElem_mem hi)
  have hlf : (flowsF f.r (f.sides.take i)).length = i := by rw [flowsF_len, List.length_take]; omega
  have hbd : ∀ b ∈ f.sides[i], b.lo.natAbs ≤ 500000000000 ∧ b.hi.natAbs ≤ 500000000000 := fun b hb => by
    have := vB_iff.1 (g.oks _ (List.getElem_mem hi) b hb)
    omega
  cases i with
  | zero => exact (flow0_fn (by omega) (by omega)).beside rfl h
  | succ i =>
    obtain ⟨fl, hfl⟩ : ∃ fl, fl = flowsF f.r (f.sides.take (i + 1)) := ⟨_, rfl⟩
    rw [← hfl] at hg hlf ⊢
    have hfi := flowsF_in g (i + 1) (by omega)
    rw [← hfl] at hfi
    obtain ⟨x, hx⟩ : ∃ x, f.r.rs[i]? = some x := ⟨_, List.getElem?_eq_getElem (show i < f.r.rs.length by have := g.eq; omega)⟩
    obtain ⟨prev, hpv⟩ : ∃ p, fl[i]? = some p := ⟨_, List.getElem?_eq_getElem (show i < fl.length by omega)⟩
    have hgl : fl.getLast? = some prev := by rw [List.getLast?_eq_getElem?, show fl.length - 1 = i by omega]; exact hpv
    have hnext : nextF f.r fl f.sides[i + 1] = flowOf x prev f.sides[i + 1] := by
      unfold nextF
      rw [hgl, show fl.length - 1 = i by omega, hx]
    have hpi := hfi _ (List.mem_of_getElem? hpv)
    have hv := validR_parts ((List.all_eq_true.1 g.rv) x (List.mem_of_getElem? hx))
    have hxv := vB_iff.1 hv.2.2.1
    have key := flow_fn (r := f.r) (f1 := f1) (fu := fu) (side := f.sides[i + 1]) (prev := prev) (fl := fl) (i := i) (x := x) hx hlf hpv (by rw [hpi.1, hl]) hv.2.1.1 (by omega) (by omega) (by omega) (by omega) (fun b hb => by have := hpi.2 b hb; omega) hbd
    rw [hnext]
    rw [grown_succ] at hg
    rw [growN_succ]
    rw [hl, hlf] at key
    exact Fn.reads (cs0 := [rws fL fl]) [3] key (by simp) (by simp [hg, rws_rn, fL_eq]) (by simp) (fun b hb cs hc => by simp at hb; subst hb; rw [hg] at hc; cases hc; exact rws_all fun _ => rfl) rfl
theorem newStream_fn {f : Fc} {f1 f2 : Bool} {h : H} (g : GoodF f) (he : startE f = 0) : Fn Try.prog 16 [f.r.av f1, sidesAV f.sides f2] h (.tup [stAV f.r f1 (hrs f.sides) (.ro false 1 ((flowsF f.r f.sides).map fL)), I 0]) h := by
  refine Fn.beside ?_ rfl h
  refine Fn.ofR0 ownM (by kernel_rfl) Try.func16 rfl (by simp) ?_
  have hn := g.small.n
  have hpos : 0 < f.sides.length := by rw [g.eq]; exact g.pos
  have hx0 := List.getElem?_eq_getElem hpos
  have hh : f.sides[0].length = hrs f.sides := by simp [hrs, List.headD_eq_head?_getD, List.head?_eq_getElem?, hx0]
  have hm := g.hmax
  simp -dsimp -implicitDefEqProofs
  refine onCall_in (checkForecast_fn g.small) ?_
  simp -dsimp -implicitDefEqProofs [he]
  refine DrawR.on {} (by kernel_rfl) (by simp) ?_
  simp -dsimp -implicitDefEqProofs [hx0, hh]
  refine LoopCR.on 41 (fun i => [(4, .ptr 1 0), (7, .ptr 2 0), (23, sidesAV f.sides f2), (24, I f.sides.length), (25, I (i : Nat))])
    (fun i => [some [f.r.reaches f1, f.r.shoals], some [.val (.slice none 0 0), .val (.slice none 0 0), I 0, .val (.slice none 0 0)], some [f.r.reaches f1, f.r.shoals, I (hrs f.sides), growN 3 1 i], grown i (rws fL (flowsF f.r (f.sides.take i)))]) (fun i => i ≤ f.sides.length) (fun i => f.sides.length - i) 0 [0, 1, 8, 99] (by simp) ?_ ?_
  · simp -dsimp -implicitDefEqProofs
  intro i j hi
  simp -dsimp -implicitDefEqProofs
  refine ifD_in (fun hlt => ?_) (fun hge => ?_)
  · have hlt' : i < f.sides.length := by omega
    have hs := List.getElem?_eq_getElem hlt'
    have hcall := flow_at (f1 := f1) (fu := false) g hlt'
    have hlf : (flowsF f.r (f.sides.take i)).length = i := by rw [flowsF_len, List.length_take]; omega
    simp -dsimp -implicitDefEqProofs [hs]
    refine DrawR.on { M := [2, 3], see := [(1, 2), (2, 2), (5, 3)], eff := [(7, [3]), (9, [2])] } (by kernel_rfl) (by simp) ?_
    simp -dsimp -implicitDefEqProofs [hs]
    refine onCallQ_in (hcall _ (by simp)) ?_
    simp -dsimp -implicitDefEqProofs [-storeA]
    refine on_appendN fL (flowsF f.r (f.sides.take i)) (nextF f.r (flowsF f.r (f.sides.take i)) f.sides[i]) (by simp) hlf (show (i + 1) * 24 ≤ 70368744177664 by omega) (by omega) rfl rfl (by simp) rfl (fun _ => rfl) ?_ rfl
    rw [← flowsF_take hlt']
    simp -dsimp -implicitDefEqProofs
    refine again_in (i + 1) [0, 1, 2, 11] (by omega) (by omega) ?_
    simp -dsimp -implicitDefEqProofs
    rw [wrap_in (by omega) (by omega)]
  · have hin : i = f.sides.length := by omega
    subst hin
    simp -dsimp -implicitDefEqProofs
    refine frz_tups ⟨frz_aggs ⟨⟨1, rfl⟩, ⟨1, rfl⟩, ⟨1, rfl⟩, ?_, trivial⟩, ⟨1, rfl⟩, trivial⟩
    exact frz_rwsN (l := flowsF f.r f.sides) (f := fL) (by simp [mkH]) (Nat.zero_le _) flowsF_len (by omega) (fun _ => rfl) (fun _ => rfl)
end Go.Pe

/- A round's end at which a block becomes fixed: what simplification needs. -/
namespace Go.Pe
open Go
section
variable {h : H} {b0 : Nat}
theorem aev_fzm {ρ : List AV} {t : Nat} : aev (ρ.map (fzv h b0)) (.tmp t) = fzv h b0 (aev ρ (.tmp t)) := by
  simp only [aev, List.getD, List.getElem?_map]
  cases ρ[t]? <;> rfl
theorem en_map {N : Nat} {j : Nat → AV} {f : AV → AV} : ∀ {E : List (Nat × AV)}, (en N j E).map f = en N (fun t => f (j t)) (E.map fun p => (p.1, f p.2)) := by
  have key : ∀ (E : List (Nat × AV)) (t : Nat), f (lk j t E) = lk (fun t => f (j t)) t (E.map fun p => (p.1, f p.2)) := by
    intro E t
    induction E with
    | nil => rfl
    | cons q E ih =>
      obtain ⟨q, x⟩ := q
      by_cases h : t = q
      · subst h; simp [lk]
      · simp only [List.map_cons, lk, if_neg h]; exact ih
  intro E
  simp only [en, List.map_map]
  exact List.map_congr_left fun t _ => key E t
theorem fzH_next : (fzH h b0).next = h.next := rfl
theorem fzH_lp : (fzH h b0).lp = h.lp := rfl
theorem fzm_len {ρ : List AV} : (ρ.map (fzv h b0)).length = ρ.length := List.length_map _
theorem fzH_get {q : Nat} : (fzH h b0).get q = if q = b0 then none else (h.get q).map (·.map (fzv h b0)) := rfl
theorem fzv_val {v : Value} : fzv h b0 (.val v) = .val v := rfl
theorem fzv_ro {f : Bool} {k : Nat} {xs : List (List AV)} : fzv h b0 (.ro f k xs) = .ro f k xs := rfl
theorem fzv_rop {cs : List AV} : fzv h b0 (.rop cs) = .rop cs := rfl
theorem fzv_ptr {b o : Nat} : fzv h b0 (.ptr b o) = .ptr b o := rfl
theorem fzv_agg {l : List AV} : fzv h b0 (.agg l) = .agg l := rfl
theorem fzv_sl_ne {b o len k : Nat} (hb : b ≠ b0) : fzv h b0 (.sl b o len k) = .sl b o len k := by simp [fzv, hb]
theorem fzv_grow {b k n : Nat} (hb : b ≠ b0) : fzv h b0 (grow b k n) = grow b k n := by
  cases n with
  | zero => rfl
  | succ n => rw [grow_succ]; exact fzv_sl_ne hb
theorem fzv_growN {b k n : Nat} (hb : b ≠ b0) : fzv h b0 (growN b k n) = growN b k n := by
  cases n with
  | zero => rfl
  | succ n => rw [growN_succ]; exact fzv_sl_ne hb
theorem grown_map {n : Nat} {l : List AV} {f : List AV → List AV} : (grown n l).map f = grown n (f l) := by cases n <;> rfl
theorem fzv_clean1 {x : AV} (hx : clean1 x = true) : fzv h b0 x = x := by cases x <;> simp [clean1] at hx <;> rfl
theorem fz_clean1 {l : List AV} (hl : l.all clean1 = true) : l.map (fzv h b0) = l := by
  conv => rhs; rw [← List.map_id l]
  exact List.map_congr_left fun x hx => fzv_clean1 ((List.all_eq_true.1 hl) x hx)
theorem fz_rws {α : Type} {f : α → List AV} {l : List α} (hf : ∀ a, (f a).all clean1 = true) : (rws f l).map (fzv h b0) = rws f l := fz_clean1 (rws_all hf)
theorem fzv_hit {α : Type} {f : α → List AV} {l : List α} {k n : Nat} (hb : h.get b0 = some (rws f l)) (hn : l.length = n) (hk : ∀ a, (f a).length = k) (hc : ∀ a, ((f a).all fun x => clean1 x && one x) = true) : fzv h b0 (.sl b0 0 n k) = .ro false k (l.map f) := by
  have : frz 2 (only h b0) 0 (.sl b0 0 n k) = some (.ro false k (l.map f)) := frz_rows (rows := l.map f) (by simp only [only, if_true]; exact hb) (Nat.zero_le _) (by simpa using hn) (fun r hr => by obtain ⟨a, _, rfl⟩ := List.mem_map.1 hr; exact hk a) (rws_all hc)
  simp [fzv, this]
/-- Rows of one cell each. -/
def o1 (x : AV) : List AV := [x]
theorem rws_o1 {l : List AV} : rws o1 l = l := by
  unfold rws
  induction l with
  | nil => rfl
  | cons x l ih => simpa [o1] using ih
/-- A row of cells with one that stands out. -/
def mid (A : List AV) (x : AV) (C : List AV) : List AV := A ++ x :: C
theorem mid_fz {A C : List AV} {x : AV} (hA : A.all clean1 = true) (hC : C.all clean1 = true) : (mid A x C).map (fzv h b0) = mid A (fzv h b0 x) C := by
  simp only [mid, List.map_append, List.map_cons, fz_clean1 hA, fz_clean1 hC]
theorem mid_rn {bs : List Nat} {n : Nat} {A C : List AV} {x : AV} (hA : A.all clean1 = true) (hC : C.all clean1 = true) : (mid A x C).mapM (rn bs (n + 1)) = (rn bs (n + 1) x).map fun y => mid A y C := by
  simp only [mid, List.mapM_append, List.mapM_cons, rnL_clean hA, rnL_clean hC]
  cases rn bs (n + 1) x <;> rfl
theorem mid_get {A C : List AV} {x : AV} {i : Nat} (hi : A.length = i) : (mid A x C)[i]? = some x := by
  subst hi; simp [mid]
theorem mid_set {A C : List AV} {x y : AV} {i : Nat} (hi : A.length = i) : (mid A x C).set i y = mid A y C := by
  subst hi; simp [mid]
theorem mid_len {A C : List AV} {x : AV} : (mid A x C).length = A.length + (C.length + 1) := by simp [mid]
theorem load_mid {T : TI} {A C : List AV} {x : AV} {i : Nat} (hi : A.length = i) (hk : T.size = 1) : loadO T (some (mid A x C)) i = asLoaded T [x] := by
  have := load_rws1 (T := T) (f := o1) (mid_get (C := C) (x := x) hi) (fun _ => rfl) hk
  rwa [rws_o1] at this
theorem on_store_mid {T : TI} {b i : Nat} {v x y : AV} {A C : List AV} {K : AV × H → Prop} {t : Tag K} (hb : h.get b = some (mid A x C)) (hi : A.length = i) (hv : cellsOf v = some [y]) (hk : T.size = 1)
    (hK : K (.val undef, h.set b (mid A y C))) : onSome (storeA T h (.ptr b i) v) K t := by
  refine on_store o1 (mid A x C) i y (k := 1) (by rw [rws_o1]; exact hb) (by rw [mid_len]; omega) (by omega) hv (fun _ => rfl) hk ?_
  rw [rws_o1, mid_set hi]; exact hK
theorem mid_at {A C : List AV} {x : AV} {i : Nat} (hi : A.length = i) : ((mid A x C).drop i).take 1 = [x] := by
  subst hi; simp [mid]
theorem make_rows {E : TI} {n : Nat} (h1 : E.bytes * n ≤ 70368744177664) (h2 : n ≤ 70368744177664) (hz : E.zero.length = E.size) : makeSliceA E h n n = some (.sl h.next 0 n E.size, h.push (zcells n E.zero)) := by
  unfold makeSliceA
  rw [if_pos ⟨by omega, by omega, by rw [← Int.natCast_mul]; omega, by omega, hz⟩, Int.toNat_natCast]
theorem growN_pos {b k n : Nat} (hn : n ≠ 0) : growN b k n = .sl b 0 n k := by simp [growN, hn]
theorem clean1_map {α : Type} {g : α → AV} {l : List α} (hg : ∀ a, clean1 (g a) = true) : (l.map g).all clean1 = true := List.all_eq_true.2 fun x hx => by obtain ⟨a, _, rfl⟩ := List.mem_map.1 hx; exact hg a
theorem clean1_rep {n : Nat} {x : AV} (hx : clean1 x = true) : (List.replicate n x).all clean1 = true := List.all_eq_true.2 fun y hy => by rw [(List.mem_replicate.1 hy).2]; exact hx
end
attribute [simp] aev_fzm fzH_get fzH_next fzH_lp en_map fzv_val fzv_ro fzv_rop fzv_ptr fzv_agg fzv_sl_ne fzv_grow fzv_growN grown_map rws_o1
end Go.Pe

/- Flows, and copies and comparison of forecasts. -/
namespace Go.Pe
open Go Go.Proofs Go.Proofs.Ytblpmcmapadphab
attribute [local simp] t3 u3 t4 u4 t5 u5 t22 u22 t23 u23 t25 u25 t27 u27 t28 u28 t30 u30 t32 u32 t34 u34 t37 u37 t43 u43 t48 u48 t49 u49 t50 u50 t54 u54 t75 u75 t77 u77         t102 u102 t117 u117 t119 u119 t123 u123 t125 u125 t130 u130 t134 u134 t138 u138   t155 u155 t156 u156 t160 u160 t172 u172
set_option maxRecDepth 20000
set_option maxHeartbeats 8000000
attribute [local simp] fW_eq fR_eq fS_eq extA fBd_eq fL_eq

theorem Flows_bad {f : Fc} {f1 f2 : Bool} {h : H} (hw : SmallF f) (he : startE f ≠ 0) : Fn Try.prog 14 [f.r.av f1, sidesAV f.sides f2] h (.tup [.val (.slice none 0 0), I (startE f)]) h := by
  refine Fn.beside ?_ rfl h
  refine Fn.ofR0 noM (by kernel_rfl) Try.func14 rfl (by simp) ?_
  simp -dsimp -implicitDefEqProofs
  refine onCall_in (newStream_bad hw he) ?_
  simp -dsimp -implicitDefEqProofs
theorem Flows_fn {f : Fc} {f1 f2 : Bool} {h : H} (g : GoodF f) (he : startE f = 0) : Fn Try.prog 14 [f.r.av f1, sidesAV f.sides f2] h (.tup [.ro false 1 ((flowsF f.r f.sides).map fL), I 0]) h := by
  refine Fn.beside ?_ rfl h
  refine Fn.ofR0 noM (by kernel_rfl) Try.func14 rfl (by simp) ?_
  simp -dsimp -implicitDefEqProofs
  refine onCall_in (newStream_fn g he) ?_
  simp -dsimp -implicitDefEqProofs
theorem forecast_fn {l : List (List Bd)} {fu : Bool} {h : H} (hn : l.length ≤ 1000) (hc : ∀ x ∈ l, x.length ≤ 1000) : Fn Try.prog 8 [sidesAV l fu] h (sidesAV l (isz l.length)) h := by
  refine Fn.beside ?_ rfl h
  refine Fn.ofR0 (butM [18]) (by kernel_rfl) Try.func8 rfl (by simp) ?_
  simp -dsimp -implicitDefEqProofs
  refine LoopCR.on 22 (fun i => [(0, sidesAV l fu), (3, grow 0 1 i), (4, I (i : Nat))]) (fun i => [grown i (rws fL (l.take i))]) (fun i => i ≤ l.length) (fun i => l.length - i) 0 [99] (by simp) ?_ ?_
  · simp -dsimp -implicitDefEqProofs
  intro i j hi
  simp -dsimp -implicitDefEqProofs
  refine ifD_in (fun hlt => ?_) (fun hge => ?_)
  · have hlt' : i < l.length := by omega
    have hcx := hc _ (List.getElem_mem hlt')
    have hx := List.getElem?_eq_getElem hlt'
    have hst : l.take (i + 1) = l.take i ++ [l[i]] := by rw [List.take_add_one, hx]; rfl
    obtain ⟨x, hxe⟩ : ∃ x, x = l[i] := ⟨_, rfl⟩
    rw [← hxe] at hx hcx hst
    have hb1 : x.length * 16 ≤ 70368744177664 := by omega
    have hb2 : x.length ≤ 70368744177664 := by omega
    simp -dsimp -implicitDefEqProofs [hx, hb1, hb2]
    refine on_append fL (l.take i) x (by simp) (by rw [List.length_take]; omega) (by simp; omega) (by omega) rfl rfl (by simp) rfl (fun _ => rfl) ?_ (by simp)
    simp -dsimp -implicitDefEqProofs
    refine again_in (i + 1) [1] (by omega) (by omega) ?_
    simp -dsimp -implicitDefEqProofs [hst]
    rw [wrap_in (by omega) (by omega)]
  · have hin : i = l.length := by omega
    subst hin
    simp -dsimp -implicitDefEqProofs
    exact frz_rws (f := fL) (l := l) (by simp [mkH]) (Nat.zero_le _) rfl (fun _ => rfl) (fun _ => rfl)
end Go.Pe

/- The reference's errors of a forecast, and its flows. -/
namespace Go.Pe
open Go Go.Proofs Go.Proofs.Ytblpmcmapadphab
attribute [local simp] t3 u3 t4 u4 t5 u5 t22 u22 t23 u23 t25 u25 t27 u27 t28 u28 t30 u30 t32 u32 t34 u34 t37 u37 t43 u43 t48 u48 t49 u49 t50 u50 t54 u54 t75 u75 t77 u77         t102 u102 t117 u117 t119 u119 t123 u123 t125 u125 t130 u130 t134 u134 t138 u138   t155 u155 t156 u156 t160 u160 t172 u172
set_option maxRecDepth 20000
set_option maxHeartbeats 8000000
attribute [local simp] fW_eq fR_eq fS_eq extA fBd_eq fL_eq

end Go.Pe
