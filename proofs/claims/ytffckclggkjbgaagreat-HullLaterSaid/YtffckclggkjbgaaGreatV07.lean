import Derived.Test.YtffckclggkjbgaaGreatV06
set_option linter.unusedVariables false
set_option linter.unusedSimpArgs false
/- The flows of the reference are those of the package; all levels. -/
namespace Go.Pe
open Go Go.Proofs Go.Proofs.YtffckclggkjbgaaGreat
attribute [local simp] t3 u3 t4 u4 t5 u5 t22 u22 t23 u23 t25 u25 t27 u27 t28 u28 t30 u30 t32 u32   t37 u37 t43 u43     t50 u50   t75 u75 t77 u77     t94 u94   t102 u102 t117 u117 t119 u119     t130 u130 t134 u134 t138 u138   t155 u155 t156 u156   t172 u172
set_option maxRecDepth 20000
set_option maxHeartbeats 8000000
attribute [local simp] fW_eq fR_eq fS_eq extA fBd_eq fL_eq

theorem flowsF_rf {f : Fc} (g : GoodF f) : ∀ i, i ≤ f.sides.length → ∀ q, q < i → ∃ row, (flowsF f.r (f.sides.take i))[q]? = some row ∧ row.length = hrs f.sides ∧ ∀ k, k < hrs f.sides → row[k]? = some (rf f.r f.sides q k) := by
  intro i
  induction i with
  | zero => intro _ q hq; omega
  | succ i ih =>
    intro hi q hq
    have hlf : (flowsF f.r (f.sides.take i)).length = i := by rw [flowsF_len, List.length_take]; omega
    have hs := List.getElem?_eq_getElem (show i < f.sides.length by omega)
    have hl := g.lens _ (List.getElem_mem (show i < f.sides.length by omega))
    rw [flowsF_take (by omega)]
    by_cases hqi : q < i
    · obtain ⟨row, e1, e2⟩ := ih (by omega) q hqi
      exact ⟨row, by rw [List.getElem?_append_left (by omega)]; exact e1, e2⟩
    obtain rfl : q = i := by omega
    refine ⟨_, by rw [List.getElem?_append_right (by omega), hlf, Nat.sub_self]; rfl, by rw [nextF_len, hl], fun k hk => ?_⟩
    have hb := List.getElem?_eq_getElem (show k < f.sides[q].length by omega)
    have hside : sideAt f.sides q k = f.sides[q][k] := by simp [sideAt, hs, hb, List.getD_eq_getElem?_getD]
    cases q with
    | zero =>
      have : nextF f.r (flowsF f.r (f.sides.take 0)) f.sides[0] = f.sides[0] := by simp [nextF, flowsF]
      rw [this, hb, rf_zero (by omega), hside]
    | succ p =>
      obtain ⟨prev, e1, e2, e3⟩ := ih (by omega) p (by omega)
      obtain ⟨x, hx⟩ : ∃ x, f.r.rs[p]? = some x := ⟨_, List.getElem?_eq_getElem (show p < f.r.rs.length by have := g.eq; omega)⟩
      obtain ⟨fl, hfl⟩ : ∃ fl, fl = flowsF f.r (f.sides.take (p + 1)) := ⟨_, rfl⟩
      rw [← hfl] at e1 hlf ⊢
      have hgl : fl.getLast? = some prev := by rw [List.getLast?_eq_getElem?, show fl.length - 1 = p by omega]; exact e1
      have hnext : nextF f.r fl f.sides[p + 1] = flowOf x prev f.sides[p + 1] := by
        unfold nextF
        rw [hgl, show fl.length - 1 = p by omega, hx]
      have hbase : baseOf f.r p = x.base := by simp [baseOf, hx]
      have hdel : delayOf f.r p = x.delay := by simp [delayOf, hx]
      have hd := (validR_parts ((List.all_eq_true.1 g.rv) x (List.mem_of_getElem? hx))).2.1
      have habv : above x prev k = rf f.r f.sides p ((k : Int) - delayOf f.r p) := by
        rw [hdel]
        unfold above
        by_cases hkd : (k : Int) < x.delay
        · rw [if_pos hkd, rf_neg (by omega), hbase]
        · rw [if_neg hkd, List.getD_eq_getElem?_getD, e3 _ (by omega)]
          rw [show ((k - x.delay.toNat : Nat) : Int) = (k : Int) - x.delay by omega]; rfl
      rw [hnext, rf_succ (by omega), hside, ← habv, flowOf, List.getElem?_mapIdx, hb]; rfl

/-- Rows in memory. -/
noncomputable def gLs (l : List (List Bd)) : List AV := l.map fun x => .ro false 2 (x.map fBd)
theorem gLs_clean {l : List (List Bd)} : (gLs l).all clean1 = true := clean1_map fun _ => rfl
theorem gLs_fz {h : H} {b : Nat} {l : List (List Bd)} : (gLs l).map (fzv h b) = gLs l := fz_clean1 gLs_clean
theorem gLs_rn {bs : List Nat} {n : Nat} {l : List (List Bd)} : (gLs l).mapM (rn bs (n + 1)) = some (gLs l) := rnL_clean gLs_clean
theorem gLs_len {l : List (List Bd)} : (gLs l).length = l.length := by simp [gLs]
theorem gLs_nil : gLs [] = [] := rfl
theorem gLs_snoc {l : List (List Bd)} {x : List Bd} : gLs l ++ [.ro false 2 (x.map fBd)] = gLs (l ++ [x]) := by simp [gLs]
theorem gLs_rws {l : List (List Bd)} : gLs l = rws fL l := by
  induction l with
  | nil => rfl
  | cons x l ih => simpa [gLs, rws, fL] using ih
attribute [local simp] gLs_fz gLs_rn gLs_len gLs_nil

end Go.Pe

/- Places: the reach of a place; how high a shoal has grown. -/
namespace Go.Pe
open Go Go.Proofs Go.Proofs.YtffckclggkjbgaaGreat
attribute [local simp] t3 u3 t4 u4 t5 u5 t22 u22 t23 u23 t25 u25 t27 u27 t28 u28 t30 u30 t32 u32   t37 u37 t43 u43     t50 u50   t75 u75 t77 u77     t94 u94   t102 u102 t117 u117 t119 u119     t130 u130 t134 u134 t138 u138   t155 u155 t156 u156   t172 u172
set_option maxRecDepth 20000
set_option maxHeartbeats 8000000
attribute [local simp] fW_eq fR_eq fS_eq extA fBd_eq fL_eq

/-- No place. -/
noncomputable def noSpot : List AV := [I 0, I 0, I 0, I 0, .val (.slice none 0 0), I 0, I 0, I 0, I 0, I 0, I 0]
theorem find_neg {r : Rv} {fu : Bool} {p : Int} {h : H} (hp : p < 0) : Fn Tryz.prog 122 [r.av fu, I p] h (.tup [.agg noSpot, I 7]) h := by
  refine Fn.beside ?_ rfl h
  refine Fn.ofR0 noM (by kernel_rfl) Tryz.func122 rfl (by simp) ?_
  have d : decide (p < 0) = true := decide_eq_true hp
  simp -dsimp -implicitDefEqProofs [d, noSpot]
theorem lenSum_take {l : List Rc} {i : Nat} {x : Rc} (hx : l[i]? = some x) : lenSum (l.take (i + 1)) = lenSum (l.take i) + x.len := by rw [List.take_add_one, hx, Option.toList_some, lenSum_snoc]
/-- The reach in which a place lies. -/
structure At (rs : List Rc) (p : Int) (i : Nat) (x : Rc) : Prop where
  hx : rs[i]? = some x
  lo : lenSum (rs.take i) ≤ p
  hi : p < lenSum (rs.take (i + 1))
theorem find_miss {r : Rv} {fu : Bool} {p : Int} {h : H} (hp : 0 ≤ p) (hl : ∀ x ∈ r.rs, 0 ≤ x.len ∧ x.len ≤ 5000) (hn : r.rs.length ≤ 25) (hm : ∀ i, i ≤ r.rs.length → lenSum (r.rs.take i) ≤ p) : Fn Tryz.prog 122 [r.av fu, I p] h (.tup [.agg noSpot, I 7]) h := by
  refine Fn.beside ?_ rfl h
  refine Fn.ofR0 noM (by kernel_rfl) Tryz.func122 rfl (by simp) ?_
  have d : decide (p < 0) = false := decide_eq_false (by omega)
  have hb : ∀ x ∈ r.rs, x.len.natAbs ≤ 5000 := fun x hx => by have := hl x hx; omega
  simp -dsimp -implicitDefEqProofs [d]
  refine LoopCR.on 33 (fun i => [(1, I p), (2, .ptr 0 0), (4, .ptr 1 0), (5, I 0), (6, I (lenSum (r.rs.take i))), (13, r.reaches fu), (14, I r.rs.length), (15, I (i : Nat))]) (fun i => [some [r.reaches fu, r.shoals], some noSpot]) (fun i => i ≤ r.rs.length) (fun i => r.rs.length - i) 0 [0, 1] (by simp) ?_ ?_
  · simp -dsimp -implicitDefEqProofs [lenSum, noSpot]
  intro i j hi
  simp -dsimp -implicitDefEqProofs
  refine ifD_in (fun hlt => ?_) (fun hge => ?_)
  · have hlt' : i < r.rs.length := by omega
    obtain ⟨x, hx⟩ : ∃ x, r.rs[i]? = some x := ⟨_, List.getElem?_eq_getElem hlt'⟩
    have h1 := lenSum_in hb i (by omega)
    have h2 := hb x (List.mem_of_getElem? hx)
    have h3 := lenSum_take hx
    have w1 := wrap_in (n := lenSum (r.rs.take i) + x.len) (by omega) (by omega)
    have d2 : decide (p < lenSum (r.rs.take i) + x.len) = false := decide_eq_false (by have := hm (i + 1) (by omega); omega)
    simp -dsimp -implicitDefEqProofs [hx, w1, d2]
    refine again_in (i + 1) [0, 1] (by omega) (by omega) ?_
    simp -dsimp -implicitDefEqProofs [h3, noSpot]
    rw [wrap_in (by omega) (by omega)]
  · simp -dsimp -implicitDefEqProofs [noSpot]
theorem find_hit {r : Rv} {fu : Bool} {p : Int} {h : H} {q : Nat} {y : Rc} (hp : 0 ≤ p) (hl : ∀ x ∈ r.rs, 0 ≤ x.len ∧ x.len ≤ 5000) (hn : r.rs.length ≤ 25) (ha : At r.rs p q y) : Fn Tryz.prog 122 [r.av fu, I p] h (.tup [.agg (fR y ++ [I q, I p]), I 0]) h := by
  refine Fn.beside ?_ rfl h
  refine Fn.ofR0 noM (by kernel_rfl) Tryz.func122 rfl (by simp) ?_
  have d : decide (p < 0) = false := decide_eq_false (by omega)
  have hb : ∀ x ∈ r.rs, x.len.natAbs ≤ 5000 := fun x hx => by have := hl x hx; omega
  have hq := (List.getElem?_eq_some_iff.1 ha.hx).1
  have mono : ∀ k, k ≤ r.rs.length → ∀ i, i ≤ k → lenSum (r.rs.take i) ≤ lenSum (r.rs.take k) := by
    intro k
    induction k with
    | zero => intro _ i hi; rw [show i = 0 by omega]; omega
    | succ k ih =>
      intro hk i hi
      obtain ⟨x, hx⟩ : ∃ x, r.rs[k]? = some x := ⟨_, List.getElem?_eq_getElem (by omega)⟩
      have h3 := lenSum_take hx
      have h4 := hl x (List.mem_of_getElem? hx)
      by_cases hik : i = k + 1
      · rw [hik]; omega
      · have := ih (by omega) i (by omega); omega
  simp -dsimp -implicitDefEqProofs [d]
  refine LoopCR.on 33 (fun i => [(1, I p), (2, .ptr 0 0), (4, .ptr 1 0), (5, I 0), (6, I (lenSum (r.rs.take i))), (13, r.reaches fu), (14, I r.rs.length), (15, I (i : Nat))]) (fun i => [some [r.reaches fu, r.shoals], some noSpot]) (fun i => i ≤ q) (fun i => r.rs.length - i) 0 [0, 1] (by simp) ?_ ?_
  · simp -dsimp -implicitDefEqProofs [lenSum, noSpot]
  intro i j hi
  have hlt' : i < r.rs.length := by omega
  have d0 : decide (i < r.rs.length) = true := decide_eq_true hlt'
  obtain ⟨x, hx⟩ : ∃ x, r.rs[i]? = some x := ⟨_, List.getElem?_eq_getElem hlt'⟩
  have h1 := lenSum_in hb i (by omega)
  have h2 := hb x (List.mem_of_getElem? hx)
  have h3 := lenSum_take hx
  have w1 := wrap_in (n := lenSum (r.rs.take i) + x.len) (by omega) (by omega)
  simp -dsimp -implicitDefEqProofs [d0, hx, w1]
  refine ifD_in (fun hlt => ?_) (fun hge => ?_)
  · have hiq : i = q := by
      have := mono q (by omega) (i + 1)
      have := ha.lo
      omega
    subst hiq
    have hxy : x = y := by have := ha.hx; rw [hx] at this; exact Option.some.inj this
    subst hxy
    simp -dsimp -implicitDefEqProofs [noSpot]
  · have hiq : i < q := by
      have := ha.hi
      by_cases hc : i = q
      · subst hc; omega
      · omega
    simp -dsimp -implicitDefEqProofs
    refine again_in (i + 1) [0, 1] (by omega) (by omega) ?_
    simp -dsimp -implicitDefEqProofs [h3, noSpot]
    rw [wrap_in (by omega) (by omega)]
end Go.Pe
