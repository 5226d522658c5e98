import Derived.Test.YtffckclggkjbgaaGreatV03
import Derived.Test.YtffckclggkjbgaaGreatT12
set_option linter.unusedVariables false
set_option linter.unusedSimpArgs false
/- Rivers: how large, copied, compared. -/
namespace Go.Pe
open Go Go.Proofs Go.Proofs.YtffckclggkjbgaaGreat
attribute [local simp] t3 u3 t4 u4 t5 u5 t22 u22 t23 u23 t25 u25 t27 u27 t28 u28 t30 u30 t32 u32   t37 u37 t43 u43     t50 u50   t75 u75 t77 u77     t94 u94   t102 u102 t117 u117 t119 u119     t130 u130 t134 u134 t138 u138   t155 u155 t156 u156   t172 u172
set_option maxRecDepth 20000
set_option maxHeartbeats 8000000
attribute [local simp] fW_eq fR_eq fS_eq extA

/-- A forecast: lists of bounds. -/
noncomputable def fBd (b : Bd) : List AV := [I b.lo, I b.hi]
noncomputable def fL (l : List Bd) : List AV := [.ro false 2 (l.map fBd)]
structure Fc where
  r : Rv
  sides : List (List Bd)
noncomputable abbrev sidesAV (l : List (List Bd)) (fu : Bool) : AV := .ro fu 1 (l.map fL)
theorem fBd_eq {b : Bd} : fBd b = [I b.lo, I b.hi] := rfl
theorem fL_eq {l : List Bd} : fL l = [.ro false 2 (l.map fBd)] := rfl
attribute [local simp] fBd_eq fL_eq
/-- What the statements look at. -/
structure SmallF (f : Fc) : Prop where
  r : Small f.r
  n : f.sides.length ≤ 25
  c : ∀ l ∈ f.sides, l.length ≤ 450
theorem lenA_nil {e : TypeId} {s by' : Nat} {z : List Value} {a f' cm : Bool} : lenA { kind := .sl e, size := s, zero := z, agg := a, bytes := by', fok := f', cmp := cm } (.val (.slice none 0 0)) = some (.val (.int .i64 0)) := rfl
attribute [local simp] lenA_nil
open Classical in
noncomputable def big (f : Fc) : Bool := decide (¬ SmallF f)
theorem big_of {f : Fc} (h : ¬ SmallF f) : big f = true := by simp [big, h]
theorem big_not {f : Fc} (h : SmallF f) : big f = false := by simp [big, h]
theorem small_of {f : Fc} (h : big f = false) : SmallF f := by simpa [big] using h

/-- A river and one that has the same in it. -/
theorem neq27 {a b a' b' : Int} {k : TK} {s : Nat} {z : List Value} {a1 f : Bool} {by' : Nat} : binX Tryz.prog 27 { kind := k, size := s, zero := z, agg := a1, bytes := by', fok := f, cmp := true } .neq (.agg [I a, I b]) (.agg [I a', I b']) = some (B (!(a == a' && (b == b' && true)))) := by kernel_rfl
theorem neq119 {a b a' b' : Int} {k : TK} {s : Nat} {z : List Value} {a1 f : Bool} {by' : Nat} : binX Tryz.prog 174 { kind := k, size := s, zero := z, agg := a1, bytes := by', fok := f, cmp := true } .neq (.agg [I a, I b]) (.agg [I a', I b']) = some (B (!(a == a' && (b == b' && true)))) := by kernel_rfl
theorem neq102 {a b c d e f a' b' c' d' e' f' : Int} {k : TK} {s : Nat} {z : List Value} {a1 f1 : Bool} {by' : Nat} : binX Tryz.prog 115 { kind := k, size := s, zero := z, agg := a1, bytes := by', fok := f1, cmp := true } .neq (.agg [I a, I b, I c, I d, I e, I f]) (.agg [I a', I b', I c', I d', I e', I f']) = some (B (!(a == a' && ((b == b' && (c == c' && true)) && (d == d' && ((e == e' && (f == f' && true)) && true)))))) := by kernel_rfl
attribute [local simp] neq27 neq119 neq102
end Go.Pe

/- Flows: a reach's flow out of the flow of the reach above. -/
namespace Go.Pe
open Go Go.Proofs Go.Proofs.YtffckclggkjbgaaGreat
attribute [local simp] t3 u3 t4 u4 t5 u5 t22 u22 t23 u23 t25 u25 t27 u27 t28 u28 t30 u30 t32 u32   t37 u37 t43 u43     t50 u50   t75 u75 t77 u77     t94 u94   t102 u102 t117 u117 t119 u119     t130 u130 t134 u134 t138 u138   t155 u155 t156 u156   t172 u172
set_option maxRecDepth 20000
set_option maxHeartbeats 8000000
attribute [local simp] fW_eq fR_eq fS_eq extA fBd_eq fL_eq

/-- slices.Clone of a list that is not empty. -/
theorem Clone_fn {l : List Bd} {fu : Bool} (h1 : l.length ≠ 0) (h2 : l.length ≤ 1000) : Fn Tryz.prog 161 [.ro fu 2 (l.map fBd)] .nil (.sl 0 0 l.length 2) (mkH [some (rws fBd l)]) := by
  refine Fn.ofRx (bl0 := []) (bl := [some (rws fBd l)]) ownM (by kernel_rfl) Tryz.func161 rfl (by simp) ?_
  have hb1 : l.length * 16 ≤ 70368744177664 := by omega
  have hb2 : l.length ≤ 70368744177664 := by omega
  have h3 : (l.map fBd).length ≠ 0 := by simpa using h1
  simp -dsimp -implicitDefEqProofs [h1, hb1, hb2]
  refine ⟨[0], ?_⟩
  simp -dsimp -implicitDefEqProofs
  exact rws_rn (f := fBd) (l := l) (n := 3) fun _ => rfl

/-- What comes from the reach above. -/
def above (r : Rc) (fl : List Bd) (hour : Nat) : Bd := if (hour : Int) < r.delay then r.base else fl.getD (hour - r.delay.toNat) ⟨0, 0⟩
noncomputable abbrev stAV (r : Rv) (f1 : Bool) (hours : Int) (F : AV) : AV := .agg [r.reaches f1, r.shoals, I hours, F]
theorem arriving_fn {r : Rv} {f1 : Bool} {fl : List (List Bd)} {hours : Int} {i hour : Nat} {x : Rc} {l : List Bd} (hx : r.rs[i]? = some x) (hl : fl[i]? = some l) (hd : 0 ≤ x.delay) (hh : hour < l.length) (hm : l.length ≤ 1000000) :
    Fn Tryz.prog 163 [stAV r f1 hours (.sl 0 0 fl.length 1), I i, I hour] (mkH [some (rws fL fl)]) (.agg [I (above x l hour).lo, I (above x l hour).hi]) (mkH [some (rws fL fl)]) := by
  have hcl : (rws fL fl).all clean1 = true := rws_all fun _ => rfl
  have := Fn.ofR (P := Tryz.prog) (f := 163) (cs0 := [rws fL fl]) (cs1 := [rws fL fl]) (args := [stAV r f1 hours (.sl 0 0 fl.length 1), I i, I hour]) (x := .agg [I (above x l hour).lo, I (above x l hour).hi]) noM (by kernel_rfl) Tryz.func163 rfl (by simp) rfl (by simp [hcl]) ?_
  · exact this
  have hi := (List.getElem?_eq_some_iff.1 hl).1
  simp -dsimp -implicitDefEqProofs [hx]
  refine ifD_in (fun h1 => ?_) (fun h1 => ?_)
  · simp -dsimp -implicitDefEqProofs [above, h1]
  have hle : x.delay.toNat ≤ hour := by omega
  have w1 : IntKind.i64.wrap ((hour : Int) - x.delay) = ((hour - x.delay.toNat : Nat) : Int) := by rw [wrap_in (by omega) (by omega)]; omega
  have hy := List.getElem?_eq_getElem (show hour - x.delay.toNat < l.length by omega)
  have ha : above x l hour = l[hour - x.delay.toNat] := by simp only [above]; rw [if_neg h1, List.getD_eq_getElem?_getD, hy]; rfl
  simp -dsimp -implicitDefEqProofs
  refine DrawR.on { M := [2], eff := [(11, [2])] } (by kernel_rfl) (by simp) ?_
  simp -dsimp -implicitDefEqProofs [hx]
  rw [indexA_sl rfl hi]
  have hlen : i + 1 ≤ (rws fL fl).length := by rw [rws_len (k := 1) (fun _ => rfl)]; omega
  have hat := rws_at (k := 1) (f := fL) (fun _ => rfl) hl
  rw [Nat.mul_one] at hat
  simp -dsimp -implicitDefEqProofs [hlen, hat, w1, hy, ha]

/-- The flow of a reach: what comes from the side, and from above. -/
def flowOf (x : Rc) (prev side : List Bd) : List Bd := side.mapIdx fun h b => ⟨b.lo + (above x prev h).lo, b.hi + (above x prev h).hi⟩
theorem flowOf_len {x : Rc} {prev side : List Bd} : (flowOf x prev side).length = side.length := by simp [flowOf]
theorem flow0_fn {r : Rv} {f1 fu : Bool} {hours : Int} {side : List Bd} (h1 : side.length ≠ 0) (h2 : side.length ≤ 1000) : Fn Tryz.prog 121 [stAV r f1 hours (.val (.slice none 0 0)), I 0, .ro fu 2 (side.map fBd)] .nil (.ro false 2 (side.map fBd)) .nil := by
  refine Fn.ofR0 noM (by kernel_rfl) Tryz.func121 rfl (by simp) ?_
  simp -dsimp -implicitDefEqProofs
  refine onCall_in (Fn.makes (bl := [rws fBd side]) (Clone_fn h1 h2) rfl (by simp [rws_all, fBd_eq]) _ rfl) ?_
  simp -dsimp -implicitDefEqProofs
  exact ⟨2, frz_rows (rows := side.map fBd) (by simp [mkH, H.push, H.more, rws]) (Nat.zero_le _) (by simp) (by simp [fBd_eq]) (rws_all (f := fBd) fun _ => rfl)⟩
theorem above_in {x : Rc} {prev : List Bd} {m : Nat} (hb : x.base.lo.natAbs ≤ m ∧ x.base.hi.natAbs ≤ m) (hp : ∀ b ∈ prev, b.lo.natAbs ≤ m ∧ b.hi.natAbs ≤ m) (h : Nat) : (above x prev h).lo.natAbs ≤ m ∧ (above x prev h).hi.natAbs ≤ m := by
  unfold above
  split
  · exact hb
  · rw [List.getD_eq_getElem?_getD]
    cases hx : prev[h - x.delay.toNat]? with
    | none => simp
    | some b => exact hp b (List.mem_of_getElem? hx)
theorem flow_fn {r : Rv} {f1 fu : Bool} {side prev : List Bd} {fl : List (List Bd)} {i : Nat} {x : Rc} (hx : r.rs[i]? = some x) (hfl : fl.length = i + 1) (hpv : fl[i]? = some prev) (hpl : prev.length = side.length) (hd : 0 ≤ x.delay) (h1 : side.length ≠ 0) (h2 : side.length ≤ 1000) (hi : i ≤ 1000)
    (hbs : x.base.lo.natAbs ≤ 500000000000 ∧ x.base.hi.natAbs ≤ 500000000000) (hbp : ∀ b ∈ prev, b.lo.natAbs ≤ 500000000000 ∧ b.hi.natAbs ≤ 500000000000) (hbd : ∀ b ∈ side, b.lo.natAbs ≤ 500000000000 ∧ b.hi.natAbs ≤ 500000000000) :
    Fn Tryz.prog 121 [stAV r f1 side.length (.sl 0 0 fl.length 1), I fl.length, .ro fu 2 (side.map fBd)] (mkH [some (rws fL fl)]) (.ro false 2 ((flowOf x prev side).map fBd)) (mkH [some (rws fL fl)]) := by
  have hcl : (rws fL fl).all clean1 = true := rws_all fun _ => rfl
  have hcl2 : (rws fL fl).all clean = true := rws_all fun _ => rfl
  have hR : ∀ (h : H) (k : Nat), h.get 0 = some (rws fL fl) → k < side.length → Fn Tryz.prog 163 [stAV r f1 side.length (.sl 0 0 fl.length 1), I (i : Nat), I (k : Nat)] h (.agg [I (above x prev k).lo, I (above x prev k).hi]) h := fun h k hg hk =>
    Fn.reads (cs0 := [rws fL fl]) [0] (arriving_fn (f1 := f1) (hours := side.length) hx hpv hd (by omega) (by omega)) (by simp) (by simp [hg, rws_rn, fL_eq]) (by simp) (fun b hb cs hc => by simp at hb; subst hb; rw [hg] at hc; cases hc; exact hcl2) rfl
  have := Fn.ofR (P := Tryz.prog) (f := 121) (cs0 := [rws fL fl]) (cs1 := [rws fL fl]) (args := [stAV r f1 side.length (.sl 0 0 fl.length 1), I fl.length, .ro fu 2 (side.map fBd)]) (x := .ro false 2 ((flowOf x prev side).map fBd)) noM (by kernel_rfl) Tryz.func121 rfl (by simp) rfl (by simp [hcl]) ?_
  · exact this
  have w0 : IntKind.i64.wrap ((fl.length : Int) - 1) = (i : Int) := by rw [wrap_in (by omega) (by omega)]; omega
  have hpos : decide (0 < fl.length) = true := decide_eq_true (by omega)
  simp -dsimp -implicitDefEqProofs
  refine onCall_in (Fn.makes (bl := [rws fBd side]) (Clone_fn h1 h2) rfl (by simp [rws_all, fBd_eq]) _ rfl) ?_
  simp -dsimp -implicitDefEqProofs [hpos]
  refine LoopCR.on 34 (fun k => [(1, I fl.length), (2, .ro fu 2 (side.map fBd)), (3, .ptr 1 0), (7, .sl 2 0 side.length 2), (14, I side.length), (15, I (k : Nat))]) (fun k => [some (rws fL fl), some [r.reaches f1, r.shoals, I side.length, .sl 0 0 fl.length 1], some (rws fBd ((flowOf x prev side).take k ++ side.drop k))]) (fun k => k ≤ side.length) (fun k => side.length - k) 0 [0, 1, 2] (by simp) ?_ ?_
  · simp -dsimp -implicitDefEqProofs
  intro k j hk
  simp -dsimp -implicitDefEqProofs
  refine ifD_in (fun hlt => ?_) (fun hge => ?_)
  · have hlt' : k < side.length := by omega
    have hs := List.getElem?_eq_getElem hlt'
    have hsb := hbd _ (List.getElem_mem hlt')
    have hab := above_in (x := x) (prev := prev) hbs hbp k
    have hfe : (flowOf x prev side)[k]? = some ⟨side[k].lo + (above x prev k).lo, side[k].hi + (above x prev k).hi⟩ := by rw [flowOf, List.getElem?_mapIdx, hs]; rfl
    simp -dsimp -implicitDefEqProofs
    refine DrawR.on { M := [2], eff := [(14, [2])] } (by kernel_rfl) (by simp) ?_
    simp -dsimp -implicitDefEqProofs [hs, w0]
    refine onCallQ_in (hR _ k (by simp) hlt') ?_
    simp -dsimp -implicitDefEqProofs [hs, w0]
    refine onCallQ_in ((sum_fn (xs := [side[k], above x prev k]) (fu := true) (by simp) (by simp only [List.mem_cons, List.not_mem_nil, or_false]; rintro b (rfl | rfl) <;> omega)).beside rfl _) ?_
    simp -dsimp -implicitDefEqProofs
    rw [indexA_sl rfl hlt']
    have htot : total [side[k], above x prev k] = ⟨side[k].lo + (above x prev k).lo, side[k].hi + (above x prev k).hi⟩ := by simp [total]
    have hcl3 : ((flowOf x prev side).take k ++ side.drop k).length = side.length := by rw [List.length_append, List.length_take, flowOf_len, List.length_drop]; omega
    have hset : ((flowOf x prev side).take k ++ side.drop k).set k ⟨side[k].lo + (above x prev k).lo, side[k].hi + (above x prev k).hi⟩ = (flowOf x prev side).take (k + 1) ++ side.drop (k + 1) := by
      have hlk : ((flowOf x prev side).take k).length = k := by rw [List.length_take, flowOf_len]; omega
      rw [List.set_append_right _ _ (by omega), hlk, Nat.sub_self, List.drop_eq_getElem_cons hlt', List.set_cons_zero, List.take_add_one, hfe]
      simp
    rw [htot]
    simp -dsimp -implicitDefEqProofs [-storeA]
    refine on_store fBd ((flowOf x prev side).take k ++ side.drop k) k ⟨side[k].lo + (above x prev k).lo, side[k].hi + (above x prev k).hi⟩ (k := 2) (by simp) (by omega) rfl (by simp [fBd_eq]) (fun _ => rfl) rfl ?_
    rw [hset]
    simp -dsimp -implicitDefEqProofs
    refine again_in (k + 1) [0, 1, 2] (by omega) (by omega) ?_
    simp -dsimp -implicitDefEqProofs
    rw [wrap_in (by omega) (by omega)]
  · have hin : k = side.length := by omega
    subst hin
    have e : (flowOf x prev side).take side.length ++ side.drop side.length = flowOf x prev side := by
      rw [List.drop_length, List.append_nil]; exact List.take_of_length_le (by rw [flowOf_len]; omega)
    simp -dsimp -implicitDefEqProofs [e]
    exact ⟨2, frz_rows (rows := (flowOf x prev side).map fBd) (by
      have e2 : (List.map fBd (flowOf x prev side)).take side.length = List.map fBd (flowOf x prev side) := List.take_of_length_le (by rw [List.length_map, flowOf_len]; omega)
      simp [mkH, rws, e2]) (by omega) (by simp [flowOf_len]) (by simp [fBd_eq]) (rws_all (f := fBd) fun _ => rfl)⟩
end Go.Pe
