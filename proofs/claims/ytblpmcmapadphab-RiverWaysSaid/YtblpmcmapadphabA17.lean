import Derived.Test.YtblpmcmapadphabA16
set_option linter.unusedVariables false
set_option linter.unusedSimpArgs false
/- Rows in own memory: read, written, copied. -/
namespace Go.Pe
open Go
section
variable {α : Type} {f : α → List AV} {k : Nat} {l : List α} {i : Nat} {x : α} {h : H}
theorem rws_split (hf : ∀ a, (f a).length = k) (hx : l[i]? = some x) : rws f l = rws f (l.take i) ++ f x ++ rws f (l.drop (i + 1)) ∧ (rws f (l.take i)).length = i * k := by
  have hi := (List.getElem?_eq_some_iff.1 hx).1
  have e : l = l.take i ++ x :: l.drop (i + 1) := by
    have h1 := List.getElem_cons_drop hi
    have h2 : l[i] = x := (List.getElem?_eq_some_iff.1 hx).2
    rw [h2] at h1
    rw [h1, List.take_append_drop]
  constructor
  · conv => lhs; rw [e]
    simp [rws]
  · rw [rws_len hf, List.length_take]; congr 1; omega
theorem rws_at (hf : ∀ a, (f a).length = k) (hx : l[i]? = some x) : ((rws f l).drop (i * k)).take k = f x := by
  obtain ⟨e1, e2⟩ := rws_split hf hx
  rw [e1, List.append_assoc, List.drop_left' e2, List.take_left' (hf x)]
theorem load_rws {T : TI} (hf : ∀ a, (f a).length = k) (hx : l[i]? = some x) (hk : T.size = k) : loadO T (some (rws f l)) (i * k) = asLoaded T (f x) := by
  have hi := (List.getElem?_eq_some_iff.1 hx).1
  have hle : i * k + k ≤ (rws f l).length := by
    rw [rws_len hf, ← Nat.succ_mul]; exact Nat.mul_le_mul_right _ hi
  rw [loadO_some, takeAt, hk, if_pos hle, rws_at hf hx]; rfl
theorem load_rws1 {T : TI} (hx : l[i]? = some x) (hf : ∀ a, (f a).length = 1) (hk : T.size = 1) : loadO T (some (rws f l)) i = asLoaded T (f x) := by
  have := load_rws (T := T) hf hx hk
  rwa [Nat.mul_one] at this
theorem set_rws (hf : ∀ a, (f a).length = k) (hi : i < l.length) (y : α) : (rws f l).take (i * k) ++ f y ++ (rws f l).drop (i * k + k) = rws f (l.set i y) := by
  obtain ⟨e1, e2⟩ := rws_split hf (List.getElem?_eq_getElem hi)
  have e3 : rws f (l.set i y) = rws f (l.take i) ++ f y ++ rws f (l.drop (i + 1)) := by
    rw [List.set_eq_take_append_cons_drop, if_pos hi]; simp [rws]
  have h1 : (rws f l).take (i * k) = rws f (l.take i) := by
    conv => lhs; rw [e1, List.append_assoc]
    rw [List.take_left' e2]
  have h2 : (rws f l).drop (i * k + k) = rws f (l.drop (i + 1)) := by
    conv => lhs; rw [e1]
    rw [List.drop_left' (by rw [List.length_append, e2, hf])]
  rw [h1, h2, e3]
theorem on_store {T : TI} {b o : Nat} {v : AV} {K : AV × H → Prop} {t : Tag K} (f : α → List AV) (l : List α) (i : Nat) (y : α) (hb : h.get b = some (rws f l)) (hi : i < l.length) (ho : o = i * k) (hv : cellsOf v = some (f y)) (hf : ∀ a, (f a).length = k) (hk : T.size = k)
    (hK : K (.val undef, h.set b (rws f (l.set i y)))) : onSome (storeA T h (.ptr b o) v) K t := by
  subst ho
  have hle : i * k + k ≤ (rws f l).length := by
    rw [rws_len hf, ← Nat.succ_mul]; exact Nat.mul_le_mul_right _ hi
  have : storeA T h (.ptr b (i * k)) v = some (.val undef, h.set b (rws f (l.set i y))) := by
    simp only [storeA, hv, hb]
    rw [if_pos ⟨by rw [hf, hk], by rw [hk]; exact hle⟩, ← set_rws hf hi y, hf]
  rw [this]; exact hK
/-- A copy that is written into. -/
theorem append_own {E : TI} {g : Bool} {xs : List (List AV)} (hk : k = E.size) (h0 : 0 < E.size) (hz : E.zero.length = E.size) (hb1 : xs.length * E.bytes ≤ 70368744177664) (hb2 : xs.length ≤ 70368744177664) (hx : xs.length ≠ 0) : appendA E true h (.ro true k []) (.ro g k xs) = some (.sl h.next 0 xs.length k, h.push xs.flatten) := by
  subst hk
  simp only [appendA, rowsA, if_true]
  rw [if_pos ⟨h0, hz⟩, if_pos ⟨trivial, by simpa using hb1, by simpa using hb2⟩, if_neg hx]
  simp
theorem nilA_ro {g : Bool} {xs : List (List AV)} (hx : xs.length ≠ 0) : nilA (.ro g k xs) = some false := by
  cases xs with
  | nil => simp at hx
  | cons x xs => rfl
theorem binnil_ro {e : TypeId} {s by' : Nat} {z : List Value} {a1 fo cm g : Bool} {xs : List (List AV)} (hx : xs.length ≠ 0) : bin { kind := .sl e, size := s, zero := z, agg := a1, bytes := by', fok := fo, cmp := cm } .eql (.ro g k xs) (.val (.slice none 0 0)) = some (.val (.bool false)) := by
  simp [bin, nilA_ro hx]

/-- A slice that grows out of nil. -/
def growN (b k n : Nat) : AV := if n = 0 then .val (.slice none 0 0) else .sl b 0 n k
theorem growN_zero {b : Nat} : growN b k 0 = .val (.slice none 0 0) := rfl
theorem growN_succ {b n : Nat} : growN b k (n + 1) = .sl b 0 (n + 1) k := by simp [growN]
theorem one_growN {b n : Nat} : one (growN b k n) = true := by cases n <;> rfl
theorem cellsOf_growN {b n : Nat} : cellsOf (growN b k n) = some [growN b k n] := by cases n <;> rfl
theorem lenA_growN {e : TypeId} {s by' : Nat} {z : List Value} {a f' cm : Bool} {b n : Nat} : lenA { kind := .sl e, size := s, zero := z, agg := a, bytes := by', fok := f', cmp := cm } (growN b k n) = some (.val (.int .i64 n)) := by cases n <;> rfl
theorem rn_growN {bs : List Nat} {m b n : Nat} (hb : (rnI b bs 0).isSome = true) : rn bs (m + 1) (growN b k n) = (rnI b bs 0).map fun b => growN b k n := by
  obtain ⟨q, hq⟩ := Option.isSome_iff_exists.1 hb
  cases n with
  | zero => rw [hq]; rfl
  | succ n => rw [growN_succ, rn_sl, hq]; simp [growN_succ]
theorem on_appendN {E : TI} {own : Bool} {b n : Nat} {r : List AV} {K : AV × H → Prop} {t : Tag K} (f : α → List AV) (l : List α) (x : α) (hb : h.get b = grown n (rws f l)) (hn : l.length = n) (hb1 : (n + 1) * E.bytes ≤ 70368744177664) (hb2 : n + 1 ≤ 70368744177664) (hr : f x = r) (hk : k = E.size) (h0 : 0 < E.size) (hz : E.zero.length = E.size) (hf : ∀ a, (f a).length = k)
    (hv : K (.sl h.next 0 (n + 1) k, { next := h.next + 1, get := fun q => if q = h.next then some (rws f (l ++ [x])) else if q = b then none else h.get q, lp := h.lp })) (hown : own = true) : onSome (appendA E own h (growN b k n) (.ro true k [r])) K t := by
  cases n with
  | zero =>
    have hb' := hb
    have hl0 : l = [] := List.length_eq_zero_iff.1 hn
    subst hl0; subst hr; subst hk; subst hown
    rw [grown_zero] at hb'
    simp only [growN_zero, appendA, rowsA, if_true]
    rw [if_pos ⟨h0, hz⟩, if_pos ⟨by simpa using hb1, by simp⟩, if_neg (by simp)]
    have e : ({ next := h.next + 1, get := fun q => if q = h.next then some (rws f ([] ++ [x])) else if q = b then none else h.get q, lp := h.lp } : H) = h.push [f x].flatten := by
      simp only [H.push]
      congr 1
      funext q
      by_cases h1 : q = h.next
      · rw [if_pos h1, if_pos h1]; simp [rws]
      · rw [if_neg h1, if_neg h1]
        by_cases h2 : q = b
        · rw [if_pos h2, h2, hb']
        · rw [if_neg h2]
    rw [e] at hv
    exact hv
  | succ n =>
    have : growN b k (n + 1) = grow b k (n + 1) := by rw [growN_succ, grow_succ]
    rw [this]
    exact on_append f l x hb hn hb1 hb2 hr hk h0 hz hf hv hown
theorem frz_rwsN {b n N : Nat} (hb : h.get b = grown n (rws f l)) (hN : N ≤ b) (hn : l.length = n) (hpos : n ≠ 0) (hk : ∀ a, (f a).length = k) (hc : ∀ a, ((f a).all fun x => clean1 x && one x) = true) : ∃ q, frz q h N (growN b k n) = some (.ro false k (l.map f)) := by
  obtain ⟨m, rfl⟩ : ∃ m, n = m + 1 := ⟨n - 1, by omega⟩
  have := frz_rws hb hN hn hk hc
  rw [grow_succ] at this
  rw [growN_succ]
  simpa [isz] using this
end
def FZ (h : H) (N : Nat) : List AV → List AV → Prop
  | [], [] => True
  | x :: xs, y :: ys => (∃ k, frz k h N x = some y) ∧ FZ h N xs ys
  | _, _ => False
theorem FZ_mapM {h : H} {N : Nat} : ∀ {xs ys : List AV}, FZ h N xs ys → ∃ k, xs.mapM (frz k h N) = some ys
  | [], [], _ => ⟨1, by simp⟩
  | x :: xs, y :: ys, hz => by
    obtain ⟨⟨k, h1⟩, h2⟩ := hz
    obtain ⟨k', h3⟩ := FZ_mapM h2
    refine ⟨k + k', ?_⟩
    have mono : ∀ {l m : List AV} {a b : Nat}, a ≤ b → l.mapM (frz a h N) = some m → l.mapM (frz b h N) = some m := by
      intro l
      induction l with
      | nil => intro m a b _ e; simpa using e
      | cons z l ih =>
        intro m a b hab e
        rw [List.mapM_cons] at e ⊢
        cases hz : frz a h N z with
        | none => simp [hz] at e
        | some z' =>
          cases hl : l.mapM (frz a h N) with
          | none => simp [hz, hl] at e
          | some m' =>
            rw [frz_le hab hz, ih hab hl]
            simpa [hz, hl] using e
    rw [List.mapM_cons, frz_le (show k ≤ k + k' by omega) h1, mono (show k' ≤ k + k' by omega) h3]; rfl
  | [], _ :: _, hz => hz.elim
  | _ :: _, [], hz => hz.elim
theorem frz_aggs {h : H} {N : Nat} {xs ys : List AV} (hz : FZ h N xs ys) : ∃ k, frz k h N (.agg xs) = some (.agg ys) := by
  obtain ⟨k, h1⟩ := FZ_mapM hz
  exact ⟨k + 1, by rw [frz, h1]⟩
theorem frz_tups {h : H} {N : Nat} {xs ys : List AV} (hz : FZ h N xs ys) : ∃ k, frz k h N (.tup xs) = some (.tup ys) := by
  obtain ⟨k, h1⟩ := FZ_mapM hz
  exact ⟨k + 1, by rw [frz, h1]⟩
theorem more_get {h : H} {bl : List (List AV)} {q : Nat} : (h.more bl).get q = if q < h.next then h.get q else bl[q - h.next]? := rfl
theorem more_next {h : H} {bl : List (List AV)} : (h.more bl).next = h.next + bl.length := rfl
theorem more_lp {h : H} {bl : List (List AV)} : (h.more bl).lp = h.lp := rfl
attribute [simp] more_get more_next more_lp ap_finx_ret ap_finx_normal growN_zero growN_succ one_growN cellsOf_growN lenA_growN rn_growN binnil_ro append_own
end Go.Pe

/- Flows: a reach's flow out of the flow of the reach above. -/
namespace Go.Pe
open Go Go.Proofs Go.Proofs.Ytblpmcmapadphab
attribute [local simp] t3 u3 t4 u4 t5 u5 t22 u22 t23 u23 t25 u25 t27 u27 t28 u28 t30 u30 t32 u32 t34 u34 t37 u37 t43 u43 t48 u48 t49 u49 t50 u50 t54 u54 t75 u75 t77 u77         t102 u102 t117 u117 t119 u119 t123 u123 t125 u125 t130 u130 t134 u134 t138 u138   t155 u155 t156 u156 t160 u160 t172 u172
set_option maxRecDepth 20000
set_option maxHeartbeats 8000000
attribute [local simp] fW_eq fR_eq fS_eq extA fBd_eq fL_eq

/-- slices.Clone of a list that is not empty. -/
theorem Clone_fn {l : List Bd} {fu : Bool} (h1 : l.length ≠ 0) (h2 : l.length ≤ 1000) : Fn Try.prog 57 [.ro fu 2 (l.map fBd)] .nil (.sl 0 0 l.length 2) (mkH [some (rws fBd l)]) := by
  refine Fn.ofRx (bl0 := []) (bl := [some (rws fBd l)]) ownM (by kernel_rfl) Try.func57 rfl (by simp) ?_
  have hb1 : l.length * 16 ≤ 70368744177664 := by omega
  have hb2 : l.length ≤ 70368744177664 := by omega
  have h3 : (l.map fBd).length ≠ 0 := by simpa using h1
  simp -dsimp -implicitDefEqProofs [h1, hb1, hb2]
  refine ⟨[0], ?_⟩
  simp -dsimp -implicitDefEqProofs
  exact rws_rn (f := fBd) (l := l) (n := 3) fun _ => rfl

/-- What comes from the reach above. -/
def above (r : Rc) (fl : List Bd) (hour : Nat) : Bd := if (hour : Int) < r.delay then r.base else fl.getD (hour - r.delay.toNat) ⟨0, 0⟩
noncomputable abbrev stAV (r : Rv) (f1 : Bool) (hours : Int) (F : AV) : AV := .agg [r.reaches f1, r.shoals, I hours, F]
theorem arriving_fn {r : Rv} {f1 : Bool} {fl : List (List Bd)} {hours : Int} {i hour : Nat} {x : Rc} {l : List Bd} (hx : r.rs[i]? = some x) (hl : fl[i]? = some l) (hd : 0 ≤ x.delay) (hh : hour < l.length) (hm : l.length ≤ 1000000) :
    Fn Try.prog 58 [stAV r f1 hours (.sl 0 0 fl.length 1), I i, I hour] (mkH [some (rws fL fl)]) (.agg [I (above x l hour).lo, I (above x l hour).hi]) (mkH [some (rws fL fl)]) := by
  have hcl : (rws fL fl).all clean1 = true := rws_all fun _ => rfl
  have := Fn.ofR (P := Try.prog) (f := 58) (cs0 := [rws fL fl]) (cs1 := [rws fL fl]) (args := [stAV r f1 hours (.sl 0 0 fl.length 1), I i, I hour]) (x := .agg [I (above x l hour).lo, I (above x l hour).hi]) noM (by kernel_rfl) Try.func58 rfl (by simp) rfl (by simp [hcl]) ?_
  · exact this
  have hi := (List.getElem?_eq_some_iff.1 hl).1
  simp -dsimp -implicitDefEqProofs [hx]
  refine ifD_in (fun h1 => ?_) (fun h1 => ?_)
  · simp -dsimp -implicitDefEqProofs [above, h1]
  have hle : x.delay.toNat ≤ hour := by omega
  have w1 : IntKind.i64.wrap ((hour : Int) - x.delay) = ((hour - x.delay.toNat : Nat) : Int) := by rw [wrap_in (by omega) (by omega)]; omega
  have hy := List.getElem?_eq_getElem (show hour - x.delay.toNat < l.length by omega)
  have ha : above x l hour = l[hour - x.delay.toNat] := by simp only [above]; rw [if_neg h1, List.getD_eq_getElem?_getD, hy]; rfl
  simp -dsimp -implicitDefEqProofs
  refine DrawR.on { M := [2], eff := [(11, [2])] } (by kernel_rfl) (by simp) ?_
  simp -dsimp -implicitDefEqProofs [hx]
  rw [indexA_sl rfl hi]
  have hlen : i + 1 ≤ (rws fL fl).length := by rw [rws_len (k := 1) (fun _ => rfl)]; omega
  have hat := rws_at (k := 1) (f := fL) (fun _ => rfl) hl
  rw [Nat.mul_one] at hat
  simp -dsimp -implicitDefEqProofs [hlen, hat, w1, hy, ha]

/-- The flow of a reach: what comes from the side, and from above. -/
def flowOf (x : Rc) (prev side : List Bd) : List Bd := side.mapIdx fun h b => ⟨b.lo + (above x prev h).lo, b.hi + (above x prev h).hi⟩
theorem flowOf_len {x : Rc} {prev side : List Bd} : (flowOf x prev side).length = side.length := by simp [flowOf]
theorem flow0_fn {r : Rv} {f1 fu : Bool} {hours : Int} {side : List Bd} (h1 : side.length ≠ 0) (h2 : side.length ≤ 1000) : Fn Try.prog 36 [stAV r f1 hours (.val (.slice none 0 0)), I 0, .ro fu 2 (side.map fBd)] .nil (.ro false 2 (side.map fBd)) .nil := by
  refine Fn.ofR0 noM (by kernel_rfl) Try.func36 rfl (by simp) ?_
  simp -dsimp -implicitDefEqProofs
  refine onCall_in (Fn.makes (bl := [rws fBd side]) (Clone_fn h1 h2) rfl (by simp [rws_all, fBd_eq]) _ rfl) ?_
  simp -dsimp -implicitDefEqProofs
  exact ⟨2, frz_rows (rows := side.map fBd) (by simp [mkH, H.push, H.more, rws]) (Nat.zero_le _) (by simp) (by simp [fBd_eq]) (rws_all (f := fBd) fun _ => rfl)⟩
theorem above_in {x : Rc} {prev : List Bd} {m : Nat} (hb : x.base.lo.natAbs ≤ m ∧ x.base.hi.natAbs ≤ m) (hp : ∀ b ∈ prev, b.lo.natAbs ≤ m ∧ b.hi.natAbs ≤ m) (h : Nat) : (above x prev h).lo.natAbs ≤ m ∧ (above x prev h).hi.natAbs ≤ m := by
  unfold above
  split
  · exact hb
  · rw [List.getD_eq_getElem?_getD]
    cases hx : prev[h - x.delay.toNat]? with
    | none => simp
    | some b => exact hp b (List.mem_of_getElem? hx)
theorem flow_fn {r : Rv} {f1 fu : Bool} {side prev : List Bd} {fl : List (List Bd)} {i : Nat} {x : Rc} (hx : r.rs[i]? = some x) (hfl : fl.length = i + 1) (hpv : fl[i]? = some prev) (hpl : prev.length = side.length) (hd : 0 ≤ x.delay) (h1 : side.length ≠ 0) (h2 : side.length ≤ 1000) (hi : i ≤ 1000)
    (hbs : x.base.lo.natAbs ≤ 500000000000 ∧ x.base.hi.natAbs ≤ 500000000000) (hbp : ∀ b ∈ prev, b.lo.natAbs ≤ 500000000000 ∧ b.hi.natAbs ≤ 500000000000) (hbd : ∀ b ∈ side, b.lo.natAbs ≤ 500000000000 ∧ b.hi.natAbs ≤ 500000000000) :
    Fn Try.prog 36 [stAV r f1 side.length (.sl 0 0 fl.length 1), I fl.length, .ro fu 2 (side.map fBd)] (mkH [some (rws fL fl)]) (.ro false 2 ((flowOf x prev side).map fBd)) (mkH [some (rws fL fl)]) := by
  have hcl : (rws fL fl).all clean1 = true := rws_all fun _ => rfl
  have hcl2 : (rws fL fl).all clean = true := rws_all fun _ => rfl
  have hR : ∀ (h : H) (k : Nat), h.get 0 = some (rws fL fl) → k < side.length → Fn Try.prog 58 [stAV r f1 side.length (.sl 0 0 fl.length 1), I (i : Nat), I (k : Nat)] h (.agg [I (above x prev k).lo, I (above x prev k).hi]) h := fun h k hg hk =>
    Fn.reads (cs0 := [rws fL fl]) [0] (arriving_fn (f1 := f1) (hours := side.length) hx hpv hd (by omega) (by omega)) (by simp) (by simp [hg, rws_rn, fL_eq]) (by simp) (fun b hb cs hc => by simp at hb; subst hb; rw [hg] at hc; cases hc; exact hcl2) rfl
  have := Fn.ofR (P := Try.prog) (f := 36) (cs0 := [rws fL fl]) (cs1 := [rws fL fl]) (args := [stAV r f1 side.length (.sl 0 0 fl.length 1), I fl.length, .ro fu 2 (side.map fBd)]) (x := .ro false 2 ((flowOf x prev side).map fBd)) noM (by kernel_rfl) Try.func36 rfl (by simp) rfl (by simp [hcl]) ?_
  · exact this
  have w0 : IntKind.i64.wrap ((fl.length : Int) - 1) = (i : Int) := by rw [wrap_in (by omega) (by omega)]; omega
  have hpos : decide (0 < fl.length) = true := decide_eq_true (by omega)
  simp -dsimp -implicitDefEqProofs
  refine onCall_in (Fn.makes (bl := [rws fBd side]) (Clone_fn h1 h2) rfl (by simp [rws_all, fBd_eq]) _ rfl) ?_
  simp -dsimp -implicitDefEqProofs [hpos]
  refine LoopCR.on 34 (fun k => [(1, I fl.length), (2, .ro fu 2 (side.map fBd)), (3, .ptr 1 0), (7, .sl 2 0 side.length 2), (14, I side.length), (15, I (k : Nat))]) (fun k => [some (rws fL fl), some [r.reaches f1, r.shoals, I side.length, .sl 0 0 fl.length 1], some (rws fBd ((flowOf x prev side).take k ++ side.drop k))]) (fun k => k ≤ side.length) (fun k => side.length - k) 0 [0, 1, 2] (by simp) ?_ ?_
  · simp -dsimp -implicitDefEqProofs
  intro k j hk
  simp -dsimp -implicitDefEqProofs
  refine ifD_in (fun hlt => ?_) (fun hge => ?_)
  · have hlt' : k < side.length := by omega
    have hs := List.getElem?_eq_getElem hlt'
    have hsb := hbd _ (List.getElem_mem hlt')
    have hab := above_in (x := x) (prev := prev) hbs hbp k
    have hfe : (flowOf x prev side)[k]? = some ⟨side[k].lo + (above x prev k).lo, side[k].hi + (above x prev k).hi⟩ := by rw [flowOf, List.getElem?_mapIdx, hs]; rfl
    simp -dsimp -implicitDefEqProofs
    refine DrawR.on { M := [2], eff := [(14, [2])] } (by kernel_rfl) (by simp) ?_
    simp -dsimp -implicitDefEqProofs [hs, w0]
    refine onCallQ_in (hR _ k (by simp) hlt') ?_
    simp -dsimp -implicitDefEqProofs [hs, w0]
    refine onCallQ_in ((sum_fn (xs := [side[k], above x prev k]) (fu := true) (by simp) (by simp only [List.mem_cons, List.not_mem_nil, or_false]; rintro b (rfl | rfl) <;> omega)).beside rfl _) ?_
    simp -dsimp -implicitDefEqProofs
    rw [indexA_sl rfl hlt']
    have htot : total [side[k], above x prev k] = ⟨side[k].lo + (above x prev k).lo, side[k].hi + (above x prev k).hi⟩ := by simp [total]
    have hcl3 : ((flowOf x prev side).take k ++ side.drop k).length = side.length := by rw [List.length_append, List.length_take, flowOf_len, List.length_drop]; omega
    have hset : ((flowOf x prev side).take k ++ side.drop k).set k ⟨side[k].lo + (above x prev k).lo, side[k].hi + (above x prev k).hi⟩ = (flowOf x prev side).take (k + 1) ++ side.drop (k + 1) := by
      have hlk : ((flowOf x prev side).take k).length = k := by rw [List.length_take, flowOf_len]; omega
      rw [List.set_append_right _ _ (by omega), hlk, Nat.sub_self, List.drop_eq_getElem_cons hlt', List.set_cons_zero, List.take_add_one, hfe]
      simp
    rw [htot]
    simp -dsimp -implicitDefEqProofs [-storeA]
    refine on_store fBd ((flowOf x prev side).take k ++ side.drop k) k ⟨side[k].lo + (above x prev k).lo, side[k].hi + (above x prev k).hi⟩ (k := 2) (by simp) (by omega) rfl (by simp [fBd_eq]) (fun _ => rfl) rfl ?_
    rw [hset]
    simp -dsimp -implicitDefEqProofs
    refine again_in (k + 1) [0, 1, 2] (by omega) (by omega) ?_
    simp -dsimp -implicitDefEqProofs
    rw [wrap_in (by omega) (by omega)]
  · have hin : k = side.length := by omega
    subst hin
    have e : (flowOf x prev side).take side.length ++ side.drop side.length = flowOf x prev side := by
      rw [List.drop_length, List.append_nil]; exact List.take_of_length_le (by rw [flowOf_len]; omega)
    simp -dsimp -implicitDefEqProofs [e]
    exact ⟨2, frz_rows (rows := (flowOf x prev side).map fBd) (by
      have e2 : (List.map fBd (flowOf x prev side)).take side.length = List.map fBd (flowOf x prev side) := List.take_of_length_le (by rw [List.length_map, flowOf_len]; omega)
      simp [mkH, rws, e2]) (by omega) (by simp [flowOf_len]) (by simp [fBd_eq]) (rws_all (f := fBd) fun _ => rfl)⟩
end Go.Pe

/- Lists of a forecast: their lengths, their bounds. -/
namespace Go.Pe
open Go Go.Proofs Go.Proofs.Ytblpmcmapadphab
attribute [local simp] ap_skip ap_region ap_seq ap_cond ap_block ap_loop ap_exit ap_ret ap_seq_normal ap_seq_ret ap_seq_exit ap_block_normal ap_block_ret ap_block_exit ap_block_other ap_nil ap_draw ap_dr_nil ap_fin_ret ap_fin_normal ap_loopK dstT_zero dstT_succ Nat.add_assoc onSome_some onSome_none ifB_true ifB_false ifB_not onClo_clo onBool_bool onBool_tup frz_val frz_ro takeAt elemTy LeN_refl LeN_push LeN_set push_get push_next set_get set_next nil_get nil_next pop_move pop_assign pop_pick pop_load pop_fieldAddr pop_indexAddr pop_field pop_binOp pop_unOp pop_convert pop_extract pop_makeFunc pop_nilCheck pop_build pop_slice pop_len pop_max pop_min eop_alloc eop_box eop_store eop_buildSlice eop_makeSlice eop_append as_move as_assign as_pick as_load as_fieldAddr as_indexAddr as_field as_binOp as_unOp as_convert as_extract as_makeFunc as_nilCheck as_build as_slice as_len as_max as_min as_alloc as_box as_store as_buildSlice as_makeSlice as_append as_call cons_free cons_guard putA_some putA_none aev_tmp aev_int aev_bool aev_nil aev_func pickA_and pickA_or pickA_true pickA_false nnA_ptr nnA_rop idxA_some intOf_int boxA_some bin_int binI_add binI_sub binI_mul binI_quo binI_rem binI_eql binI_neq binI_lss binI_leq binI_gtr binI_geq unA_not unA_neg loadA_ptr loadA_rop loadO_some asLoaded_agg asLoaded_one resA_one resA_two resOne_tmp resOne_cell cellsOf_int cellsOf_bool cellsOf_clo cellsOf_ptr cellsOf_ro cellsOf_sl cellsOf_nil cellsOf_agg one_int one_bool one_nil one_clo one_ptr one_ro one_sl one_rop mm_max mm_min elS_sl elS2_sl mkA_some chunk_zero chunk_succ zcells_zero zcells_succ clean_val clean_ro clean_rop clean1_val clean1_ro clean1_rop flat_val flat_ro flat_agg frz_agg frz_tup
attribute [local simp] t3 u3 t4 u4 t5 u5 t22 u22 t23 u23 t25 u25 t27 u27 t28 u28 t30 u30 t32 u32 t34 u34 t37 u37 t43 u43 t48 u48 t49 u49 t50 u50 t54 u54 t75 u75 t77 u77         t102 u102 t117 u117 t119 u119 t123 u123 t125 u125 t130 u130 t134 u134 t138 u138   t155 u155 t156 u156 t160 u160 t172 u172
attribute [local simp] lenA_ro indexA_ro fieldA
set_option maxRecDepth 20000

theorem same1_fn {l : List Bd} {n : Int} {h : H} {b : Nat} (hb : h.get b = some [I n]) : Fn Try.prog 54 [.ro false 2 (l.map fBd), .ptr b 0] h (B ((l.length : Int) == n)) h := by
  refine Fn.keep noM noC (by kernel_rfl) Try.func54 rfl rfl fun live => ?_
  simp -dsimp -implicitDefEqProofs [hb]
theorem fBd_inj (a b : Bd) (h : fBd a = fBd b) : a = b := by
  cases a; cases b; simp [fBd] at h; simp [h]
theorem sides2_fn {l : List Bd} {h : H} (hl : (l.length : Int) < 2^62) : Fn Try.prog 55 [.ro false 2 (l.map fBd)] h (B (l.all (vB 0 10000000000))) h := by
  have hE := every_bounds (f := 45) (caps := []) (h := h) (p := pOf fBd (vB 0 10000000000)) (xs := l.map fBd) (fu := false) (by simpa using hl) (by simp [fBd_eq]) (by simp [fBd_eq, one_int]) (fun x hx => by
    obtain ⟨b, _, rfl⟩ := List.mem_map.1 hx
    rw [pOf_eq fBd_inj]
    exact validSide_fn)
  rw [all_pOf fBd_inj] at hE
  refine Fn.keep noM noC (by kernel_rfl) Try.func55 rfl rfl fun live => ?_
  simp -dsimp -implicitDefEqProofs
  refine onCall_in hE ?_
  simp -dsimp -implicitDefEqProofs
noncomputable def lAV (l : List Bd) : AV := .ro false 2 (l.map fBd)
theorem lAV_inj (a b : List Bd) (h : lAV a = lAV b) : a = b := by
  simp only [lAV, AV.ro.injEq, true_and] at h
  exact map_inj fBd_inj _ _ h
open Classical in
/-- A truth about a list, said of what stands for it. -/
noncomputable def pOfL (q : List Bd → Bool) (x : AV) : Bool := if h : ∃ a, lAV a = x then q h.choose else false
theorem pOfL_eq {q : List Bd → Bool} (a : List Bd) : pOfL q (lAV a) = q a := by
  have h : ∃ b, lAV b = lAV a := ⟨a, rfl⟩
  unfold pOfL
  rw [dif_pos h, lAV_inj _ _ h.choose_spec]
theorem lists_fn {sides : List (List Bd)} {f2 : Bool} {f : FuncId} {caps : List AV} {h : H} (q : List Bd → Bool) (hl : (sides.length : Int) < 2^62) (hF : ∀ l ∈ sides, Fn Try.prog f ([.ro false 2 (l.map fBd)] ++ caps) (h.push [.clo f caps]) (B (q l)) (h.push [.clo f caps])) : Fn Try.prog 53 [.ro f2 1 (sides.map fL), .clo f caps] h (B (sides.all q)) h := by
  have := every_lists (f := f) (caps := caps) (h := h) (p := pOfL q) (xs := sides.map lAV) (fu := f2) (by simpa using hl) (fun x hx => by
    obtain ⟨l, hl, rfl⟩ := List.mem_map.1 hx
    rw [pOfL_eq]
    exact hF l hl)
  have e1 : (sides.map lAV).map (fun x => [x]) = sides.map fL := by rw [List.map_map]; rfl
  have e2 : (sides.map lAV).all (pOfL q) = sides.all q := by
    rw [List.all_map]
    congr 1
    funext a
    exact pOfL_eq a
  rwa [e1, e2] at this
end Go.Pe

/- Forecasts: checked, and turned into a stream. -/
namespace Go.Pe
open Go Go.Proofs Go.Proofs.Ytblpmcmapadphab
attribute [local simp] t3 u3 t4 u4 t5 u5 t22 u22 t23 u23 t25 u25 t27 u27 t28 u28 t30 u30 t32 u32 t34 u34 t37 u37 t43 u43 t48 u48 t49 u49 t50 u50 t54 u54 t75 u75 t77 u77         t102 u102 t117 u117 t119 u119 t123 u123 t125 u125 t130 u130 t134 u134 t138 u138   t155 u155 t156 u156 t160 u160 t172 u172
set_option maxRecDepth 20000
set_option maxHeartbeats 8000000
attribute [local simp] fW_eq fR_eq fS_eq extA fBd_eq fL_eq

def hrs (s : List (List Bd)) : Nat := (s.headD []).length
def lens (s : List (List Bd)) : Bool := s.all fun l => (l.length : Int) == hrs s
def oks (s : List (List Bd)) : Bool := s.all fun l => l.all (vB 0 10000000000)
noncomputable def startE (f : Fc) : Int := if validRv f.r = true then (if f.sides.length = f.r.rs.length then (if hrs f.sides = 0 then 4 else if lens f.sides = true then (if 400 < hrs f.sides then 5 else if oks f.sides = true then 0 else 2) else 4) else 4) else 2
theorem checkForecast_fn {f : Fc} {f1 f2 : Bool} {h : H} (hw : SmallF f) : Fn Try.prog 35 [f.r.av f1, sidesAV f.sides f2] h (I (startE f)) h := by
  refine Fn.beside ?_ rfl h
  refine Fn.ofR0 noM (by kernel_rfl) Try.func35 rfl (by simp) ?_
  have hn := hw.n
  have hrn := hw.r.n
  simp -dsimp -implicitDefEqProofs
  refine onCall_in (Check_fn hw.r) ?_
  cases hV : validRv f.r with
  | false => simp -dsimp -implicitDefEqProofs [startE, hV]
  | true =>
    simp -dsimp -implicitDefEqProofs
    by_cases h1 : f.sides.length = f.r.rs.length
    rotate_left
    · have n1 : ((f.sides.length : Int) != f.r.rs.length) = true := by simp; omega
      simp -dsimp -implicitDefEqProofs [startE, hV, h1, n1]
    have n1 : ((f.sides.length : Int) != f.r.rs.length) = false := by simp [h1]
    have hpos : 0 < f.sides.length := by
      have := hV
      simp only [validRv, Bool.and_eq_true, inB_iff] at this
      omega
    have hx0 := List.getElem?_eq_getElem hpos
    have hh : f.sides[0].length = hrs f.sides := by simp [hrs, List.headD_eq_head?_getD, List.head?_eq_getElem?, hx0]
    have hc0 := hw.c _ (List.getElem_mem hpos)
    simp -dsimp -implicitDefEqProofs [n1, hx0, hh]
    refine ifB_in (fun h2 => ?_) (fun h2 => ?_)
    · have h2' : hrs f.sides = 0 := by simpa using h2
      simp -dsimp -implicitDefEqProofs [startE, hV, h1, h2']
    have h2' : hrs f.sides ≠ 0 := by simpa using h2
    simp -dsimp -implicitDefEqProofs
    refine onCall_in (lists_fn (fun l => (l.length : Int) == hrs f.sides) (by omega) fun l hl => same1_fn (by simp)) ?_
    have hlens : (f.sides.all fun l => (l.length : Int) == hrs f.sides) = lens f.sides := rfl
    rw [hlens]
    simp -dsimp -implicitDefEqProofs
    refine ifB_in (fun h3 => ?_) (fun h3 => ?_)
    rotate_left
    · simp -dsimp -implicitDefEqProofs [startE, hV, h1, h2', h3]
    simp -dsimp -implicitDefEqProofs
    refine ifD_in (fun h4 => ?_) (fun h4 => ?_)
    · have h4' : 400 < hrs f.sides := by omega
      simp -dsimp -implicitDefEqProofs [startE, hV, h1, h2', h3, h4']
    have h4' : ¬ 400 < hrs f.sides := by omega
    simp -dsimp -implicitDefEqProofs
    refine onCall_in (lists_fn (fun l => l.all (vB 0 10000000000)) (by omega) fun l hl => sides2_fn (by have := hw.c l hl; omega)) ?_
    have hoks : (f.sides.all fun l => l.all (vB 0 10000000000)) = oks f.sides := rfl
    rw [hoks]
    simp -dsimp -implicitDefEqProofs
    refine ifB_in (fun h5 => ?_) (fun h5 => ?_)
    · simp -dsimp -implicitDefEqProofs [startE, hV, h1, h2', h3, h4', h5]
    · simp -dsimp -implicitDefEqProofs [startE, hV, h1, h2', h3, h4', h5]
end Go.Pe
