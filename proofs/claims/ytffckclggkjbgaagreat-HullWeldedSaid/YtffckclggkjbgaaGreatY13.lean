import Derived.Test.YtffckclggkjbgaaGreatY12
import Derived.Test.YtffckclggkjbgaaGreatY08
set_option linter.unusedVariables false
set_option linter.unusedSimpArgs false
/- A round's end at which a block becomes fixed: what simplification needs. -/
namespace Go.Pe
open Go
section
variable {h : H} {b0 : Nat}
theorem aev_fzm {ρ : List AV} {t : Nat} : aev (ρ.map (fzv h b0)) (.tmp t) = fzv h b0 (aev ρ (.tmp t)) := by
  simp only [aev, List.getD, List.getElem?_map]
  cases ρ[t]? <;> rfl
theorem en_map {N : Nat} {j : Nat → AV} {f : AV → AV} : ∀ {E : List (Nat × AV)}, (en N j E).map f = en N (fun t => f (j t)) (E.map fun p => (p.1, f p.2)) := by
  have key : ∀ (E : List (Nat × AV)) (t : Nat), f (lk j t E) = lk (fun t => f (j t)) t (E.map fun p => (p.1, f p.2)) := by
    intro E t
    induction E with
    | nil => rfl
    | cons q E ih =>
      obtain ⟨q, x⟩ := q
      by_cases h : t = q
      · subst h; simp [lk]
      · simp only [List.map_cons, lk, if_neg h]; exact ih
  intro E
  simp only [en, List.map_map]
  exact List.map_congr_left fun t _ => key E t
theorem fzH_next : (fzH h b0).next = h.next := rfl
theorem fzH_lp : (fzH h b0).lp = h.lp := rfl
theorem fzm_len {ρ : List AV} : (ρ.map (fzv h b0)).length = ρ.length := List.length_map _
theorem fzH_get {q : Nat} : (fzH h b0).get q = if q = b0 then none else (h.get q).map (·.map (fzv h b0)) := rfl
theorem fzv_val {v : Value} : fzv h b0 (.val v) = .val v := rfl
theorem fzv_ro {f : Bool} {k : Nat} {xs : List (List AV)} : fzv h b0 (.ro f k xs) = .ro f k xs := rfl
theorem fzv_rop {cs : List AV} : fzv h b0 (.rop cs) = .rop cs := rfl
theorem fzv_ptr {b o : Nat} : fzv h b0 (.ptr b o) = .ptr b o := rfl
theorem fzv_agg {l : List AV} : fzv h b0 (.agg l) = .agg l := rfl
theorem fzv_sl_ne {b o len k : Nat} (hb : b ≠ b0) : fzv h b0 (.sl b o len k) = .sl b o len k := by simp [fzv, hb]
theorem fzv_grow {b k n : Nat} (hb : b ≠ b0) : fzv h b0 (grow b k n) = grow b k n := by
  cases n with
  | zero => rfl
  | succ n => rw [grow_succ]; exact fzv_sl_ne hb
theorem fzv_growN {b k n : Nat} (hb : b ≠ b0) : fzv h b0 (growN b k n) = growN b k n := by
  cases n with
  | zero => rfl
  | succ n => rw [growN_succ]; exact fzv_sl_ne hb
theorem grown_map {n : Nat} {l : List AV} {f : List AV → List AV} : (grown n l).map f = grown n (f l) := by cases n <;> rfl
theorem fzv_clean1 {x : AV} (hx : clean1 x = true) : fzv h b0 x = x := by cases x <;> simp [clean1] at hx <;> rfl
theorem fz_clean1 {l : List AV} (hl : l.all clean1 = true) : l.map (fzv h b0) = l := by
  conv => rhs; rw [← List.map_id l]
  exact List.map_congr_left fun x hx => fzv_clean1 ((List.all_eq_true.1 hl) x hx)
theorem fz_rws {α : Type} {f : α → List AV} {l : List α} (hf : ∀ a, (f a).all clean1 = true) : (rws f l).map (fzv h b0) = rws f l := fz_clean1 (rws_all hf)
theorem fzv_hit {α : Type} {f : α → List AV} {l : List α} {k n : Nat} (hb : h.get b0 = some (rws f l)) (hn : l.length = n) (hk : ∀ a, (f a).length = k) (hc : ∀ a, ((f a).all fun x => clean1 x && one x) = true) : fzv h b0 (.sl b0 0 n k) = .ro false k (l.map f) := by
  have : frz 2 (only h b0) 0 (.sl b0 0 n k) = some (.ro false k (l.map f)) := frz_rows (rows := l.map f) (by simp only [only, if_true]; exact hb) (Nat.zero_le _) (by simpa using hn) (fun r hr => by obtain ⟨a, _, rfl⟩ := List.mem_map.1 hr; exact hk a) (rws_all hc)
  simp [fzv, this]
/-- Rows of one cell each. -/
def o1 (x : AV) : List AV := [x]
theorem rws_o1 {l : List AV} : rws o1 l = l := by
  unfold rws
  induction l with
  | nil => rfl
  | cons x l ih => simpa [o1] using ih
/-- A row of cells with one that stands out. -/
def mid (A : List AV) (x : AV) (C : List AV) : List AV := A ++ x :: C
theorem mid_fz {A C : List AV} {x : AV} (hA : A.all clean1 = true) (hC : C.all clean1 = true) : (mid A x C).map (fzv h b0) = mid A (fzv h b0 x) C := by
  simp only [mid, List.map_append, List.map_cons, fz_clean1 hA, fz_clean1 hC]
theorem mid_rn {bs : List Nat} {n : Nat} {A C : List AV} {x : AV} (hA : A.all clean1 = true) (hC : C.all clean1 = true) : (mid A x C).mapM (rn bs (n + 1)) = (rn bs (n + 1) x).map fun y => mid A y C := by
  simp only [mid, List.mapM_append, List.mapM_cons, rnL_clean hA, rnL_clean hC]
  cases rn bs (n + 1) x <;> rfl
theorem mid_get {A C : List AV} {x : AV} {i : Nat} (hi : A.length = i) : (mid A x C)[i]? = some x := by
  subst hi; simp [mid]
theorem mid_set {A C : List AV} {x y : AV} {i : Nat} (hi : A.length = i) : (mid A x C).set i y = mid A y C := by
  subst hi; simp [mid]
theorem mid_len {A C : List AV} {x : AV} : (mid A x C).length = A.length + (C.length + 1) := by simp [mid]
theorem load_mid {T : TI} {A C : List AV} {x : AV} {i : Nat} (hi : A.length = i) (hk : T.size = 1) : loadO T (some (mid A x C)) i = asLoaded T [x] := by
  have := load_rws1 (T := T) (f := o1) (mid_get (C := C) (x := x) hi) (fun _ => rfl) hk
  rwa [rws_o1] at this
theorem on_store_mid {T : TI} {b i : Nat} {v x y : AV} {A C : List AV} {K : AV × H → Prop} {t : Tag K} (hb : h.get b = some (mid A x C)) (hi : A.length = i) (hv : cellsOf v = some [y]) (hk : T.size = 1)
    (hK : K (.val undef, h.set b (mid A y C))) : onSome (storeA T h (.ptr b i) v) K t := by
  refine on_store o1 (mid A x C) i y (k := 1) (by rw [rws_o1]; exact hb) (by rw [mid_len]; omega) (by omega) hv (fun _ => rfl) hk ?_
  rw [rws_o1, mid_set hi]; exact hK
theorem mid_at {A C : List AV} {x : AV} {i : Nat} (hi : A.length = i) : ((mid A x C).drop i).take 1 = [x] := by
  subst hi; simp [mid]
theorem make_rows {E : TI} {n : Nat} (h1 : E.bytes * n ≤ 70368744177664) (h2 : n ≤ 70368744177664) (hz : E.zero.length = E.size) : makeSliceA E h n n = some (.sl h.next 0 n E.size, h.push (zcells n E.zero)) := by
  unfold makeSliceA
  rw [if_pos ⟨by omega, by omega, by rw [← Int.natCast_mul]; omega, by omega, hz⟩, if_pos (Int.le_refl _), Int.toNat_natCast]
theorem growN_pos {b k n : Nat} (hn : n ≠ 0) : growN b k n = .sl b 0 n k := by simp [growN, hn]
theorem clean1_map {α : Type} {g : α → AV} {l : List α} (hg : ∀ a, clean1 (g a) = true) : (l.map g).all clean1 = true := List.all_eq_true.2 fun x hx => by obtain ⟨a, _, rfl⟩ := List.mem_map.1 hx; exact hg a
theorem clean1_rep {n : Nat} {x : AV} (hx : clean1 x = true) : (List.replicate n x).all clean1 = true := List.all_eq_true.2 fun y hy => by rw [(List.mem_replicate.1 hy).2]; exact hx
end
attribute [simp] aev_fzm fzH_get fzH_next fzH_lp en_map fzv_val fzv_ro fzv_rop fzv_ptr fzv_agg fzv_sl_ne fzv_grow fzv_growN grown_map rws_o1
end Go.Pe

/- The walk through a round of a loop over a function, and through a function that yields. -/
namespace Go.Pe
open Go
section
variable {P : Program} {md : Oper → Bool} {rd : Option Nat} {Q : Exit → List AV → H → Prop} {ρ : List AV} {h : H}
theorem ae_skip {t : Tag (vcE P md rd .skip Q)} : ap (vcE P md rd .skip Q) t ρ h = ap (Q .normal) .mk ρ h := rfl
theorem ae_region {id : Nat} {l : List Oper} {t : Tag (vcE P md rd (.region id l.toArray false) Q)} : ap (vcE P md rd (.region id l.toArray false) Q) t ρ h = ap (vcOps P md l.toArray (Q .normal) l) .mk ρ h := rfl
theorem ae_seq {x y : Code} {t : Tag (vcE P md rd (.seq x y) Q)} : ap (vcE P md rd (.seq x y) Q) t ρ h = ap (vcE P md rd x (seqK (vcE P md rd y Q) Q)) .mk ρ h := rfl
theorem ae_cond {c : Operand} {x y : Code} {t : Tag (vcE P md rd (.cond c x y) Q)} : ap (vcE P md rd (.cond c x y) Q) t ρ h = onBool (aev ρ c) (fun b => ifB b (ap (vcE P md rd x Q) .mk ρ h) (ap (vcE P md rd y Q) .mk ρ h) .mk .mk) False .mk .mk := rfl
theorem ae_block {id : Nat} {x : Code} {t : Tag (vcE P md rd (.block id x) Q)} : ap (vcE P md rd (.block id x) Q) t ρ h = ap (vcE P md rd x (blockK id Q)) .mk ρ h := rfl
theorem ae_exit {id : Nat} {t : Tag (vcE P md rd (.exit id) Q)} : ap (vcE P md rd (.exit id) Q) t ρ h = ap (Q (.exit id)) .mk ρ h := rfl
theorem ae_ret {t : Tag (vcE P md rd .ret Q)} : ap (vcE P md rd .ret Q) t ρ h = ap (Q .ret) .mk ρ h := rfl
theorem vcE_mono : ∀ {code : Code} {Q Q' : Exit → List AV → H → Prop} {ρ : List AV} {h : H}, (∀ e ρ h, Q e ρ h → Q' e ρ h) → vcE P md rd code Q ρ h → vcE P md rd code Q' ρ h := by
  intro code
  induction code with
  | skip => intro Q Q' ρ h hq hv; exact hq _ _ _ hv
  | region id ops draw =>
    intro Q Q' ρ h hq hv
    cases draw with
    | false => exact vcOps_mono (fun ρ h => hq _ ρ h) ops.toList ρ h hv
    | true =>
      obtain ⟨g1, g2, ct, g3, m, g4, g5, g6, g7⟩ := hv
      exact ⟨g1, g2, ct, g3, m, g4, g5, g6, vcDr_mono (fun ρ h => vcOps_mono (fun ρ h => hq _ ρ h) _ ρ h) _ 0 ρ h.get g7⟩
  | seq x y ihx ihy =>
    intro Q Q' ρ h hq hv
    refine ihx (fun e ρ h he => ?_) hv
    cases e with
    | normal => exact ihy hq he
    | _ => exact hq _ _ _ he
  | cond cc x y ihx ihy =>
    intro Q Q' ρ h hq hv
    simp only [vcE, onBool] at hv ⊢
    split at hv
    · exact ifB_mono (ihx hq) (ihy hq) hv
    · exact hv.elim
    · exact hv.elim
  | block id x ih =>
    intro Q Q' ρ h hq hv
    refine ih (fun e ρ h he => ?_) hv
    cases e with
    | exit id' =>
      simp only at he ⊢
      split at he
      · rename_i hid; rw [if_pos hid]; exact hq _ _ _ he
      · rename_i hid; rw [if_neg hid]; exact hq _ _ _ he
    | _ => exact hq _ _ _ he
  | loop x ih =>
    intro Q Q' ρ h hq hv
    obtain ⟨I, h1, h2⟩ := hv
    refine ⟨I, h1, fun j ρ h hI => ih (fun e ρ h he => ?_) (h2 j ρ h hI)⟩
    cases e with
    | normal => exact he
    | _ => exact hq _ _ _ he
  | rangeFunc g ps assign body _ _ => intro Q Q' ρ h hq hv; exact Ranged_mono hq hv
  | exit id => intro Q Q' ρ h hq hv; exact hq _ _ _ hv
  | scope _ _ => intro Q Q' ρ h hq hv; exact hv.elim
  | label _ => intro Q Q' ρ h hq hv; exact hv.elim
  | goto _ => intro Q Q' ρ h hq hv; exact hv.elim
  | ret => intro Q Q' ρ h hq hv; exact hq _ _ _ hv
  | refuse _ => intro Q Q' ρ h hq hv; exact hv.elim
/-- A loop whose state is written out: the slots by what is known of them, the heap as it is. -/
def LoopCE (P : Program) (md : Oper → Bool) (rd : Option Nat) (x : Code) (Q : Exit → List AV → H → Prop) (_ : Tag Q) (ρ : List AV) (h : H) : Prop := Looped (vcE P md rd x) Q ρ h
theorem ae_loop {x : Code} {t : Tag (vcE P md rd (.loop x) Q)} : ap (vcE P md rd (.loop x) Q) t ρ h = LoopCE P md rd x Q .mk ρ h := rfl
def againE {σ : Type} (N : Nat) (E : σ → List (Nat × AV)) (HH : σ → H) (I : σ → Prop) (μ : σ → Nat) (m : Nat) : List AV → H → Prop := fun ρ h => ∃ s j, I s ∧ μ s < m ∧ ρ = en N j (E s) ∧ h = HH s
theorem againE_in {σ : Type} {N : Nat} {E : σ → List (Nat × AV)} {HH : σ → H} {I : σ → Prop} {μ : σ → Nat} {m : Nat} {t : Tag (againE N E HH I μ m)} (s : σ) (j : Nat → AV) (hI : I s) (hμ : μ s < m) (hρ : ρ = en N j (E s)) (hh : h = HH s) : ap (againE N E HH I μ m) t ρ h := ⟨s, j, hI, hμ, hρ, hh⟩
theorem LoopCE.on {x : Code} {σ : Type} (N : Nat) (E : σ → List (Nat × AV)) (HH : σ → H) (I : σ → Prop) (μ : σ → Nat) (s0 : σ) (j0 : Nat → AV) (hI : I s0) (hρ : ρ = en N j0 (E s0)) (hh : h = HH s0)
    (round : ∀ s j, I s → ap (vcE P md rd x (seqK (againE N E HH I μ (μ s)) Q)) .mk (en N j (E s)) (HH s)) {t : Tag Q} : LoopCE P md rd x Q t ρ h := by
  refine ⟨fun m ρ h => ∃ s j, m = μ s ∧ I s ∧ ρ = en N j (E s) ∧ h = HH s, ⟨_, s0, j0, rfl, hI, hρ, hh⟩, ?_⟩
  rintro m ρ h ⟨s, j, rfl, hs, rfl, rfl⟩
  refine vcE_mono (fun e ρ' h' he => ?_) (round s j hs)
  cases e with
  | normal =>
    obtain ⟨s', j', g1, g2, g3, g4⟩ := he
    exact ⟨_, g2, s', j', rfl, g1, g3, g4⟩
  | _ => exact he
/-- What lies in slots that are named twice. -/
theorem en_more {N : Nat} {j : Nat → AV} {E E' : List (Nat × AV)} : en N j (E ++ E') = en N (fun t => lk j t E') E := by
  have key : ∀ t, lk j t (E ++ E') = lk (fun t => lk j t E') t E := fun t => by
    induction E with
    | nil => rfl
    | cons q E ih =>
      obtain ⟨q, x⟩ := q
      simp only [List.cons_append, lk]
      split
      · rfl
      · exact ih
  unfold en
  exact List.map_congr_left fun t _ => key t
/-- ONE ROUND. -/
theorem Rd.on {b : Nat} {r : Lp} {p N : Nat} {j : Nat → AV} {E : List (Nat × AV)} {a x : AV} {h' : H} (md : Oper → Bool) (hb : h.lp b = some r) (hρ : r.ρ = en N j E) (hps : r.ps = #[p]) (hp : p < N)
    (hv : ap (vcE P md (some b) r.assign (fun e ρ1 h1 => e = .normal ∧ ∃ r1, h1.lp b = some r1 ∧ r1.st = .ready ∧ ap (vcE P md (some b) r.body (fun e _ h2 => FinR b x h' e h2)) .mk ρ1 (h1.lset b (some { r1 with st := .busy })))) .mk (en N j ((p, a) :: E)) h) : Rd P b [a] h x h' := by
  refine Rd.of_vcE md hb (by rw [hps]; rfl) ?_
  have : putPs r.ρ r.ps.toList [a] = en N j ((p, a) :: E) := by
    rw [hρ, hps]
    exact en_set hp
  rw [this]; exact hv
theorem Rd.on2 {b : Nat} {p N : Nat} {j : Nat → AV} {E : List (Nat × AV)} {a : AV} {h' : H} {asg bo : Code} (md : Oper → Bool) (hb : h.lp b = some { ρ := en N j E, ps := #[p], assign := asg, body := bo, st := .ready, pend := none }) (hp : p < N)
    (hv : ap (vcE P md (some b) asg (fun e ρ1 h1 => e = .normal ∧ h1.lp b = some { ρ := en N j E, ps := #[p], assign := asg, body := bo, st := .ready, pend := none } ∧ ap (vcE P md (some b) bo (fun e _ h2 => e = .normal ∧ h2.lp b = some { ρ := en N j E, ps := #[p], assign := asg, body := bo, st := .busy, pend := none } ∧ h' = h2.lset b (some { ρ := en N j E, ps := #[p], assign := asg, body := bo, st := .ready, pend := none }))) .mk ρ1 (h1.lset b (some { ρ := en N j E, ps := #[p], assign := asg, body := bo, st := .busy, pend := none })))) .mk (en N j ((p, a) :: E)) h) : Rd P b [a] h (.val (.bool true)) h' := by
  refine Rd.on md hb rfl rfl hp (vcE_mono (fun e ρ1 h1 he => ?_) hv)
  obtain ⟨e1, e2, e3⟩ := he
  refine ⟨e1, _, e2, rfl, vcE_mono (fun e ρ2 h2 he => ?_) e3⟩
  obtain ⟨rfl, g2, g3⟩ := he
  exact ⟨_, g2, rfl, g3⟩
/-- A FUNCTION AND ALL THAT IT HAS MADE, by sparse slots. -/
theorem Fn.onE {f : FuncId} {fn : Func} {code : Code} (md : Oper → Bool) {args : List AV} {hh : H} {y : AV} (hcall : callable P f = true) (hf : P.funcs[f]? = some fn) (hb : fn.body = some code) (hN : args.length ≤ fn.ntmps)
    (hv : ap (vcE P md none code (fun e ρ k => (e = .normal ∨ e = .ret) ∧ resA P fn.results ρ k = some y ∧ k = hh)) .mk (en fn.ntmps (fun _ => .val undef) (en0 0 args)) h) : Fn P f args h y hh := by
  refine Fn.of_vcE md hcall hf hb ?_
  rw [en_start hN]; exact hv
end
attribute [simp] ae_skip ae_region ae_seq ae_cond ae_block ae_exit ae_ret ae_loop
end Go.Pe

/- Functions whose new memory names other new memory; names of blocks, many at once. -/
namespace Go.Pe
open Go
/-- A FUNCTION THAT MAKES MEMORY, beside what is there: the new blocks may name each other. -/
theorem Fn.makes2 {P : Program} {f : FuncId} {args : List AV} {x y : AV} {bl bl2 : List (List AV)} (h0 : Fn P f args .nil x (mkH (bl.map some))) (hc : args.all cleanD = true) (h : H) (hlen : bl2.length = bl.length) (hbl : ∀ (i : Nat) (l2 : List AV), bl2[i]? = some l2 → ∃ l : List AV, bl[i]? = some l ∧ l.mapM (sft h.next 4) = some l2) (hx : sft h.next 4 x = some y) : Fn P f args h y (h.more bl2) := by
  refine ⟨h0.1, fun n c D w vs hr hfr hargs => ?_⟩
  have hnil : Rel c noId .nil w := ⟨fun b cs hb => by simp [H.nil] at hb, fun b b' _ _ hb => by simp [H.nil] at hb, hr.sz, fun b r hb => by simp [H.nil] at hb, fun b b' _ _ hb => by simp [H.nil] at hb⟩
  have hal : RL c w noId args vs := ⟨hargs.1, fun i y u e1 e2 => cleanD_R (hargs.2 i y u e1 e2) ((List.all_eq_true.1 hc) y (List.mem_of_getElem? e1))⟩
  refine (h0.2 n c noId w vs hnil (fun _ _ h => h) hal).mono ?_
  rintro ee w' ⟨v, c', D', rfl, h2, h3, h4, h5⟩
  have hD' : ∀ b, D' b → b < bl.length := fun b hb => by
    rcases h5 b hb with h6 | h6
    · exact h6.elim
    · simpa [mkH] using h6.2
  have hDn : ∀ b, D b → b < h.next := fun b hb => Nat.lt_of_not_le fun hle => hfr b hle hb
  obtain ⟨c2, hc2⟩ : ∃ c2 : Cx, c2 = { S := c'.S, φ := fun q => if q < h.next then c.φ q else c'.φ (q - h.next) } := ⟨_, rfl⟩
  obtain ⟨D2, hD2⟩ : ∃ D2 : Nat → Prop, D2 = fun q => D q ∨ (h.next ≤ q ∧ D' (q - h.next)) := ⟨_, rfl⟩
  have φo : ∀ b, D b → c2.φ b = c.φ b := fun b hb => by rw [hc2]; simp [hDn b hb]
  have φn : ∀ b, c2.φ (h.next + b) = c'.φ b := fun b => by
    rw [hc2]
    simp only
    rw [if_neg (by omega), Nat.add_sub_cancel_left]
  have hold : ∀ k, k < w.heap.size → w'.heap[k]? = w.heap[k]? := fun k hk => h4.frame k hk (fun b cs hb => by simp [H.nil] at hb) (fun b r hb => by simp [H.nil] at hb)
  have hS2 : ∀ k, c.S k → c2.S k := fun k hk => by rw [hc2]; exact h4.S k hk
  have hS2' : ∀ k, c2.S k → c.S k ∨ w.heap.size ≤ k := fun k hk => by
    rw [hc2] at hk
    rcases h4.newS k hk with h6 | h6 | ⟨b, cs, h6, _⟩
    · exact .inl h6
    · exact .inr h6
    · simp [H.nil] at h6
  have hup : ∀ {y : AV} {u : Value}, R c w D y u → R c2 w' D2 y u := fun hy => hy.mono hS2 (fun k hk => hold k (hr.sz k hk)) φo (fun b hb => by rw [hD2]; exact .inl hb) h4.shp
  have hlow : ∀ {y : AV} {u : Value} {D3 : Nat → Prop}, R c' w' noId y u → R c2 w' D3 y u := fun hy => hy.mono (fun _ hk => by rw [hc2]; exact hk) (fun _ _ => rfl) (fun _ hb => hb.elim) (fun _ hb => hb.elim) (fun _ C _ hk => ⟨C, hk, rfl⟩)
  have shift : ∀ (n : Nat) (z z' : AV) (u : Value), R c' w' D' z u → sft h.next n z = some z' → R c2 w' D2 z' u := by
    intro n
    induction n with
    | zero => intro z z' u _ hz; cases hz
    | succ n ih =>
      intro z z' u hz hs
      have list : ∀ {l m : List AV} {cs : Array Value}, RL c' w' D' l cs → l.mapM (sft h.next n) = some m → RL c2 w' D2 m cs := fun hl hm => by
        obtain ⟨q1, q2⟩ := mapM_some hm
        refine ⟨by rw [hl.1, q1], fun i y u e1 e2 => ?_⟩
        have hi := (List.getElem?_eq_some_iff.1 e1).1
        rw [q1] at hi
        obtain ⟨y', e3, e4⟩ := q2 i _ (List.getElem?_eq_getElem hi)
        rw [e1] at e4; cases e4
        exact ih _ _ _ (hl.2 i _ u (List.getElem?_eq_getElem hi) e2) e3
      simp only [sft] at hs
      cases hz with
      | val v => cases hs; exact .val _
      | ro cell g1 g2 g3 g4 g5 g6 g7 g8 => cases hs; exact hlow (.ro cell g1 g2 g3 g4 g5 g6 g7 g8)
      | nil => cases hs; exact .nil
      | emp => cases hs; exact .emp
      | rop cell g1 g2 g3 => cases hs; exact hlow (.rop cell g1 g2 g3)
      | agg hs2 hh =>
        obtain ⟨m, hm, rfl⟩ := Option.map_eq_some_iff.1 hs
        obtain ⟨g1, g2⟩ := list ⟨hs2, hh⟩ hm
        exact .agg g1 g2
      | tup hs2 hh =>
        obtain ⟨m, hm, rfl⟩ := Option.map_eq_some_iff.1 hs
        obtain ⟨g1, g2⟩ := list ⟨hs2, hh⟩ hm
        exact .tup g1 g2
      | ptr hb => cases hs; rw [← φn]; exact .ptr (by rw [hD2]; exact .inr ⟨by omega, by simpa using hb⟩)
      | sl hb g1 C e g2 g3 => cases hs; rw [← φn] at g2 ⊢; exact .sl (by rw [hD2]; exact .inr ⟨by omega, by simpa using hb⟩) g1 C e g2 g3
      | slc hb g1 C e g2 g3 => cases hs
      | clo hs2 hh => cases hs
      | yld hb => cases hs
  have onew : ∀ b cs, (mkH (bl.map some)).get b = some cs → w.heap.size ≤ c'.φ b := fun b cs hb => by
    rcases h4.origin b cs hb with ⟨b0, cs0, h6, _⟩ | h6
    · simp [H.nil] at h6
    · exact h6
  have mget : ∀ b cs, bl[b]? = some cs → (mkH (bl.map some)).get b = some cs := fun b cs hb => by rw [mkH_get, List.getElem?_map, hb]; rfl
  have oldlt : ∀ b cs, h.get b = some cs → c.φ b < w.heap.size := fun b cs hb => by
    obtain ⟨_, _, C, e, q3, _⟩ := hr.own b cs hb
    exact (Array.getElem?_eq_some_iff.1 q3).1
  refine ⟨v, c2, D2, rfl, shift 4 _ _ _ h2 hx, ⟨fun q cs hq => ?_, fun q q' cs cs' hq hq' he => ?_, by rw [hc2]; exact h3.sz, ?_, fun b b' r r' e1 e2 he => ?_⟩, ⟨hS2, fun k hk => ?_, φo, fun b hb => by rw [hD2]; exact .inl hb, Nat.le_add_right _ _, h4.os, h4.tape, h4.output, h4.size, fun k hk _ _ => hold k hk, h4.shp, fun q cs hq => ?_, fun b r hb => .inl ⟨b, r, hb, (φo b (hr.lps b r hb).1).symm⟩, h4.fz⟩, fun q hq => ?_⟩
  · simp only [H.more] at hq
    split at hq
    · obtain ⟨q1, q2, C, e, q3, q4, q5⟩ := hr.own q cs hq
      have hlt := (Array.getElem?_eq_some_iff.1 q3).1
      rw [φo q q1]
      refine ⟨by rw [hD2]; exact .inl q1, fun hS => ?_, C, e, by rw [hold _ hlt]; exact q3, q4, fun k y u g1 g2 => hup (q5 k y u g1 g2)⟩
      rcases hS2' _ hS with h6 | h6
      · exact q2 h6
      · omega
    · rename_i hge
      obtain ⟨ds, hds, hdm⟩ := hbl _ _ hq
      obtain ⟨n1, n2⟩ := mapM_some hdm
      obtain ⟨p1, p2, C, e, p3, p4, p5⟩ := h3.own (q - h.next) ds (mget _ _ hds)
      have e9 : c2.φ q = c'.φ (q - h.next) := by have := φn (q - h.next); rwa [show h.next + (q - h.next) = q by omega] at this
      rw [e9]
      refine ⟨by rw [hD2]; exact .inr ⟨by omega, p1⟩, by rw [hc2]; exact p2, C, e, p3, by rw [n1]; exact p4, fun k y u g1 g2 => ?_⟩
      have hk := (List.getElem?_eq_some_iff.1 g1).1
      rw [n1] at hk
      obtain ⟨y', g3, g4⟩ := n2 k _ (List.getElem?_eq_getElem hk)
      rw [g1] at g4; cases g4
      exact shift 4 _ _ _ (p5 k _ u (List.getElem?_eq_getElem hk) g2) g3
  · simp only [H.more] at hq hq'
    have cross : ∀ b b' ds ds', h.get b = some ds → b < h.next → bl2[b' - h.next]? = some ds' → ¬ b' < h.next → c2.φ b = c2.φ b' → False := fun b b' ds ds' g1 g2 g3 g4 g5 => by
      have e1 := oldlt b ds g1
      obtain ⟨d9, g9, _⟩ := hbl _ _ g3
      have e2 := onew _ _ (mget _ _ g9)
      have e9 : c2.φ b' = c'.φ (b' - h.next) := by have := φn (b' - h.next); rwa [show h.next + (b' - h.next) = b' by omega] at this
      rw [φo b (hr.own b ds g1).1, e9] at g5
      omega
    split at hq <;> split at hq'
    · rw [φo q (hr.own q cs hq).1, φo q' (hr.own q' cs' hq').1] at he
      exact hr.inj q q' cs cs' hq hq' he
    · rename_i g1 g2; exact (cross q q' cs cs' hq g1 hq' g2 he).elim
    · rename_i g1 g2; exact (cross q' q cs' cs hq' g2 hq g1 he.symm).elim
    · rename_i g1 g2
      have e9 : c2.φ q = c'.φ (q - h.next) := by have := φn (q - h.next); rwa [show h.next + (q - h.next) = q by omega] at this
      have e8 : c2.φ q' = c'.φ (q' - h.next) := by have := φn (q' - h.next); rwa [show h.next + (q' - h.next) = q' by omega] at this
      rw [e9, e8] at he
      obtain ⟨d1, w1, _⟩ := hbl _ _ hq
      obtain ⟨d2, w2, _⟩ := hbl _ _ hq'
      have := h3.inj _ _ d1 d2 (mget _ _ w1) (mget _ _ w2) he
      omega
  · exact hr.lps_keep hS2 (fun k hk => hold k (hr.sz k hk)) φo (fun b hb => by rw [hD2]; exact .inl hb) h4.shp (fun b r hb => hold _ (hr.lp_lt hb)) (fun b r hb hS => by
      rcases hS2' _ hS with h6 | h6
      · exact h6
      · have := hr.lp_lt hb; omega)
  · exact hr.linj_keep φo b b' r r' e1 e2 he
  · rcases hS2' k hk with h6 | h6
    · exact .inl h6
    · exact .inr (.inl h6)
  · simp only [H.more] at hq
    split at hq
    · exact .inl ⟨q, cs, hq, (φo q (hr.own q cs hq).1).symm⟩
    · have e9 : c2.φ q = c'.φ (q - h.next) := by have := φn (q - h.next); rwa [show h.next + (q - h.next) = q by omega] at this
      obtain ⟨d1, w1, _⟩ := hbl _ _ hq
      rw [e9]; exact .inr (onew _ _ (mget _ _ w1))
  · rw [hD2] at hq
    rcases hq with hq | ⟨h6, h7⟩
    · exact .inl hq
    · have := hD' _ h7
      exact .inr ⟨h6, by simp only [H.more]; omega⟩
/-- Blocks that keep their contents, one after another, under any names. -/
theorem MH_of {bs0 : List Nat} {h : H} : ∀ {bs : List Nat} {bl : List (Option (List AV))}, bs.length = bl.length → (∀ (i : Nat) (b : Nat) (c : List AV), bs[i]? = some b → bl[i]? = some (some c) → ∃ cs, h.get b = some cs ∧ cs.mapM (rn bs0 4) = some c) → MH bs0 h bs bl
  | [], [], _, _ => trivial
  | b :: bs, some c :: bl, hl, hg => ⟨hg 0 b c rfl rfl, MH_of (by simpa using hl) fun i b' c' h1 h2 => hg (i + 1) b' c' (by simpa using h1) (by simpa using h2)⟩
  | b :: bs, none :: bl, hl, hg => MH_of (bs := bs) (bl := bl) (by simpa using hl) fun i b' c' h1 h2 => hg (i + 1) b' c' (by simpa using h1) (by simpa using h2)
  | [], _ :: _, hl, _ => by simp at hl
  | _ :: _, [], hl, _ => by simp at hl
/-- The new name of a block in a list of names. -/
theorem rnI_at {b i0 : Nat} : ∀ {bs : List Nat} {i : Nat}, bs[i]? = some b → (∀ k, k < i → bs[k]? ≠ some b) → rnI b bs i0 = some (i0 + i)
  | [], i, h, _ => by simp at h
  | q :: bs, 0, h, _ => by simp at h; simp [rnI, h]
  | q :: bs, i + 1, h, hn => by
    have h0 : b ≠ q := fun e => hn 0 (by omega) (by simp [e])
    have := rnI_at (b := b) (i0 := i0 + 1) (bs := bs) (i := i) (by simpa using h) fun k hk => by simpa using hn (k + 1) (by omega)
    simp only [rnI, if_neg h0, this]
    congr 1; omega
end Go.Pe
