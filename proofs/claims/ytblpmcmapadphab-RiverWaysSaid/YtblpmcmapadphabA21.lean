import Derived.Test.YtblpmcmapadphabA13
import Derived.Test.YtblpmcmapadphabA18
import Derived.Test.YtblpmcmapadphabA20
set_option linter.unusedVariables false
set_option linter.unusedSimpArgs false
/- The walk through a round of a loop over a function, and through a function that yields. -/
namespace Go.Pe
open Go
section
variable {P : Program} {md : Oper → Bool} {rd : Option Nat} {Q : Exit → List AV → H → Prop} {ρ : List AV} {h : H}
theorem ae_skip {t : Tag (vcE P md rd .skip Q)} : ap (vcE P md rd .skip Q) t ρ h = ap (Q .normal) .mk ρ h := rfl
theorem ae_region {id : Nat} {l : List Oper} {t : Tag (vcE P md rd (.region id l.toArray false) Q)} : ap (vcE P md rd (.region id l.toArray false) Q) t ρ h = ap (vcOps P md l.toArray (Q .normal) l) .mk ρ h := rfl
theorem ae_seq {x y : Code} {t : Tag (vcE P md rd (.seq x y) Q)} : ap (vcE P md rd (.seq x y) Q) t ρ h = ap (vcE P md rd x (seqK (vcE P md rd y Q) Q)) .mk ρ h := rfl
theorem ae_cond {c : Operand} {x y : Code} {t : Tag (vcE P md rd (.cond c x y) Q)} : ap (vcE P md rd (.cond c x y) Q) t ρ h = onBool (aev ρ c) (fun b => ifB b (ap (vcE P md rd x Q) .mk ρ h) (ap (vcE P md rd y Q) .mk ρ h) .mk .mk) False .mk .mk := rfl
theorem ae_block {id : Nat} {x : Code} {t : Tag (vcE P md rd (.block id x) Q)} : ap (vcE P md rd (.block id x) Q) t ρ h = ap (vcE P md rd x (blockK id Q)) .mk ρ h := rfl
theorem ae_exit {id : Nat} {t : Tag (vcE P md rd (.exit id) Q)} : ap (vcE P md rd (.exit id) Q) t ρ h = ap (Q (.exit id)) .mk ρ h := rfl
theorem ae_ret {t : Tag (vcE P md rd .ret Q)} : ap (vcE P md rd .ret Q) t ρ h = ap (Q .ret) .mk ρ h := rfl
theorem vcE_mono : ∀ {code : Code} {Q Q' : Exit → List AV → H → Prop} {ρ : List AV} {h : H}, (∀ e ρ h, Q e ρ h → Q' e ρ h) → vcE P md rd code Q ρ h → vcE P md rd code Q' ρ h := by
  intro code
  induction code with
  | skip => intro Q Q' ρ h hq hv; exact hq _ _ _ hv
  | region id ops draw =>
    intro Q Q' ρ h hq hv
    cases draw with
    | false => exact vcOps_mono (fun ρ h => hq _ ρ h) ops.toList ρ h hv
    | true =>
      obtain ⟨g1, g2, ct, g3, g4, g5⟩ := hv
      exact ⟨g1, g2, ct, g3, g4, vcDr_mono (fun ρ h => hq _ ρ h) ops.toList 0 ρ h.get g5⟩
  | seq x y ihx ihy =>
    intro Q Q' ρ h hq hv
    refine ihx (fun e ρ h he => ?_) hv
    cases e with
    | normal => exact ihy hq he
    | _ => exact hq _ _ _ he
  | cond cc x y ihx ihy =>
    intro Q Q' ρ h hq hv
    simp only [vcE, onBool] at hv ⊢
    split at hv
    · exact ifB_mono (ihx hq) (ihy hq) hv
    · exact hv.elim
    · exact hv.elim
  | block id x ih =>
    intro Q Q' ρ h hq hv
    refine ih (fun e ρ h he => ?_) hv
    cases e with
    | exit id' =>
      simp only at he ⊢
      split at he
      · rename_i hid; rw [if_pos hid]; exact hq _ _ _ he
      · rename_i hid; rw [if_neg hid]; exact hq _ _ _ he
    | _ => exact hq _ _ _ he
  | loop x ih =>
    intro Q Q' ρ h hq hv
    obtain ⟨I, h1, h2⟩ := hv
    refine ⟨I, h1, fun j ρ h hI => ih (fun e ρ h he => ?_) (h2 j ρ h hI)⟩
    cases e with
    | normal => exact he
    | _ => exact hq _ _ _ he
  | rangeFunc g ps assign body _ _ => intro Q Q' ρ h hq hv; exact Ranged_mono hq hv
  | exit id => intro Q Q' ρ h hq hv; exact hq _ _ _ hv
  | scope _ _ => intro Q Q' ρ h hq hv; exact hv.elim
  | label _ => intro Q Q' ρ h hq hv; exact hv.elim
  | goto _ => intro Q Q' ρ h hq hv; exact hv.elim
  | ret => intro Q Q' ρ h hq hv; exact hq _ _ _ hv
  | refuse _ => intro Q Q' ρ h hq hv; exact hv.elim
/-- A loop whose state is written out: the slots by what is known of them, the heap as it is. -/
def LoopCE (P : Program) (md : Oper → Bool) (rd : Option Nat) (x : Code) (Q : Exit → List AV → H → Prop) (_ : Tag Q) (ρ : List AV) (h : H) : Prop := Looped (vcE P md rd x) Q ρ h
theorem ae_loop {x : Code} {t : Tag (vcE P md rd (.loop x) Q)} : ap (vcE P md rd (.loop x) Q) t ρ h = LoopCE P md rd x Q .mk ρ h := rfl
def againE {σ : Type} (N : Nat) (E : σ → List (Nat × AV)) (HH : σ → H) (I : σ → Prop) (μ : σ → Nat) (m : Nat) : List AV → H → Prop := fun ρ h => ∃ s j, I s ∧ μ s < m ∧ ρ = en N j (E s) ∧ h = HH s
theorem againE_in {σ : Type} {N : Nat} {E : σ → List (Nat × AV)} {HH : σ → H} {I : σ → Prop} {μ : σ → Nat} {m : Nat} {t : Tag (againE N E HH I μ m)} (s : σ) (j : Nat → AV) (hI : I s) (hμ : μ s < m) (hρ : ρ = en N j (E s)) (hh : h = HH s) : ap (againE N E HH I μ m) t ρ h := ⟨s, j, hI, hμ, hρ, hh⟩
theorem LoopCE.on {x : Code} {σ : Type} (N : Nat) (E : σ → List (Nat × AV)) (HH : σ → H) (I : σ → Prop) (μ : σ → Nat) (s0 : σ) (j0 : Nat → AV) (hI : I s0) (hρ : ρ = en N j0 (E s0)) (hh : h = HH s0)
    (round : ∀ s j, I s → ap (vcE P md rd x (seqK (againE N E HH I μ (μ s)) Q)) .mk (en N j (E s)) (HH s)) {t : Tag Q} : LoopCE P md rd x Q t ρ h := by
  refine ⟨fun m ρ h => ∃ s j, m = μ s ∧ I s ∧ ρ = en N j (E s) ∧ h = HH s, ⟨_, s0, j0, rfl, hI, hρ, hh⟩, ?_⟩
  rintro m ρ h ⟨s, j, rfl, hs, rfl, rfl⟩
  refine vcE_mono (fun e ρ' h' he => ?_) (round s j hs)
  cases e with
  | normal =>
    obtain ⟨s', j', g1, g2, g3, g4⟩ := he
    exact ⟨_, g2, s', j', rfl, g1, g3, g4⟩
  | _ => exact he
/-- What lies in slots that are named twice. -/
theorem en_more {N : Nat} {j : Nat → AV} {E E' : List (Nat × AV)} : en N j (E ++ E') = en N (fun t => lk j t E') E := by
  have key : ∀ t, lk j t (E ++ E') = lk (fun t => lk j t E') t E := fun t => by
    induction E with
    | nil => rfl
    | cons q E ih =>
      obtain ⟨q, x⟩ := q
      simp only [List.cons_append, lk]
      split
      · rfl
      · exact ih
  unfold en
  exact List.map_congr_left fun t _ => key t
/-- ONE ROUND. -/
theorem Rd.on {b : Nat} {r : Lp} {p N : Nat} {j : Nat → AV} {E : List (Nat × AV)} {a x : AV} {h' : H} (md : Oper → Bool) (hb : h.lp b = some r) (hρ : r.ρ = en N j E) (hps : r.ps = #[p]) (hp : p < N)
    (hv : ap (vcE P md (some b) r.assign (fun e ρ1 h1 => e = .normal ∧ ∃ r1, h1.lp b = some r1 ∧ r1.st = .ready ∧ ap (vcE P md (some b) r.body (fun e _ h2 => FinR b x h' e h2)) .mk ρ1 (h1.lset b (some { r1 with st := .busy })))) .mk (en N j ((p, a) :: E)) h) : Rd P b [a] h x h' := by
  refine Rd.of_vcE md hb (by rw [hps]; rfl) ?_
  have : putPs r.ρ r.ps.toList [a] = en N j ((p, a) :: E) := by
    rw [hρ, hps]
    exact en_set hp
  rw [this]; exact hv
theorem Rd.on2 {b : Nat} {p N : Nat} {j : Nat → AV} {E : List (Nat × AV)} {a : AV} {h' : H} {asg bo : Code} (md : Oper → Bool) (hb : h.lp b = some { ρ := en N j E, ps := #[p], assign := asg, body := bo, st := .ready, pend := none }) (hp : p < N)
    (hv : ap (vcE P md (some b) asg (fun e ρ1 h1 => e = .normal ∧ h1.lp b = some { ρ := en N j E, ps := #[p], assign := asg, body := bo, st := .ready, pend := none } ∧ ap (vcE P md (some b) bo (fun e _ h2 => e = .normal ∧ h2.lp b = some { ρ := en N j E, ps := #[p], assign := asg, body := bo, st := .busy, pend := none } ∧ h' = h2.lset b (some { ρ := en N j E, ps := #[p], assign := asg, body := bo, st := .ready, pend := none }))) .mk ρ1 (h1.lset b (some { ρ := en N j E, ps := #[p], assign := asg, body := bo, st := .busy, pend := none })))) .mk (en N j ((p, a) :: E)) h) : Rd P b [a] h (.val (.bool true)) h' := by
  refine Rd.on md hb rfl rfl hp (vcE_mono (fun e ρ1 h1 he => ?_) hv)
  obtain ⟨e1, e2, e3⟩ := he
  refine ⟨e1, _, e2, rfl, vcE_mono (fun e ρ2 h2 he => ?_) e3⟩
  obtain ⟨rfl, g2, g3⟩ := he
  exact ⟨_, g2, rfl, g3⟩
/-- A FUNCTION AND ALL THAT IT HAS MADE, by sparse slots. -/
theorem Fn.onE {f : FuncId} {fn : Func} {code : Code} (md : Oper → Bool) {args : List AV} {hh : H} {y : AV} (hcall : callable P f = true) (hf : P.funcs[f]? = some fn) (hb : fn.body = some code) (hN : args.length ≤ fn.ntmps)
    (hv : ap (vcE P md none code (fun e ρ k => (e = .normal ∨ e = .ret) ∧ resA P fn.results ρ k = some y ∧ k = hh)) .mk (en fn.ntmps (fun _ => .val undef) (en0 0 args)) h) : Fn P f args h y hh := by
  refine Fn.of_vcE md hcall hf hb ?_
  rw [en_start hN]; exact hv
end
attribute [simp] ae_skip ae_region ae_seq ae_cond ae_block ae_exit ae_ret ae_loop
end Go.Pe

/- The bed at a spot: a loop over a function. -/
namespace Go.Pe
open Go Go.Proofs Go.Proofs.Ytblpmcmapadphab
attribute [local simp] t3 u3 t4 u4 t5 u5 t22 u22 t23 u23 t25 u25 t27 u27 t28 u28 t30 u30 t32 u32 t34 u34 t37 u37 t43 u43 t48 u48 t49 u49 t50 u50 t54 u54 t75 u75 t77 u77         t102 u102 t117 u117 t119 u119 t123 u123 t125 u125 t130 u130 t134 u134 t138 u138   t155 u155 t156 u156 t160 u160 t172 u172
set_option maxRecDepth 20000
set_option maxHeartbeats 8000000
attribute [local simp] fW_eq fR_eq fS_eq extA fBd_eq fL_eq

/-- A heap in which one block holds bounds, and to which blocks are added. -/
noncomputable def HX (N0 T : Nat) (g0 : Nat → Option (List AV)) (L : Nat → Option Lp) (ex : List (List AV)) (top : Bd) : H := { next := N0 + ex.length, get := fun q => if q = T then some [I top.lo, I top.hi] else if q < N0 then g0 q else ex[q - N0]?, lp := L }
section
variable {N0 T : Nat} {g0 : Nat → Option (List AV)} {L : Nat → Option Lp} {ex : List (List AV)} {top : Bd} {l z : List AV} {a c : Int} {b : Nat} {r : Option Lp}
theorem HX_next : (HX N0 T g0 L ex top).next = N0 + ex.length := rfl
theorem HX_lp : (HX N0 T g0 L ex top).lp = L := rfl
theorem HX_top : (HX N0 T g0 L ex top).get T = some [I top.lo, I top.hi] := by simp [HX]
theorem HX_last (hT : T < N0) : (HX N0 T g0 L (ex ++ [l]) top).get (N0 + ex.length) = some l := by
  simp only [HX]
  rw [if_neg (by omega), if_neg (by omega), Nat.add_sub_cancel_left]
  simp
theorem HX_push (hT : T < N0) : (HX N0 T g0 L ex top).push l = HX N0 T g0 L (ex ++ [l]) top := by
  unfold HX H.push
  simp only [H.mk.injEq, and_true]
  refine ⟨by simp; omega, funext fun q => ?_⟩
  by_cases h1 : q = N0 + ex.length
  · subst h1
    rw [if_pos rfl, if_neg (by omega), if_neg (by omega), Nat.add_sub_cancel_left]; simp
  · rw [if_neg h1]
    by_cases h2 : q = T
    · rw [if_pos h2, if_pos h2]
    · rw [if_neg h2, if_neg h2]
      by_cases h3 : q < N0
      · rw [if_pos h3, if_pos h3]
      · rw [if_neg h3, if_neg h3]
        by_cases h4 : q - N0 < ex.length
        · rw [List.getElem?_append_left h4]
        · rw [List.getElem?_eq_none (by omega), List.getElem?_eq_none (by simp; omega)]
theorem HX_setlast (hT : T < N0) : (HX N0 T g0 L (ex ++ [z]) top).set (N0 + ex.length) l = HX N0 T g0 L (ex ++ [l]) top := by
  unfold HX H.set
  simp only [H.mk.injEq, and_true]
  refine ⟨by simp, funext fun q => ?_⟩
  by_cases h1 : q = N0 + ex.length
  · subst h1
    rw [if_pos rfl, if_neg (by omega), if_neg (by omega), Nat.add_sub_cancel_left]; simp
  · rw [if_neg h1]
    by_cases h2 : q = T
    · rw [if_pos h2, if_pos h2]
    · rw [if_neg h2, if_neg h2]
      by_cases h3 : q < N0
      · rw [if_pos h3, if_pos h3]
      · rw [if_neg h3, if_neg h3]
        by_cases h4 : q - N0 < ex.length
        · rw [List.getElem?_append_left h4, List.getElem?_append_left h4]
        · rw [List.getElem?_eq_none (by simp; omega), List.getElem?_eq_none (by simp; omega)]
theorem HX_settop : (HX N0 T g0 L ex top).set T [I a, I c] = HX N0 T g0 L ex ⟨a, c⟩ := by
  unfold HX H.set
  simp only [H.mk.injEq, and_true, true_and]
  funext q
  by_cases h1 : q = T
  · simp [h1]
  · simp [h1]
theorem HX_lset : (HX N0 T g0 L ex top).lset b r = HX N0 T g0 (fun q => if q = b then r else L q) ex top := rfl
end
theorem en_forget {N : Nat} {j : Nat → AV} {B E : List (Nat × AV)} (h : ∀ q ∈ E, lk j q.1 B = q.2) : en N j B = en N (fun t => lk j t B) E := by
  have key : ∀ (E : List (Nat × AV)) (t : Nat), (∀ q ∈ E, lk j q.1 B = q.2) → lk j t B = lk (fun t => lk j t B) t E := by
    intro E t
    induction E with
    | nil => intro _; rfl
    | cons q E ih =>
      intro hq
      obtain ⟨q, x⟩ := q
      by_cases ht : t = q
      · subst ht; rw [lk_hit]; exact hq (t, x) (by simp)
      · rw [lk_miss ht]; exact ih fun z hz => hq z (by simp [hz])
  unfold en
  exact List.map_congr_left fun t _ => key E t h
def mx (a b : Bd) : Bd := ⟨max a.lo b.lo, max a.hi b.hi⟩
/-- The blocks that ranging over the shoals adds. -/
noncomputable def exS (p hour : Int) (ex : List (List AV)) (ss : List Sh) : List (List AV) := ss.foldl (fun ex s => if s.place = p then ex ++ [fS s] ++ [[I (grw s hour).lo, I (grw s hour).hi]] else ex ++ [fS s]) ex
theorem exS_snoc {p hour : Int} {ex : List (List AV)} {ss : List Sh} {s : Sh} : exS p hour ex (ss ++ [s]) = if s.place = p then exS p hour ex ss ++ [fS s] ++ [[I (grw s hour).lo, I (grw s hour).hi]] else exS p hour ex ss ++ [fS s] := by simp [exS, List.foldl_append]
theorem beds1_fn {r : Rv} {f1 : Bool} {p hour : Int} {q b N0 T : Nat} {y : Rc} {g0 : Nat → Option (List AV)} {L : Nat → Option Lp} {top : Bd} (hT : T < N0) (hs : ∀ s ∈ r.ss, OkSh s) (hm : r.ss.length ≤ 50) (h1 : -1000 ≤ hour) (h2 : hour ≤ 1000)
    (hround : ∀ ex top (e : Bd), Rd Try.prog b [.agg [I e.lo, I e.hi]] (HX N0 T g0 L ex top) (B true) (HX N0 T g0 L (ex ++ [[I e.lo, I e.hi]]) (mx top e))) :
    Fn Try.prog 71 [.yld b, .rop (spotAV y q p), .rop [r.reaches f1, r.shoals], .rop [I hour]] (HX N0 T g0 L [] top) (.tup []) (HX N0 T g0 L (exS p hour [[I y.bot.lo, I y.bot.hi]] r.ss) (bedF p hour (mx top y.bot) r.ss)) := by
  refine Fn.onE noM (by kernel_rfl) Try.func71 rfl (by simp) ?_
  simp -dsimp -implicitDefEqProofs [spotAV]
  refine onRound_in (hround _ _ y.bot) ?_
  simp -dsimp -implicitDefEqProofs
  have hi1 := @HX_push N0 T g0 L
  have hi2 := @HX_setlast N0 T g0 L
  refine LoopCE.on 34 (fun i => [(0, .yld b), (1, .rop (spotAV y q p)), (2, .rop [r.reaches f1, r.shoals]), (3, .rop [I hour]), (14, r.shoals), (15, I r.ss.length), (16, I (i : Nat))])
    (fun i => HX N0 T g0 L (exS p hour [[I y.bot.lo, I y.bot.hi]] (r.ss.take i)) (bedF p hour (mx top y.bot) (r.ss.take i))) (fun i => i ≤ r.ss.length) (fun i => r.ss.length - i) 0 _ (by simp) (en_forget ?_) (by simp [exS, bedF]) ?_
  · simp -dsimp -implicitDefEqProofs [spotAV]
  intro i j hi
  simp -dsimp -implicitDefEqProofs
  refine ifD_in (fun hlt => ?_) (fun hge => ?_)
  · have hlt' : i < r.ss.length := by omega
    obtain ⟨s, hx⟩ : ∃ s, r.ss[i]? = some s := ⟨_, List.getElem?_eq_getElem hlt'⟩
    have hst : r.ss.take (i + 1) = r.ss.take i ++ [s] := by rw [List.take_add_one, hx]; rfl
    have hsk := hs s (List.mem_of_getElem? hx)
    obtain ⟨ex, hex⟩ : ∃ ex, ex = exS p hour [[I y.bot.lo, I y.bot.hi]] (r.ss.take i) := ⟨_, rfl⟩
    obtain ⟨tp, htp⟩ : ∃ tp, tp = bedF p hour (mx top y.bot) (r.ss.take i) := ⟨_, rfl⟩
    have e1 : exS p hour [[I y.bot.lo, I y.bot.hi]] (r.ss.take (i + 1)) = if s.place = p then ex ++ [fS s] ++ [[I (grw s hour).lo, I (grw s hour).hi]] else ex ++ [fS s] := by rw [hst, exS_snoc, ← hex]
    have e2 : bedF p hour (mx top y.bot) (r.ss.take (i + 1)) = bedS p hour tp s := by rw [hst, bedF_snoc, ← htp]
    rw [← hex, ← htp]
    have hl : ∀ l, (HX N0 T g0 L (ex ++ [l]) tp).get (N0 + ex.length) = some l := fun l => HX_last hT
    have hpu : ∀ l, (HX N0 T g0 L ex tp).push l = HX N0 T g0 L (ex ++ [l]) tp := fun l => HX_push hT
    have hse : ∀ z l, (HX N0 T g0 L (ex ++ [z]) tp).set (N0 + ex.length) l = HX N0 T g0 L (ex ++ [l]) tp := fun z l => HX_setlast hT
    have hnx : (HX N0 T g0 L ex tp).next = N0 + ex.length := rfl
    by_cases hpl : s.place = p
    · have d : (s.place == p) = true := by simp [hpl]
      simp -dsimp -implicitDefEqProofs [hx, hpu, hse, hl, hnx, d, spotAV]
      refine onCall_in (grown_fn hsk h1 h2) ?_
      simp -dsimp -implicitDefEqProofs
      refine onRound_in (hround _ _ (grw s hour)) ?_
      simp -dsimp -implicitDefEqProofs
      refine againE_in (i + 1) _ (by omega) (by omega) (en_forget ?_) (by rw [e1, e2, if_pos hpl]; simp [bedS, mx, hpl])
      simp -dsimp -implicitDefEqProofs [spotAV]
      rw [wrap_in (by omega) (by omega)]
    · have d : (s.place == p) = false := by simp [hpl]
      simp -dsimp -implicitDefEqProofs [hx, hpu, hse, hl, hnx, d, spotAV]
      refine againE_in (i + 1) _ (by omega) (by omega) (en_forget ?_) (by rw [e1, e2, if_neg hpl]; simp [bedS, hpl])
      simp -dsimp -implicitDefEqProofs [spotAV]
      rw [wrap_in (by omega) (by omega)]
  · have hin : i = r.ss.length := by omega
    subst hin
    simp -dsimp -implicitDefEqProofs
    exact ⟨.inl rfl, rfl, rfl⟩
end Go.Pe

/- The bed at a spot. -/
namespace Go.Pe
open Go Go.Proofs Go.Proofs.Ytblpmcmapadphab
attribute [local simp] t3 u3 t4 u4 t5 u5 t22 u22 t23 u23 t25 u25 t27 u27 t28 u28 t30 u30 t32 u32 t34 u34 t37 u37 t43 u43 t48 u48 t49 u49 t50 u50 t54 u54 t75 u75 t77 u77         t102 u102 t117 u117 t119 u119 t123 u123 t125 u125 t130 u130 t134 u134 t138 u138   t155 u155 t156 u156 t160 u160 t172 u172
set_option maxRecDepth 20000
set_option maxHeartbeats 8000000
attribute [local simp] fW_eq fR_eq fS_eq extA fBd_eq fL_eq

theorem opn_HX {h : H} {T : Nat} {ρ : List AV} {ps : Array Tmp} {asg bo : Code} (hT : h.get T = some [I 0, I 0]) (hT2 : T < h.next) (hz : ∀ q, h.next ≤ q → h.get q = none) :
    h.opn ρ ps asg bo = HX (h.next + 1) T h.get (fun q => if q = h.next then some { ρ := ρ, ps := ps, assign := asg, body := bo, st := .ready, pend := none } else h.lp q) [] ⟨0, 0⟩ := by
  unfold HX H.opn
  simp only [H.mk.injEq, and_true]
  refine ⟨by simp, funext fun q => ?_⟩
  by_cases h1 : q = T
  · subst h1; rw [if_pos rfl, hT]
  · rw [if_neg h1]
    by_cases h3 : q < h.next + 1
    · rw [if_pos h3]
    · rw [if_neg h3, hz q (by omega)]; simp
theorem ranged_beds {r : Rv} {f1 : Bool} {p hour : Int} {q T n N0 : Nat} {y : Rc} {ρ : List AV} {ps : Array Tmp} {asg bo : Code} {h : H} {Q : Exit → List AV → H → Prop} (hs : ∀ s ∈ r.ss, OkSh s) (hm : r.ss.length ≤ 50) (h1 : -1000 ≤ hour) (h2 : hour ≤ 1000)
    (hn : h.next = n) (hN : N0 = n + 1) (hT : h.get T = some [I 0, I 0]) (hT2 : T < n) (hz : ∀ q, n ≤ q → h.get q = none) (hlp : h.lp = fun _ => none)
    (hround : ∀ g0 (L : Nat → Option Lp) ex top (e : Bd), L n = some { ρ := ρ, ps := ps, assign := asg, body := bo, st := .ready, pend := none } → Rd Try.prog n [.agg [I e.lo, I e.hi]] (HX N0 T g0 L ex top) (B true) (HX N0 T g0 L (ex ++ [[I e.lo, I e.hi]]) (mx top e)))
    (hq : ∀ ex, ap (Q .normal) .mk ρ (HX N0 T h.get (fun _ => none) ex (bedF p hour (mx ⟨0, 0⟩ y.bot) r.ss))) :
    Ranged Try.prog none ps asg bo (.clo 71 [.rop (spotAV y q p), .rop [r.reaches f1, r.shoals], .rop [I hour]]) Q ρ h := by
  subst hn; subst hN
  refine ⟨trivial, .tup [], HX (h.next + 1) T h.get (fun q => if q = h.next then some { ρ := ρ, ps := ps, assign := asg, body := bo, st := .ready, pend := none } else h.lp q) (exS p hour [[I y.bot.lo, I y.bot.hi]] r.ss) (bedF p hour (mx ⟨0, 0⟩ y.bot) r.ss), { ρ := ρ, ps := ps, assign := asg, body := bo, st := .ready, pend := none }, ?_, ?_, by simp, ?_⟩
  · rw [opn_HX hT hT2 hz]
    exact beds1_fn (by omega) hs hm h1 h2 fun ex top e => hround _ _ ex top e (by simp)
  · simp [HX]
  · have e : (fun x => if x = h.next then (none : Option Lp) else if x = h.next then some { ρ := ρ, ps := ps, assign := asg, body := bo, st := .ready, pend := none } else h.lp x) = fun _ => none := by
      funext x; rw [hlp]; by_cases hx : x = h.next <;> simp [hx]
    simp only [jumped, HX_lset, e]
    exact hq _
theorem bedAt_fn {r : Rv} {f1 : Bool} {p hour : Int} {q : Nat} {y : Rc} {h : H} (hs : ∀ s ∈ r.ss, OkSh s) (hm : r.ss.length ≤ 50) (h1 : -1000 ≤ hour) (h2 : hour ≤ 1000) (hb : 0 ≤ y.bot.lo ∧ 0 ≤ y.bot.hi) :
    Fn Try.prog 40 [r.av f1, .agg (spotAV y q p), I hour] h (.agg [I (bedF p hour y.bot r.ss).lo, I (bedF p hour y.bot r.ss).hi]) h := by
  refine Fn.beside ?_ rfl h
  refine Fn.ofR0 noM (by kernel_rfl) Try.func40 rfl (by simp) ?_
  have hmx : mx ⟨0, 0⟩ y.bot = y.bot := by
    obtain ⟨b1, b2⟩ := hb
    have e1 : max 0 y.bot.lo = y.bot.lo := by omega
    have e2 : max 0 y.bot.hi = y.bot.hi := by omega
    simp only [mx, e1, e2]
  have hbeds := fun h => beds_fn (r := r) (f1 := f1) (p := p) (k := hour) (q := q) (y := y) (h := h)
  simp -dsimp -implicitDefEqProofs [spotAV]
  refine onCall_in (hbeds _) ?_
  simp -dsimp -implicitDefEqProofs [ar_range]
  refine ranged_beds (T := 3) (n := 4) (N0 := 5) hs hm h1 h2 (by simp) rfl (by simp) (by simp) ?_ (by simp) ?_ ?_
  · intro q hq
    have h3 : ¬ q = 3 := by omega
    have h4 : ¬ q = 2 := by omega
    have h5 : ¬ q = 1 := by omega
    have h6 : ¬ q = 0 := by omega
    simp [mkH, h3, h4, h5, h6]
  · intro g0 L ex top e hL
    have hpu : ∀ L l, (HX 5 3 g0 L ex top).push l = HX 5 3 g0 L (ex ++ [l]) top := fun L l => HX_push (by omega)
    have hse : ∀ L z l, (HX 5 3 g0 L (ex ++ [z]) top).set (5 + ex.length) l = HX 5 3 g0 L (ex ++ [l]) top := fun L z l => HX_setlast (by omega)
    have hla : ∀ L l, (HX 5 3 g0 L (ex ++ [l]) top).get (5 + ex.length) = some l := fun L l => HX_last (by omega)
    have hto : ∀ L ex top, (HX 5 3 g0 L ex top).get 3 = some [I top.lo, I top.hi] := fun L ex top => HX_top
    have hst : ∀ L ex top a c, (HX 5 3 g0 L ex top).set 3 [I a, I c] = HX 5 3 g0 L ex ⟨a, c⟩ := fun L ex top a c => HX_settop
    have hnx : ∀ L, (HX 5 3 g0 L ex top).next = 5 + ex.length := fun L => rfl
    refine Rd.on2 noM hL (by simp) ?_
    simp -dsimp -implicitDefEqProofs [hpu, hse, hla, hnx]
    refine ⟨rfl, hL, ?_⟩
    rw [HX_lset]
    simp -dsimp -implicitDefEqProofs [hla, hto, hst]
    refine ⟨rfl, by simp [HX], ?_⟩
    rw [HX_lset]
    refine congrArg (fun L => HX 5 3 g0 L (ex ++ [[I e.lo, I e.hi]]) (mx top e)) (funext fun x => ?_)
    by_cases hx : x = 4
    · subst hx; rw [hL]; simp
    · simp [hx]
  · intro ex
    rw [hmx]
    have hto : ∀ g0 L ex top, (HX 5 3 g0 L ex top).get 3 = some [I top.lo, I top.hi] := fun g0 L ex top => HX_top
    have hlo : ∀ g0 L ex top, (HX 5 3 g0 L ex top).get 2 = g0 2 := fun g0 L ex top => by simp [HX]
    simp -dsimp -implicitDefEqProofs [hto, hlo]
end Go.Pe

/- Depth and Bed. -/
namespace Go.Pe
open Go Go.Proofs Go.Proofs.Ytblpmcmapadphab
attribute [local simp] t3 u3 t4 u4 t5 u5 t22 u22 t23 u23 t25 u25 t27 u27 t28 u28 t30 u30 t32 u32 t34 u34 t37 u37 t43 u43 t48 u48 t49 u49 t50 u50 t54 u54 t75 u75 t77 u77         t102 u102 t117 u117 t119 u119 t123 u123 t125 u125 t130 u130 t134 u134 t138 u138   t155 u155 t156 u156 t160 u160 t172 u172
set_option maxRecDepth 20000
set_option maxHeartbeats 8000000
attribute [local simp] fW_eq fR_eq fS_eq extA fBd_eq fL_eq

/-- What the errors of a place and an hour are, the river and the forecast being good. -/
theorem depth_fn {f : Fc} {f1 : Bool} {p : Int} {q k : Nat} {y : Rc} {row : List Bd} {b : Bd} {h : H} (g : GoodF f) (o : OkRv f) (hy : f.r.rs[q]? = some y) (hr : (flowsF f.r f.sides)[q]? = some row) (hb : row[k]? = some b) (hk : k < hrs f.sides) (b1 : b.lo.natAbs ≤ 1000000000000) (b2 : b.hi.natAbs ≤ 1000000000000) :
    Fn Try.prog 20 [stAV f.r f1 (hrs f.sides) (.ro false 1 ((flowsF f.r f.sides).map fL)), .agg (spotAV y q p), I k] h (.agg [I (dpt (lvl y b) (bedF p k y.bot f.r.ss)).lo, I (dpt (lvl y b) (bedF p k y.bot f.r.ss)).hi]) h := by
  refine Fn.beside ?_ rfl h
  refine Fn.ofR0 noM (by kernel_rfl) Try.func20 rfl (by simp) ?_
  have hm := g.hmax
  have hmm := g.small.r.m
  have hv := validR_parts ((List.all_eq_true.1 g.rv) y (List.mem_of_getElem? hy))
  have hbot := vB_iff.1 hv.2.2.2.2.2.2
  have hlv := lvl_in (r := y) (b := b) hv.2.2.2.1 hv.2.2.2.2.1
  have hbd := bedF_in (p := p) (hour := (k : Int)) (b := y.bot) (by omega) (by omega) (by omega) o.sh
  have c1 := fun h => level_fn (r := f.r) (f1 := f1) (hours := (hrs f.sides : Int)) (p := p) (h := h) hr hb hv.2.2.2.1 b1 b2
  have c2 := fun h => bedAt_fn (r := f.r) (f1 := f1) (p := p) (hour := (k : Int)) (q := q) (y := y) (h := h) o.sh hmm (by omega) (by omega) (by omega)
  obtain ⟨l, hl⟩ : ∃ l, l = lvl y b := ⟨_, rfl⟩
  obtain ⟨e, he⟩ : ∃ e, e = bedF p k y.bot f.r.ss := ⟨_, rfl⟩
  simp only [← hl, ← he] at hlv hbd c1 c2
  rw [← hl, ← he]
  have w1 : IntKind.i64.wrap (l.lo - e.hi) = l.lo - e.hi := wrap_in (by omega) (by omega)
  have w2 : IntKind.i64.wrap (l.hi - e.lo) = l.hi - e.lo := wrap_in (by omega) (by omega)
  simp -dsimp -implicitDefEqProofs [spotAV]
  refine DrawR.on {} (by kernel_rfl) (by simp) ?_
  simp -dsimp -implicitDefEqProofs
  refine onCallQ_in (c1 _) ?_
  simp -dsimp -implicitDefEqProofs
  refine onCallQ_in (c2 _) ?_
  simp -dsimp -implicitDefEqProofs [w1, w2, dpt]
theorem Depth_bad {f : Fc} {f1 f2 : Bool} {p k : Int} {h : H} (hw : SmallF f) (he : startE f ≠ 0) : Fn Try.prog 10 [f.r.av f1, sidesAV f.sides f2, I p, I k] h (.tup [.agg [I 0, I 0], I (startE f)]) h := by
  refine Fn.beside ?_ rfl h
  refine Fn.ofR0 noM (by kernel_rfl) Try.func10 rfl (by simp) ?_
  have ne0 : (startE f != 0) = true := by simpa using he
  simp -dsimp -implicitDefEqProofs
  refine onCall_in (newStream_bad hw he) ?_
  simp -dsimp -implicitDefEqProofs [ne0]
theorem Depth_none {f : Fc} {f1 f2 : Bool} {p k : Int} {h : H} (g : GoodF f) (o : OkRv f) (he : startE f = 0) (hp : p < 0 ∨ lenSum f.r.rs ≤ p) : Fn Try.prog 10 [f.r.av f1, sidesAV f.sides f2, I p, I k] h (.tup [.agg [I 0, I 0], I 7]) h := by
  refine Fn.beside ?_ rfl h
  refine Fn.ofR0 noM (by kernel_rfl) Try.func10 rfl (by simp) ?_
  simp -dsimp -implicitDefEqProofs
  refine onCall_in (newStream_fn g he) ?_
  simp -dsimp -implicitDefEqProofs
  refine onCall_in (at_miss o.len g.small.r.n hp) ?_
  simp -dsimp -implicitDefEqProofs [noSpot]
theorem Depth_err {f : Fc} {f1 f2 : Bool} {p k : Int} {q : Nat} {y : Rc} {h : H} (g : GoodF f) (o : OkRv f) (he : startE f = 0) (hp : 0 ≤ p) (ha : At f.r.rs p q y) (hk : inB 0 (hrs f.sides - 1) k = false) : Fn Try.prog 10 [f.r.av f1, sidesAV f.sides f2, I p, I k] h (.tup [.agg [I 0, I 0], I 3]) h := by
  refine Fn.beside ?_ rfl h
  refine Fn.ofR0 noM (by kernel_rfl) Try.func10 rfl (by simp) ?_
  have hm := g.hmax
  simp -dsimp -implicitDefEqProofs
  refine onCall_in (newStream_fn g he) ?_
  simp -dsimp -implicitDefEqProofs
  refine onCall_in (at_fn o.len g.small.r.n hp ha (by omega)) ?_
  simp -dsimp -implicitDefEqProofs [noSpot, hk]
theorem Depth_fn {f : Fc} {f1 f2 : Bool} {p : Int} {q k : Nat} {y : Rc} {h : H} (g : GoodF f) (o : OkRv f) (he : startE f = 0) (hp : 0 ≤ p) (ha : At f.r.rs p q y) (hk : k < hrs f.sides) :
    Fn Try.prog 10 [f.r.av f1, sidesAV f.sides f2, I p, I k] h (.tup [.agg [I (dpt (lvl y (rf f.r f.sides q k)) (bedF p k y.bot f.r.ss)).lo, I (dpt (lvl y (rf f.r f.sides q k)) (bedF p k y.bot f.r.ss)).hi], I 0]) h := by
  refine Fn.beside ?_ rfl h
  refine Fn.ofR0 noM (by kernel_rfl) Try.func10 rfl (by simp) ?_
  have hm := g.hmax
  have hn := g.small.n
  have hq := (List.getElem?_eq_some_iff.1 ha.hx).1
  obtain ⟨row, e1, e2, e3⟩ := flowsF_rf g f.sides.length (Nat.le_refl _) q (by have := g.eq; omega)
  rw [List.take_length] at e1
  have hin := rf_in g q (k : Int)
  have hbig : (q + 1) * 10000000000 ≤ 250000000000 := Nat.mul_le_mul_right 10000000000 (show q + 1 ≤ 25 by have := g.eq; omega)
  have hb : (rf f.r f.sides q k).lo.natAbs ≤ 1000000000000 ∧ (rf f.r f.sides q k).hi.natAbs ≤ 1000000000000 := by
    revert hin hbig
    generalize (q + 1) * 10000000000 = m
    intro hin hbig
    omega
  have hk2 : inB 0 ((hrs f.sides : Int) - 1) (k : Int) = true := inB_iff.2 (by omega)
  have c1 := fun h => depth_fn (f1 := f1) (p := p) (h := h) g o ha.hx e1 (e3 k hk) hk hb.1 hb.2
  have c2 := fun h => at_fn (r := f.r) (f1 := f1) (fl := flowsF f.r f.sides) (hours := (hrs f.sides : Int)) (k := (k : Int)) (h := h) o.len g.small.r.n hp ha (by omega)
  simp only [hk2, if_true] at c2
  simp -dsimp -implicitDefEqProofs
  refine onCall_in (newStream_fn g he) ?_
  simp -dsimp -implicitDefEqProofs
  refine onCall_in (c2 _) ?_
  simp -dsimp -implicitDefEqProofs [spotAV]
  refine onCall_in (c1 _) ?_
  simp -dsimp -implicitDefEqProofs
end Go.Pe
