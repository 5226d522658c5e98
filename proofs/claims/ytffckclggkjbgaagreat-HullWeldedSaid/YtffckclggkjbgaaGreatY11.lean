import Derived.Test.YtffckclggkjbgaaGreatY10
import Derived.Test.YtffckclggkjbgaaGreatY09
set_option linter.unusedVariables false
set_option linter.unusedSimpArgs false
/- How simplification walks, by sparse slots: the equations, the loop's rule, a function's rule. -/
namespace Go.Pe
open Go

def LoopCR (P : Program) (md : Oper → Bool) (n0 : Nat) (x : Code) (Q : Exit → List AV → H → Prop) (_ : Tag Q) (ρ : List AV) (h : H) : Prop := LoopedR n0 (vcR P md n0 x) Q ρ h

section
variable {P : Program} {md : Oper → Bool} {n0 : Nat} {Q : Exit → List AV → H → Prop} {ρ : List AV} {h : H}
theorem ar_skip {t : Tag (vcR P md n0 .skip Q)} : ap (vcR P md n0 .skip Q) t ρ h = ap (Q .normal) .mk ρ h := rfl
theorem ar_region {id : Nat} {l : List Oper} {t : Tag (vcR P md n0 (.region id l.toArray false) Q)} : ap (vcR P md n0 (.region id l.toArray false) Q) t ρ h = ap (vcOps P md l.toArray (Q .normal) l) .mk ρ h := rfl
theorem ar_draw {id : Nat} {l : List Oper} {t : Tag (vcR P md n0 (.region id l.toArray true) Q)} : ap (vcR P md n0 (.region id l.toArray true) Q) t ρ h = DrawR P md l.toArray (Q .normal) .mk ρ h := rfl
theorem ar_seq {x y : Code} {t : Tag (vcR P md n0 (.seq x y) Q)} : ap (vcR P md n0 (.seq x y) Q) t ρ h = ap (vcR P md n0 x (seqK (vcR P md n0 y Q) Q)) .mk ρ h := rfl
theorem ar_cond {c : Operand} {x y : Code} {t : Tag (vcR P md n0 (.cond c x y) Q)} : ap (vcR P md n0 (.cond c x y) Q) t ρ h = onBool (aev ρ c) (fun b => ifB b (ap (vcR P md n0 x Q) .mk ρ h) (ap (vcR P md n0 y Q) .mk ρ h) .mk .mk) False .mk .mk := rfl
theorem ar_block {id : Nat} {x : Code} {t : Tag (vcR P md n0 (.block id x) Q)} : ap (vcR P md n0 (.block id x) Q) t ρ h = ap (vcR P md n0 x (blockK id Q)) .mk ρ h := rfl
theorem ar_loop {x : Code} {t : Tag (vcR P md n0 (.loop x) Q)} : ap (vcR P md n0 (.loop x) Q) t ρ h = LoopCR P md n0 x Q .mk ρ h := rfl
theorem ar_exit {id : Nat} {t : Tag (vcR P md n0 (.exit id) Q)} : ap (vcR P md n0 (.exit id) Q) t ρ h = ap (Q (.exit id)) .mk ρ h := rfl
theorem ar_ret {t : Tag (vcR P md n0 .ret Q)} : ap (vcR P md n0 .ret Q) t ρ h = ap (Q .ret) .mk ρ h := rfl
theorem ar_range {g : Operand} {ps : Array Tmp} {assign body : Code} {t : Tag (vcR P md n0 (.rangeFunc g ps assign body) Q)} : ap (vcR P md n0 (.rangeFunc g ps assign body) Q) t ρ h = Ranged P none ps assign body (aev ρ g) Q ρ h := rfl

/-- A STATEMENT WHOSE ORDER IS OPEN. -/
theorem DrawR.on {l : List Oper} {Q : List AV → H → Prop} {t : Tag Q} (ct : Cert) (h1 : (P.follows .mixedOrders && tmpsApart l.toArray && fpsApart l.toArray ct) = true) (hM : ∀ b ∈ ct.M, b < h.next) (hv : apG (vcDr P md ct l.toArray h Q l 0) .mk ρ h.get) : DrawR P md l.toArray Q t ρ h := by
  simp only [Bool.and_eq_true] at h1
  exact ⟨h1.1.1, h1.1.2, ct, h1.2, hM, hv⟩

theorem onBool_undef {K : Bool → Prop} {T : Prop} {t : Tag K} {t' : Tag T} : onBool (.val undef) K T t t' = T := rfl
theorem bin_beq {s by' : Nat} {z : List Value} {a1 f cm a b : Bool} : bin { kind := .bool, size := s, zero := z, agg := a1, bytes := by', fok := f, cmp := cm } .eql (.val (.bool a)) (.val (.bool b)) = some (.val (.bool (a == b))) := rfl
theorem bin_bne {s by' : Nat} {z : List Value} {a1 f cm a b : Bool} : bin { kind := .bool, size := s, zero := z, agg := a1, bytes := by', fok := f, cmp := cm } .neq (.val (.bool a)) (.val (.bool b)) = some (.val (.bool (!(a == b)))) := rfl
/-- Slots have the form that is named. -/
def FitE (bs : List Nat) (ρ : List AV) : List (Nat × AV) → Prop
  | [] => True
  | (t, x) :: E => rn bs 4 (aev ρ (.tmp t)) = some x ∧ FitE bs ρ E
/-- What is there has the form that is named, if the blocks 'bs' are called 0, 1, .. -/
def Fit (n0 N : Nat) (bs : List Nat) (ρ : List AV) (h : H) (E : List (Nat × AV)) (B : List (Option (List AV))) : Prop :=
  ρ.length = N ∧ bs.Nodup ∧ (∀ i, i < n0 → bs[i]? = some i) ∧ MH bs h bs B ∧ FitE bs ρ E
def againK {σ : Type} (n0 N : Nat) (E : σ → List (Nat × AV)) (B : σ → List (Option (List AV))) (I : σ → Prop) (μ : σ → Nat) (m : Nat) : List AV → H → Prop := fun ρ' h' => ∃ s' bs ρ2 h2, I s' ∧ μ s' < m ∧ Fzd ρ' h' ρ2 h2 ∧ Fit n0 N bs ρ2 h2 (E s') (B s')
theorem ap_again {σ : Type} {N : Nat} {E : σ → List (Nat × AV)} {B : σ → List (Option (List AV))} {I : σ → Prop} {μ : σ → Nat} {m : Nat} {t : Tag (againK n0 N E B I μ m)} : ap (againK n0 N E B I μ m) t ρ h = ∃ s' bs ρ2 h2, I s' ∧ μ s' < m ∧ Fzd ρ h ρ2 h2 ∧ Fit n0 N bs ρ2 h2 (E s') (B s') := rfl

theorem again_in {σ : Type} {N : Nat} {E : σ → List (Nat × AV)} {B : σ → List (Option (List AV))} {I : σ → Prop} {μ : σ → Nat} {m : Nat} {t : Tag (againK n0 N E B I μ m)} (s' : σ) (bs : List Nat) (hI : I s') (hμ : μ s' < m) (hf : Fit n0 N bs ρ h (E s') (B s')) : ap (againK n0 N E B I μ m) t ρ h := ⟨s', bs, ρ, h, hI, hμ, .inl ⟨rfl, rfl⟩, hf⟩
/-- A round's end, at which the block 'b0' becomes fixed. -/
theorem again_z {σ : Type} {N : Nat} {E : σ → List (Nat × AV)} {B : σ → List (Option (List AV))} {I : σ → Prop} {μ : σ → Nat} {m : Nat} {t : Tag (againK n0 N E B I μ m)} (b0 : Nat) (s' : σ) (bs : List Nat) (hI : I s') (hμ : μ s' < m) (hf : Fit n0 N bs (ρ.map (fzv h b0)) (fzH h b0) (E s') (B s')) : ap (againK n0 N E B I μ m) t ρ h := ⟨s', bs, _, _, hI, hμ, .inr ⟨b0, rfl, rfl⟩, hf⟩
theorem fit_en {bs : List Nat} {j : Nat → AV} {N : Nat} : ∀ (E : List (Nat × AV)) (t : Nat), ρ.length = N → t < N → FitE bs ρ E → lk (fun t => ((rnS bs j ρ)[t]?).getD (.val undef)) t E = ((rnS bs j ρ)[t]?).getD (.val undef)
  | [], t, _, _, _ => rfl
  | (q, x) :: E, t, hN, ht, hf => by
    by_cases hq : t = q
    · subst hq
      rw [lk_hit]
      have h1 := List.getElem?_eq_getElem (show t < ρ.length by omega)
      have h2 := hf.1
      simp only [aev, List.getD, h1, Option.getD_some] at h2
      simp [rnS, h1, h2]
    · rw [lk_miss hq]; exact fit_en E t hN ht hf.2
theorem Fit.named {σ : Type} {N : Nat} {E : σ → List (Nat × AV)} {B : σ → List (Option (List AV))} {I : σ → Prop} {bs : List Nat} {s : σ} {Z : List AV → H → Prop} (hf : Fit n0 N bs ρ h (E s) (B s)) (hz : ∀ j, Z (en N j (E s)) (mkH (B s))) : Named n0 Z ρ h := by
  obtain ⟨h1, h2, h3, h4, h5⟩ := hf
  refine ⟨bs, B s, h2, h3, h4, fun j => ?_⟩
  have : rnS bs j ρ = en N (fun t => ((rnS bs j ρ)[t]?).getD (.val undef)) (E s) := by
    apply List.ext_getElem?
    intro k
    rw [en_get?]
    by_cases hk : k < N
    · rw [if_pos hk, fit_en (E s) k h1 hk h5, List.getElem?_eq_getElem (by simp [rnS]; omega)]; rfl
    · rw [if_neg hk, List.getElem?_eq_none (by simp [rnS]; omega)]
  rw [this]; exact hz _

theorem vcR_mono : ∀ (code : Code) (Q Q' : Exit → List AV → H → Prop) (ρ : List AV) (h : H), (∀ e ρ h, Q e ρ h → Q' e ρ h) → vcR P md n0 code Q ρ h → vcR P md n0 code Q' ρ h := by
  intro code
  induction code with
  | skip => intro Q Q' ρ h hq hv; exact hq _ _ _ hv
  | region id ops draw =>
    intro Q Q' ρ h hq hv
    cases draw with
    | false => exact vcOps_mono (fun ρ h => hq _ ρ h) ops.toList ρ h hv
    | true =>
      obtain ⟨g1, g2, ct, g3, g4, g5⟩ := hv
      exact ⟨g1, g2, ct, g3, g4, vcDr_mono (fun ρ h => hq _ ρ h) ops.toList 0 ρ h.get g5⟩
  | seq x y ihx ihy =>
    intro Q Q' ρ h hq hv
    refine ihx _ _ ρ h (fun e ρ h he => ?_) hv
    cases e with
    | normal => exact ihy Q Q' ρ h hq he
    | _ => exact hq _ _ _ he
  | cond cc x y ihx ihy =>
    intro Q Q' ρ h hq hv
    simp only [vcR, onBool] at hv ⊢
    split at hv
    · exact ifB_mono (ihx Q Q' ρ h hq) (ihy Q Q' ρ h hq) hv
    · exact hv.elim
    · exact hv.elim
  | block id x ih =>
    intro Q Q' ρ h hq hv
    refine ih _ _ ρ h (fun e ρ h he => ?_) hv
    cases e with
    | exit id' =>
      simp only [blockK] at he ⊢
      split at he
      · rename_i hid; rw [if_pos hid]; exact hq _ _ _ he
      · rename_i hid; rw [if_neg hid]; exact hq _ _ _ he
    | _ => exact hq _ _ _ he
  | loop x ih =>
    intro Q Q' ρ h hq hv
    obtain ⟨I, h1, h2⟩ := hv
    refine ⟨I, h1, fun j ρ h hI => ih _ _ ρ h (fun e ρ h he => ?_) (h2 j ρ h hI)⟩
    cases e with
    | normal => exact he
    | _ =>
      obtain ⟨ρ2, h2, gz, he⟩ := he
      exact ⟨ρ2, h2, gz, hq _ _ _ he⟩
  | rangeFunc g ps assign body _ _ => intro Q Q' ρ h hq hv; exact Ranged_mono hq hv
  | exit id => intro Q Q' ρ h hq hv; exact hq _ _ _ hv
  | scope _ _ => intro Q Q' ρ h hq hv; exact hv.elim
  | label _ => intro Q Q' ρ h hq hv; exact hv.elim
  | goto _ => intro Q Q' ρ h hq hv; exact hv.elim
  | ret => intro Q Q' ρ h hq hv; exact hq _ _ _ hv
  | refuse _ => intro Q Q' ρ h hq hv; exact hv.elim
/-- An exit at which a block may become fixed. -/
def exitZ (Q : Exit → List AV → H → Prop) (e : Exit) (ρ : List AV) (h : H) : Prop := ∃ ρ2 h2, Fzd ρ h ρ2 h2 ∧ Q e ρ2 h2
theorem exitZ_in {e : Exit} {t : Tag (exitZ Q e)} (hq : ap (Q e) .mk ρ h) : ap (exitZ Q e) t ρ h := ⟨ρ, h, .inl ⟨rfl, rfl⟩, hq⟩
theorem exitZ_fz {e : Exit} {t : Tag (exitZ Q e)} (b0 : Nat) (hq : ap (Q e) .mk (ρ.map (fzv h b0)) (fzH h b0)) : ap (exitZ Q e) t ρ h := ⟨_, _, .inr ⟨b0, rfl, rfl⟩, hq⟩
/-- A LOOP: in the state 's' the slots are 'E s', the blocks 'B s'. -/
theorem LoopCR.on {x : Code} {σ : Type} (N : Nat) (E : σ → List (Nat × AV)) (B : σ → List (Option (List AV))) (I : σ → Prop) (μ : σ → Nat) (s0 : σ) (bs : List Nat) (hI : I s0) (hf : Fit n0 N bs ρ h (E s0) (B s0))
    (round : ∀ s j, I s → ap (vcR P md n0 x (seqK (againK n0 N E B I μ (μ s)) Q)) .mk (en N j (E s)) (mkH (B s))) {t : Tag Q} : LoopCR P md n0 x Q t ρ h := by
  refine ⟨fun m ρ h => ∃ s j, m = μ s ∧ I s ∧ ρ = en N j (E s) ∧ h = mkH (B s), ⟨_, hf.named (I := I) (fun j => ⟨s0, j, rfl, hI, rfl, rfl⟩)⟩, ?_⟩
  rintro m ρ h ⟨s, j, rfl, hs, rfl, rfl⟩
  have h3 := round s j hs
  refine vcR_mono x _ _ _ _ (fun e ρ' h' he => ?_) h3
  cases e with
  | normal =>
    obtain ⟨s', bs', ρ2, h2, g1, g2, gz, g3⟩ := he
    exact ⟨ρ2, h2, gz, g3.named (I := I) (fun j => ⟨_, g2, s', j, rfl, g1, rfl, rfl⟩)⟩
  | _ => exact ⟨ρ', h', .inl ⟨rfl, rfl⟩, he⟩

/-- A LOOP at whose exits a block may become fixed: in the state 's' the slots are 'E s', the blocks 'B s'. -/
theorem LoopCR.onZ {x : Code} {σ : Type} (N : Nat) (E : σ → List (Nat × AV)) (B : σ → List (Option (List AV))) (I : σ → Prop) (μ : σ → Nat) (s0 : σ) (bs : List Nat) (hI : I s0) (hf : Fit n0 N bs ρ h (E s0) (B s0))
    (round : ∀ s j, I s → ap (vcR P md n0 x (seqK (againK n0 N E B I μ (μ s)) (exitZ Q))) .mk (en N j (E s)) (mkH (B s))) {t : Tag Q} : LoopCR P md n0 x Q t ρ h := by
  refine ⟨fun m ρ h => ∃ s j, m = μ s ∧ I s ∧ ρ = en N j (E s) ∧ h = mkH (B s), ⟨_, hf.named (I := I) (fun j => ⟨s0, j, rfl, hI, rfl, rfl⟩)⟩, ?_⟩
  rintro m ρ h ⟨s, j, rfl, hs, rfl, rfl⟩
  have h3 := round s j hs
  refine vcR_mono x _ _ _ _ (fun e ρ' h' he => ?_) h3
  cases e with
  | normal =>
    obtain ⟨s', bs', ρ2, h2, g1, g2, gz, g3⟩ := he
    exact ⟨ρ2, h2, gz, g3.named (I := I) (fun j => ⟨_, g2, s', j, rfl, g1, rfl, rfl⟩)⟩
  | _ => exact he

/-- What the function was handed to write into holds what is said. -/
def FinB (hh : H) : List (List AV) → Nat → Prop
  | [], _ => True
  | l :: bl, i => hh.get i = some l ∧ FinB hh bl (i + 1)
theorem FinB_get {hh : H} : ∀ {bl : List (List AV)} {i : Nat}, FinB hh bl i → ∀ (k : Nat) (l : List AV), bl[k]? = some l → hh.get (i + k) = some l
  | [], _, _, k, l, h => by simp at h
  | x :: bl, i, hf, k, l, h => by
    cases k with
    | zero => simp at h; subst h; exact hf.1
    | succ k => have := FinB_get hf.2 k l (by simpa using h); rwa [show i + 1 + k = i + (k + 1) by omega] at this
def FinM (P : Program) (fn : Func) (n0 : Nat) (x : AV) (cs1 : List (List AV)) (e : Exit) (ρ : List AV) (hh : H) : Prop :=
  match e with
  | .normal | .ret => ∃ y, resA P fn.results ρ hh = some y ∧ (∃ k, frz k hh n0 y = some x) ∧ FinB hh cs1 0
  | _ => False
theorem ap_finm_ret {fn : Func} {x : AV} {cs1 : List (List AV)} {t : Tag (FinM P fn n0 x cs1 .ret)} : ap (FinM P fn n0 x cs1 .ret) t ρ h = onSome (resA P fn.results ρ h) (fun y => (∃ k, frz k h n0 y = some x) ∧ FinB h cs1 0) .mk := by
  unfold ap FinM onSome; cases resA P fn.results ρ h <;> simp
theorem ap_finm_normal {fn : Func} {x : AV} {cs1 : List (List AV)} {t : Tag (FinM P fn n0 x cs1 .normal)} : ap (FinM P fn n0 x cs1 .normal) t ρ h = onSome (resA P fn.results ρ h) (fun y => (∃ k, frz k h n0 y = some x) ∧ FinB h cs1 0) .mk := by
  unfold ap FinM onSome; cases resA P fn.results ρ h <;> simp

/-- A FUNCTION, BY SPARSE SLOTS: the blocks 'cs0' are handed over, and hold 'cs1' behind it. -/
theorem Fn.ofR {f : FuncId} {fn : Func} {code : Code} (md : Oper → Bool) {args : List AV} {cs0 cs1 : List (List AV)} {x : AV} (hcall : callable P f = true) (hf : P.funcs[f]? = some fn) (hb : fn.body = some code) (hN : args.length ≤ fn.ntmps) (hl : cs1.length = cs0.length) (hcl : (cs1.all fun l => l.all clean1) = true)
    (hv : ap (vcR P md (cs0.map some).length code (FinM P fn (cs0.map some).length x cs1)) .mk (en fn.ntmps (fun _ => .val undef) (en0 0 args)) (mkH (cs0.map some))) : Fn P f args (mkH (cs0.map some)) x (mkH (cs1.map some)) := by
  refine ⟨hcall, fun n c D w vs hr hfr hargs => ?_⟩
  rw [← en_start hN] at hv
  have hbody : CallsIn Fence.wide n P f vs w (fun e w' => ∃ v c' D' ρ hh y ex, e = .returned v ∧ FinM P fn (cs0.map some).length x cs1 ex ρ hh ∧ resA P fn.results ρ hh = some y ∧ R c' w' D' y v ∧ Rel c' D' hh w' ∧ Ext D (mkH (cs0.map some)) c w D' c' w' hh ∧ ∀ b, D' b → D b ∨ ((mkH (cs0.map some)).next ≤ b ∧ b < hh.next)) := by
    refine callsIn_of_wp_marks hf hb trivial (wpIn_mono (vcR_sound (md := md) (n := n) (D0 := D) (h0 := mkH (cs0.map some)) (c0 := c) (w0 := w) hfr code _ _ (mkH (cs0.map some)) _ w c D hv ?_) ?_)
    · refine ⟨hr, ⟨by simp [hargs.1], fun i y u e1 e2 => ?_⟩, Ext.refl D (mkH (cs0.map some)) c w, Marks.of_nil rfl, fun b hb => .inl hb⟩
      rw [Array.getElem?_append] at e2
      by_cases hi : i < vs.size
      · rw [if_pos hi] at e2
        rw [List.getElem?_append_left (by rw [← hargs.1]; exact hi)] at e1
        exact hargs.2 i y u e1 e2
      · rw [if_neg hi] at e2
        rw [List.getElem?_append_right (by rw [← hargs.1]; omega)] at e1
        simp only [List.getElem?_replicate, Array.getElem?_replicate] at e1 e2
        split at e1
        · split at e2
          · cases e1; cases e2; exact .val _
          · cases e2
        · cases e1
    · rintro e a w' ⟨ρ, hh, c', D', hq, s⟩
      have hqq : (e = .normal ∨ e = .ret) ∧ ∃ y, resA P fn.results ρ hh = some y := by
        cases e with
        | normal => obtain ⟨y, h1, _⟩ := hq; exact ⟨.inl rfl, y, h1⟩
        | ret => obtain ⟨y, h1, _⟩ := hq; exact ⟨.inr rfl, y, h1⟩
        | _ => exact hq.elim
      obtain ⟨hex, y, hy⟩ := hqq
      obtain ⟨ms, h1, h2, h3, g1, g2, g3⟩ := s.shut
      obtain ⟨v, h4, h5⟩ := run_resA (fn := fn) g1 g2 hy
      have fin := leaves_marks (F := Fr none) (n := n) (P := P) (fn := fn) (tmps := a.tmps) (R := fun e w' => ∃ v c' D' ρ hh y ex, e = .returned v ∧ FinM P fn (cs0.map some).length x cs1 ex ρ hh ∧ resA P fn.results ρ hh = some y ∧ R c' w' D' y v ∧ Rel c' D' hh w' ∧ Ext D (mkH (cs0.map some)) c w D' c' w' hh ∧ ∀ b, D' b → D b ∨ ((mkH (cs0.map some)).next ≤ b ∧ b < hh.next)) ms w' h2 h3
        ⟨v, h4, v, c', D', ρ, hh, y, e, rfl, hq, hy, h5, g1, g3, s.dom⟩
      rw [← h1] at fin
      rcases hex with rfl | rfl
      · exact fin
      · exact fin
  refine hbody.mono ?_
  rintro e w' ⟨v, c', D', ρ, hh, y, ex, rfl, hfin, g2, g3, g4, g5, g6⟩
  have hfin' : ∃ y, resA P fn.results ρ hh = some y ∧ (∃ k, frz k hh (cs0.map some).length y = some x) ∧ FinB hh cs1 0 := by
    cases ex with
    | normal => exact hfin
    | ret => exact hfin
    | _ => exact hfin.elim
  obtain ⟨y', q1, ⟨k, q2⟩, q3⟩ := hfin'
  rw [q1] at g2; cases g2
  obtain ⟨p1, p2, p3⟩ := frz_post (h' := mkH (cs1.map some)) g3 g4 g5 g6 (by simp [mkH, hl]) q2 (fun b cs hb => by
    have hb' : cs1[b]? = some cs := by rw [mkH_get, List.getElem?_map] at hb; cases hc : cs1[b]? with | none => simp [hc] at hb | some z => simp [hc] at hb; rw [hb]
    have h1 := FinB_get q3 b cs hb'
    rw [Nat.zero_add] at h1
    refine ⟨cs, 1, h1, ?_, on_frzl ((List.all_eq_true.1 hcl) cs (List.mem_of_getElem? hb'))⟩
    have := (List.getElem?_eq_some_iff.1 hb').1
    simp [mkH]; omega) (fun b r hb => by simp [mkH] at hb)
  exact ⟨v, _, D, rfl, p1, p2, p3, fun b hb => .inl hb⟩
theorem Fn.ofR0 {f : FuncId} {fn : Func} {code : Code} (md : Oper → Bool) {args : List AV} {x : AV} (hcall : callable P f = true) (hf : P.funcs[f]? = some fn) (hb : fn.body = some code) (hN : args.length ≤ fn.ntmps)
    (hv : ap (vcR P md 0 code (FinM P fn 0 x [])) .mk (en fn.ntmps (fun _ => .val undef) (en0 0 args)) (mkH [])) : Fn P f args .nil x .nil := Fn.ofR (cs0 := []) (cs1 := []) md hcall hf hb hN rfl rfl hv
theorem Fn.ofR1 {f : FuncId} {fn : Func} {code : Code} (md : Oper → Bool) {args : List AV} {x : AV} {cs cs' : List AV} (hcall : callable P f = true) (hf : P.funcs[f]? = some fn) (hb : fn.body = some code) (hN : args.length ≤ fn.ntmps) (hcl : cs'.all clean1 = true)
    (hv : ap (vcR P md 1 code (FinM P fn 1 x [cs'])) .mk (en fn.ntmps (fun _ => .val undef) (en0 0 args)) (mkH [some cs])) : Fn P f args (.one cs) x (.one cs') := by
  have := Fn.ofR (cs0 := [cs]) (cs1 := [cs']) md hcall hf hb hN rfl (by simp [hcl]) hv
  rwa [List.map_cons, List.map_nil, List.map_cons, List.map_nil, mkH_one, mkH_one] at this

/-- A slice that grows: none of its own before the first append. -/
def grow (b k n : Nat) : AV := if n = 0 then .ro true k [] else .sl b 0 n k
theorem grow_zero {b k : Nat} : grow b k 0 = .ro true k [] := rfl
theorem grow_succ {b k n : Nat} : grow b k (n + 1) = .sl b 0 (n + 1) k := by simp [grow]
theorem one_grow {b k n : Nat} : one (grow b k n) = true := by cases n <;> rfl
theorem cellsOf_grow {b k n : Nat} : cellsOf (grow b k n) = some [grow b k n] := by cases n <;> rfl
def grown (n : Nat) (l : List AV) : Option (List AV) := if n = 0 then none else some l
theorem grown_zero {l : List AV} : grown 0 l = none := rfl
theorem grown_succ {n : Nat} {l : List AV} : grown (n + 1) l = some l := by simp [grown]
theorem append_grow {E : TI} {b k n : Nat} {old : List AV} {xs : List (List AV)} (hb : h.get b = grown n old) (hk : k = E.size) (h0 : 0 < E.size) (hz : E.zero.length = E.size) (hol : old.length = n * k) (hb1 : (n + xs.length) * E.bytes ≤ 70368744177664) (hb2 : n + xs.length ≤ 70368744177664) (hx : 0 < xs.length) :
    appendA E true h (grow b k n) (.ro true k xs) = some (.sl h.next 0 (n + xs.length) k, { next := h.next + 1, get := fun q => if q = h.next then some (old ++ xs.flatten) else if q = b then none else h.get q, lp := h.lp }) := by
  subst hk
  cases n with
  | zero =>
    rw [grown_zero] at hb
    have ho : old = [] := List.length_eq_zero_iff.1 (by simpa using hol)
    subst ho
    simp only [grow_zero, appendA, rowsA, if_true]
    rw [if_pos ⟨h0, hz⟩, if_pos ⟨trivial, by simpa using hb1, by simpa using hb2⟩]
    rw [if_neg (by omega)]
    simp only [List.length_nil, List.flatten_nil, H.push]
    congr 3
    funext q
    by_cases hq : q = b
    · subst hq; simp [hb]
    · simp [hq]
  | succ n =>
    rw [grown_succ] at hb
    rw [grow_succ]
    simp only [appendA, rowsA, if_true]
    rw [if_pos ⟨h0, hz⟩, hb]
    simp only
    rw [if_pos ⟨trivial, trivial, hol, hb1, hb2⟩]

variable {bs : List Nat} {E : List (Nat × AV)} {B : List (Option (List AV))} {BB : List (List AV)} {N t : Nat} {x : AV}
theorem resOne_tmp' {t : Nat} : resOne P ρ h (.tmp t) = some (aev ρ (.tmp t)) := rfl
theorem resOne_cell' {a : Nat} {t : TypeId} : resOne P ρ h (.cell a t) = tyInt P t fun T => loadA T h (aev ρ (.tmp a)) := rfl
theorem cons_guard' {d : Option Nat} {ty : TypeId} {p : String} {af : Array Edge} {op : Op} {k : Nat} {want : Bool} {all : Array Oper} {Q : List AV → H → Prop} {rest : List Oper} {t : Tag (vcOps P md all Q (Oper.mk d op ty p af (some (k, want)) :: rest))} : ap (vcOps P md all Q (Oper.mk d op ty p af (some (k, want)) :: rest)) t ρ h =
    onSome (dstT all .mk k) (fun d' => onBool (aev ρ (.tmp d')) (fun b => ifB (b == want) (ap (stepA P md (Oper.mk d op ty p af (some (k, want))) (vcOps P md all Q rest)) .mk (putA ρ (some d') (.val (.bool want))) h) (ap (vcOps P md all Q rest) .mk (putA (putA ρ (some d') (.val (.bool !want))) d (.val undef)) h) .mk .mk)
          (ap (vcOps P md all Q rest) .mk (putA ρ d (.val undef)) h) .mk .mk) .mk := rfl
theorem dr_guard' {d : Option Nat} {ty : TypeId} {p : String} {af : Array Edge} {op : Op} {k i : Nat} {want : Bool} {all : Array Oper} {Q : List AV → H → Prop} {rest : List Oper} {ct : Cert} {h0 : H} {G : Nat → Option (List AV)} {t : Tag (vcDr P md ct all h0 Q (Oper.mk d op ty p af (some (k, want)) :: rest) i)} : apG (vcDr P md ct all h0 Q (Oper.mk d op ty p af (some (k, want)) :: rest) i) t ρ G =
    onSome (dstT all .mk k) (fun d' => onBool (aev ρ (.tmp d')) (fun b => ifB (b == want) (ifB (quietA ct i (Oper.mk d op ty p af (some (k, want)))) (apQ P (Oper.mk d op ty p af (some (k, want))) (qView ct h0 all.size i) (fun x => apG (vcDr P md ct all h0 Q rest (i + 1)) .mk (putA (putA ρ (some d') (.val (.bool want))) d x) G) .mk .mk (putA ρ (some d') (.val (.bool want))))
      (apE P (md (Oper.mk d op ty p af (some (k, want)))) (Oper.mk d op ty p af (some (k, want))) (eView all ct h0 i (h0.next + i) (Oper.mk d op ty p af (some (k, want))) G) (eView all ct h0 i (h0.next + all.size) (Oper.mk d op ty p af (some (k, want))) G) (fun x h' => apG (vcDr P md ct all h0 Q rest (i + 1)) .mk (putA (putA ρ (some d') (.val (.bool want))) d x) (mergeG G (eView all ct h0 i (h0.next + i) (Oper.mk d op ty p af (some (k, want))) G) h')) .mk .mk (putA ρ (some d') (.val (.bool want)))) .mk .mk)
          (apG (vcDr P md ct all h0 Q rest (i + 1)) .mk (putA (putA ρ (some d') (.val (.bool !want))) d (.val undef)) G) .mk .mk)
          (apG (vcDr P md ct all h0 Q rest (i + 1)) .mk (putA ρ d (.val undef)) G) .mk .mk) .mk := by
  rw [dr_guard]; rfl
theorem FitE_nil : FitE bs ρ [] = True := rfl
theorem FitE_cons : FitE bs ρ ((t, x) :: E) = (rn bs 4 (aev ρ (.tmp t)) = some x ∧ FitE bs ρ E) := rfl
theorem MH_nil : MH bs h [] [] = True := rfl
theorem MH_none {b : Nat} {l : List Nat} : MH bs h (b :: l) (none :: B) = MH bs h l B := rfl
theorem MH_cons {b : Nat} {l : List Nat} {c : List AV} : MH bs h (b :: l) (some c :: B) = ((∃ cs, h.get b = some cs ∧ cs.mapM (rn bs 4) = some c) ∧ MH bs h l B) := rfl
theorem FinB_nil {i : Nat} : FinB h [] i = True := rfl
theorem FinB_cons {i : Nat} {c : List AV} : FinB h (c :: BB) i = (h.get i = some c ∧ FinB h BB (i + 1)) := rfl
theorem rn_val {n : Nat} {v : Value} : rn bs (n + 1) (.val v) = some (.val v) := rfl
theorem rn_ro {n : Nat} {f : Bool} {k : Nat} {xs : List (List AV)} : rn bs (n + 1) (.ro f k xs) = some (.ro f k xs) := rfl
theorem rn_rop {n : Nat} {cs : List AV} : rn bs (n + 1) (.rop cs) = some (.rop cs) := rfl
theorem rn_ptr {n b o : Nat} : rn bs (n + 1) (.ptr b o) = (rnI b bs 0).map fun b => .ptr b o := rfl
theorem rn_sl {n b o len k : Nat} : rn bs (n + 1) (.sl b o len k) = (rnI b bs 0).map fun b => .sl b o len k := rfl
theorem rn_agg {n : Nat} {l : List AV} : rn bs (n + 1) (.agg l) = (l.mapM (rn bs n)).map .agg := rfl
theorem rn_tup {n : Nat} {l : List AV} : rn bs (n + 1) (.tup l) = (l.mapM (rn bs n)).map .tup := rfl
theorem rn_clo {n f : Nat} {l : List AV} : rn bs (n + 1) (.clo f l) = (l.mapM (rn bs n)).map (.clo f) := rfl
theorem rnI_hit {b i : Nat} {l : List Nat} : rnI b (b :: l) i = some i := by simp [rnI]
theorem rnI_miss {b q i : Nat} {l : List Nat} (hq : b ≠ q) : rnI b (q :: l) i = rnI b l (i + 1) := by simp [rnI, hq]
theorem rnL_clean {n : Nat} : ∀ {l : List AV}, l.all clean1 = true → l.mapM (rn bs (n + 1)) = some l
  | [], _ => rfl
  | y :: l, hl => by
    simp only [List.all_cons, Bool.and_eq_true] at hl
    have hy : rn bs (n + 1) y = some y := by
      cases y <;> first | rfl | (simp [clean1] at hl)
    rw [List.mapM_cons, hy, rnL_clean hl.2]; rfl
theorem Nodup_nil : ([] : List Nat).Nodup = True := by simp
theorem Nodup_cons {b : Nat} {l : List Nat} : (b :: l).Nodup = (b ∉ l ∧ l.Nodup) := by simp
theorem low0 : (∀ i, i < 0 → bs[i]? = some i) = True := by simp
theorem low1 : (∀ i, i < 1 → bs[i]? = some i) = (bs[0]? = some 0) := by
  refine propext ⟨fun h => h 0 (by omega), fun h i hi => ?_⟩
  have : i = 0 := by omega
  subst this; exact h
theorem low2 : (∀ i, i < 2 → bs[i]? = some i) = (bs[0]? = some 0 ∧ bs[1]? = some 1) := by
  refine propext ⟨fun h => ⟨h 0 (by omega), h 1 (by omega)⟩, fun h i hi => ?_⟩
  rcases (show i = 0 ∨ i = 1 by omega) with rfl | rfl
  · exact h.1
  · exact h.2

/-- What is made to be read: a slice of rows. -/
theorem chunk_rows {k : Nat} : ∀ {rows : List (List AV)}, (∀ r ∈ rows, r.length = k) → chunk k rows.length rows.flatten = rows
  | [], _ => rfl
  | r :: rows, hr => by
    have ih := chunk_rows (k := k) (rows := rows) fun q hq => hr q (by simp [hq])
    have h1 := hr r (by simp)
    rw [List.length_cons, chunk_succ, List.flatten_cons, List.take_left' h1, List.drop_left' h1, ih]
theorem flat_len {k : Nat} : ∀ {rows : List (List AV)}, (∀ r ∈ rows, r.length = k) → rows.flatten.length = rows.length * k
  | [], _ => by simp
  | r :: rows, hr => by
    have ih := flat_len (k := k) (rows := rows) fun q hq => hr q (by simp [hq])
    rw [List.flatten_cons, List.length_append, ih, hr r (by simp), List.length_cons, Nat.succ_mul]; omega
theorem frz_rows {b n k N : Nat} {rows : List (List AV)} (hb : h.get b = some rows.flatten) (hN : N ≤ b) (hn : rows.length = n) (hk : ∀ r ∈ rows, r.length = k) (hc : (rows.flatten.all fun x => clean1 x && one x) = true) : frz 2 h N (.sl b 0 n k) = some (.ro false k rows) := by
  have hl := flat_len hk
  rw [hn] at hl
  have hc1 : rows.flatten.all clean1 = true := List.all_eq_true.2 fun x hx => by have := (List.all_eq_true.1 hc) x hx; simp only [Bool.and_eq_true] at this; exact this.1
  have ht : takeAt rows.flatten 0 (n * k) = some rows.flatten := by
    unfold takeAt
    rw [if_pos (by omega), List.drop_zero, List.take_of_length_le (by omega)]
  rw [frz, if_neg (by omega), hb]
  simp only [ht, on_frzl hc1]
  rw [if_pos, ← hn, chunk_rows hk]
  refine List.all_eq_true.2 fun x hx => ?_
  have := (List.all_eq_true.1 hc) x hx
  simp only [Bool.and_eq_true] at this ⊢
  refine ⟨?_, this.2⟩
  cases x <;> simp_all [clean, clean1]
theorem rn_grow {m b k n : Nat} (hb : (rnI b bs 0).isSome = true) : rn bs (m + 1) (grow b k n) = (rnI b bs 0).map fun b => grow b k n := by
  obtain ⟨q, hq⟩ := Option.isSome_iff_exists.1 hb
  cases n with
  | zero => rw [hq]; rfl
  | succ n => rw [grow_succ, rn_sl, hq]; simp [grow_succ]
theorem MH_grown {b n : Nat} {l : List Nat} {c : List AV} (hb : h.get b = grown n c) (hc : c.mapM (rn bs 4) = some c) : MH bs h (b :: l) (grown n c :: B) = MH bs h l B := by
  cases n with
  | zero => rfl
  | succ n =>
    rw [grown_succ] at hb ⊢
    rw [MH_cons]
    exact propext ⟨fun h => h.2, fun h => ⟨⟨c, hb, hc⟩, h⟩⟩
/-- Rows, one after another. -/
def rws {α : Type} (f : α → List AV) (l : List α) : List AV := (l.map f).flatten
theorem rws_nil {α : Type} {f : α → List AV} : rws f [] = [] := rfl
theorem rws_snoc {α : Type} {f : α → List AV} {l : List α} {x : α} : rws f l ++ f x = rws f (l ++ [x]) := by simp [rws]
theorem rws_len {α : Type} {f : α → List AV} {k : Nat} (hf : ∀ a, (f a).length = k) : ∀ {l : List α}, (rws f l).length = l.length * k
  | [] => by simp [rws]
  | a :: l => by
    have := rws_len hf (l := l)
    simp only [rws, List.map_cons, List.flatten_cons, List.length_append, List.length_cons, Nat.succ_mul] at this ⊢
    rw [hf, this]; omega
theorem rws_all {α : Type} {f : α → List AV} {q : AV → Bool} (hf : ∀ a, (f a).all q = true) : ∀ {l : List α}, (rws f l).all q = true
  | [] => rfl
  | a :: l => by
    have := rws_all hf (l := l)
    simp only [rws, List.map_cons, List.flatten_cons, List.all_append, Bool.and_eq_true] at this ⊢
    exact ⟨hf a, this⟩
theorem rws_rn {α : Type} {f : α → List AV} {l : List α} {n : Nat} (hf : ∀ a, (f a).all clean1 = true) : (rws f l).mapM (rn bs (n + 1)) = some (rws f l) := rnL_clean (rws_all hf)
/-- append to rows that grow. -/
theorem append_rws {E : TI} {α : Type} {f : α → List AV} {b k n : Nat} {l : List α} {x : α} (hb : h.get b = grown n (rws f l)) (hn : l.length = n) (hk : k = E.size) (h0 : 0 < E.size) (hz : E.zero.length = E.size) (hf : ∀ a, (f a).length = k) (hb1 : (n + 1) * E.bytes ≤ 70368744177664) (hb2 : n + 1 ≤ 70368744177664) :
    appendA E true h (grow b k n) (.ro true k [f x]) = some (.sl h.next 0 (n + 1) k, { next := h.next + 1, get := fun q => if q = h.next then some (rws f (l ++ [x])) else if q = b then none else h.get q, lp := h.lp }) := by
  rw [append_grow (xs := [f x]) hb hk h0 hz (by rw [rws_len hf, hn]) hb1 hb2 (by simp)]
  simp [← rws_snoc]
theorem on_append {E : TI} {own : Bool} {α : Type} {b k n : Nat} {r : List AV} {K : AV × H → Prop} {t : Tag K} (f : α → List AV) (l : List α) (x : α) (hb : h.get b = grown n (rws f l)) (hn : l.length = n) (hb1 : (n + 1) * E.bytes ≤ 70368744177664) (hb2 : n + 1 ≤ 70368744177664) (hr : f x = r) (hk : k = E.size) (h0 : 0 < E.size) (hz : E.zero.length = E.size) (hf : ∀ a, (f a).length = k)
    (hv : K (.sl h.next 0 (n + 1) k, { next := h.next + 1, get := fun q => if q = h.next then some (rws f (l ++ [x])) else if q = b then none else h.get q, lp := h.lp })) (hown : own = true) : onSome (appendA E own h (grow b k n) (.ro true k [r])) K t := by
  subst hown
  subst hr
  rw [append_rws hb hn hk h0 hz hf hb1 hb2]
  exact hv
/-- A copy that is only read. -/
theorem append_copy {E : TI} {k : Nat} {f : Bool} {xs : List (List AV)} (hk : k = E.size) (h0 : 0 < E.size) (hz : E.zero.length = E.size) (hb1 : xs.length * E.bytes ≤ 70368744177664) (hb2 : xs.length ≤ 70368744177664) : appendA E false h (.ro true k []) (.ro f k xs) = some (.ro false k xs, h) := by
  subst hk
  simp only [appendA, rowsA, if_true]
  rw [if_pos ⟨h0, hz⟩, if_pos ⟨trivial, by simpa using hb1, by simpa using hb2⟩]
  simp
/-- append to rows, and what comes is not written into any more. -/
theorem on_append_ro {E : TI} {own : Bool} {α : Type} {b k n : Nat} {r : List AV} {K : AV × H → Prop} {t : Tag K} (f : α → List AV) (l : List α) (x : α) (hb : h.get b = grown n (rws f l)) (hfr : h.get h.next = none) (hn : l.length = n) (hb1 : (n + 1) * E.bytes ≤ 70368744177664) (hb2 : n + 1 ≤ 70368744177664) (hr : f x = r) (hk : k = E.size) (h0 : 0 < E.size) (hz : E.zero.length = E.size) (hf : ∀ a, (f a).length = k) (hc : ∀ a, ((f a).all fun x => clean1 x && one x) = true)
    (hv : K (.ro false k ((l ++ [x]).map f), { next := if n = 0 then h.next else h.next + 1, get := fun q => if q = h.next then none else if q = b then none else h.get q, lp := h.lp })) (hown : own = false) : onSome (appendA E own h (grow b k n) (.ro true k [r])) K t := by
  subst hr; subst hk; subst hown
  cases n with
  | zero =>
    have : l = [] := List.length_eq_zero_iff.1 hn
    subst this
    rw [grown_zero] at hb
    simp only [grow_zero, appendA, rowsA, if_true]
    rw [if_pos ⟨h0, hz⟩, if_pos ⟨trivial, by simpa using hb1, by simp⟩]
    simp only [Bool.false_eq_true, if_false, List.length_nil, if_true, onSome]
    have e : ({ next := h.next, get := fun q => if q = h.next then none else if q = b then none else h.get q, lp := h.lp } : H) = h := by
      rcases h with ⟨nx, gg, ll⟩
      simp only at hb hfr ⊢
      congr 1
      funext q
      by_cases h1 : q = nx
      · rw [if_pos h1, h1, hfr]
      · rw [if_neg h1]
        by_cases h2 : q = b
        · rw [if_pos h2, h2, hb]
        · rw [if_neg h2]
    have := hv
    simp only [if_true] at this
    rw [e] at this
    exact this
  | succ n =>
    rw [grown_succ] at hb
    have hl := rws_len hf (l := l)
    rw [grow_succ]
    simp only [appendA, rowsA, if_true]
    rw [if_pos ⟨h0, hz⟩, hb]
    simp only
    rw [if_pos ⟨trivial, trivial, by rw [hl, hn], hb1, hb2⟩]
    have e1 : rws f l ++ [f x].flatten = rws f (l ++ [x]) := by simp [rws]
    rw [e1, if_neg (by simp), if_pos (rws_all hc)]
    have e2 : chunk E.size (n + 1 + [f x].length) (rws f (l ++ [x])) = (l ++ [x]).map f := by
      have := chunk_rows (k := E.size) (rows := (l ++ [x]).map f) (fun r hr => by obtain ⟨a, _, rfl⟩ := List.mem_map.1 hr; exact hf a)
      rw [List.length_map, List.length_append, hn] at this
      exact this
    rw [e2]
    rw [if_neg (by omega)] at hv
    exact hv
/-- Whether a row that grew was never appended to. -/
def isz (n : Nat) : Bool := decide (n = 0)
theorem frz_rws {α : Type} {f : α → List AV} {b n k N : Nat} {l : List α} (hb : h.get b = grown n (rws f l)) (hN : N ≤ b) (hn : l.length = n) (hk : ∀ a, (f a).length = k) (hc : ∀ a, ((f a).all fun x => clean1 x && one x) = true) : ∃ q, frz q h N (grow b k n) = some (.ro (isz n) k (l.map f)) := by
  cases n with
  | zero =>
    have : l = [] := List.length_eq_zero_iff.1 hn
    subst this; exact ⟨1, rfl⟩
  | succ n =>
    rw [grown_succ] at hb
    refine ⟨2, ?_⟩
    rw [grow_succ, frz_rows (rows := l.map f) hb hN (by simpa using hn) (fun r hr => by obtain ⟨a, _, rfl⟩ := List.mem_map.1 hr; exact hk a) (rws_all hc)]; simp [isz]
theorem frz_agg_two {N : Nat} {x x' y y' : AV} (h1 : ∃ k, frz k h N x = some y) (h2 : ∃ k, frz k h N x' = some y') : ∃ k, frz k h N (.agg [x, x']) = some (.agg [y, y']) := by
  obtain ⟨k, h1⟩ := h1
  obtain ⟨k', h2⟩ := h2
  refine ⟨k + k' + 1, ?_⟩
  rw [frz, List.mapM_cons, frz_le (show k ≤ k + k' by omega) h1, List.mapM_cons, frz_le (show k' ≤ k + k' by omega) h2]; rfl
theorem frz_tup_two {N : Nat} {x x' y y' : AV} (h1 : ∃ k, frz k h N x = some y) (h2 : ∃ k, frz k h N x' = some y') : ∃ k, frz k h N (.tup [x, x']) = some (.tup [y, y']) := by
  obtain ⟨k, h1⟩ := h1
  obtain ⟨k', h2⟩ := h2
  refine ⟨k + k' + 1, ?_⟩
  rw [frz, List.mapM_cons, frz_le (show k ≤ k + k' by omega) h1, List.mapM_cons, frz_le (show k' ≤ k + k' by omega) h2]; rfl
theorem frz_one {N : Nat} {x : AV} (hx : clean1 x = true) : ∃ k, frz k h N x = some x := ⟨1, on_frz1 hx⟩
theorem frz_grow {b n k N : Nat} {rows : List (List AV)} (hb : h.get b = grown n rows.flatten) (hN : N ≤ b) (hn : rows.length = n) (hk : ∀ r ∈ rows, r.length = k) (hc : (rows.flatten.all fun x => clean1 x && one x) = true) : frz 2 h N (grow b k n) = some (.ro (isz n) k rows) := by
  cases n with
  | zero =>
    have : rows = [] := List.length_eq_zero_iff.1 hn
    subst this; rfl
  | succ n =>
    rw [grown_succ] at hb
    rw [grow_succ, frz_rows hb hN hn hk hc]; simp [isz]
end
end Go.Pe

/- Numbers, truths; what a heap holds; a few equations more. -/
namespace Go.Pe
open Go
noncomputable abbrev I (n : Int) : AV := .val (.int .i64 n)
noncomputable abbrev B (b : Bool) : AV := .val (.bool b)
noncomputable abbrev noC : Nat → Cert := fun _ => {}
noncomputable abbrev noM : Oper → Bool := fun _ => false
/-- All that is appended to may be written into later. -/
def ownM : Oper → Bool := fun _ => true
theorem ownM_eq {o : Oper} : ownM o = true := rfl
/-- All but what these slots get. -/
def butM (l : List Nat) : Oper → Bool := fun o => match o.dst with | some d => !(l.contains d) | none => true
theorem butM_eq {l : List Nat} {d : Nat} {op : Op} {ty : TypeId} {p : String} {af : Array Edge} {g : Option (Nat × Bool)} : butM l (Oper.mk (some d) op ty p af g) = !(l.contains d) := rfl

theorem wrap_in {n : Int} (h1 : -2^63 ≤ n) (h2 : n < 2^63) : IntKind.i64.wrap n = n := by rw [IntKind.wrap_i64]; omega
theorem frz_val {h : H} {N : Nat} {v : Value} {x : AV} : (∃ k, frz k h N (.val v) = some x) ↔ .val v = x :=
  ⟨fun ⟨k, e⟩ => by cases k <;> simp [frz] at e; exact e, fun e => ⟨1, by simp [frz, e]⟩⟩
theorem frz_ro {h : H} {N : Nat} {f : Bool} {k : Nat} {xs : List (List AV)} {x : AV} : (∃ n, frz n h N (.ro f k xs) = some x) ↔ .ro f k xs = x :=
  ⟨fun ⟨k, e⟩ => by cases k <;> simp [frz] at e; exact e, fun e => ⟨1, by simp [frz, e]⟩⟩

theorem LeN_refl {h : H} : H.LeN h h ↔ True := ⟨fun _ => trivial, fun _ _ _ _ e => e⟩
theorem LeN_push {h k : H} {cs : List AV} (hk : h.next ≤ k.next) : H.LeN h (k.push cs) ↔ H.LeN h k :=
  ⟨fun hl b cs hb e => by have := hl b cs hb e; simp only [H.push] at this; rwa [if_neg (by omega)] at this, fun hl b cs hb e => by simp only [H.push]; rw [if_neg (by omega)]; exact hl b cs hb e⟩
theorem LeN_set {h k : H} {b : Nat} {cs : List AV} (hb : h.next ≤ b) : H.LeN h (k.set b cs) ↔ H.LeN h k :=
  ⟨fun hl b cs hb e => by have := hl b cs hb e; simp only [H.set] at this; rwa [if_neg (by omega)] at this, fun hl b cs hb e => by simp only [H.set]; rw [if_neg (by omega)]; exact hl b cs hb e⟩
theorem push_get {h : H} {cs : List AV} {b : Nat} : (h.push cs).get b = if b = h.next then some cs else h.get b := rfl
theorem push_next {h : H} {cs : List AV} : (h.push cs).next = h.next + 1 := rfl
theorem set_get {h : H} {cs : List AV} {b q : Nat} : (h.set b cs).get q = if q = b then some cs else h.get q := rfl
theorem set_next {h : H} {cs : List AV} {b : Nat} : (h.set b cs).next = h.next := rfl
theorem nil_get {b : Nat} : H.nil.get b = none := rfl
theorem nil_next : H.nil.next = 0 := rfl

theorem indexA_ro {T E : TI} {e : TypeId} {f : Bool} {k : Nat} {xs : List (List AV)} {n : Nat} (hk : T.kind = .sl e) (hE : k = E.size) : indexA T E (.ro f k xs) (n : Int) = (xs[n]?).map AV.rop := by
  unfold indexA
  rw [if_neg (by omega), hk]
  simp only [hE, if_true, Int.toNat_natCast]
  cases xs[n]? <;> rfl
theorem lenA_ro {e : TypeId} {s by' : Nat} {z : List Value} {a f' cm : Bool} {f : Bool} {k : Nat} {xs : List (List AV)} : lenA { kind := .sl e, size := s, zero := z, agg := a, bytes := by', fok := f', cmp := cm } (.ro f k xs) = some (.val (.int .i64 xs.length)) := rfl
theorem indexA_ro0 {T E : TI} {e : TypeId} {f : Bool} {k : Nat} {xs : List (List AV)} (hk : T.kind = .sl e) (hE : k = E.size) : indexA T E (.ro f k xs) 0 = (xs[0]?).map AV.rop := indexA_ro (n := 0) hk hE
theorem indexA_ro1 {T E : TI} {e : TypeId} {f : Bool} {k : Nat} {xs : List (List AV)} {n : Nat} (hk : T.kind = .sl e) (hE : k = E.size) : indexA T E (.ro f k xs) ((n : Int) + 1) = (xs[n + 1]?).map AV.rop := indexA_ro (n := n + 1) hk hE
theorem indexA_sl {e : TypeId} {s by' : Nat} {z : List Value} {a f' cm : Bool} {E : TI} {b o len k n : Nat} (hE : k = E.size) (hn : n < len) : indexA { kind := .sl e, size := s, zero := z, agg := a, bytes := by', fok := f', cmp := cm } E (.sl b o len k) (n : Int) = some (.ptr b (o + n * k)) := by
  unfold indexA
  rw [if_neg (by omega)]
  simp only
  rw [if_pos ⟨hE, by omega⟩]
  simp
end Go.Pe

/- What simplification walks by. -/
namespace Go.Pe
open Go
attribute [simp] ownM_eq butM_eq ar_skip ar_region ar_draw ar_seq ar_cond ar_block ar_loop ar_exit ar_ret ap_seq_normal ap_seq_ret ap_seq_exit ap_block_normal ap_block_ret ap_block_exit ap_block_other ap_nil ap_dr_nil ap_finm_ret ap_finm_normal dstT_zero dstT_succ onSome_some onSome_none ifB_true ifB_false ifB_not onClo_clo onBool_bool onBool_tup onBool_undef bin_beq bin_bne
attribute [simp] FitE_nil FitE_cons MH_nil MH_cons MH_none FinB_nil FinB_cons rn_val rn_ro rn_rop rn_ptr rn_sl rn_agg rn_tup rn_clo rnI_hit rnI_miss low0 low1 low2 en_len en_aev en_putA lk_hit lk_miss en0_nil en0_cons mkH_next mkH_get mkH_lp grow_zero grow_succ grown_zero grown_succ Fit rn_grow MH_grown rws_nil rws_rn append_copy one_grow cellsOf_grow
attribute [simp] takeAt elemTy push_get push_next set_get set_next pop_move pop_assign pop_pick pop_load pop_fieldAddr pop_indexAddr pop_field pop_binOp pop_unOp pop_convert pop_extract pop_makeFunc pop_nilCheck pop_build pop_slice pop_len pop_max pop_min eop_alloc eop_box eop_store eop_buildSlice eop_makeSlice eop_append as_move as_assign as_pick as_load as_fieldAddr as_indexAddr as_field as_binOp as_unOp as_convert as_extract as_makeFunc as_nilCheck as_build as_slice as_len as_max as_min as_alloc as_box as_store as_buildSlice as_makeSlice as_append as_call cons_free cons_guard' putA_none aev_int aev_bool aev_nil aev_func pickA_and pickA_or pickA_true pickA_false nnA_ptr nnA_rop idxA_some intOf_int boxA_some bin_int binI_add binI_sub binI_mul binI_quo binI_rem binI_eql binI_neq binI_lss binI_leq binI_gtr binI_geq unA_not unA_neg loadA_ptr loadA_rop loadO_some asLoaded_agg asLoaded_one resA_one resA_two resOne_tmp' resOne_cell' cellsOf_int cellsOf_bool cellsOf_clo cellsOf_ptr cellsOf_ro cellsOf_sl cellsOf_nil cellsOf_agg one_int one_bool one_nil one_clo one_ptr one_ro one_sl one_rop mm_max mm_min elS_sl elS2_sl mkA_some chunk_zero chunk_succ zcells_zero zcells_succ clean_val clean_ro clean_rop clean1_val clean1_ro clean1_rop flat_val flat_ro flat_agg
attribute [simp] quietA effectful allocs fpo findNew_nil q_move q_assign q_pick q_load q_fieldAddr q_indexAddr q_field q_binOp q_unOp q_convert q_extract q_makeFunc q_nilCheck q_build q_slice q_len q_max q_min e_alloc e_box e_store e_buildSlice e_makeSlice e_append q_call e_call dr_free dr_guard' qView_next eView_next hit_nil hit_cons qView_get optL_some optL_none eView_get fp_alloc fp_box fp_make fp_append fp_build fp_call fp_store mergeG_get new_store findNew_cons
theorem lenA_grow {e : TypeId} {s by' : Nat} {z : List Value} {a f' cm : Bool} {b k n : Nat} : lenA { kind := .sl e, size := s, zero := z, agg := a, bytes := by', fok := f', cmp := cm } (grow b k n) = some (.val (.int .i64 n)) := by cases n <;> rfl
attribute [simp] frz_val frz_ro frz_agg frz_tup indexA_ro indexA_ro0 indexA_ro1 lenA_ro lenA_grow fieldA fldA partA bldT buildAr buildA fillA storeA buildSliceA emptyA one_get one_next re reOk
end Go.Pe
