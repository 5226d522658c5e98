import Derived.Test.YtffckclggkjbgaaGreatY07
set_option linter.unusedVariables false
set_option linter.unusedSimpArgs false
/- What is to be shown of a piece of code, statements with an open order among it, and that it is enough. -/
namespace Go.Pe
open Go

/-- A loop: an invariant with a measure that falls. -/
def Looped (V : (Exit → List AV → H → Prop) → List AV → H → Prop) (Q : Exit → List AV → H → Prop) (ρ : List AV) (h : H) : Prop :=
  ∃ I : Nat → List AV → H → Prop, (∃ j, I j ρ h) ∧ ∀ j ρ h, I j ρ h → V (fun e ρ' h' => match e with | .normal => ∃ j', j' < j ∧ I j' ρ' h' | e => Q e ρ' h') ρ h

/-- A statement whose order is open. -/
def Drawn (P : Program) (md : Oper → Bool) (ct : Cert) (ops : Array Oper) (Q : List AV → H → Prop) (ρ : List AV) (h : H) : Prop :=
  (∀ b ∈ ct.M, b < h.next) ∧ vcDr P md ct ops h Q ops.toList 0 ρ h.get

/-- A statement whose order is open, up to the operation m: those from there on run behind all others, one after another. -/
def DrawnT (P : Program) (md : Oper → Bool) (ct : Cert) (ops : Array Oper) (m : Nat) (Q : List AV → H → Prop) (ρ : List AV) (h : H) : Prop :=
  (∀ b ∈ ct.M, b < h.next) ∧ m ≤ ops.size ∧ tailOK ops m = true ∧ vcDr P md ct ops h (fun ρ h => vcOps P md ops Q (ops.toList.drop m) ρ h) (ops.toList.take m) 0 ρ h.get
theorem Drawn.tail {P : Program} {md : Oper → Bool} {ct : Cert} {ops : Array Oper} {Q : List AV → H → Prop} {ρ : List AV} {h : H} (hv : Drawn P md ct ops Q ρ h) : DrawnT P md ct ops ops.size Q ρ h := by
  refine ⟨hv.1, Nat.le_refl _, List.all_eq_true.2 fun k hk => by rw [Bool.or_eq_true]; exact .inl (by simpa using hk), ?_⟩
  rw [show ops.toList.take ops.size = ops.toList from List.take_of_length_le (by simp), show ops.toList.drop ops.size = [] from List.drop_of_length_le (by simp)]
  exact hv.2

/-- Nothing of a surrounding round is lost. -/
def rdOk (rd : Option Nat) (h : H) : Prop := match rd with | none => True | some b => (h.lp b).isSome = true

/-- How code goes on behind a loop over a function. -/
def jumped (Q : Exit → List AV → H → Prop) (j : Option Code) (ρ : List AV) (h : H) : Prop :=
  match j with
  | none => Q .normal ρ h
  | some .ret => Q .ret ρ h
  | some (.exit id) => Q (.exit id) ρ h
  | _ => False

/-- A loop over a function. -/
def Ranged (P : Program) (rd : Option Nat) (ps : Array Tmp) (assign body : Code) (g : AV) (Q : Exit → List AV → H → Prop) (ρ : List AV) (h : H) : Prop :=
  match g with
  | .clo gf caps => rdOk rd h ∧ ∃ x h2 r, Fn P gf (.yld h.next :: caps) (h.opn ρ ps assign body) x h2 ∧ h2.lp h.next = some r ∧ r.st ≠ .busy ∧ jumped Q r.pend ρ (h2.lset h.next none)
  | _ => False

/-- What is to be shown of a piece of code, so that 'Q' holds behind it. 'rd': the round that the code stands in. -/
def vc (P : Program) (md : Oper → Bool) (ct : Nat → Cert) (rd : Option Nat) : Code → (Exit → List AV → H → Prop) → List AV → H → Prop
  | .skip, Q, ρ, h => Q .normal ρ h
  | .region _ ops false, Q, ρ, h => vcOps P md ops (Q .normal) ops.toList ρ h
  | .region id ops true, Q, ρ, h => Drawn P md (ct id) ops (Q .normal) ρ h
  | .seq x y, Q, ρ, h => vc P md ct rd x (fun e ρ h => match e with | .normal => vc P md ct rd y Q ρ h | e => Q e ρ h) ρ h
  | .cond c x y, Q, ρ, h => onBool (aev ρ c) (fun b => ifB b (vc P md ct rd x Q ρ h) (vc P md ct rd y Q ρ h) .mk .mk) False .mk .mk
  | .block id x, Q, ρ, h => vc P md ct rd x (fun e ρ h => match e with | .exit id' => (if id' = id then Q .normal ρ h else Q (.exit id') ρ h) | e => Q e ρ h) ρ h
  | .loop x, Q, ρ, h => Looped (vc P md ct rd x) Q ρ h
  | .rangeFunc g ps assign body, Q, ρ, h => Ranged P rd ps assign body (aev ρ g) Q ρ h
  | .exit id, Q, ρ, h => Q (.exit id) ρ h
  | .ret, Q, ρ, h => Q .ret ρ h
  | _, _, _, _ => False

/-- The same, where what is said of open orders may be chosen at each visit. -/
def vcE (P : Program) (md : Oper → Bool) (rd : Option Nat) : Code → (Exit → List AV → H → Prop) → List AV → H → Prop
  | .skip, Q, ρ, h => Q .normal ρ h
  | .region _ ops false, Q, ρ, h => vcOps P md ops (Q .normal) ops.toList ρ h
  | .region _ ops true, Q, ρ, h => P.follows .mixedOrders = true ∧ tmpsApart ops = true ∧ ∃ ct, fpsApart ops ct = true ∧ ∃ m, DrawnT P md ct ops m (Q .normal) ρ h
  | .seq x y, Q, ρ, h => vcE P md rd x (fun e ρ h => match e with | .normal => vcE P md rd y Q ρ h | e => Q e ρ h) ρ h
  | .cond c x y, Q, ρ, h => onBool (aev ρ c) (fun b => ifB b (vcE P md rd x Q ρ h) (vcE P md rd y Q ρ h) .mk .mk) False .mk .mk
  | .block id x, Q, ρ, h => vcE P md rd x (fun e ρ h => match e with | .exit id' => (if id' = id then Q .normal ρ h else Q (.exit id') ρ h) | e => Q e ρ h) ρ h
  | .loop x, Q, ρ, h => Looped (vcE P md rd x) Q ρ h
  | .rangeFunc g ps assign body, Q, ρ, h => Ranged P rd ps assign body (aev ρ g) Q ρ h
  | .exit id, Q, ρ, h => Q (.exit id) ρ h
  | .ret, Q, ρ, h => Q .ret ρ h
  | _, _, _, _ => False

/-- A loop, that no unfolding enters. -/
def LoopC (P : Program) (md : Oper → Bool) (ct : Nat → Cert) (rd : Option Nat) (x : Code) (Q : Exit → List AV → H → Prop) (_ : Tag Q) (ρ : List AV) (h : H) : Prop := Looped (vc P md ct rd x) Q ρ h

section
variable {P : Program} {md : Oper → Bool} {ct : Nat → Cert} {rd : Option Nat} {Q : Exit → List AV → H → Prop} {ρ : List AV} {h : H}
theorem vc_skip : vc P md ct rd .skip Q ρ h = Q .normal ρ h := rfl
theorem vc_region {id : Nat} {ops : Array Oper} : vc P md ct rd (.region id ops false) Q ρ h = vcOps P md ops (Q .normal) ops.toList ρ h := rfl
theorem vc_draw {id : Nat} {ops : Array Oper} : vc P md ct rd (.region id ops true) Q ρ h = Drawn P md (ct id) ops (Q .normal) ρ h := rfl
theorem vc_seq {x y : Code} : vc P md ct rd (.seq x y) Q ρ h = vc P md ct rd x (fun e ρ h => match e with | .normal => vc P md ct rd y Q ρ h | e => Q e ρ h) ρ h := rfl
theorem vc_cond {c : Operand} {x y : Code} : vc P md ct rd (.cond c x y) Q ρ h = onBool (aev ρ c) (fun b => ifB b (vc P md ct rd x Q ρ h) (vc P md ct rd y Q ρ h) .mk .mk) False .mk .mk := rfl
theorem vc_block {id : Nat} {x : Code} : vc P md ct rd (.block id x) Q ρ h = vc P md ct rd x (fun e ρ h => match e with | .exit id' => (if id' = id then Q .normal ρ h else Q (.exit id') ρ h) | e => Q e ρ h) ρ h := rfl
theorem vc_loop {x : Code} : vc P md ct rd (.loop x) Q ρ h = LoopC P md ct rd x Q .mk ρ h := rfl
theorem vc_range {g : Operand} {ps : Array Tmp} {assign body : Code} : vc P md ct rd (.rangeFunc g ps assign body) Q ρ h = Ranged P rd ps assign body (aev ρ g) Q ρ h := rfl
theorem vc_exit {id : Nat} : vc P md ct rd (.exit id) Q ρ h = Q (.exit id) ρ h := rfl
theorem vc_ret : vc P md ct rd .ret Q ρ h = Q .ret ρ h := rfl

theorem stepA_eq {md : Oper → Bool} {o : Oper} {K : List AV → H → Prop} : stepA P md o K ρ h = match o.op with
  | .call { callee := .value f, args, .. } => onFn (aev ρ f) (fun g caps => onCall P g (args.toList.map (aev ρ) ++ caps) h (fun x h' => K (putA ρ o.dst x) h') .mk) (fun b => onRound P b (args.toList.map (aev ρ)) h (fun x h' => K (putA ρ o.dst x) h') .mk) .mk .mk
  | _ => onSome (stepV P (md o) o ρ h) (fun r => K (putA ρ o.dst r.1) r.2) .mk := rfl
theorem tyInt_of {t : TypeId} {T : TI} {f : TI → Option AV} (hT : ti P t = some T) : tyInt P t f = f T := by unfold tyInt; rw [hT]
theorem tyInt2_of {t : TypeId} {T : TI} {f : TI → Option (AV × H)} (hT : ti P t = some T) : tyInt2 P t f = f T := by unfold tyInt2; rw [hT]
theorem vcOps_nil {md : Oper → Bool} {all : Array Oper} {Q : List AV → H → Prop} : vcOps P md all Q [] ρ h = Q ρ h := rfl
theorem vcOps_cons {md : Oper → Bool} {all : Array Oper} {Q : List AV → H → Prop} {rest : List Oper} {o : Oper} : vcOps P md all Q (o :: rest) ρ h = match o.guard with
    | none => stepA P md o (vcOps P md all Q rest) ρ h
    | some (j, want) => onSome ((all[j]?).bind (·.dst)) (fun d => onBool (ρ.getD d (.val undef)) (fun b => ifB (b == want) (stepA P md o (vcOps P md all Q rest) (ρ.set d (.val (.bool want))) h) (vcOps P md all Q rest (putA (ρ.set d (.val (.bool !want))) o.dst (.val undef)) h) .mk .mk)
          (vcOps P md all Q rest (putA ρ o.dst (.val undef)) h) .mk .mk) .mk := rfl

/-- A LOOP, BY A FORM OF ITS SLOTS: 'tm s j' are the slots in the state 's', where 'j' stands for what nobody reads. -/
theorem LoopC.by {x : Code} {σ : Type} (tm : σ → (Nat → AV) → List AV) (hp : σ → H → Prop) (μ : σ → Nat) (s0 : σ) (h0 : hp s0 h) (e0 : ρ = tm s0 (fun k => ρ.getD k (.val undef)))
    (round : ∀ s j h, hp s h → vc P md ct rd x (fun e ρ' h' => match e with | .normal => ∃ s', hp s' h' ∧ ρ' = tm s' (fun k => ρ'.getD k (.val undef)) ∧ μ s' < μ s | e => Q e ρ' h') (tm s j) h) {t : Tag Q} : LoopC P md ct rd x Q t ρ h := by
  refine ⟨fun n ρ h => ∃ s, n = μ s ∧ hp s h ∧ ρ = tm s (fun k => ρ.getD k (.val undef)), ⟨_, s0, rfl, h0, e0⟩, ?_⟩
  rintro n ρ h ⟨s, rfl, h1, h2⟩
  have h3 := round s (fun k => ρ.getD k (.val undef)) h h1
  rw [← h2] at h3
  have heq : (fun (e : Exit) (ρ' : List AV) (h' : H) => match e with | .normal => ∃ s', hp s' h' ∧ ρ' = tm s' (fun k => ρ'.getD k (.val undef)) ∧ μ s' < μ s | e => Q e ρ' h') =
      fun (e : Exit) (ρ' : List AV) (h' : H) => match e with | .normal => ∃ j', j' < μ s ∧ ∃ s', j' = μ s' ∧ hp s' h' ∧ ρ' = tm s' (fun k => ρ'.getD k (.val undef)) | e => Q e ρ' h' := by
    funext e ρ' h'
    cases e with
    | normal => exact propext ⟨fun ⟨s', q1, q2, q3⟩ => ⟨_, q3, s', rfl, q1, q2⟩, fun ⟨_, q3, s', q0, q1, q2⟩ => ⟨s', q1, q2, q0 ▸ q3⟩⟩
    | _ => rfl
  rw [heq] at h3
  exact h3
end

/-- What a machine can check of the code at once. -/
def drawsOk (P : Program) (ct : Nat → Cert) : Code → Bool
  | .region id ops true => P.follows .mixedOrders && tmpsApart ops && fpsApart ops (ct id)
  | .seq x y => drawsOk P ct x && drawsOk P ct y
  | .cond _ x y => drawsOk P ct x && drawsOk P ct y
  | .block _ x => drawsOk P ct x
  | .loop x => drawsOk P ct x
  | _ => true

/-- The round that the machine is in, and its name. -/
def InRound (D0 : Nat → Prop) (c0 : Cx) (rd r : Option Nat) : Prop :=
  match rd, r with
  | none, none => True
  | some b, some l => D0 b ∧ c0.φ b = l
  | _, _ => False

theorem run_callFunc {P : Program} {g : Nat} (hcall : callable P g = true) (args : Array Value) (w : World) : (callFunc g args).run P w = .ok (.enter g args) w := by
  have hfn : ∃ fn b, P.funcs[g]? = some fn ∧ fn.name ≠ "runtime.NumGoroutine" ∧ fn.body = some b := by
    unfold callable at hcall
    cases hf : P.funcs[g]? with
    | none => simp [hf] at hcall
    | some fn =>
      simp only [hf, Bool.and_eq_true, bne_iff_ne, ne_eq] at hcall
      obtain ⟨b, hb⟩ := Option.isSome_iff_exists.1 hcall.2
      exact ⟨fn, b, rfl, by simpa using hcall.1, hb⟩
  obtain ⟨fn, b, e1, e2, e3⟩ := hfn
  simp [callFunc, e1, e2, e3]

section
variable {P : Program} {D0 : Nat → Prop} {h0 : H} {c0 : Cx} {w0 : World} (hf0 : ∀ b, h0.next ≤ b → ¬ D0 b) {r : Option Nat} {n : Nat} {rd : Option Nat} (hrd : InRound D0 c0 rd r)
include hf0 hrd

theorem range_sound {g : Operand} {ps : Array Tmp} {assign body : Code} {Q : Exit → List AV → H → Prop} {ρ : List AV} {h : H} {a : Act} {w : World} {c : Cx} {D : Nat → Prop}
    (hv : Ranged P rd ps assign body (aev ρ g) Q ρ h) (s : St D0 h0 c0 w0 ρ h a w c D) : (Code.rangeFunc g ps assign body).wpIn (Fr r) n P (Post D0 h0 c0 w0 Q) a w := by
  unfold Ranged at hv
  split at hv
  · rename_i gf caps hg
    obtain ⟨hrdok, x, h2, rr, ⟨hcall, hF⟩, hlp, hst, hj⟩ := hv
    have hgR := R_aev s.rl g
    rw [hg] at hgR
    generalize hav : a.eval g = gv at hgR
    cases hgR with
    | clo hs hh =>
      rename_i lb
      refine wpIn_rangeFunc fun fn _ => ?_
      have enter : ∃ (loc dd : Nat) (marks : List Deferred) (w1 : World), (Instr.enterLoop fn a.tmps ps assign body (Fr r).round).run P w = .ok (loc, marks) w1 ∧
          w1.heap[loc]? = some (.loop { state := .ready, pending := none, fn := fn, tmps := a.tmps, params := ps, assign := assign, body := body, defers := dd }) ∧ w.heap.size ≤ loc ∧ (∀ k, k < w.heap.size → w1.heap[k]? = w.heap[k]?) ∧
          w.heap.size ≤ w1.heap.size ∧ w1.os = w.os ∧ w1.tape = w.tape ∧ w1.output = w.output ∧ (∀ a, w1.frozen? a = w.frozen? a) ∧ Marks w0 c w1 { a with defers := marks ++ a.defers } := by
        obtain ⟨ms, m1, m2, m3⟩ := s.defers
        have old : ∀ d ∈ ms, d < w.heap.size := fun d hd => (Array.getElem?_eq_some_iff.1 (m3 d hd).2.2).1
        cases r with
        | none =>
          refine ⟨w.heap.size + 1, w.heap.size, [{ target := .collected w.heap.size, args := #[] }], _, run_enterLoop_outer _ _ _ _ _, ?_, by omega, fun k hk => ?_, ?_, rfl, rfl, rfl, fun a => ((made_alloc (w.alloc _) _).fz (fun _ _ _ _ h => by cases h) a).trans ((made_alloc w _).fz (fun _ _ _ _ h => by cases h) a), w.heap.size :: ms, by simp [m1], ?_, fun d hd => ?_⟩
          · have := World.alloc_heap_new (w.alloc (.deferred (some []))) (.loop { state := .ready, pending := none, fn := fn, tmps := a.tmps, params := ps, assign := assign, body := body, defers := w.heap.size })
            rwa [World.size_alloc] at this
          · rw [(made_alloc (w.alloc _) _).old k (by rw [World.size_alloc]; omega), (made_alloc w _).old k hk]
          · rw [World.size_alloc, World.size_alloc]; omega
          · exact List.nodup_cons.2 ⟨fun hm => by have := old _ hm; omega, m2⟩
          · rcases List.mem_cons.1 hd with rfl | hd
            · refine ⟨s.ext.size, fun hS => by have := s.rel.sz _ hS; omega, ?_⟩
              rw [(made_alloc (w.alloc _) _).old _ (by rw [World.size_alloc]; omega)]
              exact World.alloc_heap_new w _
            · obtain ⟨q1, q2, q3⟩ := m3 d hd
              refine ⟨q1, q2, ?_⟩
              rw [(made_alloc (w.alloc _) _).old d (by rw [World.size_alloc]; have := old d hd; omega), (made_alloc w _).old d (old d hd)]
              exact q3
        | some l =>
          cases rd with
          | none => exact hrd.elim
          | some b0 =>
            obtain ⟨hb0, hl⟩ := hrd
            obtain ⟨r0, hr0⟩ := Option.isSome_iff_exists.1 hrdok
            obtain ⟨_, _, fn', tmps', dd', q3, _⟩ := s.rel.lps b0 r0 hr0
            rw [s.ext.φ b0 hb0, hl] at q3
            refine ⟨w.heap.size, dd', [], w.alloc (.loop { state := .ready, pending := none, fn := fn, tmps := a.tmps, params := ps, assign := assign, body := body, defers := dd' }), ?_, World.alloc_heap_new w _, by omega, fun k hk => (made_alloc w _).old k hk, by rw [World.size_alloc]; omega, rfl, rfl, rfl, (made_alloc w _).fz (fun _ _ _ _ h => by cases h), ms, m1, m2, fun d hd => ?_⟩
            · show (Instr.enterLoop fn a.tmps ps assign body (some l)).run P w = _
              unfold Instr.enterLoop
              simp only [Sem.run_bind, run_getLoop q3, Result.andThen, Sem.run_pure, run_newObj_alloc]
            · obtain ⟨g1, g2, g3⟩ := m3 d hd
              exact ⟨g1, g2, by rw [(made_alloc w _).old d (old d hd)]; exact g3⟩
      obtain ⟨loc, dd, marks, w1, hrun, hrec, hloc, hold, hsz, hos, htape, hout, hfz, hmk⟩ := enter
      have hfr := s.fresh hf0
      obtain ⟨r1, e1⟩ := opn_ok (h := h) s.rel (hfr _ (Nat.le_refl _)) hloc hold hsz hos htape hout hfz hrec s.rl
      have hloc' : (c.bind h.next loc).φ h.next = loc := by simp [Cx.bind]
      refine ⟨loc, marks, w1, { target := .fn (.func gf) lb, args := #[.func (.yield loc) #[] #[]] }, w1, gf, #[.func (.yield loc) #[] #[]] ++ lb, w1, hrun, ?_, fun _ _ => trivial, ?_, fun hd => by simp [Fr, Fence.wide] at hd, ?_⟩
      · simp only [resolve, hav]
        simp [go_sem]
      · simp [invoke, go_sem, run_callFunc hcall]
      · refine CallsIn_Fr ((hF (n - 1) _ _ w1 _ r1 (fun b hb hD => ?_) ⟨by simp [hs]; omega, fun i y u g1 g2 => ?_⟩).mono ?_)
        · rcases hD with hD | hD
          · exact hfr b (by simp only [H.opn] at hb; omega) hD
          · simp only [H.opn] at hb; omega
        · have hy : R (c.bind h.next loc) w1 (addId D h.next) (.yld h.next) (.func (.yield loc) #[] #[]) := by
            have := R.yld (c := c.bind h.next loc) (w := w1) (D := addId D h.next) (b := h.next) (.inr rfl)
            rwa [hloc'] at this
          rw [Array.getElem?_append] at g2
          cases i with
          | zero => simp at g1 g2; subst g1; subst g2; exact hy
          | succ i =>
            simp at g1 g2
            exact e1.val s.rel (hh i y u g1 g2)
        · rintro e w2 ⟨v, c2, D2, rfl, hx, hr2, he2, hb2⟩
          obtain ⟨hD2, _, fn', tmps', dd', hblk, hrl2⟩ := hr2.lps h.next rr hlp
          have hφ2 : c2.φ h.next = loc := by rw [he2.φ h.next (.inr rfl), hloc']
          obtain ⟨r3, e3⟩ := lset_ok (b := h.next) (rec := { state := .exhausted, pending := rr.pend, fn := fn', tmps := tmps', params := rr.ps, assign := rr.assign, body := rr.body, defers := dd' }) hr2 hlp none (fun r hr => by cases hr)
          rw [hφ2] at hblk r3 e3
          refine ⟨rr.pend, _, run_endLoop hblk hst, ?_⟩
          have st : St D0 h0 c0 w0 ρ (h2.lset h.next none) { a with defers := marks ++ a.defers } (w2.putObj loc (.loop { state := .exhausted, pending := rr.pend, fn := fn', tmps := tmps', params := rr.ps, assign := rr.assign, body := rr.body, defers := dd' })) c2 D2 :=
            ⟨r3, e3.list hr2 (he2.list r1 (e1.list s.rel s.rl)), s.ext.trans (e1.trans (he2.trans e3)), Marks.step (Marks.step (⟨hmk.choose, hmk.choose_spec⟩ : Marks w0 (c.bind h.next loc) w1 _) r1 he2) hr2 e3, fun b hD => by
              have hn1 := he2.next
              simp only [H.opn] at hn1
              have hn0 := s.ext.next
              rcases hb2 b hD with g1 | g1
              · rcases g1 with g1 | g1
                · rcases s.dom b g1 with g2 | g2
                  · exact .inl g2
                  · exact .inr ⟨g2.1, by simp only [H.lset]; omega⟩
                · exact .inr ⟨by omega, by simp only [H.lset]; omega⟩
              · simp only [H.opn] at g1
                exact .inr ⟨by omega, g1.2⟩⟩
          unfold jumped at hj
          cases hp : rr.pend with
          | none => rw [hp] at hj; rw [hp] at st; exact ⟨_, _, _, _, hj, st⟩
          | some cc =>
            rw [hp] at hj; rw [hp] at st
            cases cc with
            | ret => exact wpIn_ret ⟨_, _, _, _, hj, st⟩
            | exit id => exact wpIn_exit ⟨_, _, _, _, hj, st⟩
            | _ => exact hj.elim
  · exact hv.elim
end

section
variable {P : Program} {md : Oper → Bool} {D0 : Nat → Prop} {h0 : H} {c0 : Cx} {w0 : World} (hf0 : ∀ b, h0.next ≤ b → ¬ D0 b) {r : Option Nat} {n : Nat} {rd : Option Nat} (hrd : InRound D0 c0 rd r)
include hf0 hrd

theorem vcE_sound : ∀ (code : Code) (Q : Exit → List AV → H → Prop) (ρ : List AV) (h : H) (a : Act) (w : World) (c : Cx) (D : Nat → Prop), vcE P md rd code Q ρ h → St D0 h0 c0 w0 ρ h a w c D →
    code.wpIn (Fr r) n P (Post D0 h0 c0 w0 Q) a w := by
  intro code
  induction code with
  | skip => intro Q ρ h a w c D hv s; exact wpIn_skip ⟨ρ, h, c, D, hv, s⟩
  | region id ops draw =>
    intro Q ρ h a w c D hv s
    cases draw with
    | false =>
      refine wpIn_region ?_
      have := ops_sound (r := r) (n := n) hf0 ops.toList 0 ρ h a w c D (by simp) hv s
      rwa [Array.length_toList, ← List.range_eq_range'] at this
    | true =>
      obtain ⟨g1, g2, ct, g3, m, g4⟩ := hv
      exact draw_soundT hf0 g1 g2 g3 g4.1 g4.2.1 g4.2.2.1 g4.2.2.2 s
  | seq x y ihx ihy =>
    intro Q ρ h a w c D hv s
    refine wpIn_seq (wpIn_mono (ihx _ ρ h a w c D hv s) ?_)
    rintro e a' w' ⟨ρ', h', c', D', hq, s'⟩
    cases e with
    | normal => exact ihy Q ρ' h' a' w' c' D' hq s'
    | _ => exact ⟨ρ', h', c', D', hq, s'⟩
  | cond cc x y ihx ihy =>
    intro Q ρ h a w c D hv s
    simp only [vcE, onBool, ifB] at hv
    split at hv
    · rename_i b hb
      have hc := R_aev s.rl cc
      rw [hb] at hc
      generalize hav : a.eval cc = vv at hc
      cases hc
      refine wpIn_cond hav ?_
      cases b with
      | true => exact ihx Q ρ h a w c D (by simpa using hv) s
      | false => exact ihy Q ρ h a w c D (by simpa using hv) s
    · exact hv.elim
    · exact hv.elim
  | block id x ih =>
    intro Q ρ h a w c D hv s
    refine wpIn_block (wpIn_mono (ih _ ρ h a w c D hv s) ?_)
    rintro e a' w' ⟨ρ', h', c', D', hq, s'⟩
    cases e with
    | exit id' =>
      simp only [Exit.inBlock] at hq ⊢
      split
      · rename_i hid; rw [if_pos hid] at hq; exact ⟨ρ', h', c', D', hq, s'⟩
      · rename_i hid; rw [if_neg hid] at hq; exact ⟨ρ', h', c', D', hq, s'⟩
    | _ => exact ⟨ρ', h', c', D', hq, s'⟩
  | loop x ih =>
    intro Q ρ h a w c D hv s
    obtain ⟨I, ⟨j0, hI⟩, hround⟩ := hv
    -- the measure is of the abstract state: it is carried by a choice of one
    intro b k cs hro hb hr
    have key : ∀ j ρ h a w c D, I j ρ h → St D0 h0 c0 w0 ρ h a w c D →
        ∃ e a' w', Post D0 h0 c0 w0 Q e a' w' ∧ ArrivesIn (Machine.fenced P (Fr r)) P (lone (b.atR a (.code x :: .inLoop x :: k)) cs w) b k cs e a' w' := by
      intro j
      induction j using Nat.strongRecOn with
      | _ j ihj =>
        intro ρ h a w c D hI s
        obtain ⟨e, a₁, w₁, ⟨ρ₁, h₁, c₁, D₁, hq, s₁⟩, harr⟩ := ih _ ρ h a w c D (hround j ρ h hI) s b (.inLoop x :: k) cs hro hb hr
        cases e with
        | normal =>
          obtain ⟨j₁, hlt, hI₁⟩ := hq
          obtain ⟨e₂, a₂, w₂, hq₂, harr₂⟩ := ihj j₁ hlt ρ₁ h₁ a₁ w₁ c₁ D₁ hI₁ s₁
          exact ⟨e₂, a₂, w₂, hq₂, .of_steps (StepsIn.trans harr (.one (fenced_calm hb hr rfl) stepR_inLoop)) harr₂⟩
        | exit id => exact ⟨_, a₁, w₁, ⟨ρ₁, h₁, c₁, D₁, hq, s₁⟩, .pass (x := .inLoop x) rfl (fun _ _ => .inl (by simp)) harr⟩
        | goto l => exact ⟨_, a₁, w₁, ⟨ρ₁, h₁, c₁, D₁, hq, s₁⟩, .pass (x := .inLoop x) rfl (fun _ _ => .inl (by simp)) harr⟩
        | ret => exact ⟨_, a₁, w₁, ⟨ρ₁, h₁, c₁, D₁, hq, s₁⟩, .pass (x := .inLoop x) rfl (fun _ _ => .inl (by simp)) harr⟩
        | panic ch => exact ⟨_, a₁, w₁, ⟨ρ₁, h₁, c₁, D₁, hq, s₁⟩, .pass (x := .inLoop x) rfl (fun _ _ => .inl (by simp)) harr⟩
        | outgrown => exact ⟨_, a₁, w₁, ⟨ρ₁, h₁, c₁, D₁, hq, s₁⟩, .pass (x := .inLoop x) rfl (fun _ _ => .inl (by simp)) harr⟩
    obtain ⟨e, a', w', hq, harr⟩ := key j0 ρ h a w c D hI s
    exact ⟨e, a', w', hq, .of_steps (.one (fenced_calm hb hr rfl) stepR_loop) harr⟩
  | rangeFunc g ps assign body _ _ =>
    intro Q ρ h a w c D hv s
    exact range_sound hf0 hrd hv s
  | exit id => intro Q ρ h a w c D hv s; exact wpIn_exit ⟨ρ, h, c, D, hv, s⟩
  | scope _ _ => intro Q ρ h a w c D hv; exact hv.elim
  | label _ => intro Q ρ h a w c D hv; exact hv.elim
  | goto _ => intro Q ρ h a w c D hv; exact hv.elim
  | ret => intro Q ρ h a w c D hv s; exact wpIn_ret ⟨ρ, h, c, D, hv, s⟩
  | refuse _ => intro Q ρ h a w c D hv; exact hv.elim
end

theorem stepA_mono {P : Program} {md : Oper → Bool} {o : Oper} {K K' : List AV → H → Prop} (hk : ∀ ρ h, K ρ h → K' ρ h) {ρ : List AV} {h : H} (hv : stepA P md o K ρ h) : stepA P md o K' ρ h := by
  unfold stepA at hv ⊢
  split at hv
  · unfold onFn at hv ⊢
    split at hv
    · obtain ⟨x, h', h1, h2⟩ := hv; exact ⟨x, h', h1, hk _ _ h2⟩
    · obtain ⟨x, h', h1, h2⟩ := hv; exact ⟨x, h', h1, hk _ _ h2⟩
    · exact hv.elim
  · unfold onSome at hv ⊢
    split at hv
    · exact hk _ _ hv
    · exact hv.elim
theorem onSome_mono {α : Type} {o : Option α} {K K' : α → Prop} {t : Tag K} {t' : Tag K'} (h : ∀ x, K x → K' x) (hv : onSome o K t) : onSome o K' t' := by
  cases o with
  | none => exact hv
  | some x => exact h x hv
theorem ifB_mono {b : Bool} {A A' C C' : Prop} {t : Tag A} {s : Tag C} {t' : Tag A'} {s' : Tag C'} (h1 : A → A') (h2 : C → C') (hv : ifB b A C t s) : ifB b A' C' t' s' := by
  cases b with
  | true => exact h1 hv
  | false => exact h2 hv
theorem onBool_mono {x : AV} {K K' : Bool → Prop} {T T' : Prop} {t : Tag K} {s : Tag T} {t' : Tag K'} {s' : Tag T'} (h1 : ∀ b, K b → K' b) (h2 : T → T') (hv : onBool x K T t s) : onBool x K' T' t' s' := by
  unfold onBool at hv ⊢
  split at hv
  · exact h1 _ hv
  · exact h2 hv
  · exact hv.elim
theorem vcOps_mono {P : Program} {md : Oper → Bool} {all : Array Oper} {Q Q' : List AV → H → Prop} (hq : ∀ ρ h, Q ρ h → Q' ρ h) : ∀ (l : List Oper) (ρ : List AV) (h : H), vcOps P md all Q l ρ h → vcOps P md all Q' l ρ h
  | [], ρ, h, hv => hq _ _ hv
  | o :: l, ρ, h, hv => by
    have ih := vcOps_mono (P := P) (md := md) (all := all) hq l
    simp only [vcOps] at hv ⊢
    cases hg : o.guard with
    | none => rw [hg] at hv; exact stepA_mono ih hv
    | some p => rw [hg] at hv; exact onSome_mono (fun d => onBool_mono (fun b => ifB_mono (stepA_mono ih) (ih _ _)) (ih _ _)) hv
theorem stepQ_mono {P : Program} {o : Oper} {q : H} {K K' : AV → Prop} (hk : ∀ x, K x → K' x) {ρ : List AV} (hv : stepQ P o q K ρ) : stepQ P o q K' ρ := by
  unfold stepQ at hv ⊢
  split at hv
  · unfold onClo at hv ⊢
    split at hv
    · obtain ⟨x, h1, h2⟩ := hv; exact ⟨x, h1, hk _ h2⟩
    · exact hv.elim
  · unfold onSome at hv ⊢
    split at hv
    · exact hk _ hv
    · exact hv.elim
theorem stepE_mono {P : Program} {own : Bool} {o : Oper} {v vc : H} {K K' : AV → H → Prop} (hk : ∀ x h, K x h → K' x h) {ρ : List AV} (hv : stepE P own o v vc K ρ) : stepE P own o v vc K' ρ := by
  unfold stepE at hv ⊢
  split at hv
  · unfold onClo at hv ⊢
    split at hv
    · obtain ⟨x, h', h1, h2, h3, h5⟩ := hv; exact ⟨x, h', h1, h2, h3, hk _ _ h5⟩
    · exact hv.elim
  · unfold onSome at hv ⊢
    split at hv
    · exact hk _ _ hv
    · exact hv.elim
theorem vcDr_mono {P : Program} {md : Oper → Bool} {ct : Cert} {all : Array Oper} {h0 : H} {Q Q' : List AV → H → Prop} (hq : ∀ ρ h, Q ρ h → Q' ρ h) : ∀ (l : List Oper) (i : Nat) (ρ : List AV) (g : Nat → Option (List AV)), vcDr P md ct all h0 Q l i ρ g → vcDr P md ct all h0 Q' l i ρ g
  | [], i, ρ, g, hv => hq _ _ hv
  | o :: l, i, ρ, g, hv => by
    have ih := vcDr_mono (P := P) (md := md) (ct := ct) (all := all) (h0 := h0) hq l (i + 1)
    have one : ∀ {ρ : List AV}, (if quietA ct i o then stepQ P o (qView ct h0 all.size i) (fun x => vcDr P md ct all h0 Q l (i + 1) (putA ρ o.dst x) g) ρ
        else stepE P (md o) o (eView all ct h0 i (h0.next + i) o g) (eView all ct h0 i (h0.next + all.size) o g) (fun x h' => vcDr P md ct all h0 Q l (i + 1) (putA ρ o.dst x) (mergeG g (eView all ct h0 i (h0.next + i) o g) h')) ρ) →
        (if quietA ct i o then stepQ P o (qView ct h0 all.size i) (fun x => vcDr P md ct all h0 Q' l (i + 1) (putA ρ o.dst x) g) ρ
        else stepE P (md o) o (eView all ct h0 i (h0.next + i) o g) (eView all ct h0 i (h0.next + all.size) o g) (fun x h' => vcDr P md ct all h0 Q' l (i + 1) (putA ρ o.dst x) (mergeG g (eView all ct h0 i (h0.next + i) o g) h')) ρ) := fun hv => by
      split at hv
      · rename_i hc; rw [if_pos hc]; exact stepQ_mono (fun x => ih _ _) hv
      · rename_i hc; rw [if_neg hc]; exact stepE_mono (fun x h => ih _ _) hv
    simp only [vcDr] at hv ⊢
    cases hg : o.guard with
    | none => rw [hg] at hv; exact one hv
    | some p => rw [hg] at hv; exact onSome_mono (fun d => onBool_mono (fun b => ifB_mono one (ih _ _)) (ih _ _)) hv
theorem Ranged_mono {P : Program} {rd : Option Nat} {ps : Array Tmp} {assign body : Code} {g : AV} {Q Q' : Exit → List AV → H → Prop} (hq : ∀ e ρ h, Q e ρ h → Q' e ρ h) {ρ : List AV} {h : H} (hv : Ranged P rd ps assign body g Q ρ h) : Ranged P rd ps assign body g Q' ρ h := by
  unfold Ranged at hv ⊢
  split at hv
  · obtain ⟨h0, x, h2, r, h3, h4, h5, h6⟩ := hv
    refine ⟨h0, x, h2, r, h3, h4, h5, ?_⟩
    unfold jumped at h6 ⊢
    split at h6
    · exact hq _ _ _ h6
    · exact hq _ _ _ h6
    · exact hq _ _ _ h6
    · exact h6.elim
  · exact hv.elim

/-- What was said for a whole function may be chosen at each visit. -/
theorem vcE_of_vc {P : Program} {md : Oper → Bool} {ct : Nat → Cert} {rd : Option Nat} : ∀ (code : Code) (Q Q' : Exit → List AV → H → Prop) (ρ : List AV) (h : H), drawsOk P ct code = true → (∀ e ρ h, Q e ρ h → Q' e ρ h) → vc P md ct rd code Q ρ h → vcE P md rd code Q' ρ h := by
  intro code
  induction code with
  | skip => intro Q Q' ρ h _ hq hv; exact hq _ _ _ hv
  | region id ops draw =>
    intro Q Q' ρ h hd hq hv
    cases draw with
    | false => exact vcOps_mono (fun ρ h => hq _ ρ h) ops.toList ρ h hv
    | true =>
      simp only [drawsOk, Bool.and_eq_true] at hd
      exact ⟨hd.1.1, hd.1.2, ct id, hd.2, ops.size, Drawn.tail ⟨hv.1, vcDr_mono (fun ρ h => hq _ ρ h) ops.toList 0 ρ h.get hv.2⟩⟩
  | seq x y ihx ihy =>
    intro Q Q' ρ h hd hq hv
    simp only [drawsOk, Bool.and_eq_true] at hd
    refine ihx _ _ ρ h hd.1 (fun e ρ h he => ?_) hv
    cases e with
    | normal => exact ihy Q Q' ρ h hd.2 hq he
    | _ => exact hq _ _ _ he
  | cond cc x y ihx ihy =>
    intro Q Q' ρ h hd hq hv
    simp only [drawsOk, Bool.and_eq_true] at hd
    simp only [vc, onBool] at hv
    simp only [vcE, onBool]
    split at hv
    · rename_i b hb
      unfold ifB at hv ⊢
      cases b with
      | true => exact ihx Q Q' ρ h hd.1 hq hv
      | false => exact ihy Q Q' ρ h hd.2 hq hv
    · exact hv.elim
    · exact hv.elim
  | block id x ih =>
    intro Q Q' ρ h hd hq hv
    refine ih _ _ ρ h hd (fun e ρ h he => ?_) hv
    cases e with
    | exit id' =>
      simp only at he ⊢
      split at he
      · rename_i hid; rw [if_pos hid]; exact hq _ _ _ he
      · rename_i hid; rw [if_neg hid]; exact hq _ _ _ he
    | _ => exact hq _ _ _ he
  | loop x ih =>
    intro Q Q' ρ h hd hq hv
    obtain ⟨I, h1, h2⟩ := hv
    refine ⟨I, h1, fun j ρ h hI => ih _ _ ρ h hd (fun e ρ h he => ?_) (h2 j ρ h hI)⟩
    cases e with
    | normal => exact he
    | _ => exact hq _ _ _ he
  | rangeFunc g ps assign body _ _ =>
    intro Q Q' ρ h _ hq hv
    simp only [vc, vcE] at hv ⊢
    exact Ranged_mono hq hv
  | exit id => intro Q Q' ρ h _ hq hv; exact hq _ _ _ hv
  | ret => intro Q Q' ρ h _ hq hv; exact hq _ _ _ hv
  | _ => intro Q Q' ρ h _ hq hv; exact hv.elim

theorem mapM_frz {hh : H} {N : Nat} : ∀ (l : List AV), (∀ (j : Nat) (y : AV), l[j]? = some y → ∃ k0, ∀ k, k0 ≤ k → frz k hh N y = some y) → ∃ k0, ∀ k, k0 ≤ k → l.mapM (frz k hh N) = some l
  | [], _ => ⟨0, fun k _ => by simp⟩
  | y :: l, h => by
    obtain ⟨k1, h1⟩ := h 0 y rfl
    obtain ⟨k2, h2⟩ := mapM_frz l fun j z hz => h (j + 1) z (by simpa using hz)
    refine ⟨max k1 k2, fun k hk => ?_⟩
    rw [List.mapM_cons, h1 k (by omega), h2 k (by omega)]
    rfl

/-- WHAT SPEAKS OF OLD BLOCKS ONLY STAYS AS IT IS. -/
theorem R.frz {c : Cx} {w : World} {D : Nat → Prop} {y : AV} {u : Value} (h : R c w D y u) {N : Nat} (hD : ∀ b, N ≤ b → ¬ D b) (hh : H) : ∃ k0, ∀ k, k0 ≤ k → Pe.frz k hh N y = some y := by
  induction h with
  | val v => exact ⟨1, fun k hk => by cases k with | zero => omega | succ k => simp [Pe.frz]⟩
  | ro cell hS hl hc hf hk hcell ho h ih => exact ⟨1, fun k hk => by cases k with | zero => omega | succ k => simp [Pe.frz]⟩
  | nil => exact ⟨1, fun k hk => by cases k with | zero => omega | succ k => simp [Pe.frz]⟩
  | emp => exact ⟨1, fun k hk => by cases k with | zero => omega | succ k => simp [Pe.frz]⟩
  | rop cell hS hcell h ih => exact ⟨1, fun k hk => by cases k with | zero => omega | succ k => simp [Pe.frz]⟩
  | ptr hb =>
    rename_i b o
    have : b < N := Nat.lt_of_not_le fun hle => hD b hle hb
    exact ⟨1, fun k hk => by cases k with | zero => omega | succ k => simp [Pe.frz, this]⟩
  | sl hb hc C e hblk hC =>
    rename_i b o len kk cap
    have : b < N := Nat.lt_of_not_le fun hle => hD b hle hb
    exact ⟨1, fun k hk => by cases k with | zero => omega | succ k => simp [Pe.frz, this]⟩
  | slc hb hc C e hblk hC =>
    rename_i b o len kk cap
    have : b < N := Nat.lt_of_not_le fun hle => hD b hle hb
    exact ⟨1, fun k hk => by cases k with | zero => omega | succ k => simp [Pe.frz, this]⟩
  | yld hb =>
    rename_i b
    have : b < N := Nat.lt_of_not_le fun hle => hD b hle hb
    exact ⟨1, fun k hk => by cases k with | zero => omega | succ k => simp [Pe.frz, this]⟩
  | agg hs h ih =>
    rename_i l cs
    obtain ⟨k0, h0⟩ := mapM_frz (hh := hh) (N := N) l fun j y hy => ih j y _ hy (Array.getElem?_eq_getElem (by rw [hs]; exact (List.getElem?_eq_some_iff.1 hy).1)) hD
    exact ⟨k0 + 1, fun k hk => by cases k with | zero => omega | succ k => simp [Pe.frz, h0 k (by omega)]⟩
  | tup hs h ih =>
    rename_i l cs
    obtain ⟨k0, h0⟩ := mapM_frz (hh := hh) (N := N) l fun j y hy => ih j y _ hy (Array.getElem?_eq_getElem (by rw [hs]; exact (List.getElem?_eq_some_iff.1 hy).1)) hD
    exact ⟨k0 + 1, fun k hk => by cases k with | zero => omega | succ k => simp [Pe.frz, h0 k (by omega)]⟩
  | clo hs h ih =>
    rename_i f caps cs
    obtain ⟨k0, h0⟩ := mapM_frz (hh := hh) (N := N) caps fun j y hy => ih j y _ hy (Array.getElem?_eq_getElem (by rw [hs]; exact (List.getElem?_eq_some_iff.1 hy).1)) hD
    exact ⟨k0 + 1, fun k hk => by cases k with | zero => omega | succ k => simp [Pe.frz, h0 k (by omega)]⟩

/-- What holds of every heap that describes a world. -/
def LiveH (h : H) : Prop := (∀ b cs, h.get b = some cs → b < h.next ∧ ∀ hh, ∃ k, cs.mapM (frz k hh h.next) = some cs) ∧ ∀ b r, h.lp b = some r → b < h.next ∧ ∀ hh, ∃ k, r.ρ.mapM (frz k hh h.next) = some r.ρ

theorem live_of {c : Cx} {D : Nat → Prop} {h : H} {w : World} (hr : Rel c D h w) (hfr : ∀ b, h.next ≤ b → ¬ D b) : LiveH h := by
  refine ⟨fun b cs hb => ?_, fun b r hb => ?_⟩
  · obtain ⟨q1, q2, C, e, q3, q4, q5⟩ := hr.own b cs hb
    refine ⟨Nat.lt_of_not_le fun hle => hfr b hle q1, fun hh => ?_⟩
    obtain ⟨k0, h0⟩ := mapM_frz (hh := hh) (N := h.next) cs fun j y hy => (q5 j y _ hy (Array.getElem?_eq_getElem (Nat.lt_of_lt_of_le (List.getElem?_eq_some_iff.1 hy).1 q4))).frz hfr hh
    exact ⟨k0, h0 k0 (Nat.le_refl _)⟩
  · obtain ⟨q1, q2, fn, tmps, dd, q3, q4⟩ := hr.lps b r hb
    refine ⟨Nat.lt_of_not_le fun hle => hfr b hle q1, fun hh => ?_⟩
    obtain ⟨k0, h0⟩ := mapM_frz (hh := hh) (N := h.next) r.ρ fun j y hy => (q4.2 j y _ hy (Array.getElem?_eq_getElem (by rw [q4.1]; exact (List.getElem?_eq_some_iff.1 hy).1))).frz hfr hh
    exact ⟨k0, h0 k0 (Nat.le_refl _)⟩

/-- A BODY AND ITS RESULTS. -/
theorem body_sound {P : Program} {f : FuncId} {fn : Func} {code : Code} (md : Oper → Bool) {args : List AV} {h : H} (hf : P.funcs[f]? = some fn) (hb : fn.body = some code)
    {F : Exit → List AV → H → Prop} (hF : ∀ e ρ hh, F e ρ hh → (e = .normal ∨ e = .ret) ∧ ∃ y, resA P fn.results ρ hh = some y)
    (hv : LiveH h → vcE P md none code F (args ++ List.replicate (fn.ntmps - args.length) (.val undef)) h) (n : Nat) (c : Cx) (D : Nat → Prop) (w : World) (vs : Array Value) (hr : Rel c D h w) (hfr : ∀ b, h.next ≤ b → ¬ D b) (hargs : RL c w D args vs) :
    CallsIn Fence.wide n P f vs w fun e w' => ∃ v c' D' ρ hh y ex, e = .returned v ∧ F ex ρ hh ∧ resA P fn.results ρ hh = some y ∧ R c' w' D' y v ∧ Rel c' D' hh w' ∧ Ext D h c w D' c' w' hh ∧ ∀ b, D' b → D b ∨ (h.next ≤ b ∧ b < hh.next) := by
  refine callsIn_of_wp_marks hf hb trivial (wpIn_mono (vcE_sound (md := md) (r := none) (rd := none) (n := n) (D0 := D) (h0 := h) (c0 := c) (w0 := w) hfr trivial code _ _ h _ w c D (hv (live_of hr hfr)) ?_) ?_)
  · refine ⟨hr, ⟨by simp [hargs.1], fun i y u e1 e2 => ?_⟩, Ext.refl D h c w, Marks.of_nil rfl, fun b hb => .inl hb⟩
    rw [Array.getElem?_append] at e2
    by_cases hi : i < vs.size
    · rw [if_pos hi] at e2
      rw [List.getElem?_append_left (by rw [← hargs.1]; exact hi)] at e1
      exact hargs.2 i y u e1 e2
    · rw [if_neg hi] at e2
      rw [List.getElem?_append_right (by rw [← hargs.1]; omega)] at e1
      simp only [List.getElem?_replicate, Array.getElem?_replicate] at e1 e2
      split at e1
      · split at e2
        · cases e1; cases e2; exact .val _
        · cases e2
      · cases e1
  · rintro e a w' ⟨ρ, hh, c', D', hq, s⟩
    obtain ⟨hex, y, hy⟩ := hF _ _ _ hq
    obtain ⟨ms, h1, h2, h3, g1, g2, g3⟩ := s.shut
    obtain ⟨v, h4, h5⟩ := run_resA (fn := fn) g1 g2 hy
    have fin := leaves_marks (F := Fr none) (n := n) (P := P) (fn := fn) (tmps := a.tmps) (R := fun e w' => ∃ v c' D' ρ hh y ex, e = .returned v ∧ F ex ρ hh ∧ resA P fn.results ρ hh = some y ∧ R c' w' D' y v ∧ Rel c' D' hh w' ∧ Ext D h c w D' c' w' hh ∧ ∀ b, D' b → D b ∨ (h.next ≤ b ∧ b < hh.next)) ms w' h2 h3
      ⟨v, h4, v, c', D', ρ, hh, y, e, rfl, hq, hy, h5, g1, g3, s.dom⟩
    rw [← h1] at fin
    rcases hex with rfl | rfl
    · exact fin
    · exact fin

/-- WHAT A CALL HAS MADE IS READ FROM THEN ON. -/
theorem frz_post {c c' : Cx} {D D' : Nat → Prop} {h h' hh : H} {w w' : World} {x y : AV} {v : Value} {k : Nat} (hy : R c' w' D' y v) (hr : Rel c' D' hh w') (he : Ext D h c w D' c' w' hh) (hdom : ∀ b, D' b → D b ∨ (h.next ≤ b ∧ b < hh.next))
    (hn : h'.next = h.next) (h2 : frz k hh h.next y = some x) (h3 : ∀ b cs, h'.get b = some cs → ∃ ds k, hh.get b = some ds ∧ b < h.next ∧ ds.mapM (frz k hh h.next) = some cs)
    (h4 : ∀ b r, h'.lp b = some r → hh.lp b = some r ∧ b < h.next ∧ ∃ k, r.ρ.mapM (frz k hh h.next) = some r.ρ) :
    R (c'.all hh h.next) w' D x v ∧ Rel (c'.all hh h.next) D h' w' ∧ Ext D h c w D (c'.all hh h.next) w' h' := by
  have hDD : ∀ b, D' b → b < h.next → D b := fun b hb hlt => by
    rcases hdom b hb with h6 | h6
    · exact h6
    · omega
  refine ⟨frz_R hr hDD k y x v hy h2, ⟨fun b cs hb => ?_, fun b b' cs1 cs2 e1 e2 he => ?_, fun q hq => ?_, fun b r hb => ?_, fun b b' r r' e1 e2 he => hr.linj b b' r r' (h4 b r e1).1 (h4 b' r' e2).1 he⟩,
    ⟨fun q hq => .inl (he.S q hq), fun q hq => ?_, fun b hb => he.φ b hb, fun b hb => hb, by omega, he.os, he.tape, he.output, he.size, he.frame, he.shp, fun b cs hb => ?_, fun b r hb => he.lorigin b r (h4 b r hb).1, he.fz⟩⟩
  · obtain ⟨ds, k', g1, g2, g3⟩ := h3 b cs hb
    obtain ⟨q1, q2, C, e, q3, q4, q5⟩ := hr.own b ds g1
    obtain ⟨m1, m2⟩ := mapM_some g3
    refine ⟨hDD b q1 g2, fun hS => ?_, C, e, q3, by rw [m1]; exact q4, fun j y u e1 e2 => ?_⟩
    · rcases hS with hS | ⟨b2, cs2, t1, t2, t3⟩
      · exact q2 hS
      · have := hr.inj b2 b cs2 ds t2 g1 t3
        omega
    · have hj := (List.getElem?_eq_some_iff.1 e1).1
      rw [m1] at hj
      obtain ⟨y', e3, e4⟩ := m2 j _ (List.getElem?_eq_getElem hj)
      rw [e1] at e4; cases e4
      exact frz_R hr hDD k' _ _ _ (q5 j _ u (List.getElem?_eq_getElem hj) e2) e3
  · obtain ⟨ds1, _, g1, _, _⟩ := h3 b cs1 e1
    obtain ⟨ds2, _, g2, _, _⟩ := h3 b' cs2 e2
    exact hr.inj b b' ds1 ds2 g1 g2 he
  · rcases hq with hq | ⟨b, cs, t1, t2, t3⟩
    · exact hr.sz q hq
    · obtain ⟨_, _, C, e, q3, _⟩ := hr.own b cs t2
      rw [← t3]; exact (Array.getElem?_eq_some_iff.1 q3).1
  · obtain ⟨g1, g2, k', g3⟩ := h4 b r hb
    obtain ⟨q1, q2, fn, tmps, dd, q3, q4⟩ := hr.lps b r g1
    obtain ⟨m1, m2⟩ := mapM_some g3
    refine ⟨hDD b q1 g2, fun hS => ?_, fn, tmps, dd, q3, q4.1, fun i y u e1 e2 => ?_⟩
    · rcases hS with hS | ⟨b2, cs2, t1, t2, t3⟩
      · exact q2 hS
      · obtain ⟨_, _, C, e, p3, _⟩ := hr.own b2 cs2 t2
        exact hr.apart (b' := b2) g1 p3 t3.symm
    · obtain ⟨y', e3, e4⟩ := m2 i _ e1
      rw [e1] at e4; cases e4
      exact frz_R hr hDD k' _ _ _ (q4.2 i _ u e1 e2) e3
  · rcases hq with hq | ⟨b, cs, t1, t2, t3⟩
    · exact he.newS q hq
    · rcases he.origin b cs t2 with ⟨b0, cs0, u1, u2⟩ | u
      · exact .inr (.inr ⟨b0, cs0, u1, u2.trans t3⟩)
      · exact .inr (.inl (t3 ▸ u))
  · obtain ⟨ds, _, g1, _, _⟩ := h3 b cs hb
    exact he.origin b ds g1

theorem Fn.freeze {P : Program} {f : FuncId} {args : List AV} {h h' hh : H} {x y : AV} {k : Nat} (h1 : Fn P f args h y hh) (hn : h'.next = h.next) (h2 : frz k hh h.next y = some x)
    (h3 : ∀ b cs, h'.get b = some cs → ∃ ds k, hh.get b = some ds ∧ b < h.next ∧ ds.mapM (frz k hh h.next) = some cs) (h4 : ∀ b r, h'.lp b = some r → hh.lp b = some r ∧ b < h.next ∧ ∃ k, r.ρ.mapM (frz k hh h.next) = some r.ρ) : Fn P f args h x h' := by
  refine ⟨h1.1, fun n c D w vs hr hfr hargs => (h1.2 n c D w vs hr hfr hargs).mono ?_⟩
  rintro e w' ⟨v, c', D', rfl, g1, g2, g3, g4⟩
  obtain ⟨q1, q2, q3⟩ := frz_post g1 g2 g3 g4 hn h2 h3 h4
  exact ⟨v, _, D, rfl, q1, q2, q3, fun b hb => .inl hb⟩

/-- A FUNCTION AND ALL THAT IT HAS MADE. -/
theorem Fn.of_vcE {P : Program} {f : FuncId} {fn : Func} {code : Code} (md : Oper → Bool) {args : List AV} {h hh : H} {y : AV} (hcall : callable P f = true) (hf : P.funcs[f]? = some fn) (hb : fn.body = some code)
    (hv : vcE P md none code (fun e ρ k => (e = .normal ∨ e = .ret) ∧ resA P fn.results ρ k = some y ∧ k = hh) (args ++ List.replicate (fn.ntmps - args.length) (.val undef)) h) : Fn P f args h y hh := by
  refine ⟨hcall, fun n c D w vs hr hfr hargs => (body_sound md hf hb (fun e ρ k hk => ⟨hk.1, y, hk.2.1⟩) (fun _ => hv) n c D w vs hr hfr hargs).mono ?_⟩
  rintro e w' ⟨v, c', D', ρ, k, y', ex, rfl, ⟨_, g1, rfl⟩, g2, g3, g4, g5, g6⟩
  rw [g1] at g2; cases g2
  exact ⟨v, c', D', rfl, g3, g4, g5, g6⟩

theorem Fn.of_vc_gen {P : Program} {f : FuncId} {fn : Func} {code : Code} (md : Oper → Bool) (ct : Nat → Cert) {args : List AV} {h h' : H} {x : AV} (hcall : callable P f = true) (hf : P.funcs[f]? = some fn) (hb : fn.body = some code) (hn : h'.next = h.next)
    (hd : drawsOk P ct code = true)
    {F : Exit → List AV → H → Prop} (hF : LiveH h → ∀ e ρ hh, F e ρ hh → FinA P fn h x h' e ρ hh)
    (hv : LiveH h → vc P md ct none code F (args ++ List.replicate (fn.ntmps - args.length) (.val undef)) h) : Fn P f args h x h' := by
  refine ⟨hcall, fun n c D w vs hr hfr hargs => ?_⟩
  have live := live_of hr hfr
  refine (body_sound md hf hb (F := FinA P fn h x h') (fun e ρ k hk => ?_) (fun live => vcE_of_vc code _ _ _ _ hd (hF live) (hv live)) n c D w vs hr hfr hargs).mono ?_
  · unfold FinA at hk
    cases e with
    | normal => obtain ⟨y, _, h1, _⟩ := hk; exact ⟨.inl rfl, y, h1⟩
    | ret => obtain ⟨y, _, h1, _⟩ := hk; exact ⟨.inr rfl, y, h1⟩
    | _ => exact hk.elim
  · rintro e w' ⟨v, c', D', ρ, hh, y, ex, rfl, hfin, g2, g3, g4, g5, g6⟩
    have hfin' : ∃ y k, resA P fn.results ρ hh = some y ∧ frz k hh h.next y = some x ∧ (∀ b cs, h'.get b = some cs → ∃ ds k, hh.get b = some ds ∧ b < h.next ∧ ds.mapM (frz k hh h.next) = some cs) ∧
        ∀ b r, h'.lp b = some r → hh.lp b = some r ∧ b < h.next ∧ ∃ k, r.ρ.mapM (frz k hh h.next) = some r.ρ := by
      unfold FinA at hfin
      cases ex with
      | normal => exact hfin
      | ret => exact hfin
      | _ => exact hfin.elim
    obtain ⟨y', k, q1, q2, q3, q4⟩ := hfin'
    rw [q1] at g2; cases g2
    obtain ⟨p1, p2, p3⟩ := frz_post g3 g4 g5 g6 hn q2 q3 q4
    exact ⟨v, _, D, rfl, p1, p2, p3, fun b hb => .inl hb⟩

theorem Fn.of_vc {P : Program} {f : FuncId} {fn : Func} {code : Code} (md : Oper → Bool) (ct : Nat → Cert) {args : List AV} {h h' : H} {x : AV} (hcall : callable P f = true) (hf : P.funcs[f]? = some fn) (hb : fn.body = some code) (hn : h'.next = h.next) (hd : drawsOk P ct code = true)
    (hv : vc P md ct none code (FinA P fn h x h') (args ++ List.replicate (fn.ntmps - args.length) (.val undef)) h) : Fn P f args h x h' :=
  Fn.of_vc_gen md ct hcall hf hb hn hd (fun _ _ _ _ h => h) (fun _ => hv)

/-- 'k' has what 'h' has of old. -/
def H.LeN (h k : H) : Prop := ∀ b cs, b < h.next → h.get b = some cs → k.get b = some cs
/-- Loops of old are as they were. -/
def H.LeL (h k : H) : Prop := ∀ b r, h.lp b = some r → k.lp b = some r
def FinK (P : Program) (fn : Func) (h : H) (x : AV) (e : Exit) (ρ : List AV) (hh : H) : Prop :=
  match e with
  | .normal | .ret => ∃ y, resA P fn.results ρ hh = some y ∧ (∃ k, frz k hh h.next y = some x) ∧ H.LeN h hh ∧ H.LeL h hh
  | _ => False

/-- A FUNCTION THAT LEAVES THE HEAP ALONE. -/
theorem Fn.of_vc_keep {P : Program} {f : FuncId} {fn : Func} {code : Code} (md : Oper → Bool) (ct : Nat → Cert) {args : List AV} {h : H} {x : AV} (hcall : callable P f = true) (hf : P.funcs[f]? = some fn) (hb : fn.body = some code) (hd : drawsOk P ct code = true)
    (hv : LiveH h → vc P md ct none code (FinK P fn h x) (args ++ List.replicate (fn.ntmps - args.length) (.val undef)) h) : Fn P f args h x h := by
  refine Fn.of_vc_gen md ct hcall hf hb rfl hd (fun live e ρ hh hk => ?_) hv
  have go : ∀ {e}, FinK P fn h x e ρ hh → (e = .normal ∨ e = .ret) → ∃ y k, resA P fn.results ρ hh = some y ∧ frz k hh h.next y = some x ∧ (∀ b cs, h.get b = some cs → ∃ ds k, hh.get b = some ds ∧ b < h.next ∧ ds.mapM (frz k hh h.next) = some cs) ∧
      ∀ b r, h.lp b = some r → hh.lp b = some r ∧ b < h.next ∧ ∃ k, r.ρ.mapM (frz k hh h.next) = some r.ρ := fun {e} hk he => by
    have hk' : ∃ y, resA P fn.results ρ hh = some y ∧ (∃ k, frz k hh h.next y = some x) ∧ H.LeN h hh ∧ H.LeL h hh := by rcases he with rfl | rfl <;> exact hk
    obtain ⟨y, h1, ⟨k, h2⟩, h3, h4⟩ := hk'
    refine ⟨y, k, h1, h2, fun b cs hb => ?_, fun b r hb => ?_⟩
    · obtain ⟨q1, q2⟩ := live.1 b cs hb
      obtain ⟨k', q3⟩ := q2 hh
      exact ⟨cs, k', h3 b cs q1 hb, q1, q3⟩
    · obtain ⟨q1, q2⟩ := live.2 b r hb
      exact ⟨h4 b r hb, q1, q2 hh⟩
  cases e with
  | normal => exact go hk (.inl rfl)
  | ret => exact go hk (.inr rfl)
  | _ => exact hk.elim

end Go.Pe

/- A round of a loop over a function. -/
namespace Go.Pe
open Go

/-- The slots that a round begins with. -/
def putPs (ρ : List AV) (ps : List Tmp) (args : List AV) : List AV := (ps.zip args).foldl (fun ρ p => ρ.set p.1 p.2) ρ

theorem RL_set {c : Cx} {w : World} {D : Nat → Prop} {ρ : List AV} {tmps : Array Value} (h : RL c w D ρ tmps) (d : Nat) {x : AV} {v : Value} (hx : R c w D x v) : RL c w D (ρ.set d x) (tmps.setIfInBounds d v) :=
  RL_put (a := { tmps := tmps, defers := [] }) (some d) h hx
theorem RL_putPs {c : Cx} {w : World} {D : Nat → Prop} : ∀ (ps : List Tmp) (args : List AV) (vs : List Value) (ρ : List AV) (tmps : Array Value), RL c w D ρ tmps → args.length = vs.length → (∀ (i : Nat) (x : AV) (v : Value), args[i]? = some x → vs[i]? = some v → R c w D x v) →
    RL c w D (putPs ρ ps args) ((ps.zip vs).foldl (fun t (p, v) => t.setIfInBounds p v) tmps)
  | [], _, _, ρ, tmps, h, _, _ => h
  | _ :: _, [], [], ρ, tmps, h, _, _ => h
  | _ :: _, [], _ :: _, _, _, _, h, _ => by simp at h
  | _ :: _, _ :: _, [], _, _, _, h, _ => by simp at h
  | p :: ps, x :: args, v :: vs, ρ, tmps, h, hl, hR => by
    simp only [putPs, List.zip_cons_cons, List.foldl_cons]
    exact RL_putPs ps args vs _ _ (RL_set h p (hR 0 x v rfl rfl)) (by simpa using hl) (fun i x v h1 h2 => hR (i + 1) x v h1 h2)

/-- What a round must come to. -/
def FinR (b : Nat) (x : AV) (h' : H) (e : Exit) (h2 : H) : Prop :=
  ∃ r2, h2.lp b = some r2 ∧ match e with
    | .normal => x = .val (.bool true) ∧ h' = h2.lset b (some { r2 with st := .ready, pend := none })
    | .ret => x = .val (.bool false) ∧ h' = h2.lset b (some { r2 with st := .done, pend := some .ret })
    | .exit id => x = .val (.bool false) ∧ h' = h2.lset b (some { r2 with st := .done, pend := some (.exit id) })
    | _ => False

theorem Rd.of_vcE {P : Program} (md : Oper → Bool) {b : Nat} {r : Lp} {args : List AV} {h h' : H} {x : AV} (hb : h.lp b = some r) (hlen : args.length = r.ps.size)
    (hv : vcE P md (some b) r.assign (fun e ρ1 h1 => e = .normal ∧ ∃ r1, h1.lp b = some r1 ∧ r1.st = .ready ∧ vcE P md (some b) r.body (fun e ρ2 h2 => FinR b x h' e h2) ρ1 (h1.lset b (some { r1 with st := .busy }))) (putPs r.ρ r.ps.toList args) h) :
    Rd P b args h x h' := by
  intro n c D w vs hr hD hfr hargs
  obtain ⟨_, _, fn, tmps, dd, hblk, hρ⟩ := hr.lps b r hb
  refine ⟨fn, _, r.assign, r.body, run_yield hblk (by simp only; rw [← hlen, hargs.1]), roundIn_of_wpIn trivial ?_⟩
  refine wpIn_mono (vcE_sound (md := md) (r := some (c.φ b)) (rd := some b) (n := n) (D0 := D) (h0 := h) (c0 := c) (w0 := w) hfr ⟨hD, rfl⟩ r.assign _ _ h _ w c D hv ⟨hr, ?_, Ext.refl D h c w, Marks.of_nil rfl, fun b hb => .inl hb⟩) ?_
  · have := RL_putPs (c := c) (w := w) (D := D) r.ps.toList args vs.toList r.ρ tmps hρ (by simp [hargs.1]) (fun i x v h1 h2 => hargs.2 i x v h1 (by simpa using h2))
    rw [← Array.foldl_toList, Array.toList_zip]
    exact this
  · rintro e a1 w1 ⟨ρ1, h1, c1, D1, ⟨rfl, r1, hb1, hst1, hv1⟩, s1⟩
    obtain ⟨hD1, _, fn1, tmps1, dd1, hblk1, hρ1⟩ := s1.rel.lps b r1 hb1
    have hφ1 : c1.φ b = c.φ b := s1.ext.φ b hD
    obtain ⟨q1, q2⟩ := lset_ok (b := b) (rec := { state := .busy, pending := r1.pend, fn := fn1, tmps := tmps1, params := r1.ps, assign := r1.assign, body := r1.body, defers := dd1 }) s1.rel hb1 (some { r1 with st := .busy })
      (fun r hr => by cases hr; exact ⟨rfl, rfl, rfl, rfl, rfl, hρ1⟩)
    rw [hφ1] at hblk1 q1 q2
    refine ⟨_, run_beginRound hblk1 hst1, ?_⟩
    refine wpIn_mono (vcE_sound (md := md) (r := some (c.φ b)) (rd := some b) (n := n) (D0 := D) (h0 := h) (c0 := c) (w0 := w) hfr ⟨hD, rfl⟩ r.body _ ρ1 _ a1 _ c1 D1 hv1
      ⟨q1, q2.list s1.rel s1.rl, s1.ext.trans q2, s1.defers.step s1.rel q2, s1.dom⟩) ?_
    rintro e a2 w2 ⟨ρ2, h2, c2, D2, ⟨r2, hb2, hq⟩, s2⟩
    obtain ⟨hD2, _, fn2, tmps2, dd2, hblk2, hρ2⟩ := s2.rel.lps b r2 hb2
    have hφ2 : c2.φ b = c.φ b := s2.ext.φ b hD
    have fin : ∀ (jump : Option Code) (st : LoopState), (if jump.isNone then LoopState.ready else LoopState.done) = st → x = .val (.bool jump.isNone) → h' = h2.lset b (some { r2 with st := st, pend := jump }) →
        ∃ v w', (Instr.endRound (c.φ b) jump).run P w2 = .ok v w' ∧ ∃ v' c' D', Ending.returned v = .returned v' ∧ R c' w' D' x v' ∧ Rel c' D' h' w' ∧ Ext D h c w D' c' w' h' ∧ ∀ q, D' q → D q ∨ (h.next ≤ q ∧ q < h'.next) := fun jump st hst hx hh => by
      subst hst; subst hx; subst hh
      obtain ⟨p1, p2⟩ := lset_ok (b := b) (rec := { state := if jump.isNone then .ready else .done, pending := jump, fn := fn2, tmps := tmps2, params := r2.ps, assign := r2.assign, body := r2.body, defers := dd2 }) s2.rel hb2 (some { r2 with st := if jump.isNone then .ready else .done, pend := jump })
        (fun r hr => by cases hr; exact ⟨rfl, rfl, rfl, rfl, rfl, hρ2⟩)
      rw [hφ2] at hblk2 p1 p2
      exact ⟨_, _, run_endRound jump hblk2, _, c2, D2, rfl, .val _, p1, s2.ext.trans p2, s2.dom⟩
    cases e with
    | normal => exact fin none .ready rfl hq.1 hq.2
    | ret => exact fin (some .ret) .done rfl hq.1 hq.2
    | exit id => exact fin (some (.exit id)) .done rfl hq.1 hq.2
    | goto l => exact hq.elim
    | panic ch => exact hq.elim
    | outgrown => exact hq.elim

end Go.Pe
