import Derived.Test.YtffckclggkjbgaaGreatY04
import Derived.RangeFuncRecord
import Derived.RangeFuncSeq
import Derived.OrdersIn
set_option linter.unusedVariables false
set_option linter.unusedSimpArgs false
/- What is to be shown of a piece of code, and that it is enough. -/
namespace Go.Pe
open Go

def callable (P : Program) (f : FuncId) : Bool :=
  match P.funcs[f]? with
  | some fn => fn.name != "runtime.NumGoroutine" && fn.body.isSome
  | none => false

/-- WHAT A GO FUNCTION DOES: called with values that are 'args', where the heap is 'h', it returns what is 'x', and leaves the heap 'h''. -/
def Fn (P : Program) (f : FuncId) (args : List AV) (h : H) (x : AV) (h' : H) : Prop :=
  callable P f = true ∧ ∀ (n : Nat) (c : Cx) (D : Nat → Prop) (w : World) (vs : Array Value), Rel c D h w → (∀ b, h.next ≤ b → ¬ D b) → RL c w D args vs →
    CallsIn Fence.wide n P f vs w fun e w' => ∃ v c' D', e = .returned v ∧ R c' w' D' x v ∧ Rel c' D' h' w' ∧ Ext D h c w D' c' w' h' ∧ ∀ b, D' b → D b ∨ (h.next ≤ b ∧ b < h'.next)

def putA (ρ : List AV) (dst : Option Nat) (x : AV) : List AV :=
  match dst with
  | some d => ρ.set d x
  | none => ρ

/-- What keeps simplification out of the thing that is named: the type of another argument speaks of it. -/
inductive Tag {α : Sort _} (x : α) : Type
  | mk

/-- The ways in which a goal waits for a value: simplification goes into the value alone. -/
def onSome {α : Type} (o : Option α) (K : α → Prop) (_ : Tag K) : Prop :=
  match o with
  | some x => K x
  | none => False
def ifB (b : Bool) (A C : Prop) (_ : Tag A) (_ : Tag C) : Prop := if b = true then A else C
def onClo (x : AV) (K : Nat → List AV → Prop) (_ : Tag K) : Prop :=
  match x with
  | .clo g caps => K g caps
  | _ => False
/-- A function that is called: a closure, or the rest of a loop. -/
def onFn (x : AV) (K : Nat → List AV → Prop) (L : Nat → Prop) (_ : Tag K) (_ : Tag L) : Prop :=
  match x with
  | .clo g caps => K g caps
  | .yld b => L b
  | _ => False
def onBool (x : AV) (K : Bool → Prop) (T : Prop) (_ : Tag K) (_ : Tag T) : Prop :=
  match x with
  | .val (.bool b) => K b
  | .val (.tuple _) => T
  | _ => False
def onCall (P : Program) (g : Nat) (args : List AV) (h : H) (K : AV → H → Prop) (_ : Tag K) : Prop := ∃ x h', Fn P g args h x h' ∧ K x h'

/-- WHAT A ROUND OF A LOOP OVER A FUNCTION DOES: handed 'args', where the heap is 'h', it hands back 'x', and leaves the heap 'h''. -/
def Rd (P : Program) (b : Nat) (args : List AV) (h : H) (x : AV) (h' : H) : Prop :=
  ∀ (n : Nat) (c : Cx) (D : Nat → Prop) (w : World) (vs : Array Value), Rel c D h w → D b → (∀ q, h.next ≤ q → ¬ D q) → RL c w D args vs →
    YieldAt Fence.wide n P (c.φ b) vs w fun e w' => ∃ v c' D', e = .returned v ∧ R c' w' D' x v ∧ Rel c' D' h' w' ∧ Ext D h c w D' c' w' h' ∧ ∀ q, D' q → D q ∨ (h.next ≤ q ∧ q < h'.next)
def onRound (P : Program) (b : Nat) (args : List AV) (h : H) (K : AV → H → Prop) (_ : Tag K) : Prop := ∃ x h', Rd P b args h x h' ∧ K x h'

section
variable {A C : Prop} {ta : Tag A} {tc : Tag C}
theorem onRound_in {P : Program} {b : Nat} {args : List AV} {h h' : H} {x : AV} {K : AV → H → Prop} {t : Tag K} (h1 : Rd P b args h x h') (h2 : K x h') : onRound P b args h K t := ⟨x, h', h1, h2⟩
@[simp] theorem onFn_clo {g : Nat} {caps : List AV} {K : Nat → List AV → Prop} {L : Nat → Prop} {t : Tag K} {t' : Tag L} : onFn (.clo g caps) K L t t' = K g caps := rfl
@[simp] theorem onFn_yld {b : Nat} {K : Nat → List AV → Prop} {L : Nat → Prop} {t : Tag K} {t' : Tag L} : onFn (.yld b) K L t t' = L b := rfl
theorem onSome_some {α : Type} {x : α} {K : α → Prop} {t : Tag K} : onSome (some x) K t = K x := rfl
theorem onSome_none {α : Type} {K : α → Prop} {t : Tag K} : onSome none K t = False := rfl
theorem ifB_true : ifB true A C ta tc = A := by simp [ifB]
theorem ifB_false : ifB false A C ta tc = C := by simp [ifB]
theorem ifB_not {b : Bool} : ifB (!b) A C ta tc = ifB b C A tc ta := by cases b <;> simp [ifB]
theorem ifB_in {b : Bool} (h1 : b = true → A) (h2 : b = false → C) : ifB b A C ta tc := by cases b <;> simp_all [ifB]
theorem ifD_in {p : Prop} [Decidable p] (h1 : p → A) (h2 : ¬ p → C) : ifB (decide p) A C ta tc := by unfold ifB; split <;> simp_all
theorem onClo_clo {g : Nat} {caps : List AV} {K : Nat → List AV → Prop} {t : Tag K} : onClo (.clo g caps) K t = K g caps := rfl
theorem onBool_bool {b : Bool} {K : Bool → Prop} {T : Prop} {t : Tag K} {t' : Tag T} : onBool (.val (.bool b)) K T t t' = K b := rfl
theorem onBool_tup {x : Array Value} {K : Bool → Prop} {T : Prop} {t : Tag K} {t' : Tag T} : onBool (.val (.tuple x)) K T t t' = T := rfl
theorem onCall_in {P : Program} {g : Nat} {args : List AV} {h h' : H} {x : AV} {K : AV → H → Prop} {t : Tag K} (h1 : Fn P g args h x h') (h2 : K x h') : onCall P g args h K t := ⟨x, h', h1, h2⟩
end

/-- One operation that calls no Go function. -/
def pickV (x : Option AV) (h : H) (e : Option (AV × H)) (_ : Tag e) : Option (AV × H) :=
  match x with
  | some x => some (x, h)
  | none => e
theorem pickV_some {x : AV} {h : H} {e : Option (AV × H)} {t : Tag e} : pickV (some x) h e t = some (x, h) := rfl
theorem pickV_none {h : H} {e : Option (AV × H)} {t : Tag e} : pickV none h e t = e := rfl
def stepV (P : Program) (own : Bool) (o : Oper) (ρ : List AV) (h : H) : Option (AV × H) := pickV (pop P o ρ h) h (eop P own o ρ h) .mk

/-- One operation. -/
def stepA (P : Program) (md : Oper → Bool) (o : Oper) (K : List AV → H → Prop) (ρ : List AV) (h : H) : Prop :=
  match o.op with
  | .call { callee := .value f, args, .. } => onFn (aev ρ f) (fun g caps => onCall P g (args.toList.map (aev ρ) ++ caps) h (fun x h' => K (putA ρ o.dst x) h') .mk) (fun b => onRound P b (args.toList.map (aev ρ)) h (fun x h' => K (putA ρ o.dst x) h') .mk) .mk .mk
  | _ => onSome (stepV P (md o) o ρ h) (fun r => K (putA ρ o.dst r.1) r.2) .mk

theorem set_same {ρ : List AV} {d : Nat} {x : AV} (h : ρ.getD d (.val undef) = x) : ρ.set d x = ρ := by
  subst h
  apply List.ext_getElem?
  intro i
  rw [List.getElem?_set]
  by_cases hd : d = i
  · subst hd
    by_cases hl : d < ρ.length
    · simp [hl, List.getD]
    · simp [hl]
  · simp [hd]
/-- Operations, one after another. -/
def vcOps (P : Program) (md : Oper → Bool) (all : Array Oper) (Q : List AV → H → Prop) : List Oper → List AV → H → Prop
  | [], ρ, h => Q ρ h
  | o :: rest, ρ, h =>
    match o.guard with
    | none => stepA P md o (vcOps P md all Q rest) ρ h
    | some (j, want) => onSome ((all[j]?).bind (·.dst)) (fun d => onBool (ρ.getD d (.val undef)) (fun b => ifB (b == want) (stepA P md o (vcOps P md all Q rest) (ρ.set d (.val (.bool want))) h) (vcOps P md all Q rest (putA (ρ.set d (.val (.bool !want))) o.dst (.val undef)) h) .mk .mk)
          (vcOps P md all Q rest (putA ρ o.dst (.val undef)) h) .mk .mk) .mk

/-- The fences that let all by. -/
def Fr (r : Option Nat) : Fence := { Fence.wide with round := r }

theorem RoundIn_Fr {r : Option Nat} {n : Nat} {P : Program} {l : Nat} {f : FuncId} {tmps : Array Value} {assign body : Code} {w : World} {Q : Ending → World → Prop} (h : RoundIn Fence.wide n P l f tmps assign body w Q) : RoundIn (Fr r) n P l f tmps assign body w Q := h
theorem CallsIn_Fr {r : Option Nat} {n : Nat} {P : Program} {f : FuncId} {args : Array Value} {w : World} {Q : Ending → World → Prop} (h : CallsIn Fence.wide n P f args w Q) : CallsIn (Fr r) n P f args w Q := h

/-- The marks that loops over functions have left among an activation's deferred calls. -/
def Marks (w0 : World) (c : Cx) (w : World) (a : Act) : Prop :=
  ∃ ms : List Nat, a.defers = ms.map (fun d => { target := .collected d, args := #[] }) ∧ ms.Nodup ∧ ∀ d ∈ ms, w0.heap.size ≤ d ∧ ¬ c.S d ∧ w.heap[d]? = some (.deferred (some []))

theorem Marks.of_nil {w0 : World} {c : Cx} {w : World} {a : Act} (h : a.defers = []) : Marks w0 c w a := ⟨[], h, List.nodup_nil, fun d hd => by cases hd⟩
theorem Marks.put {w0 : World} {c : Cx} {w : World} {a : Act} (h : Marks w0 c w a) (dst : Option Nat) (v : Value) : Marks w0 c w (a.put dst v) := by
  obtain ⟨ms, h1, h2⟩ := h
  exact ⟨ms, by rw [← h1]; cases dst <;> rfl, h2⟩
theorem Marks.step {w0 : World} {c c' : Cx} {w w' : World} {a : Act} {D D' : Nat → Prop} {h h' : H} (hm : Marks w0 c w a) (hr : Rel c D h w) (he : Ext D h c w D' c' w' h') : Marks w0 c' w' a := by
  obtain ⟨ms, h1, h2, h3⟩ := hm
  refine ⟨ms, h1, h2, fun d hd => ?_⟩
  obtain ⟨g1, g2, g3⟩ := h3 d hd
  refine ⟨g1, fun hS => ?_, he.other hr g3 (by intros; simp) (by intros; simp)⟩
  rcases he.newS d hS with h6 | h6 | ⟨b, cs, h6, h7⟩
  · exact g2 h6
  · have := (Array.getElem?_eq_some_iff.1 g3).1; omega
  · obtain ⟨_, _, C, e, q3, _⟩ := hr.own b cs h6
    rw [h7, g3] at q3; cases q3

/-- What is known behind a piece of code, in the model's own words. -/
structure St (D0 : Nat → Prop) (h0 : H) (c0 : Cx) (w0 : World) (ρ : List AV) (h : H) (a : Act) (w : World) (c : Cx) (D : Nat → Prop) : Prop where
  rel : Rel c D h w
  rl : RL c w D ρ a.tmps
  ext : Ext D0 h0 c0 w0 D c w h
  defers : Marks w0 c w a
  dom : ∀ b, D b → D0 b ∨ (h0.next ≤ b ∧ b < h.next)

def Post (D0 : Nat → Prop) (h0 : H) (c0 : Cx) (w0 : World) (Q : Exit → List AV → H → Prop) : Exit → Act → World → Prop := fun e a w =>
  ∃ ρ h c D, Q e ρ h ∧ St D0 h0 c0 w0 ρ h a w c D

theorem RL_put {c : Cx} {w : World} {D : Nat → Prop} {ρ : List AV} {a : Act} {x : AV} {v : Value} (dst : Option Nat) (h : RL c w D ρ a.tmps) (hx : R c w D x v) : RL c w D (putA ρ dst x) (a.put dst v).tmps := by
  cases dst with
  | none => exact h
  | some d =>
    refine ⟨by simp [putA, Act.put, h.1], fun i y u h1 h2 => ?_⟩
    simp only [putA, Act.put, List.getElem?_set, Array.getElem?_setIfInBounds] at h1 h2
    by_cases hd : d = i
    · subst hd
      simp only [if_true] at h1 h2
      split at h1
      · split at h2
        · cases h1; cases h2; exact hx
        · cases h2
      · cases h1
    · rw [if_neg hd] at h1 h2; exact h.2 i y u h1 h2

section
variable {P : Program} {md : Oper → Bool} {D0 : Nat → Prop} {h0 : H} {c0 : Cx} {w0 : World} (hf0 : ∀ b, h0.next ≤ b → ¬ D0 b) {r : Option Nat} {n : Nat}
include hf0

theorem St.fresh {ρ : List AV} {h : H} {a : Act} {w : World} {c : Cx} {D : Nat → Prop} (s : St D0 h0 c0 w0 ρ h a w c D) : ∀ b, h.next ≤ b → ¬ D b := fun b hb hD => by
  rcases s.dom b hD with h1 | h1
  · exact hf0 b (Nat.le_trans s.ext.next hb) h1
  · omega

theorem step_sound {o : Oper} {K : List AV → H → Prop} {next : Act → World → Prop} {Q : Exit → Act → World → Prop} {ρ : List AV} {h : H} {a : Act} {w : World} {c : Cx} {D : Nat → Prop}
    (hv : stepA P md o K ρ h) (s : St D0 h0 c0 w0 ρ h a w c D) (hK : ∀ ρ h a w c D, K ρ h → St D0 h0 c0 w0 ρ h a w c D → next a w) : o.wpIn (Fr r) n P a w next Q := by
  have go : ∀ {x : AV} {v : Value} {w' : World} {h' : H} {c' : Cx} {D' : Nat → Prop}, R c' w' D' x v → Rel c' D' h' w' → Ext D h c w D' c' w' h' → (∀ b, D' b → D b ∨ (h.next ≤ b ∧ b < h'.next)) → K (putA ρ o.dst x) h' → next (a.put o.dst v) w' :=
    fun hx hr he hb hk => hK _ _ _ _ _ _ hk ⟨hr, RL_put o.dst (he.list s.rel s.rl) hx, s.ext.trans he, (s.defers.step s.rel he).put _ _, fun b hD => by
      rcases hb b hD with h1 | h1
      · rcases s.dom b h1 with h2 | h2
        · exact .inl h2
        · have := he.next; exact .inr ⟨h2.1, by omega⟩
      · have := s.ext.next; exact .inr ⟨by omega, h1.2⟩⟩
  refine ⟨fun f _ => trivial, ?_⟩
  unfold stepA at hv
  split at hv
  · rename_i f args ats hop
    unfold onFn at hv
    split at hv
    · rename_i g caps hg
      obtain ⟨x, h', ⟨hcall, hF⟩, hk⟩ := hv
      have hclo := R_aev s.rl f
      rw [hg] at hclo
      have hsem : (o.semAt (Fr r).round a.eval) = execOp a.eval o := Oper.semAt_eq _ _ _ (by rw [hop]; simp)
      rw [hsem]
      generalize hav : a.eval f = fv at hclo
      cases hclo with
      | clo hs hh =>
        rename_i cs
        have hrun : (execOp a.eval o).run P w = .ok (.enter g (args.map a.eval ++ cs)) w := by
          unfold execOp
          rw [hop]
          have hfn : ∃ fn b, P.funcs[g]? = some fn ∧ fn.name ≠ "runtime.NumGoroutine" ∧ fn.body = some b := by
            unfold callable at hcall
            cases hf : P.funcs[g]? with
            | none => simp [hf] at hcall
            | some fn =>
              simp only [hf, Bool.and_eq_true, bne_iff_ne, ne_eq] at hcall
              obtain ⟨b, hb⟩ := Option.isSome_iff_exists.1 hcall.2
              exact ⟨fn, b, rfl, by simpa using hcall.1, hb⟩
          obtain ⟨fn, b, e1, e2, e3⟩ := hfn
          simp [resolve, hav, Deferred.ofValue, invoke, callFunc, e1, e2, e3]
        rw [hrun]
        refine ⟨fun hd => by simp [Fr, Fence.wide] at hd, ?_⟩
        have hm := RL_map s.rl args
        refine CallsIn_Fr ((hF (n - 1) c D w (args.map a.eval ++ cs) s.rel (s.fresh hf0) ⟨by simp [hs], fun i y u h1 h2 => ?_⟩).mono ?_)
        · rw [Array.getElem?_append] at h2
          split at h2
          · rename_i hi
            rw [List.getElem?_append_left (by simpa using hi)] at h1
            exact hm.2 i y u h1 h2
          · rename_i hi
            rw [List.getElem?_append_right (by simpa using hi)] at h1
            simp only [List.length_map, Array.length_toList, Array.size_map] at h1 h2
            exact hh _ y u h1 h2
        · rintro e w' ⟨v, c', D', rfl, h2, h3, h4, h5⟩
          exact go h2 h3 h4 h5 hk
    · rename_i b hg
      obtain ⟨x, h', hR, hk⟩ := hv
      have hyl := R_aev s.rl f
      rw [hg] at hyl
      have hsem : (o.semAt (Fr r).round a.eval) = execOp a.eval o := Oper.semAt_eq _ _ _ (by rw [hop]; simp)
      rw [hsem]
      generalize hav : a.eval f = fv at hyl
      cases hyl with
      | yld hb =>
        obtain ⟨fn, tmps, assign, body, hy, hround⟩ := hR (n - 1) c D w (args.map a.eval) s.rel hb (s.fresh hf0) (RL_map s.rl args)
        have hrun : (execOp a.eval o).run P w = .ok (.round (c.φ b) fn tmps assign body) w := by
          unfold execOp
          rw [hop]
          simp [resolve, hav, Deferred.ofValue, invoke, hy]
        rw [hrun]
        refine ⟨fun hd => by simp [Fr, Fence.wide] at hd, ?_⟩
        refine RoundIn_Fr (hround.mono ?_)
        rintro e w' ⟨v, c', D', rfl, h2, h3, h4, h5⟩
        exact go h2 h3 h4 h5 hk
    · exact hv.elim
  · rename_i hnc
    unfold onSome at hv
    split at hv
    · rename_i rr hrr
      unfold stepV pickV at hrr
      split at hrr
      · rename_i x hx
        cases hrr
        obtain ⟨v, h1, h2⟩ := pop_sound hx s.rel s.rl
        have hsem : (o.semAt (Fr r).round a.eval) = execOp a.eval o := Oper.semAt_eq _ _ _ (by
          intro cc hcc; unfold pop at hx; rw [hcc] at hx; simp at hx)
        rw [hsem, h1]
        exact go h2 s.rel (Ext.refl _ _ _ _) (fun b hb => .inl hb) hv
      · obtain ⟨v, w', c', D', h1, h2, h3, h4, h5⟩ := eop_sound hrr s.rel (s.fresh hf0 _ (Nat.le_refl _)) s.rl
        have hsem : (o.semAt (Fr r).round a.eval) = execOp a.eval o := Oper.semAt_eq _ _ _ (by
          intro cc hcc; unfold eop at hrr; rw [hcc] at hrr; simp at hrr)
        rw [hsem]
        rcases h1 with h1 | ⟨h1, rfl⟩
        · rw [h1]; exact go h2 h3 h4 h5 hv
        · rw [h1]; exact go h2 h3 h4 h5 hv
    · exact hv.elim

theorem ops_sound {all : Array Oper} {Q : Exit → List AV → H → Prop} : ∀ (l : List Oper) (k : Nat) (ρ : List AV) (h : H) (a : Act) (w : World) (c : Cx) (D : Nat → Prop), (∀ j, l[j]? = all[k + j]?) → vcOps P md all (Q .normal) l ρ h → St D0 h0 c0 w0 ρ h a w c D →
    wpOpsIn (Fr r) n P all (Post D0 h0 c0 w0 Q) (List.range' k l.length) a w
  | [], k, ρ, h, a, w, c, D, _, hv, s => ⟨ρ, h, c, D, hv, s⟩
  | o :: l, k, ρ, h, a, w, c, D, hl, hv, s => by
    have h0' : all[k]? = some o := by simpa using (hl 0).symm
    have hl' : ∀ j, l[j]? = all[k + 1 + j]? := fun j => by have := hl (j + 1); simpa [Nat.add_assoc, Nat.add_comm 1 j] using this
    simp only [List.length_cons, List.range'_succ, wpOpsIn, h0']
    have skip : ∀ {want : Bool} {j : Nat}, vcOps P md all (Q .normal) l (putA ρ o.dst (.val undef)) h → wpOpsIn (Fr r) n P all (Post D0 h0 c0 w0 Q) (List.range' (k + 1) l.length) (a.put o.dst undef) w := fun hv =>
      ops_sound l (k + 1) _ h _ w c D hl' hv ⟨s.rel, RL_put o.dst s.rl (.val undef), s.ext, s.defers.put _ _, s.dom⟩
    have run : stepA P md o (vcOps P md all (Q .normal) l) ρ h → o.wpIn (Fr r) n P a w (wpOpsIn (Fr r) n P all (Post D0 h0 c0 w0 Q) (List.range' (k + 1) l.length)) (Post D0 h0 c0 w0 Q) := fun hv =>
      step_sound hf0 hv s fun ρ h a w c D hv s => ops_sound l (k + 1) ρ h a w c D hl' hv s
    simp only [vcOps] at hv
    split at hv
    · rename_i hg
      rw [if_pos (by simp [Region.wanted, hg])]
      exact run hv
    · rename_i j want hg
      unfold onSome at hv
      split at hv
      · rename_i d hd
        unfold onBool ifB at hv
        have hy : ∀ v, a.tmps[d]? = some v → yielded all a.tmps j = (match v with | .bool b => some b | _ => none) := fun v hv => by
          unfold yielded; rw [hd]; simp only [Option.bind_some, hv]; cases v <;> rfl
        have hy0 : a.tmps[d]? = none → yielded all a.tmps j = none := fun hv => by
          unfold yielded; rw [hd]; simp [hv]
        have hslot : ∀ x, ρ.getD d (.val undef) = x → (∃ v, a.tmps[d]? = some v ∧ R c w D x v) ∨ (a.tmps[d]? = none ∧ x = .val undef) := fun x hx => by
          by_cases hdl : d < ρ.length
          · have hdl' : d < a.tmps.size := by rw [s.rl.1]; exact hdl
            refine .inl ⟨a.tmps[d], Array.getElem?_eq_getElem hdl', ?_⟩
            have h1 := List.getElem?_eq_getElem hdl
            have hx' : ρ[d] = x := by simpa [List.getD, h1] using hx
            rw [← hx']
            exact s.rl.2 d _ _ h1 (Array.getElem?_eq_getElem hdl')
          · have hdl' : ¬ d < a.tmps.size := by rw [s.rl.1]; exact hdl
            refine .inr ⟨Array.getElem?_eq_none (Nat.le_of_not_lt hdl'), ?_⟩
            rw [← hx]; simp [List.getD, List.getElem?_eq_none (Nat.le_of_not_lt hdl)]
        split at hv
        · rename_i b hb
          have hv1 : b = want → stepA P md o (vcOps P md all (Q .normal) l) ρ h := fun e => by rw [if_pos (by simp [e])] at hv; subst e; rwa [set_same hb] at hv
          have hv2 : b = !want → vcOps P md all (Q .normal) l (putA ρ o.dst (.val undef)) h := fun e => by rw [if_neg (by subst e; cases want <;> simp)] at hv; rw [← e, set_same hb] at hv; exact hv
          rcases hslot _ hb with ⟨v, e1, e2⟩ | ⟨_, e2⟩
          · cases e2
            have hw : Region.wanted o (yielded all a.tmps) = (b == want) := by simp [Region.wanted, hg, hy _ e1]
            rw [hw]
            by_cases hbw : b = want
            · rw [if_pos (by simp [hbw])]; exact run (hv1 hbw)
            · rw [if_neg (by simp [hbw])]
              exact ⟨fun f _ => trivial, skip (want := want) (j := j) (hv2 (by cases b <;> cases want <;> simp_all))⟩
          · cases e2
        · rename_i tt hb
          have hw : Region.wanted o (yielded all a.tmps) = false := by
            rcases hslot _ hb with ⟨v, e1, e2⟩ | ⟨e1, _⟩
            · cases e2; simp [Region.wanted, hg, hy _ e1]
            · simp [Region.wanted, hg, hy0 e1]
          rw [hw]
          exact ⟨fun f _ => trivial, skip (want := want) (j := j) hv⟩
        · exact hv.elim
      · exact hv.elim

end

end Go.Pe

/- From a body to its function: results, and what becomes of the memory that the call has made. -/
namespace Go.Pe
open Go

def frz : Nat → H → Nat → AV → Option AV
  | 0, _, _, _ => none
  | n + 1, h, N, x =>
    match x with
    | .val v => some (.val v)
    | .ro f k xs => some (.ro f k xs)
    | .rop cs => some (.rop cs)
    | .ptr b o => if b < N then some (.ptr b o) else
      match h.get b with
      | some cs => match (cs.drop o).mapM (frz n h N) with
        | some l => if l.all clean then some (.rop l) else none
        | none => none
      | none => none
    | .sl b o len k => if b < N then some (.sl b o len k) else
      match h.get b with
      | some cs => match takeAt cs o (len * k) with
        | some ds => match ds.mapM (frz n h N) with
          | some l => if l.all (fun x => clean x && one x) then some (.ro false k (chunk k len l)) else none
          | none => none
        | none => none
      | none => none
    | .slc b o len k cap => if b < N then some (.slc b o len k cap) else
      match h.get b with
      | some cs => match takeAt cs o (len * k) with
        | some ds => match ds.mapM (frz n h N) with
          | some l => if l.all (fun x => clean x && one x) then some (.ro false k (chunk k len l)) else none
          | none => none
        | none => none
      | none => none
    | .agg l => match l.mapM (frz n h N) with
      | some m => some (.agg m)
      | none => none
    | .tup l => match l.mapM (frz n h N) with
      | some m => some (.tup m)
      | none => none
    | .clo f caps => match caps.mapM (frz n h N) with
      | some m => some (.clo f m)
      | none => none
    | .yld b => if b < N then some (.yld b) else none

theorem mapM_some {α β : Type} {f : α → Option β} : ∀ {l : List α} {m : List β}, l.mapM f = some m → m.length = l.length ∧ ∀ (i : Nat) (x : α), l[i]? = some x → ∃ y, f x = some y ∧ m[i]? = some y
  | [], m, h => by simp at h; subst h; exact ⟨rfl, fun i x hx => by simp at hx⟩
  | a :: l, m, h => by
    rw [List.mapM_cons] at h
    cases ha : f a with
    | none => simp [ha] at h
    | some b =>
      cases hl : l.mapM f with
      | none => simp [ha, hl] at h
      | some m' =>
        simp [ha, hl] at h
        subst h
        obtain ⟨h1, h2⟩ := mapM_some hl
        refine ⟨by simp [h1], fun i x hx => ?_⟩
        cases i with
        | zero => simp at hx; subst hx; exact ⟨b, ha, rfl⟩
        | succ i => simp at hx; simpa using h2 i x hx

def Cx.all (c : Cx) (h : H) (N : Nat) : Cx := { S := fun k => c.S k ∨ ∃ b cs, N ≤ b ∧ h.get b = some cs ∧ c.φ b = k, φ := c.φ }

theorem R.more {c : Cx} {w : World} {D : Nat → Prop} {x : AV} {v : Value} (hx : R c w D x v) (h : H) (N : Nat) : R (c.all h N) w D x v :=
  hx.mono (fun _ hk => .inl hk) (fun _ _ => rfl) (fun _ _ => rfl) (fun _ hb => hb) (fun _ C _ hk => ⟨C, hk, rfl⟩)

theorem frz_R {c : Cx} {w : World} {D D0 : Nat → Prop} {h : H} {N : Nat} (hr : Rel c D h w) (hD : ∀ b, D b → b < N → D0 b) : ∀ (n : Nat) (x y : AV) (v : Value), R c w D x v → frz n h N x = some y → R (c.all h N) w D0 y v := by
  intro n
  induction n with
  | zero => intro x y v _ h; cases h
  | succ n ih =>
    intro x y v hx hf
    have list : ∀ {l m : List AV} {cs : Array Value}, RL c w D l cs → l.mapM (frz n h N) = some m → RL (c.all h N) w D0 m cs := fun hl hm => by
      obtain ⟨h1, h2⟩ := mapM_some hm
      refine ⟨by rw [hl.1, h1], fun i y u e1 e2 => ?_⟩
      have hi := (List.getElem?_eq_some_iff.1 e1).1
      rw [h1] at hi
      obtain ⟨y', e3, e4⟩ := h2 i _ (List.getElem?_eq_getElem hi)
      rw [e1] at e4; cases e4
      exact ih _ _ _ (hl.2 i _ u (List.getElem?_eq_getElem hi) e2) e3
    simp only [frz] at hf
    cases hx with
    | val v => cases hf; exact .val v
    | ro cell hS hl hcc hff hk hcell ho hh => cases hf; exact (R.ro (D := D0) cell hS hl hcc hff hk hcell ho hh).more h N
    | nil => cases hf; exact .nil
    | emp => cases hf; exact .emp
    | rop cell hS hcell hh => cases hf; exact (R.rop (D := D0) cell hS hcell hh).more h N
    | agg hs hh =>
      simp only at hf
      split at hf
      · rename_i m hm; cases hf
        obtain ⟨g1, g2⟩ := list ⟨hs, hh⟩ hm
        exact .agg g1 g2
      · cases hf
    | tup hs hh =>
      simp only at hf
      split at hf
      · rename_i m hm; cases hf
        obtain ⟨g1, g2⟩ := list ⟨hs, hh⟩ hm
        exact .tup g1 g2
      · cases hf
    | clo hs hh =>
      simp only at hf
      split at hf
      · rename_i m hm; cases hf
        obtain ⟨g1, g2⟩ := list ⟨hs, hh⟩ hm
        exact .clo g1 g2
      · cases hf
    | yld hb =>
      rename_i b
      simp only at hf
      split at hf
      · rename_i hlt; cases hf; exact .yld (hD b hb hlt)
      · cases hf
    | ptr hb =>
      rename_i b o
      simp only at hf
      split at hf
      · rename_i hlt; cases hf; exact .ptr (hD b hb hlt)
      · rename_i hge
        split at hf
        · rename_i cs hcs
          split at hf
          · rename_i l hl
            split at hf
            · rename_i hall
              cases hf
              obtain ⟨_, _, C, e, hblk, hlen, hcont⟩ := hr.own b cs hcs
              obtain ⟨h1, h2⟩ := mapM_some hl
              refine .rop (fun j => C.getD (o + j) undef) (.inr ⟨b, cs, by omega, hcs, rfl⟩) (fun j hj => ?_) (fun j y hy => ?_)
              · rw [h1] at hj
                have : o + j < C.size := by simp at hj; omega
                have e1 : (c.all h N).φ b = c.φ b := rfl
                simp [World.cell?, hblk, Array.getD, this]
              · have hj := (List.getElem?_eq_some_iff.1 hy).1
                rw [h1] at hj
                have hlt : o + j < C.size := by simp at hj; omega
                obtain ⟨y', e3, e4⟩ := h2 j _ (List.getElem?_eq_getElem hj)
                rw [hy] at e4; cases e4
                have hcsj : cs[o + j]? = some ((cs.drop o)[j]) := by rw [← List.getElem?_drop]; exact List.getElem?_eq_getElem hj
                have hx := hcont (o + j) _ (C.getD (o + j) undef) hcsj (by simp [Array.getD, hlt])
                exact clean_R (ih _ _ _ hx e3) ((List.all_eq_true.1 hall) _ (List.mem_of_getElem? hy))
            · cases hf
          · cases hf
        · cases hf
    | sl hb hcc C e hblk hC =>
      rename_i b o len k cap
      simp only at hf
      split at hf
      · rename_i hlt; cases hf; exact .sl (hD b hb hlt) hcc C e hblk hC
      · rename_i hge
        split at hf
        · rename_i cs hcs
          split at hf
          · rename_i ds hds
            split at hf
            · rename_i l hl
              split at hf
              · rename_i hall
                cases hf
                obtain ⟨_, _, C2, e2, hblk2, hlen, hcont⟩ := hr.own b cs hcs
                rw [hblk] at hblk2; cases hblk2
                obtain ⟨h1, h2⟩ := mapM_some hl
                obtain ⟨g1, g2, g3⟩ := takeAt_len hds
                have hll : l.length = len * k := by rw [h1, g1]
                have hidx : ∀ i j, i < len → j < k → i * k + j < len * k := fun i j hi hj => by
                  have : (i + 1) * k ≤ len * k := Nat.mul_le_mul_right _ hi
                  rw [Nat.succ_mul] at this; omega
                have hcell : ∀ i j, i < len → j < k → o + i * k + j < C.size := fun i j hi hj => by have := hidx i j hi hj; omega
                have hval : ∀ i j y, i < len → j < k → l[i * k + j]? = some y → R (c.all h N) w D0 y (C.getD (o + i * k + j) undef) := fun i j y hi hj hy => by
                  have hlt := hidx i j hi hj
                  have hd : i * k + j < ds.length := by omega
                  obtain ⟨y', e3, e4⟩ := h2 (i * k + j) _ (List.getElem?_eq_getElem hd)
                  rw [hy] at e4; cases e4
                  have hcsj : cs[o + (i * k + j)]? = some ds[i * k + j] := by rw [← g2 _ (by omega)]; exact List.getElem?_eq_getElem hd
                  have := hcell i j hi hj
                  exact ih _ _ _ (hcont (o + (i * k + j)) _ (C.getD (o + i * k + j) undef) hcsj (by rw [← Nat.add_assoc]; simp [Array.getD, this])) e3
                refine .ro (fun i j => C.getD (o + i * k + j) undef) (.inr ⟨b, cs, by omega, hcs, rfl⟩) (by simp [chunk]) hcc (by simp) (fun row hrow => ?_) (fun i j hi hj => ?_) (fun i j hi hj => ?_) (fun i j row y e1 e2 => ?_)
                · simp only [chunk, List.mem_map, List.mem_range] at hrow
                  obtain ⟨i, hi, rfl⟩ := hrow
                  have : (i + 1) * k ≤ len * k := Nat.mul_le_mul_right _ hi
                  rw [Nat.succ_mul] at this
                  simp [hll]; omega
                · have := hcell i j hi hj
                  have e1 : (c.all h N).φ b = c.φ b := rfl
                  simp [World.cell?, hblk, Array.getD, this]
                · have hlt := hidx i j hi hj
                  have hlt' : i * k + j < l.length := by omega
                  have hy := List.getElem?_eq_getElem hlt'
                  have := (List.all_eq_true.1 hall) _ (List.getElem_mem hlt')
                  simp only [Bool.and_eq_true] at this
                  exact one_R (hval i j _ hi hj hy) this.2
                · simp only [chunk, List.getElem?_map] at e1
                  by_cases hi : i < len
                  · rw [List.getElem?_range hi] at e1
                    simp only [Option.map_some, Option.some.injEq] at e1
                    subst e1
                    rw [List.getElem?_take] at e2
                    split at e2
                    · rename_i hj
                      rw [List.getElem?_drop] at e2
                      have := (List.all_eq_true.1 hall) y (List.mem_of_getElem? e2)
                      simp only [Bool.and_eq_true] at this
                      exact clean_R (hval i j y hi hj e2) this.1
                    · cases e2
                  · rw [List.getElem?_eq_none (by simp; omega)] at e1; simp at e1
              · cases hf
            · cases hf
          · cases hf
        · cases hf
    | slc hb hcc C e hblk hC =>
      rename_i b o len k cap
      simp only at hf
      split at hf
      · rename_i hlt; cases hf; exact .slc (hD b hb hlt) hcc C e hblk hC
      · rename_i hge
        split at hf
        · rename_i cs hcs
          split at hf
          · rename_i ds hds
            split at hf
            · rename_i l hl
              split at hf
              · rename_i hall
                cases hf
                obtain ⟨_, _, C2, e2, hblk2, hlen, hcont⟩ := hr.own b cs hcs
                rw [hblk] at hblk2; cases hblk2
                obtain ⟨h1, h2⟩ := mapM_some hl
                obtain ⟨g1, g2, g3⟩ := takeAt_len hds
                have hll : l.length = len * k := by rw [h1, g1]
                have hidx : ∀ i j, i < len → j < k → i * k + j < len * k := fun i j hi hj => by
                  have : (i + 1) * k ≤ len * k := Nat.mul_le_mul_right _ hi
                  rw [Nat.succ_mul] at this; omega
                have hcell : ∀ i j, i < len → j < k → o + i * k + j < C.size := fun i j hi hj => by have := hidx i j hi hj; omega
                have hval : ∀ i j y, i < len → j < k → l[i * k + j]? = some y → R (c.all h N) w D0 y (C.getD (o + i * k + j) undef) := fun i j y hi hj hy => by
                  have hlt := hidx i j hi hj
                  have hd : i * k + j < ds.length := by omega
                  obtain ⟨y', e3, e4⟩ := h2 (i * k + j) _ (List.getElem?_eq_getElem hd)
                  rw [hy] at e4; cases e4
                  have hcsj : cs[o + (i * k + j)]? = some ds[i * k + j] := by rw [← g2 _ (by omega)]; exact List.getElem?_eq_getElem hd
                  have := hcell i j hi hj
                  exact ih _ _ _ (hcont (o + (i * k + j)) _ (C.getD (o + i * k + j) undef) hcsj (by rw [← Nat.add_assoc]; simp [Array.getD, this])) e3
                refine .ro (fun i j => C.getD (o + i * k + j) undef) (.inr ⟨b, cs, by omega, hcs, rfl⟩) (by simp [chunk]) hcc (by simp) (fun row hrow => ?_) (fun i j hi hj => ?_) (fun i j hi hj => ?_) (fun i j row y e1 e2 => ?_)
                · simp only [chunk, List.mem_map, List.mem_range] at hrow
                  obtain ⟨i, hi, rfl⟩ := hrow
                  have : (i + 1) * k ≤ len * k := Nat.mul_le_mul_right _ hi
                  rw [Nat.succ_mul] at this
                  simp [hll]; omega
                · have := hcell i j hi hj
                  have e1 : (c.all h N).φ b = c.φ b := rfl
                  simp [World.cell?, hblk, Array.getD, this]
                · have hlt := hidx i j hi hj
                  have hlt' : i * k + j < l.length := by omega
                  have hy := List.getElem?_eq_getElem hlt'
                  have := (List.all_eq_true.1 hall) _ (List.getElem_mem hlt')
                  simp only [Bool.and_eq_true] at this
                  exact one_R (hval i j _ hi hj hy) this.2
                · simp only [chunk, List.getElem?_map] at e1
                  by_cases hi : i < len
                  · rw [List.getElem?_range hi] at e1
                    simp only [Option.map_some, Option.some.injEq] at e1
                    subst e1
                    rw [List.getElem?_take] at e2
                    split at e2
                    · rename_i hj
                      rw [List.getElem?_drop] at e2
                      have := (List.all_eq_true.1 hall) y (List.mem_of_getElem? e2)
                      simp only [Bool.and_eq_true] at this
                      exact clean_R (hval i j y hi hj e2) this.1
                    · cases e2
                  · rw [List.getElem?_eq_none (by simp; omega)] at e1; simp at e1
              · cases hf
            · cases hf
          · cases hf
        · cases hf

/-- Results. -/
def resOne (P : Program) (ρ : List AV) (h : H) : ResultVar → Option AV
  | .tmp t => some (ρ.getD t (.val undef))
  | .cell a t => tyInt P t fun T => loadA T h (ρ.getD a (.val undef))
def resA (P : Program) (rs : Array ResultVar) (ρ : List AV) (h : H) : Option AV :=
  match rs.toList.mapM (resOne P ρ h) with
  | some [x] => some x
  | some l => some (.tup l)
  | none => none

def rvRun (tmps : Array Value) : ResultVar → Sem Value
  | .tmp t => pure (tmps.getD t undef)
  | .cell a t => do loadVar t (← asAddr (tmps.getD a undef))
theorem results_eq (fn : Func) (tmps : Array Value) : results fn tmps = (do let vs ← fn.results.mapM (rvRun tmps); pure (if h : vs.size = 1 then vs[0] else .tuple vs)) := by
  unfold results
  congr 1

theorem run_resOne {P : Program} {c : Cx} {w : World} {D : Nat → Prop} {h : H} {ρ : List AV} {tmps : Array Value} {df : List Deferred} (hr : Rel c D h w) (hρ : RL c w D ρ tmps) {rv : ResultVar} {x : AV} (hx : resOne P ρ h rv = some x) :
    ∃ v, (rvRun tmps rv).run P w = .ok v w ∧ R c w D x v := by
  have hget : ∀ t, R c w D (ρ.getD t (.val undef)) (tmps.getD t undef) := fun t => R_aev (a := { tmps := tmps, defers := df }) hρ (.tmp t)
  cases rv with
  | tmp t => simp only [resOne, Option.some.injEq] at hx; subst hx; exact ⟨_, rfl, hget t⟩
  | cell a t =>
    simp only [resOne] at hx
    obtain ⟨T, hT, hx⟩ := tyInt_some hx
    obtain ⟨u, h1, h2⟩ := run_load_A hT hr (hget a) hx
    refine ⟨u, ?_, h2⟩
    unfold rvRun
    have key : ∀ (pv : Value) (p : AV), R c w D p pv → loadA T h p = some x → (Instr.loadAt t pv).run P w = .ok u w → (do loadVar t (← asAddr pv) : Sem Value).run P w = .ok u w := by
      intro pv p hp hx h1
      cases hp <;> simp_all [loadA, Instr.loadAt, Instr.sureAddr, asAddr]
    exact key _ _ (hget a) hx h1

theorem run_resA {P : Program} {c : Cx} {w : World} {D : Nat → Prop} {h : H} {ρ : List AV} {tmps : Array Value} (hr : Rel c D h w) (hρ : RL c w D ρ tmps) {fn : Func} {x : AV} (hx : resA P fn.results ρ h = some x) :
    ∃ v, (results fn tmps).run P w = .ok v w ∧ R c w D x v := by
  have hmap : ∀ (l : List ResultVar) (m : List AV), l.mapM (resOne P ρ h) = some m → ∃ vs : List Value, (l.mapM (rvRun tmps) : Sem (List Value)).run P w = .ok vs w ∧
      vs.length = m.length ∧ ∀ (i : Nat) (y : AV) (v : Value), m[i]? = some y → vs[i]? = some v → R c w D y v := by
    intro l
    induction l with
    | nil => intro m hm; simp at hm; subst hm; exact ⟨[], rfl, rfl, fun i y v h => by simp at h⟩
    | cons rv l ih =>
      intro m hm
      rw [List.mapM_cons] at hm
      cases ha : resOne P ρ h rv with
      | none => simp [ha] at hm
      | some b =>
        cases hl : l.mapM (resOne P ρ h) with
        | none => simp [ha, hl] at hm
        | some m' =>
          simp [ha, hl] at hm
          subst hm
          obtain ⟨v, h1, h2⟩ := run_resOne (df := []) hr hρ ha
          obtain ⟨vs, h3, h4, h5⟩ := ih m' hl
          refine ⟨v :: vs, ?_, by simp [h4], fun i y u e1 e2 => ?_⟩
          · rw [List.mapM_cons]
            simp only [Sem.run_bind, h1, Result.andThen_ok, h3, Sem.run_pure]
          · cases i with
            | zero => simp at e1 e2; subst e1; subst e2; exact h2
            | succ i => simp at e1 e2; exact h5 i y u e1 e2
  unfold resA at hx
  have hrun : ∀ vs : List Value, (fn.results.toList.mapM (rvRun tmps) : Sem (List Value)).run P w = .ok vs w →
      (results fn tmps).run P w = .ok (if h : vs.toArray.size = 1 then vs.toArray[0] else .tuple vs.toArray) w := fun vs hvs => by
    rw [results_eq, Array.mapM_eq_mapM_toList]
    simp only [Sem.run_bind, Sem.run_map, hvs, Result.andThen_ok, Sem.run_pure]
  split at hx
  · rename_i y hm
    cases hx
    obtain ⟨vs, h1, h2, h3⟩ := hmap _ _ hm
    match vs, h2, h3, h1 with
    | [v], _, h3, h1 => exact ⟨v, by rw [hrun _ h1]; simp, h3 0 _ _ rfl rfl⟩
  · rename_i l hm hne
    cases hx
    obtain ⟨vs, h1, h2, h3⟩ := hmap _ _ hne
    refine ⟨.tuple vs.toArray, ?_, .tup (by simp [h2]) (fun i y v e1 e2 => h3 i y v e1 (by simpa using e2))⟩
    rw [hrun _ h1]
    have : vs.toArray.size ≠ 1 := by
      intro hs
      have : l.length = 1 := by rw [← h2]; simpa using hs
      match l, this, hm with
      | [y], _, hm => exact hm y rfl
    simp only [this, dif_neg, not_false_eq_true]
  · cases hx

/-- What a body must come to. -/
def FinA (P : Program) (fn : Func) (h : H) (x : AV) (h' : H) (e : Exit) (ρ : List AV) (hh : H) : Prop :=
  match e with
  | .normal | .ret => ∃ y k, resA P fn.results ρ hh = some y ∧ frz k hh h.next y = some x ∧
      (∀ b cs, h'.get b = some cs → ∃ ds k, hh.get b = some ds ∧ b < h.next ∧ ds.mapM (frz k hh h.next) = some cs) ∧
      ∀ b r, h'.lp b = some r → hh.lp b = some r ∧ b < h.next ∧ ∃ k, r.ρ.mapM (frz k hh h.next) = some r.ρ
  | _ => False

/-- No abstract heap at all. -/
def H.nil : H := { next := 0, get := fun _ => none, lp := fun _ => none }

def cleanD : AV → Bool
  | .agg l => l.all clean
  | .tup l => l.all clean
  | x => clean x

theorem cleanD_R {c : Cx} {w : World} {D : Nat → Prop} {x : AV} {v : Value} (h : R c w D x v) (hc : cleanD x = true) : R c w noId x v := by
  cases h with
  | agg hs hh =>
    refine .agg hs fun i x v e1 e2 => clean_R (hh i x v e1 e2) ?_
    simp only [cleanD, List.all_eq_true] at hc
    exact hc x (List.mem_of_getElem? e1)
  | tup hs hh =>
    refine .tup hs fun i x v e1 e2 => clean_R (hh i x v e1 e2) ?_
    simp only [cleanD, List.all_eq_true] at hc
    exact hc x (List.mem_of_getElem? e1)
  | val v => exact .val v
  | ro cell hS hl hcc hf hk hcell ho hh => exact .ro cell hS hl hcc hf hk hcell ho hh
  | nil => exact .nil
  | emp => exact .emp
  | rop cell hS hcell hh => exact .rop cell hS hcell hh
  | clo hs hh => exact clean_R (.clo hs hh) hc
  | ptr hb => simp [cleanD, clean, clean1] at hc
  | sl hb _ _ _ _ _ => simp [cleanD, clean, clean1] at hc
  | slc hb _ _ _ _ _ => simp [cleanD, clean, clean1] at hc
  | yld hb => simp [cleanD, clean, clean1] at hc

/-- WHAT HOLDS WITHOUT ANY HEAP HOLDS BESIDE ANY. -/
theorem Fn.beside {P : Program} {f : FuncId} {args : List AV} {x : AV} (h0 : Fn P f args .nil x .nil) (hc : args.all cleanD = true) (h : H) : Fn P f args h x h := by
  refine ⟨h0.1, fun n c D w vs hr hfr hargs => ?_⟩
  have hrel : Rel c noId H.nil w := ⟨fun b cs hb => by simp [H.nil] at hb, fun b b' _ _ hb => by simp [H.nil] at hb, hr.sz, (fun b r hb => by simp [H.nil] at hb), (fun b b' _ _ hb => by simp [H.nil] at hb)⟩
  refine (h0.2 n c noId w vs hrel (fun _ _ hb => hb) ⟨hargs.1, fun i y u e1 e2 => cleanD_R (hargs.2 i y u e1 e2) ((List.all_eq_true.1 hc) y (List.mem_of_getElem? e1))⟩).mono ?_
  rintro e w' ⟨v, c', D', rfl, h2, h3, h4, h5⟩
  have hD' : ∀ b, D' b → noId b := fun b hb => by rcases h5 b hb with h6 | h6; exact h6; simp [H.nil] at h6
  have hnoget : ∀ b cs, H.nil.get b = some cs → False := fun b cs hb => by simp [H.nil] at hb
  have hfr' : ∀ k, k < w.heap.size → w'.heap[k]? = w.heap[k]? := fun k hk => h4.frame k hk (fun b cs hb => (hnoget b cs hb).elim) (fun b r hb => by simp [H.nil] at hb)
  have hS' : ∀ k, c'.S k → c.S k ∨ w.heap.size ≤ k := fun k hk => by
    rcases h4.newS k hk with h6 | h6 | ⟨b, cs, h6, _⟩
    · exact .inl h6
    · exact .inr h6
    · exact (hnoget b cs h6).elim
  refine ⟨v, { S := c'.S, φ := c.φ }, D, rfl, ?_, ⟨fun b cs hb => ?_, hr.inj, h3.sz, hr.lps_keep h4.S (fun k hk => hfr' k (hr.sz k hk)) (fun _ _ => rfl) (fun _ hb => hb) h4.shp (fun b r hb => hfr' _ (hr.lp_lt hb)) (fun b r hb hs => (hS' _ hs).resolve_right (Nat.not_le_of_lt (hr.lp_lt hb))), hr.linj⟩, ⟨h4.S, fun k hk => ?_, fun _ _ => rfl, fun _ hb => hb, Nat.le_refl _, h4.os, h4.tape, h4.output, h4.size, fun k hk _ _ => hfr' k hk, h4.shp, fun b cs hb => .inl ⟨b, cs, hb, rfl⟩, fun b r hb => .inl ⟨b, r, hb, rfl⟩, h4.fz⟩, fun b hb => .inl hb⟩
  · have h6 : R c' w' noId x v := h2.up hD'
    exact (h6.mono (c' := { S := c'.S, φ := c.φ }) (fun _ hk => hk) (fun _ _ => rfl) (fun _ hb => hb.elim) (fun _ hb => hb.elim) (fun _ C _ hk => ⟨C, hk, rfl⟩))
  · obtain ⟨q1, q2, C, e, q3, q4, q5⟩ := hr.own b cs hb
    have hlt := (Array.getElem?_eq_some_iff.1 q3).1
    refine ⟨q1, fun hS => ?_, C, e, by rw [hfr' _ hlt]; exact q3, q4, fun j y u e1 e2 => (q5 j y u e1 e2).mono h4.S (fun k hk => hfr' k (hr.sz k hk)) (fun _ _ => rfl) (fun _ hb => hb) h4.shp⟩
    rcases hS' _ hS with h6 | h6
    · exact q2 h6
    · exact absurd hlt (Nat.not_lt.2 h6)
  · rcases hS' k hk with h6 | h6
    · exact .inl h6
    · exact .inr (.inl h6)

end Go.Pe

/- Statements whose order is open: what is to be shown of them, and that it is enough for every order. -/
namespace Go.Pe
open Go

/-- What is said of a statement whose order is open: which old blocks are written ('M'), which operations see which of them before ('see'), and which operations write which of them ('eff'). -/
structure Cert where
  M : List Nat := []
  see : List (Nat × Nat) := []
  eff : List (Nat × List Nat) := []

def effectful : Op → Bool
  | .alloc _ => true
  | .box _ _ => true
  | .makeSlice _ _ _ => true
  | .buildSlice _ _ _ => true
  | .store _ _ _ => true
  | .call { callee := .builtin .append, .. } => true
  | _ => false
def allocs : Op → Bool
  | .buildSlice _ _ _ => true
  | .alloc _ => true
  | .box _ _ => true
  | .makeSlice _ _ _ => true
  | .call { callee := .builtin .append, .. } => true
  | _ => false
def storeNew (all : Array Oper) : Op → Option Nat
  | .store _ (.tmp t) _ => (List.range all.size).find? fun j => match all[j]? with
    | some o => o.dst == some t && allocs o.op
    | none => false
  | _ => none
def fpn (all : Array Oper) (i : Nat) (o : Oper) : List Nat := (if allocs o.op then [i] else []) ++ (match storeNew all o.op with | some j => [j] | none => [])
def fpo (ct : Cert) (i : Nat) : List Nat := match ct.eff.find? (fun p => p.1 == i) with | some p => p.2 | none => []
def quietA (ct : Cert) (i : Nat) (o : Oper) : Bool := !effectful o.op && !(ct.eff.any (fun p => p.1 == i))

/-- The heap as a quiet operation sees it. -/
def qView (ct : Cert) (h0 : H) (m i : Nat) : H := { next := h0.next + m, get := fun b => if ct.M.contains b && !(ct.see.contains (i, b)) then none else h0.get b, lp := fun _ => none }
/-- The heap as an operation with an effect sees it. -/
def eView (all : Array Oper) (ct : Cert) (h0 : H) (i nx : Nat) (o : Oper) (g : Nat → Option (List AV)) : H :=
  { next := nx, get := fun b => if (fpn all i o).any (fun j => h0.next + j == b) || (fpo ct i).contains b then g b else none, lp := fun _ => none }
def mergeG (g : Nat → Option (List AV)) (v v' : H) : Nat → Option (List AV) := fun b => if (v.get b).isSome || (v'.get b).isSome then v'.get b else g b

/-- A contract, by which names are unused and which ones are made. -/
def FnG (P : Program) (f : FuncId) (args : List AV) (h : H) (F X : Nat → Prop) (x : AV) (h' : H) : Prop :=
  callable P f = true ∧ ∀ (n : Nat) (c : Cx) (D : Nat → Prop) (w : World) (vs : Array Value), Rel c D h w → (∀ b, F b → ¬ D b) → RL c w D args vs →
    CallsIn Fence.wide n P f vs w fun e w' => ∃ v c' D', e = .returned v ∧ R c' w' D' x v ∧ Rel c' D' h' w' ∧ Ext D h c w D' c' w' h' ∧ ∀ b, D' b → D b ∨ X b
theorem Fn.toG {P : Program} {f : FuncId} {args : List AV} {h h' : H} {x : AV} (h1 : Fn P f args h x h') : FnG P f args h (fun b => h.next ≤ b) (fun b => h.next ≤ b ∧ b < h'.next) x h' := h1
/-- A call that makes at most one block, of the name N. -/
def FnM (P : Program) (f : FuncId) (args : List AV) (h : H) (N : Nat) (x : AV) (h' : H) : Prop := FnG P f args h (fun b => h.next ≤ b ∨ b = N) (fun b => b = N) x h'
theorem Fn.toM {P : Program} {f : FuncId} {args : List AV} {h h' : H} {N : Nat} {x : AV} (h1 : Fn P f args h x h') (hn : h'.next = h.next) : FnM P f args h N x h' :=
  ⟨h1.1, fun n c D w vs hr hfr ha => (h1.2 n c D w vs hr (fun b hb => hfr b (.inl hb)) ha).mono fun e w' hh => by
    obtain ⟨v, c', D', e1, e2, e3, e4, e5⟩ := hh
    exact ⟨v, c', D', e1, e2, e3, e4, fun b hb => by rcases e5 b hb with h6 | h6; exact .inl h6; omega⟩⟩
def cls : Op → Bool
  | .call { callee := .value _, .. } => true
  | _ => false
def onCallE (P : Program) (g : Nat) (args : List AV) (vc : H) (N : Nat) (K : AV → H → Prop) (_ : Tag K) : Prop := ∃ x h', FnM P g args vc N x h' ∧ (∀ b, vc.get b = none → h'.get b = none ∨ b = N) ∧ (∀ b, h'.lp b = none) ∧ K x h'
def onCallQ (P : Program) (g : Nat) (args : List AV) (q : H) (K : AV → Prop) (_ : Tag K) : Prop := ∃ x, Fn P g args q x q ∧ K x
theorem onCallQ_in {P : Program} {g : Nat} {args : List AV} {h : H} {x : AV} {K : AV → Prop} {t : Tag K} (h1 : Fn P g args h x h) (h2 : K x) : onCallQ P g args h K t := ⟨x, h1, h2⟩
theorem onCallE_in {P : Program} {g : Nat} {args : List AV} {h h' : H} {N : Nat} {x : AV} {K : AV → H → Prop} {t : Tag K} (h1 : Fn P g args h x h') (h3 : h'.next = h.next) (h4 : ∀ b, h.get b = none → h'.get b = none) (h5 : ∀ b, h'.lp b = none) (h2 : K x h') : onCallE P g args h N K t := ⟨x, h', h1.toM h3, fun b hb => .inl (h4 b hb), h5, h2⟩
theorem onCallE_new {P : Program} {g : Nat} {args : List AV} {h h' : H} {N : Nat} {x : AV} {K : AV → H → Prop} {t : Tag K} (h1 : FnM P g args h N x h') (h4 : ∀ b, h.get b = none → h'.get b = none ∨ b = N) (h5 : ∀ b, h'.lp b = none) (h2 : K x h') : onCallE P g args h N K t := ⟨x, h', h1, h4, h5, h2⟩

def stepQ (P : Program) (o : Oper) (q : H) (K : AV → Prop) (ρ : List AV) : Prop :=
  match o.op with
  | .call { callee := .value f, args, .. } => onClo (aev ρ f) (fun g caps => onCallQ P g (args.toList.map (aev ρ) ++ caps) q K .mk) .mk
  | _ => onSome (pop P o ρ q) K .mk
def stepE (P : Program) (own : Bool) (o : Oper) (v vc : H) (K : AV → H → Prop) (ρ : List AV) : Prop :=
  match o.op with
  | .call { callee := .value f, args, .. } => onClo (aev ρ f) (fun g caps => onCallE P g (args.toList.map (aev ρ) ++ caps) vc v.next K .mk) .mk
  | _ => onSome (eop P own o ρ v) (fun r => K r.1 r.2) .mk

def vcDr (P : Program) (md : Oper → Bool) (ct : Cert) (all : Array Oper) (h0 : H) (Q : List AV → H → Prop) : List Oper → Nat → List AV → (Nat → Option (List AV)) → Prop
  | [], _, ρ, g => Q ρ { next := h0.next + all.size, get := g, lp := h0.lp }
  | o :: rest, i, ρ, g =>
    match o.guard with
    | none => if quietA ct i o then stepQ P o (qView ct h0 all.size i) (fun x => vcDr P md ct all h0 Q rest (i + 1) (putA ρ o.dst x) g) ρ
        else stepE P (md o) o (eView all ct h0 i (h0.next + i) o g) (eView all ct h0 i (h0.next + all.size) o g) (fun x h' => vcDr P md ct all h0 Q rest (i + 1) (putA ρ o.dst x) (mergeG g (eView all ct h0 i (h0.next + i) o g) h')) ρ
    | some (j, want) => onSome ((all[j]?).bind (·.dst)) (fun d => onBool (ρ.getD d (.val undef)) (fun b => ifB (b == want) (if quietA ct i o then stepQ P o (qView ct h0 all.size i) (fun x => vcDr P md ct all h0 Q rest (i + 1) (putA (ρ.set d (.val (.bool want))) o.dst x) g) (ρ.set d (.val (.bool want)))
            else stepE P (md o) o (eView all ct h0 i (h0.next + i) o g) (eView all ct h0 i (h0.next + all.size) o g) (fun x h' => vcDr P md ct all h0 Q rest (i + 1) (putA (ρ.set d (.val (.bool want))) o.dst x) (mergeG g (eView all ct h0 i (h0.next + i) o g) h')) (ρ.set d (.val (.bool want))))
          (vcDr P md ct all h0 Q rest (i + 1) (putA (ρ.set d (.val (.bool !want))) o.dst (.val undef)) g) .mk .mk)
          (vcDr P md ct all h0 Q rest (i + 1) (putA ρ o.dst (.val undef)) g) .mk .mk) .mk

/-- Which operations stand in a forced order. -/
def ordA (all : Array Oper) (i k : Nat) : Bool := ((Region.before all).getD k 0).testBit i
def dstOf (all : Array Oper) (i : Nat) : Option Nat := (all[i]?).bind (·.dst)
def tmpsApart (all : Array Oper) : Bool :=
  (List.range all.size).all fun i => match all[i]? with
  | none => true
  | some o => (o.after.all fun e => !Region.binds .any e || decide (e.on < i)) &&
    match o.dst with
    | none => true
    | some t => (List.range all.size).all fun k => i == k || ordA all i k || ordA all k i || match all[k]? with
      | none => true
      | some p => !((p.looksAt all).contains t) && p.dst != some t
def fpsApart (all : Array Oper) (ct : Cert) : Bool :=
  (List.range all.size).all fun i => match all[i]? with
  | none => true
  | some o => (fpo ct i).all (fun b => ct.M.contains b) && (List.range all.size).all fun k => i == k || match all[k]? with
    | none => true
    | some p => quietA ct k p ||
      if quietA ct i o then ordA all i k || (fpo ct k).all (fun b => !(ct.see.contains (i, b)))
      else ordA all i k || ordA all k i || ((fpn all i o).all (fun j => !((fpn all k p).contains j)) && (fpo ct i).all (fun b => !((fpo ct k).contains b)))

inductive Bef (all : Array Oper) : Nat → Nat → Prop
  | one {i k : Nat} {o : Oper} {e : Edge} (ho : all[k]? = some o) (he : e ∈ o.after) (hb : Region.binds .any e = true) (hi : e.on = i) : Bef all i k
  | step {i j k : Nat} (h1 : Bef all i j) (h2 : Bef all j k) : Bef all i k

theorem ordA_bef {all : Array Oper} {i k : Nat} (h : ordA all i k = true) : Bef all i k := by
  have key : ∀ (l : List Oper) (acc : Array Nat), (∀ j, l[j]? = all[acc.size + j]?) → (∀ k i, k < acc.size → (acc.getD k 0).testBit i = true → Bef all i k) →
      ∀ k i, k < (l.foldl (fun acc o => acc.push (o.after.foldl (fun s e => if Region.binds .any e then s ||| 2 ^ e.on ||| acc.getD e.on 0 else s) 0)) acc).size →
        ((l.foldl (fun acc o => acc.push (o.after.foldl (fun s e => if Region.binds .any e then s ||| 2 ^ e.on ||| acc.getD e.on 0 else s) 0)) acc).getD k 0).testBit i = true → Bef all i k := by
    intro l
    induction l with
    | nil => intro acc _ hacc; exact hacc
    | cons o l ih =>
      intro acc hl hacc
      simp only [List.foldl_cons]
      have ho : all[acc.size]? = some o := by simpa using (hl 0).symm
      refine ih _ (fun j => ?_) (fun k i hk hb => ?_)
      · have := hl (j + 1); simp only [List.getElem?_cons_succ] at this; rw [this]; congr 1; simp; omega
      · by_cases hlt : k < acc.size
        · refine hacc k i hlt ?_
          simpa [Array.getD, Array.size_push, hlt, Nat.lt_succ_of_lt hlt, Array.getElem_push] using hb
        · have hk' : k = acc.size := by simp at hk; omega
          subst hk'
          have hin : ∀ (es : List Edge) (s : Nat), (∀ e ∈ es, e ∈ o.after) → (s.testBit i = true → Bef all i acc.size) → (es.foldl (fun s e => if Region.binds .any e then s ||| 2 ^ e.on ||| acc.getD e.on 0 else s) s).testBit i = true → Bef all i acc.size := by
            intro es
            induction es with
            | nil => intro s _ hs hb; exact hs hb
            | cons e es ihe =>
              intro s hes hs hb
              simp only [List.foldl_cons] at hb
              refine ihe _ (fun e' he' => hes e' (by simp [he'])) (fun hb' => ?_) hb
              split at hb'
              · rename_i hbind
                simp only [Nat.testBit_or, Bool.or_eq_true, Nat.testBit_two_pow, decide_eq_true_eq] at hb'
                rcases hb' with (hb' | hb') | hb'
                · exact hs hb'
                · exact .one ho (hes e (by simp)) hbind hb'
                · by_cases hon : e.on < acc.size
                  · exact .step (hacc e.on i hon hb') (.one ho (hes e (by simp)) hbind rfl)
                  · simp [Array.getD, hon] at hb'
              · exact hs hb'
          refine hin o.after.toList 0 (fun e he => by simpa using he) (fun h => by simp at h) ?_
          rw [Array.foldl_toList]
          simpa [Array.getD] using hb
  have h' := h
  unfold ordA Region.before at h'
  rw [← Array.foldl_toList] at h'
  by_cases hk : k < (all.toList.foldl (fun acc o => acc.push (o.after.foldl (fun s e => if Region.binds .any e then s ||| 2 ^ e.on ||| acc.getD e.on 0 else s) 0)) (#[] : Array Nat)).size
  · exact key all.toList #[] (by simp) (fun k i hk => by simp at hk) k i hk h'
  · unfold Array.getD at h'
    rw [dif_neg hk] at h'
    simp at h'

/-- What one operation came to. -/
structure Ent where
  sk : Bool
  X : AV
  up : Nat → Option (Option (List AV))

def rhoS (all : Array Oper) (T : Nat → Ent) (sel : Nat → Bool) (ρ : List AV) : Nat → List AV
  | 0 => ρ
  | k + 1 => if sel k then putA (rhoS all T sel ρ k) (dstOf all k) (T k).X else rhoS all T sel ρ k
def gS (T : Nat → Ent) (sel : Nat → Bool) (g : Nat → Option (List AV)) : Nat → Nat → Option (List AV)
  | 0, b => g b
  | k + 1, b => if sel k then (match (T k).up b with | some c => c | none => gS T sel g k b) else gS T sel g k b

theorem rhoS_len {all : Array Oper} {T : Nat → Ent} {sel : Nat → Bool} {ρ : List AV} : ∀ k, (rhoS all T sel ρ k).length = ρ.length
  | 0 => rfl
  | k + 1 => by
    simp only [rhoS]
    split
    · cases dstOf all k <;> simp [putA, rhoS_len k]
    · exact rhoS_len k

/-- A slot holds what its last writer gave: whoever is chosen, if the same writers of it are chosen. -/
theorem rhoS_slot {all : Array Oper} {T T' : Nat → Ent} {sel sel' : Nat → Bool} {ρ : List AV} {t : Nat} : ∀ k k', (∀ j, dstOf all j = some t → ((j < k ∧ sel j = true) ↔ (j < k' ∧ sel' j = true))) → (∀ j, T j = T' j) →
    (rhoS all T sel ρ k)[t]? = (rhoS all T' sel' ρ k')[t]? := by
  have one : ∀ (T : Nat → Ent) (sel : Nat → Bool) k, (rhoS all T sel ρ k)[t]? = (match (List.range k).reverse.find? (fun j => sel j && dstOf all j == some t) with | some j => if t < ρ.length then some (T j).X else none | none => ρ[t]?) := by
    intro T sel k
    induction k with
    | zero => rfl
    | succ k ih =>
      rw [List.range_succ, List.reverse_append, List.reverse_singleton, List.singleton_append, List.find?_cons]
      simp only [rhoS]
      by_cases hs : sel k = true
      · rw [if_pos hs]
        by_cases hd : dstOf all k = some t
        · simp only [hs, hd, Bool.true_and, beq_self_eq_true]
          simp only [putA, List.getElem?_set_self', rhoS_len]
          by_cases hlt : t < ρ.length
          · rw [if_pos hlt, List.getElem?_eq_getElem (by rw [rhoS_len]; exact hlt)]; rfl
          · rw [if_neg hlt, List.getElem?_eq_none (by rw [rhoS_len]; omega)]; rfl
        · have : (sel k && dstOf all k == some t) = false := by simp [hd]
          simp only [this]
          rw [← ih]
          cases hdk : dstOf all k with
          | none => rfl
          | some d => simp only [putA]; rw [List.getElem?_set_ne (fun e => hd (by rw [hdk, e]))]
      · rw [if_neg hs]
        have : (sel k && dstOf all k == some t) = false := by simp [hs]
        simp only [this]; exact ih
  intro k k' hsel hT
  obtain rfl : T = T' := funext hT
  rw [one, one]
  have hfind : (List.range k).reverse.find? (fun j => sel j && dstOf all j == some t) = (List.range k').reverse.find? (fun j => sel' j && dstOf all j == some t) := by
    have gen : ∀ (sel sel' : Nat → Bool) k k', (∀ j, dstOf all j = some t → ((j < k ∧ sel j = true) ↔ (j < k' ∧ sel' j = true))) → k ≤ k' → (List.range k).reverse.find? (fun j => sel j && dstOf all j == some t) = (List.range k').reverse.find? (fun j => sel' j && dstOf all j == some t) := by
      intro sel sel' k k' h hle
      obtain ⟨d, rfl⟩ : ∃ d, k' = k + d := ⟨k' - k, by omega⟩
      clear hle
      induction d with
      | zero =>
        clear hsel
        simp only [Nat.add_zero] at *
        have : ∀ n, n ≤ k → (List.range n).reverse.find? (fun j => sel j && dstOf all j == some t) = (List.range n).reverse.find? (fun j => sel' j && dstOf all j == some t) := by
          intro n
          induction n with
          | zero => intro _; rfl
          | succ n ih =>
            intro hn
            rw [List.range_succ, List.reverse_append, List.reverse_singleton, List.singleton_append, List.find?_cons, List.find?_cons, ih (by omega)]
            have : (sel n && dstOf all n == some t) = (sel' n && dstOf all n == some t) := by
              by_cases hd : dstOf all n = some t
              · have := h n hd
                simp only [show n < k by omega, true_and] at this
                simp only [hd, beq_self_eq_true, Bool.and_true]
                exact Bool.eq_iff_iff.2 this
              · have hb : (dstOf all n == some t) = false := by simpa using hd
                rw [hb, Bool.and_false, Bool.and_false]
            rw [this]
        exact this k (Nat.le_refl _)
      | succ d ih =>
        rw [show k + (d + 1) = (k + d) + 1 by omega, List.range_succ, List.reverse_append, List.reverse_singleton, List.singleton_append, List.find?_cons]
        have hno : (sel' (k + d) && dstOf all (k + d) == some t) = false := by
          by_cases hd : dstOf all (k + d) = some t
          · have := h (k + d) hd
            cases hs : sel' (k + d) with
            | false => rfl
            | true => have := this.2 ⟨by omega, hs⟩; omega
          · simp [hd]
        rw [hno]
        refine ih fun j hj => ⟨fun h1 => ?_, fun h1 => (h j hj).2 ⟨by omega, h1.2⟩⟩
        have h2 := (h j hj).1 h1
        refine ⟨?_, h2.2⟩
        rcases Nat.lt_or_ge j (k + d) with h3 | h3
        · exact h3
        · omega
    by_cases hle : k ≤ k'
    · exact gen sel sel' k k' hsel hle
    · exact (gen sel' sel k' k (fun j hj => (hsel j hj).symm) (by omega)).symm
  rw [hfind]

end Go.Pe
