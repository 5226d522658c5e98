/- What is to be shown of a piece of code, and that it is enough. -/
import Derived.Test.YtblpmcmapadphaaPeH
import Derived.RangeFuncRecord
import Derived.RangeFuncSeq
set_option linter.unusedVariables false
set_option linter.unusedSimpArgs false
namespace Go.Pe
open Go

def callable (P : Program) (f : FuncId) : Bool :=
  match P.funcs[f]? with
  | some fn => fn.name != "runtime.NumGoroutine" && fn.body.isSome
  | none => false

/-- WHAT A GO FUNCTION DOES: called with values that are 'args', where the heap is 'h', it returns what is 'x', and leaves the heap 'h''. -/
def Fn (P : Program) (f : FuncId) (args : List AV) (h : H) (x : AV) (h' : H) : Prop :=
  callable P f = true ∧ ∀ (n : Nat) (c : Cx) (D : Nat → Prop) (w : World) (vs : Array Value), Rel c D h w → (∀ b, h.next ≤ b → ¬ D b) → RL c w D args vs →
    CallsIn Fence.wide n P f vs w fun e w' => ∃ v c' D', e = .returned v ∧ R c' w' D' x v ∧ Rel c' D' h' w' ∧ Ext D h c w D' c' w' h' ∧ ∀ b, D' b → D b ∨ (h.next ≤ b ∧ b < h'.next)

def putA (ρ : List AV) (dst : Option Nat) (x : AV) : List AV :=
  match dst with
  | some d => ρ.set d x
  | none => ρ

/-- What keeps simplification out of the thing that is named: the type of another argument speaks of it. -/
inductive Tag {α : Sort _} (x : α) : Type
  | mk

/-- The ways in which a goal waits for a value: simplification goes into the value alone. -/
def onSome {α : Type} (o : Option α) (K : α → Prop) (_ : Tag K) : Prop :=
  match o with
  | some x => K x
  | none => False
def ifB (b : Bool) (A C : Prop) (_ : Tag A) (_ : Tag C) : Prop := if b = true then A else C
def onClo (x : AV) (K : Nat → List AV → Prop) (_ : Tag K) : Prop :=
  match x with
  | .clo g caps => K g caps
  | _ => False
/-- A function that is called: a closure, or the rest of a loop. -/
def onFn (x : AV) (K : Nat → List AV → Prop) (L : Nat → Prop) (_ : Tag K) (_ : Tag L) : Prop :=
  match x with
  | .clo g caps => K g caps
  | .yld b => L b
  | _ => False
def onBool (x : AV) (K : Bool → Prop) (T : Prop) (_ : Tag K) (_ : Tag T) : Prop :=
  match x with
  | .val (.bool b) => K b
  | .val (.tuple _) => T
  | _ => False
def onCall (P : Program) (g : Nat) (args : List AV) (h : H) (K : AV → H → Prop) (_ : Tag K) : Prop := ∃ x h', Fn P g args h x h' ∧ K x h'

/-- WHAT A ROUND OF A LOOP OVER A FUNCTION DOES: handed 'args', where the heap is 'h', it hands back 'x', and leaves the heap 'h''. -/
def Rd (P : Program) (b : Nat) (args : List AV) (h : H) (x : AV) (h' : H) : Prop :=
  ∀ (n : Nat) (c : Cx) (D : Nat → Prop) (w : World) (vs : Array Value), Rel c D h w → D b → (∀ q, h.next ≤ q → ¬ D q) → RL c w D args vs →
    YieldAt Fence.wide n P (c.φ b) vs w fun e w' => ∃ v c' D', e = .returned v ∧ R c' w' D' x v ∧ Rel c' D' h' w' ∧ Ext D h c w D' c' w' h' ∧ ∀ q, D' q → D q ∨ (h.next ≤ q ∧ q < h'.next)
def onRound (P : Program) (b : Nat) (args : List AV) (h : H) (K : AV → H → Prop) (_ : Tag K) : Prop := ∃ x h', Rd P b args h x h' ∧ K x h'

section
variable {A C : Prop} {ta : Tag A} {tc : Tag C}
theorem onRound_in {P : Program} {b : Nat} {args : List AV} {h h' : H} {x : AV} {K : AV → H → Prop} {t : Tag K} (h1 : Rd P b args h x h') (h2 : K x h') : onRound P b args h K t := ⟨x, h', h1, h2⟩
@[simp] theorem onFn_clo {g : Nat} {caps : List AV} {K : Nat → List AV → Prop} {L : Nat → Prop} {t : Tag K} {t' : Tag L} : onFn (.clo g caps) K L t t' = K g caps := rfl
@[simp] theorem onFn_yld {b : Nat} {K : Nat → List AV → Prop} {L : Nat → Prop} {t : Tag K} {t' : Tag L} : onFn (.yld b) K L t t' = L b := rfl
theorem onSome_some {α : Type} {x : α} {K : α → Prop} {t : Tag K} : onSome (some x) K t = K x := rfl
theorem onSome_none {α : Type} {K : α → Prop} {t : Tag K} : onSome none K t = False := rfl
theorem ifB_true : ifB true A C ta tc = A := by simp [ifB]
theorem ifB_false : ifB false A C ta tc = C := by simp [ifB]
theorem ifB_not {b : Bool} : ifB (!b) A C ta tc = ifB b C A tc ta := by cases b <;> simp [ifB]
theorem ifB_in {b : Bool} (h1 : b = true → A) (h2 : b = false → C) : ifB b A C ta tc := by cases b <;> simp_all [ifB]
theorem ifD_in {p : Prop} [Decidable p] (h1 : p → A) (h2 : ¬ p → C) : ifB (decide p) A C ta tc := by unfold ifB; split <;> simp_all
theorem onClo_clo {g : Nat} {caps : List AV} {K : Nat → List AV → Prop} {t : Tag K} : onClo (.clo g caps) K t = K g caps := rfl
theorem onBool_bool {b : Bool} {K : Bool → Prop} {T : Prop} {t : Tag K} {t' : Tag T} : onBool (.val (.bool b)) K T t t' = K b := rfl
theorem onBool_tup {x : Array Value} {K : Bool → Prop} {T : Prop} {t : Tag K} {t' : Tag T} : onBool (.val (.tuple x)) K T t t' = T := rfl
theorem onCall_in {P : Program} {g : Nat} {args : List AV} {h h' : H} {x : AV} {K : AV → H → Prop} {t : Tag K} (h1 : Fn P g args h x h') (h2 : K x h') : onCall P g args h K t := ⟨x, h', h1, h2⟩
end

/-- One operation that calls no Go function. -/
def pickV (x : Option AV) (h : H) (e : Option (AV × H)) (_ : Tag e) : Option (AV × H) :=
  match x with
  | some x => some (x, h)
  | none => e
theorem pickV_some {x : AV} {h : H} {e : Option (AV × H)} {t : Tag e} : pickV (some x) h e t = some (x, h) := rfl
theorem pickV_none {h : H} {e : Option (AV × H)} {t : Tag e} : pickV none h e t = e := rfl
def stepV (P : Program) (own : Bool) (o : Oper) (ρ : List AV) (h : H) : Option (AV × H) := pickV (pop P o ρ h) h (eop P own o ρ h) .mk

/-- One operation. -/
def stepA (P : Program) (md : Oper → Bool) (o : Oper) (K : List AV → H → Prop) (ρ : List AV) (h : H) : Prop :=
  match o.op with
  | .call { callee := .value f, args, .. } => onFn (aev ρ f) (fun g caps => onCall P g (args.toList.map (aev ρ) ++ caps) h (fun x h' => K (putA ρ o.dst x) h') .mk) (fun b => onRound P b (args.toList.map (aev ρ)) h (fun x h' => K (putA ρ o.dst x) h') .mk) .mk .mk
  | _ => onSome (stepV P (md o) o ρ h) (fun r => K (putA ρ o.dst r.1) r.2) .mk

theorem set_same {ρ : List AV} {d : Nat} {x : AV} (h : ρ.getD d (.val undef) = x) : ρ.set d x = ρ := by
  subst h
  apply List.ext_getElem?
  intro i
  rw [List.getElem?_set]
  by_cases hd : d = i
  · subst hd
    by_cases hl : d < ρ.length
    · simp [hl, List.getD]
    · simp [hl]
  · simp [hd]
/-- Operations, one after another. -/
def vcOps (P : Program) (md : Oper → Bool) (all : Array Oper) (Q : List AV → H → Prop) : List Oper → List AV → H → Prop
  | [], ρ, h => Q ρ h
  | o :: rest, ρ, h =>
    match o.guard with
    | none => stepA P md o (vcOps P md all Q rest) ρ h
    | some (j, want) => onSome ((all[j]?).bind (·.dst)) (fun d => onBool (ρ.getD d (.val undef)) (fun b => ifB (b == want) (stepA P md o (vcOps P md all Q rest) (ρ.set d (.val (.bool want))) h) (vcOps P md all Q rest (putA (ρ.set d (.val (.bool !want))) o.dst (.val undef)) h) .mk .mk)
          (vcOps P md all Q rest (putA ρ o.dst (.val undef)) h) .mk .mk) .mk

/-- The fences that let all by. -/
def Fr (r : Option Nat) : Fence := { Fence.wide with round := r }

theorem RoundIn_Fr {r : Option Nat} {n : Nat} {P : Program} {l : Nat} {f : FuncId} {tmps : Array Value} {assign body : Code} {w : World} {Q : Ending → World → Prop} (h : RoundIn Fence.wide n P l f tmps assign body w Q) : RoundIn (Fr r) n P l f tmps assign body w Q := h
theorem CallsIn_Fr {r : Option Nat} {n : Nat} {P : Program} {f : FuncId} {args : Array Value} {w : World} {Q : Ending → World → Prop} (h : CallsIn Fence.wide n P f args w Q) : CallsIn (Fr r) n P f args w Q := h

/-- The marks that loops over functions have left among an activation's deferred calls. -/
def Marks (w0 : World) (c : Cx) (w : World) (a : Act) : Prop :=
  ∃ ms : List Nat, a.defers = ms.map (fun d => { target := .collected d, args := #[] }) ∧ ms.Nodup ∧ ∀ d ∈ ms, w0.heap.size ≤ d ∧ ¬ c.S d ∧ w.heap[d]? = some (.deferred (some []))

theorem Marks.of_nil {w0 : World} {c : Cx} {w : World} {a : Act} (h : a.defers = []) : Marks w0 c w a := ⟨[], h, List.nodup_nil, fun d hd => by cases hd⟩
theorem Marks.put {w0 : World} {c : Cx} {w : World} {a : Act} (h : Marks w0 c w a) (dst : Option Nat) (v : Value) : Marks w0 c w (a.put dst v) := by
  obtain ⟨ms, h1, h2⟩ := h
  exact ⟨ms, by rw [← h1]; cases dst <;> rfl, h2⟩
theorem Marks.step {w0 : World} {c c' : Cx} {w w' : World} {a : Act} {D D' : Nat → Prop} {h h' : H} (hm : Marks w0 c w a) (hr : Rel c D h w) (he : Ext D h c w D' c' w' h') : Marks w0 c' w' a := by
  obtain ⟨ms, h1, h2, h3⟩ := hm
  refine ⟨ms, h1, h2, fun d hd => ?_⟩
  obtain ⟨g1, g2, g3⟩ := h3 d hd
  refine ⟨g1, fun hS => ?_, he.other hr g3 (by intros; simp) (by intros; simp)⟩
  rcases he.newS d hS with h6 | h6 | ⟨b, cs, h6, h7⟩
  · exact g2 h6
  · have := (Array.getElem?_eq_some_iff.1 g3).1; omega
  · obtain ⟨_, _, C, e, q3, _⟩ := hr.own b cs h6
    rw [h7, g3] at q3; cases q3

/-- What is known behind a piece of code, in the model's own words. -/
structure St (D0 : Nat → Prop) (h0 : H) (c0 : Cx) (w0 : World) (ρ : List AV) (h : H) (a : Act) (w : World) (c : Cx) (D : Nat → Prop) : Prop where
  rel : Rel c D h w
  rl : RL c w D ρ a.tmps
  ext : Ext D0 h0 c0 w0 D c w h
  defers : Marks w0 c w a
  dom : ∀ b, D b → D0 b ∨ (h0.next ≤ b ∧ b < h.next)

def Post (D0 : Nat → Prop) (h0 : H) (c0 : Cx) (w0 : World) (Q : Exit → List AV → H → Prop) : Exit → Act → World → Prop := fun e a w =>
  ∃ ρ h c D, Q e ρ h ∧ St D0 h0 c0 w0 ρ h a w c D

theorem RL_put {c : Cx} {w : World} {D : Nat → Prop} {ρ : List AV} {a : Act} {x : AV} {v : Value} (dst : Option Nat) (h : RL c w D ρ a.tmps) (hx : R c w D x v) : RL c w D (putA ρ dst x) (a.put dst v).tmps := by
  cases dst with
  | none => exact h
  | some d =>
    refine ⟨by simp [putA, Act.put, h.1], fun i y u h1 h2 => ?_⟩
    simp only [putA, Act.put, List.getElem?_set, Array.getElem?_setIfInBounds] at h1 h2
    by_cases hd : d = i
    · subst hd
      simp only [if_true] at h1 h2
      split at h1
      · split at h2
        · cases h1; cases h2; exact hx
        · cases h2
      · cases h1
    · rw [if_neg hd] at h1 h2; exact h.2 i y u h1 h2

section
variable {P : Program} {md : Oper → Bool} {D0 : Nat → Prop} {h0 : H} {c0 : Cx} {w0 : World} (hf0 : ∀ b, h0.next ≤ b → ¬ D0 b) {r : Option Nat} {n : Nat}
include hf0

theorem St.fresh {ρ : List AV} {h : H} {a : Act} {w : World} {c : Cx} {D : Nat → Prop} (s : St D0 h0 c0 w0 ρ h a w c D) : ∀ b, h.next ≤ b → ¬ D b := fun b hb hD => by
  rcases s.dom b hD with h1 | h1
  · exact hf0 b (Nat.le_trans s.ext.next hb) h1
  · omega

theorem step_sound {o : Oper} {K : List AV → H → Prop} {next : Act → World → Prop} {Q : Exit → Act → World → Prop} {ρ : List AV} {h : H} {a : Act} {w : World} {c : Cx} {D : Nat → Prop}
    (hv : stepA P md o K ρ h) (s : St D0 h0 c0 w0 ρ h a w c D) (hK : ∀ ρ h a w c D, K ρ h → St D0 h0 c0 w0 ρ h a w c D → next a w) : o.wpIn (Fr r) n P a w next Q := by
  have go : ∀ {x : AV} {v : Value} {w' : World} {h' : H} {c' : Cx} {D' : Nat → Prop}, R c' w' D' x v → Rel c' D' h' w' → Ext D h c w D' c' w' h' → (∀ b, D' b → D b ∨ (h.next ≤ b ∧ b < h'.next)) → K (putA ρ o.dst x) h' → next (a.put o.dst v) w' :=
    fun hx hr he hb hk => hK _ _ _ _ _ _ hk ⟨hr, RL_put o.dst (he.list s.rel s.rl) hx, s.ext.trans he, (s.defers.step s.rel he).put _ _, fun b hD => by
      rcases hb b hD with h1 | h1
      · rcases s.dom b h1 with h2 | h2
        · exact .inl h2
        · have := he.next; exact .inr ⟨h2.1, by omega⟩
      · have := s.ext.next; exact .inr ⟨by omega, h1.2⟩⟩
  refine ⟨fun f _ => trivial, ?_⟩
  unfold stepA at hv
  split at hv
  · rename_i f args ats hop
    unfold onFn at hv
    split at hv
    · rename_i g caps hg
      obtain ⟨x, h', ⟨hcall, hF⟩, hk⟩ := hv
      have hclo := R_aev s.rl f
      rw [hg] at hclo
      have hsem : (o.semAt (Fr r).round a.eval) = execOp a.eval o := Oper.semAt_eq _ _ _ (by rw [hop]; simp)
      rw [hsem]
      generalize hav : a.eval f = fv at hclo
      cases hclo with
      | clo hs hh =>
        rename_i cs
        have hrun : (execOp a.eval o).run P w = .ok (.enter g (args.map a.eval ++ cs)) w := by
          unfold execOp
          rw [hop]
          have hfn : ∃ fn b, P.funcs[g]? = some fn ∧ fn.name ≠ "runtime.NumGoroutine" ∧ fn.body = some b := by
            unfold callable at hcall
            cases hf : P.funcs[g]? with
            | none => simp [hf] at hcall
            | some fn =>
              simp only [hf, Bool.and_eq_true, bne_iff_ne, ne_eq] at hcall
              obtain ⟨b, hb⟩ := Option.isSome_iff_exists.1 hcall.2
              exact ⟨fn, b, rfl, by simpa using hcall.1, hb⟩
          obtain ⟨fn, b, e1, e2, e3⟩ := hfn
          simp [resolve, hav, Deferred.ofValue, invoke, callFunc, e1, e2, e3]
        rw [hrun]
        refine ⟨fun hd => by simp [Fr, Fence.wide] at hd, ?_⟩
        have hm := RL_map s.rl args
        refine CallsIn_Fr ((hF (n - 1) c D w (args.map a.eval ++ cs) s.rel (s.fresh hf0) ⟨by simp [hs], fun i y u h1 h2 => ?_⟩).mono ?_)
        · rw [Array.getElem?_append] at h2
          split at h2
          · rename_i hi
            rw [List.getElem?_append_left (by simpa using hi)] at h1
            exact hm.2 i y u h1 h2
          · rename_i hi
            rw [List.getElem?_append_right (by simpa using hi)] at h1
            simp only [List.length_map, Array.length_toList, Array.size_map] at h1 h2
            exact hh _ y u h1 h2
        · rintro e w' ⟨v, c', D', rfl, h2, h3, h4, h5⟩
          exact go h2 h3 h4 h5 hk
    · rename_i b hg
      obtain ⟨x, h', hR, hk⟩ := hv
      have hyl := R_aev s.rl f
      rw [hg] at hyl
      have hsem : (o.semAt (Fr r).round a.eval) = execOp a.eval o := Oper.semAt_eq _ _ _ (by rw [hop]; simp)
      rw [hsem]
      generalize hav : a.eval f = fv at hyl
      cases hyl with
      | yld hb =>
        obtain ⟨fn, tmps, assign, body, hy, hround⟩ := hR (n - 1) c D w (args.map a.eval) s.rel hb (s.fresh hf0) (RL_map s.rl args)
        have hrun : (execOp a.eval o).run P w = .ok (.round (c.φ b) fn tmps assign body) w := by
          unfold execOp
          rw [hop]
          simp [resolve, hav, Deferred.ofValue, invoke, hy]
        rw [hrun]
        refine ⟨fun hd => by simp [Fr, Fence.wide] at hd, ?_⟩
        refine RoundIn_Fr (hround.mono ?_)
        rintro e w' ⟨v, c', D', rfl, h2, h3, h4, h5⟩
        exact go h2 h3 h4 h5 hk
    · exact hv.elim
  · rename_i hnc
    unfold onSome at hv
    split at hv
    · rename_i rr hrr
      unfold stepV pickV at hrr
      split at hrr
      · rename_i x hx
        cases hrr
        obtain ⟨v, h1, h2⟩ := pop_sound hx s.rel s.rl
        have hsem : (o.semAt (Fr r).round a.eval) = execOp a.eval o := Oper.semAt_eq _ _ _ (by
          intro cc hcc; unfold pop at hx; rw [hcc] at hx; simp at hx)
        rw [hsem, h1]
        exact go h2 s.rel (Ext.refl _ _ _ _) (fun b hb => .inl hb) hv
      · obtain ⟨v, w', c', D', h1, h2, h3, h4, h5⟩ := eop_sound hrr s.rel (s.fresh hf0 _ (Nat.le_refl _)) s.rl
        have hsem : (o.semAt (Fr r).round a.eval) = execOp a.eval o := Oper.semAt_eq _ _ _ (by
          intro cc hcc; unfold eop at hrr; rw [hcc] at hrr; simp at hrr)
        rw [hsem]
        rcases h1 with h1 | ⟨h1, rfl⟩
        · rw [h1]; exact go h2 h3 h4 h5 hv
        · rw [h1]; exact go h2 h3 h4 h5 hv
    · exact hv.elim

theorem ops_sound {all : Array Oper} {Q : Exit → List AV → H → Prop} : ∀ (l : List Oper) (k : Nat) (ρ : List AV) (h : H) (a : Act) (w : World) (c : Cx) (D : Nat → Prop), (∀ j, l[j]? = all[k + j]?) → vcOps P md all (Q .normal) l ρ h → St D0 h0 c0 w0 ρ h a w c D →
    wpOpsIn (Fr r) n P all (Post D0 h0 c0 w0 Q) (List.range' k l.length) a w
  | [], k, ρ, h, a, w, c, D, _, hv, s => ⟨ρ, h, c, D, hv, s⟩
  | o :: l, k, ρ, h, a, w, c, D, hl, hv, s => by
    have h0' : all[k]? = some o := by simpa using (hl 0).symm
    have hl' : ∀ j, l[j]? = all[k + 1 + j]? := fun j => by have := hl (j + 1); simpa [Nat.add_assoc, Nat.add_comm 1 j] using this
    simp only [List.length_cons, List.range'_succ, wpOpsIn, h0']
    have skip : ∀ {want : Bool} {j : Nat}, vcOps P md all (Q .normal) l (putA ρ o.dst (.val undef)) h → wpOpsIn (Fr r) n P all (Post D0 h0 c0 w0 Q) (List.range' (k + 1) l.length) (a.put o.dst undef) w := fun hv =>
      ops_sound l (k + 1) _ h _ w c D hl' hv ⟨s.rel, RL_put o.dst s.rl (.val undef), s.ext, s.defers.put _ _, s.dom⟩
    have run : stepA P md o (vcOps P md all (Q .normal) l) ρ h → o.wpIn (Fr r) n P a w (wpOpsIn (Fr r) n P all (Post D0 h0 c0 w0 Q) (List.range' (k + 1) l.length)) (Post D0 h0 c0 w0 Q) := fun hv =>
      step_sound hf0 hv s fun ρ h a w c D hv s => ops_sound l (k + 1) ρ h a w c D hl' hv s
    simp only [vcOps] at hv
    split at hv
    · rename_i hg
      rw [if_pos (by simp [Region.wanted, hg])]
      exact run hv
    · rename_i j want hg
      unfold onSome at hv
      split at hv
      · rename_i d hd
        unfold onBool ifB at hv
        have hy : ∀ v, a.tmps[d]? = some v → yielded all a.tmps j = (match v with | .bool b => some b | _ => none) := fun v hv => by
          unfold yielded; rw [hd]; simp only [Option.bind_some, hv]; cases v <;> rfl
        have hy0 : a.tmps[d]? = none → yielded all a.tmps j = none := fun hv => by
          unfold yielded; rw [hd]; simp [hv]
        have hslot : ∀ x, ρ.getD d (.val undef) = x → (∃ v, a.tmps[d]? = some v ∧ R c w D x v) ∨ (a.tmps[d]? = none ∧ x = .val undef) := fun x hx => by
          by_cases hdl : d < ρ.length
          · have hdl' : d < a.tmps.size := by rw [s.rl.1]; exact hdl
            refine .inl ⟨a.tmps[d], Array.getElem?_eq_getElem hdl', ?_⟩
            have h1 := List.getElem?_eq_getElem hdl
            have hx' : ρ[d] = x := by simpa [List.getD, h1] using hx
            rw [← hx']
            exact s.rl.2 d _ _ h1 (Array.getElem?_eq_getElem hdl')
          · have hdl' : ¬ d < a.tmps.size := by rw [s.rl.1]; exact hdl
            refine .inr ⟨Array.getElem?_eq_none (Nat.le_of_not_lt hdl'), ?_⟩
            rw [← hx]; simp [List.getD, List.getElem?_eq_none (Nat.le_of_not_lt hdl)]
        split at hv
        · rename_i b hb
          have hv1 : b = want → stepA P md o (vcOps P md all (Q .normal) l) ρ h := fun e => by rw [if_pos (by simp [e])] at hv; subst e; rwa [set_same hb] at hv
          have hv2 : b = !want → vcOps P md all (Q .normal) l (putA ρ o.dst (.val undef)) h := fun e => by rw [if_neg (by subst e; cases want <;> simp)] at hv; rw [← e, set_same hb] at hv; exact hv
          rcases hslot _ hb with ⟨v, e1, e2⟩ | ⟨_, e2⟩
          · cases e2
            have hw : Region.wanted o (yielded all a.tmps) = (b == want) := by simp [Region.wanted, hg, hy _ e1]
            rw [hw]
            by_cases hbw : b = want
            · rw [if_pos (by simp [hbw])]; exact run (hv1 hbw)
            · rw [if_neg (by simp [hbw])]
              exact ⟨fun f _ => trivial, skip (want := want) (j := j) (hv2 (by cases b <;> cases want <;> simp_all))⟩
          · cases e2
        · rename_i tt hb
          have hw : Region.wanted o (yielded all a.tmps) = false := by
            rcases hslot _ hb with ⟨v, e1, e2⟩ | ⟨e1, _⟩
            · cases e2; simp [Region.wanted, hg, hy _ e1]
            · simp [Region.wanted, hg, hy0 e1]
          rw [hw]
          exact ⟨fun f _ => trivial, skip (want := want) (j := j) hv⟩
        · exact hv.elim
      · exact hv.elim

end

end Go.Pe
