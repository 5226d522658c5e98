import Derived.Test.YtffckclggkjbgaaGreatY14
set_option linter.unusedVariables false
set_option linter.unusedSimpArgs false
/- A program that runs on known values: what a function comes to is computed, and so it is. -/
namespace Go.Pe
open Go

theorem Fn.freeze2 {P : Program} {f : FuncId} {args : List AV} {h h' hh : H} {x y : AV} {k : Nat} (h1 : Fn P f args h y hh) (hn : h'.next = h.next) (h2 : frz k hh h.next y = some x)
    (h3 : ∀ b cs, h'.get b = some cs → (∃ ds k, hh.get b = some ds ∧ b < h.next ∧ ds.mapM (frz k hh h.next) = some cs) ∨ (h.get b = some cs ∧ (hh.get b = some cs ∨ h.next ≤ b))) (h4 : ∀ b, h'.lp b = none) : Fn P f args h x h' := by
  refine ⟨h1.1, fun n c D w vs hr hfr hargs => (h1.2 n c D w vs hr hfr hargs).mono ?_⟩
  have live := live_of hr hfr
  rintro e w' ⟨v, c', D', rfl, g1, g2, g3, g4⟩
  obtain ⟨q1, q2, q3⟩ := frz_post (h' := h') g1 g2 g3 g4 hn h2 (fun b cs hb => by
    rcases h3 b cs hb with e1 | ⟨e1, e2⟩
    · exact e1
    · obtain ⟨l1, l2⟩ := live.1 b cs e1
      rcases e2 with e2 | e2
      · obtain ⟨k', l3⟩ := l2 hh
        exact ⟨cs, k', e2, l1, l3⟩
      · omega) (fun b r hb => by rw [h4] at hb; cases hb)
  exact ⟨v, _, D, rfl, q1, q2, q3, fun b hb => .inl hb⟩

/-- What a call has turned, made to be read alone. -/
def frzTop (hh : H) (N : Nat) : Cells → Option Cells
  | [] => some []
  | (b, c) :: l => bif Nat.blt b N then (match c with
      | some cs => match cs.mapM (frz 30 hh N), frzTop hh N l with
        | some cs', some l' => some ((b, some cs') :: l')
        | _, _ => none
      | none => match frzTop hh N l with
        | some l' => some ((b, none) :: l')
        | none => none)
    else frzTop hh N l

theorem frzTop_look {hh : H} {N : Nat} {rest : Cells} {b : Nat} {cs' : List AV} : ∀ {top pre : Cells}, frzTop hh N top = some pre → look b (pre ++ rest) = some cs' →
    (∃ cs, look b (top ++ rest) = some cs ∧ b < N ∧ cs.mapM (frz 30 hh N) = some cs') ∨ (look b rest = some cs' ∧ (look b (top ++ rest) = some cs' ∨ N ≤ b))
  | [], pre, h, hl => by cases h; exact .inr ⟨hl, .inl hl⟩
  | (q, c) :: l, pre, h, hl => by
    unfold frzTop at h
    cases hq : Nat.blt q N with
    | true =>
      have hqN : q < N := by simpa [Nat.blt_eq] using hq
      rw [hq] at h
      simp only [cond_true] at h
      cases c with
      | none =>
        simp only at h
        split at h
        · rename_i l' hl'
          cases h
          simp only [List.cons_append, look_cons] at hl ⊢
          split at hl
          · cases hl
          · rename_i hb
            rw [if_neg hb]
            exact frzTop_look hl' hl
        · cases h
      | some cs =>
        simp only at h
        split at h
        · rename_i cs1 l' h1 hl'
          cases h
          simp only [List.cons_append, look_cons] at hl ⊢
          split at hl
          · rename_i hb
            cases hl
            rw [if_pos hb]
            exact .inl ⟨cs, rfl, by omega, h1⟩
          · rename_i hb
            rw [if_neg hb]
            exact frzTop_look hl' hl
        · cases h
    | false =>
      have hqN : N ≤ q := by
        have : ¬ q < N := fun h => by have : Nat.blt q N = true := by simpa [Nat.blt_eq] using h
                                      rw [hq] at this; cases this
        omega
      rw [hq] at h
      simp only [cond_false] at h
      simp only [List.cons_append, look_cons]
      rcases frzTop_look h hl with ⟨cs, h1, h2, h3⟩ | ⟨h1, h2⟩
      · rw [if_neg (by omega)]; exact .inl ⟨cs, h1, h2, h3⟩
      · refine .inr ⟨h1, ?_⟩
        by_cases hb : b = q
        · exact .inr (by omega)
        · rw [if_neg hb]; exact h2

def isEnd : Exit → Bool
  | .normal => true
  | .ret => true
  | _ => false
theorem isEnd_or {e : Exit} (h : isEnd e = true) : e = .normal ∨ e = .ret := by cases e <;> simp_all [isEnd]

section
variable (P : Program) (kp : List Nat) (E : Option Nat → Cells → Code → List AV → Sx → Option (Exit × List AV × Sx))

def finF (fz : Bool) (base : Cells) (s s2 : Sx) (y : AV) : AV × Sx :=
  match s.lps, fz with
  | [], true => match frz 30 (s2.h (s.top ++ base)) s.next y, frzTop (s2.h (s.top ++ base)) s.next s2.top with
    | some x, some pre => (x, { next := s.next, top := pre ++ s.top, lps := [] })
    | _, _ => (y, { next := s2.next, top := s2.top ++ s.top, lps := s2.lps })
  | _, _ => (y, { next := s2.next, top := s2.top ++ s.top, lps := s2.lps })

def callF (base : Cells) (g : FuncId) (args : List AV) (s : Sx) : Option (AV × Sx) :=
  bif callable P g then
    match P.funcs[g]? with
    | some fn => match fn.body with
      | some code => match E none (s.top ++ base) code (args ++ List.replicate (fn.ntmps - args.length) (.val undef)) { next := s.next, top := [], lps := s.lps } with
        | some (e, ρ', s2) => bif isEnd e then (match resA P fn.results ρ' (s2.h (s.top ++ base)) with
            | some y => some (finF (!kp.contains g) base s s2 y)
            | none => none) else none
        | none => none
      | none => none
    | none => none
  else none

def endY (b : Nat) (s2 : Sx) (r2 : Lp) : Exit → Option (AV × Sx)
  | .normal => some (.val (.bool true), { s2 with lps := (b, some { r2 with st := .ready, pend := none }) :: s2.lps })
  | .ret => some (.val (.bool false), { s2 with lps := (b, some { r2 with st := .done, pend := some .ret }) :: s2.lps })
  | .exit id => some (.val (.bool false), { s2 with lps := (b, some { r2 with st := .done, pend := some (.exit id) }) :: s2.lps })
  | _ => none
def isReady : LoopState → Bool
  | .ready => true
  | _ => false
def callY (base : Cells) (b : Nat) (args : List AV) (s : Sx) : Option (AV × Sx) :=
  match look b s.lps with
  | some r => bif isReady r.st && Nat.beq args.length r.ps.size then
      (match E (some b) base r.assign (putPs r.ρ r.ps.toList args) s with
      | some (.normal, ρ1, s1) => match look b s1.lps with
        | some r1 => bif isReady r1.st then (match E (some b) base r.body ρ1 { s1 with lps := (b, some { r1 with st := .busy }) :: s1.lps } with
            | some (e, ρ2, s2) => match look b s2.lps with
              | some r2 => endY b s2 r2 e
              | none => none
            | none => none) else none
        | none => none
      | _ => none) else none
  | none => none

def callA (base : Cells) (x : AV) (args : List AV) (s : Sx) : Option (AV × Sx) :=
  match x with
  | .clo g caps => callF P kp E base g (args ++ caps) s
  | .yld b => callY E base b args s
  | _ => none

def SoundE : Prop := ∀ rd base code ρ s e ρ' s', E rd base code ρ s = some (e, ρ', s') → ∀ Q : Exit → List AV → H → Prop, Q e ρ' (s'.h base) → vcE P (fun _ => true) rd code Q ρ (s.h base)

variable {P} {kp} {E}
theorem callF_sound (hE : SoundE P E) {base : Cells} {g : FuncId} {args : List AV} {s s' : Sx} {y : AV} (h : callF P kp E base g args s = some (y, s')) : Fn P g args (s.h base) y (s'.h base) := by
  unfold callF at h
  rw [cond_eq_ite] at h
  split at h
  · rename_i hcall
    split at h
    · rename_i fn hf
      split at h
      · rename_i code hb
        split at h
        · rename_i e ρ' s2 hev
          rw [cond_eq_ite] at h
          split at h
          · rename_i hend
            split at h
            · rename_i z hz
              have hall : Fn P g args (s.h base) z (s2.h (s.top ++ base)) := Fn.of_vcE (fun _ => true) hcall hf hb (hE _ _ _ _ _ _ _ _ hev _ ⟨isEnd_or hend, hz, rfl⟩)
              have hun : ({ next := s2.next, top := s2.top ++ s.top, lps := s2.lps } : Sx).h base = s2.h (s.top ++ base) := by simp only [Sx.h, List.append_assoc]
              have h' := Option.some.inj h
              clear h
              unfold finF at h'
              split at h'
              · split at h'
                · rename_i x pre hx hpre
                  cases h'
                  refine Fn.freeze2 hall rfl hx (fun b cs hb => ?_) (fun b => rfl)
                  simp only [Sx.h, List.append_assoc] at hb ⊢
                  rcases frzTop_look hpre hb with ⟨ds, g1, g2, g3⟩ | ⟨g1, g2⟩
                  · exact .inl ⟨ds, 30, g1, g2, g3⟩
                  · exact .inr ⟨g1, g2⟩
                · cases h'; rw [hun]; exact hall
              · cases h'; rw [hun]; exact hall
            · cases h
          · cases h
        · cases h
      · cases h
    · cases h
  · cases h

theorem lset_h {base : Cells} {s : Sx} {b : Nat} {r : Option Lp} : ({ s with lps := (b, r) :: s.lps } : Sx).h base = (s.h base).lset b r := by
  simp only [Sx.h, H.lset]
  congr 1
  funext q
  rw [look_cons]

theorem callY_sound (hE : SoundE P E) {base : Cells} {b : Nat} {args : List AV} {s s' : Sx} {y : AV} (h : callY E base b args s = some (y, s')) : Rd P b args (s.h base) y (s'.h base) := by
  unfold callY at h
  split at h
  · rename_i r hr
    rw [cond_eq_ite] at h
    split at h
    · rename_i hc
      simp only [Bool.and_eq_true] at hc
      split at h
      · rename_i ρ1 s1 hev1
        split at h
        · rename_i r1 hr1
          rw [cond_eq_ite] at h
          split at h
          · rename_i hrd1
            split at h
            · rename_i e ρ2 s2 hev2
              split at h
              · rename_i r2 hr2
                refine Rd.of_vcE (fun _ => true) (r := r) hr (Nat.eq_of_beq_eq_true hc.2) (hE _ _ _ _ _ _ _ _ hev1 _ ⟨rfl, r1, hr1, by cases hst : r1.st <;> simp_all [isReady], ?_⟩)
                rw [← lset_h]
                refine hE _ _ _ _ _ _ _ _ hev2 _ ⟨r2, hr2, ?_⟩
                cases e with
                | normal => cases h; exact ⟨rfl, lset_h⟩
                | ret => cases h; exact ⟨rfl, lset_h⟩
                | exit id => cases h; exact ⟨rfl, lset_h⟩
                | _ => cases h
              · cases h
            · cases h
          · cases h
        · cases h
      · cases h
    · cases h
  · cases h

theorem callA_ok (hE : SoundE P E) : CallOK (callA P kp E) P := by
  intro base x args s y s' h
  unfold callA at h
  split at h
  · exact .inl ⟨_, _, rfl, callF_sound hE h⟩
  · exact .inr ⟨_, rfl, callY_sound hE h⟩
  · cases h
end

def okRd (rd : Option Nat) (s : Sx) : Bool := match rd with | none => true | some b => (look b s.lps).isSome
def isBusy : LoopState → Bool
  | .busy => true
  | _ => false
def jumpE (ρ : List AV) (s : Sx) : Option Code → Option (Exit × List AV × Sx)
  | none => some (.normal, ρ, s)
  | some .ret => some (.ret, ρ, s)
  | some (.exit id) => some (.exit id, ρ, s)
  | _ => none

/-- CODE THAT RUNS. -/
def ev (P : Program) (kp : List Nat) : Nat → Option Nat → Cells → Code → List AV → Sx → Option (Exit × List AV × Sx)
  | 0, _, _, _, _, _ => none
  | n + 1, rd, base, code, ρ, s =>
    match code with
    | .skip => some (.normal, ρ, s)
    | .region _ ops draw => bif draw then (match evDraw (callA P kp (ev P kp n)) P base ops ρ s with
        | some (ρ', s') => some (.normal, ρ', s')
        | none => none)
      else (match evOps (callA P kp (ev P kp n)) P base ops ops.toList ρ s with
        | some (ρ', s') => some (.normal, ρ', s')
        | none => none)
    | .seq x y => match ev P kp n rd base x ρ s with
      | some (.normal, ρ', s') => ev P kp n rd base y ρ' s'
      | r => r
    | .cond c x y => match aev ρ c with
      | .val (.bool b) => bif b then ev P kp n rd base x ρ s else ev P kp n rd base y ρ s
      | _ => none
    | .block id x => match ev P kp n rd base x ρ s with
      | some (.exit id', ρ', s') => bif Nat.beq id' id then some (.normal, ρ', s') else some (.exit id', ρ', s')
      | r => r
    | .loop x => match ev P kp n rd base x ρ s with
      | some (.normal, ρ', s') => ev P kp n rd base (.loop x) ρ' s'
      | r => r
    | .rangeFunc g ps assign body => match aev ρ g with
      | .clo gf caps => bif okRd rd s then (match callF P kp (ev P kp n) base gf (.yld s.next :: caps) { next := s.next + 1, top := s.top, lps := (s.next, some { ρ := ρ, ps := ps, assign := assign, body := body, st := .ready, pend := none }) :: s.lps } with
          | some (_, s2) => match look s.next s2.lps with
            | some r => bif isBusy r.st then none else jumpE ρ { s2 with lps := s2.lps.filter (fun p => p.1 != s.next) } r.pend
            | none => none
          | none => none) else none
      | _ => none
    | .exit id => some (.exit id, ρ, s)
    | .ret => some (.ret, ρ, s)
    | _ => none

theorem ev_sound (P : Program) (kp : List Nat) : ∀ n, SoundE P (ev P kp n) := by
  intro n
  induction n using Nat.strongRecOn with
  | _ n ih =>
    intro rd base code ρ s e ρ' s' h Q hq
    cases n with
    | zero => simp [ev] at h
    | succ n =>
      have ihn := ih n (Nat.lt_succ_self n)
      have hC := callA_ok (kp := kp) ihn
      unfold ev at h
      cases code with
      | skip => cases h; exact hq
      | region id ops draw =>
        cases draw with
        | true =>
          simp only [cond_true] at h
          split at h
          · rename_i ρ1 s1 hd; cases h
            obtain ⟨q1, q2, ct, q3, q4⟩ := evDraw_sound (Q := Q .normal) hC hd hq
            exact ⟨q1, q2, ct, q3, ops.size, q4.tail⟩
          · cases h
        | false =>
          simp only [cond_false] at h
          split at h
          · rename_i ρ1 s1 hd; cases h; exact evOps_sound (Q := Q .normal) hC ops.toList ρ s _ _ hd hq
          · cases h
      | seq x y =>
        simp only at h
        split at h
        · rename_i ρ1 s1 h1
          exact ihn _ _ _ _ _ _ _ _ h1 _ (ihn _ _ _ _ _ _ _ _ h Q hq)
        · rename_i r hne
          refine ihn _ _ _ _ _ _ _ _ h _ ?_
          cases e with
          | normal => exact (hne _ _ h).elim
          | _ => exact hq
      | cond c x y =>
        simp only at h
        simp only [vcE]
        split at h
        · rename_i b hb
          rw [hb]
          cases b with
          | true => exact ihn _ _ _ _ _ _ _ _ h Q hq
          | false => exact ihn _ _ _ _ _ _ _ _ h Q hq
        · cases h
      | block id x =>
        simp only at h
        split at h
        · rename_i id' ρ1 s1 h1
          rw [cond_eq_ite] at h
          refine ihn _ _ _ _ _ _ _ _ h1 _ ?_
          simp only
          split at h
          · rename_i hb; cases h; rw [if_pos (Nat.eq_of_beq_eq_true hb)]; exact hq
          · rename_i hb; cases h; rw [if_neg (fun he => hb (by rw [he]; exact Nat.beq_refl id))]; exact hq
        · rename_i r hne
          refine ihn _ _ _ _ _ _ _ _ h _ ?_
          cases e with
          | exit id' => exact (hne _ _ _ h).elim
          | _ => exact hq
      | loop x =>
        refine ⟨fun j ρ h => ∃ s1, h = s1.h base ∧ j ≤ n + 1 ∧ ev P kp j rd base (.loop x) ρ s1 = some (e, ρ', s'), ⟨n + 1, s, rfl, Nat.le_refl _, by unfold ev; exact h⟩, ?_⟩
        rintro j ρ0 h0 ⟨s1, rfl, hj, hev⟩
        cases j with
        | zero => simp [ev] at hev
        | succ j =>
          have ihj := ih j (by omega)
          unfold ev at hev
          simp only at hev
          split at hev
          · rename_i ρ1 s2 h1
            exact ihj _ _ _ _ _ _ _ _ h1 _ ⟨j, Nat.lt_succ_self j, s2, rfl, by omega, hev⟩
          · rename_i r hne
            refine ihj _ _ _ _ _ _ _ _ hev _ ?_
            cases e with
            | normal => exact (hne _ _ hev).elim
            | _ => exact hq
      | rangeFunc g ps assign body =>
        simp only at h
        simp only [vcE, Ranged]
        split at h
        · rename_i gf caps hg
          rw [cond_eq_ite] at h
          split at h
          · rename_i hrd
            split at h
            · rename_i x s2 hcall
              split at h
              · rename_i r hr
                rw [cond_eq_ite] at h
                split at h
                · cases h
                · rename_i hbusy
                  rw [hg]
                  have hopen : ({ next := s.next + 1, top := s.top, lps := (s.next, some { ρ := ρ, ps := ps, assign := assign, body := body, st := .ready, pend := none }) :: s.lps } : Sx).h base = (s.h base).opn ρ ps assign body := by
                    simp only [Sx.h, H.opn]
                    congr 1
                    funext q
                    rw [look_cons]; rfl
                  have hF := callF_sound (kp := kp) ihn hcall
                  rw [hopen] at hF
                  refine ⟨?_, x, _, r, hF, hr, fun hs => hbusy (by rw [hs]; rfl), ?_⟩
                  · unfold rdOk; unfold okRd at hrd
                    cases rd with
                    | none => trivial
                    | some b => exact hrd
                  · have hclose : ({ s2 with lps := s2.lps.filter (fun p => p.1 != s.next) } : Sx).h base = (s2.h base).lset s.next none := by
                      simp only [Sx.h, H.lset]
                      congr 1
                      funext q
                      rw [look_filter]
                    show jumped Q r.pend ρ ((s2.h base).lset s.next none)
                    rw [← hclose]
                    unfold jumped
                    cases hp : r.pend with
                    | none => rw [hp] at h; cases h; exact hq
                    | some c =>
                      rw [hp] at h
                      cases c with
                      | ret => cases h; exact hq
                      | exit id => cases h; exact hq
                      | _ => cases h
              · cases h
            · cases h
          · cases h
        · cases h
      | exit id => cases h; exact hq
      | ret => cases h; exact hq
      | scope _ => cases h
      | label _ => cases h
      | goto _ => cases h
      | refuse _ => cases h

/-- A FUNCTION ON KNOWN VALUES. -/
def run (P : Program) (kp : List Nat) (n : Nat) (f : FuncId) (args : List AV) : Option AV := (callF P kp (ev P kp n) [] f args { next := 0, top := [], lps := [] }).map (·.1)

theorem Fn.of_run {P : Program} {kp : List Nat} {n : Nat} {f : FuncId} {args : List AV} {v : Value} (h : run P kp n f args = some (.val v)) : ∃ h', Fn P f args .nil (.val v) h' := by
  unfold run at h
  obtain ⟨⟨y, s'⟩, h1, h2⟩ := Option.map_eq_some_iff.1 h
  simp only at h2
  subst h2
  exact ⟨_, callF_sound (ev_sound P kp n) h1⟩
/-- What comes back is a plain value: nothing else is left. -/
theorem Fn.plain {P : Program} {f : FuncId} {args : List AV} {v : Value} {h' : H} (h : Fn P f args .nil (.val v) h') : Fn P f args .nil (.val v) .nil :=
  Fn.freeze (k := 1) h rfl rfl (fun b cs hb => by simp [H.nil] at hb) (fun b r hb => by simp [H.nil] at hb)

end Go.Pe

/- A function on known values, with all that it returns. -/
namespace Go.Pe
open Go
def runF (P : Program) (kp : List Nat) (n k : Nat) (f : FuncId) (args : List AV) : Option AV := (callF P kp (ev P kp n) [] f args { next := 0, top := [], lps := [] }).bind fun p => frz k (p.2.h []) 0 p.1
theorem Fn.of_runF {P : Program} {kp : List Nat} {n k : Nat} {f : FuncId} {args : List AV} {x : AV} (h : runF P kp n k f args = some x) : Fn P f args .nil x .nil := by
  unfold runF at h
  obtain ⟨⟨y, s'⟩, h1, h2⟩ := Option.bind_eq_some_iff.1 h
  exact Fn.freeze (callF_sound (ev_sound P kp n) h1) rfl h2 (fun b cs hb => by simp [H.nil] at hb) (fun b r hb => by simp [H.nil] at hb)
theorem Fn.of_runS {P : Program} {kp : List Nat} {n k : Nat} {f : FuncId} {args : List AV} (h : (runF P kp n k f args).isSome = true) : Fn P f args .nil ((runF P kp n k f args).getD (.val undef)) .nil := by
  obtain ⟨x, hx⟩ := Option.isSome_iff_exists.1 h
  rw [hx]
  exact Fn.of_runF hx
end Go.Pe

/- A faster evaluator of code on known values, first part: slots and memory are trees. -/
namespace Go.Pe
open Go

/-- A tree with 2^d leaves. -/
def T (α : Type) : Nat → Type
  | 0 => α
  | d + 1 => T α d × T α d
/-- One of two, by a truth: a single step of the kernel. -/
noncomputable abbrev bsel {α : Type} (b : Bool) (x y : α) : α := Bool.rec (motive := fun _ => α) y x b
theorem bsel_eq {α : Type} {b : Bool} {x y : α} : bsel b x y = cond b x y := by cases b <;> rfl
noncomputable def T.get {α : Type} (d : Nat) : T α d → Nat → α :=
  Nat.rec (motive := fun d => T α d → Nat → α) (fun x _ => x) (fun d ih t i => Prod.rec (motive := fun _ => α) (fun a b => Bool.rec (motive := fun _ => α) (ih b (Nat.div i 2)) (ih a (Nat.div i 2)) (Nat.beq (Nat.mod i 2) 0)) t) d
noncomputable def T.set {α : Type} (d : Nat) : T α d → Nat → α → T α d :=
  Nat.rec (motive := fun d => T α d → Nat → α → T α d) (fun _ _ v => v) (fun d ih t i v => Prod.rec (motive := fun _ => T α d × T α d) (fun a b => Bool.rec (motive := fun _ => T α d × T α d) (a, ih b (Nat.div i 2) v) (ih a (Nat.div i 2) v, b) (Nat.beq (Nat.mod i 2) 0)) t) d
noncomputable def T.all {α : Type} (x : α) (d : Nat) : T α d := Nat.rec (motive := fun d => T α d) x (fun _ t => (t, t)) d

theorem T.get_zero {α : Type} {t : T α 0} {i : Nat} : T.get 0 t i = t := rfl
theorem T.get_succ {α : Type} {d : Nat} {t : T α (d + 1)} {i : Nat} : T.get (d + 1) t i = cond (Nat.beq (Nat.mod i 2) 0) (T.get d (Prod.fst t) (Nat.div i 2)) (T.get d (Prod.snd t) (Nat.div i 2)) := by
  show Bool.rec (motive := fun _ => α) (T.get d (Prod.snd t) (Nat.div i 2)) (T.get d (Prod.fst t) (Nat.div i 2)) (Nat.beq (Nat.mod i 2) 0) = _
  cases Nat.beq (Nat.mod i 2) 0 <;> rfl
theorem T.set_succ {α : Type} {d : Nat} {t : T α (d + 1)} {i : Nat} {v : α} : T.set (d + 1) t i v = cond (Nat.beq (Nat.mod i 2) 0) (T.set d (Prod.fst t) (Nat.div i 2) v, Prod.snd t) (Prod.fst t, T.set d (Prod.snd t) (Nat.div i 2) v) := by
  show Bool.rec (motive := fun _ => T α d × T α d) (Prod.fst t, T.set d (Prod.snd t) (Nat.div i 2) v) (T.set d (Prod.fst t) (Nat.div i 2) v, Prod.snd t) (Nat.beq (Nat.mod i 2) 0) = _
  cases Nat.beq (Nat.mod i 2) 0 <;> rfl
theorem T.get_all {α : Type} {x : α} : ∀ (d i : Nat), T.get d (T.all x d) i = x
  | 0, i => rfl
  | d + 1, i => by
    rw [T.get_succ]
    show cond _ (T.get d (T.all x d) _) (T.get d (T.all x d) _) = x
    rw [T.get_all d, Bool.cond_self]
theorem beq_mod {i : Nat} : Nat.beq (Nat.mod i 2) 0 = decide (i % 2 = 0) := by
  show ((i % 2).beq 0) = _
  cases h : i % 2 with
  | zero => rfl
  | succ k => rfl
theorem T.get_set {α : Type} : ∀ (d : Nat) (t : T α d) (i j : Nat) (v : α), T.get d (T.set d t i v) j = if i % 2 ^ d = j % 2 ^ d then v else T.get d t j
  | 0, t, i, j, v => by
    rw [if_pos (by simp [Nat.mod_one])]; rfl
  | d + 1, t, i, j, v => by
    rw [T.get_succ, T.set_succ, T.get_succ]
    simp only [beq_mod]
    have hi : i % 2 ^ (d + 1) = i % 2 + 2 * (i / 2 % 2 ^ d) := by rw [Nat.pow_succ', Nat.mod_mul]
    have hj : j % 2 ^ (d + 1) = j % 2 + 2 * (j / 2 % 2 ^ d) := by rw [Nat.pow_succ', Nat.mod_mul]
    have hd : ∀ n, Nat.div n 2 = n / 2 := fun _ => rfl
    simp only [hd]
    have h2 := Nat.mod_lt i (y := 2) (by omega)
    have h3 := Nat.mod_lt j (y := 2) (by omega)
    by_cases a : i % 2 = 0 <;> by_cases b : j % 2 = 0
    · simp only [a, b, decide_true, cond_true]
      rw [T.get_set d]
      by_cases c : i / 2 % 2 ^ d = j / 2 % 2 ^ d
      · rw [if_pos c, if_pos (by omega)]
      · rw [if_neg c, if_neg (by omega)]
    · simp only [a, b, decide_true, decide_false, cond_true, cond_false]
      rw [if_neg (by omega)]
    · simp only [a, b, decide_true, decide_false, cond_true, cond_false]
      rw [if_neg (by omega)]
    · simp only [a, b, decide_false, cond_false]
      rw [T.get_set d]
      by_cases c : i / 2 % 2 ^ d = j / 2 % 2 ^ d
      · rw [if_pos c, if_pos (by omega)]
      · rw [if_neg c, if_neg (by omega)]

/-- How many slots there are, and how deep their tree is. -/
structure Lay where
  len : Nat
  dep : Nat
  ok : len ≤ 2 ^ dep
def layOf (n : Nat) : Lay := ⟨n, Nat.log2 n + 1, Nat.le_of_lt Nat.lt_log2_self⟩
abbrev Trv (L : Lay) := T AV L.dep
noncomputable def slots (L : Lay) (t : Trv L) : List AV := (List.range L.len).map (T.get L.dep t)
noncomputable def rdT (L : Lay) (t : Trv L) (i : Nat) : AV := bsel (Nat.blt i L.len) (T.get L.dep t i) (.val undef)
noncomputable def rdO (L : Lay) (t : Trv L) : Operand → AV
  | .tmp i => rdT L t i
  | .const v => ofV v
  | .global g => .val (.pointer (some ⟨g, 0, none⟩))
  | .func f => .clo f []
noncomputable def setT (L : Lay) (t : Trv L) (i : Nat) (x : AV) : Trv L := bsel (Nat.blt i L.len) (T.set L.dep t i x) t
noncomputable def putT (L : Lay) (t : Trv L) (dst : Option Nat) (x : AV) : Trv L :=
  match dst with
  | some d => setT L t d x
  | none => t
noncomputable def fillT (L : Lay) : List AV → Nat → Trv L → Trv L
  | [], _, t => t
  | x :: xs, i, t => fillT L xs (i + 1) (setT L t i x)
noncomputable def putPsT (L : Lay) : List Tmp → List AV → Trv L → Trv L
  | p :: ps, x :: xs, t => putPsT L ps xs (setT L t p x)
  | _, _, t => t

theorem blt_eq {i n : Nat} : Nat.blt i n = decide (i < n) := by
  cases h : Nat.blt i n with
  | true => simp [Nat.blt_eq] at h; simp [h]
  | false => have : ¬ i < n := fun hl => by have : Nat.blt i n = true := by simpa [Nat.blt_eq] using hl
                                            rw [h] at this; cases this
             simp [this]
theorem slots_get {L : Lay} {t : Trv L} {i : Nat} : (slots L t)[i]? = if i < L.len then some (T.get L.dep t i) else none := by
  unfold slots
  rw [List.getElem?_map]
  split
  · rename_i h; rw [List.getElem?_range h]; rfl
  · rename_i h; rw [List.getElem?_eq_none (by simpa using h)]; rfl
theorem slots_len {L : Lay} {t : Trv L} : (slots L t).length = L.len := by simp [slots]
theorem rdT_eq {L : Lay} {t : Trv L} {i : Nat} : rdT L t i = (slots L t).getD i (.val undef) := by
  unfold rdT
  rw [bsel_eq, List.getD_eq_getElem?_getD, slots_get, blt_eq]
  by_cases h : i < L.len <;> simp [h]
theorem rdO_eq {L : Lay} {t : Trv L} : rdO L t = aev (slots L t) := by
  funext x
  cases x with
  | tmp i => exact rdT_eq
  | const v => rfl
  | global g => rfl
  | func f => rfl
theorem setT_eq {L : Lay} {t : Trv L} {i : Nat} {x : AV} : slots L (setT L t i x) = (slots L t).set i x := by
  apply List.ext_getElem?
  intro j
  unfold setT
  rw [bsel_eq, blt_eq, List.getElem?_set, slots_len]
  by_cases hi : i < L.len
  · simp only [hi, decide_true, cond_true, if_true]
    rw [slots_get, slots_get, T.get_set]
    have h1 := L.ok
    by_cases hj : j < L.len
    · rw [if_pos hj, Nat.mod_eq_of_lt (by omega), Nat.mod_eq_of_lt (by omega)]
      by_cases hij : i = j
      · rw [if_pos hij, if_pos hij]
      · rw [if_neg hij, if_neg hij, if_pos hj]
    · rw [if_neg hj, if_neg hj, if_neg (by omega)]
  · simp only [hi, decide_false, cond_false, if_false]
    by_cases hij : i = j
    · subst hij; rw [slots_get, if_neg hi, if_pos rfl]
    · rw [if_neg hij]
theorem putT_eq {L : Lay} {t : Trv L} {dst : Option Nat} {x : AV} : slots L (putT L t dst x) = putA (slots L t) dst x := by
  cases dst with
  | none => rfl
  | some d => exact setT_eq
theorem fillT_get {L : Lay} : ∀ (xs : List AV) (i : Nat) (t : Trv L) (j : Nat), i + xs.length ≤ L.len → (slots L (fillT L xs i t))[j]? = if i ≤ j ∧ j < i + xs.length then xs[j - i]? else (slots L t)[j]?
  | [], i, t, j, _ => by rw [if_neg (by intro h; have := h.2; simp at this; omega)]; simp [fillT]
  | x :: xs, i, t, j, h => by
    simp only [List.length_cons] at h
    rw [fillT, fillT_get xs (i + 1) _ j (by omega), setT_eq, List.getElem?_set, slots_len]
    simp only [List.length_cons]
    by_cases h1 : i = j
    · subst h1
      rw [if_neg (by omega), if_pos rfl, if_pos (by omega), if_pos (by omega)]; simp
    · rw [if_neg h1]
      by_cases h2 : i + 1 ≤ j ∧ j < i + 1 + xs.length
      · rw [if_pos h2, if_pos (by omega), show j - i = (j - (i + 1)) + 1 by omega, List.getElem?_cons_succ]
      · rw [if_neg h2, if_neg (by omega)]
noncomputable def initT (L : Lay) (args : List AV) : Trv L := fillT L args 0 (T.all (.val undef) L.dep)
theorem initT_eq {args : List AV} {n : Nat} : slots (layOf (args.length + (n - args.length))) (initT (layOf (args.length + (n - args.length))) args) = args ++ List.replicate (n - args.length) (.val undef) := by
  apply List.ext_getElem?
  intro j
  unfold initT
  rw [fillT_get args 0 _ j (by simp [layOf])]
  rw [List.getElem?_append, slots_get]
  simp only [Nat.zero_le, true_and, Nat.zero_add, Nat.sub_zero]
  by_cases h1 : j < args.length
  · rw [if_pos h1, if_pos h1]
  · rw [if_neg h1, if_neg h1, T.get_all, List.getElem?_replicate]
    have e : (layOf (args.length + (n - args.length))).len = args.length + (n - args.length) := rfl
    by_cases h2 : j < args.length + (n - args.length)
    · rw [if_pos (by rw [e]; exact h2), if_pos (by omega)]
    · rw [if_neg (by rw [e]; exact h2), if_neg (by omega)]
theorem putPsT_eq {L : Lay} : ∀ (ps : List Tmp) (args : List AV) (t : Trv L), slots L (putPsT L ps args t) = putPs (slots L t) ps args
  | [], _, t => by simp [putPsT, putPs]
  | _ :: _, [], t => by simp [putPsT, putPs]
  | p :: ps, x :: xs, t => by
    rw [putPsT, putPsT_eq ps xs, setT_eq]
    simp [putPs]

/-- Operations, sorted once: what is left to do with the slots and the memory. -/
structure KP where
  run : (Operand → AV) → H → Option AV
structure KE where
  run : (Operand → AV) → H → Option (AV × H)
structure KT where
  run : (Operand → AV) → Nat → List Nat
structure KR where
  run : (Operand → AV) → List Nat
inductive Kd where
  | call (f : Operand) (args : List Operand)
  | eff
  | pur
def kdOf (o : Oper) : Kd := match o.op with
  | .call { callee := .value f, args, .. } => .call f args.toList
  | _ => bif effectful o.op then .eff else .pur
def popK (P : Program) (o : Oper) : KP := match o.op with
  | .move x => ⟨fun rd h => some (rd x)⟩
  | .assign x => ⟨fun rd h => some (rd x)⟩
  | .pick c a b => ⟨fun rd h => match rd c with
    | .val (.bool t) => some (if t then rd a else rd b)
    | _ => none⟩
  | .load t p => ⟨fun rd h => tyInt P t fun T => loadA T h (rd p)⟩
  | .fieldAddr s x f => ⟨fun rd h => tyInt P s fun T => fieldA T f (rd x)⟩
  | .indexAddr t x i => ⟨fun rd h => tyInt P t fun T => tyInt P (elemTy T.kind) fun E => match intOf? (rd i) with
    | some n => indexA T E (rd x) n
    | none => none⟩
  | .index t x i => ⟨fun rd h => tyInt P t fun T => tyInt P (elemTy T.kind) fun E => match T.kind, rd x, intOf? (rd i) with
    | .ar n _, .agg cs, some i => if 0 ≤ i ∧ i < n then partA E cs (i.toNat * E.size) else none
    | _, _, _ => none⟩
  | .field s x f => ⟨fun rd h => tyInt P s fun T => match T.kind, rd x with
    | .st fs, .agg cs => match fs[f]? with
      | some (off, _, ft) => tyInt P ft fun E => partA E cs off
      | none => none
    | _, _ => none⟩
  | .binOp op t x y _ => ⟨fun rd h => tyInt P t fun T => binX P t T op (rd x) (rd y)⟩
  | .unOp op _ x => ⟨fun rd h => unA op (rd x)⟩
  | .convert s t x => ⟨fun rd h => tyInt P s fun _ => tyInt P t fun T => convA T (rd x)⟩
  | .extract t i => ⟨fun rd h => extA (rd t) i⟩
  | .makeFunc (.func f) first caps => ⟨fun rd h => if first.isEmpty then some (.clo f (caps.toList.map (rd))) else none⟩
  | .nilCheck x => ⟨fun rd h => match rd x with
    | .ptr b o => some (.ptr b o)
    | .rop cs => some (.rop cs)
    | _ => none⟩
  | .build t parts => ⟨fun rd h => tyInt P t fun T => bldT P T (parts.toList.map fun p => (p.1, rd p.2))⟩
  | .slice t x lo hi mx => ⟨fun rd h => tyInt P t fun T => tyInt P (elemTy T.kind) fun E => sliceA T E (rd x) (lo.map (rd)) (hi.map (rd)) (mx.map (rd))⟩
  | .call { callee := .builtin .len, args := ⟨[x]⟩, argTypes := ⟨[t]⟩ } => ⟨fun rd h => tyInt P t fun T => lenA T (rd x)⟩
  | .call { callee := .builtin .cap, args := ⟨[x]⟩, argTypes := ⟨[t]⟩ } => ⟨fun rd h => tyInt P t fun T => capA T (rd x)⟩
  | .call { callee := .builtin .max, args, .. } => ⟨fun rd h => mmA true (args.toList.map (rd))⟩
  | .call { callee := .builtin .min, args, .. } => ⟨fun rd h => mmA false (args.toList.map (rd))⟩
  | _ => ⟨fun rd h => none⟩
def eopK (P : Program) (o : Oper) : KE := match o.op with
  | .alloc t => ⟨fun rd h => tyInt2 P t fun T => some (.ptr h.next 0, h.push (T.zero.map .val))⟩
  | .box _ x => ⟨fun rd h => match cellsOf (rd x) with
    | some l => some (.ptr h.next 0, h.push l)
    | none => none⟩
  | .store t p x => ⟨fun rd h => tyInt2 P t fun T => storeA T h (rd p) (rd x)⟩
  | .buildSlice t n parts => ⟨fun rd h => tyInt2 P t fun T => match T.kind with
    | .sl e => tyInt2 P e fun E => buildSliceA true E h n (parts.toList.map fun p => (p.1, rd p.2))
    | _ => none⟩
  | .makeSlice t l c => ⟨fun rd h => tyInt2 P t fun T => match T.kind with
    | .sl e => tyInt2 P e fun E => match intOf? (rd l), intOf? (rd c) with
      | some l, some c => makeSliceA E h l c
      | _, _ => none
    | _ => none⟩
  | .call { callee := .builtin .append, args := ⟨[s, x]⟩, argTypes := ⟨[t, tx]⟩ } => ⟨fun rd h => tyInt2 P t fun T => tyInt2 P tx fun TX => match T.kind, TX.kind with
    | .sl e, .sl _ => tyInt2 P e fun E => appendA E true h (rd s) (rd x)
    | .sl e, .int _ => tyInt2 P e fun E => zeroApp E h (rd s) (rd x)
    | _, _ => none⟩
  | _ => ⟨fun rd h => none⟩
def touchK (o : Oper) : KT := match o.op with
  | .store _ p _ => ⟨fun rd nx => match rd p with | .ptr b _ => [b] | _ => []⟩
  | .call { callee := .builtin .append, args := ⟨[s, x]⟩, .. } => ⟨fun rd nx => nx :: ownB (rd s) ++ ownB (rd x)⟩
  | .buildSlice _ _ _ => ⟨fun rd nx => [nx]⟩
  | _ => ⟨fun rd nx => [nx]⟩
def readsK (o : Oper) : KR := match o.op with
  | .load _ p => ⟨fun rd => match rd p with | .ptr b _ => [b] | _ => []⟩
  | _ => ⟨fun rd => []⟩
theorem popK_eq {P : Program} {o : Oper} {ρ : List AV} {h : H} : (popK P o).run (aev ρ) h = pop P o ρ h := by
  unfold popK pop
  obtain ⟨d, op, ty, p, af, g⟩ := o
  cases op <;> try rfl
  all_goals first
    | (rename_i fn _ _; cases fn <;> rfl)
    | (rename_i c
       obtain ⟨callee, ⟨args⟩, ⟨ats⟩⟩ := c
       cases callee <;> try rfl
       rename_i b
       cases b <;> try rfl
       all_goals (rcases args with _ | ⟨x, _ | ⟨y, _ | ⟨z, args⟩⟩⟩ <;> rcases ats with _ | ⟨x', _ | ⟨y', _ | ⟨z', ats⟩⟩⟩ <;> rfl))
theorem eopK_eq {P : Program} {o : Oper} {ρ : List AV} {h : H} : (eopK P o).run (aev ρ) h = eop P true o ρ h := by
  unfold eopK eop
  obtain ⟨d, op, ty, p, af, g⟩ := o
  cases op <;> try rfl
  all_goals first
    | (rename_i fn _ _; cases fn <;> rfl)
    | (rename_i c
       obtain ⟨callee, ⟨args⟩, ⟨ats⟩⟩ := c
       cases callee <;> try rfl
       rename_i b
       cases b <;> try rfl
       all_goals (rcases args with _ | ⟨x, _ | ⟨y, _ | ⟨z, args⟩⟩⟩ <;> rcases ats with _ | ⟨x', _ | ⟨y', _ | ⟨z', ats⟩⟩⟩ <;> rfl))
theorem touchK_eq {o : Oper} {ρ : List AV} {n : Nat} : (touchK o).run (aev ρ) n = touch o ρ n := by
  unfold touchK touch
  obtain ⟨d, op, ty, p, af, g⟩ := o
  cases op <;> try rfl
  all_goals first
    | (rename_i fn _ _; cases fn <;> rfl)
    | (rename_i c
       obtain ⟨callee, ⟨args⟩, ⟨ats⟩⟩ := c
       cases callee <;> try rfl
       rename_i b
       cases b <;> try rfl
       all_goals (rcases args with _ | ⟨x, _ | ⟨y, _ | ⟨z, args⟩⟩⟩ <;> rcases ats with _ | ⟨x', _ | ⟨y', _ | ⟨z', ats⟩⟩⟩ <;> rfl))
theorem readsK_eq {o : Oper} {ρ : List AV} : (readsK o).run (aev ρ) = reads o ρ := by
  unfold readsK reads
  obtain ⟨d, op, ty, p, af, g⟩ := o
  cases op <;> try rfl
  all_goals first
    | (rename_i fn _ _; cases fn <;> rfl)
    | (rename_i c
       obtain ⟨callee, ⟨args⟩, ⟨ats⟩⟩ := c
       cases callee <;> try rfl
       rename_i b
       cases b <;> try rfl
       all_goals (rcases args with _ | ⟨x, _ | ⟨y, _ | ⟨z, args⟩⟩⟩ <;> rcases ats with _ | ⟨x', _ | ⟨y', _ | ⟨z', ats⟩⟩⟩ <;> rfl))
theorem pop_eff {P : Program} {o : Oper} {ρ : List AV} {h : H} (he : effectful o.op = true) : pop P o ρ h = none := by
  unfold pop
  split <;> rename_i hop <;> first | rfl | (rw [hop] at he; simp [effectful] at he)

/-- Memory as a tree; what lies beyond it, as a list. -/
structure Hp where
  t : T (Option (List AV)) 14
  ov : Cells
noncomputable def hget (p : Hp) (i : Nat) : Option (List AV) := bsel (Nat.blt i 16384) (T.get 14 p.t i) (look i p.ov)
noncomputable def hset (p : Hp) (i : Nat) (c : Option (List AV)) : Hp := bsel (Nat.blt i 16384) ⟨T.set 14 p.t i c, p.ov⟩ ⟨p.t, (i, c) :: p.ov⟩
noncomputable def Hp.none : Hp := ⟨T.all Option.none 14, []⟩
theorem hget_none {i : Nat} : hget Hp.none i = Option.none := by
  unfold hget Hp.none
  rw [bsel_eq, blt_eq]
  by_cases h : i < 16384
  · simp only [h, decide_true, cond_true]; exact T.get_all 14 i
  · simp only [h, decide_false, cond_false]; rfl
theorem hget_hset {p : Hp} {i j : Nat} {c : Option (List AV)} : hget (hset p i c) j = if j = i then c else hget p j := by
  unfold hget hset
  rw [bsel_eq, bsel_eq, blt_eq, blt_eq]
  by_cases hi : i < 16384
  · simp only [hi, decide_true, cond_true]
    by_cases hj : j < 16384
    · simp only [hj, decide_true, cond_true]
      rw [T.get_set, Nat.mod_eq_of_lt (show i < 2 ^ 14 by omega), Nat.mod_eq_of_lt (show j < 2 ^ 14 by omega)]
      by_cases hij : j = i
      · rw [if_pos hij.symm, if_pos hij]
      · rw [if_neg (fun h => hij h.symm), if_neg hij]
    · simp only [hj, decide_false, cond_false]
      rw [if_neg (by omega)]
  · simp only [hi, decide_false, cond_false]
    by_cases hj : j < 16384
    · simp only [hj, decide_true, cond_true]
      rw [if_neg (by omega)]
    · simp only [hj, decide_false, cond_false]
      rw [look_cons]

/-- A loop over a function under way. -/
structure LpE where
  lay : Lay
  tr : Trv lay
  ps : Array Tmp
  assign : Code
  body : Code
  st : LoopState
  pend : Option Code
noncomputable def LpE.abs (r : LpE) : Lp := { ρ := slots r.lay r.tr, ps := r.ps, assign := r.assign, body := r.body, st := r.st, pend := r.pend }

/-- Where an activation stands: 'base' is the memory at its beginning, 'N0' the next block's number then; 'log' are the old blocks that it has turned. -/
structure Sy (base : Hp) (N0 : Nat) where
  next : Nat
  cur : Hp
  log : List Nat
  lps : List (Nat × Option LpE)
  inv : ∀ b, b < N0 → b ∉ log → hget cur b = hget base b
noncomputable def Sy.h {base : Hp} {N0 : Nat} (s : Sy base N0) : H := { next := s.next, get := hget s.cur, lp := fun b => (look b s.lps).map LpE.abs }
section
variable {base : Hp} {N0 : Nat}
theorem wr_inv (s : Sy base N0) (b : Nat) (c : Option (List AV)) : ∀ q, q < N0 → q ∉ cond (Nat.blt b N0) (b :: s.log) s.log → hget (hset s.cur b c) q = hget base q := fun q hq hl => by
  rw [blt_eq] at hl
  rw [hget_hset]
  by_cases hb : b < N0
  · simp only [hb, decide_true, cond_true, List.mem_cons, not_or] at hl
    rw [if_neg hl.1]; exact s.inv q hq hl.2
  · simp only [hb, decide_false, cond_false] at hl
    rw [if_neg (by omega)]; exact s.inv q hq hl
noncomputable def Sy.wr (s : Sy base N0) (b : Nat) (c : Option (List AV)) : Sy base N0 := ⟨s.next, hset s.cur b c, cond (Nat.blt b N0) (b :: s.log) s.log, s.lps, wr_inv s b c⟩
noncomputable def Sy.nx (s : Sy base N0) (n : Nat) : Sy base N0 := ⟨n, s.cur, s.log, s.lps, s.inv⟩
noncomputable def Sy.ls (s : Sy base N0) (l : List (Nat × Option LpE)) : Sy base N0 := ⟨s.next, s.cur, s.log, l, s.inv⟩
noncomputable def wrs (g : Nat → Option (List AV)) : List Nat → Sy base N0 → Sy base N0
  | [], s => s
  | b :: l, s => wrs g l (s.wr b (g b))
noncomputable def wrl : Cells → Sy base N0 → Sy base N0
  | [], s => s
  | (b, c) :: l, s => wrl l (s.wr b c)
theorem wrs_get {g : Nat → Option (List AV)} : ∀ (l : List Nat) (s : Sy base N0), (∀ b, hget (wrs g l s).cur b = if b ∈ l then g b else hget s.cur b) ∧ (wrs g l s).next = s.next ∧ (wrs g l s).lps = s.lps
  | [], s => ⟨fun b => by simp [wrs], rfl, rfl⟩
  | a :: l, s => by
    obtain ⟨h1, h2, h3⟩ := wrs_get l (s.wr a (g a))
    refine ⟨fun b => ?_, h2, h3⟩
    rw [wrs, h1 b]
    simp only [Sy.wr, hget_hset, List.mem_cons]
    by_cases h : b ∈ l
    · rw [if_pos h, if_pos (.inr h)]
    · rw [if_neg h]
      by_cases hb : b = a
      · rw [if_pos hb, if_pos (.inl hb), hb]
      · rw [if_neg hb, if_neg (by simp [h, hb])]
end
/-- Memory that holds the given blocks alone. -/
noncomputable def mkHp (g : Nat → Option (List AV)) : List Nat → Hp
  | [] => Hp.none
  | b :: l => hset (mkHp g l) b (g b)
theorem mkHp_get {g : Nat → Option (List AV)} {b : Nat} : ∀ (l : List Nat), hget (mkHp g l) b = if b ∈ l then g b else none
  | [] => by simp [mkHp, hget_none]
  | a :: l => by
    rw [mkHp, hget_hset, mkHp_get l]
    by_cases hb : b = a
    · subst hb; simp
    · simp [hb]
noncomputable def fresh (p : Hp) (n : Nat) (lps : List (Nat × Option LpE)) : Sy p n := ⟨n, p, [], lps, fun _ _ _ => rfl⟩

/-- An outcome: a value, or where the work stands still. -/
inductive Res (α : Type) where
  | ok (a : α)
  | er (l : List Nat)

end Go.Pe
