import Derived.Test.YtblpmcmapadphaaF14
set_option linter.unusedVariables false
set_option linter.unusedSimpArgs false
/- A program that runs on known values: what a function comes to is computed, and so it is. -/
namespace Go.Pe
open Go

theorem Fn.freeze2 {P : Program} {f : FuncId} {args : List AV} {h h' hh : H} {x y : AV} {k : Nat} (h1 : Fn P f args h y hh) (hn : h'.next = h.next) (h2 : frz k hh h.next y = some x)
    (h3 : ∀ b cs, h'.get b = some cs → (∃ ds k, hh.get b = some ds ∧ b < h.next ∧ ds.mapM (frz k hh h.next) = some cs) ∨ (h.get b = some cs ∧ (hh.get b = some cs ∨ h.next ≤ b))) (h4 : ∀ b, h'.lp b = none) : Fn P f args h x h' := by
  refine ⟨h1.1, fun n c D w vs hr hfr hargs => (h1.2 n c D w vs hr hfr hargs).mono ?_⟩
  have live := live_of hr hfr
  rintro e w' ⟨v, c', D', rfl, g1, g2, g3, g4⟩
  obtain ⟨q1, q2, q3⟩ := frz_post (h' := h') g1 g2 g3 g4 hn h2 (fun b cs hb => by
    rcases h3 b cs hb with e1 | ⟨e1, e2⟩
    · exact e1
    · obtain ⟨l1, l2⟩ := live.1 b cs e1
      rcases e2 with e2 | e2
      · obtain ⟨k', l3⟩ := l2 hh
        exact ⟨cs, k', e2, l1, l3⟩
      · omega) (fun b r hb => by rw [h4] at hb; cases hb)
  exact ⟨v, _, D, rfl, q1, q2, q3, fun b hb => .inl hb⟩

/-- What a call has turned, made to be read alone. -/
def frzTop (hh : H) (N : Nat) : Cells → Option Cells
  | [] => some []
  | (b, c) :: l => bif Nat.blt b N then (match c with
      | some cs => match cs.mapM (frz 30 hh N), frzTop hh N l with
        | some cs', some l' => some ((b, some cs') :: l')
        | _, _ => none
      | none => match frzTop hh N l with
        | some l' => some ((b, none) :: l')
        | none => none)
    else frzTop hh N l

theorem frzTop_look {hh : H} {N : Nat} {rest : Cells} {b : Nat} {cs' : List AV} : ∀ {top pre : Cells}, frzTop hh N top = some pre → look b (pre ++ rest) = some cs' →
    (∃ cs, look b (top ++ rest) = some cs ∧ b < N ∧ cs.mapM (frz 30 hh N) = some cs') ∨ (look b rest = some cs' ∧ (look b (top ++ rest) = some cs' ∨ N ≤ b))
  | [], pre, h, hl => by cases h; exact .inr ⟨hl, .inl hl⟩
  | (q, c) :: l, pre, h, hl => by
    unfold frzTop at h
    cases hq : Nat.blt q N with
    | true =>
      have hqN : q < N := by simpa [Nat.blt_eq] using hq
      rw [hq] at h
      simp only [cond_true] at h
      cases c with
      | none =>
        simp only at h
        split at h
        · rename_i l' hl'
          cases h
          simp only [List.cons_append, look_cons] at hl ⊢
          split at hl
          · cases hl
          · rename_i hb
            rw [if_neg hb]
            exact frzTop_look hl' hl
        · cases h
      | some cs =>
        simp only at h
        split at h
        · rename_i cs1 l' h1 hl'
          cases h
          simp only [List.cons_append, look_cons] at hl ⊢
          split at hl
          · rename_i hb
            cases hl
            rw [if_pos hb]
            exact .inl ⟨cs, rfl, by omega, h1⟩
          · rename_i hb
            rw [if_neg hb]
            exact frzTop_look hl' hl
        · cases h
    | false =>
      have hqN : N ≤ q := by
        have : ¬ q < N := fun h => by have : Nat.blt q N = true := by simpa [Nat.blt_eq] using h
                                      rw [hq] at this; cases this
        omega
      rw [hq] at h
      simp only [cond_false] at h
      simp only [List.cons_append, look_cons]
      rcases frzTop_look h hl with ⟨cs, h1, h2, h3⟩ | ⟨h1, h2⟩
      · rw [if_neg (by omega)]; exact .inl ⟨cs, h1, h2, h3⟩
      · refine .inr ⟨h1, ?_⟩
        by_cases hb : b = q
        · exact .inr (by omega)
        · rw [if_neg hb]; exact h2

def isEnd : Exit → Bool
  | .normal => true
  | .ret => true
  | _ => false
theorem isEnd_or {e : Exit} (h : isEnd e = true) : e = .normal ∨ e = .ret := by cases e <;> simp_all [isEnd]

section
variable (P : Program) (kp : List Nat) (E : Option Nat → Cells → Code → List AV → Sx → Option (Exit × List AV × Sx))

def finF (fz : Bool) (base : Cells) (s s2 : Sx) (y : AV) : AV × Sx :=
  match s.lps, fz with
  | [], true => match frz 30 (s2.h (s.top ++ base)) s.next y, frzTop (s2.h (s.top ++ base)) s.next s2.top with
    | some x, some pre => (x, { next := s.next, top := pre ++ s.top, lps := [] })
    | _, _ => (y, { next := s2.next, top := s2.top ++ s.top, lps := s2.lps })
  | _, _ => (y, { next := s2.next, top := s2.top ++ s.top, lps := s2.lps })

def callF (base : Cells) (g : FuncId) (args : List AV) (s : Sx) : Option (AV × Sx) :=
  bif callable P g then
    match P.funcs[g]? with
    | some fn => match fn.body with
      | some code => match E none (s.top ++ base) code (args ++ List.replicate (fn.ntmps - args.length) (.val undef)) { next := s.next, top := [], lps := s.lps } with
        | some (e, ρ', s2) => bif isEnd e then (match resA P fn.results ρ' (s2.h (s.top ++ base)) with
            | some y => some (finF (!kp.contains g) base s s2 y)
            | none => none) else none
        | none => none
      | none => none
    | none => none
  else none

def endY (b : Nat) (s2 : Sx) (r2 : Lp) : Exit → Option (AV × Sx)
  | .normal => some (.val (.bool true), { s2 with lps := (b, some { r2 with st := .ready, pend := none }) :: s2.lps })
  | .ret => some (.val (.bool false), { s2 with lps := (b, some { r2 with st := .done, pend := some .ret }) :: s2.lps })
  | .exit id => some (.val (.bool false), { s2 with lps := (b, some { r2 with st := .done, pend := some (.exit id) }) :: s2.lps })
  | _ => none
def isReady : LoopState → Bool
  | .ready => true
  | _ => false
def callY (base : Cells) (b : Nat) (args : List AV) (s : Sx) : Option (AV × Sx) :=
  match look b s.lps with
  | some r => bif isReady r.st && Nat.beq args.length r.ps.size then
      (match E (some b) base r.assign (putPs r.ρ r.ps.toList args) s with
      | some (.normal, ρ1, s1) => match look b s1.lps with
        | some r1 => bif isReady r1.st then (match E (some b) base r.body ρ1 { s1 with lps := (b, some { r1 with st := .busy }) :: s1.lps } with
            | some (e, ρ2, s2) => match look b s2.lps with
              | some r2 => endY b s2 r2 e
              | none => none
            | none => none) else none
        | none => none
      | _ => none) else none
  | none => none

def callA (base : Cells) (x : AV) (args : List AV) (s : Sx) : Option (AV × Sx) :=
  match x with
  | .clo g caps => callF P kp E base g (args ++ caps) s
  | .yld b => callY E base b args s
  | _ => none

def SoundE : Prop := ∀ rd base code ρ s e ρ' s', E rd base code ρ s = some (e, ρ', s') → ∀ Q : Exit → List AV → H → Prop, Q e ρ' (s'.h base) → vcE P (fun _ => true) rd code Q ρ (s.h base)

variable {P} {kp} {E}
theorem callF_sound (hE : SoundE P E) {base : Cells} {g : FuncId} {args : List AV} {s s' : Sx} {y : AV} (h : callF P kp E base g args s = some (y, s')) : Fn P g args (s.h base) y (s'.h base) := by
  unfold callF at h
  rw [cond_eq_ite] at h
  split at h
  · rename_i hcall
    split at h
    · rename_i fn hf
      split at h
      · rename_i code hb
        split at h
        · rename_i e ρ' s2 hev
          rw [cond_eq_ite] at h
          split at h
          · rename_i hend
            split at h
            · rename_i z hz
              have hall : Fn P g args (s.h base) z (s2.h (s.top ++ base)) := Fn.of_vcE (fun _ => true) hcall hf hb (hE _ _ _ _ _ _ _ _ hev _ ⟨isEnd_or hend, hz, rfl⟩)
              have hun : ({ next := s2.next, top := s2.top ++ s.top, lps := s2.lps } : Sx).h base = s2.h (s.top ++ base) := by simp only [Sx.h, List.append_assoc]
              have h' := Option.some.inj h
              clear h
              unfold finF at h'
              split at h'
              · split at h'
                · rename_i x pre hx hpre
                  cases h'
                  refine Fn.freeze2 hall rfl hx (fun b cs hb => ?_) (fun b => rfl)
                  simp only [Sx.h, List.append_assoc] at hb ⊢
                  rcases frzTop_look hpre hb with ⟨ds, g1, g2, g3⟩ | ⟨g1, g2⟩
                  · exact .inl ⟨ds, 30, g1, g2, g3⟩
                  · exact .inr ⟨g1, g2⟩
                · cases h'; rw [hun]; exact hall
              · cases h'; rw [hun]; exact hall
            · cases h
          · cases h
        · cases h
      · cases h
    · cases h
  · cases h

theorem lset_h {base : Cells} {s : Sx} {b : Nat} {r : Option Lp} : ({ s with lps := (b, r) :: s.lps } : Sx).h base = (s.h base).lset b r := by
  simp only [Sx.h, H.lset]
  congr 1
  funext q
  rw [look_cons]

theorem callY_sound (hE : SoundE P E) {base : Cells} {b : Nat} {args : List AV} {s s' : Sx} {y : AV} (h : callY E base b args s = some (y, s')) : Rd P b args (s.h base) y (s'.h base) := by
  unfold callY at h
  split at h
  · rename_i r hr
    rw [cond_eq_ite] at h
    split at h
    · rename_i hc
      simp only [Bool.and_eq_true] at hc
      split at h
      · rename_i ρ1 s1 hev1
        split at h
        · rename_i r1 hr1
          rw [cond_eq_ite] at h
          split at h
          · rename_i hrd1
            split at h
            · rename_i e ρ2 s2 hev2
              split at h
              · rename_i r2 hr2
                refine Rd.of_vcE (fun _ => true) (r := r) hr (Nat.eq_of_beq_eq_true hc.2) (hE _ _ _ _ _ _ _ _ hev1 _ ⟨rfl, r1, hr1, by cases hst : r1.st <;> simp_all [isReady], ?_⟩)
                rw [← lset_h]
                refine hE _ _ _ _ _ _ _ _ hev2 _ ⟨r2, hr2, ?_⟩
                cases e with
                | normal => cases h; exact ⟨rfl, lset_h⟩
                | ret => cases h; exact ⟨rfl, lset_h⟩
                | exit id => cases h; exact ⟨rfl, lset_h⟩
                | _ => cases h
              · cases h
            · cases h
          · cases h
        · cases h
      · cases h
    · cases h
  · cases h

theorem callA_ok (hE : SoundE P E) : CallOK (callA P kp E) P := by
  intro base x args s y s' h
  unfold callA at h
  split at h
  · exact .inl ⟨_, _, rfl, callF_sound hE h⟩
  · exact .inr ⟨_, rfl, callY_sound hE h⟩
  · cases h
end

def okRd (rd : Option Nat) (s : Sx) : Bool := match rd with | none => true | some b => (look b s.lps).isSome
def isBusy : LoopState → Bool
  | .busy => true
  | _ => false
def jumpE (ρ : List AV) (s : Sx) : Option Code → Option (Exit × List AV × Sx)
  | none => some (.normal, ρ, s)
  | some .ret => some (.ret, ρ, s)
  | some (.exit id) => some (.exit id, ρ, s)
  | _ => none

/-- CODE THAT RUNS. -/
def ev (P : Program) (kp : List Nat) : Nat → Option Nat → Cells → Code → List AV → Sx → Option (Exit × List AV × Sx)
  | 0, _, _, _, _, _ => none
  | n + 1, rd, base, code, ρ, s =>
    match code with
    | .skip => some (.normal, ρ, s)
    | .region _ ops draw => bif draw then (match evDraw (callA P kp (ev P kp n)) P base ops ρ s with
        | some (ρ', s') => some (.normal, ρ', s')
        | none => none)
      else (match evOps (callA P kp (ev P kp n)) P base ops ops.toList ρ s with
        | some (ρ', s') => some (.normal, ρ', s')
        | none => none)
    | .seq x y => match ev P kp n rd base x ρ s with
      | some (.normal, ρ', s') => ev P kp n rd base y ρ' s'
      | r => r
    | .cond c x y => match aev ρ c with
      | .val (.bool b) => bif b then ev P kp n rd base x ρ s else ev P kp n rd base y ρ s
      | _ => none
    | .block id x => match ev P kp n rd base x ρ s with
      | some (.exit id', ρ', s') => bif Nat.beq id' id then some (.normal, ρ', s') else some (.exit id', ρ', s')
      | r => r
    | .loop x => match ev P kp n rd base x ρ s with
      | some (.normal, ρ', s') => ev P kp n rd base (.loop x) ρ' s'
      | r => r
    | .rangeFunc g ps assign body => match aev ρ g with
      | .clo gf caps => bif okRd rd s then (match callF P kp (ev P kp n) base gf (.yld s.next :: caps) { next := s.next + 1, top := s.top, lps := (s.next, some { ρ := ρ, ps := ps, assign := assign, body := body, st := .ready, pend := none }) :: s.lps } with
          | some (_, s2) => match look s.next s2.lps with
            | some r => bif isBusy r.st then none else jumpE ρ { s2 with lps := s2.lps.filter (fun p => p.1 != s.next) } r.pend
            | none => none
          | none => none) else none
      | _ => none
    | .exit id => some (.exit id, ρ, s)
    | .ret => some (.ret, ρ, s)
    | _ => none

theorem ev_sound (P : Program) (kp : List Nat) : ∀ n, SoundE P (ev P kp n) := by
  intro n
  induction n using Nat.strongRecOn with
  | _ n ih =>
    intro rd base code ρ s e ρ' s' h Q hq
    cases n with
    | zero => simp [ev] at h
    | succ n =>
      have ihn := ih n (Nat.lt_succ_self n)
      have hC := callA_ok (kp := kp) ihn
      unfold ev at h
      cases code with
      | skip => cases h; exact hq
      | region id ops draw =>
        cases draw with
        | true =>
          simp only [cond_true] at h
          split at h
          · rename_i ρ1 s1 hd; cases h; exact evDraw_sound (Q := Q .normal) hC hd hq
          · cases h
        | false =>
          simp only [cond_false] at h
          split at h
          · rename_i ρ1 s1 hd; cases h; exact evOps_sound (Q := Q .normal) hC ops.toList ρ s _ _ hd hq
          · cases h
      | seq x y =>
        simp only at h
        split at h
        · rename_i ρ1 s1 h1
          exact ihn _ _ _ _ _ _ _ _ h1 _ (ihn _ _ _ _ _ _ _ _ h Q hq)
        · rename_i r hne
          refine ihn _ _ _ _ _ _ _ _ h _ ?_
          cases e with
          | normal => exact (hne _ _ h).elim
          | _ => exact hq
      | cond c x y =>
        simp only at h
        simp only [vcE]
        split at h
        · rename_i b hb
          rw [hb]
          cases b with
          | true => exact ihn _ _ _ _ _ _ _ _ h Q hq
          | false => exact ihn _ _ _ _ _ _ _ _ h Q hq
        · cases h
      | block id x =>
        simp only at h
        split at h
        · rename_i id' ρ1 s1 h1
          rw [cond_eq_ite] at h
          refine ihn _ _ _ _ _ _ _ _ h1 _ ?_
          simp only
          split at h
          · rename_i hb; cases h; rw [if_pos (Nat.eq_of_beq_eq_true hb)]; exact hq
          · rename_i hb; cases h; rw [if_neg (fun he => hb (by rw [he]; exact Nat.beq_refl id))]; exact hq
        · rename_i r hne
          refine ihn _ _ _ _ _ _ _ _ h _ ?_
          cases e with
          | exit id' => exact (hne _ _ _ h).elim
          | _ => exact hq
      | loop x =>
        refine ⟨fun j ρ h => ∃ s1, h = s1.h base ∧ j ≤ n + 1 ∧ ev P kp j rd base (.loop x) ρ s1 = some (e, ρ', s'), ⟨n + 1, s, rfl, Nat.le_refl _, by unfold ev; exact h⟩, ?_⟩
        rintro j ρ0 h0 ⟨s1, rfl, hj, hev⟩
        cases j with
        | zero => simp [ev] at hev
        | succ j =>
          have ihj := ih j (by omega)
          unfold ev at hev
          simp only at hev
          split at hev
          · rename_i ρ1 s2 h1
            exact ihj _ _ _ _ _ _ _ _ h1 _ ⟨j, Nat.lt_succ_self j, s2, rfl, by omega, hev⟩
          · rename_i r hne
            refine ihj _ _ _ _ _ _ _ _ hev _ ?_
            cases e with
            | normal => exact (hne _ _ hev).elim
            | _ => exact hq
      | rangeFunc g ps assign body =>
        simp only at h
        simp only [vcE, Ranged]
        split at h
        · rename_i gf caps hg
          rw [cond_eq_ite] at h
          split at h
          · rename_i hrd
            split at h
            · rename_i x s2 hcall
              split at h
              · rename_i r hr
                rw [cond_eq_ite] at h
                split at h
                · cases h
                · rename_i hbusy
                  rw [hg]
                  have hopen : ({ next := s.next + 1, top := s.top, lps := (s.next, some { ρ := ρ, ps := ps, assign := assign, body := body, st := .ready, pend := none }) :: s.lps } : Sx).h base = (s.h base).opn ρ ps assign body := by
                    simp only [Sx.h, H.opn]
                    congr 1
                    funext q
                    rw [look_cons]; rfl
                  have hF := callF_sound (kp := kp) ihn hcall
                  rw [hopen] at hF
                  refine ⟨?_, x, _, r, hF, hr, fun hs => hbusy (by rw [hs]; rfl), ?_⟩
                  · unfold rdOk; unfold okRd at hrd
                    cases rd with
                    | none => trivial
                    | some b => exact hrd
                  · have hclose : ({ s2 with lps := s2.lps.filter (fun p => p.1 != s.next) } : Sx).h base = (s2.h base).lset s.next none := by
                      simp only [Sx.h, H.lset]
                      congr 1
                      funext q
                      rw [look_filter]
                    show jumped Q r.pend ρ ((s2.h base).lset s.next none)
                    rw [← hclose]
                    unfold jumped
                    cases hp : r.pend with
                    | none => rw [hp] at h; cases h; exact hq
                    | some c =>
                      rw [hp] at h
                      cases c with
                      | ret => cases h; exact hq
                      | exit id => cases h; exact hq
                      | _ => cases h
              · cases h
            · cases h
          · cases h
        · cases h
      | exit id => cases h; exact hq
      | ret => cases h; exact hq
      | scope _ => cases h
      | label _ => cases h
      | goto _ => cases h
      | refuse _ => cases h

/-- A FUNCTION ON KNOWN VALUES. -/
def run (P : Program) (kp : List Nat) (n : Nat) (f : FuncId) (args : List AV) : Option AV := (callF P kp (ev P kp n) [] f args { next := 0, top := [], lps := [] }).map (·.1)

theorem Fn.of_run {P : Program} {kp : List Nat} {n : Nat} {f : FuncId} {args : List AV} {v : Value} (h : run P kp n f args = some (.val v)) : ∃ h', Fn P f args .nil (.val v) h' := by
  unfold run at h
  obtain ⟨⟨y, s'⟩, h1, h2⟩ := Option.map_eq_some_iff.1 h
  simp only at h2
  subst h2
  exact ⟨_, callF_sound (ev_sound P kp n) h1⟩
/-- What comes back is a plain value: nothing else is left. -/
theorem Fn.plain {P : Program} {f : FuncId} {args : List AV} {v : Value} {h' : H} (h : Fn P f args .nil (.val v) h') : Fn P f args .nil (.val v) .nil :=
  Fn.freeze (k := 1) h rfl rfl (fun b cs hb => by simp [H.nil] at hb) (fun b r hb => by simp [H.nil] at hb)

end Go.Pe
