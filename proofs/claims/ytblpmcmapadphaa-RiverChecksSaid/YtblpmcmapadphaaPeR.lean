/- Loops over functions: what becomes of the heap when one is opened, and when its state turns. -/
import Derived.Test.YtblpmcmapadphaaPeN
set_option linter.unusedVariables false
set_option linter.unusedSimpArgs false
namespace Go.Pe
open Go

/-- A loop is opened. -/
def H.opn (h : H) (ρ : List AV) (ps : Array Tmp) (assign body : Code) : H :=
  { next := h.next + 1, get := h.get, lp := fun q => if q = h.next then some { ρ := ρ, ps := ps, assign := assign, body := body, st := .ready, pend := none } else h.lp q }
/-- A loop's state turns, or it is gone. -/
def H.lset (h : H) (b : Nat) (r : Option Lp) : H := { next := h.next, get := h.get, lp := fun q => if q = b then r else h.lp q }

theorem opn_ok {D : Nat → Prop} {h : H} {c : Cx} {w w1 : World} {ρ : List AV} {tmps : Array Value} {ps : Array Tmp} {assign body : Code} {loc fn dd : Nat} (hr : Rel c D h w) (hfr : ¬ D h.next) (hloc : w.heap.size ≤ loc)
    (hold : ∀ k, k < w.heap.size → w1.heap[k]? = w.heap[k]?) (hsz : w.heap.size ≤ w1.heap.size) (hos : w1.os = w.os) (htape : w1.tape = w.tape) (hout : w1.output = w.output) (hfz : ∀ a, w1.frozen? a = w.frozen? a)
    (hrec : w1.heap[loc]? = some (.loop { state := .ready, pending := none, fn := fn, tmps := tmps, params := ps, assign := assign, body := body, defers := dd })) (hρ : RL c w D ρ tmps) :
    Rel (c.bind h.next loc) (addId D h.next) (h.opn ρ ps assign body) w1 ∧ Ext D h c w (addId D h.next) (c.bind h.next loc) w1 (h.opn ρ ps assign body) := by
  have hφ : ∀ b, D b → (c.bind h.next loc).φ b = c.φ b := fun b hb => by simp [Cx.bind]; intro e; exact absurd (e ▸ hb) hfr
  have hshp : ∀ (k : Nat) (C : Array Value) (e : TypeId), w.heap[k]? = some (.cells C e (0, 0)) → ∃ C', w1.heap[k]? = some (.cells C' e (0, 0)) ∧ C'.size = C.size := fun k C e hk => ⟨C, (hold k (Array.getElem?_eq_some_iff.1 hk).1).trans hk, rfl⟩
  have hfix : ∀ k, c.S k → w1.heap[k]? = w.heap[k]? := fun k hk => hold k (hr.sz k hk)
  have hup : ∀ {x : AV} {v : Value}, R c w D x v → R (c.bind h.next loc) w1 (addId D h.next) x v := fun hx => hx.mono (fun _ h => h) hfix hφ (fun _ hb => .inl hb) hshp
  have hnew : (c.bind h.next loc).φ h.next = loc := by simp [Cx.bind]
  have hkeep := hr.lps_keep (c' := c.bind h.next loc) (w' := w1) (D' := addId D h.next) (fun _ h => h) hfix hφ (fun _ hb => .inl hb) hshp (fun b r hb => hold _ (hr.lp_lt hb)) (fun _ _ _ h => h)
  have hold' : ∀ b, D b → b ≠ h.next := fun b hb e => hfr (e ▸ hb)
  constructor
  · refine ⟨fun b cs hb => ?_, fun b b' c1 c2 h1 h2 he => ?_, fun k hk => Nat.lt_of_lt_of_le (hr.sz k hk) hsz, fun b r hb => ?_, fun b b' r r' h1 h2 he => ?_⟩
    · obtain ⟨q1, q2, C, e, q3, q4, q5⟩ := hr.own b cs hb
      have hlt := (Array.getElem?_eq_some_iff.1 q3).1
      rw [hφ b q1]
      exact ⟨.inl q1, q2, C, e, by rw [hold _ hlt]; exact q3, q4, fun j x v g1 g2 => hup (q5 j x v g1 g2)⟩
    · rw [hφ b (hr.own b c1 h1).1, hφ b' (hr.own b' c2 h2).1] at he
      exact hr.inj b b' c1 c2 h1 h2 he
    · simp only [H.opn] at hb
      split at hb
      · rename_i hbe
        cases hb
        subst hbe
        refine ⟨.inr rfl, fun hS => ?_, fn, tmps, dd, by rw [hnew]; exact hrec, hρ.1, fun i x v h1 h2 => hup (hρ.2 i x v h1 h2)⟩
        rw [hnew] at hS
        have := hr.sz _ hS; omega
      · exact hkeep b r hb
    · have cross : ∀ b r, h.lp b = some r → (c.bind h.next loc).φ b ≠ loc := fun b r hb he => by
        rw [hφ b (hr.lps b r hb).1] at he
        have := hr.lp_lt hb; omega
      simp only [H.opn] at h1 h2
      split at h1 <;> split at h2
      · omega
      · rename_i e1 e2; rw [e1, hnew] at he; exact (cross _ _ h2 he.symm).elim
      · rename_i e1 e2; rw [e2, hnew] at he; exact (cross _ _ h1 he).elim
      · exact hr.linj_keep hφ b b' r r' h1 h2 he
  · refine ⟨fun _ h => h, fun _ h => .inl h, hφ, fun _ hb => .inl hb, Nat.le_succ _, hos, htape, hout, hsz, fun k hk _ _ => hold k hk, hshp, fun b cs hb => .inl ⟨b, cs, hb, (hφ b (hr.own b cs hb).1).symm⟩, fun b r hb => ?_, hfz⟩
    simp only [H.opn] at hb
    split at hb
    · rename_i hbe; subst hbe; exact .inr (by rw [hnew]; exact hloc)
    · exact .inl ⟨b, r, hb, (hφ b (hr.lps b r hb).1).symm⟩

theorem lset_ok {D : Nat → Prop} {h : H} {c : Cx} {w : World} {b : Nat} {r0 : Lp} {rec : Loop} (hr : Rel c D h w) (hb : h.lp b = some r0) (r' : Option Lp)
    (hfit : ∀ r, r' = some r → rec.state = r.st ∧ rec.pending = r.pend ∧ rec.params = r.ps ∧ rec.assign = r.assign ∧ rec.body = r.body ∧ RL c w D r.ρ rec.tmps) :
    Rel c D (h.lset b r') (w.putObj (c.φ b) (.loop rec)) ∧ Ext D h c w D c (w.putObj (c.φ b) (.loop rec)) (h.lset b r') := by
  obtain ⟨hD, hbS, fn, tmps, dd, hblk, _⟩ := hr.lps b r0 hb
  have hlt := (Array.getElem?_eq_some_iff.1 hblk).1
  have hold : ∀ k, k ≠ c.φ b → (w.putObj (c.φ b) (.loop rec)).heap[k]? = w.heap[k]? := fun k hk => World.putObj_heap_other hk
  have hfix : ∀ k, c.S k → (w.putObj (c.φ b) (.loop rec)).heap[k]? = w.heap[k]? := fun k hk => hold k (fun e => hbS (e ▸ hk))
  have hshp : ∀ (k : Nat) (C : Array Value) (e : TypeId), w.heap[k]? = some (.cells C e (0, 0)) → ∃ C', (w.putObj (c.φ b) (.loop rec)).heap[k]? = some (.cells C' e (0, 0)) ∧ C'.size = C.size := fun k C e hk =>
    ⟨C, by rw [hold k (fun he => by rw [he, hblk] at hk; cases hk)]; exact hk, rfl⟩
  have hup : ∀ {x : AV} {v : Value}, R c w D x v → R c (w.putObj (c.φ b) (.loop rec)) D x v := fun hx => hx.mono (fun _ h => h) hfix (fun _ _ => rfl) (fun _ hb => hb) hshp
  constructor
  · refine ⟨fun q cs hq => ?_, hr.inj, fun k hk => by rw [World.putObj_size]; exact hr.sz k hk, fun q r hq => ?_, fun q q' s s' h1 h2 he => ?_⟩
    · obtain ⟨q1, q2, C, e, q3, q4, q5⟩ := hr.own q cs hq
      exact ⟨q1, q2, C, e, by rw [hold _ (fun he => by rw [he, hblk] at q3; cases q3)]; exact q3, q4, fun j x v g1 g2 => hup (q5 j x v g1 g2)⟩
    · simp only [H.lset] at hq
      split at hq
      · rename_i hqb
        subst hqb
        obtain ⟨f1, f2, f3, f4, f5, f6⟩ := hfit r hq
        refine ⟨hD, hbS, rec.fn, rec.tmps, rec.defers, ?_, f6.1, fun i x v h1 h2 => hup (f6.2 i x v h1 h2)⟩
        rw [World.putObj_heap_same hlt, ← f1, ← f2, ← f3, ← f4, ← f5]
      · rename_i hqb
        obtain ⟨q1, q2, fn', tmps', dd', q3, q4⟩ := hr.lps q r hq
        have hne : c.φ q ≠ c.φ b := fun he => hqb (hr.linj q b r r0 hq hb he)
        exact ⟨q1, q2, fn', tmps', dd', by rw [hold _ hne]; exact q3, q4.1, fun i x v h1 h2 => hup (q4.2 i x v h1 h2)⟩
    · have old : ∀ q r, (h.lset b r').lp q = some r → ∃ r, h.lp q = some r := fun q r hq => by
        simp only [H.lset] at hq
        split at hq
        · rename_i hqb; subst hqb; exact ⟨r0, hb⟩
        · exact ⟨r, hq⟩
      obtain ⟨_, g1⟩ := old q _ h1
      obtain ⟨_, g2⟩ := old q' _ h2
      exact hr.linj q q' _ _ g1 g2 he
  · refine ⟨fun _ h => h, fun _ h => .inl h, fun _ _ => rfl, fun _ hb => hb, Nat.le_refl _, rfl, rfl, rfl, by rw [World.putObj_size]; exact Nat.le_refl _, fun k hk _ hnl => hold k (fun e => hnl b r0 hb e.symm), hshp, fun q cs hq => .inl ⟨q, cs, hq, rfl⟩, fun q r hq => ?_, fun a => ?_⟩
    rotate_left
    · unfold World.frozen?
      by_cases ha : a.block = c.φ b
      · rw [ha, World.putObj_heap_same hlt, hblk]
      · rw [hold _ ha]
    simp only [H.lset] at hq
    split at hq
    · rename_i hqb; subst hqb; exact .inl ⟨q, r0, hb, rfl⟩
    · exact .inl ⟨q, r, hq, rfl⟩

/-- The marks are shut. -/
def shutAll (ms : List Nat) (w : World) : World := ms.foldl (fun w d => w.putObj d (.deferred none)) w

theorem shutAll_other : ∀ (ms : List Nat) (w : World), (shutAll ms w).heap.size = w.heap.size ∧ (shutAll ms w).os = w.os ∧ (shutAll ms w).tape = w.tape ∧ (shutAll ms w).output = w.output ∧ ∀ k, k ∉ ms → (shutAll ms w).heap[k]? = w.heap[k]?
  | [], w => ⟨rfl, rfl, rfl, rfl, fun _ _ => rfl⟩
  | d :: ms, w => by
    obtain ⟨h1, h2, h3, h4, h5⟩ := shutAll_other ms (w.putObj d (.deferred none))
    refine ⟨h1.trans World.putObj_size, h2, h3, h4, fun k hk => ?_⟩
    simp only [List.mem_cons, not_or] at hk
    exact (h5 k hk.2).trans (World.putObj_heap_other hk.1)

theorem leaves_marks {F : Fence} {n : Nat} {P : Program} {fn : Func} {tmps : Array Value} {R : Ending → World → Prop} : ∀ (ms : List Nat) (w : World), ms.Nodup → (∀ d ∈ ms, w.heap[d]? = some (.deferred (some []))) →
    (∃ v, (results fn tmps).run P (shutAll ms w) = .ok v (shutAll ms w) ∧ R (.returned v) (shutAll ms w)) → LeavesInM F n P fn tmps R (ms.map (fun d => { target := .collected d, args := #[] })) .returning w
  | [], w, _, _, h => h
  | d :: ms, w, hn, hd, h => by
    rw [List.nodup_cons] at hn
    refine ⟨by simp, .inl ⟨d, _, rfl, run_takeDeferred (hd d (by simp)), leaves_marks ms _ hn.2 (fun q hq => ?_) h⟩⟩
    rw [World.putObj_heap_other (fun e => hn.1 (by rw [← e]; exact hq))]
    exact hd q (by simp [hq])

section
variable {D0 : Nat → Prop} {h0 : H} {c0 : Cx} {w0 : World} {ρ : List AV} {h : H} {a : Act} {w : World} {c : Cx} {D : Nat → Prop}
/-- What is known holds when the marks are shut. -/
theorem St.shut (s : St D0 h0 c0 w0 ρ h a w c D) : ∃ ms : List Nat, a.defers = ms.map (fun d => { target := .collected d, args := #[] }) ∧ ms.Nodup ∧ (∀ d ∈ ms, w.heap[d]? = some (.deferred (some []))) ∧
    Rel c D h (shutAll ms w) ∧ RL c (shutAll ms w) D ρ a.tmps ∧ Ext D0 h0 c0 w0 D c (shutAll ms w) h := by
  obtain ⟨ms, h1, h2, h3⟩ := s.defers
  obtain ⟨g1, g2, g3, g4, g5⟩ := shutAll_other ms w
  have hno : ∀ k, (w.heap[k]? = some (Obj.deferred (some [])) → False) → (shutAll ms w).heap[k]? = w.heap[k]? := fun k hk => g5 k fun hm => hk (h3 k hm).2.2
  have hfix : ∀ k, c.S k → (shutAll ms w).heap[k]? = w.heap[k]? := fun k hk => g5 k fun hm => (h3 k hm).2.1 hk
  have hshp : ∀ (k : Nat) (C : Array Value) (e : TypeId), w.heap[k]? = some (.cells C e (0, 0)) → ∃ C', (shutAll ms w).heap[k]? = some (.cells C' e (0, 0)) ∧ C'.size = C.size := fun k C e hk =>
    ⟨C, by rw [hno k (fun he => by rw [he] at hk; cases hk)]; exact hk, rfl⟩
  have hup : ∀ {x : AV} {v : Value}, R c w D x v → R c (shutAll ms w) D x v := fun hx => hx.mono (fun _ h => h) hfix (fun _ _ => rfl) (fun _ hb => hb) hshp
  have hl : ∀ b r, h.lp b = some r → (shutAll ms w).heap[c.φ b]? = w.heap[c.φ b]? := fun b r hb => by
    obtain ⟨_, _, fn, tmps, dd, q3, _⟩ := s.rel.lps b r hb
    exact hno _ (fun he => by rw [he] at q3; cases q3)
  refine ⟨ms, h1, h2, fun d hd => (h3 d hd).2.2, ⟨fun b cs hb => ?_, s.rel.inj, fun k hk => by rw [g1]; exact s.rel.sz k hk, s.rel.lps_keep (fun _ h => h) hfix (fun _ _ => rfl) (fun _ hb => hb) hshp hl (fun _ _ _ h => h), s.rel.linj⟩,
    ⟨s.rl.1, fun i x v e1 e2 => hup (s.rl.2 i x v e1 e2)⟩, ⟨s.ext.S, s.ext.newS, s.ext.φ, s.ext.dom, s.ext.next, by rw [g2]; exact s.ext.os, by rw [g3]; exact s.ext.tape, by rw [g4]; exact s.ext.output, by rw [g1]; exact s.ext.size,
      fun k hk e1 e2 => (g5 k fun hm => by have := (h3 k hm).1; omega).trans (s.ext.frame k hk e1 e2), fun k C e hk => ?_, s.ext.origin, s.ext.lorigin, fun a => ?_⟩⟩
  · obtain ⟨q1, q2, C, e, q3, q4, q5⟩ := s.rel.own b cs hb
    exact ⟨q1, q2, C, e, by rw [hno _ (fun he => by rw [he] at q3; cases q3)]; exact q3, q4, fun j x v e1 e2 => hup (q5 j x v e1 e2)⟩
  · obtain ⟨C1, e1, e2⟩ := s.ext.shp k C e hk
    obtain ⟨C2, e3, e4⟩ := hshp k C1 e e1
    exact ⟨C2, e3, e4.trans e2⟩
  · rw [← s.ext.fz a]
    unfold World.frozen?
    by_cases ha : a.block ∈ ms
    · have q1 := (h3 _ ha).2.2
      rw [q1]
      have q2 : ∀ (ms : List Nat) (w : World), a.block ∈ ms → a.block < w.heap.size → (shutAll ms w).heap[a.block]? = some (.deferred none) ∨ ∃ x, (shutAll ms w).heap[a.block]? = some (.deferred x) := by
        intro ms
        induction ms with
        | nil => intro w h; cases h
        | cons d ms ih =>
          intro w hm hlt
          by_cases hin : a.block ∈ ms
          · exact ih _ hin (by rw [World.putObj_size]; exact hlt)
          · have hd : a.block = d := by rcases List.mem_cons.1 hm with h | h; exact h; exact absurd h hin
            refine .inl ?_
            show (shutAll ms (w.putObj d (.deferred none))).heap[a.block]? = _
            rw [(shutAll_other ms _).2.2.2.2 _ hin, hd]
            exact World.putObj_heap_same (by rw [← hd]; exact hlt)
      rcases q2 ms w ha (Array.getElem?_eq_some_iff.1 q1).1 with q3 | ⟨x, q3⟩
      · rw [q3]
      · rw [q3]
    · rw [g5 _ ha]
end

end Go.Pe
