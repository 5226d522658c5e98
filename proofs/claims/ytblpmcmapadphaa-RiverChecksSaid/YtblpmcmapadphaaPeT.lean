/- A round of a loop over a function. -/
import Derived.Test.YtblpmcmapadphaaPeO
set_option linter.unusedVariables false
set_option linter.unusedSimpArgs false
namespace Go.Pe
open Go

/-- The slots that a round begins with. -/
def putPs (ρ : List AV) (ps : List Tmp) (args : List AV) : List AV := (ps.zip args).foldl (fun ρ p => ρ.set p.1 p.2) ρ

theorem RL_set {c : Cx} {w : World} {D : Nat → Prop} {ρ : List AV} {tmps : Array Value} (h : RL c w D ρ tmps) (d : Nat) {x : AV} {v : Value} (hx : R c w D x v) : RL c w D (ρ.set d x) (tmps.setIfInBounds d v) :=
  RL_put (a := { tmps := tmps, defers := [] }) (some d) h hx
theorem RL_putPs {c : Cx} {w : World} {D : Nat → Prop} : ∀ (ps : List Tmp) (args : List AV) (vs : List Value) (ρ : List AV) (tmps : Array Value), RL c w D ρ tmps → args.length = vs.length → (∀ (i : Nat) (x : AV) (v : Value), args[i]? = some x → vs[i]? = some v → R c w D x v) →
    RL c w D (putPs ρ ps args) ((ps.zip vs).foldl (fun t (p, v) => t.setIfInBounds p v) tmps)
  | [], _, _, ρ, tmps, h, _, _ => h
  | _ :: _, [], [], ρ, tmps, h, _, _ => h
  | _ :: _, [], _ :: _, _, _, _, h, _ => by simp at h
  | _ :: _, _ :: _, [], _, _, _, h, _ => by simp at h
  | p :: ps, x :: args, v :: vs, ρ, tmps, h, hl, hR => by
    simp only [putPs, List.zip_cons_cons, List.foldl_cons]
    exact RL_putPs ps args vs _ _ (RL_set h p (hR 0 x v rfl rfl)) (by simpa using hl) (fun i x v h1 h2 => hR (i + 1) x v h1 h2)

/-- What a round must come to. -/
def FinR (b : Nat) (x : AV) (h' : H) (e : Exit) (h2 : H) : Prop :=
  ∃ r2, h2.lp b = some r2 ∧ match e with
    | .normal => x = .val (.bool true) ∧ h' = h2.lset b (some { r2 with st := .ready, pend := none })
    | .ret => x = .val (.bool false) ∧ h' = h2.lset b (some { r2 with st := .done, pend := some .ret })
    | .exit id => x = .val (.bool false) ∧ h' = h2.lset b (some { r2 with st := .done, pend := some (.exit id) })
    | _ => False

theorem Rd.of_vcE {P : Program} (md : Oper → Bool) {b : Nat} {r : Lp} {args : List AV} {h h' : H} {x : AV} (hb : h.lp b = some r) (hlen : args.length = r.ps.size)
    (hv : vcE P md (some b) r.assign (fun e ρ1 h1 => e = .normal ∧ ∃ r1, h1.lp b = some r1 ∧ r1.st = .ready ∧ vcE P md (some b) r.body (fun e ρ2 h2 => FinR b x h' e h2) ρ1 (h1.lset b (some { r1 with st := .busy }))) (putPs r.ρ r.ps.toList args) h) :
    Rd P b args h x h' := by
  intro n c D w vs hr hD hfr hargs
  obtain ⟨_, _, fn, tmps, dd, hblk, hρ⟩ := hr.lps b r hb
  refine ⟨fn, _, r.assign, r.body, run_yield hblk (by simp only; rw [← hlen, hargs.1]), roundIn_of_wpIn trivial ?_⟩
  refine wpIn_mono (vcE_sound (md := md) (r := some (c.φ b)) (rd := some b) (n := n) (D0 := D) (h0 := h) (c0 := c) (w0 := w) hfr ⟨hD, rfl⟩ r.assign _ _ h _ w c D hv ⟨hr, ?_, Ext.refl D h c w, Marks.of_nil rfl, fun b hb => .inl hb⟩) ?_
  · have := RL_putPs (c := c) (w := w) (D := D) r.ps.toList args vs.toList r.ρ tmps hρ (by simp [hargs.1]) (fun i x v h1 h2 => hargs.2 i x v h1 (by simpa using h2))
    rw [← Array.foldl_toList, Array.toList_zip]
    exact this
  · rintro e a1 w1 ⟨ρ1, h1, c1, D1, ⟨rfl, r1, hb1, hst1, hv1⟩, s1⟩
    obtain ⟨hD1, _, fn1, tmps1, dd1, hblk1, hρ1⟩ := s1.rel.lps b r1 hb1
    have hφ1 : c1.φ b = c.φ b := s1.ext.φ b hD
    obtain ⟨q1, q2⟩ := lset_ok (b := b) (rec := { state := .busy, pending := r1.pend, fn := fn1, tmps := tmps1, params := r1.ps, assign := r1.assign, body := r1.body, defers := dd1 }) s1.rel hb1 (some { r1 with st := .busy })
      (fun r hr => by cases hr; exact ⟨rfl, rfl, rfl, rfl, rfl, hρ1⟩)
    rw [hφ1] at hblk1 q1 q2
    refine ⟨_, run_beginRound hblk1 hst1, ?_⟩
    refine wpIn_mono (vcE_sound (md := md) (r := some (c.φ b)) (rd := some b) (n := n) (D0 := D) (h0 := h) (c0 := c) (w0 := w) hfr ⟨hD, rfl⟩ r.body _ ρ1 _ a1 _ c1 D1 hv1
      ⟨q1, q2.list s1.rel s1.rl, s1.ext.trans q2, s1.defers.step s1.rel q2, s1.dom⟩) ?_
    rintro e a2 w2 ⟨ρ2, h2, c2, D2, ⟨r2, hb2, hq⟩, s2⟩
    obtain ⟨hD2, _, fn2, tmps2, dd2, hblk2, hρ2⟩ := s2.rel.lps b r2 hb2
    have hφ2 : c2.φ b = c.φ b := s2.ext.φ b hD
    have fin : ∀ (jump : Option Code) (st : LoopState), (if jump.isNone then LoopState.ready else LoopState.done) = st → x = .val (.bool jump.isNone) → h' = h2.lset b (some { r2 with st := st, pend := jump }) →
        ∃ v w', (Instr.endRound (c.φ b) jump).run P w2 = .ok v w' ∧ ∃ v' c' D', Ending.returned v = .returned v' ∧ R c' w' D' x v' ∧ Rel c' D' h' w' ∧ Ext D h c w D' c' w' h' ∧ ∀ q, D' q → D q ∨ (h.next ≤ q ∧ q < h'.next) := fun jump st hst hx hh => by
      subst hst; subst hx; subst hh
      obtain ⟨p1, p2⟩ := lset_ok (b := b) (rec := { state := if jump.isNone then .ready else .done, pending := jump, fn := fn2, tmps := tmps2, params := r2.ps, assign := r2.assign, body := r2.body, defers := dd2 }) s2.rel hb2 (some { r2 with st := if jump.isNone then .ready else .done, pend := jump })
        (fun r hr => by cases hr; exact ⟨rfl, rfl, rfl, rfl, rfl, hρ2⟩)
      rw [hφ2] at hblk2 p1 p2
      exact ⟨_, _, run_endRound jump hblk2, _, c2, D2, rfl, .val _, p1, s2.ext.trans p2, s2.dom⟩
    cases e with
    | normal => exact fin none .ready rfl hq.1 hq.2
    | ret => exact fin (some .ret) .done rfl hq.1 hq.2
    | exit id => exact fin (some (.exit id)) .done rfl hq.1 hq.2
    | goto l => exact hq.elim
    | panic ch => exact hq.elim
    | outgrown => exact hq.elim

end Go.Pe
