/- A contract over a heap of one block holds beside any heap that has such a block. -/
import Derived.Test.YtblpmcmapadphaaPeS
set_option linter.unusedVariables false
set_option linter.unusedSimpArgs false
namespace Go.Pe
open Go

def H.one (cs : List AV) : H := { next := 1, get := fun q => if q = 0 then some cs else none, lp := fun _ => none }
theorem one_get {cs : List AV} {q : Nat} : (H.one cs).get q = if q = 0 then some cs else none := rfl
theorem one_next {cs : List AV} : (H.one cs).next = 1 := rfl

/-- The block b is called 0. -/
def re (b : Nat) : AV → AV
  | .ptr q o => if q = b then .ptr 0 o else .ptr q o
  | x => x
def reOk (b : Nat) : AV → Bool
  | .ptr q _ => q == b
  | x => cleanD x

theorem Fn.beside1 {P : Program} {f : FuncId} {args args' : List AV} {x : AV} {cs cs' : List AV} {h : H} {b : Nat} (h0 : Fn P f args' (.one cs) x (.one cs')) (hb : h.get b = some cs) (ha : args' = args.map (re b)) (hok : args.all (reOk b) = true) (hcs : cs.all clean = true) (hcs' : cs'.all clean = true) (hx : cleanD x = true) :
    Fn P f args h x (h.set b cs') := by
  refine ⟨h0.1, fun n c D w vs hr hfr hargs => ?_⟩
  obtain ⟨o1, o2, C, e, o3, o4, o5⟩ := hr.own b cs hb
  obtain ⟨c1, hc1⟩ : ∃ c1 : Cx, c1 = { S := c.S, φ := fun _ => c.φ b } := ⟨_, rfl⟩
  have hlow : ∀ {y : AV} {u : Value}, R c w noId y u → R c1 w (fun q => q = 0) y u := fun hy => by
    subst hc1
    exact hy.mono (fun _ hk => hk) (fun _ _ => rfl) (fun _ hb => hb.elim) (fun _ hb => hb.elim) (fun _ C _ hk => ⟨C, hk, rfl⟩)
  have hget : ∀ {q ds}, (H.one cs).get q = some ds → q = 0 ∧ ds = cs := fun {q ds} hq => by
    simp only [one_get] at hq; split at hq
    · rename_i h1; cases hq; exact ⟨h1, rfl⟩
    · cases hq
  have hrel : Rel c1 (fun q => q = 0) (.one cs) w := ⟨fun q ds hq => by
    obtain ⟨rfl, rfl⟩ := hget hq
    refine ⟨rfl, by subst hc1; exact o2, C, e, by subst hc1; exact o3, o4, fun j y u e1 e2 => hlow (clean_R (o5 j y u e1 e2) ((List.all_eq_true.1 hcs) y (List.mem_of_getElem? e1)))⟩,
    fun q q' _ _ hq hq' _ => by rw [(hget hq).1, (hget hq').1], by subst hc1; exact hr.sz, (fun q r hq => by simp [H.one] at hq), (fun q q' _ _ hq => by simp [H.one] at hq)⟩
  have hal : RL c1 w (fun q => q = 0) args' vs := by
    subst ha
    refine ⟨by simpa using hargs.1, fun i y u e1 e2 => ?_⟩
    rw [List.getElem?_map] at e1
    cases hy : args[i]? with
    | none => simp [hy] at e1
    | some z =>
      simp only [hy, Option.map_some, Option.some.injEq] at e1
      subst e1
      have hz := hargs.2 i z u hy e2
      have ho := (List.all_eq_true.1 hok) z (List.mem_of_getElem? hy)
      have key : cleanD z = true → re b z = z → R c1 w (fun q => q = 0) (re b z) u := fun h1 h2 => by rw [h2]; exact hlow (cleanD_R hz h1)
      cases z with
      | ptr q o =>
        simp only [reOk, beq_iff_eq] at ho
        subst ho
        simp only [re, if_true]
        cases hz with
        | ptr hq =>
          have : R c1 w (fun q => q = 0) (.ptr 0 o) (.pointer (some ⟨c1.φ 0, o, none⟩)) := .ptr rfl
          subst hc1; exact this
      | _ => exact key ho rfl
  refine (h0.2 n c1 (fun q => q = 0) w vs hrel (fun q hq h => by simp only [one_next] at hq; omega) hal).mono ?_
  rintro ee w' ⟨v, c', D', rfl, h2, h3, h4, h5⟩
  have hD' : ∀ q, D' q → q = 0 := fun q hq => by
    rcases h5 q hq with h6 | h6
    · exact h6
    · simp only [one_next] at h6; omega
  have hφ : c'.φ 0 = c.φ b := by have := h4.φ 0 rfl; rw [this]; subst hc1; rfl
  have hfr' : ∀ k, k < w.heap.size → k ≠ c.φ b → w'.heap[k]? = w.heap[k]? := fun k hk hne => h4.frame k hk (fun q ds hq => by subst hc1; exact fun h => hne h.symm) (fun q r hq => by simp [H.one] at hq)
  have hS0 : ∀ k, c.S k → c'.S k := fun k hk => h4.S k (by subst hc1; exact hk)
  have hnS : ∀ k, c.S k → k ≠ c.φ b := fun k hk hne => o2 (hne ▸ hk)
  have hS' : ∀ k, c'.S k → c.S k ∨ w.heap.size ≤ k ∨ k = c.φ b := fun k hk => by
    rcases h4.newS k hk with h6 | h6 | ⟨q, ds, _, h7⟩
    · exact .inl (by subst hc1; exact h6)
    · exact .inr (.inl h6)
    · exact .inr (.inr (by subst hc1; exact h7.symm))
  have hup : ∀ {y : AV} {u : Value}, R c' w' noId y u → R { S := c'.S, φ := c.φ } w' D y u := fun hy =>
    hy.mono (fun _ hk => hk) (fun _ _ => rfl) (fun _ hb => hb.elim) (fun _ hb => hb.elim) (fun _ C _ hk => ⟨C, hk, rfl⟩)
  refine ⟨v, { S := c'.S, φ := c.φ }, D, rfl, hup (cleanD_R h2 hx), ⟨fun q ds hq => ?_, fun q q' ds ds' hq hq' he => ?_, h3.sz, hr.lps_keep hS0 (fun k hk => hfr' k (hr.sz k hk) (hnS k hk)) (fun _ _ => rfl) (fun _ hb => hb) h4.shp (fun q r hq => hfr' _ (hr.lp_lt hq) (hr.apart (b' := b) hq o3)) (fun q r hq hS => by
      rcases hS' _ hS with h6 | h6 | h6
      · exact h6
      · have := hr.lp_lt hq; omega
      · exact (hr.apart (b' := b) hq o3 h6).elim), hr.linj⟩,
    ⟨hS0, fun k hk => ?_, fun _ _ => rfl, fun _ hb => hb, Nat.le_refl _, h4.os, h4.tape, h4.output, h4.size, fun k hk hne _ => hfr' k hk fun h => hne b cs hb h.symm, h4.shp, fun q ds hq => .inl ?_, fun q r hq => .inl ⟨q, r, hq, rfl⟩, h4.fz⟩, fun q hq => .inl hq⟩
  · simp only [H.set] at hq
    split at hq
    · rename_i hqb
      subst hqb
      cases hq
      obtain ⟨p1, p2, C', e', p3, p4, p5⟩ := h3.own 0 cs' (by simp [one_get])
      rw [hφ] at p2 p3
      exact ⟨o1, p2, C', e', p3, p4, fun j y u e1 e2 => hup (clean_R (p5 j y u e1 e2) ((List.all_eq_true.1 hcs') y (List.mem_of_getElem? e1)))⟩
    · rename_i hqb
      obtain ⟨q1, q2, C2, e2', q3, q4, q5⟩ := hr.own q ds hq
      have hlt := (Array.getElem?_eq_some_iff.1 q3).1
      have hne : c.φ q ≠ c.φ b := fun he => hqb (hr.inj q b ds cs hq hb he)
      refine ⟨q1, fun hS => ?_, C2, e2', by rw [hfr' _ hlt hne]; exact q3, q4, fun j y u e1 e2 => (q5 j y u e1 e2).mono hS0 (fun k hk => hfr' k (hr.sz k hk) (hnS k hk)) (fun _ _ => rfl) (fun _ hb => hb) h4.shp⟩
      rcases hS' _ hS with h6 | h6 | h6
      · exact q2 h6
      · exact absurd hlt (Nat.not_lt.2 h6)
      · exact hne h6
  · have hh : ∀ {q ds}, (h.set b cs').get q = some ds → ∃ ds', h.get q = some ds' := fun {q ds} hq => by
      simp only [H.set] at hq
      split at hq
      · rename_i hqb; exact ⟨cs, hqb ▸ hb⟩
      · exact ⟨ds, hq⟩
    obtain ⟨d1, e1⟩ := hh hq
    obtain ⟨d2, e2⟩ := hh hq'
    exact hr.inj q q' d1 d2 e1 e2 he
  · rcases hS' k hk with h6 | h6 | h6
    · exact .inl h6
    · exact .inr (.inl h6)
    · exact .inr (.inr ⟨b, cs, hb, h6.symm⟩)
  · simp only [H.set] at hq
    split at hq
    · rename_i hqb; exact ⟨b, cs, hb, by rw [hqb]⟩
    · exact ⟨q, ds, hq, rfl⟩

/-- A FUNCTION THAT WRITES ONE BLOCK. -/
def FinW (P : Program) (fn : Func) (x : AV) (cs' : List AV) (e : Exit) (ρ : List AV) (hh : H) : Prop :=
  match e with
  | .normal | .ret => ∃ y, resA P fn.results ρ hh = some y ∧ (∃ k, frz k hh 1 y = some x) ∧ hh.get 0 = some cs'
  | _ => False
theorem Fn.write {P : Program} {f : FuncId} {fn : Func} {code : Code} (md : Oper → Bool) (ct : Nat → Cert) {args : List AV} {cs cs' : List AV} {x : AV} (hcall : callable P f = true) (hf : P.funcs[f]? = some fn) (hb : fn.body = some code) (hd : drawsOk P ct code = true) (hcs' : cs'.all clean1 = true)
    (hv : ap (vc P md ct none code (FinW P fn x cs')) .mk (args ++ List.replicate (fn.ntmps - args.length) (.val undef)) (.one cs)) : Fn P f args (.one cs) x (.one cs') := by
  refine Fn.of_vc_gen md ct hcall hf hb rfl hd (fun _ e ρ hh hk => ?_) (fun _ => hv)
  have go : ∀ {e}, FinW P fn x cs' e ρ hh → (e = .normal ∨ e = .ret) → ∃ y k, resA P fn.results ρ hh = some y ∧ frz k hh (H.one cs).next y = some x ∧ (∀ b cs2, (H.one cs').get b = some cs2 → ∃ ds k, hh.get b = some ds ∧ b < (H.one cs).next ∧ ds.mapM (frz k hh (H.one cs).next) = some cs2) ∧
      ∀ b r, (H.one cs').lp b = some r → hh.lp b = some r ∧ b < (H.one cs).next ∧ ∃ k, r.ρ.mapM (frz k hh (H.one cs).next) = some r.ρ := fun {e} hk he => by
    have hk' : ∃ y, resA P fn.results ρ hh = some y ∧ (∃ k, frz k hh 1 y = some x) ∧ hh.get 0 = some cs' := by rcases he with rfl | rfl <;> exact hk
    obtain ⟨y, h1, ⟨k, h2⟩, h3⟩ := hk'
    refine ⟨y, k, h1, h2, fun b cs2 hb => ?_, fun b r hb => by simp [H.one] at hb⟩
    simp only [one_get] at hb
    split at hb
    · rename_i hb0; subst hb0; cases hb
      exact ⟨cs', 1, h3, by simp [one_next], on_frzl hcs'⟩
    · cases hb
  cases e with
  | normal => exact go hk (.inl rfl)
  | ret => exact go hk (.inr rfl)
  | _ => exact hk.elim
theorem ap_finw_ret {P : Program} {fn : Func} {x : AV} {cs' : List AV} {ρ : List AV} {h : H} {t : Tag (FinW P fn x cs' .ret)} : ap (FinW P fn x cs' .ret) t ρ h = onSome (resA P fn.results ρ h) (fun y => (∃ k, frz k h 1 y = some x) ∧ h.get 0 = some cs') .mk := by
  unfold ap FinW onSome; cases resA P fn.results ρ h <;> simp
theorem ap_finw_normal {P : Program} {fn : Func} {x : AV} {cs' : List AV} {ρ : List AV} {h : H} {t : Tag (FinW P fn x cs' .normal)} : ap (FinW P fn x cs' .normal) t ρ h = onSome (resA P fn.results ρ h) (fun y => (∃ k, frz k h 1 y = some x) ∧ h.get 0 = some cs') .mk := by
  unfold ap FinW onSome; cases resA P fn.results ρ h <;> simp

end Go.Pe
