import Derived.Test.YtffckclggkjbgaaGreatY09
set_option linter.unusedVariables false
set_option linter.unusedSimpArgs false
/- A contract over a heap of one block holds beside any heap that has such a block. -/
namespace Go.Pe
open Go

def H.one (cs : List AV) : H := { next := 1, get := fun q => if q = 0 then some cs else none, lp := fun _ => none }
theorem one_get {cs : List AV} {q : Nat} : (H.one cs).get q = if q = 0 then some cs else none := rfl
theorem one_next {cs : List AV} : (H.one cs).next = 1 := rfl

/-- The block b is called 0. -/
def re (b : Nat) : AV → AV
  | .ptr q o => if q = b then .ptr 0 o else .ptr q o
  | x => x
def reOk (b : Nat) : AV → Bool
  | .ptr q _ => q == b
  | x => cleanD x

theorem Fn.beside1 {P : Program} {f : FuncId} {args args' : List AV} {x : AV} {cs cs' : List AV} {h : H} {b : Nat} (h0 : Fn P f args' (.one cs) x (.one cs')) (hb : h.get b = some cs) (ha : args' = args.map (re b)) (hok : args.all (reOk b) = true) (hcs : cs.all clean = true) (hcs' : cs'.all clean = true) (hx : cleanD x = true) :
    Fn P f args h x (h.set b cs') := by
  refine ⟨h0.1, fun n c D w vs hr hfr hargs => ?_⟩
  obtain ⟨o1, o2, C, e, o3, o4, o5⟩ := hr.own b cs hb
  obtain ⟨c1, hc1⟩ : ∃ c1 : Cx, c1 = { S := c.S, φ := fun _ => c.φ b } := ⟨_, rfl⟩
  have hlow : ∀ {y : AV} {u : Value}, R c w noId y u → R c1 w (fun q => q = 0) y u := fun hy => by
    subst hc1
    exact hy.mono (fun _ hk => hk) (fun _ _ => rfl) (fun _ hb => hb.elim) (fun _ hb => hb.elim) (fun _ C _ hk => ⟨C, hk, rfl⟩)
  have hget : ∀ {q ds}, (H.one cs).get q = some ds → q = 0 ∧ ds = cs := fun {q ds} hq => by
    simp only [one_get] at hq; split at hq
    · rename_i h1; cases hq; exact ⟨h1, rfl⟩
    · cases hq
  have hrel : Rel c1 (fun q => q = 0) (.one cs) w := ⟨fun q ds hq => by
    obtain ⟨rfl, rfl⟩ := hget hq
    refine ⟨rfl, by subst hc1; exact o2, C, e, by subst hc1; exact o3, o4, fun j y u e1 e2 => hlow (clean_R (o5 j y u e1 e2) ((List.all_eq_true.1 hcs) y (List.mem_of_getElem? e1)))⟩,
    fun q q' _ _ hq hq' _ => by rw [(hget hq).1, (hget hq').1], by subst hc1; exact hr.sz, (fun q r hq => by simp [H.one] at hq), (fun q q' _ _ hq => by simp [H.one] at hq)⟩
  have hal : RL c1 w (fun q => q = 0) args' vs := by
    subst ha
    refine ⟨by simpa using hargs.1, fun i y u e1 e2 => ?_⟩
    rw [List.getElem?_map] at e1
    cases hy : args[i]? with
    | none => simp [hy] at e1
    | some z =>
      simp only [hy, Option.map_some, Option.some.injEq] at e1
      subst e1
      have hz := hargs.2 i z u hy e2
      have ho := (List.all_eq_true.1 hok) z (List.mem_of_getElem? hy)
      have key : cleanD z = true → re b z = z → R c1 w (fun q => q = 0) (re b z) u := fun h1 h2 => by rw [h2]; exact hlow (cleanD_R hz h1)
      cases z with
      | ptr q o =>
        simp only [reOk, beq_iff_eq] at ho
        subst ho
        simp only [re, if_true]
        cases hz with
        | ptr hq =>
          have : R c1 w (fun q => q = 0) (.ptr 0 o) (.pointer (some ⟨c1.φ 0, o, none⟩)) := .ptr rfl
          subst hc1; exact this
      | _ => exact key ho rfl
  refine (h0.2 n c1 (fun q => q = 0) w vs hrel (fun q hq h => by simp only [one_next] at hq; omega) hal).mono ?_
  rintro ee w' ⟨v, c', D', rfl, h2, h3, h4, h5⟩
  have hD' : ∀ q, D' q → q = 0 := fun q hq => by
    rcases h5 q hq with h6 | h6
    · exact h6
    · simp only [one_next] at h6; omega
  have hφ : c'.φ 0 = c.φ b := by have := h4.φ 0 rfl; rw [this]; subst hc1; rfl
  have hfr' : ∀ k, k < w.heap.size → k ≠ c.φ b → w'.heap[k]? = w.heap[k]? := fun k hk hne => h4.frame k hk (fun q ds hq => by subst hc1; exact fun h => hne h.symm) (fun q r hq => by simp [H.one] at hq)
  have hS0 : ∀ k, c.S k → c'.S k := fun k hk => h4.S k (by subst hc1; exact hk)
  have hnS : ∀ k, c.S k → k ≠ c.φ b := fun k hk hne => o2 (hne ▸ hk)
  have hS' : ∀ k, c'.S k → c.S k ∨ w.heap.size ≤ k ∨ k = c.φ b := fun k hk => by
    rcases h4.newS k hk with h6 | h6 | ⟨q, ds, _, h7⟩
    · exact .inl (by subst hc1; exact h6)
    · exact .inr (.inl h6)
    · exact .inr (.inr (by subst hc1; exact h7.symm))
  have hup : ∀ {y : AV} {u : Value}, R c' w' noId y u → R { S := c'.S, φ := c.φ } w' D y u := fun hy =>
    hy.mono (fun _ hk => hk) (fun _ _ => rfl) (fun _ hb => hb.elim) (fun _ hb => hb.elim) (fun _ C _ hk => ⟨C, hk, rfl⟩)
  refine ⟨v, { S := c'.S, φ := c.φ }, D, rfl, hup (cleanD_R h2 hx), ⟨fun q ds hq => ?_, fun q q' ds ds' hq hq' he => ?_, h3.sz, hr.lps_keep hS0 (fun k hk => hfr' k (hr.sz k hk) (hnS k hk)) (fun _ _ => rfl) (fun _ hb => hb) h4.shp (fun q r hq => hfr' _ (hr.lp_lt hq) (hr.apart (b' := b) hq o3)) (fun q r hq hS => by
      rcases hS' _ hS with h6 | h6 | h6
      · exact h6
      · have := hr.lp_lt hq; omega
      · exact (hr.apart (b' := b) hq o3 h6).elim), hr.linj⟩,
    ⟨hS0, fun k hk => ?_, fun _ _ => rfl, fun _ hb => hb, Nat.le_refl _, h4.os, h4.tape, h4.output, h4.size, fun k hk hne _ => hfr' k hk fun h => hne b cs hb h.symm, h4.shp, fun q ds hq => .inl ?_, fun q r hq => .inl ⟨q, r, hq, rfl⟩, h4.fz⟩, fun q hq => .inl hq⟩
  · simp only [H.set] at hq
    split at hq
    · rename_i hqb
      subst hqb
      cases hq
      obtain ⟨p1, p2, C', e', p3, p4, p5⟩ := h3.own 0 cs' (by simp [one_get])
      rw [hφ] at p2 p3
      exact ⟨o1, p2, C', e', p3, p4, fun j y u e1 e2 => hup (clean_R (p5 j y u e1 e2) ((List.all_eq_true.1 hcs') y (List.mem_of_getElem? e1)))⟩
    · rename_i hqb
      obtain ⟨q1, q2, C2, e2', q3, q4, q5⟩ := hr.own q ds hq
      have hlt := (Array.getElem?_eq_some_iff.1 q3).1
      have hne : c.φ q ≠ c.φ b := fun he => hqb (hr.inj q b ds cs hq hb he)
      refine ⟨q1, fun hS => ?_, C2, e2', by rw [hfr' _ hlt hne]; exact q3, q4, fun j y u e1 e2 => (q5 j y u e1 e2).mono hS0 (fun k hk => hfr' k (hr.sz k hk) (hnS k hk)) (fun _ _ => rfl) (fun _ hb => hb) h4.shp⟩
      rcases hS' _ hS with h6 | h6 | h6
      · exact q2 h6
      · exact absurd hlt (Nat.not_lt.2 h6)
      · exact hne h6
  · have hh : ∀ {q ds}, (h.set b cs').get q = some ds → ∃ ds', h.get q = some ds' := fun {q ds} hq => by
      simp only [H.set] at hq
      split at hq
      · rename_i hqb; exact ⟨cs, hqb ▸ hb⟩
      · exact ⟨ds, hq⟩
    obtain ⟨d1, e1⟩ := hh hq
    obtain ⟨d2, e2⟩ := hh hq'
    exact hr.inj q q' d1 d2 e1 e2 he
  · rcases hS' k hk with h6 | h6 | h6
    · exact .inl h6
    · exact .inr (.inl h6)
    · exact .inr (.inr ⟨b, cs, hb, h6.symm⟩)
  · simp only [H.set] at hq
    split at hq
    · rename_i hqb; exact ⟨b, cs, hb, by rw [hqb]⟩
    · exact ⟨q, ds, hq, rfl⟩

/-- A FUNCTION THAT WRITES ONE BLOCK. -/
def FinW (P : Program) (fn : Func) (x : AV) (cs' : List AV) (e : Exit) (ρ : List AV) (hh : H) : Prop :=
  match e with
  | .normal | .ret => ∃ y, resA P fn.results ρ hh = some y ∧ (∃ k, frz k hh 1 y = some x) ∧ hh.get 0 = some cs'
  | _ => False
theorem Fn.write {P : Program} {f : FuncId} {fn : Func} {code : Code} (md : Oper → Bool) (ct : Nat → Cert) {args : List AV} {cs cs' : List AV} {x : AV} (hcall : callable P f = true) (hf : P.funcs[f]? = some fn) (hb : fn.body = some code) (hd : drawsOk P ct code = true) (hcs' : cs'.all clean1 = true)
    (hv : ap (vc P md ct none code (FinW P fn x cs')) .mk (args ++ List.replicate (fn.ntmps - args.length) (.val undef)) (.one cs)) : Fn P f args (.one cs) x (.one cs') := by
  refine Fn.of_vc_gen md ct hcall hf hb rfl hd (fun _ e ρ hh hk => ?_) (fun _ => hv)
  have go : ∀ {e}, FinW P fn x cs' e ρ hh → (e = .normal ∨ e = .ret) → ∃ y k, resA P fn.results ρ hh = some y ∧ frz k hh (H.one cs).next y = some x ∧ (∀ b cs2, (H.one cs').get b = some cs2 → ∃ ds k, hh.get b = some ds ∧ b < (H.one cs).next ∧ ds.mapM (frz k hh (H.one cs).next) = some cs2) ∧
      ∀ b r, (H.one cs').lp b = some r → hh.lp b = some r ∧ b < (H.one cs).next ∧ ∃ k, r.ρ.mapM (frz k hh (H.one cs).next) = some r.ρ := fun {e} hk he => by
    have hk' : ∃ y, resA P fn.results ρ hh = some y ∧ (∃ k, frz k hh 1 y = some x) ∧ hh.get 0 = some cs' := by rcases he with rfl | rfl <;> exact hk
    obtain ⟨y, h1, ⟨k, h2⟩, h3⟩ := hk'
    refine ⟨y, k, h1, h2, fun b cs2 hb => ?_, fun b r hb => by simp [H.one] at hb⟩
    simp only [one_get] at hb
    split at hb
    · rename_i hb0; subst hb0; cases hb
      exact ⟨cs', 1, h3, by simp [one_next], on_frzl hcs'⟩
    · cases hb
  cases e with
  | normal => exact go hk (.inl rfl)
  | ret => exact go hk (.inr rfl)
  | _ => exact hk.elim
theorem ap_finw_ret {P : Program} {fn : Func} {x : AV} {cs' : List AV} {ρ : List AV} {h : H} {t : Tag (FinW P fn x cs' .ret)} : ap (FinW P fn x cs' .ret) t ρ h = onSome (resA P fn.results ρ h) (fun y => (∃ k, frz k h 1 y = some x) ∧ h.get 0 = some cs') .mk := by
  unfold ap FinW onSome; cases resA P fn.results ρ h <;> simp
theorem ap_finw_normal {P : Program} {fn : Func} {x : AV} {cs' : List AV} {ρ : List AV} {h : H} {t : Tag (FinW P fn x cs' .normal)} : ap (FinW P fn x cs' .normal) t ρ h = onSome (resA P fn.results ρ h) (fun y => (∃ k, frz k h 1 y = some x) ∧ h.get 0 = some cs') .mk := by
  unfold ap FinW onSome; cases resA P fn.results ρ h <;> simp

end Go.Pe

/- Slots by what is known of them; loops at whose rounds the blocks are named anew. -/
namespace Go.Pe
open Go

/-- What is known of a slot. -/
def lk (j : Nat → AV) (t : Nat) : List (Nat × AV) → AV
  | [] => j t
  | (q, x) :: e => if t = q then x else lk j t e
/-- The slots, by what is known of them; 'j': the others. -/
def en (N : Nat) (j : Nat → AV) (e : List (Nat × AV)) : List AV := (List.range N).map fun t => lk j t e
def en0 : Nat → List AV → List (Nat × AV)
  | _, [] => []
  | i, x :: l => (i, x) :: en0 (i + 1) l

section
variable {N t d q i : Nat} {j : Nat → AV} {e : List (Nat × AV)} {x : AV} {l : List AV}
theorem lk_hit : lk j t ((t, x) :: e) = x := by simp [lk]
theorem lk_miss (h : t ≠ q) : lk j t ((q, x) :: e) = lk j t e := by simp [lk, h]
theorem lk_nil : lk j t [] = j t := rfl
theorem en0_nil : en0 i [] = [] := rfl
theorem en0_cons : en0 i (x :: l) = (i, x) :: en0 (i + 1) l := rfl
theorem en_len : (en N j e).length = N := by simp [en]
theorem en_get? : (en N j e)[t]? = if t < N then some (lk j t e) else none := by
  unfold en
  by_cases h : t < N
  · simp [h]
  · simp [h, List.getElem?_eq_none]
theorem en_getD (h : t < N) : (en N j e).getD t (.val undef) = lk j t e := by simp [List.getD, en_get?, h]
theorem en_aev (h : t < N) : aev (en N j e) (.tmp t) = lk j t e := en_getD h
theorem en_set (h : d < N) : (en N j e).set d x = en N j ((d, x) :: e) := by
  apply List.ext_getElem?
  intro k
  rw [List.getElem?_set, en_get?, en_get?, en_len]
  by_cases hk : d = k
  · subst hk; simp [h, lk_hit]
  · rw [if_neg hk]
    by_cases hkN : k < N
    · rw [if_pos hkN, if_pos hkN, lk_miss (fun h => hk h.symm)]
    · rw [if_neg hkN, if_neg hkN]
theorem en_putA (h : d < N) : putA (en N j e) (some d) x = en N j ((d, x) :: e) := en_set h
theorem lk_en0 : ∀ {l : List AV} {i t : Nat}, i ≤ t → lk j t (en0 i l) = (l[t - i]?).getD (j t)
  | [], i, t, _ => by simp [en0, lk]
  | y :: l, i, t, h => by
    rw [en0_cons]
    by_cases ht : t = i
    · subst ht; simp [lk_hit]
    · rw [lk_miss ht, lk_en0 (by omega), show t - i = (t - (i + 1)) + 1 by omega, List.getElem?_cons_succ]
theorem en_start {args : List AV} (h : args.length ≤ N) : args ++ List.replicate (N - args.length) (.val undef) = en N (fun _ => .val undef) (en0 0 args) := by
  apply List.ext_getElem?
  intro k
  rw [en_get?]
  by_cases hk : k < N
  · rw [if_pos hk, lk_en0 (Nat.zero_le _)]
    by_cases ha : k < args.length
    · rw [List.getElem?_append_left ha, Nat.sub_zero, List.getElem?_eq_getElem ha]; rfl
    · rw [List.getElem?_append_right (by omega), List.getElem?_replicate, if_pos (by omega), Nat.sub_zero, List.getElem?_eq_none (by omega)]; rfl
  · rw [if_neg hk, List.getElem?_eq_none (by simp; omega)]
end

/-- The heap that has just these blocks ('none': a name without a block). -/
def mkH (bl : List (Option (List AV))) : H := { next := bl.length, get := fun q => (bl[q]?).join, lp := fun _ => none }
theorem mkH_nil : mkH [] = H.nil := rfl
theorem mkH_one {cs : List AV} : mkH [some cs] = H.one cs := by
  unfold mkH H.one
  congr 1
  funext q
  cases q with
  | zero => rfl
  | succ q => simp
theorem mkH_next {bl : List (Option (List AV))} : (mkH bl).next = bl.length := rfl
theorem mkH_get {bl : List (Option (List AV))} {q : Nat} : (mkH bl).get q = (bl[q]?).join := rfl
theorem mkH_lp {bl : List (Option (List AV))} : (mkH bl).lp = fun _ => none := rfl

/-- The new name of a block. -/
def rnI (b : Nat) : List Nat → Nat → Option Nat
  | [], _ => none
  | q :: l, i => if b = q then some i else rnI b l (i + 1)
theorem rnI_some {b k : Nat} : ∀ {l : List Nat} {i : Nat}, rnI b l i = some k → i ≤ k ∧ l[k - i]? = some b
  | [], i, h => by simp [rnI] at h
  | q :: l, i, h => by
    unfold rnI at h
    split at h
    · rename_i hb; cases h; subst hb; simp
    · obtain ⟨h1, h2⟩ := rnI_some h
      exact ⟨by omega, by rw [show k - i = (k - (i + 1)) + 1 by omega, List.getElem?_cons_succ]; exact h2⟩
def rn (bs : List Nat) : Nat → AV → Option AV
  | 0, _ => none
  | n + 1, x =>
    match x with
    | .val v => some (.val v)
    | .ro f k xs => some (.ro f k xs)
    | .rop cs => some (.rop cs)
    | .ptr b o => (rnI b bs 0).map fun b => .ptr b o
    | .sl b o len k => (rnI b bs 0).map fun b => .sl b o len k
    | .slc b o len k cap => (rnI b bs 0).map fun b => .slc b o len k cap
    | .agg l => (l.mapM (rn bs n)).map .agg
    | .tup l => (l.mapM (rn bs n)).map .tup
    | .clo f caps => (caps.mapM (rn bs n)).map (.clo f)
    | .yld _ => none

def Cx.named (c : Cx) (bs : List Nat) : Cx := { S := c.S, φ := fun q => match bs[q]? with | some b => c.φ b | none => 0 }

def Dn (D : Nat → Prop) (bs : List Nat) : Nat → Prop := fun q => ∃ b, bs[q]? = some b ∧ D b
theorem rn_R {c : Cx} {w : World} {D : Nat → Prop} {bs : List Nat} : ∀ (n : Nat) (x y : AV) (v : Value), R c w D x v → rn bs n x = some y → R (c.named bs) w (Dn D bs) y v := by
  intro n
  induction n with
  | zero => intro x y v _ h; cases h
  | succ n ih =>
    intro x y v hx hf
    have list : ∀ {l m : List AV} {cs : Array Value}, RL c w D l cs → l.mapM (rn bs n) = some m → RL (c.named bs) w (Dn D bs) m cs := fun hl hm => by
      obtain ⟨h1, h2⟩ := mapM_some hm
      refine ⟨by rw [hl.1, h1], fun i y u e1 e2 => ?_⟩
      have hi := (List.getElem?_eq_some_iff.1 e1).1
      rw [h1] at hi
      obtain ⟨y', e3, e4⟩ := h2 i _ (List.getElem?_eq_getElem hi)
      rw [e1] at e4; cases e4
      exact ih _ _ _ (hl.2 i _ u (List.getElem?_eq_getElem hi) e2) e3
    have low : ∀ {y : AV} {u : Value}, R c w noId y u → ∀ {D' : Nat → Prop}, R (c.named bs) w D' y u := fun hy => hy.mono (fun _ hk => hk) (fun _ _ => rfl) (fun _ hb => hb.elim) (fun _ hb => hb.elim) (fun _ C _ hk => ⟨C, hk, rfl⟩)
    have blk : ∀ {b k : Nat}, D b → rnI b bs 0 = some k → Dn D bs k ∧ (c.named bs).φ k = c.φ b := fun hb hk => by
      obtain ⟨_, h2⟩ := rnI_some hk
      rw [Nat.sub_zero] at h2
      exact ⟨⟨_, h2, hb⟩, by simp [Cx.named, h2]⟩
    simp only [rn] at hf
    cases hx with
    | val v => cases hf; exact .val v
    | ro cell hS hl hcc hff hk hcell ho hh => cases hf; exact .ro cell hS hl hcc hff hk hcell ho fun i j row x e1 e2 => low (hh i j row x e1 e2)
    | nil => cases hf; exact .nil
    | emp => cases hf; exact .emp
    | rop cell hS hcell hh => cases hf; exact .rop cell hS hcell fun j x e1 => low (hh j x e1)
    | agg hs hh =>
      obtain ⟨m, hm, rfl⟩ := Option.map_eq_some_iff.1 hf
      obtain ⟨g1, g2⟩ := list ⟨hs, hh⟩ hm
      exact .agg g1 g2
    | tup hs hh =>
      obtain ⟨m, hm, rfl⟩ := Option.map_eq_some_iff.1 hf
      obtain ⟨g1, g2⟩ := list ⟨hs, hh⟩ hm
      exact .tup g1 g2
    | clo hs hh =>
      obtain ⟨m, hm, rfl⟩ := Option.map_eq_some_iff.1 hf
      obtain ⟨g1, g2⟩ := list ⟨hs, hh⟩ hm
      exact .clo g1 g2
    | ptr hb =>
      obtain ⟨k, hk, rfl⟩ := Option.map_eq_some_iff.1 hf
      obtain ⟨g1, g2⟩ := blk hb hk
      rw [← g2]; exact .ptr g1
    | sl hb hc C e hblk hC =>
      obtain ⟨k, hk, rfl⟩ := Option.map_eq_some_iff.1 hf
      obtain ⟨g1, g2⟩ := blk hb hk
      rw [← g2] at hblk ⊢; exact .sl g1 hc C e hblk hC
    | slc hb hc C e hblk hC =>
      obtain ⟨k, hk, rfl⟩ := Option.map_eq_some_iff.1 hf
      obtain ⟨g1, g2⟩ := blk hb hk
      rw [← g2] at hblk ⊢; exact .slc g1 hc C e hblk hC
    | yld hb => cases hf

/-- The blocks that are kept, in their new order, and what they hold. -/
def MH (bs0 : List Nat) (h : H) : List Nat → List (Option (List AV)) → Prop
  | [], [] => True
  | b :: bs, some l :: bl => (∃ cs, h.get b = some cs ∧ cs.mapM (rn bs0 4) = some l) ∧ MH bs0 h bs bl
  | _ :: bs, none :: bl => MH bs0 h bs bl
  | _, _ => False
theorem MH_get {bs0 : List Nat} {h : H} : ∀ {bs : List Nat} {bl : List (Option (List AV))}, MH bs0 h bs bl → bs.length = bl.length ∧ ∀ (i : Nat) (l : List AV), bl[i]? = some (some l) → ∃ b cs, bs[i]? = some b ∧ h.get b = some cs ∧ cs.mapM (rn bs0 4) = some l
  | [], [], _ => ⟨rfl, fun i l h => by simp at h⟩
  | b :: bs, some l :: bl, hm => by
    obtain ⟨h1, h2⟩ := MH_get hm.2
    refine ⟨by simp [h1], fun i l' hi => ?_⟩
    cases i with
    | zero => simp at hi; subst hi; obtain ⟨cs, e1, e2⟩ := hm.1; exact ⟨b, cs, rfl, e1, e2⟩
    | succ i => simpa using h2 i l' (by simpa using hi)
  | b :: bs, none :: bl, hm => by
    obtain ⟨h1, h2⟩ := MH_get (bs := bs) (bl := bl) hm
    refine ⟨by simp [h1], fun i l' hi => ?_⟩
    cases i with
    | zero => simp at hi
    | succ i => simpa using h2 i l' (by simpa using hi)
  | [], _ :: _, h => h.elim
  | _ :: _, [], h => h.elim

def rnS (bs : List Nat) (j : Nat → AV) (ρ : List AV) : List AV := ρ.mapIdx fun i x => (rn bs 4 x).getD (j i)
/-- What holds when the blocks are named anew. -/
def Named (n0 : Nat) (Z : List AV → H → Prop) (ρ : List AV) (h : H) : Prop :=
  ∃ (bs : List Nat) (bl : List (Option (List AV))), bs.Nodup ∧ (∀ i, i < n0 → bs[i]? = some i) ∧ MH bs h bs bl ∧ ∀ j : Nat → AV, Z (rnS bs j ρ) (mkH bl)

section
variable {D0 : Nat → Prop} {h0 : H} {c0 : Cx} {w0 : World} (hf0 : ∀ b, h0.next ≤ b → ¬ D0 b)
include hf0
theorem St.named {ρ : List AV} {h : H} {a : Act} {w : World} {c : Cx} {D : Nat → Prop} {Z : List AV → H → Prop} (hz : Named h0.next Z ρ h) (s : St D0 h0 c0 w0 ρ h a w c D) : ∃ ρ' h' c' D', Z ρ' h' ∧ St D0 h0 c0 w0 ρ' h' a w c' D' := by
  obtain ⟨bs, bl, hnd, hlow, hm, hz⟩ := hz
  obtain ⟨hlen, hget⟩ := MH_get hm
  have blk : ∀ q b, bs[q]? = some b → (c.named bs).φ q = c.φ b := fun q b hb => by simp [Cx.named, hb]
  have own : ∀ q l, (mkH bl).get q = some l → ∃ b cs, bs[q]? = some b ∧ h.get b = some cs ∧ cs.mapM (rn bs 4) = some l := fun q l hq => by
    rw [mkH_get] at hq
    exact hget q l (by cases hb : bl[q]? with | none => simp [hb] at hq | some o => simp [hb] at hq; rw [hq])
  refine ⟨rnS bs (fun i => .val (a.tmps.getD i undef)) ρ, mkH bl, c.named bs, Dn D bs, hz _, ⟨fun q l hq => ?_, fun q q' l l' hq hq' he => ?_, s.rel.sz, fun b r hb => by simp [mkH] at hb, fun b b' r r' hb => by simp [mkH] at hb⟩, ⟨by simp [rnS, s.rl.1], fun i y u e1 e2 => ?_⟩, ?_, ?_, fun q hq => ?_⟩
  · obtain ⟨b, cs, e1, e2, e3⟩ := own q l hq
    obtain ⟨q1, q2, C, e, q3, q4, q5⟩ := s.rel.own b cs e2
    obtain ⟨m1, m2⟩ := mapM_some e3
    rw [blk q b e1]
    refine ⟨⟨b, e1, q1⟩, q2, C, e, q3, by rw [m1]; exact q4, fun k y u g1 g2 => ?_⟩
    have hk := (List.getElem?_eq_some_iff.1 g1).1
    rw [m1] at hk
    obtain ⟨y', g3, g4⟩ := m2 k _ (List.getElem?_eq_getElem hk)
    rw [g1] at g4; cases g4
    exact rn_R 4 _ _ _ (q5 k _ u (List.getElem?_eq_getElem hk) g2) g3
  · obtain ⟨b, cs, e1, e2, _⟩ := own q l hq
    obtain ⟨b', cs', e1', e2', _⟩ := own q' l' hq'
    rw [blk q b e1, blk q' b' e1'] at he
    have := s.rel.inj b b' cs cs' e2 e2' he
    subst this
    exact (List.getElem?_inj (List.getElem?_eq_some_iff.1 e1).1 hnd).1 (e1.trans e1'.symm)
  · simp only [rnS, List.getElem?_mapIdx] at e1
    cases hx : ρ[i]? with
    | none => simp [hx] at e1
    | some x =>
      simp only [hx, Option.map_some, Option.some.injEq] at e1
      cases hr : rn bs 4 x with
      | none =>
        rw [hr] at e1
        simp only [Option.getD_none] at e1
        subst e1
        have : a.tmps.getD i undef = u := by
          obtain ⟨hi, he⟩ := Array.getElem?_eq_some_iff.1 e2
          simp [Array.getD, hi, he]
        rw [this]; exact .val u
      | some y' =>
        rw [hr] at e1
        simp only [Option.getD_some] at e1
        subst e1
        exact rn_R 4 _ _ _ (s.rl.2 i x u hx e2) hr
  · have hn : h0.next ≤ bs.length := by
      by_cases h0n : h0.next = 0
      · omega
      · have := (List.getElem?_eq_some_iff.1 (hlow (h0.next - 1) (by omega))).1; omega
    have hlt : ∀ b, D0 b → b < h0.next := fun b hb => Nat.lt_of_not_le fun hle => hf0 b hle hb
    refine ⟨s.ext.S, s.ext.newS, fun b hb => ?_, fun b hb => ?_, by simp [mkH]; omega, s.ext.os, s.ext.tape, s.ext.output, s.ext.size, s.ext.frame, s.ext.shp, fun q l hq => ?_, fun b r hb => by simp [mkH] at hb, s.ext.fz⟩
    · rw [blk b b (hlow b (hlt b hb))]; exact s.ext.φ b hb
    · exact ⟨b, hlow b (hlt b hb), s.ext.dom b hb⟩
    · obtain ⟨b, cs, e1, e2, _⟩ := own q l hq
      rw [blk q b e1]; exact s.ext.origin b cs e2
  · obtain ⟨ms, m1, m2, m3⟩ := s.defers
    exact ⟨ms, m1, m2, m3⟩
  · obtain ⟨b, e1, hb⟩ := hq
    by_cases hq0 : q < h0.next
    · rw [hlow q hq0] at e1; cases e1
      rcases s.dom q hb with g | g
      · exact .inl g
      · omega
    · have := (List.getElem?_eq_some_iff.1 e1).1
      exact .inr ⟨by omega, by simp [mkH]; omega⟩
end

/-- One block alone. -/
def only (h : H) (b : Nat) : H := { next := h.next, get := fun q => if q = b then h.get q else none, lp := fun _ => none }
/-- A slice of the block 'b0', which will be written no more, becomes its rows. -/
def fzv (h : H) (b0 : Nat) (x : AV) : AV := match x with
  | .sl b o len k => if b = b0 then (frz 2 (only h b0) 0 (.sl b o len k)).getD (.sl b o len k) else .sl b o len k
  | x => x
def fzH (h : H) (b0 : Nat) : H := { next := h.next, get := fun q => if q = b0 then none else (h.get q).map (·.map (fzv h b0)), lp := h.lp }
def Fzd (ρ : List AV) (h : H) (ρ' : List AV) (h' : H) : Prop := (ρ' = ρ ∧ h' = h) ∨ ∃ b0, ρ' = ρ.map (fzv h b0) ∧ h' = fzH h b0
theorem Rel.only {c : Cx} {D : Nat → Prop} {h : H} {w : World} (hr : Rel c D h w) (b0 : Nat) : Rel c D (only h b0) w := by
  have sub : ∀ b cs, (Pe.only h b0).get b = some cs → h.get b = some cs := fun b cs hb => by
    simp only [Pe.only] at hb
    split at hb
    · exact hb
    · cases hb
  exact ⟨fun b cs hb => hr.own b cs (sub b cs hb), fun b b' cs cs' e1 e2 he => hr.inj b b' cs cs' (sub _ _ e1) (sub _ _ e2) he, hr.sz, fun b r hb => by simp [Pe.only] at hb, fun b b' r r' hb => by simp [Pe.only] at hb⟩
theorem fzv_R {c : Cx} {D : Nat → Prop} {h : H} {w : World} (hr : Rel c D h w) {b0 : Nat} {x : AV} {v : Value} (hx : R c w D x v) : R (c.all (only h b0) 0) w D (fzv h b0 x) v := by
  have up := hx.more (only h b0) 0
  cases x with
  | sl b o len k =>
    simp only [fzv]
    split
    · cases hz : frz 2 (only h b0) 0 (.sl b o len k) with
      | none => exact up
      | some y => exact frz_R (hr.only b0) (fun b _ hb => absurd hb (Nat.not_lt_zero _)) 2 _ _ _ hx hz
    · exact up
  | _ => exact up
theorem St.fzd {D0 : Nat → Prop} {h0 : H} {c0 : Cx} {w0 : World} {ρ ρ2 : List AV} {h h2 : H} {a : Act} {w : World} {c : Cx} {D : Nat → Prop} (s : St D0 h0 c0 w0 ρ h a w c D) (hz : Fzd ρ h ρ2 h2) : ∃ c', St D0 h0 c0 w0 ρ2 h2 a w c' D := by
  rcases hz with ⟨rfl, rfl⟩ | ⟨b0, rfl, rfl⟩
  · exact ⟨c, s⟩
  have hS' : ∀ k, (c.all (only h b0) 0).S k → c.S k ∨ ∃ cs, h.get b0 = some cs ∧ c.φ b0 = k := fun k hk => by
    rcases hk with hk | ⟨b, cs, _, hb, he⟩
    · exact .inl hk
    · simp only [only] at hb
      split at hb
      · rename_i hq; subst hq; exact .inr ⟨cs, hb, he⟩
      · cases hb
  have heap : ∀ cs, h.get b0 = some cs → ∃ C e, w.heap[c.φ b0]? = some (.cells C e (0, 0)) := fun cs hb => by
    obtain ⟨_, _, C, e, q, _⟩ := s.rel.own b0 cs hb
    exact ⟨C, e, q⟩
  have getz : ∀ q l, (fzH h b0).get q = some l → q ≠ b0 ∧ ∃ cs, h.get q = some cs ∧ l = cs.map (fzv h b0) := fun q l hq => by
    simp only [fzH] at hq
    split at hq
    · cases hq
    · rename_i hne
      obtain ⟨cs, e1, e2⟩ := Option.map_eq_some_iff.1 hq
      exact ⟨hne, cs, e1, e2.symm⟩
  refine ⟨c.all (only h b0) 0, ⟨fun q l hq => ?_, fun q q' l l' hq hq' he => ?_, fun k hk => ?_, ?_, fun b b' r r' e1 e2 he => s.rel.linj b b' r r' e1 e2 he⟩, ⟨by simp [s.rl.1], fun i y u e1 e2 => ?_⟩, ⟨fun k hk => .inl (s.ext.S k hk), fun k hk => ?_, s.ext.φ, s.ext.dom, s.ext.next, s.ext.os, s.ext.tape, s.ext.output, s.ext.size, s.ext.frame, s.ext.shp, fun q l hq => ?_, s.ext.lorigin, s.ext.fz⟩, ?_, s.dom⟩
  · obtain ⟨hne, cs, e1, rfl⟩ := getz q l hq
    obtain ⟨q1, q2, C, e, q3, q4, q5⟩ := s.rel.own q cs e1
    refine ⟨q1, fun hS => ?_, C, e, q3, by simpa using q4, fun k y u g1 g2 => ?_⟩
    · rcases hS' _ hS with h6 | ⟨cs', h6, h7⟩
      · exact q2 h6
      · exact hne (s.rel.inj q b0 cs cs' e1 h6 h7.symm)
    · rw [List.getElem?_map] at g1
      obtain ⟨y', g3, rfl⟩ := Option.map_eq_some_iff.1 g1
      exact fzv_R s.rel (q5 k y' u g3 g2)
  · obtain ⟨_, cs, e1, _⟩ := getz q l hq
    obtain ⟨_, cs', e1', _⟩ := getz q' l' hq'
    exact s.rel.inj q q' cs cs' e1 e1' he
  · rcases hS' k hk with h6 | ⟨cs, h6, rfl⟩
    · exact s.rel.sz k h6
    · obtain ⟨C, e, q⟩ := heap cs h6
      exact (Array.getElem?_eq_some_iff.1 q).1
  · exact s.rel.lps_keep (fun _ hk => .inl hk) (fun _ _ => rfl) (fun _ _ => rfl) (fun _ hb => hb) (fun _ C _ hk => ⟨C, hk, rfl⟩) (fun _ _ _ => rfl) (fun b r hb hS => by
      rcases hS' _ hS with h6 | ⟨cs, h6, h7⟩
      · exact h6
      · obtain ⟨C, e, q⟩ := heap cs h6
        exact absurd h7.symm (s.rel.apart (b' := b0) hb q))
  · rw [List.getElem?_map] at e1
    obtain ⟨y', g3, rfl⟩ := Option.map_eq_some_iff.1 e1
    exact fzv_R s.rel (s.rl.2 i y' u g3 e2)
  · rcases hS' k hk with h6 | ⟨cs, h6, rfl⟩
    · exact s.ext.newS k h6
    · rcases s.ext.origin b0 cs h6 with ⟨b1, cs1, g1, g2⟩ | g
      · exact .inr (.inr ⟨b1, cs1, g1, g2⟩)
      · exact .inr (.inl g)
  · obtain ⟨_, cs, e1, _⟩ := getz q l hq
    exact s.ext.origin q cs e1
  · obtain ⟨ms, m1, m2, m3⟩ := s.defers
    refine ⟨ms, m1, m2, fun d hd => ?_⟩
    obtain ⟨g1, g2, g3⟩ := m3 d hd
    refine ⟨g1, fun hS => ?_, g3⟩
    rcases hS' _ hS with h6 | ⟨cs, h6, rfl⟩
    · exact g2 h6
    · obtain ⟨C, e, q⟩ := heap cs h6
      rw [q] at g3; cases g3

/-- A loop at whose rounds the blocks are named anew. -/
def LoopedR (n0 : Nat) (V : (Exit → List AV → H → Prop) → List AV → H → Prop) (Q : Exit → List AV → H → Prop) (ρ : List AV) (h : H) : Prop :=
  ∃ I : Nat → List AV → H → Prop, (∃ m, Named n0 (I m) ρ h) ∧ ∀ m ρ h, I m ρ h → V (fun e ρ' h' => match e with | .normal => ∃ ρ2 h2, Fzd ρ' h' ρ2 h2 ∧ Named n0 (fun ρ h => ∃ m', m' < m ∧ I m' ρ h) ρ2 h2 | e => ∃ ρ2 h2, Fzd ρ' h' ρ2 h2 ∧ Q e ρ2 h2) ρ h
def DrawR (P : Program) (md : Oper → Bool) (ops : Array Oper) (Q : List AV → H → Prop) (_ : Tag Q) (ρ : List AV) (h : H) : Prop :=
  P.follows .mixedOrders = true ∧ tmpsApart ops = true ∧ ∃ ct, fpsApart ops ct = true ∧ Drawn P md ct ops Q ρ h
def vcR (P : Program) (md : Oper → Bool) (n0 : Nat) : Code → (Exit → List AV → H → Prop) → List AV → H → Prop
  | .skip, Q, ρ, h => Q .normal ρ h
  | .region _ ops false, Q, ρ, h => vcOps P md ops (Q .normal) ops.toList ρ h
  | .region _ ops true, Q, ρ, h => DrawR P md ops (Q .normal) .mk ρ h
  | .seq x y, Q, ρ, h => vcR P md n0 x (seqK (vcR P md n0 y Q) Q) ρ h
  | .cond c x y, Q, ρ, h => onBool (aev ρ c) (fun b => ifB b (vcR P md n0 x Q ρ h) (vcR P md n0 y Q ρ h) .mk .mk) False .mk .mk
  | .block id x, Q, ρ, h => vcR P md n0 x (blockK id Q) ρ h
  | .loop x, Q, ρ, h => LoopedR n0 (vcR P md n0 x) Q ρ h
  | .rangeFunc g ps assign body, Q, ρ, h => Ranged P none ps assign body (aev ρ g) Q ρ h
  | .exit id, Q, ρ, h => Q (.exit id) ρ h
  | .ret, Q, ρ, h => Q .ret ρ h
  | _, _, _, _ => False

section
variable {P : Program} {md : Oper → Bool} {D0 : Nat → Prop} {h0 : H} {c0 : Cx} {w0 : World} (hf0 : ∀ b, h0.next ≤ b → ¬ D0 b) {n : Nat}
include hf0
theorem vcR_sound : ∀ (code : Code) (Q : Exit → List AV → H → Prop) (ρ : List AV) (h : H) (a : Act) (w : World) (c : Cx) (D : Nat → Prop), vcR P md h0.next code Q ρ h → St D0 h0 c0 w0 ρ h a w c D →
    code.wpIn (Fr none) n P (Post D0 h0 c0 w0 Q) a w := by
  intro code
  induction code with
  | skip => intro Q ρ h a w c D hv s; exact wpIn_skip ⟨ρ, h, c, D, hv, s⟩
  | region id ops draw =>
    intro Q ρ h a w c D hv s
    cases draw with
    | false =>
      refine wpIn_region ?_
      have := ops_sound (r := none) (n := n) hf0 ops.toList 0 ρ h a w c D (by simp) hv s
      rwa [Array.length_toList, ← List.range_eq_range'] at this
    | true =>
      obtain ⟨g1, g2, ct, g3, g4⟩ := hv
      exact draw_sound hf0 g1 g2 g3 g4.1 g4.2 s
  | seq x y ihx ihy =>
    intro Q ρ h a w c D hv s
    refine wpIn_seq (wpIn_mono (ihx _ ρ h a w c D hv s) ?_)
    rintro e a' w' ⟨ρ', h', c', D', hq, s'⟩
    cases e with
    | normal => exact ihy Q ρ' h' a' w' c' D' hq s'
    | _ => exact ⟨ρ', h', c', D', hq, s'⟩
  | cond cc x y ihx ihy =>
    intro Q ρ h a w c D hv s
    simp only [vcR, onBool, ifB] at hv
    split at hv
    · rename_i b hb
      have hc := R_aev s.rl cc
      rw [hb] at hc
      generalize hav : a.eval cc = vv at hc
      cases hc
      refine wpIn_cond hav ?_
      cases b with
      | true => exact ihx Q ρ h a w c D (by simpa using hv) s
      | false => exact ihy Q ρ h a w c D (by simpa using hv) s
    · exact hv.elim
    · exact hv.elim
  | block id x ih =>
    intro Q ρ h a w c D hv s
    refine wpIn_block (wpIn_mono (ih _ ρ h a w c D hv s) ?_)
    rintro e a' w' ⟨ρ', h', c', D', hq, s'⟩
    cases e with
    | exit id' =>
      simp only [Exit.inBlock, blockK] at hq ⊢
      split
      · rename_i hid; rw [if_pos hid] at hq; exact ⟨ρ', h', c', D', hq, s'⟩
      · rename_i hid; rw [if_neg hid] at hq; exact ⟨ρ', h', c', D', hq, s'⟩
    | _ => exact ⟨ρ', h', c', D', hq, s'⟩
  | loop x ih =>
    intro Q ρ h a w c D hv s
    obtain ⟨I, ⟨j0, hI⟩, hround⟩ := hv
    intro b k cs hro hb hr
    have key : ∀ j ρ h a w c D, I j ρ h → St D0 h0 c0 w0 ρ h a w c D →
        ∃ e a' w', Post D0 h0 c0 w0 Q e a' w' ∧ ArrivesIn (Machine.fenced P (Fr none)) P (lone (b.atR a (.code x :: .inLoop x :: k)) cs w) b k cs e a' w' := by
      intro j
      induction j using Nat.strongRecOn with
      | _ j ihj =>
        intro ρ h a w c D hI s
        obtain ⟨e, a₁, w₁, ⟨ρ₁, h₁, c₁, D₁, hq, s₁⟩, harr⟩ := ih _ ρ h a w c D (hround j ρ h hI) s b (.inLoop x :: k) cs hro hb hr
        cases e with
        | normal =>
          obtain ⟨ρz, hz, hfz, hq⟩ := hq
          obtain ⟨cz, sz⟩ := s₁.fzd hfz
          obtain ⟨ρ₂, h₂, c₂, D₂, ⟨j₁, hlt, hI₁⟩, s₂⟩ := sz.named hf0 hq
          obtain ⟨e₂, a₂, w₂, hq₂, harr₂⟩ := ihj j₁ hlt ρ₂ h₂ a₁ w₁ c₂ D₂ hI₁ s₂
          exact ⟨e₂, a₂, w₂, hq₂, .of_steps (StepsIn.trans harr (.one (fenced_calm hb hr rfl) stepR_inLoop)) harr₂⟩
        | exit id =>
          obtain ⟨ρz, hz, hfz, hq⟩ := hq
          obtain ⟨cz, sz⟩ := s₁.fzd hfz
          exact ⟨_, a₁, w₁, ⟨ρz, hz, cz, D₁, hq, sz⟩, .pass (x := .inLoop x) rfl (fun _ _ => .inl (by simp)) harr⟩
        | goto l =>
          obtain ⟨ρz, hz, hfz, hq⟩ := hq
          obtain ⟨cz, sz⟩ := s₁.fzd hfz
          exact ⟨_, a₁, w₁, ⟨ρz, hz, cz, D₁, hq, sz⟩, .pass (x := .inLoop x) rfl (fun _ _ => .inl (by simp)) harr⟩
        | ret =>
          obtain ⟨ρz, hz, hfz, hq⟩ := hq
          obtain ⟨cz, sz⟩ := s₁.fzd hfz
          exact ⟨_, a₁, w₁, ⟨ρz, hz, cz, D₁, hq, sz⟩, .pass (x := .inLoop x) rfl (fun _ _ => .inl (by simp)) harr⟩
        | panic ch =>
          obtain ⟨ρz, hz, hfz, hq⟩ := hq
          obtain ⟨cz, sz⟩ := s₁.fzd hfz
          exact ⟨_, a₁, w₁, ⟨ρz, hz, cz, D₁, hq, sz⟩, .pass (x := .inLoop x) rfl (fun _ _ => .inl (by simp)) harr⟩
        | outgrown =>
          obtain ⟨ρz, hz, hfz, hq⟩ := hq
          obtain ⟨cz, sz⟩ := s₁.fzd hfz
          exact ⟨_, a₁, w₁, ⟨ρz, hz, cz, D₁, hq, sz⟩, .pass (x := .inLoop x) rfl (fun _ _ => .inl (by simp)) harr⟩
    obtain ⟨ρ1, h1, c1, D1, hI1, s1⟩ := s.named hf0 hI
    obtain ⟨e, a', w', hq, harr⟩ := key j0 ρ1 h1 a w c1 D1 hI1 s1
    exact ⟨e, a', w', hq, .of_steps (.one (fenced_calm hb hr rfl) stepR_loop) harr⟩
  | rangeFunc g ps assign body _ _ =>
    intro Q ρ h a w c D hv s
    exact range_sound (rd := none) (r := none) hf0 trivial hv s
  | exit id => intro Q ρ h a w c D hv s; exact wpIn_exit ⟨ρ, h, c, D, hv, s⟩
  | scope _ _ => intro Q ρ h a w c D hv; exact hv.elim
  | label _ => intro Q ρ h a w c D hv; exact hv.elim
  | goto _ => intro Q ρ h a w c D hv; exact hv.elim
  | ret => intro Q ρ h a w c D hv s; exact wpIn_ret ⟨ρ, h, c, D, hv, s⟩
  | refuse _ => intro Q ρ h a w c D hv; exact hv.elim
end
end Go.Pe
