import Derived.Test.YtffckclggkjbgaaGreatM11
set_option linter.unusedVariables false
set_option linter.unusedSimpArgs false
/- Slots by what is known of them; loops at whose rounds the blocks are named anew. -/
namespace Go.Pe
open Go

/-- What is known of a slot. -/
def lk (j : Nat → AV) (t : Nat) : List (Nat × AV) → AV
  | [] => j t
  | (q, x) :: e => if t = q then x else lk j t e
/-- The slots, by what is known of them; 'j': the others. -/
def en (N : Nat) (j : Nat → AV) (e : List (Nat × AV)) : List AV := (List.range N).map fun t => lk j t e
def en0 : Nat → List AV → List (Nat × AV)
  | _, [] => []
  | i, x :: l => (i, x) :: en0 (i + 1) l

section
variable {N t d q i : Nat} {j : Nat → AV} {e : List (Nat × AV)} {x : AV} {l : List AV}
theorem lk_hit : lk j t ((t, x) :: e) = x := by simp [lk]
theorem lk_miss (h : t ≠ q) : lk j t ((q, x) :: e) = lk j t e := by simp [lk, h]
theorem lk_nil : lk j t [] = j t := rfl
theorem en0_nil : en0 i [] = [] := rfl
theorem en0_cons : en0 i (x :: l) = (i, x) :: en0 (i + 1) l := rfl
theorem en_len : (en N j e).length = N := by simp [en]
theorem en_get? : (en N j e)[t]? = if t < N then some (lk j t e) else none := by
  unfold en
  by_cases h : t < N
  · simp [h]
  · simp [h, List.getElem?_eq_none]
theorem en_getD (h : t < N) : (en N j e).getD t (.val undef) = lk j t e := by simp [List.getD, en_get?, h]
theorem en_aev (h : t < N) : aev (en N j e) (.tmp t) = lk j t e := en_getD h
theorem en_set (h : d < N) : (en N j e).set d x = en N j ((d, x) :: e) := by
  apply List.ext_getElem?
  intro k
  rw [List.getElem?_set, en_get?, en_get?, en_len]
  by_cases hk : d = k
  · subst hk; simp [h, lk_hit]
  · rw [if_neg hk]
    by_cases hkN : k < N
    · rw [if_pos hkN, if_pos hkN, lk_miss (fun h => hk h.symm)]
    · rw [if_neg hkN, if_neg hkN]
theorem en_putA (h : d < N) : putA (en N j e) (some d) x = en N j ((d, x) :: e) := en_set h
theorem lk_en0 : ∀ {l : List AV} {i t : Nat}, i ≤ t → lk j t (en0 i l) = (l[t - i]?).getD (j t)
  | [], i, t, _ => by simp [en0, lk]
  | y :: l, i, t, h => by
    rw [en0_cons]
    by_cases ht : t = i
    · subst ht; simp [lk_hit]
    · rw [lk_miss ht, lk_en0 (by omega), show t - i = (t - (i + 1)) + 1 by omega, List.getElem?_cons_succ]
theorem en_start {args : List AV} (h : args.length ≤ N) : args ++ List.replicate (N - args.length) (.val undef) = en N (fun _ => .val undef) (en0 0 args) := by
  apply List.ext_getElem?
  intro k
  rw [en_get?]
  by_cases hk : k < N
  · rw [if_pos hk, lk_en0 (Nat.zero_le _)]
    by_cases ha : k < args.length
    · rw [List.getElem?_append_left ha, Nat.sub_zero, List.getElem?_eq_getElem ha]; rfl
    · rw [List.getElem?_append_right (by omega), List.getElem?_replicate, if_pos (by omega), Nat.sub_zero, List.getElem?_eq_none (by omega)]; rfl
  · rw [if_neg hk, List.getElem?_eq_none (by simp; omega)]
end

/-- The heap that has just these blocks ('none': a name without a block). -/
def mkH (bl : List (Option (List AV))) : H := { next := bl.length, get := fun q => (bl[q]?).join, lp := fun _ => none }
theorem mkH_nil : mkH [] = H.nil := rfl
theorem mkH_one {cs : List AV} : mkH [some cs] = H.one cs := by
  unfold mkH H.one
  congr 1
  funext q
  cases q with
  | zero => rfl
  | succ q => simp
theorem mkH_next {bl : List (Option (List AV))} : (mkH bl).next = bl.length := rfl
theorem mkH_get {bl : List (Option (List AV))} {q : Nat} : (mkH bl).get q = (bl[q]?).join := rfl
theorem mkH_lp {bl : List (Option (List AV))} : (mkH bl).lp = fun _ => none := rfl

/-- The new name of a block. -/
def rnI (b : Nat) : List Nat → Nat → Option Nat
  | [], _ => none
  | q :: l, i => if b = q then some i else rnI b l (i + 1)
theorem rnI_some {b k : Nat} : ∀ {l : List Nat} {i : Nat}, rnI b l i = some k → i ≤ k ∧ l[k - i]? = some b
  | [], i, h => by simp [rnI] at h
  | q :: l, i, h => by
    unfold rnI at h
    split at h
    · rename_i hb; cases h; subst hb; simp
    · obtain ⟨h1, h2⟩ := rnI_some h
      exact ⟨by omega, by rw [show k - i = (k - (i + 1)) + 1 by omega, List.getElem?_cons_succ]; exact h2⟩
def rn (bs : List Nat) : Nat → AV → Option AV
  | 0, _ => none
  | n + 1, x =>
    match x with
    | .val v => some (.val v)
    | .ro f k xs => some (.ro f k xs)
    | .rop cs => some (.rop cs)
    | .ptr b o => (rnI b bs 0).map fun b => .ptr b o
    | .sl b o len k => (rnI b bs 0).map fun b => .sl b o len k
    | .slc b o len k cap => (rnI b bs 0).map fun b => .slc b o len k cap
    | .agg l => (l.mapM (rn bs n)).map .agg
    | .tup l => (l.mapM (rn bs n)).map .tup
    | .clo f caps => (caps.mapM (rn bs n)).map (.clo f)
    | .yld _ => none

def Cx.named (c : Cx) (bs : List Nat) : Cx := { S := c.S, φ := fun q => match bs[q]? with | some b => c.φ b | none => 0 }

def Dn (D : Nat → Prop) (bs : List Nat) : Nat → Prop := fun q => ∃ b, bs[q]? = some b ∧ D b
theorem rn_R {c : Cx} {w : World} {D : Nat → Prop} {bs : List Nat} : ∀ (n : Nat) (x y : AV) (v : Value), R c w D x v → rn bs n x = some y → R (c.named bs) w (Dn D bs) y v := by
  intro n
  induction n with
  | zero => intro x y v _ h; cases h
  | succ n ih =>
    intro x y v hx hf
    have list : ∀ {l m : List AV} {cs : Array Value}, RL c w D l cs → l.mapM (rn bs n) = some m → RL (c.named bs) w (Dn D bs) m cs := fun hl hm => by
      obtain ⟨h1, h2⟩ := mapM_some hm
      refine ⟨by rw [hl.1, h1], fun i y u e1 e2 => ?_⟩
      have hi := (List.getElem?_eq_some_iff.1 e1).1
      rw [h1] at hi
      obtain ⟨y', e3, e4⟩ := h2 i _ (List.getElem?_eq_getElem hi)
      rw [e1] at e4; cases e4
      exact ih _ _ _ (hl.2 i _ u (List.getElem?_eq_getElem hi) e2) e3
    have low : ∀ {y : AV} {u : Value}, R c w noId y u → ∀ {D' : Nat → Prop}, R (c.named bs) w D' y u := fun hy => hy.mono (fun _ hk => hk) (fun _ _ => rfl) (fun _ hb => hb.elim) (fun _ hb => hb.elim) (fun _ C _ hk => ⟨C, hk, rfl⟩)
    have blk : ∀ {b k : Nat}, D b → rnI b bs 0 = some k → Dn D bs k ∧ (c.named bs).φ k = c.φ b := fun hb hk => by
      obtain ⟨_, h2⟩ := rnI_some hk
      rw [Nat.sub_zero] at h2
      exact ⟨⟨_, h2, hb⟩, by simp [Cx.named, h2]⟩
    simp only [rn] at hf
    cases hx with
    | val v => cases hf; exact .val v
    | ro cell hS hl hcc hff hk hcell ho hh => cases hf; exact .ro cell hS hl hcc hff hk hcell ho fun i j row x e1 e2 => low (hh i j row x e1 e2)
    | nil => cases hf; exact .nil
    | emp => cases hf; exact .emp
    | rop cell hS hcell hh => cases hf; exact .rop cell hS hcell fun j x e1 => low (hh j x e1)
    | agg hs hh =>
      obtain ⟨m, hm, rfl⟩ := Option.map_eq_some_iff.1 hf
      obtain ⟨g1, g2⟩ := list ⟨hs, hh⟩ hm
      exact .agg g1 g2
    | tup hs hh =>
      obtain ⟨m, hm, rfl⟩ := Option.map_eq_some_iff.1 hf
      obtain ⟨g1, g2⟩ := list ⟨hs, hh⟩ hm
      exact .tup g1 g2
    | clo hs hh =>
      obtain ⟨m, hm, rfl⟩ := Option.map_eq_some_iff.1 hf
      obtain ⟨g1, g2⟩ := list ⟨hs, hh⟩ hm
      exact .clo g1 g2
    | ptr hb =>
      obtain ⟨k, hk, rfl⟩ := Option.map_eq_some_iff.1 hf
      obtain ⟨g1, g2⟩ := blk hb hk
      rw [← g2]; exact .ptr g1
    | sl hb hc C e hblk hC =>
      obtain ⟨k, hk, rfl⟩ := Option.map_eq_some_iff.1 hf
      obtain ⟨g1, g2⟩ := blk hb hk
      rw [← g2] at hblk ⊢; exact .sl g1 hc C e hblk hC
    | slc hb hc C e hblk hC =>
      obtain ⟨k, hk, rfl⟩ := Option.map_eq_some_iff.1 hf
      obtain ⟨g1, g2⟩ := blk hb hk
      rw [← g2] at hblk ⊢; exact .slc g1 hc C e hblk hC
    | yld hb => cases hf

/-- The blocks that are kept, in their new order, and what they hold. -/
def MH (bs0 : List Nat) (h : H) : List Nat → List (Option (List AV)) → Prop
  | [], [] => True
  | b :: bs, some l :: bl => (∃ cs, h.get b = some cs ∧ cs.mapM (rn bs0 4) = some l) ∧ MH bs0 h bs bl
  | _ :: bs, none :: bl => MH bs0 h bs bl
  | _, _ => False
theorem MH_get {bs0 : List Nat} {h : H} : ∀ {bs : List Nat} {bl : List (Option (List AV))}, MH bs0 h bs bl → bs.length = bl.length ∧ ∀ (i : Nat) (l : List AV), bl[i]? = some (some l) → ∃ b cs, bs[i]? = some b ∧ h.get b = some cs ∧ cs.mapM (rn bs0 4) = some l
  | [], [], _ => ⟨rfl, fun i l h => by simp at h⟩
  | b :: bs, some l :: bl, hm => by
    obtain ⟨h1, h2⟩ := MH_get hm.2
    refine ⟨by simp [h1], fun i l' hi => ?_⟩
    cases i with
    | zero => simp at hi; subst hi; obtain ⟨cs, e1, e2⟩ := hm.1; exact ⟨b, cs, rfl, e1, e2⟩
    | succ i => simpa using h2 i l' (by simpa using hi)
  | b :: bs, none :: bl, hm => by
    obtain ⟨h1, h2⟩ := MH_get (bs := bs) (bl := bl) hm
    refine ⟨by simp [h1], fun i l' hi => ?_⟩
    cases i with
    | zero => simp at hi
    | succ i => simpa using h2 i l' (by simpa using hi)
  | [], _ :: _, h => h.elim
  | _ :: _, [], h => h.elim

def rnS (bs : List Nat) (j : Nat → AV) (ρ : List AV) : List AV := ρ.mapIdx fun i x => (rn bs 4 x).getD (j i)
/-- What holds when the blocks are named anew. -/
def Named (n0 : Nat) (Z : List AV → H → Prop) (ρ : List AV) (h : H) : Prop :=
  ∃ (bs : List Nat) (bl : List (Option (List AV))), bs.Nodup ∧ (∀ i, i < n0 → bs[i]? = some i) ∧ MH bs h bs bl ∧ ∀ j : Nat → AV, Z (rnS bs j ρ) (mkH bl)

section
variable {D0 : Nat → Prop} {h0 : H} {c0 : Cx} {w0 : World} (hf0 : ∀ b, h0.next ≤ b → ¬ D0 b)
include hf0
theorem St.named {ρ : List AV} {h : H} {a : Act} {w : World} {c : Cx} {D : Nat → Prop} {Z : List AV → H → Prop} (hz : Named h0.next Z ρ h) (s : St D0 h0 c0 w0 ρ h a w c D) : ∃ ρ' h' c' D', Z ρ' h' ∧ St D0 h0 c0 w0 ρ' h' a w c' D' := by
  obtain ⟨bs, bl, hnd, hlow, hm, hz⟩ := hz
  obtain ⟨hlen, hget⟩ := MH_get hm
  have blk : ∀ q b, bs[q]? = some b → (c.named bs).φ q = c.φ b := fun q b hb => by simp [Cx.named, hb]
  have own : ∀ q l, (mkH bl).get q = some l → ∃ b cs, bs[q]? = some b ∧ h.get b = some cs ∧ cs.mapM (rn bs 4) = some l := fun q l hq => by
    rw [mkH_get] at hq
    exact hget q l (by cases hb : bl[q]? with | none => simp [hb] at hq | some o => simp [hb] at hq; rw [hq])
  refine ⟨rnS bs (fun i => .val (a.tmps.getD i undef)) ρ, mkH bl, c.named bs, Dn D bs, hz _, ⟨fun q l hq => ?_, fun q q' l l' hq hq' he => ?_, s.rel.sz, fun b r hb => by simp [mkH] at hb, fun b b' r r' hb => by simp [mkH] at hb⟩, ⟨by simp [rnS, s.rl.1], fun i y u e1 e2 => ?_⟩, ?_, ?_, fun q hq => ?_⟩
  · obtain ⟨b, cs, e1, e2, e3⟩ := own q l hq
    obtain ⟨q1, q2, C, e, q3, q4, q5⟩ := s.rel.own b cs e2
    obtain ⟨m1, m2⟩ := mapM_some e3
    rw [blk q b e1]
    refine ⟨⟨b, e1, q1⟩, q2, C, e, q3, by rw [m1]; exact q4, fun k y u g1 g2 => ?_⟩
    have hk := (List.getElem?_eq_some_iff.1 g1).1
    rw [m1] at hk
    obtain ⟨y', g3, g4⟩ := m2 k _ (List.getElem?_eq_getElem hk)
    rw [g1] at g4; cases g4
    exact rn_R 4 _ _ _ (q5 k _ u (List.getElem?_eq_getElem hk) g2) g3
  · obtain ⟨b, cs, e1, e2, _⟩ := own q l hq
    obtain ⟨b', cs', e1', e2', _⟩ := own q' l' hq'
    rw [blk q b e1, blk q' b' e1'] at he
    have := s.rel.inj b b' cs cs' e2 e2' he
    subst this
    exact (List.getElem?_inj (List.getElem?_eq_some_iff.1 e1).1 hnd).1 (e1.trans e1'.symm)
  · simp only [rnS, List.getElem?_mapIdx] at e1
    cases hx : ρ[i]? with
    | none => simp [hx] at e1
    | some x =>
      simp only [hx, Option.map_some, Option.some.injEq] at e1
      cases hr : rn bs 4 x with
      | none =>
        rw [hr] at e1
        simp only [Option.getD_none] at e1
        subst e1
        have : a.tmps.getD i undef = u := by
          obtain ⟨hi, he⟩ := Array.getElem?_eq_some_iff.1 e2
          simp [Array.getD, hi, he]
        rw [this]; exact .val u
      | some y' =>
        rw [hr] at e1
        simp only [Option.getD_some] at e1
        subst e1
        exact rn_R 4 _ _ _ (s.rl.2 i x u hx e2) hr
  · have hn : h0.next ≤ bs.length := by
      by_cases h0n : h0.next = 0
      · omega
      · have := (List.getElem?_eq_some_iff.1 (hlow (h0.next - 1) (by omega))).1; omega
    have hlt : ∀ b, D0 b → b < h0.next := fun b hb => Nat.lt_of_not_le fun hle => hf0 b hle hb
    refine ⟨s.ext.S, s.ext.newS, fun b hb => ?_, fun b hb => ?_, by simp [mkH]; omega, s.ext.os, s.ext.tape, s.ext.output, s.ext.size, s.ext.frame, s.ext.shp, fun q l hq => ?_, fun b r hb => by simp [mkH] at hb, s.ext.fz⟩
    · rw [blk b b (hlow b (hlt b hb))]; exact s.ext.φ b hb
    · exact ⟨b, hlow b (hlt b hb), s.ext.dom b hb⟩
    · obtain ⟨b, cs, e1, e2, _⟩ := own q l hq
      rw [blk q b e1]; exact s.ext.origin b cs e2
  · obtain ⟨ms, m1, m2, m3⟩ := s.defers
    exact ⟨ms, m1, m2, m3⟩
  · obtain ⟨b, e1, hb⟩ := hq
    by_cases hq0 : q < h0.next
    · rw [hlow q hq0] at e1; cases e1
      rcases s.dom q hb with g | g
      · exact .inl g
      · omega
    · have := (List.getElem?_eq_some_iff.1 e1).1
      exact .inr ⟨by omega, by simp [mkH]; omega⟩
end

/-- One block alone. -/
def only (h : H) (b : Nat) : H := { next := h.next, get := fun q => if q = b then h.get q else none, lp := fun _ => none }
/-- A slice of the block 'b0', which will be written no more, becomes its rows. -/
def fzv (h : H) (b0 : Nat) (x : AV) : AV := match x with
  | .sl b o len k => if b = b0 then (frz 2 (only h b0) 0 (.sl b o len k)).getD (.sl b o len k) else .sl b o len k
  | x => x
def fzH (h : H) (b0 : Nat) : H := { next := h.next, get := fun q => if q = b0 then none else (h.get q).map (·.map (fzv h b0)), lp := h.lp }
def Fzd (ρ : List AV) (h : H) (ρ' : List AV) (h' : H) : Prop := (ρ' = ρ ∧ h' = h) ∨ ∃ b0, ρ' = ρ.map (fzv h b0) ∧ h' = fzH h b0
theorem Rel.only {c : Cx} {D : Nat → Prop} {h : H} {w : World} (hr : Rel c D h w) (b0 : Nat) : Rel c D (only h b0) w := by
  have sub : ∀ b cs, (Pe.only h b0).get b = some cs → h.get b = some cs := fun b cs hb => by
    simp only [Pe.only] at hb
    split at hb
    · exact hb
    · cases hb
  exact ⟨fun b cs hb => hr.own b cs (sub b cs hb), fun b b' cs cs' e1 e2 he => hr.inj b b' cs cs' (sub _ _ e1) (sub _ _ e2) he, hr.sz, fun b r hb => by simp [Pe.only] at hb, fun b b' r r' hb => by simp [Pe.only] at hb⟩
theorem fzv_R {c : Cx} {D : Nat → Prop} {h : H} {w : World} (hr : Rel c D h w) {b0 : Nat} {x : AV} {v : Value} (hx : R c w D x v) : R (c.all (only h b0) 0) w D (fzv h b0 x) v := by
  have up := hx.more (only h b0) 0
  cases x with
  | sl b o len k =>
    simp only [fzv]
    split
    · cases hz : frz 2 (only h b0) 0 (.sl b o len k) with
      | none => exact up
      | some y => exact frz_R (hr.only b0) (fun b _ hb => absurd hb (Nat.not_lt_zero _)) 2 _ _ _ hx hz
    · exact up
  | _ => exact up
theorem St.fzd {D0 : Nat → Prop} {h0 : H} {c0 : Cx} {w0 : World} {ρ ρ2 : List AV} {h h2 : H} {a : Act} {w : World} {c : Cx} {D : Nat → Prop} (s : St D0 h0 c0 w0 ρ h a w c D) (hz : Fzd ρ h ρ2 h2) : ∃ c', St D0 h0 c0 w0 ρ2 h2 a w c' D := by
  rcases hz with ⟨rfl, rfl⟩ | ⟨b0, rfl, rfl⟩
  · exact ⟨c, s⟩
  have hS' : ∀ k, (c.all (only h b0) 0).S k → c.S k ∨ ∃ cs, h.get b0 = some cs ∧ c.φ b0 = k := fun k hk => by
    rcases hk with hk | ⟨b, cs, _, hb, he⟩
    · exact .inl hk
    · simp only [only] at hb
      split at hb
      · rename_i hq; subst hq; exact .inr ⟨cs, hb, he⟩
      · cases hb
  have heap : ∀ cs, h.get b0 = some cs → ∃ C e, w.heap[c.φ b0]? = some (.cells C e (0, 0)) := fun cs hb => by
    obtain ⟨_, _, C, e, q, _⟩ := s.rel.own b0 cs hb
    exact ⟨C, e, q⟩
  have getz : ∀ q l, (fzH h b0).get q = some l → q ≠ b0 ∧ ∃ cs, h.get q = some cs ∧ l = cs.map (fzv h b0) := fun q l hq => by
    simp only [fzH] at hq
    split at hq
    · cases hq
    · rename_i hne
      obtain ⟨cs, e1, e2⟩ := Option.map_eq_some_iff.1 hq
      exact ⟨hne, cs, e1, e2.symm⟩
  refine ⟨c.all (only h b0) 0, ⟨fun q l hq => ?_, fun q q' l l' hq hq' he => ?_, fun k hk => ?_, ?_, fun b b' r r' e1 e2 he => s.rel.linj b b' r r' e1 e2 he⟩, ⟨by simp [s.rl.1], fun i y u e1 e2 => ?_⟩, ⟨fun k hk => .inl (s.ext.S k hk), fun k hk => ?_, s.ext.φ, s.ext.dom, s.ext.next, s.ext.os, s.ext.tape, s.ext.output, s.ext.size, s.ext.frame, s.ext.shp, fun q l hq => ?_, s.ext.lorigin, s.ext.fz⟩, ?_, s.dom⟩
  · obtain ⟨hne, cs, e1, rfl⟩ := getz q l hq
    obtain ⟨q1, q2, C, e, q3, q4, q5⟩ := s.rel.own q cs e1
    refine ⟨q1, fun hS => ?_, C, e, q3, by simpa using q4, fun k y u g1 g2 => ?_⟩
    · rcases hS' _ hS with h6 | ⟨cs', h6, h7⟩
      · exact q2 h6
      · exact hne (s.rel.inj q b0 cs cs' e1 h6 h7.symm)
    · rw [List.getElem?_map] at g1
      obtain ⟨y', g3, rfl⟩ := Option.map_eq_some_iff.1 g1
      exact fzv_R s.rel (q5 k y' u g3 g2)
  · obtain ⟨_, cs, e1, _⟩ := getz q l hq
    obtain ⟨_, cs', e1', _⟩ := getz q' l' hq'
    exact s.rel.inj q q' cs cs' e1 e1' he
  · rcases hS' k hk with h6 | ⟨cs, h6, rfl⟩
    · exact s.rel.sz k h6
    · obtain ⟨C, e, q⟩ := heap cs h6
      exact (Array.getElem?_eq_some_iff.1 q).1
  · exact s.rel.lps_keep (fun _ hk => .inl hk) (fun _ _ => rfl) (fun _ _ => rfl) (fun _ hb => hb) (fun _ C _ hk => ⟨C, hk, rfl⟩) (fun _ _ _ => rfl) (fun b r hb hS => by
      rcases hS' _ hS with h6 | ⟨cs, h6, h7⟩
      · exact h6
      · obtain ⟨C, e, q⟩ := heap cs h6
        exact absurd h7.symm (s.rel.apart (b' := b0) hb q))
  · rw [List.getElem?_map] at e1
    obtain ⟨y', g3, rfl⟩ := Option.map_eq_some_iff.1 e1
    exact fzv_R s.rel (s.rl.2 i y' u g3 e2)
  · rcases hS' k hk with h6 | ⟨cs, h6, rfl⟩
    · exact s.ext.newS k h6
    · rcases s.ext.origin b0 cs h6 with ⟨b1, cs1, g1, g2⟩ | g
      · exact .inr (.inr ⟨b1, cs1, g1, g2⟩)
      · exact .inr (.inl g)
  · obtain ⟨_, cs, e1, _⟩ := getz q l hq
    exact s.ext.origin q cs e1
  · obtain ⟨ms, m1, m2, m3⟩ := s.defers
    refine ⟨ms, m1, m2, fun d hd => ?_⟩
    obtain ⟨g1, g2, g3⟩ := m3 d hd
    refine ⟨g1, fun hS => ?_, g3⟩
    rcases hS' _ hS with h6 | ⟨cs, h6, rfl⟩
    · exact g2 h6
    · obtain ⟨C, e, q⟩ := heap cs h6
      rw [q] at g3; cases g3

/-- A loop at whose rounds the blocks are named anew. -/
def LoopedR (n0 : Nat) (V : (Exit → List AV → H → Prop) → List AV → H → Prop) (Q : Exit → List AV → H → Prop) (ρ : List AV) (h : H) : Prop :=
  ∃ I : Nat → List AV → H → Prop, (∃ m, Named n0 (I m) ρ h) ∧ ∀ m ρ h, I m ρ h → V (fun e ρ' h' => match e with | .normal => ∃ ρ2 h2, Fzd ρ' h' ρ2 h2 ∧ Named n0 (fun ρ h => ∃ m', m' < m ∧ I m' ρ h) ρ2 h2 | e => ∃ ρ2 h2, Fzd ρ' h' ρ2 h2 ∧ Q e ρ2 h2) ρ h
def DrawR (P : Program) (md : Oper → Bool) (ops : Array Oper) (Q : List AV → H → Prop) (_ : Tag Q) (ρ : List AV) (h : H) : Prop :=
  P.follows .mixedOrders = true ∧ tmpsApart ops = true ∧ ∃ ct, fpsApart ops ct = true ∧ Drawn P md ct ops Q ρ h
def vcR (P : Program) (md : Oper → Bool) (n0 : Nat) : Code → (Exit → List AV → H → Prop) → List AV → H → Prop
  | .skip, Q, ρ, h => Q .normal ρ h
  | .region _ ops false, Q, ρ, h => vcOps P md ops (Q .normal) ops.toList ρ h
  | .region _ ops true, Q, ρ, h => DrawR P md ops (Q .normal) .mk ρ h
  | .seq x y, Q, ρ, h => vcR P md n0 x (seqK (vcR P md n0 y Q) Q) ρ h
  | .cond c x y, Q, ρ, h => onBool (aev ρ c) (fun b => ifB b (vcR P md n0 x Q ρ h) (vcR P md n0 y Q ρ h) .mk .mk) False .mk .mk
  | .block id x, Q, ρ, h => vcR P md n0 x (blockK id Q) ρ h
  | .loop x, Q, ρ, h => LoopedR n0 (vcR P md n0 x) Q ρ h
  | .rangeFunc g ps assign body, Q, ρ, h => Ranged P none ps assign body (aev ρ g) Q ρ h
  | .exit id, Q, ρ, h => Q (.exit id) ρ h
  | .ret, Q, ρ, h => Q .ret ρ h
  | _, _, _, _ => False

section
variable {P : Program} {md : Oper → Bool} {D0 : Nat → Prop} {h0 : H} {c0 : Cx} {w0 : World} (hf0 : ∀ b, h0.next ≤ b → ¬ D0 b) {n : Nat}
include hf0
theorem vcR_sound : ∀ (code : Code) (Q : Exit → List AV → H → Prop) (ρ : List AV) (h : H) (a : Act) (w : World) (c : Cx) (D : Nat → Prop), vcR P md h0.next code Q ρ h → St D0 h0 c0 w0 ρ h a w c D →
    code.wpIn (Fr none) n P (Post D0 h0 c0 w0 Q) a w := by
  intro code
  induction code with
  | skip => intro Q ρ h a w c D hv s; exact wpIn_skip ⟨ρ, h, c, D, hv, s⟩
  | region id ops draw =>
    intro Q ρ h a w c D hv s
    cases draw with
    | false =>
      refine wpIn_region ?_
      have := ops_sound (r := none) (n := n) hf0 ops.toList 0 ρ h a w c D (by simp) hv s
      rwa [Array.length_toList, ← List.range_eq_range'] at this
    | true =>
      obtain ⟨g1, g2, ct, g3, g4⟩ := hv
      exact draw_sound hf0 g1 g2 g3 g4.1 g4.2 s
  | seq x y ihx ihy =>
    intro Q ρ h a w c D hv s
    refine wpIn_seq (wpIn_mono (ihx _ ρ h a w c D hv s) ?_)
    rintro e a' w' ⟨ρ', h', c', D', hq, s'⟩
    cases e with
    | normal => exact ihy Q ρ' h' a' w' c' D' hq s'
    | _ => exact ⟨ρ', h', c', D', hq, s'⟩
  | cond cc x y ihx ihy =>
    intro Q ρ h a w c D hv s
    simp only [vcR, onBool, ifB] at hv
    split at hv
    · rename_i b hb
      have hc := R_aev s.rl cc
      rw [hb] at hc
      generalize hav : a.eval cc = vv at hc
      cases hc
      refine wpIn_cond hav ?_
      cases b with
      | true => exact ihx Q ρ h a w c D (by simpa using hv) s
      | false => exact ihy Q ρ h a w c D (by simpa using hv) s
    · exact hv.elim
    · exact hv.elim
  | block id x ih =>
    intro Q ρ h a w c D hv s
    refine wpIn_block (wpIn_mono (ih _ ρ h a w c D hv s) ?_)
    rintro e a' w' ⟨ρ', h', c', D', hq, s'⟩
    cases e with
    | exit id' =>
      simp only [Exit.inBlock, blockK] at hq ⊢
      split
      · rename_i hid; rw [if_pos hid] at hq; exact ⟨ρ', h', c', D', hq, s'⟩
      · rename_i hid; rw [if_neg hid] at hq; exact ⟨ρ', h', c', D', hq, s'⟩
    | _ => exact ⟨ρ', h', c', D', hq, s'⟩
  | loop x ih =>
    intro Q ρ h a w c D hv s
    obtain ⟨I, ⟨j0, hI⟩, hround⟩ := hv
    intro b k cs hro hb hr
    have key : ∀ j ρ h a w c D, I j ρ h → St D0 h0 c0 w0 ρ h a w c D →
        ∃ e a' w', Post D0 h0 c0 w0 Q e a' w' ∧ ArrivesIn (Machine.fenced P (Fr none)) P (lone (b.atR a (.code x :: .inLoop x :: k)) cs w) b k cs e a' w' := by
      intro j
      induction j using Nat.strongRecOn with
      | _ j ihj =>
        intro ρ h a w c D hI s
        obtain ⟨e, a₁, w₁, ⟨ρ₁, h₁, c₁, D₁, hq, s₁⟩, harr⟩ := ih _ ρ h a w c D (hround j ρ h hI) s b (.inLoop x :: k) cs hro hb hr
        cases e with
        | normal =>
          obtain ⟨ρz, hz, hfz, hq⟩ := hq
          obtain ⟨cz, sz⟩ := s₁.fzd hfz
          obtain ⟨ρ₂, h₂, c₂, D₂, ⟨j₁, hlt, hI₁⟩, s₂⟩ := sz.named hf0 hq
          obtain ⟨e₂, a₂, w₂, hq₂, harr₂⟩ := ihj j₁ hlt ρ₂ h₂ a₁ w₁ c₂ D₂ hI₁ s₂
          exact ⟨e₂, a₂, w₂, hq₂, .of_steps (StepsIn.trans harr (.one (fenced_calm hb hr rfl) stepR_inLoop)) harr₂⟩
        | exit id =>
          obtain ⟨ρz, hz, hfz, hq⟩ := hq
          obtain ⟨cz, sz⟩ := s₁.fzd hfz
          exact ⟨_, a₁, w₁, ⟨ρz, hz, cz, D₁, hq, sz⟩, .pass (x := .inLoop x) rfl (fun _ _ => .inl (by simp)) harr⟩
        | goto l =>
          obtain ⟨ρz, hz, hfz, hq⟩ := hq
          obtain ⟨cz, sz⟩ := s₁.fzd hfz
          exact ⟨_, a₁, w₁, ⟨ρz, hz, cz, D₁, hq, sz⟩, .pass (x := .inLoop x) rfl (fun _ _ => .inl (by simp)) harr⟩
        | ret =>
          obtain ⟨ρz, hz, hfz, hq⟩ := hq
          obtain ⟨cz, sz⟩ := s₁.fzd hfz
          exact ⟨_, a₁, w₁, ⟨ρz, hz, cz, D₁, hq, sz⟩, .pass (x := .inLoop x) rfl (fun _ _ => .inl (by simp)) harr⟩
        | panic ch =>
          obtain ⟨ρz, hz, hfz, hq⟩ := hq
          obtain ⟨cz, sz⟩ := s₁.fzd hfz
          exact ⟨_, a₁, w₁, ⟨ρz, hz, cz, D₁, hq, sz⟩, .pass (x := .inLoop x) rfl (fun _ _ => .inl (by simp)) harr⟩
        | outgrown =>
          obtain ⟨ρz, hz, hfz, hq⟩ := hq
          obtain ⟨cz, sz⟩ := s₁.fzd hfz
          exact ⟨_, a₁, w₁, ⟨ρz, hz, cz, D₁, hq, sz⟩, .pass (x := .inLoop x) rfl (fun _ _ => .inl (by simp)) harr⟩
    obtain ⟨ρ1, h1, c1, D1, hI1, s1⟩ := s.named hf0 hI
    obtain ⟨e, a', w', hq, harr⟩ := key j0 ρ1 h1 a w c1 D1 hI1 s1
    exact ⟨e, a', w', hq, .of_steps (.one (fenced_calm hb hr rfl) stepR_loop) harr⟩
  | rangeFunc g ps assign body _ _ =>
    intro Q ρ h a w c D hv s
    exact range_sound (rd := none) (r := none) hf0 trivial hv s
  | exit id => intro Q ρ h a w c D hv s; exact wpIn_exit ⟨ρ, h, c, D, hv, s⟩
  | scope _ _ => intro Q ρ h a w c D hv; exact hv.elim
  | label _ => intro Q ρ h a w c D hv; exact hv.elim
  | goto _ => intro Q ρ h a w c D hv; exact hv.elim
  | ret => intro Q ρ h a w c D hv s; exact wpIn_ret ⟨ρ, h, c, D, hv, s⟩
  | refuse _ => intro Q ρ h a w c D hv; exact hv.elim
end
end Go.Pe

/- How simplification walks, by sparse slots: the equations, the loop's rule, a function's rule. -/
namespace Go.Pe
open Go

def LoopCR (P : Program) (md : Oper → Bool) (n0 : Nat) (x : Code) (Q : Exit → List AV → H → Prop) (_ : Tag Q) (ρ : List AV) (h : H) : Prop := LoopedR n0 (vcR P md n0 x) Q ρ h

section
variable {P : Program} {md : Oper → Bool} {n0 : Nat} {Q : Exit → List AV → H → Prop} {ρ : List AV} {h : H}
theorem ar_skip {t : Tag (vcR P md n0 .skip Q)} : ap (vcR P md n0 .skip Q) t ρ h = ap (Q .normal) .mk ρ h := rfl
theorem ar_region {id : Nat} {l : List Oper} {t : Tag (vcR P md n0 (.region id l.toArray false) Q)} : ap (vcR P md n0 (.region id l.toArray false) Q) t ρ h = ap (vcOps P md l.toArray (Q .normal) l) .mk ρ h := rfl
theorem ar_draw {id : Nat} {l : List Oper} {t : Tag (vcR P md n0 (.region id l.toArray true) Q)} : ap (vcR P md n0 (.region id l.toArray true) Q) t ρ h = DrawR P md l.toArray (Q .normal) .mk ρ h := rfl
theorem ar_seq {x y : Code} {t : Tag (vcR P md n0 (.seq x y) Q)} : ap (vcR P md n0 (.seq x y) Q) t ρ h = ap (vcR P md n0 x (seqK (vcR P md n0 y Q) Q)) .mk ρ h := rfl
theorem ar_cond {c : Operand} {x y : Code} {t : Tag (vcR P md n0 (.cond c x y) Q)} : ap (vcR P md n0 (.cond c x y) Q) t ρ h = onBool (aev ρ c) (fun b => ifB b (ap (vcR P md n0 x Q) .mk ρ h) (ap (vcR P md n0 y Q) .mk ρ h) .mk .mk) False .mk .mk := rfl
theorem ar_block {id : Nat} {x : Code} {t : Tag (vcR P md n0 (.block id x) Q)} : ap (vcR P md n0 (.block id x) Q) t ρ h = ap (vcR P md n0 x (blockK id Q)) .mk ρ h := rfl
theorem ar_loop {x : Code} {t : Tag (vcR P md n0 (.loop x) Q)} : ap (vcR P md n0 (.loop x) Q) t ρ h = LoopCR P md n0 x Q .mk ρ h := rfl
theorem ar_exit {id : Nat} {t : Tag (vcR P md n0 (.exit id) Q)} : ap (vcR P md n0 (.exit id) Q) t ρ h = ap (Q (.exit id)) .mk ρ h := rfl
theorem ar_ret {t : Tag (vcR P md n0 .ret Q)} : ap (vcR P md n0 .ret Q) t ρ h = ap (Q .ret) .mk ρ h := rfl
theorem ar_range {g : Operand} {ps : Array Tmp} {assign body : Code} {t : Tag (vcR P md n0 (.rangeFunc g ps assign body) Q)} : ap (vcR P md n0 (.rangeFunc g ps assign body) Q) t ρ h = Ranged P none ps assign body (aev ρ g) Q ρ h := rfl

/-- A STATEMENT WHOSE ORDER IS OPEN. -/
theorem DrawR.on {l : List Oper} {Q : List AV → H → Prop} {t : Tag Q} (ct : Cert) (h1 : (P.follows .mixedOrders && tmpsApart l.toArray && fpsApart l.toArray ct) = true) (hM : ∀ b ∈ ct.M, b < h.next) (hv : apG (vcDr P md ct l.toArray h Q l 0) .mk ρ h.get) : DrawR P md l.toArray Q t ρ h := by
  simp only [Bool.and_eq_true] at h1
  exact ⟨h1.1.1, h1.1.2, ct, h1.2, hM, hv⟩

theorem onBool_undef {K : Bool → Prop} {T : Prop} {t : Tag K} {t' : Tag T} : onBool (.val undef) K T t t' = T := rfl
theorem bin_beq {s by' : Nat} {z : List Value} {a1 f cm a b : Bool} : bin { kind := .bool, size := s, zero := z, agg := a1, bytes := by', fok := f, cmp := cm } .eql (.val (.bool a)) (.val (.bool b)) = some (.val (.bool (a == b))) := rfl
theorem bin_bne {s by' : Nat} {z : List Value} {a1 f cm a b : Bool} : bin { kind := .bool, size := s, zero := z, agg := a1, bytes := by', fok := f, cmp := cm } .neq (.val (.bool a)) (.val (.bool b)) = some (.val (.bool (!(a == b)))) := rfl
/-- Slots have the form that is named. -/
def FitE (bs : List Nat) (ρ : List AV) : List (Nat × AV) → Prop
  | [] => True
  | (t, x) :: E => rn bs 4 (aev ρ (.tmp t)) = some x ∧ FitE bs ρ E
/-- What is there has the form that is named, if the blocks 'bs' are called 0, 1, .. -/
def Fit (n0 N : Nat) (bs : List Nat) (ρ : List AV) (h : H) (E : List (Nat × AV)) (B : List (Option (List AV))) : Prop :=
  ρ.length = N ∧ bs.Nodup ∧ (∀ i, i < n0 → bs[i]? = some i) ∧ MH bs h bs B ∧ FitE bs ρ E
def againK {σ : Type} (n0 N : Nat) (E : σ → List (Nat × AV)) (B : σ → List (Option (List AV))) (I : σ → Prop) (μ : σ → Nat) (m : Nat) : List AV → H → Prop := fun ρ' h' => ∃ s' bs ρ2 h2, I s' ∧ μ s' < m ∧ Fzd ρ' h' ρ2 h2 ∧ Fit n0 N bs ρ2 h2 (E s') (B s')
theorem ap_again {σ : Type} {N : Nat} {E : σ → List (Nat × AV)} {B : σ → List (Option (List AV))} {I : σ → Prop} {μ : σ → Nat} {m : Nat} {t : Tag (againK n0 N E B I μ m)} : ap (againK n0 N E B I μ m) t ρ h = ∃ s' bs ρ2 h2, I s' ∧ μ s' < m ∧ Fzd ρ h ρ2 h2 ∧ Fit n0 N bs ρ2 h2 (E s') (B s') := rfl

theorem again_in {σ : Type} {N : Nat} {E : σ → List (Nat × AV)} {B : σ → List (Option (List AV))} {I : σ → Prop} {μ : σ → Nat} {m : Nat} {t : Tag (againK n0 N E B I μ m)} (s' : σ) (bs : List Nat) (hI : I s') (hμ : μ s' < m) (hf : Fit n0 N bs ρ h (E s') (B s')) : ap (againK n0 N E B I μ m) t ρ h := ⟨s', bs, ρ, h, hI, hμ, .inl ⟨rfl, rfl⟩, hf⟩
/-- A round's end, at which the block 'b0' becomes fixed. -/
theorem again_z {σ : Type} {N : Nat} {E : σ → List (Nat × AV)} {B : σ → List (Option (List AV))} {I : σ → Prop} {μ : σ → Nat} {m : Nat} {t : Tag (againK n0 N E B I μ m)} (b0 : Nat) (s' : σ) (bs : List Nat) (hI : I s') (hμ : μ s' < m) (hf : Fit n0 N bs (ρ.map (fzv h b0)) (fzH h b0) (E s') (B s')) : ap (againK n0 N E B I μ m) t ρ h := ⟨s', bs, _, _, hI, hμ, .inr ⟨b0, rfl, rfl⟩, hf⟩
theorem fit_en {bs : List Nat} {j : Nat → AV} {N : Nat} : ∀ (E : List (Nat × AV)) (t : Nat), ρ.length = N → t < N → FitE bs ρ E → lk (fun t => ((rnS bs j ρ)[t]?).getD (.val undef)) t E = ((rnS bs j ρ)[t]?).getD (.val undef)
  | [], t, _, _, _ => rfl
  | (q, x) :: E, t, hN, ht, hf => by
    by_cases hq : t = q
    · subst hq
      rw [lk_hit]
      have h1 := List.getElem?_eq_getElem (show t < ρ.length by omega)
      have h2 := hf.1
      simp only [aev, List.getD, h1, Option.getD_some] at h2
      simp [rnS, h1, h2]
    · rw [lk_miss hq]; exact fit_en E t hN ht hf.2
theorem Fit.named {σ : Type} {N : Nat} {E : σ → List (Nat × AV)} {B : σ → List (Option (List AV))} {I : σ → Prop} {bs : List Nat} {s : σ} {Z : List AV → H → Prop} (hf : Fit n0 N bs ρ h (E s) (B s)) (hz : ∀ j, Z (en N j (E s)) (mkH (B s))) : Named n0 Z ρ h := by
  obtain ⟨h1, h2, h3, h4, h5⟩ := hf
  refine ⟨bs, B s, h2, h3, h4, fun j => ?_⟩
  have : rnS bs j ρ = en N (fun t => ((rnS bs j ρ)[t]?).getD (.val undef)) (E s) := by
    apply List.ext_getElem?
    intro k
    rw [en_get?]
    by_cases hk : k < N
    · rw [if_pos hk, fit_en (E s) k h1 hk h5, List.getElem?_eq_getElem (by simp [rnS]; omega)]; rfl
    · rw [if_neg hk, List.getElem?_eq_none (by simp [rnS]; omega)]
  rw [this]; exact hz _

theorem vcR_mono : ∀ (code : Code) (Q Q' : Exit → List AV → H → Prop) (ρ : List AV) (h : H), (∀ e ρ h, Q e ρ h → Q' e ρ h) → vcR P md n0 code Q ρ h → vcR P md n0 code Q' ρ h := by
  intro code
  induction code with
  | skip => intro Q Q' ρ h hq hv; exact hq _ _ _ hv
  | region id ops draw =>
    intro Q Q' ρ h hq hv
    cases draw with
    | false => exact vcOps_mono (fun ρ h => hq _ ρ h) ops.toList ρ h hv
    | true =>
      obtain ⟨g1, g2, ct, g3, g4, g5⟩ := hv
      exact ⟨g1, g2, ct, g3, g4, vcDr_mono (fun ρ h => hq _ ρ h) ops.toList 0 ρ h.get g5⟩
  | seq x y ihx ihy =>
    intro Q Q' ρ h hq hv
    refine ihx _ _ ρ h (fun e ρ h he => ?_) hv
    cases e with
    | normal => exact ihy Q Q' ρ h hq he
    | _ => exact hq _ _ _ he
  | cond cc x y ihx ihy =>
    intro Q Q' ρ h hq hv
    simp only [vcR, onBool] at hv ⊢
    split at hv
    · exact ifB_mono (ihx Q Q' ρ h hq) (ihy Q Q' ρ h hq) hv
    · exact hv.elim
    · exact hv.elim
  | block id x ih =>
    intro Q Q' ρ h hq hv
    refine ih _ _ ρ h (fun e ρ h he => ?_) hv
    cases e with
    | exit id' =>
      simp only [blockK] at he ⊢
      split at he
      · rename_i hid; rw [if_pos hid]; exact hq _ _ _ he
      · rename_i hid; rw [if_neg hid]; exact hq _ _ _ he
    | _ => exact hq _ _ _ he
  | loop x ih =>
    intro Q Q' ρ h hq hv
    obtain ⟨I, h1, h2⟩ := hv
    refine ⟨I, h1, fun j ρ h hI => ih _ _ ρ h (fun e ρ h he => ?_) (h2 j ρ h hI)⟩
    cases e with
    | normal => exact he
    | _ =>
      obtain ⟨ρ2, h2, gz, he⟩ := he
      exact ⟨ρ2, h2, gz, hq _ _ _ he⟩
  | rangeFunc g ps assign body _ _ => intro Q Q' ρ h hq hv; exact Ranged_mono hq hv
  | exit id => intro Q Q' ρ h hq hv; exact hq _ _ _ hv
  | scope _ _ => intro Q Q' ρ h hq hv; exact hv.elim
  | label _ => intro Q Q' ρ h hq hv; exact hv.elim
  | goto _ => intro Q Q' ρ h hq hv; exact hv.elim
  | ret => intro Q Q' ρ h hq hv; exact hq _ _ _ hv
  | refuse _ => intro Q Q' ρ h hq hv; exact hv.elim
/-- An exit at which a block may become fixed. -/
def exitZ (Q : Exit → List AV → H → Prop) (e : Exit) (ρ : List AV) (h : H) : Prop := ∃ ρ2 h2, Fzd ρ h ρ2 h2 ∧ Q e ρ2 h2
theorem exitZ_in {e : Exit} {t : Tag (exitZ Q e)} (hq : ap (Q e) .mk ρ h) : ap (exitZ Q e) t ρ h := ⟨ρ, h, .inl ⟨rfl, rfl⟩, hq⟩
theorem exitZ_fz {e : Exit} {t : Tag (exitZ Q e)} (b0 : Nat) (hq : ap (Q e) .mk (ρ.map (fzv h b0)) (fzH h b0)) : ap (exitZ Q e) t ρ h := ⟨_, _, .inr ⟨b0, rfl, rfl⟩, hq⟩
/-- A LOOP: in the state 's' the slots are 'E s', the blocks 'B s'. -/
theorem LoopCR.on {x : Code} {σ : Type} (N : Nat) (E : σ → List (Nat × AV)) (B : σ → List (Option (List AV))) (I : σ → Prop) (μ : σ → Nat) (s0 : σ) (bs : List Nat) (hI : I s0) (hf : Fit n0 N bs ρ h (E s0) (B s0))
    (round : ∀ s j, I s → ap (vcR P md n0 x (seqK (againK n0 N E B I μ (μ s)) Q)) .mk (en N j (E s)) (mkH (B s))) {t : Tag Q} : LoopCR P md n0 x Q t ρ h := by
  refine ⟨fun m ρ h => ∃ s j, m = μ s ∧ I s ∧ ρ = en N j (E s) ∧ h = mkH (B s), ⟨_, hf.named (I := I) (fun j => ⟨s0, j, rfl, hI, rfl, rfl⟩)⟩, ?_⟩
  rintro m ρ h ⟨s, j, rfl, hs, rfl, rfl⟩
  have h3 := round s j hs
  refine vcR_mono x _ _ _ _ (fun e ρ' h' he => ?_) h3
  cases e with
  | normal =>
    obtain ⟨s', bs', ρ2, h2, g1, g2, gz, g3⟩ := he
    exact ⟨ρ2, h2, gz, g3.named (I := I) (fun j => ⟨_, g2, s', j, rfl, g1, rfl, rfl⟩)⟩
  | _ => exact ⟨ρ', h', .inl ⟨rfl, rfl⟩, he⟩

/-- A LOOP at whose exits a block may become fixed: in the state 's' the slots are 'E s', the blocks 'B s'. -/
theorem LoopCR.onZ {x : Code} {σ : Type} (N : Nat) (E : σ → List (Nat × AV)) (B : σ → List (Option (List AV))) (I : σ → Prop) (μ : σ → Nat) (s0 : σ) (bs : List Nat) (hI : I s0) (hf : Fit n0 N bs ρ h (E s0) (B s0))
    (round : ∀ s j, I s → ap (vcR P md n0 x (seqK (againK n0 N E B I μ (μ s)) (exitZ Q))) .mk (en N j (E s)) (mkH (B s))) {t : Tag Q} : LoopCR P md n0 x Q t ρ h := by
  refine ⟨fun m ρ h => ∃ s j, m = μ s ∧ I s ∧ ρ = en N j (E s) ∧ h = mkH (B s), ⟨_, hf.named (I := I) (fun j => ⟨s0, j, rfl, hI, rfl, rfl⟩)⟩, ?_⟩
  rintro m ρ h ⟨s, j, rfl, hs, rfl, rfl⟩
  have h3 := round s j hs
  refine vcR_mono x _ _ _ _ (fun e ρ' h' he => ?_) h3
  cases e with
  | normal =>
    obtain ⟨s', bs', ρ2, h2, g1, g2, gz, g3⟩ := he
    exact ⟨ρ2, h2, gz, g3.named (I := I) (fun j => ⟨_, g2, s', j, rfl, g1, rfl, rfl⟩)⟩
  | _ => exact he

/-- What the function was handed to write into holds what is said. -/
def FinB (hh : H) : List (List AV) → Nat → Prop
  | [], _ => True
  | l :: bl, i => hh.get i = some l ∧ FinB hh bl (i + 1)
theorem FinB_get {hh : H} : ∀ {bl : List (List AV)} {i : Nat}, FinB hh bl i → ∀ (k : Nat) (l : List AV), bl[k]? = some l → hh.get (i + k) = some l
  | [], _, _, k, l, h => by simp at h
  | x :: bl, i, hf, k, l, h => by
    cases k with
    | zero => simp at h; subst h; exact hf.1
    | succ k => have := FinB_get hf.2 k l (by simpa using h); rwa [show i + 1 + k = i + (k + 1) by omega] at this
def FinM (P : Program) (fn : Func) (n0 : Nat) (x : AV) (cs1 : List (List AV)) (e : Exit) (ρ : List AV) (hh : H) : Prop :=
  match e with
  | .normal | .ret => ∃ y, resA P fn.results ρ hh = some y ∧ (∃ k, frz k hh n0 y = some x) ∧ FinB hh cs1 0
  | _ => False
theorem ap_finm_ret {fn : Func} {x : AV} {cs1 : List (List AV)} {t : Tag (FinM P fn n0 x cs1 .ret)} : ap (FinM P fn n0 x cs1 .ret) t ρ h = onSome (resA P fn.results ρ h) (fun y => (∃ k, frz k h n0 y = some x) ∧ FinB h cs1 0) .mk := by
  unfold ap FinM onSome; cases resA P fn.results ρ h <;> simp
theorem ap_finm_normal {fn : Func} {x : AV} {cs1 : List (List AV)} {t : Tag (FinM P fn n0 x cs1 .normal)} : ap (FinM P fn n0 x cs1 .normal) t ρ h = onSome (resA P fn.results ρ h) (fun y => (∃ k, frz k h n0 y = some x) ∧ FinB h cs1 0) .mk := by
  unfold ap FinM onSome; cases resA P fn.results ρ h <;> simp

/-- A FUNCTION, BY SPARSE SLOTS: the blocks 'cs0' are handed over, and hold 'cs1' behind it. -/
theorem Fn.ofR {f : FuncId} {fn : Func} {code : Code} (md : Oper → Bool) {args : List AV} {cs0 cs1 : List (List AV)} {x : AV} (hcall : callable P f = true) (hf : P.funcs[f]? = some fn) (hb : fn.body = some code) (hN : args.length ≤ fn.ntmps) (hl : cs1.length = cs0.length) (hcl : (cs1.all fun l => l.all clean1) = true)
    (hv : ap (vcR P md (cs0.map some).length code (FinM P fn (cs0.map some).length x cs1)) .mk (en fn.ntmps (fun _ => .val undef) (en0 0 args)) (mkH (cs0.map some))) : Fn P f args (mkH (cs0.map some)) x (mkH (cs1.map some)) := by
  refine ⟨hcall, fun n c D w vs hr hfr hargs => ?_⟩
  rw [← en_start hN] at hv
  have hbody : CallsIn Fence.wide n P f vs w (fun e w' => ∃ v c' D' ρ hh y ex, e = .returned v ∧ FinM P fn (cs0.map some).length x cs1 ex ρ hh ∧ resA P fn.results ρ hh = some y ∧ R c' w' D' y v ∧ Rel c' D' hh w' ∧ Ext D (mkH (cs0.map some)) c w D' c' w' hh ∧ ∀ b, D' b → D b ∨ ((mkH (cs0.map some)).next ≤ b ∧ b < hh.next)) := by
    refine callsIn_of_wp_marks hf hb trivial (wpIn_mono (vcR_sound (md := md) (n := n) (D0 := D) (h0 := mkH (cs0.map some)) (c0 := c) (w0 := w) hfr code _ _ (mkH (cs0.map some)) _ w c D hv ?_) ?_)
    · refine ⟨hr, ⟨by simp [hargs.1], fun i y u e1 e2 => ?_⟩, Ext.refl D (mkH (cs0.map some)) c w, Marks.of_nil rfl, fun b hb => .inl hb⟩
      rw [Array.getElem?_append] at e2
      by_cases hi : i < vs.size
      · rw [if_pos hi] at e2
        rw [List.getElem?_append_left (by rw [← hargs.1]; exact hi)] at e1
        exact hargs.2 i y u e1 e2
      · rw [if_neg hi] at e2
        rw [List.getElem?_append_right (by rw [← hargs.1]; omega)] at e1
        simp only [List.getElem?_replicate, Array.getElem?_replicate] at e1 e2
        split at e1
        · split at e2
          · cases e1; cases e2; exact .val _
          · cases e2
        · cases e1
    · rintro e a w' ⟨ρ, hh, c', D', hq, s⟩
      have hqq : (e = .normal ∨ e = .ret) ∧ ∃ y, resA P fn.results ρ hh = some y := by
        cases e with
        | normal => obtain ⟨y, h1, _⟩ := hq; exact ⟨.inl rfl, y, h1⟩
        | ret => obtain ⟨y, h1, _⟩ := hq; exact ⟨.inr rfl, y, h1⟩
        | _ => exact hq.elim
      obtain ⟨hex, y, hy⟩ := hqq
      obtain ⟨ms, h1, h2, h3, g1, g2, g3⟩ := s.shut
      obtain ⟨v, h4, h5⟩ := run_resA (fn := fn) g1 g2 hy
      have fin := leaves_marks (F := Fr none) (n := n) (P := P) (fn := fn) (tmps := a.tmps) (R := fun e w' => ∃ v c' D' ρ hh y ex, e = .returned v ∧ FinM P fn (cs0.map some).length x cs1 ex ρ hh ∧ resA P fn.results ρ hh = some y ∧ R c' w' D' y v ∧ Rel c' D' hh w' ∧ Ext D (mkH (cs0.map some)) c w D' c' w' hh ∧ ∀ b, D' b → D b ∨ ((mkH (cs0.map some)).next ≤ b ∧ b < hh.next)) ms w' h2 h3
        ⟨v, h4, v, c', D', ρ, hh, y, e, rfl, hq, hy, h5, g1, g3, s.dom⟩
      rw [← h1] at fin
      rcases hex with rfl | rfl
      · exact fin
      · exact fin
  refine hbody.mono ?_
  rintro e w' ⟨v, c', D', ρ, hh, y, ex, rfl, hfin, g2, g3, g4, g5, g6⟩
  have hfin' : ∃ y, resA P fn.results ρ hh = some y ∧ (∃ k, frz k hh (cs0.map some).length y = some x) ∧ FinB hh cs1 0 := by
    cases ex with
    | normal => exact hfin
    | ret => exact hfin
    | _ => exact hfin.elim
  obtain ⟨y', q1, ⟨k, q2⟩, q3⟩ := hfin'
  rw [q1] at g2; cases g2
  obtain ⟨p1, p2, p3⟩ := frz_post (h' := mkH (cs1.map some)) g3 g4 g5 g6 (by simp [mkH, hl]) q2 (fun b cs hb => by
    have hb' : cs1[b]? = some cs := by rw [mkH_get, List.getElem?_map] at hb; cases hc : cs1[b]? with | none => simp [hc] at hb | some z => simp [hc] at hb; rw [hb]
    have h1 := FinB_get q3 b cs hb'
    rw [Nat.zero_add] at h1
    refine ⟨cs, 1, h1, ?_, on_frzl ((List.all_eq_true.1 hcl) cs (List.mem_of_getElem? hb'))⟩
    have := (List.getElem?_eq_some_iff.1 hb').1
    simp [mkH]; omega) (fun b r hb => by simp [mkH] at hb)
  exact ⟨v, _, D, rfl, p1, p2, p3, fun b hb => .inl hb⟩
theorem Fn.ofR0 {f : FuncId} {fn : Func} {code : Code} (md : Oper → Bool) {args : List AV} {x : AV} (hcall : callable P f = true) (hf : P.funcs[f]? = some fn) (hb : fn.body = some code) (hN : args.length ≤ fn.ntmps)
    (hv : ap (vcR P md 0 code (FinM P fn 0 x [])) .mk (en fn.ntmps (fun _ => .val undef) (en0 0 args)) (mkH [])) : Fn P f args .nil x .nil := Fn.ofR (cs0 := []) (cs1 := []) md hcall hf hb hN rfl rfl hv
theorem Fn.ofR1 {f : FuncId} {fn : Func} {code : Code} (md : Oper → Bool) {args : List AV} {x : AV} {cs cs' : List AV} (hcall : callable P f = true) (hf : P.funcs[f]? = some fn) (hb : fn.body = some code) (hN : args.length ≤ fn.ntmps) (hcl : cs'.all clean1 = true)
    (hv : ap (vcR P md 1 code (FinM P fn 1 x [cs'])) .mk (en fn.ntmps (fun _ => .val undef) (en0 0 args)) (mkH [some cs])) : Fn P f args (.one cs) x (.one cs') := by
  have := Fn.ofR (cs0 := [cs]) (cs1 := [cs']) md hcall hf hb hN rfl (by simp [hcl]) hv
  rwa [List.map_cons, List.map_nil, List.map_cons, List.map_nil, mkH_one, mkH_one] at this

/-- A slice that grows: none of its own before the first append. -/
def grow (b k n : Nat) : AV := if n = 0 then .ro true k [] else .sl b 0 n k
theorem grow_zero {b k : Nat} : grow b k 0 = .ro true k [] := rfl
theorem grow_succ {b k n : Nat} : grow b k (n + 1) = .sl b 0 (n + 1) k := by simp [grow]
theorem one_grow {b k n : Nat} : one (grow b k n) = true := by cases n <;> rfl
theorem cellsOf_grow {b k n : Nat} : cellsOf (grow b k n) = some [grow b k n] := by cases n <;> rfl
def grown (n : Nat) (l : List AV) : Option (List AV) := if n = 0 then none else some l
theorem grown_zero {l : List AV} : grown 0 l = none := rfl
theorem grown_succ {n : Nat} {l : List AV} : grown (n + 1) l = some l := by simp [grown]
theorem append_grow {E : TI} {b k n : Nat} {old : List AV} {xs : List (List AV)} (hb : h.get b = grown n old) (hk : k = E.size) (h0 : 0 < E.size) (hz : E.zero.length = E.size) (hol : old.length = n * k) (hb1 : (n + xs.length) * E.bytes ≤ 70368744177664) (hb2 : n + xs.length ≤ 70368744177664) (hx : 0 < xs.length) :
    appendA E true h (grow b k n) (.ro true k xs) = some (.sl h.next 0 (n + xs.length) k, { next := h.next + 1, get := fun q => if q = h.next then some (old ++ xs.flatten) else if q = b then none else h.get q, lp := h.lp }) := by
  subst hk
  cases n with
  | zero =>
    rw [grown_zero] at hb
    have ho : old = [] := List.length_eq_zero_iff.1 (by simpa using hol)
    subst ho
    simp only [grow_zero, appendA, rowsA, if_true]
    rw [if_pos ⟨h0, hz⟩, if_pos ⟨trivial, by simpa using hb1, by simpa using hb2⟩]
    rw [if_neg (by omega)]
    simp only [List.length_nil, List.flatten_nil, H.push]
    congr 3
    funext q
    by_cases hq : q = b
    · subst hq; simp [hb]
    · simp [hq]
  | succ n =>
    rw [grown_succ] at hb
    rw [grow_succ]
    simp only [appendA, rowsA, if_true]
    rw [if_pos ⟨h0, hz⟩, hb]
    simp only
    rw [if_pos ⟨trivial, trivial, hol, hb1, hb2⟩]

variable {bs : List Nat} {E : List (Nat × AV)} {B : List (Option (List AV))} {BB : List (List AV)} {N t : Nat} {x : AV}
theorem resOne_tmp' {t : Nat} : resOne P ρ h (.tmp t) = some (aev ρ (.tmp t)) := rfl
theorem resOne_cell' {a : Nat} {t : TypeId} : resOne P ρ h (.cell a t) = tyInt P t fun T => loadA T h (aev ρ (.tmp a)) := rfl
theorem cons_guard' {d : Option Nat} {ty : TypeId} {p : String} {af : Array Edge} {op : Op} {k : Nat} {want : Bool} {all : Array Oper} {Q : List AV → H → Prop} {rest : List Oper} {t : Tag (vcOps P md all Q (Oper.mk d op ty p af (some (k, want)) :: rest))} : ap (vcOps P md all Q (Oper.mk d op ty p af (some (k, want)) :: rest)) t ρ h =
    onSome (dstT all .mk k) (fun d' => onBool (aev ρ (.tmp d')) (fun b => ifB (b == want) (ap (stepA P md (Oper.mk d op ty p af (some (k, want))) (vcOps P md all Q rest)) .mk (putA ρ (some d') (.val (.bool want))) h) (ap (vcOps P md all Q rest) .mk (putA (putA ρ (some d') (.val (.bool !want))) d (.val undef)) h) .mk .mk)
          (ap (vcOps P md all Q rest) .mk (putA ρ d (.val undef)) h) .mk .mk) .mk := rfl
theorem dr_guard' {d : Option Nat} {ty : TypeId} {p : String} {af : Array Edge} {op : Op} {k i : Nat} {want : Bool} {all : Array Oper} {Q : List AV → H → Prop} {rest : List Oper} {ct : Cert} {h0 : H} {G : Nat → Option (List AV)} {t : Tag (vcDr P md ct all h0 Q (Oper.mk d op ty p af (some (k, want)) :: rest) i)} : apG (vcDr P md ct all h0 Q (Oper.mk d op ty p af (some (k, want)) :: rest) i) t ρ G =
    onSome (dstT all .mk k) (fun d' => onBool (aev ρ (.tmp d')) (fun b => ifB (b == want) (ifB (quietA ct i (Oper.mk d op ty p af (some (k, want)))) (apQ P (Oper.mk d op ty p af (some (k, want))) (qView ct h0 all.size i) (fun x => apG (vcDr P md ct all h0 Q rest (i + 1)) .mk (putA (putA ρ (some d') (.val (.bool want))) d x) G) .mk .mk (putA ρ (some d') (.val (.bool want))))
      (apE P (md (Oper.mk d op ty p af (some (k, want)))) (Oper.mk d op ty p af (some (k, want))) (eView all ct h0 i (h0.next + i) (Oper.mk d op ty p af (some (k, want))) G) (eView all ct h0 i (h0.next + all.size) (Oper.mk d op ty p af (some (k, want))) G) (fun x h' => apG (vcDr P md ct all h0 Q rest (i + 1)) .mk (putA (putA ρ (some d') (.val (.bool want))) d x) (mergeG G (eView all ct h0 i (h0.next + i) (Oper.mk d op ty p af (some (k, want))) G) h')) .mk .mk (putA ρ (some d') (.val (.bool want)))) .mk .mk)
          (apG (vcDr P md ct all h0 Q rest (i + 1)) .mk (putA (putA ρ (some d') (.val (.bool !want))) d (.val undef)) G) .mk .mk)
          (apG (vcDr P md ct all h0 Q rest (i + 1)) .mk (putA ρ d (.val undef)) G) .mk .mk) .mk := by
  rw [dr_guard]; rfl
theorem FitE_nil : FitE bs ρ [] = True := rfl
theorem FitE_cons : FitE bs ρ ((t, x) :: E) = (rn bs 4 (aev ρ (.tmp t)) = some x ∧ FitE bs ρ E) := rfl
theorem MH_nil : MH bs h [] [] = True := rfl
theorem MH_none {b : Nat} {l : List Nat} : MH bs h (b :: l) (none :: B) = MH bs h l B := rfl
theorem MH_cons {b : Nat} {l : List Nat} {c : List AV} : MH bs h (b :: l) (some c :: B) = ((∃ cs, h.get b = some cs ∧ cs.mapM (rn bs 4) = some c) ∧ MH bs h l B) := rfl
theorem FinB_nil {i : Nat} : FinB h [] i = True := rfl
theorem FinB_cons {i : Nat} {c : List AV} : FinB h (c :: BB) i = (h.get i = some c ∧ FinB h BB (i + 1)) := rfl
theorem rn_val {n : Nat} {v : Value} : rn bs (n + 1) (.val v) = some (.val v) := rfl
theorem rn_ro {n : Nat} {f : Bool} {k : Nat} {xs : List (List AV)} : rn bs (n + 1) (.ro f k xs) = some (.ro f k xs) := rfl
theorem rn_rop {n : Nat} {cs : List AV} : rn bs (n + 1) (.rop cs) = some (.rop cs) := rfl
theorem rn_ptr {n b o : Nat} : rn bs (n + 1) (.ptr b o) = (rnI b bs 0).map fun b => .ptr b o := rfl
theorem rn_sl {n b o len k : Nat} : rn bs (n + 1) (.sl b o len k) = (rnI b bs 0).map fun b => .sl b o len k := rfl
theorem rn_agg {n : Nat} {l : List AV} : rn bs (n + 1) (.agg l) = (l.mapM (rn bs n)).map .agg := rfl
theorem rn_tup {n : Nat} {l : List AV} : rn bs (n + 1) (.tup l) = (l.mapM (rn bs n)).map .tup := rfl
theorem rn_clo {n f : Nat} {l : List AV} : rn bs (n + 1) (.clo f l) = (l.mapM (rn bs n)).map (.clo f) := rfl
theorem rnI_hit {b i : Nat} {l : List Nat} : rnI b (b :: l) i = some i := by simp [rnI]
theorem rnI_miss {b q i : Nat} {l : List Nat} (hq : b ≠ q) : rnI b (q :: l) i = rnI b l (i + 1) := by simp [rnI, hq]
theorem rnL_clean {n : Nat} : ∀ {l : List AV}, l.all clean1 = true → l.mapM (rn bs (n + 1)) = some l
  | [], _ => rfl
  | y :: l, hl => by
    simp only [List.all_cons, Bool.and_eq_true] at hl
    have hy : rn bs (n + 1) y = some y := by
      cases y <;> first | rfl | (simp [clean1] at hl)
    rw [List.mapM_cons, hy, rnL_clean hl.2]; rfl
theorem Nodup_nil : ([] : List Nat).Nodup = True := by simp
theorem Nodup_cons {b : Nat} {l : List Nat} : (b :: l).Nodup = (b ∉ l ∧ l.Nodup) := by simp
theorem low0 : (∀ i, i < 0 → bs[i]? = some i) = True := by simp
theorem low1 : (∀ i, i < 1 → bs[i]? = some i) = (bs[0]? = some 0) := by
  refine propext ⟨fun h => h 0 (by omega), fun h i hi => ?_⟩
  have : i = 0 := by omega
  subst this; exact h
theorem low2 : (∀ i, i < 2 → bs[i]? = some i) = (bs[0]? = some 0 ∧ bs[1]? = some 1) := by
  refine propext ⟨fun h => ⟨h 0 (by omega), h 1 (by omega)⟩, fun h i hi => ?_⟩
  rcases (show i = 0 ∨ i = 1 by omega) with rfl | rfl
  · exact h.1
  · exact h.2

/-- What is made to be read: a slice of rows. -/
theorem chunk_rows {k : Nat} : ∀ {rows : List (List AV)}, (∀ r ∈ rows, r.length = k) → chunk k rows.length rows.flatten = rows
  | [], _ => rfl
  | r :: rows, hr => by
    have ih := chunk_rows (k := k) (rows := rows) fun q hq => hr q (by simp [hq])
    have h1 := hr r (by simp)
    rw [List.length_cons, chunk_succ, List.flatten_cons, List.take_left' h1, List.drop_left' h1, ih]
theorem flat_len {k : Nat} : ∀ {rows : List (List AV)}, (∀ r ∈ rows, r.length = k) → rows.flatten.length = rows.length * k
  | [], _ => by simp
  | r :: rows, hr => by
    have ih := flat_len (k := k) (rows := rows) fun q hq => hr q (by simp [hq])
    rw [List.flatten_cons, List.length_append, ih, hr r (by simp), List.length_cons, Nat.succ_mul]; omega
theorem frz_rows {b n k N : Nat} {rows : List (List AV)} (hb : h.get b = some rows.flatten) (hN : N ≤ b) (hn : rows.length = n) (hk : ∀ r ∈ rows, r.length = k) (hc : (rows.flatten.all fun x => clean1 x && one x) = true) : frz 2 h N (.sl b 0 n k) = some (.ro false k rows) := by
  have hl := flat_len hk
  rw [hn] at hl
  have hc1 : rows.flatten.all clean1 = true := List.all_eq_true.2 fun x hx => by have := (List.all_eq_true.1 hc) x hx; simp only [Bool.and_eq_true] at this; exact this.1
  have ht : takeAt rows.flatten 0 (n * k) = some rows.flatten := by
    unfold takeAt
    rw [if_pos (by omega), List.drop_zero, List.take_of_length_le (by omega)]
  rw [frz, if_neg (by omega), hb]
  simp only [ht, on_frzl hc1]
  rw [if_pos, ← hn, chunk_rows hk]
  refine List.all_eq_true.2 fun x hx => ?_
  have := (List.all_eq_true.1 hc) x hx
  simp only [Bool.and_eq_true] at this ⊢
  refine ⟨?_, this.2⟩
  cases x <;> simp_all [clean, clean1]
theorem rn_grow {m b k n : Nat} (hb : (rnI b bs 0).isSome = true) : rn bs (m + 1) (grow b k n) = (rnI b bs 0).map fun b => grow b k n := by
  obtain ⟨q, hq⟩ := Option.isSome_iff_exists.1 hb
  cases n with
  | zero => rw [hq]; rfl
  | succ n => rw [grow_succ, rn_sl, hq]; simp [grow_succ]
theorem MH_grown {b n : Nat} {l : List Nat} {c : List AV} (hb : h.get b = grown n c) (hc : c.mapM (rn bs 4) = some c) : MH bs h (b :: l) (grown n c :: B) = MH bs h l B := by
  cases n with
  | zero => rfl
  | succ n =>
    rw [grown_succ] at hb ⊢
    rw [MH_cons]
    exact propext ⟨fun h => h.2, fun h => ⟨⟨c, hb, hc⟩, h⟩⟩
/-- Rows, one after another. -/
def rws {α : Type} (f : α → List AV) (l : List α) : List AV := (l.map f).flatten
theorem rws_nil {α : Type} {f : α → List AV} : rws f [] = [] := rfl
theorem rws_snoc {α : Type} {f : α → List AV} {l : List α} {x : α} : rws f l ++ f x = rws f (l ++ [x]) := by simp [rws]
theorem rws_len {α : Type} {f : α → List AV} {k : Nat} (hf : ∀ a, (f a).length = k) : ∀ {l : List α}, (rws f l).length = l.length * k
  | [] => by simp [rws]
  | a :: l => by
    have := rws_len hf (l := l)
    simp only [rws, List.map_cons, List.flatten_cons, List.length_append, List.length_cons, Nat.succ_mul] at this ⊢
    rw [hf, this]; omega
theorem rws_all {α : Type} {f : α → List AV} {q : AV → Bool} (hf : ∀ a, (f a).all q = true) : ∀ {l : List α}, (rws f l).all q = true
  | [] => rfl
  | a :: l => by
    have := rws_all hf (l := l)
    simp only [rws, List.map_cons, List.flatten_cons, List.all_append, Bool.and_eq_true] at this ⊢
    exact ⟨hf a, this⟩
theorem rws_rn {α : Type} {f : α → List AV} {l : List α} {n : Nat} (hf : ∀ a, (f a).all clean1 = true) : (rws f l).mapM (rn bs (n + 1)) = some (rws f l) := rnL_clean (rws_all hf)
/-- append to rows that grow. -/
theorem append_rws {E : TI} {α : Type} {f : α → List AV} {b k n : Nat} {l : List α} {x : α} (hb : h.get b = grown n (rws f l)) (hn : l.length = n) (hk : k = E.size) (h0 : 0 < E.size) (hz : E.zero.length = E.size) (hf : ∀ a, (f a).length = k) (hb1 : (n + 1) * E.bytes ≤ 70368744177664) (hb2 : n + 1 ≤ 70368744177664) :
    appendA E true h (grow b k n) (.ro true k [f x]) = some (.sl h.next 0 (n + 1) k, { next := h.next + 1, get := fun q => if q = h.next then some (rws f (l ++ [x])) else if q = b then none else h.get q, lp := h.lp }) := by
  rw [append_grow (xs := [f x]) hb hk h0 hz (by rw [rws_len hf, hn]) hb1 hb2 (by simp)]
  simp [← rws_snoc]
theorem on_append {E : TI} {own : Bool} {α : Type} {b k n : Nat} {r : List AV} {K : AV × H → Prop} {t : Tag K} (f : α → List AV) (l : List α) (x : α) (hb : h.get b = grown n (rws f l)) (hn : l.length = n) (hb1 : (n + 1) * E.bytes ≤ 70368744177664) (hb2 : n + 1 ≤ 70368744177664) (hr : f x = r) (hk : k = E.size) (h0 : 0 < E.size) (hz : E.zero.length = E.size) (hf : ∀ a, (f a).length = k)
    (hv : K (.sl h.next 0 (n + 1) k, { next := h.next + 1, get := fun q => if q = h.next then some (rws f (l ++ [x])) else if q = b then none else h.get q, lp := h.lp })) (hown : own = true) : onSome (appendA E own h (grow b k n) (.ro true k [r])) K t := by
  subst hown
  subst hr
  rw [append_rws hb hn hk h0 hz hf hb1 hb2]
  exact hv
/-- A copy that is only read. -/
theorem append_copy {E : TI} {k : Nat} {f : Bool} {xs : List (List AV)} (hk : k = E.size) (h0 : 0 < E.size) (hz : E.zero.length = E.size) (hb1 : xs.length * E.bytes ≤ 70368744177664) (hb2 : xs.length ≤ 70368744177664) : appendA E false h (.ro true k []) (.ro f k xs) = some (.ro false k xs, h) := by
  subst hk
  simp only [appendA, rowsA, if_true]
  rw [if_pos ⟨h0, hz⟩, if_pos ⟨trivial, by simpa using hb1, by simpa using hb2⟩]
  simp
/-- append to rows, and what comes is not written into any more. -/
theorem on_append_ro {E : TI} {own : Bool} {α : Type} {b k n : Nat} {r : List AV} {K : AV × H → Prop} {t : Tag K} (f : α → List AV) (l : List α) (x : α) (hb : h.get b = grown n (rws f l)) (hfr : h.get h.next = none) (hn : l.length = n) (hb1 : (n + 1) * E.bytes ≤ 70368744177664) (hb2 : n + 1 ≤ 70368744177664) (hr : f x = r) (hk : k = E.size) (h0 : 0 < E.size) (hz : E.zero.length = E.size) (hf : ∀ a, (f a).length = k) (hc : ∀ a, ((f a).all fun x => clean1 x && one x) = true)
    (hv : K (.ro false k ((l ++ [x]).map f), { next := if n = 0 then h.next else h.next + 1, get := fun q => if q = h.next then none else if q = b then none else h.get q, lp := h.lp })) (hown : own = false) : onSome (appendA E own h (grow b k n) (.ro true k [r])) K t := by
  subst hr; subst hk; subst hown
  cases n with
  | zero =>
    have : l = [] := List.length_eq_zero_iff.1 hn
    subst this
    rw [grown_zero] at hb
    simp only [grow_zero, appendA, rowsA, if_true]
    rw [if_pos ⟨h0, hz⟩, if_pos ⟨trivial, by simpa using hb1, by simp⟩]
    simp only [Bool.false_eq_true, if_false, List.length_nil, if_true, onSome]
    have e : ({ next := h.next, get := fun q => if q = h.next then none else if q = b then none else h.get q, lp := h.lp } : H) = h := by
      rcases h with ⟨nx, gg, ll⟩
      simp only at hb hfr ⊢
      congr 1
      funext q
      by_cases h1 : q = nx
      · rw [if_pos h1, h1, hfr]
      · rw [if_neg h1]
        by_cases h2 : q = b
        · rw [if_pos h2, h2, hb]
        · rw [if_neg h2]
    have := hv
    simp only [if_true] at this
    rw [e] at this
    exact this
  | succ n =>
    rw [grown_succ] at hb
    have hl := rws_len hf (l := l)
    rw [grow_succ]
    simp only [appendA, rowsA, if_true]
    rw [if_pos ⟨h0, hz⟩, hb]
    simp only
    rw [if_pos ⟨trivial, trivial, by rw [hl, hn], hb1, hb2⟩]
    have e1 : rws f l ++ [f x].flatten = rws f (l ++ [x]) := by simp [rws]
    rw [e1, if_neg (by simp), if_pos (rws_all hc)]
    have e2 : chunk E.size (n + 1 + [f x].length) (rws f (l ++ [x])) = (l ++ [x]).map f := by
      have := chunk_rows (k := E.size) (rows := (l ++ [x]).map f) (fun r hr => by obtain ⟨a, _, rfl⟩ := List.mem_map.1 hr; exact hf a)
      rw [List.length_map, List.length_append, hn] at this
      exact this
    rw [e2]
    rw [if_neg (by omega)] at hv
    exact hv
/-- Whether a row that grew was never appended to. -/
def isz (n : Nat) : Bool := decide (n = 0)
theorem frz_rws {α : Type} {f : α → List AV} {b n k N : Nat} {l : List α} (hb : h.get b = grown n (rws f l)) (hN : N ≤ b) (hn : l.length = n) (hk : ∀ a, (f a).length = k) (hc : ∀ a, ((f a).all fun x => clean1 x && one x) = true) : ∃ q, frz q h N (grow b k n) = some (.ro (isz n) k (l.map f)) := by
  cases n with
  | zero =>
    have : l = [] := List.length_eq_zero_iff.1 hn
    subst this; exact ⟨1, rfl⟩
  | succ n =>
    rw [grown_succ] at hb
    refine ⟨2, ?_⟩
    rw [grow_succ, frz_rows (rows := l.map f) hb hN (by simpa using hn) (fun r hr => by obtain ⟨a, _, rfl⟩ := List.mem_map.1 hr; exact hk a) (rws_all hc)]; simp [isz]
theorem frz_agg_two {N : Nat} {x x' y y' : AV} (h1 : ∃ k, frz k h N x = some y) (h2 : ∃ k, frz k h N x' = some y') : ∃ k, frz k h N (.agg [x, x']) = some (.agg [y, y']) := by
  obtain ⟨k, h1⟩ := h1
  obtain ⟨k', h2⟩ := h2
  refine ⟨k + k' + 1, ?_⟩
  rw [frz, List.mapM_cons, frz_le (show k ≤ k + k' by omega) h1, List.mapM_cons, frz_le (show k' ≤ k + k' by omega) h2]; rfl
theorem frz_tup_two {N : Nat} {x x' y y' : AV} (h1 : ∃ k, frz k h N x = some y) (h2 : ∃ k, frz k h N x' = some y') : ∃ k, frz k h N (.tup [x, x']) = some (.tup [y, y']) := by
  obtain ⟨k, h1⟩ := h1
  obtain ⟨k', h2⟩ := h2
  refine ⟨k + k' + 1, ?_⟩
  rw [frz, List.mapM_cons, frz_le (show k ≤ k + k' by omega) h1, List.mapM_cons, frz_le (show k' ≤ k + k' by omega) h2]; rfl
theorem frz_one {N : Nat} {x : AV} (hx : clean1 x = true) : ∃ k, frz k h N x = some x := ⟨1, on_frz1 hx⟩
theorem frz_grow {b n k N : Nat} {rows : List (List AV)} (hb : h.get b = grown n rows.flatten) (hN : N ≤ b) (hn : rows.length = n) (hk : ∀ r ∈ rows, r.length = k) (hc : (rows.flatten.all fun x => clean1 x && one x) = true) : frz 2 h N (grow b k n) = some (.ro (isz n) k rows) := by
  cases n with
  | zero =>
    have : rows = [] := List.length_eq_zero_iff.1 hn
    subst this; rfl
  | succ n =>
    rw [grown_succ] at hb
    rw [grow_succ, frz_rows hb hN hn hk hc]; simp [isz]
end
end Go.Pe
