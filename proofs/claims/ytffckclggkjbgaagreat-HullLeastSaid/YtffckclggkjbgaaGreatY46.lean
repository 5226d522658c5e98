import Derived.Test.YtffckclggkjbgaaGreatY12
import Derived.Test.YtffckclggkjbgaaGreatY45
set_option linter.unusedVariables false
set_option linter.unusedSimpArgs false
/- A contract over a few blocks, one of which is written, holds where such blocks lie among others. -/
namespace Go.Pe
open Go

/-- WHAT IS WRITTEN OF A FEW BLOCKS: a contract over them alone, by which one of them is written, holds beside others, under other names. -/
theorem Fn.writes1 {P : Program} {f : FuncId} {args args0 : List AV} {x : AV} {cs0 : List (List AV)} {h : H} (bs : List Nat) {q0 b0 : Nat} {cn : List AV} (h0 : Fn P f args0 (mkH (cs0.map some)) x (mkH ((cs0.set q0 cn).map some))) (hq0 : bs[q0]? = some b0) (hcn : cn.all clean = true) (hnd : bs.Nodup) (hm : MH bs h bs (cs0.map some)) (ha : args.mapM (rn bs 4) = some args0) (hcl : ∀ b ∈ bs, ∀ cs, h.get b = some cs → cs.all clean = true) (hx : cleanD x = true) : Fn P f args h x (h.set b0 cn) := by
  refine ⟨h0.1, fun n c D w vs hr hfr hargs => ?_⟩
  obtain ⟨hlen, hget⟩ := MH_get hm
  simp only [List.length_map] at hlen
  have hrel := hr.named hnd hm
  obtain ⟨m1, m2⟩ := mapM_some ha
  have hal : RL (c.named bs) w (Dn D bs) args0 vs := by
    refine ⟨by rw [hargs.1, m1], fun i y u e1 e2 => ?_⟩
    have hi := (List.getElem?_eq_some_iff.1 e1).1
    rw [m1] at hi
    obtain ⟨y', e3, e4⟩ := m2 i _ (List.getElem?_eq_getElem hi)
    rw [e1] at e4; cases e4
    exact rn_R 4 _ _ _ (hargs.2 i _ u (List.getElem?_eq_getElem hi) e2) e3
  have blk : ∀ q b, bs[q]? = some b → (c.named bs).φ q = c.φ b := fun q b hb => by simp [Cx.named, hb]
  have mk : ∀ q, q < bs.length → ∃ l, (mkH (cs0.map some)).get q = some l := fun q hq => by
    have hq' : q < cs0.length := by omega
    exact ⟨cs0[q], by rw [mkH_get, List.getElem?_map, List.getElem?_eq_getElem hq']; rfl⟩
  have live : ∀ q b, bs[q]? = some b → ∃ cs, h.get b = some cs := fun q b hb => by
    have hq := (List.getElem?_eq_some_iff.1 hb).1
    obtain ⟨b', cs, e1, e2, _⟩ := hget q cs0[q] (by rw [List.getElem?_map, List.getElem?_eq_getElem (by omega)]; rfl)
    rw [hb] at e1; cases e1
    exact ⟨cs, e2⟩
  have mk2 : ∀ q, q < bs.length → ∃ l, (mkH ((cs0.set q0 cn).map some)).get q = some l := fun q hq => by
    have hq' : q < (cs0.set q0 cn).length := by rw [List.length_set]; omega
    exact ⟨(cs0.set q0 cn)[q], by rw [mkH_get, List.getElem?_map, List.getElem?_eq_getElem hq']; rfl⟩
  have hlive : ∀ b cs, (h.set b0 cn).get b = some cs → ∃ cs', h.get b = some cs' := fun b cs hb => by
    simp only [H.set] at hb
    split at hb
    · rename_i he; rw [he]; exact live q0 b0 hq0
    · exact ⟨cs, hb⟩
  refine (h0.2 n (c.named bs) (Dn D bs) w vs hrel (fun q hq hD => by
    obtain ⟨b, e1, _⟩ := hD
    have := (List.getElem?_eq_some_iff.1 e1).1
    simp [mkH] at hq; omega) hal).mono ?_
  rintro ee w' ⟨v, c', D', rfl, h2, h3, h4, h5⟩
  have hφ : ∀ q b, bs[q]? = some b → D b → c'.φ q = c.φ b := fun q b hb hD => by rw [h4.φ q ⟨b, hb, hD⟩, blk q b hb]
  have hD : ∀ q b, bs[q]? = some b → D b := fun q b hb => by
    obtain ⟨cs, e⟩ := live q b hb
    exact (hr.own b cs e).1
  -- what lies where none of the blocks lies stays as it was
  have hfr' : ∀ k, k < w.heap.size → (∀ b ∈ bs, c.φ b ≠ k) → w'.heap[k]? = w.heap[k]? := fun k hk hne => h4.frame k hk (fun q l hq => by
      have hq' : q < bs.length := by
        rw [mkH_get] at hq
        have := (List.getElem?_eq_some_iff.1 (show ((cs0.map some)[q]?) = some (some l) by cases hb : (cs0.map some)[q]? with | none => simp [hb] at hq | some o => simp [hb] at hq; rw [hq])).1
        simp at this; omega
      have hb := List.getElem?_eq_getElem hq'
      rw [blk q _ hb]
      exact hne _ (List.getElem_mem hq')) (fun q r hq => by simp [mkH] at hq)
  have notS : ∀ b ∈ bs, ¬ c'.S (c.φ b) := fun b hb hS => by
    obtain ⟨q, hq⟩ := List.getElem?_of_mem hb
    obtain ⟨l, hl⟩ := mk2 q (List.getElem?_eq_some_iff.1 hq).1
    have := (h3.own q l hl).2.1
    rw [hφ q b hq (hD q b hq)] at this
    exact this hS
  have hnS : ∀ k, c.S k → ∀ b ∈ bs, c.φ b ≠ k := fun k hk b hb he => by
    obtain ⟨q, hq⟩ := List.getElem?_of_mem hb
    obtain ⟨cs, e⟩ := live q b hq
    exact (hr.own b cs e).2.1 (he ▸ hk)
  have hS' : ∀ k, c'.S k → c.S k ∨ w.heap.size ≤ k := fun k hk => by
    rcases h4.newS k hk with h6 | h6 | ⟨q, l, h6, h7⟩
    · exact .inl h6
    · exact .inr h6
    · have hq' : q < bs.length := by
        rw [mkH_get] at h6
        have := (List.getElem?_eq_some_iff.1 (show ((cs0.map some)[q]?) = some (some l) by cases hb : (cs0.map some)[q]? with | none => simp [hb] at h6 | some o => simp [hb] at h6; rw [h6])).1
        simp at this; omega
      have hb := List.getElem?_eq_getElem hq'
      rw [blk q _ hb] at h7
      exact (notS _ (List.getElem_mem hq') (h7 ▸ hk)).elim
  have hup : ∀ {y : AV} {u : Value} {D'' D2 : Nat → Prop}, R c w D'' y u → (∀ b, D'' b → D2 b) → R { S := c'.S, φ := c.φ } w' D2 y u := fun hy hd =>
    hy.mono h4.S (fun k hk => hfr' k (hr.sz k hk) (hnS k hk)) (fun _ _ => rfl) hd h4.shp
  have hlow : ∀ {y : AV} {u : Value}, R c' w' noId y u → ∀ {D2 : Nat → Prop}, R { S := c'.S, φ := c.φ } w' D2 y u := fun hy =>
    hy.mono (fun _ hk => hk) (fun _ _ => rfl) (fun _ hb => hb.elim) (fun _ hb => hb.elim) (fun _ C _ hk => ⟨C, hk, rfl⟩)
  refine ⟨v, { S := c'.S, φ := c.φ }, D, rfl, hlow (cleanD_R h2 hx), ⟨fun b cs hb => ?_, fun b b' cs cs' hb hb' he => ?_, h3.sz, ?_, hr.linj⟩, ⟨h4.S, fun k hk => ?_, fun _ _ => rfl, fun _ hb => hb, Nat.le_refl _, h4.os, h4.tape, h4.output, h4.size, fun k hk hno hnl => hfr' k hk fun b hb he => ?_, h4.shp, fun b cs hb => by obtain ⟨cs', e⟩ := hlive b cs hb; exact .inl ⟨b, cs', e, rfl⟩, fun b r hb => .inl ⟨b, r, hb, rfl⟩, h4.fz⟩, fun b hb => .inl hb⟩
  · by_cases hb0 : b = b0
    · have hcs : cs = cn := by simp only [H.set] at hb; rw [if_pos hb0] at hb; cases hb; rfl
      subst hb0
      subst hcs
      obtain ⟨cs', e'⟩ := live q0 b hq0
      obtain ⟨q1, q2, C, e, q3, q4, q5⟩ := hr.own b cs' e'
      have hq' := (List.getElem?_eq_some_iff.1 hq0).1
      obtain ⟨p1, p2, C', e', p3, p4, p5⟩ := h3.own q0 cs (by rw [mkH_get, List.getElem?_map, List.getElem?_set_self (by omega)]; rfl)
      rw [hφ q0 b hq0 q1] at p2 p3
      exact ⟨q1, p2, C', e', p3, p4, fun k y u g1 g2 => hlow (clean_R (p5 k _ u g1 g2) (List.all_eq_true.1 hcn y (List.mem_of_getElem? g1)))⟩
    have hb : h.get b = some cs := by simp only [H.set] at hb; rwa [if_neg hb0] at hb
    obtain ⟨q1, q2, C, e, q3, q4, q5⟩ := hr.own b cs hb
    by_cases hbs : b ∈ bs
    · obtain ⟨q, hq⟩ := List.getElem?_of_mem hbs
      have hq' := (List.getElem?_eq_some_iff.1 hq).1
      have hqn : q0 ≠ q := fun he => hb0 (by rw [← he, hq0] at hq; cases hq; rfl)
      obtain ⟨b', cs', e1, e2, e3⟩ := hget q cs0[q] (by rw [List.getElem?_map, List.getElem?_eq_getElem (by omega)]; rfl)
      rw [hq] at e1; cases e1
      rw [hb] at e2; cases e2
      obtain ⟨p1, p2, C', e', p3, p4, p5⟩ := h3.own q cs0[q] (by rw [mkH_get, List.getElem?_map, List.getElem?_set_ne hqn, List.getElem?_eq_getElem (by omega)]; rfl)
      rw [hφ q b hq q1] at p2 p3
      obtain ⟨n1, n2⟩ := mapM_some e3
      have hcc := List.all_eq_true.1 (hcl b hbs cs hb)
      refine ⟨q1, p2, C', e', p3, by rw [n1] at p4; exact p4, fun k y u g1 g2 => ?_⟩
      obtain ⟨y', g3, g4⟩ := n2 k y g1
      have hy := hcc y (List.mem_of_getElem? g1)
      have hyy : y' = y := by
        have key : ∀ (n : Nat) (z z' : AV), clean1 z = true → rn bs (n + 1) z = some z' → z' = z := fun n z z' hz hr => by
          cases z <;> first | (simp [rn] at hr; exact hr.symm) | (simp [clean1] at hz)
        cases y with
        | clo f2 caps =>
          simp only [clean] at hy
          rw [rn_clo, rnL_clean hy] at g3
          simp at g3; exact g3.symm
        | _ => exact key 3 _ _ hy g3
      subst hyy
      exact hlow (clean_R (p5 k _ u g4 g2) hy)
    · have hlt := (Array.getElem?_eq_some_iff.1 q3).1
      have hne : ∀ b' ∈ bs, c.φ b' ≠ c.φ b := fun b' hb' he => by
        obtain ⟨q, hq⟩ := List.getElem?_of_mem hb'
        obtain ⟨cs', e'⟩ := live q b' hq
        exact hbs (hr.inj b' b cs' cs e' hb he ▸ hb')
      refine ⟨q1, fun hS => ?_, C, e, by rw [hfr' _ hlt hne]; exact q3, q4, fun k y u g1 g2 => hup (q5 k y u g1 g2) fun _ h => h⟩
      rcases hS' _ hS with h6 | h6
      · exact q2 h6
      · exact absurd hlt (Nat.not_lt.2 h6)
  · obtain ⟨c1, e1⟩ := hlive b cs hb
    obtain ⟨c2, e2⟩ := hlive b' cs' hb'
    exact hr.inj b b' c1 c2 e1 e2 he
  · refine hr.lps_keep h4.S (fun k hk => hfr' k (hr.sz k hk) (hnS k hk)) (fun _ _ => rfl) (fun _ hb => hb) h4.shp (fun q r hq => hfr' _ (hr.lp_lt hq) fun b hb he => ?_) (fun q r hq hS => ?_)
    · obtain ⟨q2, hq2⟩ := List.getElem?_of_mem hb
      obtain ⟨cs, e⟩ := live q2 b hq2
      obtain ⟨_, _, C, e', q3, _⟩ := hr.own b cs e
      exact hr.apart (b' := b) hq q3 he.symm
    · rcases hS' _ hS with h6 | h6
      · exact h6
      · have := hr.lp_lt hq; omega
  · rcases hS' k hk with h6 | h6
    · exact .inl h6
    · exact .inr (.inl h6)
  · obtain ⟨q, hq⟩ := List.getElem?_of_mem hb
    obtain ⟨cs, e⟩ := live q b hq
    exact hno b cs e he
end Go.Pe

/- A call that makes one block of its own, in a statement whose order is open: the block has the name that is kept for it. -/
namespace Go.Pe
open Go
theorem FnM.makes1 {P : Program} {f : FuncId} {args : List AV} {x y : AV} {cells : List AV} (h0 : Fn P f args .nil x (mkH [some cells])) (hc : args.all cleanD = true) (hcl : cells.all clean = true) (h : H) (N : Nat) (hx : sft N 4 x = some y) : FnM P f args h N y (h.set N cells) := by
  refine ⟨h0.1, fun n c D w vs hr hfr hargs => ?_⟩
  have hN : ¬ D N := hfr N (.inr rfl)
  have hnone : h.get N = none := by
    cases hg : h.get N with
    | none => rfl
    | some cs => exact absurd (hr.own N cs hg).1 hN
  have hnil : Rel c noId .nil w := ⟨fun b cs hb => by simp [H.nil] at hb, fun b b' _ _ hb => by simp [H.nil] at hb, hr.sz, fun b r hb => by simp [H.nil] at hb, fun b b' _ _ hb => by simp [H.nil] at hb⟩
  have hal : RL c w noId args vs := ⟨hargs.1, fun i y u e1 e2 => cleanD_R (hargs.2 i y u e1 e2) ((List.all_eq_true.1 hc) y (List.mem_of_getElem? e1))⟩
  refine (h0.2 n c noId w vs hnil (fun _ _ h => h) hal).mono ?_
  rintro ee w' ⟨v, c', D', rfl, h2, h3, h4, h5⟩
  have hD' : ∀ b, D' b → b = 0 := fun b hb => by
    rcases h5 b hb with h6 | h6
    · exact h6.elim
    · have := h6.2; simp [mkH] at this; exact this
  have hne : ∀ b, D b → b ≠ N := fun b hb he => hN (he ▸ hb)
  obtain ⟨c2, hc2⟩ : ∃ c2 : Cx, c2 = { S := c'.S, φ := fun q => if q = N then c'.φ 0 else c.φ q } := ⟨_, rfl⟩
  obtain ⟨D2, hD2⟩ : ∃ D2 : Nat → Prop, D2 = fun q => D q ∨ (q = N ∧ D' 0) := ⟨_, rfl⟩
  have φo : ∀ b, D b → c2.φ b = c.φ b := fun b hb => by rw [hc2]; simp [hne b hb]
  have φn : c2.φ N = c'.φ 0 := by rw [hc2]; simp
  have hold : ∀ k, k < w.heap.size → w'.heap[k]? = w.heap[k]? := fun k hk => h4.frame k hk (fun b cs hb => by simp [H.nil] at hb) (fun b r hb => by simp [H.nil] at hb)
  have hS2 : ∀ k, c.S k → c2.S k := fun k hk => by rw [hc2]; exact h4.S k hk
  have hS2' : ∀ k, c2.S k → c.S k ∨ w.heap.size ≤ k := fun k hk => by
    rw [hc2] at hk
    rcases h4.newS k hk with h6 | h6 | ⟨b, cs, h6, _⟩
    · exact .inl h6
    · exact .inr h6
    · simp [H.nil] at h6
  have hup : ∀ {y : AV} {u : Value}, R c w D y u → R c2 w' D2 y u := fun hy => hy.mono hS2 (fun k hk => hold k (hr.sz k hk)) φo (fun b hb => by rw [hD2]; exact .inl hb) h4.shp
  have hlow : ∀ {y : AV} {u : Value} {D3 : Nat → Prop}, R c' w' noId y u → R c2 w' D3 y u := fun hy => hy.mono (fun _ hk => by rw [hc2]; exact hk) (fun _ _ => rfl) (fun _ hb => hb.elim) (fun _ hb => hb.elim) (fun _ C _ hk => ⟨C, hk, rfl⟩)
  have shift : ∀ (n : Nat) (z z' : AV) (u : Value), R c' w' D' z u → sft N n z = some z' → R c2 w' D2 z' u := by
    intro n
    induction n with
    | zero => intro z z' u _ hz; cases hz
    | succ n ih =>
      intro z z' u hz hs
      have list : ∀ {l m : List AV} {cs : Array Value}, RL c' w' D' l cs → l.mapM (sft N n) = some m → RL c2 w' D2 m cs := fun hl hm => by
        obtain ⟨q1, q2⟩ := mapM_some hm
        refine ⟨by rw [hl.1, q1], fun i y u e1 e2 => ?_⟩
        have hi := (List.getElem?_eq_some_iff.1 e1).1
        rw [q1] at hi
        obtain ⟨y', e3, e4⟩ := q2 i _ (List.getElem?_eq_getElem hi)
        rw [e1] at e4; cases e4
        exact ih _ _ _ (hl.2 i _ u (List.getElem?_eq_getElem hi) e2) e3
      simp only [sft] at hs
      cases hz with
      | val v => cases hs; exact .val _
      | ro cell g1 g2 g3 g4 g5 g6 g7 g8 => cases hs; exact hlow (.ro cell g1 g2 g3 g4 g5 g6 g7 g8)
      | nil => cases hs; exact .nil
      | emp => cases hs; exact .emp
      | rop cell g1 g2 g3 => cases hs; exact hlow (.rop cell g1 g2 g3)
      | agg hs2 hh =>
        obtain ⟨m, hm, rfl⟩ := Option.map_eq_some_iff.1 hs
        obtain ⟨g1, g2⟩ := list ⟨hs2, hh⟩ hm
        exact .agg g1 g2
      | tup hs2 hh =>
        obtain ⟨m, hm, rfl⟩ := Option.map_eq_some_iff.1 hs
        obtain ⟨g1, g2⟩ := list ⟨hs2, hh⟩ hm
        exact .tup g1 g2
      | ptr hb =>
        cases hs
        have h0 := hD' _ hb
        subst h0
        rw [Nat.add_zero, ← φn]; exact .ptr (by rw [hD2]; exact .inr ⟨rfl, hb⟩)
      | sl hb g1 C e g2 g3 =>
        cases hs
        have h0 := hD' _ hb
        subst h0
        rw [← φn] at g2 ⊢
        rw [Nat.add_zero]
        exact .sl (by rw [hD2]; exact .inr ⟨rfl, hb⟩) g1 C e g2 g3
      | slc hb g1 C e g2 g3 => cases hs
      | clo hs2 hh => cases hs
      | yld hb => cases hs
  have hget0 : (mkH [some cells]).get 0 = some cells := rfl
  have onew : w.heap.size ≤ c'.φ 0 := by
    rcases h4.origin 0 cells hget0 with ⟨b0, cs0, h6, _⟩ | h6
    · simp [H.nil] at h6
    · exact h6
  have oldlt : ∀ b cs, h.get b = some cs → c.φ b < w.heap.size := fun b cs hb => by
    obtain ⟨_, _, C, e, q3, _⟩ := hr.own b cs hb
    exact (Array.getElem?_eq_some_iff.1 q3).1
  refine ⟨v, c2, D2, rfl, shift 4 _ _ _ h2 hx, ⟨fun q cs hq => ?_, fun q q' cs cs' hq hq' he => ?_, by rw [hc2]; exact h3.sz, ?_, fun b b' r r' e1 e2 he => ?_⟩, ⟨hS2, fun k hk => ?_, φo, fun b hb => by rw [hD2]; exact .inl hb, Nat.le_refl _, h4.os, h4.tape, h4.output, h4.size, fun k hk _ _ => hold k hk, h4.shp, fun q cs hq => ?_, fun b r hb => .inl ⟨b, r, hb, (φo b (hr.lps b r hb).1).symm⟩, h4.fz⟩, fun q hq => ?_⟩
  · simp only [H.set] at hq
    split at hq
    · rename_i hqN
      cases hq
      obtain ⟨p1, p2, C, e, p3, p4, p5⟩ := h3.own 0 _ hget0
      rw [hqN, φn]
      refine ⟨by rw [hD2]; exact .inr ⟨rfl, p1⟩, by rw [hc2]; exact p2, C, e, p3, p4, fun k y u g1 g2 => ?_⟩
      exact hlow (clean_R (p5 k y u g1 g2) ((List.all_eq_true.1 hcl) y (List.mem_of_getElem? g1)))
    · obtain ⟨q1, q2, C, e, q3, q4, q5⟩ := hr.own q cs hq
      have hlt := (Array.getElem?_eq_some_iff.1 q3).1
      rw [φo q q1]
      refine ⟨by rw [hD2]; exact .inl q1, fun hS => ?_, C, e, by rw [hold _ hlt]; exact q3, q4, fun k y u g1 g2 => hup (q5 k y u g1 g2)⟩
      rcases hS2' _ hS with h6 | h6
      · exact q2 h6
      · omega
  · simp only [H.set] at hq hq'
    split at hq <;> split at hq'
    · rename_i g1 g2; rw [g1, g2]
    · rename_i g1 g2
      rw [g1, φn, φo q' (hr.own q' cs' hq').1] at he
      have := oldlt q' cs' hq'; omega
    · rename_i g1 g2
      rw [g2, φn, φo q (hr.own q cs hq).1] at he
      have := oldlt q cs hq; omega
    · rw [φo q (hr.own q cs hq).1, φo q' (hr.own q' cs' hq').1] at he
      exact hr.inj q q' cs cs' hq hq' he
  · exact hr.lps_keep hS2 (fun k hk => hold k (hr.sz k hk)) φo (fun b hb => by rw [hD2]; exact .inl hb) h4.shp (fun b r hb => hold _ (hr.lp_lt hb)) (fun b r hb hS => by
      rcases hS2' _ hS with h6 | h6
      · exact h6
      · have := hr.lp_lt hb; omega)
  · exact hr.linj_keep φo b b' r r' e1 e2 he
  · rcases hS2' k hk with h6 | h6
    · exact .inl h6
    · exact .inr (.inl h6)
  · simp only [H.set] at hq
    split at hq
    · rename_i hqN; rw [hqN, φn]; exact .inr onew
    · exact .inl ⟨q, cs, hq, (φo q (hr.own q cs hq).1).symm⟩
  · rw [hD2] at hq
    rcases hq with hq | ⟨h6, h7⟩
    · exact .inl hq
    · exact .inr h6
/-- Of a deep heap only some blocks are looked at from here on. -/
theorem DrawR.gen {P : Program} {md : Oper → Bool} {ops : Array Oper} {Q : List AV → H → Prop} {t : Tag Q} {ρ : List AV} {h : H} (n : Nat) (F : (Nat → Option (List AV)) → Prop) (hn : h.next = n) (hl : h.lp = fun _ => none) (hF : F h.get) (K : ∀ G, F G → DrawR P md ops Q t ρ { next := n, get := G, lp := fun _ => none }) : DrawR P md ops Q t ρ h := by
  have e : h = { next := n, get := h.get, lp := fun _ => none } := by cases h; simp_all
  rw [e]
  exact K _ hF
theorem LoopCR.gen {P : Program} {md : Oper → Bool} {n0 : Nat} {x : Code} {Q : Exit → List AV → H → Prop} {t : Tag Q} {ρ : List AV} {h : H} (n : Nat) (F : (Nat → Option (List AV)) → Prop) (hn : h.next = n) (hl : h.lp = fun _ => none) (hF : F h.get) (K : ∀ G, F G → LoopCR P md n0 x Q t ρ { next := n, get := G, lp := fun _ => none }) : LoopCR P md n0 x Q t ρ h := by
  have e : h = { next := n, get := h.get, lp := fun _ => none } := by cases h; simp_all
  rw [e]
  exact K _ hF
end Go.Pe

/- Picks beside other memory; what floats in a truth of the density. -/
namespace Go.Pe
open Go Go.Proofs Go.Proofs.YtffckclggkjbgaaGreat
set_option maxRecDepth 20000
set_option maxHeartbeats 8000000
theorem indexA_lit1 {T E : TI} {e : TypeId} {f : Bool} {k : Nat} {xs : List (List AV)} (hk : T.kind = .sl e) (hE : k = E.size) : indexA T E (.ro f k xs) 1 = (xs[1]?).map AV.rop := indexA_ro (n := 1) hk hE
theorem pickH_fn {ps : List Int} {n : Nat} {b : Bd} {h : H} {bn bp : Nat} {m m' : Int} (hm : m = (n : Int)) (hm' : m' = ((n + 1 : Nat) : Int)) (hn : n < 1000) (hps : ∀ v ∈ ps, 0 ≤ v ∧ v ≤ 255) (hl : (ps.length : Int) ≤ 9223372036854775807) (hb : 0 ≤ b.lo + 500 ∧ b.lo ≤ b.hi ∧ b.hi ≤ 100000)
    (hne : bn ≠ bp) (h1 : h.get bn = some [I m]) (h2 : h.get bp = some [.ro false 1 (ps.map fun v => [U v])]) :
    Fn Tryz.prog 49 [.agg [I b.lo, I b.hi], .ptr bn 0, .ptr bp 0] h (I (pkT ps (n + 1) b)) (h.set bn [I m']) := by
  subst hm
  subst hm'
  have hr0 : rnI bn [bn, bp] 0 = some 0 := by simp [rnI]
  have hr1 : rnI bp [bn, bp] 0 = some 1 := by simp [rnI, Ne.symm hne]
  refine Fn.writes1 [bn, bp] (cs0 := [[I (n : Nat)], [.ro false 1 (ps.map fun v => [U v])]]) (q0 := 0) (pickB_fn hn hps hl hb) rfl rfl (by simp [hne]) ?_ ?_ ?_ rfl
  · exact ⟨⟨_, h1, rfl⟩, ⟨_, h2, rfl⟩, trivial⟩
  · simp [rn, hr0, hr1]
  · intro b' hb' cs hcs
    simp only [List.mem_cons, List.not_mem_nil, or_false] at hb'
    rcases hb' with rfl | rfl
    · rw [h1] at hcs; cases hcs; rfl
    · rw [h2] at hcs; cases hcs; rfl
theorem pickE_in {ps : List Int} {b : Bd} {h : H} {bn bp N : Nat} {m : Int} (n : Nat) (m' : Int) {K : AV → H → Prop} {t : Tag K} (hps : ∀ v ∈ ps, 0 ≤ v ∧ v ≤ 255) (hl : (ps.length : Int) ≤ 9223372036854775807) (hb : 0 ≤ b.lo + 500 ∧ b.lo ≤ b.hi ∧ b.hi ≤ 100000) (hm : m = (n : Int)) (hm' : m' = ((n + 1 : Nat) : Int)) (hn : n < 1000)
    (hne : bn ≠ bp) (h1 : h.get bn = some [I m]) (h2 : h.get bp = some [.ro false 1 (ps.map fun v => [U v])]) (hlp : ∀ b, h.lp b = none) (hK : K (I (pkT ps (n + 1) b)) (h.set bn [I m'])) :
    onCallE Tryz.prog 49 [.agg [I b.lo, I b.hi], .ptr bn 0, .ptr bp 0] h N K t := by
  refine onCallE_in (pickH_fn hm hm' hn hps hl hb hne h1 h2) rfl (fun b hb => ?_) hlp hK
  simp only [H.set]
  split
  · rename_i he; rw [he, h1] at hb; cases hb
  · exact hb
/-- A hull floats in each truth of the density, no deeper and no higher than it is told. -/
theorem flt_truth {u : Hu} {l : List Int} {b : Bd} {t : Int} (h : fltE u l b = 0) (h1 : b.lo ≤ t) (h2 : t ≤ b.hi) : fltE u l ⟨t, t⟩ = 0 ∧ mZ u l b.hi ≤ mZ u l t ∧ mZ u l t ≤ mZ u l b.lo := by
  have ok := flt_ok (x := ⟨u, l, b⟩) h
  have hv := vB_iff.1 ok.2.2.1
  have hm := (mass_in (n := l.length) ok.1 ok.2.1 (Nat.le_refl _)).1
  have m1 := mZ_mono (u := u) (l := l) hm (show 0 < b.lo by simp only at hv; omega) h1
  have m2 := mZ_mono (u := u) (l := l) hm (show 0 < t by simp only at hv; omega) h2
  refine ⟨?_, m2, m1⟩
  have hd : mZ u l b.lo + trm u l ≤ lim u := ok.2.2.2
  unfold fltE at h ⊢
  split at h
  · omega
  rename_i g1
  split at h
  · rename_i g2; exact absurd h g2
  rename_i g2
  rw [if_neg g1, if_neg g2, if_neg (by simp only at hv; rw [vB_iff.2 (by simp only; omega)]; simp), if_pos (by simp only; omega)]
/-- The true flow of the upper reach, an hour before. -/
def abT (ps : List Int) (A0 : Bd) (s0 : List Bd) : Nat → Int
  | 0 => pkT ps (1 + 1) A0
  | i + 1 => pkT ps (6 + 2 * i + 1) (s0.getD i ⟨0, 0⟩)
theorem abT_in {x : Sr} {ps : List Int} (hx : x.Ok) : ∀ {i : Nat}, i ≤ (rowsS x).length → (rf (pgOf x).f.r (pgOf x).f.sides 0 ((i : Int) - 1)).lo ≤ abT ps (span x.base.a x.base.b) (side0S x) i ∧ abT ps (span x.base.a x.base.b) (side0S x) i ≤ 295
  | 0, _ => by
    have hb := span_in hx.base.1 hx.base.2.1
    have := pkT_in (ps := ps) (n := 1 + 1) hb.2.1
    show (rf (pgOf x).f.r (pgOf x).f.sides 0 (-1)).lo ≤ pkT ps (1 + 1) _ ∧ pkT ps (1 + 1) _ ≤ 295
    rw [rf0_neg]
    omega
  | i + 1, h => by
    obtain ⟨q, hq⟩ : ∃ q, (rowsS x)[i]? = some q := ⟨_, List.getElem?_eq_getElem h⟩
    have hr := rowsS_ok hx q (List.mem_of_getElem? hq)
    have hs := span_in hr.1 hr.2.1
    have e : (((i + 1 : Nat) : Int) - 1) = (i : Int) := by omega
    have e2 : (side0S x).getD i ⟨0, 0⟩ = span q.a q.b := by
      rw [List.getD_eq_getElem?_getD, show (side0S x)[i]? = some (span q.a q.b) by simp [side0S, hq]]; rfl
    have := pkT_in (ps := ps) (n := 6 + 2 * i + 1) hs.2.1
    rw [e, rf0_S hq]
    simp only [abT, e2]
    omega
end Go.Pe
