import Derived.Test.YtffckclggkjbgaaGreatY11
set_option linter.unusedVariables false
set_option linter.unusedSimpArgs false
/- A contract over a few blocks holds where such blocks lie among others, under other names. -/
namespace Go.Pe
open Go

theorem Rel.named {c : Cx} {D : Nat → Prop} {h : H} {w : World} {bs : List Nat} {bl : List (Option (List AV))} (hr : Rel c D h w) (hnd : bs.Nodup) (hm : MH bs h bs bl) : Rel (c.named bs) (Dn D bs) (mkH bl) w := by
  obtain ⟨hlen, hget⟩ := MH_get hm
  have blk : ∀ q b, bs[q]? = some b → (c.named bs).φ q = c.φ b := fun q b hb => by simp [Cx.named, hb]
  have own : ∀ q l, (mkH bl).get q = some l → ∃ b cs, bs[q]? = some b ∧ h.get b = some cs ∧ cs.mapM (rn bs 4) = some l := fun q l hq => by
    rw [mkH_get] at hq
    exact hget q l (by cases hb : bl[q]? with | none => simp [hb] at hq | some o => simp [hb] at hq; rw [hq])
  refine ⟨fun q l hq => ?_, fun q q' l l' hq hq' he => ?_, hr.sz, fun b r hb => by simp [mkH] at hb, fun b b' r r' hb => by simp [mkH] at hb⟩
  · obtain ⟨b, cs, e1, e2, e3⟩ := own q l hq
    obtain ⟨q1, q2, C, e, q3, q4, q5⟩ := hr.own b cs e2
    obtain ⟨m1, m2⟩ := mapM_some e3
    rw [blk q b e1]
    refine ⟨⟨b, e1, q1⟩, q2, C, e, q3, by rw [m1]; exact q4, fun k y u g1 g2 => ?_⟩
    have hk := (List.getElem?_eq_some_iff.1 g1).1
    rw [m1] at hk
    obtain ⟨y', g3, g4⟩ := m2 k _ (List.getElem?_eq_getElem hk)
    rw [g1] at g4; cases g4
    exact rn_R 4 _ _ _ (q5 k _ u (List.getElem?_eq_getElem hk) g2) g3
  · obtain ⟨b, cs, e1, e2, _⟩ := own q l hq
    obtain ⟨b', cs', e1', e2', _⟩ := own q' l' hq'
    rw [blk q b e1, blk q' b' e1'] at he
    have := hr.inj b b' cs cs' e2 e2' he
    subst this
    exact (List.getElem?_inj (List.getElem?_eq_some_iff.1 e1).1 hnd).1 (e1.trans e1'.symm)

/-- WHAT IS READ OF A FEW BLOCKS: a contract over them alone holds beside others, under other names. -/
theorem Fn.reads {P : Program} {f : FuncId} {args args0 : List AV} {x : AV} {cs0 : List (List AV)} {h : H} (bs : List Nat) (h0 : Fn P f args0 (mkH (cs0.map some)) x (mkH (cs0.map some))) (hnd : bs.Nodup) (hm : MH bs h bs (cs0.map some)) (ha : args.mapM (rn bs 4) = some args0) (hcl : ∀ b ∈ bs, ∀ cs, h.get b = some cs → cs.all clean = true) (hx : cleanD x = true) : Fn P f args h x h := by
  refine ⟨h0.1, fun n c D w vs hr hfr hargs => ?_⟩
  obtain ⟨hlen, hget⟩ := MH_get hm
  simp only [List.length_map] at hlen
  have hrel := hr.named hnd hm
  obtain ⟨m1, m2⟩ := mapM_some ha
  have hal : RL (c.named bs) w (Dn D bs) args0 vs := by
    refine ⟨by rw [hargs.1, m1], fun i y u e1 e2 => ?_⟩
    have hi := (List.getElem?_eq_some_iff.1 e1).1
    rw [m1] at hi
    obtain ⟨y', e3, e4⟩ := m2 i _ (List.getElem?_eq_getElem hi)
    rw [e1] at e4; cases e4
    exact rn_R 4 _ _ _ (hargs.2 i _ u (List.getElem?_eq_getElem hi) e2) e3
  have blk : ∀ q b, bs[q]? = some b → (c.named bs).φ q = c.φ b := fun q b hb => by simp [Cx.named, hb]
  have mk : ∀ q, q < bs.length → ∃ l, (mkH (cs0.map some)).get q = some l := fun q hq => by
    have hq' : q < cs0.length := by omega
    exact ⟨cs0[q], by rw [mkH_get, List.getElem?_map, List.getElem?_eq_getElem hq']; rfl⟩
  have live : ∀ q b, bs[q]? = some b → ∃ cs, h.get b = some cs := fun q b hb => by
    have hq := (List.getElem?_eq_some_iff.1 hb).1
    obtain ⟨b', cs, e1, e2, _⟩ := hget q cs0[q] (by rw [List.getElem?_map, List.getElem?_eq_getElem (by omega)]; rfl)
    rw [hb] at e1; cases e1
    exact ⟨cs, e2⟩
  refine (h0.2 n (c.named bs) (Dn D bs) w vs hrel (fun q hq hD => by
    obtain ⟨b, e1, _⟩ := hD
    have := (List.getElem?_eq_some_iff.1 e1).1
    simp [mkH] at hq; omega) hal).mono ?_
  rintro ee w' ⟨v, c', D', rfl, h2, h3, h4, h5⟩
  have hφ : ∀ q b, bs[q]? = some b → D b → c'.φ q = c.φ b := fun q b hb hD => by rw [h4.φ q ⟨b, hb, hD⟩, blk q b hb]
  have hD : ∀ q b, bs[q]? = some b → D b := fun q b hb => by
    obtain ⟨cs, e⟩ := live q b hb
    exact (hr.own b cs e).1
  -- what lies where none of the blocks lies stays as it was
  have hfr' : ∀ k, k < w.heap.size → (∀ b ∈ bs, c.φ b ≠ k) → w'.heap[k]? = w.heap[k]? := fun k hk hne => h4.frame k hk (fun q l hq => by
      have hq' : q < bs.length := by
        rw [mkH_get] at hq
        have := (List.getElem?_eq_some_iff.1 (show ((cs0.map some)[q]?) = some (some l) by cases hb : (cs0.map some)[q]? with | none => simp [hb] at hq | some o => simp [hb] at hq; rw [hq])).1
        simp at this; omega
      have hb := List.getElem?_eq_getElem hq'
      rw [blk q _ hb]
      exact hne _ (List.getElem_mem hq')) (fun q r hq => by simp [mkH] at hq)
  have notS : ∀ b ∈ bs, ¬ c'.S (c.φ b) := fun b hb hS => by
    obtain ⟨q, hq⟩ := List.getElem?_of_mem hb
    obtain ⟨l, hl⟩ := mk q (List.getElem?_eq_some_iff.1 hq).1
    have := (h3.own q l hl).2.1
    rw [hφ q b hq (hD q b hq)] at this
    exact this hS
  have hnS : ∀ k, c.S k → ∀ b ∈ bs, c.φ b ≠ k := fun k hk b hb he => by
    obtain ⟨q, hq⟩ := List.getElem?_of_mem hb
    obtain ⟨cs, e⟩ := live q b hq
    exact (hr.own b cs e).2.1 (he ▸ hk)
  have hS' : ∀ k, c'.S k → c.S k ∨ w.heap.size ≤ k := fun k hk => by
    rcases h4.newS k hk with h6 | h6 | ⟨q, l, h6, h7⟩
    · exact .inl h6
    · exact .inr h6
    · have hq' : q < bs.length := by
        rw [mkH_get] at h6
        have := (List.getElem?_eq_some_iff.1 (show ((cs0.map some)[q]?) = some (some l) by cases hb : (cs0.map some)[q]? with | none => simp [hb] at h6 | some o => simp [hb] at h6; rw [h6])).1
        simp at this; omega
      have hb := List.getElem?_eq_getElem hq'
      rw [blk q _ hb] at h7
      exact (notS _ (List.getElem_mem hq') (h7 ▸ hk)).elim
  have hup : ∀ {y : AV} {u : Value} {D'' D2 : Nat → Prop}, R c w D'' y u → (∀ b, D'' b → D2 b) → R { S := c'.S, φ := c.φ } w' D2 y u := fun hy hd =>
    hy.mono h4.S (fun k hk => hfr' k (hr.sz k hk) (hnS k hk)) (fun _ _ => rfl) hd h4.shp
  have hlow : ∀ {y : AV} {u : Value}, R c' w' noId y u → ∀ {D2 : Nat → Prop}, R { S := c'.S, φ := c.φ } w' D2 y u := fun hy =>
    hy.mono (fun _ hk => hk) (fun _ _ => rfl) (fun _ hb => hb.elim) (fun _ hb => hb.elim) (fun _ C _ hk => ⟨C, hk, rfl⟩)
  refine ⟨v, { S := c'.S, φ := c.φ }, D, rfl, hlow (cleanD_R h2 hx), ⟨fun b cs hb => ?_, hr.inj, h3.sz, ?_, hr.linj⟩, ⟨h4.S, fun k hk => ?_, fun _ _ => rfl, fun _ hb => hb, Nat.le_refl _, h4.os, h4.tape, h4.output, h4.size, fun k hk hno hnl => hfr' k hk fun b hb he => ?_, h4.shp, fun b cs hb => .inl ⟨b, cs, hb, rfl⟩, fun b r hb => .inl ⟨b, r, hb, rfl⟩, h4.fz⟩, fun b hb => .inl hb⟩
  · obtain ⟨q1, q2, C, e, q3, q4, q5⟩ := hr.own b cs hb
    by_cases hbs : b ∈ bs
    · obtain ⟨q, hq⟩ := List.getElem?_of_mem hbs
      have hq' := (List.getElem?_eq_some_iff.1 hq).1
      obtain ⟨b', cs', e1, e2, e3⟩ := hget q cs0[q] (by rw [List.getElem?_map, List.getElem?_eq_getElem (by omega)]; rfl)
      rw [hq] at e1; cases e1
      rw [hb] at e2; cases e2
      obtain ⟨p1, p2, C', e', p3, p4, p5⟩ := h3.own q cs0[q] (by rw [mkH_get, List.getElem?_map, List.getElem?_eq_getElem (by omega)]; rfl)
      rw [hφ q b hq q1] at p2 p3
      obtain ⟨n1, n2⟩ := mapM_some e3
      have hcc := List.all_eq_true.1 (hcl b hbs cs hb)
      refine ⟨q1, p2, C', e', p3, by rw [n1] at p4; exact p4, fun k y u g1 g2 => ?_⟩
      obtain ⟨y', g3, g4⟩ := n2 k y g1
      have hy := hcc y (List.mem_of_getElem? g1)
      have hyy : y' = y := by
        have key : ∀ (n : Nat) (z z' : AV), clean1 z = true → rn bs (n + 1) z = some z' → z' = z := fun n z z' hz hr => by
          cases z <;> first | (simp [rn] at hr; exact hr.symm) | (simp [clean1] at hz)
        cases y with
        | clo f2 caps =>
          simp only [clean] at hy
          rw [rn_clo, rnL_clean hy] at g3
          simp at g3; exact g3.symm
        | _ => exact key 3 _ _ hy g3
      subst hyy
      exact hlow (clean_R (p5 k _ u g4 g2) hy)
    · have hlt := (Array.getElem?_eq_some_iff.1 q3).1
      have hne : ∀ b' ∈ bs, c.φ b' ≠ c.φ b := fun b' hb' he => by
        obtain ⟨q, hq⟩ := List.getElem?_of_mem hb'
        obtain ⟨cs', e'⟩ := live q b' hq
        exact hbs (hr.inj b' b cs' cs e' hb he ▸ hb')
      refine ⟨q1, fun hS => ?_, C, e, by rw [hfr' _ hlt hne]; exact q3, q4, fun k y u g1 g2 => hup (q5 k y u g1 g2) fun _ h => h⟩
      rcases hS' _ hS with h6 | h6
      · exact q2 h6
      · exact absurd hlt (Nat.not_lt.2 h6)
  · refine hr.lps_keep h4.S (fun k hk => hfr' k (hr.sz k hk) (hnS k hk)) (fun _ _ => rfl) (fun _ hb => hb) h4.shp (fun q r hq => hfr' _ (hr.lp_lt hq) fun b hb he => ?_) (fun q r hq hS => ?_)
    · obtain ⟨q2, hq2⟩ := List.getElem?_of_mem hb
      obtain ⟨cs, e⟩ := live q2 b hq2
      obtain ⟨_, _, C, e', q3, _⟩ := hr.own b cs e
      exact hr.apart (b' := b) hq q3 he.symm
    · rcases hS' _ hS with h6 | h6
      · exact h6
      · have := hr.lp_lt hq; omega
  · rcases hS' k hk with h6 | h6
    · exact .inl h6
    · exact .inr (.inl h6)
  · obtain ⟨q, hq⟩ := List.getElem?_of_mem hb
    obtain ⟨cs, e⟩ := live q b hq
    exact hno b cs e he
end Go.Pe

/- Functions that hand over memory that they have made. -/
namespace Go.Pe
open Go

def FinX (P : Program) (fn : Func) (n0 : Nat) (x : AV) (bl : List (Option (List AV))) (e : Exit) (ρ : List AV) (hh : H) : Prop :=
  match e with
  | .normal | .ret => ∃ y, resA P fn.results ρ hh = some y ∧ ∃ bs : List Nat, bs.Nodup ∧ (∀ i, i < n0 → bs[i]? = some i) ∧ MH bs hh bs bl ∧ rn bs 4 y = some x
  | _ => False
section
variable {P : Program} {n0 : Nat} {ρ : List AV} {h : H}
theorem ap_finx_ret {fn : Func} {x : AV} {bl : List (Option (List AV))} {t : Tag (FinX P fn n0 x bl .ret)} : ap (FinX P fn n0 x bl .ret) t ρ h = onSome (resA P fn.results ρ h) (fun y => ∃ bs : List Nat, bs.Nodup ∧ (∀ i, i < n0 → bs[i]? = some i) ∧ MH bs h bs bl ∧ rn bs 4 y = some x) .mk := by
  unfold ap FinX onSome; cases resA P fn.results ρ h <;> simp
theorem ap_finx_normal {fn : Func} {x : AV} {bl : List (Option (List AV))} {t : Tag (FinX P fn n0 x bl .normal)} : ap (FinX P fn n0 x bl .normal) t ρ h = onSome (resA P fn.results ρ h) (fun y => ∃ bs : List Nat, bs.Nodup ∧ (∀ i, i < n0 → bs[i]? = some i) ∧ MH bs h bs bl ∧ rn bs 4 y = some x) .mk := by
  unfold ap FinX onSome; cases resA P fn.results ρ h <;> simp

/-- A FUNCTION WITH THE MEMORY THAT IT HAS MADE. -/
theorem Fn.ofRx {f : FuncId} {fn : Func} {code : Code} (md : Oper → Bool) {args : List AV} {bl0 bl : List (Option (List AV))} {x : AV} (hcall : callable P f = true) (hf : P.funcs[f]? = some fn) (hb : fn.body = some code) (hN : args.length ≤ fn.ntmps)
    (hv : ap (vcR P md bl0.length code (FinX P fn bl0.length x bl)) .mk (en fn.ntmps (fun _ => .val undef) (en0 0 args)) (mkH bl0)) : Fn P f args (mkH bl0) x (mkH bl) := by
  refine ⟨hcall, fun n c D w vs hr hfr hargs => ?_⟩
  rw [← en_start hN] at hv
  refine callsIn_of_wp_marks hf hb trivial (wpIn_mono (vcR_sound (md := md) (n := n) (D0 := D) (h0 := mkH bl0) (c0 := c) (w0 := w) hfr code _ _ (mkH bl0) _ w c D hv ?_) ?_)
  · refine ⟨hr, ⟨by simp [hargs.1], fun i y u e1 e2 => ?_⟩, Ext.refl D (mkH bl0) c w, Marks.of_nil rfl, fun b hb => .inl hb⟩
    rw [Array.getElem?_append] at e2
    by_cases hi : i < vs.size
    · rw [if_pos hi] at e2
      rw [List.getElem?_append_left (by rw [← hargs.1]; exact hi)] at e1
      exact hargs.2 i y u e1 e2
    · rw [if_neg hi] at e2
      rw [List.getElem?_append_right (by rw [← hargs.1]; omega)] at e1
      simp only [List.getElem?_replicate, Array.getElem?_replicate] at e1 e2
      split at e1
      · split at e2
        · cases e1; cases e2; exact .val _
        · cases e2
      · cases e1
  · rintro e a w' ⟨ρ, hh, c', D', hq, s⟩
    have hqq : (e = .normal ∨ e = .ret) ∧ ∃ y, resA P fn.results ρ hh = some y ∧ ∃ bs : List Nat, bs.Nodup ∧ (∀ i, i < bl0.length → bs[i]? = some i) ∧ MH bs hh bs bl ∧ rn bs 4 y = some x := by
      cases e with
      | normal => exact ⟨.inl rfl, hq⟩
      | ret => exact ⟨.inr rfl, hq⟩
      | _ => exact hq.elim
    obtain ⟨hex, y, hy, bs, b1, b2, b3, b4⟩ := hqq
    obtain ⟨ms, h1, h2, h3, g1, g2, g3⟩ := s.shut
    obtain ⟨v, h4, h5⟩ := run_resA (fn := fn) g1 g2 hy
    have s' : St D (mkH bl0) c w ρ hh { tmps := a.tmps, defers := [] } (shutAll ms w') c' D' := ⟨g1, g2, g3, Marks.of_nil rfl, s.dom⟩
    obtain ⟨hlen, hget⟩ := MH_get b3
    have blk : ∀ q b, bs[q]? = some b → (c'.named bs).φ q = c'.φ b := fun q b hb => by simp [Cx.named, hb]
    have hn : bl0.length ≤ bs.length := by
      by_cases h0n : bl0.length = 0
      · omega
      · have := (List.getElem?_eq_some_iff.1 (b2 (bl0.length - 1) (by omega))).1; omega
    have hlt : ∀ b, D b → b < bl0.length := fun b hb => Nat.lt_of_not_le fun hle => hfr b hle hb
    have hown : ∀ q l, (mkH bl).get q = some l → ∃ b cs, bs[q]? = some b ∧ hh.get b = some cs ∧ cs.mapM (rn bs 4) = some l := fun q l hq => by
      rw [mkH_get] at hq
      exact hget q l (by cases hb : bl[q]? with | none => simp [hb] at hq | some o => simp [hb] at hq; rw [hq])
    have hext : Ext D (mkH bl0) c w (Dn D' bs) (c'.named bs) (shutAll ms w') (mkH bl) := ⟨g3.S, g3.newS, fun b hb => by rw [blk b b (b2 b (hlt b hb))]; exact g3.φ b hb, fun b hb => ⟨b, b2 b (hlt b hb), g3.dom b hb⟩, by simp [mkH]; omega, g3.os, g3.tape, g3.output, g3.size, g3.frame, g3.shp, fun q l hq => by
      obtain ⟨b, cs, e1, e2, _⟩ := hown q l hq
      rw [blk q b e1]; exact g3.origin b cs e2, fun b r hb => by simp [mkH] at hb, g3.fz⟩
    have hdom : ∀ b, Dn D' bs b → D b ∨ ((mkH bl0).next ≤ b ∧ b < (mkH bl).next) := fun q hq => by
      obtain ⟨b, e1, hb⟩ := hq
      by_cases hq0 : q < bl0.length
      · rw [b2 q hq0] at e1; cases e1
        rcases s.dom q hb with g | g
        · exact .inl g
        · simp [mkH] at g; omega
      · have := (List.getElem?_eq_some_iff.1 e1).1
        exact .inr ⟨by simp [mkH]; omega, by simp [mkH]; omega⟩
    have fin := leaves_marks (F := Fr none) (n := n) (P := P) (fn := fn) (tmps := a.tmps) (R := fun e w' => ∃ v c' D', e = .returned v ∧ R c' w' D' x v ∧ Rel c' D' (mkH bl) w' ∧ Ext D (mkH bl0) c w D' c' w' (mkH bl) ∧ ∀ b, D' b → D b ∨ ((mkH bl0).next ≤ b ∧ b < (mkH bl).next)) ms w' h2 h3
      ⟨v, h4, v, c'.named bs, Dn D' bs, rfl, rn_R 4 _ _ _ h5 b4, g1.named b1 b3, hext, hdom⟩
    rw [← h1] at fin
    rcases hex with rfl | rfl
    · exact fin
    · exact fin

/-- Blocks under later names. -/
def sft (k : Nat) : Nat → AV → Option AV
  | 0, _ => none
  | n + 1, x =>
    match x with
    | .val v => some (.val v)
    | .ro f q xs => some (.ro f q xs)
    | .rop cs => some (.rop cs)
    | .ptr b o => some (.ptr (k + b) o)
    | .sl b o len q => some (.sl (k + b) o len q)
    | .agg l => (l.mapM (sft k n)).map .agg
    | .tup l => (l.mapM (sft k n)).map .tup
    | _ => none
def H.more (h : H) (bl : List (List AV)) : H := { next := h.next + bl.length, get := fun q => if q < h.next then h.get q else bl[q - h.next]?, lp := h.lp }

theorem Fn.makes {f : FuncId} {args : List AV} {x y : AV} {bl : List (List AV)} (h0 : Fn P f args .nil x (mkH (bl.map some))) (hc : args.all cleanD = true) (hbl : (bl.all fun l => l.all clean) = true) (h : H) (hx : sft h.next 4 x = some y) : Fn P f args h y (h.more bl) := by
  refine ⟨h0.1, fun n c D w vs hr hfr hargs => ?_⟩
  have hnil : Rel c noId .nil w := ⟨fun b cs hb => by simp [H.nil] at hb, fun b b' _ _ hb => by simp [H.nil] at hb, hr.sz, fun b r hb => by simp [H.nil] at hb, fun b b' _ _ hb => by simp [H.nil] at hb⟩
  have hal : RL c w noId args vs := ⟨hargs.1, fun i y u e1 e2 => cleanD_R (hargs.2 i y u e1 e2) ((List.all_eq_true.1 hc) y (List.mem_of_getElem? e1))⟩
  refine (h0.2 n c noId w vs hnil (fun _ _ h => h) hal).mono ?_
  rintro ee w' ⟨v, c', D', rfl, h2, h3, h4, h5⟩
  have hD' : ∀ b, D' b → b < bl.length := fun b hb => by
    rcases h5 b hb with h6 | h6
    · exact h6.elim
    · simpa [mkH] using h6.2
  have hDn : ∀ b, D b → b < h.next := fun b hb => Nat.lt_of_not_le fun hle => hfr b hle hb
  obtain ⟨c2, hc2⟩ : ∃ c2 : Cx, c2 = { S := c'.S, φ := fun q => if q < h.next then c.φ q else c'.φ (q - h.next) } := ⟨_, rfl⟩
  obtain ⟨D2, hD2⟩ : ∃ D2 : Nat → Prop, D2 = fun q => D q ∨ (h.next ≤ q ∧ D' (q - h.next)) := ⟨_, rfl⟩
  have φo : ∀ b, D b → c2.φ b = c.φ b := fun b hb => by rw [hc2]; simp [hDn b hb]
  have φn : ∀ b, c2.φ (h.next + b) = c'.φ b := fun b => by
    rw [hc2]
    simp only
    rw [if_neg (by omega), Nat.add_sub_cancel_left]
  have hold : ∀ k, k < w.heap.size → w'.heap[k]? = w.heap[k]? := fun k hk => h4.frame k hk (fun b cs hb => by simp [H.nil] at hb) (fun b r hb => by simp [H.nil] at hb)
  have hS2 : ∀ k, c.S k → c2.S k := fun k hk => by rw [hc2]; exact h4.S k hk
  have hS2' : ∀ k, c2.S k → c.S k ∨ w.heap.size ≤ k := fun k hk => by
    rw [hc2] at hk
    rcases h4.newS k hk with h6 | h6 | ⟨b, cs, h6, _⟩
    · exact .inl h6
    · exact .inr h6
    · simp [H.nil] at h6
  have hup : ∀ {y : AV} {u : Value}, R c w D y u → R c2 w' D2 y u := fun hy => hy.mono hS2 (fun k hk => hold k (hr.sz k hk)) φo (fun b hb => by rw [hD2]; exact .inl hb) h4.shp
  have hlow : ∀ {y : AV} {u : Value} {D3 : Nat → Prop}, R c' w' noId y u → R c2 w' D3 y u := fun hy => hy.mono (fun _ hk => by rw [hc2]; exact hk) (fun _ _ => rfl) (fun _ hb => hb.elim) (fun _ hb => hb.elim) (fun _ C _ hk => ⟨C, hk, rfl⟩)
  have shift : ∀ (n : Nat) (z z' : AV) (u : Value), R c' w' D' z u → sft h.next n z = some z' → R c2 w' D2 z' u := by
    intro n
    induction n with
    | zero => intro z z' u _ hz; cases hz
    | succ n ih =>
      intro z z' u hz hs
      have list : ∀ {l m : List AV} {cs : Array Value}, RL c' w' D' l cs → l.mapM (sft h.next n) = some m → RL c2 w' D2 m cs := fun hl hm => by
        obtain ⟨q1, q2⟩ := mapM_some hm
        refine ⟨by rw [hl.1, q1], fun i y u e1 e2 => ?_⟩
        have hi := (List.getElem?_eq_some_iff.1 e1).1
        rw [q1] at hi
        obtain ⟨y', e3, e4⟩ := q2 i _ (List.getElem?_eq_getElem hi)
        rw [e1] at e4; cases e4
        exact ih _ _ _ (hl.2 i _ u (List.getElem?_eq_getElem hi) e2) e3
      simp only [sft] at hs
      cases hz with
      | val v => cases hs; exact .val _
      | ro cell g1 g2 g3 g4 g5 g6 g7 g8 => cases hs; exact hlow (.ro cell g1 g2 g3 g4 g5 g6 g7 g8)
      | nil => cases hs; exact .nil
      | emp => cases hs; exact .emp
      | rop cell g1 g2 g3 => cases hs; exact hlow (.rop cell g1 g2 g3)
      | agg hs2 hh =>
        obtain ⟨m, hm, rfl⟩ := Option.map_eq_some_iff.1 hs
        obtain ⟨g1, g2⟩ := list ⟨hs2, hh⟩ hm
        exact .agg g1 g2
      | tup hs2 hh =>
        obtain ⟨m, hm, rfl⟩ := Option.map_eq_some_iff.1 hs
        obtain ⟨g1, g2⟩ := list ⟨hs2, hh⟩ hm
        exact .tup g1 g2
      | ptr hb => cases hs; rw [← φn]; exact .ptr (by rw [hD2]; exact .inr ⟨by omega, by simpa using hb⟩)
      | sl hb g1 C e g2 g3 => cases hs; rw [← φn] at g2 ⊢; exact .sl (by rw [hD2]; exact .inr ⟨by omega, by simpa using hb⟩) g1 C e g2 g3
      | slc hb g1 C e g2 g3 => cases hs
      | clo hs2 hh => cases hs
      | yld hb => cases hs
  have onew : ∀ b cs, (mkH (bl.map some)).get b = some cs → w.heap.size ≤ c'.φ b := fun b cs hb => by
    rcases h4.origin b cs hb with ⟨b0, cs0, h6, _⟩ | h6
    · simp [H.nil] at h6
    · exact h6
  have mget : ∀ b cs, bl[b]? = some cs → (mkH (bl.map some)).get b = some cs := fun b cs hb => by rw [mkH_get, List.getElem?_map, hb]; rfl
  have oldlt : ∀ b cs, h.get b = some cs → c.φ b < w.heap.size := fun b cs hb => by
    obtain ⟨_, _, C, e, q3, _⟩ := hr.own b cs hb
    exact (Array.getElem?_eq_some_iff.1 q3).1
  refine ⟨v, c2, D2, rfl, shift 4 _ _ _ h2 hx, ⟨fun q cs hq => ?_, fun q q' cs cs' hq hq' he => ?_, by rw [hc2]; exact h3.sz, ?_, fun b b' r r' e1 e2 he => ?_⟩, ⟨hS2, fun k hk => ?_, φo, fun b hb => by rw [hD2]; exact .inl hb, Nat.le_add_right _ _, h4.os, h4.tape, h4.output, h4.size, fun k hk _ _ => hold k hk, h4.shp, fun q cs hq => ?_, fun b r hb => .inl ⟨b, r, hb, (φo b (hr.lps b r hb).1).symm⟩, h4.fz⟩, fun q hq => ?_⟩
  · simp only [H.more] at hq
    split at hq
    · obtain ⟨q1, q2, C, e, q3, q4, q5⟩ := hr.own q cs hq
      have hlt := (Array.getElem?_eq_some_iff.1 q3).1
      rw [φo q q1]
      refine ⟨by rw [hD2]; exact .inl q1, fun hS => ?_, C, e, by rw [hold _ hlt]; exact q3, q4, fun k y u g1 g2 => hup (q5 k y u g1 g2)⟩
      rcases hS2' _ hS with h6 | h6
      · exact q2 h6
      · omega
    · rename_i hge
      obtain ⟨p1, p2, C, e, p3, p4, p5⟩ := h3.own (q - h.next) cs (mget _ _ hq)
      have e9 : c2.φ q = c'.φ (q - h.next) := by have := φn (q - h.next); rwa [show h.next + (q - h.next) = q by omega] at this
      rw [e9]
      refine ⟨by rw [hD2]; exact .inr ⟨by omega, p1⟩, by rw [hc2]; exact p2, C, e, p3, p4, fun k y u g1 g2 => ?_⟩
      have hy := (List.all_eq_true.1 ((List.all_eq_true.1 hbl) cs (List.mem_of_getElem? hq))) y (List.mem_of_getElem? g1)
      exact hlow (clean_R (p5 k y u g1 g2) hy)
  · simp only [H.more] at hq hq'
    have cross : ∀ b b' ds ds', h.get b = some ds → b < h.next → bl[b' - h.next]? = some ds' → ¬ b' < h.next → c2.φ b = c2.φ b' → False := fun b b' ds ds' g1 g2 g3 g4 g5 => by
      have e1 := oldlt b ds g1
      have e2 := onew _ _ (mget _ _ g3)
      have e9 : c2.φ b' = c'.φ (b' - h.next) := by have := φn (b' - h.next); rwa [show h.next + (b' - h.next) = b' by omega] at this
      rw [φo b (hr.own b ds g1).1, e9] at g5
      omega
    split at hq <;> split at hq'
    · rw [φo q (hr.own q cs hq).1, φo q' (hr.own q' cs' hq').1] at he
      exact hr.inj q q' cs cs' hq hq' he
    · rename_i g1 g2; exact (cross q q' cs cs' hq g1 hq' g2 he).elim
    · rename_i g1 g2; exact (cross q' q cs' cs hq' g2 hq g1 he.symm).elim
    · rename_i g1 g2
      have e9 : c2.φ q = c'.φ (q - h.next) := by have := φn (q - h.next); rwa [show h.next + (q - h.next) = q by omega] at this
      have e8 : c2.φ q' = c'.φ (q' - h.next) := by have := φn (q' - h.next); rwa [show h.next + (q' - h.next) = q' by omega] at this
      rw [e9, e8] at he
      have := h3.inj _ _ cs cs' (mget _ _ hq) (mget _ _ hq') he
      omega
  · exact hr.lps_keep hS2 (fun k hk => hold k (hr.sz k hk)) φo (fun b hb => by rw [hD2]; exact .inl hb) h4.shp (fun b r hb => hold _ (hr.lp_lt hb)) (fun b r hb hS => by
      rcases hS2' _ hS with h6 | h6
      · exact h6
      · have := hr.lp_lt hb; omega)
  · exact hr.linj_keep φo b b' r r' e1 e2 he
  · rcases hS2' k hk with h6 | h6
    · exact .inl h6
    · exact .inr (.inl h6)
  · simp only [H.more] at hq
    split at hq
    · exact .inl ⟨q, cs, hq, (φo q (hr.own q cs hq).1).symm⟩
    · have e9 : c2.φ q = c'.φ (q - h.next) := by have := φn (q - h.next); rwa [show h.next + (q - h.next) = q by omega] at this
      rw [e9]; exact .inr (onew _ _ (mget _ _ hq))
  · rw [hD2] at hq
    rcases hq with hq | ⟨h6, h7⟩
    · exact .inl hq
    · have := hD' _ h7
      exact .inr ⟨h6, by simp only [H.more]; omega⟩
end
end Go.Pe

/- Rows in own memory: read, written, copied. -/
namespace Go.Pe
open Go
section
variable {α : Type} {f : α → List AV} {k : Nat} {l : List α} {i : Nat} {x : α} {h : H}
theorem rws_split (hf : ∀ a, (f a).length = k) (hx : l[i]? = some x) : rws f l = rws f (l.take i) ++ f x ++ rws f (l.drop (i + 1)) ∧ (rws f (l.take i)).length = i * k := by
  have hi := (List.getElem?_eq_some_iff.1 hx).1
  have e : l = l.take i ++ x :: l.drop (i + 1) := by
    have h1 := List.getElem_cons_drop hi
    have h2 : l[i] = x := (List.getElem?_eq_some_iff.1 hx).2
    rw [h2] at h1
    rw [h1, List.take_append_drop]
  constructor
  · conv => lhs; rw [e]
    simp [rws]
  · rw [rws_len hf, List.length_take]; congr 1; omega
theorem rws_at (hf : ∀ a, (f a).length = k) (hx : l[i]? = some x) : ((rws f l).drop (i * k)).take k = f x := by
  obtain ⟨e1, e2⟩ := rws_split hf hx
  rw [e1, List.append_assoc, List.drop_left' e2, List.take_left' (hf x)]
theorem load_rws {T : TI} (hf : ∀ a, (f a).length = k) (hx : l[i]? = some x) (hk : T.size = k) : loadO T (some (rws f l)) (i * k) = asLoaded T (f x) := by
  have hi := (List.getElem?_eq_some_iff.1 hx).1
  have hle : i * k + k ≤ (rws f l).length := by
    rw [rws_len hf, ← Nat.succ_mul]; exact Nat.mul_le_mul_right _ hi
  rw [loadO_some, takeAt, hk, if_pos hle, rws_at hf hx]; rfl
theorem load_rws1 {T : TI} (hx : l[i]? = some x) (hf : ∀ a, (f a).length = 1) (hk : T.size = 1) : loadO T (some (rws f l)) i = asLoaded T (f x) := by
  have := load_rws (T := T) hf hx hk
  rwa [Nat.mul_one] at this
theorem set_rws (hf : ∀ a, (f a).length = k) (hi : i < l.length) (y : α) : (rws f l).take (i * k) ++ f y ++ (rws f l).drop (i * k + k) = rws f (l.set i y) := by
  obtain ⟨e1, e2⟩ := rws_split hf (List.getElem?_eq_getElem hi)
  have e3 : rws f (l.set i y) = rws f (l.take i) ++ f y ++ rws f (l.drop (i + 1)) := by
    rw [List.set_eq_take_append_cons_drop, if_pos hi]; simp [rws]
  have h1 : (rws f l).take (i * k) = rws f (l.take i) := by
    conv => lhs; rw [e1, List.append_assoc]
    rw [List.take_left' e2]
  have h2 : (rws f l).drop (i * k + k) = rws f (l.drop (i + 1)) := by
    conv => lhs; rw [e1]
    rw [List.drop_left' (by rw [List.length_append, e2, hf])]
  rw [h1, h2, e3]
theorem on_store {T : TI} {b o : Nat} {v : AV} {K : AV × H → Prop} {t : Tag K} (f : α → List AV) (l : List α) (i : Nat) (y : α) (hb : h.get b = some (rws f l)) (hi : i < l.length) (ho : o = i * k) (hv : cellsOf v = some (f y)) (hf : ∀ a, (f a).length = k) (hk : T.size = k)
    (hK : K (.val undef, h.set b (rws f (l.set i y)))) : onSome (storeA T h (.ptr b o) v) K t := by
  subst ho
  have hle : i * k + k ≤ (rws f l).length := by
    rw [rws_len hf, ← Nat.succ_mul]; exact Nat.mul_le_mul_right _ hi
  have : storeA T h (.ptr b (i * k)) v = some (.val undef, h.set b (rws f (l.set i y))) := by
    simp only [storeA, hv, hb]
    rw [if_pos ⟨by rw [hf, hk], by rw [hk]; exact hle⟩, ← set_rws hf hi y, hf]
  rw [this]; exact hK
/-- A copy that is written into. -/
theorem append_own {E : TI} {g : Bool} {xs : List (List AV)} (hk : k = E.size) (h0 : 0 < E.size) (hz : E.zero.length = E.size) (hb1 : xs.length * E.bytes ≤ 70368744177664) (hb2 : xs.length ≤ 70368744177664) (hx : xs.length ≠ 0) : appendA E true h (.ro true k []) (.ro g k xs) = some (.sl h.next 0 xs.length k, h.push xs.flatten) := by
  subst hk
  simp only [appendA, rowsA, if_true]
  rw [if_pos ⟨h0, hz⟩, if_pos ⟨trivial, by simpa using hb1, by simpa using hb2⟩, if_neg hx]
  simp
theorem nilA_ro {g : Bool} {xs : List (List AV)} (hx : xs.length ≠ 0) : nilA (.ro g k xs) = some false := by
  cases xs with
  | nil => simp at hx
  | cons x xs => rfl
theorem binnil_ro {e : TypeId} {s by' : Nat} {z : List Value} {a1 fo cm g : Bool} {xs : List (List AV)} (hx : xs.length ≠ 0) : bin { kind := .sl e, size := s, zero := z, agg := a1, bytes := by', fok := fo, cmp := cm } .eql (.ro g k xs) (.val (.slice none 0 0)) = some (.val (.bool false)) := by
  simp [bin, nilA_ro hx]

/-- A slice that grows out of nil. -/
def growN (b k n : Nat) : AV := if n = 0 then .val (.slice none 0 0) else .sl b 0 n k
theorem growN_zero {b : Nat} : growN b k 0 = .val (.slice none 0 0) := rfl
theorem growN_succ {b n : Nat} : growN b k (n + 1) = .sl b 0 (n + 1) k := by simp [growN]
theorem one_growN {b n : Nat} : one (growN b k n) = true := by cases n <;> rfl
theorem cellsOf_growN {b n : Nat} : cellsOf (growN b k n) = some [growN b k n] := by cases n <;> rfl
theorem lenA_growN {e : TypeId} {s by' : Nat} {z : List Value} {a f' cm : Bool} {b n : Nat} : lenA { kind := .sl e, size := s, zero := z, agg := a, bytes := by', fok := f', cmp := cm } (growN b k n) = some (.val (.int .i64 n)) := by cases n <;> rfl
theorem rn_growN {bs : List Nat} {m b n : Nat} (hb : (rnI b bs 0).isSome = true) : rn bs (m + 1) (growN b k n) = (rnI b bs 0).map fun b => growN b k n := by
  obtain ⟨q, hq⟩ := Option.isSome_iff_exists.1 hb
  cases n with
  | zero => rw [hq]; rfl
  | succ n => rw [growN_succ, rn_sl, hq]; simp [growN_succ]
theorem on_appendN {E : TI} {own : Bool} {b n : Nat} {r : List AV} {K : AV × H → Prop} {t : Tag K} (f : α → List AV) (l : List α) (x : α) (hb : h.get b = grown n (rws f l)) (hn : l.length = n) (hb1 : (n + 1) * E.bytes ≤ 70368744177664) (hb2 : n + 1 ≤ 70368744177664) (hr : f x = r) (hk : k = E.size) (h0 : 0 < E.size) (hz : E.zero.length = E.size) (hf : ∀ a, (f a).length = k)
    (hv : K (.sl h.next 0 (n + 1) k, { next := h.next + 1, get := fun q => if q = h.next then some (rws f (l ++ [x])) else if q = b then none else h.get q, lp := h.lp })) (hown : own = true) : onSome (appendA E own h (growN b k n) (.ro true k [r])) K t := by
  cases n with
  | zero =>
    have hb' := hb
    have hl0 : l = [] := List.length_eq_zero_iff.1 hn
    subst hl0; subst hr; subst hk; subst hown
    rw [grown_zero] at hb'
    simp only [growN_zero, appendA, rowsA, if_true]
    rw [if_pos ⟨h0, hz⟩, if_pos ⟨by simpa using hb1, by simp⟩, if_neg (by simp)]
    have e : ({ next := h.next + 1, get := fun q => if q = h.next then some (rws f ([] ++ [x])) else if q = b then none else h.get q, lp := h.lp } : H) = h.push [f x].flatten := by
      simp only [H.push]
      congr 1
      funext q
      by_cases h1 : q = h.next
      · rw [if_pos h1, if_pos h1]; simp [rws]
      · rw [if_neg h1, if_neg h1]
        by_cases h2 : q = b
        · rw [if_pos h2, h2, hb']
        · rw [if_neg h2]
    rw [e] at hv
    exact hv
  | succ n =>
    have : growN b k (n + 1) = grow b k (n + 1) := by rw [growN_succ, grow_succ]
    rw [this]
    exact on_append f l x hb hn hb1 hb2 hr hk h0 hz hf hv hown
theorem frz_rwsN {b n N : Nat} (hb : h.get b = grown n (rws f l)) (hN : N ≤ b) (hn : l.length = n) (hpos : n ≠ 0) (hk : ∀ a, (f a).length = k) (hc : ∀ a, ((f a).all fun x => clean1 x && one x) = true) : ∃ q, frz q h N (growN b k n) = some (.ro false k (l.map f)) := by
  obtain ⟨m, rfl⟩ : ∃ m, n = m + 1 := ⟨n - 1, by omega⟩
  have := frz_rws hb hN hn hk hc
  rw [grow_succ] at this
  rw [growN_succ]
  simpa [isz] using this
end
def FZ (h : H) (N : Nat) : List AV → List AV → Prop
  | [], [] => True
  | x :: xs, y :: ys => (∃ k, frz k h N x = some y) ∧ FZ h N xs ys
  | _, _ => False
theorem FZ_mapM {h : H} {N : Nat} : ∀ {xs ys : List AV}, FZ h N xs ys → ∃ k, xs.mapM (frz k h N) = some ys
  | [], [], _ => ⟨1, by simp⟩
  | x :: xs, y :: ys, hz => by
    obtain ⟨⟨k, h1⟩, h2⟩ := hz
    obtain ⟨k', h3⟩ := FZ_mapM h2
    refine ⟨k + k', ?_⟩
    have mono : ∀ {l m : List AV} {a b : Nat}, a ≤ b → l.mapM (frz a h N) = some m → l.mapM (frz b h N) = some m := by
      intro l
      induction l with
      | nil => intro m a b _ e; simpa using e
      | cons z l ih =>
        intro m a b hab e
        rw [List.mapM_cons] at e ⊢
        cases hz : frz a h N z with
        | none => simp [hz] at e
        | some z' =>
          cases hl : l.mapM (frz a h N) with
          | none => simp [hz, hl] at e
          | some m' =>
            rw [frz_le hab hz, ih hab hl]
            simpa [hz, hl] using e
    rw [List.mapM_cons, frz_le (show k ≤ k + k' by omega) h1, mono (show k' ≤ k + k' by omega) h3]; rfl
  | [], _ :: _, hz => hz.elim
  | _ :: _, [], hz => hz.elim
theorem frz_aggs {h : H} {N : Nat} {xs ys : List AV} (hz : FZ h N xs ys) : ∃ k, frz k h N (.agg xs) = some (.agg ys) := by
  obtain ⟨k, h1⟩ := FZ_mapM hz
  exact ⟨k + 1, by rw [frz, h1]⟩
theorem frz_tups {h : H} {N : Nat} {xs ys : List AV} (hz : FZ h N xs ys) : ∃ k, frz k h N (.tup xs) = some (.tup ys) := by
  obtain ⟨k, h1⟩ := FZ_mapM hz
  exact ⟨k + 1, by rw [frz, h1]⟩
theorem more_get {h : H} {bl : List (List AV)} {q : Nat} : (h.more bl).get q = if q < h.next then h.get q else bl[q - h.next]? := rfl
theorem more_next {h : H} {bl : List (List AV)} : (h.more bl).next = h.next + bl.length := rfl
theorem more_lp {h : H} {bl : List (List AV)} : (h.more bl).lp = h.lp := rfl
attribute [simp] more_get more_next more_lp ap_finx_ret ap_finx_normal growN_zero growN_succ one_growN cellsOf_growN lenA_growN rn_growN binnil_ro append_own
end Go.Pe
