import Derived.Test.YtffckclggkjbgaaGreatY05
set_option linter.unusedVariables false
set_option linter.unusedSimpArgs false
/- Statements whose order is open: every order does. -/
namespace Go.Pe
open Go

/-- A STEP OVER A PART OF THE HEAP IS A STEP OVER ALL OF IT. -/
theorem Rel.beside {D D' : Nat → Prop} {c c' : Cx} {w w' : World} {h v v' : H} (hr : Rel c D h w) (hsub : ∀ b cs, v.get b = some cs → h.get b = some cs) (hr' : Rel c' D' v' w') (he : Ext D v c w D' c' w' v') (hv : ∀ b cs, v'.get b = some cs → h.get b = none ∨ (v.get b).isSome = true) (hvl : ∀ b, v.lp b = none) (hvl' : ∀ b, v'.lp b = none) (nx : Nat) (hnx : h.next ≤ nx) :
    Rel c' D' { next := nx, get := mergeG h.get v v', lp := h.lp } w' ∧ Ext D h c w D' c' w' { next := nx, get := mergeG h.get v v', lp := h.lp } := by
  have hrv : Rel c D v w := ⟨fun b cs hb => hr.own b cs (hsub b cs hb), fun b b' c1 c2 h1 h2 e => hr.inj b b' c1 c2 (hsub _ _ h1) (hsub _ _ h2) e, hr.sz, (fun b r hb => by rw [hvl] at hb; cases hb), (fun b b' r r' hb => by rw [hvl] at hb; cases hb)⟩
  have hold : ∀ b cs, h.get b = some cs → v.get b = none → c.φ b < w.heap.size ∧ w'.heap[c.φ b]? = w.heap[c.φ b]? ∧ ¬ c'.S (c.φ b) := fun b cs hb hn => by
    obtain ⟨q1, q2, C, e, q3, _⟩ := hr.own b cs hb
    have hlt := (Array.getElem?_eq_some_iff.1 q3).1
    have hno : ∀ b2 c2, v.get b2 = some c2 → c.φ b2 ≠ c.φ b := fun b2 c2 hb2 heq => by
      have := hr.inj b2 b c2 cs (hsub _ _ hb2) hb heq
      subst this; rw [hn] at hb2; cases hb2
    refine ⟨hlt, he.frame _ hlt hno (fun b2 r2 hb2 => by rw [hvl] at hb2; cases hb2), fun hS => ?_⟩
    rcases he.newS _ hS with h6 | h6 | ⟨b2, c2, h6, h7⟩
    · exact q2 h6
    · omega
    · exact hno b2 c2 h6 h7
  have hmerge : ∀ b cs, mergeG h.get v v' b = some cs → v'.get b = some cs ∨ (v.get b = none ∧ v'.get b = none ∧ h.get b = some cs) := fun b cs hb => by
    unfold mergeG at hb
    split at hb
    · exact .inl hb
    · rename_i hc
      simp only [Bool.or_eq_true, Option.isSome_iff_ne_none, ne_eq, not_or, Classical.not_not] at hc
      exact .inr ⟨hc.1, hc.2, hb⟩
  have hlfix : ∀ b r, h.lp b = some r → w'.heap[c.φ b]? = w.heap[c.φ b]? := fun b r hb => he.frame _ (hr.lp_lt hb) (fun b2 cs2 hb2 heq => by
      obtain ⟨_, _, C, e, q3, _⟩ := hr.own b2 cs2 (hsub _ _ hb2)
      exact hr.apart (b' := b2) hb q3 heq.symm) (fun b2 r2 hb2 => by rw [hvl] at hb2; cases hb2)
  have hlS : ∀ b r, h.lp b = some r → c'.S (c.φ b) → c.S (c.φ b) := fun b r hb hS => by
    rcases he.newS _ hS with h6 | h6 | ⟨b2, c2, h6, h7⟩
    · exact h6
    · have := hr.lp_lt hb; omega
    · obtain ⟨_, _, C, e, q3, _⟩ := hr.own b2 c2 (hsub _ _ h6)
      exact (hr.apart (b' := b2) hb q3 h7.symm).elim
  constructor
  · refine ⟨fun b cs hb => ?_, fun b b' c1 c2 h1 h2 heq => ?_, hr'.sz, hr.lps_keep he.S (fun k hk => he.fix hrv k hk) he.φ he.dom he.shp hlfix hlS, hr.linj_keep he.φ⟩
    · rcases hmerge b cs hb with h1 | ⟨h1, _, h2⟩
      · exact hr'.own b cs h1
      · obtain ⟨q1, q2, C, e, q3, q4, q5⟩ := hr.own b cs h2
        obtain ⟨g1, g2, g3⟩ := hold b cs h2 h1
        rw [he.φ b q1]
        exact ⟨he.dom b q1, g3, C, e, by rw [g2]; exact q3, q4, fun j x u e1 e2 => he.val hrv (q5 j x u e1 e2)⟩
    · have cross : ∀ b b' c1 c2, v'.get b = some c1 → v.get b' = none → h.get b' = some c2 → c'.φ b = c'.φ b' → False := fun b b' c1 c2 h1 h2 h3 heq => by
        obtain ⟨q1, _⟩ := hr.own b' c2 h3
        rw [he.φ b' q1] at heq
        rcases he.origin b c1 h1 with ⟨b0, c0, u1, u2⟩ | u
        · have := hr.inj b0 b' c0 c2 (hsub _ _ u1) h3 (u2.trans heq)
          subst this; rw [h2] at u1; cases u1
        · have := (hold b' c2 h3 h2).1
          rw [heq] at u; omega
      rcases hmerge b c1 h1 with g1 | ⟨g1, _, g2⟩ <;> rcases hmerge b' c2 h2 with g3 | ⟨g3, _, g4⟩
      · exact hr'.inj b b' c1 c2 g1 g3 heq
      · exact (cross b b' c1 c2 g1 g3 g4 heq).elim
      · exact (cross b' b c2 c1 g3 g1 g2 heq.symm).elim
      · rw [he.φ b (hr.own b c1 g2).1, he.φ b' (hr.own b' c2 g4).1] at heq
        exact hr.inj b b' c1 c2 g2 g4 heq
  · refine ⟨he.S, fun k hk => ?_, he.φ, he.dom, hnx, he.os, he.tape, he.output, he.size, fun k hk hno hnl => he.frame k hk (fun b cs hb => hno b cs (hsub _ _ hb)) (fun b r hb => by rw [hvl] at hb; cases hb), he.shp, fun b cs hb => ?_, fun b r hb => .inl ⟨b, r, hb, (he.φ b (hr.lps b r hb).1).symm⟩, he.fz⟩
    · rcases he.newS k hk with h6 | h6 | ⟨b, cs, h6, h7⟩
      · exact .inl h6
      · exact .inr (.inl h6)
      · exact .inr (.inr ⟨b, cs, hsub _ _ h6, h7⟩)
    · rcases hmerge b cs hb with h1 | ⟨h1, _, h2⟩
      · rcases he.origin b cs h1 with ⟨b0, c0, u1, u2⟩ | u
        · exact .inl ⟨b0, c0, hsub _ _ u1, u2⟩
        · exact .inr u
      · exact .inl ⟨b, cs, h2, (he.φ b (hr.own b cs h2).1).symm⟩

/-- A guard that lets by, or does not. -/
def lets (all : Array Oper) (o : Oper) (ρ : List AV) (yes : Bool) : Prop :=
  match o.guard with
  | none => yes = true
  | some (j, want) => ∃ d, dstOf all j = some d ∧ ((∃ b, ρ.getD d (.val undef) = .val (.bool b) ∧ yes = (b == want)) ∨ (yes = false ∧ ∃ tt, ρ.getD d (.val undef) = .val (.tuple tt)))

theorem bool_eq {b want : Bool} (h : b = want) : true = (b == want) := by subst h; cases b <;> rfl
theorem bool_ne {b want : Bool} (h : ¬ b = want) : false = (b == want) := by cases b <;> cases want <;> first | rfl | exact absurd rfl h
theorem bool_not {b want : Bool} (h : ¬ b = want) : b = !want := by cases b <;> cases want <;> first | rfl | exact absurd rfl h
theorem lets_bool {all : Array Oper} {o : Oper} {ρ : List AV} {yes b want : Bool} {j d : Nat} (hg : o.guard = some (j, want)) (hd : dstOf all j = some d) (hb : ρ.getD d (.val undef) = .val (.bool b)) (hy : yes = (b == want)) : lets all o ρ yes := by
  unfold lets; rw [hg]; exact ⟨d, hd, .inl ⟨b, hb, hy⟩⟩
theorem lets_no {all : Array Oper} {o : Oper} {ρ : List AV} {want : Bool} {j d : Nat} {tt : Array Value} (hg : o.guard = some (j, want)) (hd : dstOf all j = some d) (hb : ρ.getD d (.val undef) = .val (.tuple tt)) : lets all o ρ false := by
  unfold lets; rw [hg]; exact ⟨d, hd, .inr ⟨rfl, tt, hb⟩⟩

theorem lets_wanted {all : Array Oper} {o : Oper} {ρ : List AV} {yes : Bool} {c : Cx} {w : World} {D : Nat → Prop} {a : Act} (h : lets all o ρ yes) (hρ : RL c w D ρ a.tmps) : Region.wanted o (yielded all a.tmps) = yes := by
  unfold lets at h
  split at h
  · rename_i hg; rw [h]; simp [Region.wanted, hg]
  · rename_i j want hg
    obtain ⟨d, hd, h⟩ := h
    have hy : ∀ v, a.tmps[d]? = some v → yielded all a.tmps j = (match v with | .bool b => some b | _ => none) := fun v hv => by
      unfold yielded; unfold dstOf at hd; rw [hd]; simp only [Option.bind_some, hv]; cases v <;> rfl
    have hy0 : a.tmps[d]? = none → yielded all a.tmps j = none := fun hv => by
      unfold yielded; unfold dstOf at hd; rw [hd]; simp [hv]
    have hslot : ∀ x, ρ.getD d (.val undef) = x → (∃ v, a.tmps[d]? = some v ∧ R c w D x v) ∨ (a.tmps[d]? = none ∧ x = .val undef) := fun x hx => by
      by_cases hdl : d < ρ.length
      · have hdl' : d < a.tmps.size := by rw [hρ.1]; exact hdl
        refine .inl ⟨a.tmps[d], Array.getElem?_eq_getElem hdl', ?_⟩
        have h1 := List.getElem?_eq_getElem hdl
        have hx' : ρ[d] = x := by simpa [List.getD, h1] using hx
        rw [← hx']
        exact hρ.2 d _ _ h1 (Array.getElem?_eq_getElem hdl')
      · have hdl' : ¬ d < a.tmps.size := by rw [hρ.1]; exact hdl
        refine .inr ⟨Array.getElem?_eq_none (Nat.le_of_not_lt hdl'), ?_⟩
        rw [← hx]; simp [List.getD, List.getElem?_eq_none (Nat.le_of_not_lt hdl)]
    rcases h with ⟨b, hb, rfl⟩ | ⟨rfl, tt, hb⟩
    · rcases hslot _ hb with ⟨v, e1, e2⟩ | ⟨_, e2⟩
      · cases e2; simp [Region.wanted, hg, hy _ e1]
      · cases e2
    · rcases hslot _ hb with ⟨v, e1, e2⟩ | ⟨e1, _⟩
      · cases e2; simp [Region.wanted, hg, hy _ e1]
      · simp [Region.wanted, hg, hy0 e1]

/-- What one operation is to come to, where the slots are ρ and the heap is g. -/
def EntOK (P : Program) (md : Oper → Bool) (ct : Cert) (all : Array Oper) (h0 : H) (i : Nat) (o : Oper) (ρ : List AV) (g : Nat → Option (List AV)) (e : Ent) : Prop :=
  if e.sk then lets all o ρ false ∧ e.X = .val undef ∧ e.up = fun _ => none
  else lets all o ρ true ∧
    if quietA ct i o then stepQ P o (qView ct h0 all.size i) (fun x => x = e.X) ρ ∧ e.up = fun _ => none
    else stepE P (md o) o (eView all ct h0 i (h0.next + i) o g) (eView all ct h0 i (h0.next + all.size) o g) (fun x h' => x = e.X ∧ e.up = fun b => if ((eView all ct h0 i (h0.next + i) o g).get b).isSome || (h'.get b).isSome then some (h'.get b) else none) ρ

theorem stepQ_some {P : Program} {o : Oper} {q : H} {K : AV → Prop} {ρ : List AV} (h : stepQ P o q K ρ) : ∃ x, stepQ P o q (fun y => y = x) ρ ∧ K x := by
  unfold stepQ onClo onCallQ onSome at h ⊢
  split at h
  · split at h
    · obtain ⟨x, h1, h2⟩ := h; exact ⟨x, by simp_all, h2⟩
    · exact h.elim
  · split at h
    · rename_i x hx; exact ⟨x, by simp_all, h⟩
    · exact h.elim
theorem stepE_some {P : Program} {own : Bool} {o : Oper} {v vc : H} {K : AV → H → Prop} {ρ : List AV} (h : stepE P own o v vc K ρ) : ∃ x h', stepE P own o v vc (fun y k => y = x ∧ k = h') ρ ∧ K x h' := by
  unfold stepE onClo onCallE onSome at h ⊢
  split at h
  · split at h
    · obtain ⟨x, h', h1, h4, h5, h3⟩ := h
      rename_i g caps hg
      refine ⟨x, h', ?_, h3⟩
      simp only [hg]
      exact ⟨x, h', h1, h4, h5, rfl, rfl⟩
    · exact h.elim
  · split at h
    · rename_i r hr; exact ⟨r.1, r.2, by simp_all, h⟩
    · exact h.elim

theorem vcDr_traceT {P : Program} {md : Oper → Bool} {ct : Cert} {all : Array Oper} {h0 : H} {Q : List AV → H → Prop} {ρ0 : List AV} {m : Nat} (hms : m ≤ all.size) : ∀ (l : List Oper) (i : Nat) (T : Nat → Ent), (∀ j, j < l.length → l[j]? = all[i + j]?) → i + l.length = m →
    (∀ k o, k < i → all[k]? = some o → EntOK P md ct all h0 k o (rhoS all T (fun _ => true) ρ0 k) (gS T (fun _ => true) h0.get k) (T k)) → (∀ k, i ≤ k → (T k).up = fun _ => none) →
    vcDr P md ct all h0 Q l i (rhoS all T (fun _ => true) ρ0 i) (gS T (fun _ => true) h0.get i) →
    ∃ T : Nat → Ent, (∀ k o, all[k]? = some o → k < m → EntOK P md ct all h0 k o (rhoS all T (fun _ => true) ρ0 k) (gS T (fun _ => true) h0.get k) (T k)) ∧ (∀ k, m ≤ k → (T k).up = fun _ => none) ∧ Q (rhoS all T (fun _ => true) ρ0 m) { next := h0.next + all.size, get := gS T (fun _ => true) h0.get m, lp := h0.lp }
  | [], i, T, _, hn, hT, hU, hv => by
    simp only [List.length_nil, Nat.add_zero] at hn
    subst hn
    exact ⟨T, fun k o hk hkm => hT k o hkm hk, hU, hv⟩
  | o :: l, i, T, hl, hn, hT, hU, hv => by
    have ho : all[i]? = some o := by simpa using (hl 0 (by simp)).symm
    have hdst : dstOf all i = o.dst := by simp [dstOf, ho]
    obtain ⟨G, hG⟩ : ∃ G : Prop, G = (∃ T : Nat → Ent, (∀ k o, all[k]? = some o → k < m → EntOK P md ct all h0 k o (rhoS all T (fun _ => true) ρ0 k) (gS T (fun _ => true) h0.get k) (T k)) ∧ (∀ k, m ≤ k → (T k).up = fun _ => none) ∧ Q (rhoS all T (fun _ => true) ρ0 m) { next := h0.next + all.size, get := gS T (fun _ => true) h0.get m, lp := h0.lp }) := ⟨_, rfl⟩
    rw [← hG]
    -- the trace with one entry more
    have next : ∀ e : Ent, EntOK P md ct all h0 i o (rhoS all T (fun _ => true) ρ0 i) (gS T (fun _ => true) h0.get i) e →
        vcDr P md ct all h0 Q l (i + 1) (putA (rhoS all T (fun _ => true) ρ0 i) o.dst e.X) (fun b => match e.up b with | some c => c | none => gS T (fun _ => true) h0.get i b) →
        G := fun e he hv => by
      rw [hG]
      have hsame : ∀ k, k ≤ i → rhoS all (fun j => if j = i then e else T j) (fun _ => true) ρ0 k = rhoS all T (fun _ => true) ρ0 k ∧ gS (fun j => if j = i then e else T j) (fun _ => true) h0.get k = gS T (fun _ => true) h0.get k := by
        intro k
        induction k with
        | zero => intro _; exact ⟨rfl, rfl⟩
        | succ k ih =>
          intro hk
          obtain ⟨h1, h2⟩ := ih (by omega)
          have hne : k ≠ i := by omega
          refine ⟨by simp only [rhoS, if_true, if_neg hne, h1], funext fun b => by simp only [gS, if_true, if_neg hne, h2]⟩
      refine vcDr_traceT hms l (i + 1) (fun j => if j = i then e else T j) (fun j hj => by have := hl (j + 1) (by simpa using hj); simpa [Nat.add_assoc, Nat.add_comm 1 j] using this) (by simp at hn; omega) (fun k o' hk hko => ?_) (fun k hk => by rw [if_neg (by omega)]; exact hU k (by omega)) ?_
      · rw [(hsame k (by omega)).1, (hsame k (by omega)).2]
        by_cases hki : k = i
        · subst hki
          rw [ho] at hko; cases hko
          simpa using he
        · rw [if_neg hki]; exact hT k o' (by omega) hko
      · have e1 : rhoS all (fun j => if j = i then e else T j) (fun _ => true) ρ0 (i + 1) = putA (rhoS all T (fun _ => true) ρ0 i) o.dst e.X := by
          simp only [rhoS, if_true, hdst, (hsame i (Nat.le_refl _)).1]
        have e2 : gS (fun j => if j = i then e else T j) (fun _ => true) h0.get (i + 1) = fun b => match e.up b with | some c => c | none => gS T (fun _ => true) h0.get i b := by
          funext b; simp only [gS, if_true, (hsame i (Nat.le_refl _)).2]; cases e.up b <;> rfl
        rw [e1, e2]; exact hv
    have skip : lets all o (rhoS all T (fun _ => true) ρ0 i) false → vcDr P md ct all h0 Q l (i + 1) (putA (rhoS all T (fun _ => true) ρ0 i) o.dst (.val undef)) (gS T (fun _ => true) h0.get i) → G := fun hlet hv =>
      next { sk := true, X := .val undef, up := fun _ => none } (by simp [EntOK, hlet]) hv
    have run : lets all o (rhoS all T (fun _ => true) ρ0 i) true → (if quietA ct i o then stepQ P o (qView ct h0 all.size i) (fun x => vcDr P md ct all h0 Q l (i + 1) (putA (rhoS all T (fun _ => true) ρ0 i) o.dst x) (gS T (fun _ => true) h0.get i)) (rhoS all T (fun _ => true) ρ0 i)
        else stepE P (md o) o (eView all ct h0 i (h0.next + i) o (gS T (fun _ => true) h0.get i)) (eView all ct h0 i (h0.next + all.size) o (gS T (fun _ => true) h0.get i)) (fun x h' => vcDr P md ct all h0 Q l (i + 1) (putA (rhoS all T (fun _ => true) ρ0 i) o.dst x) (mergeG (gS T (fun _ => true) h0.get i) (eView all ct h0 i (h0.next + i) o (gS T (fun _ => true) h0.get i)) h')) (rhoS all T (fun _ => true) ρ0 i)) → G := fun hlet hv => by
      split at hv
      · rename_i hq
        obtain ⟨x, h1, h2⟩ := stepQ_some hv
        exact next { sk := false, X := x, up := fun _ => none } (by simp [EntOK, hlet, hq, h1]) h2
      · rename_i hq
        obtain ⟨x, h', h1, h2⟩ := stepE_some hv
        refine next { sk := false, X := x, up := fun b => if ((eView all ct h0 i (h0.next + i) o (gS T (fun _ => true) h0.get i)).get b).isSome || (h'.get b).isSome then some (h'.get b) else none } ?_ ?_
        · simp only [EntOK, Bool.false_eq_true, if_false, if_neg hq]
          refine ⟨hlet, ?_⟩
          unfold stepE onClo onCallE onSome at h1 ⊢
          split at h1
          · split at h1
            · rename_i g caps hg
              obtain ⟨y, k, q1, q3, q4, rfl, rfl⟩ := h1
              simp only [hg]
              exact ⟨y, k, q1, q3, q4, rfl, rfl⟩
            · exact h1.elim
          · split at h1
            · rename_i r hr; obtain ⟨rfl, rfl⟩ := h1; simp_all
            · exact h1.elim
        · have : (fun b => match (if ((eView all ct h0 i (h0.next + i) o (gS T (fun _ => true) h0.get i)).get b).isSome || (h'.get b).isSome then some (h'.get b) else none) with | some c => c | none => gS T (fun _ => true) h0.get i b) =
              mergeG (gS T (fun _ => true) h0.get i) (eView all ct h0 i (h0.next + i) o (gS T (fun _ => true) h0.get i)) h' := by
            funext b
            unfold mergeG
            by_cases hc : (((eView all ct h0 i (h0.next + i) o (gS T (fun _ => true) h0.get i)).get b).isSome || (h'.get b).isSome) = true
            · rw [if_pos hc, if_pos hc]
            · rw [if_neg hc, if_neg hc]
          simp only [this]; exact h2
    simp only [vcDr] at hv
    split at hv
    · rename_i hg
      exact run (by simp [lets, hg]) hv
    · rename_i j want hg
      unfold onSome at hv
      split at hv
      · rename_i d hd
        unfold onBool ifB at hv
        split at hv
        · rename_i b hb
          by_cases hbw : b = want
          · have hv1 := hv
            rw [if_pos (by simp [hbw])] at hv1
            rw [← hbw, set_same hb] at hv1
            exact run (lets_bool hg hd hb (bool_eq hbw)) hv1
          · have hv2 := hv
            rw [if_neg (by simp [hbw])] at hv2
            rw [← bool_not hbw, set_same hb] at hv2
            exact skip (lets_bool hg hd hb (bool_ne hbw)) hv2
        · rename_i tt hb
          exact skip (lets_no hg hd hb) hv
        · exact hv.elim
      · exact hv.elim

end Go.Pe

/- Statements whose order is open: the theorem. -/
namespace Go.Pe
open Go

theorem map_congr_ops {ρ ρ' : List AV} {xs : Array Operand} (h : ∀ x, x ∈ xs → aev ρ x = aev ρ' x) : xs.toList.map (aev ρ) = xs.toList.map (aev ρ') :=
  List.map_congr_left fun x hx => h x (by simpa using hx)
theorem parts_congr {ρ ρ' : List AV} {ps : Array (Nat × Operand)} (h : ∀ x, x ∈ (ps.toList.map (·.2)).toArray → aev ρ x = aev ρ' x) : (ps.toList.map fun p => (p.1, aev ρ p.2)) = ps.toList.map fun p => (p.1, aev ρ' p.2) :=
  List.map_congr_left fun p hp => by rw [h p.2 (by simp only [List.mem_toArray, List.mem_map]; exact ⟨p, hp, rfl⟩)]
theorem opt_congr {ρ ρ' : List AV} {q : Option Operand} (h : ∀ x, q = some x → aev ρ x = aev ρ' x) : q.map (aev ρ) = q.map (aev ρ') := by
  cases q with
  | none => rfl
  | some x => simp [h x rfl]

theorem pop_congr {P : Program} {o : Oper} {ρ ρ' : List AV} {hh : H} (h : ∀ x ∈ o.op.operands, aev ρ x = aev ρ' x) : pop P o ρ hh = pop P o ρ' hh := by
  unfold pop
  split <;> rename_i hop <;> first | (rw [hop] at h; simp only [Op.operands, Call.operands] at h) | skip
  · rename_i x; rw [h x (by simp)]
  · rename_i x; rw [h x (by simp)]
  · rename_i c a b; rw [h c (by simp), h a (by simp), h b (by simp)]
  · rename_i t x; rw [h x (by simp)]
  · rename_i t x f; rw [h x (by simp)]
  · rename_i t x i; rw [h x (by simp), h i (by simp)]
  · rename_i t x i; rw [h x (by simp), h i (by simp)]
  · rename_i t x f; rw [h x (by simp)]
  · rename_i op t x y _; rw [h x (by simp), h y (by simp)]
  · rename_i op t x; rw [h x (by simp)]
  · rename_i s t x; rw [h x (by simp)]
  · rename_i x i; rw [h x (by simp)]
  · rename_i f first caps; rw [map_congr_ops (fun x hx => h x (by simp [hx]))]
  · rename_i x; rw [h x (by simp)]
  · rename_i t parts; rw [parts_congr h]
  · rename_i t x lo hi mx
    rw [h x (by simp), opt_congr (q := lo) (fun y hy => h y (by simp [hy])), opt_congr (q := hi) (fun y hy => h y (by simp [hy])), opt_congr (q := mx) (fun y hy => h y (by simp [hy]))]
  · rename_i x t; rw [h x (by simp)]
  · rename_i x t; rw [h x (by simp)]
  · rename_i args _; rw [map_congr_ops (fun x hx => h x (by simp [hx]))]
  · rename_i args _; rw [map_congr_ops (fun x hx => h x (by simp [hx]))]
  · first | rfl | simp_all

theorem eop_congr {P : Program} {own : Bool} {o : Oper} {ρ ρ' : List AV} {hh : H} (h : ∀ x ∈ o.op.operands, aev ρ x = aev ρ' x) : eop P own o ρ hh = eop P own o ρ' hh := by
  unfold eop
  split <;> rename_i hop <;> first | (rw [hop] at h; simp only [Op.operands, Call.operands] at h) | skip
  · rfl
  · rename_i t x; rw [h x (by simp)]
  · rename_i t p x; rw [h p (by simp), h x (by simp)]
  · rename_i t n parts; rw [parts_congr h]
  · rename_i t l c; rw [h l (by simp), h c (by simp)]
  · rename_i s x t tx; rw [h s (by simp), h x (by simp)]
  · first | rfl | simp_all

/-- What an effect leaves: nothing new lives, but what it has made. -/
theorem eop_live {P : Program} {own : Bool} {o : Oper} {ρ : List AV} {v : H} {r : AV × H} (h : eop P own o ρ v = some r) : (∀ b, (r.2.get b).isSome = true → (v.get b).isSome = true ∨ (b = v.next ∧ allocs o.op = true)) ∧ r.2.next ≤ v.next + 1 := by
  have push : ∀ cs, allocs o.op = true → (∀ b, ((v.push cs).get b).isSome = true → (v.get b).isSome = true ∨ (b = v.next ∧ allocs o.op = true)) ∧ (v.push cs).next ≤ v.next + 1 := fun cs ha => by
    refine ⟨fun b hb => ?_, Nat.le_refl _⟩
    simp only [H.push] at hb
    split at hb
    · rename_i hbe; exact .inr ⟨hbe, ha⟩
    · exact .inl hb
  unfold eop at h
  split at h <;> rename_i hop <;> first | (cases h; done) | skip
  · obtain ⟨T, _, h⟩ := tyInt2_some h; cases h; exact push _ (by rw [hop]; rfl)
  · split at h
    · cases h; exact push _ (by rw [hop]; rfl)
    · cases h
  · obtain ⟨T, _, h⟩ := tyInt2_some h
    unfold storeA at h
    split at h
    · split at h
      · rename_i cs hcs
        split at h
        · cases h
          refine ⟨fun b hb => ?_, Nat.le_succ _⟩
          simp only [H.set] at hb
          split at hb
          · rename_i hbe; subst hbe; exact .inl (by simp [hcs])
          · exact .inl hb
        · cases h
      · cases h
    · cases h
  · obtain ⟨T, _, h⟩ := tyInt2_some h
    split at h
    · obtain ⟨E, _, h⟩ := tyInt2_some h
      unfold buildSliceA at h
      split at h
      · split at h
        · split at h
          · split at h
            · cases h; exact push _ (by rw [hop]; rfl)
            · cases h; exact ⟨fun b hb => .inl hb, Nat.le_succ _⟩
          · cases h
        · cases h
      · cases h
    · cases h
  · obtain ⟨T, _, h⟩ := tyInt2_some h
    split at h
    · obtain ⟨E, _, h⟩ := tyInt2_some h
      split at h
      · unfold makeSliceA at h
        split at h
        · split at h
          · cases h; exact push _ (by rw [hop]; rfl)
          · cases h; exact push _ (by rw [hop]; rfl)
        · cases h
      · cases h
    · cases h
  · obtain ⟨T, _, h⟩ := tyInt2_some h
    obtain ⟨TX, _, h⟩ := tyInt2_some h
    split at h
    · obtain ⟨E, _, h⟩ := tyInt2_some h
      have ha : allocs o.op = true := by rw [hop]; rfl
      have hX : ∀ {s x : AV}, appendX E v s x = some r → (∀ b, (r.2.get b).isSome = true → (v.get b).isSome = true ∨ (b = v.next ∧ allocs o.op = true)) ∧ r.2.next ≤ v.next + 1 := fun hx => by
        obtain ⟨g1, g2, _⟩ := appendX_new hx
        exact ⟨fun b hb => (g1 b hb).imp id fun g => ⟨g, ha⟩, g2⟩
      unfold appendA at h
      split at h
      · exact hX h
      · split at h
        · split at h
          · split at h
            · split at h
              · split at h
                · cases h
                  refine ⟨fun b hb => ?_, Nat.le_refl _⟩
                  simp only at hb
                  split at hb
                  · rename_i hbe; exact .inr ⟨hbe, ha⟩
                  · split at hb
                    · simp at hb
                    · exact .inl hb
                · split at h
                  · cases h
                    refine ⟨fun b hb => ?_, Nat.le_refl _⟩
                    simp only at hb
                    split at hb
                    · simp at hb
                    · split at hb
                      · simp at hb
                      · exact .inl hb
                  · cases h
              · exact hX h
            · cases h
          · exact hX h
          · split at h
            · split at h
              · split at h
                · cases h; exact ⟨fun b hb => .inl hb, Nat.le_succ _⟩
                · cases h; exact push _ ha
              · split at h
                · cases h; exact ⟨fun b hb => .inl hb, Nat.le_succ _⟩
                · cases h
            · cases h
          · split at h
            · split at h
              · split at h
                · cases h; exact ⟨fun b hb => .inl hb, Nat.le_succ _⟩
                · cases h; exact push _ ha
              · cases h; exact ⟨fun b hb => .inl hb, Nat.le_succ _⟩
            · cases h
          · cases h
        · cases h
    · obtain ⟨E, _, h⟩ := tyInt2_some h
      obtain ⟨g1, g2, _⟩ := zeroApp_new h
      exact ⟨fun b hb => (g1 b hb).imp id fun g => ⟨g, by rw [hop]; rfl⟩, g2⟩
    · cases h

/-- No effect touches a loop. -/
theorem eop_lp {P : Program} {own : Bool} {o : Oper} {ρ : List AV} {v : H} {r : AV × H} (h : eop P own o ρ v = some r) : r.2.lp = v.lp := by
  unfold eop at h
  split at h <;> rename_i hop <;> first | (cases h; done) | skip
  · obtain ⟨T, _, h⟩ := tyInt2_some h; cases h; rfl
  · split at h
    · cases h; rfl
    · cases h
  · obtain ⟨T, _, h⟩ := tyInt2_some h
    unfold storeA at h
    split at h
    · split at h
      · split at h
        · cases h; rfl
        · cases h
      · cases h
    · cases h
  · obtain ⟨T, _, h⟩ := tyInt2_some h
    split at h
    · obtain ⟨E, _, h⟩ := tyInt2_some h
      unfold buildSliceA at h
      split at h
      · split at h
        · split at h
          · split at h
            · cases h; rfl
            · cases h; rfl
          · cases h
        · cases h
      · cases h
    · cases h
  · obtain ⟨T, _, h⟩ := tyInt2_some h
    split at h
    · obtain ⟨E, _, h⟩ := tyInt2_some h
      split at h
      · unfold makeSliceA at h
        split at h
        · split at h
          · cases h; rfl
          · cases h; rfl
        · cases h
      · cases h
    · cases h
  · obtain ⟨T, _, h⟩ := tyInt2_some h
    obtain ⟨TX, _, h⟩ := tyInt2_some h
    split at h
    · obtain ⟨E, _, h⟩ := tyInt2_some h
      unfold appendA at h
      repeat' (split at h)
      all_goals first | (cases h; done) | (cases h; rfl) | exact (appendX_new h).2.2.1
    · obtain ⟨E, _, h⟩ := tyInt2_some h
      exact (zeroApp_new h).2.2.1
    · cases h

theorem call_run {P : Program} {o : Oper} {f : Operand} {args : Array Operand} {ats : Array TypeId} {g : Nat} {caps : List AV} {x : AV} {q q' : H} {ρ : List AV} {c : Cx} {D : Nat → Prop} {w : World} {a : Act} {r : Option Nat} {n : Nat} {next : Act → World → Prop} {Q : Exit → Act → World → Prop}
    (hop : o.op = .call { callee := .value f, args := args, argTypes := ats }) (hg : aev ρ f = .clo g caps) {F X : Nat → Prop} (hF : FnG P g (args.toList.map (aev ρ) ++ caps) q F X x q') (hr : Rel c D q w) (hfr : ∀ b, F b → ¬ D b) (hρ : RL c w D ρ a.tmps)
    (hK : ∀ v w' c' D', R c' w' D' x v → Rel c' D' q' w' → Ext D q c w D' c' w' q' → (∀ b, D' b → D b ∨ X b) → next (a.put o.dst v) w') : o.wpIn (Fr r) n P a w next Q := by
  refine ⟨fun f _ => trivial, ?_⟩
  obtain ⟨hcall, hF⟩ := hF
  have hclo := R_aev hρ f
  rw [hg] at hclo
  have hsem : (o.semAt (Fr r).round a.eval) = execOp a.eval o := Oper.semAt_eq _ _ _ (by rw [hop]; simp)
  rw [hsem]
  generalize hav : a.eval f = fv at hclo
  cases hclo with
  | clo hs hh =>
    rename_i cs
    have hrun : (execOp a.eval o).run P w = .ok (.enter g (args.map a.eval ++ cs)) w := by
      unfold execOp
      rw [hop]
      have hfn : ∃ fn b, P.funcs[g]? = some fn ∧ fn.name ≠ "runtime.NumGoroutine" ∧ fn.body = some b := by
        unfold callable at hcall
        cases hf : P.funcs[g]? with
        | none => simp [hf] at hcall
        | some fn =>
          simp only [hf, Bool.and_eq_true, bne_iff_ne, ne_eq] at hcall
          obtain ⟨b, hb⟩ := Option.isSome_iff_exists.1 hcall.2
          exact ⟨fn, b, rfl, by simpa using hcall.1, hb⟩
      obtain ⟨fn, b, e1, e2, e3⟩ := hfn
      simp [resolve, hav, Deferred.ofValue, invoke, callFunc, e1, e2, e3]
    rw [hrun]
    refine ⟨fun hd => by simp [Fr, Fence.wide] at hd, ?_⟩
    have hm := RL_map hρ args
    refine CallsIn_Fr ((hF (n - 1) c D w (args.map a.eval ++ cs) hr hfr ⟨by simp [hs], fun i y u h1 h2 => ?_⟩).mono ?_)
    · rw [Array.getElem?_append] at h2
      split at h2
      · rename_i hi
        rw [List.getElem?_append_left (by simpa using hi)] at h1
        exact hm.2 i y u h1 h2
      · rename_i hi
        rw [List.getElem?_append_right (by simpa using hi)] at h1
        simp only [List.length_map, Array.length_toList, Array.size_map] at h1 h2
        exact hh _ y u h1 h2
    · rintro e w' ⟨v, c', D', rfl, h2, h3, h4, h5⟩
      exact hK v w' c' D' h2 h3 h4 h5

theorem stepQ_run {P : Program} {o : Oper} {x : AV} {q : H} {ρ ρ' : List AV} {c : Cx} {D : Nat → Prop} {w : World} {a : Act} {r : Option Nat} {n : Nat} {next : Act → World → Prop} {Q : Exit → Act → World → Prop}
    (hv : stepQ P o q (fun y => y = x) ρ') (hcg : ∀ x ∈ o.op.operands, aev ρ' x = aev ρ x) (hr : Rel c D q w) (hfr : ∀ b, q.next ≤ b → ¬ D b) (hρ : RL c w D ρ a.tmps)
    (hK : ∀ v w' c' D', R c' w' D' x v → Rel c' D' q w' → Ext D q c w D' c' w' q → (∀ b, D' b → D b) → next (a.put o.dst v) w') : o.wpIn (Fr r) n P a w next Q := by
  unfold stepQ onClo onCallQ onSome at hv
  split at hv
  · rename_i f args ats hop
    rw [hop] at hcg
    simp only [Op.operands, Call.operands] at hcg
    rw [hcg f (by simp), map_congr_ops (fun y hy => hcg y (by simp [hy]))] at hv
    split at hv
    · rename_i g caps hg
      obtain ⟨y, hF, rfl⟩ := hv
      exact call_run hop hg hF.toG hr hfr hρ fun v w' c' D' h2 h3 h4 h5 => hK v w' c' D' h2 h3 h4 fun b hb => by rcases h5 b hb with h6 | h6; exact h6; omega
    · exact hv.elim
  · rename_i hnc
    rw [pop_congr hcg] at hv
    split at hv
    · rename_i y hy
      subst hv
      obtain ⟨v, h1, h2⟩ := pop_sound hy hr hρ
      have hsem : (o.semAt (Fr r).round a.eval) = execOp a.eval o := Oper.semAt_eq _ _ _ (by
        intro cc hcc; unfold pop at hy; rw [hcc] at hy; simp at hy)
      refine ⟨fun f _ => trivial, ?_⟩
      rw [hsem, h1]
      exact hK v w c D h2 hr (Ext.refl _ _ _ _) (fun b hb => hb)
    · exact hv.elim

theorem stepE_run {P : Program} {own : Bool} {o : Oper} {x : AV} {v0 vc h' : H} {ρ ρ' : List AV} {c : Cx} {D : Nat → Prop} {w : World} {a : Act} {r : Option Nat} {n : Nat} {next : Act → World → Prop} {Q : Exit → Act → World → Prop}
    (hv : stepE P own o v0 vc (fun y k => y = x ∧ k = h') ρ') (hcg : ∀ x ∈ o.op.operands, aev ρ' x = aev ρ x) (hr : Rel c D v0 w) (hget : vc.get = v0.get) (hnl : ∀ b, v0.lp b = none) (hnl' : ∀ b, vc.lp b = none) (hfr0 : ¬ D v0.next) (hfr : ∀ b, vc.next ≤ b → ¬ D b) (hρ : RL c w D ρ a.tmps)
    (hK : ∀ v w' c' D' nx, R c' w' D' x v → Rel c' D' h' w' → Ext D { next := nx, get := v0.get, lp := v0.lp } c w D' c' w' h' → (∀ b, D' b → D b ∨ (b = v0.next)) → (∀ b, (h'.get b).isSome = true → (v0.get b).isSome = true ∨ (b = v0.next ∧ (allocs o.op = true ∨ cls o.op = true))) → (∀ b, h'.lp b = none) → next (a.put o.dst v) w') : o.wpIn (Fr r) n P a w next Q := by
  unfold stepE onClo onCallE onSome at hv
  split at hv
  · rename_i f args ats hop
    rw [hop] at hcg
    simp only [Op.operands, Call.operands] at hcg
    rw [hcg f (by simp), map_congr_ops (fun y hy => hcg y (by simp [hy]))] at hv
    split at hv
    · rename_i g caps hg
      obtain ⟨y, k, hF, hlive, hlpk, rfl, rfl⟩ := hv
      have hlpe : vc.lp = v0.lp := funext fun b => by rw [hnl, hnl']
      have hrc : Rel c D vc w := ⟨fun b cs hb => hr.own b cs (by rw [← hget]; exact hb), fun b b' c1 c2 h1 h2 e => hr.inj b b' c1 c2 (by rw [← hget]; exact h1) (by rw [← hget]; exact h2) e, hr.sz, (fun b r hb => by rw [hnl'] at hb; cases hb), (fun b b' r r' hb => by rw [hnl'] at hb; cases hb)⟩
      refine call_run hop hg hF hrc (fun b hb => by rcases hb with hb | hb; exact hfr b hb; rw [hb]; exact hfr0) hρ fun v w' c' D' h2 h3 h4 h5 => hK v w' c' D' vc.next h2 h3 (by rw [← hget, ← hlpe]; exact h4) h5 (fun b hb => ?_) hlpk
      cases hvb : vc.get b with
      | none =>
        rcases hlive b hvb with h6 | h6
        · rw [h6] at hb; cases hb
        · exact .inr ⟨h6, .inr (by rw [hop]; rfl)⟩
      | some cs => rw [hget] at hvb; exact .inl (by simp [hvb])
    · exact hv.elim
  · rename_i hnc
    rw [eop_congr hcg] at hv
    split at hv
    · rename_i rr hrr
      obtain ⟨rfl, rfl⟩ := hv
      obtain ⟨hl1, hl2⟩ := eop_live hrr
      obtain ⟨v, w', c', D', h1, h2, h3, h4, h5⟩ := eop_sound hrr hr hfr0 hρ
      have hsem : (o.semAt (Fr r).round a.eval) = execOp a.eval o := Oper.semAt_eq _ _ _ (by
        intro cc hcc; unfold eop at hrr; rw [hcc] at hrr; simp at hrr)
      refine ⟨fun f _ => trivial, ?_⟩
      have hD : ∀ b, D' b → D b ∨ (b = v0.next) := fun b hb => by rcases h5 b hb with h6 | h6; exact .inl h6; exact .inr (by omega)
      rw [hsem]
      rcases h1 with h1 | ⟨h1, rfl⟩
      · rw [h1]; exact hK v w' c' D' v0.next h2 h3 h4 hD (fun b hb => (hl1 b hb).imp id fun h => ⟨h.1, .inl h.2⟩) (fun b => by rw [eop_lp hrr]; exact hnl b)
      · rw [h1]; exact hK _ w' c' D' v0.next h2 h3 h4 hD (fun b hb => (hl1 b hb).imp id fun h => ⟨h.1, .inl h.2⟩) (fun b => by rw [eop_lp hrr]; exact hnl b)
    · exact hv.elim

end Go.Pe
