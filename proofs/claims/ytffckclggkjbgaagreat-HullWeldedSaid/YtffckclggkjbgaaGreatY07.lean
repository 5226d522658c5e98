import Derived.Test.YtffckclggkjbgaaGreatY06
set_option linter.unusedVariables false
set_option linter.unusedSimpArgs false
/- Statements whose order is open: every order comes to the same. -/
namespace Go.Pe
open Go

theorem putA_get {ρ : List AV} {t : Nat} {X : AV} : (putA ρ (some t) X)[t]? = if t < ρ.length then some X else none := by
  simp only [putA, List.getElem?_set, if_true]

section
variable {P : Program} {md : Oper → Bool} {ct : Cert} {all : Array Oper} {h0 : H} {ρ0 : List AV} {T : Nat → Ent}

theorem bef_lt (h1 : tmpsApart all = true) {i k : Nat} (h : Bef all i k) : i < k := by
  induction h with
  | one ho he hb hi =>
    rename_i i k o e
    simp only [tmpsApart, List.all_eq_true, List.mem_range] at h1
    have hk := (Array.getElem?_eq_some_iff.1 ho).1
    have h2 := h1 k hk
    simp only [ho, Bool.and_eq_true] at h2
    have h3 := Array.all_eq_true_iff_forall_mem.1 h2.1 e he
    simp only [hb, Bool.not_true, Bool.false_or, decide_eq_true_eq] at h3
    omega
  | step _ _ ih1 ih2 => omega

theorem bef_closed {sel : Nat → Bool} (hc : ∀ j o, all[j]? = some o → sel j = true → ∀ e ∈ o.after, Region.binds .any e = true → sel e.on = true) {i k : Nat} (h : Bef all i k) : sel k = true → sel i = true := by
  induction h with
  | one ho he hb hi => intro hs; rw [← hi]; exact hc _ _ ho hs _ he hb
  | step _ _ ih1 ih2 => exact fun hs => ih1 (ih2 hs)

theorem tmps_apart (h1 : tmpsApart all = true) {i k : Nat} {o : Oper} {t : Nat} (hne : i ≠ k) (hd : dstOf all i = some t) (ho : all[k]? = some o) (ht : t ∈ o.looksAt all ∨ o.dst = some t) : Bef all i k ∨ Bef all k i := by
  have hk := (Array.getElem?_eq_some_iff.1 ho).1
  unfold dstOf at hd
  cases hi : all[i]? with
  | none => simp [hi] at hd
  | some oi =>
    simp only [hi, Option.bind_some] at hd
    have hil := (Array.getElem?_eq_some_iff.1 hi).1
    simp only [tmpsApart, List.all_eq_true, List.mem_range] at h1
    have h2 := h1 i hil
    simp only [hi, Bool.and_eq_true, hd] at h2
    have h3 := (List.all_eq_true.1 h2.2) k (by simpa using hk)
    simp only [ho, Bool.or_eq_true, beq_iff_eq, Bool.and_eq_true, Bool.not_eq_true', bne_iff_ne, ne_eq] at h3
    rcases h3 with ((h3 | h3) | h3) | h3
    · exact absurd h3 hne
    · exact .inl (ordA_bef h3)
    · exact .inr (ordA_bef h3)
    · rcases ht with ht | ht
      · have : (o.looksAt all).contains t = true := by simpa using ht
        rw [this] at h3; simp at h3
      · exact absurd ht h3.2

def fpm (all : Array Oper) (i : Nat) (o : Oper) : List Nat := fpn all i o ++ (if cls o.op then [i] else [])
theorem storeNew_some {all : Array Oper} {op : Op} {j : Nat} (h : storeNew all op = some j) : ∃ o, all[j]? = some o ∧ allocs o.op = true := by
  unfold storeNew at h
  split at h
  · have h1 := List.find?_some h
    split at h1
    · rename_i o ho
      simp only [Bool.and_eq_true] at h1
      exact ⟨o, ho, h1.2⟩
    · cases h1
  · cases h
theorem fpn_at {all : Array Oper} {i j : Nat} {o : Oper} (h : j ∈ fpn all i o) : j = i ∨ ∃ oj, all[j]? = some oj ∧ allocs oj.op = true := by
  simp only [fpn, List.mem_append] at h
  rcases h with h | h
  · split at h
    · simp at h; exact .inl h
    · simp at h
  · split at h
    · rename_i q hq
      simp at h; subst h
      exact .inr (storeNew_some hq)
    · simp at h
theorem cls_not {op : Op} (h : cls op = true) : allocs op = false := by
  unfold cls at h
  split at h
  · rfl
  · cases h
theorem fpm_both {all : Array Oper} {i k j : Nat} {oi ok : Oper} (hne : i ≠ k) (hi : all[i]? = some oi) (hk : all[k]? = some ok) (h1 : j ∈ fpm all i oi) (h2 : j ∈ fpm all k ok) : j ∈ fpn all i oi ∧ j ∈ fpn all k ok := by
  have cs : ∀ {q : Nat} {o : Oper}, j ∈ fpm all q o → j ∈ fpn all q o ∨ (j = q ∧ cls o.op = true) := fun {q o} h => by
    simp only [fpm, List.mem_append] at h
    rcases h with h | h
    · exact .inl h
    · split at h
      · rename_i hc; simp at h; exact .inr ⟨h, hc⟩
      · simp at h
  rcases cs h1 with a | ⟨a1, a2⟩ <;> rcases cs h2 with b | ⟨b1, b2⟩
  · exact ⟨a, b⟩
  · rcases fpn_at a with h3 | ⟨oj, h3, h4⟩
    · exact absurd (h3.symm.trans b1) hne
    · rw [b1, hk] at h3; cases h3
      rw [cls_not b2] at h4; cases h4
  · rcases fpn_at b with h3 | ⟨oj, h3, h4⟩
    · exact absurd (a1.symm.trans h3) hne
    · rw [a1, hi] at h3; cases h3
      rw [cls_not a2] at h4; cases h4
  · exact absurd (a1.symm.trans b1) hne
theorem fpm_of {all : Array Oper} {k b N : Nat} {o : Oper} {L : List Nat} (h : (∃ j, j ∈ fpn all k o ∧ b = N + j) ∨ b ∈ L) : (∃ j, j ∈ fpm all k o ∧ b = N + j) ∨ b ∈ L :=
  h.imp (fun ⟨j, h1, h2⟩ => ⟨j, by simp [fpm, h1], h2⟩) id
theorem fps_apart (h2 : fpsApart all ct = true) {i k : Nat} {oi ok : Oper} (hne : i ≠ k) (hi : all[i]? = some oi) (hk : all[k]? = some ok) (hqk : quietA ct k ok = false) :
    (quietA ct i oi = true → ∀ b, ct.see.contains (i, b) = true → b ∈ fpo ct k → Bef all i k) ∧
    (quietA ct i oi = false → ((∃ j, j ∈ fpm all i oi ∧ j ∈ fpm all k ok) ∨ ∃ b, b ∈ fpo ct i ∧ b ∈ fpo ct k) → Bef all i k ∨ Bef all k i) := by
  have hil := (Array.getElem?_eq_some_iff.1 hi).1
  have hkl := (Array.getElem?_eq_some_iff.1 hk).1
  simp only [fpsApart, List.all_eq_true, List.mem_range] at h2
  have h3 := h2 i hil
  simp only [hi, Bool.and_eq_true] at h3
  have h4 := (List.all_eq_true.1 h3.2) k (by simpa using hkl)
  simp only [hk, Bool.or_eq_true, beq_iff_eq, hqk] at h4
  have h5 := (h4.resolve_left hne).resolve_left (by simp)
  constructor
  · intro hq b hs hf
    rw [if_pos hq] at h5
    simp only [Bool.or_eq_true, List.all_eq_true, Bool.not_eq_true'] at h5
    exact ordA_bef (h5.resolve_right fun h => by rw [h b hf] at hs; cases hs)
  · intro hq hov
    rw [if_neg (by simp [hq])] at h5
    simp only [Bool.or_eq_true, Bool.and_eq_true, List.all_eq_true, Bool.not_eq_true'] at h5
    rcases h5 with (h5 | h5) | h5
    · exact .inl (ordA_bef h5)
    · exact .inr (ordA_bef h5)
    · exfalso
      rcases hov with ⟨j, h6, h7⟩ | ⟨b, h6, h7⟩
      · have hfp := fpm_both hne hi hk h6 h7
        have := h5.1 j hfp.1; simp [hfp.2] at this
      · have := h5.2 b h6; simp [h7] at this

theorem fpo_mem (h2 : fpsApart all ct = true) {i : Nat} {oi : Oper} (hi : all[i]? = some oi) {b : Nat} (hb : b ∈ fpo ct i) : b ∈ ct.M := by
  have hil := (Array.getElem?_eq_some_iff.1 hi).1
  simp only [fpsApart, List.all_eq_true, List.mem_range] at h2
  have h3 := h2 i hil
  simp only [hi, Bool.and_eq_true, List.all_eq_true] at h3
  simpa using h3.1 b hb

theorem stepE_live {own : Bool} {o : Oper} {v vc : H} {ρ : List AV} {x : AV} {h' : H} (h : stepE P own o v vc (fun y k => y = x ∧ k = h') ρ) (hget : vc.get = v.get) : ∀ b, (h'.get b).isSome = true → (v.get b).isSome = true ∨ (b = v.next ∧ (allocs o.op = true ∨ cls o.op = true)) := by
  unfold stepE onClo onCallE onSome at h
  split at h
  · split at h
    · rename_i hop _ _ _ _
      obtain ⟨y, k, _, hl, _, rfl, rfl⟩ := h
      intro b hb
      cases hv : vc.get b with
      | none =>
        rcases hl b hv with h6 | h6
        · rw [h6] at hb; cases hb
        · exact .inr ⟨h6, .inr (by rw [hop]; rfl)⟩
      | some cs => rw [hget] at hv; exact .inl (by simp [hv])
    · exact h.elim
  · split at h
    · rename_i r hr; obtain ⟨rfl, rfl⟩ := h; exact fun b hb => ((eop_live hr).1 b hb).imp id fun h => ⟨h.1, .inl h.2⟩
    · exact h.elim

theorem eView_fp {i nx : Nat} {o : Oper} {g : Nat → Option (List AV)} {b : Nat} (h : ((eView all ct h0 i nx o g).get b).isSome = true) : (∃ j, j ∈ fpn all i o ∧ b = h0.next + j) ∨ b ∈ fpo ct i := by
  simp only [eView] at h
  split at h
  · rename_i hc
    simp only [Bool.or_eq_true, List.any_eq_true, beq_iff_eq] at hc
    rcases hc with ⟨j, h1, h2⟩ | hc
    · exact .inl ⟨j, h1, h2.symm⟩
    · exact .inr (by simpa using hc)
  · cases h

theorem up_fp {k : Nat} {o : Oper} {ρ : List AV} {g : Nat → Option (List AV)} {e : Ent} (he : EntOK P md ct all h0 k o ρ g e) {b : Nat} (hb : e.up b ≠ none) :
    quietA ct k o = false ∧ ((∃ j, j ∈ fpm all k o ∧ b = h0.next + j) ∨ b ∈ fpo ct k) := by
  unfold EntOK at he
  split at he
  · rw [he.2.2] at hb; exact absurd rfl hb
  · obtain ⟨_, he⟩ := he
    split at he
    · rw [he.2] at hb; exact absurd rfl hb
    · rename_i hq
      refine ⟨by simpa using hq, ?_⟩
      obtain ⟨x, h', h1, _, h2⟩ := stepE_some he
      rw [h2] at hb
      dsimp only at hb
      split at hb
      · rename_i hc
        simp only [Bool.or_eq_true] at hc
        rcases hc with hc | hc
        · exact fpm_of (eView_fp hc)
        · rcases stepE_live h1 rfl b hc with h3 | ⟨h3, h4⟩
          · exact fpm_of (eView_fp h3)
          · refine .inl ⟨k, ?_, h3⟩
            rcases h4 with h4 | h4
            · simp [fpm, fpn, h4]
            · simp [fpm, h4]
      · exact absurd rfl hb

theorem gS_agree {sel sel' : Nat → Bool} {g : Nat → Option (List AV)} {b : Nat} : ∀ k k', (∀ j, (T j).up b ≠ none → ((j < k ∧ sel j = true) ↔ (j < k' ∧ sel' j = true))) → gS T sel g k b = gS T sel' g k' b := by
  have gen : ∀ (sel sel' : Nat → Bool) k k', (∀ j, (T j).up b ≠ none → ((j < k ∧ sel j = true) ↔ (j < k' ∧ sel' j = true))) → k ≤ k' → gS T sel g k b = gS T sel' g k' b := by
    intro sel sel' k k' h hle
    obtain ⟨d, rfl⟩ : ∃ d, k' = k + d := ⟨k' - k, by omega⟩
    clear hle
    induction d with
    | zero =>
      simp only [Nat.add_zero] at *
      have : ∀ n, n ≤ k → gS T sel g n b = gS T sel' g n b := by
        intro n
        induction n with
        | zero => intro _; rfl
        | succ n ih =>
          intro hn
          simp only [gS]
          rw [ih (by omega)]
          cases hu : (T n).up b with
          | none => simp
          | some c =>
            have := h n (by simp [hu])
            simp only [show n < k by omega, true_and] at this
            have hs : sel n = sel' n := Bool.eq_iff_iff.2 this
            rw [hs]
      exact this k (Nat.le_refl _)
    | succ d ih =>
      rw [show k + (d + 1) = (k + d) + 1 by omega]
      simp only [gS]
      have hih := ih fun j hj => ⟨fun h1 => by
        have h2 := (h j hj).1 h1
        refine ⟨?_, h2.2⟩
        rcases Nat.lt_or_ge j (k + d) with h3 | h3
        · exact h3
        · omega, fun h1 => (h j hj).2 ⟨by omega, h1.2⟩⟩
      cases hu : (T (k + d)).up b with
      | none => simpa using hih
      | some c =>
        have hs : sel' (k + d) = false := by
          cases hs : sel' (k + d) with
          | false => rfl
          | true => have := (h (k + d) (by simp [hu])).2 ⟨by omega, hs⟩; omega
        simpa [hs] using hih
  intro k k' h
  by_cases hle : k ≤ k'
  · exact gen sel sel' k k' h hle
  · exact (gen sel' sel k' k (fun j hj => (h j hj).symm) (by omega)).symm

/-- What is known when the operations of 'sel' have run. -/
structure DS (D0 : Nat → Prop) (h00 : H) (c0 : Cx) (w0 : World) (all : Array Oper) (h0 : H) (ρ0 : List AV) (T : Nat → Ent) (sel : Nat → Bool) (a : Act) (w : World) (c : Cx) (D : Nat → Prop) : Prop where
  rel : Rel c D { next := h0.next + all.size, get := gS T sel h0.get all.size, lp := h0.lp } w
  rl : RL c w D (rhoS all T sel ρ0 all.size) a.tmps
  ext : Ext D0 h00 c0 w0 D c w { next := h0.next + all.size, get := gS T sel h0.get all.size, lp := h0.lp }
  defers : Marks w0 c w a
  dom : ∀ b, D b → D0 b ∨ (h00.next ≤ b ∧ b < h0.next) ∨ ∃ j, j < all.size ∧ sel j = true ∧ b = h0.next + j

variable {D0 : Nat → Prop} {h00 : H} {c0 : Cx} {w0 : World} {r : Option Nat} {n : Nat}

theorem draw_step (hf0 : ∀ b, h00.next ≤ b → ¬ D0 b) (h00n : h00.next ≤ h0.next) (h1 : tmpsApart all = true) (h2 : fpsApart all ct = true) (hM : ∀ b ∈ ct.M, b < h0.next) (hlive : ∀ b cs, h0.get b = some cs → b < h0.next)
    {m : Nat} (hT : ∀ k o, all[k]? = some o → k < m → EntOK P md ct all h0 k o (rhoS all T (fun _ => true) ρ0 k) (gS T (fun _ => true) h0.get k) (T k)) (hTm : ∀ k o, all[k]? = some o → m ≤ k → (T k).up = fun _ => none)
    {sel : Nat → Bool} (hsel : ∀ j o, all[j]? = some o → sel j = true → ∀ e ∈ o.after, Region.binds .any e = true → sel e.on = true) {i : Nat} {o : Oper} (ho : all[i]? = some o) (hni : sel i = false) (him : i < m)
    (hready : ∀ e ∈ o.after, Region.binds .any e = true → sel e.on = true) {a : Act} {w : World} {c : Cx} {D : Nat → Prop} (s : DS D0 h00 c0 w0 all h0 ρ0 T sel a w c D) {K : Act → World → Prop} {Q : Exit → Act → World → Prop}
    (hK : ∀ a w c D, DS D0 h00 c0 w0 all h0 ρ0 T (fun j => sel j || j == i) a w c D → K a w) : wpOpIn (Fr r) n P all Q i K a w := by
  have hil := (Array.getElem?_eq_some_iff.1 ho).1
  have hT' : ∀ j oj, all[j]? = some oj → ∀ {b : Nat}, (T j).up b ≠ none → EntOK P md ct all h0 j oj (rhoS all T (fun _ => true) ρ0 j) (gS T (fun _ => true) h0.get j) (T j) := fun j oj hj b hb => hT j oj hj (Nat.lt_of_not_le fun hle => hb (by rw [hTm j oj hj hle]))
  have hdst : dstOf all i = o.dst := by simp [dstOf, ho]
  -- who stands before i has run; who stands behind it has not
  have before : ∀ {k}, Bef all k i → sel k = true := fun {k} h => by
    have key : ∀ {k i}, Bef all k i → ∀ o, all[i]? = some o → (∀ e ∈ o.after, Region.binds .any e = true → sel e.on = true) → sel k = true := by
      intro k i h
      induction h with
      | one ho' he hb hi => intro o ho hr; rw [ho'] at ho; cases ho; rw [← hi]; exact hr _ he hb
      | step hA hB ih1 ih2 =>
        intro o ho hr
        exact bef_closed hsel hA (ih2 o ho hr)
    exact key h o ho hready
  have behind : ∀ {k}, Bef all i k → sel k = false := fun {k} h => by
    cases hs : sel k with
    | false => rfl
    | true => rw [bef_closed hsel h hs] at hni; cases hni
  have lt1 : ∀ {k j}, Bef all k j → k < j := fun h => bef_lt h1 h
  -- the slots that i looks at
  have slot : ∀ t, t ∈ o.looksAt all → (rhoS all T (fun _ => true) ρ0 i)[t]? = (rhoS all T sel ρ0 all.size)[t]? := fun t ht => by
    refine rhoS_slot _ _ (fun j hj => ?_) (fun _ => rfl)
    by_cases hji : j = i
    · subst hji; simp [hni]
    · have hjs : j < all.size := by
        unfold dstOf at hj
        cases h : all[j]? with
        | none => simp [h] at hj
        | some _ => exact (Array.getElem?_eq_some_iff.1 h).1
      rcases tmps_apart h1 hji hj ho (.inl ht) with hb | hb
      · have := lt1 hb; simp [this, before hb, hjs]
      · have := lt1 hb; simp [behind hb]; omega
  have hops : ∀ x ∈ o.op.operands, aev (rhoS all T (fun _ => true) ρ0 i) x = aev (rhoS all T sel ρ0 all.size) x := fun x hx => by
    cases x with
    | tmp t =>
      have ht : t ∈ o.looksAt all := by
        unfold Oper.looksAt
        refine List.mem_append_left _ (List.mem_filterMap.2 ⟨.tmp t, by simpa using hx, rfl⟩)
      simp only [aev, List.getD_eq_getElem?_getD, slot t ht]
    | _ => rfl
  have hlets : ∀ yes, lets all o (rhoS all T (fun _ => true) ρ0 i) yes → lets all o (rhoS all T sel ρ0 all.size) yes := fun yes h => by
    unfold lets at h ⊢
    split at h
    · exact h
    · rename_i j want hg
      obtain ⟨d, hd, h⟩ := h
      have hdl : d ∈ o.looksAt all := by
        unfold Oper.looksAt
        rw [hg]
        unfold dstOf at hd
        exact List.mem_append_right _ (by simp [hd])
      refine ⟨d, hd, ?_⟩
      simp only [List.getD_eq_getElem?_getD, ← slot d hdl]
      simpa [List.getD_eq_getElem?_getD] using h
  -- the slots behind
  have slots' : ∀ t, (rhoS all T (fun j => sel j || j == i) ρ0 all.size)[t]? = (putA (rhoS all T sel ρ0 all.size) o.dst (T i).X)[t]? := fun t => by
    by_cases hd : o.dst = some t
    · have e1 : (rhoS all T (fun j => sel j || j == i) ρ0 all.size)[t]? = (rhoS all T (fun _ => true) ρ0 (i + 1))[t]? := by
        refine rhoS_slot _ _ (fun j hj => ?_) (fun _ => rfl)
        have hjs : j < all.size := by
          unfold dstOf at hj
          cases h : all[j]? with
          | none => simp [h] at hj
          | some _ => exact (Array.getElem?_eq_some_iff.1 h).1
        by_cases hji : j = i
        · subst hji; simp [hil]
        · rcases tmps_apart h1 hji hj ho (.inr hd) with hb | hb
          · have := lt1 hb; simp [hjs, before hb]; omega
          · have := lt1 hb; simp [behind hb, hji]; omega
      rw [e1]
      simp only [rhoS, if_true, hdst, hd]
      rw [putA_get, putA_get, rhoS_len, rhoS_len]
    · have e1 : (rhoS all T (fun j => sel j || j == i) ρ0 all.size)[t]? = (rhoS all T sel ρ0 all.size)[t]? := by
        refine rhoS_slot _ _ (fun j hj => ?_) (fun _ => rfl)
        have : j ≠ i := fun e => by subst e; rw [hdst] at hj; exact hd hj
        simp [this]
      rw [e1]
      cases hod : o.dst with
      | none => rfl
      | some d => simp only [putA]; rw [List.getElem?_set_ne (fun e => hd (by rw [hod, e]))]
  have rho' : rhoS all T (fun j => sel j || j == i) ρ0 all.size = putA (rhoS all T sel ρ0 all.size) o.dst (T i).X := List.ext_getElem? slots'
  -- the heap behind
  have gS' : gS T (fun j => sel j || j == i) h0.get all.size = fun b => match (T i).up b with | some x => x | none => gS T sel h0.get all.size b := by
    funext b
    cases hu : (T i).up b with
    | none =>
      refine gS_agree _ _ fun j hj => ?_
      have : j ≠ i := fun e => by subst e; exact hj hu
      simp [this]
    | some x =>
      have hfi := up_fp (hT i o ho him) (b := b) (by simp [hu])
      have e1 : gS T (fun j => sel j || j == i) h0.get all.size b = gS T (fun _ => true) h0.get (i + 1) b := by
        refine gS_agree _ _ fun j hj => ?_
        by_cases hji : j = i
        · subst hji; simp [hil]
        · cases hjo : all[j]? with
          | none =>
            have : all.size ≤ j := Array.getElem?_eq_none_iff.1 hjo
            simp; omega
          | some oj =>
            have hjs := (Array.getElem?_eq_some_iff.1 hjo).1
            have hfj := up_fp (hT' j oj hjo hj) hj
            have hov : (∃ q, q ∈ fpm all i o ∧ q ∈ fpm all j oj) ∨ ∃ b, b ∈ fpo ct i ∧ b ∈ fpo ct j := by
              rcases hfi.2 with ⟨q1, g1, g2⟩ | g1 <;> rcases hfj.2 with ⟨q2, g3, g4⟩ | g3
              · exact .inl ⟨q1, g1, by rw [show q1 = q2 by omega]; exact g3⟩
              · have := hM b (fpo_mem h2 hjo g3); omega
              · have := hM b (fpo_mem h2 ho g1); omega
              · exact .inr ⟨b, g1, g3⟩
            rcases (fps_apart h2 (fun e => hji e.symm) ho hjo hfj.1).2 hfi.1 hov with hb | hb
            · have := lt1 hb; simp [behind hb, hji]; omega
            · have := lt1 hb; simp [hjs, before hb]; omega
      rw [e1]; simp [gS, hu]
  -- the new state
  have next : ∀ {v : Value} {w' : World} {c' : Cx} {D' : Nat → Prop}, R c' w' D' (T i).X v → Rel c' D' { next := h0.next + all.size, get := gS T (fun j => sel j || j == i) h0.get all.size, lp := h0.lp } w' →
      Ext D { next := h0.next + all.size, get := gS T sel h0.get all.size, lp := h0.lp } c w D' c' w' { next := h0.next + all.size, get := gS T (fun j => sel j || j == i) h0.get all.size, lp := h0.lp } → (∀ b, D' b → D b ∨ b = h0.next + i) → K (a.put o.dst v) w' := fun hx hr he hb => by
    refine hK _ _ _ _ ⟨hr, by rw [rho']; exact RL_put o.dst (he.list s.rel s.rl) hx, s.ext.trans he, (s.defers.step s.rel he).put _ _, fun b hD => ?_⟩
    rcases hb b hD with h3 | h3
    · rcases s.dom b h3 with h4 | h4 | ⟨j, h4, h5, h6⟩
      · exact .inl h4
      · exact .inr (.inl h4)
      · exact .inr (.inr ⟨j, h4, by simp [h5], h6⟩)
    · exact .inr (.inr ⟨i, hil, by simp, h3⟩)
  have frm : ∀ b, h0.next + all.size ≤ b → ¬ D b := fun b hb hD => by
    rcases s.dom b hD with h4 | h4 | ⟨j, h4, h5, h6⟩
    · exact hf0 b (by omega) h4
    · omega
    · omega
  have fri : ¬ D (h0.next + i) := fun hD => by
    rcases s.dom _ hD with h4 | h4 | ⟨j, h4, h5, h6⟩
    · exact hf0 _ (by omega) h4
    · omega
    · have : j = i := by omega
      subst this; rw [hni] at h5; cases h5
  have sub : ∀ {v : H}, (∀ b cs, v.get b = some cs → gS T sel h0.get all.size b = some cs) → (∀ b, v.lp b = none) → Rel c D v w := fun hv hvl =>
    ⟨fun b cs hb => s.rel.own b cs (hv b cs hb), fun b b' c1 c2 g1 g2 e => s.rel.inj b b' c1 c2 (hv _ _ g1) (hv _ _ g2) e, s.rel.sz, (fun b r hb => by rw [hvl] at hb; cases hb), (fun b b' r r' hb => by rw [hvl] at hb; cases hb)⟩
  have hent := hT i o ho him
  unfold EntOK at hent
  unfold wpOpIn
  simp only [ho]
  split at hent
  · obtain ⟨hl, hX, hup⟩ := hent
    have hw := lets_wanted (hlets _ hl) s.rl
    rw [if_neg (by simp [hw])]
    refine ⟨fun f _ => trivial, ?_⟩
    have hg : gS T (fun j => sel j || j == i) h0.get all.size = gS T sel h0.get all.size := by rw [gS']; funext b; simp [hup]
    refine next (v := undef) (c' := c) (w' := w) (D' := D) (by rw [hX]; exact .val _) (by rw [hg]; exact s.rel) (by rw [hg]; exact Ext.refl _ _ _ _) (fun b hb => .inl hb)
  · obtain ⟨hl, hent⟩ := hent
    have hw := lets_wanted (hlets _ hl) s.rl
    rw [if_pos hw]
    split at hent
    · rename_i hq
      obtain ⟨hst, hup⟩ := hent
      have hg : gS T (fun j => sel j || j == i) h0.get all.size = gS T sel h0.get all.size := by rw [gS']; funext b; simp [hup]
      have hsub : ∀ b cs, (qView ct h0 all.size i).get b = some cs → gS T sel h0.get all.size b = some cs := fun b cs hb => by
        simp only [qView] at hb
        split at hb
        · cases hb
        · rename_i hcm
          rw [← hb]
          refine (gS_agree (sel' := fun _ => true) all.size 0 fun j hj => ?_)
          have hbl := hlive b cs hb
          cases hjo : all[j]? with
          | none =>
            have : all.size ≤ j := Array.getElem?_eq_none_iff.1 hjo
            simp; omega
          | some oj =>
            have hfj := up_fp (hT' j oj hjo hj) hj
            rcases hfj.2 with ⟨q, _, g2⟩ | g1
            · omega
            · have hbM := fpo_mem h2 hjo g1
              have hsee : ct.see.contains (i, b) = true := by
                simp only [Bool.and_eq_true, Bool.not_eq_true', not_and, Bool.not_eq_false] at hcm
                exact hcm (by simpa using hbM)
              by_cases hji : j = i
              · subst hji; rw [ho] at hjo; cases hjo; rw [hq] at hfj; simp at hfj
              · have hb' := (fps_apart h2 (fun e => hji e.symm) ho hjo hfj.1).1 hq b hsee g1
                simp [behind hb']
      refine stepQ_run hst hops (sub hsub (fun _ => rfl)) frm s.rl fun v w' c' D' g1 g2 g3 g4 => ?_
      obtain ⟨k1, k2⟩ := Rel.beside s.rel hsub g2 g3 (fun b cs hb => .inr (by simp [hb])) (fun _ => rfl) (fun _ => rfl) (h0.next + all.size) (Nat.le_refl _)
      have hmg : mergeG (gS T sel h0.get all.size) (qView ct h0 all.size i) (qView ct h0 all.size i) = gS T sel h0.get all.size := by
        funext b
        unfold mergeG
        split
        · rename_i hc
          simp only [Bool.or_self, Option.isSome_iff_exists] at hc
          obtain ⟨cs, hc⟩ := hc
          rw [hc]; exact (hsub b cs hc).symm
        · rfl
      simp only [hmg] at k1 k2
      rw [← hg] at k1
      exact next g1 k1 (by rw [hg]; exact k2) (fun b hb => .inl (g4 b hb))
    · rename_i hq
      have hq' : quietA ct i o = false := by simpa using hq
      obtain ⟨x, h', hst, hxX, hup⟩ := stepE_some hent
      subst hxX
      have hagree : ∀ b, ((∃ j, j ∈ fpm all i o ∧ b = h0.next + j) ∨ b ∈ fpo ct i) → gS T (fun _ => true) h0.get i b = gS T sel h0.get all.size b := fun b hb => by
        refine gS_agree _ _ fun j hj => ?_
        by_cases hji : j = i
        · subst hji; simp [hni]
        · cases hjo : all[j]? with
          | none =>
            have : all.size ≤ j := Array.getElem?_eq_none_iff.1 hjo
            simp; omega
          | some oj =>
            have hjs := (Array.getElem?_eq_some_iff.1 hjo).1
            have hfj := up_fp (hT' j oj hjo hj) hj
            have hov : (∃ q, q ∈ fpm all i o ∧ q ∈ fpm all j oj) ∨ ∃ b, b ∈ fpo ct i ∧ b ∈ fpo ct j := by
              rcases hb with ⟨q1, g1, g2⟩ | g1 <;> rcases hfj.2 with ⟨q2, g3, g4⟩ | g3
              · exact .inl ⟨q1, g1, by rw [show q1 = q2 by omega]; exact g3⟩
              · have := hM b (fpo_mem h2 hjo g3); omega
              · have := hM b (fpo_mem h2 ho g1); omega
              · exact .inr ⟨b, g1, g3⟩
            rcases (fps_apart h2 (fun e => hji e.symm) ho hjo hfj.1).2 hq' hov with hb' | hb'
            · have := lt1 hb'; simp [behind hb']; omega
            · have := lt1 hb'; simp [this, hjs, before hb']
      have hsub : ∀ b cs, (eView all ct h0 i (h0.next + i) o (gS T (fun _ => true) h0.get i)).get b = some cs → gS T sel h0.get all.size b = some cs := fun b cs hb => by
        have hfp := eView_fp (ct := ct) (all := all) (h0 := h0) (i := i) (nx := h0.next + i) (o := o) (g := gS T (fun _ => true) h0.get i) (b := b) (by rw [hb]; rfl)
        rw [← hagree b (fpm_of hfp)]
        simp only [eView] at hb
        split at hb
        · exact hb
        · cases hb
      refine stepE_run hst hops (sub hsub (fun _ => rfl)) rfl (fun _ => rfl) (fun _ => rfl) fri frm s.rl fun v w' c' D' nx g1 g2 g3 g4 g5 g6 => ?_
      have hsub' : ∀ b cs, ({ next := nx, get := (eView all ct h0 i (h0.next + i) o (gS T (fun _ => true) h0.get i)).get, lp := fun _ => none } : H).get b = some cs → gS T sel h0.get all.size b = some cs := hsub
      obtain ⟨k1, k2⟩ := Rel.beside (v := { next := nx, get := (eView all ct h0 i (h0.next + i) o (gS T (fun _ => true) h0.get i)).get, lp := fun _ => none }) s.rel hsub' g2 g3 (fun b cs hb => by
        rcases g5 b (by simp [hb]) with h3 | ⟨h3, h4⟩
        · exact .inr h3
        · cases hg : gS T sel h0.get all.size b with
          | none => exact .inl hg
          | some cs' => exact absurd (s.rel.own b cs' hg).1 (h3 ▸ fri)) (fun _ => rfl) g6 (h0.next + all.size) (Nat.le_refl _)
      have hmg : mergeG (gS T sel h0.get all.size) { next := nx, get := (eView all ct h0 i (h0.next + i) o (gS T (fun _ => true) h0.get i)).get, lp := fun _ => none } h' = gS T (fun j => sel j || j == i) h0.get all.size := by
        rw [gS']
        funext b
        simp only [mergeG, hup]
        by_cases hc : (((eView all ct h0 i (h0.next + i) o (gS T (fun _ => true) h0.get i)).get b).isSome || (h'.get b).isSome) = true
        · rw [if_pos hc, if_pos hc]
        · rw [if_neg hc, if_neg hc]
      simp only [hmg] at k1 k2
      exact next g1 k1 k2 g4

/-- From the operation m on each one stands behind all before it. -/
def tailOK (all : Array Oper) (m : Nat) : Bool := (List.range all.size).all fun k => decide (k < m) || (List.range k).all fun j => ordA all j k
theorem tailOK_bef {all : Array Oper} {m j k : Nat} (h : tailOK all m = true) (hm : m ≤ k) (hk : k < all.size) (hj : j < k) : Bef all j k := by
  have h1 := (List.all_eq_true.1 h) k (by simpa using hk)
  rw [Bool.or_eq_true] at h1
  rcases h1 with h1 | h1
  · have : k < m := by simpa using h1
    omega
  · exact ordA_bef ((List.all_eq_true.1 h1) j (by simpa using hj))

theorem ready_prefix {k i : Nat} (h1 : tmpsApart all = true) {listed : Array Bool} (hp : ∀ j, j < all.size → listed.getD j false = decide (j < k)) {o : Oper} (ho : all[i]? = some o) (hready : ∀ e ∈ o.after, Region.binds .any e = true → listed.getD e.on false = true) {j : Nat} (hb : Bef all j i) : j < k := by
  have key : ∀ {j i}, Bef all j i → i < all.size → (∀ o, all[i]? = some o → ∀ e ∈ o.after, Region.binds .any e = true → listed.getD e.on false = true) → j < k := by
    intro j i h
    induction h with
    | one ho' he hb hi =>
      intro hil hr
      have h3 := hr _ ho' _ he hb
      rw [hi] at h3
      have hj := bef_lt h1 (.one ho' he hb hi)
      rw [hp _ (by omega)] at h3
      simpa using h3
    | step hA hB ih1 ih2 =>
      intro hil hr
      have := ih2 hil hr
      have := bef_lt h1 hA
      omega
  exact key hb (Array.getElem?_eq_some_iff.1 ho).1 (fun o' ho' => by rw [ho] at ho'; cases ho'; exact hready)

theorem tail_any {m : Nat} (h1 : tmpsApart all = true) (htl : tailOK all m = true) {Q : Exit → Act → World → Prop} : ∀ (len k fuel : Nat) (listed : Array Bool) (a : Act) (w : World), k + len = all.size → m ≤ k → listed.size = all.size → (∀ j, j < all.size → listed.getD j false = decide (j < k)) → len ≤ fuel →
    wpOpsIn (Fr r) n P all Q (List.range' k len) a w → wpAnyIn (Fr r) n P .any all Q fuel listed a w := by
  intro len
  induction len with
  | zero =>
    intro k fuel listed a w hk hm hsz hp hf hv
    have hr : Region.ready .any all listed = [] := by
      cases hrr : Region.ready .any all listed with
      | nil => rfl
      | cons j l =>
        have : j ∈ Region.ready .any all listed := by rw [hrr]; simp
        obtain ⟨q1, o, q2, _⟩ := mem_ready.1 this
        have hj := (Array.getElem?_eq_some_iff.1 q2).1
        have h3 := hp j hj
        have hjl : j < listed.size := by omega
        simp [Array.getD, hjl] at h3 q1
        rw [h3] at q1
        have : j < k := by omega
        simp [this] at q1
    cases fuel with
    | zero => exact ⟨hr, hv⟩
    | succ fuel => exact ⟨fun _ => hv, fun i hi => (by rw [hr] at hi; cases hi)⟩
  | succ len ih =>
    intro k fuel listed a w hk hm hsz hp hf hv
    cases fuel with
    | zero => omega
    | succ fuel =>
      have hkl : k < all.size := by omega
      have hkr : k ∈ Region.ready .any all listed := mem_ready.2 ⟨by
        have h3 := hp k hkl
        have hkl' : k < listed.size := by omega
        simp [Array.getD, hkl'] at h3
        simp [h3, hkl'], all[k], Array.getElem?_eq_getElem hkl, fun e he hb => by
          have hlt : e.on < k := bef_lt h1 (.one (Array.getElem?_eq_getElem hkl) he hb rfl)
          rw [hp _ (by omega)]; simpa using hlt⟩
      refine ⟨fun hr => (by rw [hr] at hkr; cases hkr), fun i hi => ?_⟩
      obtain ⟨q1, o, ho, hready⟩ := mem_ready.1 hi
      have hil := (Array.getElem?_eq_some_iff.1 ho).1
      have hil' : i < listed.size := by omega
      have hni : listed.getD i false = false := by simpa [Array.getD, hil'] using q1
      have hik : i = k := by
        rw [hp i hil] at hni
        have hge : k ≤ i := by simpa using hni
        rcases Nat.lt_or_eq_of_le hge with hlt | he
        · have := ready_prefix h1 hp ho hready (tailOK_bef htl (by omega) hil hlt)
          omega
        · exact he.symm
      subst hik
      rw [List.range'_succ, wpOpsIn_cons] at hv
      refine wpOpIn_mono (fun a w hv => ih (i + 1) fuel _ a w (by omega) (by omega) (by simp [hsz]) (fun j hj => ?_) (by omega) hv) hv
      by_cases hji : i = j
      · subst hji; simp [Array.getD, hil']
      · rw [getD_set_ne false hji, hp j hj]
        by_cases h3 : j < i
        · simp [h3]; omega
        · have : ¬ j < i + 1 := by omega
          simp [h3, this]

/-- EVERY ORDER. -/
theorem draw_any (hf0 : ∀ b, h00.next ≤ b → ¬ D0 b) (h00n : h00.next ≤ h0.next) (h1 : tmpsApart all = true) (h2 : fpsApart all ct = true) (hM : ∀ b ∈ ct.M, b < h0.next) (hlive : ∀ b cs, h0.get b = some cs → b < h0.next) {m : Nat} (hms : m ≤ all.size) (htl : tailOK all m = true)
    (hT : ∀ k o, all[k]? = some o → k < m → EntOK P md ct all h0 k o (rhoS all T (fun _ => true) ρ0 k) (gS T (fun _ => true) h0.get k) (T k)) (hTm : ∀ k o, all[k]? = some o → m ≤ k → (T k).up = fun _ => none) {Q : Exit → Act → World → Prop}
    (hQ : ∀ a w c D, DS D0 h00 c0 w0 all h0 ρ0 T (fun j => decide (j < m)) a w c D → wpOpsIn (Fr r) n P all Q (List.range' m (all.size - m)) a w) :
    ∀ (fuel : Nat) (listed : Array Bool), listed.size = all.size → ((List.range all.size).filter fun j => !listed.getD j false).length ≤ fuel → (∀ j o, all[j]? = some o → listed.getD j false = true → ∀ e ∈ o.after, Region.binds .any e = true → listed.getD e.on false = true) → (∀ j, m ≤ j → listed.getD j false = false) →
      ∀ (a : Act) (w : World) (c : Cx) (D : Nat → Prop), DS D0 h00 c0 w0 all h0 ρ0 T (fun j => listed.getD j false) a w c D → wpAnyIn (Fr r) n P .any all Q fuel listed a w := by
  have fin : ∀ (listed : Array Bool), listed.size = all.size → (∀ j, j < m → listed.getD j false = true) → (∀ j, m ≤ j → listed.getD j false = false) → ∀ a w c D, DS D0 h00 c0 w0 all h0 ρ0 T (fun j => listed.getD j false) a w c D → wpOpsIn (Fr r) n P all Q (List.range' m (all.size - m)) a w := fun listed hsz hall hno a w c D s => by
    have e : (fun j => listed.getD j false) = fun j => decide (j < m) := funext fun j => by
      by_cases hj : j < m
      · simp [hall j hj, hj]
      · rw [hno j (by omega)]; simp [hj]
    rw [e] at s
    exact hQ a w c D s
  -- where one of the tail is ready, all before the tail has run
  have front : ∀ (listed : Array Bool), listed.size = all.size → (∀ j o, all[j]? = some o → listed.getD j false = true → ∀ e ∈ o.after, Region.binds .any e = true → listed.getD e.on false = true) → (∀ j, m ≤ j → listed.getD j false = false) →
      ∀ i o, all[i]? = some o → m ≤ i → (∀ e ∈ o.after, Region.binds .any e = true → listed.getD e.on false = true) → i = m ∧ ∀ j, j < m → listed.getD j false = true := fun listed hsz hcl hno i o ho hmi hready => by
    have hil := (Array.getElem?_eq_some_iff.1 ho).1
    have before : ∀ {k}, Bef all k i → listed.getD k false = true := fun {k} h => by
      have key : ∀ {k i}, Bef all k i → (∀ o, all[i]? = some o → ∀ e ∈ o.after, Region.binds .any e = true → listed.getD e.on false = true) → listed.getD k false = true := by
        intro k i h
        induction h with
        | one ho' he hb hi => intro hr; rw [← hi]; exact hr _ ho' _ he hb
        | step hA hB ih1 ih2 =>
          intro hr
          have hx := ih2 hr
          exact ih1 (fun o ho e he hb => hcl _ o ho hx e he hb)
      exact key h (fun o' ho' => by rw [ho] at ho'; cases ho'; exact hready)
    have him : i = m := by
      rcases Nat.lt_or_eq_of_le hmi with hlt | he
      · have := before (tailOK_bef htl hmi hil hlt)
        rw [hno m (Nat.le_refl _)] at this; cases this
      · exact he.symm
    exact ⟨him, fun j hj => before (tailOK_bef htl hmi hil (by omega))⟩
  have go : ∀ (fuel : Nat) (listed : Array Bool), listed.size = all.size → (∀ j, j < m → listed.getD j false = true) → (∀ j, m ≤ j → listed.getD j false = false) → all.size - m ≤ fuel → ∀ a w c D, DS D0 h00 c0 w0 all h0 ρ0 T (fun j => listed.getD j false) a w c D → wpAnyIn (Fr r) n P .any all Q fuel listed a w := fun fuel listed hsz hall hno hfu a w c D s =>
    tail_any h1 htl (all.size - m) m fuel listed a w (by omega) (Nat.le_refl _) hsz (fun j hj => by
      by_cases hj : j < m
      · simp [hall j hj, hj]
      · rw [hno j (by omega)]; simp [hj]) hfu (fin listed hsz hall hno a w c D s)
  have many : ∀ (listed : Array Bool), (∀ j, m ≤ j → listed.getD j false = false) → all.size - m ≤ ((List.range all.size).filter fun j => !listed.getD j false).length := fun listed hno => by
    have key : ∀ (len k : Nat), k + len = all.size → m ≤ k → len ≤ ((List.range' k len).filter fun j => !listed.getD j false).length := by
      intro len
      induction len with
      | zero => intro k _ _; exact Nat.zero_le _
      | succ len ih =>
        intro k hk hm
        rw [List.range'_succ, List.filter_cons, if_pos (by simp only [Bool.not_eq_true']; exact hno k hm), List.length_cons]
        have := ih (k + 1) (by omega) (by omega)
        omega
    have e : List.range all.size = List.range' 0 m ++ List.range' m (all.size - m) := by
      rw [List.range_eq_range']
      have := List.range'_append (s := 0) (m := m) (n := all.size - m) (step := 1)
      simp only [Nat.one_mul, Nat.zero_add] at this
      rw [this]; congr 1; omega
    rw [e, List.filter_append, List.length_append]
    have := key (all.size - m) m (by omega) (Nat.le_refl _)
    omega
  intro fuel
  induction fuel with
  | zero =>
    intro listed hsz hcount hcl hno a w c D s
    have hm0 := many listed hno
    have hnone : ∀ j, j < m → listed.getD j false = true := fun j hj => by
      cases hlj : listed.getD j false with
      | true => rfl
      | false =>
        exfalso
        have : j ∈ (List.range all.size).filter fun j => !listed.getD j false := by
          simp only [List.mem_filter, List.mem_range, Bool.not_eq_true']
          exact ⟨by omega, hlj⟩
        have hl := List.length_pos_of_mem this
        omega
    exact go 0 listed hsz hnone hno (by omega) a w c D s
  | succ fuel ih =>
    intro listed hsz hcount hcl hno a w c D s
    by_cases hall : ∀ j, j < m → listed.getD j false = true
    · exact go (fuel + 1) listed hsz hall hno (Nat.le_trans (many listed hno) hcount) a w c D s
    · refine ⟨fun hr => ?_, fun i hi => ?_⟩
      · exfalso
        refine hall fun j => ?_
        induction j using Nat.strongRecOn with
        | _ j ihj =>
          intro hj
          cases hlj : listed.getD j false with
          | true => rfl
          | false =>
            exfalso
            have hjs : j < all.size := by omega
            have hjl : j < listed.size := by omega
            have : j ∈ Region.ready .any all listed := mem_ready.2 ⟨by simpa [Array.getD, hjl] using hlj, all[j], Array.getElem?_eq_getElem hjs, fun e he hb => by
              have hlt : e.on < j := bef_lt h1 (.one (Array.getElem?_eq_getElem hjs) he hb rfl)
              exact ihj e.on hlt (by omega)⟩
            rw [hr] at this; cases this
      · obtain ⟨q1, o, ho, hready⟩ := mem_ready.1 hi
        have hil := (Array.getElem?_eq_some_iff.1 ho).1
        have hil' : i < listed.size := by omega
        have hni : listed.getD i false = false := by simpa [Array.getD, hil'] using q1
        have hset : ∀ j, (listed.setIfInBounds i true).getD j false = (listed.getD j false || j == i) := fun j => by
          by_cases hji : i = j
          · subst hji; simp [Array.getD, hil']
          · have hne : (j == i) = false := by simpa using fun e => hji e.symm
            rw [getD_set_ne false hji, hne, Bool.or_false]
        have him : i < m := Nat.lt_of_not_le fun hle => hall (front listed hsz hcl hno i o ho hle hready).2
        refine draw_step (r := r) (n := n) hf0 h00n h1 h2 hM hlive hT hTm hcl ho hni him hready s fun a w c D s' => ih (listed.setIfInBounds i true) (by simp [hsz]) ?_ (fun j oj hj hlj e he hb => ?_) (fun j hj => ?_) a w c D ?_
        · have hmem : i ∈ (List.range all.size).filter fun j => !listed.getD j false := by
            simp only [List.mem_filter, List.mem_range, Bool.not_eq_true']
            exact ⟨hil, hni⟩
          have hsub : (List.range all.size).filter (fun j => !(listed.setIfInBounds i true).getD j false) = ((List.range all.size).filter fun j => !listed.getD j false).filter (fun j => j != i) := by
            rw [List.filter_filter]
            apply List.filter_congr
            intro j _
            rw [hset]
            cases listed.getD j false <;> simp [bne]
          rw [hsub]
          have hlt : (((List.range all.size).filter fun j => !listed.getD j false).filter (fun j => j != i)).length < ((List.range all.size).filter fun j => !listed.getD j false).length := by
            refine List.length_filter_lt_length_iff_exists.2 ⟨i, hmem, by simp⟩
          omega
        · rw [hset] at hlj ⊢
          by_cases hji : j = i
          · subst hji; rw [ho] at hj; cases hj
            simp [hready e he hb]
          · have : listed.getD j false = true := by simpa [hji] using hlj
            simp [hcl j oj hj this e he hb]
        · rw [hset, hno j hj]
          have : (j == i) = false := by simp; omega
          simp [this]
        · have : (fun j => (listed.setIfInBounds i true).getD j false) = fun j => listed.getD j false || j == i := funext hset
          rw [this]; exact s'

end

/-- A STATEMENT WHOSE ORDER IS OPEN, but for its last operations: these run behind all others, one after another. -/
theorem draw_soundT {P : Program} {md : Oper → Bool} {ct : Cert} {all : Array Oper} {D0 : Nat → Prop} {h00 : H} {c0 : Cx} {w0 : World} {r : Option Nat} {n id : Nat} (hf0 : ∀ b, h00.next ≤ b → ¬ D0 b) (hm : P.follows .mixedOrders = true) (h1 : tmpsApart all = true) (h2 : fpsApart all ct = true)
    {Q : Exit → List AV → H → Prop} {ρ : List AV} {h : H} {a : Act} {w : World} {c : Cx} {D : Nat → Prop} (hM : ∀ b ∈ ct.M, b < h.next) {m : Nat} (hms : m ≤ all.size) (htl : tailOK all m = true) (hv : vcDr P md ct all h (fun ρ h => vcOps P md all (Q .normal) (all.toList.drop m) ρ h) (all.toList.take m) 0 ρ h.get) (s : St D0 h00 c0 w0 ρ h a w c D) :
    (Code.region id all true).wpIn (Fr r) n P (Post D0 h00 c0 w0 Q) a w := by
  have hlive : ∀ b cs, h.get b = some cs → b < h.next := fun b cs hb => by
    have hD := (s.rel.own b cs hb).1
    have hn := s.ext.next
    rcases s.dom b hD with h3 | h3
    · rcases Nat.lt_or_ge b h.next with h4 | h4
      · exact h4
      · exact absurd h3 (hf0 b (by omega))
    · exact h3.2
  obtain ⟨T, hT, hTm, hQ⟩ := vcDr_traceT (ρ0 := ρ) (m := m) hms (all.toList.take m) 0 (fun _ => { sk := true, X := .val undef, up := fun _ => none }) (fun j hj => by rw [List.length_take] at hj; rw [List.getElem?_take, if_pos (by omega)]; simp) (by simp; omega) (fun k o hk => absurd hk (Nat.not_lt_zero _)) (fun _ _ => rfl) hv
  refine wpIn_region_any hm ?_
  have hrhoF : ∀ k, rhoS all T (fun _ => false) ρ k = ρ := fun k => by induction k with | zero => rfl | succ k ih => simp [rhoS, ih]
  have hgF : ∀ k, gS T (fun _ => false) h.get k = h.get := fun k => by induction k with | zero => funext b; rfl | succ k ih => funext b; simp [gS, ih]
  have hrep : (fun j => (Array.replicate all.size false).getD j false) = fun _ => false := funext fun j => by simp [Array.getD]
  have hdrew : Rel c D { next := h.next + all.size, get := h.get, lp := h.lp } { w with drawn := w.drawn + 1 } := ⟨fun b cs hb => by
    obtain ⟨q1, q2, C, e, q3, q4, q5⟩ := s.rel.own b cs hb
    exact ⟨q1, q2, C, e, q3, q4, fun j x u e1 e2 => (q5 j x u e1 e2).mono (fun _ h => h) (fun _ _ => rfl) (fun _ _ => rfl) (fun _ h => h) (fun _ C _ h => ⟨C, h, rfl⟩)⟩, s.rel.inj, s.rel.sz, s.rel.lps_keep (fun _ h => h) (fun _ _ => rfl) (fun _ _ => rfl) (fun _ h => h) (fun _ C _ h => ⟨C, h, rfl⟩) (fun _ _ _ => rfl) (fun _ _ _ h => h), s.rel.linj⟩
  refine draw_any (r := r) (n := n) (c0 := c0) (w0 := w0) hf0 s.ext.next h1 h2 hM hlive hms htl hT (fun k o _ hk => hTm k hk) (Q := Post D0 h00 c0 w0 Q) (fun a w c D s' => ?_) all.size (Array.replicate all.size false) (by simp) ?_ (fun j o _ hlj => by simp [Array.getD] at hlj) (fun j _ => by simp [Array.getD]) a _ c D ?_
  · have e1 : rhoS all T (fun j => decide (j < m)) ρ all.size = rhoS all T (fun _ => true) ρ m := List.ext_getElem? fun t => rhoS_slot _ _ (fun j hj => by
        constructor
        · intro h; exact ⟨by simpa using h.2, rfl⟩
        · intro h; exact ⟨by omega, by simpa using h.1⟩) (fun _ => rfl)
    have e2 : gS T (fun j => decide (j < m)) h.get all.size = gS T (fun _ => true) h.get m := funext fun b => gS_agree _ _ fun j hj => by
        constructor
        · intro h; exact ⟨by simpa using h.2, rfl⟩
        · intro h; exact ⟨by omega, by simpa using h.1⟩
    have hn := s.ext.next
    have := ops_sound (r := r) (n := n) (h0 := h00) (Q := Q) hf0 (all.toList.drop m) m _ _ a w c D (fun j => by rw [List.getElem?_drop]; simp) hQ ⟨by rw [← e2]; exact s'.rel, by rw [← e1]; exact s'.rl, by rw [← e2]; exact s'.ext, s'.defers, fun b hb => by
      rcases s'.dom b hb with h4 | h4 | ⟨j, h4, h5, h6⟩
      · exact .inl h4
      · exact .inr ⟨h4.1, by simp only; omega⟩
      · exact .inr ⟨by omega, by simp only; omega⟩⟩
    rw [List.length_drop, Array.length_toList] at this
    exact this
  · have := List.length_filter_le (fun j => !(Array.replicate all.size false).getD j false) (List.range all.size)
    simpa using this
  · rw [hrep]
    refine ⟨by rw [hgF]; exact hdrew, by rw [hrhoF]; exact s.rl.mono (fun _ h => h) (fun _ _ => rfl) (fun _ _ => rfl) (fun _ h => h) (fun _ C _ h => ⟨C, h, rfl⟩), ?_, s.defers, fun b hb => ?_⟩
    · rw [hgF]
      exact ⟨s.ext.S, s.ext.newS, s.ext.φ, s.ext.dom, Nat.le_trans s.ext.next (Nat.le_add_right _ _), s.ext.os, s.ext.tape, s.ext.output, s.ext.size, s.ext.frame, s.ext.shp, s.ext.origin, s.ext.lorigin, s.ext.fz⟩
    · rcases s.dom b hb with h4 | h4
      · exact .inl h4
      · exact .inr (.inl h4)

/-- A STATEMENT WHOSE ORDER IS OPEN. -/
theorem draw_sound {P : Program} {md : Oper → Bool} {ct : Cert} {all : Array Oper} {D0 : Nat → Prop} {h00 : H} {c0 : Cx} {w0 : World} {r : Option Nat} {n id : Nat} (hf0 : ∀ b, h00.next ≤ b → ¬ D0 b) (hm : P.follows .mixedOrders = true) (h1 : tmpsApart all = true) (h2 : fpsApart all ct = true)
    {Q : Exit → List AV → H → Prop} {ρ : List AV} {h : H} {a : Act} {w : World} {c : Cx} {D : Nat → Prop} (hM : ∀ b ∈ ct.M, b < h.next) (hv : vcDr P md ct all h (Q .normal) all.toList 0 ρ h.get) (s : St D0 h00 c0 w0 ρ h a w c D) :
    (Code.region id all true).wpIn (Fr r) n P (Post D0 h00 c0 w0 Q) a w := by
  refine draw_soundT (md := md) (m := all.size) hf0 hm h1 h2 hM (Nat.le_refl _) (List.all_eq_true.2 fun k hk => by rw [Bool.or_eq_true]; exact .inl (by simpa using hk)) ?_ s
  rw [show all.toList.take all.size = all.toList from List.take_of_length_le (by simp), show all.toList.drop all.size = [] from List.drop_of_length_le (by simp)]
  exact hv

end Go.Pe

/- Loops over functions: what becomes of the heap when one is opened, and when its state turns. -/
namespace Go.Pe
open Go

/-- A loop is opened. -/
def H.opn (h : H) (ρ : List AV) (ps : Array Tmp) (assign body : Code) : H :=
  { next := h.next + 1, get := h.get, lp := fun q => if q = h.next then some { ρ := ρ, ps := ps, assign := assign, body := body, st := .ready, pend := none } else h.lp q }
/-- A loop's state turns, or it is gone. -/
def H.lset (h : H) (b : Nat) (r : Option Lp) : H := { next := h.next, get := h.get, lp := fun q => if q = b then r else h.lp q }

theorem opn_ok {D : Nat → Prop} {h : H} {c : Cx} {w w1 : World} {ρ : List AV} {tmps : Array Value} {ps : Array Tmp} {assign body : Code} {loc fn dd : Nat} (hr : Rel c D h w) (hfr : ¬ D h.next) (hloc : w.heap.size ≤ loc)
    (hold : ∀ k, k < w.heap.size → w1.heap[k]? = w.heap[k]?) (hsz : w.heap.size ≤ w1.heap.size) (hos : w1.os = w.os) (htape : w1.tape = w.tape) (hout : w1.output = w.output) (hfz : ∀ a, w1.frozen? a = w.frozen? a)
    (hrec : w1.heap[loc]? = some (.loop { state := .ready, pending := none, fn := fn, tmps := tmps, params := ps, assign := assign, body := body, defers := dd })) (hρ : RL c w D ρ tmps) :
    Rel (c.bind h.next loc) (addId D h.next) (h.opn ρ ps assign body) w1 ∧ Ext D h c w (addId D h.next) (c.bind h.next loc) w1 (h.opn ρ ps assign body) := by
  have hφ : ∀ b, D b → (c.bind h.next loc).φ b = c.φ b := fun b hb => by simp [Cx.bind]; intro e; exact absurd (e ▸ hb) hfr
  have hshp : ∀ (k : Nat) (C : Array Value) (e : TypeId), w.heap[k]? = some (.cells C e (0, 0)) → ∃ C', w1.heap[k]? = some (.cells C' e (0, 0)) ∧ C'.size = C.size := fun k C e hk => ⟨C, (hold k (Array.getElem?_eq_some_iff.1 hk).1).trans hk, rfl⟩
  have hfix : ∀ k, c.S k → w1.heap[k]? = w.heap[k]? := fun k hk => hold k (hr.sz k hk)
  have hup : ∀ {x : AV} {v : Value}, R c w D x v → R (c.bind h.next loc) w1 (addId D h.next) x v := fun hx => hx.mono (fun _ h => h) hfix hφ (fun _ hb => .inl hb) hshp
  have hnew : (c.bind h.next loc).φ h.next = loc := by simp [Cx.bind]
  have hkeep := hr.lps_keep (c' := c.bind h.next loc) (w' := w1) (D' := addId D h.next) (fun _ h => h) hfix hφ (fun _ hb => .inl hb) hshp (fun b r hb => hold _ (hr.lp_lt hb)) (fun _ _ _ h => h)
  have hold' : ∀ b, D b → b ≠ h.next := fun b hb e => hfr (e ▸ hb)
  constructor
  · refine ⟨fun b cs hb => ?_, fun b b' c1 c2 h1 h2 he => ?_, fun k hk => Nat.lt_of_lt_of_le (hr.sz k hk) hsz, fun b r hb => ?_, fun b b' r r' h1 h2 he => ?_⟩
    · obtain ⟨q1, q2, C, e, q3, q4, q5⟩ := hr.own b cs hb
      have hlt := (Array.getElem?_eq_some_iff.1 q3).1
      rw [hφ b q1]
      exact ⟨.inl q1, q2, C, e, by rw [hold _ hlt]; exact q3, q4, fun j x v g1 g2 => hup (q5 j x v g1 g2)⟩
    · rw [hφ b (hr.own b c1 h1).1, hφ b' (hr.own b' c2 h2).1] at he
      exact hr.inj b b' c1 c2 h1 h2 he
    · simp only [H.opn] at hb
      split at hb
      · rename_i hbe
        cases hb
        subst hbe
        refine ⟨.inr rfl, fun hS => ?_, fn, tmps, dd, by rw [hnew]; exact hrec, hρ.1, fun i x v h1 h2 => hup (hρ.2 i x v h1 h2)⟩
        rw [hnew] at hS
        have := hr.sz _ hS; omega
      · exact hkeep b r hb
    · have cross : ∀ b r, h.lp b = some r → (c.bind h.next loc).φ b ≠ loc := fun b r hb he => by
        rw [hφ b (hr.lps b r hb).1] at he
        have := hr.lp_lt hb; omega
      simp only [H.opn] at h1 h2
      split at h1 <;> split at h2
      · omega
      · rename_i e1 e2; rw [e1, hnew] at he; exact (cross _ _ h2 he.symm).elim
      · rename_i e1 e2; rw [e2, hnew] at he; exact (cross _ _ h1 he).elim
      · exact hr.linj_keep hφ b b' r r' h1 h2 he
  · refine ⟨fun _ h => h, fun _ h => .inl h, hφ, fun _ hb => .inl hb, Nat.le_succ _, hos, htape, hout, hsz, fun k hk _ _ => hold k hk, hshp, fun b cs hb => .inl ⟨b, cs, hb, (hφ b (hr.own b cs hb).1).symm⟩, fun b r hb => ?_, hfz⟩
    simp only [H.opn] at hb
    split at hb
    · rename_i hbe; subst hbe; exact .inr (by rw [hnew]; exact hloc)
    · exact .inl ⟨b, r, hb, (hφ b (hr.lps b r hb).1).symm⟩

theorem lset_ok {D : Nat → Prop} {h : H} {c : Cx} {w : World} {b : Nat} {r0 : Lp} {rec : Loop} (hr : Rel c D h w) (hb : h.lp b = some r0) (r' : Option Lp)
    (hfit : ∀ r, r' = some r → rec.state = r.st ∧ rec.pending = r.pend ∧ rec.params = r.ps ∧ rec.assign = r.assign ∧ rec.body = r.body ∧ RL c w D r.ρ rec.tmps) :
    Rel c D (h.lset b r') (w.putObj (c.φ b) (.loop rec)) ∧ Ext D h c w D c (w.putObj (c.φ b) (.loop rec)) (h.lset b r') := by
  obtain ⟨hD, hbS, fn, tmps, dd, hblk, _⟩ := hr.lps b r0 hb
  have hlt := (Array.getElem?_eq_some_iff.1 hblk).1
  have hold : ∀ k, k ≠ c.φ b → (w.putObj (c.φ b) (.loop rec)).heap[k]? = w.heap[k]? := fun k hk => World.putObj_heap_other hk
  have hfix : ∀ k, c.S k → (w.putObj (c.φ b) (.loop rec)).heap[k]? = w.heap[k]? := fun k hk => hold k (fun e => hbS (e ▸ hk))
  have hshp : ∀ (k : Nat) (C : Array Value) (e : TypeId), w.heap[k]? = some (.cells C e (0, 0)) → ∃ C', (w.putObj (c.φ b) (.loop rec)).heap[k]? = some (.cells C' e (0, 0)) ∧ C'.size = C.size := fun k C e hk =>
    ⟨C, by rw [hold k (fun he => by rw [he, hblk] at hk; cases hk)]; exact hk, rfl⟩
  have hup : ∀ {x : AV} {v : Value}, R c w D x v → R c (w.putObj (c.φ b) (.loop rec)) D x v := fun hx => hx.mono (fun _ h => h) hfix (fun _ _ => rfl) (fun _ hb => hb) hshp
  constructor
  · refine ⟨fun q cs hq => ?_, hr.inj, fun k hk => by rw [World.putObj_size]; exact hr.sz k hk, fun q r hq => ?_, fun q q' s s' h1 h2 he => ?_⟩
    · obtain ⟨q1, q2, C, e, q3, q4, q5⟩ := hr.own q cs hq
      exact ⟨q1, q2, C, e, by rw [hold _ (fun he => by rw [he, hblk] at q3; cases q3)]; exact q3, q4, fun j x v g1 g2 => hup (q5 j x v g1 g2)⟩
    · simp only [H.lset] at hq
      split at hq
      · rename_i hqb
        subst hqb
        obtain ⟨f1, f2, f3, f4, f5, f6⟩ := hfit r hq
        refine ⟨hD, hbS, rec.fn, rec.tmps, rec.defers, ?_, f6.1, fun i x v h1 h2 => hup (f6.2 i x v h1 h2)⟩
        rw [World.putObj_heap_same hlt, ← f1, ← f2, ← f3, ← f4, ← f5]
      · rename_i hqb
        obtain ⟨q1, q2, fn', tmps', dd', q3, q4⟩ := hr.lps q r hq
        have hne : c.φ q ≠ c.φ b := fun he => hqb (hr.linj q b r r0 hq hb he)
        exact ⟨q1, q2, fn', tmps', dd', by rw [hold _ hne]; exact q3, q4.1, fun i x v h1 h2 => hup (q4.2 i x v h1 h2)⟩
    · have old : ∀ q r, (h.lset b r').lp q = some r → ∃ r, h.lp q = some r := fun q r hq => by
        simp only [H.lset] at hq
        split at hq
        · rename_i hqb; subst hqb; exact ⟨r0, hb⟩
        · exact ⟨r, hq⟩
      obtain ⟨_, g1⟩ := old q _ h1
      obtain ⟨_, g2⟩ := old q' _ h2
      exact hr.linj q q' _ _ g1 g2 he
  · refine ⟨fun _ h => h, fun _ h => .inl h, fun _ _ => rfl, fun _ hb => hb, Nat.le_refl _, rfl, rfl, rfl, by rw [World.putObj_size]; exact Nat.le_refl _, fun k hk _ hnl => hold k (fun e => hnl b r0 hb e.symm), hshp, fun q cs hq => .inl ⟨q, cs, hq, rfl⟩, fun q r hq => ?_, fun a => ?_⟩
    rotate_left
    · unfold World.frozen?
      by_cases ha : a.block = c.φ b
      · rw [ha, World.putObj_heap_same hlt, hblk]
      · rw [hold _ ha]
    simp only [H.lset] at hq
    split at hq
    · rename_i hqb; subst hqb; exact .inl ⟨q, r0, hb, rfl⟩
    · exact .inl ⟨q, r, hq, rfl⟩

/-- The marks are shut. -/
def shutAll (ms : List Nat) (w : World) : World := ms.foldl (fun w d => w.putObj d (.deferred none)) w

theorem shutAll_other : ∀ (ms : List Nat) (w : World), (shutAll ms w).heap.size = w.heap.size ∧ (shutAll ms w).os = w.os ∧ (shutAll ms w).tape = w.tape ∧ (shutAll ms w).output = w.output ∧ ∀ k, k ∉ ms → (shutAll ms w).heap[k]? = w.heap[k]?
  | [], w => ⟨rfl, rfl, rfl, rfl, fun _ _ => rfl⟩
  | d :: ms, w => by
    obtain ⟨h1, h2, h3, h4, h5⟩ := shutAll_other ms (w.putObj d (.deferred none))
    refine ⟨h1.trans World.putObj_size, h2, h3, h4, fun k hk => ?_⟩
    simp only [List.mem_cons, not_or] at hk
    exact (h5 k hk.2).trans (World.putObj_heap_other hk.1)

theorem leaves_marks {F : Fence} {n : Nat} {P : Program} {fn : Func} {tmps : Array Value} {R : Ending → World → Prop} : ∀ (ms : List Nat) (w : World), ms.Nodup → (∀ d ∈ ms, w.heap[d]? = some (.deferred (some []))) →
    (∃ v, (results fn tmps).run P (shutAll ms w) = .ok v (shutAll ms w) ∧ R (.returned v) (shutAll ms w)) → LeavesInM F n P fn tmps R (ms.map (fun d => { target := .collected d, args := #[] })) .returning w
  | [], w, _, _, h => h
  | d :: ms, w, hn, hd, h => by
    rw [List.nodup_cons] at hn
    refine ⟨by simp, .inl ⟨d, _, rfl, run_takeDeferred (hd d (by simp)), leaves_marks ms _ hn.2 (fun q hq => ?_) h⟩⟩
    rw [World.putObj_heap_other (fun e => hn.1 (by rw [← e]; exact hq))]
    exact hd q (by simp [hq])

section
variable {D0 : Nat → Prop} {h0 : H} {c0 : Cx} {w0 : World} {ρ : List AV} {h : H} {a : Act} {w : World} {c : Cx} {D : Nat → Prop}
/-- What is known holds when the marks are shut. -/
theorem St.shut (s : St D0 h0 c0 w0 ρ h a w c D) : ∃ ms : List Nat, a.defers = ms.map (fun d => { target := .collected d, args := #[] }) ∧ ms.Nodup ∧ (∀ d ∈ ms, w.heap[d]? = some (.deferred (some []))) ∧
    Rel c D h (shutAll ms w) ∧ RL c (shutAll ms w) D ρ a.tmps ∧ Ext D0 h0 c0 w0 D c (shutAll ms w) h := by
  obtain ⟨ms, h1, h2, h3⟩ := s.defers
  obtain ⟨g1, g2, g3, g4, g5⟩ := shutAll_other ms w
  have hno : ∀ k, (w.heap[k]? = some (Obj.deferred (some [])) → False) → (shutAll ms w).heap[k]? = w.heap[k]? := fun k hk => g5 k fun hm => hk (h3 k hm).2.2
  have hfix : ∀ k, c.S k → (shutAll ms w).heap[k]? = w.heap[k]? := fun k hk => g5 k fun hm => (h3 k hm).2.1 hk
  have hshp : ∀ (k : Nat) (C : Array Value) (e : TypeId), w.heap[k]? = some (.cells C e (0, 0)) → ∃ C', (shutAll ms w).heap[k]? = some (.cells C' e (0, 0)) ∧ C'.size = C.size := fun k C e hk =>
    ⟨C, by rw [hno k (fun he => by rw [he] at hk; cases hk)]; exact hk, rfl⟩
  have hup : ∀ {x : AV} {v : Value}, R c w D x v → R c (shutAll ms w) D x v := fun hx => hx.mono (fun _ h => h) hfix (fun _ _ => rfl) (fun _ hb => hb) hshp
  have hl : ∀ b r, h.lp b = some r → (shutAll ms w).heap[c.φ b]? = w.heap[c.φ b]? := fun b r hb => by
    obtain ⟨_, _, fn, tmps, dd, q3, _⟩ := s.rel.lps b r hb
    exact hno _ (fun he => by rw [he] at q3; cases q3)
  refine ⟨ms, h1, h2, fun d hd => (h3 d hd).2.2, ⟨fun b cs hb => ?_, s.rel.inj, fun k hk => by rw [g1]; exact s.rel.sz k hk, s.rel.lps_keep (fun _ h => h) hfix (fun _ _ => rfl) (fun _ hb => hb) hshp hl (fun _ _ _ h => h), s.rel.linj⟩,
    ⟨s.rl.1, fun i x v e1 e2 => hup (s.rl.2 i x v e1 e2)⟩, ⟨s.ext.S, s.ext.newS, s.ext.φ, s.ext.dom, s.ext.next, by rw [g2]; exact s.ext.os, by rw [g3]; exact s.ext.tape, by rw [g4]; exact s.ext.output, by rw [g1]; exact s.ext.size,
      fun k hk e1 e2 => (g5 k fun hm => by have := (h3 k hm).1; omega).trans (s.ext.frame k hk e1 e2), fun k C e hk => ?_, s.ext.origin, s.ext.lorigin, fun a => ?_⟩⟩
  · obtain ⟨q1, q2, C, e, q3, q4, q5⟩ := s.rel.own b cs hb
    exact ⟨q1, q2, C, e, by rw [hno _ (fun he => by rw [he] at q3; cases q3)]; exact q3, q4, fun j x v e1 e2 => hup (q5 j x v e1 e2)⟩
  · obtain ⟨C1, e1, e2⟩ := s.ext.shp k C e hk
    obtain ⟨C2, e3, e4⟩ := hshp k C1 e e1
    exact ⟨C2, e3, e4.trans e2⟩
  · rw [← s.ext.fz a]
    unfold World.frozen?
    by_cases ha : a.block ∈ ms
    · have q1 := (h3 _ ha).2.2
      rw [q1]
      have q2 : ∀ (ms : List Nat) (w : World), a.block ∈ ms → a.block < w.heap.size → (shutAll ms w).heap[a.block]? = some (.deferred none) ∨ ∃ x, (shutAll ms w).heap[a.block]? = some (.deferred x) := by
        intro ms
        induction ms with
        | nil => intro w h; cases h
        | cons d ms ih =>
          intro w hm hlt
          by_cases hin : a.block ∈ ms
          · exact ih _ hin (by rw [World.putObj_size]; exact hlt)
          · have hd : a.block = d := by rcases List.mem_cons.1 hm with h | h; exact h; exact absurd h hin
            refine .inl ?_
            show (shutAll ms (w.putObj d (.deferred none))).heap[a.block]? = _
            rw [(shutAll_other ms _).2.2.2.2 _ hin, hd]
            exact World.putObj_heap_same (by rw [← hd]; exact hlt)
      rcases q2 ms w ha (Array.getElem?_eq_some_iff.1 q1).1 with q3 | ⟨x, q3⟩
      · rw [q3]
      · rw [q3]
    · rw [g5 _ ha]
end

end Go.Pe
