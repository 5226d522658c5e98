/- Statements whose order is open: what is to be shown of them, and that it is enough for every order. -/
import Derived.Test.YtblpmcmapadphaaPeJ
import Derived.OrdersIn
set_option linter.unusedVariables false
set_option linter.unusedSimpArgs false
namespace Go.Pe
open Go

/-- What is said of a statement whose order is open: which old blocks are written ('M'), which operations see which of them before ('see'), and which operations write which of them ('eff'). -/
structure Cert where
  M : List Nat := []
  see : List (Nat × Nat) := []
  eff : List (Nat × List Nat) := []

def effectful : Op → Bool
  | .alloc _ => true
  | .box _ _ => true
  | .makeSlice _ _ _ => true
  | .buildSlice _ _ _ => true
  | .store _ _ _ => true
  | .call { callee := .builtin .append, .. } => true
  | _ => false
def allocs : Op → Bool
  | .alloc _ => true
  | .box _ _ => true
  | .makeSlice _ _ _ => true
  | .call { callee := .builtin .append, .. } => true
  | _ => false
def storeNew (all : Array Oper) : Op → Option Nat
  | .store _ (.tmp t) _ => (List.range all.size).find? fun j => match all[j]? with
    | some o => o.dst == some t && allocs o.op
    | none => false
  | _ => none
def fpn (all : Array Oper) (i : Nat) (o : Oper) : List Nat := (if allocs o.op then [i] else []) ++ (match storeNew all o.op with | some j => [j] | none => [])
def fpo (ct : Cert) (i : Nat) : List Nat := match ct.eff.find? (fun p => p.1 == i) with | some p => p.2 | none => []
def quietA (ct : Cert) (i : Nat) (o : Oper) : Bool := !effectful o.op && !(ct.eff.any (fun p => p.1 == i))

/-- The heap as a quiet operation sees it. -/
def qView (ct : Cert) (h0 : H) (m i : Nat) : H := { next := h0.next + m, get := fun b => if ct.M.contains b && !(ct.see.contains (i, b)) then none else h0.get b, lp := fun _ => none }
/-- The heap as an operation with an effect sees it. -/
def eView (all : Array Oper) (ct : Cert) (h0 : H) (i nx : Nat) (o : Oper) (g : Nat → Option (List AV)) : H :=
  { next := nx, get := fun b => if (fpn all i o).any (fun j => h0.next + j == b) || (fpo ct i).contains b then g b else none, lp := fun _ => none }
def mergeG (g : Nat → Option (List AV)) (v v' : H) : Nat → Option (List AV) := fun b => if (v.get b).isSome || (v'.get b).isSome then v'.get b else g b

def onCallE (P : Program) (g : Nat) (args : List AV) (vc : H) (K : AV → H → Prop) (_ : Tag K) : Prop := ∃ x h', Fn P g args vc x h' ∧ h'.next = vc.next ∧ (∀ b, vc.get b = none → h'.get b = none) ∧ (∀ b, h'.lp b = none) ∧ K x h'
def onCallQ (P : Program) (g : Nat) (args : List AV) (q : H) (K : AV → Prop) (_ : Tag K) : Prop := ∃ x, Fn P g args q x q ∧ K x
theorem onCallQ_in {P : Program} {g : Nat} {args : List AV} {h : H} {x : AV} {K : AV → Prop} {t : Tag K} (h1 : Fn P g args h x h) (h2 : K x) : onCallQ P g args h K t := ⟨x, h1, h2⟩
theorem onCallE_in {P : Program} {g : Nat} {args : List AV} {h h' : H} {x : AV} {K : AV → H → Prop} {t : Tag K} (h1 : Fn P g args h x h') (h3 : h'.next = h.next) (h4 : ∀ b, h.get b = none → h'.get b = none) (h5 : ∀ b, h'.lp b = none) (h2 : K x h') : onCallE P g args h K t := ⟨x, h', h1, h3, h4, h5, h2⟩

def stepQ (P : Program) (o : Oper) (q : H) (K : AV → Prop) (ρ : List AV) : Prop :=
  match o.op with
  | .call { callee := .value f, args, .. } => onClo (aev ρ f) (fun g caps => onCallQ P g (args.toList.map (aev ρ) ++ caps) q K .mk) .mk
  | _ => onSome (pop P o ρ q) K .mk
def stepE (P : Program) (own : Bool) (o : Oper) (v vc : H) (K : AV → H → Prop) (ρ : List AV) : Prop :=
  match o.op with
  | .call { callee := .value f, args, .. } => onClo (aev ρ f) (fun g caps => onCallE P g (args.toList.map (aev ρ) ++ caps) vc K .mk) .mk
  | _ => onSome (eop P own o ρ v) (fun r => K r.1 r.2) .mk

def vcDr (P : Program) (md : Oper → Bool) (ct : Cert) (all : Array Oper) (h0 : H) (Q : List AV → H → Prop) : List Oper → Nat → List AV → (Nat → Option (List AV)) → Prop
  | [], _, ρ, g => Q ρ { next := h0.next + all.size, get := g, lp := h0.lp }
  | o :: rest, i, ρ, g =>
    match o.guard with
    | none => if quietA ct i o then stepQ P o (qView ct h0 all.size i) (fun x => vcDr P md ct all h0 Q rest (i + 1) (putA ρ o.dst x) g) ρ
        else stepE P (md o) o (eView all ct h0 i (h0.next + i) o g) (eView all ct h0 i (h0.next + all.size) o g) (fun x h' => vcDr P md ct all h0 Q rest (i + 1) (putA ρ o.dst x) (mergeG g (eView all ct h0 i (h0.next + i) o g) h')) ρ
    | some (j, want) => onSome ((all[j]?).bind (·.dst)) (fun d => onBool (ρ.getD d (.val undef)) (fun b => ifB (b == want) (if quietA ct i o then stepQ P o (qView ct h0 all.size i) (fun x => vcDr P md ct all h0 Q rest (i + 1) (putA (ρ.set d (.val (.bool want))) o.dst x) g) (ρ.set d (.val (.bool want)))
            else stepE P (md o) o (eView all ct h0 i (h0.next + i) o g) (eView all ct h0 i (h0.next + all.size) o g) (fun x h' => vcDr P md ct all h0 Q rest (i + 1) (putA (ρ.set d (.val (.bool want))) o.dst x) (mergeG g (eView all ct h0 i (h0.next + i) o g) h')) (ρ.set d (.val (.bool want))))
          (vcDr P md ct all h0 Q rest (i + 1) (putA (ρ.set d (.val (.bool !want))) o.dst (.val undef)) g) .mk .mk)
          (vcDr P md ct all h0 Q rest (i + 1) (putA ρ o.dst (.val undef)) g) .mk .mk) .mk

/-- Which operations stand in a forced order. -/
def ordA (all : Array Oper) (i k : Nat) : Bool := ((Region.before all).getD k 0).testBit i
def dstOf (all : Array Oper) (i : Nat) : Option Nat := (all[i]?).bind (·.dst)
def tmpsApart (all : Array Oper) : Bool :=
  (List.range all.size).all fun i => match all[i]? with
  | none => true
  | some o => (o.after.all fun e => !Region.binds .any e || decide (e.on < i)) &&
    match o.dst with
    | none => true
    | some t => (List.range all.size).all fun k => i == k || ordA all i k || ordA all k i || match all[k]? with
      | none => true
      | some p => !((p.looksAt all).contains t) && p.dst != some t
def fpsApart (all : Array Oper) (ct : Cert) : Bool :=
  (List.range all.size).all fun i => match all[i]? with
  | none => true
  | some o => (fpo ct i).all (fun b => ct.M.contains b) && (List.range all.size).all fun k => i == k || match all[k]? with
    | none => true
    | some p => quietA ct k p ||
      if quietA ct i o then ordA all i k || (fpo ct k).all (fun b => !(ct.see.contains (i, b)))
      else ordA all i k || ordA all k i || ((fpn all i o).all (fun j => !((fpn all k p).contains j)) && (fpo ct i).all (fun b => !((fpo ct k).contains b)))

inductive Bef (all : Array Oper) : Nat → Nat → Prop
  | one {i k : Nat} {o : Oper} {e : Edge} (ho : all[k]? = some o) (he : e ∈ o.after) (hb : Region.binds .any e = true) (hi : e.on = i) : Bef all i k
  | step {i j k : Nat} (h1 : Bef all i j) (h2 : Bef all j k) : Bef all i k

theorem ordA_bef {all : Array Oper} {i k : Nat} (h : ordA all i k = true) : Bef all i k := by
  have key : ∀ (l : List Oper) (acc : Array Nat), (∀ j, l[j]? = all[acc.size + j]?) → (∀ k i, k < acc.size → (acc.getD k 0).testBit i = true → Bef all i k) →
      ∀ k i, k < (l.foldl (fun acc o => acc.push (o.after.foldl (fun s e => if Region.binds .any e then s ||| 2 ^ e.on ||| acc.getD e.on 0 else s) 0)) acc).size →
        ((l.foldl (fun acc o => acc.push (o.after.foldl (fun s e => if Region.binds .any e then s ||| 2 ^ e.on ||| acc.getD e.on 0 else s) 0)) acc).getD k 0).testBit i = true → Bef all i k := by
    intro l
    induction l with
    | nil => intro acc _ hacc; exact hacc
    | cons o l ih =>
      intro acc hl hacc
      simp only [List.foldl_cons]
      have ho : all[acc.size]? = some o := by simpa using (hl 0).symm
      refine ih _ (fun j => ?_) (fun k i hk hb => ?_)
      · have := hl (j + 1); simp only [List.getElem?_cons_succ] at this; rw [this]; congr 1; simp; omega
      · by_cases hlt : k < acc.size
        · refine hacc k i hlt ?_
          simpa [Array.getD, Array.size_push, hlt, Nat.lt_succ_of_lt hlt, Array.getElem_push] using hb
        · have hk' : k = acc.size := by simp at hk; omega
          subst hk'
          have hin : ∀ (es : List Edge) (s : Nat), (∀ e ∈ es, e ∈ o.after) → (s.testBit i = true → Bef all i acc.size) → (es.foldl (fun s e => if Region.binds .any e then s ||| 2 ^ e.on ||| acc.getD e.on 0 else s) s).testBit i = true → Bef all i acc.size := by
            intro es
            induction es with
            | nil => intro s _ hs hb; exact hs hb
            | cons e es ihe =>
              intro s hes hs hb
              simp only [List.foldl_cons] at hb
              refine ihe _ (fun e' he' => hes e' (by simp [he'])) (fun hb' => ?_) hb
              split at hb'
              · rename_i hbind
                simp only [Nat.testBit_or, Bool.or_eq_true, Nat.testBit_two_pow, decide_eq_true_eq] at hb'
                rcases hb' with (hb' | hb') | hb'
                · exact hs hb'
                · exact .one ho (hes e (by simp)) hbind hb'
                · by_cases hon : e.on < acc.size
                  · exact .step (hacc e.on i hon hb') (.one ho (hes e (by simp)) hbind rfl)
                  · simp [Array.getD, hon] at hb'
              · exact hs hb'
          refine hin o.after.toList 0 (fun e he => by simpa using he) (fun h => by simp at h) ?_
          rw [Array.foldl_toList]
          simpa [Array.getD] using hb
  have h' := h
  unfold ordA Region.before at h'
  rw [← Array.foldl_toList] at h'
  by_cases hk : k < (all.toList.foldl (fun acc o => acc.push (o.after.foldl (fun s e => if Region.binds .any e then s ||| 2 ^ e.on ||| acc.getD e.on 0 else s) 0)) (#[] : Array Nat)).size
  · exact key all.toList #[] (by simp) (fun k i hk => by simp at hk) k i hk h'
  · unfold Array.getD at h'
    rw [dif_neg hk] at h'
    simp at h'

/-- What one operation came to. -/
structure Ent where
  sk : Bool
  X : AV
  up : Nat → Option (Option (List AV))

def rhoS (all : Array Oper) (T : Nat → Ent) (sel : Nat → Bool) (ρ : List AV) : Nat → List AV
  | 0 => ρ
  | k + 1 => if sel k then putA (rhoS all T sel ρ k) (dstOf all k) (T k).X else rhoS all T sel ρ k
def gS (T : Nat → Ent) (sel : Nat → Bool) (g : Nat → Option (List AV)) : Nat → Nat → Option (List AV)
  | 0, b => g b
  | k + 1, b => if sel k then (match (T k).up b with | some c => c | none => gS T sel g k b) else gS T sel g k b

theorem rhoS_len {all : Array Oper} {T : Nat → Ent} {sel : Nat → Bool} {ρ : List AV} : ∀ k, (rhoS all T sel ρ k).length = ρ.length
  | 0 => rfl
  | k + 1 => by
    simp only [rhoS]
    split
    · cases dstOf all k <;> simp [putA, rhoS_len k]
    · exact rhoS_len k

/-- A slot holds what its last writer gave: whoever is chosen, if the same writers of it are chosen. -/
theorem rhoS_slot {all : Array Oper} {T T' : Nat → Ent} {sel sel' : Nat → Bool} {ρ : List AV} {t : Nat} : ∀ k k', (∀ j, dstOf all j = some t → ((j < k ∧ sel j = true) ↔ (j < k' ∧ sel' j = true))) → (∀ j, T j = T' j) →
    (rhoS all T sel ρ k)[t]? = (rhoS all T' sel' ρ k')[t]? := by
  have one : ∀ (T : Nat → Ent) (sel : Nat → Bool) k, (rhoS all T sel ρ k)[t]? = (match (List.range k).reverse.find? (fun j => sel j && dstOf all j == some t) with | some j => if t < ρ.length then some (T j).X else none | none => ρ[t]?) := by
    intro T sel k
    induction k with
    | zero => rfl
    | succ k ih =>
      rw [List.range_succ, List.reverse_append, List.reverse_singleton, List.singleton_append, List.find?_cons]
      simp only [rhoS]
      by_cases hs : sel k = true
      · rw [if_pos hs]
        by_cases hd : dstOf all k = some t
        · simp only [hs, hd, Bool.true_and, beq_self_eq_true]
          simp only [putA, List.getElem?_set_self', rhoS_len]
          by_cases hlt : t < ρ.length
          · rw [if_pos hlt, List.getElem?_eq_getElem (by rw [rhoS_len]; exact hlt)]; rfl
          · rw [if_neg hlt, List.getElem?_eq_none (by rw [rhoS_len]; omega)]; rfl
        · have : (sel k && dstOf all k == some t) = false := by simp [hd]
          simp only [this]
          rw [← ih]
          cases hdk : dstOf all k with
          | none => rfl
          | some d => simp only [putA]; rw [List.getElem?_set_ne (fun e => hd (by rw [hdk, e]))]
      · rw [if_neg hs]
        have : (sel k && dstOf all k == some t) = false := by simp [hs]
        simp only [this]; exact ih
  intro k k' hsel hT
  obtain rfl : T = T' := funext hT
  rw [one, one]
  have hfind : (List.range k).reverse.find? (fun j => sel j && dstOf all j == some t) = (List.range k').reverse.find? (fun j => sel' j && dstOf all j == some t) := by
    have gen : ∀ (sel sel' : Nat → Bool) k k', (∀ j, dstOf all j = some t → ((j < k ∧ sel j = true) ↔ (j < k' ∧ sel' j = true))) → k ≤ k' → (List.range k).reverse.find? (fun j => sel j && dstOf all j == some t) = (List.range k').reverse.find? (fun j => sel' j && dstOf all j == some t) := by
      intro sel sel' k k' h hle
      obtain ⟨d, rfl⟩ : ∃ d, k' = k + d := ⟨k' - k, by omega⟩
      clear hle
      induction d with
      | zero =>
        clear hsel
        simp only [Nat.add_zero] at *
        have : ∀ n, n ≤ k → (List.range n).reverse.find? (fun j => sel j && dstOf all j == some t) = (List.range n).reverse.find? (fun j => sel' j && dstOf all j == some t) := by
          intro n
          induction n with
          | zero => intro _; rfl
          | succ n ih =>
            intro hn
            rw [List.range_succ, List.reverse_append, List.reverse_singleton, List.singleton_append, List.find?_cons, List.find?_cons, ih (by omega)]
            have : (sel n && dstOf all n == some t) = (sel' n && dstOf all n == some t) := by
              by_cases hd : dstOf all n = some t
              · have := h n hd
                simp only [show n < k by omega, true_and] at this
                simp only [hd, beq_self_eq_true, Bool.and_true]
                exact Bool.eq_iff_iff.2 this
              · have hb : (dstOf all n == some t) = false := by simpa using hd
                rw [hb, Bool.and_false, Bool.and_false]
            rw [this]
        exact this k (Nat.le_refl _)
      | succ d ih =>
        rw [show k + (d + 1) = (k + d) + 1 by omega, List.range_succ, List.reverse_append, List.reverse_singleton, List.singleton_append, List.find?_cons]
        have hno : (sel' (k + d) && dstOf all (k + d) == some t) = false := by
          by_cases hd : dstOf all (k + d) = some t
          · have := h (k + d) hd
            cases hs : sel' (k + d) with
            | false => rfl
            | true => have := this.2 ⟨by omega, hs⟩; omega
          · simp [hd]
        rw [hno]
        refine ih fun j hj => ⟨fun h1 => ?_, fun h1 => (h j hj).2 ⟨by omega, h1.2⟩⟩
        have h2 := (h j hj).1 h1
        refine ⟨?_, h2.2⟩
        rcases Nat.lt_or_ge j (k + d) with h3 | h3
        · exact h3
        · omega
    by_cases hle : k ≤ k'
    · exact gen sel sel' k k' hsel hle
    · exact (gen sel' sel k' k (fun j hj => (hsel j hj).symm) (by omega)).symm
  rw [hfind]

end Go.Pe
