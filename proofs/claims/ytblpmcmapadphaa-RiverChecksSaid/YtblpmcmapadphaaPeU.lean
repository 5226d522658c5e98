/- Code that runs on known values: what it comes to is computed, and so it is. -/
import Derived.Test.YtblpmcmapadphaaPeT
import Derived.Test.YtblpmcmapadphaaPeS
set_option linter.unusedVariables false
set_option linter.unusedSimpArgs false
namespace Go.Pe
open Go

/-- The heap as a list: the newest first; 'none': a block that is gone. -/
abbrev Cells := List (Nat × Option (List AV))
def look {α : Type} (b : Nat) : List (Nat × Option α) → Option α
  | [] => none
  | (q, c) :: l => bif Nat.beq q b then c else look b l
structure Sx where
  next : Nat
  top : Cells
  lps : List (Nat × Option Lp)
def Sx.h (base : Cells) (s : Sx) : H := { next := s.next, get := fun b => look b (s.top ++ base), lp := fun b => look b s.lps }

theorem look_cons {α : Type} {b q : Nat} {c : Option α} {l : List (Nat × Option α)} : look b ((q, c) :: l) = if b = q then c else look b l := by
  simp only [look]
  by_cases h : b = q
  · subst h; simp [Nat.beq_refl]
  · rw [if_neg h]
    have : Nat.beq q b = false := by
      cases hb : Nat.beq q b with
      | false => rfl
      | true => exact absurd (Nat.eq_of_beq_eq_true hb).symm h
    rw [this]; rfl
theorem look_map {α : Type} {f : Nat → Option α} {l : List (Nat × Option α)} {b : Nat} : ∀ (T : List Nat), look b (T.map (fun q => (q, f q)) ++ l) = if b ∈ T then f b else look b l
  | [] => by simp
  | q :: T => by
    simp only [List.map_cons, List.cons_append, look_cons, look_map T, List.mem_cons]
    by_cases h : b = q
    · subst h; simp
    · simp [h]
theorem look_filter {α : Type} {b q : Nat} : ∀ (l : List (Nat × Option α)), look b (l.filter (fun p => p.1 != q)) = if b = q then none else look b l
  | [] => by simp [look]
  | (k, c) :: l => by
    rw [List.filter_cons]
    by_cases hk : k = q
    · subst hk
      simp only [bne_self_eq_false, Bool.false_eq_true, if_false, look_filter l, look_cons]
      by_cases hb : b = k
      · rw [if_pos hb, if_pos hb]
      · rw [if_neg hb, if_neg hb, if_neg hb]
    · have : (k != q) = true := by simpa using hk
      simp only [this, if_true, look_cons, look_filter l]
      by_cases hb : b = k
      · subst hb; simp [hk]
      · simp [hb]

/-- Which blocks an effect turns. -/
def touch (o : Oper) (ρ : List AV) (nx : Nat) : List Nat :=
  match o.op with
  | .store _ p _ => match aev ρ p with | .ptr b _ => [b] | _ => []
  | .call { callee := .builtin .append, args := ⟨[s, _]⟩, .. } => nx :: (match aev ρ s with | .sl b _ _ _ => [b] | _ => [])
  | .buildSlice _ _ _ => []
  | _ => [nx]

theorem eop_touch {P : Program} {own : Bool} {o : Oper} {ρ : List AV} {v : H} {r : AV × H} (h : eop P own o ρ v = some r) {b : Nat} (hb : b ∉ touch o ρ v.next) : r.2.get b = v.get b := by
  unfold eop at h
  split at h <;> rename_i hop <;> first | (cases h; done) | skip
  · obtain ⟨T, _, h⟩ := tyInt2_some h; cases h
    simp only [touch, hop, List.mem_singleton] at hb
    simp [H.push, hb]
  · split at h
    · cases h
      simp only [touch, hop, List.mem_singleton] at hb
      simp [H.push, hb]
    · cases h
  · obtain ⟨T, _, h⟩ := tyInt2_some h
    unfold storeA at h
    split at h
    · rename_i b' o' l hp hl
      split at h
      · split at h
        · cases h
          simp only [touch, hop, hp, List.mem_singleton] at hb
          simp [H.set, hb]
        · cases h
      · cases h
    · cases h
  · obtain ⟨T, _, h⟩ := tyInt2_some h
    split at h
    · obtain ⟨E, _, h⟩ := tyInt2_some h
      unfold buildSliceA at h
      split at h
      · split at h
        · split at h
          · cases h; rfl
          · cases h
        · cases h
      · cases h
    · cases h
  · obtain ⟨T, _, h⟩ := tyInt2_some h
    split at h
    · obtain ⟨E, _, h⟩ := tyInt2_some h
      split at h
      · unfold makeSliceA at h
        split at h
        · cases h
          simp only [touch, hop, List.mem_singleton] at hb
          simp [H.push, hb]
        · cases h
      · cases h
    · cases h
  · obtain ⟨T, _, h⟩ := tyInt2_some h
    obtain ⟨TX, _, h⟩ := tyInt2_some h
    split at h
    · obtain ⟨E, _, h⟩ := tyInt2_some h
      simp only [touch, hop, List.mem_cons, not_or] at hb
      unfold appendA at h
      split at h
      · cases h
      · split at h
        · split at h
          · rename_i hs
            rw [hs] at hb
            simp only [List.mem_cons, List.not_mem_nil, or_false] at hb
            split at h
            · split at h
              · split at h
                · cases h
                  simp only
                  rw [if_neg hb.1, if_neg hb.2]
                · split at h
                  · cases h
                    simp only
                    rw [if_neg hb.1, if_neg hb.2]
                  · cases h
              · cases h
            · cases h
          · split at h
            · split at h
              · split at h
                · cases h; rfl
                · cases h; simp [H.push, hb.1]
              · split at h
                · cases h; rfl
                · cases h
            · cases h
          · split at h
            · split at h
              · split at h
                · cases h; rfl
                · cases h; simp [H.push, hb.1]
              · cases h; rfl
            · cases h
          · cases h
        · cases h
    · cases h

section
variable (C : Cells → AV → List AV → Sx → Option (AV × Sx)) (P : Program)

/-- One operation. -/
def evStep (base : Cells) (o : Oper) (ρ : List AV) (s : Sx) : Option (AV × Sx) :=
  match o.op with
  | .call { callee := .value f, args, .. } => C base (aev ρ f) (args.toList.map (aev ρ)) s
  | _ => match pop P o ρ (s.h base) with
    | some x => some (x, s)
    | none => match eop P true o ρ (s.h base) with
      | some (x, r) => some (x, { next := r.next, top := (touch o ρ s.next).map (fun b => (b, r.get b)) ++ s.top, lps := s.lps })
      | none => none

def evOps (base : Cells) (all : Array Oper) : List Oper → List AV → Sx → Option (List AV × Sx)
  | [], ρ, s => some (ρ, s)
  | o :: rest, ρ, s =>
    match o.guard with
    | none => match evStep C P base o ρ s with
      | some (x, s') => evOps base all rest (putA ρ o.dst x) s'
      | none => none
    | some (j, want) => match (all[j]?).bind (·.dst) with
      | some d => match ρ.getD d (.val undef) with
        | .val (.bool b) => bif b == want then (match evStep C P base o ρ s with
            | some (x, s') => evOps base all rest (putA ρ o.dst x) s'
            | none => none)
          else evOps base all rest (putA ρ o.dst (.val undef)) s
        | .val (.tuple _) => evOps base all rest (putA ρ o.dst (.val undef)) s
        | _ => none
      | none => none

/-- What a call may be. -/
def CallOK : Prop := ∀ base x args s y s', C base x args s = some (y, s') → (∃ g caps, x = .clo g caps ∧ Fn P g (args ++ caps) (s.h base) y (s'.h base)) ∨ (∃ b, x = .yld b ∧ Rd P b args (s.h base) y (s'.h base))

variable {C} {P}
theorem evStep_sound (hC : CallOK C P) {base : Cells} {o : Oper} {ρ : List AV} {s s' : Sx} {x : AV} (h : evStep C P base o ρ s = some (x, s')) {K : List AV → H → Prop} (hK : K (putA ρ o.dst x) (s'.h base)) : stepA P (fun _ => true) o K ρ (s.h base) := by
  unfold evStep at h
  unfold stepA
  split at h
  · rename_i f args ats hop
    simp only [hop]
    rcases hC _ _ _ _ _ _ h with ⟨g, caps, e1, e2⟩ | ⟨b, e1, e2⟩
    · rw [e1]; exact ⟨x, _, e2, hK⟩
    · rw [e1]; exact ⟨x, _, e2, hK⟩
  · rename_i hnc
    have hgoal : onSome (stepV P true o ρ (s.h base)) (fun r => K (putA ρ o.dst r.1) r.2) .mk := by
      unfold stepV pickV onSome
      split at h
      · rename_i y hy
        cases h
        simp only [hy]; exact hK
      · rename_i hy
        simp only [hy]
        split at h
        · rename_i y r hr
          cases h
          simp only [hr]
          have : ({ next := r.next, top := (touch o ρ s.next).map (fun b => (b, r.get b)) ++ s.top, lps := s.lps } : Sx).h base = r := by
            have e1 := eop_lp hr
            have e2 : (fun b => look b ((touch o ρ s.next).map (fun b => (b, r.get b)) ++ s.top ++ base)) = r.get := by
              funext b
              rw [List.append_assoc, look_map]
              split
              · rfl
              · rename_i hb; exact (eop_touch hr (b := b) hb).symm
            simp only [Sx.h] at e1 e2 ⊢
            rw [e2, ← e1]
          rw [this] at hK; exact hK
        · cases h
    split
    · rename_i f args ats hop; exact (hnc _ _ _ hop).elim
    · exact hgoal

theorem evOps_sound (hC : CallOK C P) {base : Cells} {all : Array Oper} {Q : List AV → H → Prop} : ∀ (l : List Oper) (ρ : List AV) (s : Sx) (ρ' : List AV) (s' : Sx), evOps C P base all l ρ s = some (ρ', s') → Q ρ' (s'.h base) → vcOps P (fun _ => true) all Q l ρ (s.h base)
  | [], ρ, s, ρ', s', h, hq => by cases h; exact hq
  | o :: rest, ρ, s, ρ', s', h, hq => by
    have one : ∀ {x s1}, evStep C P base o ρ s = some (x, s1) → evOps C P base all rest (putA ρ o.dst x) s1 = some (ρ', s') → stepA P (fun _ => true) o (vcOps P (fun _ => true) all Q rest) ρ (s.h base) := fun h1 h2 =>
      evStep_sound hC h1 (evOps_sound hC rest _ _ _ _ h2 hq)
    simp only [evOps] at h
    simp only [vcOps]
    split at h
    · rename_i hg
      split at h
      · rename_i x s1 hs; simp only [hg]; exact one hs h
      · cases h
    · rename_i j want hg
      simp only [hg]
      split at h
      · rename_i d hd
        simp only [hd, onSome]
        split at h
        · rename_i b hb
          simp only [hb, onBool]
          cases hbw : (b == want) with
          | true =>
            rw [hbw] at h
            simp only [cond_true] at h
            have : b = want := by simpa using hbw
            subst this
            rw [set_same hb]
            split at h
            · rename_i x s1 hs; exact one hs h
            · cases h
          | false =>
            rw [hbw] at h
            simp only [cond_false] at h
            have : b = !want := by cases b <;> cases want <;> simp_all
            subst this
            rw [set_same hb]
            exact evOps_sound hC rest _ _ _ _ h hq
        · rename_i tt hb
          simp only [hb, onBool]
          exact evOps_sound hC rest _ _ _ _ h hq
        · cases h
      · cases h
end

end Go.Pe
