import Derived.Test.YtffckclggkjbgaaGreatY13
import Derived.Test.YtffckclggkjbgaaGreatY08
import Derived.Test.YtffckclggkjbgaaGreatY09
set_option linter.unusedVariables false
set_option linter.unusedSimpArgs false
/- Results of three to five values. -/
namespace Go.Pe
open Go
variable {P : Program} {ρ : List AV} {h : H}
@[simp] theorem resA_three {a b c : ResultVar} : resA P #[a, b, c] ρ h = (resOne P ρ h a).bind fun x => (resOne P ρ h b).bind fun y => (resOne P ρ h c).bind fun z => some (.tup [x, y, z]) := by
  simp [resA]; cases resOne P ρ h a <;> cases resOne P ρ h b <;> cases resOne P ρ h c <;> simp
@[simp] theorem resA_four {a b c d : ResultVar} : resA P #[a, b, c, d] ρ h = (resOne P ρ h a).bind fun x => (resOne P ρ h b).bind fun y => (resOne P ρ h c).bind fun z => (resOne P ρ h d).bind fun u => some (.tup [x, y, z, u]) := by
  simp [resA]; cases resOne P ρ h a <;> cases resOne P ρ h b <;> cases resOne P ρ h c <;> cases resOne P ρ h d <;> simp
@[simp] theorem resA_five {a b c d e : ResultVar} : resA P #[a, b, c, d, e] ρ h = (resOne P ρ h a).bind fun x => (resOne P ρ h b).bind fun y => (resOne P ρ h c).bind fun z => (resOne P ρ h d).bind fun u => (resOne P ρ h e).bind fun w => some (.tup [x, y, z, u, w]) := by
  simp [resA]; cases resOne P ρ h a <;> cases resOne P ρ h b <;> cases resOne P ρ h c <;> cases resOne P ρ h d <;> cases resOne P ρ h e <;> simp
end Go.Pe

/- Code that runs on known values: what it comes to is computed, and so it is. -/
namespace Go.Pe
open Go

/-- The heap as a list: the newest first; 'none': a block that is gone. -/
abbrev Cells := List (Nat × Option (List AV))
def look {α : Type} (b : Nat) : List (Nat × Option α) → Option α
  | [] => none
  | (q, c) :: l => bif Nat.beq q b then c else look b l
structure Sx where
  next : Nat
  top : Cells
  lps : List (Nat × Option Lp)
def Sx.h (base : Cells) (s : Sx) : H := { next := s.next, get := fun b => look b (s.top ++ base), lp := fun b => look b s.lps }

theorem look_cons {α : Type} {b q : Nat} {c : Option α} {l : List (Nat × Option α)} : look b ((q, c) :: l) = if b = q then c else look b l := by
  simp only [look]
  by_cases h : b = q
  · subst h; simp [Nat.beq_refl]
  · rw [if_neg h]
    have : Nat.beq q b = false := by
      cases hb : Nat.beq q b with
      | false => rfl
      | true => exact absurd (Nat.eq_of_beq_eq_true hb).symm h
    rw [this]; rfl
theorem look_map {α : Type} {f : Nat → Option α} {l : List (Nat × Option α)} {b : Nat} : ∀ (T : List Nat), look b (T.map (fun q => (q, f q)) ++ l) = if b ∈ T then f b else look b l
  | [] => by simp
  | q :: T => by
    simp only [List.map_cons, List.cons_append, look_cons, look_map T, List.mem_cons]
    by_cases h : b = q
    · subst h; simp
    · simp [h]
theorem look_filter {α : Type} {b q : Nat} : ∀ (l : List (Nat × Option α)), look b (l.filter (fun p => p.1 != q)) = if b = q then none else look b l
  | [] => by simp [look]
  | (k, c) :: l => by
    rw [List.filter_cons]
    by_cases hk : k = q
    · subst hk
      simp only [bne_self_eq_false, Bool.false_eq_true, if_false, look_filter l, look_cons]
      by_cases hb : b = k
      · rw [if_pos hb, if_pos hb]
      · rw [if_neg hb, if_neg hb, if_neg hb]
    · have : (k != q) = true := by simpa using hk
      simp only [this, if_true, look_cons, look_filter l]
      by_cases hb : b = k
      · subst hb; simp [hk]
      · simp [hb]

def ownB : AV → List Nat
  | .sl b _ _ _ => [b]
  | .slc b _ _ _ _ => [b]
  | _ => []
/-- Which blocks an effect turns, or looks into. -/
def touch (o : Oper) (ρ : List AV) (nx : Nat) : List Nat :=
  match o.op with
  | .store _ p _ => match aev ρ p with | .ptr b _ => [b] | _ => []
  | .call { callee := .builtin .append, args := ⟨[s, x]⟩, .. } => nx :: ownB (aev ρ s) ++ ownB (aev ρ x)
  | .buildSlice _ _ _ => [nx]
  | _ => [nx]

theorem eop_touch {P : Program} {own : Bool} {o : Oper} {ρ : List AV} {v : H} {r : AV × H} (h : eop P own o ρ v = some r) {b : Nat} (hb : b ∉ touch o ρ v.next) : r.2.get b = v.get b := by
  unfold eop at h
  split at h <;> rename_i hop <;> first | (cases h; done) | skip
  · obtain ⟨T, _, h⟩ := tyInt2_some h; cases h
    simp only [touch, hop, List.mem_singleton] at hb
    simp [H.push, hb]
  · split at h
    · cases h
      simp only [touch, hop, List.mem_singleton] at hb
      simp [H.push, hb]
    · cases h
  · obtain ⟨T, _, h⟩ := tyInt2_some h
    unfold storeA at h
    split at h
    · rename_i b' o' l hp hl
      split at h
      · split at h
        · cases h
          simp only [touch, hop, hp, List.mem_singleton] at hb
          simp [H.set, hb]
        · cases h
      · cases h
    · cases h
  · obtain ⟨T, _, h⟩ := tyInt2_some h
    split at h
    · obtain ⟨E, _, h⟩ := tyInt2_some h
      unfold buildSliceA at h
      simp only [touch, hop, List.mem_singleton] at hb
      split at h
      · split at h
        · split at h
          · split at h
            · cases h; simp [H.push, hb]
            · cases h; rfl
          · cases h
        · cases h
      · cases h
    · cases h
  · obtain ⟨T, _, h⟩ := tyInt2_some h
    split at h
    · obtain ⟨E, _, h⟩ := tyInt2_some h
      split at h
      · unfold makeSliceA at h
        simp only [touch, hop, List.mem_singleton] at hb
        split at h
        · split at h
          · cases h
            simp [H.push, hb]
          · cases h
            simp [H.push, hb]
        · cases h
      · cases h
    · cases h
  · obtain ⟨T, _, h⟩ := tyInt2_some h
    obtain ⟨TX, _, h⟩ := tyInt2_some h
    split at h
    · obtain ⟨E, _, h⟩ := tyInt2_some h
      simp only [touch, hop, List.cons_append, List.mem_cons, List.mem_append, not_or] at hb
      obtain ⟨hb1, hb2, hb3⟩ := hb
      have hX : ∀ {s x : AV}, appendX E v s x = some r → b ∉ ownB s → r.2.get b = v.get b := fun {s x} hx hs => (appendX_new hx).2.2.2 b hb1 (fun b0 o l k e => by subst e; simpa [ownB] using hs) (fun b0 o l k c e => by subst e; simpa [ownB] using hs)
      unfold appendA at h
      split at h
      · exact hX h hb2
      · split at h
        · split at h
          · rename_i hs
            have hb4 := hb2
            rw [hs] at hb4
            simp only [ownB, List.mem_singleton] at hb4
            split at h
            · split at h
              · split at h
                · cases h
                  simp only
                  rw [if_neg hb1, if_neg hb4]
                · split at h
                  · cases h
                    simp only
                    rw [if_neg hb1, if_neg hb4]
                  · cases h
              · exact hX h hb2
            · cases h
          · rename_i hs
            exact hX h hb2
          · split at h
            · split at h
              · split at h
                · cases h; rfl
                · cases h; simp [H.push, hb1]
              · split at h
                · cases h; rfl
                · cases h
            · cases h
          · split at h
            · split at h
              · split at h
                · cases h; rfl
                · cases h; simp [H.push, hb1]
              · cases h; rfl
            · cases h
          · cases h
        · cases h
    · obtain ⟨E, _, h⟩ := tyInt2_some h
      simp only [touch, hop, List.cons_append, List.mem_cons, List.mem_append, not_or] at hb
      exact (zeroApp_new h).2.2.2 b hb.1
    · cases h

section
variable (C : Cells → AV → List AV → Sx → Option (AV × Sx)) (P : Program)

/-- One operation. -/
def evStep (base : Cells) (o : Oper) (ρ : List AV) (s : Sx) : Option (AV × Sx) :=
  match o.op with
  | .call { callee := .value f, args, .. } => C base (aev ρ f) (args.toList.map (aev ρ)) s
  | _ => match pop P o ρ (s.h base) with
    | some x => some (x, s)
    | none => match eop P true o ρ (s.h base) with
      | some (x, r) => some (x, { next := r.next, top := (touch o ρ s.next).map (fun b => (b, r.get b)) ++ s.top, lps := s.lps })
      | none => none

def evOps (base : Cells) (all : Array Oper) : List Oper → List AV → Sx → Option (List AV × Sx)
  | [], ρ, s => some (ρ, s)
  | o :: rest, ρ, s =>
    match o.guard with
    | none => match evStep C P base o ρ s with
      | some (x, s') => evOps base all rest (putA ρ o.dst x) s'
      | none => none
    | some (j, want) => match (all[j]?).bind (·.dst) with
      | some d => match ρ.getD d (.val undef) with
        | .val (.bool b) => bif b == want then (match evStep C P base o ρ s with
            | some (x, s') => evOps base all rest (putA ρ o.dst x) s'
            | none => none)
          else evOps base all rest (putA ρ o.dst (.val undef)) s
        | .val (.tuple _) => evOps base all rest (putA ρ o.dst (.val undef)) s
        | _ => none
      | none => none

/-- What a call may be. -/
def CallOK : Prop := ∀ base x args s y s', C base x args s = some (y, s') → (∃ g caps, x = .clo g caps ∧ Fn P g (args ++ caps) (s.h base) y (s'.h base)) ∨ (∃ b, x = .yld b ∧ Rd P b args (s.h base) y (s'.h base))

variable {C} {P}
theorem evStep_sound (hC : CallOK C P) {base : Cells} {o : Oper} {ρ : List AV} {s s' : Sx} {x : AV} (h : evStep C P base o ρ s = some (x, s')) {K : List AV → H → Prop} (hK : K (putA ρ o.dst x) (s'.h base)) : stepA P (fun _ => true) o K ρ (s.h base) := by
  unfold evStep at h
  unfold stepA
  split at h
  · rename_i f args ats hop
    simp only [hop]
    rcases hC _ _ _ _ _ _ h with ⟨g, caps, e1, e2⟩ | ⟨b, e1, e2⟩
    · rw [e1]; exact ⟨x, _, e2, hK⟩
    · rw [e1]; exact ⟨x, _, e2, hK⟩
  · rename_i hnc
    have hgoal : onSome (stepV P true o ρ (s.h base)) (fun r => K (putA ρ o.dst r.1) r.2) .mk := by
      unfold stepV pickV onSome
      split at h
      · rename_i y hy
        cases h
        simp only [hy]; exact hK
      · rename_i hy
        simp only [hy]
        split at h
        · rename_i y r hr
          cases h
          simp only [hr]
          have : ({ next := r.next, top := (touch o ρ s.next).map (fun b => (b, r.get b)) ++ s.top, lps := s.lps } : Sx).h base = r := by
            have e1 := eop_lp hr
            have e2 : (fun b => look b ((touch o ρ s.next).map (fun b => (b, r.get b)) ++ s.top ++ base)) = r.get := by
              funext b
              rw [List.append_assoc, look_map]
              split
              · rfl
              · rename_i hb; exact (eop_touch hr (b := b) hb).symm
            simp only [Sx.h] at e1 e2 ⊢
            rw [e2, ← e1]
          rw [this] at hK; exact hK
        · cases h
    split
    · rename_i f args ats hop; exact (hnc _ _ _ hop).elim
    · exact hgoal

theorem evOps_sound (hC : CallOK C P) {base : Cells} {all : Array Oper} {Q : List AV → H → Prop} : ∀ (l : List Oper) (ρ : List AV) (s : Sx) (ρ' : List AV) (s' : Sx), evOps C P base all l ρ s = some (ρ', s') → Q ρ' (s'.h base) → vcOps P (fun _ => true) all Q l ρ (s.h base)
  | [], ρ, s, ρ', s', h, hq => by cases h; exact hq
  | o :: rest, ρ, s, ρ', s', h, hq => by
    have one : ∀ {x s1}, evStep C P base o ρ s = some (x, s1) → evOps C P base all rest (putA ρ o.dst x) s1 = some (ρ', s') → stepA P (fun _ => true) o (vcOps P (fun _ => true) all Q rest) ρ (s.h base) := fun h1 h2 =>
      evStep_sound hC h1 (evOps_sound hC rest _ _ _ _ h2 hq)
    simp only [evOps] at h
    simp only [vcOps]
    split at h
    · rename_i hg
      split at h
      · rename_i x s1 hs; simp only [hg]; exact one hs h
      · cases h
    · rename_i j want hg
      simp only [hg]
      split at h
      · rename_i d hd
        simp only [hd, onSome]
        split at h
        · rename_i b hb
          simp only [hb, onBool]
          cases hbw : (b == want) with
          | true =>
            rw [hbw] at h
            simp only [cond_true] at h
            have : b = want := by simpa using hbw
            subst this
            rw [set_same hb]
            split at h
            · rename_i x s1 hs; exact one hs h
            · cases h
          | false =>
            rw [hbw] at h
            simp only [cond_false] at h
            have : b = !want := by cases b <;> cases want <;> simp_all
            subst this
            rw [set_same hb]
            exact evOps_sound hC rest _ _ _ _ h hq
        · rename_i tt hb
          simp only [hb, onBool]
          exact evOps_sound hC rest _ _ _ _ h hq
        · cases h
      · cases h
end

end Go.Pe

/- Statements whose order is open, on known values. -/
namespace Go.Pe
open Go

/-- Which old blocks a load reads. -/
def reads (o : Oper) (ρ : List AV) : List Nat := match o.op with
  | .load _ p => match aev ρ p with | .ptr b _ => [b] | _ => []
  | _ => []
def isCall (o : Oper) : Bool := match o.op with | .call { callee := .value _, .. } => true | _ => false

theorem pop_reads {P : Program} {o : Oper} {ρ : List AV} {q q' : H} {x : AV} (h : pop P o ρ q = some x) (hr : ∀ b ∈ reads o ρ, q'.get b = q.get b) : pop P o ρ q' = some x := by
  unfold reads at hr
  unfold pop at h ⊢
  split at h <;> rename_i hop <;> first | (cases h; done) | skip
  all_goals first
    | exact h
    | (rw [hop] at hr
       simp only at hr
       unfold tyInt at h ⊢
       split at h
       · unfold loadA at h ⊢
         split at h
         · rename_i b o' hp
           simp only [hp] at hr ⊢
           rw [hr b (by simp)]; exact h
         · rename_i cs hp
           simp only [hp]; exact h
         · cases h
       · cases h)

/-- The blocks that a value leads to. -/
def reach (g : Nat → Option (List AV)) : Nat → AV → List Nat
  | 0, _ => []
  | n + 1, x => match x with
    | .ptr b _ => b :: (match g b with | some cs => cs.flatMap (reach g n) | none => [])
    | .sl b _ _ _ => b :: (match g b with | some cs => cs.flatMap (reach g n) | none => [])
    | .slc b _ _ _ _ => b :: (match g b with | some cs => cs.flatMap (reach g n) | none => [])
    | .agg l => l.flatMap (reach g n)
    | .tup l => l.flatMap (reach g n)
    | .clo _ l => l.flatMap (reach g n)
    | _ => []

/-- What a draw has noted: the effects with their old blocks, the reads, the quiet operations. -/
structure Note where
  eff : List (Nat × List Nat)
  rds : List (Nat × Nat)
  qt : List Nat

def eViewF (all : Array Oper) (h0n i nx : Nat) (o : Oper) (F : List Nat) (g : Nat → Option (List AV)) : H :=
  { next := nx, get := fun b => if (fpn all i o).any (fun j => h0n + j == b) || F.contains b then g b else none, lp := fun _ => none }
theorem eViewF_eq {all : Array Oper} {ct : Cert} {h0 : H} {i nx : Nat} {o : Oper} {F : List Nat} {g : Nat → Option (List AV)} (h : fpo ct i = F) : eView all ct h0 i nx o g = eViewF all h0.next i nx o F g := by
  unfold eView eViewF; rw [h]

section
variable (C : Cells → AV → List AV → Sx → Option (AV × Sx)) (P : Program)

/-- An old block behind a call, made to be read alone. -/
def frz1 (hh : H) (N : Nat) (g : Nat → Option (List AV)) (b : Nat) : Option (List AV) :=
  match g b, hh.get b with
  | some _, some ds => ds.mapM (frz 30 hh N)
  | _, _ => none

def drStep (base : Cells) (all : Array Oper) (h0 : H) (i : Nat) (o : Oper) (ρ : List AV) (G : Cells) : Option (AV × Cells × Note) :=
  if effectful o.op then
    let F := (touch o ρ (h0.next + i)).filter (fun b => decide (b < h0.next))
    let v := eViewF all h0.next i (h0.next + i) o F (fun b => look b (G ++ base))
    match eop P true o ρ v with
    | some (x, r) => some (x, (touch o ρ (h0.next + i)).map (fun b => (b, mergeG (fun b => look b (G ++ base)) v r b)) ++ G, { eff := [(i, F)], rds := [], qt := [] })
    | none => none
  else match o.op with
    | .call { callee := .value f, args, .. } =>
      let xs := args.toList.map (aev ρ)
      let F := (reach (fun b => look b (G ++ base)) 30 (.tup (aev ρ f :: xs))).eraseDups
      let vb : Cells := F.map (fun b => (b, look b (G ++ base)))
      match aev ρ f with
      | .clo _ _ => match C vb (aev ρ f) xs { next := h0.next + all.size, top := [], lps := [] } with
        | some (y, s2) => match frz 30 (s2.h vb) (h0.next + all.size) y with
          | some x => bif F.all (fun b => decide (b < h0.next + all.size)) then some (x, F.map (fun b => (b, frz1 (s2.h vb) (h0.next + all.size) (fun b => look b (G ++ base)) b)) ++ G, { eff := [(i, F)], rds := [], qt := [] }) else none
          | none => none
        | none => none
      | _ => none
    | _ => match pop P o ρ { next := h0.next + all.size, get := h0.get, lp := fun _ => none } with
      | some x => some (x, G, { eff := [], rds := (reads o ρ).map (fun b => (i, b)), qt := [i] })
      | none => none

def drW (base : Cells) (all : Array Oper) (h0 : H) : List Oper → Nat → List AV → Cells → Option (List AV × Cells × Note)
  | [], _, ρ, G => some (ρ, G, { eff := [], rds := [], qt := [] })
  | o :: rest, i, ρ, G =>
    match o.guard with
    | none => match drStep C P base all h0 i o ρ G with
      | some (x, G', n) => match drW base all h0 rest (i + 1) (putA ρ o.dst x) G' with
        | some (ρ', G'', n') => some (ρ', G'', { eff := n.eff ++ n'.eff, rds := n.rds ++ n'.rds, qt := n.qt ++ n'.qt })
        | none => none
      | none => none
    | some (j, want) => match (all[j]?).bind (·.dst) with
      | some d => match ρ.getD d (.val undef) with
        | .val (.bool b) => bif b == want then (match drStep C P base all h0 i o ρ G with
            | some (x, G', n) => match drW base all h0 rest (i + 1) (putA ρ o.dst x) G' with
              | some (ρ', G'', n') => some (ρ', G'', { eff := n.eff ++ n'.eff, rds := n.rds ++ n'.rds, qt := n.qt ++ n'.qt })
              | none => none
            | none => none)
          else drW base all h0 rest (i + 1) (putA ρ o.dst (.val undef)) G
        | .val (.tuple _) => drW base all h0 rest (i + 1) (putA ρ o.dst (.val undef)) G
        | _ => none
      | none => none

/-- The notes and what is said fit. -/
def fits (ct : Cert) (n : Note) : Prop := (∀ p ∈ n.eff, fpo ct p.1 = p.2 ∧ ct.eff.any (fun q => q.1 == p.1) = true) ∧ (∀ p ∈ n.rds, ct.M.contains p.2 = true → ct.see.contains p = true) ∧ ∀ i ∈ n.qt, ct.eff.any (fun q => q.1 == i) = false
def fitsB (ct : Cert) (n : Note) : Bool := (n.eff.all fun p => fpo ct p.1 == p.2 && ct.eff.any (fun q => q.1 == p.1)) && (n.rds.all fun p => !ct.M.contains p.2 || ct.see.contains p) && n.qt.all fun i => !ct.eff.any (fun q => q.1 == i)
theorem fits_of {ct : Cert} {n : Note} (h : fitsB ct n = true) : fits ct n := by
  simp only [fitsB, Bool.and_eq_true, List.all_eq_true, beq_iff_eq, Bool.or_eq_true, Bool.not_eq_true'] at h
  refine ⟨fun p hp => h.1.1 p hp, fun p hp hm => ?_, fun i hi => h.2 i hi⟩
  rcases h.1.2 p hp with h1 | h1
  · rw [hm] at h1; cases h1
  · exact h1

def evDraw (base : Cells) (ops : Array Oper) (ρ : List AV) (s : Sx) : Option (List AV × Sx) :=
  match drW C P (s.top ++ base) ops (s.h base) ops.toList 0 ρ [] with
  | some (ρ', G, n) =>
    let M := (n.eff.flatMap (·.2)).eraseDups
    let ct : Cert := { M := M, see := n.rds.filter fun p => M.contains p.2, eff := n.eff }
    bif P.follows .mixedOrders && tmpsApart ops && fpsApart ops ct && fitsB ct n && M.all (fun b => decide (b < s.next)) then some (ρ', { next := s.next + ops.size, top := G ++ s.top, lps := s.lps }) else none
  | none => none

variable {C} {P}
theorem drStep_sound (hC : CallOK C P) {base : Cells} {all : Array Oper} {h0 : H} {i : Nat} {o : Oper} {ρ : List AV} {G G' : Cells} {x : AV} {n : Note} {ct : Cert} (h : drStep C P base all h0 i o ρ G = some (x, G', n)) (hf : fits ct n) {K : AV → (Nat → Option (List AV)) → Prop}
    (hK : K x (fun b => look b (G' ++ base))) :
    if quietA ct i o then stepQ P o (qView ct h0 all.size i) (fun y => K y (fun b => look b (G ++ base))) ρ
    else stepE P true o (eView all ct h0 i (h0.next + i) o (fun b => look b (G ++ base))) (eView all ct h0 i (h0.next + all.size) o (fun b => look b (G ++ base))) (fun y h' => K y (mergeG (fun b => look b (G ++ base)) (eView all ct h0 i (h0.next + i) o (fun b => look b (G ++ base))) h')) ρ := by
  obtain ⟨f1, f2, f3⟩ := hf
  unfold drStep at h
  split at h
  · rename_i he
    simp only at h
    split at h
    · rename_i y r hr
      cases h
      obtain ⟨q1, q2⟩ := f1 (i, _) (List.mem_singleton.2 rfl)
      simp only at q1 q2
      have hq : quietA ct i o = false := by unfold quietA; rw [q2, he]; rfl
      rw [hq]
      simp only [Bool.false_eq_true, if_false]
      unfold stepE
      split
      · rename_i f args ats hop; rw [hop] at he; simp [effectful] at he
      · rw [eViewF_eq q1]
        unfold onSome
        rw [hr]
        simp only
        have : mergeG (fun b => look b (G ++ base)) (eViewF all h0.next i (h0.next + i) o ((touch o ρ (h0.next + i)).filter (fun b => decide (b < h0.next))) (fun b => look b (G ++ base))) r =
            fun b => look b ((touch o ρ (h0.next + i)).map (fun b => (b, mergeG (fun b => look b (G ++ base)) (eViewF all h0.next i (h0.next + i) o ((touch o ρ (h0.next + i)).filter (fun b => decide (b < h0.next))) (fun b => look b (G ++ base))) r b)) ++ G ++ base) := by
          funext b
          rw [List.append_assoc, look_map]
          split
          · rfl
          · rename_i hb
            have ht := eop_touch hr (b := b) hb
            unfold mergeG
            rw [ht]
            split
            · rename_i hs
              simp only [Bool.or_self] at hs
              simp only [eViewF] at hs ⊢
              split
              · rfl
              · rename_i hc; rw [if_neg hc] at hs; cases hs
            · rfl
        rw [this]; exact hK
    · cases h
  · rename_i he
    have he' : effectful o.op = false := by simpa using he
    split at h
    · rename_i f args ats hop
      simp only at h
      split at h
      · rename_i g caps hg
        split at h
        · rename_i y s2 hs2
          split at h
          · rename_i x' hx'
            cases hall : ((reach (fun b => look b (G ++ base)) 30 (.tup (AV.clo g caps :: args.toList.map (aev ρ)))).eraseDups).all (fun b => decide (b < h0.next + all.size)) with
            | false => rw [hg] at h; rw [hall] at h; cases h
            | true =>
              rw [hg] at h hs2 hx'
              rw [hall] at h
              simp only [cond_true, Option.some.injEq, Prod.mk.injEq] at h
              obtain ⟨rfl, rfl, rfl⟩ := h
              generalize (reach (fun b => look b (G ++ base)) 30 (.tup (AV.clo g caps :: args.toList.map (aev ρ)))).eraseDups = F at hs2 hx' hall hK f1
              obtain ⟨q1, q2⟩ := f1 (i, F) (List.mem_singleton.2 rfl)
              simp only at q1 q2
              have hq : quietA ct i o = false := by unfold quietA; rw [q2, he']; rfl
              rw [hq]
              simp only [Bool.false_eq_true, if_false]
              have hfpn : fpn all i o = [] := by unfold fpn storeNew; rw [hop]; rfl
              have hview : ∀ nx, eView all ct h0 i nx o (fun b => look b (G ++ base)) = { next := nx, get := fun b => if b ∈ F then look b (G ++ base) else none, lp := fun _ => none } := fun nx => by
                rw [eViewF_eq q1]
                unfold eViewF
                rw [hfpn]
                congr 1
                funext b
                simp
              have hvb : ({ next := h0.next + all.size, top := [], lps := [] } : Sx).h (F.map fun b => (b, look b (G ++ base))) = eView all ct h0 i (h0.next + all.size) o (fun b => look b (G ++ base)) := by
                rw [hview]
                simp only [Sx.h, List.nil_append]
                congr 1
                funext b
                have := look_map (f := fun b => look b (G ++ base)) (l := []) (b := b) F
                rw [List.append_nil] at this
                rw [this]; rfl
              unfold stepE
              rw [hop]
              simp only
              rw [hg]
              rcases hC _ _ _ _ _ _ hs2 with ⟨g', caps', e1, e2⟩ | ⟨b, e1, e2⟩
              · cases e1
                rw [hvb] at e2
                refine ⟨x', { next := h0.next + all.size, get := fun b => if b ∈ F then frz1 (s2.h (F.map fun b => (b, look b (G ++ base)))) (h0.next + all.size) (fun b => look b (G ++ base)) b else none, lp := fun _ => none }, Fn.toM (Fn.freeze (k := 30) e2 (by rw [hview]) (by rw [hview]; exact hx') (fun b cs hb => ?_) (fun b r hb => by cases hb)) (by rw [hview]), fun b hb => .inl ?_, fun _ => rfl, ?_⟩
                · simp only at hb
                  split at hb
                  · rename_i hbF
                    unfold frz1 at hb
                    split at hb
                    · rename_i d1 d2 hd1 hd2
                      rw [hview]
                      exact ⟨d2, 30, hd2, by simpa using (List.all_eq_true.1 hall) b hbF, hb⟩
                    · cases hb
                  · cases hb
                · rw [hview] at hb
                  simp only at hb ⊢
                  split
                  · rename_i hbF
                    rw [if_pos hbF] at hb
                    unfold frz1; simp only [hb]
                  · rfl
                · have : mergeG (fun b => look b (G ++ base)) (eView all ct h0 i (h0.next + i) o (fun b => look b (G ++ base))) { next := h0.next + all.size, get := fun b => if b ∈ F then frz1 (s2.h (F.map fun b => (b, look b (G ++ base)))) (h0.next + all.size) (fun b => look b (G ++ base)) b else none, lp := fun _ => none } =
                      fun b => look b (F.map (fun b => (b, frz1 (s2.h (F.map fun b => (b, look b (G ++ base)))) (h0.next + all.size) (fun b => look b (G ++ base)) b)) ++ G ++ base) := by
                    funext b
                    rw [List.append_assoc, look_map, hview]
                    unfold mergeG
                    simp only
                    by_cases hbF : b ∈ F
                    · simp only [hbF, if_true]
                      cases hgb : look b (G ++ base) with
                      | none => simp [frz1, hgb]
                      | some cs => simp
                    · simp [hbF]
                  simp only
                  rw [this]; exact hK
              · cases e1
          · cases h
        · cases h
      · cases h
    · rename_i hnc
      split at h
      · rename_i y hy
        cases h
        have hq : quietA ct i o = true := by unfold quietA; rw [he', f3 i (List.mem_singleton.2 rfl)]; rfl
        rw [hq]
        simp only [if_true]
        unfold stepQ
        split
        · rename_i f args ats hop; exact (hnc _ _ _ hop).elim
        · have := pop_reads (q' := qView ct h0 all.size i) hy (fun b hb => by
            simp only [qView]
            split
            · rename_i hc
              simp only [Bool.and_eq_true, Bool.not_eq_true'] at hc
              have := f2 (i, b) (List.mem_map.2 ⟨b, hb, rfl⟩) hc.1
              rw [hc.2] at this; cases this
            · rfl)
          unfold onSome
          rw [this]; exact hK
      · cases h

theorem fits_app {ct : Cert} {n n' : Note} (h : fits ct { eff := n.eff ++ n'.eff, rds := n.rds ++ n'.rds, qt := n.qt ++ n'.qt }) : fits ct n ∧ fits ct n' :=
  ⟨⟨fun p hp => h.1 p (List.mem_append_left _ hp), fun p hp => h.2.1 p (List.mem_append_left _ hp), fun i hi => h.2.2 i (List.mem_append_left _ hi)⟩,
   ⟨fun p hp => h.1 p (List.mem_append_right _ hp), fun p hp => h.2.1 p (List.mem_append_right _ hp), fun i hi => h.2.2 i (List.mem_append_right _ hi)⟩⟩

theorem drW_sound (hC : CallOK C P) {base : Cells} {all : Array Oper} {h0 : H} {ct : Cert} {Q : List AV → H → Prop} : ∀ (l : List Oper) (i : Nat) (ρ : List AV) (G : Cells) (ρ' : List AV) (G' : Cells) (n : Note), drW C P base all h0 l i ρ G = some (ρ', G', n) → fits ct n →
    Q ρ' { next := h0.next + all.size, get := fun b => look b (G' ++ base), lp := h0.lp } → vcDr P (fun _ => true) ct all h0 Q l i ρ (fun b => look b (G ++ base))
  | [], i, ρ, G, ρ', G', n, h, _, hq => by cases h; exact hq
  | o :: rest, i, ρ, G, ρ', G', n, h, hf, hq => by
    have one : ∀ {x G1 n1 ρ2 G2 n2}, drStep C P base all h0 i o ρ G = some (x, G1, n1) → drW C P base all h0 rest (i + 1) (putA ρ o.dst x) G1 = some (ρ2, G2, n2) → ρ2 = ρ' → G2 = G' → n = { eff := n1.eff ++ n2.eff, rds := n1.rds ++ n2.rds, qt := n1.qt ++ n2.qt } →
        (if quietA ct i o then stepQ P o (qView ct h0 all.size i) (fun x => vcDr P (fun _ => true) ct all h0 Q rest (i + 1) (putA ρ o.dst x) (fun b => look b (G ++ base))) ρ
        else stepE P true o (eView all ct h0 i (h0.next + i) o (fun b => look b (G ++ base))) (eView all ct h0 i (h0.next + all.size) o (fun b => look b (G ++ base))) (fun x h' => vcDr P (fun _ => true) ct all h0 Q rest (i + 1) (putA ρ o.dst x) (mergeG (fun b => look b (G ++ base)) (eView all ct h0 i (h0.next + i) o (fun b => look b (G ++ base))) h')) ρ) := fun h1 h2 e1 e2 e3 => by
      subst e1; subst e2; subst e3
      obtain ⟨g1, g2⟩ := fits_app hf
      exact drStep_sound hC h1 g1 (K := fun x g => vcDr P (fun _ => true) ct all h0 Q rest (i + 1) (putA ρ o.dst x) g) (drW_sound hC rest (i + 1) _ _ _ _ _ h2 g2 hq)
    simp only [drW] at h
    simp only [vcDr]
    split at h
    · rename_i hg
      simp only [hg]
      split at h
      · rename_i x G1 n1 h1
        split at h
        · rename_i ρ2 G2 n2 h2
          simp only [Option.some.injEq, Prod.mk.injEq] at h
          exact one h1 h2 h.1 h.2.1 h.2.2.symm
        · cases h
      · cases h
    · rename_i j want hg
      simp only [hg]
      split at h
      · rename_i d hd
        simp only [hd, onSome]
        split at h
        · rename_i b hb
          simp only [hb, onBool]
          cases hbw : (b == want) with
          | true =>
            rw [hbw] at h
            simp only [cond_true] at h
            have : b = want := by simpa using hbw
            subst this
            rw [set_same hb]
            split at h
            · rename_i x G1 n1 h1
              split at h
              · rename_i ρ2 G2 n2 h2
                simp only [Option.some.injEq, Prod.mk.injEq] at h
                exact one h1 h2 h.1 h.2.1 h.2.2.symm
              · cases h
            · cases h
          | false =>
            rw [hbw] at h
            simp only [cond_false] at h
            have : b = !want := by cases b <;> cases want <;> simp_all
            subst this
            rw [set_same hb]
            exact drW_sound hC rest (i + 1) _ _ _ _ _ h hf hq
        · rename_i tt hb
          simp only [hb, onBool]
          exact drW_sound hC rest (i + 1) _ _ _ _ _ h hf hq
        · cases h
      · cases h

theorem evDraw_sound (hC : CallOK C P) {base : Cells} {ops : Array Oper} {ρ ρ' : List AV} {s s' : Sx} (h : evDraw C P base ops ρ s = some (ρ', s')) {Q : List AV → H → Prop} (hq : Q ρ' (s'.h base)) :
    P.follows .mixedOrders = true ∧ tmpsApart ops = true ∧ ∃ ct, fpsApart ops ct = true ∧ Drawn P (fun _ => true) ct ops Q ρ (s.h base) := by
  unfold evDraw at h
  split at h
  · rename_i ρ1 G n hd
    simp only at h
    rw [cond_eq_ite] at h
    split at h
    · rename_i hc
      simp only [Bool.and_eq_true] at hc
      obtain ⟨⟨⟨⟨c1, c2⟩, c3⟩, c4⟩, c5⟩ := hc
      cases h
      refine ⟨c1, c2, _, c3, fun b hb => by have := (List.all_eq_true.1 c5) b hb; simp only [decide_eq_true_eq] at this; exact this, ?_⟩
      have := drW_sound (Q := Q) hC ops.toList 0 ρ [] ρ' G n hd (fits_of c4) (by
        simp only [Sx.h, List.append_assoc] at hq ⊢
        exact hq)
      exact this
    · cases h
  · cases h
end

end Go.Pe
