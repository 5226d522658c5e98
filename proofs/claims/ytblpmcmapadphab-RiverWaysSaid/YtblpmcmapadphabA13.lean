import Derived.Test.YtblpmcmapadphabA07
import Derived.Test.YtblpmcmapadphabA09
set_option linter.unusedVariables false
set_option linter.unusedSimpArgs false
/- A round of a loop over a function. -/
namespace Go.Pe
open Go

/-- The slots that a round begins with. -/
def putPs (ρ : List AV) (ps : List Tmp) (args : List AV) : List AV := (ps.zip args).foldl (fun ρ p => ρ.set p.1 p.2) ρ

theorem RL_set {c : Cx} {w : World} {D : Nat → Prop} {ρ : List AV} {tmps : Array Value} (h : RL c w D ρ tmps) (d : Nat) {x : AV} {v : Value} (hx : R c w D x v) : RL c w D (ρ.set d x) (tmps.setIfInBounds d v) :=
  RL_put (a := { tmps := tmps, defers := [] }) (some d) h hx
theorem RL_putPs {c : Cx} {w : World} {D : Nat → Prop} : ∀ (ps : List Tmp) (args : List AV) (vs : List Value) (ρ : List AV) (tmps : Array Value), RL c w D ρ tmps → args.length = vs.length → (∀ (i : Nat) (x : AV) (v : Value), args[i]? = some x → vs[i]? = some v → R c w D x v) →
    RL c w D (putPs ρ ps args) ((ps.zip vs).foldl (fun t (p, v) => t.setIfInBounds p v) tmps)
  | [], _, _, ρ, tmps, h, _, _ => h
  | _ :: _, [], [], ρ, tmps, h, _, _ => h
  | _ :: _, [], _ :: _, _, _, _, h, _ => by simp at h
  | _ :: _, _ :: _, [], _, _, _, h, _ => by simp at h
  | p :: ps, x :: args, v :: vs, ρ, tmps, h, hl, hR => by
    simp only [putPs, List.zip_cons_cons, List.foldl_cons]
    exact RL_putPs ps args vs _ _ (RL_set h p (hR 0 x v rfl rfl)) (by simpa using hl) (fun i x v h1 h2 => hR (i + 1) x v h1 h2)

/-- What a round must come to. -/
def FinR (b : Nat) (x : AV) (h' : H) (e : Exit) (h2 : H) : Prop :=
  ∃ r2, h2.lp b = some r2 ∧ match e with
    | .normal => x = .val (.bool true) ∧ h' = h2.lset b (some { r2 with st := .ready, pend := none })
    | .ret => x = .val (.bool false) ∧ h' = h2.lset b (some { r2 with st := .done, pend := some .ret })
    | .exit id => x = .val (.bool false) ∧ h' = h2.lset b (some { r2 with st := .done, pend := some (.exit id) })
    | _ => False

theorem Rd.of_vcE {P : Program} (md : Oper → Bool) {b : Nat} {r : Lp} {args : List AV} {h h' : H} {x : AV} (hb : h.lp b = some r) (hlen : args.length = r.ps.size)
    (hv : vcE P md (some b) r.assign (fun e ρ1 h1 => e = .normal ∧ ∃ r1, h1.lp b = some r1 ∧ r1.st = .ready ∧ vcE P md (some b) r.body (fun e ρ2 h2 => FinR b x h' e h2) ρ1 (h1.lset b (some { r1 with st := .busy }))) (putPs r.ρ r.ps.toList args) h) :
    Rd P b args h x h' := by
  intro n c D w vs hr hD hfr hargs
  obtain ⟨_, _, fn, tmps, dd, hblk, hρ⟩ := hr.lps b r hb
  refine ⟨fn, _, r.assign, r.body, run_yield hblk (by simp only; rw [← hlen, hargs.1]), roundIn_of_wpIn trivial ?_⟩
  refine wpIn_mono (vcE_sound (md := md) (r := some (c.φ b)) (rd := some b) (n := n) (D0 := D) (h0 := h) (c0 := c) (w0 := w) hfr ⟨hD, rfl⟩ r.assign _ _ h _ w c D hv ⟨hr, ?_, Ext.refl D h c w, Marks.of_nil rfl, fun b hb => .inl hb⟩) ?_
  · have := RL_putPs (c := c) (w := w) (D := D) r.ps.toList args vs.toList r.ρ tmps hρ (by simp [hargs.1]) (fun i x v h1 h2 => hargs.2 i x v h1 (by simpa using h2))
    rw [← Array.foldl_toList, Array.toList_zip]
    exact this
  · rintro e a1 w1 ⟨ρ1, h1, c1, D1, ⟨rfl, r1, hb1, hst1, hv1⟩, s1⟩
    obtain ⟨hD1, _, fn1, tmps1, dd1, hblk1, hρ1⟩ := s1.rel.lps b r1 hb1
    have hφ1 : c1.φ b = c.φ b := s1.ext.φ b hD
    obtain ⟨q1, q2⟩ := lset_ok (b := b) (rec := { state := .busy, pending := r1.pend, fn := fn1, tmps := tmps1, params := r1.ps, assign := r1.assign, body := r1.body, defers := dd1 }) s1.rel hb1 (some { r1 with st := .busy })
      (fun r hr => by cases hr; exact ⟨rfl, rfl, rfl, rfl, rfl, hρ1⟩)
    rw [hφ1] at hblk1 q1 q2
    refine ⟨_, run_beginRound hblk1 hst1, ?_⟩
    refine wpIn_mono (vcE_sound (md := md) (r := some (c.φ b)) (rd := some b) (n := n) (D0 := D) (h0 := h) (c0 := c) (w0 := w) hfr ⟨hD, rfl⟩ r.body _ ρ1 _ a1 _ c1 D1 hv1
      ⟨q1, q2.list s1.rel s1.rl, s1.ext.trans q2, s1.defers.step s1.rel q2, s1.dom⟩) ?_
    rintro e a2 w2 ⟨ρ2, h2, c2, D2, ⟨r2, hb2, hq⟩, s2⟩
    obtain ⟨hD2, _, fn2, tmps2, dd2, hblk2, hρ2⟩ := s2.rel.lps b r2 hb2
    have hφ2 : c2.φ b = c.φ b := s2.ext.φ b hD
    have fin : ∀ (jump : Option Code) (st : LoopState), (if jump.isNone then LoopState.ready else LoopState.done) = st → x = .val (.bool jump.isNone) → h' = h2.lset b (some { r2 with st := st, pend := jump }) →
        ∃ v w', (Instr.endRound (c.φ b) jump).run P w2 = .ok v w' ∧ ∃ v' c' D', Ending.returned v = .returned v' ∧ R c' w' D' x v' ∧ Rel c' D' h' w' ∧ Ext D h c w D' c' w' h' ∧ ∀ q, D' q → D q ∨ (h.next ≤ q ∧ q < h'.next) := fun jump st hst hx hh => by
      subst hst; subst hx; subst hh
      obtain ⟨p1, p2⟩ := lset_ok (b := b) (rec := { state := if jump.isNone then .ready else .done, pending := jump, fn := fn2, tmps := tmps2, params := r2.ps, assign := r2.assign, body := r2.body, defers := dd2 }) s2.rel hb2 (some { r2 with st := if jump.isNone then .ready else .done, pend := jump })
        (fun r hr => by cases hr; exact ⟨rfl, rfl, rfl, rfl, rfl, hρ2⟩)
      rw [hφ2] at hblk2 p1 p2
      exact ⟨_, _, run_endRound jump hblk2, _, c2, D2, rfl, .val _, p1, s2.ext.trans p2, s2.dom⟩
    cases e with
    | normal => exact fin none .ready rfl hq.1 hq.2
    | ret => exact fin (some .ret) .done rfl hq.1 hq.2
    | exit id => exact fin (some (.exit id)) .done rfl hq.1 hq.2
    | goto l => exact hq.elim
    | panic ch => exact hq.elim
    | outgrown => exact hq.elim

end Go.Pe

/- Code that runs on known values: what it comes to is computed, and so it is. -/
namespace Go.Pe
open Go

/-- The heap as a list: the newest first; 'none': a block that is gone. -/
abbrev Cells := List (Nat × Option (List AV))
def look {α : Type} (b : Nat) : List (Nat × Option α) → Option α
  | [] => none
  | (q, c) :: l => bif Nat.beq q b then c else look b l
structure Sx where
  next : Nat
  top : Cells
  lps : List (Nat × Option Lp)
def Sx.h (base : Cells) (s : Sx) : H := { next := s.next, get := fun b => look b (s.top ++ base), lp := fun b => look b s.lps }

theorem look_cons {α : Type} {b q : Nat} {c : Option α} {l : List (Nat × Option α)} : look b ((q, c) :: l) = if b = q then c else look b l := by
  simp only [look]
  by_cases h : b = q
  · subst h; simp [Nat.beq_refl]
  · rw [if_neg h]
    have : Nat.beq q b = false := by
      cases hb : Nat.beq q b with
      | false => rfl
      | true => exact absurd (Nat.eq_of_beq_eq_true hb).symm h
    rw [this]; rfl
theorem look_map {α : Type} {f : Nat → Option α} {l : List (Nat × Option α)} {b : Nat} : ∀ (T : List Nat), look b (T.map (fun q => (q, f q)) ++ l) = if b ∈ T then f b else look b l
  | [] => by simp
  | q :: T => by
    simp only [List.map_cons, List.cons_append, look_cons, look_map T, List.mem_cons]
    by_cases h : b = q
    · subst h; simp
    · simp [h]
theorem look_filter {α : Type} {b q : Nat} : ∀ (l : List (Nat × Option α)), look b (l.filter (fun p => p.1 != q)) = if b = q then none else look b l
  | [] => by simp [look]
  | (k, c) :: l => by
    rw [List.filter_cons]
    by_cases hk : k = q
    · subst hk
      simp only [bne_self_eq_false, Bool.false_eq_true, if_false, look_filter l, look_cons]
      by_cases hb : b = k
      · rw [if_pos hb, if_pos hb]
      · rw [if_neg hb, if_neg hb, if_neg hb]
    · have : (k != q) = true := by simpa using hk
      simp only [this, if_true, look_cons, look_filter l]
      by_cases hb : b = k
      · subst hb; simp [hk]
      · simp [hb]

/-- Which blocks an effect turns. -/
def touch (o : Oper) (ρ : List AV) (nx : Nat) : List Nat :=
  match o.op with
  | .store _ p _ => match aev ρ p with | .ptr b _ => [b] | _ => []
  | .call { callee := .builtin .append, args := ⟨[s, _]⟩, .. } => nx :: (match aev ρ s with | .sl b _ _ _ => [b] | _ => [])
  | .buildSlice _ _ _ => []
  | _ => [nx]

theorem eop_touch {P : Program} {own : Bool} {o : Oper} {ρ : List AV} {v : H} {r : AV × H} (h : eop P own o ρ v = some r) {b : Nat} (hb : b ∉ touch o ρ v.next) : r.2.get b = v.get b := by
  unfold eop at h
  split at h <;> rename_i hop <;> first | (cases h; done) | skip
  · obtain ⟨T, _, h⟩ := tyInt2_some h; cases h
    simp only [touch, hop, List.mem_singleton] at hb
    simp [H.push, hb]
  · split at h
    · cases h
      simp only [touch, hop, List.mem_singleton] at hb
      simp [H.push, hb]
    · cases h
  · obtain ⟨T, _, h⟩ := tyInt2_some h
    unfold storeA at h
    split at h
    · rename_i b' o' l hp hl
      split at h
      · split at h
        · cases h
          simp only [touch, hop, hp, List.mem_singleton] at hb
          simp [H.set, hb]
        · cases h
      · cases h
    · cases h
  · obtain ⟨T, _, h⟩ := tyInt2_some h
    split at h
    · obtain ⟨E, _, h⟩ := tyInt2_some h
      unfold buildSliceA at h
      split at h
      · split at h
        · split at h
          · cases h; rfl
          · cases h
        · cases h
      · cases h
    · cases h
  · obtain ⟨T, _, h⟩ := tyInt2_some h
    split at h
    · obtain ⟨E, _, h⟩ := tyInt2_some h
      split at h
      · unfold makeSliceA at h
        split at h
        · cases h
          simp only [touch, hop, List.mem_singleton] at hb
          simp [H.push, hb]
        · cases h
      · cases h
    · cases h
  · obtain ⟨T, _, h⟩ := tyInt2_some h
    obtain ⟨TX, _, h⟩ := tyInt2_some h
    split at h
    · obtain ⟨E, _, h⟩ := tyInt2_some h
      simp only [touch, hop, List.mem_cons, not_or] at hb
      unfold appendA at h
      split at h
      · cases h
      · split at h
        · split at h
          · rename_i hs
            rw [hs] at hb
            simp only [List.mem_cons, List.not_mem_nil, or_false] at hb
            split at h
            · split at h
              · split at h
                · cases h
                  simp only
                  rw [if_neg hb.1, if_neg hb.2]
                · split at h
                  · cases h
                    simp only
                    rw [if_neg hb.1, if_neg hb.2]
                  · cases h
              · cases h
            · cases h
          · split at h
            · split at h
              · split at h
                · cases h; rfl
                · cases h; simp [H.push, hb.1]
              · split at h
                · cases h; rfl
                · cases h
            · cases h
          · split at h
            · split at h
              · split at h
                · cases h; rfl
                · cases h; simp [H.push, hb.1]
              · cases h; rfl
            · cases h
          · cases h
        · cases h
    · cases h

section
variable (C : Cells → AV → List AV → Sx → Option (AV × Sx)) (P : Program)

/-- One operation. -/
def evStep (base : Cells) (o : Oper) (ρ : List AV) (s : Sx) : Option (AV × Sx) :=
  match o.op with
  | .call { callee := .value f, args, .. } => C base (aev ρ f) (args.toList.map (aev ρ)) s
  | _ => match pop P o ρ (s.h base) with
    | some x => some (x, s)
    | none => match eop P true o ρ (s.h base) with
      | some (x, r) => some (x, { next := r.next, top := (touch o ρ s.next).map (fun b => (b, r.get b)) ++ s.top, lps := s.lps })
      | none => none

def evOps (base : Cells) (all : Array Oper) : List Oper → List AV → Sx → Option (List AV × Sx)
  | [], ρ, s => some (ρ, s)
  | o :: rest, ρ, s =>
    match o.guard with
    | none => match evStep C P base o ρ s with
      | some (x, s') => evOps base all rest (putA ρ o.dst x) s'
      | none => none
    | some (j, want) => match (all[j]?).bind (·.dst) with
      | some d => match ρ.getD d (.val undef) with
        | .val (.bool b) => bif b == want then (match evStep C P base o ρ s with
            | some (x, s') => evOps base all rest (putA ρ o.dst x) s'
            | none => none)
          else evOps base all rest (putA ρ o.dst (.val undef)) s
        | .val (.tuple _) => evOps base all rest (putA ρ o.dst (.val undef)) s
        | _ => none
      | none => none

/-- What a call may be. -/
def CallOK : Prop := ∀ base x args s y s', C base x args s = some (y, s') → (∃ g caps, x = .clo g caps ∧ Fn P g (args ++ caps) (s.h base) y (s'.h base)) ∨ (∃ b, x = .yld b ∧ Rd P b args (s.h base) y (s'.h base))

variable {C} {P}
theorem evStep_sound (hC : CallOK C P) {base : Cells} {o : Oper} {ρ : List AV} {s s' : Sx} {x : AV} (h : evStep C P base o ρ s = some (x, s')) {K : List AV → H → Prop} (hK : K (putA ρ o.dst x) (s'.h base)) : stepA P (fun _ => true) o K ρ (s.h base) := by
  unfold evStep at h
  unfold stepA
  split at h
  · rename_i f args ats hop
    simp only [hop]
    rcases hC _ _ _ _ _ _ h with ⟨g, caps, e1, e2⟩ | ⟨b, e1, e2⟩
    · rw [e1]; exact ⟨x, _, e2, hK⟩
    · rw [e1]; exact ⟨x, _, e2, hK⟩
  · rename_i hnc
    have hgoal : onSome (stepV P true o ρ (s.h base)) (fun r => K (putA ρ o.dst r.1) r.2) .mk := by
      unfold stepV pickV onSome
      split at h
      · rename_i y hy
        cases h
        simp only [hy]; exact hK
      · rename_i hy
        simp only [hy]
        split at h
        · rename_i y r hr
          cases h
          simp only [hr]
          have : ({ next := r.next, top := (touch o ρ s.next).map (fun b => (b, r.get b)) ++ s.top, lps := s.lps } : Sx).h base = r := by
            have e1 := eop_lp hr
            have e2 : (fun b => look b ((touch o ρ s.next).map (fun b => (b, r.get b)) ++ s.top ++ base)) = r.get := by
              funext b
              rw [List.append_assoc, look_map]
              split
              · rfl
              · rename_i hb; exact (eop_touch hr (b := b) hb).symm
            simp only [Sx.h] at e1 e2 ⊢
            rw [e2, ← e1]
          rw [this] at hK; exact hK
        · cases h
    split
    · rename_i f args ats hop; exact (hnc _ _ _ hop).elim
    · exact hgoal

theorem evOps_sound (hC : CallOK C P) {base : Cells} {all : Array Oper} {Q : List AV → H → Prop} : ∀ (l : List Oper) (ρ : List AV) (s : Sx) (ρ' : List AV) (s' : Sx), evOps C P base all l ρ s = some (ρ', s') → Q ρ' (s'.h base) → vcOps P (fun _ => true) all Q l ρ (s.h base)
  | [], ρ, s, ρ', s', h, hq => by cases h; exact hq
  | o :: rest, ρ, s, ρ', s', h, hq => by
    have one : ∀ {x s1}, evStep C P base o ρ s = some (x, s1) → evOps C P base all rest (putA ρ o.dst x) s1 = some (ρ', s') → stepA P (fun _ => true) o (vcOps P (fun _ => true) all Q rest) ρ (s.h base) := fun h1 h2 =>
      evStep_sound hC h1 (evOps_sound hC rest _ _ _ _ h2 hq)
    simp only [evOps] at h
    simp only [vcOps]
    split at h
    · rename_i hg
      split at h
      · rename_i x s1 hs; simp only [hg]; exact one hs h
      · cases h
    · rename_i j want hg
      simp only [hg]
      split at h
      · rename_i d hd
        simp only [hd, onSome]
        split at h
        · rename_i b hb
          simp only [hb, onBool]
          cases hbw : (b == want) with
          | true =>
            rw [hbw] at h
            simp only [cond_true] at h
            have : b = want := by simpa using hbw
            subst this
            rw [set_same hb]
            split at h
            · rename_i x s1 hs; exact one hs h
            · cases h
          | false =>
            rw [hbw] at h
            simp only [cond_false] at h
            have : b = !want := by cases b <;> cases want <;> simp_all
            subst this
            rw [set_same hb]
            exact evOps_sound hC rest _ _ _ _ h hq
        · rename_i tt hb
          simp only [hb, onBool]
          exact evOps_sound hC rest _ _ _ _ h hq
        · cases h
      · cases h
end

end Go.Pe

/- Statements whose order is open, on known values. -/
namespace Go.Pe
open Go

/-- Which old blocks a load reads. -/
def reads (o : Oper) (ρ : List AV) : List Nat := match o.op with
  | .load _ p => match aev ρ p with | .ptr b _ => [b] | _ => []
  | _ => []
def isCall (o : Oper) : Bool := match o.op with | .call { callee := .value _, .. } => true | _ => false

theorem pop_reads {P : Program} {o : Oper} {ρ : List AV} {q q' : H} {x : AV} (h : pop P o ρ q = some x) (hr : ∀ b ∈ reads o ρ, q'.get b = q.get b) : pop P o ρ q' = some x := by
  unfold reads at hr
  unfold pop at h ⊢
  split at h <;> rename_i hop <;> first | (cases h; done) | skip
  all_goals first
    | exact h
    | (rw [hop] at hr
       simp only at hr
       unfold tyInt at h ⊢
       split at h
       · unfold loadA at h ⊢
         split at h
         · rename_i b o' hp
           simp only [hp] at hr ⊢
           rw [hr b (by simp)]; exact h
         · rename_i cs hp
           simp only [hp]; exact h
         · cases h
       · cases h)

/-- The blocks that a value leads to. -/
def reach (g : Nat → Option (List AV)) : Nat → AV → List Nat
  | 0, _ => []
  | n + 1, x => match x with
    | .ptr b _ => b :: (match g b with | some cs => cs.flatMap (reach g n) | none => [])
    | .sl b _ _ _ => b :: (match g b with | some cs => cs.flatMap (reach g n) | none => [])
    | .agg l => l.flatMap (reach g n)
    | .tup l => l.flatMap (reach g n)
    | .clo _ l => l.flatMap (reach g n)
    | _ => []

/-- What a draw has noted: the effects with their old blocks, the reads, the quiet operations. -/
structure Note where
  eff : List (Nat × List Nat)
  rds : List (Nat × Nat)
  qt : List Nat

def eViewF (all : Array Oper) (h0n i nx : Nat) (o : Oper) (F : List Nat) (g : Nat → Option (List AV)) : H :=
  { next := nx, get := fun b => if (fpn all i o).any (fun j => h0n + j == b) || F.contains b then g b else none, lp := fun _ => none }
theorem eViewF_eq {all : Array Oper} {ct : Cert} {h0 : H} {i nx : Nat} {o : Oper} {F : List Nat} {g : Nat → Option (List AV)} (h : fpo ct i = F) : eView all ct h0 i nx o g = eViewF all h0.next i nx o F g := by
  unfold eView eViewF; rw [h]

section
variable (C : Cells → AV → List AV → Sx → Option (AV × Sx)) (P : Program)

/-- An old block behind a call, made to be read alone. -/
def frz1 (hh : H) (N : Nat) (g : Nat → Option (List AV)) (b : Nat) : Option (List AV) :=
  match g b, hh.get b with
  | some _, some ds => ds.mapM (frz 30 hh N)
  | _, _ => none

def drStep (base : Cells) (all : Array Oper) (h0 : H) (i : Nat) (o : Oper) (ρ : List AV) (G : Cells) : Option (AV × Cells × Note) :=
  if effectful o.op then
    let F := (touch o ρ (h0.next + i)).filter (fun b => decide (b < h0.next))
    let v := eViewF all h0.next i (h0.next + i) o F (fun b => look b (G ++ base))
    match eop P true o ρ v with
    | some (x, r) => some (x, (touch o ρ (h0.next + i)).map (fun b => (b, mergeG (fun b => look b (G ++ base)) v r b)) ++ G, { eff := [(i, F)], rds := [], qt := [] })
    | none => none
  else match o.op with
    | .call { callee := .value f, args, .. } =>
      let xs := args.toList.map (aev ρ)
      let F := (reach (fun b => look b (G ++ base)) 30 (.tup (aev ρ f :: xs))).eraseDups
      let vb : Cells := F.map (fun b => (b, look b (G ++ base)))
      match aev ρ f with
      | .clo _ _ => match C vb (aev ρ f) xs { next := h0.next + all.size, top := [], lps := [] } with
        | some (y, s2) => match frz 30 (s2.h vb) (h0.next + all.size) y with
          | some x => bif F.all (fun b => decide (b < h0.next + all.size)) then some (x, F.map (fun b => (b, frz1 (s2.h vb) (h0.next + all.size) (fun b => look b (G ++ base)) b)) ++ G, { eff := [(i, F)], rds := [], qt := [] }) else none
          | none => none
        | none => none
      | _ => none
    | _ => match pop P o ρ { next := h0.next + all.size, get := h0.get, lp := fun _ => none } with
      | some x => some (x, G, { eff := [], rds := (reads o ρ).map (fun b => (i, b)), qt := [i] })
      | none => none

def drW (base : Cells) (all : Array Oper) (h0 : H) : List Oper → Nat → List AV → Cells → Option (List AV × Cells × Note)
  | [], _, ρ, G => some (ρ, G, { eff := [], rds := [], qt := [] })
  | o :: rest, i, ρ, G =>
    match o.guard with
    | none => match drStep C P base all h0 i o ρ G with
      | some (x, G', n) => match drW base all h0 rest (i + 1) (putA ρ o.dst x) G' with
        | some (ρ', G'', n') => some (ρ', G'', { eff := n.eff ++ n'.eff, rds := n.rds ++ n'.rds, qt := n.qt ++ n'.qt })
        | none => none
      | none => none
    | some (j, want) => match (all[j]?).bind (·.dst) with
      | some d => match ρ.getD d (.val undef) with
        | .val (.bool b) => bif b == want then (match drStep C P base all h0 i o ρ G with
            | some (x, G', n) => match drW base all h0 rest (i + 1) (putA ρ o.dst x) G' with
              | some (ρ', G'', n') => some (ρ', G'', { eff := n.eff ++ n'.eff, rds := n.rds ++ n'.rds, qt := n.qt ++ n'.qt })
              | none => none
            | none => none)
          else drW base all h0 rest (i + 1) (putA ρ o.dst (.val undef)) G
        | .val (.tuple _) => drW base all h0 rest (i + 1) (putA ρ o.dst (.val undef)) G
        | _ => none
      | none => none

/-- The notes and what is said fit. -/
def fits (ct : Cert) (n : Note) : Prop := (∀ p ∈ n.eff, fpo ct p.1 = p.2 ∧ ct.eff.any (fun q => q.1 == p.1) = true) ∧ (∀ p ∈ n.rds, ct.M.contains p.2 = true → ct.see.contains p = true) ∧ ∀ i ∈ n.qt, ct.eff.any (fun q => q.1 == i) = false
def fitsB (ct : Cert) (n : Note) : Bool := (n.eff.all fun p => fpo ct p.1 == p.2 && ct.eff.any (fun q => q.1 == p.1)) && (n.rds.all fun p => !ct.M.contains p.2 || ct.see.contains p) && n.qt.all fun i => !ct.eff.any (fun q => q.1 == i)
theorem fits_of {ct : Cert} {n : Note} (h : fitsB ct n = true) : fits ct n := by
  simp only [fitsB, Bool.and_eq_true, List.all_eq_true, beq_iff_eq, Bool.or_eq_true, Bool.not_eq_true'] at h
  refine ⟨fun p hp => h.1.1 p hp, fun p hp hm => ?_, fun i hi => h.2 i hi⟩
  rcases h.1.2 p hp with h1 | h1
  · rw [hm] at h1; cases h1
  · exact h1

def evDraw (base : Cells) (ops : Array Oper) (ρ : List AV) (s : Sx) : Option (List AV × Sx) :=
  match drW C P (s.top ++ base) ops (s.h base) ops.toList 0 ρ [] with
  | some (ρ', G, n) =>
    let M := (n.eff.flatMap (·.2)).eraseDups
    let ct : Cert := { M := M, see := n.rds.filter fun p => M.contains p.2, eff := n.eff }
    bif P.follows .mixedOrders && tmpsApart ops && fpsApart ops ct && fitsB ct n && M.all (fun b => decide (b < s.next)) then some (ρ', { next := s.next + ops.size, top := G ++ s.top, lps := s.lps }) else none
  | none => none

variable {C} {P}
theorem drStep_sound (hC : CallOK C P) {base : Cells} {all : Array Oper} {h0 : H} {i : Nat} {o : Oper} {ρ : List AV} {G G' : Cells} {x : AV} {n : Note} {ct : Cert} (h : drStep C P base all h0 i o ρ G = some (x, G', n)) (hf : fits ct n) {K : AV → (Nat → Option (List AV)) → Prop}
    (hK : K x (fun b => look b (G' ++ base))) :
    if quietA ct i o then stepQ P o (qView ct h0 all.size i) (fun y => K y (fun b => look b (G ++ base))) ρ
    else stepE P true o (eView all ct h0 i (h0.next + i) o (fun b => look b (G ++ base))) (eView all ct h0 i (h0.next + all.size) o (fun b => look b (G ++ base))) (fun y h' => K y (mergeG (fun b => look b (G ++ base)) (eView all ct h0 i (h0.next + i) o (fun b => look b (G ++ base))) h')) ρ := by
  obtain ⟨f1, f2, f3⟩ := hf
  unfold drStep at h
  split at h
  · rename_i he
    simp only at h
    split at h
    · rename_i y r hr
      cases h
      obtain ⟨q1, q2⟩ := f1 (i, _) (List.mem_singleton.2 rfl)
      simp only at q1 q2
      have hq : quietA ct i o = false := by unfold quietA; rw [q2, he]; rfl
      rw [hq]
      simp only [Bool.false_eq_true, if_false]
      unfold stepE
      split
      · rename_i f args ats hop; rw [hop] at he; simp [effectful] at he
      · rw [eViewF_eq q1]
        unfold onSome
        rw [hr]
        simp only
        have : mergeG (fun b => look b (G ++ base)) (eViewF all h0.next i (h0.next + i) o ((touch o ρ (h0.next + i)).filter (fun b => decide (b < h0.next))) (fun b => look b (G ++ base))) r =
            fun b => look b ((touch o ρ (h0.next + i)).map (fun b => (b, mergeG (fun b => look b (G ++ base)) (eViewF all h0.next i (h0.next + i) o ((touch o ρ (h0.next + i)).filter (fun b => decide (b < h0.next))) (fun b => look b (G ++ base))) r b)) ++ G ++ base) := by
          funext b
          rw [List.append_assoc, look_map]
          split
          · rfl
          · rename_i hb
            have ht := eop_touch hr (b := b) hb
            unfold mergeG
            rw [ht]
            split
            · rename_i hs
              simp only [Bool.or_self] at hs
              simp only [eViewF] at hs ⊢
              split
              · rfl
              · rename_i hc; rw [if_neg hc] at hs; cases hs
            · rfl
        rw [this]; exact hK
    · cases h
  · rename_i he
    have he' : effectful o.op = false := by simpa using he
    split at h
    · rename_i f args ats hop
      simp only at h
      split at h
      · rename_i g caps hg
        split at h
        · rename_i y s2 hs2
          split at h
          · rename_i x' hx'
            cases hall : ((reach (fun b => look b (G ++ base)) 30 (.tup (AV.clo g caps :: args.toList.map (aev ρ)))).eraseDups).all (fun b => decide (b < h0.next + all.size)) with
            | false => rw [hg] at h; rw [hall] at h; cases h
            | true =>
              rw [hg] at h hs2 hx'
              rw [hall] at h
              simp only [cond_true, Option.some.injEq, Prod.mk.injEq] at h
              obtain ⟨rfl, rfl, rfl⟩ := h
              generalize (reach (fun b => look b (G ++ base)) 30 (.tup (AV.clo g caps :: args.toList.map (aev ρ)))).eraseDups = F at hs2 hx' hall hK f1
              obtain ⟨q1, q2⟩ := f1 (i, F) (List.mem_singleton.2 rfl)
              simp only at q1 q2
              have hq : quietA ct i o = false := by unfold quietA; rw [q2, he']; rfl
              rw [hq]
              simp only [Bool.false_eq_true, if_false]
              have hfpn : fpn all i o = [] := by unfold fpn storeNew; rw [hop]; rfl
              have hview : ∀ nx, eView all ct h0 i nx o (fun b => look b (G ++ base)) = { next := nx, get := fun b => if b ∈ F then look b (G ++ base) else none, lp := fun _ => none } := fun nx => by
                rw [eViewF_eq q1]
                unfold eViewF
                rw [hfpn]
                congr 1
                funext b
                simp
              have hvb : ({ next := h0.next + all.size, top := [], lps := [] } : Sx).h (F.map fun b => (b, look b (G ++ base))) = eView all ct h0 i (h0.next + all.size) o (fun b => look b (G ++ base)) := by
                rw [hview]
                simp only [Sx.h, List.nil_append]
                congr 1
                funext b
                have := look_map (f := fun b => look b (G ++ base)) (l := []) (b := b) F
                rw [List.append_nil] at this
                rw [this]; rfl
              unfold stepE
              rw [hop]
              simp only
              rw [hg]
              rcases hC _ _ _ _ _ _ hs2 with ⟨g', caps', e1, e2⟩ | ⟨b, e1, e2⟩
              · cases e1
                rw [hvb] at e2
                refine ⟨x', { next := h0.next + all.size, get := fun b => if b ∈ F then frz1 (s2.h (F.map fun b => (b, look b (G ++ base)))) (h0.next + all.size) (fun b => look b (G ++ base)) b else none, lp := fun _ => none }, Fn.freeze (k := 30) e2 (by rw [hview]) (by rw [hview]; exact hx') (fun b cs hb => ?_) (fun b r hb => by cases hb), by rw [hview], fun b hb => ?_, fun _ => rfl, ?_⟩
                · simp only at hb
                  split at hb
                  · rename_i hbF
                    unfold frz1 at hb
                    split at hb
                    · rename_i d1 d2 hd1 hd2
                      rw [hview]
                      exact ⟨d2, 30, hd2, by simpa using (List.all_eq_true.1 hall) b hbF, hb⟩
                    · cases hb
                  · cases hb
                · rw [hview] at hb
                  simp only at hb ⊢
                  split
                  · rename_i hbF
                    rw [if_pos hbF] at hb
                    unfold frz1; simp only [hb]
                  · rfl
                · have : mergeG (fun b => look b (G ++ base)) (eView all ct h0 i (h0.next + i) o (fun b => look b (G ++ base))) { next := h0.next + all.size, get := fun b => if b ∈ F then frz1 (s2.h (F.map fun b => (b, look b (G ++ base)))) (h0.next + all.size) (fun b => look b (G ++ base)) b else none, lp := fun _ => none } =
                      fun b => look b (F.map (fun b => (b, frz1 (s2.h (F.map fun b => (b, look b (G ++ base)))) (h0.next + all.size) (fun b => look b (G ++ base)) b)) ++ G ++ base) := by
                    funext b
                    rw [List.append_assoc, look_map, hview]
                    unfold mergeG
                    simp only
                    by_cases hbF : b ∈ F
                    · simp only [hbF, if_true]
                      cases hgb : look b (G ++ base) with
                      | none => simp [frz1, hgb]
                      | some cs => simp
                    · simp [hbF]
                  simp only
                  rw [this]; exact hK
              · cases e1
          · cases h
        · cases h
      · cases h
    · rename_i hnc
      split at h
      · rename_i y hy
        cases h
        have hq : quietA ct i o = true := by unfold quietA; rw [he', f3 i (List.mem_singleton.2 rfl)]; rfl
        rw [hq]
        simp only [if_true]
        unfold stepQ
        split
        · rename_i f args ats hop; exact (hnc _ _ _ hop).elim
        · have := pop_reads (q' := qView ct h0 all.size i) hy (fun b hb => by
            simp only [qView]
            split
            · rename_i hc
              simp only [Bool.and_eq_true, Bool.not_eq_true'] at hc
              have := f2 (i, b) (List.mem_map.2 ⟨b, hb, rfl⟩) hc.1
              rw [hc.2] at this; cases this
            · rfl)
          unfold onSome
          rw [this]; exact hK
      · cases h

theorem fits_app {ct : Cert} {n n' : Note} (h : fits ct { eff := n.eff ++ n'.eff, rds := n.rds ++ n'.rds, qt := n.qt ++ n'.qt }) : fits ct n ∧ fits ct n' :=
  ⟨⟨fun p hp => h.1 p (List.mem_append_left _ hp), fun p hp => h.2.1 p (List.mem_append_left _ hp), fun i hi => h.2.2 i (List.mem_append_left _ hi)⟩,
   ⟨fun p hp => h.1 p (List.mem_append_right _ hp), fun p hp => h.2.1 p (List.mem_append_right _ hp), fun i hi => h.2.2 i (List.mem_append_right _ hi)⟩⟩

theorem drW_sound (hC : CallOK C P) {base : Cells} {all : Array Oper} {h0 : H} {ct : Cert} {Q : List AV → H → Prop} : ∀ (l : List Oper) (i : Nat) (ρ : List AV) (G : Cells) (ρ' : List AV) (G' : Cells) (n : Note), drW C P base all h0 l i ρ G = some (ρ', G', n) → fits ct n →
    Q ρ' { next := h0.next + all.size, get := fun b => look b (G' ++ base), lp := h0.lp } → vcDr P (fun _ => true) ct all h0 Q l i ρ (fun b => look b (G ++ base))
  | [], i, ρ, G, ρ', G', n, h, _, hq => by cases h; exact hq
  | o :: rest, i, ρ, G, ρ', G', n, h, hf, hq => by
    have one : ∀ {x G1 n1 ρ2 G2 n2}, drStep C P base all h0 i o ρ G = some (x, G1, n1) → drW C P base all h0 rest (i + 1) (putA ρ o.dst x) G1 = some (ρ2, G2, n2) → ρ2 = ρ' → G2 = G' → n = { eff := n1.eff ++ n2.eff, rds := n1.rds ++ n2.rds, qt := n1.qt ++ n2.qt } →
        (if quietA ct i o then stepQ P o (qView ct h0 all.size i) (fun x => vcDr P (fun _ => true) ct all h0 Q rest (i + 1) (putA ρ o.dst x) (fun b => look b (G ++ base))) ρ
        else stepE P true o (eView all ct h0 i (h0.next + i) o (fun b => look b (G ++ base))) (eView all ct h0 i (h0.next + all.size) o (fun b => look b (G ++ base))) (fun x h' => vcDr P (fun _ => true) ct all h0 Q rest (i + 1) (putA ρ o.dst x) (mergeG (fun b => look b (G ++ base)) (eView all ct h0 i (h0.next + i) o (fun b => look b (G ++ base))) h')) ρ) := fun h1 h2 e1 e2 e3 => by
      subst e1; subst e2; subst e3
      obtain ⟨g1, g2⟩ := fits_app hf
      exact drStep_sound hC h1 g1 (K := fun x g => vcDr P (fun _ => true) ct all h0 Q rest (i + 1) (putA ρ o.dst x) g) (drW_sound hC rest (i + 1) _ _ _ _ _ h2 g2 hq)
    simp only [drW] at h
    simp only [vcDr]
    split at h
    · rename_i hg
      simp only [hg]
      split at h
      · rename_i x G1 n1 h1
        split at h
        · rename_i ρ2 G2 n2 h2
          simp only [Option.some.injEq, Prod.mk.injEq] at h
          exact one h1 h2 h.1 h.2.1 h.2.2.symm
        · cases h
      · cases h
    · rename_i j want hg
      simp only [hg]
      split at h
      · rename_i d hd
        simp only [hd, onSome]
        split at h
        · rename_i b hb
          simp only [hb, onBool]
          cases hbw : (b == want) with
          | true =>
            rw [hbw] at h
            simp only [cond_true] at h
            have : b = want := by simpa using hbw
            subst this
            rw [set_same hb]
            split at h
            · rename_i x G1 n1 h1
              split at h
              · rename_i ρ2 G2 n2 h2
                simp only [Option.some.injEq, Prod.mk.injEq] at h
                exact one h1 h2 h.1 h.2.1 h.2.2.symm
              · cases h
            · cases h
          | false =>
            rw [hbw] at h
            simp only [cond_false] at h
            have : b = !want := by cases b <;> cases want <;> simp_all
            subst this
            rw [set_same hb]
            exact drW_sound hC rest (i + 1) _ _ _ _ _ h hf hq
        · rename_i tt hb
          simp only [hb, onBool]
          exact drW_sound hC rest (i + 1) _ _ _ _ _ h hf hq
        · cases h
      · cases h

theorem evDraw_sound (hC : CallOK C P) {base : Cells} {ops : Array Oper} {ρ ρ' : List AV} {s s' : Sx} (h : evDraw C P base ops ρ s = some (ρ', s')) {Q : List AV → H → Prop} (hq : Q ρ' (s'.h base)) :
    P.follows .mixedOrders = true ∧ tmpsApart ops = true ∧ ∃ ct, fpsApart ops ct = true ∧ Drawn P (fun _ => true) ct ops Q ρ (s.h base) := by
  unfold evDraw at h
  split at h
  · rename_i ρ1 G n hd
    simp only at h
    rw [cond_eq_ite] at h
    split at h
    · rename_i hc
      simp only [Bool.and_eq_true] at hc
      obtain ⟨⟨⟨⟨c1, c2⟩, c3⟩, c4⟩, c5⟩ := hc
      cases h
      refine ⟨c1, c2, _, c3, fun b hb => by have := (List.all_eq_true.1 c5) b hb; simp only [decide_eq_true_eq] at this; exact this, ?_⟩
      have := drW_sound (Q := Q) hC ops.toList 0 ρ [] ρ' G n hd (fits_of c4) (by
        simp only [Sx.h, List.append_assoc] at hq ⊢
        exact hq)
      exact this
    · cases h
  · cases h
end

end Go.Pe

/- A program that runs on known values: what a function comes to is computed, and so it is. -/
namespace Go.Pe
open Go

theorem Fn.freeze2 {P : Program} {f : FuncId} {args : List AV} {h h' hh : H} {x y : AV} {k : Nat} (h1 : Fn P f args h y hh) (hn : h'.next = h.next) (h2 : frz k hh h.next y = some x)
    (h3 : ∀ b cs, h'.get b = some cs → (∃ ds k, hh.get b = some ds ∧ b < h.next ∧ ds.mapM (frz k hh h.next) = some cs) ∨ (h.get b = some cs ∧ (hh.get b = some cs ∨ h.next ≤ b))) (h4 : ∀ b, h'.lp b = none) : Fn P f args h x h' := by
  refine ⟨h1.1, fun n c D w vs hr hfr hargs => (h1.2 n c D w vs hr hfr hargs).mono ?_⟩
  have live := live_of hr hfr
  rintro e w' ⟨v, c', D', rfl, g1, g2, g3, g4⟩
  obtain ⟨q1, q2, q3⟩ := frz_post (h' := h') g1 g2 g3 g4 hn h2 (fun b cs hb => by
    rcases h3 b cs hb with e1 | ⟨e1, e2⟩
    · exact e1
    · obtain ⟨l1, l2⟩ := live.1 b cs e1
      rcases e2 with e2 | e2
      · obtain ⟨k', l3⟩ := l2 hh
        exact ⟨cs, k', e2, l1, l3⟩
      · omega) (fun b r hb => by rw [h4] at hb; cases hb)
  exact ⟨v, _, D, rfl, q1, q2, q3, fun b hb => .inl hb⟩

/-- What a call has turned, made to be read alone. -/
def frzTop (hh : H) (N : Nat) : Cells → Option Cells
  | [] => some []
  | (b, c) :: l => bif Nat.blt b N then (match c with
      | some cs => match cs.mapM (frz 30 hh N), frzTop hh N l with
        | some cs', some l' => some ((b, some cs') :: l')
        | _, _ => none
      | none => match frzTop hh N l with
        | some l' => some ((b, none) :: l')
        | none => none)
    else frzTop hh N l

theorem frzTop_look {hh : H} {N : Nat} {rest : Cells} {b : Nat} {cs' : List AV} : ∀ {top pre : Cells}, frzTop hh N top = some pre → look b (pre ++ rest) = some cs' →
    (∃ cs, look b (top ++ rest) = some cs ∧ b < N ∧ cs.mapM (frz 30 hh N) = some cs') ∨ (look b rest = some cs' ∧ (look b (top ++ rest) = some cs' ∨ N ≤ b))
  | [], pre, h, hl => by cases h; exact .inr ⟨hl, .inl hl⟩
  | (q, c) :: l, pre, h, hl => by
    unfold frzTop at h
    cases hq : Nat.blt q N with
    | true =>
      have hqN : q < N := by simpa [Nat.blt_eq] using hq
      rw [hq] at h
      simp only [cond_true] at h
      cases c with
      | none =>
        simp only at h
        split at h
        · rename_i l' hl'
          cases h
          simp only [List.cons_append, look_cons] at hl ⊢
          split at hl
          · cases hl
          · rename_i hb
            rw [if_neg hb]
            exact frzTop_look hl' hl
        · cases h
      | some cs =>
        simp only at h
        split at h
        · rename_i cs1 l' h1 hl'
          cases h
          simp only [List.cons_append, look_cons] at hl ⊢
          split at hl
          · rename_i hb
            cases hl
            rw [if_pos hb]
            exact .inl ⟨cs, rfl, by omega, h1⟩
          · rename_i hb
            rw [if_neg hb]
            exact frzTop_look hl' hl
        · cases h
    | false =>
      have hqN : N ≤ q := by
        have : ¬ q < N := fun h => by have : Nat.blt q N = true := by simpa [Nat.blt_eq] using h
                                      rw [hq] at this; cases this
        omega
      rw [hq] at h
      simp only [cond_false] at h
      simp only [List.cons_append, look_cons]
      rcases frzTop_look h hl with ⟨cs, h1, h2, h3⟩ | ⟨h1, h2⟩
      · rw [if_neg (by omega)]; exact .inl ⟨cs, h1, h2, h3⟩
      · refine .inr ⟨h1, ?_⟩
        by_cases hb : b = q
        · exact .inr (by omega)
        · rw [if_neg hb]; exact h2

def isEnd : Exit → Bool
  | .normal => true
  | .ret => true
  | _ => false
theorem isEnd_or {e : Exit} (h : isEnd e = true) : e = .normal ∨ e = .ret := by cases e <;> simp_all [isEnd]

section
variable (P : Program) (kp : List Nat) (E : Option Nat → Cells → Code → List AV → Sx → Option (Exit × List AV × Sx))

def finF (fz : Bool) (base : Cells) (s s2 : Sx) (y : AV) : AV × Sx :=
  match s.lps, fz with
  | [], true => match frz 30 (s2.h (s.top ++ base)) s.next y, frzTop (s2.h (s.top ++ base)) s.next s2.top with
    | some x, some pre => (x, { next := s.next, top := pre ++ s.top, lps := [] })
    | _, _ => (y, { next := s2.next, top := s2.top ++ s.top, lps := s2.lps })
  | _, _ => (y, { next := s2.next, top := s2.top ++ s.top, lps := s2.lps })

def callF (base : Cells) (g : FuncId) (args : List AV) (s : Sx) : Option (AV × Sx) :=
  bif callable P g then
    match P.funcs[g]? with
    | some fn => match fn.body with
      | some code => match E none (s.top ++ base) code (args ++ List.replicate (fn.ntmps - args.length) (.val undef)) { next := s.next, top := [], lps := s.lps } with
        | some (e, ρ', s2) => bif isEnd e then (match resA P fn.results ρ' (s2.h (s.top ++ base)) with
            | some y => some (finF (!kp.contains g) base s s2 y)
            | none => none) else none
        | none => none
      | none => none
    | none => none
  else none

def endY (b : Nat) (s2 : Sx) (r2 : Lp) : Exit → Option (AV × Sx)
  | .normal => some (.val (.bool true), { s2 with lps := (b, some { r2 with st := .ready, pend := none }) :: s2.lps })
  | .ret => some (.val (.bool false), { s2 with lps := (b, some { r2 with st := .done, pend := some .ret }) :: s2.lps })
  | .exit id => some (.val (.bool false), { s2 with lps := (b, some { r2 with st := .done, pend := some (.exit id) }) :: s2.lps })
  | _ => none
def isReady : LoopState → Bool
  | .ready => true
  | _ => false
def callY (base : Cells) (b : Nat) (args : List AV) (s : Sx) : Option (AV × Sx) :=
  match look b s.lps with
  | some r => bif isReady r.st && Nat.beq args.length r.ps.size then
      (match E (some b) base r.assign (putPs r.ρ r.ps.toList args) s with
      | some (.normal, ρ1, s1) => match look b s1.lps with
        | some r1 => bif isReady r1.st then (match E (some b) base r.body ρ1 { s1 with lps := (b, some { r1 with st := .busy }) :: s1.lps } with
            | some (e, ρ2, s2) => match look b s2.lps with
              | some r2 => endY b s2 r2 e
              | none => none
            | none => none) else none
        | none => none
      | _ => none) else none
  | none => none

def callA (base : Cells) (x : AV) (args : List AV) (s : Sx) : Option (AV × Sx) :=
  match x with
  | .clo g caps => callF P kp E base g (args ++ caps) s
  | .yld b => callY E base b args s
  | _ => none

def SoundE : Prop := ∀ rd base code ρ s e ρ' s', E rd base code ρ s = some (e, ρ', s') → ∀ Q : Exit → List AV → H → Prop, Q e ρ' (s'.h base) → vcE P (fun _ => true) rd code Q ρ (s.h base)

variable {P} {kp} {E}
theorem callF_sound (hE : SoundE P E) {base : Cells} {g : FuncId} {args : List AV} {s s' : Sx} {y : AV} (h : callF P kp E base g args s = some (y, s')) : Fn P g args (s.h base) y (s'.h base) := by
  unfold callF at h
  rw [cond_eq_ite] at h
  split at h
  · rename_i hcall
    split at h
    · rename_i fn hf
      split at h
      · rename_i code hb
        split at h
        · rename_i e ρ' s2 hev
          rw [cond_eq_ite] at h
          split at h
          · rename_i hend
            split at h
            · rename_i z hz
              have hall : Fn P g args (s.h base) z (s2.h (s.top ++ base)) := Fn.of_vcE (fun _ => true) hcall hf hb (hE _ _ _ _ _ _ _ _ hev _ ⟨isEnd_or hend, hz, rfl⟩)
              have hun : ({ next := s2.next, top := s2.top ++ s.top, lps := s2.lps } : Sx).h base = s2.h (s.top ++ base) := by simp only [Sx.h, List.append_assoc]
              have h' := Option.some.inj h
              clear h
              unfold finF at h'
              split at h'
              · split at h'
                · rename_i x pre hx hpre
                  cases h'
                  refine Fn.freeze2 hall rfl hx (fun b cs hb => ?_) (fun b => rfl)
                  simp only [Sx.h, List.append_assoc] at hb ⊢
                  rcases frzTop_look hpre hb with ⟨ds, g1, g2, g3⟩ | ⟨g1, g2⟩
                  · exact .inl ⟨ds, 30, g1, g2, g3⟩
                  · exact .inr ⟨g1, g2⟩
                · cases h'; rw [hun]; exact hall
              · cases h'; rw [hun]; exact hall
            · cases h
          · cases h
        · cases h
      · cases h
    · cases h
  · cases h

theorem lset_h {base : Cells} {s : Sx} {b : Nat} {r : Option Lp} : ({ s with lps := (b, r) :: s.lps } : Sx).h base = (s.h base).lset b r := by
  simp only [Sx.h, H.lset]
  congr 1
  funext q
  rw [look_cons]

theorem callY_sound (hE : SoundE P E) {base : Cells} {b : Nat} {args : List AV} {s s' : Sx} {y : AV} (h : callY E base b args s = some (y, s')) : Rd P b args (s.h base) y (s'.h base) := by
  unfold callY at h
  split at h
  · rename_i r hr
    rw [cond_eq_ite] at h
    split at h
    · rename_i hc
      simp only [Bool.and_eq_true] at hc
      split at h
      · rename_i ρ1 s1 hev1
        split at h
        · rename_i r1 hr1
          rw [cond_eq_ite] at h
          split at h
          · rename_i hrd1
            split at h
            · rename_i e ρ2 s2 hev2
              split at h
              · rename_i r2 hr2
                refine Rd.of_vcE (fun _ => true) (r := r) hr (Nat.eq_of_beq_eq_true hc.2) (hE _ _ _ _ _ _ _ _ hev1 _ ⟨rfl, r1, hr1, by cases hst : r1.st <;> simp_all [isReady], ?_⟩)
                rw [← lset_h]
                refine hE _ _ _ _ _ _ _ _ hev2 _ ⟨r2, hr2, ?_⟩
                cases e with
                | normal => cases h; exact ⟨rfl, lset_h⟩
                | ret => cases h; exact ⟨rfl, lset_h⟩
                | exit id => cases h; exact ⟨rfl, lset_h⟩
                | _ => cases h
              · cases h
            · cases h
          · cases h
        · cases h
      · cases h
    · cases h
  · cases h

theorem callA_ok (hE : SoundE P E) : CallOK (callA P kp E) P := by
  intro base x args s y s' h
  unfold callA at h
  split at h
  · exact .inl ⟨_, _, rfl, callF_sound hE h⟩
  · exact .inr ⟨_, rfl, callY_sound hE h⟩
  · cases h
end

def okRd (rd : Option Nat) (s : Sx) : Bool := match rd with | none => true | some b => (look b s.lps).isSome
def isBusy : LoopState → Bool
  | .busy => true
  | _ => false
def jumpE (ρ : List AV) (s : Sx) : Option Code → Option (Exit × List AV × Sx)
  | none => some (.normal, ρ, s)
  | some .ret => some (.ret, ρ, s)
  | some (.exit id) => some (.exit id, ρ, s)
  | _ => none

/-- CODE THAT RUNS. -/
def ev (P : Program) (kp : List Nat) : Nat → Option Nat → Cells → Code → List AV → Sx → Option (Exit × List AV × Sx)
  | 0, _, _, _, _, _ => none
  | n + 1, rd, base, code, ρ, s =>
    match code with
    | .skip => some (.normal, ρ, s)
    | .region _ ops draw => bif draw then (match evDraw (callA P kp (ev P kp n)) P base ops ρ s with
        | some (ρ', s') => some (.normal, ρ', s')
        | none => none)
      else (match evOps (callA P kp (ev P kp n)) P base ops ops.toList ρ s with
        | some (ρ', s') => some (.normal, ρ', s')
        | none => none)
    | .seq x y => match ev P kp n rd base x ρ s with
      | some (.normal, ρ', s') => ev P kp n rd base y ρ' s'
      | r => r
    | .cond c x y => match aev ρ c with
      | .val (.bool b) => bif b then ev P kp n rd base x ρ s else ev P kp n rd base y ρ s
      | _ => none
    | .block id x => match ev P kp n rd base x ρ s with
      | some (.exit id', ρ', s') => bif Nat.beq id' id then some (.normal, ρ', s') else some (.exit id', ρ', s')
      | r => r
    | .loop x => match ev P kp n rd base x ρ s with
      | some (.normal, ρ', s') => ev P kp n rd base (.loop x) ρ' s'
      | r => r
    | .rangeFunc g ps assign body => match aev ρ g with
      | .clo gf caps => bif okRd rd s then (match callF P kp (ev P kp n) base gf (.yld s.next :: caps) { next := s.next + 1, top := s.top, lps := (s.next, some { ρ := ρ, ps := ps, assign := assign, body := body, st := .ready, pend := none }) :: s.lps } with
          | some (_, s2) => match look s.next s2.lps with
            | some r => bif isBusy r.st then none else jumpE ρ { s2 with lps := s2.lps.filter (fun p => p.1 != s.next) } r.pend
            | none => none
          | none => none) else none
      | _ => none
    | .exit id => some (.exit id, ρ, s)
    | .ret => some (.ret, ρ, s)
    | _ => none

theorem ev_sound (P : Program) (kp : List Nat) : ∀ n, SoundE P (ev P kp n) := by
  intro n
  induction n using Nat.strongRecOn with
  | _ n ih =>
    intro rd base code ρ s e ρ' s' h Q hq
    cases n with
    | zero => simp [ev] at h
    | succ n =>
      have ihn := ih n (Nat.lt_succ_self n)
      have hC := callA_ok (kp := kp) ihn
      unfold ev at h
      cases code with
      | skip => cases h; exact hq
      | region id ops draw =>
        cases draw with
        | true =>
          simp only [cond_true] at h
          split at h
          · rename_i ρ1 s1 hd; cases h; exact evDraw_sound (Q := Q .normal) hC hd hq
          · cases h
        | false =>
          simp only [cond_false] at h
          split at h
          · rename_i ρ1 s1 hd; cases h; exact evOps_sound (Q := Q .normal) hC ops.toList ρ s _ _ hd hq
          · cases h
      | seq x y =>
        simp only at h
        split at h
        · rename_i ρ1 s1 h1
          exact ihn _ _ _ _ _ _ _ _ h1 _ (ihn _ _ _ _ _ _ _ _ h Q hq)
        · rename_i r hne
          refine ihn _ _ _ _ _ _ _ _ h _ ?_
          cases e with
          | normal => exact (hne _ _ h).elim
          | _ => exact hq
      | cond c x y =>
        simp only at h
        simp only [vcE]
        split at h
        · rename_i b hb
          rw [hb]
          cases b with
          | true => exact ihn _ _ _ _ _ _ _ _ h Q hq
          | false => exact ihn _ _ _ _ _ _ _ _ h Q hq
        · cases h
      | block id x =>
        simp only at h
        split at h
        · rename_i id' ρ1 s1 h1
          rw [cond_eq_ite] at h
          refine ihn _ _ _ _ _ _ _ _ h1 _ ?_
          simp only
          split at h
          · rename_i hb; cases h; rw [if_pos (Nat.eq_of_beq_eq_true hb)]; exact hq
          · rename_i hb; cases h; rw [if_neg (fun he => hb (by rw [he]; exact Nat.beq_refl id))]; exact hq
        · rename_i r hne
          refine ihn _ _ _ _ _ _ _ _ h _ ?_
          cases e with
          | exit id' => exact (hne _ _ _ h).elim
          | _ => exact hq
      | loop x =>
        refine ⟨fun j ρ h => ∃ s1, h = s1.h base ∧ j ≤ n + 1 ∧ ev P kp j rd base (.loop x) ρ s1 = some (e, ρ', s'), ⟨n + 1, s, rfl, Nat.le_refl _, by unfold ev; exact h⟩, ?_⟩
        rintro j ρ0 h0 ⟨s1, rfl, hj, hev⟩
        cases j with
        | zero => simp [ev] at hev
        | succ j =>
          have ihj := ih j (by omega)
          unfold ev at hev
          simp only at hev
          split at hev
          · rename_i ρ1 s2 h1
            exact ihj _ _ _ _ _ _ _ _ h1 _ ⟨j, Nat.lt_succ_self j, s2, rfl, by omega, hev⟩
          · rename_i r hne
            refine ihj _ _ _ _ _ _ _ _ hev _ ?_
            cases e with
            | normal => exact (hne _ _ hev).elim
            | _ => exact hq
      | rangeFunc g ps assign body =>
        simp only at h
        simp only [vcE, Ranged]
        split at h
        · rename_i gf caps hg
          rw [cond_eq_ite] at h
          split at h
          · rename_i hrd
            split at h
            · rename_i x s2 hcall
              split at h
              · rename_i r hr
                rw [cond_eq_ite] at h
                split at h
                · cases h
                · rename_i hbusy
                  rw [hg]
                  have hopen : ({ next := s.next + 1, top := s.top, lps := (s.next, some { ρ := ρ, ps := ps, assign := assign, body := body, st := .ready, pend := none }) :: s.lps } : Sx).h base = (s.h base).opn ρ ps assign body := by
                    simp only [Sx.h, H.opn]
                    congr 1
                    funext q
                    rw [look_cons]; rfl
                  have hF := callF_sound (kp := kp) ihn hcall
                  rw [hopen] at hF
                  refine ⟨?_, x, _, r, hF, hr, fun hs => hbusy (by rw [hs]; rfl), ?_⟩
                  · unfold rdOk; unfold okRd at hrd
                    cases rd with
                    | none => trivial
                    | some b => exact hrd
                  · have hclose : ({ s2 with lps := s2.lps.filter (fun p => p.1 != s.next) } : Sx).h base = (s2.h base).lset s.next none := by
                      simp only [Sx.h, H.lset]
                      congr 1
                      funext q
                      rw [look_filter]
                    show jumped Q r.pend ρ ((s2.h base).lset s.next none)
                    rw [← hclose]
                    unfold jumped
                    cases hp : r.pend with
                    | none => rw [hp] at h; cases h; exact hq
                    | some c =>
                      rw [hp] at h
                      cases c with
                      | ret => cases h; exact hq
                      | exit id => cases h; exact hq
                      | _ => cases h
              · cases h
            · cases h
          · cases h
        · cases h
      | exit id => cases h; exact hq
      | ret => cases h; exact hq
      | scope _ => cases h
      | label _ => cases h
      | goto _ => cases h
      | refuse _ => cases h

/-- A FUNCTION ON KNOWN VALUES. -/
def run (P : Program) (kp : List Nat) (n : Nat) (f : FuncId) (args : List AV) : Option AV := (callF P kp (ev P kp n) [] f args { next := 0, top := [], lps := [] }).map (·.1)

theorem Fn.of_run {P : Program} {kp : List Nat} {n : Nat} {f : FuncId} {args : List AV} {v : Value} (h : run P kp n f args = some (.val v)) : ∃ h', Fn P f args .nil (.val v) h' := by
  unfold run at h
  obtain ⟨⟨y, s'⟩, h1, h2⟩ := Option.map_eq_some_iff.1 h
  simp only at h2
  subst h2
  exact ⟨_, callF_sound (ev_sound P kp n) h1⟩
/-- What comes back is a plain value: nothing else is left. -/
theorem Fn.plain {P : Program} {f : FuncId} {args : List AV} {v : Value} {h' : H} (h : Fn P f args .nil (.val v) h') : Fn P f args .nil (.val v) .nil :=
  Fn.freeze (k := 1) h rfl rfl (fun b cs hb => by simp [H.nil] at hb) (fun b r hb => by simp [H.nil] at hb)

end Go.Pe
