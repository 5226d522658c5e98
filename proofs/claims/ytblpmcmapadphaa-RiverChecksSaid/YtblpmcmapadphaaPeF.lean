/- Operations that make memory or write into it. -/
import Derived.Test.YtblpmcmapadphaaPeE
import Derived.Deep.AppendSrc
set_option linter.unusedVariables false
set_option linter.unusedSimpArgs false
namespace Go.Pe
open Go

/-- A new abstract block. -/
def H.push (h : H) (cs : List AV) : H := { next := h.next + 1, get := fun b => if b = h.next then some cs else h.get b, lp := h.lp }
/-- New contents of a block. -/
def H.set (h : H) (b : Nat) (cs : List AV) : H := { next := h.next, get := fun q => if q = b then some cs else h.get q, lp := h.lp }
/-- A block that is not used any more. -/
def H.kill (h : H) (b : Nat) : H := { next := h.next, get := fun q => if q = b then none else h.get q, lp := h.lp }

def Cx.bind (c : Cx) (b k : Nat) : Cx := { S := c.S, φ := fun q => if q = b then k else c.φ q }
def Cx.keep (c : Cx) (k : Nat) : Cx := { S := fun q => c.S q ∨ q = k, φ := c.φ }

/-- A world with one block more. -/
structure Made (w w' : World) (o : Obj) : Prop where
  heap : w'.heap = w.heap.push o
  os : w'.os = w.os
  tape : w'.tape = w.tape
  output : w'.output = w.output

theorem Made.old {w w' : World} {o : Obj} (m : Made w w' o) (k : Nat) (h : k < w.heap.size) : w'.heap[k]? = w.heap[k]? := by
  rw [m.heap, Array.getElem?_push, if_neg (by omega)]
theorem Made.new {w w' : World} {o : Obj} (m : Made w w' o) : w'.heap[w.heap.size]? = some o := by
  rw [m.heap, Array.getElem?_push, if_pos rfl]
theorem Made.size {w w' : World} {o : Obj} (m : Made w w' o) : w'.heap.size = w.heap.size + 1 := by rw [m.heap, Array.size_push]
theorem Made.shp {w w' : World} {o : Obj} (m : Made w w' o) (k : Nat) (C : Array Value) (e : TypeId) (h : w.heap[k]? = some (.cells C e (0, 0))) : ∃ C', w'.heap[k]? = some (.cells C' e (0, 0)) ∧ C'.size = C.size := by
  have hk : k < w.heap.size := (Array.getElem?_eq_some_iff.1 h).1
  exact ⟨C, (m.old k hk).trans h, rfl⟩
theorem Made.fz {w w' : World} {o : Obj} (m : Made w w' o) (ho : ∀ C e lo hi, o = .cells C e (lo, hi) → hi = 0) (a : Addr) : w'.frozen? a = w.frozen? a := by
  unfold World.frozen?
  by_cases h : a.block < w.heap.size
  · rw [m.old _ h]
  · have e1 : w.heap[a.block]? = none := Array.getElem?_eq_none (by omega)
    rw [e1]
    by_cases h2 : a.block = w.heap.size
    · rw [h2, m.new]
      cases o with
      | cells C e fr =>
        obtain ⟨lo, hi⟩ := fr
        have := ho C e lo hi rfl
        subst this
        simp
      | _ => rfl
    · have e2 : w'.heap[a.block]? = none := Array.getElem?_eq_none (by rw [m.size]; omega)
      rw [e2]
theorem made_alloc (w : World) (o : Obj) : Made w (w.alloc o) o := ⟨rfl, rfl, rfl, rfl⟩
theorem made_drew (w : World) (o : Obj) : Made w (w.drew.alloc o) o := ⟨rfl, rfl, rfl, rfl⟩

def addId (D : Nat → Prop) (b : Nat) : Nat → Prop := fun q => D q ∨ q = b

/-- A NEW BLOCK OF THE CALL's OWN. -/
theorem push_ok {D : Nat → Prop} {h : H} {c : Cx} {w w' : World} {C : Array Value} {e : TypeId} {cs : List AV} (hr : Rel c D h w) (hfr : ¬ D h.next) (m : Made w w' (.cells C e (0, 0))) (hlen : cs.length ≤ C.size)
    (hcs : ∀ (j : Nat) (x : AV) (v : Value), cs[j]? = some x → C[j]? = some v → R c w D x v) :
    Rel (c.bind h.next w.heap.size) (addId D h.next) (h.push cs) w' ∧ Ext D h c w (addId D h.next) (c.bind h.next w.heap.size) w' (h.push cs) := by
  have hφ : ∀ b, D b → (c.bind h.next w.heap.size).φ b = c.φ b := fun b hb => by simp [Cx.bind]; intro e; exact absurd (e ▸ hb) hfr
  have hup : ∀ {x : AV} {v : Value}, R c w D x v → R (c.bind h.next w.heap.size) w' (addId D h.next) x v := fun hx =>
    hx.mono (fun _ h => h) (fun k hk => m.old k (hr.sz k hk)) hφ (fun _ hb => .inl hb) m.shp
  have hlive : ∀ b cs', h.get b = some cs' → D b ∧ c.φ b < w.heap.size := fun b cs' hb => by
    obtain ⟨h1, _, C', e', hblk, _⟩ := hr.own b cs' hb
    exact ⟨h1, (Array.getElem?_eq_some_iff.1 hblk).1⟩
  have hllt : ∀ b r, h.lp b = some r → c.φ b < w.heap.size := fun b r hb => hr.lp_lt hb
  constructor
  · refine ⟨fun b cs' hb => ?_, fun b b' cs1 cs2 h1 h2 he => ?_, fun k hk => ?_, hr.lps_keep (fun _ h => h) (fun k hk => m.old k (hr.sz k hk)) hφ (fun _ hb => .inl hb) m.shp (fun b r hb => m.old _ (hllt b r hb)) (fun _ _ _ h => h), hr.linj_keep hφ⟩
    · simp only [H.push] at hb
      split at hb
      · rename_i hbe
        cases hb
        subst hbe
        refine ⟨.inr rfl, fun hS => ?_, C, e, ?_, hlen, fun j x v h1 h2 => hup (hcs j x v h1 h2)⟩
        · have := hr.sz _ hS; simp [Cx.bind] at this
        · simp [Cx.bind, m.new]
      · obtain ⟨h1, h2, C', e', hblk, h4, h5⟩ := hr.own b cs' hb
        have hlt := (hlive b cs' hb).2
        rw [hφ b h1]
        exact ⟨.inl h1, h2, C', e', by rw [m.old _ hlt]; exact hblk, h4, fun j x v g1 g2 => hup (h5 j x v g1 g2)⟩
    · simp only [H.push] at h1 h2
      split at h1 <;> split at h2
      · omega
      · rename_i hb1 hb2
        have := hlive b' cs2 h2
        rw [hφ b' this.1] at he
        simp [Cx.bind, hb1] at he; omega
      · rename_i hb1 hb2
        have := hlive b cs1 h1
        rw [hφ b this.1] at he
        simp [Cx.bind, hb2] at he; omega
      · rw [hφ b (hlive b cs1 h1).1, hφ b' (hlive b' cs2 h2).1] at he
        exact hr.inj b b' cs1 cs2 h1 h2 he
    · have := hr.sz k hk; rw [m.size]; omega
  · refine ⟨fun _ h => h, fun _ h => .inl h, hφ, fun _ hb => .inl hb, Nat.le_succ _, m.os, m.tape, m.output, by rw [m.size]; omega, fun k hk _ _ => m.old k hk, m.shp, fun b cs' hb => ?_, fun b r hb => .inl ⟨b, r, hb, (hφ b (hr.lps b r hb).1).symm⟩, m.fz (fun _ _ _ _ h => by cases h; rfl)⟩
    simp only [H.push] at hb
    split at hb
    · rename_i hbe; subst hbe; exact .inr (by simp [Cx.bind])
    · exact .inl ⟨b, cs', hb, (hφ b (hlive b cs' hb).1).symm⟩

/-- A NEW BLOCK THAT STAYS AS IT IS. -/
theorem keep_ok {D : Nat → Prop} {h : H} {c : Cx} {w w' : World} {K : Array Value} {ke : TypeId} (hr : Rel c D h w) (m : Made w w' (.cells K ke (0, 0))) : Rel (c.keep w.heap.size) D h w' ∧ Ext D h c w D (c.keep w.heap.size) w' h := by
  have hup : ∀ {x : AV} {v : Value}, R c w D x v → R (c.keep w.heap.size) w' D x v := fun hx =>
    hx.mono (fun _ h => .inl h) (fun k hk => m.old k (hr.sz k hk)) (fun _ _ => rfl) (fun _ hb => hb) m.shp
  have hllt : ∀ b r, h.lp b = some r → c.φ b < w.heap.size := fun b r hb => hr.lp_lt hb
  constructor
  · refine ⟨fun b cs' hb => ?_, fun b b' cs1 cs2 h1 h2 he => hr.inj b b' cs1 cs2 h1 h2 he, fun k hk => ?_, hr.lps_keep (fun _ h => .inl h) (fun k hk => m.old k (hr.sz k hk)) (fun _ _ => rfl) (fun _ hb => hb) m.shp (fun b r hb => m.old _ (hllt b r hb)) (fun b r hb hs => ?_), hr.linj⟩
    · obtain ⟨h1, h2, C', e', hblk, h4, h5⟩ := hr.own b cs' hb
      have hlt : c.φ b < w.heap.size := (Array.getElem?_eq_some_iff.1 hblk).1
      refine ⟨h1, fun hS => ?_, C', e', by rw [show (c.keep w.heap.size).φ b = c.φ b from rfl, m.old _ hlt]; exact hblk, h4, fun j x v g1 g2 => hup (h5 j x v g1 g2)⟩
      rcases hS with hS | hS
      · exact h2 hS
      · have : c.φ b = w.heap.size := hS
        omega
    · rw [m.size]
      rcases hk with hk | hk
      · have := hr.sz k hk; omega
      · omega
    · rcases hs with hs | hs
      · exact hs
      · have := hllt b r hb; omega
  · refine ⟨fun _ h => .inl h, fun k hk => ?_, fun _ _ => rfl, fun _ hb => hb, Nat.le_refl _, m.os, m.tape, m.output, by rw [m.size]; omega, fun k hk _ _ => m.old k hk, m.shp, fun b cs' hb => .inl ⟨b, cs', hb, rfl⟩, fun b r hb => .inl ⟨b, r, hb, rfl⟩, m.fz (fun _ _ _ _ h => by cases h; rfl)⟩
    rcases hk with hk | hk
    · exact .inl hk
    · exact .inr (.inl (by omega))

/-- A world in which one block has new contents. -/
structure Put (w w' : World) (k : Nat) (C' : Array Value) (e : TypeId) : Prop where
  heap : w'.heap = w.heap.setIfInBounds k (.cells C' e (0, 0))
  os : w'.os = w.os
  tape : w'.tape = w.tape
  output : w'.output = w.output

theorem Put.old {w w' : World} {k : Nat} {C' : Array Value} {e : TypeId} (m : Put w w' k C' e) (q : Nat) (h : q ≠ k) : w'.heap[q]? = w.heap[q]? := by
  rw [m.heap, Array.getElem?_setIfInBounds, if_neg (fun e => h e.symm)]
theorem Put.new {w w' : World} {k : Nat} {C' : Array Value} {e : TypeId} (m : Put w w' k C' e) (hk : k < w.heap.size) : w'.heap[k]? = some (.cells C' e (0, 0)) := by
  rw [m.heap, Array.getElem?_setIfInBounds, if_pos rfl, if_pos hk]
theorem Put.size {w w' : World} {k : Nat} {C' : Array Value} {e : TypeId} (m : Put w w' k C' e) : w'.heap.size = w.heap.size := by rw [m.heap, Array.size_setIfInBounds]
theorem Put.shp {w w' : World} {k : Nat} {C C' : Array Value} {e : TypeId} (m : Put w w' k C' e) (hk : w.heap[k]? = some (.cells C e (0, 0))) (hs : C'.size = C.size) (q : Nat) (D : Array Value) (e' : TypeId)
    (h : w.heap[q]? = some (.cells D e' (0, 0))) : ∃ D', w'.heap[q]? = some (.cells D' e' (0, 0)) ∧ D'.size = D.size := by
  by_cases hq : q = k
  · subst hq
    rw [hk] at h; cases h
    exact ⟨C', m.new (Array.getElem?_eq_some_iff.1 hk).1, hs⟩
  · exact ⟨D, (m.old q hq).trans h, rfl⟩

/-- A STORE INTO A BLOCK OF THE CALL's OWN; the block may get another name ('n': its own, or a new one). -/
theorem put_ok {h h' : H} {c c' : Cx} {w w' : World} {b n : Nat} {C C' : Array Value} {e : TypeId} {cs cs' : List AV} {D D' : Nat → Prop} (hr : Rel c D h w) (hb : h.get b = some cs) (hblk : w.heap[c.φ b]? = some (.cells C e (0, 0)))
    (m : Put w w' (c.φ b) C' e) (hs : C'.size = C.size) (hlen : cs'.length ≤ C'.size)
    (hn : n = b ∨ ¬ D n) (hc : c' = c.bind n (c.φ b)) (hDD : ∀ q, D q → D' q) (hDn : D' n) (hnn : h.next ≤ h'.next) (hget : ∀ q, h'.get q = if q = n then some cs' else if q = b then none else h.get q) (hlp : h'.lp = h.lp)
    (hcs : ∀ (j : Nat) (x : AV) (v : Value), cs'[j]? = some x → C'[j]? = some v → R c w D x v) :
    Rel c' D' h' w' ∧ Ext D h c w D' c' w' h' := by
  subst hc
  obtain ⟨hbn, hbS, _⟩ := hr.own b cs hb
  have hbk : c.φ b < w.heap.size := (Array.getElem?_eq_some_iff.1 hblk).1
  have hφ : ∀ q, D q → (c.bind n (c.φ b)).φ q = c.φ q := fun q hq => by
    simp only [Cx.bind]; split
    · rename_i he; subst he; rcases hn with hn | hn
      · rw [hn]
      · exact absurd hq hn
    · rfl
  have hshp := m.shp hblk hs
  have hfix : ∀ k, c.S k → w'.heap[k]? = w.heap[k]? := fun k hk => m.old k (fun e => hbS (e ▸ hk))
  have hup : ∀ {x : AV} {v : Value}, R c w D x v → R (c.bind n (c.φ b)) w' D' x v := fun hx => hx.mono (fun _ h => h) hfix hφ hDD hshp
  have hnφ : (c.bind n (c.φ b)).φ n = c.φ b := by simp [Cx.bind]
  constructor
  · refine ⟨fun q ds hq => ?_, fun q q' d1 d2 h1 h2 he => ?_, fun k hk => by rw [m.size]; exact hr.sz k hk, by rw [hlp]; exact hr.lps_keep (fun _ h => h) hfix hφ hDD hshp (fun q r hq => m.old _ (hr.apart (b' := b) hq hblk)) (fun _ _ _ h => h), by rw [hlp]; exact hr.linj_keep hφ⟩
    · rw [hget] at hq
      split at hq
      · rename_i hqn; cases hq; subst hqn
        exact ⟨hDn, by rw [hnφ]; exact hbS, C', e, by rw [hnφ]; exact m.new hbk, hlen, fun j x v h1 h2 => hup (hcs j x v h1 h2)⟩
      · split at hq
        · cases hq
        · rename_i hqn hqb
          obtain ⟨g1, g2, K, e', gblk, g4, g5⟩ := hr.own q ds hq
          rw [hφ q g1]
          have hne : c.φ q ≠ c.φ b := fun e => hqb (hr.inj q b ds cs hq hb e)
          exact ⟨hDD _ g1, g2, K, e', by rw [m.old _ hne]; exact gblk, g4, fun j x v h1 h2 => hup (g5 j x v h1 h2)⟩
    · rw [hget] at h1 h2
      split at h1 <;> split at h2
      · omega
      · split at h2
        · cases h2
        · rename_i e1 e2 e3
          have g1 := (hr.own q' d2 h2).1
          rw [hφ q' g1, e1, hnφ] at he
          exact absurd (hr.inj q' b d2 cs h2 hb he.symm) e3
      · split at h1
        · cases h1
        · rename_i e1 e2 e3
          have g1 := (hr.own q d1 h1).1
          rw [hφ q g1, e2, hnφ] at he
          exact absurd (hr.inj q b d1 cs h1 hb he) e3
      · split at h1
        · cases h1
        · split at h2
          · cases h2
          · rw [hφ q (hr.own q d1 h1).1, hφ q' (hr.own q' d2 h2).1] at he
            exact hr.inj q q' d1 d2 h1 h2 he
  · refine ⟨fun _ h => h, fun _ h => .inl h, hφ, hDD, hnn, m.os, m.tape, m.output, by rw [m.size]; exact Nat.le_refl _, fun k hk hno _ => m.old k (fun e => hno b cs hb e.symm), hshp, fun q ds hq => ?_, fun q r hq => .inl ⟨q, r, by rw [← hlp]; exact hq, (hφ q (hr.lps q r (by rw [← hlp]; exact hq)).1).symm⟩, fun a => ?_⟩
    rotate_left
    · unfold World.frozen?
      by_cases ha : a.block = c.φ b
      · rw [ha, m.new hbk, hblk]
      · rw [m.old _ ha]
    rw [hget] at hq
    split at hq
    · rename_i hqn; subst hqn; exact .inl ⟨b, cs, hb, hnφ.symm⟩
    · split at hq
      · cases hq
      · exact .inl ⟨q, ds, hq, (hφ q (hr.own q ds hq).1).symm⟩

end Go.Pe
