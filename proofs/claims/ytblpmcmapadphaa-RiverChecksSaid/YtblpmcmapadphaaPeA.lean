/- Abstract values, the relation to the model's values and worlds, and its steadiness. -/
import Derived.CallsIn
import Derived.WalkKit
set_option linter.unusedVariables false
set_option linter.unusedSimpArgs false
namespace Go.Pe
open Go

/-- An abstract value: what is known of a value without its addresses. -/
inductive AV where
  | val (v : Value)
  | agg (l : List AV)
  | tup (l : List AV)
  | ro (full : Bool) (k : Nat) (xs : List (List AV))
  | rop (cs : List AV)
  | ptr (b o : Nat)
  | sl (b o len k : Nat)
  | clo (f : Nat) (caps : List AV)
  | yld (b : Nat)
  deriving Inhabited

/-- A loop over a function that is under way: the slots that its rounds begin with, what a round does, and how it stands. -/
structure Lp where
  ρ : List AV
  ps : Array Tmp
  assign : Code
  body : Code
  st : LoopState
  pend : Option Code

/-- What fixes the addresses: which blocks stay as they are for good, and where each abstract block lies. -/
structure Cx where
  S : Nat → Prop
  φ : Nat → Nat

/-- The abstract heap: how many blocks have been named, and what is known of those that live. -/
structure H where
  next : Nat
  get : Nat → Option (List AV)
  lp : Nat → Option Lp

/-- No abstract block at all. -/
def noId : Nat → Prop := fun _ => False

/-- 'D': the abstract blocks of which one may speak. -/
inductive R (c : Cx) (w : World) : (Nat → Prop) → AV → Value → Prop
  | val {D : Nat → Prop} (v : Value) : R c w D (.val v) v
  | agg {D : Nat → Prop} {l : List AV} {cs : Array Value} (hs : cs.size = l.length) (h : ∀ (i : Nat) (x : AV) (v : Value), l[i]? = some x → cs[i]? = some v → R c w D x v) : R c w D (.agg l) (.agg cs)
  | tup {D : Nat → Prop} {l : List AV} {cs : Array Value} (hs : cs.size = l.length) (h : ∀ (i : Nat) (x : AV) (v : Value), l[i]? = some x → cs[i]? = some v → R c w D x v) : R c w D (.tup l) (.tuple cs)
  | ro {D : Nat → Prop} {full : Bool} {k : Nat} {xs : List (List AV)} {b o len cap : Nat} (cell : Nat → Nat → Value) (hS : c.S b) (hl : len = xs.length) (hc : len ≤ cap)
      (hf : full = true → cap = len) (hk : ∀ row, row ∈ xs → row.length = k)
      (hcell : ∀ i j, i < len → j < k → w.cell? ⟨b, o + i * k + j, none⟩ = some (cell i j)) (ho : ∀ i j, i < len → j < k → (cell i j).oneCell' = true)
      (h : ∀ (i j : Nat) (row : List AV) (x : AV), xs[i]? = some row → row[j]? = some x → R c w noId x (cell i j)) : R c w D (.ro full k xs) (.slice (some ⟨b, o, none⟩) len cap)
  | nil {D : Nat → Prop} {full : Bool} {k : Nat} : R c w D (.ro full k []) (.slice none 0 0)
  | emp {D : Nat → Prop} {full : Bool} {k : Nat} {a : Addr} : R c w D (.ro full k []) (.slice (some a) 0 0)
  | rop {D : Nat → Prop} {cs : List AV} {b o : Nat} (cell : Nat → Value) (hS : c.S b)
      (hcell : ∀ j, j < cs.length → w.cell? ⟨b, o + j, none⟩ = some (cell j))
      (h : ∀ (j : Nat) (x : AV), cs[j]? = some x → R c w noId x (cell j)) : R c w D (.rop cs) (.pointer (some ⟨b, o, none⟩))
  | ptr {D : Nat → Prop} {b o : Nat} (hb : D b) : R c w D (.ptr b o) (.pointer (some ⟨c.φ b, o, none⟩))
  | sl {D : Nat → Prop} {b o len k cap : Nat} (hb : D b) (hc : len ≤ cap) (C : Array Value) (e : TypeId) (hblk : w.heap[c.φ b]? = some (.cells C e (0, 0))) (hC : o + cap * k ≤ C.size) :
      R c w D (.sl b o len k) (.slice (some ⟨c.φ b, o, none⟩) len cap)
  | clo {D : Nat → Prop} {f : Nat} {caps : List AV} {cs : Array Value} (hs : cs.size = caps.length) (h : ∀ (i : Nat) (x : AV) (v : Value), caps[i]? = some x → cs[i]? = some v → R c w D x v) : R c w D (.clo f caps) (.func (.func f) #[] cs)
  | yld {D : Nat → Prop} {b : Nat} (hb : D b) : R c w D (.yld b) (.func (.yield (c.φ b)) #[] #[])

/-- Lists of values, part by part. -/
def RL (c : Cx) (w : World) (D : Nat → Prop) (l : List AV) (cs : Array Value) : Prop :=
  cs.size = l.length ∧ ∀ (i : Nat) (x : AV) (v : Value), l[i]? = some x → cs[i]? = some v → R c w D x v

/-- The abstract heap describes the world. -/
structure Rel (c : Cx) (D : Nat → Prop) (h : H) (w : World) : Prop where
  own : ∀ b cs, h.get b = some cs → D b ∧ ¬ c.S (c.φ b) ∧ ∃ C e, w.heap[c.φ b]? = some (.cells C e (0, 0)) ∧ cs.length ≤ C.size ∧
    ∀ (j : Nat) (x : AV) (v : Value), cs[j]? = some x → C[j]? = some v → R c w D x v
  inj : ∀ b b' cs cs', h.get b = some cs → h.get b' = some cs' → c.φ b = c.φ b' → b = b'
  sz : ∀ k, c.S k → k < w.heap.size
  lps : ∀ b r, h.lp b = some r → D b ∧ ¬ c.S (c.φ b) ∧ ∃ fn tmps dd, w.heap[c.φ b]? = some (.loop { state := r.st, pending := r.pend, fn := fn, tmps := tmps, params := r.ps, assign := r.assign, body := r.body, defers := dd }) ∧ RL c w D r.ρ tmps
  linj : ∀ b b' r r', h.lp b = some r → h.lp b' = some r' → c.φ b = c.φ b' → b = b'

/-- What a step leaves as it was. -/
structure Ext (D : Nat → Prop) (h : H) (c : Cx) (w : World) (D' : Nat → Prop) (c' : Cx) (w' : World) (h' : H) : Prop where
  S : ∀ k, c.S k → c'.S k
  newS : ∀ k, c'.S k → c.S k ∨ w.heap.size ≤ k ∨ ∃ b cs, h.get b = some cs ∧ c.φ b = k
  φ : ∀ b, D b → c'.φ b = c.φ b
  dom : ∀ b, D b → D' b
  next : h.next ≤ h'.next
  os : w'.os = w.os
  tape : w'.tape = w.tape
  output : w'.output = w.output
  size : w.heap.size ≤ w'.heap.size
  frame : ∀ k, k < w.heap.size → (∀ b cs, h.get b = some cs → c.φ b ≠ k) → (∀ b r, h.lp b = some r → c.φ b ≠ k) → w'.heap[k]? = w.heap[k]?
  shp : ∀ (k : Nat) (C : Array Value) (e : TypeId), w.heap[k]? = some (.cells C e (0, 0)) → ∃ C', w'.heap[k]? = some (.cells C' e (0, 0)) ∧ C'.size = C.size
  origin : ∀ b cs, h'.get b = some cs → (∃ b0 cs0, h.get b0 = some cs0 ∧ c.φ b0 = c'.φ b) ∨ w.heap.size ≤ c'.φ b
  lorigin : ∀ b r, h'.lp b = some r → (∃ b0 r0, h.lp b0 = some r0 ∧ c.φ b0 = c'.φ b) ∨ w.heap.size ≤ c'.φ b
  fz : ∀ a, w'.frozen? a = w.frozen? a

theorem cell?_of_block {w w' : World} {a : Addr} (h : w'.heap[a.block]? = w.heap[a.block]?) : w'.cell? a = w.cell? a := by
  unfold World.cell?; rw [h]

/-- Values stay what they are while stable blocks stay. -/
theorem R.mono {c c' : Cx} {w w' : World} {D D' : Nat → Prop} {x : AV} {v : Value} (hr : R c w D x v)
    (hS : ∀ k, c.S k → c'.S k) (hfix : ∀ k, c.S k → w'.heap[k]? = w.heap[k]?) (hφ : ∀ b, D b → c'.φ b = c.φ b) (hN : ∀ b, D b → D' b)
    (hshp : ∀ (k : Nat) (C : Array Value) (e : TypeId), w.heap[k]? = some (.cells C e (0, 0)) → ∃ C', w'.heap[k]? = some (.cells C' e (0, 0)) ∧ C'.size = C.size) :
    R c' w' D' x v := by
  induction hr generalizing D' with
  | val v => exact .val v
  | agg hs h ih => exact .agg hs fun i x v hx hv => ih i x v hx hv hφ hN
  | tup hs h ih => exact .tup hs fun i x v hx hv => ih i x v hx hv hφ hN
  | ro cell hSb hl hc hf hk hcell ho h ih =>
    refine .ro cell (hS _ hSb) hl hc hf hk (fun i j hi hj => ?_) ho (fun i j row x h1 h2 => ih i j row x h1 h2 (fun b hb => hb.elim) (fun _ hb => hb))
    rw [cell?_of_block (w := w) (hfix _ hSb)]; exact hcell i j hi hj
  | nil => exact .nil
  | emp => exact .emp
  | rop cell hSb hcell h ih =>
    refine .rop cell (hS _ hSb) (fun j hj => ?_) (fun j x h1 => ih j x h1 (fun b hb => hb.elim) (fun _ hb => hb))
    rw [cell?_of_block (w := w) (hfix _ hSb)]; exact hcell j hj
  | ptr hb => rw [← hφ _ hb]; exact .ptr (hN _ hb)
  | sl hb hc C e hblk hC =>
    obtain ⟨C', h1, h2⟩ := hshp _ C e hblk
    rw [← hφ _ hb] at h1 ⊢
    exact .sl (hN _ hb) hc C' e h1 (by rw [h2]; exact hC)
  | clo hs h ih => exact .clo hs fun i x v hx hv => ih i x v hx hv hφ hN
  | yld hb => rw [← hφ _ hb]; exact .yld (hN _ hb)

theorem RL.mono {c c' : Cx} {w w' : World} {D D' : Nat → Prop} {l : List AV} {cs : Array Value} (hr : RL c w D l cs)
    (hS : ∀ k, c.S k → c'.S k) (hfix : ∀ k, c.S k → w'.heap[k]? = w.heap[k]?) (hφ : ∀ b, D b → c'.φ b = c.φ b) (hN : ∀ b, D b → D' b)
    (hshp : ∀ (k : Nat) (C : Array Value) (e : TypeId), w.heap[k]? = some (.cells C e (0, 0)) → ∃ C', w'.heap[k]? = some (.cells C' e (0, 0)) ∧ C'.size = C.size) :
    RL c' w' D' l cs := ⟨hr.1, fun i x v hx hv => (hr.2 i x v hx hv).mono hS hfix hφ hN hshp⟩

/-- Stable blocks lie as they lay through a step. -/
theorem Ext.fix {D D' : Nat → Prop} {h h' : H} {c c' : Cx} {w w' : World} (he : Ext D h c w D' c' w' h') (hr : Rel c D h w) (k : Nat) (hk : c.S k) : w'.heap[k]? = w.heap[k]? :=
  he.frame k (hr.sz k hk) (fun b cs hb e => (hr.own b cs hb).2.1 (e ▸ hk)) (fun b r hb e => (hr.lps b r hb).2.1 (e ▸ hk))

theorem Ext.val {D D' : Nat → Prop} {h h' : H} {c c' : Cx} {w w' : World} (he : Ext D h c w D' c' w' h') (hr : Rel c D h w) {x : AV} {v : Value} (hv : R c w D x v) : R c' w' D' x v :=
  hv.mono he.S (he.fix hr) he.φ he.dom he.shp

theorem Ext.list {D D' : Nat → Prop} {h h' : H} {c c' : Cx} {w w' : World} (he : Ext D h c w D' c' w' h') (hr : Rel c D h w) {l : List AV} {cs : Array Value} (hv : RL c w D l cs) : RL c' w' D' l cs :=
  hv.mono he.S (he.fix hr) he.φ he.dom he.shp

theorem Ext.refl (D : Nat → Prop) (h : H) (c : Cx) (w : World) : Ext D h c w D c w h :=
  ⟨fun _ h => h, fun _ h => .inl h, fun _ _ => rfl, fun _ h => h, Nat.le_refl _, rfl, rfl, rfl, Nat.le_refl _, fun _ _ _ _ => rfl, fun _ C _ h => ⟨C, h, rfl⟩, fun b cs hb => .inl ⟨b, cs, hb, rfl⟩, fun b r hb => .inl ⟨b, r, hb, rfl⟩, fun _ => rfl⟩

theorem Ext.trans {D D1 D2 : Nat → Prop} {h h1 h2 : H} {c c1 c2 : Cx} {w w1 w2 : World} (a : Ext D h c w D1 c1 w1 h1) (b : Ext D1 h1 c1 w1 D2 c2 w2 h2) : Ext D h c w D2 c2 w2 h2 where
  S k hk := b.S k (a.S k hk)
  newS k hk := by
    rcases b.newS k hk with h1' | h1' | ⟨b1, cs1, hb1, hφ1⟩
    · exact a.newS k h1'
    · exact .inr (.inl (Nat.le_trans a.size h1'))
    · rcases a.origin b1 cs1 hb1 with ⟨b0, cs0, hb0, hφ0⟩ | hge
      · exact .inr (.inr ⟨b0, cs0, hb0, hφ0.trans hφ1⟩)
      · exact .inr (.inl (hφ1 ▸ hge))
  φ k hk := (b.φ k (a.dom k hk)).trans (a.φ k hk)
  dom k hk := b.dom k (a.dom k hk)
  next := Nat.le_trans a.next b.next
  os := b.os.trans a.os
  tape := b.tape.trans a.tape
  output := b.output.trans a.output
  size := Nat.le_trans a.size b.size
  frame k hk hno hnl := by
    refine (b.frame k (Nat.lt_of_lt_of_le hk a.size) (fun b1 cs1 hb1 e => ?_) fun b1 r1 hb1 e => ?_).trans (a.frame k hk hno hnl)
    · rcases a.origin b1 cs1 hb1 with ⟨b0, cs0, hb0, hφ0⟩ | hge
      · exact hno b0 cs0 hb0 (hφ0.trans e)
      · omega
    · rcases a.lorigin b1 r1 hb1 with ⟨b0, r0, hb0, hφ0⟩ | hge
      · exact hnl b0 r0 hb0 (hφ0.trans e)
      · omega
  shp k C e hk := by
    obtain ⟨C1, h1', h2'⟩ := a.shp k C e hk
    obtain ⟨C2, h3, h4⟩ := b.shp k C1 e h1'
    exact ⟨C2, h3, h4.trans h2'⟩
  origin b2 cs2 hb2 := by
    rcases b.origin b2 cs2 hb2 with ⟨b1, cs1, hb1, hφ1⟩ | hge
    · rcases a.origin b1 cs1 hb1 with ⟨b0, cs0, hb0, hφ0⟩ | hge
      · exact .inl ⟨b0, cs0, hb0, hφ0.trans hφ1⟩
      · exact .inr (hφ1 ▸ hge)
    · exact .inr (Nat.le_trans a.size hge)
  fz k := (b.fz k).trans (a.fz k)
  lorigin b2 cs2 hb2 := by
    rcases b.lorigin b2 cs2 hb2 with ⟨b1, cs1, hb1, hφ1⟩ | hge
    · rcases a.lorigin b1 cs1 hb1 with ⟨b0, cs0, hb0, hφ0⟩ | hge
      · exact .inl ⟨b0, cs0, hb0, hφ0.trans hφ1⟩
      · exact .inr (hφ1 ▸ hge)
    · exact .inr (Nat.le_trans a.size hge)

/-- What is neither a row of cells nor a loop stays as it is. -/
theorem Ext.other {D D' : Nat → Prop} {h h' : H} {c c' : Cx} {w w' : World} (he : Ext D h c w D' c' w' h') (hr : Rel c D h w) {k : Nat} {o : Obj} (hk : w.heap[k]? = some o) (h1 : ∀ C e s, o ≠ .cells C e s) (h2 : ∀ l, o ≠ .loop l) : w'.heap[k]? = some o := by
  rw [he.frame k (Array.getElem?_eq_some_iff.1 hk).1 (fun b cs hb e => ?_) (fun b r hb e => ?_)]; exact hk
  · obtain ⟨_, _, C, t, h3, _⟩ := hr.own b cs hb
    rw [e, hk] at h3; cases h3; exact h1 _ _ _ rfl
  · obtain ⟨_, _, fn, tmps, dd, h3, _⟩ := hr.lps b r hb
    rw [e, hk] at h3; cases h3; exact h2 _ rfl

theorem Rel.lp_lt {D : Nat → Prop} {h : H} {c : Cx} {w : World} (hr : Rel c D h w) {b : Nat} {r : Lp} (hb : h.lp b = some r) : c.φ b < w.heap.size := by
  obtain ⟨_, _, fn, tmps, dd, h3, _⟩ := hr.lps b r hb
  exact (Array.getElem?_eq_some_iff.1 h3).1

/-- A loop and a row of cells lie in different blocks. -/
theorem Rel.apart {D : Nat → Prop} {h : H} {c : Cx} {w : World} (hr : Rel c D h w) {b b' : Nat} {r : Lp} (hb : h.lp b = some r) {k : Nat} {C : Array Value} {e : TypeId} {s : Nat × Nat} (hk : w.heap[k]? = some (.cells C e s)) : c.φ b ≠ k := fun he => by
  obtain ⟨_, _, fn, tmps, dd, h3, _⟩ := hr.lps b r hb
  rw [he, hk] at h3; cases h3

/-- Loops are carried over a step that leaves their blocks as they are. -/
theorem Rel.lps_keep {D D' : Nat → Prop} {h : H} {c c' : Cx} {w w' : World} (hr : Rel c D h w) (hS : ∀ k, c.S k → c'.S k) (hfix : ∀ k, c.S k → w'.heap[k]? = w.heap[k]?) (hφ : ∀ b, D b → c'.φ b = c.φ b) (hN : ∀ b, D b → D' b)
    (hshp : ∀ (k : Nat) (C : Array Value) (e : TypeId), w.heap[k]? = some (.cells C e (0, 0)) → ∃ C', w'.heap[k]? = some (.cells C' e (0, 0)) ∧ C'.size = C.size)
    (hl : ∀ b r, h.lp b = some r → w'.heap[c.φ b]? = w.heap[c.φ b]?) (hnS : ∀ b r, h.lp b = some r → c'.S (c.φ b) → c.S (c.φ b)) :
    ∀ b r, h.lp b = some r → D' b ∧ ¬ c'.S (c'.φ b) ∧ ∃ fn tmps dd, w'.heap[c'.φ b]? = some (.loop { state := r.st, pending := r.pend, fn := fn, tmps := tmps, params := r.ps, assign := r.assign, body := r.body, defers := dd }) ∧ RL c' w' D' r.ρ tmps := fun b r hb => by
  obtain ⟨h1, h2, fn, tmps, dd, h3, h4⟩ := hr.lps b r hb
  rw [hφ b h1]
  exact ⟨hN b h1, fun hs => h2 (hnS b r hb hs), fn, tmps, dd, by rw [hl b r hb]; exact h3, h4.mono hS hfix hφ hN hshp⟩

theorem Rel.linj_keep {D : Nat → Prop} {h : H} {c c' : Cx} {w : World} (hr : Rel c D h w) (hφ : ∀ b, D b → c'.φ b = c.φ b) : ∀ b b' r r', h.lp b = some r → h.lp b' = some r' → c'.φ b = c'.φ b' → b = b' := fun b b' r r' h1 h2 he => by
  rw [hφ b (hr.lps b r h1).1, hφ b' (hr.lps b' r' h2).1] at he
  exact hr.linj b b' r r' h1 h2 he

end Go.Pe
