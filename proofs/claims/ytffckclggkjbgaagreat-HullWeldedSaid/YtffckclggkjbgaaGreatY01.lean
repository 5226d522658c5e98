import Derived.CallsIn
import Derived.WalkKit
set_option linter.unusedVariables false
set_option linter.unusedSimpArgs false
/- Abstract values, the relation to the model's values and worlds, and its steadiness. -/
namespace Go.Pe
open Go

/-- An abstract value: what is known of a value without its addresses. -/
inductive AV where
  | val (v : Value)
  | agg (l : List AV)
  | tup (l : List AV)
  | ro (full : Bool) (k : Nat) (xs : List (List AV))
  | rop (cs : List AV)
  | ptr (b o : Nat)
  | sl (b o len k : Nat)
  | slc (b o len k cap : Nat)
  | clo (f : Nat) (caps : List AV)
  | yld (b : Nat)
  deriving Inhabited

/-- A loop over a function that is under way: the slots that its rounds begin with, what a round does, and how it stands. -/
structure Lp where
  ρ : List AV
  ps : Array Tmp
  assign : Code
  body : Code
  st : LoopState
  pend : Option Code

/-- What fixes the addresses: which blocks stay as they are for good, and where each abstract block lies. -/
structure Cx where
  S : Nat → Prop
  φ : Nat → Nat

/-- The abstract heap: how many blocks have been named, and what is known of those that live. -/
structure H where
  next : Nat
  get : Nat → Option (List AV)
  lp : Nat → Option Lp

/-- No abstract block at all. -/
def noId : Nat → Prop := fun _ => False

/-- 'D': the abstract blocks of which one may speak. -/
inductive R (c : Cx) (w : World) : (Nat → Prop) → AV → Value → Prop
  | val {D : Nat → Prop} (v : Value) : R c w D (.val v) v
  | agg {D : Nat → Prop} {l : List AV} {cs : Array Value} (hs : cs.size = l.length) (h : ∀ (i : Nat) (x : AV) (v : Value), l[i]? = some x → cs[i]? = some v → R c w D x v) : R c w D (.agg l) (.agg cs)
  | tup {D : Nat → Prop} {l : List AV} {cs : Array Value} (hs : cs.size = l.length) (h : ∀ (i : Nat) (x : AV) (v : Value), l[i]? = some x → cs[i]? = some v → R c w D x v) : R c w D (.tup l) (.tuple cs)
  | ro {D : Nat → Prop} {full : Bool} {k : Nat} {xs : List (List AV)} {b o len cap : Nat} (cell : Nat → Nat → Value) (hS : c.S b) (hl : len = xs.length) (hc : len ≤ cap)
      (hf : full = true → cap = len) (hk : ∀ row, row ∈ xs → row.length = k)
      (hcell : ∀ i j, i < len → j < k → w.cell? ⟨b, o + i * k + j, none⟩ = some (cell i j)) (ho : ∀ i j, i < len → j < k → (cell i j).oneCell' = true)
      (h : ∀ (i j : Nat) (row : List AV) (x : AV), xs[i]? = some row → row[j]? = some x → R c w noId x (cell i j)) : R c w D (.ro full k xs) (.slice (some ⟨b, o, none⟩) len cap)
  | nil {D : Nat → Prop} {full : Bool} {k : Nat} : R c w D (.ro full k []) (.slice none 0 0)
  | emp {D : Nat → Prop} {full : Bool} {k : Nat} {a : Addr} : R c w D (.ro full k []) (.slice (some a) 0 0)
  | rop {D : Nat → Prop} {cs : List AV} {b o : Nat} (cell : Nat → Value) (hS : c.S b)
      (hcell : ∀ j, j < cs.length → w.cell? ⟨b, o + j, none⟩ = some (cell j))
      (h : ∀ (j : Nat) (x : AV), cs[j]? = some x → R c w noId x (cell j)) : R c w D (.rop cs) (.pointer (some ⟨b, o, none⟩))
  | ptr {D : Nat → Prop} {b o : Nat} (hb : D b) : R c w D (.ptr b o) (.pointer (some ⟨c.φ b, o, none⟩))
  | sl {D : Nat → Prop} {b o len k cap : Nat} (hb : D b) (hc : len ≤ cap) (C : Array Value) (e : TypeId) (hblk : w.heap[c.φ b]? = some (.cells C e (0, 0))) (hC : o + cap * k ≤ C.size) :
      R c w D (.sl b o len k) (.slice (some ⟨c.φ b, o, none⟩) len cap)
  | slc {D : Nat → Prop} {b o len k cap : Nat} (hb : D b) (hc : len ≤ cap) (C : Array Value) (e : TypeId) (hblk : w.heap[c.φ b]? = some (.cells C e (0, 0))) (hC : o + cap * k ≤ C.size) :
      R c w D (.slc b o len k cap) (.slice (some ⟨c.φ b, o, none⟩) len cap)
  | clo {D : Nat → Prop} {f : Nat} {caps : List AV} {cs : Array Value} (hs : cs.size = caps.length) (h : ∀ (i : Nat) (x : AV) (v : Value), caps[i]? = some x → cs[i]? = some v → R c w D x v) : R c w D (.clo f caps) (.func (.func f) #[] cs)
  | yld {D : Nat → Prop} {b : Nat} (hb : D b) : R c w D (.yld b) (.func (.yield (c.φ b)) #[] #[])

/-- Lists of values, part by part. -/
def RL (c : Cx) (w : World) (D : Nat → Prop) (l : List AV) (cs : Array Value) : Prop :=
  cs.size = l.length ∧ ∀ (i : Nat) (x : AV) (v : Value), l[i]? = some x → cs[i]? = some v → R c w D x v

/-- The abstract heap describes the world. -/
structure Rel (c : Cx) (D : Nat → Prop) (h : H) (w : World) : Prop where
  own : ∀ b cs, h.get b = some cs → D b ∧ ¬ c.S (c.φ b) ∧ ∃ C e, w.heap[c.φ b]? = some (.cells C e (0, 0)) ∧ cs.length ≤ C.size ∧
    ∀ (j : Nat) (x : AV) (v : Value), cs[j]? = some x → C[j]? = some v → R c w D x v
  inj : ∀ b b' cs cs', h.get b = some cs → h.get b' = some cs' → c.φ b = c.φ b' → b = b'
  sz : ∀ k, c.S k → k < w.heap.size
  lps : ∀ b r, h.lp b = some r → D b ∧ ¬ c.S (c.φ b) ∧ ∃ fn tmps dd, w.heap[c.φ b]? = some (.loop { state := r.st, pending := r.pend, fn := fn, tmps := tmps, params := r.ps, assign := r.assign, body := r.body, defers := dd }) ∧ RL c w D r.ρ tmps
  linj : ∀ b b' r r', h.lp b = some r → h.lp b' = some r' → c.φ b = c.φ b' → b = b'

/-- What a step leaves as it was. -/
structure Ext (D : Nat → Prop) (h : H) (c : Cx) (w : World) (D' : Nat → Prop) (c' : Cx) (w' : World) (h' : H) : Prop where
  S : ∀ k, c.S k → c'.S k
  newS : ∀ k, c'.S k → c.S k ∨ w.heap.size ≤ k ∨ ∃ b cs, h.get b = some cs ∧ c.φ b = k
  φ : ∀ b, D b → c'.φ b = c.φ b
  dom : ∀ b, D b → D' b
  next : h.next ≤ h'.next
  os : w'.os = w.os
  tape : w'.tape = w.tape
  output : w'.output = w.output
  size : w.heap.size ≤ w'.heap.size
  frame : ∀ k, k < w.heap.size → (∀ b cs, h.get b = some cs → c.φ b ≠ k) → (∀ b r, h.lp b = some r → c.φ b ≠ k) → w'.heap[k]? = w.heap[k]?
  shp : ∀ (k : Nat) (C : Array Value) (e : TypeId), w.heap[k]? = some (.cells C e (0, 0)) → ∃ C', w'.heap[k]? = some (.cells C' e (0, 0)) ∧ C'.size = C.size
  origin : ∀ b cs, h'.get b = some cs → (∃ b0 cs0, h.get b0 = some cs0 ∧ c.φ b0 = c'.φ b) ∨ w.heap.size ≤ c'.φ b
  lorigin : ∀ b r, h'.lp b = some r → (∃ b0 r0, h.lp b0 = some r0 ∧ c.φ b0 = c'.φ b) ∨ w.heap.size ≤ c'.φ b
  fz : ∀ a, w'.frozen? a = w.frozen? a

theorem cell?_of_block {w w' : World} {a : Addr} (h : w'.heap[a.block]? = w.heap[a.block]?) : w'.cell? a = w.cell? a := by
  unfold World.cell?; rw [h]

/-- Values stay what they are while stable blocks stay. -/
theorem R.mono {c c' : Cx} {w w' : World} {D D' : Nat → Prop} {x : AV} {v : Value} (hr : R c w D x v)
    (hS : ∀ k, c.S k → c'.S k) (hfix : ∀ k, c.S k → w'.heap[k]? = w.heap[k]?) (hφ : ∀ b, D b → c'.φ b = c.φ b) (hN : ∀ b, D b → D' b)
    (hshp : ∀ (k : Nat) (C : Array Value) (e : TypeId), w.heap[k]? = some (.cells C e (0, 0)) → ∃ C', w'.heap[k]? = some (.cells C' e (0, 0)) ∧ C'.size = C.size) :
    R c' w' D' x v := by
  induction hr generalizing D' with
  | val v => exact .val v
  | agg hs h ih => exact .agg hs fun i x v hx hv => ih i x v hx hv hφ hN
  | tup hs h ih => exact .tup hs fun i x v hx hv => ih i x v hx hv hφ hN
  | ro cell hSb hl hc hf hk hcell ho h ih =>
    refine .ro cell (hS _ hSb) hl hc hf hk (fun i j hi hj => ?_) ho (fun i j row x h1 h2 => ih i j row x h1 h2 (fun b hb => hb.elim) (fun _ hb => hb))
    rw [cell?_of_block (w := w) (hfix _ hSb)]; exact hcell i j hi hj
  | nil => exact .nil
  | emp => exact .emp
  | rop cell hSb hcell h ih =>
    refine .rop cell (hS _ hSb) (fun j hj => ?_) (fun j x h1 => ih j x h1 (fun b hb => hb.elim) (fun _ hb => hb))
    rw [cell?_of_block (w := w) (hfix _ hSb)]; exact hcell j hj
  | ptr hb => rw [← hφ _ hb]; exact .ptr (hN _ hb)
  | sl hb hc C e hblk hC =>
    obtain ⟨C', h1, h2⟩ := hshp _ C e hblk
    rw [← hφ _ hb] at h1 ⊢
    exact .sl (hN _ hb) hc C' e h1 (by rw [h2]; exact hC)
  | slc hb hc C e hblk hC =>
    obtain ⟨C', h1, h2⟩ := hshp _ C e hblk
    rw [← hφ _ hb] at h1 ⊢
    exact .slc (hN _ hb) hc C' e h1 (by rw [h2]; exact hC)
  | clo hs h ih => exact .clo hs fun i x v hx hv => ih i x v hx hv hφ hN
  | yld hb => rw [← hφ _ hb]; exact .yld (hN _ hb)

theorem RL.mono {c c' : Cx} {w w' : World} {D D' : Nat → Prop} {l : List AV} {cs : Array Value} (hr : RL c w D l cs)
    (hS : ∀ k, c.S k → c'.S k) (hfix : ∀ k, c.S k → w'.heap[k]? = w.heap[k]?) (hφ : ∀ b, D b → c'.φ b = c.φ b) (hN : ∀ b, D b → D' b)
    (hshp : ∀ (k : Nat) (C : Array Value) (e : TypeId), w.heap[k]? = some (.cells C e (0, 0)) → ∃ C', w'.heap[k]? = some (.cells C' e (0, 0)) ∧ C'.size = C.size) :
    RL c' w' D' l cs := ⟨hr.1, fun i x v hx hv => (hr.2 i x v hx hv).mono hS hfix hφ hN hshp⟩

/-- Stable blocks lie as they lay through a step. -/
theorem Ext.fix {D D' : Nat → Prop} {h h' : H} {c c' : Cx} {w w' : World} (he : Ext D h c w D' c' w' h') (hr : Rel c D h w) (k : Nat) (hk : c.S k) : w'.heap[k]? = w.heap[k]? :=
  he.frame k (hr.sz k hk) (fun b cs hb e => (hr.own b cs hb).2.1 (e ▸ hk)) (fun b r hb e => (hr.lps b r hb).2.1 (e ▸ hk))

theorem Ext.val {D D' : Nat → Prop} {h h' : H} {c c' : Cx} {w w' : World} (he : Ext D h c w D' c' w' h') (hr : Rel c D h w) {x : AV} {v : Value} (hv : R c w D x v) : R c' w' D' x v :=
  hv.mono he.S (he.fix hr) he.φ he.dom he.shp

theorem Ext.list {D D' : Nat → Prop} {h h' : H} {c c' : Cx} {w w' : World} (he : Ext D h c w D' c' w' h') (hr : Rel c D h w) {l : List AV} {cs : Array Value} (hv : RL c w D l cs) : RL c' w' D' l cs :=
  hv.mono he.S (he.fix hr) he.φ he.dom he.shp

theorem Ext.refl (D : Nat → Prop) (h : H) (c : Cx) (w : World) : Ext D h c w D c w h :=
  ⟨fun _ h => h, fun _ h => .inl h, fun _ _ => rfl, fun _ h => h, Nat.le_refl _, rfl, rfl, rfl, Nat.le_refl _, fun _ _ _ _ => rfl, fun _ C _ h => ⟨C, h, rfl⟩, fun b cs hb => .inl ⟨b, cs, hb, rfl⟩, fun b r hb => .inl ⟨b, r, hb, rfl⟩, fun _ => rfl⟩

theorem Ext.trans {D D1 D2 : Nat → Prop} {h h1 h2 : H} {c c1 c2 : Cx} {w w1 w2 : World} (a : Ext D h c w D1 c1 w1 h1) (b : Ext D1 h1 c1 w1 D2 c2 w2 h2) : Ext D h c w D2 c2 w2 h2 where
  S k hk := b.S k (a.S k hk)
  newS k hk := by
    rcases b.newS k hk with h1' | h1' | ⟨b1, cs1, hb1, hφ1⟩
    · exact a.newS k h1'
    · exact .inr (.inl (Nat.le_trans a.size h1'))
    · rcases a.origin b1 cs1 hb1 with ⟨b0, cs0, hb0, hφ0⟩ | hge
      · exact .inr (.inr ⟨b0, cs0, hb0, hφ0.trans hφ1⟩)
      · exact .inr (.inl (hφ1 ▸ hge))
  φ k hk := (b.φ k (a.dom k hk)).trans (a.φ k hk)
  dom k hk := b.dom k (a.dom k hk)
  next := Nat.le_trans a.next b.next
  os := b.os.trans a.os
  tape := b.tape.trans a.tape
  output := b.output.trans a.output
  size := Nat.le_trans a.size b.size
  frame k hk hno hnl := by
    refine (b.frame k (Nat.lt_of_lt_of_le hk a.size) (fun b1 cs1 hb1 e => ?_) fun b1 r1 hb1 e => ?_).trans (a.frame k hk hno hnl)
    · rcases a.origin b1 cs1 hb1 with ⟨b0, cs0, hb0, hφ0⟩ | hge
      · exact hno b0 cs0 hb0 (hφ0.trans e)
      · omega
    · rcases a.lorigin b1 r1 hb1 with ⟨b0, r0, hb0, hφ0⟩ | hge
      · exact hnl b0 r0 hb0 (hφ0.trans e)
      · omega
  shp k C e hk := by
    obtain ⟨C1, h1', h2'⟩ := a.shp k C e hk
    obtain ⟨C2, h3, h4⟩ := b.shp k C1 e h1'
    exact ⟨C2, h3, h4.trans h2'⟩
  origin b2 cs2 hb2 := by
    rcases b.origin b2 cs2 hb2 with ⟨b1, cs1, hb1, hφ1⟩ | hge
    · rcases a.origin b1 cs1 hb1 with ⟨b0, cs0, hb0, hφ0⟩ | hge
      · exact .inl ⟨b0, cs0, hb0, hφ0.trans hφ1⟩
      · exact .inr (hφ1 ▸ hge)
    · exact .inr (Nat.le_trans a.size hge)
  fz k := (b.fz k).trans (a.fz k)
  lorigin b2 cs2 hb2 := by
    rcases b.lorigin b2 cs2 hb2 with ⟨b1, cs1, hb1, hφ1⟩ | hge
    · rcases a.lorigin b1 cs1 hb1 with ⟨b0, cs0, hb0, hφ0⟩ | hge
      · exact .inl ⟨b0, cs0, hb0, hφ0.trans hφ1⟩
      · exact .inr (hφ1 ▸ hge)
    · exact .inr (Nat.le_trans a.size hge)

/-- What is neither a row of cells nor a loop stays as it is. -/
theorem Ext.other {D D' : Nat → Prop} {h h' : H} {c c' : Cx} {w w' : World} (he : Ext D h c w D' c' w' h') (hr : Rel c D h w) {k : Nat} {o : Obj} (hk : w.heap[k]? = some o) (h1 : ∀ C e s, o ≠ .cells C e s) (h2 : ∀ l, o ≠ .loop l) : w'.heap[k]? = some o := by
  rw [he.frame k (Array.getElem?_eq_some_iff.1 hk).1 (fun b cs hb e => ?_) (fun b r hb e => ?_)]; exact hk
  · obtain ⟨_, _, C, t, h3, _⟩ := hr.own b cs hb
    rw [e, hk] at h3; cases h3; exact h1 _ _ _ rfl
  · obtain ⟨_, _, fn, tmps, dd, h3, _⟩ := hr.lps b r hb
    rw [e, hk] at h3; cases h3; exact h2 _ rfl

theorem Rel.lp_lt {D : Nat → Prop} {h : H} {c : Cx} {w : World} (hr : Rel c D h w) {b : Nat} {r : Lp} (hb : h.lp b = some r) : c.φ b < w.heap.size := by
  obtain ⟨_, _, fn, tmps, dd, h3, _⟩ := hr.lps b r hb
  exact (Array.getElem?_eq_some_iff.1 h3).1

/-- A loop and a row of cells lie in different blocks. -/
theorem Rel.apart {D : Nat → Prop} {h : H} {c : Cx} {w : World} (hr : Rel c D h w) {b b' : Nat} {r : Lp} (hb : h.lp b = some r) {k : Nat} {C : Array Value} {e : TypeId} {s : Nat × Nat} (hk : w.heap[k]? = some (.cells C e s)) : c.φ b ≠ k := fun he => by
  obtain ⟨_, _, fn, tmps, dd, h3, _⟩ := hr.lps b r hb
  rw [he, hk] at h3; cases h3

/-- Loops are carried over a step that leaves their blocks as they are. -/
theorem Rel.lps_keep {D D' : Nat → Prop} {h : H} {c c' : Cx} {w w' : World} (hr : Rel c D h w) (hS : ∀ k, c.S k → c'.S k) (hfix : ∀ k, c.S k → w'.heap[k]? = w.heap[k]?) (hφ : ∀ b, D b → c'.φ b = c.φ b) (hN : ∀ b, D b → D' b)
    (hshp : ∀ (k : Nat) (C : Array Value) (e : TypeId), w.heap[k]? = some (.cells C e (0, 0)) → ∃ C', w'.heap[k]? = some (.cells C' e (0, 0)) ∧ C'.size = C.size)
    (hl : ∀ b r, h.lp b = some r → w'.heap[c.φ b]? = w.heap[c.φ b]?) (hnS : ∀ b r, h.lp b = some r → c'.S (c.φ b) → c.S (c.φ b)) :
    ∀ b r, h.lp b = some r → D' b ∧ ¬ c'.S (c'.φ b) ∧ ∃ fn tmps dd, w'.heap[c'.φ b]? = some (.loop { state := r.st, pending := r.pend, fn := fn, tmps := tmps, params := r.ps, assign := r.assign, body := r.body, defers := dd }) ∧ RL c' w' D' r.ρ tmps := fun b r hb => by
  obtain ⟨h1, h2, fn, tmps, dd, h3, h4⟩ := hr.lps b r hb
  rw [hφ b h1]
  exact ⟨hN b h1, fun hs => h2 (hnS b r hb hs), fn, tmps, dd, by rw [hl b r hb]; exact h3, h4.mono hS hfix hφ hN hshp⟩

theorem Rel.linj_keep {D : Nat → Prop} {h : H} {c c' : Cx} {w : World} (hr : Rel c D h w) (hφ : ∀ b, D b → c'.φ b = c.φ b) : ∀ b b' r r', h.lp b = some r → h.lp b' = some r' → c'.φ b = c'.φ b' → b = b' := fun b b' r r' h1 h2 he => by
  rw [hφ b (hr.lps b r h1).1, hφ b' (hr.lps b' r' h2).1] at he
  exact hr.linj b b' r r' h1 h2 he

end Go.Pe

/- What operations that leave memory alone give, and that they give it. -/
namespace Go.Pe
open Go

/-- What is asked of a type. -/
inductive TK where
  | sl (e : TypeId)
  | st (fs : List (Nat × Nat × TypeId))
  | ar (n : Nat) (e : TypeId)
  | int (k : IntKind)
  | bool
  | str
  | oth

structure TI where
  kind : TK
  size : Nat
  zero : List Value
  agg : Bool
  bytes : Nat
  fok : Bool
  cmp : Bool

def isAggK : TK → Bool
  | .st _ => true
  | .ar _ _ => true
  | _ => false

def tkOf (P : Program) : TypeDesc → TK
  | .slice e => .sl e
  | .struct fs => .st (fs.toList.map fun f => (f.offset, P.cellsOf f.type, f.type))
  | .array n e => .ar n e
  | .int k => .int k
  | .bool => .bool
  | .string => .str
  | _ => .oth

/-- All fields of a struct have types of the program. -/
def fieldsOk (P : Program) (t : TypeId) : Bool := (P.fieldsOf t).all fun f => (P.info? f.type).isSome

/-- Two values of the type can be compared part by part. -/
def cmpOk (P : Program) (t : TypeId) : Bool := ((P.fieldsOf t).all fun f => f.name != "_") && !P.stoodInHeld t && !P.eqGuardType P.depth t

def ti (P : Program) (t : TypeId) : Option TI :=
  match P.info? t, P.underlying t with
  | some i, some d => match i.zero with
    | some z => some { kind := tkOf P d, size := i.size, zero := z.cells.toList, agg := isAggK (tkOf P d), bytes := i.bytes, fok := fieldsOk P t, cmp := cmpOk P t }
    | none => none
  | _, _ => none

section
variable {P : Program} {t : TypeId} {T : TI}
theorem ti_parts (h : ti P t = some T) : ∃ i z d, P.info? t = some i ∧ P.underlying t = some d ∧ T.kind = tkOf P d ∧ i.zero = some z ∧ i.size = T.size ∧ z.cells.toList = T.zero ∧ T.agg = isAggK T.kind ∧ i.bytes = T.bytes := by
  unfold ti at h
  split at h
  · rename_i i d hi hd
    split at h
    · rename_i z hz
      cases h
      exact ⟨i, z, d, hi, hd, rfl, hz, rfl, rfl, rfl, rfl⟩
    · cases h
  · cases h
theorem ti_fok (h : ti P t = some T) : T.fok = fieldsOk P t := by
  unfold ti at h
  split at h
  · split at h
    · cases h; rfl
    · cases h
  · cases h
theorem ti_cmp (h : ti P t = some T) : T.cmp = cmpOk P t := by
  unfold ti at h
  split at h
  · split at h
    · cases h; rfl
    · cases h
  · cases h
theorem ti_size (h : ti P t = some T) (w : World) : (sizeOf t).run P w = .ok T.size w := by
  obtain ⟨i, z, d, hi, hd, hk, hz, h1, h2, h3, h4⟩ := ti_parts h
  simp [sizeOf, typeInfo, hi, h1]
theorem ti_cells (h : ti P t = some T) : P.cellsOf t = T.size := by
  obtain ⟨i, z, d, hi, hd, hk, hz, h1, h2, h3, h4⟩ := ti_parts h
  simp [Program.cellsOf, hi, h1]
theorem ti_zero (h : ti P t = some T) (w : World) : ∃ z, (zeroValue t).run P w = .ok z w ∧ z.cells.toList = T.zero := by
  obtain ⟨i, z, d, hi, hd, hk, hz, h1, h2, h3, h4⟩ := ti_parts h
  exact ⟨z, by simp [zeroValue, typeInfo, hi, hz], h2⟩
theorem ti_agg (h : ti P t = some T) (w : World) : (isAgg t).run P w = .ok T.agg w := by
  obtain ⟨i, z, d, hi, hd, hk, hz, h1, h2, h3, h4⟩ := ti_parts h
  rw [h3, hk]
  have := run_underlying hd w
  cases d <;> simp [isAgg, this, isAggK, tkOf]
theorem ti_sl {e : TypeId} (h : ti P t = some T) (hk : T.kind = .sl e) : P.underlying t = some (.slice e) := by
  obtain ⟨i, z, d, hi, hd, hk', hz, h1, h2, h3, h4⟩ := ti_parts h
  rw [hd]; rw [hk'] at hk
  cases d <;> simp_all [tkOf]
theorem ti_st {fs : List (Nat × Nat × TypeId)} (h : ti P t = some T) (hk : T.kind = .st fs) : ∃ F : Array Field, P.underlying t = some (.struct F) ∧ fs = F.toList.map fun f => (f.offset, P.cellsOf f.type, f.type) := by
  obtain ⟨i, z, d, hi, hd, hk', hz, h1, h2, h3, h4⟩ := ti_parts h
  rw [hk'] at hk
  cases d <;> simp [tkOf] at hk
  rename_i F
  exact ⟨F, hd, hk.symm⟩
theorem ti_ar {n : Nat} {e : TypeId} (h : ti P t = some T) (hk : T.kind = .ar n e) : P.underlying t = some (.array n e) := by
  obtain ⟨i, z, d, hi, hd, hk', hz, h1, h2, h3, h4⟩ := ti_parts h
  rw [hd]; rw [hk'] at hk
  cases d <;> simp_all [tkOf]
theorem ti_int {k : IntKind} (h : ti P t = some T) (hk : T.kind = .int k) : P.underlying t = some (.int k) := by
  obtain ⟨i, z, d, hi, hd, hk', hz, h1, h2, h3, h4⟩ := ti_parts h
  rw [hd]; rw [hk'] at hk
  cases d <;> simp_all [tkOf]
theorem ti_bool (h : ti P t = some T) (hk : T.kind = .bool) : P.underlying t = some .bool := by
  obtain ⟨i, z, d, hi, hd, hk', hz, h1, h2, h3, h4⟩ := ti_parts h
  rw [hd]; rw [hk'] at hk
  cases d <;> simp_all [tkOf]
theorem ti_str (h : ti P t = some T) (hk : T.kind = .str) : P.underlying t = some .string := by
  obtain ⟨i, z, d, hi, hd, hk', hz, h1, h2, h3, h4⟩ := ti_parts h
  rw [hd]; rw [hk'] at hk
  cases d <;> simp_all [tkOf]
end

/-- An operand's abstract value. -/
def ofV : Value → AV
  | .agg cs => .agg (cs.toList.map .val)
  | v => .val v
def aev (ρ : List AV) : Operand → AV
  | .tmp t => ρ.getD t (.val undef)
  | .const v => ofV v
  | .global g => .val (.pointer (some ⟨g, 0, none⟩))
  | .func f => .clo f []

theorem R_ofV {c : Cx} {w : World} {D : Nat → Prop} (v : Value) : R c w D (ofV v) v := by
  unfold ofV
  split
  · refine .agg (by simp) fun i x v h1 h2 => ?_
    simp only [List.getElem?_map, Array.getElem?_toList, h2, Option.map_some, Option.some.injEq] at h1
    subst h1; exact .val v
  · exact .val _

theorem R_aev {c : Cx} {w : World} {D : Nat → Prop} {ρ : List AV} {a : Act} (h : RL c w D ρ a.tmps) (x : Operand) : R c w D (aev ρ x) (a.eval x) := by
  cases x with
  | tmp t =>
    simp only [aev, Act.eval]
    by_cases ht : t < ρ.length
    · have h1 : ρ[t]? = some ρ[t] := List.getElem?_eq_getElem ht
      have ht' : t < a.tmps.size := by rw [h.1]; exact ht
      have h2 : a.tmps[t]? = some a.tmps[t] := Array.getElem?_eq_getElem ht'
      have := h.2 t _ _ h1 h2
      simpa [List.getD, h1, Array.getD, ht'] using this
    · have h1 : ρ[t]? = none := List.getElem?_eq_none (Nat.le_of_not_lt ht)
      have ht' : ¬ t < a.tmps.size := by rw [h.1]; exact ht
      simp only [List.getD, h1, Option.getD_none, Array.getD, ht', dif_neg, not_false_eq_true]
      exact .val _
  | const v => exact R_ofV v
  | global g => exact .val _
  | func f => exact .clo (by simp) (fun i x v h1 _ => by simp at h1)

theorem RL_map {c : Cx} {w : World} {D : Nat → Prop} {ρ : List AV} {a : Act} (h : RL c w D ρ a.tmps) (xs : Array Operand) : RL c w D (xs.toList.map (aev ρ)) (xs.map a.eval) := by
  refine ⟨by simp, fun i x v h1 h2 => ?_⟩
  simp only [List.getElem?_map, Array.getElem?_toList, Array.getElem?_map] at h1 h2
  cases hx : xs[i]? with
  | none => simp [hx] at h1
  | some o => simp only [hx, Option.map_some, Option.some.injEq] at h1 h2; subst h1; subst h2; exact R_aev h o

/-- The cells of a value that can lie in memory. -/
def one : AV → Bool
  | .val v => v.oneCell'
  | .agg _ => false
  | .tup _ => false
  | _ => true
def cellsOf : AV → Option (List AV)
  | .agg l => if l.all one then some l else none
  | x => if one x then some [x] else none

theorem one_R {c : Cx} {w : World} {D : Nat → Prop} {x : AV} {v : Value} (h : R c w D x v) (h1 : one x = true) : v.oneCell' = true := by
  cases h <;> first | exact h1 | rfl | (simp [one] at h1; done)

theorem cells_one {v : Value} (h : v.oneCell' = true) : v.cells = #[v] := by cases v <;> first | rfl | (simp [Value.oneCell'] at h; done)

theorem cellsOf_R {c : Cx} {w : World} {D : Nat → Prop} {x : AV} {v : Value} {l : List AV} (h : R c w D x v) (hl : cellsOf x = some l) : RL c w D l v.cells ∧ v.cells.all (·.oneCell') = true := by
  have key : ∀ (x : AV) (v : Value), R c w D x v → one x = true → RL c w D [x] v.cells ∧ v.cells.all (·.oneCell') = true := by
    intro x v h h1
    have ho := one_R h h1
    rw [cells_one ho]
    refine ⟨⟨rfl, fun i y u e1 e2 => ?_⟩, by simp [ho]⟩
    match i, e1, e2 with
    | 0, e1, e2 => simp at e1 e2; subst e1; subst e2; exact h
    | i + 1, e1, e2 => simp at e1
  unfold cellsOf at hl
  split at hl
  · split at hl
    · rename_i hall
      cases hl
      cases h with
      | agg hs h =>
        refine ⟨⟨hs, h⟩, ?_⟩
        rw [Array.all_eq_true]
        intro i hi
        have hi' : i < l.length := by rw [← hs]; exact hi
        exact one_R (h i _ _ (List.getElem?_eq_getElem hi') (Array.getElem?_eq_getElem hi)) (List.all_eq_true.1 hall _ (List.getElem_mem hi'))
    · cases hl
  · split at hl
    · rename_i h1
      cases hl
      exact key _ _ h h1
    · cases hl

/-- A run of a row of cells. -/
def takeAt (cs : List AV) (o n : Nat) : Option (List AV) := if o + n ≤ cs.length then some ((cs.drop o).take n) else none
def asLoaded (T : TI) (l : List AV) : Option AV := if T.agg then some (.agg l) else match l with | [x] => some x | _ => none

def loadA (T : TI) (h : H) : AV → Option AV
  | .ptr b o => match h.get b with
    | some cs => (takeAt cs o T.size).bind (asLoaded T)
    | none => none
  | .rop cs => (takeAt cs 0 T.size).bind (asLoaded T)
  | _ => none

theorem takeAt_len {cs l : List AV} {o n : Nat} (h : takeAt cs o n = some l) : l.length = n ∧ (∀ j, j < n → l[j]? = cs[o + j]?) ∧ o + n ≤ cs.length := by
  unfold takeAt at h
  split at h
  · rename_i hle
    cases h
    refine ⟨by simp; omega, fun j hj => ?_, hle⟩
    rw [List.getElem?_take, if_pos hj, List.getElem?_drop]
  · cases h

theorem load_cells {P : Program} {c : Cx} {w : World} {D : Nat → Prop} {t : TypeId} {T : TI} (hT : ti P t = some T) (b o : Nat) (l : List AV) (vs : Nat → Value)
    (hl : l.length = T.size) (hc : ∀ j, j < T.size → w.cell? ⟨b, o + j, none⟩ = some (vs j)) (hr : ∀ j x, l[j]? = some x → R c w D x (vs j)) {x : AV} (hx : asLoaded T l = some x) :
    ∃ v, (loadVar t ⟨b, o, none⟩).run P w = .ok v w ∧ R c w D x v := by
  have hadd : ∀ j, (⟨b, o, none⟩ : Addr).add j = ⟨b, o + j, none⟩ := fun j => by unfold Addr.add; split <;> simp_all
  unfold asLoaded at hx
  have ha := ti_agg hT w
  have hs := ti_size hT w
  cases hag : T.agg with
  | true =>
    simp only [hag, if_true, Option.some.injEq] at hx
    subst hx
    refine ⟨.agg ((List.range T.size).map vs).toArray, ?_, ?_⟩
    · have := run_loadCells (P := P) w ⟨b, o, none⟩ T.size vs (fun j hj => by rw [hadd]; exact hc j hj)
      simp [loadVar, ha, hag, hs, this]
    · refine .agg (by simp [hl]) fun i x v h1 h2 => ?_
      have hi : i < T.size := by rw [← hl]; exact (List.getElem?_eq_some_iff.1 h1).1
      simp [hi] at h2
      subst h2; exact hr i x h1
  | false =>
    simp only [hag, if_false, Bool.false_eq_true] at hx
    split at hx
    · rename_i y
      cases hx
      have h1 : T.size = 1 := by rw [← hl]; rfl
      refine ⟨vs 0, ?_, hr 0 _ rfl⟩
      have hc0 := hc 0 (by omega)
      simp only [Nat.add_zero] at hc0
      simp [loadVar, ha, hag, hc0]
    · cases hx

theorem run_load_A {P : Program} {c : Cx} {w : World} {h : H} {t : TypeId} {T : TI} (hT : ti P t = some T) {D : Nat → Prop} (hr : Rel c D h w) {p x : AV} {v : Value} (hp : R c w D p v)
    (hx : loadA T h p = some x) : ∃ u, (Instr.loadAt t v).run P w = .ok u w ∧ R c w D x u := by
  cases hp with
  | val v => simp [loadA] at hx
  | agg hs h => simp [loadA] at hx
  | tup hs h => simp [loadA] at hx
  | ro cell _ _ _ _ _ _ _ _ => simp [loadA] at hx
  | nil => simp [loadA] at hx
  | emp => simp [loadA] at hx
  | sl _ _ _ _ _ _ => simp [loadA] at hx
  | slc _ _ _ _ _ _ => simp [loadA] at hx
  | clo hs h => simp [loadA] at hx
  | yld hb => simp [loadA] at hx
  | ptr hb =>
    rename_i b o
    simp only [loadA] at hx
    split at hx
    · rename_i cs hcs
      cases htk : takeAt cs o T.size with
      | none => simp [htk] at hx
      | some l =>
        simp only [htk, Option.bind_some] at hx
        obtain ⟨hl, hj, hle⟩ := takeAt_len htk
        obtain ⟨_, _, C, e, hblk, hlen, hcont⟩ := hr.own b cs hcs
        obtain ⟨u, h1, h2⟩ := load_cells (w := w) (c := c) (D := D) hT (c.φ b) o l (fun j => C.getD (o + j) undef) hl
          (fun j hj => by
            have : o + j < C.size := by omega
            simp [World.cell?, hblk, Array.getD, this])
          (fun j x hx => by
            have hj' : j < T.size := by rw [← hl]; exact (List.getElem?_eq_some_iff.1 hx).1
            have : o + j < C.size := by omega
            have hv : C[o + j]? = some (C.getD (o + j) undef) := by simp [Array.getD, this]
            exact hcont (o + j) x _ (by rw [← hj j hj']; exact hx) hv) hx
        exact ⟨u, by simp [Instr.loadAt, Instr.sureAddr, h1], h2⟩
    · cases hx
  | rop cell hS hcell hh =>
    rename_i cs b o
    simp only [loadA] at hx
    cases htk : takeAt cs 0 T.size with
    | none => simp [htk] at hx
    | some l =>
      simp only [htk, Option.bind_some] at hx
      obtain ⟨hl, hj, hle⟩ := takeAt_len htk
      obtain ⟨u, h1, h2⟩ := load_cells (c := c) (D := D) hT b o l cell hl (fun j hj => hcell j (by omega))
        (fun j x hx => by
          have hj' : j < T.size := by rw [← hl]; exact (List.getElem?_eq_some_iff.1 hx).1
          exact (hh j x (by rw [hj j hj'] at hx; simpa using hx)).mono (fun _ h => h) (fun _ _ => rfl) (fun _ _ => rfl) (fun _ hb => hb.elim) (fun _ C _ h => ⟨C, h, rfl⟩)) hx
      exact ⟨u, by simp [Instr.loadAt, Instr.sureAddr, h1], h2⟩

end Go.Pe

/- Operations that leave memory alone: the rest of them, one by one. -/
namespace Go.Pe
open Go

theorem R.up {c : Cx} {w : World} {D D' : Nat → Prop} {x : AV} {v : Value} (h : R c w D x v) (hN : ∀ b, D b → D' b) : R c w D' x v :=
  h.mono (fun _ h => h) (fun _ _ => rfl) (fun _ _ => rfl) hN (fun _ C _ h => ⟨C, h, rfl⟩)

theorem Addr_add (b o j : Nat) : (⟨b, o, none⟩ : Addr).add j = ⟨b, o + j, none⟩ := by unfold Addr.add; split <;> simp_all

/-- The address of a field. -/
def fieldA (T : TI) (f : Nat) (p : AV) : Option AV :=
  match T.kind with
  | .st fs => match fs[f]? with
    | some (off, sz, _) => if sz = 0 then none else match p with
      | .ptr b o => some (.ptr b (o + off))
      | .rop cs => some (.rop (cs.drop off))
      | _ => none
    | none => none
  | _ => none

theorem rop_drop {c : Cx} {w : World} {D : Nat → Prop} {cs : List AV} {b o : Nat} (off : Nat) (h : R c w D (.rop cs) (.pointer (some ⟨b, o, none⟩))) : R c w D (.rop (cs.drop off)) (.pointer (some ⟨b, o + off, none⟩)) := by
  cases h with
  | rop cell hS hcell hh =>
    refine .rop (fun j => cell (off + j)) hS (fun j hj => ?_) (fun j x hx => ?_)
    · have := hcell (off + j) (by simp at hj; omega)
      rw [Nat.add_assoc]; exact this
    · exact hh (off + j) x (by simpa [List.getElem?_drop] using hx)

theorem run_fieldA {P : Program} {c : Cx} {w : World} {D : Nat → Prop} {s : TypeId} {T : TI} (hT : ti P s = some T) {f : Nat} {p x : AV} {v : Value} (hp : R c w D p v) (hx : fieldA T f p = some x) :
    ∃ u, (Instr.fieldAt s v f).run P w = .ok u w ∧ R c w D x u := by
  unfold fieldA at hx
  split at hx
  · rename_i fs hk
    obtain ⟨F, hF, rfl⟩ := ti_st hT hk
    split at hx
    · rename_i off sz ft hf
      split at hx
      · cases hx
      · rename_i hsz
        have hf' : ∃ g, F[f]? = some g ∧ g.offset = off ∧ P.cellsOf g.type = sz := by
          simp only [List.getElem?_map, Array.getElem?_toList] at hf
          cases hg : F[f]? with
          | none => simp [hg] at hf
          | some g => simp only [hg, Option.map_some, Option.some.injEq, Prod.mk.injEq] at hf; exact ⟨g, rfl, hf.1, hf.2.1⟩
        obtain ⟨g, hg, ho, hs⟩ := hf'
        have hsz' : (sizeOf g.type).run P w = .ok sz w := by
          rw [← hs] at hsz ⊢
          unfold Program.cellsOf at hsz ⊢
          cases hi : P.info? g.type with
          | none => simp [hi] at hsz
          | some i => simp [sizeOf, typeInfo, hi]
        have hplace : ∀ b o, (fieldPlace ⟨b, o, none⟩ g).run P w = .ok ⟨b, o + off, none⟩ w := fun b o => by
          simp [fieldPlace, hsz', hsz, ho, Addr_add]
        have key : ∀ b o, (Instr.fieldAt s (.pointer (some ⟨b, o, none⟩)) f).run P w = .ok (.pointer (some ⟨b, o + off, none⟩)) w := fun b o => by
          simp [Instr.fieldAt, run_underlying hF, hg, Instr.sureAddr, hplace]
        split at hx
        · cases hx
          cases hp with
          | ptr hb => exact ⟨_, key _ _, .ptr hb⟩
        · cases hx
          cases hp with
          | rop cell hS hcell hh => exact ⟨_, key _ _, rop_drop off (.rop cell hS hcell hh)⟩
        · cases hx
    · cases hx
  · cases hx

/-- An index. -/
def intOf? : AV → Option Int
  | .val (.int _ n) => some n
  | _ => none

theorem intOf?_R {c : Cx} {w : World} {D : Nat → Prop} {x : AV} {v : Value} {n : Int} (h : R c w D x v) (hx : intOf? x = some n) : ∃ k, v = .int k n := by
  unfold intOf? at hx
  split at hx
  · cases hx; cases h; exact ⟨_, rfl⟩
  · cases hx

def indexA (T E : TI) (x : AV) (i : Int) : Option AV :=
  if i < 0 then none else
  match T.kind, x with
  | .sl _, .ro _ k xs => if k = E.size then match xs[i.toNat]? with
    | some row => some (.rop row)
    | none => none
    else none
  | .sl _, .sl b o len k => if k = E.size ∧ i < len then some (.ptr b (o + i.toNat * k)) else none
  | .sl _, .slc b o len k _ => if k = E.size ∧ i < len then some (.ptr b (o + i.toNat * k)) else none
  | .ar n _, .ptr b o => if i < n then some (.ptr b (o + i.toNat * E.size)) else none
  | .ar n _, .rop cs => if i < n then some (.rop (cs.drop (i.toNat * E.size))) else none
  | _, _ => none

def elemTy : TK → TypeId
  | .sl e => e
  | .ar _ e => e
  | _ => 0

theorem run_indexA {P : Program} {c : Cx} {w : World} {D : Nat → Prop} {t : TypeId} {T E : TI} (hT : ti P t = some T) (hE : ti P (elemTy T.kind) = some E) {x y : AV} {v u : Value} {i : Int} {k : IntKind}
    (hx : R c w D x v) (hu : u = .int k i) (hy : indexA T E x i = some y) : ∃ z, (Instr.indexAt t v u).run P w = .ok z w ∧ R c w D y z := by
  subst hu
  unfold indexA at hy
  split at hy
  · cases hy
  · rename_i hneg
    have hi0 : 0 ≤ i := by omega
    split at hy
    · rename_i e f k' xs hk
      rw [hk] at hE
      have hu := ti_sl hT hk
      split at hy
      · rename_i hks
        split at hy
        · rename_i row hrow
          cases hy
          have hlt : i.toNat < xs.length := (List.getElem?_eq_some_iff.1 hrow).1
          cases hx with
          | ro cell hS hl hc hf hkk hcell ho hh =>
            rename_i b o len cap
            have hs := ti_size hE w
            have hlen : (i : Int) < len := by omega
            refine ⟨.pointer (some ⟨b, o + i.toNat * E.size, none⟩), ?_, ?_⟩
            · simp [Instr.indexAt, asIntOf, run_underlying hu, hi0, hlen, elemTy, hs, Addr_add] at hs ⊢
            · subst hks
              have hrl : row.length = E.size := hkk row (List.mem_of_getElem? hrow)
              refine .rop (fun j => cell i.toNat j) hS (fun j hj => hcell i.toNat j (by omega) (by omega)) (fun j x hxj => hh i.toNat j row x hrow hxj)
          | nil => simp at hlt
          | emp => simp at hlt
        · cases hy
      · cases hy
    · rename_i e b o len k' hk
      rw [hk] at hE
      have hu := ti_sl hT hk
      split at hy
      · rename_i hks
        obtain ⟨hks, hlt⟩ := hks
        cases hy
        cases hx with
        | sl hb hc C e' hblk hC =>
          have hs := ti_size hE w
          refine ⟨.pointer (some ⟨c.φ b, o + i.toNat * k', none⟩), ?_, .ptr hb⟩
          simp [Instr.indexAt, asIntOf, run_underlying hu, hi0, hlt, elemTy] at hs ⊢
          simp [hs, Addr_add, hks]
      · cases hy
    · rename_i e b o len k' cap hk
      rw [hk] at hE
      have hu := ti_sl hT hk
      split at hy
      · rename_i hks
        obtain ⟨hks, hlt⟩ := hks
        cases hy
        cases hx with
        | slc hb hc C e' hblk hC =>
          have hs := ti_size hE w
          refine ⟨.pointer (some ⟨c.φ b, o + i.toNat * k', none⟩), ?_, .ptr hb⟩
          simp [Instr.indexAt, asIntOf, run_underlying hu, hi0, hlt, elemTy] at hs ⊢
          simp [hs, Addr_add, hks]
      · cases hy
    · rename_i n e b o hk
      rw [hk] at hE
      have hu := ti_ar hT hk
      split at hy
      · rename_i hlt
        cases hy
        cases hx with
        | ptr hb =>
          have hs := ti_size hE w
          refine ⟨.pointer (some ⟨c.φ b, o + i.toNat * E.size, none⟩), ?_, .ptr hb⟩
          simp [Instr.indexAt, asIntOf, run_underlying hu, hi0, hlt, elemTy, Instr.sureAddr] at hs ⊢
          simp [hs, Addr_add]
      · cases hy
    · rename_i n e cs hk
      rw [hk] at hE
      have hu := ti_ar hT hk
      split at hy
      · rename_i hlt
        cases hy
        cases hx with
        | rop cell hS hcell hh =>
          rename_i b o
          have hs := ti_size hE w
          refine ⟨.pointer (some ⟨b, o + i.toNat * E.size, none⟩), ?_, rop_drop _ (.rop cell hS hcell hh)⟩
          simp [Instr.indexAt, asIntOf, run_underlying hu, hi0, hlt, elemTy, Instr.sureAddr] at hs ⊢
          simp [hs, Addr_add]
      · cases hy
    · cases hy

/-- A part of a struct or an array that is a value. -/
def partA (E : TI) (cs : List AV) (off : Nat) : Option AV := (takeAt cs off E.size).bind (asLoaded E)

theorem run_partA {P : Program} {c : Cx} {w : World} {D : Nat → Prop} {e : TypeId} {E : TI} (hE : ti P e = some E) {cs : List AV} {vs : Array Value} {off : Nat} {y : AV} (h : RL c w D cs vs) (hy : partA E cs off = some y) :
    ∃ z, (part e vs off).run P w = .ok z w ∧ R c w D y z := by
  unfold partA at hy
  cases htk : takeAt cs off E.size with
  | none => simp [htk] at hy
  | some l =>
    obtain ⟨hl, hj, hle⟩ := takeAt_len htk
    simp only [htk, Option.bind_some] at hy
    have hv : vs.size = cs.length := h.1
    unfold asLoaded at hy
    have ha := ti_agg hE w
    have hs := ti_size hE w
    cases hag : E.agg with
    | true =>
      simp only [hag, if_true, Option.some.injEq] at hy
      subst hy
      refine ⟨.agg (vs.extract off (off + E.size)), by simp [part, ha, hag, hs], .agg (by simp [hl]; omega) fun i x v h1 h2 => ?_⟩
      have hi : i < E.size := by rw [← hl]; exact (List.getElem?_eq_some_iff.1 h1).1
      rw [hj i hi] at h1
      rw [Array.getElem?_extract] at h2
      split at h2
      · exact h.2 _ x v h1 h2
      · cases h2
    | false =>
      simp only [hag, if_false, Bool.false_eq_true] at hy
      split at hy
      · rename_i y'
        cases hy
        have h1 : E.size = 1 := by rw [← hl]; rfl
        have h0 := hj 0 (by omega)
        simp only [List.getElem?_cons_zero, Nat.add_zero] at h0
        have hlt : off < vs.size := by omega
        refine ⟨vs[off], by simp [part, ha, hag, hlt], h.2 off _ _ h0.symm (Array.getElem?_eq_getElem hlt)⟩
      · cases hy

end Go.Pe
