import Derived.Test.YtffckclggkjbgaaGreatY02
import Derived.Deep.AppendSrc
set_option linter.unusedVariables false
set_option linter.unusedSimpArgs false
/- Operations that make memory or write into it. -/
namespace Go.Pe
open Go

/-- A new abstract block. -/
def H.push (h : H) (cs : List AV) : H := { next := h.next + 1, get := fun b => if b = h.next then some cs else h.get b, lp := h.lp }
/-- New contents of a block. -/
def H.set (h : H) (b : Nat) (cs : List AV) : H := { next := h.next, get := fun q => if q = b then some cs else h.get q, lp := h.lp }
/-- A block that is not used any more. -/
def H.kill (h : H) (b : Nat) : H := { next := h.next, get := fun q => if q = b then none else h.get q, lp := h.lp }

def Cx.bind (c : Cx) (b k : Nat) : Cx := { S := c.S, φ := fun q => if q = b then k else c.φ q }
def Cx.keep (c : Cx) (k : Nat) : Cx := { S := fun q => c.S q ∨ q = k, φ := c.φ }

/-- A world with one block more. -/
structure Made (w w' : World) (o : Obj) : Prop where
  heap : w'.heap = w.heap.push o
  os : w'.os = w.os
  tape : w'.tape = w.tape
  output : w'.output = w.output

theorem Made.old {w w' : World} {o : Obj} (m : Made w w' o) (k : Nat) (h : k < w.heap.size) : w'.heap[k]? = w.heap[k]? := by
  rw [m.heap, Array.getElem?_push, if_neg (by omega)]
theorem Made.new {w w' : World} {o : Obj} (m : Made w w' o) : w'.heap[w.heap.size]? = some o := by
  rw [m.heap, Array.getElem?_push, if_pos rfl]
theorem Made.size {w w' : World} {o : Obj} (m : Made w w' o) : w'.heap.size = w.heap.size + 1 := by rw [m.heap, Array.size_push]
theorem Made.shp {w w' : World} {o : Obj} (m : Made w w' o) (k : Nat) (C : Array Value) (e : TypeId) (h : w.heap[k]? = some (.cells C e (0, 0))) : ∃ C', w'.heap[k]? = some (.cells C' e (0, 0)) ∧ C'.size = C.size := by
  have hk : k < w.heap.size := (Array.getElem?_eq_some_iff.1 h).1
  exact ⟨C, (m.old k hk).trans h, rfl⟩
theorem Made.fz {w w' : World} {o : Obj} (m : Made w w' o) (ho : ∀ C e lo hi, o = .cells C e (lo, hi) → hi = 0) (a : Addr) : w'.frozen? a = w.frozen? a := by
  unfold World.frozen?
  by_cases h : a.block < w.heap.size
  · rw [m.old _ h]
  · have e1 : w.heap[a.block]? = none := Array.getElem?_eq_none (by omega)
    rw [e1]
    by_cases h2 : a.block = w.heap.size
    · rw [h2, m.new]
      cases o with
      | cells C e fr =>
        obtain ⟨lo, hi⟩ := fr
        have := ho C e lo hi rfl
        subst this
        simp
      | _ => rfl
    · have e2 : w'.heap[a.block]? = none := Array.getElem?_eq_none (by rw [m.size]; omega)
      rw [e2]
theorem made_alloc (w : World) (o : Obj) : Made w (w.alloc o) o := ⟨rfl, rfl, rfl, rfl⟩
theorem made_drew (w : World) (o : Obj) : Made w (w.drew.alloc o) o := ⟨rfl, rfl, rfl, rfl⟩

def addId (D : Nat → Prop) (b : Nat) : Nat → Prop := fun q => D q ∨ q = b

/-- A NEW BLOCK OF THE CALL's OWN. -/
theorem push_ok {D : Nat → Prop} {h : H} {c : Cx} {w w' : World} {C : Array Value} {e : TypeId} {cs : List AV} (hr : Rel c D h w) (hfr : ¬ D h.next) (m : Made w w' (.cells C e (0, 0))) (hlen : cs.length ≤ C.size)
    (hcs : ∀ (j : Nat) (x : AV) (v : Value), cs[j]? = some x → C[j]? = some v → R c w D x v) :
    Rel (c.bind h.next w.heap.size) (addId D h.next) (h.push cs) w' ∧ Ext D h c w (addId D h.next) (c.bind h.next w.heap.size) w' (h.push cs) := by
  have hφ : ∀ b, D b → (c.bind h.next w.heap.size).φ b = c.φ b := fun b hb => by simp [Cx.bind]; intro e; exact absurd (e ▸ hb) hfr
  have hup : ∀ {x : AV} {v : Value}, R c w D x v → R (c.bind h.next w.heap.size) w' (addId D h.next) x v := fun hx =>
    hx.mono (fun _ h => h) (fun k hk => m.old k (hr.sz k hk)) hφ (fun _ hb => .inl hb) m.shp
  have hlive : ∀ b cs', h.get b = some cs' → D b ∧ c.φ b < w.heap.size := fun b cs' hb => by
    obtain ⟨h1, _, C', e', hblk, _⟩ := hr.own b cs' hb
    exact ⟨h1, (Array.getElem?_eq_some_iff.1 hblk).1⟩
  have hllt : ∀ b r, h.lp b = some r → c.φ b < w.heap.size := fun b r hb => hr.lp_lt hb
  constructor
  · refine ⟨fun b cs' hb => ?_, fun b b' cs1 cs2 h1 h2 he => ?_, fun k hk => ?_, hr.lps_keep (fun _ h => h) (fun k hk => m.old k (hr.sz k hk)) hφ (fun _ hb => .inl hb) m.shp (fun b r hb => m.old _ (hllt b r hb)) (fun _ _ _ h => h), hr.linj_keep hφ⟩
    · simp only [H.push] at hb
      split at hb
      · rename_i hbe
        cases hb
        subst hbe
        refine ⟨.inr rfl, fun hS => ?_, C, e, ?_, hlen, fun j x v h1 h2 => hup (hcs j x v h1 h2)⟩
        · have := hr.sz _ hS; simp [Cx.bind] at this
        · simp [Cx.bind, m.new]
      · obtain ⟨h1, h2, C', e', hblk, h4, h5⟩ := hr.own b cs' hb
        have hlt := (hlive b cs' hb).2
        rw [hφ b h1]
        exact ⟨.inl h1, h2, C', e', by rw [m.old _ hlt]; exact hblk, h4, fun j x v g1 g2 => hup (h5 j x v g1 g2)⟩
    · simp only [H.push] at h1 h2
      split at h1 <;> split at h2
      · omega
      · rename_i hb1 hb2
        have := hlive b' cs2 h2
        rw [hφ b' this.1] at he
        simp [Cx.bind, hb1] at he; omega
      · rename_i hb1 hb2
        have := hlive b cs1 h1
        rw [hφ b this.1] at he
        simp [Cx.bind, hb2] at he; omega
      · rw [hφ b (hlive b cs1 h1).1, hφ b' (hlive b' cs2 h2).1] at he
        exact hr.inj b b' cs1 cs2 h1 h2 he
    · have := hr.sz k hk; rw [m.size]; omega
  · refine ⟨fun _ h => h, fun _ h => .inl h, hφ, fun _ hb => .inl hb, Nat.le_succ _, m.os, m.tape, m.output, by rw [m.size]; omega, fun k hk _ _ => m.old k hk, m.shp, fun b cs' hb => ?_, fun b r hb => .inl ⟨b, r, hb, (hφ b (hr.lps b r hb).1).symm⟩, m.fz (fun _ _ _ _ h => by cases h; rfl)⟩
    simp only [H.push] at hb
    split at hb
    · rename_i hbe; subst hbe; exact .inr (by simp [Cx.bind])
    · exact .inl ⟨b, cs', hb, (hφ b (hlive b cs' hb).1).symm⟩

/-- A NEW BLOCK THAT STAYS AS IT IS. -/
theorem keep_ok {D : Nat → Prop} {h : H} {c : Cx} {w w' : World} {K : Array Value} {ke : TypeId} (hr : Rel c D h w) (m : Made w w' (.cells K ke (0, 0))) : Rel (c.keep w.heap.size) D h w' ∧ Ext D h c w D (c.keep w.heap.size) w' h := by
  have hup : ∀ {x : AV} {v : Value}, R c w D x v → R (c.keep w.heap.size) w' D x v := fun hx =>
    hx.mono (fun _ h => .inl h) (fun k hk => m.old k (hr.sz k hk)) (fun _ _ => rfl) (fun _ hb => hb) m.shp
  have hllt : ∀ b r, h.lp b = some r → c.φ b < w.heap.size := fun b r hb => hr.lp_lt hb
  constructor
  · refine ⟨fun b cs' hb => ?_, fun b b' cs1 cs2 h1 h2 he => hr.inj b b' cs1 cs2 h1 h2 he, fun k hk => ?_, hr.lps_keep (fun _ h => .inl h) (fun k hk => m.old k (hr.sz k hk)) (fun _ _ => rfl) (fun _ hb => hb) m.shp (fun b r hb => m.old _ (hllt b r hb)) (fun b r hb hs => ?_), hr.linj⟩
    · obtain ⟨h1, h2, C', e', hblk, h4, h5⟩ := hr.own b cs' hb
      have hlt : c.φ b < w.heap.size := (Array.getElem?_eq_some_iff.1 hblk).1
      refine ⟨h1, fun hS => ?_, C', e', by rw [show (c.keep w.heap.size).φ b = c.φ b from rfl, m.old _ hlt]; exact hblk, h4, fun j x v g1 g2 => hup (h5 j x v g1 g2)⟩
      rcases hS with hS | hS
      · exact h2 hS
      · have : c.φ b = w.heap.size := hS
        omega
    · rw [m.size]
      rcases hk with hk | hk
      · have := hr.sz k hk; omega
      · omega
    · rcases hs with hs | hs
      · exact hs
      · have := hllt b r hb; omega
  · refine ⟨fun _ h => .inl h, fun k hk => ?_, fun _ _ => rfl, fun _ hb => hb, Nat.le_refl _, m.os, m.tape, m.output, by rw [m.size]; omega, fun k hk _ _ => m.old k hk, m.shp, fun b cs' hb => .inl ⟨b, cs', hb, rfl⟩, fun b r hb => .inl ⟨b, r, hb, rfl⟩, m.fz (fun _ _ _ _ h => by cases h; rfl)⟩
    rcases hk with hk | hk
    · exact .inl hk
    · exact .inr (.inl (by omega))

/-- A world in which one block has new contents. -/
structure Put (w w' : World) (k : Nat) (C' : Array Value) (e : TypeId) : Prop where
  heap : w'.heap = w.heap.setIfInBounds k (.cells C' e (0, 0))
  os : w'.os = w.os
  tape : w'.tape = w.tape
  output : w'.output = w.output

theorem Put.old {w w' : World} {k : Nat} {C' : Array Value} {e : TypeId} (m : Put w w' k C' e) (q : Nat) (h : q ≠ k) : w'.heap[q]? = w.heap[q]? := by
  rw [m.heap, Array.getElem?_setIfInBounds, if_neg (fun e => h e.symm)]
theorem Put.new {w w' : World} {k : Nat} {C' : Array Value} {e : TypeId} (m : Put w w' k C' e) (hk : k < w.heap.size) : w'.heap[k]? = some (.cells C' e (0, 0)) := by
  rw [m.heap, Array.getElem?_setIfInBounds, if_pos rfl, if_pos hk]
theorem Put.size {w w' : World} {k : Nat} {C' : Array Value} {e : TypeId} (m : Put w w' k C' e) : w'.heap.size = w.heap.size := by rw [m.heap, Array.size_setIfInBounds]
theorem Put.shp {w w' : World} {k : Nat} {C C' : Array Value} {e : TypeId} (m : Put w w' k C' e) (hk : w.heap[k]? = some (.cells C e (0, 0))) (hs : C'.size = C.size) (q : Nat) (D : Array Value) (e' : TypeId)
    (h : w.heap[q]? = some (.cells D e' (0, 0))) : ∃ D', w'.heap[q]? = some (.cells D' e' (0, 0)) ∧ D'.size = D.size := by
  by_cases hq : q = k
  · subst hq
    rw [hk] at h; cases h
    exact ⟨C', m.new (Array.getElem?_eq_some_iff.1 hk).1, hs⟩
  · exact ⟨D, (m.old q hq).trans h, rfl⟩

/-- A STORE INTO A BLOCK OF THE CALL's OWN; the block may get another name ('n': its own, or a new one). -/
theorem put_ok {h h' : H} {c c' : Cx} {w w' : World} {b n : Nat} {C C' : Array Value} {e : TypeId} {cs cs' : List AV} {D D' : Nat → Prop} (hr : Rel c D h w) (hb : h.get b = some cs) (hblk : w.heap[c.φ b]? = some (.cells C e (0, 0)))
    (m : Put w w' (c.φ b) C' e) (hs : C'.size = C.size) (hlen : cs'.length ≤ C'.size)
    (hn : n = b ∨ ¬ D n) (hc : c' = c.bind n (c.φ b)) (hDD : ∀ q, D q → D' q) (hDn : D' n) (hnn : h.next ≤ h'.next) (hget : ∀ q, h'.get q = if q = n then some cs' else if q = b then none else h.get q) (hlp : h'.lp = h.lp)
    (hcs : ∀ (j : Nat) (x : AV) (v : Value), cs'[j]? = some x → C'[j]? = some v → R c w D x v) :
    Rel c' D' h' w' ∧ Ext D h c w D' c' w' h' := by
  subst hc
  obtain ⟨hbn, hbS, _⟩ := hr.own b cs hb
  have hbk : c.φ b < w.heap.size := (Array.getElem?_eq_some_iff.1 hblk).1
  have hφ : ∀ q, D q → (c.bind n (c.φ b)).φ q = c.φ q := fun q hq => by
    simp only [Cx.bind]; split
    · rename_i he; subst he; rcases hn with hn | hn
      · rw [hn]
      · exact absurd hq hn
    · rfl
  have hshp := m.shp hblk hs
  have hfix : ∀ k, c.S k → w'.heap[k]? = w.heap[k]? := fun k hk => m.old k (fun e => hbS (e ▸ hk))
  have hup : ∀ {x : AV} {v : Value}, R c w D x v → R (c.bind n (c.φ b)) w' D' x v := fun hx => hx.mono (fun _ h => h) hfix hφ hDD hshp
  have hnφ : (c.bind n (c.φ b)).φ n = c.φ b := by simp [Cx.bind]
  constructor
  · refine ⟨fun q ds hq => ?_, fun q q' d1 d2 h1 h2 he => ?_, fun k hk => by rw [m.size]; exact hr.sz k hk, by rw [hlp]; exact hr.lps_keep (fun _ h => h) hfix hφ hDD hshp (fun q r hq => m.old _ (hr.apart (b' := b) hq hblk)) (fun _ _ _ h => h), by rw [hlp]; exact hr.linj_keep hφ⟩
    · rw [hget] at hq
      split at hq
      · rename_i hqn; cases hq; subst hqn
        exact ⟨hDn, by rw [hnφ]; exact hbS, C', e, by rw [hnφ]; exact m.new hbk, hlen, fun j x v h1 h2 => hup (hcs j x v h1 h2)⟩
      · split at hq
        · cases hq
        · rename_i hqn hqb
          obtain ⟨g1, g2, K, e', gblk, g4, g5⟩ := hr.own q ds hq
          rw [hφ q g1]
          have hne : c.φ q ≠ c.φ b := fun e => hqb (hr.inj q b ds cs hq hb e)
          exact ⟨hDD _ g1, g2, K, e', by rw [m.old _ hne]; exact gblk, g4, fun j x v h1 h2 => hup (g5 j x v h1 h2)⟩
    · rw [hget] at h1 h2
      split at h1 <;> split at h2
      · omega
      · split at h2
        · cases h2
        · rename_i e1 e2 e3
          have g1 := (hr.own q' d2 h2).1
          rw [hφ q' g1, e1, hnφ] at he
          exact absurd (hr.inj q' b d2 cs h2 hb he.symm) e3
      · split at h1
        · cases h1
        · rename_i e1 e2 e3
          have g1 := (hr.own q d1 h1).1
          rw [hφ q g1, e2, hnφ] at he
          exact absurd (hr.inj q b d1 cs h1 hb he) e3
      · split at h1
        · cases h1
        · split at h2
          · cases h2
          · rw [hφ q (hr.own q d1 h1).1, hφ q' (hr.own q' d2 h2).1] at he
            exact hr.inj q q' d1 d2 h1 h2 he
  · refine ⟨fun _ h => h, fun _ h => .inl h, hφ, hDD, hnn, m.os, m.tape, m.output, by rw [m.size]; exact Nat.le_refl _, fun k hk hno _ => m.old k (fun e => hno b cs hb e.symm), hshp, fun q ds hq => ?_, fun q r hq => .inl ⟨q, r, by rw [← hlp]; exact hq, (hφ q (hr.lps q r (by rw [← hlp]; exact hq)).1).symm⟩, fun a => ?_⟩
    rotate_left
    · unfold World.frozen?
      by_cases ha : a.block = c.φ b
      · rw [ha, m.new hbk, hblk]
      · rw [m.old _ ha]
    rw [hget] at hq
    split at hq
    · rename_i hqn; subst hqn; exact .inl ⟨b, cs, hb, hnφ.symm⟩
    · split at hq
      · cases hq
      · exact .inl ⟨q, ds, hq, (hφ q (hr.own q ds hq).1).symm⟩

end Go.Pe

/- Operations that make memory or write into it: what each gives, and that it gives it. -/
namespace Go.Pe
open Go

def clean1 : AV → Bool
  | .val _ => true
  | .ro _ _ _ => true
  | .rop _ => true
  | _ => false
def clean : AV → Bool
  | .clo _ caps => caps.all clean1
  | x => clean1 x

theorem clean1_R {c : Cx} {w : World} {D : Nat → Prop} {x : AV} {v : Value} (h : R c w D x v) (hc : clean1 x = true) : R c w noId x v := by
  cases h with
  | val v => exact .val v
  | ro cell hS hl hcc hf hk hcell ho hh => exact .ro cell hS hl hcc hf hk hcell ho hh
  | nil => exact .nil
  | emp => exact .emp
  | rop cell hS hcell hh => exact .rop cell hS hcell hh
  | _ => simp [clean1] at hc
theorem clean_R {c : Cx} {w : World} {D : Nat → Prop} {x : AV} {v : Value} (h : R c w D x v) (hc : clean x = true) : R c w noId x v := by
  cases h with
  | clo hs hh =>
    refine .clo hs fun i x v h1 h2 => clean1_R (hh i x v h1 h2) ?_
    simp only [clean, List.all_eq_true] at hc
    exact hc x (List.mem_of_getElem? h1)
  | val v => exact .val v
  | ro cell hS hl hcc hf hk hcell ho hh => exact .ro cell hS hl hcc hf hk hcell ho hh
  | nil => exact .nil
  | emp => exact .emp
  | rop cell hS hcell hh => exact .rop cell hS hcell hh
  | _ => simp [clean, clean1] at hc

/-- Rows of k cells each, one after another. -/
def chunk (k n : Nat) (l : List AV) : List (List AV) := (List.range n).map fun i => (l.drop (i * k)).take k
def zcells (n : Nat) (z : List Value) : List AV := (List.replicate n (z.map AV.val)).flatten

theorem flatten_get {α : Type} {k : Nat} (hk : 0 < k) : ∀ (xs : List (List α)) (j : Nat), (∀ row ∈ xs, row.length = k) → xs.flatten[j]? = (xs[j / k]?).bind fun row => row[j % k]?
  | [], j, _ => by simp
  | row :: xs, j, h => by
    have hr : row.length = k := h row (by simp)
    rw [List.flatten_cons]
    by_cases hj : j < k
    · rw [List.getElem?_append_left (by omega), Nat.div_eq_of_lt hj, Nat.mod_eq_of_lt hj]; rfl
    · rw [List.getElem?_append_right (by omega), hr, flatten_get hk xs (j - k) (fun r hr => h r (by simp [hr]))]
      have h1 : j / k = (j - k) / k + 1 := by rw [Nat.div_eq_sub_div hk (by omega)]
      have h2 : j % k = (j - k) % k := by rw [Nat.mod_eq_sub_mod (by omega)]
      rw [h1, h2]; rfl
theorem flatten_len {α : Type} {k : Nat} : ∀ (xs : List (List α)), (∀ row ∈ xs, row.length = k) → xs.flatten.length = xs.length * k
  | [], _ => by simp
  | row :: xs, h => by
    rw [List.flatten_cons, List.length_append, h row (by simp), flatten_len xs (fun r hr => h r (by simp [hr])), List.length_cons, Nat.succ_mul]; omega

theorem zcells_len (n : Nat) (z : List Value) : (zcells n z).length = n * z.length := by
  unfold zcells
  rw [flatten_len (k := z.length) _ (fun row h => by rw [List.eq_of_mem_replicate h]; simp)]; simp
theorem zcells_get {n : Nat} {z : List Value} {j : Nat} {x : AV} (h : (zcells n z)[j]? = some x) : ∃ v, z[j % z.length]? = some v ∧ x = .val v := by
  have hlt : j < n * z.length := by rw [← zcells_len]; exact (List.getElem?_eq_some_iff.1 h).1
  have hz : 0 < z.length := Nat.pos_of_ne_zero fun e => by simp [e] at hlt
  unfold zcells at h
  rw [flatten_get hz _ j (fun row h => by rw [List.eq_of_mem_replicate h]; simp)] at h
  have hd : j / z.length < n := Nat.div_lt_of_lt_mul (by rw [Nat.mul_comm]; exact hlt)
  simp only [List.getElem?_replicate, hd, if_true, Option.bind_some, List.getElem?_map] at h
  cases hv : z[j % z.length]? with
  | none => simp [hv] at h
  | some v => simp only [hv, Option.map_some, Option.some.injEq] at h; exact ⟨v, rfl, h.symm⟩

/-- What an operation with an effect gives, and the heap behind it. -/
def tyInt2 (P : Program) (t : TypeId) (f : TI → Option (AV × H)) : Option (AV × H) := match ti P t with | some T => f T | none => none
theorem tyInt2_some {P : Program} {t : TypeId} {f : TI → Option (AV × H)} {x : AV × H} (h : tyInt2 P t f = some x) : ∃ T, ti P t = some T ∧ f T = some x := by
  unfold tyInt2 at h
  split at h
  · exact ⟨_, by assumption, h⟩
  · cases h

def storeA (T : TI) (h : H) (p x : AV) : Option (AV × H) :=
  match p, cellsOf x with
  | .ptr b o, some l => match h.get b with
    | some cs => if l.length = T.size ∧ o + T.size ≤ cs.length then some (.val undef, h.set b (cs.take o ++ l ++ cs.drop (o + l.length))) else none
    | none => none
  | _, _ => none

/-- A row that has nothing in it. -/
def emptyA : AV → Bool
  | .val (.slice none 0 0) => true
  | .ro _ _ [] => true
  | _ => false
/-- A slice that is written down: its rows, or own memory if all of them are empty ('own': these may be written into later). -/
def buildSliceA (own : Bool) (E : TI) (h : H) (n : Nat) (parts : List (Nat × AV)) : Option (AV × H) :=
  if n * E.size ≤ 16777216 ∧ E.zero.length = E.size then
    match fillA (fun i => some (i * E.size, E.size)) (zcells n E.zero) parts with
    | some l => if l.all (fun x => clean x && one x) then (if (own && (decide (2 ≤ n) && (decide (E.size = 1) && l.all emptyA))) = true then some (.sl h.next 0 n E.size, h.push l) else some (.ro true E.size (chunk E.size n l), h)) else none
    | none => none
  else none

def makeSliceA (E : TI) (h : H) (l c : Int) : Option (AV × H) :=
  if 0 ≤ l ∧ l ≤ c ∧ (E.bytes : Int) * c ≤ 70368744177664 ∧ c ≤ 70368744177664 ∧ E.zero.length = E.size then (if c ≤ l then some (.sl h.next 0 l.toNat E.size, h.push (zcells l.toNat E.zero)) else some (.slc h.next 0 l.toNat E.size c.toNat, h.push (zcells c.toNat E.zero))) else none

theorem put_setRow {w : World} {k : Nat} {C C' : Array Value} {e : TypeId} (h : w.heap[k]? = some (.cells C e (0, 0))) : Put w (w.setRow k C') k C' e := by
  refine ⟨?_, rfl, rfl, rfl⟩
  apply Array.ext_getElem?
  intro i
  simp only [World.setRow, Array.getElem?_modify, Array.getElem?_setIfInBounds]
  by_cases hi : k = i
  · subst hi
    obtain ⟨hlt, hget⟩ := Array.getElem?_eq_some_iff.1 h
    simp [hlt, hget]
  · simp [hi]

section steps
variable {P : Program} {c : Cx} {w : World} {h : H} {D : Nat → Prop} (hr : Rel c D h w) (hfr : ¬ D h.next)
include hr

/-- An effect's word: it ran, and what it gave is what is said. -/
def Did (P : Program) (s : Sem Value) (c : Cx) (D : Nat → Prop) (w : World) (h : H) (r : AV × H) : Prop :=
  ∃ v w' c' D', s.run P w = .ok v w' ∧ R c' w' D' r.1 v ∧ Rel c' D' r.2 w' ∧ Ext D h c w D' c' w' r.2 ∧ ∀ b, D' b → D b ∨ (h.next ≤ b ∧ b < r.2.next)

omit hr in
theorem zero_RL {T : TI} {t : TypeId} (hT : ti P t = some T) : ∃ z, (zeroValue t).run P w = .ok z w ∧ RL c w D (T.zero.map .val) z.cells := by
  obtain ⟨z, hz, hzc⟩ := ti_zero hT w
  refine ⟨z, hz, by rw [← hzc]; simp, fun i x v h1 h2 => ?_⟩
  rw [← hzc] at h1
  simp only [List.getElem?_map, Array.getElem?_toList, h2, Option.map_some, Option.some.injEq] at h1
  subst h1; exact .val v

omit hr in
theorem addId_bound {D : Nat → Prop} {h : H} {n : Nat} (hn : h.next < n) : ∀ b, addId D h.next b → D b ∨ (h.next ≤ b ∧ b < n) := fun b hb => by
  rcases hb with hb | hb
  · exact .inl hb
  · exact .inr (by omega)

include hfr
theorem ptr_push {C : Array Value} {e : TypeId} {cs : List AV} (hcs : RL c w D cs C) :
    ∃ c', R c' (w.alloc (.cells C e)) (addId D h.next) (.ptr h.next 0) (.pointer (some ⟨w.heap.size, 0, none⟩)) ∧ Rel c' (addId D h.next) (h.push cs) (w.alloc (.cells C e)) ∧ Ext D h c w (addId D h.next) c' (w.alloc (.cells C e)) (h.push cs) := by
  obtain ⟨h1, h2⟩ := push_ok hr hfr (made_alloc w (.cells C e (0, 0))) (by rw [hcs.1]; exact Nat.le_refl _) hcs.2
  refine ⟨c.bind h.next w.heap.size, ?_, h1, h2⟩
  have : R (c.bind h.next w.heap.size) (w.alloc (.cells C e)) (addId D h.next) (.ptr h.next 0) (.pointer (some ⟨(c.bind h.next w.heap.size).φ h.next, 0, none⟩)) := .ptr (.inr rfl)
  simpa [Cx.bind] using this

theorem did_alloc {t : TypeId} {T : TI} (hT : ti P t = some T) : Did P (Instr.alloc t true (.tuple #[])) c D w h (.ptr h.next 0, h.push (T.zero.map .val)) := by
  obtain ⟨z, hz, hRL⟩ := zero_RL hT
  obtain ⟨c', g1, g2, g3⟩ := ptr_push (e := t) hr hfr hRL
  exact ⟨_, _, c', _, by simp [Instr.alloc, hz, newVar, newRow], g1, g2, g3, addId_bound (Nat.lt_succ_self _)⟩

theorem did_box {t : TypeId} {x : AV} {l : List AV} {v : Value} (hx : R c w D x v) (hl : cellsOf x = some l) : Did P (Instr.box t v) c D w h (.ptr h.next 0, h.push l) := by
  obtain ⟨hRL, _⟩ := cellsOf_R hx hl
  obtain ⟨c', g1, g2, g3⟩ := ptr_push (e := t) hr hfr hRL
  exact ⟨_, _, c', _, by simp [Instr.box, newVar, newRow], g1, g2, g3, addId_bound (Nat.lt_succ_self _)⟩

omit hfr
theorem did_store {t : TypeId} {T : TI} (hT : ti P t = some T) {p x : AV} {u v : Value} {r : AV × H} (hp : R c w D p u) (hx : R c w D x v) (hs : storeA T h p x = some r) :
    Did P (do Instr.storeAt t u v; pure undef) c D w h r := by
  unfold storeA at hs
  split at hs
  · rename_i b o l hl
    split at hs
    · rename_i cs hcs
      split at hs
      · rename_i hcond
        cases hs
        obtain ⟨hRL, hone⟩ := cellsOf_R hx hl
        obtain ⟨hbn, hbS, C, e, hblk, hlen, hcont⟩ := hr.own b cs hcs
        have hvl : v.cells.size = l.length := hRL.1
        cases hp with
        | ptr hb =>
          have hst := run_storeCells_at (P := P) (c.φ b) o e v.cells.toList 0 C w hblk (by simp; omega) (fun u hu => by
            rw [Array.all_eq_true_iff_forall_mem] at hone; exact hone u (by simpa using hu))
          have hsz := ti_size hT w
          have hC' : ∀ j, ((C.toList.take o ++ v.cells.toList ++ C.toList.drop (o + v.cells.toList.length)).toArray)[j]? = if o ≤ j ∧ j < o + l.length then v.cells[j - o]? else C[j]? := fun j => by
            have := splice_get (cs := C.toList) (l := v.cells.toList) (off := o) (j := j) (by simp; omega)
            simp only [List.getElem?_toArray]
            rw [this]; simp [hvl]
          have m : Put w (w.setRow (c.φ b) (C.toList.take o ++ v.cells.toList ++ C.toList.drop (o + v.cells.toList.length)).toArray) (c.φ b) (C.toList.take o ++ v.cells.toList ++ C.toList.drop (o + v.cells.toList.length)).toArray e :=
            put_setRow hblk
          obtain ⟨g1, g2⟩ := put_ok (h' := h.set b (cs.take o ++ l ++ cs.drop (o + l.length))) (c' := c.bind b (c.φ b)) (n := b) (cs' := cs.take o ++ l ++ cs.drop (o + l.length)) hr hcs hblk m
            (by simp [hvl]; omega) (by simp [hvl]; omega) (.inl rfl) rfl (fun _ hq => hq) hbn (Nat.le_refl _) (fun q => by simp only [H.set]; split <;> rfl) rfl (fun j x v h1 h2 => by
              rw [splice_get (by omega)] at h1
              rw [hC'] at h2
              by_cases hj : o ≤ j ∧ j < o + l.length
              · rw [if_pos hj] at h1 h2; exact hRL.2 _ x v h1 h2
              · rw [if_neg hj] at h1 h2; exact hcont j x v h1 h2)
          refine ⟨undef, _, _, _, ?_, .val _, g1, g2, fun b hb => .inl hb⟩
          have : ¬ (v.cells.size ≠ T.size) := by omega
          simp only [Nat.add_zero] at hst
          simp [Instr.storeAt, Instr.sureAddr, storeVar, hsz, this, hst]
      · cases hs
    · cases hs
  · cases hs

theorem did_buildSlice {own : Bool} (hfr : ¬ D h.next) {t : TypeId} {T E : TI} {n : Nat} (hT : ti P t = some T) {e : TypeId} (hk : T.kind = .sl e) (hE : ti P e = some E) {ps : List (Nat × AV)} {qs : Array (Nat × Value)} {r : AV × H}
    (he : ps.map (·.1) = qs.toList.map (·.1)) (hR : ∀ (i : Nat) (x : AV) (v : Value), (ps.map (·.2))[i]? = some x → (qs.toList.map (·.2))[i]? = some v → R c w D x v) (hb : buildSliceA own E h n ps = some r) :
    Did P (Instr.buildSlice t n qs) c D w h r := by
  unfold buildSliceA at hb
  split at hb
  · rename_i hcond
    obtain ⟨hsmall, hzl⟩ := hcond
    split at hb
    · rename_i l hl
      split at hb
      · rename_i hall
        have hd := ti_sl hT hk
        have hsz := ti_size hE w
        obtain ⟨z, hz, hzc⟩ := ti_zero hE w
        have hzs : z.cells.size = E.size := by rw [← hzl, ← hzc]; simp
        have hcells : ∃ Z : Array Value, ((n * E.size = 0 ∧ Z = #[]) ∨ (n * E.size ≠ 0 ∧ Z = z.cells)) ∧
            RL c w D (zcells n E.zero) ((Array.range (n * E.size)).map (Z[· % Z.size]!)) := by
          by_cases h0 : n * E.size = 0
          · refine ⟨#[], .inl ⟨h0, rfl⟩, by rw [zcells_len, hzl]; simp, fun i x v h1 h2 => ?_⟩
            have := (List.getElem?_eq_some_iff.1 h1).1
            rw [zcells_len, hzl] at this; omega
          · refine ⟨z.cells, .inr ⟨h0, rfl⟩, by rw [zcells_len, hzl]; simp, fun i x v h1 h2 => ?_⟩
            obtain ⟨u, hu1, hu2⟩ := zcells_get h1
            subst hu2
            have hi : i < n * E.size := by have := (List.getElem?_eq_some_iff.1 h1).1; rw [zcells_len, hzl] at this; exact this
            rw [hzl] at hu1
            rw [← hzc, Array.getElem?_toList] at hu1
            simp [hi, hzs, getElem!_def, hu1] at h2
            subst h2; exact .val _
        obtain ⟨Z, hZ1, hZ2⟩ := hcells
        obtain ⟨us, hu1, hu2⟩ := fill_R ps qs.toList _ l _ hZ2 he hR hl
        have hll : l.length = n * E.size := by
          have hfl : ∀ (ps : List (Nat × AV)) (cs l : List AV), fillA (fun i => some (i * E.size, E.size)) cs ps = some l → l.length = cs.length := by
            intro ps
            induction ps with
            | nil => intro cs l h; simp only [fillA, Option.some.injEq] at h; rw [h]
            | cons p ps ih =>
              intro cs l h
              simp only [fillA] at h
              split at h
              · split at h
                · cases h
                · rename_i hc; rw [ih _ _ h]; simp; omega
              · cases h
          rw [hfl ps _ l hl, zcells_len, hzl]
        have hus : us.size = n * E.size := by rw [hu2.1, hll]
        have hrun : (Instr.buildSlice t n qs).run P w = .ok (.slice (some ⟨w.heap.size, 0, none⟩) n n) (w.alloc (.cells us e)) := by
          have : ¬ (n * E.size > 2 ^ 24) := by omega
          rcases hZ1 with ⟨h0, rfl⟩ | ⟨h0, rfl⟩
          · simp only [Instr.buildSlice, Sem.run_bind, run_underlying hd, Result.andThen_ok, hsz, this, if_false, h0, if_true, Sem.run_pure]
            rw [h0] at hu1
            have h00 : ¬ (0 > 2 ^ 24) := by decide
            simp only [h00, if_false, Sem.run_bind, Sem.run_pure, Result.andThen_ok, hu1]
            simp [newRow]
          · simp only [Instr.buildSlice, Sem.run_bind, run_underlying hd, Result.andThen_ok, hsz, this, if_false, h0, hz, Sem.run_pure]
            rw [hu1]
            simp [newRow]
        split at hb
        · cases hb
          obtain ⟨g1, g2⟩ := push_ok (cs := l) hr hfr (made_alloc w (.cells us e (0, 0))) (by rw [hll, hus]; exact Nat.le_refl _) (fun j x v e1 e2 => hu2.2 j x v e1 e2)
          refine ⟨_, _, _, _, hrun, ?_, g1, g2, addId_bound (Nat.lt_succ_self _)⟩
          have : R (c.bind h.next w.heap.size) (w.alloc (.cells us e)) (addId D h.next) (.sl h.next 0 n E.size) (.slice (some ⟨(c.bind h.next w.heap.size).φ h.next, 0, none⟩) n n) :=
            .sl (.inr rfl) (Nat.le_refl _) us e (by simpa [Cx.bind] using (made_alloc w (.cells us e (0, 0))).new) (by rw [hus]; omega)
          simpa [Cx.bind, H.push] using this
        cases hb
        obtain ⟨g1, g2⟩ := keep_ok hr (made_alloc w (.cells us e (0, 0)))
        refine ⟨.slice (some ⟨w.heap.size, 0, none⟩) n n, w.alloc (.cells us e), c.keep w.heap.size, D, hrun, ?_, g1, g2, fun b hb => .inl hb⟩
        · refine .ro (fun i j => us.getD (i * E.size + j) undef) (Or.inr rfl) (by simp [chunk]) (Nat.le_refl _) (fun _ => rfl) (fun row hrow => ?_) (fun i j hi hj => ?_) (fun i j hi hj => ?_) (fun i j row x h1 h2 => ?_)
          · simp only [chunk, List.mem_map, List.mem_range] at hrow
            obtain ⟨i, hi, rfl⟩ := hrow
            have : (i + 1) * E.size ≤ n * E.size := Nat.mul_le_mul_right _ hi
            rw [Nat.succ_mul] at this
            simp [hll]; omega
          · have : i * E.size + j < us.size := by
              have : (i + 1) * E.size ≤ n * E.size := Nat.mul_le_mul_right _ hi
              rw [Nat.succ_mul] at this; omega
            simp [Array.getD, this]
          · have hlt : i * E.size + j < us.size := by
              have : (i + 1) * E.size ≤ n * E.size := Nat.mul_le_mul_right _ hi
              rw [Nat.succ_mul] at this; omega
            have hlt' : i * E.size + j < l.length := by omega
            have h1 := List.getElem?_eq_getElem hlt'
            have h2 := Array.getElem?_eq_getElem hlt
            have hx := hu2.2 _ _ _ h1 h2
            have := (List.all_eq_true.1 hall) _ (List.getElem_mem hlt')
            simp only [Bool.and_eq_true] at this
            simp only [Array.getD, hlt, dif_pos]
            exact one_R hx this.2
          · simp only [chunk, List.getElem?_map, List.getElem?_range] at h1
            by_cases hi : i < n
            · rw [List.getElem?_range hi] at h1
              simp only [Option.map_some, Option.some.injEq] at h1
              subst h1
              rw [List.getElem?_take] at h2
              split at h2
              · rename_i hj
                rw [List.getElem?_drop] at h2
                have hlt : i * E.size + j < us.size := by rw [hu2.1]; exact (List.getElem?_eq_some_iff.1 h2).1
                have hx := hu2.2 _ _ _ h2 (Array.getElem?_eq_getElem hlt)
                have := (List.all_eq_true.1 hall) x (List.mem_of_getElem? h2)
                simp only [Bool.and_eq_true] at this
                simp only [Array.getD, hlt, dif_pos]
                exact (clean_R hx this.1).mono g2.S (g2.fix hr) (fun b hb => hb.elim) (fun _ hb => hb) g2.shp
              · cases h2
            · rw [List.getElem?_eq_none (by simp; omega)] at h1; simp at h1
      · cases hb
    · cases hb
  · cases hb

end steps
end Go.Pe
