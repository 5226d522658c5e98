/- Operations that make memory or write into it: what each gives, and that it gives it. -/
import Derived.Test.YtblpmcmapadphaaPeF
set_option linter.unusedVariables false
set_option linter.unusedSimpArgs false
namespace Go.Pe
open Go

def clean1 : AV → Bool
  | .val _ => true
  | .ro _ _ _ => true
  | .rop _ => true
  | _ => false
def clean : AV → Bool
  | .clo _ caps => caps.all clean1
  | x => clean1 x

theorem clean1_R {c : Cx} {w : World} {D : Nat → Prop} {x : AV} {v : Value} (h : R c w D x v) (hc : clean1 x = true) : R c w noId x v := by
  cases h with
  | val v => exact .val v
  | ro cell hS hl hcc hf hk hcell ho hh => exact .ro cell hS hl hcc hf hk hcell ho hh
  | nil => exact .nil
  | emp => exact .emp
  | rop cell hS hcell hh => exact .rop cell hS hcell hh
  | _ => simp [clean1] at hc
theorem clean_R {c : Cx} {w : World} {D : Nat → Prop} {x : AV} {v : Value} (h : R c w D x v) (hc : clean x = true) : R c w noId x v := by
  cases h with
  | clo hs hh =>
    refine .clo hs fun i x v h1 h2 => clean1_R (hh i x v h1 h2) ?_
    simp only [clean, List.all_eq_true] at hc
    exact hc x (List.mem_of_getElem? h1)
  | val v => exact .val v
  | ro cell hS hl hcc hf hk hcell ho hh => exact .ro cell hS hl hcc hf hk hcell ho hh
  | nil => exact .nil
  | emp => exact .emp
  | rop cell hS hcell hh => exact .rop cell hS hcell hh
  | _ => simp [clean, clean1] at hc

/-- Rows of k cells each, one after another. -/
def chunk (k n : Nat) (l : List AV) : List (List AV) := (List.range n).map fun i => (l.drop (i * k)).take k
def zcells (n : Nat) (z : List Value) : List AV := (List.replicate n (z.map AV.val)).flatten

theorem flatten_get {α : Type} {k : Nat} (hk : 0 < k) : ∀ (xs : List (List α)) (j : Nat), (∀ row ∈ xs, row.length = k) → xs.flatten[j]? = (xs[j / k]?).bind fun row => row[j % k]?
  | [], j, _ => by simp
  | row :: xs, j, h => by
    have hr : row.length = k := h row (by simp)
    rw [List.flatten_cons]
    by_cases hj : j < k
    · rw [List.getElem?_append_left (by omega), Nat.div_eq_of_lt hj, Nat.mod_eq_of_lt hj]; rfl
    · rw [List.getElem?_append_right (by omega), hr, flatten_get hk xs (j - k) (fun r hr => h r (by simp [hr]))]
      have h1 : j / k = (j - k) / k + 1 := by rw [Nat.div_eq_sub_div hk (by omega)]
      have h2 : j % k = (j - k) % k := by rw [Nat.mod_eq_sub_mod (by omega)]
      rw [h1, h2]; rfl
theorem flatten_len {α : Type} {k : Nat} : ∀ (xs : List (List α)), (∀ row ∈ xs, row.length = k) → xs.flatten.length = xs.length * k
  | [], _ => by simp
  | row :: xs, h => by
    rw [List.flatten_cons, List.length_append, h row (by simp), flatten_len xs (fun r hr => h r (by simp [hr])), List.length_cons, Nat.succ_mul]; omega

theorem zcells_len (n : Nat) (z : List Value) : (zcells n z).length = n * z.length := by
  unfold zcells
  rw [flatten_len (k := z.length) _ (fun row h => by rw [List.eq_of_mem_replicate h]; simp)]; simp
theorem zcells_get {n : Nat} {z : List Value} {j : Nat} {x : AV} (h : (zcells n z)[j]? = some x) : ∃ v, z[j % z.length]? = some v ∧ x = .val v := by
  have hlt : j < n * z.length := by rw [← zcells_len]; exact (List.getElem?_eq_some_iff.1 h).1
  have hz : 0 < z.length := Nat.pos_of_ne_zero fun e => by simp [e] at hlt
  unfold zcells at h
  rw [flatten_get hz _ j (fun row h => by rw [List.eq_of_mem_replicate h]; simp)] at h
  have hd : j / z.length < n := Nat.div_lt_of_lt_mul (by rw [Nat.mul_comm]; exact hlt)
  simp only [List.getElem?_replicate, hd, if_true, Option.bind_some, List.getElem?_map] at h
  cases hv : z[j % z.length]? with
  | none => simp [hv] at h
  | some v => simp only [hv, Option.map_some, Option.some.injEq] at h; exact ⟨v, rfl, h.symm⟩

/-- What an operation with an effect gives, and the heap behind it. -/
def tyInt2 (P : Program) (t : TypeId) (f : TI → Option (AV × H)) : Option (AV × H) := match ti P t with | some T => f T | none => none
theorem tyInt2_some {P : Program} {t : TypeId} {f : TI → Option (AV × H)} {x : AV × H} (h : tyInt2 P t f = some x) : ∃ T, ti P t = some T ∧ f T = some x := by
  unfold tyInt2 at h
  split at h
  · exact ⟨_, by assumption, h⟩
  · cases h

def storeA (T : TI) (h : H) (p x : AV) : Option (AV × H) :=
  match p, cellsOf x with
  | .ptr b o, some l => match h.get b with
    | some cs => if l.length = T.size ∧ o + T.size ≤ cs.length then some (.val undef, h.set b (cs.take o ++ l ++ cs.drop (o + l.length))) else none
    | none => none
  | _, _ => none

def buildSliceA (E : TI) (h : H) (n : Nat) (parts : List (Nat × AV)) : Option (AV × H) :=
  if n * E.size ≤ 16777216 ∧ E.zero.length = E.size then
    match fillA (fun i => some (i * E.size, E.size)) (zcells n E.zero) parts with
    | some l => if l.all (fun x => clean x && one x) then some (.ro true E.size (chunk E.size n l), h) else none
    | none => none
  else none

def makeSliceA (E : TI) (h : H) (l c : Int) : Option (AV × H) :=
  if 0 ≤ l ∧ l ≤ c ∧ (E.bytes : Int) * c ≤ 70368744177664 ∧ c ≤ 70368744177664 ∧ E.zero.length = E.size then some (.sl h.next 0 l.toNat E.size, h.push (zcells l.toNat E.zero)) else none

theorem put_setRow {w : World} {k : Nat} {C C' : Array Value} {e : TypeId} (h : w.heap[k]? = some (.cells C e (0, 0))) : Put w (w.setRow k C') k C' e := by
  refine ⟨?_, rfl, rfl, rfl⟩
  apply Array.ext_getElem?
  intro i
  simp only [World.setRow, Array.getElem?_modify, Array.getElem?_setIfInBounds]
  by_cases hi : k = i
  · subst hi
    obtain ⟨hlt, hget⟩ := Array.getElem?_eq_some_iff.1 h
    simp [hlt, hget]
  · simp [hi]

section steps
variable {P : Program} {c : Cx} {w : World} {h : H} {D : Nat → Prop} (hr : Rel c D h w) (hfr : ¬ D h.next)
include hr

/-- An effect's word: it ran, and what it gave is what is said. -/
def Did (P : Program) (s : Sem Value) (c : Cx) (D : Nat → Prop) (w : World) (h : H) (r : AV × H) : Prop :=
  ∃ v w' c' D', s.run P w = .ok v w' ∧ R c' w' D' r.1 v ∧ Rel c' D' r.2 w' ∧ Ext D h c w D' c' w' r.2 ∧ ∀ b, D' b → D b ∨ (h.next ≤ b ∧ b < r.2.next)

omit hr in
theorem zero_RL {T : TI} {t : TypeId} (hT : ti P t = some T) : ∃ z, (zeroValue t).run P w = .ok z w ∧ RL c w D (T.zero.map .val) z.cells := by
  obtain ⟨z, hz, hzc⟩ := ti_zero hT w
  refine ⟨z, hz, by rw [← hzc]; simp, fun i x v h1 h2 => ?_⟩
  rw [← hzc] at h1
  simp only [List.getElem?_map, Array.getElem?_toList, h2, Option.map_some, Option.some.injEq] at h1
  subst h1; exact .val v

omit hr in
theorem addId_bound {D : Nat → Prop} {h : H} {n : Nat} (hn : h.next < n) : ∀ b, addId D h.next b → D b ∨ (h.next ≤ b ∧ b < n) := fun b hb => by
  rcases hb with hb | hb
  · exact .inl hb
  · exact .inr (by omega)

include hfr
theorem ptr_push {C : Array Value} {e : TypeId} {cs : List AV} (hcs : RL c w D cs C) :
    ∃ c', R c' (w.alloc (.cells C e)) (addId D h.next) (.ptr h.next 0) (.pointer (some ⟨w.heap.size, 0, none⟩)) ∧ Rel c' (addId D h.next) (h.push cs) (w.alloc (.cells C e)) ∧ Ext D h c w (addId D h.next) c' (w.alloc (.cells C e)) (h.push cs) := by
  obtain ⟨h1, h2⟩ := push_ok hr hfr (made_alloc w (.cells C e (0, 0))) (by rw [hcs.1]; exact Nat.le_refl _) hcs.2
  refine ⟨c.bind h.next w.heap.size, ?_, h1, h2⟩
  have : R (c.bind h.next w.heap.size) (w.alloc (.cells C e)) (addId D h.next) (.ptr h.next 0) (.pointer (some ⟨(c.bind h.next w.heap.size).φ h.next, 0, none⟩)) := .ptr (.inr rfl)
  simpa [Cx.bind] using this

theorem did_alloc {t : TypeId} {T : TI} (hT : ti P t = some T) : Did P (Instr.alloc t true (.tuple #[])) c D w h (.ptr h.next 0, h.push (T.zero.map .val)) := by
  obtain ⟨z, hz, hRL⟩ := zero_RL hT
  obtain ⟨c', g1, g2, g3⟩ := ptr_push (e := t) hr hfr hRL
  exact ⟨_, _, c', _, by simp [Instr.alloc, hz, newVar, newRow], g1, g2, g3, addId_bound (Nat.lt_succ_self _)⟩

theorem did_box {t : TypeId} {x : AV} {l : List AV} {v : Value} (hx : R c w D x v) (hl : cellsOf x = some l) : Did P (Instr.box t v) c D w h (.ptr h.next 0, h.push l) := by
  obtain ⟨hRL, _⟩ := cellsOf_R hx hl
  obtain ⟨c', g1, g2, g3⟩ := ptr_push (e := t) hr hfr hRL
  exact ⟨_, _, c', _, by simp [Instr.box, newVar, newRow], g1, g2, g3, addId_bound (Nat.lt_succ_self _)⟩

omit hfr
theorem did_store {t : TypeId} {T : TI} (hT : ti P t = some T) {p x : AV} {u v : Value} {r : AV × H} (hp : R c w D p u) (hx : R c w D x v) (hs : storeA T h p x = some r) :
    Did P (do Instr.storeAt t u v; pure undef) c D w h r := by
  unfold storeA at hs
  split at hs
  · rename_i b o l hl
    split at hs
    · rename_i cs hcs
      split at hs
      · rename_i hcond
        cases hs
        obtain ⟨hRL, hone⟩ := cellsOf_R hx hl
        obtain ⟨hbn, hbS, C, e, hblk, hlen, hcont⟩ := hr.own b cs hcs
        have hvl : v.cells.size = l.length := hRL.1
        cases hp with
        | ptr hb =>
          have hst := run_storeCells_at (P := P) (c.φ b) o e v.cells.toList 0 C w hblk (by simp; omega) (fun u hu => by
            rw [Array.all_eq_true_iff_forall_mem] at hone; exact hone u (by simpa using hu))
          have hsz := ti_size hT w
          have hC' : ∀ j, ((C.toList.take o ++ v.cells.toList ++ C.toList.drop (o + v.cells.toList.length)).toArray)[j]? = if o ≤ j ∧ j < o + l.length then v.cells[j - o]? else C[j]? := fun j => by
            have := splice_get (cs := C.toList) (l := v.cells.toList) (off := o) (j := j) (by simp; omega)
            simp only [List.getElem?_toArray]
            rw [this]; simp [hvl]
          have m : Put w (w.setRow (c.φ b) (C.toList.take o ++ v.cells.toList ++ C.toList.drop (o + v.cells.toList.length)).toArray) (c.φ b) (C.toList.take o ++ v.cells.toList ++ C.toList.drop (o + v.cells.toList.length)).toArray e :=
            put_setRow hblk
          obtain ⟨g1, g2⟩ := put_ok (h' := h.set b (cs.take o ++ l ++ cs.drop (o + l.length))) (c' := c.bind b (c.φ b)) (n := b) (cs' := cs.take o ++ l ++ cs.drop (o + l.length)) hr hcs hblk m
            (by simp [hvl]; omega) (by simp [hvl]; omega) (.inl rfl) rfl (fun _ hq => hq) hbn (Nat.le_refl _) (fun q => by simp only [H.set]; split <;> rfl) rfl (fun j x v h1 h2 => by
              rw [splice_get (by omega)] at h1
              rw [hC'] at h2
              by_cases hj : o ≤ j ∧ j < o + l.length
              · rw [if_pos hj] at h1 h2; exact hRL.2 _ x v h1 h2
              · rw [if_neg hj] at h1 h2; exact hcont j x v h1 h2)
          refine ⟨undef, _, _, _, ?_, .val _, g1, g2, fun b hb => .inl hb⟩
          have : ¬ (v.cells.size ≠ T.size) := by omega
          simp only [Nat.add_zero] at hst
          simp [Instr.storeAt, Instr.sureAddr, storeVar, hsz, this, hst]
      · cases hs
    · cases hs
  · cases hs

theorem did_buildSlice {t : TypeId} {T E : TI} {n : Nat} (hT : ti P t = some T) {e : TypeId} (hk : T.kind = .sl e) (hE : ti P e = some E) {ps : List (Nat × AV)} {qs : Array (Nat × Value)} {r : AV × H}
    (he : ps.map (·.1) = qs.toList.map (·.1)) (hR : ∀ (i : Nat) (x : AV) (v : Value), (ps.map (·.2))[i]? = some x → (qs.toList.map (·.2))[i]? = some v → R c w D x v) (hb : buildSliceA E h n ps = some r) :
    Did P (Instr.buildSlice t n qs) c D w h r := by
  unfold buildSliceA at hb
  split at hb
  · rename_i hcond
    obtain ⟨hsmall, hzl⟩ := hcond
    split at hb
    · rename_i l hl
      split at hb
      · rename_i hall
        cases hb
        have hd := ti_sl hT hk
        have hsz := ti_size hE w
        obtain ⟨z, hz, hzc⟩ := ti_zero hE w
        have hzs : z.cells.size = E.size := by rw [← hzl, ← hzc]; simp
        have hcells : ∃ Z : Array Value, ((n * E.size = 0 ∧ Z = #[]) ∨ (n * E.size ≠ 0 ∧ Z = z.cells)) ∧
            RL c w D (zcells n E.zero) ((Array.range (n * E.size)).map (Z[· % Z.size]!)) := by
          by_cases h0 : n * E.size = 0
          · refine ⟨#[], .inl ⟨h0, rfl⟩, by rw [zcells_len, hzl]; simp, fun i x v h1 h2 => ?_⟩
            have := (List.getElem?_eq_some_iff.1 h1).1
            rw [zcells_len, hzl] at this; omega
          · refine ⟨z.cells, .inr ⟨h0, rfl⟩, by rw [zcells_len, hzl]; simp, fun i x v h1 h2 => ?_⟩
            obtain ⟨u, hu1, hu2⟩ := zcells_get h1
            subst hu2
            have hi : i < n * E.size := by have := (List.getElem?_eq_some_iff.1 h1).1; rw [zcells_len, hzl] at this; exact this
            rw [hzl] at hu1
            rw [← hzc, Array.getElem?_toList] at hu1
            simp [hi, hzs, getElem!_def, hu1] at h2
            subst h2; exact .val _
        obtain ⟨Z, hZ1, hZ2⟩ := hcells
        obtain ⟨us, hu1, hu2⟩ := fill_R ps qs.toList _ l _ hZ2 he hR hl
        have hll : l.length = n * E.size := by
          have hfl : ∀ (ps : List (Nat × AV)) (cs l : List AV), fillA (fun i => some (i * E.size, E.size)) cs ps = some l → l.length = cs.length := by
            intro ps
            induction ps with
            | nil => intro cs l h; simp only [fillA, Option.some.injEq] at h; rw [h]
            | cons p ps ih =>
              intro cs l h
              simp only [fillA] at h
              split at h
              · split at h
                · cases h
                · rename_i hc; rw [ih _ _ h]; simp; omega
              · cases h
          rw [hfl ps _ l hl, zcells_len, hzl]
        have hus : us.size = n * E.size := by rw [hu2.1, hll]
        obtain ⟨g1, g2⟩ := keep_ok hr (made_alloc w (.cells us e (0, 0)))
        refine ⟨.slice (some ⟨w.heap.size, 0, none⟩) n n, w.alloc (.cells us e), c.keep w.heap.size, D, ?_, ?_, g1, g2, fun b hb => .inl hb⟩
        · have : ¬ (n * E.size > 2 ^ 24) := by omega
          rcases hZ1 with ⟨h0, rfl⟩ | ⟨h0, rfl⟩
          · simp only [Instr.buildSlice, Sem.run_bind, run_underlying hd, Result.andThen_ok, hsz, this, if_false, h0, if_true, Sem.run_pure]
            rw [h0] at hu1
            have h00 : ¬ (0 > 2 ^ 24) := by decide
            simp only [h00, if_false, Sem.run_bind, Sem.run_pure, Result.andThen_ok, hu1]
            simp [newRow]
          · simp only [Instr.buildSlice, Sem.run_bind, run_underlying hd, Result.andThen_ok, hsz, this, if_false, h0, hz, Sem.run_pure]
            rw [hu1]
            simp [newRow]
        · refine .ro (fun i j => us.getD (i * E.size + j) undef) (Or.inr rfl) (by simp [chunk]) (Nat.le_refl _) (fun _ => rfl) (fun row hrow => ?_) (fun i j hi hj => ?_) (fun i j hi hj => ?_) (fun i j row x h1 h2 => ?_)
          · simp only [chunk, List.mem_map, List.mem_range] at hrow
            obtain ⟨i, hi, rfl⟩ := hrow
            have : (i + 1) * E.size ≤ n * E.size := Nat.mul_le_mul_right _ hi
            rw [Nat.succ_mul] at this
            simp [hll]; omega
          · have : i * E.size + j < us.size := by
              have : (i + 1) * E.size ≤ n * E.size := Nat.mul_le_mul_right _ hi
              rw [Nat.succ_mul] at this; omega
            simp [Array.getD, this]
          · have hlt : i * E.size + j < us.size := by
              have : (i + 1) * E.size ≤ n * E.size := Nat.mul_le_mul_right _ hi
              rw [Nat.succ_mul] at this; omega
            have hlt' : i * E.size + j < l.length := by omega
            have h1 := List.getElem?_eq_getElem hlt'
            have h2 := Array.getElem?_eq_getElem hlt
            have hx := hu2.2 _ _ _ h1 h2
            have := (List.all_eq_true.1 hall) _ (List.getElem_mem hlt')
            simp only [Bool.and_eq_true] at this
            simp only [Array.getD, hlt, dif_pos]
            exact one_R hx this.2
          · simp only [chunk, List.getElem?_map, List.getElem?_range] at h1
            by_cases hi : i < n
            · rw [List.getElem?_range hi] at h1
              simp only [Option.map_some, Option.some.injEq] at h1
              subst h1
              rw [List.getElem?_take] at h2
              split at h2
              · rename_i hj
                rw [List.getElem?_drop] at h2
                have hlt : i * E.size + j < us.size := by rw [hu2.1]; exact (List.getElem?_eq_some_iff.1 h2).1
                have hx := hu2.2 _ _ _ h2 (Array.getElem?_eq_getElem hlt)
                have := (List.all_eq_true.1 hall) x (List.mem_of_getElem? h2)
                simp only [Bool.and_eq_true] at this
                simp only [Array.getD, hlt, dif_pos]
                exact (clean_R hx this.1).mono g2.S (g2.fix hr) (fun b hb => hb.elim) (fun _ hb => hb) g2.shp
              · cases h2
            · rw [List.getElem?_eq_none (by simp; omega)] at h1; simp at h1
      · cases hb
    · cases hb
  · cases hb

end steps
end Go.Pe
