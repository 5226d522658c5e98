/- What operations that leave memory alone give, and that they give it. -/
import Derived.Test.YtblpmcmapadphaaPeA
set_option linter.unusedVariables false
set_option linter.unusedSimpArgs false
namespace Go.Pe
open Go

/-- What is asked of a type. -/
inductive TK where
  | sl (e : TypeId)
  | st (fs : List (Nat × Nat × TypeId))
  | ar (n : Nat) (e : TypeId)
  | int (k : IntKind)
  | bool
  | str
  | oth

structure TI where
  kind : TK
  size : Nat
  zero : List Value
  agg : Bool
  bytes : Nat
  fok : Bool
  cmp : Bool

def isAggK : TK → Bool
  | .st _ => true
  | .ar _ _ => true
  | _ => false

def tkOf (P : Program) : TypeDesc → TK
  | .slice e => .sl e
  | .struct fs => .st (fs.toList.map fun f => (f.offset, P.cellsOf f.type, f.type))
  | .array n e => .ar n e
  | .int k => .int k
  | .bool => .bool
  | .string => .str
  | _ => .oth

/-- All fields of a struct have types of the program. -/
def fieldsOk (P : Program) (t : TypeId) : Bool := (P.fieldsOf t).all fun f => (P.info? f.type).isSome

/-- Two values of the type can be compared part by part. -/
def cmpOk (P : Program) (t : TypeId) : Bool := ((P.fieldsOf t).all fun f => f.name != "_") && !P.stoodInHeld t && !P.eqGuardType P.depth t

def ti (P : Program) (t : TypeId) : Option TI :=
  match P.info? t, P.underlying t with
  | some i, some d => match i.zero with
    | some z => some { kind := tkOf P d, size := i.size, zero := z.cells.toList, agg := isAggK (tkOf P d), bytes := i.bytes, fok := fieldsOk P t, cmp := cmpOk P t }
    | none => none
  | _, _ => none

section
variable {P : Program} {t : TypeId} {T : TI}
theorem ti_parts (h : ti P t = some T) : ∃ i z d, P.info? t = some i ∧ P.underlying t = some d ∧ T.kind = tkOf P d ∧ i.zero = some z ∧ i.size = T.size ∧ z.cells.toList = T.zero ∧ T.agg = isAggK T.kind ∧ i.bytes = T.bytes := by
  unfold ti at h
  split at h
  · rename_i i d hi hd
    split at h
    · rename_i z hz
      cases h
      exact ⟨i, z, d, hi, hd, rfl, hz, rfl, rfl, rfl, rfl⟩
    · cases h
  · cases h
theorem ti_fok (h : ti P t = some T) : T.fok = fieldsOk P t := by
  unfold ti at h
  split at h
  · split at h
    · cases h; rfl
    · cases h
  · cases h
theorem ti_cmp (h : ti P t = some T) : T.cmp = cmpOk P t := by
  unfold ti at h
  split at h
  · split at h
    · cases h; rfl
    · cases h
  · cases h
theorem ti_size (h : ti P t = some T) (w : World) : (sizeOf t).run P w = .ok T.size w := by
  obtain ⟨i, z, d, hi, hd, hk, hz, h1, h2, h3, h4⟩ := ti_parts h
  simp [sizeOf, typeInfo, hi, h1]
theorem ti_cells (h : ti P t = some T) : P.cellsOf t = T.size := by
  obtain ⟨i, z, d, hi, hd, hk, hz, h1, h2, h3, h4⟩ := ti_parts h
  simp [Program.cellsOf, hi, h1]
theorem ti_zero (h : ti P t = some T) (w : World) : ∃ z, (zeroValue t).run P w = .ok z w ∧ z.cells.toList = T.zero := by
  obtain ⟨i, z, d, hi, hd, hk, hz, h1, h2, h3, h4⟩ := ti_parts h
  exact ⟨z, by simp [zeroValue, typeInfo, hi, hz], h2⟩
theorem ti_agg (h : ti P t = some T) (w : World) : (isAgg t).run P w = .ok T.agg w := by
  obtain ⟨i, z, d, hi, hd, hk, hz, h1, h2, h3, h4⟩ := ti_parts h
  rw [h3, hk]
  have := run_underlying hd w
  cases d <;> simp [isAgg, this, isAggK, tkOf]
theorem ti_sl {e : TypeId} (h : ti P t = some T) (hk : T.kind = .sl e) : P.underlying t = some (.slice e) := by
  obtain ⟨i, z, d, hi, hd, hk', hz, h1, h2, h3, h4⟩ := ti_parts h
  rw [hd]; rw [hk'] at hk
  cases d <;> simp_all [tkOf]
theorem ti_st {fs : List (Nat × Nat × TypeId)} (h : ti P t = some T) (hk : T.kind = .st fs) : ∃ F : Array Field, P.underlying t = some (.struct F) ∧ fs = F.toList.map fun f => (f.offset, P.cellsOf f.type, f.type) := by
  obtain ⟨i, z, d, hi, hd, hk', hz, h1, h2, h3, h4⟩ := ti_parts h
  rw [hk'] at hk
  cases d <;> simp [tkOf] at hk
  rename_i F
  exact ⟨F, hd, hk.symm⟩
theorem ti_ar {n : Nat} {e : TypeId} (h : ti P t = some T) (hk : T.kind = .ar n e) : P.underlying t = some (.array n e) := by
  obtain ⟨i, z, d, hi, hd, hk', hz, h1, h2, h3, h4⟩ := ti_parts h
  rw [hd]; rw [hk'] at hk
  cases d <;> simp_all [tkOf]
theorem ti_int {k : IntKind} (h : ti P t = some T) (hk : T.kind = .int k) : P.underlying t = some (.int k) := by
  obtain ⟨i, z, d, hi, hd, hk', hz, h1, h2, h3, h4⟩ := ti_parts h
  rw [hd]; rw [hk'] at hk
  cases d <;> simp_all [tkOf]
theorem ti_bool (h : ti P t = some T) (hk : T.kind = .bool) : P.underlying t = some .bool := by
  obtain ⟨i, z, d, hi, hd, hk', hz, h1, h2, h3, h4⟩ := ti_parts h
  rw [hd]; rw [hk'] at hk
  cases d <;> simp_all [tkOf]
theorem ti_str (h : ti P t = some T) (hk : T.kind = .str) : P.underlying t = some .string := by
  obtain ⟨i, z, d, hi, hd, hk', hz, h1, h2, h3, h4⟩ := ti_parts h
  rw [hd]; rw [hk'] at hk
  cases d <;> simp_all [tkOf]
end

/-- An operand's abstract value. -/
def ofV : Value → AV
  | .agg cs => .agg (cs.toList.map .val)
  | v => .val v
def aev (ρ : List AV) : Operand → AV
  | .tmp t => ρ.getD t (.val undef)
  | .const v => ofV v
  | .global g => .val (.pointer (some ⟨g, 0, none⟩))
  | .func f => .clo f []

theorem R_ofV {c : Cx} {w : World} {D : Nat → Prop} (v : Value) : R c w D (ofV v) v := by
  unfold ofV
  split
  · refine .agg (by simp) fun i x v h1 h2 => ?_
    simp only [List.getElem?_map, Array.getElem?_toList, h2, Option.map_some, Option.some.injEq] at h1
    subst h1; exact .val v
  · exact .val _

theorem R_aev {c : Cx} {w : World} {D : Nat → Prop} {ρ : List AV} {a : Act} (h : RL c w D ρ a.tmps) (x : Operand) : R c w D (aev ρ x) (a.eval x) := by
  cases x with
  | tmp t =>
    simp only [aev, Act.eval]
    by_cases ht : t < ρ.length
    · have h1 : ρ[t]? = some ρ[t] := List.getElem?_eq_getElem ht
      have ht' : t < a.tmps.size := by rw [h.1]; exact ht
      have h2 : a.tmps[t]? = some a.tmps[t] := Array.getElem?_eq_getElem ht'
      have := h.2 t _ _ h1 h2
      simpa [List.getD, h1, Array.getD, ht'] using this
    · have h1 : ρ[t]? = none := List.getElem?_eq_none (Nat.le_of_not_lt ht)
      have ht' : ¬ t < a.tmps.size := by rw [h.1]; exact ht
      simp only [List.getD, h1, Option.getD_none, Array.getD, ht', dif_neg, not_false_eq_true]
      exact .val _
  | const v => exact R_ofV v
  | global g => exact .val _
  | func f => exact .clo (by simp) (fun i x v h1 _ => by simp at h1)

theorem RL_map {c : Cx} {w : World} {D : Nat → Prop} {ρ : List AV} {a : Act} (h : RL c w D ρ a.tmps) (xs : Array Operand) : RL c w D (xs.toList.map (aev ρ)) (xs.map a.eval) := by
  refine ⟨by simp, fun i x v h1 h2 => ?_⟩
  simp only [List.getElem?_map, Array.getElem?_toList, Array.getElem?_map] at h1 h2
  cases hx : xs[i]? with
  | none => simp [hx] at h1
  | some o => simp only [hx, Option.map_some, Option.some.injEq] at h1 h2; subst h1; subst h2; exact R_aev h o

/-- The cells of a value that can lie in memory. -/
def one : AV → Bool
  | .val v => v.oneCell'
  | .agg _ => false
  | .tup _ => false
  | _ => true
def cellsOf : AV → Option (List AV)
  | .agg l => if l.all one then some l else none
  | x => if one x then some [x] else none

theorem one_R {c : Cx} {w : World} {D : Nat → Prop} {x : AV} {v : Value} (h : R c w D x v) (h1 : one x = true) : v.oneCell' = true := by
  cases h <;> first | exact h1 | rfl | (simp [one] at h1; done)

theorem cells_one {v : Value} (h : v.oneCell' = true) : v.cells = #[v] := by cases v <;> first | rfl | (simp [Value.oneCell'] at h; done)

theorem cellsOf_R {c : Cx} {w : World} {D : Nat → Prop} {x : AV} {v : Value} {l : List AV} (h : R c w D x v) (hl : cellsOf x = some l) : RL c w D l v.cells ∧ v.cells.all (·.oneCell') = true := by
  have key : ∀ (x : AV) (v : Value), R c w D x v → one x = true → RL c w D [x] v.cells ∧ v.cells.all (·.oneCell') = true := by
    intro x v h h1
    have ho := one_R h h1
    rw [cells_one ho]
    refine ⟨⟨rfl, fun i y u e1 e2 => ?_⟩, by simp [ho]⟩
    match i, e1, e2 with
    | 0, e1, e2 => simp at e1 e2; subst e1; subst e2; exact h
    | i + 1, e1, e2 => simp at e1
  unfold cellsOf at hl
  split at hl
  · split at hl
    · rename_i hall
      cases hl
      cases h with
      | agg hs h =>
        refine ⟨⟨hs, h⟩, ?_⟩
        rw [Array.all_eq_true]
        intro i hi
        have hi' : i < l.length := by rw [← hs]; exact hi
        exact one_R (h i _ _ (List.getElem?_eq_getElem hi') (Array.getElem?_eq_getElem hi)) (List.all_eq_true.1 hall _ (List.getElem_mem hi'))
    · cases hl
  · split at hl
    · rename_i h1
      cases hl
      exact key _ _ h h1
    · cases hl

/-- A run of a row of cells. -/
def takeAt (cs : List AV) (o n : Nat) : Option (List AV) := if o + n ≤ cs.length then some ((cs.drop o).take n) else none
def asLoaded (T : TI) (l : List AV) : Option AV := if T.agg then some (.agg l) else match l with | [x] => some x | _ => none

def loadA (T : TI) (h : H) : AV → Option AV
  | .ptr b o => match h.get b with
    | some cs => (takeAt cs o T.size).bind (asLoaded T)
    | none => none
  | .rop cs => (takeAt cs 0 T.size).bind (asLoaded T)
  | _ => none

theorem takeAt_len {cs l : List AV} {o n : Nat} (h : takeAt cs o n = some l) : l.length = n ∧ (∀ j, j < n → l[j]? = cs[o + j]?) ∧ o + n ≤ cs.length := by
  unfold takeAt at h
  split at h
  · rename_i hle
    cases h
    refine ⟨by simp; omega, fun j hj => ?_, hle⟩
    rw [List.getElem?_take, if_pos hj, List.getElem?_drop]
  · cases h

theorem load_cells {P : Program} {c : Cx} {w : World} {D : Nat → Prop} {t : TypeId} {T : TI} (hT : ti P t = some T) (b o : Nat) (l : List AV) (vs : Nat → Value)
    (hl : l.length = T.size) (hc : ∀ j, j < T.size → w.cell? ⟨b, o + j, none⟩ = some (vs j)) (hr : ∀ j x, l[j]? = some x → R c w D x (vs j)) {x : AV} (hx : asLoaded T l = some x) :
    ∃ v, (loadVar t ⟨b, o, none⟩).run P w = .ok v w ∧ R c w D x v := by
  have hadd : ∀ j, (⟨b, o, none⟩ : Addr).add j = ⟨b, o + j, none⟩ := fun j => by unfold Addr.add; split <;> simp_all
  unfold asLoaded at hx
  have ha := ti_agg hT w
  have hs := ti_size hT w
  cases hag : T.agg with
  | true =>
    simp only [hag, if_true, Option.some.injEq] at hx
    subst hx
    refine ⟨.agg ((List.range T.size).map vs).toArray, ?_, ?_⟩
    · have := run_loadCells (P := P) w ⟨b, o, none⟩ T.size vs (fun j hj => by rw [hadd]; exact hc j hj)
      simp [loadVar, ha, hag, hs, this]
    · refine .agg (by simp [hl]) fun i x v h1 h2 => ?_
      have hi : i < T.size := by rw [← hl]; exact (List.getElem?_eq_some_iff.1 h1).1
      simp [hi] at h2
      subst h2; exact hr i x h1
  | false =>
    simp only [hag, if_false, Bool.false_eq_true] at hx
    split at hx
    · rename_i y
      cases hx
      have h1 : T.size = 1 := by rw [← hl]; rfl
      refine ⟨vs 0, ?_, hr 0 _ rfl⟩
      have hc0 := hc 0 (by omega)
      simp only [Nat.add_zero] at hc0
      simp [loadVar, ha, hag, hc0]
    · cases hx

theorem run_load_A {P : Program} {c : Cx} {w : World} {h : H} {t : TypeId} {T : TI} (hT : ti P t = some T) {D : Nat → Prop} (hr : Rel c D h w) {p x : AV} {v : Value} (hp : R c w D p v)
    (hx : loadA T h p = some x) : ∃ u, (Instr.loadAt t v).run P w = .ok u w ∧ R c w D x u := by
  cases hp with
  | val v => simp [loadA] at hx
  | agg hs h => simp [loadA] at hx
  | tup hs h => simp [loadA] at hx
  | ro cell _ _ _ _ _ _ _ _ => simp [loadA] at hx
  | nil => simp [loadA] at hx
  | emp => simp [loadA] at hx
  | sl _ _ _ _ _ _ => simp [loadA] at hx
  | clo hs h => simp [loadA] at hx
  | yld hb => simp [loadA] at hx
  | ptr hb =>
    rename_i b o
    simp only [loadA] at hx
    split at hx
    · rename_i cs hcs
      cases htk : takeAt cs o T.size with
      | none => simp [htk] at hx
      | some l =>
        simp only [htk, Option.bind_some] at hx
        obtain ⟨hl, hj, hle⟩ := takeAt_len htk
        obtain ⟨_, _, C, e, hblk, hlen, hcont⟩ := hr.own b cs hcs
        obtain ⟨u, h1, h2⟩ := load_cells (w := w) (c := c) (D := D) hT (c.φ b) o l (fun j => C.getD (o + j) undef) hl
          (fun j hj => by
            have : o + j < C.size := by omega
            simp [World.cell?, hblk, Array.getD, this])
          (fun j x hx => by
            have hj' : j < T.size := by rw [← hl]; exact (List.getElem?_eq_some_iff.1 hx).1
            have : o + j < C.size := by omega
            have hv : C[o + j]? = some (C.getD (o + j) undef) := by simp [Array.getD, this]
            exact hcont (o + j) x _ (by rw [← hj j hj']; exact hx) hv) hx
        exact ⟨u, by simp [Instr.loadAt, Instr.sureAddr, h1], h2⟩
    · cases hx
  | rop cell hS hcell hh =>
    rename_i cs b o
    simp only [loadA] at hx
    cases htk : takeAt cs 0 T.size with
    | none => simp [htk] at hx
    | some l =>
      simp only [htk, Option.bind_some] at hx
      obtain ⟨hl, hj, hle⟩ := takeAt_len htk
      obtain ⟨u, h1, h2⟩ := load_cells (c := c) (D := D) hT b o l cell hl (fun j hj => hcell j (by omega))
        (fun j x hx => by
          have hj' : j < T.size := by rw [← hl]; exact (List.getElem?_eq_some_iff.1 hx).1
          exact (hh j x (by rw [hj j hj'] at hx; simpa using hx)).mono (fun _ h => h) (fun _ _ => rfl) (fun _ _ => rfl) (fun _ hb => hb.elim) (fun _ C _ h => ⟨C, h, rfl⟩)) hx
      exact ⟨u, by simp [Instr.loadAt, Instr.sureAddr, h1], h2⟩

end Go.Pe
