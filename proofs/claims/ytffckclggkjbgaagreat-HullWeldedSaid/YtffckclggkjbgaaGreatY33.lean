import Derived.Test.YtffckclggkjbgaaGreatY15
import Derived.OpenShut
import Derived.Handed
import Derived.JoinedOf
import Derived.RowKit3
import Derived.Test.YtffckclggkjbgaaGreatY20
import Derived.Test.YtffckclggkjbgaaGreatY09
import Derived.Test.YtffckclggkjbgaaGreatRows
set_option linter.unusedVariables false
set_option linter.unusedSimpArgs false
/- A law: its arguments are opened, and that it returns true is what its statement says. -/
namespace Go.Pe
open Go

/-- The types that are opened: numbers, bools, texts, structs, arrays, slices ('fl' is of no matter). -/
def tile : List (Nat × Nat × TypeId) → Nat → Nat → Bool
  | [], o, N => o == N
  | (off, sz, _) :: fs, o, N => off == o && tile fs (o + sz) N
def okTy (P : Program) : Nat → Bool → TypeId → Bool
  | 0, _, _ => false
  | n + 1, fl, t => match ti P t with
    | none => false
    | some T => match T.kind with
      | .int _ => true
      | .bool => true
      | .str => true
      | .st fs => tile fs 0 T.size && fs.all fun p => okTy P n fl p.2.2
      | .ar len e => okTy P n fl e && T.size == len * P.cellsOf e
      | .sl e => okTy P n true e && decide (0 < P.cellsOf e)
      | .oth => false

/-- The cells of a value of a type. -/
def TyFs (V : TypeId → List AV → Prop) : List (Nat × Nat × TypeId) → List AV → Prop
  | [], xs => xs = []
  | (_, sz, ft) :: fs, xs => ∃ a b, xs = a ++ b ∧ a.length = sz ∧ V ft a ∧ TyFs V fs b
def TyAr (V : List AV → Prop) (k : Nat) : Nat → List AV → Prop
  | 0, xs => xs = []
  | n + 1, xs => ∃ a b, xs = a ++ b ∧ a.length = k ∧ V a ∧ TyAr V k n b
def TyC (P : Program) : Nat → TypeId → List AV → Prop
  | 0, _, _ => False
  | n + 1, t, xs => match ti P t with
    | none => False
    | some T => match T.kind with
      | .int k => ∃ m, xs = [.val (.int k m)] ∧ k.min ≤ m ∧ m ≤ k.max
      | .bool => ∃ b, xs = [.val (.bool b)]
      | .str => ∃ s, xs = [.val (.string s)] ∧ s.size ≤ maxLen
      | .st fs => TyFs (TyC P n) fs xs
      | .ar len e => TyAr (TyC P n e) (P.cellsOf e) len xs
      | .sl e => ∃ rows, xs = [.ro false (P.cellsOf e) rows] ∧ rows.length ≤ maxLen ∧ ∀ row ∈ rows, row.length = P.cellsOf e ∧ TyC P n e row
      | .oth => False

/-- Cells, one by one. -/
def Rls (c : Cx) (w : World) (xs : List AV) (cs : List Value) : Prop := xs.length = cs.length ∧ ∀ (i : Nat) (y : AV) (v : Value), xs[i]? = some y → cs[i]? = some v → R c w noId y v
theorem Rls.app {c : Cx} {w : World} {xs ys : List AV} {cs ds : List Value} (h1 : Rls c w xs cs) (h2 : Rls c w ys ds) : Rls c w (xs ++ ys) (cs ++ ds) := by
  refine ⟨by simp [h1.1, h2.1], fun i y v e1 e2 => ?_⟩
  by_cases hi : i < xs.length
  · rw [List.getElem?_append_left hi] at e1
    rw [List.getElem?_append_left (by rw [← h1.1]; exact hi)] at e2
    exact h1.2 i y v e1 e2
  · rw [List.getElem?_append_right (by omega)] at e1
    rw [List.getElem?_append_right (by rw [← h1.1]; omega), ← h1.1] at e2
    exact h2.2 _ y v e1 e2
theorem Rls.one {c : Cx} {w : World} {y : AV} {v : Value} (h : R c w noId y v) : Rls c w [y] [v] := by
  refine ⟨rfl, fun i y' v' e1 e2 => ?_⟩
  cases i with
  | zero => simp at e1 e2; subst e1; subst e2; exact h
  | succ i => simp at e1

theorem TyC_one {P : Program} : ∀ (n : Nat) (t : TypeId) (xs : List AV), TyC P n t xs → ∀ y ∈ xs, one y = true
  | 0, t, xs, h => by simp [TyC] at h
  | n + 1, t, xs, h => by
    simp only [TyC] at h
    split at h
    · exact h.elim
    · split at h
      · obtain ⟨m, rfl, _⟩ := h; intro y hy; simp at hy; subst hy; rfl
      · obtain ⟨m, rfl⟩ := h; intro y hy; simp at hy; subst hy; rfl
      · obtain ⟨m, rfl, _⟩ := h; intro y hy; simp at hy; subst hy; rfl
      · have gen : ∀ (fs : List (Nat × Nat × TypeId)) (xs : List AV), TyFs (TyC P n) fs xs → ∀ y ∈ xs, one y = true := by
          intro fs
          induction fs with
          | nil => intro xs h y hy; rw [show xs = [] from h] at hy; cases hy
          | cons p fs ih =>
            intro xs h
            obtain ⟨x1, x2, x3⟩ := p
            obtain ⟨a, b, rfl, _, h1, h2⟩ := h
            intro y hy
            rcases List.mem_append.1 hy with hy | hy
            · exact TyC_one n _ a h1 y hy
            · exact ih b h2 y hy
        exact gen _ _ h
      · have gen : ∀ (e : TypeId) (k len : Nat) (xs : List AV), TyAr (TyC P n e) k len xs → ∀ y ∈ xs, one y = true := by
          intro e k len
          induction len with
          | zero => intro xs h y hy; rw [show xs = [] from h] at hy; cases hy
          | succ len ih =>
            intro xs h
            obtain ⟨a, b, rfl, _, h1, h2⟩ := h
            intro y hy
            rcases List.mem_append.1 hy with hy | hy
            · exact TyC_one n _ a h1 y hy
            · exact ih b h2 y hy
        exact gen _ _ _ _ h
      · obtain ⟨rows, rfl, _⟩ := h; intro y hy; simp at hy; subst hy; rfl
      · exact h.elim

theorem rows_of {p : Nat → List AV → Prop} : ∀ (n : Nat), (∀ i, i < n → ∃ row, p i row) → ∃ rows : List (List AV), rows.length = n ∧ ∀ i row, rows[i]? = some row → p i row
  | 0, _ => ⟨[], rfl, fun i row h => by simp at h⟩
  | n + 1, h => by
    obtain ⟨rows, h1, h2⟩ := rows_of n fun i hi => h i (by omega)
    obtain ⟨row, h3⟩ := h n (by omega)
    refine ⟨rows ++ [row], by simp [h1], fun i r hr => ?_⟩
    by_cases hi : i < n
    · rw [List.getElem?_append_left (by omega)] at hr; exact h2 i r hr
    · rw [List.getElem?_append_right (by omega)] at hr
      have : i = n := by
        have := (List.getElem?_eq_some_iff.1 hr).1
        simp at this; omega
      subst this
      rw [h1] at hr; simp at hr; subst hr; exact h3

theorem cells?_get {w : World} {a : Addr} {k : Nat} {cs : List Value} (h : w.cells? 0 a k = some cs) : cs.length = k ∧ ∀ j, j < k → w.cell? (a.add j) = cs[j]? := by
  unfold World.cells? at h
  rw [if_pos (Nat.zero_le _)] at h
  refine ⟨by have := Go.mapM_some_length h; simpa using this, fun j hj => ?_⟩
  exact Go.mapM_some_get h j j (by simp [hj])

section
variable {H : Type} {enc : TypeId × Value → H} {P : Program} {w : World} {c : Cx} (hS : ∀ k, k < w.heap.size → c.S k)
include hS

theorem opened : ∀ (n : Nat) (fl : Bool) (t : TypeId) (fuel : Nat) (cs : List Value) (x : DataW H × List MemPlace), okTy P n fl t = true → DataW.trod enc P w 0 (fun _ => true) true fuel t cs = some x → ∃ xs, TyC P n t xs ∧ Rls c w xs cs := by
  intro n
  induction n with
  | zero => intro fl t fuel cs x hok; simp [okTy] at hok
  | succ n ih =>
    intro fl t fuel cs x hok h
    simp only [okTy] at hok
    simp only [TyC]
    split at hok
    · cases hok
    · rename_i T hT
      split at hok
      · rename_i k hk
        obtain ⟨m, rfl, rfl, hwf⟩ := DataW.trod_int (ti_int hT hk) h
        refine ⟨_, ⟨m, rfl, ?_⟩, Rls.one (.val _)⟩
        simpa [Lit.wf] using hwf
      · rename_i hk
        obtain ⟨b, rfl, rfl⟩ := DataW.trod_bool (ti_bool hT hk) h
        exact ⟨_, ⟨b, rfl⟩, Rls.one (.val _)⟩
      · rename_i hk
        obtain ⟨s, rfl, rfl, hs⟩ := DataW.trod_string (ti_str hT hk) h
        exact ⟨_, ⟨s, rfl, hs⟩, Rls.one (.val _)⟩
      · rename_i fs hk
        obtain ⟨F, hF, rfl⟩ := ti_st hT hk
        obtain ⟨ys, m, rfl, rfl, hlen, _, hfs⟩ := DataW.trod_struct hF h
        simp only [Bool.and_eq_true, List.all_eq_true] at hok
        rw [ti_cells hT] at hlen
        have hfield : ∀ f ∈ F.toList, ∃ xs, TyC P n f.type xs ∧ Rls c w xs ((cs.drop f.offset).take (P.cellsOf f.type)) := fun f hf => by
          obtain ⟨i, hi⟩ := List.getElem?_of_mem hf
          have h1 := hfs i f (by simpa using hi)
          have hil : i < ys.length := by
            have := (List.getElem?_eq_some_iff.1 hi).1
            simp at this; omega
          rw [List.getElem?_eq_getElem hil] at h1
          exact ih fl f.type m _ _ (hok.2 _ (List.mem_map.2 ⟨f, hf, rfl⟩)) h1
        have htile := hok.1
        have gen : ∀ (l : List Field) (o : Nat), (∀ f ∈ l, ∃ xs, TyC P n f.type xs ∧ Rls c w xs ((cs.drop f.offset).take (P.cellsOf f.type))) → o ≤ cs.length → tile (l.map fun f => (f.offset, P.cellsOf f.type, f.type)) o T.size = true →
            ∃ xs, TyFs (TyC P n) (l.map fun f => (f.offset, P.cellsOf f.type, f.type)) xs ∧ Rls c w xs (cs.drop o) := by
          intro l
          induction l with
          | nil =>
            intro o _ ho ht
            simp only [List.map_nil, tile, beq_iff_eq] at ht
            refine ⟨[], rfl, ?_, fun i y v h1 => by simp at h1⟩
            simp; omega
          | cons f l ihl =>
            intro o hall ho ht
            simp only [List.map_cons, tile, Bool.and_eq_true, beq_iff_eq] at ht
            obtain ⟨rfl, ht⟩ := ht
            obtain ⟨a, ha1, ha2⟩ := hall f (by simp)
            have hle : f.offset + P.cellsOf f.type ≤ cs.length := by
              have : ∀ (l : List (Nat × Nat × TypeId)) (o N : Nat), tile l o N = true → o ≤ N := by
                intro l
                induction l with
                | nil => intro o N h; simp [tile] at h; omega
                | cons p l ih2 => intro o N h; obtain ⟨x1, x2, x3⟩ := p; simp only [tile, Bool.and_eq_true] at h; have := ih2 _ _ h.2; omega
              have := this _ _ _ ht
              omega
            obtain ⟨b, hb1, hb2⟩ := ihl _ (fun g hg => hall g (by simp [hg])) hle ht
            refine ⟨a ++ b, ⟨a, b, rfl, ?_, ha1, hb1⟩, ?_⟩
            · rw [ha2.1]; simp; omega
            · have := ha2.app hb2
              rwa [← List.drop_drop, List.take_append_drop] at this
        have := gen F.toList 0 hfield (Nat.zero_le _) htile
        simpa using this
      · rename_i len e hk
        obtain ⟨ys, m, rfl, rfl, hlen, hyl, hel⟩ := DataW.trod_array (ti_ar hT hk) h
        simp only [Bool.and_eq_true, beq_iff_eq] at hok
        rw [ti_cells hT] at hlen
        have helem : ∀ i, i < len → ∃ xs, TyC P n e xs ∧ Rls c w xs ((cs.drop (i * P.cellsOf e)).take (P.cellsOf e)) := fun i hi => by
          have h1 := hel i hi
          rw [List.getElem?_eq_getElem (by omega)] at h1
          exact ih fl e m _ _ hok.1 h1
        have gen : ∀ (k i : Nat), i + k = len → ∃ xs, TyAr (TyC P n e) (P.cellsOf e) k xs ∧ Rls c w xs (cs.drop (i * P.cellsOf e)) := by
          intro k
          induction k with
          | zero =>
            intro i hi
            have : i = len := by omega
            subst this
            refine ⟨[], rfl, ?_, fun i y v h1 => by simp at h1⟩
            simp [hlen, hok.2]
          | succ k ihk =>
            intro i hi
            obtain ⟨a, ha1, ha2⟩ := helem i (by omega)
            obtain ⟨b, hb1, hb2⟩ := ihk (i + 1) (by omega)
            have hle : (i + 1) * P.cellsOf e ≤ len * P.cellsOf e := Nat.mul_le_mul_right _ (by omega)
            rw [Nat.succ_mul] at hle
            refine ⟨a ++ b, ⟨a, b, rfl, ?_, ha1, hb1⟩, ?_⟩
            · rw [ha2.1]; simp; omega
            · have := ha2.app hb2
              rwa [Nat.succ_mul, ← List.drop_drop, List.take_append_drop] at this
        have := gen len 0 (by omega)
        simpa using this
      · rename_i e hk
        simp only [Bool.and_eq_true, decide_eq_true_eq] at hok
        obtain ⟨hoke, hpos⟩ := hok
        rcases DataW.trod_slice (ti_sl hT hk) h with ⟨rfl, rfl⟩ | ⟨a, len, cap, elems, rest, m, rfl, rfl, rfl, _, hlc, hcm, hel, hels, hrest, _⟩
        · exact ⟨_, ⟨[], rfl, by simp, fun row hr => by cases hr⟩, Rls.one .nil⟩
        · by_cases hcap : cap = 0
          · have hl0 : len = 0 := by omega
            subst hcap; subst hl0
            exact ⟨_, ⟨[], rfl, by simp, fun row hr => by cases hr⟩, Rls.one .emp⟩
          have hfirst : ∃ csi, w.cells? 0 (a.add (0 * P.cellsOf e)) (P.cellsOf e) = some csi := by
            by_cases hl0 : len = 0
            · subst hl0
              have h1 := (hrest rfl).2 0 (by omega)
              rw [List.getElem?_eq_getElem (by have := (hrest rfl).1; omega)] at h1
              obtain ⟨csi, h2, _⟩ := Option.bind_eq_some_iff.1 h1
              exact ⟨csi, by simpa using h2⟩
            · have h1 := hels 0 (by omega)
              rw [List.getElem?_eq_getElem (by omega)] at h1
              obtain ⟨csi, h2, _⟩ := Option.bind_eq_some_iff.1 h1
              exact ⟨csi, h2⟩
          have hsb : a.spot = none ∧ a.block < w.heap.size := by
            obtain ⟨csi, h1⟩ := hfirst
            obtain ⟨q1, q2⟩ := cells?_get h1
            have q3 := q2 0 hpos
            rw [List.getElem?_eq_getElem (by omega)] at q3
            simp only [Nat.zero_mul, Addr.add, if_true] at q3
            unfold World.cell? at q3
            split at q3
            · rename_i hb
              refine ⟨?_, (Array.getElem?_eq_some_iff.1 hb).1⟩
              split at q3
              · cases q3
              · rename_i hs; simpa using hs
            · cases q3
          obtain ⟨hspot, hblt⟩ := hsb
          have hadd : ∀ i, a.add i = ⟨a.block, a.off + i, none⟩ := fun i => by
            obtain ⟨b, o, s⟩ := a
            simp only at hspot; subst hspot
            unfold Addr.add; split
            · rename_i h0; subst h0; rfl
            · rfl
          have hrow : ∀ i, i < len → ∃ row, TyC P n e row ∧ ∃ csi, w.cells? 0 (a.add (i * P.cellsOf e)) (P.cellsOf e) = some csi ∧ Rls c w row csi := fun i hi => by
            have h1 := hels i hi
            rw [List.getElem?_eq_getElem (by omega)] at h1
            obtain ⟨csi, h2, h3⟩ := Option.bind_eq_some_iff.1 h1
            obtain ⟨row, h4, h5⟩ := ih true e m csi _ hoke h3
            exact ⟨row, h4, csi, h2, h5⟩
          obtain ⟨rows, hr1, hr2⟩ := rows_of len hrow
          have hget : ∀ i, i < len → ∃ row csi, rows[i]? = some row ∧ TyC P n e row ∧ w.cells? 0 (a.add (i * P.cellsOf e)) (P.cellsOf e) = some csi ∧ Rls c w row csi := fun i hi => by
            have := List.getElem?_eq_getElem (show i < rows.length by omega)
            obtain ⟨g1, csi, g2, g3⟩ := hr2 i _ this
            exact ⟨_, csi, this, g1, g2, g3⟩
          have hcell : ∀ i j, i < len → j < P.cellsOf e → ∃ v, w.cell? ⟨a.block, a.off + i * P.cellsOf e + j, none⟩ = some v ∧ ∀ row y, rows[i]? = some row → row[j]? = some y → R c w noId y v := fun i j hi hj => by
            obtain ⟨row, csi, g1, _, g3, g4⟩ := hget i hi
            obtain ⟨q1, q2⟩ := cells?_get g3
            have q3 := q2 j hj
            have e1 : (a.add (i * P.cellsOf e)).add j = ⟨a.block, a.off + i * P.cellsOf e + j, none⟩ := by
              rw [hadd]; unfold Addr.add; split
              · rename_i h0; subst h0; rfl
              · rfl
            rw [e1, List.getElem?_eq_getElem (by omega)] at q3
            refine ⟨_, q3, fun row' y hr hy => ?_⟩
            rw [g1] at hr; cases hr
            exact g4.2 j y _ hy (List.getElem?_eq_getElem (by omega))
          have hmem : ∀ row ∈ rows, row.length = P.cellsOf e ∧ TyC P n e row := fun row hm => by
            obtain ⟨i, hi⟩ := List.getElem?_of_mem hm
            obtain ⟨g1, csi, g2, g3⟩ := hr2 i row hi
            exact ⟨by rw [g3.1]; exact (cells?_get g2).1, g1⟩
          refine ⟨_, ⟨rows, rfl, by omega, hmem⟩, Rls.one ?_⟩
          obtain ⟨b, o, s⟩ := a
          simp only at hspot; subst hspot
          refine .ro (fun i j => (w.cell? ⟨b, o + i * P.cellsOf e + j, none⟩).getD undef) (hS b hblt) hr1.symm hlc (by simp) (fun row hrow => (hmem row hrow).1) (fun i j hi hj => ?_) (fun i j hi hj => ?_) (fun i j row y e1 e2 => ?_)
          · obtain ⟨v, g1, _⟩ := hcell i j hi hj
            rw [g1]; rfl
          · obtain ⟨v, g1, g2⟩ := hcell i j hi hj
            rw [g1]
            have hri := List.getElem?_eq_getElem (show i < rows.length by omega)
            obtain ⟨m1, m2⟩ := hmem _ (List.getElem_mem (show i < rows.length by omega))
            have hrj := List.getElem?_eq_getElem (show j < (rows[i]).length by omega)
            exact one_R (g2 _ _ hri hrj) (TyC_one n e _ m2 _ (List.getElem_mem (by omega)))
          · have hi : i < len := by have := (List.getElem?_eq_some_iff.1 e1).1; omega
            obtain ⟨m1, m2⟩ := hmem _ (List.mem_of_getElem? e1)
            have hj : j < P.cellsOf e := by have := (List.getElem?_eq_some_iff.1 e2).1; omega
            obtain ⟨v, g1, g2⟩ := hcell i j hi hj
            rw [g1]
            exact g2 row y e1 e2
      · cases hok
end

/-- A value of a type. -/
def TyV (P : Program) (n : Nat) (t : TypeId) (y : AV) : Prop :=
  match P.underlying t with
  | some (.struct _) => ∃ xs, y = .agg xs ∧ TyC P n t xs
  | some (.array _ _) => ∃ xs, y = .agg xs ∧ TyC P n t xs
  | _ => TyC P n t [y]
def TyVs (P : Program) (n : Nat) : List TypeId → List AV → Prop
  | [], ys => ys = []
  | t :: ts, ys => ∃ y zs, ys = y :: zs ∧ TyV P n t y ∧ TyVs P n ts zs

theorem spot_of {P : Program} {w : World} {base : Nat} {t : TypeId} {v : Value} (h : Value.okWide P w .any base t v) : ∀ a l k, Value.slice (some a) l k ∈ v.cells.toList → a.spot = none ∧ a.block < w.heap.size := by
  have cell : ∀ u a l k, Cell.okWide P w .any base u (.slice (some a) l k) → a.spot = none ∧ a.block < w.heap.size := fun u a l k hc => by
    unfold Cell.okWide at hc
    split at hc <;> simp_all
    all_goals
      unfold Cell.ok at hc
      split at hc <;> simp_all
      all_goals
        obtain ⟨_, _, h1, h2, row, cells, h3, _⟩ := hc
        refine ⟨h2, ?_⟩
        unfold World.shape? at h3
        split at h3
        · rename_i hb; exact (Array.getElem?_eq_some_iff.1 hb).1
        · cases h3
  have row : ∀ cs, Row.okWide P w .any base t cs → ∀ a l k, Value.slice (some a) l k ∈ cs.toList → a.spot = none ∧ a.block < w.heap.size := fun cs hr a l k hm => by
    obtain ⟨ts, _, _, h3⟩ := hr
    obtain ⟨i, hi⟩ := List.getElem?_of_mem hm
    obtain ⟨u, _, hu⟩ := h3 i _ (by simpa using hi)
    exact cell u a l k hu
  intro a l k hm
  unfold Value.okWide at h
  split at h
  · obtain ⟨cs, rfl, _, hr⟩ := h; exact row cs hr a l k hm
  · obtain ⟨cs, rfl, _, hr⟩ := h; exact row cs hr a l k hm
  · have key : ∀ v : Value, (∀ cs, v ≠ .agg cs) → Value.slice (some a) l k ∈ v.cells.toList → v = .slice (some a) l k := fun v hv hm => by
      cases v <;> simp_all [Value.cells]
    by_cases hagg : ∃ cs, v = .agg cs
    · obtain ⟨cs, rfl⟩ := hagg
      unfold Cell.okWide at h
      split at h <;> simp_all
      all_goals
        unfold Cell.ok at h
        split at h <;> simp_all
    · have := key v (fun cs e => hagg ⟨cs, e⟩) hm
      subst this
      exact cell t a l k h

theorem open_val {H : Type} {enc : TypeId × Value → H} {P : Program} {w : World} {c : Cx} (hS : ∀ k, k < w.heap.size → c.S k) {n base : Nat} {t : TypeId} {v : Value} {d : DataW H} {ps : List MemPlace} (hok : okTy P n false t = true)
    (h : DataW.Trod enc P w 0 (fun _ => true) true t v d ps) (hv : Value.okWide P w .any base t v) : ∃ y, TyV P n t y ∧ R c w noId y v := by
  obtain ⟨fuel, h⟩ := h
  obtain ⟨xs, h1, h2⟩ := opened hS n false t fuel _ _ hok h
  have agg : (∃ cs, v = .agg cs) → R c w noId (.agg xs) v := fun ⟨cs, e⟩ => by
    subst e
    refine .agg (by have := h2.1; simp [Value.cells] at this; omega) fun i x v e1 e2 => h2.2 i x v e1 (by simpa [Value.cells] using e2)
  unfold Value.okWide at hv
  unfold TyV
  split at hv
  · rename_i fs hu
    rw [hu]
    obtain ⟨cs, rfl, _⟩ := hv
    exact ⟨_, ⟨xs, rfl, h1⟩, agg ⟨cs, rfl⟩⟩
  · rename_i k e hu
    rw [hu]
    obtain ⟨cs, rfl, _⟩ := hv
    exact ⟨_, ⟨xs, rfl, h1⟩, agg ⟨cs, rfl⟩⟩
  · rename_i hn1 hn2
    have hnagg : ∀ cs, v ≠ .agg cs := fun cs e => by
      subst e
      unfold Cell.okWide at hv
      split at hv <;> simp_all
      all_goals
        unfold Cell.ok at hv
        split at hv <;> simp_all
    have hcells : v.cells.toList = [v] := by cases v <;> simp_all [Value.cells]
    rw [hcells] at h2
    obtain ⟨y, rfl⟩ := List.length_eq_one_iff.1 h2.1
    refine ⟨y, ?_, h2.2 0 y v rfl rfl⟩
    split
    · rename_i fs hu; exact (hn1 fs hu).elim
    · rename_i k e hu; exact (hn2 k e hu).elim
    · exact h1

theorem open_all {H : Type} {enc : TypeId × Value → H} {P : Program} {w : World} {c : Cx} (hS : ∀ k, k < w.heap.size → c.S k) {n base : Nat} : ∀ (ts : List TypeId) (vs : List Value) (ds : List (DataW H)) (ps : List MemPlace), (∀ t ∈ ts, okTy P n false t = true) →
    DataW.TrodAll enc P w 0 (fun _ => true) true ts vs ds ps → (∀ (j : Nat) t v, ts[j]? = some t → vs[j]? = some v → Value.okWide P w .any base t v) → ∃ ys, TyVs P n ts ys ∧ ys.length = vs.length ∧ ∀ (i : Nat) (y : AV) (v : Value), ys[i]? = some y → vs[i]? = some v → R c w noId y v
  | [], [], [], ps, _, h, _ => ⟨[], rfl, rfl, fun i y v h => by simp at h⟩
  | t :: ts, v :: vs, d :: ds, ps, hok, h, hv => by
    obtain ⟨p, q, h1, h2, _⟩ := h
    obtain ⟨y, g1, g2⟩ := open_val hS (hok t (by simp)) h1 (hv 0 t v rfl rfl)
    obtain ⟨ys, g3, g4, g5⟩ := open_all hS ts vs ds q (fun u hu => hok u (by simp [hu])) h2 (fun j u z e1 e2 => hv (j + 1) u z e1 e2)
    refine ⟨y :: ys, ⟨y, ys, rfl, g1, g3⟩, by simp [g4], fun i y' v' e1 e2 => ?_⟩
    cases i with
    | zero => simp at e1 e2; subst e1; subst e2; exact g2
    | succ i => exact g5 i y' v' (by simpa using e1) (by simpa using e2)
  | [], _ :: _, _, _, _, h, _ => h.elim
  | [], [], _ :: _, _, _, h, _ => h.elim
  | _ :: _, [], _, _, _, h, _ => h.elim
  | _ :: _, _ :: _, [], _, _, h, _ => h.elim

theorem trodAll_stays {H : Type} {enc : TypeId × Value → H} {P : Program} (hl : laidOutB P = true) {W W' : World} {sp : Nat → Bool} : ∀ (ts : List TypeId) (vs : List Value) (ds : List (DataW H)) (ps : List MemPlace), (∀ t ∈ ts, P.readableRec t = true ∧ t < P.types.size) →
    DataW.TrodAll enc P W 0 (fun _ => true) true ts vs ds ps → (∀ p ∈ ps, W.sameAt W' p) → (∀ p ∈ ps, sp p.block = true) → DataW.TrodAll enc P W' 0 sp true ts vs ds ps
  | [], [], [], ps, _, h, _, _ => h
  | t :: ts, v :: vs, d :: ds, ps, ht, h, hsame, hsp => by
    obtain ⟨p, q, h1, h2, rfl⟩ := h
    exact ⟨p, q, WideElems.Trod_stays hl (ht t (by simp)).1 (ht t (by simp)).2 h1 (fun x hx => hsame x (List.mem_append_left _ hx)) (fun x hx => hsp x (List.mem_append_left _ hx)),
      trodAll_stays hl ts vs ds q (fun u hu => ht u (by simp [hu])) h2 (fun x hx => hsame x (List.mem_append_right _ hx)) (fun x hx => hsp x (List.mem_append_right _ hx)), rfl⟩
  | [], _ :: _, _, _, _, h, _, _ => h.elim
  | [], [], _ :: _, _, _, h, _, _ => h.elim
  | _ :: _, [], _, _, _, h, _, _ => h.elim
  | _ :: _, _ :: _, [], _, _, h, _, _ => h.elim

theorem trodAll_len {H : Type} {enc : TypeId × Value → H} {P : Program} {w : World} {b : Nat} {sp : Nat → Bool} {hd : Bool} : ∀ {ts : List TypeId} {vs : List Value} {ds : List (DataW H)} {ps : List MemPlace}, DataW.TrodAll enc P w b sp hd ts vs ds ps → ds.length = ts.length
  | [], [], [], _, _ => rfl
  | _ :: ts, _ :: vs, _ :: ds, _, h => by
    obtain ⟨p, q, _, h2, _⟩ := h
    simp [trodAll_len h2]
  | [], _ :: _, _, _, h => h.elim
  | [], [], _ :: _, _, h => h.elim
  | _ :: _, [], _, _, h => h.elim
  | _ :: _, _ :: _, [], _, h => h.elim

/-- A LAW: if for all values of its arguments' types it returns true, its statement's contract holds. -/
theorem law_contract {H : Type} {enc : TypeId × Value → H} {P : Program} {f : FuncId} {fn : Func} {s : ChangeSpec} {ts : List TypeId} {tb : TypeId} (n : Nat) (hts : fn.params.toList = ts) (hok : (ts.all (okTy P n false)) = true)
    (hread : (ts.all fun t => P.readableRec t && decide (t < P.types.size)) = true) (hl : laidOutB P = true) (hres : fn.resultTypes = #[tb]) (hb : P.underlying tb = some .bool) (hvars : s.vars = [])
    (hfn : ∀ ds : List (DataW H), ds.length = ts.length → s.fn H ds = { results := [.lit (.bool true)], args := ds })
    (hlaw : ∀ ys, TyVs P n ts ys → ∃ h', Fn P f ys .nil (.val (.bool true)) h') (W : World) (base : Nat) (args : Array Value) (ds gs : List (DataW H)) (before : List MemPlace)
    (hval : ∀ (j : Nat) t v, fn.params[j]? = some t → args[j]? = some v → Value.okWide P W .any base t v)
    (hW : DataW.Whole enc P fn.params.toList s.vars false W args.toList ds gs before) : Calls P f args W fun e W' => ∃ v, e = .returned v ∧ s.post enc P fn false true false false W args v W' := by
  have hW' := hW
  obtain ⟨p, q, hA, hV, rfl, hfz, hnd⟩ := hW
  rw [hvars] at hV
  obtain ⟨rfl, rfl⟩ := Go.ChangeShapes.trodVars_none hV
  rw [hts] at hA
  simp only [List.append_nil] at hW' hfz
  simp only [List.all_eq_true, Bool.and_eq_true, decide_eq_true_eq] at hok hread
  have hdl := trodAll_len hA
  obtain ⟨c, hc⟩ : ∃ c : Cx, c = { S := fun k => k < W.heap.size, φ := fun _ => 0 } := ⟨_, rfl⟩
  obtain ⟨ys, g1, g2, g3⟩ := open_all (c := c) (w := W) (by rw [hc]; exact fun _ h => h) ts args.toList ds p hok hA (fun j t v e1 e2 => hval j t v (by rw [← hts] at e1; simpa using e1) (by simpa using e2))
  obtain ⟨h', hcall, hF⟩ := hlaw ys g1
  have hrel : Rel c noId Pe.H.nil W := ⟨fun b cs hb => by simp [Pe.H.nil] at hb, fun b b' _ _ hb => by simp [Pe.H.nil] at hb, fun k hk => by rw [hc] at hk; exact hk, (fun b r hb => by simp [Pe.H.nil] at hb), (fun b b' _ _ hb => by simp [Pe.H.nil] at hb)⟩
  refine (callsIn_wide.1 (hF 0 c noId W args hrel (fun _ _ h => h) ⟨by rw [g2]; simp, fun i y v e1 e2 => g3 i y v e1 (by simpa using e2)⟩)).mono ?_
  rintro e W' ⟨v, c', D', rfl, hx, hr, he, hd⟩
  cases hx
  have hsame : ∀ k, k < W.heap.size → W'.heap[k]? = W.heap[k]? := fun k hk => he.frame k hk (fun b cs hb => by simp [Pe.H.nil] at hb) (fun b r hb => by simp [Pe.H.nil] at hb)
  have hlt : ∀ x ∈ p, x.block < W.heap.size := DataW.TrodAll.lt hA
  have hkept : W.keptBut W' (· ∈ p) := by
    refine ⟨he.os, he.output, fun i hi => ?_⟩
    rw [hsame i hi]
    split
    · rename_i h1 h2; rw [h1] at h2; cases h2; exact ⟨rfl, rfl, rfl, fun _ _ => rfl⟩
    · rename_i h1 h2; rw [h1] at h2; cases h2; exact .inr ⟨rfl, rfl⟩
    · rfl
  have hfn' := hfn ds hdl
  refine ⟨_, rfl, ChangeShapes.post_of_same (pa := p) (pv := []) hW' (fun b sp hd => ?_) (fun sp hsp => ?_) (fun sp hsp => ?_) (by simp) hkept he.fz ?_⟩
  · rw [List.append_nil, hfn', hres]
    exact trodAll_cons_mk (RowKit.shut_bool hb true) ChangeShapes.trodAll_mk0
  · rw [List.append_nil, hfn', hts]
    exact trodAll_stays hl ts args.toList ds p hread hA (fun x hx => RowKit.Below.same (W := W) ⟨he.os, he.tape, he.output, he.size, hsame⟩ (hlt x hx)) hsp
  · rw [List.append_nil, hfn', hvars]
    exact rfl
  · exact RowKit.ok_one hres rfl (RowKit.okWide_bool_mk hb true)

end Go.Pe

/- Arguments opened: numbers, bounds, rows. -/
namespace Go.Pe
open Go Go.Proofs Go.Proofs.YtffckclggkjbgaaGreat
set_option maxRecDepth 100000
def isSt (P : Program) (t : TypeId) : Bool := match P.underlying t with
  | some (.struct _) => true
  | some (.array _ _) => true
  | _ => false
theorem TyV_st {P : Program} {n : Nat} {t : TypeId} {y : AV} (h : isSt P t = true) (hv : TyV P n t y) : ∃ xs, y = .agg xs ∧ TyC P n t xs := by
  unfold isSt at h
  unfold TyV at hv
  split at h <;> simp_all
theorem TyV_one {P : Program} {n : Nat} {t : TypeId} {y : AV} (h : isSt P t = false) (hv : TyV P n t y) : TyC P n t [y] := by
  unfold isSt at h
  unfold TyV at hv
  split at h <;> simp_all
theorem TyC_at {P : Program} {n : Nat} {t : TypeId} {T : TI} {xs : List AV} (hT : ti P t = some T) (h : TyC P (n + 1) t xs) : (match T.kind with
      | .int k => ∃ m, xs = [.val (.int k m)] ∧ k.min ≤ m ∧ m ≤ k.max
      | .bool => ∃ b, xs = [.val (.bool b)]
      | .str => ∃ s, xs = [.val (.string s)] ∧ s.size ≤ maxLen
      | .st fs => TyFs (TyC P n) fs xs
      | .ar len e => TyAr (TyC P n e) (P.cellsOf e) len xs
      | .sl e => ∃ rows, xs = [.ro false (P.cellsOf e) rows] ∧ rows.length ≤ maxLen ∧ ∀ row ∈ rows, row.length = P.cellsOf e ∧ TyC P n e row
      | .oth => False) := by
  unfold TyC at h
  rw [hT] at h
  exact h
theorem open_i64 {n : Nat} {xs : List AV} (h : TyC Tryz.prog (n + 1) 3 xs) : ∃ m, xs = [I m] := by
  obtain ⟨m, e, _⟩ := TyC_at ti3 h
  exact ⟨m, e⟩
theorem open_bd {n : Nat} {xs : List AV} (h : TyC Tryz.prog (n + 2) 27 xs) : ∃ b : Bd, xs = [I b.lo, I b.hi] := by
  obtain ⟨a, r, rfl, _, h1, a', r', rfl, _, h2, rfl⟩ := TyC_at ti27 h
  obtain ⟨m, rfl⟩ := open_i64 h1
  obtain ⟨k, rfl⟩ := open_i64 h2
  exact ⟨⟨m, k⟩, rfl⟩
theorem rows_map {α : Type} (f : α → List AV) (Q : α → Prop) : ∀ {rows : List (List AV)}, (∀ r ∈ rows, ∃ a, r = f a ∧ Q a) → ∃ l : List α, rows = l.map f ∧ ∀ a ∈ l, Q a
  | [], _ => ⟨[], rfl, by simp⟩
  | r :: rows, h => by
      obtain ⟨a, e, q⟩ := h r (by simp)
      obtain ⟨l, e', q'⟩ := rows_map f Q (rows := rows) (fun r hr => h r (by simp [hr]))
      refine ⟨a :: l, by rw [e, e']; rfl, fun b hb => ?_⟩
      rcases List.mem_cons.1 hb with rfl | hb
      · exact q
      · exact q' b hb
end Go.Pe

/- What the types of the program are. -/
namespace Go.Pe
open Go Go.Proofs Go.Proofs.YtffckclggkjbgaaGreat
theorem tsi94 : ti Tryz.prog 94 = some { kind := TK.sl 172, size := 1, zero := [Value.slice none 0 0], agg := false, bytes := 24, fok := true, cmp := true } := by kernel_rfl
theorem ts94 {f : TI → Option AV} : tyInt Tryz.prog 94 f = f { kind := TK.sl 172, size := 1, zero := [Value.slice none 0 0], agg := false, bytes := 24, fok := true, cmp := true } := tyInt_of tsi94
theorem us94 {f : TI → Option (AV × H)} : tyInt2 Tryz.prog 94 f = f { kind := TK.sl 172, size := 1, zero := [Value.slice none 0 0], agg := false, bytes := 24, fok := true, cmp := true } := tyInt2_of tsi94
theorem tsi113 : ti Tryz.prog 113 = some { kind := TK.ar 2 3, size := 2, zero := [Value.int IntKind.i64 0, Value.int IntKind.i64 0], agg := true, bytes := 16, fok := true, cmp := true } := by kernel_rfl
theorem ts113 {f : TI → Option AV} : tyInt Tryz.prog 113 f = f { kind := TK.ar 2 3, size := 2, zero := [Value.int IntKind.i64 0, Value.int IntKind.i64 0], agg := true, bytes := 16, fok := true, cmp := true } := tyInt_of tsi113
theorem us113 {f : TI → Option (AV × H)} : tyInt2 Tryz.prog 113 f = f { kind := TK.ar 2 3, size := 2, zero := [Value.int IntKind.i64 0, Value.int IntKind.i64 0], agg := true, bytes := 16, fok := true, cmp := true } := tyInt2_of tsi113
theorem tsi128 : ti Tryz.prog 128 = some { kind := TK.ar 6 5, size := 6, zero := [Value.int IntKind.u8 0, Value.int IntKind.u8 0, Value.int IntKind.u8 0, Value.int IntKind.u8 0, Value.int IntKind.u8 0, Value.int IntKind.u8 0], agg := true, bytes := 6, fok := true, cmp := true } := by kernel_rfl
theorem ts128 {f : TI → Option AV} : tyInt Tryz.prog 128 f = f { kind := TK.ar 6 5, size := 6, zero := [Value.int IntKind.u8 0, Value.int IntKind.u8 0, Value.int IntKind.u8 0, Value.int IntKind.u8 0, Value.int IntKind.u8 0, Value.int IntKind.u8 0], agg := true, bytes := 6, fok := true, cmp := true } := tyInt_of tsi128
theorem us128 {f : TI → Option (AV × H)} : tyInt2 Tryz.prog 128 f = f { kind := TK.ar 6 5, size := 6, zero := [Value.int IntKind.u8 0, Value.int IntKind.u8 0, Value.int IntKind.u8 0, Value.int IntKind.u8 0, Value.int IntKind.u8 0, Value.int IntKind.u8 0], agg := true, bytes := 6, fok := true, cmp := true } := tyInt2_of tsi128
theorem tsi130 : ti Tryz.prog 130 = some { kind := TK.st [(0, 6, 128), (6, 2, 96)], size := 8, zero := [Value.int IntKind.u8 0, Value.int IntKind.u8 0, Value.int IntKind.u8 0, Value.int IntKind.u8 0, Value.int IntKind.u8 0, Value.int IntKind.u8 0, Value.int IntKind.u8 0, Value.int IntKind.u8 0], agg := true, bytes := 8, fok := true, cmp := true } := by kernel_rfl
theorem ts130 {f : TI → Option AV} : tyInt Tryz.prog 130 f = f { kind := TK.st [(0, 6, 128), (6, 2, 96)], size := 8, zero := [Value.int IntKind.u8 0, Value.int IntKind.u8 0, Value.int IntKind.u8 0, Value.int IntKind.u8 0, Value.int IntKind.u8 0, Value.int IntKind.u8 0, Value.int IntKind.u8 0, Value.int IntKind.u8 0], agg := true, bytes := 8, fok := true, cmp := true } := tyInt_of tsi130
theorem us130 {f : TI → Option (AV × H)} : tyInt2 Tryz.prog 130 f = f { kind := TK.st [(0, 6, 128), (6, 2, 96)], size := 8, zero := [Value.int IntKind.u8 0, Value.int IntKind.u8 0, Value.int IntKind.u8 0, Value.int IntKind.u8 0, Value.int IntKind.u8 0, Value.int IntKind.u8 0, Value.int IntKind.u8 0, Value.int IntKind.u8 0], agg := true, bytes := 8, fok := true, cmp := true } := tyInt2_of tsi130
theorem tsi132 : ti Tryz.prog 132 = some { kind := TK.st [(0, 4, 95), (4, 4, 95), (8, 4, 95), (12, 4, 95), (16, 1, 99)], size := 17, zero := [Value.int IntKind.u8 0, Value.int IntKind.u8 0, Value.int IntKind.u8 0, Value.int IntKind.u8 0, Value.int IntKind.u8 0, Value.int IntKind.u8 0, Value.int IntKind.u8 0, Value.int IntKind.u8 0, Value.int IntKind.u8 0, Value.int IntKind.u8 0, Value.int IntKind.u8 0, Value.int IntKind.u8 0, Value.int IntKind.u8 0, Value.int IntKind.u8 0, Value.int IntKind.u8 0, Value.int IntKind.u8 0, Value.slice none 0 0], agg := true, bytes := 40, fok := true, cmp := true } := by kernel_rfl
theorem ts132 {f : TI → Option AV} : tyInt Tryz.prog 132 f = f { kind := TK.st [(0, 4, 95), (4, 4, 95), (8, 4, 95), (12, 4, 95), (16, 1, 99)], size := 17, zero := [Value.int IntKind.u8 0, Value.int IntKind.u8 0, Value.int IntKind.u8 0, Value.int IntKind.u8 0, Value.int IntKind.u8 0, Value.int IntKind.u8 0, Value.int IntKind.u8 0, Value.int IntKind.u8 0, Value.int IntKind.u8 0, Value.int IntKind.u8 0, Value.int IntKind.u8 0, Value.int IntKind.u8 0, Value.int IntKind.u8 0, Value.int IntKind.u8 0, Value.int IntKind.u8 0, Value.int IntKind.u8 0, Value.slice none 0 0], agg := true, bytes := 40, fok := true, cmp := true } := tyInt_of tsi132
theorem us132 {f : TI → Option (AV × H)} : tyInt2 Tryz.prog 132 f = f { kind := TK.st [(0, 4, 95), (4, 4, 95), (8, 4, 95), (12, 4, 95), (16, 1, 99)], size := 17, zero := [Value.int IntKind.u8 0, Value.int IntKind.u8 0, Value.int IntKind.u8 0, Value.int IntKind.u8 0, Value.int IntKind.u8 0, Value.int IntKind.u8 0, Value.int IntKind.u8 0, Value.int IntKind.u8 0, Value.int IntKind.u8 0, Value.int IntKind.u8 0, Value.int IntKind.u8 0, Value.int IntKind.u8 0, Value.int IntKind.u8 0, Value.int IntKind.u8 0, Value.int IntKind.u8 0, Value.int IntKind.u8 0, Value.slice none 0 0], agg := true, bytes := 40, fok := true, cmp := true } := tyInt2_of tsi132
theorem tsi172 : ti Tryz.prog 172 = some { kind := TK.ar 5 5, size := 5, zero := [Value.int IntKind.u8 0, Value.int IntKind.u8 0, Value.int IntKind.u8 0, Value.int IntKind.u8 0, Value.int IntKind.u8 0], agg := true, bytes := 5, fok := true, cmp := true } := by kernel_rfl
theorem ts172 {f : TI → Option AV} : tyInt Tryz.prog 172 f = f { kind := TK.ar 5 5, size := 5, zero := [Value.int IntKind.u8 0, Value.int IntKind.u8 0, Value.int IntKind.u8 0, Value.int IntKind.u8 0, Value.int IntKind.u8 0], agg := true, bytes := 5, fok := true, cmp := true } := tyInt_of tsi172
theorem us172 {f : TI → Option (AV × H)} : tyInt2 Tryz.prog 172 f = f { kind := TK.ar 5 5, size := 5, zero := [Value.int IntKind.u8 0, Value.int IntKind.u8 0, Value.int IntKind.u8 0, Value.int IntKind.u8 0, Value.int IntKind.u8 0], agg := true, bytes := 5, fok := true, cmp := true } := tyInt2_of tsi172
end Go.Pe
