/- Operations that leave memory alone: the rest of them, one by one. -/
import Derived.Test.YtblpmcmapadphaaPeB
set_option linter.unusedVariables false
set_option linter.unusedSimpArgs false
namespace Go.Pe
open Go

theorem R.up {c : Cx} {w : World} {D D' : Nat → Prop} {x : AV} {v : Value} (h : R c w D x v) (hN : ∀ b, D b → D' b) : R c w D' x v :=
  h.mono (fun _ h => h) (fun _ _ => rfl) (fun _ _ => rfl) hN (fun _ C _ h => ⟨C, h, rfl⟩)

theorem Addr_add (b o j : Nat) : (⟨b, o, none⟩ : Addr).add j = ⟨b, o + j, none⟩ := by unfold Addr.add; split <;> simp_all

/-- The address of a field. -/
def fieldA (T : TI) (f : Nat) (p : AV) : Option AV :=
  match T.kind with
  | .st fs => match fs[f]? with
    | some (off, sz, _) => if sz = 0 then none else match p with
      | .ptr b o => some (.ptr b (o + off))
      | .rop cs => some (.rop (cs.drop off))
      | _ => none
    | none => none
  | _ => none

theorem rop_drop {c : Cx} {w : World} {D : Nat → Prop} {cs : List AV} {b o : Nat} (off : Nat) (h : R c w D (.rop cs) (.pointer (some ⟨b, o, none⟩))) : R c w D (.rop (cs.drop off)) (.pointer (some ⟨b, o + off, none⟩)) := by
  cases h with
  | rop cell hS hcell hh =>
    refine .rop (fun j => cell (off + j)) hS (fun j hj => ?_) (fun j x hx => ?_)
    · have := hcell (off + j) (by simp at hj; omega)
      rw [Nat.add_assoc]; exact this
    · exact hh (off + j) x (by simpa [List.getElem?_drop] using hx)

theorem run_fieldA {P : Program} {c : Cx} {w : World} {D : Nat → Prop} {s : TypeId} {T : TI} (hT : ti P s = some T) {f : Nat} {p x : AV} {v : Value} (hp : R c w D p v) (hx : fieldA T f p = some x) :
    ∃ u, (Instr.fieldAt s v f).run P w = .ok u w ∧ R c w D x u := by
  unfold fieldA at hx
  split at hx
  · rename_i fs hk
    obtain ⟨F, hF, rfl⟩ := ti_st hT hk
    split at hx
    · rename_i off sz ft hf
      split at hx
      · cases hx
      · rename_i hsz
        have hf' : ∃ g, F[f]? = some g ∧ g.offset = off ∧ P.cellsOf g.type = sz := by
          simp only [List.getElem?_map, Array.getElem?_toList] at hf
          cases hg : F[f]? with
          | none => simp [hg] at hf
          | some g => simp only [hg, Option.map_some, Option.some.injEq, Prod.mk.injEq] at hf; exact ⟨g, rfl, hf.1, hf.2.1⟩
        obtain ⟨g, hg, ho, hs⟩ := hf'
        have hsz' : (sizeOf g.type).run P w = .ok sz w := by
          rw [← hs] at hsz ⊢
          unfold Program.cellsOf at hsz ⊢
          cases hi : P.info? g.type with
          | none => simp [hi] at hsz
          | some i => simp [sizeOf, typeInfo, hi]
        have hplace : ∀ b o, (fieldPlace ⟨b, o, none⟩ g).run P w = .ok ⟨b, o + off, none⟩ w := fun b o => by
          simp [fieldPlace, hsz', hsz, ho, Addr_add]
        have key : ∀ b o, (Instr.fieldAt s (.pointer (some ⟨b, o, none⟩)) f).run P w = .ok (.pointer (some ⟨b, o + off, none⟩)) w := fun b o => by
          simp [Instr.fieldAt, run_underlying hF, hg, Instr.sureAddr, hplace]
        split at hx
        · cases hx
          cases hp with
          | ptr hb => exact ⟨_, key _ _, .ptr hb⟩
        · cases hx
          cases hp with
          | rop cell hS hcell hh => exact ⟨_, key _ _, rop_drop off (.rop cell hS hcell hh)⟩
        · cases hx
    · cases hx
  · cases hx

/-- An index. -/
def intOf? : AV → Option Int
  | .val (.int _ n) => some n
  | _ => none

theorem intOf?_R {c : Cx} {w : World} {D : Nat → Prop} {x : AV} {v : Value} {n : Int} (h : R c w D x v) (hx : intOf? x = some n) : ∃ k, v = .int k n := by
  unfold intOf? at hx
  split at hx
  · cases hx; cases h; exact ⟨_, rfl⟩
  · cases hx

def indexA (T E : TI) (x : AV) (i : Int) : Option AV :=
  if i < 0 then none else
  match T.kind, x with
  | .sl _, .ro _ k xs => if k = E.size then match xs[i.toNat]? with
    | some row => some (.rop row)
    | none => none
    else none
  | .sl _, .sl b o len k => if k = E.size ∧ i < len then some (.ptr b (o + i.toNat * k)) else none
  | .ar n _, .ptr b o => if i < n then some (.ptr b (o + i.toNat * E.size)) else none
  | .ar n _, .rop cs => if i < n then some (.rop (cs.drop (i.toNat * E.size))) else none
  | _, _ => none

def elemTy : TK → TypeId
  | .sl e => e
  | .ar _ e => e
  | _ => 0

theorem run_indexA {P : Program} {c : Cx} {w : World} {D : Nat → Prop} {t : TypeId} {T E : TI} (hT : ti P t = some T) (hE : ti P (elemTy T.kind) = some E) {x y : AV} {v u : Value} {i : Int} {k : IntKind}
    (hx : R c w D x v) (hu : u = .int k i) (hy : indexA T E x i = some y) : ∃ z, (Instr.indexAt t v u).run P w = .ok z w ∧ R c w D y z := by
  subst hu
  unfold indexA at hy
  split at hy
  · cases hy
  · rename_i hneg
    have hi0 : 0 ≤ i := by omega
    split at hy
    · rename_i e f k' xs hk
      rw [hk] at hE
      have hu := ti_sl hT hk
      split at hy
      · rename_i hks
        split at hy
        · rename_i row hrow
          cases hy
          have hlt : i.toNat < xs.length := (List.getElem?_eq_some_iff.1 hrow).1
          cases hx with
          | ro cell hS hl hc hf hkk hcell ho hh =>
            rename_i b o len cap
            have hs := ti_size hE w
            have hlen : (i : Int) < len := by omega
            refine ⟨.pointer (some ⟨b, o + i.toNat * E.size, none⟩), ?_, ?_⟩
            · simp [Instr.indexAt, asIntOf, run_underlying hu, hi0, hlen, elemTy, hs, Addr_add] at hs ⊢
            · subst hks
              have hrl : row.length = E.size := hkk row (List.mem_of_getElem? hrow)
              refine .rop (fun j => cell i.toNat j) hS (fun j hj => hcell i.toNat j (by omega) (by omega)) (fun j x hxj => hh i.toNat j row x hrow hxj)
          | nil => simp at hlt
          | emp => simp at hlt
        · cases hy
      · cases hy
    · rename_i e b o len k' hk
      rw [hk] at hE
      have hu := ti_sl hT hk
      split at hy
      · rename_i hks
        obtain ⟨hks, hlt⟩ := hks
        cases hy
        cases hx with
        | sl hb hc C e' hblk hC =>
          have hs := ti_size hE w
          refine ⟨.pointer (some ⟨c.φ b, o + i.toNat * k', none⟩), ?_, .ptr hb⟩
          simp [Instr.indexAt, asIntOf, run_underlying hu, hi0, hlt, elemTy] at hs ⊢
          simp [hs, Addr_add, hks]
      · cases hy
    · rename_i n e b o hk
      rw [hk] at hE
      have hu := ti_ar hT hk
      split at hy
      · rename_i hlt
        cases hy
        cases hx with
        | ptr hb =>
          have hs := ti_size hE w
          refine ⟨.pointer (some ⟨c.φ b, o + i.toNat * E.size, none⟩), ?_, .ptr hb⟩
          simp [Instr.indexAt, asIntOf, run_underlying hu, hi0, hlt, elemTy, Instr.sureAddr] at hs ⊢
          simp [hs, Addr_add]
      · cases hy
    · rename_i n e cs hk
      rw [hk] at hE
      have hu := ti_ar hT hk
      split at hy
      · rename_i hlt
        cases hy
        cases hx with
        | rop cell hS hcell hh =>
          rename_i b o
          have hs := ti_size hE w
          refine ⟨.pointer (some ⟨b, o + i.toNat * E.size, none⟩), ?_, rop_drop _ (.rop cell hS hcell hh)⟩
          simp [Instr.indexAt, asIntOf, run_underlying hu, hi0, hlt, elemTy, Instr.sureAddr] at hs ⊢
          simp [hs, Addr_add]
      · cases hy
    · cases hy

/-- A part of a struct or an array that is a value. -/
def partA (E : TI) (cs : List AV) (off : Nat) : Option AV := (takeAt cs off E.size).bind (asLoaded E)

theorem run_partA {P : Program} {c : Cx} {w : World} {D : Nat → Prop} {e : TypeId} {E : TI} (hE : ti P e = some E) {cs : List AV} {vs : Array Value} {off : Nat} {y : AV} (h : RL c w D cs vs) (hy : partA E cs off = some y) :
    ∃ z, (part e vs off).run P w = .ok z w ∧ R c w D y z := by
  unfold partA at hy
  cases htk : takeAt cs off E.size with
  | none => simp [htk] at hy
  | some l =>
    obtain ⟨hl, hj, hle⟩ := takeAt_len htk
    simp only [htk, Option.bind_some] at hy
    have hv : vs.size = cs.length := h.1
    unfold asLoaded at hy
    have ha := ti_agg hE w
    have hs := ti_size hE w
    cases hag : E.agg with
    | true =>
      simp only [hag, if_true, Option.some.injEq] at hy
      subst hy
      refine ⟨.agg (vs.extract off (off + E.size)), by simp [part, ha, hag, hs], .agg (by simp [hl]; omega) fun i x v h1 h2 => ?_⟩
      have hi : i < E.size := by rw [← hl]; exact (List.getElem?_eq_some_iff.1 h1).1
      rw [hj i hi] at h1
      rw [Array.getElem?_extract] at h2
      split at h2
      · exact h.2 _ x v h1 h2
      · cases h2
    | false =>
      simp only [hag, if_false, Bool.false_eq_true] at hy
      split at hy
      · rename_i y'
        cases hy
        have h1 : E.size = 1 := by rw [← hl]; rfl
        have h0 := hj 0 (by omega)
        simp only [List.getElem?_cons_zero, Nat.add_zero] at h0
        have hlt : off < vs.size := by omega
        refine ⟨vs[off], by simp [part, ha, hag, hlt], h.2 off _ _ h0.symm (Array.getElem?_eq_getElem hlt)⟩
      · cases hy

end Go.Pe
