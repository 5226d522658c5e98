/- Numbers, truths; what a heap holds; a few equations more. -/
import Derived.Test.YtblpmcmapadphaaPeQ
set_option linter.unusedVariables false
set_option linter.unusedSimpArgs false
namespace Go.Pe
open Go
noncomputable abbrev I (n : Int) : AV := .val (.int .i64 n)
noncomputable abbrev B (b : Bool) : AV := .val (.bool b)
noncomputable abbrev noC : Nat → Cert := fun _ => {}
noncomputable abbrev noM : Oper → Bool := fun _ => false
/-- All that is appended to may be written into later. -/
def ownM : Oper → Bool := fun _ => true
theorem ownM_eq {o : Oper} : ownM o = true := rfl
/-- All but what these slots get. -/
def butM (l : List Nat) : Oper → Bool := fun o => match o.dst with | some d => !(l.contains d) | none => true
theorem butM_eq {l : List Nat} {d : Nat} {op : Op} {ty : TypeId} {p : String} {af : Array Edge} {g : Option (Nat × Bool)} : butM l (Oper.mk (some d) op ty p af g) = !(l.contains d) := rfl

theorem wrap_in {n : Int} (h1 : -2^63 ≤ n) (h2 : n < 2^63) : IntKind.i64.wrap n = n := by rw [IntKind.wrap_i64]; omega
theorem frz_val {h : H} {N : Nat} {v : Value} {x : AV} : (∃ k, frz k h N (.val v) = some x) ↔ .val v = x :=
  ⟨fun ⟨k, e⟩ => by cases k <;> simp [frz] at e; exact e, fun e => ⟨1, by simp [frz, e]⟩⟩
theorem frz_ro {h : H} {N : Nat} {f : Bool} {k : Nat} {xs : List (List AV)} {x : AV} : (∃ n, frz n h N (.ro f k xs) = some x) ↔ .ro f k xs = x :=
  ⟨fun ⟨k, e⟩ => by cases k <;> simp [frz] at e; exact e, fun e => ⟨1, by simp [frz, e]⟩⟩

theorem LeN_refl {h : H} : H.LeN h h ↔ True := ⟨fun _ => trivial, fun _ _ _ _ e => e⟩
theorem LeN_push {h k : H} {cs : List AV} (hk : h.next ≤ k.next) : H.LeN h (k.push cs) ↔ H.LeN h k :=
  ⟨fun hl b cs hb e => by have := hl b cs hb e; simp only [H.push] at this; rwa [if_neg (by omega)] at this, fun hl b cs hb e => by simp only [H.push]; rw [if_neg (by omega)]; exact hl b cs hb e⟩
theorem LeN_set {h k : H} {b : Nat} {cs : List AV} (hb : h.next ≤ b) : H.LeN h (k.set b cs) ↔ H.LeN h k :=
  ⟨fun hl b cs hb e => by have := hl b cs hb e; simp only [H.set] at this; rwa [if_neg (by omega)] at this, fun hl b cs hb e => by simp only [H.set]; rw [if_neg (by omega)]; exact hl b cs hb e⟩
theorem push_get {h : H} {cs : List AV} {b : Nat} : (h.push cs).get b = if b = h.next then some cs else h.get b := rfl
theorem push_next {h : H} {cs : List AV} : (h.push cs).next = h.next + 1 := rfl
theorem set_get {h : H} {cs : List AV} {b q : Nat} : (h.set b cs).get q = if q = b then some cs else h.get q := rfl
theorem set_next {h : H} {cs : List AV} {b : Nat} : (h.set b cs).next = h.next := rfl
theorem nil_get {b : Nat} : H.nil.get b = none := rfl
theorem nil_next : H.nil.next = 0 := rfl

theorem indexA_ro {T E : TI} {e : TypeId} {f : Bool} {k : Nat} {xs : List (List AV)} {n : Nat} (hk : T.kind = .sl e) (hE : k = E.size) : indexA T E (.ro f k xs) (n : Int) = (xs[n]?).map AV.rop := by
  unfold indexA
  rw [if_neg (by omega), hk]
  simp only [hE, if_true, Int.toNat_natCast]
  cases xs[n]? <;> rfl
theorem lenA_ro {e : TypeId} {s by' : Nat} {z : List Value} {a f' cm : Bool} {f : Bool} {k : Nat} {xs : List (List AV)} : lenA { kind := .sl e, size := s, zero := z, agg := a, bytes := by', fok := f', cmp := cm } (.ro f k xs) = some (.val (.int .i64 xs.length)) := rfl
theorem indexA_ro0 {T E : TI} {e : TypeId} {f : Bool} {k : Nat} {xs : List (List AV)} (hk : T.kind = .sl e) (hE : k = E.size) : indexA T E (.ro f k xs) 0 = (xs[0]?).map AV.rop := indexA_ro (n := 0) hk hE
theorem indexA_ro1 {T E : TI} {e : TypeId} {f : Bool} {k : Nat} {xs : List (List AV)} {n : Nat} (hk : T.kind = .sl e) (hE : k = E.size) : indexA T E (.ro f k xs) ((n : Int) + 1) = (xs[n + 1]?).map AV.rop := indexA_ro (n := n + 1) hk hE
theorem indexA_sl {e : TypeId} {s by' : Nat} {z : List Value} {a f' cm : Bool} {E : TI} {b o len k n : Nat} (hE : k = E.size) (hn : n < len) : indexA { kind := .sl e, size := s, zero := z, agg := a, bytes := by', fok := f', cmp := cm } E (.sl b o len k) (n : Int) = some (.ptr b (o + n * k)) := by
  unfold indexA
  rw [if_neg (by omega)]
  simp only
  rw [if_pos ⟨hE, by omega⟩]
  simp
end Go.Pe
