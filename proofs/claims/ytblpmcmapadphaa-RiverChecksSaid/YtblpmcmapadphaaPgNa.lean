/- Arguments opened: numbers, bounds, rows. -/
import Derived.Test.YtblpmcmapadphaaPfC
import Derived.Test.YtblpmcmapadphaaPeY
set_option linter.unusedVariables false
set_option linter.unusedSimpArgs false
namespace Go.Pe
open Go Go.Proofs Go.Proofs.Ytblpmcmapadphaa
set_option maxRecDepth 100000
def isSt (P : Program) (t : TypeId) : Bool := match P.underlying t with
  | some (.struct _) => true
  | some (.array _ _) => true
  | _ => false
theorem TyV_st {P : Program} {n : Nat} {t : TypeId} {y : AV} (h : isSt P t = true) (hv : TyV P n t y) : ∃ xs, y = .agg xs ∧ TyC P n t xs := by
  unfold isSt at h
  unfold TyV at hv
  split at h <;> simp_all
theorem TyV_one {P : Program} {n : Nat} {t : TypeId} {y : AV} (h : isSt P t = false) (hv : TyV P n t y) : TyC P n t [y] := by
  unfold isSt at h
  unfold TyV at hv
  split at h <;> simp_all
theorem TyC_at {P : Program} {n : Nat} {t : TypeId} {T : TI} {xs : List AV} (hT : ti P t = some T) (h : TyC P (n + 1) t xs) : (match T.kind with
      | .int k => ∃ m, xs = [.val (.int k m)] ∧ k.min ≤ m ∧ m ≤ k.max
      | .bool => ∃ b, xs = [.val (.bool b)]
      | .str => ∃ s, xs = [.val (.string s)] ∧ s.size ≤ maxLen
      | .st fs => TyFs (TyC P n) fs xs
      | .ar len e => TyAr (TyC P n e) (P.cellsOf e) len xs
      | .sl e => ∃ rows, xs = [.ro false (P.cellsOf e) rows] ∧ rows.length ≤ maxLen ∧ ∀ row ∈ rows, row.length = P.cellsOf e ∧ TyC P n e row
      | .oth => False) := by
  unfold TyC at h
  rw [hT] at h
  exact h
theorem open_i64 {n : Nat} {xs : List AV} (h : TyC Try.prog (n + 1) 3 xs) : ∃ m, xs = [I m] := by
  obtain ⟨m, e, _⟩ := TyC_at ti3 h
  exact ⟨m, e⟩
theorem open_bd {n : Nat} {xs : List AV} (h : TyC Try.prog (n + 2) 27 xs) : ∃ b : Bd, xs = [I b.lo, I b.hi] := by
  obtain ⟨a, r, rfl, _, h1, a', r', rfl, _, h2, rfl⟩ := TyC_at ti27 h
  obtain ⟨m, rfl⟩ := open_i64 h1
  obtain ⟨k, rfl⟩ := open_i64 h2
  exact ⟨⟨m, k⟩, rfl⟩
theorem rows_map {α : Type} (f : α → List AV) (Q : α → Prop) : ∀ {rows : List (List AV)}, (∀ r ∈ rows, ∃ a, r = f a ∧ Q a) → ∃ l : List α, rows = l.map f ∧ ∀ a ∈ l, Q a
  | [], _ => ⟨[], rfl, by simp⟩
  | r :: rows, h => by
      obtain ⟨a, e, q⟩ := h r (by simp)
      obtain ⟨l, e', q'⟩ := rows_map f Q (rows := rows) (fun r hr => h r (by simp [hr]))
      refine ⟨a :: l, by rw [e, e']; rfl, fun b hb => ?_⟩
      rcases List.mem_cons.1 hb with rfl | hb
      · exact q
      · exact q' b hb
end Go.Pe
