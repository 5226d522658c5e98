import Derived.Test.YtblpmcmapadphaaPgM
import Derived.Test.YtblpmcmapadphaaPeY
set_option linter.unusedVariables false
set_option linter.unusedSimpArgs false
namespace Go.Pe
open Go Go.Proofs Go.Proofs.Ytblpmcmapadphaa
set_option maxRecDepth 100000
def isSt (P : Program) (t : TypeId) : Bool := match P.underlying t with
  | some (.struct _) => true
  | some (.array _ _) => true
  | _ => false
theorem TyV_st {P : Program} {n : Nat} {t : TypeId} {y : AV} (h : isSt P t = true) (hv : TyV P n t y) : ∃ xs, y = .agg xs ∧ TyC P n t xs := by
  unfold isSt at h
  unfold TyV at hv
  split at h <;> simp_all
theorem TyV_one {P : Program} {n : Nat} {t : TypeId} {y : AV} (h : isSt P t = false) (hv : TyV P n t y) : TyC P n t [y] := by
  unfold isSt at h
  unfold TyV at hv
  split at h <;> simp_all
theorem TyC_at {P : Program} {n : Nat} {t : TypeId} {T : TI} {xs : List AV} (hT : ti P t = some T) (h : TyC P (n + 1) t xs) : (match T.kind with
      | .int k => ∃ m, xs = [.val (.int k m)] ∧ k.min ≤ m ∧ m ≤ k.max
      | .bool => ∃ b, xs = [.val (.bool b)]
      | .str => ∃ s, xs = [.val (.string s)] ∧ s.size ≤ maxLen
      | .st fs => TyFs (TyC P n) fs xs
      | .ar len e => TyAr (TyC P n e) (P.cellsOf e) len xs
      | .sl e => ∃ rows, xs = [.ro false (P.cellsOf e) rows] ∧ rows.length ≤ maxLen ∧ ∀ row ∈ rows, row.length = P.cellsOf e ∧ TyC P n e row
      | .oth => False) := by
  unfold TyC at h
  rw [hT] at h
  exact h
theorem open_i64 {n : Nat} {xs : List AV} (h : TyC Try.prog (n + 1) 3 xs) : ∃ m, xs = [I m] := by
  obtain ⟨m, e, _⟩ := TyC_at ti3 h
  exact ⟨m, e⟩
theorem open_u8 {n : Nat} {xs : List AV} (h : TyC Try.prog (n + 1) 5 xs) : ∃ m, xs = [U m] ∧ 0 ≤ m ∧ m ≤ 255 := by
  obtain ⟨m, e, h1, h2⟩ := TyC_at ti5 h
  exact ⟨m, e, by simpa [IntKind.min, IntKind.signed] using h1, by simpa [IntKind.max, IntKind.signed, IntKind.bits] using h2⟩
theorem open_bd {n : Nat} {xs : List AV} (h : TyC Try.prog (n + 2) 27 xs) : ∃ b : Bd, xs = [I b.lo, I b.hi] := by
  obtain ⟨a, r, rfl, _, h1, a', r', rfl, _, h2, rfl⟩ := TyC_at ti27 h
  obtain ⟨m, rfl⟩ := open_i64 h1
  obtain ⟨k, rfl⟩ := open_i64 h2
  exact ⟨⟨m, k⟩, rfl⟩
theorem open_sk {n : Nat} {xs : List AV} (h : TyC Try.prog (n + 3) 54 xs) : ∃ b : Sk, xs = b.row := by
  obtain ⟨a, r, rfl, _, h1, a', r', rfl, _, h2, rfl⟩ := TyC_at ti54 h
  obtain ⟨m, rfl⟩ := open_bd h1
  obtain ⟨k, rfl⟩ := open_bd h2
  exact ⟨⟨m, k⟩, rfl⟩
theorem open_ct {n : Nat} {xs : List AV} (h : TyC Try.prog (n + 3) 48 xs) : ∃ c : Ct, AV.agg xs = c.av := by
  obtain ⟨a, r, rfl, _, h1, a', r', rfl, _, h2, a'', r'', rfl, _, h3, a3, r3, rfl, _, h4, rfl⟩ := TyC_at ti48 h
  obtain ⟨m, rfl⟩ := open_i64 h1
  obtain ⟨k, rfl⟩ := open_i64 h2
  obtain ⟨l, rfl⟩ := open_i64 h3
  obtain ⟨b, rfl⟩ := open_bd h4
  exact ⟨⟨m, k, l, b⟩, rfl⟩
theorem rows_map {α : Type} (f : α → List AV) (Q : α → Prop) : ∀ {rows : List (List AV)}, (∀ r ∈ rows, ∃ a, r = f a ∧ Q a) → ∃ l : List α, rows = l.map f ∧ ∀ a ∈ l, Q a
  | [], _ => ⟨[], rfl, by simp⟩
  | r :: rows, h => by
      obtain ⟨a, e, q⟩ := h r (by simp)
      obtain ⟨l, e', q'⟩ := rows_map f Q (rows := rows) (fun r hr => h r (by simp [hr]))
      refine ⟨a :: l, by rw [e, e']; rfl, fun b hb => ?_⟩
      rcases List.mem_cons.1 hb with rfl | hb
      · exact q
      · exact q' b hb
theorem open_u8s {n : Nat} {xs : List AV} (h : TyC Try.prog (n + 2) 94 xs) : ∃ l : List Int, xs = [u8s l] ∧ l.length ≤ maxLen ∧ ∀ n ∈ l, 0 ≤ n ∧ n ≤ 255 := by
  obtain ⟨rows, rfl, h1, h2⟩ := TyC_at ti94 h
  obtain ⟨l, rfl, h3⟩ := rows_map (fun n => [U n]) (fun n => 0 ≤ n ∧ n ≤ 255) (rows := rows) (fun r hr => open_u8 (h2 r hr).2)
  exact ⟨l, by rw [show Try.prog.cellsOf 5 = 1 by kernel_rfl], by simpa using h1, h3⟩
theorem open_sky {n : Nat} {xs : List AV} (h : TyC Try.prog (n + 4) 49 xs) : ∃ l : List Sk, xs = [.ro false 4 (l.map Sk.row)] ∧ l.length ≤ maxLen := by
  obtain ⟨rows, rfl, h1, h2⟩ := TyC_at ti49 h
  obtain ⟨l, rfl, h3⟩ := rows_map Sk.row (fun _ => True) (rows := rows) (fun r hr => (open_sk (h2 r hr).2).imp fun _ h => ⟨h, trivial⟩)
  exact ⟨l, by rw [show Try.prog.cellsOf 54 = 4 by kernel_rfl], by simpa using h1⟩
theorem open_tr {n : Nat} {xs : List AV} (h : TyC Try.prog (n + 3) 96 xs) : ∃ x : Tr, AV.agg xs = x.av ∧ (0 ≤ x.snow ∧ x.snow ≤ 255) ∧ (∀ n ∈ x.side, 0 ≤ n ∧ n ≤ 255) ∧ (∀ n ∈ x.base, 0 ≤ n ∧ n ≤ 255) := by
  obtain ⟨a, r, rfl, _, h1, a', r', rfl, _, h2, a'', r'', rfl, _, h3, a3, r3, rfl, _, h4, a5, r5, rfl, _, h5, rfl⟩ := TyC_at ti96 h
  obtain ⟨m1, rfl, _, b1⟩ := open_u8s h1
  obtain ⟨m2, rfl, _, b2⟩ := open_u8s h2
  obtain ⟨m3, rfl, _, b3⟩ := open_u8s h3
  obtain ⟨m4, rfl, _, b4⟩ := open_u8s h4
  obtain ⟨k, rfl, k1, k2⟩ := open_u8 h5
  exact ⟨⟨m1, m2, m3, m4, k⟩, rfl, ⟨k1, k2⟩, b2, b1⟩
theorem rr_args {ys : List AV} (h : TyVs Try.prog 20 [48, 49] ys) : ∃ (c : Ct) (sky : List Sk), ys = [c.av, .ro false 4 (sky.map Sk.row)] ∧ sky.length ≤ maxLen := by
  obtain ⟨y1, z1, rfl, v1, y2, z2, rfl, v2, rfl⟩ := h
  obtain ⟨x1, rfl, w1⟩ := TyV_st (by kernel_rfl) v1
  have v2 := TyV_one (by kernel_rfl) v2
  obtain ⟨c, e1⟩ := open_ct w1
  obtain ⟨sky, e2, hl⟩ := open_sky v2
  exact ⟨c, sky, by rw [e1]; simpa using e2, hl⟩
theorem melts_args {ys : List AV} (h : TyVs Try.prog 20 [48, 49, 96] ys) : ∃ (c : Ct) (sky : List Sk) (x : Tr), ys = [c.av, .ro false 4 (sky.map Sk.row), x.av] ∧ sky.length ≤ maxLen ∧ (0 ≤ x.snow ∧ x.snow ≤ 255) ∧ (∀ n ∈ x.side, 0 ≤ n ∧ n ≤ 255) ∧ (∀ n ∈ x.base, 0 ≤ n ∧ n ≤ 255) := by
  obtain ⟨y1, z1, rfl, v1, y2, z2, rfl, v2, y3, z3, rfl, v3, rfl⟩ := h
  obtain ⟨x1, rfl, w1⟩ := TyV_st (by kernel_rfl) v1
  have v2 := TyV_one (by kernel_rfl) v2
  obtain ⟨x3, rfl, w3⟩ := TyV_st (by kernel_rfl) v3
  obtain ⟨c, e1⟩ := open_ct w1
  obtain ⟨sky, e2, hl⟩ := open_sky v2
  obtain ⟨x, e3, hx⟩ := open_tr w3
  exact ⟨c, sky, x, by rw [e1, e3]; simpa using e2, hl, hx⟩
end Go.Pe
