import Derived.Test.YtffckclggkjbgaaGreatY44
import Derived.Test.YtffckclggkjbgaaGreatY33
set_option linter.unusedVariables false
set_option linter.unusedSimpArgs false
/- Small numbers that a law is given. -/
namespace Go.Pe
open Go Go.Proofs Go.Proofs.YtffckclggkjbgaaGreat
set_option maxRecDepth 100000
theorem open_b {n : Nat} {xs : List AV} (h : TyC Tryz.prog (n + 1) 5 xs) : ∃ m, xs = [U m] ∧ 0 ≤ m ∧ m ≤ 255 := by
  obtain ⟨m, e, h1, h2⟩ := TyC_at tsi5 h
  exact ⟨m, e, by simpa [IntKind.min, IntKind.signed] using h1, by simpa [IntKind.max, IntKind.signed, IntKind.bits] using h2⟩
theorem open_b2 {n : Nat} {xs : List AV} (h : TyC Tryz.prog (n + 2) 96 xs) : ∃ a b, xs = [U a, U b] ∧ (0 ≤ a ∧ a ≤ 255) ∧ 0 ≤ b ∧ b ≤ 255 := by
  obtain ⟨a, b, rfl, _, h1, a2, b2, rfl, _, h2, rfl⟩ := TyC_at tsi96 h
  obtain ⟨m1, rfl, p1⟩ := open_b h1
  obtain ⟨m2, rfl, p2⟩ := open_b h2
  exact ⟨m1, m2, rfl, p1, p2⟩
theorem open_b4 {n : Nat} {xs : List AV} (h : TyC Tryz.prog (n + 2) 95 xs) : ∃ q : Q4, xs = fQ q ∧ okQ q := by
  obtain ⟨a, b, rfl, _, h1, a2, b2, rfl, _, h2, a3, b3, rfl, _, h3, a4, b4, rfl, _, h4, rfl⟩ := TyC_at tsi95 h
  obtain ⟨m1, rfl, p1⟩ := open_b h1
  obtain ⟨m2, rfl, p2⟩ := open_b h2
  obtain ⟨m3, rfl, p3⟩ := open_b h3
  obtain ⟨m4, rfl, p4⟩ := open_b h4
  exact ⟨⟨m1, m2, m3, m4⟩, rfl, p1, p2, p3, p4⟩
theorem open_b5 {n : Nat} {xs : List AV} (h : TyC Tryz.prog (n + 2) 172 xs) : ∃ r : R5, xs = fR5 r ∧ r.Ok := by
  obtain ⟨a, b, rfl, _, h1, a2, b2, rfl, _, h2, a3, b3, rfl, _, h3, a4, b4, rfl, _, h4, a5, b5, rfl, _, h5, rfl⟩ := TyC_at tsi172 h
  obtain ⟨m1, rfl, p1⟩ := open_b h1
  obtain ⟨m2, rfl, p2⟩ := open_b h2
  obtain ⟨m3, rfl, p3⟩ := open_b h3
  obtain ⟨m4, rfl, p4⟩ := open_b h4
  obtain ⟨m5, rfl, p5⟩ := open_b h5
  exact ⟨⟨m1, m2, m3, m4, m5⟩, rfl, p1, p2, p3, p4, p5⟩
theorem open_b4s {n : Nat} {xs : List AV} (h : TyC Tryz.prog (n + 3) 99 xs) : ∃ x : List Q4, xs = [.ro false 4 (x.map fQ)] ∧ ∀ q ∈ x, okQ q := by
  obtain ⟨rows, rfl, h1, h2⟩ := TyC_at tsi99 h
  obtain ⟨l, rfl, h3⟩ := rows_map fQ okQ (rows := rows) (fun r hr => open_b4 (h2 r hr).2)
  exact ⟨l, by rw [show Tryz.prog.cellsOf 95 = 4 by kernel_rfl], h3⟩
theorem open_b5s {n : Nat} {xs : List AV} (h : TyC Tryz.prog (n + 3) 94 xs) : ∃ x : List R5, xs = [.ro false 5 (x.map fR5)] ∧ ∀ q ∈ x, q.Ok := by
  obtain ⟨rows, rfl, h1, h2⟩ := TyC_at tsi94 h
  obtain ⟨l, rfl, h3⟩ := rows_map fR5 R5.Ok (rows := rows) (fun r hr => open_b5 (h2 r hr).2)
  exact ⟨l, by rw [show Tryz.prog.cellsOf 172 = 5 by kernel_rfl], h3⟩
theorem open_sm {n : Nat} {xs : List AV} (h : TyC Tryz.prog (n + 4) 98 xs) : ∃ x : Sm, xs = smC x ∧ x.Ok := by
  obtain ⟨a, b, rfl, _, h1, a2, b2, rfl, _, h2, a3, b3, rfl, _, h3, a4, b4, rfl, _, h4, rfl⟩ := TyC_at tsi98 h
  obtain ⟨m1, rfl, p1⟩ := open_b h1
  obtain ⟨rs, rfl, p2⟩ := open_b5s h2
  obtain ⟨q, rfl, p3⟩ := open_b4 h3
  obtain ⟨d, d', rfl, p4, p5⟩ := open_b2 h4
  exact ⟨⟨m1, rs, q.a, q.b, q.c, q.d, d, d'⟩, rfl, p1, p2, p3.1, p3.2.1, p3.2.2.1, p3.2.2.2, p4, p5⟩
theorem open_sr {n : Nat} {xs : List AV} (h : TyC Tryz.prog (n + 4) 101 xs) : ∃ x : Sr, xs = stC x ∧ x.Ok := by
  obtain ⟨a, b, rfl, _, h1, a2, b2, rfl, _, h2, a3, b3, rfl, _, h3, a4, b4, rfl, _, h4, a5, b5, rfl, _, h5, a6, b6, rfl, _, h6, rfl⟩ := TyC_at tsi101 h
  obtain ⟨q1, rfl, p1⟩ := open_b4 h1
  obtain ⟨q2, rfl, p2⟩ := open_b4 h2
  obtain ⟨q3, rfl, p3⟩ := open_b4 h3
  obtain ⟨q4, rfl, p4⟩ := open_b4 h4
  obtain ⟨rs, rfl, p5⟩ := open_b4s h5
  obtain ⟨m, rfl, p6⟩ := open_b h6
  exact ⟨⟨q1, q2, q3, q4, rs, m⟩, rfl, p1, p2, p3, p4, p5, p6⟩
end Go.Pe
