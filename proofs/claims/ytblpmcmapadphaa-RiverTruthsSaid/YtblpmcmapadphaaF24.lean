import Derived.Test.YtblpmcmapadphaaF23
import Derived.Test.YtblpmcmapadphaaF19
set_option linter.unusedVariables false
set_option linter.unusedSimpArgs false
/- Arguments of the laws on rivers, opened. -/
namespace Go.Pe
open Go Go.Proofs Go.Proofs.Ytblpmcmapadphaa
set_option maxRecDepth 100000
theorem open_rw {n : Nat} {xs : List AV} (h : TyC Try.prog (n + 2) 119 xs) : ∃ w : Rw, xs = fW w := by
  obtain ⟨a, r, rfl, _, h1, a', r', rfl, _, h2, rfl⟩ := TyC_at ti119 h
  obtain ⟨m, rfl⟩ := open_i64 h1
  obtain ⟨k, rfl⟩ := open_i64 h2
  exact ⟨⟨m, k⟩, rfl⟩
theorem open_curve {n : Nat} {xs : List AV} (h : TyC Try.prog (n + 3) 28 xs) : ∃ l : List Rw, xs = [.ro false 2 (l.map fW)] ∧ l.length ≤ maxLen := by
  obtain ⟨rows, rfl, h1, h2⟩ := TyC_at ti28 h
  obtain ⟨l, rfl, _⟩ := rows_map fW (fun _ => True) (rows := rows) (fun r hr => (open_rw (h2 r hr).2).imp fun _ h => ⟨h, trivial⟩)
  exact ⟨l, by rw [show Try.prog.cellsOf 119 = 2 by kernel_rfl], by simpa using h1⟩
theorem open_rc {n : Nat} {xs : List AV} (h : TyC Try.prog (n + 4) 30 xs) : ∃ r : Rc, xs = fR r ∧ r.curve.length ≤ maxLen := by
  obtain ⟨x1, r1, rfl, _, h1, x2, r2, rfl, _, h2, x3, r3, rfl, _, h3, x4, r4, rfl, _, h4, x5, r5, rfl, _, h5, x6, r6, rfl, _, h6, x7, r7, rfl, _, h7, rfl⟩ := TyC_at ti30 h
  obtain ⟨m1, rfl⟩ := open_i64 h1
  obtain ⟨m2, rfl⟩ := open_i64 h2
  obtain ⟨b3, rfl⟩ := open_bd h3
  obtain ⟨l4, rfl, hl⟩ := open_curve h4
  obtain ⟨m5, rfl⟩ := open_i64 h5
  obtain ⟨b6, rfl⟩ := open_bd h6
  obtain ⟨m7, rfl⟩ := open_i64 h7
  exact ⟨⟨m1, m2, b3, l4, m5, b6, m7⟩, rfl, hl⟩
theorem open_rs {n : Nat} {xs : List AV} (h : TyC Try.prog (n + 5) 22 xs) : ∃ l : List Rc, xs = [.ro false 9 (l.map fR)] ∧ l.length ≤ maxLen ∧ ∀ r ∈ l, r.curve.length ≤ maxLen := by
  obtain ⟨rows, rfl, h1, h2⟩ := TyC_at ti22 h
  obtain ⟨l, rfl, h3⟩ := rows_map fR (fun r => r.curve.length ≤ maxLen) (rows := rows) (fun r hr => open_rc (h2 r hr).2)
  exact ⟨l, by rw [show Try.prog.cellsOf 30 = 9 by kernel_rfl], by simpa using h1, h3⟩
theorem open_sh {n : Nat} {xs : List AV} (h : TyC Try.prog (n + 3) 102 xs) : ∃ s : Sh, xs = fS s := by
  obtain ⟨x1, r1, rfl, _, h1, x2, r2, rfl, _, h2, x3, r3, rfl, _, h3, x4, r4, rfl, _, h4, rfl⟩ := TyC_at ti102 h
  obtain ⟨m1, rfl⟩ := open_i64 h1
  obtain ⟨b2, rfl⟩ := open_bd h2
  obtain ⟨m3, rfl⟩ := open_i64 h3
  obtain ⟨b4, rfl⟩ := open_bd h4
  exact ⟨⟨m1, b2, m3, b4⟩, rfl⟩
theorem open_ss {n : Nat} {xs : List AV} (h : TyC Try.prog (n + 4) 23 xs) : ∃ l : List Sh, xs = [.ro false 6 (l.map fS)] ∧ l.length ≤ maxLen := by
  obtain ⟨rows, rfl, h1, h2⟩ := TyC_at ti23 h
  obtain ⟨l, rfl, _⟩ := rows_map fS (fun _ => True) (rows := rows) (fun r hr => (open_sh (h2 r hr).2).imp fun _ h => ⟨h, trivial⟩)
  exact ⟨l, by rw [show Try.prog.cellsOf 102 = 6 by kernel_rfl], by simpa using h1⟩
theorem open_rv {n : Nat} {xs : List AV} (h : TyC Try.prog (n + 6) 25 xs) : ∃ r : Rv, xs = [r.reaches false, r.shoals] ∧ r.rs.length ≤ maxLen ∧ r.ss.length ≤ maxLen ∧ ∀ x ∈ r.rs, x.curve.length ≤ maxLen := by
  obtain ⟨x1, r1, rfl, _, h1, x2, r2, rfl, _, h2, rfl⟩ := TyC_at ti25 h
  obtain ⟨l1, rfl, g1, g2⟩ := open_rs h1
  obtain ⟨l2, rfl, g3⟩ := open_ss h2
  exact ⟨⟨l1, l2⟩, rfl, g1, g3, g2⟩
theorem open_bdv {n : Nat} {y : AV} (h : TyV Try.prog (n + 2) 27 y) : ∃ b : Bd, y = .agg [I b.lo, I b.hi] := by
  obtain ⟨x, rfl, h1⟩ := TyV_st (by kernel_rfl) h
  obtain ⟨b, rfl⟩ := open_bd h1
  exact ⟨b, rfl⟩
theorem rc_args {ys : List AV} (h : TyVs Try.prog 20 [25, 30, 27] ys) : ∃ (r : Rv) (x : Rc) (b : Bd), ys = [r.av false, .agg (fR x), .agg [I b.lo, I b.hi]] ∧ r.rs.length ≤ maxLen ∧ r.ss.length ≤ maxLen ∧ x.curve.length ≤ maxLen := by
  obtain ⟨y1, z1, rfl, v1, y2, z2, rfl, v2, y3, z3, rfl, v3, rfl⟩ := h
  obtain ⟨x1, rfl, w1⟩ := TyV_st (by kernel_rfl) v1
  obtain ⟨x2, rfl, w2⟩ := TyV_st (by kernel_rfl) v2
  obtain ⟨r, rfl, g1, g2, _⟩ := open_rv w1
  obtain ⟨x, rfl, g3⟩ := open_rc w2
  obtain ⟨b, rfl⟩ := open_bdv v3
  exact ⟨r, x, b, rfl, g1, g2, g3⟩
end Go.Pe

/- Arguments of the laws on forecasts, opened. -/
namespace Go.Pe
open Go Go.Proofs Go.Proofs.Ytblpmcmapadphaa
set_option maxRecDepth 100000
theorem open_bds {n : Nat} {xs : List AV} (h : TyC Try.prog (n + 3) 50 xs) : ∃ l : List Bd, xs = fL l := by
  obtain ⟨rows, rfl, h1, h2⟩ := TyC_at ti50 h
  obtain ⟨l, rfl, _⟩ := rows_map fBd (fun _ => True) (rows := rows) (fun r hr => (open_bd (h2 r hr).2).imp fun _ h => ⟨h, trivial⟩)
  exact ⟨l, by rw [show Try.prog.cellsOf 27 = 2 by kernel_rfl]; rfl⟩
theorem open_sides {n : Nat} {xs : List AV} (h : TyC Try.prog (n + 4) 32 xs) : ∃ l : List (List Bd), xs = [sidesAV l false] := by
  obtain ⟨rows, rfl, h1, h2⟩ := TyC_at ti32 h
  obtain ⟨l, rfl, _⟩ := rows_map fL (fun _ => True) (rows := rows) (fun r hr => (open_bds (h2 r hr).2).imp fun _ h => ⟨h, trivial⟩)
  exact ⟨l, by rw [show Try.prog.cellsOf 50 = 1 by kernel_rfl]⟩
theorem fc_args {ys : List AV} (h : TyVs Try.prog 20 [34] ys) : ∃ f : Fc, ys = [.agg [f.r.reaches false, f.r.shoals, sidesAV f.sides false]] := by
  obtain ⟨y1, z1, rfl, v1, rfl⟩ := h
  obtain ⟨x1, rfl, w1⟩ := TyV_st (by kernel_rfl) v1
  obtain ⟨c1, r1, rfl, _, g1, c2, r2, rfl, _, g2, rfl⟩ := TyC_at ti34 w1
  obtain ⟨r, rfl, _⟩ := open_rv g1
  obtain ⟨l, rfl⟩ := open_sides g2
  exact ⟨⟨r, l⟩, rfl⟩
end Go.Pe
