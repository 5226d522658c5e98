import Derived.Test.YtffckclggkjbgaaGreatP06
import Derived.Test.YtffckclggkjbgaaGreatM21
import Derived.Test.YtffckclggkjbgaaGreatP01
set_option linter.unusedVariables false
set_option linter.unusedSimpArgs false
/- The law RiverDepths. -/
namespace Go.Pe
open Go Go.Proofs Go.Proofs.YtffckclggkjbgaaGreat
attribute [local simp] t3 u3 t4 u4 t5 u5 t22 u22 t23 u23 t25 u25 t27 u27 t28 u28 t30 u30 t32 u32   t37 u37 t43 u43     t50 u50   t75 u75 t77 u77     t94 u94   t102 u102 t117 u117 t119 u119     t130 u130 t134 u134 t138 u138   t155 u155 t156 u156   t172 u172
set_option maxRecDepth 20000
set_option maxHeartbeats 8000000
attribute [local simp] fW_eq fR_eq fS_eq extA fBd_eq fL_eq lenA_nil eqlB27 neqB2

end Go.Pe

/- Arguments of the laws on rivers, opened. -/
namespace Go.Pe
open Go Go.Proofs Go.Proofs.YtffckclggkjbgaaGreat
set_option maxRecDepth 100000
theorem open_rw {n : Nat} {xs : List AV} (h : TyC Tryz.prog (n + 2) 174 xs) : ∃ w : Rw, xs = fW w := by
  obtain ⟨a, r, rfl, _, h1, a', r', rfl, _, h2, rfl⟩ := TyC_at ti119 h
  obtain ⟨m, rfl⟩ := open_i64 h1
  obtain ⟨k, rfl⟩ := open_i64 h2
  exact ⟨⟨m, k⟩, rfl⟩
theorem open_curve {n : Nat} {xs : List AV} (h : TyC Tryz.prog (n + 3) 110 xs) : ∃ l : List Rw, xs = [.ro false 2 (l.map fW)] ∧ l.length ≤ maxLen := by
  obtain ⟨rows, rfl, h1, h2⟩ := TyC_at ti28 h
  obtain ⟨l, rfl, _⟩ := rows_map fW (fun _ => True) (rows := rows) (fun r hr => (open_rw (h2 r hr).2).imp fun _ h => ⟨h, trivial⟩)
  exact ⟨l, by rw [show Tryz.prog.cellsOf 174 = 2 by kernel_rfl], by simpa using h1⟩
theorem open_rc {n : Nat} {xs : List AV} (h : TyC Tryz.prog (n + 4) 112 xs) : ∃ r : Rc, xs = fR r ∧ r.curve.length ≤ maxLen := by
  obtain ⟨x1, r1, rfl, _, h1, x2, r2, rfl, _, h2, x3, r3, rfl, _, h3, x4, r4, rfl, _, h4, x5, r5, rfl, _, h5, x6, r6, rfl, _, h6, x7, r7, rfl, _, h7, rfl⟩ := TyC_at ti30 h
  obtain ⟨m1, rfl⟩ := open_i64 h1
  obtain ⟨m2, rfl⟩ := open_i64 h2
  obtain ⟨b3, rfl⟩ := open_bd h3
  obtain ⟨l4, rfl, hl⟩ := open_curve h4
  obtain ⟨m5, rfl⟩ := open_i64 h5
  obtain ⟨b6, rfl⟩ := open_bd h6
  obtain ⟨m7, rfl⟩ := open_i64 h7
  exact ⟨⟨m1, m2, b3, l4, m5, b6, m7⟩, rfl, hl⟩
theorem open_rs {n : Nat} {xs : List AV} (h : TyC Tryz.prog (n + 5) 50 xs) : ∃ l : List Rc, xs = [.ro false 9 (l.map fR)] ∧ l.length ≤ maxLen ∧ ∀ r ∈ l, r.curve.length ≤ maxLen := by
  obtain ⟨rows, rfl, h1, h2⟩ := TyC_at ti22 h
  obtain ⟨l, rfl, h3⟩ := rows_map fR (fun r => r.curve.length ≤ maxLen) (rows := rows) (fun r hr => open_rc (h2 r hr).2)
  exact ⟨l, by rw [show Tryz.prog.cellsOf 112 = 9 by kernel_rfl], by simpa using h1, h3⟩
theorem open_sh {n : Nat} {xs : List AV} (h : TyC Tryz.prog (n + 3) 115 xs) : ∃ s : Sh, xs = fS s := by
  obtain ⟨x1, r1, rfl, _, h1, x2, r2, rfl, _, h2, x3, r3, rfl, _, h3, x4, r4, rfl, _, h4, rfl⟩ := TyC_at ti102 h
  obtain ⟨m1, rfl⟩ := open_i64 h1
  obtain ⟨b2, rfl⟩ := open_bd h2
  obtain ⟨m3, rfl⟩ := open_i64 h3
  obtain ⟨b4, rfl⟩ := open_bd h4
  exact ⟨⟨m1, b2, m3, b4⟩, rfl⟩
theorem open_ss {n : Nat} {xs : List AV} (h : TyC Tryz.prog (n + 4) 51 xs) : ∃ l : List Sh, xs = [.ro false 6 (l.map fS)] ∧ l.length ≤ maxLen := by
  obtain ⟨rows, rfl, h1, h2⟩ := TyC_at ti23 h
  obtain ⟨l, rfl, _⟩ := rows_map fS (fun _ => True) (rows := rows) (fun r hr => (open_sh (h2 r hr).2).imp fun _ h => ⟨h, trivial⟩)
  exact ⟨l, by rw [show Tryz.prog.cellsOf 115 = 6 by kernel_rfl], by simpa using h1⟩
theorem open_rv {n : Nat} {xs : List AV} (h : TyC Tryz.prog (n + 6) 53 xs) : ∃ r : Rv, xs = [r.reaches false, r.shoals] ∧ r.rs.length ≤ maxLen ∧ r.ss.length ≤ maxLen ∧ ∀ x ∈ r.rs, x.curve.length ≤ maxLen := by
  obtain ⟨x1, r1, rfl, _, h1, x2, r2, rfl, _, h2, rfl⟩ := TyC_at ti25 h
  obtain ⟨l1, rfl, g1, g2⟩ := open_rs h1
  obtain ⟨l2, rfl, g3⟩ := open_ss h2
  exact ⟨⟨l1, l2⟩, rfl, g1, g3, g2⟩
theorem open_bdv {n : Nat} {y : AV} (h : TyV Tryz.prog (n + 2) 27 y) : ∃ b : Bd, y = .agg [I b.lo, I b.hi] := by
  obtain ⟨x, rfl, h1⟩ := TyV_st (by kernel_rfl) h
  obtain ⟨b, rfl⟩ := open_bd h1
  exact ⟨b, rfl⟩
theorem rc_args {ys : List AV} (h : TyVs Tryz.prog 20 [53, 112, 27] ys) : ∃ (r : Rv) (x : Rc) (b : Bd), ys = [r.av false, .agg (fR x), .agg [I b.lo, I b.hi]] ∧ r.rs.length ≤ maxLen ∧ r.ss.length ≤ maxLen ∧ x.curve.length ≤ maxLen := by
  obtain ⟨y1, z1, rfl, v1, y2, z2, rfl, v2, y3, z3, rfl, v3, rfl⟩ := h
  obtain ⟨x1, rfl, w1⟩ := TyV_st (by kernel_rfl) v1
  obtain ⟨x2, rfl, w2⟩ := TyV_st (by kernel_rfl) v2
  obtain ⟨r, rfl, g1, g2, _⟩ := open_rv w1
  obtain ⟨x, rfl, g3⟩ := open_rc w2
  obtain ⟨b, rfl⟩ := open_bdv v3
  exact ⟨r, x, b, rfl, g1, g2, g3⟩
end Go.Pe

/- Arguments of the laws on forecasts, opened. -/
namespace Go.Pe
open Go Go.Proofs Go.Proofs.YtffckclggkjbgaaGreat
set_option maxRecDepth 100000
theorem open_bds {n : Nat} {xs : List AV} (h : TyC Tryz.prog (n + 3) 116 xs) : ∃ l : List Bd, xs = fL l := by
  obtain ⟨rows, rfl, h1, h2⟩ := TyC_at ti50 h
  obtain ⟨l, rfl, _⟩ := rows_map fBd (fun _ => True) (rows := rows) (fun r hr => (open_bd (h2 r hr).2).imp fun _ h => ⟨h, trivial⟩)
  exact ⟨l, by rw [show Tryz.prog.cellsOf 27 = 2 by kernel_rfl]; rfl⟩
theorem open_sides {n : Nat} {xs : List AV} (h : TyC Tryz.prog (n + 4) 54 xs) : ∃ l : List (List Bd), xs = [sidesAV l false] := by
  obtain ⟨rows, rfl, h1, h2⟩ := TyC_at ti32 h
  obtain ⟨l, rfl, _⟩ := rows_map fL (fun _ => True) (rows := rows) (fun r hr => (open_bds (h2 r hr).2).imp fun _ h => ⟨h, trivial⟩)
  exact ⟨l, by rw [show Tryz.prog.cellsOf 116 = 1 by kernel_rfl]⟩
end Go.Pe

/- Arguments of the law RiverDepths, opened. -/
namespace Go.Pe
open Go Go.Proofs Go.Proofs.YtffckclggkjbgaaGreat
set_option maxRecDepth 100000
end Go.Pe
