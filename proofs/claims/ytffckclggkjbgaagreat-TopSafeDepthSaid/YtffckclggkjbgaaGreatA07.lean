import Derived.Test.YtffckclggkjbgaaGreatA05
import Derived.Test.YtffckclggkjbgaaGreatY49
import Derived.Test.YtffckclggkjbgaaGreatA06
set_option linter.unusedVariables false
set_option linter.unusedSimpArgs false
/- The law TopSafeDepth of the whole returns true for every moored hull, water and keel by small numbers. It has no condition. -/
namespace Go.Pe
open Go Go.Proofs Go.Proofs.YtffckclggkjbgaaGreat
set_option maxRecDepth 100000
theorem open_b6 {n : Nat} {xs : List AV} (h : TyC Tryz.prog (n + 2) 128 xs) : ∃ a b c d e f : Int, xs = [U a, U b, U c, U d, U e, U f] ∧ (0 ≤ a ∧ a ≤ 255) ∧ (0 ≤ b ∧ b ≤ 255) ∧ (0 ≤ c ∧ c ≤ 255) ∧ (0 ≤ d ∧ d ≤ 255) ∧ (0 ≤ e ∧ e ≤ 255) ∧ 0 ≤ f ∧ f ≤ 255 := by
  obtain ⟨a, b, rfl, _, h1, a2, b2, rfl, _, h2, a3, b3, rfl, _, h3, a4, b4, rfl, _, h4, a5, b5, rfl, _, h5, a6, b6, rfl, _, h6, rfl⟩ := TyC_at tsi128 h
  obtain ⟨m1, rfl, p1⟩ := open_b h1
  obtain ⟨m2, rfl, p2⟩ := open_b h2
  obtain ⟨m3, rfl, p3⟩ := open_b h3
  obtain ⟨m4, rfl, p4⟩ := open_b h4
  obtain ⟨m5, rfl, p5⟩ := open_b h5
  obtain ⟨m6, rfl, p6⟩ := open_b h6
  exact ⟨m1, m2, m3, m4, m5, m6, rfl, p1, p2, p3, p4, p5, p6⟩
theorem open_mh {n : Nat} {xs : List AV} (h : TyC Tryz.prog (n + 3) 130 xs) : ∃ x : Mh, xs = mhC x ∧ x.Ok := by
  obtain ⟨a, b, rfl, _, h1, a2, b2, rfl, _, h2, rfl⟩ := TyC_at tsi130 h
  obtain ⟨m1, m2, m3, m4, m5, m6, rfl, p1, p2, p3, p4, p5, p6⟩ := open_b6 h1
  obtain ⟨l0, l1, rfl, g0, g1⟩ := open_b2 h2
  exact ⟨⟨m1, m2, m3, m4, m5, m6, l0, l1⟩, rfl, p1, p2, p3, p4, p5, p6, g0, g1⟩
theorem open_mw {n : Nat} {xs : List AV} (h : TyC Tryz.prog (n + 4) 132 xs) : ∃ x : Sr, xs = mwC x ∧ x.Ok := by
  obtain ⟨a, b, rfl, _, h1, a2, b2, rfl, _, h2, a3, b3, rfl, _, h3, a4, b4, rfl, _, h4, a5, b5, rfl, _, h5, rfl⟩ := TyC_at tsi132 h
  obtain ⟨q1, rfl, p1⟩ := open_b4 h1
  obtain ⟨q2, rfl, p2⟩ := open_b4 h2
  obtain ⟨q3, rfl, p3⟩ := open_b4 h3
  obtain ⟨q4, rfl, p4⟩ := open_b4 h4
  obtain ⟨rs, rfl, p5⟩ := open_b4s h5
  exact ⟨⟨q1, q2, q3, q4, rs, 0⟩, rfl, p1, p2, p3, p4, p5, by show (0 : Int) ≤ 0 ∧ (0 : Int) ≤ 255; omega⟩
theorem tsafe_all (ys : List AV) (h : TyVs Tryz.prog 20 [130, 132, 5] ys) : ∃ h', Fn Tryz.prog 13 ys .nil (.val (.bool true)) h' := by
  obtain ⟨y1, z1, rfl, v1, y2, z2, rfl, v2, y3, z3, rfl, v3, rfl⟩ := h
  obtain ⟨x1, rfl, w1⟩ := TyV_st (by kernel_rfl) v1
  obtain ⟨x2, rfl, w2⟩ := TyV_st (by kernel_rfl) v2
  obtain ⟨x, rfl, hx⟩ := open_mh w1
  obtain ⟨y, rfl, hy⟩ := open_mw w2
  obtain ⟨k, e3, hk⟩ := open_b (TyV_one (by kernel_rfl) v3)
  cases e3
  exact ⟨.nil, tsafe_law hx hy hk⟩
end Go.Pe
namespace Go.Proofs.YtffckclggkjbgaaGreat
theorem topSafeDepth : Rows.TopSafeDepthSaid := holds13 Go.Pe.tsafe_all
end Go.Proofs.YtffckclggkjbgaaGreat
