import Derived.Test.YtblpmcmapadphabA23
import Derived.Test.YtblpmcmapadphabA08
import Derived.Test.YtblpmcmapadphabRows
import Derived.ProofKit
import Derived.Test.YtblpmcmapadphabA22
set_option linter.unusedVariables false
set_option linter.unusedSimpArgs false
/- Arguments of the law RiverDepths, opened. -/
namespace Go.Pe
open Go Go.Proofs Go.Proofs.Ytblpmcmapadphab
set_option maxRecDepth 100000
theorem rd_args {ys : List AV} (h : TyVs Try.prog 20 [28, 3, 3] ys) : ∃ (f : Fc) (a b : Int), ys = [.agg [f.r.reaches false, f.r.shoals, sidesAV f.sides false], I a, I b] := by
  obtain ⟨y1, z1, rfl, v1, h⟩ := h
  obtain ⟨f, hf⟩ := fc_args (ys := [y1]) ⟨y1, [], rfl, v1, rfl⟩
  obtain ⟨y2, z2, rfl, v2, y3, z3, rfl, v3, rfl⟩ := h
  obtain ⟨a, ha⟩ := open_i64 (TyV_one (by kernel_rfl) v2)
  obtain ⟨b, hb⟩ := open_i64 (TyV_one (by kernel_rfl) v3)
  simp only [List.cons.injEq, and_true] at hf ha hb
  exact ⟨f, a, b, by rw [hf, ha, hb]⟩
end Go.Pe

namespace Go.Proofs.Ytblpmcmapadphab
open Go Go.ChangeShapes Go.WideShapes Go.ChangeAt Go.RowKit
set_option linter.unusedVariables false
theorem own7 : ownKnob Try.prog.godebug = none := by kernel_rfl
end Go.Proofs.Ytblpmcmapadphab

/- The law RiverDepths of package river returns true for every forecast, every place and every hour, and leaves its arguments as they were. It has no condition. -/
namespace Go.Pe
open Go Go.Proofs Go.Proofs.Ytblpmcmapadphab
end Go.Pe
namespace Go.Proofs.Ytblpmcmapadphab
end Go.Proofs.Ytblpmcmapadphab

/- What the types of the program are. -/
namespace Go.Pe
open Go Go.Proofs Go.Proofs.Ytblpmcmapadphab
theorem ti145 : ti Try.prog 62 = some { kind := TK.sl 69, size := 1, zero := [Value.slice none 0 0], agg := false, bytes := 24, fok := true, cmp := true } := by kernel_rfl
theorem t145 {f : TI → Option AV} : tyInt Try.prog 62 f = f { kind := TK.sl 69, size := 1, zero := [Value.slice none 0 0], agg := false, bytes := 24, fok := true, cmp := true } := tyInt_of ti145
theorem u145 {f : TI → Option (AV × H)} : tyInt2 Try.prog 62 f = f { kind := TK.sl 69, size := 1, zero := [Value.slice none 0 0], agg := false, bytes := 24, fok := true, cmp := true } := tyInt2_of ti145
section
variable {P : Program} {ρ : List AV} {h : H}
theorem resA_three {a b c : ResultVar} : resA P #[a, b, c] ρ h = (resOne P ρ h a).bind fun x => (resOne P ρ h b).bind fun y => (resOne P ρ h c).bind fun z => some (.tup [x, y, z]) := by simp [resA]; cases resOne P ρ h a <;> cases resOne P ρ h b <;> cases resOne P ρ h c <;> simp
theorem resA_four {a b c d : ResultVar} : resA P #[a, b, c, d] ρ h = (resOne P ρ h a).bind fun x => (resOne P ρ h b).bind fun y => (resOne P ρ h c).bind fun z => (resOne P ρ h d).bind fun u => some (.tup [x, y, z, u]) := by simp [resA]; cases resOne P ρ h a <;> cases resOne P ρ h b <;> cases resOne P ρ h c <;> cases resOne P ρ h d <;> simp
end
attribute [simp] resA_three resA_four
attribute [simp] t3 u3 t4 u4 t5 u5 t22 u22 t23 u23 t25 u25 t27 u27 t28 u28 t30 u30 t32 u32 t34 u34 t37 u37 t43 u43 t48 u48 t49 u49 t50 u50 t54 u54 t75 u75 t77 u77         t102 u102 t117 u117 t119 u119 t123 u123 t125 u125 t130 u130 t134 u134 t138 u138   t155 u155 t156 u156 t160 u160 t172 u172         t145 u145
attribute [simp] fW_eq fR_eq fS_eq extA fBd_eq fL_eq lenA_nil eqlB27 neqB2
end Go.Pe
