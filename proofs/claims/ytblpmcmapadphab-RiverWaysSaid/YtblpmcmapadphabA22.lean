import Derived.Test.YtblpmcmapadphabA21
import Derived.Test.YtblpmcmapadphabA19
import Derived.Test.YtblpmcmapadphabA08
import Derived.Test.YtblpmcmapadphabA14
set_option linter.unusedVariables false
set_option linter.unusedSimpArgs false
/- Bed. -/
namespace Go.Pe
open Go Go.Proofs Go.Proofs.Ytblpmcmapadphab
attribute [local simp] t3 u3 t4 u4 t5 u5 t22 u22 t23 u23 t25 u25 t27 u27 t28 u28 t30 u30 t32 u32 t34 u34 t37 u37 t43 u43 t48 u48 t49 u49 t50 u50 t54 u54 t75 u75 t77 u77         t102 u102 t117 u117 t119 u119 t123 u123 t125 u125 t130 u130 t134 u134 t138 u138   t155 u155 t156 u156 t160 u160 t172 u172
set_option maxRecDepth 20000
set_option maxHeartbeats 8000000
attribute [local simp] fW_eq fR_eq fS_eq extA fBd_eq fL_eq

end Go.Pe

/- The volume of water. -/
namespace Go.Pe
open Go Go.Proofs Go.Proofs.Ytblpmcmapadphab
attribute [local simp] t3 u3 t4 u4 t5 u5 t22 u22 t23 u23 t25 u25 t27 u27 t28 u28 t30 u30 t32 u32 t34 u34 t37 u37 t43 u43 t48 u48 t49 u49 t50 u50 t54 u54 t75 u75 t77 u77         t102 u102 t117 u117 t119 u119 t123 u123 t125 u125 t130 u130 t134 u134 t138 u138   t155 u155 t156 u156 t160 u160 t172 u172
set_option maxRecDepth 20000
set_option maxHeartbeats 8000000
attribute [local simp] fW_eq fR_eq fS_eq extA fBd_eq fL_eq

/-- What an answer with an error looks like. -/
noncomputable def errV (e : Int) : AV := .tup [.agg [I 0, I 0], I e]
/-- The errors of the volume's hours. -/
def volE (f : Fc) (a b c : Int) : Int := if inB 0 (f.sides.length - 1) a = true then (if b ≤ c ∧ 0 ≤ b ∧ c ≤ hrs f.sides then 0 else 3) else 7
end Go.Pe

/- The law RiverVolumes. -/
namespace Go.Pe
open Go Go.Proofs Go.Proofs.Ytblpmcmapadphab
attribute [local simp] t3 u3 t4 u4 t5 u5 t22 u22 t23 u23 t25 u25 t27 u27 t28 u28 t30 u30 t32 u32 t34 u34 t37 u37 t43 u43 t48 u48 t49 u49 t50 u50 t54 u54 t75 u75 t77 u77         t102 u102 t117 u117 t119 u119 t123 u123 t125 u125 t130 u130 t134 u134 t138 u138   t155 u155 t156 u156 t160 u160 t172 u172  
set_option maxRecDepth 20000
set_option maxHeartbeats 8000000
attribute [local simp] fW_eq fR_eq fS_eq extA fBd_eq fL_eq lenA_nil
theorem eqlB27 {a b a' b' : Int} {k : TK} {s : Nat} {z : List Value} {a1 f : Bool} {by' : Nat} : binX Try.prog 33 { kind := k, size := s, zero := z, agg := a1, bytes := by', fok := f, cmp := true } .eql (.agg [I a, I b]) (.agg [I a', I b']) = some (B (a == a' && (b == b' && true))) := by kernel_rfl
attribute [local simp] eqlB27
theorem aix0 {b n : Nat} {e : TypeId} {k : TK} {s by1 by2 : Nat} {z z' : List Value} {a1 a2 f1 f2 c1 c2 : Bool} (hn : 0 < n) : indexA { kind := .ar n e, size := s, zero := z, agg := a1, bytes := by1, fok := f1, cmp := c1 } { kind := k, size := 1, zero := z', agg := a2, bytes := by2, fok := f2, cmp := c2 } (.ptr b 0) 0 = some (.ptr b 0) := by
  simp only [indexA]
  rw [if_neg (by omega), if_pos (by omega)]; rfl
theorem aix1 {b n : Nat} {e : TypeId} {k : TK} {s by1 by2 : Nat} {z z' : List Value} {a1 a2 f1 f2 c1 c2 : Bool} (hn : 1 < n) : indexA { kind := .ar n e, size := s, zero := z, agg := a1, bytes := by1, fok := f1, cmp := c1 } { kind := k, size := 1, zero := z', agg := a2, bytes := by2, fok := f2, cmp := c2 } (.ptr b 0) 1 = some (.ptr b 1) := by
  simp only [indexA]
  rw [if_neg (by omega), if_pos (by omega)]; rfl
theorem aix2 {b n : Nat} {e : TypeId} {k : TK} {s by1 by2 : Nat} {z z' : List Value} {a1 a2 f1 f2 c1 c2 : Bool} (hn : 2 < n) : indexA { kind := .ar n e, size := s, zero := z, agg := a1, bytes := by1, fok := f1, cmp := c1 } { kind := k, size := 1, zero := z', agg := a2, bytes := by2, fok := f2, cmp := c2 } (.ptr b 0) 2 = some (.ptr b 2) := by
  simp only [indexA]
  rw [if_neg (by omega), if_pos (by omega)]; rfl
attribute [local simp] aix0 aix1 aix2
theorem total_nil : total [] = ⟨0, 0⟩ := rfl

end Go.Pe

/- The law RiverDepths. -/
namespace Go.Pe
open Go Go.Proofs Go.Proofs.Ytblpmcmapadphab
attribute [local simp] t3 u3 t4 u4 t5 u5 t22 u22 t23 u23 t25 u25 t27 u27 t28 u28 t30 u30 t32 u32 t34 u34 t37 u37 t43 u43 t48 u48 t49 u49 t50 u50 t54 u54 t75 u75 t77 u77         t102 u102 t117 u117 t119 u119 t123 u123 t125 u125 t130 u130 t134 u134 t138 u138   t155 u155 t156 u156 t160 u160 t172 u172
set_option maxRecDepth 20000
set_option maxHeartbeats 8000000
attribute [local simp] fW_eq fR_eq fS_eq extA fBd_eq fL_eq lenA_nil eqlB27 neqB2

end Go.Pe
