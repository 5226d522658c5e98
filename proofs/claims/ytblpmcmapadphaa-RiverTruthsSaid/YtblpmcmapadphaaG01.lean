import Derived.Test.YtblpmcmapadphaaF23
import Derived.Test.YtblpmcmapadphaaF08
import Derived.Test.YtblpmcmapadphaaRows
import Derived.Test.YtblpmcmapadphaaF16
import Derived.Test.YtblpmcmapadphaaF24
set_option linter.unusedVariables false
set_option linter.unusedSimpArgs false
/- The volume of water. -/
namespace Go.Pe
open Go Go.Proofs Go.Proofs.Ytblpmcmapadphaa
attribute [local simp] t3 u3 t4 u4 t5 u5 t22 u22 t23 u23 t25 u25 t27 u27 t28 u28 t30 u30 t32 u32 t34 u34 t37 u37 t43 u43 t48 u48 t49 u49 t50 u50 t54 u54 t75 u75 t77 u77 t84 u84 t89 u89 t94 u94 t96 u96 t102 u102 t117 u117 t119 u119 t123 u123 t125 u125 t130 u130 t134 u134 t138 u138 t152 u152 t155 u155 t156 u156 t160 u160 t172 u172
set_option maxRecDepth 20000
set_option maxHeartbeats 8000000
attribute [local simp] fW_eq fR_eq fS_eq extA fBd_eq fL_eq

/-- What an answer with an error looks like. -/
noncomputable def errV (e : Int) : AV := .tup [.agg [I 0, I 0], I e]
/-- The errors of the volume's hours. -/
def volE (f : Fc) (a b c : Int) : Int := if inB 0 (f.sides.length - 1) a = true then (if b ≤ c ∧ 0 ≤ b ∧ c ≤ hrs f.sides then 0 else 3) else 7
theorem Volume_bad {f : Fc} {f1 f2 : Bool} {a b c : Int} {h : H} (hw : SmallF f) (he : startE f ≠ 0) : Fn Try.prog 35 [f.r.av f1, sidesAV f.sides f2, I a, I b, I c] h (.tup [.agg [I 0, I 0], I (startE f)]) h := by
  refine Fn.beside ?_ rfl h
  refine Fn.ofR0 noM (by kernel_rfl) Try.func35 rfl (by simp) ?_
  have ne0 : (startE f != 0) = true := by simpa using he
  simp -dsimp -implicitDefEqProofs
  refine onCall_in (newStream_bad hw he) ?_
  simp -dsimp -implicitDefEqProofs [ne0]
theorem Volume_err {f : Fc} {f1 f2 : Bool} {a b c : Int} {h : H} (g : GoodF f) (he : startE f = 0) (hv : volE f a b c ≠ 0) : Fn Try.prog 35 [f.r.av f1, sidesAV f.sides f2, I a, I b, I c] h (.tup [.agg [I 0, I 0], I (volE f a b c)]) h := by
  refine Fn.beside ?_ rfl h
  refine Fn.ofR0 noM (by kernel_rfl) Try.func35 rfl (by simp) ?_
  have hn := g.small.n
  have hpos := g.pos
  have heq := g.eq
  have w1 : IntKind.i64.wrap ((f.r.rs.length : Int) - 1) = (f.sides.length : Int) - 1 := by rw [wrap_in (by omega) (by omega)]; omega
  simp -dsimp -implicitDefEqProofs
  refine onCall_in (newStream_fn g he) ?_
  simp -dsimp -implicitDefEqProofs [w1]
  refine onCall_in in1_fn ?_
  simp -dsimp -implicitDefEqProofs
  refine ifB_in (fun h1 => ?_) (fun h1 => ?_)
  · simp -dsimp -implicitDefEqProofs
    by_cases h2 : c < b
    · have d2 : decide (c < b) = true := decide_eq_true h2
      have : volE f a b c = 3 := by simp only [volE, h1, if_true]; rw [if_neg (by omega)]
      simp -dsimp -implicitDefEqProofs [d2, this]
    have d2 : decide (c < b) = false := decide_eq_false h2
    have h3 : (inB 0 (hrs f.sides) b && inB 0 (hrs f.sides) c) = false := by
      rw [Bool.eq_false_iff]
      intro hh
      simp only [Bool.and_eq_true, inB_iff] at hh
      apply hv
      simp only [volE, h1, if_true]
      rw [if_pos (by omega)]
    have : volE f a b c = 3 := by
      simp only [volE, h1, if_true]
      rw [if_neg]
      intro hh
      rw [Bool.and_eq_false_iff] at h3
      rcases h3 with h3 | h3
      · have h4 : ¬ inB 0 (hrs f.sides) b = true := by simp [h3]
        rw [inB_iff] at h4; omega
      · have h4 : ¬ inB 0 (hrs f.sides) c = true := by simp [h3]
        rw [inB_iff] at h4; omega
    simp -dsimp -implicitDefEqProofs [d2]
    refine onCall_in in2_fn ?_
    simp -dsimp -implicitDefEqProofs [h3, this]
  · have : volE f a b c = 7 := by simp [volE, h1]
    simp -dsimp -implicitDefEqProofs [this]
theorem Volume_fn {f : Fc} {f1 f2 : Bool} {a b c : Nat} {row : List Bd} {h : H} (g : GoodF f) (he : startE f = 0) (ha : a < f.sides.length) (hbc : b ≤ c) (hc : c ≤ hrs f.sides) (hr : (flowsF f.r f.sides)[a]? = some row) :
    Fn Try.prog 35 [f.r.av f1, sidesAV f.sides f2, I a, I b, I c] h (.tup [(total ((row.drop b).take (c - b))).av, I 0]) h := by
  refine Fn.beside ?_ rfl h
  refine Fn.ofR0 noM (by kernel_rfl) Try.func35 rfl (by simp) ?_
  have hn := g.small.n
  have hm := g.hmax
  have hpos := g.pos
  have heq := g.eq
  have hfi := flowsF_in g f.sides.length (Nat.le_refl _)
  rw [List.take_length] at hfi
  obtain ⟨p1, p2⟩ := hfi row (List.mem_of_getElem? hr)
  have hbig : f.sides.length * 10000000000 ≤ 250000000000 := Nat.mul_le_mul_right 10000000000 (show f.sides.length ≤ 25 by omega)
  have p3 : ∀ b ∈ row, b.lo.natAbs ≤ 1000000000000 ∧ b.hi.natAbs ≤ 1000000000000 := fun b hb => by
    have := p2 b hb
    revert this hbig
    generalize f.sides.length * 10000000000 = m
    omega
  have w1 : IntKind.i64.wrap ((f.r.rs.length : Int) - 1) = (f.sides.length : Int) - 1 := by rw [wrap_in (by omega) (by omega)]; omega
  have i1 : inB 0 ((f.sides.length : Int) - 1) (a : Int) = true := inB_iff.2 (by omega)
  have i2 : inB 0 (hrs f.sides : Int) (b : Int) = true := inB_iff.2 (by omega)
  have i3 : inB 0 (hrs f.sides : Int) (c : Int) = true := inB_iff.2 (by omega)
  have d2 : decide (c < b) = false := decide_eq_false (by omega)
  simp -dsimp -implicitDefEqProofs
  refine onCall_in (newStream_fn g he) ?_
  simp -dsimp -implicitDefEqProofs [w1]
  refine onCall_in in1_fn ?_
  simp -dsimp -implicitDefEqProofs [i1, d2]
  refine onCall_in in2_fn ?_
  have hcut : (((row.map fBd).drop b).take (c - b)) = ((row.drop b).take (c - b)).map fBd := by rw [List.map_take, List.map_drop]
  have hsl : sliceA { kind := TK.sl 27, size := 1, zero := [Value.slice none 0 0], agg := false, bytes := 24, fok := true, cmp := true } { kind := TK.st [(0, 1, 3), (1, 1, 3)], size := 2, zero := [Value.int .i64 0, Value.int .i64 0], agg := true, bytes := 16, fok := true, cmp := true } (.ro false 2 (row.map fBd)) (some (I b)) (some (I c)) none = some (.ro false 2 (((row.drop b).take (c - b)).map fBd)) := by
    simp only [sliceA, boundA, intOf?]
    rw [if_pos ⟨trivial, by omega, by omega, by rw [List.length_map]; omega⟩]
    simp only [Int.toNat_natCast, hcut]
  have hsum : ∀ h, Fn Try.prog 70 [.ro false 2 (((row.map fBd).drop b).take (c - b))] h (total ((row.drop b).take (c - b))).av h := fun h => by
    rw [hcut]
    exact (sum_fn (xs := (row.drop b).take (c - b)) (fu := false) (by simp; omega) (fun b hb => p3 b (List.mem_of_mem_drop (List.mem_of_mem_take hb)))).beside rfl h
  simp -dsimp -implicitDefEqProofs [i2, i3, hr, hsl]
  refine onCall_in (hsum _) ?_
  simp -dsimp -implicitDefEqProofs
end Go.Pe

/- What the types of the program are. -/
namespace Go.Pe
open Go Go.Proofs Go.Proofs.Ytblpmcmapadphaa
theorem ti65 : ti Try.prog 65 = some { kind := TK.ar 3 3, size := 3, zero := [Value.int IntKind.i64 0, Value.int IntKind.i64 0, Value.int IntKind.i64 0], agg := true, bytes := 24, fok := true, cmp := true } := by kernel_rfl
theorem t65 {f : TI → Option AV} : tyInt Try.prog 65 f = f { kind := TK.ar 3 3, size := 3, zero := [Value.int IntKind.i64 0, Value.int IntKind.i64 0, Value.int IntKind.i64 0], agg := true, bytes := 24, fok := true, cmp := true } := tyInt_of ti65
theorem u65 {f : TI → Option (AV × H)} : tyInt2 Try.prog 65 f = f { kind := TK.ar 3 3, size := 3, zero := [Value.int IntKind.i64 0, Value.int IntKind.i64 0, Value.int IntKind.i64 0], agg := true, bytes := 24, fok := true, cmp := true } := tyInt2_of ti65
theorem ti105 : ti Try.prog 105 = some { kind := TK.int IntKind.u16, size := 1, zero := [Value.int IntKind.u16 0], agg := false, bytes := 2, fok := true, cmp := true } := by kernel_rfl
theorem t105 {f : TI → Option AV} : tyInt Try.prog 105 f = f { kind := TK.int IntKind.u16, size := 1, zero := [Value.int IntKind.u16 0], agg := false, bytes := 2, fok := true, cmp := true } := tyInt_of ti105
theorem u105 {f : TI → Option (AV × H)} : tyInt2 Try.prog 105 f = f { kind := TK.int IntKind.u16, size := 1, zero := [Value.int IntKind.u16 0], agg := false, bytes := 2, fok := true, cmp := true } := tyInt2_of ti105
theorem ti106 : ti Try.prog 106 = some { kind := TK.ar 3 105, size := 3, zero := [Value.int IntKind.u16 0, Value.int IntKind.u16 0, Value.int IntKind.u16 0], agg := true, bytes := 6, fok := true, cmp := true } := by kernel_rfl
theorem t106 {f : TI → Option AV} : tyInt Try.prog 106 f = f { kind := TK.ar 3 105, size := 3, zero := [Value.int IntKind.u16 0, Value.int IntKind.u16 0, Value.int IntKind.u16 0], agg := true, bytes := 6, fok := true, cmp := true } := tyInt_of ti106
theorem u106 {f : TI → Option (AV × H)} : tyInt2 Try.prog 106 f = f { kind := TK.ar 3 105, size := 3, zero := [Value.int IntKind.u16 0, Value.int IntKind.u16 0, Value.int IntKind.u16 0], agg := true, bytes := 6, fok := true, cmp := true } := tyInt2_of ti106
end Go.Pe

/- The law RiverVolumes. -/
namespace Go.Pe
open Go Go.Proofs Go.Proofs.Ytblpmcmapadphaa
attribute [local simp] t3 u3 t4 u4 t5 u5 t22 u22 t23 u23 t25 u25 t27 u27 t28 u28 t30 u30 t32 u32 t34 u34 t37 u37 t43 u43 t48 u48 t49 u49 t50 u50 t54 u54 t75 u75 t77 u77 t84 u84 t89 u89 t94 u94 t96 u96 t102 u102 t117 u117 t119 u119 t123 u123 t125 u125 t130 u130 t134 u134 t138 u138 t152 u152 t155 u155 t156 u156 t160 u160 t172 u172 t65 u65
set_option maxRecDepth 20000
set_option maxHeartbeats 8000000
attribute [local simp] fW_eq fR_eq fS_eq extA fBd_eq fL_eq lenA_nil
theorem eqlB27 {a b a' b' : Int} {k : TK} {s : Nat} {z : List Value} {a1 f : Bool} {by' : Nat} : binX Try.prog 27 { kind := k, size := s, zero := z, agg := a1, bytes := by', fok := f, cmp := true } .eql (.agg [I a, I b]) (.agg [I a', I b']) = some (B (a == a' && (b == b' && true))) := by kernel_rfl
attribute [local simp] eqlB27
theorem aix0 {b n : Nat} {e : TypeId} {k : TK} {s by1 by2 : Nat} {z z' : List Value} {a1 a2 f1 f2 c1 c2 : Bool} (hn : 0 < n) : indexA { kind := .ar n e, size := s, zero := z, agg := a1, bytes := by1, fok := f1, cmp := c1 } { kind := k, size := 1, zero := z', agg := a2, bytes := by2, fok := f2, cmp := c2 } (.ptr b 0) 0 = some (.ptr b 0) := by
  simp only [indexA]
  rw [if_neg (by omega), if_pos (by omega)]; rfl
theorem aix1 {b n : Nat} {e : TypeId} {k : TK} {s by1 by2 : Nat} {z z' : List Value} {a1 a2 f1 f2 c1 c2 : Bool} (hn : 1 < n) : indexA { kind := .ar n e, size := s, zero := z, agg := a1, bytes := by1, fok := f1, cmp := c1 } { kind := k, size := 1, zero := z', agg := a2, bytes := by2, fok := f2, cmp := c2 } (.ptr b 0) 1 = some (.ptr b 1) := by
  simp only [indexA]
  rw [if_neg (by omega), if_pos (by omega)]; rfl
theorem aix2 {b n : Nat} {e : TypeId} {k : TK} {s by1 by2 : Nat} {z z' : List Value} {a1 a2 f1 f2 c1 c2 : Bool} (hn : 2 < n) : indexA { kind := .ar n e, size := s, zero := z, agg := a1, bytes := by1, fok := f1, cmp := c1 } { kind := k, size := 1, zero := z', agg := a2, bytes := by2, fok := f2, cmp := c2 } (.ptr b 0) 2 = some (.ptr b 2) := by
  simp only [indexA]
  rw [if_neg (by omega), if_pos (by omega)]; rfl
attribute [local simp] aix0 aix1 aix2
theorem total_nil : total [] = ⟨0, 0⟩ := rfl

theorem rv_law {f : Fc} {a b c : Int} : Fn Try.prog 6 [.agg [f.r.reaches false, f.r.shoals, sidesAV f.sides false], .agg [I a, I b, I c]] .nil (B true) .nil := by
  refine Fn.ofR0 noM (by kernel_rfl) Try.func6 rfl (by simp) ?_
  simp -dsimp -implicitDefEqProofs
  refine onCall_in large_fn ?_
  simp -dsimp -implicitDefEqProofs
  refine ifB_in (fun h1 => ?_) (fun h1 => ?_)
  · simp -dsimp -implicitDefEqProofs
    refine onCall_in (known_fn.beside rfl _) ?_
    simp -dsimp -implicitDefEqProofs
  have hw := small_of h1
  have hn := hw.n
  have hc := hw.c
  simp -dsimp -implicitDefEqProofs
  refine DrawR.on {} (by kernel_rfl) (by simp) ?_
  simp -dsimp -implicitDefEqProofs
  refine onCallQ_in (copied_fn hw.r) ?_
  simp -dsimp -implicitDefEqProofs
  refine onCallQ_in (forecast_fn (l := f.sides) (by omega) (fun x hx => by have := hc x hx; omega)) ?_
  simp -dsimp -implicitDefEqProofs
  by_cases he : startE f = 0
  rotate_left
  · have ne0 : (startE f != 0) = true := by simpa using he
    have ne1 : (startE f == 0) = false := by simpa using he
    refine onCallQ_in (Volume_bad hw he) ?_
    simp -dsimp -implicitDefEqProofs
    refine onCall_in (rStart_fn hw) ?_
    simp -dsimp -implicitDefEqProofs [ne0, ne1]
    refine DrawR.on {} (by kernel_rfl) (by simp) ?_
    simp -dsimp -implicitDefEqProofs [ne0, ne1]
    refine onCall_in (known_fn.beside rfl _) ?_
    simp -dsimp -implicitDefEqProofs
  have g := good_of hw he
  have hm := g.hmax
  have heq := g.eq
  have hpos := g.pos
  have hpos2 : 0 < f.sides.length := by omega
  have hx0 := List.getElem?_eq_getElem hpos2
  have hh : f.sides[0].length = hrs f.sides := by simp [hrs, List.headD_eq_head?_getD, List.head?_eq_getElem?, hx0]
  have w1 : IntKind.i64.wrap ((f.sides.length : Int) - 1) = (f.sides.length : Int) - 1 := wrap_in (by omega) (by omega)
  cases hA : inB 0 ((f.sides.length : Int) - 1) a with
  | false =>
    have hv : volE f a b c = 7 := by simp [volE, hA]
    have key : ∀ f1 f2 h, Fn Try.prog 35 [f.r.av f1, sidesAV f.sides f2, I a, I b, I c] h (.tup [.agg [I 0, I 0], I 7]) h := fun f1 f2 h => by rw [← hv]; exact Volume_err g he (by rw [hv]; decide)
    refine onCallQ_in (key _ _ _) ?_
    simp -dsimp -implicitDefEqProofs
    refine onCall_in (rStart_fn hw) ?_
    simp -dsimp -implicitDefEqProofs [he, w1]
    refine onCall_in In2_fn ?_
    simp -dsimp -implicitDefEqProofs [hA]
    refine DrawR.on {} (by kernel_rfl) (by simp) ?_
    simp -dsimp -implicitDefEqProofs
    refine onCall_in (known_fn.beside rfl _) ?_
    simp -dsimp -implicitDefEqProofs
  | true =>
    by_cases hbc : b ≤ c ∧ 0 ≤ b ∧ c ≤ hrs f.sides
    rotate_left
    · have hv : volE f a b c = 3 := by simp only [volE, hA, if_true]; rw [if_neg hbc]
      have key : ∀ f1 f2 h, Fn Try.prog 35 [f.r.av f1, sidesAV f.sides f2, I a, I b, I c] h (.tup [.agg [I 0, I 0], I 3]) h := fun f1 f2 h => by rw [← hv]; exact Volume_err g he (by rw [hv]; decide)
      refine onCallQ_in (key _ _ _) ?_
      simp -dsimp -implicitDefEqProofs
      refine onCall_in (rStart_fn hw) ?_
      simp -dsimp -implicitDefEqProofs [he, w1]
      refine onCall_in In2_fn ?_
      simp -dsimp -implicitDefEqProofs [hA]
      refine DrawR.on {} (by kernel_rfl) (by simp) ?_
      simp -dsimp -implicitDefEqProofs
      refine onCallQ_in In2_fn ?_
      cases hB : inB 0 c b with
      | false =>
        simp -dsimp -implicitDefEqProofs
        refine onCall_in (known_fn.beside rfl _) ?_
        simp -dsimp -implicitDefEqProofs
      | true =>
        have hB' := inB_iff.1 hB
        have d3 : decide ((hrs f.sides : Int) < c) = true := decide_eq_true (by omega)
        simp -dsimp -implicitDefEqProofs [hx0, hh, d3]
        refine onCall_in (known_fn.beside rfl _) ?_
        simp -dsimp -implicitDefEqProofs
    have hA' := inB_iff.1 hA
    obtain ⟨a, rfl⟩ : ∃ k : Nat, a = k := ⟨a.toNat, by omega⟩
    obtain ⟨b, rfl⟩ : ∃ k : Nat, b = k := ⟨b.toNat, by omega⟩
    obtain ⟨c, rfl⟩ : ∃ k : Nat, c = k := ⟨c.toNat, by omega⟩
    have ha : a < f.sides.length := by omega
    obtain ⟨row, hr, hrl, hrk⟩ := flowsF_rf g f.sides.length (Nat.le_refl _) a ha
    rw [List.take_length] at hr
    obtain ⟨cut, hcut⟩ : ∃ cut, cut = (row.drop b).take (c - b) := ⟨_, rfl⟩
    have hcl : cut.length = c - b := by rw [hcut]; simp; omega
    have hck : ∀ k, k < c - b → cut[k]? = some (rf f.r f.sides a ((b : Int) + (k : Int))) := fun k hk => by
      rw [hcut, List.getElem?_take, if_pos hk, List.getElem?_drop, hrk _ (by omega)]
      simp
    have hB : inB 0 (c : Int) (b : Int) = true := inB_iff.2 (by omega)
    have d3 : decide (hrs f.sides < c) = false := decide_eq_false (by omega)
    have key : ∀ f1 f2 h, Fn Try.prog 35 [f.r.av f1, sidesAV f.sides f2, I a, I b, I c] h (.tup [(total cut).av, I 0]) h := fun f1 f2 h => by
      rw [hcut]; exact Volume_fn g he ha (by omega) (by omega) hr
    refine onCallQ_in (key _ _ _) ?_
    simp -dsimp -implicitDefEqProofs
    refine onCall_in (rStart_fn hw) ?_
    simp -dsimp -implicitDefEqProofs [he, w1]
    refine onCall_in In2_fn ?_
    simp -dsimp -implicitDefEqProofs [hA]
    refine DrawR.on {} (by kernel_rfl) (by simp) ?_
    simp -dsimp -implicitDefEqProofs
    refine onCallQ_in In2_fn ?_
    simp -dsimp -implicitDefEqProofs [hB, hx0, hh, d3]
    have hcb : ∀ q ∈ cut, q.lo.natAbs ≤ 1000000000000 ∧ q.hi.natAbs ≤ 1000000000000 := fun q hq => by
      obtain ⟨k, hk, rfl⟩ := List.getElem_of_mem hq
      have e := hck k (by omega)
      rw [List.getElem?_eq_getElem hk] at e
      simp only [Option.some.injEq] at e
      have hin := rf_in g a ((b : Int) + (k : Int))
      have hbig : (a + 1) * 10000000000 ≤ 250000000000 := Nat.mul_le_mul_right 10000000000 (show a + 1 ≤ 25 by omega)
      rw [e]
      revert hin hbig
      generalize (a + 1) * 10000000000 = m
      intro hin hbig
      omega
    refine LoopCR.on 118 (fun k => [(2, .ptr 0 0), (3, .ptr 1 0), (5, .ptr 2 0), (6, I 0), (8, .ptr 3 0), (9, I ((b : Int) + (k : Nat)))])
      (fun k => [some [f.r.reaches false, f.r.shoals, sidesAV f.sides false], some [I a, I b, I c], some [I (total cut).lo, I (total cut).hi], some [I (total (cut.take k)).lo, I (total (cut.take k)).hi]]) (fun k => k ≤ c - b) (fun k => c - b - k) 0 [0, 1, 18, 41] (by simp) ?_ ?_
    · simp -dsimp -implicitDefEqProofs [total_nil]
    intro k j hk
    simp -dsimp -implicitDefEqProofs
    refine ifD_in (fun hlt => ?_) (fun hge => ?_)
    · have hlt' : k < c - b := by omega
      have hq := hck k hlt'
      obtain ⟨q, hqe⟩ : ∃ q, q = rf f.r f.sides a ((b : Int) + (k : Int)) := ⟨_, rfl⟩
      have hst : cut.take (k + 1) = cut.take k ++ [q] := by rw [List.take_add_one, hq, hqe]; rfl
      have hcall := fun h => (rFlow_fn (f1 := false) (f2 := false) g a ha ((b : Int) + (k : Int)) (by omega) (by omega)).beside rfl h
      have ht1 := total_in hcb k (by omega)
      have ht2 := total_in hcb (k + 1) (by omega)
      rw [hst, total_snoc] at ht2
      have e1 : IntKind.i64.wrap ((total (cut.take k)).lo + q.lo) = (total (cut.take k)).lo + q.lo := wrap_in (by simp only at ht2; omega) (by simp only at ht2; omega)
      have e2 : IntKind.i64.wrap ((total (cut.take k)).hi + q.hi) = (total (cut.take k)).hi + q.hi := wrap_in (by simp only at ht2; omega) (by simp only at ht2; omega)
      simp only [← hqe] at hcall
      simp -dsimp -implicitDefEqProofs
      refine onCall_in (hcall _) ?_
      simp -dsimp -implicitDefEqProofs [e1, e2]
      refine again_in (k + 1) [0, 1, 2, 3] (by omega) (by omega) ?_
      simp -dsimp -implicitDefEqProofs [hst, total_snoc]
      rw [wrap_in (by omega) (by omega)]
      omega
    · have hin : k = c - b := by omega
      subst hin
      have htk : cut.take (c - b) = cut := List.take_of_length_le (by omega)
      simp -dsimp -implicitDefEqProofs [htk]
      refine onCall_in (known_fn.beside rfl _) ?_
      simp -dsimp -implicitDefEqProofs
end Go.Pe

/- Arguments of the law RiverVolumes, opened. -/
namespace Go.Pe
open Go Go.Proofs Go.Proofs.Ytblpmcmapadphaa
set_option maxRecDepth 100000
theorem rvo_args {ys : List AV} (h : TyVs Try.prog 20 [34, 65] ys) : ∃ (f : Fc) (a b c : Int), ys = [.agg [f.r.reaches false, f.r.shoals, sidesAV f.sides false], .agg [I a, I b, I c]] := by
  obtain ⟨y1, z1, rfl, v1, h⟩ := h
  obtain ⟨f, hf⟩ := fc_args (ys := [y1]) ⟨y1, [], rfl, v1, rfl⟩
  obtain ⟨y2, z2, rfl, v2, rfl⟩ := h
  obtain ⟨x2, rfl, w2⟩ := TyV_st (by kernel_rfl) v2
  obtain ⟨a, r1, rfl, _, g1, b, r2, rfl, _, g2, c, r3, rfl, _, g3, rfl⟩ := TyC_at ti65 w2
  obtain ⟨a, rfl⟩ := open_i64 g1
  obtain ⟨b, rfl⟩ := open_i64 g2
  obtain ⟨c, rfl⟩ := open_i64 g3
  simp only [List.cons.injEq, and_true] at hf
  exact ⟨f, a, b, c, by rw [hf]; rfl⟩
end Go.Pe
