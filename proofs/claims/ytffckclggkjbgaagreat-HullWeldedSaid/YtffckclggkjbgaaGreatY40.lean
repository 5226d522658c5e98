import Derived.Test.YtffckclggkjbgaaGreatY39
import Derived.Test.YtffckclggkjbgaaGreatY37
import Derived.Test.YtffckclggkjbgaaGreatY09
import Derived.Test.YtffckclggkjbgaaGreatRows
import Derived.Test.YtffckclggkjbgaaGreatY30
set_option linter.unusedVariables false
set_option linter.unusedSimpArgs false
/- The bed at a spot. -/
namespace Go.Pe
open Go Go.Proofs Go.Proofs.YtffckclggkjbgaaGreat
attribute [local simp] t3 u3 t4 u4 t5 u5 t22 u22 t23 u23 t25 u25 t27 u27 t28 u28 t30 u30 t32 u32   t37 u37 t43 u43     t50 u50   t75 u75 t77 u77     t94 u94   t102 u102 t117 u117 t119 u119     t130 u130 t134 u134 t138 u138   t155 u155 t156 u156   t172 u172
set_option maxRecDepth 20000
set_option maxHeartbeats 8000000
attribute [local simp] fW_eq fR_eq fS_eq extA fBd_eq fL_eq

theorem opn_HX {h : H} {T : Nat} {ρ : List AV} {ps : Array Tmp} {asg bo : Code} (hT : h.get T = some [I 0, I 0]) (hT2 : T < h.next) (hz : ∀ q, h.next ≤ q → h.get q = none) :
    h.opn ρ ps asg bo = HX (h.next + 1) T h.get (fun q => if q = h.next then some { ρ := ρ, ps := ps, assign := asg, body := bo, st := .ready, pend := none } else h.lp q) [] ⟨0, 0⟩ := by
  unfold HX H.opn
  simp only [H.mk.injEq, and_true]
  refine ⟨by simp, funext fun q => ?_⟩
  by_cases h1 : q = T
  · subst h1; rw [if_pos rfl, hT]
  · rw [if_neg h1]
    by_cases h3 : q < h.next + 1
    · rw [if_pos h3]
    · rw [if_neg h3, hz q (by omega)]; simp
theorem ranged_beds {r : Rv} {f1 : Bool} {p hour : Int} {q T n N0 : Nat} {y : Rc} {ρ : List AV} {ps : Array Tmp} {asg bo : Code} {h : H} {Q : Exit → List AV → H → Prop} (hs : ∀ s ∈ r.ss, OkSh s) (hm : r.ss.length ≤ 50) (h1 : -1000 ≤ hour) (h2 : hour ≤ 1000)
    (hn : h.next = n) (hN : N0 = n + 1) (hT : h.get T = some [I 0, I 0]) (hT2 : T < n) (hz : ∀ q, n ≤ q → h.get q = none) (hlp : h.lp = fun _ => none)
    (hround : ∀ g0 (L : Nat → Option Lp) ex top (e : Bd), L n = some { ρ := ρ, ps := ps, assign := asg, body := bo, st := .ready, pend := none } → Rd Tryz.prog n [.agg [I e.lo, I e.hi]] (HX N0 T g0 L ex top) (B true) (HX N0 T g0 L (ex ++ [[I e.lo, I e.hi]]) (mx top e)))
    (hq : ∀ ex, ap (Q .normal) .mk ρ (HX N0 T h.get (fun _ => none) ex (bedF p hour (mx ⟨0, 0⟩ y.bot) r.ss))) :
    Ranged Tryz.prog none ps asg bo (.clo 187 [.rop (spotAV y q p), .rop [r.reaches f1, r.shoals], .rop [I hour]]) Q ρ h := by
  subst hn; subst hN
  refine ⟨trivial, .tup [], HX (h.next + 1) T h.get (fun q => if q = h.next then some { ρ := ρ, ps := ps, assign := asg, body := bo, st := .ready, pend := none } else h.lp q) (exS p hour [[I y.bot.lo, I y.bot.hi]] r.ss) (bedF p hour (mx ⟨0, 0⟩ y.bot) r.ss), { ρ := ρ, ps := ps, assign := asg, body := bo, st := .ready, pend := none }, ?_, ?_, by simp, ?_⟩
  · rw [opn_HX hT hT2 hz]
    exact beds1_fn (by omega) hs hm h1 h2 fun ex top e => hround _ _ ex top e (by simp)
  · simp [HX]
  · have e : (fun x => if x = h.next then (none : Option Lp) else if x = h.next then some { ρ := ρ, ps := ps, assign := asg, body := bo, st := .ready, pend := none } else h.lp x) = fun _ => none := by
      funext x; rw [hlp]; by_cases hx : x = h.next <;> simp [hx]
    simp only [jumped, HX_lset, e]
    exact hq _
theorem bedAt_fn {r : Rv} {f1 : Bool} {p hour : Int} {q : Nat} {y : Rc} {h : H} (hs : ∀ s ∈ r.ss, OkSh s) (hm : r.ss.length ≤ 50) (h1 : -1000 ≤ hour) (h2 : hour ≤ 1000) (hb : 0 ≤ y.bot.lo ∧ 0 ≤ y.bot.hi) :
    Fn Tryz.prog 125 [r.av f1, .agg (spotAV y q p), I hour] h (.agg [I (bedF p hour y.bot r.ss).lo, I (bedF p hour y.bot r.ss).hi]) h := by
  refine Fn.beside ?_ rfl h
  refine Fn.ofR0 noM (by kernel_rfl) Tryz.func125 rfl (by simp) ?_
  have hmx : mx ⟨0, 0⟩ y.bot = y.bot := by
    obtain ⟨b1, b2⟩ := hb
    have e1 : max 0 y.bot.lo = y.bot.lo := by omega
    have e2 : max 0 y.bot.hi = y.bot.hi := by omega
    simp only [mx, e1, e2]
  have hbeds := fun h => beds_fn (r := r) (f1 := f1) (p := p) (k := hour) (q := q) (y := y) (h := h)
  simp -dsimp -implicitDefEqProofs [spotAV]
  refine onCall_in (hbeds _) ?_
  simp -dsimp -implicitDefEqProofs [ar_range]
  refine ranged_beds (T := 3) (n := 4) (N0 := 5) hs hm h1 h2 (by simp) rfl (by simp) (by simp) ?_ (by simp) ?_ ?_
  · intro q hq
    have h3 : ¬ q = 3 := by omega
    have h4 : ¬ q = 2 := by omega
    have h5 : ¬ q = 1 := by omega
    have h6 : ¬ q = 0 := by omega
    simp [mkH, h3, h4, h5, h6]
  · intro g0 L ex top e hL
    have hpu : ∀ L l, (HX 5 3 g0 L ex top).push l = HX 5 3 g0 L (ex ++ [l]) top := fun L l => HX_push (by omega)
    have hse : ∀ L z l, (HX 5 3 g0 L (ex ++ [z]) top).set (5 + ex.length) l = HX 5 3 g0 L (ex ++ [l]) top := fun L z l => HX_setlast (by omega)
    have hla : ∀ L l, (HX 5 3 g0 L (ex ++ [l]) top).get (5 + ex.length) = some l := fun L l => HX_last (by omega)
    have hto : ∀ L ex top, (HX 5 3 g0 L ex top).get 3 = some [I top.lo, I top.hi] := fun L ex top => HX_top
    have hst : ∀ L ex top a c, (HX 5 3 g0 L ex top).set 3 [I a, I c] = HX 5 3 g0 L ex ⟨a, c⟩ := fun L ex top a c => HX_settop
    have hnx : ∀ L, (HX 5 3 g0 L ex top).next = 5 + ex.length := fun L => rfl
    refine Rd.on2 noM hL (by simp) ?_
    simp -dsimp -implicitDefEqProofs [hpu, hse, hla, hnx]
    refine ⟨rfl, hL, ?_⟩
    rw [HX_lset]
    simp -dsimp -implicitDefEqProofs [hla, hto, hst]
    refine ⟨rfl, by simp [HX], ?_⟩
    rw [HX_lset]
    refine congrArg (fun L => HX 5 3 g0 L (ex ++ [[I e.lo, I e.hi]]) (mx top e)) (funext fun x => ?_)
    by_cases hx : x = 4
    · subst hx; rw [hL]; simp
    · simp [hx]
  · intro ex
    rw [hmx]
    have hto : ∀ g0 L ex top, (HX 5 3 g0 L ex top).get 3 = some [I top.lo, I top.hi] := fun g0 L ex top => HX_top
    have hlo : ∀ g0 L ex top, (HX 5 3 g0 L ex top).get 2 = g0 2 := fun g0 L ex top => by simp [HX]
    simp -dsimp -implicitDefEqProofs [hto, hlo]
end Go.Pe

/- Depth and Bed. -/
namespace Go.Pe
open Go Go.Proofs Go.Proofs.YtffckclggkjbgaaGreat
attribute [local simp] t3 u3 t4 u4 t5 u5 t22 u22 t23 u23 t25 u25 t27 u27 t28 u28 t30 u30 t32 u32   t37 u37 t43 u43     t50 u50   t75 u75 t77 u77     t94 u94   t102 u102 t117 u117 t119 u119     t130 u130 t134 u134 t138 u138   t155 u155 t156 u156   t172 u172
set_option maxRecDepth 20000
set_option maxHeartbeats 8000000
attribute [local simp] fW_eq fR_eq fS_eq extA fBd_eq fL_eq

/-- What the errors of a place and an hour are, the river and the forecast being good. -/
theorem depth_fn {f : Fc} {f1 : Bool} {p : Int} {q k : Nat} {y : Rc} {row : List Bd} {b : Bd} {h : H} (g : GoodF f) (o : OkRv f) (hy : f.r.rs[q]? = some y) (hr : (flowsF f.r f.sides)[q]? = some row) (hb : row[k]? = some b) (hk : k < hrs f.sides) (b1 : b.lo.natAbs ≤ 1000000000000) (b2 : b.hi.natAbs ≤ 1000000000000) :
    Fn Tryz.prog 88 [stAV f.r f1 (hrs f.sides) (.ro false 1 ((flowsF f.r f.sides).map fL)), .agg (spotAV y q p), I k] h (.agg [I (dpt (lvl y b) (bedF p k y.bot f.r.ss)).lo, I (dpt (lvl y b) (bedF p k y.bot f.r.ss)).hi]) h := by
  refine Fn.beside ?_ rfl h
  refine Fn.ofR0 noM (by kernel_rfl) Tryz.func88 rfl (by simp) ?_
  have hm := g.hmax
  have hmm := g.small.r.m
  have hv := validR_parts ((List.all_eq_true.1 g.rv) y (List.mem_of_getElem? hy))
  have hbot := vB_iff.1 hv.2.2.2.2.2.2
  have hlv := lvl_in (r := y) (b := b) hv.2.2.2.1 hv.2.2.2.2.1
  have hbd := bedF_in (p := p) (hour := (k : Int)) (b := y.bot) (by omega) (by omega) (by omega) o.sh
  have c1 := fun h => level_fn (r := f.r) (f1 := f1) (hours := (hrs f.sides : Int)) (p := p) (h := h) hr hb hv.2.2.2.1 b1 b2
  have c2 := fun h => bedAt_fn (r := f.r) (f1 := f1) (p := p) (hour := (k : Int)) (q := q) (y := y) (h := h) o.sh hmm (by omega) (by omega) (by omega)
  obtain ⟨l, hl⟩ : ∃ l, l = lvl y b := ⟨_, rfl⟩
  obtain ⟨e, he⟩ : ∃ e, e = bedF p k y.bot f.r.ss := ⟨_, rfl⟩
  simp only [← hl, ← he] at hlv hbd c1 c2
  rw [← hl, ← he]
  have w1 : IntKind.i64.wrap (l.lo - e.hi) = l.lo - e.hi := wrap_in (by omega) (by omega)
  have w2 : IntKind.i64.wrap (l.hi - e.lo) = l.hi - e.lo := wrap_in (by omega) (by omega)
  simp -dsimp -implicitDefEqProofs [spotAV]
  refine DrawR.on {} (by kernel_rfl) (by simp) ?_
  simp -dsimp -implicitDefEqProofs
  refine onCallQ_in (c1 _) ?_
  simp -dsimp -implicitDefEqProofs
  refine onCallQ_in (c2 _) ?_
  simp -dsimp -implicitDefEqProofs [w1, w2, dpt]
theorem Depth_bad {f : Fc} {f1 f2 : Bool} {p k : Int} {h : H} (hw : SmallF f) (he : startE f ≠ 0) : Fn Tryz.prog 48 [f.r.av f1, sidesAV f.sides f2, I p, I k] h (.tup [.agg [I 0, I 0], I (startE f)]) h := by
  refine Fn.beside ?_ rfl h
  refine Fn.ofR0 noM (by kernel_rfl) Tryz.func48 rfl (by simp) ?_
  have ne0 : (startE f != 0) = true := by simpa using he
  simp -dsimp -implicitDefEqProofs
  refine onCall_in (newStream_bad hw he) ?_
  simp -dsimp -implicitDefEqProofs [ne0]
theorem Depth_none {f : Fc} {f1 f2 : Bool} {p k : Int} {h : H} (g : GoodF f) (o : OkRv f) (he : startE f = 0) (hp : p < 0 ∨ lenSum f.r.rs ≤ p) : Fn Tryz.prog 48 [f.r.av f1, sidesAV f.sides f2, I p, I k] h (.tup [.agg [I 0, I 0], I 7]) h := by
  refine Fn.beside ?_ rfl h
  refine Fn.ofR0 noM (by kernel_rfl) Tryz.func48 rfl (by simp) ?_
  simp -dsimp -implicitDefEqProofs
  refine onCall_in (newStream_fn g he) ?_
  simp -dsimp -implicitDefEqProofs
  refine onCall_in (at_miss o.len g.small.r.n hp) ?_
  simp -dsimp -implicitDefEqProofs [noSpot]
theorem Depth_err {f : Fc} {f1 f2 : Bool} {p k : Int} {q : Nat} {y : Rc} {h : H} (g : GoodF f) (o : OkRv f) (he : startE f = 0) (hp : 0 ≤ p) (ha : At f.r.rs p q y) (hk : inB 0 (hrs f.sides - 1) k = false) : Fn Tryz.prog 48 [f.r.av f1, sidesAV f.sides f2, I p, I k] h (.tup [.agg [I 0, I 0], I 3]) h := by
  refine Fn.beside ?_ rfl h
  refine Fn.ofR0 noM (by kernel_rfl) Tryz.func48 rfl (by simp) ?_
  have hm := g.hmax
  simp -dsimp -implicitDefEqProofs
  refine onCall_in (newStream_fn g he) ?_
  simp -dsimp -implicitDefEqProofs
  refine onCall_in (at_fn o.len g.small.r.n hp ha (by omega)) ?_
  simp -dsimp -implicitDefEqProofs [noSpot, hk]
theorem Depth_fn {f : Fc} {f1 f2 : Bool} {p : Int} {q k : Nat} {y : Rc} {h : H} (g : GoodF f) (o : OkRv f) (he : startE f = 0) (hp : 0 ≤ p) (ha : At f.r.rs p q y) (hk : k < hrs f.sides) :
    Fn Tryz.prog 48 [f.r.av f1, sidesAV f.sides f2, I p, I k] h (.tup [.agg [I (dpt (lvl y (rf f.r f.sides q k)) (bedF p k y.bot f.r.ss)).lo, I (dpt (lvl y (rf f.r f.sides q k)) (bedF p k y.bot f.r.ss)).hi], I 0]) h := by
  refine Fn.beside ?_ rfl h
  refine Fn.ofR0 noM (by kernel_rfl) Tryz.func48 rfl (by simp) ?_
  have hm := g.hmax
  have hn := g.small.n
  have hq := (List.getElem?_eq_some_iff.1 ha.hx).1
  obtain ⟨row, e1, e2, e3⟩ := flowsF_rf g f.sides.length (Nat.le_refl _) q (by have := g.eq; omega)
  rw [List.take_length] at e1
  have hin := rf_in g q (k : Int)
  have hbig : (q + 1) * 10000000000 ≤ 250000000000 := Nat.mul_le_mul_right 10000000000 (show q + 1 ≤ 25 by have := g.eq; omega)
  have hb : (rf f.r f.sides q k).lo.natAbs ≤ 1000000000000 ∧ (rf f.r f.sides q k).hi.natAbs ≤ 1000000000000 := by
    revert hin hbig
    generalize (q + 1) * 10000000000 = m
    intro hin hbig
    omega
  have hk2 : inB 0 ((hrs f.sides : Int) - 1) (k : Int) = true := inB_iff.2 (by omega)
  have c1 := fun h => depth_fn (f1 := f1) (p := p) (h := h) g o ha.hx e1 (e3 k hk) hk hb.1 hb.2
  have c2 := fun h => at_fn (r := f.r) (f1 := f1) (fl := flowsF f.r f.sides) (hours := (hrs f.sides : Int)) (k := (k : Int)) (h := h) o.len g.small.r.n hp ha (by omega)
  simp only [hk2, if_true] at c2
  simp -dsimp -implicitDefEqProofs
  refine onCall_in (newStream_fn g he) ?_
  simp -dsimp -implicitDefEqProofs
  refine onCall_in (c2 _) ?_
  simp -dsimp -implicitDefEqProofs [spotAV]
  refine onCall_in (c1 _) ?_
  simp -dsimp -implicitDefEqProofs
end Go.Pe

/- The law RiverVolumes. -/
namespace Go.Pe
open Go Go.Proofs Go.Proofs.YtffckclggkjbgaaGreat
attribute [local simp] t3 u3 t4 u4 t5 u5 t22 u22 t23 u23 t25 u25 t27 u27 t28 u28 t30 u30 t32 u32   t37 u37 t43 u43     t50 u50   t75 u75 t77 u77     t94 u94   t102 u102 t117 u117 t119 u119     t130 u130 t134 u134 t138 u138   t155 u155 t156 u156   t172 u172  
set_option maxRecDepth 20000
set_option maxHeartbeats 8000000
attribute [local simp] fW_eq fR_eq fS_eq extA fBd_eq fL_eq lenA_nil
theorem eqlB27 {a b a' b' : Int} {k : TK} {s : Nat} {z : List Value} {a1 f : Bool} {by' : Nat} : binX Tryz.prog 27 { kind := k, size := s, zero := z, agg := a1, bytes := by', fok := f, cmp := true } .eql (.agg [I a, I b]) (.agg [I a', I b']) = some (B (a == a' && (b == b' && true))) := by kernel_rfl
attribute [local simp] eqlB27
theorem aix0 {b n : Nat} {e : TypeId} {k : TK} {s by1 by2 : Nat} {z z' : List Value} {a1 a2 f1 f2 c1 c2 : Bool} (hn : 0 < n) : indexA { kind := .ar n e, size := s, zero := z, agg := a1, bytes := by1, fok := f1, cmp := c1 } { kind := k, size := 1, zero := z', agg := a2, bytes := by2, fok := f2, cmp := c2 } (.ptr b 0) 0 = some (.ptr b 0) := by
  simp only [indexA]
  rw [if_neg (by omega), if_pos (by omega)]; rfl
theorem aix1 {b n : Nat} {e : TypeId} {k : TK} {s by1 by2 : Nat} {z z' : List Value} {a1 a2 f1 f2 c1 c2 : Bool} (hn : 1 < n) : indexA { kind := .ar n e, size := s, zero := z, agg := a1, bytes := by1, fok := f1, cmp := c1 } { kind := k, size := 1, zero := z', agg := a2, bytes := by2, fok := f2, cmp := c2 } (.ptr b 0) 1 = some (.ptr b 1) := by
  simp only [indexA]
  rw [if_neg (by omega), if_pos (by omega)]; rfl
theorem aix2 {b n : Nat} {e : TypeId} {k : TK} {s by1 by2 : Nat} {z z' : List Value} {a1 a2 f1 f2 c1 c2 : Bool} (hn : 2 < n) : indexA { kind := .ar n e, size := s, zero := z, agg := a1, bytes := by1, fok := f1, cmp := c1 } { kind := k, size := 1, zero := z', agg := a2, bytes := by2, fok := f2, cmp := c2 } (.ptr b 0) 2 = some (.ptr b 2) := by
  simp only [indexA]
  rw [if_neg (by omega), if_pos (by omega)]; rfl
attribute [local simp] aix0 aix1 aix2
theorem total_nil : total [] = ⟨0, 0⟩ := rfl

end Go.Pe
