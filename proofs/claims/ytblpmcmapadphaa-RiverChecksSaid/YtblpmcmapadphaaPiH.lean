/- Rivers: how large, copied, compared. -/
import Derived.Test.YtblpmcmapadphaaPiG
set_option linter.unusedVariables false
set_option linter.unusedSimpArgs false
namespace Go.Pe
open Go Go.Proofs Go.Proofs.Ytblpmcmapadphaa
attribute [local simp] t3 u3 t4 u4 t5 u5 t22 u22 t23 u23 t25 u25 t27 u27 t28 u28 t30 u30 t32 u32 t34 u34 t37 u37 t43 u43 t48 u48 t49 u49 t50 u50 t54 u54 t75 u75 t77 u77 t84 u84 t89 u89 t94 u94 t96 u96 t102 u102 t117 u117 t119 u119 t123 u123 t125 u125 t130 u130 t134 u134 t138 u138 t152 u152 t155 u155 t156 u156 t160 u160 t172 u172
set_option maxRecDepth 20000
set_option maxHeartbeats 8000000
attribute [local simp] fW_eq fR_eq fS_eq extA

/-- A forecast: lists of bounds. -/
noncomputable def fBd (b : Bd) : List AV := [I b.lo, I b.hi]
noncomputable def fL (l : List Bd) : List AV := [.ro false 2 (l.map fBd)]
structure Fc where
  r : Rv
  sides : List (List Bd)
noncomputable abbrev sidesAV (l : List (List Bd)) (fu : Bool) : AV := .ro fu 1 (l.map fL)
theorem fBd_eq {b : Bd} : fBd b = [I b.lo, I b.hi] := rfl
theorem fL_eq {l : List Bd} : fL l = [.ro false 2 (l.map fBd)] := rfl
attribute [local simp] fBd_eq fL_eq
/-- What the statements look at. -/
structure SmallF (f : Fc) : Prop where
  r : Small f.r
  n : f.sides.length ≤ 25
  c : ∀ l ∈ f.sides, l.length ≤ 450
theorem lenA_nil {e : TypeId} {s by' : Nat} {z : List Value} {a f' cm : Bool} : lenA { kind := .sl e, size := s, zero := z, agg := a, bytes := by', fok := f', cmp := cm } (.val (.slice none 0 0)) = some (.val (.int .i64 0)) := rfl
attribute [local simp] lenA_nil
open Classical in
noncomputable def big (f : Fc) : Bool := decide (¬ SmallF f)
theorem big_of {f : Fc} (h : ¬ SmallF f) : big f = true := by simp [big, h]
theorem big_not {f : Fc} (h : SmallF f) : big f = false := by simp [big, h]
theorem small_of {f : Fc} (h : big f = false) : SmallF f := by simpa [big] using h

theorem large0_fn {r : Rv} {h : H} : Fn Try.prog 15 [.agg [r.reaches false, r.shoals, .val (.slice none 0 0)]] h (B (big ⟨r, []⟩)) h := by
  refine Fn.beside ?_ rfl h
  refine Fn.ofR0 noM (by kernel_rfl) Try.func15 rfl (by simp) ?_
  simp -dsimp -implicitDefEqProofs
  refine ifD_in (fun h1 => ?_) (fun h1 => ?_)
  · have := big_of (f := ⟨r, []⟩) fun hs => by have := hs.r.n; simp only at this; omega
    simp -dsimp -implicitDefEqProofs [this]
  simp -dsimp -implicitDefEqProofs
  refine ifD_in (fun h2 => ?_) (fun h2 => ?_)
  · have := big_of (f := ⟨r, []⟩) fun hs => by have := hs.r.m; simp only at this; omega
    simp -dsimp -implicitDefEqProofs [this]
  simp -dsimp -implicitDefEqProofs
  refine LoopCR.on 54 (fun i => [(1, .ptr 0 0), (3, I (i : Nat))]) (fun i => [some [r.reaches false, r.shoals, .val (.slice none 0 0)]]) (fun i => i ≤ r.rs.length ∧ ∀ x ∈ r.rs.take i, x.curve.length ≤ 40) (fun i => r.rs.length - i) 0 [0] (by simp) ?_ ?_
  · simp -dsimp -implicitDefEqProofs
  rintro i j ⟨hi, hal⟩
  simp -dsimp -implicitDefEqProofs
  refine ifD_in (fun hlt => ?_) (fun hge => ?_)
  · have hlt' : i < r.rs.length := by omega
    have hx := List.getElem?_eq_getElem hlt'
    simp -dsimp -implicitDefEqProofs [hx]
    refine ifD_in (fun h3 => ?_) (fun h3 => ?_)
    · have := big_of (f := ⟨r, []⟩) fun hs => by have := hs.r.c _ (List.getElem_mem hlt'); omega
      simp -dsimp -implicitDefEqProofs [this]
    simp -dsimp -implicitDefEqProofs
    have hal2 : ∀ x ∈ r.rs.take (i + 1), x.curve.length ≤ 40 := fun x hxm => by
      rw [List.take_add_one, hx, Option.toList_some] at hxm
      rcases List.mem_append.1 hxm with hxm | hxm
      · exact hal x hxm
      · rw [List.mem_singleton] at hxm; rw [hxm]; omega
    refine again_in (i + 1) [0] ⟨by omega, hal2⟩ (by omega) ?_
    simp -dsimp -implicitDefEqProofs
    rw [wrap_in (by omega) (by omega)]
  have hin : i = r.rs.length := by omega
  subst hin
  rw [List.take_length] at hal
  have hsm := big_not (f := ⟨r, []⟩) ⟨⟨by simp only; omega, by simp only; omega, hal⟩, by simp, by simp⟩
  simp -dsimp -implicitDefEqProofs
  refine LoopCR.on 54 (fun _ => [(1, .ptr 0 0), (4, I 0)]) (fun _ => [some [r.reaches false, r.shoals, .val (.slice none 0 0)]]) (fun (_ : Unit) => True) (fun _ => 0) () [0] trivial ?_ ?_
  · simp -dsimp -implicitDefEqProofs
  intro i j _
  simp -dsimp -implicitDefEqProofs [hsm]

theorem large_fn {f : Fc} {f1 : Bool} {h : H} : Fn Try.prog 15 [.agg [f.r.reaches false, f.r.shoals, sidesAV f.sides f1]] h (B (big f)) h := by
  refine Fn.beside ?_ rfl h
  refine Fn.ofR0 noM (by kernel_rfl) Try.func15 rfl (by simp) ?_
  simp -dsimp -implicitDefEqProofs
  refine ifD_in (fun h1 => ?_) (fun h1 => ?_)
  · have := big_of (f := f) fun hs => by have := hs.r.n; omega
    simp -dsimp -implicitDefEqProofs [this]
  simp -dsimp -implicitDefEqProofs
  refine ifD_in (fun h2 => ?_) (fun h2 => ?_)
  · have := big_of (f := f) fun hs => by have := hs.r.m; omega
    simp -dsimp -implicitDefEqProofs [this]
  simp -dsimp -implicitDefEqProofs
  refine ifD_in (fun h2' => ?_) (fun h2' => ?_)
  · have := big_of (f := f) fun hs => by have := hs.n; omega
    simp -dsimp -implicitDefEqProofs [this]
  simp -dsimp -implicitDefEqProofs
  refine LoopCR.on 54 (fun i => [(1, .ptr 0 0), (3, I (i : Nat))]) (fun i => [some [f.r.reaches false, f.r.shoals, sidesAV f.sides f1]]) (fun i => i ≤ f.r.rs.length ∧ ∀ x ∈ f.r.rs.take i, x.curve.length ≤ 40) (fun i => f.r.rs.length - i) 0 [0] (by simp) ?_ ?_
  · simp -dsimp -implicitDefEqProofs
  rintro i j ⟨hi, hal⟩
  simp -dsimp -implicitDefEqProofs
  refine ifD_in (fun hlt => ?_) (fun hge => ?_)
  · have hlt' : i < f.r.rs.length := by omega
    have hx := List.getElem?_eq_getElem hlt'
    simp -dsimp -implicitDefEqProofs [hx]
    refine ifD_in (fun h3 => ?_) (fun h3 => ?_)
    · have := big_of (f := f) fun hs => by have := hs.r.c _ (List.getElem_mem hlt'); omega
      simp -dsimp -implicitDefEqProofs [this]
    simp -dsimp -implicitDefEqProofs
    have hal2 : ∀ x ∈ f.r.rs.take (i + 1), x.curve.length ≤ 40 := fun x hxm => by
      rw [List.take_add_one, hx, Option.toList_some] at hxm
      rcases List.mem_append.1 hxm with hxm | hxm
      · exact hal x hxm
      · rw [List.mem_singleton] at hxm; rw [hxm]; omega
    refine again_in (i + 1) [0] ⟨by omega, hal2⟩ (by omega) ?_
    simp -dsimp -implicitDefEqProofs
    rw [wrap_in (by omega) (by omega)]
  have hin : i = f.r.rs.length := by omega
  subst hin
  rw [List.take_length] at hal
  simp -dsimp -implicitDefEqProofs
  refine LoopCR.on 54 (fun i => [(1, .ptr 0 0), (4, I (i : Nat))]) (fun i => [some [f.r.reaches false, f.r.shoals, sidesAV f.sides f1]]) (fun i => i ≤ f.sides.length ∧ ∀ x ∈ f.sides.take i, x.length ≤ 450) (fun i => f.sides.length - i) 0 [0] (by simp) ?_ ?_
  · simp -dsimp -implicitDefEqProofs
  rintro i j ⟨hi, hal3⟩
  simp -dsimp -implicitDefEqProofs
  refine ifD_in (fun hlt => ?_) (fun hge => ?_)
  · have hlt' : i < f.sides.length := by omega
    have hx := List.getElem?_eq_getElem hlt'
    simp -dsimp -implicitDefEqProofs [hx]
    refine ifD_in (fun h3 => ?_) (fun h3 => ?_)
    · have := big_of (f := f) fun hs => by have := hs.c _ (List.getElem_mem hlt'); omega
      simp -dsimp -implicitDefEqProofs [this]
    simp -dsimp -implicitDefEqProofs
    have hal2 : ∀ x ∈ f.sides.take (i + 1), x.length ≤ 450 := fun x hxm => by
      rw [List.take_add_one, hx, Option.toList_some] at hxm
      rcases List.mem_append.1 hxm with hxm | hxm
      · exact hal3 x hxm
      · rw [List.mem_singleton] at hxm; rw [hxm]; omega
    refine again_in (i + 1) [0] ⟨by omega, hal2⟩ (by omega) ?_
    simp -dsimp -implicitDefEqProofs
    rw [wrap_in (by omega) (by omega)]
  have hin : i = f.sides.length := by omega
  subst hin
  rw [List.take_length] at hal3
  have hsm := big_not (f := f) ⟨⟨by omega, by omega, hal⟩, by omega, hal3⟩
  simp -dsimp -implicitDefEqProofs [hsm]

/-- A copy of a river: its own reaches, its own curves. -/
theorem copied_fn {r : Rv} {f1 : Bool} {h : H} (hw : Small r) : Fn Try.prog 17 [r.av f1] h (r.av (isz r.rs.length)) h := by
  refine Fn.beside ?_ rfl h
  refine Fn.ofR0 (butM [22, 32]) (by kernel_rfl) Try.func17 rfl (by simp) ?_
  have hn := hw.n
  have hm := hw.m
  simp -dsimp -implicitDefEqProofs
  refine LoopCR.on 34 (fun i => [(1, .ptr 0 0), (2, .ptr 1 0), (3, grow 2 9 i), (4, I (i : Nat))]) (fun i => [some [r.reaches f1, r.shoals], some [.val (.slice none 0 0), .val (.slice none 0 0)], grown i (rws fR (r.rs.take i))]) (fun i => i ≤ r.rs.length) (fun i => r.rs.length - i) 0 [0, 1, 99] (by simp) ?_ ?_
  · simp -dsimp -implicitDefEqProofs
  intro i j hi
  simp -dsimp -implicitDefEqProofs
  refine ifD_in (fun hlt => ?_) (fun hge => ?_)
  · have hlt' : i < r.rs.length := by omega
    have hx := List.getElem?_eq_getElem hlt'
    have hcx := hw.c _ (List.getElem_mem hlt')
    have hst : r.rs.take (i + 1) = r.rs.take i ++ [r.rs[i]] := by rw [List.take_add_one, hx]; rfl
    obtain ⟨x, hxe⟩ : ∃ x, x = r.rs[i] := ⟨_, rfl⟩
    rw [← hxe] at hx hcx hst
    have hb1 : x.curve.length * 16 ≤ 70368744177664 := by omega
    have hb2 : x.curve.length ≤ 70368744177664 := by omega
    simp -dsimp -implicitDefEqProofs [hx, hb1, hb2]
    refine on_append fR (r.rs.take i) x (by simp) (by rw [List.length_take]; omega) (by simp; omega) (by omega) rfl rfl (by simp) rfl (fun _ => rfl) ?_ (by simp)
    simp -dsimp -implicitDefEqProofs
    refine again_in (i + 1) [0, 1, 4] (by omega) (by omega) ?_
    simp -dsimp -implicitDefEqProofs [hst]
    rw [wrap_in (by omega) (by omega)]
  · have hin : i = r.rs.length := by omega
    subst hin
    have hb1 : r.ss.length * 48 ≤ 70368744177664 := by omega
    have hb2 : r.ss.length ≤ 70368744177664 := by omega
    simp -dsimp -implicitDefEqProofs [hb1, hb2]
    exact frz_agg_two (frz_rws (f := fR) (l := r.rs) (by simp [mkH]) (Nat.zero_le _) rfl (fun _ => rfl) (fun _ => rfl)) (frz_one rfl)

/-- A river and one that has the same in it. -/
theorem neq27 {a b a' b' : Int} {k : TK} {s : Nat} {z : List Value} {a1 f : Bool} {by' : Nat} : binX Try.prog 27 { kind := k, size := s, zero := z, agg := a1, bytes := by', fok := f, cmp := true } .neq (.agg [I a, I b]) (.agg [I a', I b']) = some (B (!(a == a' && (b == b' && true)))) := by kernel_rfl
theorem neq119 {a b a' b' : Int} {k : TK} {s : Nat} {z : List Value} {a1 f : Bool} {by' : Nat} : binX Try.prog 119 { kind := k, size := s, zero := z, agg := a1, bytes := by', fok := f, cmp := true } .neq (.agg [I a, I b]) (.agg [I a', I b']) = some (B (!(a == a' && (b == b' && true)))) := by kernel_rfl
theorem neq102 {a b c d e f a' b' c' d' e' f' : Int} {k : TK} {s : Nat} {z : List Value} {a1 f1 : Bool} {by' : Nat} : binX Try.prog 102 { kind := k, size := s, zero := z, agg := a1, bytes := by', fok := f1, cmp := true } .neq (.agg [I a, I b, I c, I d, I e, I f]) (.agg [I a', I b', I c', I d', I e', I f']) = some (B (!(a == a' && ((b == b' && (c == c' && true)) && (d == d' && ((e == e' && (f == f' && true)) && true)))))) := by kernel_rfl
attribute [local simp] neq27 neq119 neq102
theorem unchanged_fn {r : Rv} {f1 f2 : Bool} {h : H} (hw : Small r) : Fn Try.prog 20 [r.av f1, r.av f2] h (B true) h := by
  refine Fn.beside ?_ rfl h
  refine Fn.ofR0 noM (by kernel_rfl) Try.func20 rfl (by simp) ?_
  have hn := hw.n
  have hm := hw.m
  have n1 : ((r.rs.length : Int) != r.rs.length) = false := by simp
  have n2 : ((r.ss.length : Int) != r.ss.length) = false := by simp
  simp -dsimp -implicitDefEqProofs [n1, n2]
  refine LoopCR.on 128 (fun i => [(2, .ptr 0 0), (3, .ptr 1 0), (5, I (i : Nat))]) (fun i => [some [r.reaches f1, r.shoals], some [r.reaches f2, r.shoals]]) (fun i => i ≤ r.rs.length) (fun i => r.rs.length - i) 0 [0, 1] (by simp) ?_ ?_
  · simp -dsimp -implicitDefEqProofs
  intro i j hi
  simp -dsimp -implicitDefEqProofs
  refine ifD_in (fun hlt => ?_) (fun hge => ?_)
  · have hlt' : i < r.rs.length := by omega
    have hx := List.getElem?_eq_getElem hlt'
    have hcx := hw.c _ (List.getElem_mem hlt')
    simp -dsimp -implicitDefEqProofs
    refine DrawR.on {} (by kernel_rfl) (by simp) ?_
    simp -dsimp -implicitDefEqProofs [hx]
    refine LoopCR.on 128 (fun k => [(2, .ptr 0 0), (3, .ptr 1 0), (5, I (i : Nat)), (6, .ptr 2 0), (7, .ptr 3 0), (8, I (k : Nat))]) (fun k => [some [r.reaches f1, r.shoals], some [r.reaches f2, r.shoals], some (fR r.rs[i]), some (fR r.rs[i])]) (fun k => k ≤ r.rs[i].curve.length) (fun k => r.rs[i].curve.length - k) 0 [0, 1, 12, 13] (by simp) ?_ ?_
    · simp -dsimp -implicitDefEqProofs
    intro k j hk
    simp -dsimp -implicitDefEqProofs
    refine ifD_in (fun hlk => ?_) (fun hgk => ?_)
    · have hxk := List.getElem?_eq_getElem (show k < r.rs[i].curve.length by omega)
      simp -dsimp -implicitDefEqProofs
      refine DrawR.on {} (by kernel_rfl) (by simp) ?_
      simp -dsimp -implicitDefEqProofs [hxk]
      refine again_in (k + 1) [0, 1, 2, 3] (by omega) (by omega) ?_
      simp -dsimp -implicitDefEqProofs
      rw [wrap_in (by omega) (by omega)]
    · simp -dsimp -implicitDefEqProofs
      refine again_in (i + 1) [0, 1] (by omega) (by omega) ?_
      simp -dsimp -implicitDefEqProofs
      rw [wrap_in (by omega) (by omega)]
  simp -dsimp -implicitDefEqProofs
  refine LoopCR.on 128 (fun i => [(2, .ptr 0 0), (3, .ptr 1 0), (9, I (i : Nat))]) (fun i => [some [r.reaches f1, r.shoals], some [r.reaches f2, r.shoals]]) (fun i => i ≤ r.ss.length) (fun i => r.ss.length - i) 0 [0, 1] (by simp) ?_ ?_
  · simp -dsimp -implicitDefEqProofs
  intro i j hi
  simp -dsimp -implicitDefEqProofs
  refine ifD_in (fun hlt => ?_) (fun hge => ?_)
  · have hx := List.getElem?_eq_getElem (show i < r.ss.length by omega)
    simp -dsimp -implicitDefEqProofs
    refine DrawR.on {} (by kernel_rfl) (by simp) ?_
    simp -dsimp -implicitDefEqProofs [hx]
    refine again_in (i + 1) [0, 1] (by omega) (by omega) ?_
    simp -dsimp -implicitDefEqProofs
    rw [wrap_in (by omega) (by omega)]
  · simp -dsimp -implicitDefEqProofs
end Go.Pe
