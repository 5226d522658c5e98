import Derived.Test.YtffckclggkjbgaaGreatY38
import Derived.Test.YtffckclggkjbgaaGreatY13
set_option linter.unusedVariables false
set_option linter.unusedSimpArgs false
/- Bounds of levels and beds; the reference's depth. -/
namespace Go.Pe
open Go Go.Proofs Go.Proofs.YtffckclggkjbgaaGreat
attribute [local simp] t3 u3 t4 u4 t5 u5 t22 u22 t23 u23 t25 u25 t27 u27 t28 u28 t30 u30 t32 u32   t37 u37 t43 u43     t50 u50   t75 u75 t77 u77     t94 u94   t102 u102 t117 u117 t119 u119     t130 u130 t134 u134 t138 u138   t155 u155 t156 u156   t172 u172
set_option maxRecDepth 20000
set_option maxHeartbeats 8000000
attribute [local simp] fW_eq fR_eq fS_eq extA fBd_eq fL_eq

theorem pc_in {w v : Rw} {f : Int} {up : Bool} (h1 : w.flow ≤ f) (h2 : f ≤ v.flow) (h3 : w.flow < v.flow) (h4 : w.level ≤ v.level) : 0 ≤ part w v f up ∧ part w v f up ≤ v.level - w.level := by
  have hc : 0 < v.flow - w.flow := by omega
  have hr0 : 0 ≤ rise w v f := Int.mul_nonneg (by omega) (by omega)
  have hr1 : rise w v f ≤ (v.level - w.level) * (v.flow - w.flow) := by
    unfold rise
    rw [Int.mul_comm]
    exact Int.mul_le_mul_of_nonneg_left (by omega) (by omega)
  unfold part
  cases up with
  | false =>
    simp only [Bool.false_eq_true, if_false]
    exact ⟨Int.ediv_nonneg hr0 (by omega), Int.ediv_le_of_le_mul hc hr1⟩
  | true =>
    simp only [if_true]
    refine ⟨?_, ?_⟩
    · have : -rise w v f / (v.flow - w.flow) ≤ 0 := Int.ediv_le_of_le_mul hc (by omega)
      omega
    · have : -(v.level - w.level) ≤ -rise w v f / (v.flow - w.flow) := (Int.le_ediv_iff_mul_le hc).2 (by rw [Int.neg_mul]; omega)
      omega
theorem cv_in {f : Int} {up : Bool} : ∀ {l : List Rw}, srt l → (∀ w ∈ l, 0 ≤ w.level ∧ w.level ≤ 10000) → 0 ≤ cv f up l ∧ cv f up l ≤ 10000
  | [], _, _ => by simp [cv]
  | [w], _, h => by have := h w (by simp); simpa [cv] using this
  | w :: v :: l, hs, h => by
    have hw := h w (by simp)
    have hv := h v (by simp)
    have ih := cv_in (f := f) (up := up) (l := v :: l) hs.2 fun x hx => h x (by simp [hx])
    obtain ⟨⟨h1, h2⟩, _⟩ := hs
    rw [cv]
    split
    · exact hw
    · split
      · have := pc_in (w := w) (v := v) (f := f) (up := up) (by omega) (by omega) h1 h2
        omega
      · exact ih
theorem valid_srt {l : List Rw} (h : validCv l = true) : srt l ∧ ∀ w ∈ l, 0 ≤ w.level ∧ w.level ≤ 10000 := by
  simp only [validCv, Bool.and_eq_true, decide_eq_true_eq] at h
  obtain ⟨_, h2⟩ := h
  refine ⟨srt_of fun k hk => ?_, fun w hw => ?_⟩
  · exact (h2 (k + 1) hk (by omega)).2 (by omega)
  · obtain ⟨k, hk, rfl⟩ := List.getElem_of_mem hw
    exact inB_iff.1 (h2 k hk hk).1.2
theorem lvl_in {r : Rc} {b : Bd} (h : validCv r.curve = true) (hw : 0 ≤ r.weir ∧ r.weir ≤ 10000) : (0 ≤ (lvl r b).lo ∧ (lvl r b).lo ≤ 10000) ∧ 0 ≤ (lvl r b).hi ∧ (lvl r b).hi ≤ 10000 := by
  obtain ⟨h1, h2⟩ := valid_srt h
  have c1 := cv_in (f := b.lo) (up := false) h1 h2
  have c2 := cv_in (f := b.hi) (up := true) h1 h2
  simp only [lvl]
  omega
theorem grw_in {s : Sh} {hour : Int} (hs : OkSh s) (h1 : -1000 ≤ hour) (h2 : hour ≤ 1000) : (grw s hour).lo.natAbs ≤ 100000 ∧ (grw s hour).hi.natAbs ≤ 100000 := by
  obtain ⟨c1, c2, c3, c4, c5, c6, c7, c8⟩ := hs
  obtain ⟨d, hd⟩ : ∃ d, d = max 0 (hour - s.snd) := ⟨_, rfl⟩
  have hd1 : 0 ≤ d ∧ d ≤ 2000 := by omega
  have m1 := gd_in (g := s.grow.lo) (d := d) (by omega) hd1
  have m2 := gd_in (g := s.grow.hi) (d := d) (by omega) hd1
  rw [grw, ← hd]
  generalize s.grow.lo * d = p at *
  generalize s.grow.hi * d = q at *
  simp only
  omega
theorem bedF_in {p hour : Int} {b : Bd} (hb : b.lo.natAbs ≤ 100000 ∧ b.hi.natAbs ≤ 100000) (h1 : -1000 ≤ hour) (h2 : hour ≤ 1000) : ∀ {ss : List Sh}, (∀ s ∈ ss, OkSh s) → (bedF p hour b ss).lo.natAbs ≤ 100000 ∧ (bedF p hour b ss).hi.natAbs ≤ 100000 := by
  intro ss
  induction ss generalizing b with
  | nil => intro _; exact hb
  | cons s ss ih =>
    intro hs
    have hg := grw_in (hs s (by simp)) h1 h2
    refine ih (b := bedS p hour b s) ?_ fun x hx => hs x (by simp [hx])
    unfold bedS
    split
    · simp only; omega
    · exact hb

/-- The depth, out of the level and the bed. -/
def dpt (l b : Bd) : Bd := ⟨max 0 (l.lo - b.hi), max 0 (l.hi - b.lo)⟩
structure OkRv (f : Fc) : Prop where
  sh : ∀ s ∈ f.r.ss, OkSh s
  len : ∀ x ∈ f.r.rs, 0 ≤ x.len ∧ x.len ≤ 5000
theorem rDepth_fn {f : Fc} {f1 f2 : Bool} {p : Int} {k : Nat} {h : H} {q : Nat} {y : Rc} (g : GoodF f) (o : OkRv f) (hp : 0 ≤ p) (ha : At f.r.rs p q y) (hk : k < hrs f.sides) :
    Fn Tryz.prog 112 [f.r.av f1, sidesAV f.sides f2, I p, I k] h (.agg [I (dpt (lvl y (rf f.r f.sides q k)) (bedF p k y.bot f.r.ss)).lo, I (dpt (lvl y (rf f.r f.sides q k)) (bedF p k y.bot f.r.ss)).hi]) h := by
  refine Fn.beside ?_ rfl h
  refine Fn.ofR0 noM (by kernel_rfl) Tryz.func112 rfl (by simp) ?_
  have hy := ha.hx
  have hm := g.hmax
  have hn := g.small.r.n
  have hmm := g.small.r.m
  have heq := g.eq
  have hq := (List.getElem?_eq_some_iff.1 hy).1
  have hv := validR_parts ((List.all_eq_true.1 g.rv) y (List.mem_of_getElem? hy))
  have hbot := vB_iff.1 hv.2.2.2.2.2.2
  have hin := rf_in g q (k : Int)
  have hbig : (q + 1) * 10000000000 ≤ 250000000000 := Nat.mul_le_mul_right 10000000000 (show q + 1 ≤ 25 by omega)
  obtain ⟨b, hb⟩ : ∃ b, b = rf f.r f.sides q k := ⟨_, rfl⟩
  rw [← hb] at hin
  have hb1 : b.lo.natAbs ≤ 1000000000000 ∧ b.hi.natAbs ≤ 1000000000000 := by
    revert hin hbig
    generalize (q + 1) * 10000000000 = m
    intro hin hbig
    omega
  have hlv := lvl_in (r := y) (b := b) hv.2.2.2.1 hv.2.2.2.2.1
  have hbd := bedF_in (p := p) (hour := (k : Int)) (b := y.bot) (by omega) (by omega) (by omega) o.sh
  have c1 := rFlow_fn (f1 := f1) (f2 := f2) g q (by omega) (k : Int) (by omega) (by omega)
  rw [← hb] at c1
  rw [← hb]
  obtain ⟨l, hl⟩ : ∃ l, l = lvl y b := ⟨_, rfl⟩
  obtain ⟨e, he⟩ : ∃ e, e = bedF p k y.bot f.r.ss := ⟨_, rfl⟩
  have c2 : ∀ h, Fn Tryz.prog 148 [.agg (fR y), .agg [I b.lo, I b.hi]] h (.agg [I l.lo, I l.hi]) h := by rw [hl]; exact fun h => rLevel_fn hv.2.2.2.1 hb1.1 hb1.2
  have c3 : ∀ h, Fn Tryz.prog 150 [f.r.av f1, I p, I k] h (.agg [I e.lo, I e.hi]) h := by rw [he]; exact fun h => rBed_fn hp o.len hn ha o.sh hmm (by omega) (by omega)
  rw [← hl] at hlv; rw [← he] at hbd
  rw [← hl, ← he]
  have w1 : IntKind.i64.wrap (l.lo - e.hi) = l.lo - e.hi := wrap_in (by omega) (by omega)
  have w2 : IntKind.i64.wrap (l.hi - e.lo) = l.hi - e.lo := wrap_in (by omega) (by omega)
  simp -dsimp -implicitDefEqProofs
  refine onCall_in (Of_fn hp o.len hn ha) ?_
  simp -dsimp -implicitDefEqProofs [hy]
  refine DrawR.on {} (by kernel_rfl) (by simp) ?_
  simp -dsimp -implicitDefEqProofs [hy]
  refine onCallQ_in (c1.beside rfl _) ?_
  simp -dsimp -implicitDefEqProofs [hy]
  refine onCallQ_in (c2 _) ?_
  simp -dsimp -implicitDefEqProofs [hy]
  refine onCallQ_in (c3 _) ?_
  simp -dsimp -implicitDefEqProofs [w1, w2, dpt]
end Go.Pe

/- A place's reach; the level at a spot; what a stream says of a place. -/
namespace Go.Pe
open Go Go.Proofs Go.Proofs.YtffckclggkjbgaaGreat
attribute [local simp] t3 u3 t4 u4 t5 u5 t22 u22 t23 u23 t25 u25 t27 u27 t28 u28 t30 u30 t32 u32   t37 u37 t43 u43     t50 u50   t75 u75 t77 u77     t94 u94   t102 u102 t117 u117 t119 u119     t130 u130 t134 u134 t138 u138   t155 u155 t156 u156   t172 u172
set_option maxRecDepth 20000
set_option maxHeartbeats 8000000
attribute [local simp] fW_eq fR_eq fS_eq extA fBd_eq fL_eq

theorem lenSum_mono {rs : List Rc} (hl : ∀ x ∈ rs, 0 ≤ x.len ∧ x.len ≤ 5000) : ∀ k, k ≤ rs.length → ∀ i, i ≤ k → lenSum (rs.take i) ≤ lenSum (rs.take k) := by
  intro k
  induction k with
  | zero => intro _ i hi; rw [show i = 0 by omega]; omega
  | succ k ih =>
    intro hk i hi
    obtain ⟨x, hx⟩ : ∃ x, rs[k]? = some x := ⟨_, List.getElem?_eq_getElem (by omega)⟩
    have h3 := lenSum_take hx
    have h4 := hl x (List.mem_of_getElem? hx)
    by_cases hik : i = k + 1
    · rw [hik]; omega
    · have := ih (by omega) i (by omega); omega
theorem At.ex {rs : List Rc} {p : Int} (h0 : 0 ≤ p) (h1 : p < lenSum rs) : ∃ q y, At rs p q y := by
  have key : ∀ k, k ≤ rs.length → p < lenSum (rs.take k) → ∃ q y, At rs p q y := by
    intro k
    induction k with
    | zero => intro _ h; simp [lenSum] at h; omega
    | succ k ih =>
      intro hk h
      obtain ⟨x, hx⟩ : ∃ x, rs[k]? = some x := ⟨_, List.getElem?_eq_getElem (by omega)⟩
      by_cases hc : p < lenSum (rs.take k)
      · exact ih (by omega) hc
      · exact ⟨k, x, hx, by omega, h⟩
  exact key rs.length (Nat.le_refl _) (by rwa [List.take_length])
theorem find_over {r : Rv} {fu : Bool} {p : Int} {h : H} (hp : 0 ≤ p) (hl : ∀ x ∈ r.rs, 0 ≤ x.len ∧ x.len ≤ 5000) (hn : r.rs.length ≤ 25) (hm : lenSum r.rs ≤ p) : Fn Tryz.prog 122 [r.av fu, I p] h (.tup [.agg noSpot, I 7]) h :=
  find_miss hp hl hn fun i hi => by
    have := lenSum_mono hl r.rs.length (Nat.le_refl _) i hi
    rw [List.take_length] at this
    omega
theorem okRv_of {f : Fc} (h : validRv f.r = true) : OkRv f := by
  simp only [validRv, Bool.and_eq_true, decide_eq_true_eq] at h
  refine ⟨fun s hs => okSh_of ((List.all_eq_true.1 h.2.2.2) s hs), fun x hx => ?_⟩
  have := (validR_parts ((List.all_eq_true.1 h.2.2.1) x hx)).1
  omega
/-- The spot of a place. -/
noncomputable def spotAV (y : Rc) (q : Nat) (p : Int) : List AV := fR y ++ [I q, I p]
theorem level_fn {r : Rv} {f1 : Bool} {hours p : Int} {fl : List (List Bd)} {q k : Nat} {y : Rc} {row : List Bd} {b : Bd} {h : H} (hr : fl[q]? = some row) (hb : row[k]? = some b) (hv : validCv y.curve = true) (b1 : b.lo.natAbs ≤ 1000000000000) (b2 : b.hi.natAbs ≤ 1000000000000) :
    Fn Tryz.prog 124 [stAV r f1 hours (.ro false 1 (fl.map fL)), .agg (spotAV y q p), I k] h (.agg [I (lvl y b).lo, I (lvl y b).hi]) h := by
  refine Fn.beside ?_ rfl h
  refine Fn.ofR0 noM (by kernel_rfl) Tryz.func124 rfl (by simp) ?_
  simp -dsimp -implicitDefEqProofs [spotAV]
  refine DrawR.on { M := [2], eff := [(12, [2])] } (by kernel_rfl) (by simp) ?_
  simp -dsimp -implicitDefEqProofs [hr, hb]
  refine onCallQ_in (levelAt_fn (r := y) (b := b) hv b1 b2) ?_
  simp -dsimp -implicitDefEqProofs
theorem at_miss {r : Rv} {f1 : Bool} {fl : List (List Bd)} {hours p k : Int} {h : H} (hl : ∀ x ∈ r.rs, 0 ≤ x.len ∧ x.len ≤ 5000) (hn : r.rs.length ≤ 25) (hp : p < 0 ∨ lenSum r.rs ≤ p) :
    Fn Tryz.prog 87 [stAV r f1 hours (.ro false 1 (fl.map fL)), I p, I k] h (.tup [.agg noSpot, I 7]) h := by
  refine Fn.beside ?_ rfl h
  refine Fn.ofR0 noM (by kernel_rfl) Tryz.func87 rfl (by simp) ?_
  have key : ∀ h, Fn Tryz.prog 122 [r.av f1, I p] h (.tup [.agg noSpot, I 7]) h := fun h => by
    by_cases h0 : p < 0
    · exact find_neg h0
    · exact find_over (by omega) hl hn (by omega)
  simp -dsimp -implicitDefEqProofs
  refine onCall_in (key _) ?_
  simp -dsimp -implicitDefEqProofs [noSpot]
theorem at_fn {r : Rv} {f1 : Bool} {fl : List (List Bd)} {hours p k : Int} {q : Nat} {y : Rc} {h : H} (hl : ∀ x ∈ r.rs, 0 ≤ x.len ∧ x.len ≤ 5000) (hn : r.rs.length ≤ 25) (hp : 0 ≤ p) (ha : At r.rs p q y) (hh : 0 ≤ hours ∧ hours ≤ 1000) :
    Fn Tryz.prog 87 [stAV r f1 hours (.ro false 1 (fl.map fL)), I p, I k] h (.tup (if inB 0 (hours - 1) k = true then [.agg (spotAV y q p), I 0] else [.agg noSpot, I 3])) h := by
  refine Fn.beside ?_ rfl h
  refine Fn.ofR0 noM (by kernel_rfl) Tryz.func87 rfl (by simp) ?_
  have w1 : IntKind.i64.wrap (hours - 1) = hours - 1 := wrap_in (by omega) (by omega)
  simp -dsimp -implicitDefEqProofs
  refine onCall_in (find_hit hp hl hn ha) ?_
  simp -dsimp -implicitDefEqProofs [w1]
  refine onCall_in in1_fn ?_
  cases hk : inB 0 (hours - 1) k with
  | false => simp -dsimp -implicitDefEqProofs [noSpot]
  | true => simp -dsimp -implicitDefEqProofs [spotAV]
/-- beds hands over what it ranges over. -/
theorem beds_fn {r : Rv} {f1 : Bool} {p k : Int} {q : Nat} {y : Rc} {h : H} : Fn Tryz.prog 166 [r.av f1, .agg (spotAV y q p), I k] h (.clo 187 [.rop (spotAV y q p), .rop [r.reaches f1, r.shoals], .rop [I k]]) h := by
  refine Fn.beside ?_ rfl h
  refine Fn.ofR0 noM (by kernel_rfl) Tryz.func166 rfl (by simp) ?_
  simp -dsimp -implicitDefEqProofs [spotAV]
  exact ⟨3, rfl⟩
end Go.Pe

/- The bed at a spot: a loop over a function. -/
namespace Go.Pe
open Go Go.Proofs Go.Proofs.YtffckclggkjbgaaGreat
attribute [local simp] t3 u3 t4 u4 t5 u5 t22 u22 t23 u23 t25 u25 t27 u27 t28 u28 t30 u30 t32 u32   t37 u37 t43 u43     t50 u50   t75 u75 t77 u77     t94 u94   t102 u102 t117 u117 t119 u119     t130 u130 t134 u134 t138 u138   t155 u155 t156 u156   t172 u172
set_option maxRecDepth 20000
set_option maxHeartbeats 8000000
attribute [local simp] fW_eq fR_eq fS_eq extA fBd_eq fL_eq

/-- A heap in which one block holds bounds, and to which blocks are added. -/
noncomputable def HX (N0 T : Nat) (g0 : Nat → Option (List AV)) (L : Nat → Option Lp) (ex : List (List AV)) (top : Bd) : H := { next := N0 + ex.length, get := fun q => if q = T then some [I top.lo, I top.hi] else if q < N0 then g0 q else ex[q - N0]?, lp := L }
section
variable {N0 T : Nat} {g0 : Nat → Option (List AV)} {L : Nat → Option Lp} {ex : List (List AV)} {top : Bd} {l z : List AV} {a c : Int} {b : Nat} {r : Option Lp}
theorem HX_next : (HX N0 T g0 L ex top).next = N0 + ex.length := rfl
theorem HX_lp : (HX N0 T g0 L ex top).lp = L := rfl
theorem HX_top : (HX N0 T g0 L ex top).get T = some [I top.lo, I top.hi] := by simp [HX]
theorem HX_last (hT : T < N0) : (HX N0 T g0 L (ex ++ [l]) top).get (N0 + ex.length) = some l := by
  simp only [HX]
  rw [if_neg (by omega), if_neg (by omega), Nat.add_sub_cancel_left]
  simp
theorem HX_push (hT : T < N0) : (HX N0 T g0 L ex top).push l = HX N0 T g0 L (ex ++ [l]) top := by
  unfold HX H.push
  simp only [H.mk.injEq, and_true]
  refine ⟨by simp; omega, funext fun q => ?_⟩
  by_cases h1 : q = N0 + ex.length
  · subst h1
    rw [if_pos rfl, if_neg (by omega), if_neg (by omega), Nat.add_sub_cancel_left]; simp
  · rw [if_neg h1]
    by_cases h2 : q = T
    · rw [if_pos h2, if_pos h2]
    · rw [if_neg h2, if_neg h2]
      by_cases h3 : q < N0
      · rw [if_pos h3, if_pos h3]
      · rw [if_neg h3, if_neg h3]
        by_cases h4 : q - N0 < ex.length
        · rw [List.getElem?_append_left h4]
        · rw [List.getElem?_eq_none (by omega), List.getElem?_eq_none (by simp; omega)]
theorem HX_setlast (hT : T < N0) : (HX N0 T g0 L (ex ++ [z]) top).set (N0 + ex.length) l = HX N0 T g0 L (ex ++ [l]) top := by
  unfold HX H.set
  simp only [H.mk.injEq, and_true]
  refine ⟨by simp, funext fun q => ?_⟩
  by_cases h1 : q = N0 + ex.length
  · subst h1
    rw [if_pos rfl, if_neg (by omega), if_neg (by omega), Nat.add_sub_cancel_left]; simp
  · rw [if_neg h1]
    by_cases h2 : q = T
    · rw [if_pos h2, if_pos h2]
    · rw [if_neg h2, if_neg h2]
      by_cases h3 : q < N0
      · rw [if_pos h3, if_pos h3]
      · rw [if_neg h3, if_neg h3]
        by_cases h4 : q - N0 < ex.length
        · rw [List.getElem?_append_left h4, List.getElem?_append_left h4]
        · rw [List.getElem?_eq_none (by simp; omega), List.getElem?_eq_none (by simp; omega)]
theorem HX_settop : (HX N0 T g0 L ex top).set T [I a, I c] = HX N0 T g0 L ex ⟨a, c⟩ := by
  unfold HX H.set
  simp only [H.mk.injEq, and_true, true_and]
  funext q
  by_cases h1 : q = T
  · simp [h1]
  · simp [h1]
theorem HX_lset : (HX N0 T g0 L ex top).lset b r = HX N0 T g0 (fun q => if q = b then r else L q) ex top := rfl
end
theorem en_forget {N : Nat} {j : Nat → AV} {B E : List (Nat × AV)} (h : ∀ q ∈ E, lk j q.1 B = q.2) : en N j B = en N (fun t => lk j t B) E := by
  have key : ∀ (E : List (Nat × AV)) (t : Nat), (∀ q ∈ E, lk j q.1 B = q.2) → lk j t B = lk (fun t => lk j t B) t E := by
    intro E t
    induction E with
    | nil => intro _; rfl
    | cons q E ih =>
      intro hq
      obtain ⟨q, x⟩ := q
      by_cases ht : t = q
      · subst ht; rw [lk_hit]; exact hq (t, x) (by simp)
      · rw [lk_miss ht]; exact ih fun z hz => hq z (by simp [hz])
  unfold en
  exact List.map_congr_left fun t _ => key E t h
def mx (a b : Bd) : Bd := ⟨max a.lo b.lo, max a.hi b.hi⟩
/-- The blocks that ranging over the shoals adds. -/
noncomputable def exS (p hour : Int) (ex : List (List AV)) (ss : List Sh) : List (List AV) := ss.foldl (fun ex s => if s.place = p then ex ++ [fS s] ++ [[I (grw s hour).lo, I (grw s hour).hi]] else ex ++ [fS s]) ex
theorem exS_snoc {p hour : Int} {ex : List (List AV)} {ss : List Sh} {s : Sh} : exS p hour ex (ss ++ [s]) = if s.place = p then exS p hour ex ss ++ [fS s] ++ [[I (grw s hour).lo, I (grw s hour).hi]] else exS p hour ex ss ++ [fS s] := by simp [exS, List.foldl_append]
theorem beds1_fn {r : Rv} {f1 : Bool} {p hour : Int} {q b N0 T : Nat} {y : Rc} {g0 : Nat → Option (List AV)} {L : Nat → Option Lp} {top : Bd} (hT : T < N0) (hs : ∀ s ∈ r.ss, OkSh s) (hm : r.ss.length ≤ 50) (h1 : -1000 ≤ hour) (h2 : hour ≤ 1000)
    (hround : ∀ ex top (e : Bd), Rd Tryz.prog b [.agg [I e.lo, I e.hi]] (HX N0 T g0 L ex top) (B true) (HX N0 T g0 L (ex ++ [[I e.lo, I e.hi]]) (mx top e))) :
    Fn Tryz.prog 187 [.yld b, .rop (spotAV y q p), .rop [r.reaches f1, r.shoals], .rop [I hour]] (HX N0 T g0 L [] top) (.tup []) (HX N0 T g0 L (exS p hour [[I y.bot.lo, I y.bot.hi]] r.ss) (bedF p hour (mx top y.bot) r.ss)) := by
  refine Fn.onE noM (by kernel_rfl) Tryz.func187 rfl (by simp) ?_
  simp -dsimp -implicitDefEqProofs [spotAV]
  refine onRound_in (hround _ _ y.bot) ?_
  simp -dsimp -implicitDefEqProofs
  have hi1 := @HX_push N0 T g0 L
  have hi2 := @HX_setlast N0 T g0 L
  refine LoopCE.on 34 (fun i => [(0, .yld b), (1, .rop (spotAV y q p)), (2, .rop [r.reaches f1, r.shoals]), (3, .rop [I hour]), (14, r.shoals), (15, I r.ss.length), (16, I (i : Nat))])
    (fun i => HX N0 T g0 L (exS p hour [[I y.bot.lo, I y.bot.hi]] (r.ss.take i)) (bedF p hour (mx top y.bot) (r.ss.take i))) (fun i => i ≤ r.ss.length) (fun i => r.ss.length - i) 0 _ (by simp) (en_forget ?_) (by simp [exS, bedF]) ?_
  · simp -dsimp -implicitDefEqProofs [spotAV]
  intro i j hi
  simp -dsimp -implicitDefEqProofs
  refine ifD_in (fun hlt => ?_) (fun hge => ?_)
  · have hlt' : i < r.ss.length := by omega
    obtain ⟨s, hx⟩ : ∃ s, r.ss[i]? = some s := ⟨_, List.getElem?_eq_getElem hlt'⟩
    have hst : r.ss.take (i + 1) = r.ss.take i ++ [s] := by rw [List.take_add_one, hx]; rfl
    have hsk := hs s (List.mem_of_getElem? hx)
    obtain ⟨ex, hex⟩ : ∃ ex, ex = exS p hour [[I y.bot.lo, I y.bot.hi]] (r.ss.take i) := ⟨_, rfl⟩
    obtain ⟨tp, htp⟩ : ∃ tp, tp = bedF p hour (mx top y.bot) (r.ss.take i) := ⟨_, rfl⟩
    have e1 : exS p hour [[I y.bot.lo, I y.bot.hi]] (r.ss.take (i + 1)) = if s.place = p then ex ++ [fS s] ++ [[I (grw s hour).lo, I (grw s hour).hi]] else ex ++ [fS s] := by rw [hst, exS_snoc, ← hex]
    have e2 : bedF p hour (mx top y.bot) (r.ss.take (i + 1)) = bedS p hour tp s := by rw [hst, bedF_snoc, ← htp]
    rw [← hex, ← htp]
    have hl : ∀ l, (HX N0 T g0 L (ex ++ [l]) tp).get (N0 + ex.length) = some l := fun l => HX_last hT
    have hpu : ∀ l, (HX N0 T g0 L ex tp).push l = HX N0 T g0 L (ex ++ [l]) tp := fun l => HX_push hT
    have hse : ∀ z l, (HX N0 T g0 L (ex ++ [z]) tp).set (N0 + ex.length) l = HX N0 T g0 L (ex ++ [l]) tp := fun z l => HX_setlast hT
    have hnx : (HX N0 T g0 L ex tp).next = N0 + ex.length := rfl
    by_cases hpl : s.place = p
    · have d : (s.place == p) = true := by simp [hpl]
      simp -dsimp -implicitDefEqProofs [hx, hpu, hse, hl, hnx, d, spotAV]
      refine onCall_in (grown_fn hsk h1 h2) ?_
      simp -dsimp -implicitDefEqProofs
      refine onRound_in (hround _ _ (grw s hour)) ?_
      simp -dsimp -implicitDefEqProofs
      refine againE_in (i + 1) _ (by omega) (by omega) (en_forget ?_) (by rw [e1, e2, if_pos hpl]; simp [bedS, mx, hpl])
      simp -dsimp -implicitDefEqProofs [spotAV]
      rw [wrap_in (by omega) (by omega)]
    · have d : (s.place == p) = false := by simp [hpl]
      simp -dsimp -implicitDefEqProofs [hx, hpu, hse, hl, hnx, d, spotAV]
      refine againE_in (i + 1) _ (by omega) (by omega) (en_forget ?_) (by rw [e1, e2, if_neg hpl]; simp [bedS, hpl])
      simp -dsimp -implicitDefEqProofs [spotAV]
      rw [wrap_in (by omega) (by omega)]
  · have hin : i = r.ss.length := by omega
    subst hin
    simp -dsimp -implicitDefEqProofs
    exact ⟨.inl rfl, rfl, rfl⟩
end Go.Pe
