import Derived.Test.YtblpmcmapadphabA19
set_option linter.unusedVariables false
set_option linter.unusedSimpArgs false
/- How high a shoal has grown; the reference's bed. -/
namespace Go.Pe
open Go Go.Proofs Go.Proofs.Ytblpmcmapadphab
attribute [local simp] t3 u3 t4 u4 t5 u5 t22 u22 t23 u23 t25 u25 t27 u27 t28 u28 t30 u30 t32 u32 t34 u34 t37 u37 t43 u43 t48 u48 t49 u49 t50 u50 t54 u54 t75 u75 t77 u77         t102 u102 t117 u117 t119 u119 t123 u123 t125 u125 t130 u130 t134 u134 t138 u138   t155 u155 t156 u156 t160 u160 t172 u172
set_option maxRecDepth 20000
set_option maxHeartbeats 8000000
attribute [local simp] fW_eq fR_eq fS_eq extA fBd_eq fL_eq

/-- How high a shoal is in an hour. -/
def grw (s : Sh) (hour : Int) : Bd := ⟨s.bed.lo + s.grow.lo * max 0 (hour - s.snd) / 24, s.bed.hi + -(-(s.grow.hi * max 0 (hour - s.snd)) / 24)⟩
structure OkSh (s : Sh) : Prop where
  lo : 0 ≤ s.bed.lo
  le : s.bed.lo ≤ s.bed.hi
  hi : s.bed.hi ≤ 10000
  s1 : -400 ≤ s.snd
  s2 : s.snd ≤ 400
  g1 : -500 ≤ s.grow.lo
  g2 : s.grow.lo ≤ s.grow.hi
  g3 : s.grow.hi ≤ 500
theorem okSh_of {n : Int} {s : Sh} (h : validSh n s = true) : OkSh s := by
  simp only [validSh, Bool.and_eq_true, inB_iff, vB_iff] at h
  exact ⟨by omega, by omega, by omega, by omega, by omega, by omega, by omega, by omega⟩
theorem gd_in {g d : Int} (hg : -500 ≤ g ∧ g ≤ 500) (hd : 0 ≤ d ∧ d ≤ 2000) : -1000000 ≤ g * d ∧ g * d ≤ 1000000 := by
  have h1 : g * d ≤ 500 * d := Int.mul_le_mul_of_nonneg_right hg.2 hd.1
  have h2 : -500 * d ≤ g * d := Int.mul_le_mul_of_nonneg_right hg.1 hd.1
  omega
theorem grown_fn {s : Sh} {hour : Int} {h : H} (hs : OkSh s) (h1 : -1000 ≤ hour) (h2 : hour ≤ 1000) : Fn Try.prog 72 [.agg (fS s), I hour] h (.agg [I (grw s hour).lo, I (grw s hour).hi]) h := by
  refine Fn.beside ?_ rfl h
  refine Fn.ofR0 noM (by kernel_rfl) Try.func72 rfl (by simp) ?_
  obtain ⟨c1, c2, c3, c4, c5, c6, c7, c8⟩ := hs
  have w1 : IntKind.i64.wrap (hour - s.snd) = hour - s.snd := wrap_in (by omega) (by omega)
  obtain ⟨d, hd⟩ : ∃ d, d = max 0 (hour - s.snd) := ⟨_, rfl⟩
  have hd1 : 0 ≤ d ∧ d ≤ 2000 := by omega
  have m1 := gd_in (g := s.grow.lo) (d := d) (by omega) hd1
  have m2 := gd_in (g := s.grow.hi) (d := d) (by omega) hd1
  obtain ⟨p, hp⟩ : ∃ p, p = s.grow.lo * d := ⟨_, rfl⟩
  obtain ⟨q, hq⟩ : ∃ q, q = s.grow.hi * d := ⟨_, rfl⟩
  rw [← hp] at m1; rw [← hq] at m2
  have w2 : IntKind.i64.wrap (s.grow.lo * d) = p := by rw [← hp]; exact wrap_in (by omega) (by omega)
  have w3 : IntKind.i64.wrap (s.grow.hi * d) = q := by rw [← hq]; exact wrap_in (by omega) (by omega)
  have w4 : IntKind.i64.wrap (s.bed.lo + p / 24) = s.bed.lo + p / 24 := wrap_in (by omega) (by omega)
  have w5 : IntKind.i64.wrap (s.bed.hi + -(-q / 24)) = s.bed.hi + -(-q / 24) := wrap_in (by omega) (by omega)
  have hg : grw s hour = ⟨s.bed.lo + p / 24, s.bed.hi + -(-q / 24)⟩ := by rw [grw, ← hd, ← hp, ← hq]
  rw [hg]
  simp -dsimp -implicitDefEqProofs [w1, ← hd]
  refine DrawR.on { M := [1], eff := [(21, [1])] } (by kernel_rfl) (by simp) ?_
  simp -dsimp -implicitDefEqProofs [w2]
  refine onCallQ_in ((floor_fn (n := p) (k := 24) (by omega) (by omega) (by omega)).beside rfl _) ?_
  simp -dsimp -implicitDefEqProofs [w3]
  refine onCallQ_in ((ceil_fn (n := q) (k := 24) (by omega) (by omega) (by omega)).beside rfl _) ?_
  simp -dsimp -implicitDefEqProofs [w4, w5]
end Go.Pe

/- The reference's bed. -/
namespace Go.Pe
open Go Go.Proofs Go.Proofs.Ytblpmcmapadphab
attribute [local simp] t3 u3 t4 u4 t5 u5 t22 u22 t23 u23 t25 u25 t27 u27 t28 u28 t30 u30 t32 u32 t34 u34 t37 u37 t43 u43 t48 u48 t49 u49 t50 u50 t54 u54 t75 u75 t77 u77         t102 u102 t117 u117 t119 u119 t123 u123 t125 u125 t130 u130 t134 u134 t138 u138   t155 u155 t156 u156 t160 u160 t172 u172
set_option maxRecDepth 20000
set_option maxHeartbeats 8000000
attribute [local simp] fW_eq fR_eq fS_eq extA fBd_eq fL_eq

theorem tdiv24 (n : Int) : (0 ≤ n → n.tdiv 24 = n / 24) ∧ (n < 0 → n.tdiv 24 = -((-n) / 24)) := by
  refine ⟨fun h => Int.tdiv_eq_ediv_of_nonneg h, fun h => ?_⟩
  rw [show n = -(-n) by omega, Int.neg_tdiv, Int.tdiv_eq_ediv_of_nonneg (by omega)]
  omega
/-- The bed: the highest of the bottom and the shoals at a place. -/
def bedS (p hour : Int) (b : Bd) (s : Sh) : Bd := if s.place = p then ⟨max b.lo (grw s hour).lo, max b.hi (grw s hour).hi⟩ else b
def bedF (p hour : Int) (b : Bd) (ss : List Sh) : Bd := ss.foldl (bedS p hour) b
theorem bedF_snoc {p hour : Int} {b : Bd} {ss : List Sh} {s : Sh} : bedF p hour b (ss ++ [s]) = bedS p hour (bedF p hour b ss) s := by simp [bedF, List.foldl_append]
end Go.Pe

/- Bounds of levels and beds; the reference's depth. -/
namespace Go.Pe
open Go Go.Proofs Go.Proofs.Ytblpmcmapadphab
attribute [local simp] t3 u3 t4 u4 t5 u5 t22 u22 t23 u23 t25 u25 t27 u27 t28 u28 t30 u30 t32 u32 t34 u34 t37 u37 t43 u43 t48 u48 t49 u49 t50 u50 t54 u54 t75 u75 t77 u77         t102 u102 t117 u117 t119 u119 t123 u123 t125 u125 t130 u130 t134 u134 t138 u138   t155 u155 t156 u156 t160 u160 t172 u172
set_option maxRecDepth 20000
set_option maxHeartbeats 8000000
attribute [local simp] fW_eq fR_eq fS_eq extA fBd_eq fL_eq

theorem pc_in {w v : Rw} {f : Int} {up : Bool} (h1 : w.flow ≤ f) (h2 : f ≤ v.flow) (h3 : w.flow < v.flow) (h4 : w.level ≤ v.level) : 0 ≤ part w v f up ∧ part w v f up ≤ v.level - w.level := by
  have hc : 0 < v.flow - w.flow := by omega
  have hr0 : 0 ≤ rise w v f := Int.mul_nonneg (by omega) (by omega)
  have hr1 : rise w v f ≤ (v.level - w.level) * (v.flow - w.flow) := by
    unfold rise
    rw [Int.mul_comm]
    exact Int.mul_le_mul_of_nonneg_left (by omega) (by omega)
  unfold part
  cases up with
  | false =>
    simp only [Bool.false_eq_true, if_false]
    exact ⟨Int.ediv_nonneg hr0 (by omega), Int.ediv_le_of_le_mul hc hr1⟩
  | true =>
    simp only [if_true]
    refine ⟨?_, ?_⟩
    · have : -rise w v f / (v.flow - w.flow) ≤ 0 := Int.ediv_le_of_le_mul hc (by omega)
      omega
    · have : -(v.level - w.level) ≤ -rise w v f / (v.flow - w.flow) := (Int.le_ediv_iff_mul_le hc).2 (by rw [Int.neg_mul]; omega)
      omega
theorem cv_in {f : Int} {up : Bool} : ∀ {l : List Rw}, srt l → (∀ w ∈ l, 0 ≤ w.level ∧ w.level ≤ 10000) → 0 ≤ cv f up l ∧ cv f up l ≤ 10000
  | [], _, _ => by simp [cv]
  | [w], _, h => by have := h w (by simp); simpa [cv] using this
  | w :: v :: l, hs, h => by
    have hw := h w (by simp)
    have hv := h v (by simp)
    have ih := cv_in (f := f) (up := up) (l := v :: l) hs.2 fun x hx => h x (by simp [hx])
    obtain ⟨⟨h1, h2⟩, _⟩ := hs
    rw [cv]
    split
    · exact hw
    · split
      · have := pc_in (w := w) (v := v) (f := f) (up := up) (by omega) (by omega) h1 h2
        omega
      · exact ih
theorem valid_srt {l : List Rw} (h : validCv l = true) : srt l ∧ ∀ w ∈ l, 0 ≤ w.level ∧ w.level ≤ 10000 := by
  simp only [validCv, Bool.and_eq_true, decide_eq_true_eq] at h
  obtain ⟨_, h2⟩ := h
  refine ⟨srt_of fun k hk => ?_, fun w hw => ?_⟩
  · exact (h2 (k + 1) hk (by omega)).2 (by omega)
  · obtain ⟨k, hk, rfl⟩ := List.getElem_of_mem hw
    exact inB_iff.1 (h2 k hk hk).1.2
theorem lvl_in {r : Rc} {b : Bd} (h : validCv r.curve = true) (hw : 0 ≤ r.weir ∧ r.weir ≤ 10000) : (0 ≤ (lvl r b).lo ∧ (lvl r b).lo ≤ 10000) ∧ 0 ≤ (lvl r b).hi ∧ (lvl r b).hi ≤ 10000 := by
  obtain ⟨h1, h2⟩ := valid_srt h
  have c1 := cv_in (f := b.lo) (up := false) h1 h2
  have c2 := cv_in (f := b.hi) (up := true) h1 h2
  simp only [lvl]
  omega
theorem grw_in {s : Sh} {hour : Int} (hs : OkSh s) (h1 : -1000 ≤ hour) (h2 : hour ≤ 1000) : (grw s hour).lo.natAbs ≤ 100000 ∧ (grw s hour).hi.natAbs ≤ 100000 := by
  obtain ⟨c1, c2, c3, c4, c5, c6, c7, c8⟩ := hs
  obtain ⟨d, hd⟩ : ∃ d, d = max 0 (hour - s.snd) := ⟨_, rfl⟩
  have hd1 : 0 ≤ d ∧ d ≤ 2000 := by omega
  have m1 := gd_in (g := s.grow.lo) (d := d) (by omega) hd1
  have m2 := gd_in (g := s.grow.hi) (d := d) (by omega) hd1
  rw [grw, ← hd]
  generalize s.grow.lo * d = p at *
  generalize s.grow.hi * d = q at *
  simp only
  omega
theorem bedF_in {p hour : Int} {b : Bd} (hb : b.lo.natAbs ≤ 100000 ∧ b.hi.natAbs ≤ 100000) (h1 : -1000 ≤ hour) (h2 : hour ≤ 1000) : ∀ {ss : List Sh}, (∀ s ∈ ss, OkSh s) → (bedF p hour b ss).lo.natAbs ≤ 100000 ∧ (bedF p hour b ss).hi.natAbs ≤ 100000 := by
  intro ss
  induction ss generalizing b with
  | nil => intro _; exact hb
  | cons s ss ih =>
    intro hs
    have hg := grw_in (hs s (by simp)) h1 h2
    refine ih (b := bedS p hour b s) ?_ fun x hx => hs x (by simp [hx])
    unfold bedS
    split
    · simp only; omega
    · exact hb

/-- The depth, out of the level and the bed. -/
def dpt (l b : Bd) : Bd := ⟨max 0 (l.lo - b.hi), max 0 (l.hi - b.lo)⟩
structure OkRv (f : Fc) : Prop where
  sh : ∀ s ∈ f.r.ss, OkSh s
  len : ∀ x ∈ f.r.rs, 0 ≤ x.len ∧ x.len ≤ 5000
end Go.Pe

/- A place's reach; the level at a spot; what a stream says of a place. -/
namespace Go.Pe
open Go Go.Proofs Go.Proofs.Ytblpmcmapadphab
attribute [local simp] t3 u3 t4 u4 t5 u5 t22 u22 t23 u23 t25 u25 t27 u27 t28 u28 t30 u30 t32 u32 t34 u34 t37 u37 t43 u43 t48 u48 t49 u49 t50 u50 t54 u54 t75 u75 t77 u77         t102 u102 t117 u117 t119 u119 t123 u123 t125 u125 t130 u130 t134 u134 t138 u138   t155 u155 t156 u156 t160 u160 t172 u172
set_option maxRecDepth 20000
set_option maxHeartbeats 8000000
attribute [local simp] fW_eq fR_eq fS_eq extA fBd_eq fL_eq

theorem lenSum_mono {rs : List Rc} (hl : ∀ x ∈ rs, 0 ≤ x.len ∧ x.len ≤ 5000) : ∀ k, k ≤ rs.length → ∀ i, i ≤ k → lenSum (rs.take i) ≤ lenSum (rs.take k) := by
  intro k
  induction k with
  | zero => intro _ i hi; rw [show i = 0 by omega]; omega
  | succ k ih =>
    intro hk i hi
    obtain ⟨x, hx⟩ : ∃ x, rs[k]? = some x := ⟨_, List.getElem?_eq_getElem (by omega)⟩
    have h3 := lenSum_take hx
    have h4 := hl x (List.mem_of_getElem? hx)
    by_cases hik : i = k + 1
    · rw [hik]; omega
    · have := ih (by omega) i (by omega); omega
theorem At.ex {rs : List Rc} {p : Int} (h0 : 0 ≤ p) (h1 : p < lenSum rs) : ∃ q y, At rs p q y := by
  have key : ∀ k, k ≤ rs.length → p < lenSum (rs.take k) → ∃ q y, At rs p q y := by
    intro k
    induction k with
    | zero => intro _ h; simp [lenSum] at h; omega
    | succ k ih =>
      intro hk h
      obtain ⟨x, hx⟩ : ∃ x, rs[k]? = some x := ⟨_, List.getElem?_eq_getElem (by omega)⟩
      by_cases hc : p < lenSum (rs.take k)
      · exact ih (by omega) hc
      · exact ⟨k, x, hx, by omega, h⟩
  exact key rs.length (Nat.le_refl _) (by rwa [List.take_length])
theorem find_over {r : Rv} {fu : Bool} {p : Int} {h : H} (hp : 0 ≤ p) (hl : ∀ x ∈ r.rs, 0 ≤ x.len ∧ x.len ≤ 5000) (hn : r.rs.length ≤ 25) (hm : lenSum r.rs ≤ p) : Fn Try.prog 37 [r.av fu, I p] h (.tup [.agg noSpot, I 7]) h :=
  find_miss hp hl hn fun i hi => by
    have := lenSum_mono hl r.rs.length (Nat.le_refl _) i hi
    rw [List.take_length] at this
    omega
theorem okRv_of {f : Fc} (h : validRv f.r = true) : OkRv f := by
  simp only [validRv, Bool.and_eq_true, decide_eq_true_eq] at h
  refine ⟨fun s hs => okSh_of ((List.all_eq_true.1 h.2.2.2) s hs), fun x hx => ?_⟩
  have := (validR_parts ((List.all_eq_true.1 h.2.2.1) x hx)).1
  omega
/-- The spot of a place. -/
noncomputable def spotAV (y : Rc) (q : Nat) (p : Int) : List AV := fR y ++ [I q, I p]
theorem level_fn {r : Rv} {f1 : Bool} {hours p : Int} {fl : List (List Bd)} {q k : Nat} {y : Rc} {row : List Bd} {b : Bd} {h : H} (hr : fl[q]? = some row) (hb : row[k]? = some b) (hv : validCv y.curve = true) (b1 : b.lo.natAbs ≤ 1000000000000) (b2 : b.hi.natAbs ≤ 1000000000000) :
    Fn Try.prog 39 [stAV r f1 hours (.ro false 1 (fl.map fL)), .agg (spotAV y q p), I k] h (.agg [I (lvl y b).lo, I (lvl y b).hi]) h := by
  refine Fn.beside ?_ rfl h
  refine Fn.ofR0 noM (by kernel_rfl) Try.func39 rfl (by simp) ?_
  simp -dsimp -implicitDefEqProofs [spotAV]
  refine DrawR.on { M := [2], eff := [(12, [2])] } (by kernel_rfl) (by simp) ?_
  simp -dsimp -implicitDefEqProofs [hr, hb]
  refine onCallQ_in (levelAt_fn (r := y) (b := b) hv b1 b2) ?_
  simp -dsimp -implicitDefEqProofs
theorem at_miss {r : Rv} {f1 : Bool} {fl : List (List Bd)} {hours p k : Int} {h : H} (hl : ∀ x ∈ r.rs, 0 ≤ x.len ∧ x.len ≤ 5000) (hn : r.rs.length ≤ 25) (hp : p < 0 ∨ lenSum r.rs ≤ p) :
    Fn Try.prog 19 [stAV r f1 hours (.ro false 1 (fl.map fL)), I p, I k] h (.tup [.agg noSpot, I 7]) h := by
  refine Fn.beside ?_ rfl h
  refine Fn.ofR0 noM (by kernel_rfl) Try.func19 rfl (by simp) ?_
  have key : ∀ h, Fn Try.prog 37 [r.av f1, I p] h (.tup [.agg noSpot, I 7]) h := fun h => by
    by_cases h0 : p < 0
    · exact find_neg h0
    · exact find_over (by omega) hl hn (by omega)
  simp -dsimp -implicitDefEqProofs
  refine onCall_in (key _) ?_
  simp -dsimp -implicitDefEqProofs [noSpot]
theorem at_fn {r : Rv} {f1 : Bool} {fl : List (List Bd)} {hours p k : Int} {q : Nat} {y : Rc} {h : H} (hl : ∀ x ∈ r.rs, 0 ≤ x.len ∧ x.len ≤ 5000) (hn : r.rs.length ≤ 25) (hp : 0 ≤ p) (ha : At r.rs p q y) (hh : 0 ≤ hours ∧ hours ≤ 1000) :
    Fn Try.prog 19 [stAV r f1 hours (.ro false 1 (fl.map fL)), I p, I k] h (.tup (if inB 0 (hours - 1) k = true then [.agg (spotAV y q p), I 0] else [.agg noSpot, I 3])) h := by
  refine Fn.beside ?_ rfl h
  refine Fn.ofR0 noM (by kernel_rfl) Try.func19 rfl (by simp) ?_
  have w1 : IntKind.i64.wrap (hours - 1) = hours - 1 := wrap_in (by omega) (by omega)
  simp -dsimp -implicitDefEqProofs
  refine onCall_in (find_hit hp hl hn ha) ?_
  simp -dsimp -implicitDefEqProofs [w1]
  refine onCall_in in1_fn ?_
  cases hk : inB 0 (hours - 1) k with
  | false => simp -dsimp -implicitDefEqProofs [noSpot]
  | true => simp -dsimp -implicitDefEqProofs [spotAV]
/-- beds hands over what it ranges over. -/
theorem beds_fn {r : Rv} {f1 : Bool} {p k : Int} {q : Nat} {y : Rc} {h : H} : Fn Try.prog 60 [r.av f1, .agg (spotAV y q p), I k] h (.clo 71 [.rop (spotAV y q p), .rop [r.reaches f1, r.shoals], .rop [I k]]) h := by
  refine Fn.beside ?_ rfl h
  refine Fn.ofR0 noM (by kernel_rfl) Try.func60 rfl (by simp) ?_
  simp -dsimp -implicitDefEqProofs [spotAV]
  exact ⟨3, rfl⟩
end Go.Pe
