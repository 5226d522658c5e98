import Derived.Test.YtffckclggkjbgaaGreatO04
import Derived.Test.YtffckclggkjbgaaGreatM13
import Derived.Test.YtffckclggkjbgaaGreatN01
set_option linter.unusedVariables false
set_option linter.unusedSimpArgs false
/- How deep a ship lies, and what Volume and Float return. -/
namespace Go.Pe
open Go Go.Proofs Go.Proofs.YtffckclggkjbgaaGreat
set_option maxRecDepth 20000
set_option maxHeartbeats 8000000
attribute [local simp] t3 u3 t4 u4 t27 u27
attribute [local simp] ts22 us22 ts24 us24 ts72 us72 ts118 us118 ts120 us120 ts25 us25 ts75 us75 ts150 us150 ts224 us224 ts142 us142 ts140 us140 ts196 us196 ts34 us34 ts39 us39 ts198 us198 ts200 us200
attribute [local simp] convA extA lenA
attribute [local simp] fSec_eq fPt_eq shipC_eq fHd_eq hoAV_eq loadAV_eq shipNo_eq
theorem clean_ship {f1 f2 : Bool} {u : Hu} : (shipC f1 u (hoAV f2 u)).all clean = true := rfl
theorem clean1_ship {f1 f2 : Bool} {u : Hu} : (shipC f1 u (hoAV f2 u)).all clean1 = true := rfl
theorem meanC_fn {u : Hu} {f1 f2 : Bool} {need : Int} {i : Nat} {h : H} (o : OkU u) (hi : (i : Int) ≤ lim u) (h0 : h.get 0 = some (shipC f1 u (hoAV f2 u))) (h1 : h.get 1 = some [I need]) :
    Fn Tryz.prog 143 [I (i : Nat), .ptr 0 0, .ptr 1 0] h (B (decide (need ≤ vol u i))) h := by
  have base : Fn Tryz.prog 143 [I (i : Nat), .ptr 0 0, .ptr 1 0] (mkH [some (shipC f1 u (hoAV f2 u)), some [I need]]) (B (decide (need ≤ vol u i))) (mkH [some (shipC f1 u (hoAV f2 u)), some [I need]]) := by
    have := Fn.ofR (P := Tryz.prog) (f := 143) (cs0 := [shipC f1 u (hoAV f2 u), [I need]]) (cs1 := [shipC f1 u (hoAV f2 u), [I need]]) (args := [I (i : Nat), .ptr 0 0, .ptr 1 0]) (x := B (decide (need ≤ vol u i))) noM (by kernel_rfl) Tryz.func143 rfl (by simp) rfl (by simp) ?_
    · exact this
    simp -dsimp -implicitDefEqProofs
    refine DrawR.on {} (by kernel_rfl) (by simp) ?_
    simp -dsimp -implicitDefEqProofs
    refine onCallQ_in (volume_fn (u := u) (f1 := f1) (f2 := f2) (rows := (hdU u).map (fHd (long u))) (d := i) o (by omega) hi) ?_
    simp -dsimp -implicitDefEqProofs
  refine Fn.reads (cs0 := [shipC f1 u (hoAV f2 u), [I need]]) [0, 1] base (by simp) (by simp [h0, h1]) (by simp) (fun b hb cs hc => ?_) rfl
  simp at hb
  rcases hb with rfl | rfl
  · rw [h0] at hc; cases hc; rfl
  · rw [h1] at hc; cases hc; rfl
theorem mean_fn {u : Hu} {f1 f2 : Bool} {m d : Int} {h : H} (o : OkU u) (hm : 0 ≤ m ∧ m ≤ 1000000) (hd : 1 ≤ d ∧ d ≤ 10000) : Fn Tryz.prog 106 [.agg (shipC f1 u (hoAV f2 u)), I m, I d] h (I (meanZ u (cdiv (m * 1000) d) : Nat)) h := by
  refine Fn.beside ?_ rfl h
  refine Fn.ofR0 noM (by kernel_rfl) Tryz.func106 rfl (by simp) ?_
  have hl := lim_in o
  have v1 := wrap_in (n := m * 1000) (by omega) (by omega)
  refine Exists.elim (show ∃ N : Nat, N = (lim u).toNat + 1 from ⟨_, rfl⟩) fun N hN => ?_
  have v2 : IntKind.i64.wrap (lim u + 1) = (N : Int) := by rw [wrap_in (by omega) (by omega)]; omega
  have hs : ∀ h : H, h.get 0 = some (shipC f1 u (hoAV f2 u)) → h.get 1 = some [I (cdiv (m * 1000) d)] → Fn Tryz.prog 142 [I N, .clo 143 [.ptr 0 0, .ptr 1 0]] h (I (meanZ u (cdiv (m * 1000) d) : Nat)) h := fun h g0 g1 => by
    unfold meanZ
    rw [← hN]
    refine search_fn (P := fun d' => decide (cdiv (m * 1000) d ≤ vol u (d' : Nat))) (n := N) (by omega) (fun i hi => meanC_fn (f1 := f1) (f2 := f2) o (by omega) g0 g1) (fun i k hik hk hp => ?_)
    have := vol_mono (u := u) (d := i) (d' := k) o (by omega) (by omega) (by omega)
    have := of_decide_eq_true hp
    exact decide_eq_true (by omega)
  simp -dsimp -implicitDefEqProofs [v1]
  refine onCall_in (hceil_fn (by omega) (by omega)) ?_
  simp -dsimp -implicitDefEqProofs [v2]
  refine onCall_in (hs _ (by simp) (by simp)) ?_
  simp -dsimp -implicitDefEqProofs
noncomputable def mom (u : Hu) (l : List Int) : Int := moment u l l.length
noncomputable def trm (u : Hu) (l : List Int) : Int := cdiv (max (mom u l) (-mom u l)) (4 * trU u)
noncomputable def mZ (u : Hu) (l : List Int) (d : Int) : Int := (meanZ u (cdiv (mass u l l.length * 1000) d) : Nat)
noncomputable def floatC (u : Hu) (l : List Int) (b : Bd) : List AV := [I (mZ u l b.hi), I (mZ u l b.lo), I (mZ u l b.hi + trm u l), I (mZ u l b.lo + trm u l), I (sgn (mom u l))]
theorem floatC_eq {u : Hu} {l : List Int} {b : Bd} : floatC u l b = [I (mZ u l b.hi), I (mZ u l b.lo), I (mZ u l b.hi + trm u l), I (mZ u l b.lo + trm u l), I (sgn (mom u l))] := rfl
attribute [local simp] floatC_eq
theorem mZ_in {u : Hu} {l : List Int} {d : Int} (o : OkU u) : 0 ≤ mZ u l d ∧ mZ u l d ≤ lim u + 1 := by
  have := (firstN_is (P := fun d' => decide (cdiv (mass u l l.length * 1000) d ≤ vol u (d' : Nat))) (n := (lim u).toNat + 1)).le
  have := lim_in o
  unfold mZ meanZ
  omega
theorem trm_in {u : Hu} {l : List Int} (o : OkU u) (k : OkL u l) : 0 ≤ trm u l ∧ trm u l ≤ 100000000 := by
  have h1 := moment_in o k (n := l.length) (Nat.le_refl _)
  have h2 := trU_in o
  have h3 := cdiv_in (n := max (mom u l) (-mom u l)) (d := 4 * trU u) (by omega) (by omega)
  unfold mom at h3
  unfold trm mom
  omega
theorem float_fn {u : Hu} {l : List Int} {b : Bd} {f1 f2 f3 : Bool} {h : H} (o : OkU u) (k : OkL u l) (hb : vB 900 1100 b = true) :
    Fn Tryz.prog 64 [.agg (shipC f1 u (hoAV f2 u)), loadAV f3 l, .agg [I b.lo, I b.hi]] h (.tup [.agg (floatC u l b), B (decide (mZ u l b.lo + trm u l ≤ lim u))]) h := by
  refine Fn.beside ?_ rfl h
  refine Fn.ofR0 noM (by kernel_rfl) Tryz.func64 rfl (by simp) ?_
  have hb' := vB_iff.1 hb
  have hm := mass_in o k (n := l.length) (Nat.le_refl _)
  have hmo := moment_in o k (n := l.length) (Nat.le_refl _)
  have ht := trU_in o
  have htm := trm_in o k
  have hz1 := mZ_in (l := l) (d := b.lo) o
  have hz2 := mZ_in (l := l) (d := b.hi) o
  have hli := lim_in o
  have c1 : ∀ h, Fn Tryz.prog 103 [.agg (shipC f1 u (hoAV f2 u)), loadAV f3 l] h (.tup [I (mass u l l.length), I (mom u l)]) h := fun h => weigh_fn o k
  have c2 : ∀ h, Fn Tryz.prog 105 [I (mom u l)] h (I (max (mom u l) (-mom u l))) h := fun h => habs_fn (by unfold mom; omega)
  have c3 : ∀ h, Fn Tryz.prog 104 [I (max (mom u l) (-mom u l)), I (4 * trU u)] h (I (trm u l)) h := fun h => hceil_fn (by unfold mom; omega) (by omega)
  have c4 : ∀ d h, 900 ≤ d ∧ d ≤ 1100 → Fn Tryz.prog 106 [.agg (shipC f1 u (hoAV f2 u)), I (mass u l l.length), I d] h (I (mZ u l d)) h := fun d h hd => mean_fn o (by omega) (by omega)
  have c5 : ∀ h, Fn Tryz.prog 107 [I (mom u l), I 0] h (I (sgn (mom u l))) h := fun h => compare_fn
  have v1 := wrap_in (n := 4 * trU u) (by omega) (by omega)
  have v2 := wrap_in (n := mZ u l b.lo + trm u l) (by omega) (by omega)
  have v3 := wrap_in (n := mZ u l b.hi + trm u l) (by omega) (by omega)
  simp only [shipC_eq, hoAV_eq, loadAV_eq] at c1 c4
  simp -dsimp -implicitDefEqProofs
  refine onCall_in (c1 _) ?_
  simp -dsimp -implicitDefEqProofs
  refine DrawR.on {} (by kernel_rfl) (by simp) ?_
  simp -dsimp -implicitDefEqProofs [v1]
  refine onCallQ_in (c2 _) ?_
  simp -dsimp -implicitDefEqProofs [v1]
  refine onCallQ_in (c3 _) ?_
  simp -dsimp -implicitDefEqProofs
  refine DrawR.on { M := [2], eff := [(12, [2])] } (by kernel_rfl) (by simp) ?_
  simp -dsimp -implicitDefEqProofs
  refine onCallQ_in (c4 b.hi _ (by omega)) ?_
  simp -dsimp -implicitDefEqProofs
  refine onCallQ_in (c4 b.lo _ (by omega)) ?_
  simp -dsimp -implicitDefEqProofs [v2, v3]
  refine onCall_in (c5 _) ?_
  simp -dsimp -implicitDefEqProofs
  refine DrawR.on { M := [2], see := [(0, 2), (3, 2)], eff := [(7, [2])] } (by kernel_rfl) (by simp) ?_
  simp -dsimp -implicitDefEqProofs
theorem density_fn {b : Bd} {h : H} : Fn Tryz.prog 63 [.agg [I b.lo, I b.hi]] h (B (vB 900 1100 b)) h := by
  refine Fn.beside ?_ rfl h
  refine Fn.ofR0 noM (by kernel_rfl) Tryz.func63 rfl (by simp) ?_
  simp -dsimp -implicitDefEqProofs
  refine onCall_in (bnd_fn.beside rfl _) ?_
  simp -dsimp -implicitDefEqProofs
/-- The error of Volume. -/
noncomputable def vlE (u : Hu) (d : Int) : Int := if hullOk u = false then 2 else if inB 0 (lim u) d = false then 3 else 0
theorem Volume_fn {u : Hu} {d : Int} {f1 : Bool} {h : H} (hu : SmallU u) : Fn Tryz.prog 20 [.agg [I u.a, .ro f1 5 (u.ss.map fSec)], I d] h (.tup [I (if vlE u d = 0 then vol u d else 0), I (vlE u d)]) h := by
  refine Fn.beside ?_ rfl h
  refine Fn.ofR0 noM (by kernel_rfl) Tryz.func20 rfl (by simp) ?_
  simp -dsimp -implicitDefEqProofs
  refine (Bool.eq_false_or_eq_true (hullOk u)).elim (fun hok => ?_) (fun hok => ?_)
  · have o := okU hok
    refine onCall_in ((newShip_fn (f1 := f1) hu hok).beside rfl _) ?_
    simp -dsimp -implicitDefEqProofs
    refine onCall_in vin1_fn ?_
    simp -dsimp -implicitDefEqProofs
    refine ifB_in (fun hb => ?_) (fun hb => ?_)
    · have hb' := inB_iff.1 hb
      have e : vlE u d = 0 := by simp [vlE, hok, hb]
      simp -dsimp -implicitDefEqProofs
      refine onCall_in (volume_fn (u := u) (f1 := f1) (rows := (hdU u).map (fHd (long u))) o hb'.1 hb'.2) ?_
      simp -dsimp -implicitDefEqProofs [e]
    · have e : vlE u d = 3 := by simp [vlE, hok, hb]
      simp -dsimp -implicitDefEqProofs [e]
  · have e : vlE u d = 2 := by simp [vlE, hok]
    refine onCall_in ((newShip_bad (f1 := f1) hu hok).beside rfl _) ?_
    simp -dsimp -implicitDefEqProofs [e]
/-- The error of Float. -/
noncomputable def fltE (u : Hu) (l : List Int) (b : Bd) : Int := if hullOk u = false then 2 else if loadE u l ≠ 0 then loadE u l else if vB 900 1100 b = false then 2 else if mZ u l b.lo + trm u l ≤ lim u then 0 else 8
noncomputable def floatR (u : Hu) (l : List Int) (b : Bd) : List AV := if fltE u l b = 0 then floatC u l b else [I 0, I 0, I 0, I 0, I 0]
theorem Float_fn {u : Hu} {l : List Int} {b : Bd} {f1 f3 : Bool} {h : H} (hu : SmallU u) (hl : (l.length : Int) ≤ 1000) : Fn Tryz.prog 21 [.agg [I u.a, .ro f1 5 (u.ss.map fSec)], loadAV f3 l, .agg [I b.lo, I b.hi]] h (.tup [.agg (floatR u l b), I (fltE u l b)]) h := by
  refine Fn.beside ?_ rfl h
  refine Fn.ofR0 noM (by kernel_rfl) Tryz.func21 rfl (by simp) ?_
  simp -dsimp -implicitDefEqProofs
  refine (Bool.eq_false_or_eq_true (hullOk u)).elim (fun hok => ?_) (fun hok => ?_)
  rotate_left
  · have e : fltE u l b = 2 := by simp [fltE, hok]
    have e2 : floatR u l b = [I 0, I 0, I 0, I 0, I 0] := by unfold floatR; rw [if_neg (by omega)]
    refine onCall_in ((newShip_bad (f1 := f1) hu hok).beside rfl _) ?_
    simp -dsimp -implicitDefEqProofs [e, e2]
  have o := okU hok
  refine onCall_in ((newShip_fn (f1 := f1) hu hok).beside rfl _) ?_
  simp -dsimp -implicitDefEqProofs
  refine onCall_in (checkLoad_fn (f1 := f1) (f2 := isz (hdU u).length) (f3 := f3) o hl) ?_
  refine (Classical.em (loadE u l = 0)).elim (fun hle => ?_) (fun hle => ?_)
  rotate_left
  · have n1 : (loadE u l != 0) = true := by simpa using hle
    have e : fltE u l b = loadE u l := by simp [fltE, hok, hle]
    have e2 : floatR u l b = [I 0, I 0, I 0, I 0, I 0] := by unfold floatR; rw [if_neg (by omega)]
    simp -dsimp -implicitDefEqProofs [n1, e, e2]
  have k := loadE_ok hle
  simp -dsimp -implicitDefEqProofs [hle]
  refine onCall_in density_fn ?_
  simp -dsimp -implicitDefEqProofs
  refine ifB_in (fun hb => ?_) (fun hb => ?_)
  rotate_left
  · have e : fltE u l b = 2 := by simp [fltE, hok, hle, hb]
    have e2 : floatR u l b = [I 0, I 0, I 0, I 0, I 0] := by unfold floatR; rw [if_neg (by omega)]
    simp -dsimp -implicitDefEqProofs [e, e2]
  simp -dsimp -implicitDefEqProofs
  refine onCall_in (float_fn (f1 := f1) (f2 := isz (hdU u).length) (f3 := f3) o k hb) ?_
  refine (Classical.em (mZ u l b.lo + trm u l ≤ lim u)).elim (fun hf => ?_) (fun hf => ?_)
  · have e : fltE u l b = 0 := by simp [fltE, hok, hle, hb, hf]
    have e2 : floatR u l b = floatC u l b := by unfold floatR; rw [if_pos e]
    simp -dsimp -implicitDefEqProofs [e, e2, hf]
  · have e : fltE u l b = 8 := by simp [fltE, hok, hle, hb, hf]
    have e2 : floatR u l b = [I 0, I 0, I 0, I 0, I 0] := by unfold floatR; rw [if_neg (by omega)]
    simp -dsimp -implicitDefEqProofs [e, e2, hf]
end Go.Pe

/- The reference's numbers of a loaded hull. -/
namespace Go.Pe
open Go Go.Proofs Go.Proofs.YtffckclggkjbgaaGreat
set_option maxRecDepth 20000
set_option maxHeartbeats 8000000
attribute [local simp] t3 u3 t4 u4 t27 u27
attribute [local simp] ts22 us22 ts24 us24 ts72 us72 ts118 us118 ts120 us120 ts25 us25 ts75 us75 ts150 us150 ts224 us224 ts142 us142 ts140 us140 ts196 us196 ts34 us34 ts39 us39 ts198 us198 ts200 us200
attribute [local simp] convA extA lenA
attribute [local simp] fSec_eq fPt_eq loadAV_eq
theorem rceil_fn {n d : Int} {h : H} (hn : 0 ≤ n ∧ n ≤ 1000000000000) (hd : 0 < d ∧ d ≤ 1000000000000) : Fn Tryz.prog 108 [I n, I d] h (I (cdiv n d)) h := by
  refine Fn.beside ?_ rfl h
  refine Fn.ofR0 noM (by kernel_rfl) Tryz.func108 rfl (by simp) ?_
  have hc := cdiv_in (n := n) (d := d) hn.1 hd.1
  refine Exists.elim (show ∃ q, q = n / d from ⟨_, rfl⟩) fun q hq => ?_
  have e : n.tdiv d = q := by rw [hq]; exact Int.tdiv_eq_ediv_of_nonneg hn.1
  have h1 : d * q + n % d = n := by rw [hq]; exact Int.mul_ediv_add_emod n d
  have h2 := Int.emod_nonneg n (show d ≠ 0 by omega)
  have h3 := Int.emod_lt_of_pos n hd.1
  have h0 : 0 ≤ q := by rw [hq]; exact Int.ediv_nonneg hn.1 (by omega)
  have h4 : q ≤ n := by rw [hq]; exact Int.ediv_le_self d hn.1
  have h5 : cdiv n d = if q * d < n then q + 1 else q := by
    unfold cdiv
    rw [Int.mul_comm] at h1
    split
    · rename_i hlt
      refine Int.le_antisymm ?_ ?_
      · have : (n + d - 1) / d < q + 2 := Int.ediv_lt_of_lt_mul hd.1 (by rw [Int.add_mul]; omega)
        omega
      · exact Int.le_ediv_of_mul_le hd.1 (by rw [Int.add_mul]; omega)
    · rename_i hge
      refine Int.le_antisymm ?_ ?_
      · have : (n + d - 1) / d < q + 1 := Int.ediv_lt_of_lt_mul hd.1 (by rw [Int.add_mul]; omega)
        omega
      · exact Int.le_ediv_of_mul_le hd.1 (by omega)
  have h6 : 0 ≤ q * d ∧ q * d ≤ n := by rw [Int.mul_comm]; exact ⟨Int.mul_nonneg (by omega) h0, by omega⟩
  have v1 := wrap_in (n := q) (by omega) (by omega)
  have v2 := wrap_in (n := q * d) (by omega) (by omega)
  have v3 := wrap_in (n := q + 1) (by omega) (by omega)
  have hn0 : (d = 0) = False := eq_false (by omega)
  simp -dsimp -implicitDefEqProofs [hn0, e, v1, v2]
  refine ifD_in (fun hlt => ?_) (fun hge => ?_)
  · rw [if_pos hlt] at h5
    simp -dsimp -implicitDefEqProofs [v3, h5]
  · rw [if_neg hge] at h5
    simp -dsimp -implicitDefEqProofs [h5]
theorem rVolume_fn {u : Hu} {d : Int} {f1 : Bool} {h : H} (o : OkU u) (h0 : 0 ≤ d) (hd : d ≤ lim u) : Fn Tryz.prog 26 [.agg [I u.a, .ro f1 5 (u.ss.map fSec)], I d] h (I (vol u d)) h := by
  refine Fn.beside ?_ rfl h
  refine Fn.ofR0 noM (by kernel_rfl) Tryz.func26 rfl (by simp) ?_
  have hn := o.n
  simp -dsimp -implicitDefEqProofs
  refine LoopCR.on 64 (fun i => [(1, I d), (2, .ptr 0 0), (5, I (sumI (fun s => volS s.ps d) u.ss i)), (6, I (i : Nat))]) (fun i => [some [I u.a, .ro f1 5 (u.ss.map fSec)]]) (fun i => i ≤ u.ss.length) (fun i => u.ss.length - i) 0 [0] (by simp) ?_ ?_
  · simp -dsimp -implicitDefEqProofs [sumI]
  intro i j hi
  simp -dsimp -implicitDefEqProofs
  refine ifD_in (fun hlt => ?_) (fun hge => ?_)
  rotate_left
  · have hin : i = u.ss.length := by omega
    simp -dsimp -implicitDefEqProofs [hin, vol]
  refine Exists.elim (show ∃ s, u.ss[i]? = some s from ⟨_, List.getElem?_eq_getElem hlt⟩) fun s hs => ?_
  have hm := List.mem_of_getElem? hs
  have hc := (o.sec s hm).2.2.2.1
  have hdl : d ≤ lastP s.ps := by have := lim_le hm; omega
  have w1 : IntKind.i64.wrap ((i : Int) + 1) = (i : Int) + 1 := wrap_in (by omega) (by omega)
  have hb := sumI_inm (f := fun s => volS s.ps d) (m := 100000) (l := u.ss) (fun s hs => volS_in (o.sec s hs).2.2.2.1 h0 (by have := lim_le hs; omega)) i hi
  have hv := volS_in hc h0 hdl
  have w2 : IntKind.i64.wrap (sumI (fun s => volS s.ps d) u.ss i + volS s.ps d) = sumI (fun s => volS s.ps d) u.ss (i + 1) := by rw [sumI_succ hs]; exact wrap_in (by omega) (by omega)
  refine Exists.elim (k_some hc hdl) fun k hk => Exists.elim hk fun a hk => Exists.elim hk fun b hk => ?_
  have hK := hk.1
  have hkl := hk.2.1
  have ha := hk.2.2.1
  have hb2 := hk.2.2.2.1
  have hx := hk.2.2.2.2.1
  have hy := hk.2.2.2.2.2.1
  have hdb := hk.2.2.2.2.2.2.1
  have hda := hk.2.2.2.2.2.2.2 h0
  clear hk
  have hl := cv_len hc
  have hk1 := hK.1
  have ra := cv_row hc ha
  have rb := cv_row hc hb2
  have e := volS_eq hK ha hb2
  rw [e] at hv w2
  have p1 : ((d - a.x) * (b.y - a.y)).natAbs ≤ 1000 * 100000 := mul_in (by omega) (by omega)
  have x1 : IntKind.i64.wrap ((k : Int) - 1) = ((k - 1 : Nat) : Int) := by rw [wrap_in (by omega) (by omega)]; omega
  have v1 := wrap_in (n := d - a.x) (by omega) (by omega)
  have v2 := wrap_in (n := b.y - a.y) (by omega) (by omega)
  have v3 := wrap_in (n := (d - a.x) * (b.y - a.y)) (by omega) (by omega)
  have v4 := wrap_in (n := b.x - a.x) (by omega) (by omega)
  have hq : ((d - a.x) * (b.y - a.y)).tdiv (b.x - a.x) = segV a b d - a.y := by unfold segV; omega
  have v5 := wrap_in (n := segV a b d - a.y) (by omega) (by omega)
  have v6 := wrap_in (n := segV a b d) (by omega) (by omega)
  have hn0 : (b.x - a.x = 0) = False := eq_false (by omega)
  have e6 : a.y + (segV a b d - a.y) = segV a b d := by omega
  simp -dsimp -implicitDefEqProofs [hs]
  refine LoopCR.on 64 (fun m => [(1, I d), (2, .ptr 0 0), (5, I (sumI (fun s => volS s.ps d) u.ss i)), (6, I (i : Nat)), (7, .ro false 2 (s.ps.map fPt)), (8, I ((m : Nat) : Int))]) (fun m => [some [I u.a, .ro f1 5 (u.ss.map fSec)]]) (fun m => 1 ≤ m ∧ m ≤ k) (fun m => k - m) 1 [0] ⟨by omega, hk1⟩ ?_ ?_
  · simp -dsimp -implicitDefEqProofs
  rintro m jm ⟨hm1, hmk⟩
  refine Exists.elim (show ∃ q, s.ps[m]? = some q from ⟨_, List.getElem?_eq_getElem (by omega)⟩) fun q hq2 => ?_
  have wm : IntKind.i64.wrap ((m : Int) + 1) = (m : Int) + 1 := wrap_in (by omega) (by omega)
  simp -dsimp -implicitDefEqProofs [hq2]
  refine ifD_in (fun hlt2 => ?_) (fun hge2 => ?_)
  · have hne : m ≠ k := fun he => by rw [he, hb2] at hq2; cases hq2; omega
    simp -dsimp -implicitDefEqProofs [wm]
    refine again_in (m + 1) [0] ⟨by omega, by omega⟩ (by omega) ?_
    simp -dsimp -implicitDefEqProofs
  · have hek : m = k := by
      by_cases hmk2 : m < k
      · exact absurd (hK.2.2 m hm1 hmk2 q hq2) (by omega)
      · omega
    simp -dsimp -implicitDefEqProofs [hek]
    refine DrawR.on {} (by kernel_rfl) (by simp) ?_
    simp -dsimp -implicitDefEqProofs [x1, ha, hb2]
    refine DrawR.on {} (by kernel_rfl) (by simp) ?_
    simp -dsimp -implicitDefEqProofs [v1, v2, v3, v4, hq, v5, v6, hn0, e6, w2, w1]
    refine again_in (i + 1) [0] (by omega) (by omega) ?_
    simp -dsimp -implicitDefEqProofs
theorem rMass_fn {u : Hu} {l : List Int} {f1 f3 : Bool} {h : H} (o : OkU u) (k : OkL u l) : Fn Tryz.prog 109 [.agg [I u.a, .ro f1 5 (u.ss.map fSec)], loadAV f3 l] h (I (mass u l l.length)) h := by
  refine Fn.beside ?_ rfl h
  refine Fn.ofR0 noM (by kernel_rfl) Tryz.func109 rfl (by simp) ?_
  have hn := o.n
  have hh := hsU_len o
  have hlen := k.len
  simp -dsimp -implicitDefEqProofs
  refine LoopCR.on 39 (fun i => [(1, loadAV f3 l), (2, .ptr 0 0), (5, I (sumI Sec.b u.ss i)), (6, I (i : Nat))]) (fun i => [some [I u.a, .ro f1 5 (u.ss.map fSec)]]) (fun i => i ≤ u.ss.length) (fun i => u.ss.length - i) 0 [0] (by simp) ?_ ?_
  · simp -dsimp -implicitDefEqProofs [sumI]
  intro i j hi
  simp -dsimp -implicitDefEqProofs
  refine ifD_in (fun hlt => ?_) (fun hge => ?_)
  · refine Exists.elim (show ∃ s, u.ss[i]? = some s from ⟨_, List.getElem?_eq_getElem hlt⟩) fun s hs => ?_
    have os := o.sec s (List.mem_of_getElem? hs)
    have w1 : IntKind.i64.wrap ((i : Int) + 1) = (i : Int) + 1 := wrap_in (by omega) (by omega)
    have hb := sumI_inm (f := Sec.b) (m := 10000) (l := u.ss) (fun s hs => by have := o.sec s hs; omega) i hi
    have w4 : IntKind.i64.wrap (sumI Sec.b u.ss i + s.b) = sumI Sec.b u.ss (i + 1) := by rw [sumI_succ hs]; exact wrap_in (by omega) (by omega)
    simp -dsimp -implicitDefEqProofs [hs, w4, w1]
    refine again_in (i + 1) [0] (by omega) (by omega) ?_
    simp -dsimp -implicitDefEqProofs
  have hin : i = u.ss.length := by omega
  have hm0 : sumI Sec.b u.ss u.ss.length = mass u l 0 := rfl
  simp -dsimp -implicitDefEqProofs [hin, hm0]
  refine LoopCR.on 39 (fun i => [(1, loadAV f3 l), (2, .ptr 0 0), (5, I (mass u l i)), (7, I (i : Nat))]) (fun i => [some [I u.a, .ro f1 5 (u.ss.map fSec)]]) (fun i => i ≤ l.length) (fun i => l.length - i) 0 [0] (by simp) ?_ ?_
  · simp -dsimp -implicitDefEqProofs
  intro i j hi
  simp -dsimp -implicitDefEqProofs
  refine ifD_in (fun hlt => ?_) (fun hge => ?_)
  · refine Exists.elim (show ∃ n, l[i]? = some n from ⟨_, List.getElem?_eq_getElem hlt⟩) fun n hn => ?_
    have w1 : IntKind.i64.wrap ((i : Int) + 1) = (i : Int) + 1 := wrap_in (by omega) (by omega)
    have e1 := ld_at hn
    have hl := lot_in o k i
    have hm := mass_in o k hi
    have hm' := mass_in o k (n := i + 1) (by omega)
    have s1 : mass u l (i + 1) = mass u l i + n * u.a := by rw [← e1, Int.mul_comm]; rfl
    rw [e1, Int.mul_comm] at hl
    have v1 := wrap_in (n := n * u.a) (by omega) (by omega)
    have v3 : IntKind.i64.wrap (mass u l i + n * u.a) = mass u l (i + 1) := by rw [← s1]; exact wrap_in (by omega) (by omega)
    simp -dsimp -implicitDefEqProofs
    refine DrawR.on {} (by kernel_rfl) (by simp) ?_
    simp -dsimp -implicitDefEqProofs [hn, v1, v3, w1]
    refine again_in (i + 1) [0] (by omega) (by omega) ?_
    simp -dsimp -implicitDefEqProofs
  · have hin : i = l.length := by omega
    simp -dsimp -implicitDefEqProofs [hin]
end Go.Pe

/- The first row of a curve beyond a flow. -/
namespace Go.Pe
open Go Go.Proofs Go.Proofs.YtffckclggkjbgaaGreat
attribute [local simp] ap_skip ap_region ap_seq ap_cond ap_block ap_loop ap_exit ap_ret ap_seq_normal ap_seq_ret ap_seq_exit ap_block_normal ap_block_ret ap_block_exit ap_block_other ap_nil ap_draw ap_dr_nil ap_fin_ret ap_fin_normal ap_loopK dstT_zero dstT_succ Nat.add_assoc onSome_some onSome_none ifB_true ifB_false ifB_not onClo_clo onBool_bool onBool_tup frz_val frz_ro takeAt elemTy LeN_refl LeN_push LeN_set push_get push_next set_get set_next nil_get nil_next pop_move pop_assign pop_pick pop_load pop_fieldAddr pop_indexAddr pop_field pop_binOp pop_unOp pop_convert pop_extract pop_makeFunc pop_nilCheck pop_build pop_slice pop_len pop_max pop_min eop_alloc eop_box eop_store eop_buildSlice eop_makeSlice eop_append as_move as_assign as_pick as_load as_fieldAddr as_indexAddr as_field as_binOp as_unOp as_convert as_extract as_makeFunc as_nilCheck as_build as_slice as_len as_max as_min as_alloc as_box as_store as_buildSlice as_makeSlice as_append as_call cons_free cons_guard putA_some putA_none aev_tmp aev_int aev_bool aev_nil aev_func pickA_and pickA_or pickA_true pickA_false nnA_ptr nnA_rop idxA_some intOf_int boxA_some bin_int binI_add binI_sub binI_mul binI_quo binI_rem binI_eql binI_neq binI_lss binI_leq binI_gtr binI_geq unA_not unA_neg loadA_ptr loadA_rop loadO_some asLoaded_agg asLoaded_one resA_one resA_two resOne_tmp resOne_cell cellsOf_int cellsOf_bool cellsOf_clo cellsOf_ptr cellsOf_ro cellsOf_sl cellsOf_nil cellsOf_agg one_int one_bool one_nil one_clo one_ptr one_ro one_sl one_rop mm_max mm_min elS_sl elS2_sl mkA_some chunk_zero chunk_succ zcells_zero zcells_succ clean_val clean_ro clean_rop clean1_val clean1_ro clean1_rop flat_val flat_ro flat_agg frz_agg frz_tup
attribute [local simp] t3 u3 t4 u4 t5 u5 t22 u22 t23 u23 t25 u25 t27 u27 t28 u28 t30 u30 t32 u32   t37 u37 t43 u43     t50 u50   t75 u75 t77 u77     t94 u94   t102 u102 t117 u117 t119 u119     t130 u130 t134 u134 t138 u138   t155 u155 t156 u156   t172 u172
attribute [local simp] lenA_ro indexA_ro fieldA
set_option maxRecDepth 20000

theorem indexFunc_rows {f : FuncId} {caps : List AV} {h : H} {p : List AV → Bool} {xs : List (List AV)} {fu : Bool} (hlen : (xs.length : Int) < 2^62) (hk : ∀ r ∈ xs, r.length = 2) (hF : ∀ x ∈ xs, Fn Tryz.prog f ([AV.agg x] ++ caps) h (B (p x)) h) :
    Fn Tryz.prog 189 [.ro fu 2 xs, .clo f caps] h (I (idx p xs)) h := by
  refine Fn.keep noM noC (by kernel_rfl) Tryz.func189 rfl rfl fun _ => ?_
  simp -dsimp -implicitDefEqProofs
  refine LoopC.on (σ := Nat) (fun i j => [.ro fu 2 xs, .clo f caps, j 2, j 3, j 4, j 5, j 6, I xs.length, I i, j 9, j 10, j 11, j 12, j 13, j 14, j 15, j 16, j 17, j 18])
    (fun i k => k = h ∧ i ≤ xs.length ∧ ∀ q, q < i → ∀ x, xs[q]? = some x → p x = false) (fun i => xs.length - i) 0 ⟨rfl, by omega, fun q hq => by omega⟩ (by simp) ?_
  rintro i j h' ⟨rfl, hi, hp⟩
  simp -dsimp -implicitDefEqProofs
  refine ifD_in (fun hlt => ?_) (fun hge => ?_)
  · have hx := List.getElem?_eq_getElem (show i < xs.length by omega)
    have hl := hk _ (List.getElem_mem (show i < xs.length by omega))
    have ht : xs[i].take 2 = xs[i] := List.take_of_length_le (by omega)
    simp -dsimp -implicitDefEqProofs [hx, hl, ht]
    refine onCall_in (hF _ (List.getElem_mem (by omega))) ?_
    simp -dsimp -implicitDefEqProofs
    refine ifB_in (fun hb => ?_) (fun hb => ?_)
    · simp -dsimp -implicitDefEqProofs [idx_hit hx hb hp]
    simp -dsimp -implicitDefEqProofs
    refine ⟨i + 1, ⟨by omega, fun q hq x hqx => ?_⟩, ?_, by omega⟩
    · by_cases hqi : q = i
      · subst hqi; rw [hx] at hqx; cases hqx; simpa using hb
      · exact hp q (by omega) x hqx
    · rw [wrap_in (by omega) (by omega)]; omega
  · simp -dsimp -implicitDefEqProofs
    exact (idx_miss fun q hq => hp q (by omega)).symm
theorem curve1_fn {w : Rw} {f : Int} {h : H} {b : Nat} (hb : h.get b = some [I f]) : Fn Tryz.prog 190 [.agg (fW w), .ptr b 0] h (B (decide (f < w.flow))) h := by
  refine Fn.keep noM noC (by kernel_rfl) Tryz.func190 rfl rfl fun live => ?_
  have hne : ¬ b = h.next := by have := (live.1 b _ hb).1; omega
  simp -dsimp -implicitDefEqProofs [hb, hne, fW_eq]
def fPr (f : Int) (r : List AV) : Bool := match r with
  | [.val (.int _ a), _] => decide (f < a)
  | _ => false
theorem above_fn {l : List Rw} {f : Int} {fu : Bool} {h : H} {b : Nat} (hb : h.get b = some [I f]) (hl : (l.length : Int) < 2^62) : Fn Tryz.prog 189 [.ro fu 2 (l.map fW), .clo 190 [.ptr b 0]] h (I (idx (fun w => decide (f < w.flow)) l)) h := by
  have := indexFunc_rows (f := 190) (caps := [.ptr b 0]) (h := h) (p := fPr f) (xs := l.map fW) (fu := fu) (by simpa using hl) (by simp [fW_eq]) (fun r hr => by
    obtain ⟨w, _, rfl⟩ := List.mem_map.1 hr
    exact curve1_fn hb)
  have e : idx (fPr f) (l.map fW) = idx (fun w => decide (f < w.flow)) l := by
    unfold idx
    rw [List.findIdx?_map]
    rfl
  rwa [e] at this
end Go.Pe

/- The arithmetic of the law RiverMelts. -/
namespace Go.Pe
open Go Go.Proofs Go.Proofs.YtffckclggkjbgaaGreat
def Ct.bare (c : Ct) : Ct := { c with snow := ⟨0, 0⟩ }
def Ct.more (c : Ct) (n : Int) : Ct := { c with area := min 10000 (c.area + n), snow := ⟨c.snow.lo, min 1000000 (c.snow.hi + n)⟩ }
theorem valid_bare {c : Ct} (h : validC c = true) : validC c.bare = true := by
  simp only [validC, validB, Bool.and_eq_true, decide_eq_true_eq] at h
  obtain ⟨a, p, m, ⟨l, u⟩⟩ := c
  simp only [validC, validB, Ct.bare, Bool.and_eq_true, decide_eq_true_eq] at h ⊢
  repeat' apply And.intro
  all_goals exact decide_eq_true (by omega)
theorem valid_more {c : Ct} {n : Int} (h : validC c = true) (h0 : 0 ≤ n) : validC (c.more n) = true := by
  obtain ⟨a, p, m, ⟨l, u⟩⟩ := c
  simp only [validC, validB, Ct.more, Bool.and_eq_true, decide_eq_true_eq] at h ⊢
  repeat' apply And.intro
  all_goals exact decide_eq_true (by omega)
theorem pick_in {b : Bd} {y : Int} (h : b.lo ≤ b.hi) (h0 : 0 ≤ y) (h1 : y ≤ 255) : b.lo ≤ pickZ b y ∧ pickZ b y ≤ b.hi := by
  have h2 : 0 ≤ (b.hi - b.lo) * y := Int.mul_nonneg (by omega) h0
  have h3 : (b.hi - b.lo) * y ≤ (b.hi - b.lo) * 255 := Int.mul_le_mul_of_nonneg_left h1 (by omega)
  unfold pickZ
  rw [Int.tdiv_eq_ediv_of_nonneg h2]
  omega
theorem partZ_in {l : List Int} {i : Nat} (h : ∀ n ∈ l, 0 ≤ n ∧ n ≤ 255) : 0 ≤ partZ l i ∧ partZ l i ≤ 255 := by
  unfold partZ
  split
  · omega
  · rename_i h1
    have h2 : i % l.length < l.length := Nat.mod_lt _ (by omega)
    rw [List.getD_eq_getElem?_getD, List.getElem?_eq_getElem h2]
    exact h _ (List.getElem_mem h2)
theorem runs_get {c : Ct} : ∀ {l : List Sk} {s : Bd} {i : Nat} (hi : i < l.length), (runs c s l)[i]? = some (drain c (total [l[i].rain, melts (snowAt c s (l.take i)) (warm c l[i])]))
  | [], _, _, hi => absurd hi (by simp)
  | y :: l, s, 0, _ => by simp [runs, snowAt]
  | y :: l, s, i + 1, hi => by
      have := runs_get (c := c) (l := l) (s := left s (warm c y)) (i := i) (by simpa using hi)
      simpa [runs, snowAt] using this
theorem drain_lo {c : Ct} (h1 : 0 ≤ c.area) (h2 : 0 ≤ c.pc) {w : Bd} {n : Int} (h : w.lo ≤ n) : 10 * (drain c w).lo ≤ c.area * n * c.pc := by
  have h3 : c.area * c.pc * w.lo ≤ c.area * c.pc * n := Int.mul_le_mul_of_nonneg_left h (Int.mul_nonneg h1 h2)
  rw [Int.mul_right_comm]
  simp only [drain]
  omega
theorem drain_hi {c : Ct} (h1 : 0 ≤ c.area) (h2 : 0 ≤ c.pc) {w : Bd} {n : Int} (h : n ≤ w.hi) : c.area * n * c.pc ≤ 10 * (drain c w).hi := by
  have h3 : c.area * c.pc * n ≤ c.area * c.pc * w.hi := Int.mul_le_mul_of_nonneg_left h (Int.mul_nonneg h1 h2)
  rw [Int.mul_right_comm]
  simp only [drain]
  omega
theorem drain_lo_mono {c : Ct} (h1 : 0 ≤ c.area) (h2 : 0 ≤ c.pc) {w v : Bd} (h : w.lo ≤ v.lo) : (drain c w).lo ≤ (drain c v).lo := by
  have h3 : c.area * c.pc * w.lo ≤ c.area * c.pc * v.lo := Int.mul_le_mul_of_nonneg_left h (Int.mul_nonneg h1 h2)
  simp only [drain]
  omega
theorem drain_hi_mono {c d : Ct} (h1 : 0 ≤ c.area) (h2 : 0 ≤ c.pc) (h3 : c.area ≤ d.area) (h4 : c.pc = d.pc) {w v : Bd} (h : w.hi ≤ v.hi) (h0 : 0 ≤ w.hi) : (drain c w).hi ≤ (drain d v).hi := by
  have e1 : c.area * c.pc * w.hi ≤ c.area * c.pc * v.hi := Int.mul_le_mul_of_nonneg_left h (Int.mul_nonneg h1 h2)
  have e2 : c.area * c.pc ≤ d.area * d.pc := by rw [← h4]; exact Int.mul_le_mul_of_nonneg_right h3 h2
  have e3 : c.area * c.pc * v.hi ≤ d.area * d.pc * v.hi := Int.mul_le_mul_of_nonneg_right e2 (by omega)
  simp only [drain]
  omega
theorem drain_nonneg {c : Ct} (h1 : 0 ≤ c.area) (h2 : 0 ≤ c.pc) {w : Bd} (h : 0 ≤ w.lo) : 0 ≤ (drain c w).lo := by
  have h3 : 0 ≤ c.area * c.pc * w.lo := Int.mul_nonneg (Int.mul_nonneg h1 h2) h
  simp only [drain]
  omega
theorem snow_zero {c : Ct} : ∀ (l : List Sk), (∀ y ∈ l, 0 ≤ (warm c y).lo ∧ 0 ≤ (warm c y).hi) → snowAt c ⟨0, 0⟩ l = ⟨0, 0⟩
  | [], _ => rfl
  | y :: l, h => by
      have h1 := h y (by simp)
      have h2 : left ⟨0, 0⟩ (warm c y) = ⟨0, 0⟩ := by
        simp only [left, Bd.mk.injEq]
        omega
      have h3 := snow_zero l (fun z hz => h z (by simp [hz]))
      simp only [snowAt, List.foldl_cons] at h3 ⊢
      rw [h2]; exact h3
theorem snow_more {c d : Ct} (hm : c.melt = d.melt) : ∀ (l : List Sk) (s t : Bd), s.hi ≤ t.hi → (snowAt c s l).hi ≤ (snowAt d t l).hi
  | [], _, _, h => h
  | y :: l, s, t, h => by
      refine snow_more hm l (left s (warm c y)) (left t (warm d y)) ?_
      have : (warm c y).lo = (warm d y).lo := by simp only [warm, hm]
      simp only [left]
      omega
theorem total_lo {a b : Bd} : (total [a, b]).lo = a.lo + b.lo := by simp only [total, List.foldl_cons, List.foldl_nil]; omega
theorem total_hi {a b : Bd} : (total [a, b]).hi = a.hi + b.hi := by simp only [total, List.foldl_cons, List.foldl_nil]; omega
theorem warm_nonneg {c : Ct} (h : 0 ≤ c.melt) (y : Sk) : 0 ≤ (warm c y).lo ∧ 0 ≤ (warm c y).hi := by
  refine ⟨Int.mul_nonneg h ?_, Int.mul_nonneg h ?_⟩ <;> omega
theorem drain_big {c : Ct} (h1 : 0 ≤ c.area) (h2 : 0 ≤ c.pc) (h3 : c.area ≤ 10000) (h4 : c.pc ≤ 100) {w : Bd} (h : w.hi.natAbs ≤ 2000000) : (drain c w).hi.natAbs ≤ 10000000000000 := by
  have e1 := mul_in (a := c.area) (b := c.pc) (m := 10000) (n := 100) (by omega) (by omega)
  have e2 := mul_in (a := c.area * c.pc) (b := w.hi) (m := 10000 * 100) (n := 2000000) e1 h
  simp only [drain]
  omega
theorem melt_round {c : Ct} {y : Sk} {S : Bd} {H W sn : Int} (hC : ((0 ≤ c.area ∧ c.area ≤ 10000) ∧ 0 ≤ c.pc ∧ c.pc ≤ 100) ∧ 0 ≤ c.melt ∧ c.melt ≤ 100) (hr : 0 ≤ y.rain.lo ∧ y.rain.hi ≤ 20000) (hh : -500 ≤ y.heat.lo ∧ y.heat.hi ≤ 500) (hH : y.heat.lo ≤ H ∧ H ≤ y.heat.hi) (hW : y.rain.lo ≤ W ∧ W ≤ y.rain.hi) (hs : S.lo ≤ sn ∧ sn ≤ S.hi) (hS : 0 ≤ S.lo ∧ S.hi ≤ 1000000) :
    (0 ≤ max 0 H * c.melt ∧ max 0 H * c.melt ≤ 50000) ∧ (c.area * (W + min sn (max 0 H * c.melt))).natAbs ≤ 100000000000 ∧ (c.area * (W + min sn (max 0 H * c.melt)) * c.pc).natAbs ≤ 10000000000000 ∧
    10 * (drain c (total [y.rain, melts S (warm c y)])).lo ≤ c.area * (W + min sn (max 0 H * c.melt)) * c.pc ∧ c.area * (W + min sn (max 0 H * c.melt)) * c.pc ≤ 10 * (drain c (total [y.rain, melts S (warm c y)])).hi ∧
    0 ≤ (drain c (total [y.rain, melts S (warm c y)])).lo ∧ (drain c (total [y.rain, melts S (warm c y)])).hi.natAbs ≤ 10000000000000 ∧
    (left S (warm c y)).lo ≤ sn - min sn (max 0 H * c.melt) ∧ sn - min sn (max 0 H * c.melt) ≤ (left S (warm c y)).hi := by
  obtain ⟨⟨⟨a1, a2⟩, p1, p2⟩, m1, m2⟩ := hC
  have k1 : c.melt * max 0 y.heat.lo ≤ c.melt * max 0 H := Int.mul_le_mul_of_nonneg_left (by omega) m1
  have k2 : c.melt * max 0 H ≤ c.melt * max 0 y.heat.hi := Int.mul_le_mul_of_nonneg_left (by omega) m1
  have k3 := warm_nonneg (c := c) m1 y
  have k4 := mul_in (a := c.melt) (b := max 0 H) (m := 100) (n := 500) (by omega) (by omega)
  have k5 := mul_in (a := c.melt) (b := max 0 y.heat.hi) (m := 100) (n := 500) (by omega) (by omega)
  rw [Int.mul_comm (max 0 H)]
  have wl : (warm c y).lo = c.melt * max 0 y.heat.lo := rfl
  have wh : (warm c y).hi = c.melt * max 0 y.heat.hi := rfl
  obtain ⟨M, hM⟩ : ∃ M, M = c.melt * max 0 H := ⟨_, rfl⟩
  rw [← hM] at k1 k2 k4 ⊢
  obtain ⟨D, hD⟩ : ∃ D, D = min sn M := ⟨_, rfl⟩
  rw [← hD]
  have t1 : (total [y.rain, melts S (warm c y)]).lo ≤ W + D := by rw [total_lo]; simp only [melts]; omega
  have t2 : W + D ≤ (total [y.rain, melts S (warm c y)]).hi := by rw [total_hi]; simp only [melts]; omega
  have t3 : 0 ≤ (total [y.rain, melts S (warm c y)]).lo := by rw [total_lo]; simp only [melts]; omega
  have t4 : (total [y.rain, melts S (warm c y)]).hi.natAbs ≤ 2000000 := by rw [total_hi]; simp only [melts]; omega
  have b1 := mul_in (a := c.area) (b := W + D) (m := 10000) (n := 2000000) (by omega) (by omega)
  have b2 := mul_in (a := c.area * (W + D)) (b := c.pc) (m := 10000 * 2000000) (n := 100) b1 (by omega)
  refine ⟨⟨by omega, by omega⟩, by omega, by omega, drain_lo a1 p1 t1, drain_hi a1 p1 t2, drain_nonneg a1 p1 t3, drain_big a1 p1 a2 p2 t4, ?_, ?_⟩ <;> simp only [left] <;> omega
theorem melt_bare {c : Ct} {y : Sk} {S : Bd} {l : List Sk} (hC : ((0 ≤ c.area ∧ c.area ≤ 10000) ∧ 0 ≤ c.pc ∧ c.pc ≤ 100) ∧ 0 ≤ c.melt ∧ c.melt ≤ 100) (hr : 0 ≤ y.rain.lo ∧ y.rain.lo ≤ y.rain.hi) (hS : 0 ≤ S.lo ∧ 0 ≤ S.hi) :
    (drain c.bare (total [y.rain, melts (snowAt c.bare c.bare.snow l) (warm c.bare y)])).lo ≤ (drain c (total [y.rain, melts S (warm c y)])).lo ∧ (drain c.bare (total [y.rain, melts (snowAt c.bare c.bare.snow l) (warm c.bare y)])).hi ≤ (drain c (total [y.rain, melts S (warm c y)])).hi ∧
    (y.heat.hi ≤ 0 → y.heat.lo ≤ y.heat.hi → drain c.bare (total [y.rain, melts (snowAt c.bare c.bare.snow l) (warm c.bare y)]) = drain c (total [y.rain, melts S (warm c y)])) := by
  obtain ⟨⟨⟨a1, a2⟩, p1, p2⟩, m1, m2⟩ := hC
  have e0 : snowAt c.bare c.bare.snow l = ⟨0, 0⟩ := snow_zero l fun z _ => warm_nonneg (c := c.bare) m1 z
  have e1 := warm_nonneg (c := c.bare) m1 y
  have e2 := warm_nonneg (c := c) m1 y
  have e3 : warm c.bare y = warm c y := rfl
  rw [e0, e3]
  have e4 : melts ⟨0, 0⟩ (warm c y) = ⟨0, 0⟩ := by simp only [melts, Bd.mk.injEq]; omega
  rw [e4]
  refine ⟨drain_lo_mono (c := c) a1 p1 ?_, drain_hi_mono (c := c) (d := c) a1 p1 (Int.le_refl _) rfl ?_ ?_, fun h h' => ?_⟩
  · rw [total_lo, total_lo]; simp only [melts]; omega
  · rw [total_hi, total_hi]; simp only [melts]; omega
  · rw [total_hi]; show 0 ≤ y.rain.hi + 0; omega
  · have e5 : melts S (warm c y) = ⟨0, 0⟩ := by
      have : (warm c y).lo = 0 := by simp only [warm]; rw [show max 0 y.heat.lo = 0 by omega, Int.mul_zero]
      have : (warm c y).hi = 0 := by simp only [warm]; rw [show max 0 y.heat.hi = 0 by omega, Int.mul_zero]
      simp only [melts, Bd.mk.injEq]; omega
    rw [e5]; rfl
theorem melt_more {c : Ct} {y : Sk} {n : Int} {l : List Sk} (hC : ((0 ≤ c.area ∧ c.area ≤ 10000) ∧ 0 ≤ c.pc ∧ c.pc ≤ 100) ∧ 0 ≤ c.melt ∧ c.melt ≤ 100) (hn : 0 ≤ n) (hs : c.snow.hi ≤ 1000000) (hr : 0 ≤ y.rain.hi) (h0 : 0 ≤ (snowAt c c.snow l).hi) :
    (drain c (total [y.rain, melts (snowAt c c.snow l) (warm c y)])).hi ≤ (drain (c.more n) (total [y.rain, melts (snowAt (c.more n) (c.more n).snow l) (warm (c.more n) y)])).hi := by
  obtain ⟨⟨⟨a1, a2⟩, p1, p2⟩, m1, m2⟩ := hC
  have e1 := snow_more (c := c) (d := c.more n) rfl l c.snow (c.more n).snow (by show c.snow.hi ≤ min 1000000 (c.snow.hi + n); omega)
  have e2 := warm_nonneg (c := c) m1 y
  refine drain_hi_mono (c := c) (d := c.more n) a1 p1 (by show c.area ≤ min 10000 (c.area + n); omega) rfl ?_ ?_
  · rw [total_hi, total_hi]; simp only [melts]; have : (warm (c.more n) y).hi = (warm c y).hi := rfl; omega
  · rw [total_hi]; simp only [melts]; omega
end Go.Pe
