import Derived.Test.YtffckclggkjbgaaGreatY28
import Derived.Test.YtffckclggkjbgaaGreatY22
set_option linter.unusedVariables false
set_option linter.unusedSimpArgs false
/- A loaded ship: its mass, its moment, its drafts. -/
namespace Go.Pe
open Go Go.Proofs Go.Proofs.YtffckclggkjbgaaGreat
set_option maxRecDepth 20000
set_option maxHeartbeats 8000000
attribute [local simp] t3 u3 t4 u4 t27 u27
attribute [local simp] ts22 us22 ts24 us24 ts72 us72 ts118 us118 ts120 us120 ts25 us25 ts75 us75 ts150 us150 ts224 us224 ts142 us142 ts140 us140 ts196 us196 ts34 us34 ts39 us39 ts198 us198 ts200 us200
attribute [local simp] convA extA lenA
attribute [local simp] fSec_eq fPt_eq shipC_eq fHd_eq
theorem hceil_fn {n d : Int} {h : H} (hn : 0 ≤ n ∧ n ≤ 1000000000000) (hd : 0 < d ∧ d ≤ 1000000000000) : Fn Tryz.prog 104 [I n, I d] h (I (cdiv n d)) h := by
  refine Fn.beside ?_ rfl h
  refine Fn.ofR0 noM (by kernel_rfl) Tryz.func104 rfl (by simp) ?_
  have hc := cdiv_in (n := n) (d := d) hn.1 hd.1
  have v1 := wrap_in (n := n + d) (by omega) (by omega)
  have v2 := wrap_in (n := n + d - 1) (by omega) (by omega)
  have e : (n + d - 1).tdiv d = cdiv n d := Int.tdiv_eq_ediv_of_nonneg (by omega)
  have v3 := wrap_in (n := cdiv n d) (by omega) (by omega)
  have hn0 : (d = 0) = False := eq_false (by omega)
  simp -dsimp -implicitDefEqProofs [v1, v2, e, v3, hn0]
theorem habs_fn {n : Int} {h : H} (hn : n.natAbs ≤ 1000000000000) : Fn Tryz.prog 105 [I n] h (I (max n (-n))) h := by
  refine Fn.beside ?_ rfl h
  refine Fn.ofR0 noM (by kernel_rfl) Tryz.func105 rfl (by simp) ?_
  have v1 := wrap_in (n := -n) (by omega) (by omega)
  simp -dsimp -implicitDefEqProofs [v1]
theorem isNaN_fn {n : Int} {h : H} : Fn Tryz.prog 144 [I n] h (B false) h := by
  refine Fn.beside ?_ rfl h
  refine Fn.ofR0 noM (by kernel_rfl) Tryz.func144 rfl (by simp) ?_
  simp -dsimp -implicitDefEqProofs
def sgn (n : Int) : Int := if n < 0 then -1 else if 0 < n then 1 else 0
theorem compare_fn {n : Int} {h : H} : Fn Tryz.prog 107 [I n, I 0] h (I (sgn n)) h := by
  refine Fn.beside ?_ rfl h
  refine Fn.ofR0 noM (by kernel_rfl) Tryz.func107 rfl (by simp) ?_
  simp -dsimp -implicitDefEqProofs
  refine onCall_in (isNaN_fn.beside rfl _) ?_
  simp -dsimp -implicitDefEqProofs
  refine onCall_in (isNaN_fn.beside rfl _) ?_
  simp -dsimp -implicitDefEqProofs
  refine ifD_in (fun h1 => ?_) (fun h1 => ?_)
  · simp -dsimp -implicitDefEqProofs [sgn, h1]
  · simp -dsimp -implicitDefEqProofs
    refine ifD_in (fun h2 => ?_) (fun h2 => ?_)
    · simp -dsimp -implicitDefEqProofs [sgn, h1, h2]
    · simp -dsimp -implicitDefEqProofs [sgn, h1, h2]
/-- The holds of a ship. -/
noncomputable def hoAV (f2 : Bool) (u : Hu) : AV := .ro f2 3 ((hdU u).map (fHd (long u)))
theorem hoAV_eq {f2 : Bool} {u : Hu} : hoAV f2 u = .ro f2 3 ((hdU u).map (fHd (long u))) := rfl
attribute [local simp] hoAV_eq
theorem hdU_len {u : Hu} : (hdU u).length = (hsU u).length := by unfold hdU hsU; rw [hdI_hsI _ (Nat.le_refl _), List.length_map]
theorem hs_at {u : Hu} {i : Nat} {q : Pt × Pt} (hq : (hdU u)[i]? = some q) : (hsU u)[i]? = some q.2 := by
  unfold hsU; rw [hdI_hsI _ (Nat.le_refl _), List.getElem?_map]
  unfold hdU at hq
  rw [hq]; rfl
theorem arm_at {u : Hu} {i : Nat} {q : Pt × Pt} (hq : (hdU u)[i]? = some q) : arm u i = 2 * q.2.x - long u := by
  unfold arm; rw [hs_at hq]
theorem hdI_y {l : List Sec} : ∀ i, i ≤ l.length → ∀ q ∈ hdI l i, q.2.y = q.1.y
  | 0, _, q, hq => by simp [hdI] at hq
  | i + 1, hi, q, hq => by
    have hx : ∃ p, l[i]? = some p := ⟨_, List.getElem?_eq_getElem (by omega)⟩
    obtain ⟨p, hx⟩ := hx
    rw [hdI_succ hx, List.mem_append] at hq
    rcases hq with hq | hq
    · exact hdI_y i (by omega) q hq
    · obtain ⟨a, _, rfl⟩ := List.mem_map.1 hq; rfl
theorem ld_at {l : List Int} {i : Nat} {n : Int} (h : l[i]? = some n) : ld l i = n := by simp [ld, h]
noncomputable def loadAV (f3 : Bool) (l : List Int) : AV := .ro f3 1 (l.map fun n => [I n])
theorem loadAV_eq {f3 : Bool} {l : List Int} : loadAV f3 l = .ro f3 1 (l.map fun n => [I n]) := rfl
attribute [local simp] loadAV_eq
theorem weigh_fn {u : Hu} {l : List Int} {f1 f2 f3 : Bool} {h : H} (o : OkU u) (k : OkL u l) : Fn Tryz.prog 103 [.agg (shipC f1 u (hoAV f2 u)), loadAV f3 l] h (.tup [I (mass u l l.length), I (moment u l l.length)]) h := by
  refine Fn.beside ?_ rfl h
  refine Fn.ofR0 noM (by kernel_rfl) Tryz.func103 rfl (by simp) ?_
  have hh := hsU_len o
  have hlen := k.len
  have hdl := hdU_len (u := u)
  simp -dsimp -implicitDefEqProofs
  refine DrawR.on {} (by kernel_rfl) (by simp) ?_
  simp -dsimp -implicitDefEqProofs
  refine LoopCR.on 43 (fun i => [(2, .ptr 0 0), (4, I (mass u l i)), (5, I (moment u l i)), (12, loadAV f3 l), (13, I (l.length : Nat)), (14, I (i : Nat))]) (fun i => [some (shipC f1 u (hoAV f2 u))]) (fun i => i ≤ l.length) (fun i => l.length - i) 0 [0] (by simp) ?_ ?_
  · simp -dsimp -implicitDefEqProofs [mass, moment, accN]
  intro i j hi
  simp -dsimp -implicitDefEqProofs
  refine ifD_in (fun hlt => ?_) (fun hge => ?_)
  · refine Exists.elim (show ∃ n, l[i]? = some n from ⟨_, List.getElem?_eq_getElem hlt⟩) fun n hn => ?_
    refine Exists.elim (show ∃ q, (hdU u)[i]? = some q from ⟨_, List.getElem?_eq_getElem (by omega)⟩) fun q hq => ?_
    have w1 : IntKind.i64.wrap ((i : Int) + 1) = (i : Int) + 1 := wrap_in (by omega) (by omega)
    have e1 := ld_at hn
    have e2 := arm_at hq
    have hl := lot_in o k i
    have hm := mass_in o k hi
    have hm2 := moment_in o k hi
    have hm' := mass_in o k (n := i + 1) (by omega)
    have hm2' := moment_in o k (n := i + 1) (by omega)
    have s1 : mass u l (i + 1) = mass u l i + u.a * n := by rw [← e1]; rfl
    have s2 : moment u l (i + 1) = moment u l i + u.a * n * (2 * q.2.x - long u) := by rw [← e1, ← e2]; rfl
    rw [e1, e2] at hl
    have v1 := wrap_in (n := u.a * n) (by omega) (by omega)
    have v2 := wrap_in (n := u.a * n * (2 * q.2.x - long u)) (by omega) (by omega)
    have v3 : IntKind.i64.wrap (mass u l i + u.a * n) = mass u l (i + 1) := by rw [← s1]; exact wrap_in (by omega) (by omega)
    have v4 : IntKind.i64.wrap (moment u l i + u.a * n * (2 * q.2.x - long u)) = moment u l (i + 1) := by rw [← s2]; exact wrap_in (by omega) (by omega)
    simp -dsimp -implicitDefEqProofs [hn, v1, v3]
    refine DrawR.on {} (by kernel_rfl) (by simp) ?_
    simp -dsimp -implicitDefEqProofs [hq, v1, v2, v4, w1]
    refine again_in (i + 1) [0] (by omega) (by omega) ?_
    simp -dsimp -implicitDefEqProofs
  · have hin : i = l.length := by omega
    simp -dsimp -implicitDefEqProofs [hin]
open Classical in
/-- Whether no hold has more lots than it can. -/
noncomputable def lotsOk (u : Hu) (l : List Int) : Bool := decide (∀ (i : Nat) (n : Int) (p : Pt), l[i]? = some n → (hsU u)[i]? = some p → 0 ≤ n ∧ n ≤ p.y)
theorem lotsOk_iff {u : Hu} {l : List Int} : lotsOk u l = true ↔ ∀ (i : Nat) (n : Int) (p : Pt), l[i]? = some n → (hsU u)[i]? = some p → 0 ≤ n ∧ n ≤ p.y := by simp only [lotsOk, decide_eq_true_eq]
/-- The error of a load. -/
noncomputable def loadE (u : Hu) (l : List Int) : Int := if l.length ≠ (hsU u).length then 4 else if lotsOk u l = false then 3 else 0
theorem loadE_ok {u : Hu} {l : List Int} (h : loadE u l = 0) : OkL u l := by
  unfold loadE at h
  split at h; · omega
  split at h; · omega
  rename_i h1 h2
  exact ⟨by omega, lotsOk_iff.1 (by simpa using h2)⟩
theorem checkLoad_fn {u : Hu} {l : List Int} {f1 f2 f3 : Bool} {h : H} (o : OkU u) (hl : (l.length : Int) ≤ 1000) : Fn Tryz.prog 62 [.agg (shipC f1 u (hoAV f2 u)), loadAV f3 l] h (I (loadE u l)) h := by
  refine Fn.beside ?_ rfl h
  refine Fn.ofR0 noM (by kernel_rfl) Tryz.func62 rfl (by simp) ?_
  have hdl := hdU_len (u := u)
  refine (Classical.em (l.length = (hsU u).length)).elim (fun hlen => ?_) (fun hlen => ?_)
  rotate_left
  · have n1 : ((l.length : Int) != ((hdU u).length : Int)) = true := by simp; omega
    have e : loadE u l = 4 := by unfold loadE; rw [if_pos hlen]
    simp -dsimp -implicitDefEqProofs [n1, e]
  have n1 : ((l.length : Int) != ((hdU u).length : Int)) = false := by simp; omega
  simp -dsimp -implicitDefEqProofs [n1]
  refine LoopCR.on 32 (fun i => [(2, .ptr 0 0), (13, loadAV f3 l), (14, I (l.length : Nat)), (15, I (i : Nat))]) (fun i => [some (shipC f1 u (hoAV f2 u))]) (fun i => i ≤ l.length ∧ ∀ (k : Nat) (n : Int) (p : Pt), k < i → l[k]? = some n → (hsU u)[k]? = some p → 0 ≤ n ∧ n ≤ p.y) (fun i => l.length - i) 0 [0] ⟨by simp, fun k n p hk => by omega⟩ ?_ ?_
  · simp -dsimp -implicitDefEqProofs
  rintro i j ⟨hi, hok⟩
  simp -dsimp -implicitDefEqProofs
  refine ifD_in (fun hlt => ?_) (fun hge => ?_)
  · refine Exists.elim (show ∃ n, l[i]? = some n from ⟨_, List.getElem?_eq_getElem hlt⟩) fun n hn => ?_
    refine Exists.elim (show ∃ q, (hdU u)[i]? = some q from ⟨_, List.getElem?_eq_getElem (by omega)⟩) fun q hq => ?_
    have hs := hs_at hq
    have hy := hdI_y u.ss.length (Nat.le_refl _) q (List.mem_of_getElem? hq)
    have w1 : IntKind.i64.wrap ((i : Int) + 1) = (i : Int) + 1 := wrap_in (by omega) (by omega)
    simp -dsimp -implicitDefEqProofs [hn, hq]
    refine onCall_in vin1_fn ?_
    simp -dsimp -implicitDefEqProofs
    refine ifB_in (fun hb => ?_) (fun hb => ?_)
    · have hb' := inB_iff.1 hb
      simp -dsimp -implicitDefEqProofs [w1]
      refine again_in (i + 1) [0] ⟨by omega, fun k n' p' hk h1 h2 => ?_⟩ (by omega) ?_
      · by_cases hki : k = i
        · subst hki; rw [hn] at h1; rw [hs] at h2; cases h1; cases h2; omega
        · exact hok k n' p' (by omega) h1 h2
      simp -dsimp -implicitDefEqProofs
    · have hno : lotsOk u l = false := by
        refine Bool.eq_false_iff.2 fun hyes => ?_
        have := lotsOk_iff.1 hyes i n q.2 hn hs
        rw [hy] at this
        exact absurd (inB_iff.2 this) (by rw [hb]; simp)
      have e : loadE u l = 3 := by unfold loadE; rw [if_neg (by omega), if_pos hno]
      simp -dsimp -implicitDefEqProofs [e]
  · have hin : i = l.length := by omega
    have hyes : lotsOk u l = true := by
      refine lotsOk_iff.2 fun k n p h1 h2 => ?_
      have := (List.getElem?_eq_some_iff.1 h1).1
      exact hok k n p (by omega) h1 h2
    have e : loadE u l = 0 := by unfold loadE; rw [if_neg (by omega), if_neg (by simp [hyes])]
    simp -dsimp -implicitDefEqProofs [e]
end Go.Pe

/- How deep a ship lies, and what Volume and Float return. -/
namespace Go.Pe
open Go Go.Proofs Go.Proofs.YtffckclggkjbgaaGreat
set_option maxRecDepth 20000
set_option maxHeartbeats 8000000
attribute [local simp] t3 u3 t4 u4 t27 u27
attribute [local simp] ts22 us22 ts24 us24 ts72 us72 ts118 us118 ts120 us120 ts25 us25 ts75 us75 ts150 us150 ts224 us224 ts142 us142 ts140 us140 ts196 us196 ts34 us34 ts39 us39 ts198 us198 ts200 us200
attribute [local simp] convA extA lenA
attribute [local simp] fSec_eq fPt_eq shipC_eq fHd_eq hoAV_eq loadAV_eq shipNo_eq
theorem clean_ship {f1 f2 : Bool} {u : Hu} : (shipC f1 u (hoAV f2 u)).all clean = true := rfl
theorem clean1_ship {f1 f2 : Bool} {u : Hu} : (shipC f1 u (hoAV f2 u)).all clean1 = true := rfl
theorem meanC_fn {u : Hu} {f1 f2 : Bool} {need : Int} {i : Nat} {h : H} (o : OkU u) (hi : (i : Int) ≤ lim u) (h0 : h.get 0 = some (shipC f1 u (hoAV f2 u))) (h1 : h.get 1 = some [I need]) :
    Fn Tryz.prog 143 [I (i : Nat), .ptr 0 0, .ptr 1 0] h (B (decide (need ≤ vol u i))) h := by
  have base : Fn Tryz.prog 143 [I (i : Nat), .ptr 0 0, .ptr 1 0] (mkH [some (shipC f1 u (hoAV f2 u)), some [I need]]) (B (decide (need ≤ vol u i))) (mkH [some (shipC f1 u (hoAV f2 u)), some [I need]]) := by
    have := Fn.ofR (P := Tryz.prog) (f := 143) (cs0 := [shipC f1 u (hoAV f2 u), [I need]]) (cs1 := [shipC f1 u (hoAV f2 u), [I need]]) (args := [I (i : Nat), .ptr 0 0, .ptr 1 0]) (x := B (decide (need ≤ vol u i))) noM (by kernel_rfl) Tryz.func143 rfl (by simp) rfl (by simp) ?_
    · exact this
    simp -dsimp -implicitDefEqProofs
    refine DrawR.on {} (by kernel_rfl) (by simp) ?_
    simp -dsimp -implicitDefEqProofs
    refine onCallQ_in (volume_fn (u := u) (f1 := f1) (f2 := f2) (rows := (hdU u).map (fHd (long u))) (d := i) o (by omega) hi) ?_
    simp -dsimp -implicitDefEqProofs
  refine Fn.reads (cs0 := [shipC f1 u (hoAV f2 u), [I need]]) [0, 1] base (by simp) (by simp [h0, h1]) (by simp) (fun b hb cs hc => ?_) rfl
  simp at hb
  rcases hb with rfl | rfl
  · rw [h0] at hc; cases hc; rfl
  · rw [h1] at hc; cases hc; rfl
theorem mean_fn {u : Hu} {f1 f2 : Bool} {m d : Int} {h : H} (o : OkU u) (hm : 0 ≤ m ∧ m ≤ 1000000) (hd : 1 ≤ d ∧ d ≤ 10000) : Fn Tryz.prog 106 [.agg (shipC f1 u (hoAV f2 u)), I m, I d] h (I (meanZ u (cdiv (m * 1000) d) : Nat)) h := by
  refine Fn.beside ?_ rfl h
  refine Fn.ofR0 noM (by kernel_rfl) Tryz.func106 rfl (by simp) ?_
  have hl := lim_in o
  have v1 := wrap_in (n := m * 1000) (by omega) (by omega)
  refine Exists.elim (show ∃ N : Nat, N = (lim u).toNat + 1 from ⟨_, rfl⟩) fun N hN => ?_
  have v2 : IntKind.i64.wrap (lim u + 1) = (N : Int) := by rw [wrap_in (by omega) (by omega)]; omega
  have hs : ∀ h : H, h.get 0 = some (shipC f1 u (hoAV f2 u)) → h.get 1 = some [I (cdiv (m * 1000) d)] → Fn Tryz.prog 142 [I N, .clo 143 [.ptr 0 0, .ptr 1 0]] h (I (meanZ u (cdiv (m * 1000) d) : Nat)) h := fun h g0 g1 => by
    unfold meanZ
    rw [← hN]
    refine search_fn (P := fun d' => decide (cdiv (m * 1000) d ≤ vol u (d' : Nat))) (n := N) (by omega) (fun i hi => meanC_fn (f1 := f1) (f2 := f2) o (by omega) g0 g1) (fun i k hik hk hp => ?_)
    have := vol_mono (u := u) (d := i) (d' := k) o (by omega) (by omega) (by omega)
    have := of_decide_eq_true hp
    exact decide_eq_true (by omega)
  simp -dsimp -implicitDefEqProofs [v1]
  refine onCall_in (hceil_fn (by omega) (by omega)) ?_
  simp -dsimp -implicitDefEqProofs [v2]
  refine onCall_in (hs _ (by simp) (by simp)) ?_
  simp -dsimp -implicitDefEqProofs
noncomputable def mom (u : Hu) (l : List Int) : Int := moment u l l.length
noncomputable def trm (u : Hu) (l : List Int) : Int := cdiv (max (mom u l) (-mom u l)) (4 * trU u)
noncomputable def mZ (u : Hu) (l : List Int) (d : Int) : Int := (meanZ u (cdiv (mass u l l.length * 1000) d) : Nat)
noncomputable def floatC (u : Hu) (l : List Int) (b : Bd) : List AV := [I (mZ u l b.hi), I (mZ u l b.lo), I (mZ u l b.hi + trm u l), I (mZ u l b.lo + trm u l), I (sgn (mom u l))]
theorem floatC_eq {u : Hu} {l : List Int} {b : Bd} : floatC u l b = [I (mZ u l b.hi), I (mZ u l b.lo), I (mZ u l b.hi + trm u l), I (mZ u l b.lo + trm u l), I (sgn (mom u l))] := rfl
attribute [local simp] floatC_eq
theorem mZ_in {u : Hu} {l : List Int} {d : Int} (o : OkU u) : 0 ≤ mZ u l d ∧ mZ u l d ≤ lim u + 1 := by
  have := (firstN_is (P := fun d' => decide (cdiv (mass u l l.length * 1000) d ≤ vol u (d' : Nat))) (n := (lim u).toNat + 1)).le
  have := lim_in o
  unfold mZ meanZ
  omega
theorem trm_in {u : Hu} {l : List Int} (o : OkU u) (k : OkL u l) : 0 ≤ trm u l ∧ trm u l ≤ 100000000 := by
  have h1 := moment_in o k (n := l.length) (Nat.le_refl _)
  have h2 := trU_in o
  have h3 := cdiv_in (n := max (mom u l) (-mom u l)) (d := 4 * trU u) (by omega) (by omega)
  unfold mom at h3
  unfold trm mom
  omega
theorem float_fn {u : Hu} {l : List Int} {b : Bd} {f1 f2 f3 : Bool} {h : H} (o : OkU u) (k : OkL u l) (hb : vB 900 1100 b = true) :
    Fn Tryz.prog 64 [.agg (shipC f1 u (hoAV f2 u)), loadAV f3 l, .agg [I b.lo, I b.hi]] h (.tup [.agg (floatC u l b), B (decide (mZ u l b.lo + trm u l ≤ lim u))]) h := by
  refine Fn.beside ?_ rfl h
  refine Fn.ofR0 noM (by kernel_rfl) Tryz.func64 rfl (by simp) ?_
  have hb' := vB_iff.1 hb
  have hm := mass_in o k (n := l.length) (Nat.le_refl _)
  have hmo := moment_in o k (n := l.length) (Nat.le_refl _)
  have ht := trU_in o
  have htm := trm_in o k
  have hz1 := mZ_in (l := l) (d := b.lo) o
  have hz2 := mZ_in (l := l) (d := b.hi) o
  have hli := lim_in o
  have c1 : ∀ h, Fn Tryz.prog 103 [.agg (shipC f1 u (hoAV f2 u)), loadAV f3 l] h (.tup [I (mass u l l.length), I (mom u l)]) h := fun h => weigh_fn o k
  have c2 : ∀ h, Fn Tryz.prog 105 [I (mom u l)] h (I (max (mom u l) (-mom u l))) h := fun h => habs_fn (by unfold mom; omega)
  have c3 : ∀ h, Fn Tryz.prog 104 [I (max (mom u l) (-mom u l)), I (4 * trU u)] h (I (trm u l)) h := fun h => hceil_fn (by unfold mom; omega) (by omega)
  have c4 : ∀ d h, 900 ≤ d ∧ d ≤ 1100 → Fn Tryz.prog 106 [.agg (shipC f1 u (hoAV f2 u)), I (mass u l l.length), I d] h (I (mZ u l d)) h := fun d h hd => mean_fn o (by omega) (by omega)
  have c5 : ∀ h, Fn Tryz.prog 107 [I (mom u l), I 0] h (I (sgn (mom u l))) h := fun h => compare_fn
  have v1 := wrap_in (n := 4 * trU u) (by omega) (by omega)
  have v2 := wrap_in (n := mZ u l b.lo + trm u l) (by omega) (by omega)
  have v3 := wrap_in (n := mZ u l b.hi + trm u l) (by omega) (by omega)
  simp only [shipC_eq, hoAV_eq, loadAV_eq] at c1 c4
  simp -dsimp -implicitDefEqProofs
  refine onCall_in (c1 _) ?_
  simp -dsimp -implicitDefEqProofs
  refine DrawR.on {} (by kernel_rfl) (by simp) ?_
  simp -dsimp -implicitDefEqProofs [v1]
  refine onCallQ_in (c2 _) ?_
  simp -dsimp -implicitDefEqProofs [v1]
  refine onCallQ_in (c3 _) ?_
  simp -dsimp -implicitDefEqProofs
  refine DrawR.on { M := [2], eff := [(12, [2])] } (by kernel_rfl) (by simp) ?_
  simp -dsimp -implicitDefEqProofs
  refine onCallQ_in (c4 b.hi _ (by omega)) ?_
  simp -dsimp -implicitDefEqProofs
  refine onCallQ_in (c4 b.lo _ (by omega)) ?_
  simp -dsimp -implicitDefEqProofs [v2, v3]
  refine onCall_in (c5 _) ?_
  simp -dsimp -implicitDefEqProofs
  refine DrawR.on { M := [2], see := [(0, 2), (3, 2)], eff := [(7, [2])] } (by kernel_rfl) (by simp) ?_
  simp -dsimp -implicitDefEqProofs
theorem density_fn {b : Bd} {h : H} : Fn Tryz.prog 63 [.agg [I b.lo, I b.hi]] h (B (vB 900 1100 b)) h := by
  refine Fn.beside ?_ rfl h
  refine Fn.ofR0 noM (by kernel_rfl) Tryz.func63 rfl (by simp) ?_
  simp -dsimp -implicitDefEqProofs
  refine onCall_in (bnd_fn.beside rfl _) ?_
  simp -dsimp -implicitDefEqProofs
/-- The error of Volume. -/
noncomputable def vlE (u : Hu) (d : Int) : Int := if hullOk u = false then 2 else if inB 0 (lim u) d = false then 3 else 0
theorem Volume_fn {u : Hu} {d : Int} {f1 : Bool} {h : H} (hu : SmallU u) : Fn Tryz.prog 20 [.agg [I u.a, .ro f1 5 (u.ss.map fSec)], I d] h (.tup [I (if vlE u d = 0 then vol u d else 0), I (vlE u d)]) h := by
  refine Fn.beside ?_ rfl h
  refine Fn.ofR0 noM (by kernel_rfl) Tryz.func20 rfl (by simp) ?_
  simp -dsimp -implicitDefEqProofs
  refine (Bool.eq_false_or_eq_true (hullOk u)).elim (fun hok => ?_) (fun hok => ?_)
  · have o := okU hok
    refine onCall_in ((newShip_fn (f1 := f1) hu hok).beside rfl _) ?_
    simp -dsimp -implicitDefEqProofs
    refine onCall_in vin1_fn ?_
    simp -dsimp -implicitDefEqProofs
    refine ifB_in (fun hb => ?_) (fun hb => ?_)
    · have hb' := inB_iff.1 hb
      have e : vlE u d = 0 := by simp [vlE, hok, hb]
      simp -dsimp -implicitDefEqProofs
      refine onCall_in (volume_fn (u := u) (f1 := f1) (rows := (hdU u).map (fHd (long u))) o hb'.1 hb'.2) ?_
      simp -dsimp -implicitDefEqProofs [e]
    · have e : vlE u d = 3 := by simp [vlE, hok, hb]
      simp -dsimp -implicitDefEqProofs [e]
  · have e : vlE u d = 2 := by simp [vlE, hok]
    refine onCall_in ((newShip_bad (f1 := f1) hu hok).beside rfl _) ?_
    simp -dsimp -implicitDefEqProofs [e]
/-- The error of Float. -/
noncomputable def fltE (u : Hu) (l : List Int) (b : Bd) : Int := if hullOk u = false then 2 else if loadE u l ≠ 0 then loadE u l else if vB 900 1100 b = false then 2 else if mZ u l b.lo + trm u l ≤ lim u then 0 else 8
noncomputable def floatR (u : Hu) (l : List Int) (b : Bd) : List AV := if fltE u l b = 0 then floatC u l b else [I 0, I 0, I 0, I 0, I 0]
theorem Float_fn {u : Hu} {l : List Int} {b : Bd} {f1 f3 : Bool} {h : H} (hu : SmallU u) (hl : (l.length : Int) ≤ 1000) : Fn Tryz.prog 21 [.agg [I u.a, .ro f1 5 (u.ss.map fSec)], loadAV f3 l, .agg [I b.lo, I b.hi]] h (.tup [.agg (floatR u l b), I (fltE u l b)]) h := by
  refine Fn.beside ?_ rfl h
  refine Fn.ofR0 noM (by kernel_rfl) Tryz.func21 rfl (by simp) ?_
  simp -dsimp -implicitDefEqProofs
  refine (Bool.eq_false_or_eq_true (hullOk u)).elim (fun hok => ?_) (fun hok => ?_)
  rotate_left
  · have e : fltE u l b = 2 := by simp [fltE, hok]
    have e2 : floatR u l b = [I 0, I 0, I 0, I 0, I 0] := by unfold floatR; rw [if_neg (by omega)]
    refine onCall_in ((newShip_bad (f1 := f1) hu hok).beside rfl _) ?_
    simp -dsimp -implicitDefEqProofs [e, e2]
  have o := okU hok
  refine onCall_in ((newShip_fn (f1 := f1) hu hok).beside rfl _) ?_
  simp -dsimp -implicitDefEqProofs
  refine onCall_in (checkLoad_fn (f1 := f1) (f2 := isz (hdU u).length) (f3 := f3) o hl) ?_
  refine (Classical.em (loadE u l = 0)).elim (fun hle => ?_) (fun hle => ?_)
  rotate_left
  · have n1 : (loadE u l != 0) = true := by simpa using hle
    have e : fltE u l b = loadE u l := by simp [fltE, hok, hle]
    have e2 : floatR u l b = [I 0, I 0, I 0, I 0, I 0] := by unfold floatR; rw [if_neg (by omega)]
    simp -dsimp -implicitDefEqProofs [n1, e, e2]
  have k := loadE_ok hle
  simp -dsimp -implicitDefEqProofs [hle]
  refine onCall_in density_fn ?_
  simp -dsimp -implicitDefEqProofs
  refine ifB_in (fun hb => ?_) (fun hb => ?_)
  rotate_left
  · have e : fltE u l b = 2 := by simp [fltE, hok, hle, hb]
    have e2 : floatR u l b = [I 0, I 0, I 0, I 0, I 0] := by unfold floatR; rw [if_neg (by omega)]
    simp -dsimp -implicitDefEqProofs [e, e2]
  simp -dsimp -implicitDefEqProofs
  refine onCall_in (float_fn (f1 := f1) (f2 := isz (hdU u).length) (f3 := f3) o k hb) ?_
  refine (Classical.em (mZ u l b.lo + trm u l ≤ lim u)).elim (fun hf => ?_) (fun hf => ?_)
  · have e : fltE u l b = 0 := by simp [fltE, hok, hle, hb, hf]
    have e2 : floatR u l b = floatC u l b := by unfold floatR; rw [if_pos e]
    simp -dsimp -implicitDefEqProofs [e, e2, hf]
  · have e : fltE u l b = 8 := by simp [fltE, hok, hle, hb, hf]
    have e2 : floatR u l b = [I 0, I 0, I 0, I 0, I 0] := by unfold floatR; rw [if_neg (by omega)]
    simp -dsimp -implicitDefEqProofs [e, e2, hf]
end Go.Pe

/- The first row of a curve beyond a flow. -/
namespace Go.Pe
open Go Go.Proofs Go.Proofs.YtffckclggkjbgaaGreat
attribute [local simp] ap_skip ap_region ap_seq ap_cond ap_block ap_loop ap_exit ap_ret ap_seq_normal ap_seq_ret ap_seq_exit ap_block_normal ap_block_ret ap_block_exit ap_block_other ap_nil ap_draw ap_dr_nil ap_fin_ret ap_fin_normal ap_loopK dstT_zero dstT_succ Nat.add_assoc onSome_some onSome_none ifB_true ifB_false ifB_not onClo_clo onBool_bool onBool_tup frz_val frz_ro takeAt elemTy LeN_refl LeN_push LeN_set push_get push_next set_get set_next nil_get nil_next pop_move pop_assign pop_pick pop_load pop_fieldAddr pop_indexAddr pop_field pop_binOp pop_unOp pop_convert pop_extract pop_makeFunc pop_nilCheck pop_build pop_slice pop_len pop_max pop_min eop_alloc eop_box eop_store eop_buildSlice eop_makeSlice eop_append as_move as_assign as_pick as_load as_fieldAddr as_indexAddr as_field as_binOp as_unOp as_convert as_extract as_makeFunc as_nilCheck as_build as_slice as_len as_max as_min as_alloc as_box as_store as_buildSlice as_makeSlice as_append as_call cons_free cons_guard putA_some putA_none aev_tmp aev_int aev_bool aev_nil aev_func pickA_and pickA_or pickA_true pickA_false nnA_ptr nnA_rop idxA_some intOf_int boxA_some bin_int binI_add binI_sub binI_mul binI_quo binI_rem binI_eql binI_neq binI_lss binI_leq binI_gtr binI_geq unA_not unA_neg loadA_ptr loadA_rop loadO_some asLoaded_agg asLoaded_one resA_one resA_two resOne_tmp resOne_cell cellsOf_int cellsOf_bool cellsOf_clo cellsOf_ptr cellsOf_ro cellsOf_sl cellsOf_nil cellsOf_agg one_int one_bool one_nil one_clo one_ptr one_ro one_sl one_rop mm_max mm_min elS_sl elS2_sl mkA_some chunk_zero chunk_succ zcells_zero zcells_succ clean_val clean_ro clean_rop clean1_val clean1_ro clean1_rop flat_val flat_ro flat_agg frz_agg frz_tup
attribute [local simp] t3 u3 t4 u4 t5 u5 t22 u22 t23 u23 t25 u25 t27 u27 t28 u28 t30 u30 t32 u32   t37 u37 t43 u43     t50 u50   t75 u75 t77 u77     t94 u94   t102 u102 t117 u117 t119 u119     t130 u130 t134 u134 t138 u138   t155 u155 t156 u156   t172 u172
attribute [local simp] lenA_ro indexA_ro fieldA
set_option maxRecDepth 20000

theorem indexFunc_rows {f : FuncId} {caps : List AV} {h : H} {p : List AV → Bool} {xs : List (List AV)} {fu : Bool} (hlen : (xs.length : Int) < 2^62) (hk : ∀ r ∈ xs, r.length = 2) (hF : ∀ x ∈ xs, Fn Tryz.prog f ([AV.agg x] ++ caps) h (B (p x)) h) :
    Fn Tryz.prog 189 [.ro fu 2 xs, .clo f caps] h (I (idx p xs)) h := by
  refine Fn.keep noM noC (by kernel_rfl) Tryz.func189 rfl rfl fun _ => ?_
  simp -dsimp -implicitDefEqProofs
  refine LoopC.on (σ := Nat) (fun i j => [.ro fu 2 xs, .clo f caps, j 2, j 3, j 4, j 5, j 6, I xs.length, I i, j 9, j 10, j 11, j 12, j 13, j 14, j 15, j 16, j 17, j 18])
    (fun i k => k = h ∧ i ≤ xs.length ∧ ∀ q, q < i → ∀ x, xs[q]? = some x → p x = false) (fun i => xs.length - i) 0 ⟨rfl, by omega, fun q hq => by omega⟩ (by simp) ?_
  rintro i j h' ⟨rfl, hi, hp⟩
  simp -dsimp -implicitDefEqProofs
  refine ifD_in (fun hlt => ?_) (fun hge => ?_)
  · have hx := List.getElem?_eq_getElem (show i < xs.length by omega)
    have hl := hk _ (List.getElem_mem (show i < xs.length by omega))
    have ht : xs[i].take 2 = xs[i] := List.take_of_length_le (by omega)
    simp -dsimp -implicitDefEqProofs [hx, hl, ht]
    refine onCall_in (hF _ (List.getElem_mem (by omega))) ?_
    simp -dsimp -implicitDefEqProofs
    refine ifB_in (fun hb => ?_) (fun hb => ?_)
    · simp -dsimp -implicitDefEqProofs [idx_hit hx hb hp]
    simp -dsimp -implicitDefEqProofs
    refine ⟨i + 1, ⟨by omega, fun q hq x hqx => ?_⟩, ?_, by omega⟩
    · by_cases hqi : q = i
      · subst hqi; rw [hx] at hqx; cases hqx; simpa using hb
      · exact hp q (by omega) x hqx
    · rw [wrap_in (by omega) (by omega)]; omega
  · simp -dsimp -implicitDefEqProofs
    exact (idx_miss fun q hq => hp q (by omega)).symm
theorem curve1_fn {w : Rw} {f : Int} {h : H} {b : Nat} (hb : h.get b = some [I f]) : Fn Tryz.prog 190 [.agg (fW w), .ptr b 0] h (B (decide (f < w.flow))) h := by
  refine Fn.keep noM noC (by kernel_rfl) Tryz.func190 rfl rfl fun live => ?_
  have hne : ¬ b = h.next := by have := (live.1 b _ hb).1; omega
  simp -dsimp -implicitDefEqProofs [hb, hne, fW_eq]
def fPr (f : Int) (r : List AV) : Bool := match r with
  | [.val (.int _ a), _] => decide (f < a)
  | _ => false
theorem above_fn {l : List Rw} {f : Int} {fu : Bool} {h : H} {b : Nat} (hb : h.get b = some [I f]) (hl : (l.length : Int) < 2^62) : Fn Tryz.prog 189 [.ro fu 2 (l.map fW), .clo 190 [.ptr b 0]] h (I (idx (fun w => decide (f < w.flow)) l)) h := by
  have := indexFunc_rows (f := 190) (caps := [.ptr b 0]) (h := h) (p := fPr f) (xs := l.map fW) (fu := fu) (by simpa using hl) (by simp [fW_eq]) (fun r hr => by
    obtain ⟨w, _, rfl⟩ := List.mem_map.1 hr
    exact curve1_fn hb)
  have e : idx (fPr f) (l.map fW) = idx (fun w => decide (f < w.flow)) l := by
    unfold idx
    rw [List.findIdx?_map]
    rfl
  rwa [e] at this
end Go.Pe
