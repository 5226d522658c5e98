import Derived.Test.YtffckclggkjbgaaGreatY26
import Derived.Test.YtffckclggkjbgaaGreatY09
import Derived.Test.YtffckclggkjbgaaGreatRows
set_option linter.unusedVariables false
set_option linter.unusedSimpArgs false
/- The holds of a hull, from the hull's end. -/
namespace Go.Pe
open Go Go.Proofs Go.Proofs.YtffckclggkjbgaaGreat
attribute [local simp] t3 u3 t4 u4
attribute [local simp] ts22 us22 ts24 us24 ts72 us72 ts118 us118 ts120 us120 ts25 us25 ts75 us75 ts150 us150
attribute [local simp] convA extA lenA
set_option maxRecDepth 20000
set_option maxHeartbeats 8000000
attribute [local simp] fSec_eq fPt_eq
def moved (o : Int) (q : Pt) : Pt := ⟨o + q.x, q.y⟩
def hsI (l : List Sec) : Nat → List Pt
  | 0 => []
  | i + 1 => match l[i]? with
    | some s => hsI l i ++ s.qs.map (moved (sumI Sec.a l i))
    | none => hsI l i
theorem hsI_succ {l : List Sec} {i : Nat} {s : Sec} (h : l[i]? = some s) : hsI l (i + 1) = hsI l i ++ s.qs.map (moved (sumI Sec.a l i)) := by simp [hsI, h]
theorem hsI_len {l : List Sec} (hq : ∀ s ∈ l, s.qs.length ≤ 8) : ∀ i, i ≤ l.length → (hsI l i).length ≤ 8 * i
  | 0, _ => by simp [hsI]
  | i + 1, hi => by
    have hx : ∃ p, l[i]? = some p := ⟨_, List.getElem?_eq_getElem (by omega)⟩
    obtain ⟨p, hx⟩ := hx
    have := hsI_len hq i (by omega)
    have := hq p (List.mem_of_getElem? hx)
    rw [hsI_succ hx, List.length_append, List.length_map]
    omega
theorem rHolds_fn {u : Hu} {f1 : Bool} {h : H} (hn : u.ss.length ≤ 10) (hl : ∀ s ∈ u.ss, 0 ≤ s.a ∧ s.a ≤ 1000) (hq : ∀ s ∈ u.ss, s.qs.length ≤ 8) (hx : ∀ s ∈ u.ss, ∀ q ∈ s.qs, 0 ≤ q.x ∧ q.x ≤ 1000) :
    Fn Tryz.prog 37 [.agg [I u.a, .ro f1 5 (u.ss.map fSec)]] h (.ro (isz (hsI u.ss u.ss.length).length) 2 ((hsI u.ss u.ss.length).map fPt)) h := by
  refine Fn.beside ?_ rfl h
  refine Fn.ofR0 (butM []) (by kernel_rfl) Tryz.func37 rfl (by simp) ?_
  simp -dsimp -implicitDefEqProofs
  refine LoopCR.on 55 (fun i => [(1, .ptr 0 0), (3, grow 1 2 (hsI u.ss i).length), (4, I (sumI Sec.a u.ss i)), (5, I (i : Nat))]) (fun i => [some [I u.a, .ro f1 5 (u.ss.map fSec)], grown (hsI u.ss i).length (rws fPt (hsI u.ss i))]) (fun i => i ≤ u.ss.length) (fun i => u.ss.length - i) 0 [0, 99] (by simp) ?_ ?_
  · simp -dsimp -implicitDefEqProofs [hsI, sumI]
  intro i j hi
  simp -dsimp -implicitDefEqProofs
  refine ifD_in (fun hlt => ?_) (fun hge => ?_)
  · refine Exists.elim (show ∃ s, u.ss[i]? = some s from ⟨_, List.getElem?_eq_getElem hlt⟩) fun s hs => ?_
    have hm := List.mem_of_getElem? hs
    have hb := sumI_in (f := Sec.a) hl i hi
    have hs1 := hl s hm
    have hlen := hsI_len hq i hi
    have hqs := hq s hm
    have w1 : IntKind.i64.wrap ((i : Int) + 1) = (i : Int) + 1 := wrap_in (by omega) (by omega)
    have w2 : IntKind.i64.wrap (sumI Sec.a u.ss i + s.a) = sumI Sec.a u.ss (i + 1) := by rw [sumI_succ hs]; exact wrap_in (by omega) (by omega)
    refine Exists.elim (show ∃ T : Nat → List Pt, T = fun k => hsI u.ss i ++ (s.qs.take k).map (moved (sumI Sec.a u.ss i)) from ⟨_, rfl⟩) fun T hT => ?_
    have hT0 : T 0 = hsI u.ss i := by rw [hT]; simp
    have hTe : T s.qs.length = hsI u.ss (i + 1) := by rw [hT, hsI_succ hs]; simp
    have hTl : ∀ k, k ≤ s.qs.length → (T k).length ≤ 88 := fun k hk => by rw [hT]; simp only [List.length_append, List.length_map, List.length_take]; omega
    have hTs : ∀ (k : Nat) (q : Pt), s.qs[k]? = some q → T (k + 1) = T k ++ [moved (sumI Sec.a u.ss i) q] := fun k q hk => by rw [hT]; simp only; rw [List.take_add_one, hk]; simp
    simp -dsimp -implicitDefEqProofs
    refine LoopCR.on 55 (fun k => [(1, .ptr 0 0), (3, grow 1 2 (T k).length), (4, I (sumI Sec.a u.ss i)), (5, I (i : Nat)), (6, I (k : Nat))]) (fun k => [some [I u.a, .ro f1 5 (u.ss.map fSec)], grown (T k).length (rws fPt (T k))]) (fun k => k ≤ s.qs.length) (fun k => s.qs.length - k) 0 [0, 1] (by simp) ?_ ?_
    · simp -dsimp -implicitDefEqProofs [hT0]
    intro k jk hk
    simp -dsimp -implicitDefEqProofs [hs]
    refine ifD_in (fun hkl => ?_) (fun hkg => ?_)
    · refine Exists.elim (show ∃ q, s.qs[k]? = some q from ⟨_, List.getElem?_eq_getElem hkl⟩) fun q hq2 => ?_
      have hqx := hx s hm q (List.mem_of_getElem? hq2)
      have wk : IntKind.i64.wrap ((k : Int) + 1) = (k : Int) + 1 := wrap_in (by omega) (by omega)
      have wq : IntKind.i64.wrap (sumI Sec.a u.ss i + q.x) = sumI Sec.a u.ss i + q.x := wrap_in (by omega) (by omega)
      have hTk := hTl k hk
      have hst := hTs k q hq2
      have hTn : (T (k + 1)).length = (T k).length + 1 := by rw [hst]; simp
      simp -dsimp -implicitDefEqProofs [hs, hq2, wq]
      refine on_append fPt (T k) (moved (sumI Sec.a u.ss i) q) (by simp) rfl (show ((T k).length + 1) * 16 ≤ 70368744177664 by omega) (by omega) rfl rfl (by simp) rfl (fun _ => rfl) ?_ (by simp)
      simp -dsimp -implicitDefEqProofs [wk]
      refine again_in (k + 1) [0, 3] (by omega) (by omega) ?_
      simp -dsimp -implicitDefEqProofs [hst]
    · have hke : k = s.qs.length := by omega
      simp -dsimp -implicitDefEqProofs [hs, w1, w2]
      refine again_in (i + 1) [0, 1] (by omega) (by omega) ?_
      simp -dsimp -implicitDefEqProofs [hke, hTe]
  · have hin : i = u.ss.length := by omega
    simp -dsimp -implicitDefEqProofs [hin]
    exact frz_rws (f := fPt) (l := hsI u.ss u.ss.length) (by simp [mkH]) (Nat.zero_le _) rfl (fun _ => rfl) (fun _ => rfl)
end Go.Pe

/- What the numbers of a ship are: volumes at a draft, masses, moments, drafts. -/
namespace Go.Pe
open Go Go.Proofs Go.Proofs.YtffckclggkjbgaaGreat

/-- The row at which a curve first reaches a draft, the first one left out. -/
def IsK (l : List Pt) (d : Int) (k : Nat) : Prop := 1 ≤ k ∧ (∃ b, l[k]? = some b ∧ d ≤ b.x) ∧ ∀ q, 1 ≤ q → q < k → ∀ b, l[q]? = some b → b.x < d
def segV (a b : Pt) (d : Int) : Int := a.y + ((d - a.x) * (b.y - a.y)).tdiv (b.x - a.x)
open Classical in
noncomputable def volS (l : List Pt) (d : Int) : Int := if h : ∃ k, IsK l d k then (match l[h.choose - 1]?, l[h.choose]? with | some a, some b => segV a b d | _, _ => 0) else 0
theorem IsK_uniq {l : List Pt} {d : Int} {k k' : Nat} (h : IsK l d k) (h' : IsK l d k') : k = k' := by
  obtain ⟨h1, ⟨b, h2, h3⟩, h4⟩ := h
  obtain ⟨h1', ⟨b', h2', h3'⟩, h4'⟩ := h'
  rcases Nat.lt_trichotomy k k' with c | c | c
  · have := h4' k h1 c b h2; omega
  · exact c
  · have := h4 k' h1' c b' h2'; omega
theorem volS_eq {l : List Pt} {d : Int} {k : Nat} {a b : Pt} (hk : IsK l d k) (ha : l[k - 1]? = some a) (hb : l[k]? = some b) : volS l d = segV a b d := by
  have h : ∃ k, IsK l d k := ⟨k, hk⟩
  unfold volS
  rw [dif_pos h, IsK_uniq h.choose_spec hk, ha, hb]
theorem least_of {P : Nat → Prop} {n : Nat} (h : P n) : ∃ k, k ≤ n ∧ P k ∧ ∀ m, m < k → ¬ P m := by
  induction n using Nat.strongRecOn with
  | _ n ih =>
    by_cases hx : ∃ m, m < n ∧ P m
    · obtain ⟨m, h1, h2⟩ := hx
      obtain ⟨k, h3, h4⟩ := ih m h1 h2
      exact ⟨k, by omega, h4⟩
    · exact ⟨n, Nat.le_refl _, h, fun m hm hp => hx ⟨m, hm, hp⟩⟩
theorem up_mono {l : List Pt} (hu : upC l (l.length - 1)) {i : Nat} {p : Pt} (hp : l[i]? = some p) : ∀ (n : Nat) (q : Pt), l[i + n]? = some q → p.x + n ≤ q.x ∧ p.y + n ≤ q.y
  | 0, q, hq => by rw [Nat.add_zero, hp] at hq; cases hq; simp
  | n + 1, q, hq => by
    have hlt := (List.getElem?_eq_some_iff.1 hq).1
    have hr : l[i + n]? = some l[i + n] := List.getElem?_eq_getElem (by omega)
    have h1 := up_mono hu hp n _ hr
    have h2 := hu (i + n) _ q (by omega) hr hq
    omega
theorem up_le {l : List Pt} (hu : upC l (l.length - 1)) {i j : Nat} {p q : Pt} (hij : i ≤ j) (hp : l[i]? = some p) (hq : l[j]? = some q) : p.x ≤ q.x ∧ p.y ≤ q.y := by
  have := up_mono hu hp (j - i) q (by rw [show i + (j - i) = j by omega]; exact hq)
  omega
theorem up_lt {l : List Pt} (hu : upC l (l.length - 1)) {i j : Nat} {p q : Pt} (hij : i < j) (hp : l[i]? = some p) (hq : l[j]? = some q) : p.x < q.x ∧ p.y < q.y := by
  have := up_mono hu hp (j - i) q (by rw [show i + (j - i) = j by omega]; exact hq)
  omega
/-- What is known of each row of a curve. -/
theorem cv_row {l : List Pt} (hc : hullCv l = true) {i : Nat} {p : Pt} (hp : l[i]? = some p) : (0 ≤ p.x ∧ p.x ≤ 1000) ∧ 0 ≤ p.y ∧ p.y ≤ 100000 := by
  obtain ⟨h1, ⟨p0, h2, h3, h4⟩, hu, pe, h5, h6, h7⟩ := hullCv_iff.1 hc
  have hlt := (List.getElem?_eq_some_iff.1 hp).1
  have a := up_le hu (Nat.zero_le i) h2 hp
  have b := up_le hu (show i ≤ l.length - 1 by omega) hp h5
  omega
theorem cv_len {l : List Pt} (hc : hullCv l = true) : 2 ≤ l.length ∧ l.length ≤ 20 := by
  have := inB_iff.1 (hullCv_iff.1 hc).1
  omega
def lastP (l : List Pt) : Int := match l[l.length - 1]? with
  | some p => p.x
  | none => 0
theorem lastX_eq {s : Sec} : lastX s = lastP s.ps := rfl
theorem lastP_in {l : List Pt} (hc : hullCv l = true) : 0 < lastP l ∧ lastP l ≤ 1000 := by
  obtain ⟨h1, ⟨p0, h2, h3, h4⟩, hu, pe, h5, h6, h7⟩ := hullCv_iff.1 hc
  have hl := cv_len hc
  have := up_lt hu (show 0 < l.length - 1 by omega) h2 h5
  unfold lastP
  rw [h5]
  simp only
  omega
/-- Each draft up to the last one has its row. -/
theorem k_some {l : List Pt} {d : Int} (hc : hullCv l = true) (hd : d ≤ lastP l) : ∃ k a b, IsK l d k ∧ k < l.length ∧ l[k - 1]? = some a ∧ l[k]? = some b ∧ a.x < b.x ∧ a.y < b.y ∧ d ≤ b.x ∧ (0 ≤ d → a.x ≤ d) := by
  obtain ⟨h1, ⟨p0, h2, h3, h4⟩, hu, pe, h5, h6, h7⟩ := hullCv_iff.1 hc
  have hl := cv_len hc
  have hd' : d ≤ pe.x := by unfold lastP at hd; rw [h5] at hd; exact hd
  obtain ⟨k, hk1, ⟨hk2, b, hb, hdb⟩, hk3⟩ := least_of (P := fun k => 1 ≤ k ∧ ∃ b, l[k]? = some b ∧ d ≤ b.x) (n := l.length - 1) ⟨by omega, pe, h5, hd'⟩
  have ha : l[k - 1]? = some l[k - 1] := List.getElem?_eq_getElem (by omega)
  have hlt := up_lt hu (show k - 1 < k by omega) ha hb
  have hlow : ∀ q, 1 ≤ q → q < k → ∀ b, l[q]? = some b → b.x < d := fun q h1 h2 b h3 => by
    by_cases hx : b.x < d
    · exact hx
    · exact absurd ⟨h1, b, h3, by omega⟩ (hk3 q h2)
  refine ⟨k, _, b, ⟨hk2, ⟨b, hb, hdb⟩, hlow⟩, by omega, ha, hb, hlt.1, hlt.2, hdb, fun h0 => ?_⟩
  by_cases h1k : k = 1
  · have : l[k - 1] = p0 := by
      have : some l[k - 1] = some p0 := by rw [← ha, ← h2, h1k]
      exact Option.some.inj this
    rw [this]; omega
  · have := hlow (k - 1) (by omega) (by omega) _ ha
    omega
theorem seg_in {a b : Pt} {d : Int} (h1 : a.x < b.x) (h2 : a.y < b.y) (h3 : a.x ≤ d) (h4 : d ≤ b.x) : a.y ≤ segV a b d ∧ segV a b d ≤ b.y := by
  unfold segV
  have hn : 0 ≤ (d - a.x) * (b.y - a.y) := Int.mul_nonneg (by omega) (by omega)
  rw [Int.tdiv_eq_ediv_of_nonneg hn]
  have e1 : 0 ≤ (d - a.x) * (b.y - a.y) / (b.x - a.x) := Int.ediv_nonneg hn (by omega)
  have e2 : (d - a.x) * (b.y - a.y) / (b.x - a.x) ≤ b.y - a.y := by
    refine Int.ediv_le_of_le_mul (by omega) ?_
    rw [Int.mul_comm (b.y - a.y)]
    exact Int.mul_le_mul_of_nonneg_right (by omega) (by omega)
  omega
theorem seg_mono {a b : Pt} {d d' : Int} (h1 : a.x < b.x) (h2 : a.y < b.y) (h3 : a.x ≤ d) (h4 : d ≤ d') : segV a b d ≤ segV a b d' := by
  unfold segV
  have hn : 0 ≤ (d - a.x) * (b.y - a.y) := Int.mul_nonneg (by omega) (by omega)
  have hn' : 0 ≤ (d' - a.x) * (b.y - a.y) := Int.mul_nonneg (by omega) (by omega)
  rw [Int.tdiv_eq_ediv_of_nonneg hn, Int.tdiv_eq_ediv_of_nonneg hn']
  have := Int.ediv_le_ediv (c := b.x - a.x) (by omega) (Int.mul_le_mul_of_nonneg_right (show d - a.x ≤ d' - a.x by omega) (show 0 ≤ b.y - a.y by omega))
  omega
theorem volS_in {l : List Pt} {d : Int} (hc : hullCv l = true) (h0 : 0 ≤ d) (hd : d ≤ lastP l) : 0 ≤ volS l d ∧ volS l d ≤ 100000 := by
  obtain ⟨k, a, b, hk, hkl, ha, hb, hx, hy, hdb, hda⟩ := k_some hc hd
  have := cv_row hc ha
  have := cv_row hc hb
  have := seg_in hx hy (hda h0) hdb
  rw [volS_eq hk ha hb]
  omega
theorem volS_mono {l : List Pt} {d d' : Int} (hc : hullCv l = true) (h0 : 0 ≤ d) (hdd : d ≤ d') (hd : d' ≤ lastP l) : volS l d ≤ volS l d' := by
  obtain ⟨k, a, b, hk, hkl, ha, hb, hx, hy, hdb, hda⟩ := k_some hc (d := d) (by omega)
  obtain ⟨k', a', b', hk', hkl', ha', hb', hx', hy', hdb', hda'⟩ := k_some hc hd
  rw [volS_eq hk ha hb, volS_eq hk' ha' hb']
  have hu := (hullCv_iff.1 hc).2.2.1
  rcases Nat.lt_trichotomy k k' with c | c | c
  · have h1 := seg_in hx hy (hda h0) hdb
    have h2 := seg_in hx' hy' (hda' (by omega)) hdb'
    have h3 := up_le hu (show k ≤ k' - 1 by omega) hb ha'
    omega
  · subst c
    rw [ha] at ha'; rw [hb] at hb'
    cases ha'; cases hb'
    exact seg_mono hx hy (hda h0) hdd
  · exact absurd (hk.2.2 k' hk'.1 c b' hb') (by omega)
theorem sumI_inm {f : Sec → Int} {m : Nat} {l : List Sec} (hf : ∀ s ∈ l, 0 ≤ f s ∧ f s ≤ m) : ∀ i, i ≤ l.length → 0 ≤ sumI f l i ∧ sumI f l i ≤ m * i
  | 0, _ => by simp [sumI]
  | i + 1, hi => by
    have hx : ∃ p, l[i]? = some p := ⟨_, List.getElem?_eq_getElem (by omega)⟩
    obtain ⟨p, hx⟩ := hx
    have h1 := sumI_inm hf i (by omega)
    have h2 := hf p (List.mem_of_getElem? hx)
    rw [sumI_succ hx, Int.natCast_add, Int.mul_add]
    simp only [Int.natCast_one, Int.mul_one]
    omega
theorem sumI_mono {f g : Sec → Int} {l : List Sec} (hf : ∀ s ∈ l, f s ≤ g s) : ∀ i, i ≤ l.length → sumI f l i ≤ sumI g l i
  | 0, _ => by simp [sumI]
  | i + 1, hi => by
    have hx : ∃ p, l[i]? = some p := ⟨_, List.getElem?_eq_getElem (by omega)⟩
    obtain ⟨p, hx⟩ := hx
    have h1 := sumI_mono hf i (by omega)
    have h2 := hf p (List.mem_of_getElem? hx)
    rw [sumI_succ hx, sumI_succ hx]
    omega
theorem limI_le {l : List Sec} : ∀ i, i ≤ l.length → limI l i ≤ 1000 ∧ ∀ j s, j < i → l[j]? = some s → limI l i ≤ lastX s
  | 0, _ => ⟨by simp [limI], fun j s h => by omega⟩
  | i + 1, hi => by
    have hx : ∃ p, l[i]? = some p := ⟨_, List.getElem?_eq_getElem (by omega)⟩
    obtain ⟨p, hx⟩ := hx
    have h1 := limI_le (l := l) i (by omega)
    rw [limI_succ hx]
    refine ⟨by omega, fun j s hj hs => ?_⟩
    by_cases hji : j = i
    · subst hji; rw [hx] at hs; cases hs; omega
    · have := h1.2 j s (by omega) hs; omega
theorem limI_pos {l : List Sec} (hl : ∀ s ∈ l, 0 < lastX s) : ∀ i, i ≤ l.length → 0 < limI l i
  | 0, _ => by simp [limI]
  | i + 1, hi => by
    have hx : ∃ p, l[i]? = some p := ⟨_, List.getElem?_eq_getElem (by omega)⟩
    obtain ⟨p, hx⟩ := hx
    have h1 := limI_pos hl i (by omega)
    have h2 := hl p (List.mem_of_getElem? hx)
    rw [limI_succ hx]
    omega
/-- What is known of a valid hull. -/
structure OkU (u : Hu) : Prop where
  lot : 1 ≤ u.a ∧ u.a ≤ 1000
  n : 1 ≤ u.ss.length ∧ u.ss.length ≤ 6
  sec : ∀ s ∈ u.ss, (1 ≤ s.a ∧ s.a ≤ 100) ∧ (0 ≤ s.b ∧ s.b ≤ 10000) ∧ (1 ≤ s.c ∧ s.c ≤ 100000) ∧ hullCv s.ps = true ∧ ∀ q ∈ s.qs, (0 ≤ q.x ∧ q.x ≤ s.a) ∧ 0 ≤ q.y ∧ q.y ≤ 20
  len : sumI Sec.a u.ss u.ss.length ≤ 200
  many : sumI (fun s => (s.qs.length : Int)) u.ss u.ss.length ≤ 4
theorem okU {u : Hu} (h : hullOk u = true) : OkU u := by
  simp only [hullOk, Bool.and_eq_true, decide_eq_true_eq] at h
  obtain ⟨h1, h2, h3, h4, h5⟩ := h
  refine ⟨inB_iff.1 h1, ?_, fun s hs => ?_, h4, h5⟩
  · have := inB_iff.1 h2; omega
  · have := List.all_eq_true.1 h3 s hs
    simp only [secOk, Bool.and_eq_true] at this
    obtain ⟨g1, g2, g3, g4, g5⟩ := this
    refine ⟨inB_iff.1 g1, inB_iff.1 g2, inB_iff.1 g3, g4, fun q hq => ?_⟩
    have := List.all_eq_true.1 g5 q hq
    simp only [holdOk, Bool.and_eq_true] at this
    exact ⟨inB_iff.1 this.1, inB_iff.1 this.2⟩
/-- How deep a hull may lie. -/
def lim (u : Hu) : Int := limI u.ss u.ss.length
theorem lim_in {u : Hu} (o : OkU u) : 0 < lim u ∧ lim u ≤ 1000 := ⟨limI_pos (fun s hs => (lastP_in (o.sec s hs).2.2.2.1).1) _ (Nat.le_refl _), (limI_le _ (Nat.le_refl _)).1⟩
theorem lim_le {u : Hu} {s : Sec} (hs : s ∈ u.ss) : lim u ≤ lastP s.ps := by
  obtain ⟨j, hj, e⟩ := List.getElem_of_mem hs
  exact (limI_le u.ss.length (Nat.le_refl _)).2 j s hj (by rw [List.getElem?_eq_getElem hj, e])
/-- How much water a hull displaces at a draft. -/
noncomputable def vol (u : Hu) (d : Int) : Int := sumI (fun s => volS s.ps d) u.ss u.ss.length
theorem vol_in {u : Hu} {d : Int} (o : OkU u) (h0 : 0 ≤ d) (hd : d ≤ lim u) : 0 ≤ vol u d ∧ vol u d ≤ 600000 := by
  have h := sumI_inm (f := fun s => volS s.ps d) (m := 100000) (l := u.ss) (fun s hs => volS_in (o.sec s hs).2.2.2.1 h0 (by have := lim_le hs; omega)) u.ss.length (Nat.le_refl _)
  have hn := o.n
  unfold vol
  omega
theorem vol_mono {u : Hu} {d d' : Int} (o : OkU u) (h0 : 0 ≤ d) (hdd : d ≤ d') (hd : d' ≤ lim u) : vol u d ≤ vol u d' :=
  sumI_mono (fun s hs => volS_mono (o.sec s hs).2.2.2.1 h0 hdd (by have := lim_le hs; omega)) _ (Nat.le_refl _)
/-- A number, divided and rounded up. -/
def cdiv (n d : Int) : Int := (n + d - 1) / d
theorem cdiv_in {n d : Int} (hn : 0 ≤ n) (hd : 0 < d) : 0 ≤ cdiv n d ∧ cdiv n d ≤ n := by
  unfold cdiv
  have h1 : n * 1 ≤ n * d := Int.mul_le_mul_of_nonneg_left (by omega) hn
  have h2 : (n + d - 1) / d < n + 1 := Int.ediv_lt_of_lt_mul hd (by rw [Int.add_mul]; omega)
  exact ⟨Int.ediv_nonneg (by omega) (by omega), by omega⟩
/-- The moment of a hull's sections, their middles seen from that of a hull so long. -/
def momI (L : Int) (l : List Sec) : Nat → Int
  | 0 => 0
  | i + 1 => match l[i]? with
    | some s => momI L l i + s.b * (2 * sumI Sec.a l i + s.a - L)
    | none => momI L l i
theorem momI_succ {L : Int} {l : List Sec} {i : Nat} {s : Sec} (h : l[i]? = some s) : momI L l (i + 1) = momI L l i + s.b * (2 * sumI Sec.a l i + s.a - L) := by simp [momI, h]
/-- The holds of a hull, as they are in their sections and as they are in the hull. -/
def hdI (l : List Sec) : Nat → List (Pt × Pt)
  | 0 => []
  | i + 1 => match l[i]? with
    | some s => hdI l i ++ s.qs.map fun q => (q, moved (sumI Sec.a l i) q)
    | none => hdI l i
theorem hdI_succ {l : List Sec} {i : Nat} {s : Sec} (h : l[i]? = some s) : hdI l (i + 1) = hdI l i ++ s.qs.map fun q => (q, moved (sumI Sec.a l i) q) := by simp [hdI, h]
theorem hdI_hsI {l : List Sec} : ∀ i, i ≤ l.length → hsI l i = (hdI l i).map Prod.snd
  | 0, _ => by simp [hdI, hsI]
  | i + 1, hi => by
    have hx : ∃ p, l[i]? = some p := ⟨_, List.getElem?_eq_getElem (by omega)⟩
    obtain ⟨p, hx⟩ := hx
    rw [hdI_succ hx, hsI_succ hx, hdI_hsI i (by omega), List.map_append, List.map_map]
    rfl
theorem hdI_len {l : List Sec} : ∀ i, i ≤ l.length → ((hdI l i).length : Int) = sumI (fun s => (s.qs.length : Int)) l i
  | 0, _ => by simp [hdI, sumI]
  | i + 1, hi => by
    have hx : ∃ p, l[i]? = some p := ⟨_, List.getElem?_eq_getElem (by omega)⟩
    obtain ⟨p, hx⟩ := hx
    rw [hdI_succ hx, sumI_succ hx, ← hdI_len i (by omega), List.length_append, List.length_map]
    omega
/-- Sums that begin with a number. -/
def accN (b : Int) (g : Nat → Int) : Nat → Int
  | 0 => b
  | n + 1 => accN b g n + g n
theorem accN_in {b : Int} {g : Nat → Int} {B m : Nat} (hb : b.natAbs ≤ B) : ∀ n, (∀ i, i < n → (g i).natAbs ≤ m) → (accN b g n).natAbs ≤ B + m * n
  | 0, _ => by simp [accN]; exact hb
  | n + 1, hg => by
    have h1 := accN_in hb n (fun i hi => hg i (by omega))
    have h2 := hg n (by omega)
    have h3 : (accN b g (n + 1)).natAbs ≤ (accN b g n).natAbs + (g n).natAbs := Int.natAbs_add_le _ _
    rw [Nat.mul_add]
    omega
theorem accN_pos {b : Int} {g : Nat → Int} (hb : 0 ≤ b) : ∀ n, (∀ i, i < n → 0 ≤ g i) → 0 ≤ accN b g n
  | 0, _ => hb
  | n + 1, hg => by
    have h1 := accN_pos hb n (fun i hi => hg i (by omega))
    have h2 := hg n (by omega)
    simp only [accN]; omega
/-- The first number up to n for which a condition holds, or n. -/
structure IsFirst (P : Nat → Bool) (n k : Nat) : Prop where
  le : k ≤ n
  no : ∀ q, q < k → P q = false
  hit : k < n → P k = true
theorem IsFirst.uniq {P : Nat → Bool} {n k k' : Nat} (h : IsFirst P n k) (h' : IsFirst P n k') : k = k' := by
  rcases Nat.lt_trichotomy k k' with c | c | c
  · have a := h'.no k c; have b := h.hit (by have := h'.le; omega); rw [a] at b; exact absurd b (by simp)
  · exact c
  · have a := h.no k' c; have b := h'.hit (by have := h.le; omega); rw [a] at b; exact absurd b (by simp)
theorem IsFirst.some {P : Nat → Bool} {n : Nat} : ∃ k, IsFirst P n k := by
  obtain ⟨k, h1, h2, h3⟩ := least_of (P := fun k => k = n ∨ P k = true) (n := n) (.inl rfl)
  refine ⟨k, h1, fun q hq => ?_, fun hk => ?_⟩
  · have := h3 q hq
    simp only [not_or] at this
    exact Bool.eq_false_iff.2 this.2
  · rcases h2 with h | h
    · omega
    · exact h
noncomputable def firstN (P : Nat → Bool) (n : Nat) : Nat := (IsFirst.some (P := P) (n := n)).choose
theorem firstN_is {P : Nat → Bool} {n : Nat} : IsFirst P n (firstN P n) := (IsFirst.some (P := P) (n := n)).choose_spec
theorem firstN_eq {P : Nat → Bool} {n k : Nat} (h : IsFirst P n k) : firstN P n = k := firstN_is.uniq h
/-- The mean draft with which a hull displaces so much, or a draft beyond its limit. -/
noncomputable def meanZ (u : Hu) (need : Int) : Nat := firstN (fun d => decide (need ≤ vol u d)) ((lim u).toNat + 1)
def long (u : Hu) : Int := sumI Sec.a u.ss u.ss.length
def hsU (u : Hu) : List Pt := hsI u.ss u.ss.length
def trU (u : Hu) : Int := sumI Sec.c u.ss u.ss.length
theorem hsI_in {u : Hu} (o : OkU u) : ∀ i, i ≤ u.ss.length → ∀ p ∈ hsI u.ss i, (0 ≤ p.x ∧ p.x ≤ sumI Sec.a u.ss i) ∧ 0 ≤ p.y ∧ p.y ≤ 20
  | 0, _, p, hp => by simp [hsI] at hp
  | i + 1, hi, p, hp => by
    have hx : ∃ p, u.ss[i]? = some p := ⟨_, List.getElem?_eq_getElem (by omega)⟩
    obtain ⟨s, hx⟩ := hx
    have hs := o.sec s (List.mem_of_getElem? hx)
    have hb := sumI_in (f := Sec.a) (l := u.ss) (fun s hs => by have := o.sec s hs; omega) i (by omega)
    rw [hsI_succ hx, List.mem_append] at hp
    rw [sumI_succ hx]
    rcases hp with hp | hp
    · have := hsI_in o i (by omega) p hp
      omega
    · obtain ⟨q, hq, rfl⟩ := List.mem_map.1 hp
      have := hs.2.2.2.2 q hq
      simp only [moved]
      omega
theorem hsU_in {u : Hu} (o : OkU u) {p : Pt} (hp : p ∈ hsU u) : (0 ≤ p.x ∧ p.x ≤ long u) ∧ 0 ≤ p.y ∧ p.y ≤ 20 := hsI_in o _ (Nat.le_refl _) p hp
theorem long_in {u : Hu} (o : OkU u) : 0 ≤ long u ∧ long u ≤ 200 := ⟨(sumI_in (f := Sec.a) (l := u.ss) (fun s hs => by have := o.sec s hs; omega) u.ss.length (Nat.le_refl _)).1, o.len⟩
theorem hsU_len {u : Hu} (o : OkU u) : (hsU u).length ≤ 4 := by
  have h := hdI_len (l := u.ss) u.ss.length (Nat.le_refl _)
  have := o.many
  unfold hsU
  rw [hdI_hsI _ (Nat.le_refl _), List.length_map]
  omega
theorem trU_in {u : Hu} (o : OkU u) : 1 ≤ trU u ∧ trU u ≤ 600000 := by
  have hn := o.n
  have h := sumI_inm (f := Sec.c) (m := 100000) (l := u.ss) (fun s hs => by have := o.sec s hs; omega) u.ss.length (Nat.le_refl _)
  have hpos : ∀ i, i ≤ u.ss.length → (i : Int) ≤ sumI Sec.c u.ss i := by
    intro i
    induction i with
    | zero => intro _; simp [sumI]
    | succ i ih =>
      intro hi
      have hx : ∃ p, u.ss[i]? = some p := ⟨_, List.getElem?_eq_getElem (by omega)⟩
      obtain ⟨s, hx⟩ := hx
      have := o.sec s (List.mem_of_getElem? hx)
      have := ih (by omega)
      rw [sumI_succ hx]; omega
  have := hpos _ (Nat.le_refl _)
  unfold trU
  omega
/-- What is loaded into a hold. -/
def ld (l : List Int) (i : Nat) : Int := (l[i]?).getD 0
def arm (u : Hu) (i : Nat) : Int := match (hsU u)[i]? with
  | some p => 2 * p.x - long u
  | none => 0
theorem arm_in {u : Hu} (o : OkU u) (i : Nat) : (arm u i).natAbs ≤ 400 := by
  unfold arm
  split
  · rename_i p hp
    have := hsU_in o (List.mem_of_getElem? hp)
    have := long_in o
    omega
  · simp
/-- A load that a hull can have. -/
structure OkL (u : Hu) (l : List Int) : Prop where
  len : l.length = (hsU u).length
  lots : ∀ (i : Nat) (n : Int) (p : Pt), l[i]? = some n → (hsU u)[i]? = some p → 0 ≤ n ∧ n ≤ p.y
theorem ld_in {u : Hu} {l : List Int} (o : OkU u) (k : OkL u l) (i : Nat) : 0 ≤ ld l i ∧ ld l i ≤ 20 := by
  unfold ld
  cases h : l[i]? with
  | none => simp
  | some n =>
    have hi := (List.getElem?_eq_some_iff.1 h).1
    have hi2 : i < (hsU u).length := by have := k.len; omega
    have hp := List.getElem?_eq_getElem hi2
    have := k.lots i n _ h hp
    have := hsU_in o (List.mem_of_getElem? hp)
    simp only [Option.getD_some]; omega
noncomputable def mass (u : Hu) (l : List Int) : Nat → Int := accN (sumI Sec.b u.ss u.ss.length) (fun i => u.a * ld l i)
noncomputable def moment (u : Hu) (l : List Int) : Nat → Int := accN (momI (long u) u.ss u.ss.length) (fun i => u.a * ld l i * arm u i)
theorem momI_in {u : Hu} (o : OkU u) : ∀ i, i ≤ u.ss.length → (momI (long u) u.ss i).natAbs ≤ 11000000 * i
  | 0, _ => by simp [momI]
  | i + 1, hi => by
    have hx : ∃ p, u.ss[i]? = some p := ⟨_, List.getElem?_eq_getElem (by omega)⟩
    obtain ⟨s, hx⟩ := hx
    have hs := o.sec s (List.mem_of_getElem? hx)
    have hl := long_in o
    have hb := sumI_in (f := Sec.a) (l := u.ss) (fun s hs => by have := o.sec s hs; omega) i (by omega)
    have hm : sumI Sec.a u.ss i ≤ 100 * i := by
      have := sumI_inm (f := Sec.a) (m := 100) (l := u.ss) (fun s hs => by have := o.sec s hs; omega) i (by omega)
      omega
    have hn := o.n
    have h1 := momI_in o i (by omega)
    rw [momI_succ hx]
    have h2 : (s.b * (2 * sumI Sec.a u.ss i + s.a - long u)).natAbs ≤ 10000 * 1100 := by
      refine mul_in ?_ ?_ <;> omega
    have h3 := Int.natAbs_add_le (momI (long u) u.ss i) (s.b * (2 * sumI Sec.a u.ss i + s.a - long u))
    omega
theorem lot_in {u : Hu} {l : List Int} (o : OkU u) (k : OkL u l) (i : Nat) : (0 ≤ u.a * ld l i ∧ u.a * ld l i ≤ 20000) ∧ (u.a * ld l i * arm u i).natAbs ≤ 8000000 := by
  have h1 := ld_in o k i
  have h2 := o.lot
  have h3 : (u.a * ld l i).natAbs ≤ 1000 * 20 := mul_in (by omega) (by omega)
  have h4 : 0 ≤ u.a * ld l i := Int.mul_nonneg (by omega) h1.1
  have h5 : (u.a * ld l i * arm u i).natAbs ≤ 20000 * 400 := mul_in (by omega) (arm_in o i)
  omega
theorem mass_in {u : Hu} {l : List Int} (o : OkU u) (k : OkL u l) {n : Nat} (hn : n ≤ l.length) : 0 ≤ mass u l n ∧ mass u l n ≤ 140000 := by
  have h1 := sumI_inm (f := Sec.b) (m := 10000) (l := u.ss) (fun s hs => by have := o.sec s hs; omega) u.ss.length (Nat.le_refl _)
  have h2 := hsU_len o
  have h3 := k.len
  have h4 := o.n
  have h5 := accN_in (b := sumI Sec.b u.ss u.ss.length) (g := fun i => u.a * ld l i) (B := 60000) (m := 20000) (by omega) n (fun i _ => by have := lot_in o k i; omega)
  have h6 := accN_pos (b := sumI Sec.b u.ss u.ss.length) (g := fun i => u.a * ld l i) h1.1 n (fun i _ => by have := lot_in o k i; omega)
  unfold mass
  omega
theorem moment_in {u : Hu} {l : List Int} (o : OkU u) (k : OkL u l) {n : Nat} (hn : n ≤ l.length) : (moment u l n).natAbs ≤ 100000000 := by
  have h2 := hsU_len o
  have h3 := k.len
  have h4 := o.n
  have h1 := momI_in o u.ss.length (Nat.le_refl _)
  have h5 := accN_in (b := momI (long u) u.ss u.ss.length) (g := fun i => u.a * ld l i * arm u i) (B := 66000000) (m := 8000000) (by omega) n (fun i _ => (lot_in o k i).2)
  unfold moment
  omega
end Go.Pe

/- What the types of the program are. -/
namespace Go.Pe
open Go Go.Proofs Go.Proofs.YtffckclggkjbgaaGreat
theorem tsi198 : ti Tryz.prog 198 = some { kind := TK.oth, size := 1, zero := [Value.nilFunc], agg := false, bytes := 8, fok := true, cmp := true } := by kernel_rfl
theorem ts198 {f : TI → Option AV} : tyInt Tryz.prog 198 f = f { kind := TK.oth, size := 1, zero := [Value.nilFunc], agg := false, bytes := 8, fok := true, cmp := true } := tyInt_of tsi198
theorem us198 {f : TI → Option (AV × H)} : tyInt2 Tryz.prog 198 f = f { kind := TK.oth, size := 1, zero := [Value.nilFunc], agg := false, bytes := 8, fok := true, cmp := true } := tyInt2_of tsi198
theorem tsi200 : ti Tryz.prog 200 = some { kind := TK.oth, size := 1, zero := [Value.tuple { toList := [Value.int IntKind.i64 0, Value.int IntKind.i64 0] }], agg := false, bytes := 0, fok := true, cmp := true } := by kernel_rfl
theorem ts200 {f : TI → Option AV} : tyInt Tryz.prog 200 f = f { kind := TK.oth, size := 1, zero := [Value.tuple { toList := [Value.int IntKind.i64 0, Value.int IntKind.i64 0] }], agg := false, bytes := 0, fok := true, cmp := true } := tyInt_of tsi200
theorem us200 {f : TI → Option (AV × H)} : tyInt2 Tryz.prog 200 f = f { kind := TK.oth, size := 1, zero := [Value.tuple { toList := [Value.int IntKind.i64 0, Value.int IntKind.i64 0] }], agg := false, bytes := 0, fok := true, cmp := true } := tyInt2_of tsi200
theorem tsi224 : ti Tryz.prog 224 = some { kind := TK.oth, size := 1, zero := [Value.nilFunc], agg := false, bytes := 8, fok := true, cmp := true } := by kernel_rfl
theorem ts224 {f : TI → Option AV} : tyInt Tryz.prog 224 f = f { kind := TK.oth, size := 1, zero := [Value.nilFunc], agg := false, bytes := 8, fok := true, cmp := true } := tyInt_of tsi224
theorem us224 {f : TI → Option (AV × H)} : tyInt2 Tryz.prog 224 f = f { kind := TK.oth, size := 1, zero := [Value.nilFunc], agg := false, bytes := 8, fok := true, cmp := true } := tyInt2_of tsi224
theorem tsi249 : ti Tryz.prog 249 = some { kind := TK.int IntKind.u64, size := 1, zero := [Value.int IntKind.u64 0], agg := false, bytes := 8, fok := true, cmp := true } := by kernel_rfl
theorem ts249 {f : TI → Option AV} : tyInt Tryz.prog 249 f = f { kind := TK.int IntKind.u64, size := 1, zero := [Value.int IntKind.u64 0], agg := false, bytes := 8, fok := true, cmp := true } := tyInt_of tsi249
theorem us249 {f : TI → Option (AV × H)} : tyInt2 Tryz.prog 249 f = f { kind := TK.int IntKind.u64, size := 1, zero := [Value.int IntKind.u64 0], agg := false, bytes := 8, fok := true, cmp := true } := tyInt2_of tsi249
end Go.Pe
