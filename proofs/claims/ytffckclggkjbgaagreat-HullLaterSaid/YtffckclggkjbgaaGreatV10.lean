import Derived.Test.YtffckclggkjbgaaGreatV09
import Derived.Test.YtffckclggkjbgaaGreatT12
set_option linter.unusedVariables false
set_option linter.unusedSimpArgs false
/- The bed at a spot: a loop over a function. -/
namespace Go.Pe
open Go Go.Proofs Go.Proofs.YtffckclggkjbgaaGreat
attribute [local simp] t3 u3 t4 u4 t5 u5 t22 u22 t23 u23 t25 u25 t27 u27 t28 u28 t30 u30 t32 u32   t37 u37 t43 u43     t50 u50   t75 u75 t77 u77     t94 u94   t102 u102 t117 u117 t119 u119     t130 u130 t134 u134 t138 u138   t155 u155 t156 u156   t172 u172
set_option maxRecDepth 20000
set_option maxHeartbeats 8000000
attribute [local simp] fW_eq fR_eq fS_eq extA fBd_eq fL_eq

/-- A heap in which one block holds bounds, and to which blocks are added. -/
noncomputable def HX (N0 T : Nat) (g0 : Nat → Option (List AV)) (L : Nat → Option Lp) (ex : List (List AV)) (top : Bd) : H := { next := N0 + ex.length, get := fun q => if q = T then some [I top.lo, I top.hi] else if q < N0 then g0 q else ex[q - N0]?, lp := L }
section
variable {N0 T : Nat} {g0 : Nat → Option (List AV)} {L : Nat → Option Lp} {ex : List (List AV)} {top : Bd} {l z : List AV} {a c : Int} {b : Nat} {r : Option Lp}
theorem HX_next : (HX N0 T g0 L ex top).next = N0 + ex.length := rfl
theorem HX_lp : (HX N0 T g0 L ex top).lp = L := rfl
theorem HX_top : (HX N0 T g0 L ex top).get T = some [I top.lo, I top.hi] := by simp [HX]
theorem HX_last (hT : T < N0) : (HX N0 T g0 L (ex ++ [l]) top).get (N0 + ex.length) = some l := by
  simp only [HX]
  rw [if_neg (by omega), if_neg (by omega), Nat.add_sub_cancel_left]
  simp
theorem HX_push (hT : T < N0) : (HX N0 T g0 L ex top).push l = HX N0 T g0 L (ex ++ [l]) top := by
  unfold HX H.push
  simp only [H.mk.injEq, and_true]
  refine ⟨by simp; omega, funext fun q => ?_⟩
  by_cases h1 : q = N0 + ex.length
  · subst h1
    rw [if_pos rfl, if_neg (by omega), if_neg (by omega), Nat.add_sub_cancel_left]; simp
  · rw [if_neg h1]
    by_cases h2 : q = T
    · rw [if_pos h2, if_pos h2]
    · rw [if_neg h2, if_neg h2]
      by_cases h3 : q < N0
      · rw [if_pos h3, if_pos h3]
      · rw [if_neg h3, if_neg h3]
        by_cases h4 : q - N0 < ex.length
        · rw [List.getElem?_append_left h4]
        · rw [List.getElem?_eq_none (by omega), List.getElem?_eq_none (by simp; omega)]
theorem HX_setlast (hT : T < N0) : (HX N0 T g0 L (ex ++ [z]) top).set (N0 + ex.length) l = HX N0 T g0 L (ex ++ [l]) top := by
  unfold HX H.set
  simp only [H.mk.injEq, and_true]
  refine ⟨by simp, funext fun q => ?_⟩
  by_cases h1 : q = N0 + ex.length
  · subst h1
    rw [if_pos rfl, if_neg (by omega), if_neg (by omega), Nat.add_sub_cancel_left]; simp
  · rw [if_neg h1]
    by_cases h2 : q = T
    · rw [if_pos h2, if_pos h2]
    · rw [if_neg h2, if_neg h2]
      by_cases h3 : q < N0
      · rw [if_pos h3, if_pos h3]
      · rw [if_neg h3, if_neg h3]
        by_cases h4 : q - N0 < ex.length
        · rw [List.getElem?_append_left h4, List.getElem?_append_left h4]
        · rw [List.getElem?_eq_none (by simp; omega), List.getElem?_eq_none (by simp; omega)]
theorem HX_settop : (HX N0 T g0 L ex top).set T [I a, I c] = HX N0 T g0 L ex ⟨a, c⟩ := by
  unfold HX H.set
  simp only [H.mk.injEq, and_true, true_and]
  funext q
  by_cases h1 : q = T
  · simp [h1]
  · simp [h1]
theorem HX_lset : (HX N0 T g0 L ex top).lset b r = HX N0 T g0 (fun q => if q = b then r else L q) ex top := rfl
end
theorem en_forget {N : Nat} {j : Nat → AV} {B E : List (Nat × AV)} (h : ∀ q ∈ E, lk j q.1 B = q.2) : en N j B = en N (fun t => lk j t B) E := by
  have key : ∀ (E : List (Nat × AV)) (t : Nat), (∀ q ∈ E, lk j q.1 B = q.2) → lk j t B = lk (fun t => lk j t B) t E := by
    intro E t
    induction E with
    | nil => intro _; rfl
    | cons q E ih =>
      intro hq
      obtain ⟨q, x⟩ := q
      by_cases ht : t = q
      · subst ht; rw [lk_hit]; exact hq (t, x) (by simp)
      · rw [lk_miss ht]; exact ih fun z hz => hq z (by simp [hz])
  unfold en
  exact List.map_congr_left fun t _ => key E t h
def mx (a b : Bd) : Bd := ⟨max a.lo b.lo, max a.hi b.hi⟩
/-- The blocks that ranging over the shoals adds. -/
noncomputable def exS (p hour : Int) (ex : List (List AV)) (ss : List Sh) : List (List AV) := ss.foldl (fun ex s => if s.place = p then ex ++ [fS s] ++ [[I (grw s hour).lo, I (grw s hour).hi]] else ex ++ [fS s]) ex
theorem exS_snoc {p hour : Int} {ex : List (List AV)} {ss : List Sh} {s : Sh} : exS p hour ex (ss ++ [s]) = if s.place = p then exS p hour ex ss ++ [fS s] ++ [[I (grw s hour).lo, I (grw s hour).hi]] else exS p hour ex ss ++ [fS s] := by simp [exS, List.foldl_append]
theorem beds1_fn {r : Rv} {f1 : Bool} {p hour : Int} {q b N0 T : Nat} {y : Rc} {g0 : Nat → Option (List AV)} {L : Nat → Option Lp} {top : Bd} (hT : T < N0) (hs : ∀ s ∈ r.ss, OkSh s) (hm : r.ss.length ≤ 50) (h1 : -1000 ≤ hour) (h2 : hour ≤ 1000)
    (hround : ∀ ex top (e : Bd), Rd Tryz.prog b [.agg [I e.lo, I e.hi]] (HX N0 T g0 L ex top) (B true) (HX N0 T g0 L (ex ++ [[I e.lo, I e.hi]]) (mx top e))) :
    Fn Tryz.prog 187 [.yld b, .rop (spotAV y q p), .rop [r.reaches f1, r.shoals], .rop [I hour]] (HX N0 T g0 L [] top) (.tup []) (HX N0 T g0 L (exS p hour [[I y.bot.lo, I y.bot.hi]] r.ss) (bedF p hour (mx top y.bot) r.ss)) := by
  refine Fn.onE noM (by kernel_rfl) Tryz.func187 rfl (by simp) ?_
  simp -dsimp -implicitDefEqProofs [spotAV]
  refine onRound_in (hround _ _ y.bot) ?_
  simp -dsimp -implicitDefEqProofs
  have hi1 := @HX_push N0 T g0 L
  have hi2 := @HX_setlast N0 T g0 L
  refine LoopCE.on 34 (fun i => [(0, .yld b), (1, .rop (spotAV y q p)), (2, .rop [r.reaches f1, r.shoals]), (3, .rop [I hour]), (14, r.shoals), (15, I r.ss.length), (16, I (i : Nat))])
    (fun i => HX N0 T g0 L (exS p hour [[I y.bot.lo, I y.bot.hi]] (r.ss.take i)) (bedF p hour (mx top y.bot) (r.ss.take i))) (fun i => i ≤ r.ss.length) (fun i => r.ss.length - i) 0 _ (by simp) (en_forget ?_) (by simp [exS, bedF]) ?_
  · simp -dsimp -implicitDefEqProofs [spotAV]
  intro i j hi
  simp -dsimp -implicitDefEqProofs
  refine ifD_in (fun hlt => ?_) (fun hge => ?_)
  · have hlt' : i < r.ss.length := by omega
    obtain ⟨s, hx⟩ : ∃ s, r.ss[i]? = some s := ⟨_, List.getElem?_eq_getElem hlt'⟩
    have hst : r.ss.take (i + 1) = r.ss.take i ++ [s] := by rw [List.take_add_one, hx]; rfl
    have hsk := hs s (List.mem_of_getElem? hx)
    obtain ⟨ex, hex⟩ : ∃ ex, ex = exS p hour [[I y.bot.lo, I y.bot.hi]] (r.ss.take i) := ⟨_, rfl⟩
    obtain ⟨tp, htp⟩ : ∃ tp, tp = bedF p hour (mx top y.bot) (r.ss.take i) := ⟨_, rfl⟩
    have e1 : exS p hour [[I y.bot.lo, I y.bot.hi]] (r.ss.take (i + 1)) = if s.place = p then ex ++ [fS s] ++ [[I (grw s hour).lo, I (grw s hour).hi]] else ex ++ [fS s] := by rw [hst, exS_snoc, ← hex]
    have e2 : bedF p hour (mx top y.bot) (r.ss.take (i + 1)) = bedS p hour tp s := by rw [hst, bedF_snoc, ← htp]
    rw [← hex, ← htp]
    have hl : ∀ l, (HX N0 T g0 L (ex ++ [l]) tp).get (N0 + ex.length) = some l := fun l => HX_last hT
    have hpu : ∀ l, (HX N0 T g0 L ex tp).push l = HX N0 T g0 L (ex ++ [l]) tp := fun l => HX_push hT
    have hse : ∀ z l, (HX N0 T g0 L (ex ++ [z]) tp).set (N0 + ex.length) l = HX N0 T g0 L (ex ++ [l]) tp := fun z l => HX_setlast hT
    have hnx : (HX N0 T g0 L ex tp).next = N0 + ex.length := rfl
    by_cases hpl : s.place = p
    · have d : (s.place == p) = true := by simp [hpl]
      simp -dsimp -implicitDefEqProofs [hx, hpu, hse, hl, hnx, d, spotAV]
      refine onCall_in (grown_fn hsk h1 h2) ?_
      simp -dsimp -implicitDefEqProofs
      refine onRound_in (hround _ _ (grw s hour)) ?_
      simp -dsimp -implicitDefEqProofs
      refine againE_in (i + 1) _ (by omega) (by omega) (en_forget ?_) (by rw [e1, e2, if_pos hpl]; simp [bedS, mx, hpl])
      simp -dsimp -implicitDefEqProofs [spotAV]
      rw [wrap_in (by omega) (by omega)]
    · have d : (s.place == p) = false := by simp [hpl]
      simp -dsimp -implicitDefEqProofs [hx, hpu, hse, hl, hnx, d, spotAV]
      refine againE_in (i + 1) _ (by omega) (by omega) (en_forget ?_) (by rw [e1, e2, if_neg hpl]; simp [bedS, hpl])
      simp -dsimp -implicitDefEqProofs [spotAV]
      rw [wrap_in (by omega) (by omega)]
  · have hin : i = r.ss.length := by omega
    subst hin
    simp -dsimp -implicitDefEqProofs
    exact ⟨.inl rfl, rfl, rfl⟩
end Go.Pe

/- The bed at a spot. -/
namespace Go.Pe
open Go Go.Proofs Go.Proofs.YtffckclggkjbgaaGreat
attribute [local simp] t3 u3 t4 u4 t5 u5 t22 u22 t23 u23 t25 u25 t27 u27 t28 u28 t30 u30 t32 u32   t37 u37 t43 u43     t50 u50   t75 u75 t77 u77     t94 u94   t102 u102 t117 u117 t119 u119     t130 u130 t134 u134 t138 u138   t155 u155 t156 u156   t172 u172
set_option maxRecDepth 20000
set_option maxHeartbeats 8000000
attribute [local simp] fW_eq fR_eq fS_eq extA fBd_eq fL_eq

theorem opn_HX {h : H} {T : Nat} {ρ : List AV} {ps : Array Tmp} {asg bo : Code} (hT : h.get T = some [I 0, I 0]) (hT2 : T < h.next) (hz : ∀ q, h.next ≤ q → h.get q = none) :
    h.opn ρ ps asg bo = HX (h.next + 1) T h.get (fun q => if q = h.next then some { ρ := ρ, ps := ps, assign := asg, body := bo, st := .ready, pend := none } else h.lp q) [] ⟨0, 0⟩ := by
  unfold HX H.opn
  simp only [H.mk.injEq, and_true]
  refine ⟨by simp, funext fun q => ?_⟩
  by_cases h1 : q = T
  · subst h1; rw [if_pos rfl, hT]
  · rw [if_neg h1]
    by_cases h3 : q < h.next + 1
    · rw [if_pos h3]
    · rw [if_neg h3, hz q (by omega)]; simp
theorem ranged_beds {r : Rv} {f1 : Bool} {p hour : Int} {q T n N0 : Nat} {y : Rc} {ρ : List AV} {ps : Array Tmp} {asg bo : Code} {h : H} {Q : Exit → List AV → H → Prop} (hs : ∀ s ∈ r.ss, OkSh s) (hm : r.ss.length ≤ 50) (h1 : -1000 ≤ hour) (h2 : hour ≤ 1000)
    (hn : h.next = n) (hN : N0 = n + 1) (hT : h.get T = some [I 0, I 0]) (hT2 : T < n) (hz : ∀ q, n ≤ q → h.get q = none) (hlp : h.lp = fun _ => none)
    (hround : ∀ g0 (L : Nat → Option Lp) ex top (e : Bd), L n = some { ρ := ρ, ps := ps, assign := asg, body := bo, st := .ready, pend := none } → Rd Tryz.prog n [.agg [I e.lo, I e.hi]] (HX N0 T g0 L ex top) (B true) (HX N0 T g0 L (ex ++ [[I e.lo, I e.hi]]) (mx top e)))
    (hq : ∀ ex, ap (Q .normal) .mk ρ (HX N0 T h.get (fun _ => none) ex (bedF p hour (mx ⟨0, 0⟩ y.bot) r.ss))) :
    Ranged Tryz.prog none ps asg bo (.clo 187 [.rop (spotAV y q p), .rop [r.reaches f1, r.shoals], .rop [I hour]]) Q ρ h := by
  subst hn; subst hN
  refine ⟨trivial, .tup [], HX (h.next + 1) T h.get (fun q => if q = h.next then some { ρ := ρ, ps := ps, assign := asg, body := bo, st := .ready, pend := none } else h.lp q) (exS p hour [[I y.bot.lo, I y.bot.hi]] r.ss) (bedF p hour (mx ⟨0, 0⟩ y.bot) r.ss), { ρ := ρ, ps := ps, assign := asg, body := bo, st := .ready, pend := none }, ?_, ?_, by simp, ?_⟩
  · rw [opn_HX hT hT2 hz]
    exact beds1_fn (by omega) hs hm h1 h2 fun ex top e => hround _ _ ex top e (by simp)
  · simp [HX]
  · have e : (fun x => if x = h.next then (none : Option Lp) else if x = h.next then some { ρ := ρ, ps := ps, assign := asg, body := bo, st := .ready, pend := none } else h.lp x) = fun _ => none := by
      funext x; rw [hlp]; by_cases hx : x = h.next <;> simp [hx]
    simp only [jumped, HX_lset, e]
    exact hq _
theorem bedAt_fn {r : Rv} {f1 : Bool} {p hour : Int} {q : Nat} {y : Rc} {h : H} (hs : ∀ s ∈ r.ss, OkSh s) (hm : r.ss.length ≤ 50) (h1 : -1000 ≤ hour) (h2 : hour ≤ 1000) (hb : 0 ≤ y.bot.lo ∧ 0 ≤ y.bot.hi) :
    Fn Tryz.prog 125 [r.av f1, .agg (spotAV y q p), I hour] h (.agg [I (bedF p hour y.bot r.ss).lo, I (bedF p hour y.bot r.ss).hi]) h := by
  refine Fn.beside ?_ rfl h
  refine Fn.ofR0 noM (by kernel_rfl) Tryz.func125 rfl (by simp) ?_
  have hmx : mx ⟨0, 0⟩ y.bot = y.bot := by
    obtain ⟨b1, b2⟩ := hb
    have e1 : max 0 y.bot.lo = y.bot.lo := by omega
    have e2 : max 0 y.bot.hi = y.bot.hi := by omega
    simp only [mx, e1, e2]
  have hbeds := fun h => beds_fn (r := r) (f1 := f1) (p := p) (k := hour) (q := q) (y := y) (h := h)
  simp -dsimp -implicitDefEqProofs [spotAV]
  refine onCall_in (hbeds _) ?_
  simp -dsimp -implicitDefEqProofs [ar_range]
  refine ranged_beds (T := 3) (n := 4) (N0 := 5) hs hm h1 h2 (by simp) rfl (by simp) (by simp) ?_ (by simp) ?_ ?_
  · intro q hq
    have h3 : ¬ q = 3 := by omega
    have h4 : ¬ q = 2 := by omega
    have h5 : ¬ q = 1 := by omega
    have h6 : ¬ q = 0 := by omega
    simp [mkH, h3, h4, h5, h6]
  · intro g0 L ex top e hL
    have hpu : ∀ L l, (HX 5 3 g0 L ex top).push l = HX 5 3 g0 L (ex ++ [l]) top := fun L l => HX_push (by omega)
    have hse : ∀ L z l, (HX 5 3 g0 L (ex ++ [z]) top).set (5 + ex.length) l = HX 5 3 g0 L (ex ++ [l]) top := fun L z l => HX_setlast (by omega)
    have hla : ∀ L l, (HX 5 3 g0 L (ex ++ [l]) top).get (5 + ex.length) = some l := fun L l => HX_last (by omega)
    have hto : ∀ L ex top, (HX 5 3 g0 L ex top).get 3 = some [I top.lo, I top.hi] := fun L ex top => HX_top
    have hst : ∀ L ex top a c, (HX 5 3 g0 L ex top).set 3 [I a, I c] = HX 5 3 g0 L ex ⟨a, c⟩ := fun L ex top a c => HX_settop
    have hnx : ∀ L, (HX 5 3 g0 L ex top).next = 5 + ex.length := fun L => rfl
    refine Rd.on2 noM hL (by simp) ?_
    simp -dsimp -implicitDefEqProofs [hpu, hse, hla, hnx]
    refine ⟨rfl, hL, ?_⟩
    rw [HX_lset]
    simp -dsimp -implicitDefEqProofs [hla, hto, hst]
    refine ⟨rfl, by simp [HX], ?_⟩
    rw [HX_lset]
    refine congrArg (fun L => HX 5 3 g0 L (ex ++ [[I e.lo, I e.hi]]) (mx top e)) (funext fun x => ?_)
    by_cases hx : x = 4
    · subst hx; rw [hL]; simp
    · simp [hx]
  · intro ex
    rw [hmx]
    have hto : ∀ g0 L ex top, (HX 5 3 g0 L ex top).get 3 = some [I top.lo, I top.hi] := fun g0 L ex top => HX_top
    have hlo : ∀ g0 L ex top, (HX 5 3 g0 L ex top).get 2 = g0 2 := fun g0 L ex top => by simp [HX]
    simp -dsimp -implicitDefEqProofs [hto, hlo]
end Go.Pe
