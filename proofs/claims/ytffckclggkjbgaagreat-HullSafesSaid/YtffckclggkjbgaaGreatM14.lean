import Derived.Test.YtffckclggkjbgaaGreatM13
import Derived.Test.YtffckclggkjbgaaGreatM08
set_option linter.unusedVariables false
set_option linter.unusedSimpArgs false
/- Plates: the reference's years of one. -/
namespace Go.Pe
open Go Go.Proofs Go.Proofs.YtffckclggkjbgaaGreat
attribute [local simp] t3 u3 t4 u4 t5 u5 t22 u22 t23 u23 t25 u25 t27 u27 t28 u28 t30 u30 t32 u32 t37 u37 t43 u43 t50 u50 t75 u75 t77 u77 t94 u94 t102 u102 t117 u117 t119 u119 t130 u130 t134 u134 t138 u138 t155 u155 t156 u156 t172 u172
attribute [local simp] tz22 uz22 tz26 uz26 tz29 uz29 tz30 uz30 tz68 uz68 tz69 uz69
set_option maxRecDepth 20000
set_option maxHeartbeats 8000000

theorem yA_full {s w : Int} {i : Nat} (hs : 0 ≤ s) (hw : 0 ≤ w) (hi : (i : Int) * w ≤ s) (h1 : i = 1000) : yA s w = i := by
  subst h1
  have : ¬ s < 0 := by omega
  unfold yA
  rw [if_neg this]
  by_cases h0 : w = 0
  · simp [h0]
  · have : (1000 : Int) ≤ s / w := Int.le_ediv_of_mul_le (by omega) hi
    rw [if_neg h0]; simp only [Int.min_def]; split <;> omega
theorem yA_end {s w : Int} {i : Nat} (hs : 0 ≤ s) (hw : 0 ≤ w) (h1 : (i : Int) ≤ 1000) (hi : (i : Int) * w ≤ s) (he : s < ((i : Int) + 1) * w) : yA s w = i := by
  have : ¬ s < 0 := by omega
  unfold yA
  rw [if_neg this]
  by_cases h0 : w = 0
  · subst h0; simp at he; omega
  · have e : s / w = i := by
      have a : (i : Int) ≤ s / w := Int.le_ediv_of_mul_le (by omega) hi
      have b : s / w < (i : Int) + 1 := Int.ediv_lt_of_lt_mul (by omega) he
      omega
    rw [if_neg h0, e]; simp only [Int.min_def]; split <;> omega
theorem Years_fn {t w l : Int} {h : H} (ht : 0 ≤ t ∧ t ≤ 100000) (hw : 0 ≤ w ∧ w ≤ 1000) (hl : 0 ≤ l ∧ l ≤ 100000) : Fn Tryz.prog 84 [I t, I w, I l] h (I (yA (t - l) w)) h := by
  refine Fn.beside ?_ rfl h
  refine Fn.ofR0 noM (by kernel_rfl) Tryz.func84 rfl (by simp) ?_
  simp -dsimp -implicitDefEqProofs
  refine ifD_in (fun hs => ?_) (fun hs => ?_)
  · have : t - l < 0 := by omega
    simp -dsimp -implicitDefEqProofs [yA, this]
  simp -dsimp -implicitDefEqProofs
  refine LoopCR.on 26 (fun i => [(0, I t), (1, I w), (2, I l), (7, I (i : Nat))]) (fun i => []) (fun i => i ≤ 1000 ∧ (i : Int) * w ≤ t - l) (fun i => 1000 - i) 0 [] (by simp; omega) ?_ ?_
  · simp -dsimp -implicitDefEqProofs
  rintro i j ⟨hi, hm⟩
  simp -dsimp -implicitDefEqProofs
  refine ifD_in (fun hlt => ?_) (fun hge => ?_)
  · have hm1 : ((i : Int) + 1) * w ≤ 1001 * 1000 := by
      have := Int.mul_le_mul (show (i : Int) + 1 ≤ 1001 by omega) hw.2 hw.1 (by omega)
      exact this
    have hm0 : 0 ≤ ((i : Int) + 1) * w := Int.mul_nonneg (by omega) hw.1
    have w1 := wrap_in (n := (i : Int) + 1) (by omega) (by omega)
    have w2 := wrap_in (n := ((i : Int) + 1) * w) (by omega) (by omega)
    have w3 := wrap_in (n := t - ((i : Int) + 1) * w) (by omega) (by omega)
    simp -dsimp -implicitDefEqProofs [w1, w2, w3]
    refine ifD_in (fun h1 => ?_) (fun h1 => ?_)
    · simp -dsimp -implicitDefEqProofs [w1]
      refine again_in (i + 1) [] (by constructor; · omega
                                     · push_cast; omega) (by omega) ?_
      simp -dsimp -implicitDefEqProofs
    · simp -dsimp -implicitDefEqProofs
      exact (yA_end (by omega) hw.1 (by omega) hm (by omega)).symm
  · simp -dsimp -implicitDefEqProofs
    exact (yA_full (by omega) hw.1 hm (by omega)).symm
end Go.Pe

/- Plates: the reference's life of a hull. -/
namespace Go.Pe
open Go Go.Proofs Go.Proofs.YtffckclggkjbgaaGreat
attribute [local simp] t3 u3 t4 u4 t5 u5 t22 u22 t23 u23 t25 u25 t27 u27 t28 u28 t30 u30 t32 u32 t37 u37 t43 u43 t50 u50 t75 u75 t77 u77 t94 u94 t102 u102 t117 u117 t119 u119 t130 u130 t134 u134 t138 u138 t155 u155 t156 u156 t172 u172
attribute [local simp] tz22 uz22 tz26 uz26 tz29 uz29 tz30 uz30 tz68 uz68 tz69 uz69
attribute [local simp] fP_eq
set_option maxRecDepth 20000
set_option maxHeartbeats 8000000

structure Lf where
  lo : Int
  hi : Int
  k : Nat
def loP (least : Int) (p : Pl) : Int := yA (p.thick.lo - least) p.wear.hi
def hiP (least : Int) (p : Pl) : Int := yA (p.thick.hi - least) p.wear.lo
def lfS (least : Int) (i : Nat) (s : Lf) (p : Pl) : Lf := ⟨if loP least p < s.lo then loP least p else s.lo, min s.hi (hiP least p), if loP least p < s.lo then i else s.k⟩
def lfI (m least : Int) (l : List Pl) : Nat → Lf
  | 0 => ⟨m, m, 0⟩
  | i + 1 => match l[i]? with | some p => lfS least i (lfI m least l i) p | none => lfI m least l i
theorem lfI_zero {m least : Int} {l : List Pl} : lfI m least l 0 = ⟨m, m, 0⟩ := rfl
theorem lfI_succ {m least : Int} {l : List Pl} {i : Nat} {p : Pl} (h : l[i]? = some p) : lfI m least l (i + 1) = lfS least i (lfI m least l i) p := by simp [lfI, h]
theorem yA_le {s w : Int} : yA s w ≤ 1000 := by
  unfold yA
  split
  · omega
  · split <;> omega
theorem lfS_first {m least : Int} {p : Pl} (h : 1000 ≤ m) : lfS least 0 ⟨m, m, 0⟩ p = ⟨loP least p, hiP least p, 0⟩ := by
  have a : loP least p ≤ 1000 := yA_le
  have b : hiP least p ≤ 1000 := yA_le
  have c1 : (if loP least p < m then loP least p else m) = loP least p := by split <;> omega
  have c3 : min m (hiP least p) = hiP least p := by omega
  show (⟨if loP least p < m then loP least p else m, min m (hiP least p), if loP least p < m then 0 else 0⟩ : Lf) = _
  rw [c1, c3, ite_self]
/-- From any high beginning the same comes. -/
theorem lfI_any {m m' least : Int} {l : List Pl} (h1 : 1000 ≤ m) (h2 : 1000 ≤ m') : ∀ i, 0 < i → i ≤ l.length → lfI m least l i = lfI m' least l i := by
  intro i h0 hi
  induction i with
  | zero => omega
  | succ i ih =>
    obtain ⟨p, hx⟩ : ∃ p, l[i]? = some p := ⟨_, List.getElem?_eq_getElem (by omega)⟩
    rw [lfI_succ hx, lfI_succ hx]
    by_cases hz : i = 0
    · subst hz
      rw [lfI_zero, lfI_zero, lfS_first h1, lfS_first h2]
    · rw [ih (by omega) (by omega)]

theorem rLife_fn {l : List Pl} {least : Int} {h : H} {fu : Bool} (hn : l.length ≤ 100) (hp : ∀ p ∈ l, okP p = true) (hl : 0 ≤ least ∧ least ≤ 100000) :
    Fn Tryz.prog 43 [.ro fu 4 (l.map fP), I least] h (.tup [.agg [I (lfI 1000000 least l l.length).lo, I (lfI 1000000 least l l.length).hi], I (lfI 1000000 least l l.length).k]) h := by
  refine Fn.beside ?_ rfl h
  refine Fn.ofR0 noM (by kernel_rfl) Tryz.func43 rfl (by simp) ?_
  simp -dsimp -implicitDefEqProofs
  refine LoopCR.on 58 (fun i => [(0, .ro fu 4 (l.map fP)), (1, I least), (4, .ptr 0 0), (6, .ptr 1 0), (7, I (lfI 1000000 least l i).k), (8, I (i : Nat))]) (fun i => [some [I 0, I 0], some [I (lfI 1000000 least l i).lo, I (lfI 1000000 least l i).hi]]) (fun i => i ≤ l.length) (fun i => l.length - i) 0 [0, 1] (by simp) ?_ ?_
  · simp -dsimp -implicitDefEqProofs [lfI_zero]
  intro i j hi
  simp -dsimp -implicitDefEqProofs
  refine ifD_in (fun hlt => ?_) (fun hge => ?_)
  · have hlt' : i < l.length := by omega
    obtain ⟨p, hx⟩ : ∃ p, l[i]? = some p := ⟨_, List.getElem?_eq_getElem hlt'⟩
    have hok := hp p (List.mem_of_getElem? hx)
    have hok' := hok
    simp [okP, vB_iff] at hok'
    obtain ⟨⟨a1, ⟨a2, a3⟩, a4, a5⟩, b1, ⟨b2, b3⟩, b4, b5⟩ := hok'
    obtain ⟨s, hs⟩ : ∃ s, s = lfI 1000000 least l i := ⟨_, rfl⟩
    have hnew : lfI 1000000 least l (i + 1) = lfS least i s p := by rw [lfI_succ hx, ← hs]
    have w1 : IntKind.i64.wrap ((i : Int) + 1) = (i : Int) + 1 := wrap_in (by omega) (by omega)
    simp -dsimp -implicitDefEqProofs [hx, ← hs]
    refine DrawR.on {} (by kernel_rfl) (by simp) ?_
    simp -dsimp -implicitDefEqProofs [hx]
    refine onCallQ_in ((Years_fn ⟨a2, a3⟩ ⟨b4, b5⟩ hl).beside rfl _) ?_
    simp -dsimp -implicitDefEqProofs
    refine ifD_in (fun h3 => ?_) (fun h3 => ?_)
    · simp -dsimp -implicitDefEqProofs [hx]
      refine DrawR.on { M := [1], see := [(1, 1)], eff := [(18, [1])] } (by kernel_rfl) (by simp) ?_
      simp -dsimp -implicitDefEqProofs [hx]
      refine onCallQ_in ((Years_fn ⟨a4, a5⟩ ⟨b2, b3⟩ hl).beside rfl _) ?_
      simp -dsimp -implicitDefEqProofs [w1]
      refine again_in (i + 1) [0, 1] (by omega) (by omega) ?_
      have h3' : loP least p < s.lo := h3
      simp -dsimp -implicitDefEqProofs [hnew, lfS, h3']
      exact ⟨rfl, rfl⟩
    · simp -dsimp -implicitDefEqProofs [hx]
      refine DrawR.on { M := [1], see := [(1, 1)], eff := [(18, [1])] } (by kernel_rfl) (by simp) ?_
      simp -dsimp -implicitDefEqProofs [hx]
      refine onCallQ_in ((Years_fn ⟨a4, a5⟩ ⟨b2, b3⟩ hl).beside rfl _) ?_
      simp -dsimp -implicitDefEqProofs [w1]
      refine again_in (i + 1) [0, 1] (by omega) (by omega) ?_
      have h3' : ¬ loP least p < s.lo := h3
      simp -dsimp -implicitDefEqProofs [hnew, lfS, h3']
      rfl
  · have hin : i = l.length := by omega
    subst hin
    simp -dsimp -implicitDefEqProofs
end Go.Pe

/- A round of a loop over a function. -/
namespace Go.Pe
open Go

/-- The slots that a round begins with. -/
def putPs (ρ : List AV) (ps : List Tmp) (args : List AV) : List AV := (ps.zip args).foldl (fun ρ p => ρ.set p.1 p.2) ρ

theorem RL_set {c : Cx} {w : World} {D : Nat → Prop} {ρ : List AV} {tmps : Array Value} (h : RL c w D ρ tmps) (d : Nat) {x : AV} {v : Value} (hx : R c w D x v) : RL c w D (ρ.set d x) (tmps.setIfInBounds d v) :=
  RL_put (a := { tmps := tmps, defers := [] }) (some d) h hx
theorem RL_putPs {c : Cx} {w : World} {D : Nat → Prop} : ∀ (ps : List Tmp) (args : List AV) (vs : List Value) (ρ : List AV) (tmps : Array Value), RL c w D ρ tmps → args.length = vs.length → (∀ (i : Nat) (x : AV) (v : Value), args[i]? = some x → vs[i]? = some v → R c w D x v) →
    RL c w D (putPs ρ ps args) ((ps.zip vs).foldl (fun t (p, v) => t.setIfInBounds p v) tmps)
  | [], _, _, ρ, tmps, h, _, _ => h
  | _ :: _, [], [], ρ, tmps, h, _, _ => h
  | _ :: _, [], _ :: _, _, _, _, h, _ => by simp at h
  | _ :: _, _ :: _, [], _, _, _, h, _ => by simp at h
  | p :: ps, x :: args, v :: vs, ρ, tmps, h, hl, hR => by
    simp only [putPs, List.zip_cons_cons, List.foldl_cons]
    exact RL_putPs ps args vs _ _ (RL_set h p (hR 0 x v rfl rfl)) (by simpa using hl) (fun i x v h1 h2 => hR (i + 1) x v h1 h2)

/-- What a round must come to. -/
def FinR (b : Nat) (x : AV) (h' : H) (e : Exit) (h2 : H) : Prop :=
  ∃ r2, h2.lp b = some r2 ∧ match e with
    | .normal => x = .val (.bool true) ∧ h' = h2.lset b (some { r2 with st := .ready, pend := none })
    | .ret => x = .val (.bool false) ∧ h' = h2.lset b (some { r2 with st := .done, pend := some .ret })
    | .exit id => x = .val (.bool false) ∧ h' = h2.lset b (some { r2 with st := .done, pend := some (.exit id) })
    | _ => False

theorem Rd.of_vcE {P : Program} (md : Oper → Bool) {b : Nat} {r : Lp} {args : List AV} {h h' : H} {x : AV} (hb : h.lp b = some r) (hlen : args.length = r.ps.size)
    (hv : vcE P md (some b) r.assign (fun e ρ1 h1 => e = .normal ∧ ∃ r1, h1.lp b = some r1 ∧ r1.st = .ready ∧ vcE P md (some b) r.body (fun e ρ2 h2 => FinR b x h' e h2) ρ1 (h1.lset b (some { r1 with st := .busy }))) (putPs r.ρ r.ps.toList args) h) :
    Rd P b args h x h' := by
  intro n c D w vs hr hD hfr hargs
  obtain ⟨_, _, fn, tmps, dd, hblk, hρ⟩ := hr.lps b r hb
  refine ⟨fn, _, r.assign, r.body, run_yield hblk (by simp only; rw [← hlen, hargs.1]), roundIn_of_wpIn trivial ?_⟩
  refine wpIn_mono (vcE_sound (md := md) (r := some (c.φ b)) (rd := some b) (n := n) (D0 := D) (h0 := h) (c0 := c) (w0 := w) hfr ⟨hD, rfl⟩ r.assign _ _ h _ w c D hv ⟨hr, ?_, Ext.refl D h c w, Marks.of_nil rfl, fun b hb => .inl hb⟩) ?_
  · have := RL_putPs (c := c) (w := w) (D := D) r.ps.toList args vs.toList r.ρ tmps hρ (by simp [hargs.1]) (fun i x v h1 h2 => hargs.2 i x v h1 (by simpa using h2))
    rw [← Array.foldl_toList, Array.toList_zip]
    exact this
  · rintro e a1 w1 ⟨ρ1, h1, c1, D1, ⟨rfl, r1, hb1, hst1, hv1⟩, s1⟩
    obtain ⟨hD1, _, fn1, tmps1, dd1, hblk1, hρ1⟩ := s1.rel.lps b r1 hb1
    have hφ1 : c1.φ b = c.φ b := s1.ext.φ b hD
    obtain ⟨q1, q2⟩ := lset_ok (b := b) (rec := { state := .busy, pending := r1.pend, fn := fn1, tmps := tmps1, params := r1.ps, assign := r1.assign, body := r1.body, defers := dd1 }) s1.rel hb1 (some { r1 with st := .busy })
      (fun r hr => by cases hr; exact ⟨rfl, rfl, rfl, rfl, rfl, hρ1⟩)
    rw [hφ1] at hblk1 q1 q2
    refine ⟨_, run_beginRound hblk1 hst1, ?_⟩
    refine wpIn_mono (vcE_sound (md := md) (r := some (c.φ b)) (rd := some b) (n := n) (D0 := D) (h0 := h) (c0 := c) (w0 := w) hfr ⟨hD, rfl⟩ r.body _ ρ1 _ a1 _ c1 D1 hv1
      ⟨q1, q2.list s1.rel s1.rl, s1.ext.trans q2, s1.defers.step s1.rel q2, s1.dom⟩) ?_
    rintro e a2 w2 ⟨ρ2, h2, c2, D2, ⟨r2, hb2, hq⟩, s2⟩
    obtain ⟨hD2, _, fn2, tmps2, dd2, hblk2, hρ2⟩ := s2.rel.lps b r2 hb2
    have hφ2 : c2.φ b = c.φ b := s2.ext.φ b hD
    have fin : ∀ (jump : Option Code) (st : LoopState), (if jump.isNone then LoopState.ready else LoopState.done) = st → x = .val (.bool jump.isNone) → h' = h2.lset b (some { r2 with st := st, pend := jump }) →
        ∃ v w', (Instr.endRound (c.φ b) jump).run P w2 = .ok v w' ∧ ∃ v' c' D', Ending.returned v = .returned v' ∧ R c' w' D' x v' ∧ Rel c' D' h' w' ∧ Ext D h c w D' c' w' h' ∧ ∀ q, D' q → D q ∨ (h.next ≤ q ∧ q < h'.next) := fun jump st hst hx hh => by
      subst hst; subst hx; subst hh
      obtain ⟨p1, p2⟩ := lset_ok (b := b) (rec := { state := if jump.isNone then .ready else .done, pending := jump, fn := fn2, tmps := tmps2, params := r2.ps, assign := r2.assign, body := r2.body, defers := dd2 }) s2.rel hb2 (some { r2 with st := if jump.isNone then .ready else .done, pend := jump })
        (fun r hr => by cases hr; exact ⟨rfl, rfl, rfl, rfl, rfl, hρ2⟩)
      rw [hφ2] at hblk2 p1 p2
      exact ⟨_, _, run_endRound jump hblk2, _, c2, D2, rfl, .val _, p1, s2.ext.trans p2, s2.dom⟩
    cases e with
    | normal => exact fin none .ready rfl hq.1 hq.2
    | ret => exact fin (some .ret) .done rfl hq.1 hq.2
    | exit id => exact fin (some (.exit id)) .done rfl hq.1 hq.2
    | goto l => exact hq.elim
    | panic ch => exact hq.elim
    | outgrown => exact hq.elim

end Go.Pe

/- A contract over a few blocks holds where such blocks lie among others, under other names. -/
namespace Go.Pe
open Go

theorem Rel.named {c : Cx} {D : Nat → Prop} {h : H} {w : World} {bs : List Nat} {bl : List (Option (List AV))} (hr : Rel c D h w) (hnd : bs.Nodup) (hm : MH bs h bs bl) : Rel (c.named bs) (Dn D bs) (mkH bl) w := by
  obtain ⟨hlen, hget⟩ := MH_get hm
  have blk : ∀ q b, bs[q]? = some b → (c.named bs).φ q = c.φ b := fun q b hb => by simp [Cx.named, hb]
  have own : ∀ q l, (mkH bl).get q = some l → ∃ b cs, bs[q]? = some b ∧ h.get b = some cs ∧ cs.mapM (rn bs 4) = some l := fun q l hq => by
    rw [mkH_get] at hq
    exact hget q l (by cases hb : bl[q]? with | none => simp [hb] at hq | some o => simp [hb] at hq; rw [hq])
  refine ⟨fun q l hq => ?_, fun q q' l l' hq hq' he => ?_, hr.sz, fun b r hb => by simp [mkH] at hb, fun b b' r r' hb => by simp [mkH] at hb⟩
  · obtain ⟨b, cs, e1, e2, e3⟩ := own q l hq
    obtain ⟨q1, q2, C, e, q3, q4, q5⟩ := hr.own b cs e2
    obtain ⟨m1, m2⟩ := mapM_some e3
    rw [blk q b e1]
    refine ⟨⟨b, e1, q1⟩, q2, C, e, q3, by rw [m1]; exact q4, fun k y u g1 g2 => ?_⟩
    have hk := (List.getElem?_eq_some_iff.1 g1).1
    rw [m1] at hk
    obtain ⟨y', g3, g4⟩ := m2 k _ (List.getElem?_eq_getElem hk)
    rw [g1] at g4; cases g4
    exact rn_R 4 _ _ _ (q5 k _ u (List.getElem?_eq_getElem hk) g2) g3
  · obtain ⟨b, cs, e1, e2, _⟩ := own q l hq
    obtain ⟨b', cs', e1', e2', _⟩ := own q' l' hq'
    rw [blk q b e1, blk q' b' e1'] at he
    have := hr.inj b b' cs cs' e2 e2' he
    subst this
    exact (List.getElem?_inj (List.getElem?_eq_some_iff.1 e1).1 hnd).1 (e1.trans e1'.symm)

/-- WHAT IS READ OF A FEW BLOCKS: a contract over them alone holds beside others, under other names. -/
theorem Fn.reads {P : Program} {f : FuncId} {args args0 : List AV} {x : AV} {cs0 : List (List AV)} {h : H} (bs : List Nat) (h0 : Fn P f args0 (mkH (cs0.map some)) x (mkH (cs0.map some))) (hnd : bs.Nodup) (hm : MH bs h bs (cs0.map some)) (ha : args.mapM (rn bs 4) = some args0) (hcl : ∀ b ∈ bs, ∀ cs, h.get b = some cs → cs.all clean = true) (hx : cleanD x = true) : Fn P f args h x h := by
  refine ⟨h0.1, fun n c D w vs hr hfr hargs => ?_⟩
  obtain ⟨hlen, hget⟩ := MH_get hm
  simp only [List.length_map] at hlen
  have hrel := hr.named hnd hm
  obtain ⟨m1, m2⟩ := mapM_some ha
  have hal : RL (c.named bs) w (Dn D bs) args0 vs := by
    refine ⟨by rw [hargs.1, m1], fun i y u e1 e2 => ?_⟩
    have hi := (List.getElem?_eq_some_iff.1 e1).1
    rw [m1] at hi
    obtain ⟨y', e3, e4⟩ := m2 i _ (List.getElem?_eq_getElem hi)
    rw [e1] at e4; cases e4
    exact rn_R 4 _ _ _ (hargs.2 i _ u (List.getElem?_eq_getElem hi) e2) e3
  have blk : ∀ q b, bs[q]? = some b → (c.named bs).φ q = c.φ b := fun q b hb => by simp [Cx.named, hb]
  have mk : ∀ q, q < bs.length → ∃ l, (mkH (cs0.map some)).get q = some l := fun q hq => by
    have hq' : q < cs0.length := by omega
    exact ⟨cs0[q], by rw [mkH_get, List.getElem?_map, List.getElem?_eq_getElem hq']; rfl⟩
  have live : ∀ q b, bs[q]? = some b → ∃ cs, h.get b = some cs := fun q b hb => by
    have hq := (List.getElem?_eq_some_iff.1 hb).1
    obtain ⟨b', cs, e1, e2, _⟩ := hget q cs0[q] (by rw [List.getElem?_map, List.getElem?_eq_getElem (by omega)]; rfl)
    rw [hb] at e1; cases e1
    exact ⟨cs, e2⟩
  refine (h0.2 n (c.named bs) (Dn D bs) w vs hrel (fun q hq hD => by
    obtain ⟨b, e1, _⟩ := hD
    have := (List.getElem?_eq_some_iff.1 e1).1
    simp [mkH] at hq; omega) hal).mono ?_
  rintro ee w' ⟨v, c', D', rfl, h2, h3, h4, h5⟩
  have hφ : ∀ q b, bs[q]? = some b → D b → c'.φ q = c.φ b := fun q b hb hD => by rw [h4.φ q ⟨b, hb, hD⟩, blk q b hb]
  have hD : ∀ q b, bs[q]? = some b → D b := fun q b hb => by
    obtain ⟨cs, e⟩ := live q b hb
    exact (hr.own b cs e).1
  -- what lies where none of the blocks lies stays as it was
  have hfr' : ∀ k, k < w.heap.size → (∀ b ∈ bs, c.φ b ≠ k) → w'.heap[k]? = w.heap[k]? := fun k hk hne => h4.frame k hk (fun q l hq => by
      have hq' : q < bs.length := by
        rw [mkH_get] at hq
        have := (List.getElem?_eq_some_iff.1 (show ((cs0.map some)[q]?) = some (some l) by cases hb : (cs0.map some)[q]? with | none => simp [hb] at hq | some o => simp [hb] at hq; rw [hq])).1
        simp at this; omega
      have hb := List.getElem?_eq_getElem hq'
      rw [blk q _ hb]
      exact hne _ (List.getElem_mem hq')) (fun q r hq => by simp [mkH] at hq)
  have notS : ∀ b ∈ bs, ¬ c'.S (c.φ b) := fun b hb hS => by
    obtain ⟨q, hq⟩ := List.getElem?_of_mem hb
    obtain ⟨l, hl⟩ := mk q (List.getElem?_eq_some_iff.1 hq).1
    have := (h3.own q l hl).2.1
    rw [hφ q b hq (hD q b hq)] at this
    exact this hS
  have hnS : ∀ k, c.S k → ∀ b ∈ bs, c.φ b ≠ k := fun k hk b hb he => by
    obtain ⟨q, hq⟩ := List.getElem?_of_mem hb
    obtain ⟨cs, e⟩ := live q b hq
    exact (hr.own b cs e).2.1 (he ▸ hk)
  have hS' : ∀ k, c'.S k → c.S k ∨ w.heap.size ≤ k := fun k hk => by
    rcases h4.newS k hk with h6 | h6 | ⟨q, l, h6, h7⟩
    · exact .inl h6
    · exact .inr h6
    · have hq' : q < bs.length := by
        rw [mkH_get] at h6
        have := (List.getElem?_eq_some_iff.1 (show ((cs0.map some)[q]?) = some (some l) by cases hb : (cs0.map some)[q]? with | none => simp [hb] at h6 | some o => simp [hb] at h6; rw [h6])).1
        simp at this; omega
      have hb := List.getElem?_eq_getElem hq'
      rw [blk q _ hb] at h7
      exact (notS _ (List.getElem_mem hq') (h7 ▸ hk)).elim
  have hup : ∀ {y : AV} {u : Value} {D'' D2 : Nat → Prop}, R c w D'' y u → (∀ b, D'' b → D2 b) → R { S := c'.S, φ := c.φ } w' D2 y u := fun hy hd =>
    hy.mono h4.S (fun k hk => hfr' k (hr.sz k hk) (hnS k hk)) (fun _ _ => rfl) hd h4.shp
  have hlow : ∀ {y : AV} {u : Value}, R c' w' noId y u → ∀ {D2 : Nat → Prop}, R { S := c'.S, φ := c.φ } w' D2 y u := fun hy =>
    hy.mono (fun _ hk => hk) (fun _ _ => rfl) (fun _ hb => hb.elim) (fun _ hb => hb.elim) (fun _ C _ hk => ⟨C, hk, rfl⟩)
  refine ⟨v, { S := c'.S, φ := c.φ }, D, rfl, hlow (cleanD_R h2 hx), ⟨fun b cs hb => ?_, hr.inj, h3.sz, ?_, hr.linj⟩, ⟨h4.S, fun k hk => ?_, fun _ _ => rfl, fun _ hb => hb, Nat.le_refl _, h4.os, h4.tape, h4.output, h4.size, fun k hk hno hnl => hfr' k hk fun b hb he => ?_, h4.shp, fun b cs hb => .inl ⟨b, cs, hb, rfl⟩, fun b r hb => .inl ⟨b, r, hb, rfl⟩, h4.fz⟩, fun b hb => .inl hb⟩
  · obtain ⟨q1, q2, C, e, q3, q4, q5⟩ := hr.own b cs hb
    by_cases hbs : b ∈ bs
    · obtain ⟨q, hq⟩ := List.getElem?_of_mem hbs
      have hq' := (List.getElem?_eq_some_iff.1 hq).1
      obtain ⟨b', cs', e1, e2, e3⟩ := hget q cs0[q] (by rw [List.getElem?_map, List.getElem?_eq_getElem (by omega)]; rfl)
      rw [hq] at e1; cases e1
      rw [hb] at e2; cases e2
      obtain ⟨p1, p2, C', e', p3, p4, p5⟩ := h3.own q cs0[q] (by rw [mkH_get, List.getElem?_map, List.getElem?_eq_getElem (by omega)]; rfl)
      rw [hφ q b hq q1] at p2 p3
      obtain ⟨n1, n2⟩ := mapM_some e3
      have hcc := List.all_eq_true.1 (hcl b hbs cs hb)
      refine ⟨q1, p2, C', e', p3, by rw [n1] at p4; exact p4, fun k y u g1 g2 => ?_⟩
      obtain ⟨y', g3, g4⟩ := n2 k y g1
      have hy := hcc y (List.mem_of_getElem? g1)
      have hyy : y' = y := by
        have key : ∀ (n : Nat) (z z' : AV), clean1 z = true → rn bs (n + 1) z = some z' → z' = z := fun n z z' hz hr => by
          cases z <;> first | (simp [rn] at hr; exact hr.symm) | (simp [clean1] at hz)
        cases y with
        | clo f2 caps =>
          simp only [clean] at hy
          rw [rn_clo, rnL_clean hy] at g3
          simp at g3; exact g3.symm
        | _ => exact key 3 _ _ hy g3
      subst hyy
      exact hlow (clean_R (p5 k _ u g4 g2) hy)
    · have hlt := (Array.getElem?_eq_some_iff.1 q3).1
      have hne : ∀ b' ∈ bs, c.φ b' ≠ c.φ b := fun b' hb' he => by
        obtain ⟨q, hq⟩ := List.getElem?_of_mem hb'
        obtain ⟨cs', e'⟩ := live q b' hq
        exact hbs (hr.inj b' b cs' cs e' hb he ▸ hb')
      refine ⟨q1, fun hS => ?_, C, e, by rw [hfr' _ hlt hne]; exact q3, q4, fun k y u g1 g2 => hup (q5 k y u g1 g2) fun _ h => h⟩
      rcases hS' _ hS with h6 | h6
      · exact q2 h6
      · exact absurd hlt (Nat.not_lt.2 h6)
  · refine hr.lps_keep h4.S (fun k hk => hfr' k (hr.sz k hk) (hnS k hk)) (fun _ _ => rfl) (fun _ hb => hb) h4.shp (fun q r hq => hfr' _ (hr.lp_lt hq) fun b hb he => ?_) (fun q r hq hS => ?_)
    · obtain ⟨q2, hq2⟩ := List.getElem?_of_mem hb
      obtain ⟨cs, e⟩ := live q2 b hq2
      obtain ⟨_, _, C, e', q3, _⟩ := hr.own b cs e
      exact hr.apart (b' := b) hq q3 he.symm
    · rcases hS' _ hS with h6 | h6
      · exact h6
      · have := hr.lp_lt hq; omega
  · rcases hS' k hk with h6 | h6
    · exact .inl h6
    · exact .inr (.inl h6)
  · obtain ⟨q, hq⟩ := List.getElem?_of_mem hb
    obtain ⟨cs, e⟩ := live q b hq
    exact hno b cs e he
end Go.Pe
