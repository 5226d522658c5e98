import Derived.Test.YtffckclggkjbgaaGreatM15
import Derived.Test.YtffckclggkjbgaaGreatM14
import Derived.Test.YtffckclggkjbgaaGreatM10
set_option linter.unusedVariables false
set_option linter.unusedSimpArgs false
/- Functions whose new memory names other new memory; names of blocks, many at once. -/
namespace Go.Pe
open Go
/-- A FUNCTION THAT MAKES MEMORY, beside what is there: the new blocks may name each other. -/
theorem Fn.makes2 {P : Program} {f : FuncId} {args : List AV} {x y : AV} {bl bl2 : List (List AV)} (h0 : Fn P f args .nil x (mkH (bl.map some))) (hc : args.all cleanD = true) (h : H) (hlen : bl2.length = bl.length) (hbl : ∀ (i : Nat) (l2 : List AV), bl2[i]? = some l2 → ∃ l : List AV, bl[i]? = some l ∧ l.mapM (sft h.next 4) = some l2) (hx : sft h.next 4 x = some y) : Fn P f args h y (h.more bl2) := by
  refine ⟨h0.1, fun n c D w vs hr hfr hargs => ?_⟩
  have hnil : Rel c noId .nil w := ⟨fun b cs hb => by simp [H.nil] at hb, fun b b' _ _ hb => by simp [H.nil] at hb, hr.sz, fun b r hb => by simp [H.nil] at hb, fun b b' _ _ hb => by simp [H.nil] at hb⟩
  have hal : RL c w noId args vs := ⟨hargs.1, fun i y u e1 e2 => cleanD_R (hargs.2 i y u e1 e2) ((List.all_eq_true.1 hc) y (List.mem_of_getElem? e1))⟩
  refine (h0.2 n c noId w vs hnil (fun _ _ h => h) hal).mono ?_
  rintro ee w' ⟨v, c', D', rfl, h2, h3, h4, h5⟩
  have hD' : ∀ b, D' b → b < bl.length := fun b hb => by
    rcases h5 b hb with h6 | h6
    · exact h6.elim
    · simpa [mkH] using h6.2
  have hDn : ∀ b, D b → b < h.next := fun b hb => Nat.lt_of_not_le fun hle => hfr b hle hb
  obtain ⟨c2, hc2⟩ : ∃ c2 : Cx, c2 = { S := c'.S, φ := fun q => if q < h.next then c.φ q else c'.φ (q - h.next) } := ⟨_, rfl⟩
  obtain ⟨D2, hD2⟩ : ∃ D2 : Nat → Prop, D2 = fun q => D q ∨ (h.next ≤ q ∧ D' (q - h.next)) := ⟨_, rfl⟩
  have φo : ∀ b, D b → c2.φ b = c.φ b := fun b hb => by rw [hc2]; simp [hDn b hb]
  have φn : ∀ b, c2.φ (h.next + b) = c'.φ b := fun b => by
    rw [hc2]
    simp only
    rw [if_neg (by omega), Nat.add_sub_cancel_left]
  have hold : ∀ k, k < w.heap.size → w'.heap[k]? = w.heap[k]? := fun k hk => h4.frame k hk (fun b cs hb => by simp [H.nil] at hb) (fun b r hb => by simp [H.nil] at hb)
  have hS2 : ∀ k, c.S k → c2.S k := fun k hk => by rw [hc2]; exact h4.S k hk
  have hS2' : ∀ k, c2.S k → c.S k ∨ w.heap.size ≤ k := fun k hk => by
    rw [hc2] at hk
    rcases h4.newS k hk with h6 | h6 | ⟨b, cs, h6, _⟩
    · exact .inl h6
    · exact .inr h6
    · simp [H.nil] at h6
  have hup : ∀ {y : AV} {u : Value}, R c w D y u → R c2 w' D2 y u := fun hy => hy.mono hS2 (fun k hk => hold k (hr.sz k hk)) φo (fun b hb => by rw [hD2]; exact .inl hb) h4.shp
  have hlow : ∀ {y : AV} {u : Value} {D3 : Nat → Prop}, R c' w' noId y u → R c2 w' D3 y u := fun hy => hy.mono (fun _ hk => by rw [hc2]; exact hk) (fun _ _ => rfl) (fun _ hb => hb.elim) (fun _ hb => hb.elim) (fun _ C _ hk => ⟨C, hk, rfl⟩)
  have shift : ∀ (n : Nat) (z z' : AV) (u : Value), R c' w' D' z u → sft h.next n z = some z' → R c2 w' D2 z' u := by
    intro n
    induction n with
    | zero => intro z z' u _ hz; cases hz
    | succ n ih =>
      intro z z' u hz hs
      have list : ∀ {l m : List AV} {cs : Array Value}, RL c' w' D' l cs → l.mapM (sft h.next n) = some m → RL c2 w' D2 m cs := fun hl hm => by
        obtain ⟨q1, q2⟩ := mapM_some hm
        refine ⟨by rw [hl.1, q1], fun i y u e1 e2 => ?_⟩
        have hi := (List.getElem?_eq_some_iff.1 e1).1
        rw [q1] at hi
        obtain ⟨y', e3, e4⟩ := q2 i _ (List.getElem?_eq_getElem hi)
        rw [e1] at e4; cases e4
        exact ih _ _ _ (hl.2 i _ u (List.getElem?_eq_getElem hi) e2) e3
      simp only [sft] at hs
      cases hz with
      | val v => cases hs; exact .val _
      | ro cell g1 g2 g3 g4 g5 g6 g7 g8 => cases hs; exact hlow (.ro cell g1 g2 g3 g4 g5 g6 g7 g8)
      | nil => cases hs; exact .nil
      | emp => cases hs; exact .emp
      | rop cell g1 g2 g3 => cases hs; exact hlow (.rop cell g1 g2 g3)
      | agg hs2 hh =>
        obtain ⟨m, hm, rfl⟩ := Option.map_eq_some_iff.1 hs
        obtain ⟨g1, g2⟩ := list ⟨hs2, hh⟩ hm
        exact .agg g1 g2
      | tup hs2 hh =>
        obtain ⟨m, hm, rfl⟩ := Option.map_eq_some_iff.1 hs
        obtain ⟨g1, g2⟩ := list ⟨hs2, hh⟩ hm
        exact .tup g1 g2
      | ptr hb => cases hs; rw [← φn]; exact .ptr (by rw [hD2]; exact .inr ⟨by omega, by simpa using hb⟩)
      | sl hb g1 C e g2 g3 => cases hs; rw [← φn] at g2 ⊢; exact .sl (by rw [hD2]; exact .inr ⟨by omega, by simpa using hb⟩) g1 C e g2 g3
      | slc hb g1 C e g2 g3 => cases hs
      | clo hs2 hh => cases hs
      | yld hb => cases hs
  have onew : ∀ b cs, (mkH (bl.map some)).get b = some cs → w.heap.size ≤ c'.φ b := fun b cs hb => by
    rcases h4.origin b cs hb with ⟨b0, cs0, h6, _⟩ | h6
    · simp [H.nil] at h6
    · exact h6
  have mget : ∀ b cs, bl[b]? = some cs → (mkH (bl.map some)).get b = some cs := fun b cs hb => by rw [mkH_get, List.getElem?_map, hb]; rfl
  have oldlt : ∀ b cs, h.get b = some cs → c.φ b < w.heap.size := fun b cs hb => by
    obtain ⟨_, _, C, e, q3, _⟩ := hr.own b cs hb
    exact (Array.getElem?_eq_some_iff.1 q3).1
  refine ⟨v, c2, D2, rfl, shift 4 _ _ _ h2 hx, ⟨fun q cs hq => ?_, fun q q' cs cs' hq hq' he => ?_, by rw [hc2]; exact h3.sz, ?_, fun b b' r r' e1 e2 he => ?_⟩, ⟨hS2, fun k hk => ?_, φo, fun b hb => by rw [hD2]; exact .inl hb, Nat.le_add_right _ _, h4.os, h4.tape, h4.output, h4.size, fun k hk _ _ => hold k hk, h4.shp, fun q cs hq => ?_, fun b r hb => .inl ⟨b, r, hb, (φo b (hr.lps b r hb).1).symm⟩, h4.fz⟩, fun q hq => ?_⟩
  · simp only [H.more] at hq
    split at hq
    · obtain ⟨q1, q2, C, e, q3, q4, q5⟩ := hr.own q cs hq
      have hlt := (Array.getElem?_eq_some_iff.1 q3).1
      rw [φo q q1]
      refine ⟨by rw [hD2]; exact .inl q1, fun hS => ?_, C, e, by rw [hold _ hlt]; exact q3, q4, fun k y u g1 g2 => hup (q5 k y u g1 g2)⟩
      rcases hS2' _ hS with h6 | h6
      · exact q2 h6
      · omega
    · rename_i hge
      obtain ⟨ds, hds, hdm⟩ := hbl _ _ hq
      obtain ⟨n1, n2⟩ := mapM_some hdm
      obtain ⟨p1, p2, C, e, p3, p4, p5⟩ := h3.own (q - h.next) ds (mget _ _ hds)
      have e9 : c2.φ q = c'.φ (q - h.next) := by have := φn (q - h.next); rwa [show h.next + (q - h.next) = q by omega] at this
      rw [e9]
      refine ⟨by rw [hD2]; exact .inr ⟨by omega, p1⟩, by rw [hc2]; exact p2, C, e, p3, by rw [n1]; exact p4, fun k y u g1 g2 => ?_⟩
      have hk := (List.getElem?_eq_some_iff.1 g1).1
      rw [n1] at hk
      obtain ⟨y', g3, g4⟩ := n2 k _ (List.getElem?_eq_getElem hk)
      rw [g1] at g4; cases g4
      exact shift 4 _ _ _ (p5 k _ u (List.getElem?_eq_getElem hk) g2) g3
  · simp only [H.more] at hq hq'
    have cross : ∀ b b' ds ds', h.get b = some ds → b < h.next → bl2[b' - h.next]? = some ds' → ¬ b' < h.next → c2.φ b = c2.φ b' → False := fun b b' ds ds' g1 g2 g3 g4 g5 => by
      have e1 := oldlt b ds g1
      obtain ⟨d9, g9, _⟩ := hbl _ _ g3
      have e2 := onew _ _ (mget _ _ g9)
      have e9 : c2.φ b' = c'.φ (b' - h.next) := by have := φn (b' - h.next); rwa [show h.next + (b' - h.next) = b' by omega] at this
      rw [φo b (hr.own b ds g1).1, e9] at g5
      omega
    split at hq <;> split at hq'
    · rw [φo q (hr.own q cs hq).1, φo q' (hr.own q' cs' hq').1] at he
      exact hr.inj q q' cs cs' hq hq' he
    · rename_i g1 g2; exact (cross q q' cs cs' hq g1 hq' g2 he).elim
    · rename_i g1 g2; exact (cross q' q cs' cs hq' g2 hq g1 he.symm).elim
    · rename_i g1 g2
      have e9 : c2.φ q = c'.φ (q - h.next) := by have := φn (q - h.next); rwa [show h.next + (q - h.next) = q by omega] at this
      have e8 : c2.φ q' = c'.φ (q' - h.next) := by have := φn (q' - h.next); rwa [show h.next + (q' - h.next) = q' by omega] at this
      rw [e9, e8] at he
      obtain ⟨d1, w1, _⟩ := hbl _ _ hq
      obtain ⟨d2, w2, _⟩ := hbl _ _ hq'
      have := h3.inj _ _ d1 d2 (mget _ _ w1) (mget _ _ w2) he
      omega
  · exact hr.lps_keep hS2 (fun k hk => hold k (hr.sz k hk)) φo (fun b hb => by rw [hD2]; exact .inl hb) h4.shp (fun b r hb => hold _ (hr.lp_lt hb)) (fun b r hb hS => by
      rcases hS2' _ hS with h6 | h6
      · exact h6
      · have := hr.lp_lt hb; omega)
  · exact hr.linj_keep φo b b' r r' e1 e2 he
  · rcases hS2' k hk with h6 | h6
    · exact .inl h6
    · exact .inr (.inl h6)
  · simp only [H.more] at hq
    split at hq
    · exact .inl ⟨q, cs, hq, (φo q (hr.own q cs hq).1).symm⟩
    · have e9 : c2.φ q = c'.φ (q - h.next) := by have := φn (q - h.next); rwa [show h.next + (q - h.next) = q by omega] at this
      obtain ⟨d1, w1, _⟩ := hbl _ _ hq
      rw [e9]; exact .inr (onew _ _ (mget _ _ w1))
  · rw [hD2] at hq
    rcases hq with hq | ⟨h6, h7⟩
    · exact .inl hq
    · have := hD' _ h7
      exact .inr ⟨h6, by simp only [H.more]; omega⟩
/-- Blocks that keep their contents, one after another, under any names. -/
theorem MH_of {bs0 : List Nat} {h : H} : ∀ {bs : List Nat} {bl : List (Option (List AV))}, bs.length = bl.length → (∀ (i : Nat) (b : Nat) (c : List AV), bs[i]? = some b → bl[i]? = some (some c) → ∃ cs, h.get b = some cs ∧ cs.mapM (rn bs0 4) = some c) → MH bs0 h bs bl
  | [], [], _, _ => trivial
  | b :: bs, some c :: bl, hl, hg => ⟨hg 0 b c rfl rfl, MH_of (by simpa using hl) fun i b' c' h1 h2 => hg (i + 1) b' c' (by simpa using h1) (by simpa using h2)⟩
  | b :: bs, none :: bl, hl, hg => MH_of (bs := bs) (bl := bl) (by simpa using hl) fun i b' c' h1 h2 => hg (i + 1) b' c' (by simpa using h1) (by simpa using h2)
  | [], _ :: _, hl, _ => by simp at hl
  | _ :: _, [], hl, _ => by simp at hl
/-- The new name of a block in a list of names. -/
theorem rnI_at {b i0 : Nat} : ∀ {bs : List Nat} {i : Nat}, bs[i]? = some b → (∀ k, k < i → bs[k]? ≠ some b) → rnI b bs i0 = some (i0 + i)
  | [], i, h, _ => by simp at h
  | q :: bs, 0, h, _ => by simp at h; simp [rnI, h]
  | q :: bs, i + 1, h, hn => by
    have h0 : b ≠ q := fun e => hn 0 (by omega) (by simp [e])
    have := rnI_at (b := b) (i0 := i0 + 1) (bs := bs) (i := i) (by simpa using h) fun k hk => by simpa using hn (k + 1) (by omega)
    simp only [rnI, if_neg h0, this]
    congr 1; omega
end Go.Pe

/- Results of three to five values. -/
namespace Go.Pe
open Go
variable {P : Program} {ρ : List AV} {h : H}
@[simp] theorem resA_three {a b c : ResultVar} : resA P #[a, b, c] ρ h = (resOne P ρ h a).bind fun x => (resOne P ρ h b).bind fun y => (resOne P ρ h c).bind fun z => some (.tup [x, y, z]) := by
  simp [resA]; cases resOne P ρ h a <;> cases resOne P ρ h b <;> cases resOne P ρ h c <;> simp
@[simp] theorem resA_four {a b c d : ResultVar} : resA P #[a, b, c, d] ρ h = (resOne P ρ h a).bind fun x => (resOne P ρ h b).bind fun y => (resOne P ρ h c).bind fun z => (resOne P ρ h d).bind fun u => some (.tup [x, y, z, u]) := by
  simp [resA]; cases resOne P ρ h a <;> cases resOne P ρ h b <;> cases resOne P ρ h c <;> cases resOne P ρ h d <;> simp
@[simp] theorem resA_five {a b c d e : ResultVar} : resA P #[a, b, c, d, e] ρ h = (resOne P ρ h a).bind fun x => (resOne P ρ h b).bind fun y => (resOne P ρ h c).bind fun z => (resOne P ρ h d).bind fun u => (resOne P ρ h e).bind fun w => some (.tup [x, y, z, u, w]) := by
  simp [resA]; cases resOne P ρ h a <;> cases resOne P ρ h b <;> cases resOne P ρ h c <;> cases resOne P ρ h d <;> cases resOne P ρ h e <;> simp
end Go.Pe

/- Plates: the life of a hull. -/
namespace Go.Pe
open Go Go.Proofs Go.Proofs.YtffckclggkjbgaaGreat
attribute [local simp] t3 u3 t4 u4 t5 u5 t22 u22 t23 u23 t25 u25 t27 u27 t28 u28 t30 u30 t32 u32 t37 u37 t43 u43 t50 u50 t75 u75 t77 u77 t94 u94 t102 u102 t117 u117 t119 u119 t130 u130 t134 u134 t138 u138 t155 u155 t156 u156 t172 u172
attribute [local simp] tz22 uz22 tz26 uz26 tz29 uz29 tz30 uz30 tz68 uz68 tz69 uz69
attribute [local simp] fP_eq
set_option maxRecDepth 20000
set_option maxHeartbeats 8000000

open Classical in
/-- A truth about what lies in a row, said of the row. -/
noncomputable def pOf {α : Type} (f : α → List AV) (q : α → Bool) (x : List AV) : Bool := if h : ∃ a, f a = x then q h.choose else false
theorem pOf_eq {α : Type} {f : α → List AV} {q : α → Bool} (hf : ∀ a b, f a = f b → a = b) (a : α) : pOf f q (f a) = q a := by
  have h : ∃ b, f b = f a := ⟨a, rfl⟩
  unfold pOf
  rw [dif_pos h, hf _ _ h.choose_spec]
theorem all_pOf {α : Type} {f : α → List AV} {q : α → Bool} (hf : ∀ a b, f a = f b → a = b) (l : List α) : (l.map f).all (pOf f q) = l.all q := by
  rw [List.all_map]
  congr 1
  funext a
  exact pOf_eq hf a

theorem fP_inj (a b : Pl) (h : fP a = fP b) : a = b := by
  obtain ⟨⟨a1, a2⟩, a3, a4⟩ := a
  obtain ⟨⟨b1, b2⟩, b3, b4⟩ := b
  simp at h
  obtain ⟨h1, h2, h3, h4⟩ := h
  rw [h1, h2, h3, h4]
theorem plates_fn {l : List Pl} {fu : Bool} {h : H} (hl : (l.length : Int) < 2^62) : Fn Tryz.prog 81 [.ro fu 4 (l.map fP), .clo 82 []] h (B (l.all okP)) h := by
  have := every_plate (f := 82) (caps := []) (h := h) (p := pOf fP okP) (xs := l.map fP) (fu := fu) (by simpa using hl) (by simp) (by simp [one_int]) (fun x hx => by
    obtain ⟨r, hr, rfl⟩ := List.mem_map.1 hx
    rw [pOf_eq fP_inj]
    exact validPlate_fn)
  rwa [all_pOf fP_inj] at this
theorem vin1_fn {lo hi x : Int} {h : H} : Fn Tryz.prog 60 [I lo, I hi, .ro true 1 [[I x]]] h (B (inB lo hi x)) h := by
  have := vWithin_fn (lo := lo) (hi := hi) (h := h) (xs := [x]) (fu := true) (by simp)
  have e : ([x].all fun x => decide (lo ≤ x) && decide (x ≤ hi)) = inB lo hi x := by simp [inB]
  rwa [e] at this

def lifeE (l : List Pl) (least : Int) : Int := if l.length = 0 then 4 else if 50 < l.length then 5 else if l.all okP = false then 2 else if inB 0 100000 least = false then 3 else 0
theorem Life_bad {l : List Pl} {least : Int} {h : H} {fu : Bool} (hl : (l.length : Int) < 2^62) (he : lifeE l least ≠ 0) :
    Fn Tryz.prog 42 [.ro fu 4 (l.map fP), I least] h (.tup [.agg [I 0, I 0], I 0, I (lifeE l least)]) h := by
  refine Fn.beside ?_ rfl h
  refine Fn.ofR0 noM (by kernel_rfl) Tryz.func42 rfl (by simp) ?_
  simp -dsimp -implicitDefEqProofs
  refine ifD_in (fun h1 => ?_) (fun h1 => ?_)
  · have h0 : l = [] := List.length_eq_zero_iff.1 (by omega)
    simp -dsimp -implicitDefEqProofs [lifeE, h0]
  simp -dsimp -implicitDefEqProofs
  refine ifD_in (fun h2 => ?_) (fun h2 => ?_)
  · have h2' : 50 < l.length := by omega
    have h0 : l ≠ [] := by rintro rfl; simp at h1
    simp -dsimp -implicitDefEqProofs [lifeE, h0, h2']
  have h2' : ¬ 50 < l.length := by omega
  have h0 : l ≠ [] := by rintro rfl; simp at h1
  simp -dsimp -implicitDefEqProofs
  refine onCall_in (plates_fn hl) ?_
  simp -dsimp -implicitDefEqProofs
  refine ifB_in (fun h3 => ?_) (fun h3 => ?_)
  · have h3' : l.all okP = true := h3
    simp -dsimp -implicitDefEqProofs
    refine onCall_in vin1_fn ?_
    simp -dsimp -implicitDefEqProofs
    refine ifB_in (fun h4 => ?_) (fun h4 => ?_)
    · exact absurd (by simp [lifeE, h0, h2', h3', h4]) he
    · simp -dsimp -implicitDefEqProofs [lifeE, h0, h2', h3', h4]
  · have h3' : l.all okP = false := h3
    simp -dsimp -implicitDefEqProofs [lifeE, h0, h2', h3']
theorem Life_fn {l : List Pl} {least : Int} {h : H} {fu : Bool} (hl : (l.length : Int) < 2^62) (he : lifeE l least = 0) :
    Fn Tryz.prog 42 [.ro fu 4 (l.map fP), I least] h (.tup [.agg [I (lfI 1000 least l l.length).lo, I (lfI 1000 least l l.length).hi], I (lfI 1000 least l l.length).k, I 0]) h := by
  refine Fn.beside ?_ rfl h
  have g : (l.length ≠ 0 ∧ l.length ≤ 50) ∧ l.all okP = true ∧ inB 0 100000 least = true := by
    unfold lifeE at he
    split at he; · omega
    split at he; · omega
    split at he; · omega
    split at he; · omega
    rename_i a b c d
    exact ⟨⟨a, by omega⟩, by simpa using c, by simpa using d⟩
  obtain ⟨⟨g1, g2⟩, g3, g4⟩ := g
  have g5 := inB_iff.1 g4
  have d1 : decide ((l.length : Int) = 0) = false := by simpa using g1
  have d2 : decide ((l.length : Int) > 50) = false := by simp; omega
  have d3 : decide (50 < (l.length : Int)) = false := by simp; omega
  refine Fn.ofR0 noM (by kernel_rfl) Tryz.func42 rfl (by simp) ?_
  simp -dsimp -implicitDefEqProofs
  refine ifD_in (fun h1 => ?_) (fun h1 => ?_)
  · exact absurd (by simpa using h1) g1
  simp -dsimp -implicitDefEqProofs
  refine ifD_in (fun h1 => ?_) (fun h1 => ?_)
  · exact absurd h1 (by omega)
  simp -dsimp -implicitDefEqProofs
  refine onCall_in (plates_fn hl) ?_
  simp -dsimp -implicitDefEqProofs [g3]
  refine onCall_in vin1_fn ?_
  simp -dsimp -implicitDefEqProofs [g4]
  refine LoopCR.on 56 (fun i => [(1, I least), (4, .ptr 0 0), (5, I (lfI 1000 least l i).k), (6, I 0), (28, .ro fu 4 (l.map fP)), (29, I l.length), (30, I (i : Nat))]) (fun i => [some [I (lfI 1000 least l i).lo, I (lfI 1000 least l i).hi]]) (fun i => i ≤ l.length) (fun i => l.length - i) 0 [0] (by simp) ?_ ?_
  · simp -dsimp -implicitDefEqProofs [lfI_zero]
  intro i j hi
  simp -dsimp -implicitDefEqProofs
  refine ifD_in (fun hlt => ?_) (fun hge => ?_)
  · have hlt' : i < l.length := by omega
    obtain ⟨p, hx⟩ : ∃ p, l[i]? = some p := ⟨_, List.getElem?_eq_getElem hlt'⟩
    have hok : okP p = true := List.all_eq_true.1 g3 p (List.mem_of_getElem? hx)
    obtain ⟨s, hs⟩ : ∃ s, s = lfI 1000 least l i := ⟨_, rfl⟩
    have hnew : lfI 1000 least l (i + 1) = lfS least i s p := by rw [lfI_succ hx, ← hs]
    have w1 : IntKind.i64.wrap ((i : Int) + 1) = (i : Int) + 1 := wrap_in (by omega) (by omega)
    have hy := yearsOf_fn (p := p) (least := least) (h := .nil) hok g5
    rw [fP_eq] at hy
    simp -dsimp -implicitDefEqProofs [hx, ← hs]
    refine onCall_in (hy.beside rfl _) ?_
    simp -dsimp -implicitDefEqProofs
    refine ifD_in (fun h3 => ?_) (fun h3 => ?_)
    · simp -dsimp -implicitDefEqProofs [w1]
      refine again_in (i + 1) [0] (by omega) (by omega) ?_
      have h3' : loP least p < s.lo := h3
      simp -dsimp -implicitDefEqProofs [hnew, lfS, h3']
      exact ⟨rfl, rfl⟩
    · simp -dsimp -implicitDefEqProofs [w1]
      refine again_in (i + 1) [0] (by omega) (by omega) ?_
      have h3' : ¬ loP least p < s.lo := h3
      simp -dsimp -implicitDefEqProofs [hnew, lfS, h3']
      rfl
  · have hin : i = l.length := by omega
    subst hin
    simp -dsimp -implicitDefEqProofs
end Go.Pe

/- Code that runs on known values: what it comes to is computed, and so it is. -/
namespace Go.Pe
open Go

/-- The heap as a list: the newest first; 'none': a block that is gone. -/
abbrev Cells := List (Nat × Option (List AV))
def look {α : Type} (b : Nat) : List (Nat × Option α) → Option α
  | [] => none
  | (q, c) :: l => bif Nat.beq q b then c else look b l
structure Sx where
  next : Nat
  top : Cells
  lps : List (Nat × Option Lp)
def Sx.h (base : Cells) (s : Sx) : H := { next := s.next, get := fun b => look b (s.top ++ base), lp := fun b => look b s.lps }

theorem look_cons {α : Type} {b q : Nat} {c : Option α} {l : List (Nat × Option α)} : look b ((q, c) :: l) = if b = q then c else look b l := by
  simp only [look]
  by_cases h : b = q
  · subst h; simp [Nat.beq_refl]
  · rw [if_neg h]
    have : Nat.beq q b = false := by
      cases hb : Nat.beq q b with
      | false => rfl
      | true => exact absurd (Nat.eq_of_beq_eq_true hb).symm h
    rw [this]; rfl
theorem look_map {α : Type} {f : Nat → Option α} {l : List (Nat × Option α)} {b : Nat} : ∀ (T : List Nat), look b (T.map (fun q => (q, f q)) ++ l) = if b ∈ T then f b else look b l
  | [] => by simp
  | q :: T => by
    simp only [List.map_cons, List.cons_append, look_cons, look_map T, List.mem_cons]
    by_cases h : b = q
    · subst h; simp
    · simp [h]
theorem look_filter {α : Type} {b q : Nat} : ∀ (l : List (Nat × Option α)), look b (l.filter (fun p => p.1 != q)) = if b = q then none else look b l
  | [] => by simp [look]
  | (k, c) :: l => by
    rw [List.filter_cons]
    by_cases hk : k = q
    · subst hk
      simp only [bne_self_eq_false, Bool.false_eq_true, if_false, look_filter l, look_cons]
      by_cases hb : b = k
      · rw [if_pos hb, if_pos hb]
      · rw [if_neg hb, if_neg hb, if_neg hb]
    · have : (k != q) = true := by simpa using hk
      simp only [this, if_true, look_cons, look_filter l]
      by_cases hb : b = k
      · subst hb; simp [hk]
      · simp [hb]

def ownB : AV → List Nat
  | .sl b _ _ _ => [b]
  | .slc b _ _ _ _ => [b]
  | _ => []
/-- Which blocks an effect turns, or looks into. -/
def touch (o : Oper) (ρ : List AV) (nx : Nat) : List Nat :=
  match o.op with
  | .store _ p _ => match aev ρ p with | .ptr b _ => [b] | _ => []
  | .call { callee := .builtin .append, args := ⟨[s, x]⟩, .. } => nx :: ownB (aev ρ s) ++ ownB (aev ρ x)
  | .buildSlice _ _ _ => []
  | _ => [nx]

theorem eop_touch {P : Program} {own : Bool} {o : Oper} {ρ : List AV} {v : H} {r : AV × H} (h : eop P own o ρ v = some r) {b : Nat} (hb : b ∉ touch o ρ v.next) : r.2.get b = v.get b := by
  unfold eop at h
  split at h <;> rename_i hop <;> first | (cases h; done) | skip
  · obtain ⟨T, _, h⟩ := tyInt2_some h; cases h
    simp only [touch, hop, List.mem_singleton] at hb
    simp [H.push, hb]
  · split at h
    · cases h
      simp only [touch, hop, List.mem_singleton] at hb
      simp [H.push, hb]
    · cases h
  · obtain ⟨T, _, h⟩ := tyInt2_some h
    unfold storeA at h
    split at h
    · rename_i b' o' l hp hl
      split at h
      · split at h
        · cases h
          simp only [touch, hop, hp, List.mem_singleton] at hb
          simp [H.set, hb]
        · cases h
      · cases h
    · cases h
  · obtain ⟨T, _, h⟩ := tyInt2_some h
    split at h
    · obtain ⟨E, _, h⟩ := tyInt2_some h
      unfold buildSliceA at h
      split at h
      · split at h
        · split at h
          · cases h; rfl
          · cases h
        · cases h
      · cases h
    · cases h
  · obtain ⟨T, _, h⟩ := tyInt2_some h
    split at h
    · obtain ⟨E, _, h⟩ := tyInt2_some h
      split at h
      · unfold makeSliceA at h
        simp only [touch, hop, List.mem_singleton] at hb
        split at h
        · split at h
          · cases h
            simp [H.push, hb]
          · cases h
            simp [H.push, hb]
        · cases h
      · cases h
    · cases h
  · obtain ⟨T, _, h⟩ := tyInt2_some h
    obtain ⟨TX, _, h⟩ := tyInt2_some h
    split at h
    · obtain ⟨E, _, h⟩ := tyInt2_some h
      simp only [touch, hop, List.cons_append, List.mem_cons, List.mem_append, not_or] at hb
      obtain ⟨hb1, hb2, hb3⟩ := hb
      have hX : ∀ {s x : AV}, appendX E v s x = some r → b ∉ ownB s → r.2.get b = v.get b := fun {s x} hx hs => (appendX_new hx).2.2.2 b hb1 (fun b0 o l k e => by subst e; simpa [ownB] using hs) (fun b0 o l k c e => by subst e; simpa [ownB] using hs)
      unfold appendA at h
      split at h
      · exact hX h hb2
      · split at h
        · split at h
          · rename_i hs
            have hb4 := hb2
            rw [hs] at hb4
            simp only [ownB, List.mem_singleton] at hb4
            split at h
            · split at h
              · split at h
                · cases h
                  simp only
                  rw [if_neg hb1, if_neg hb4]
                · split at h
                  · cases h
                    simp only
                    rw [if_neg hb1, if_neg hb4]
                  · cases h
              · exact hX h hb2
            · cases h
          · rename_i hs
            exact hX h hb2
          · split at h
            · split at h
              · split at h
                · cases h; rfl
                · cases h; simp [H.push, hb1]
              · split at h
                · cases h; rfl
                · cases h
            · cases h
          · split at h
            · split at h
              · split at h
                · cases h; rfl
                · cases h; simp [H.push, hb1]
              · cases h; rfl
            · cases h
          · cases h
        · cases h
    · obtain ⟨E, _, h⟩ := tyInt2_some h
      simp only [touch, hop, List.cons_append, List.mem_cons, List.mem_append, not_or] at hb
      exact (zeroApp_new h).2.2.2 b hb.1
    · cases h

section
variable (C : Cells → AV → List AV → Sx → Option (AV × Sx)) (P : Program)

/-- One operation. -/
def evStep (base : Cells) (o : Oper) (ρ : List AV) (s : Sx) : Option (AV × Sx) :=
  match o.op with
  | .call { callee := .value f, args, .. } => C base (aev ρ f) (args.toList.map (aev ρ)) s
  | _ => match pop P o ρ (s.h base) with
    | some x => some (x, s)
    | none => match eop P true o ρ (s.h base) with
      | some (x, r) => some (x, { next := r.next, top := (touch o ρ s.next).map (fun b => (b, r.get b)) ++ s.top, lps := s.lps })
      | none => none

def evOps (base : Cells) (all : Array Oper) : List Oper → List AV → Sx → Option (List AV × Sx)
  | [], ρ, s => some (ρ, s)
  | o :: rest, ρ, s =>
    match o.guard with
    | none => match evStep C P base o ρ s with
      | some (x, s') => evOps base all rest (putA ρ o.dst x) s'
      | none => none
    | some (j, want) => match (all[j]?).bind (·.dst) with
      | some d => match ρ.getD d (.val undef) with
        | .val (.bool b) => bif b == want then (match evStep C P base o ρ s with
            | some (x, s') => evOps base all rest (putA ρ o.dst x) s'
            | none => none)
          else evOps base all rest (putA ρ o.dst (.val undef)) s
        | .val (.tuple _) => evOps base all rest (putA ρ o.dst (.val undef)) s
        | _ => none
      | none => none

/-- What a call may be. -/
def CallOK : Prop := ∀ base x args s y s', C base x args s = some (y, s') → (∃ g caps, x = .clo g caps ∧ Fn P g (args ++ caps) (s.h base) y (s'.h base)) ∨ (∃ b, x = .yld b ∧ Rd P b args (s.h base) y (s'.h base))

variable {C} {P}
theorem evStep_sound (hC : CallOK C P) {base : Cells} {o : Oper} {ρ : List AV} {s s' : Sx} {x : AV} (h : evStep C P base o ρ s = some (x, s')) {K : List AV → H → Prop} (hK : K (putA ρ o.dst x) (s'.h base)) : stepA P (fun _ => true) o K ρ (s.h base) := by
  unfold evStep at h
  unfold stepA
  split at h
  · rename_i f args ats hop
    simp only [hop]
    rcases hC _ _ _ _ _ _ h with ⟨g, caps, e1, e2⟩ | ⟨b, e1, e2⟩
    · rw [e1]; exact ⟨x, _, e2, hK⟩
    · rw [e1]; exact ⟨x, _, e2, hK⟩
  · rename_i hnc
    have hgoal : onSome (stepV P true o ρ (s.h base)) (fun r => K (putA ρ o.dst r.1) r.2) .mk := by
      unfold stepV pickV onSome
      split at h
      · rename_i y hy
        cases h
        simp only [hy]; exact hK
      · rename_i hy
        simp only [hy]
        split at h
        · rename_i y r hr
          cases h
          simp only [hr]
          have : ({ next := r.next, top := (touch o ρ s.next).map (fun b => (b, r.get b)) ++ s.top, lps := s.lps } : Sx).h base = r := by
            have e1 := eop_lp hr
            have e2 : (fun b => look b ((touch o ρ s.next).map (fun b => (b, r.get b)) ++ s.top ++ base)) = r.get := by
              funext b
              rw [List.append_assoc, look_map]
              split
              · rfl
              · rename_i hb; exact (eop_touch hr (b := b) hb).symm
            simp only [Sx.h] at e1 e2 ⊢
            rw [e2, ← e1]
          rw [this] at hK; exact hK
        · cases h
    split
    · rename_i f args ats hop; exact (hnc _ _ _ hop).elim
    · exact hgoal

theorem evOps_sound (hC : CallOK C P) {base : Cells} {all : Array Oper} {Q : List AV → H → Prop} : ∀ (l : List Oper) (ρ : List AV) (s : Sx) (ρ' : List AV) (s' : Sx), evOps C P base all l ρ s = some (ρ', s') → Q ρ' (s'.h base) → vcOps P (fun _ => true) all Q l ρ (s.h base)
  | [], ρ, s, ρ', s', h, hq => by cases h; exact hq
  | o :: rest, ρ, s, ρ', s', h, hq => by
    have one : ∀ {x s1}, evStep C P base o ρ s = some (x, s1) → evOps C P base all rest (putA ρ o.dst x) s1 = some (ρ', s') → stepA P (fun _ => true) o (vcOps P (fun _ => true) all Q rest) ρ (s.h base) := fun h1 h2 =>
      evStep_sound hC h1 (evOps_sound hC rest _ _ _ _ h2 hq)
    simp only [evOps] at h
    simp only [vcOps]
    split at h
    · rename_i hg
      split at h
      · rename_i x s1 hs; simp only [hg]; exact one hs h
      · cases h
    · rename_i j want hg
      simp only [hg]
      split at h
      · rename_i d hd
        simp only [hd, onSome]
        split at h
        · rename_i b hb
          simp only [hb, onBool]
          cases hbw : (b == want) with
          | true =>
            rw [hbw] at h
            simp only [cond_true] at h
            have : b = want := by simpa using hbw
            subst this
            rw [set_same hb]
            split at h
            · rename_i x s1 hs; exact one hs h
            · cases h
          | false =>
            rw [hbw] at h
            simp only [cond_false] at h
            have : b = !want := by cases b <;> cases want <;> simp_all
            subst this
            rw [set_same hb]
            exact evOps_sound hC rest _ _ _ _ h hq
        · rename_i tt hb
          simp only [hb, onBool]
          exact evOps_sound hC rest _ _ _ _ h hq
        · cases h
      · cases h
end

end Go.Pe
