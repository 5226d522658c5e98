/- From a body to its function: results, and what becomes of the memory that the call has made. -/
import Derived.Test.YtblpmcmapadphaaPeI
set_option linter.unusedVariables false
set_option linter.unusedSimpArgs false
namespace Go.Pe
open Go

def frz : Nat → H → Nat → AV → Option AV
  | 0, _, _, _ => none
  | n + 1, h, N, x =>
    match x with
    | .val v => some (.val v)
    | .ro f k xs => some (.ro f k xs)
    | .rop cs => some (.rop cs)
    | .ptr b o => if b < N then some (.ptr b o) else
      match h.get b with
      | some cs => match (cs.drop o).mapM (frz n h N) with
        | some l => if l.all clean then some (.rop l) else none
        | none => none
      | none => none
    | .sl b o len k => if b < N then some (.sl b o len k) else
      match h.get b with
      | some cs => match takeAt cs o (len * k) with
        | some ds => match ds.mapM (frz n h N) with
          | some l => if l.all (fun x => clean x && one x) then some (.ro false k (chunk k len l)) else none
          | none => none
        | none => none
      | none => none
    | .agg l => match l.mapM (frz n h N) with
      | some m => some (.agg m)
      | none => none
    | .tup l => match l.mapM (frz n h N) with
      | some m => some (.tup m)
      | none => none
    | .clo f caps => match caps.mapM (frz n h N) with
      | some m => some (.clo f m)
      | none => none
    | .yld b => if b < N then some (.yld b) else none

theorem mapM_some {α β : Type} {f : α → Option β} : ∀ {l : List α} {m : List β}, l.mapM f = some m → m.length = l.length ∧ ∀ (i : Nat) (x : α), l[i]? = some x → ∃ y, f x = some y ∧ m[i]? = some y
  | [], m, h => by simp at h; subst h; exact ⟨rfl, fun i x hx => by simp at hx⟩
  | a :: l, m, h => by
    rw [List.mapM_cons] at h
    cases ha : f a with
    | none => simp [ha] at h
    | some b =>
      cases hl : l.mapM f with
      | none => simp [ha, hl] at h
      | some m' =>
        simp [ha, hl] at h
        subst h
        obtain ⟨h1, h2⟩ := mapM_some hl
        refine ⟨by simp [h1], fun i x hx => ?_⟩
        cases i with
        | zero => simp at hx; subst hx; exact ⟨b, ha, rfl⟩
        | succ i => simp at hx; simpa using h2 i x hx

def Cx.all (c : Cx) (h : H) (N : Nat) : Cx := { S := fun k => c.S k ∨ ∃ b cs, N ≤ b ∧ h.get b = some cs ∧ c.φ b = k, φ := c.φ }

theorem R.more {c : Cx} {w : World} {D : Nat → Prop} {x : AV} {v : Value} (hx : R c w D x v) (h : H) (N : Nat) : R (c.all h N) w D x v :=
  hx.mono (fun _ hk => .inl hk) (fun _ _ => rfl) (fun _ _ => rfl) (fun _ hb => hb) (fun _ C _ hk => ⟨C, hk, rfl⟩)

theorem frz_R {c : Cx} {w : World} {D D0 : Nat → Prop} {h : H} {N : Nat} (hr : Rel c D h w) (hD : ∀ b, D b → b < N → D0 b) : ∀ (n : Nat) (x y : AV) (v : Value), R c w D x v → frz n h N x = some y → R (c.all h N) w D0 y v := by
  intro n
  induction n with
  | zero => intro x y v _ h; cases h
  | succ n ih =>
    intro x y v hx hf
    have list : ∀ {l m : List AV} {cs : Array Value}, RL c w D l cs → l.mapM (frz n h N) = some m → RL (c.all h N) w D0 m cs := fun hl hm => by
      obtain ⟨h1, h2⟩ := mapM_some hm
      refine ⟨by rw [hl.1, h1], fun i y u e1 e2 => ?_⟩
      have hi := (List.getElem?_eq_some_iff.1 e1).1
      rw [h1] at hi
      obtain ⟨y', e3, e4⟩ := h2 i _ (List.getElem?_eq_getElem hi)
      rw [e1] at e4; cases e4
      exact ih _ _ _ (hl.2 i _ u (List.getElem?_eq_getElem hi) e2) e3
    simp only [frz] at hf
    cases hx with
    | val v => cases hf; exact .val v
    | ro cell hS hl hcc hff hk hcell ho hh => cases hf; exact (R.ro (D := D0) cell hS hl hcc hff hk hcell ho hh).more h N
    | nil => cases hf; exact .nil
    | emp => cases hf; exact .emp
    | rop cell hS hcell hh => cases hf; exact (R.rop (D := D0) cell hS hcell hh).more h N
    | agg hs hh =>
      simp only at hf
      split at hf
      · rename_i m hm; cases hf
        obtain ⟨g1, g2⟩ := list ⟨hs, hh⟩ hm
        exact .agg g1 g2
      · cases hf
    | tup hs hh =>
      simp only at hf
      split at hf
      · rename_i m hm; cases hf
        obtain ⟨g1, g2⟩ := list ⟨hs, hh⟩ hm
        exact .tup g1 g2
      · cases hf
    | clo hs hh =>
      simp only at hf
      split at hf
      · rename_i m hm; cases hf
        obtain ⟨g1, g2⟩ := list ⟨hs, hh⟩ hm
        exact .clo g1 g2
      · cases hf
    | yld hb =>
      rename_i b
      simp only at hf
      split at hf
      · rename_i hlt; cases hf; exact .yld (hD b hb hlt)
      · cases hf
    | ptr hb =>
      rename_i b o
      simp only at hf
      split at hf
      · rename_i hlt; cases hf; exact .ptr (hD b hb hlt)
      · rename_i hge
        split at hf
        · rename_i cs hcs
          split at hf
          · rename_i l hl
            split at hf
            · rename_i hall
              cases hf
              obtain ⟨_, _, C, e, hblk, hlen, hcont⟩ := hr.own b cs hcs
              obtain ⟨h1, h2⟩ := mapM_some hl
              refine .rop (fun j => C.getD (o + j) undef) (.inr ⟨b, cs, by omega, hcs, rfl⟩) (fun j hj => ?_) (fun j y hy => ?_)
              · rw [h1] at hj
                have : o + j < C.size := by simp at hj; omega
                have e1 : (c.all h N).φ b = c.φ b := rfl
                simp [World.cell?, hblk, Array.getD, this]
              · have hj := (List.getElem?_eq_some_iff.1 hy).1
                rw [h1] at hj
                have hlt : o + j < C.size := by simp at hj; omega
                obtain ⟨y', e3, e4⟩ := h2 j _ (List.getElem?_eq_getElem hj)
                rw [hy] at e4; cases e4
                have hcsj : cs[o + j]? = some ((cs.drop o)[j]) := by rw [← List.getElem?_drop]; exact List.getElem?_eq_getElem hj
                have hx := hcont (o + j) _ (C.getD (o + j) undef) hcsj (by simp [Array.getD, hlt])
                exact clean_R (ih _ _ _ hx e3) ((List.all_eq_true.1 hall) _ (List.mem_of_getElem? hy))
            · cases hf
          · cases hf
        · cases hf
    | sl hb hcc C e hblk hC =>
      rename_i b o len k cap
      simp only at hf
      split at hf
      · rename_i hlt; cases hf; exact .sl (hD b hb hlt) hcc C e hblk hC
      · rename_i hge
        split at hf
        · rename_i cs hcs
          split at hf
          · rename_i ds hds
            split at hf
            · rename_i l hl
              split at hf
              · rename_i hall
                cases hf
                obtain ⟨_, _, C2, e2, hblk2, hlen, hcont⟩ := hr.own b cs hcs
                rw [hblk] at hblk2; cases hblk2
                obtain ⟨h1, h2⟩ := mapM_some hl
                obtain ⟨g1, g2, g3⟩ := takeAt_len hds
                have hll : l.length = len * k := by rw [h1, g1]
                have hidx : ∀ i j, i < len → j < k → i * k + j < len * k := fun i j hi hj => by
                  have : (i + 1) * k ≤ len * k := Nat.mul_le_mul_right _ hi
                  rw [Nat.succ_mul] at this; omega
                have hcell : ∀ i j, i < len → j < k → o + i * k + j < C.size := fun i j hi hj => by have := hidx i j hi hj; omega
                have hval : ∀ i j y, i < len → j < k → l[i * k + j]? = some y → R (c.all h N) w D0 y (C.getD (o + i * k + j) undef) := fun i j y hi hj hy => by
                  have hlt := hidx i j hi hj
                  have hd : i * k + j < ds.length := by omega
                  obtain ⟨y', e3, e4⟩ := h2 (i * k + j) _ (List.getElem?_eq_getElem hd)
                  rw [hy] at e4; cases e4
                  have hcsj : cs[o + (i * k + j)]? = some ds[i * k + j] := by rw [← g2 _ (by omega)]; exact List.getElem?_eq_getElem hd
                  have := hcell i j hi hj
                  exact ih _ _ _ (hcont (o + (i * k + j)) _ (C.getD (o + i * k + j) undef) hcsj (by rw [← Nat.add_assoc]; simp [Array.getD, this])) e3
                refine .ro (fun i j => C.getD (o + i * k + j) undef) (.inr ⟨b, cs, by omega, hcs, rfl⟩) (by simp [chunk]) hcc (by simp) (fun row hrow => ?_) (fun i j hi hj => ?_) (fun i j hi hj => ?_) (fun i j row y e1 e2 => ?_)
                · simp only [chunk, List.mem_map, List.mem_range] at hrow
                  obtain ⟨i, hi, rfl⟩ := hrow
                  have : (i + 1) * k ≤ len * k := Nat.mul_le_mul_right _ hi
                  rw [Nat.succ_mul] at this
                  simp [hll]; omega
                · have := hcell i j hi hj
                  have e1 : (c.all h N).φ b = c.φ b := rfl
                  simp [World.cell?, hblk, Array.getD, this]
                · have hlt := hidx i j hi hj
                  have hlt' : i * k + j < l.length := by omega
                  have hy := List.getElem?_eq_getElem hlt'
                  have := (List.all_eq_true.1 hall) _ (List.getElem_mem hlt')
                  simp only [Bool.and_eq_true] at this
                  exact one_R (hval i j _ hi hj hy) this.2
                · simp only [chunk, List.getElem?_map] at e1
                  by_cases hi : i < len
                  · rw [List.getElem?_range hi] at e1
                    simp only [Option.map_some, Option.some.injEq] at e1
                    subst e1
                    rw [List.getElem?_take] at e2
                    split at e2
                    · rename_i hj
                      rw [List.getElem?_drop] at e2
                      have := (List.all_eq_true.1 hall) y (List.mem_of_getElem? e2)
                      simp only [Bool.and_eq_true] at this
                      exact clean_R (hval i j y hi hj e2) this.1
                    · cases e2
                  · rw [List.getElem?_eq_none (by simp; omega)] at e1; simp at e1
              · cases hf
            · cases hf
          · cases hf
        · cases hf

/-- Results. -/
def resOne (P : Program) (ρ : List AV) (h : H) : ResultVar → Option AV
  | .tmp t => some (ρ.getD t (.val undef))
  | .cell a t => tyInt P t fun T => loadA T h (ρ.getD a (.val undef))
def resA (P : Program) (rs : Array ResultVar) (ρ : List AV) (h : H) : Option AV :=
  match rs.toList.mapM (resOne P ρ h) with
  | some [x] => some x
  | some l => some (.tup l)
  | none => none

def rvRun (tmps : Array Value) : ResultVar → Sem Value
  | .tmp t => pure (tmps.getD t undef)
  | .cell a t => do loadVar t (← asAddr (tmps.getD a undef))
theorem results_eq (fn : Func) (tmps : Array Value) : results fn tmps = (do let vs ← fn.results.mapM (rvRun tmps); pure (if h : vs.size = 1 then vs[0] else .tuple vs)) := by
  unfold results
  congr 1

theorem run_resOne {P : Program} {c : Cx} {w : World} {D : Nat → Prop} {h : H} {ρ : List AV} {tmps : Array Value} {df : List Deferred} (hr : Rel c D h w) (hρ : RL c w D ρ tmps) {rv : ResultVar} {x : AV} (hx : resOne P ρ h rv = some x) :
    ∃ v, (rvRun tmps rv).run P w = .ok v w ∧ R c w D x v := by
  have hget : ∀ t, R c w D (ρ.getD t (.val undef)) (tmps.getD t undef) := fun t => R_aev (a := { tmps := tmps, defers := df }) hρ (.tmp t)
  cases rv with
  | tmp t => simp only [resOne, Option.some.injEq] at hx; subst hx; exact ⟨_, rfl, hget t⟩
  | cell a t =>
    simp only [resOne] at hx
    obtain ⟨T, hT, hx⟩ := tyInt_some hx
    obtain ⟨u, h1, h2⟩ := run_load_A hT hr (hget a) hx
    refine ⟨u, ?_, h2⟩
    unfold rvRun
    have key : ∀ (pv : Value) (p : AV), R c w D p pv → loadA T h p = some x → (Instr.loadAt t pv).run P w = .ok u w → (do loadVar t (← asAddr pv) : Sem Value).run P w = .ok u w := by
      intro pv p hp hx h1
      cases hp <;> simp_all [loadA, Instr.loadAt, Instr.sureAddr, asAddr]
    exact key _ _ (hget a) hx h1

theorem run_resA {P : Program} {c : Cx} {w : World} {D : Nat → Prop} {h : H} {ρ : List AV} {tmps : Array Value} (hr : Rel c D h w) (hρ : RL c w D ρ tmps) {fn : Func} {x : AV} (hx : resA P fn.results ρ h = some x) :
    ∃ v, (results fn tmps).run P w = .ok v w ∧ R c w D x v := by
  have hmap : ∀ (l : List ResultVar) (m : List AV), l.mapM (resOne P ρ h) = some m → ∃ vs : List Value, (l.mapM (rvRun tmps) : Sem (List Value)).run P w = .ok vs w ∧
      vs.length = m.length ∧ ∀ (i : Nat) (y : AV) (v : Value), m[i]? = some y → vs[i]? = some v → R c w D y v := by
    intro l
    induction l with
    | nil => intro m hm; simp at hm; subst hm; exact ⟨[], rfl, rfl, fun i y v h => by simp at h⟩
    | cons rv l ih =>
      intro m hm
      rw [List.mapM_cons] at hm
      cases ha : resOne P ρ h rv with
      | none => simp [ha] at hm
      | some b =>
        cases hl : l.mapM (resOne P ρ h) with
        | none => simp [ha, hl] at hm
        | some m' =>
          simp [ha, hl] at hm
          subst hm
          obtain ⟨v, h1, h2⟩ := run_resOne (df := []) hr hρ ha
          obtain ⟨vs, h3, h4, h5⟩ := ih m' hl
          refine ⟨v :: vs, ?_, by simp [h4], fun i y u e1 e2 => ?_⟩
          · rw [List.mapM_cons]
            simp only [Sem.run_bind, h1, Result.andThen_ok, h3, Sem.run_pure]
          · cases i with
            | zero => simp at e1 e2; subst e1; subst e2; exact h2
            | succ i => simp at e1 e2; exact h5 i y u e1 e2
  unfold resA at hx
  have hrun : ∀ vs : List Value, (fn.results.toList.mapM (rvRun tmps) : Sem (List Value)).run P w = .ok vs w →
      (results fn tmps).run P w = .ok (if h : vs.toArray.size = 1 then vs.toArray[0] else .tuple vs.toArray) w := fun vs hvs => by
    rw [results_eq, Array.mapM_eq_mapM_toList]
    simp only [Sem.run_bind, Sem.run_map, hvs, Result.andThen_ok, Sem.run_pure]
  split at hx
  · rename_i y hm
    cases hx
    obtain ⟨vs, h1, h2, h3⟩ := hmap _ _ hm
    match vs, h2, h3, h1 with
    | [v], _, h3, h1 => exact ⟨v, by rw [hrun _ h1]; simp, h3 0 _ _ rfl rfl⟩
  · rename_i l hm hne
    cases hx
    obtain ⟨vs, h1, h2, h3⟩ := hmap _ _ hne
    refine ⟨.tuple vs.toArray, ?_, .tup (by simp [h2]) (fun i y v e1 e2 => h3 i y v e1 (by simpa using e2))⟩
    rw [hrun _ h1]
    have : vs.toArray.size ≠ 1 := by
      intro hs
      have : l.length = 1 := by rw [← h2]; simpa using hs
      match l, this, hm with
      | [y], _, hm => exact hm y rfl
    simp only [this, dif_neg, not_false_eq_true]
  · cases hx

/-- What a body must come to. -/
def FinA (P : Program) (fn : Func) (h : H) (x : AV) (h' : H) (e : Exit) (ρ : List AV) (hh : H) : Prop :=
  match e with
  | .normal | .ret => ∃ y k, resA P fn.results ρ hh = some y ∧ frz k hh h.next y = some x ∧
      (∀ b cs, h'.get b = some cs → ∃ ds k, hh.get b = some ds ∧ b < h.next ∧ ds.mapM (frz k hh h.next) = some cs) ∧
      ∀ b r, h'.lp b = some r → hh.lp b = some r ∧ b < h.next ∧ ∃ k, r.ρ.mapM (frz k hh h.next) = some r.ρ
  | _ => False

/-- No abstract heap at all. -/
def H.nil : H := { next := 0, get := fun _ => none, lp := fun _ => none }

def cleanD : AV → Bool
  | .agg l => l.all clean
  | .tup l => l.all clean
  | x => clean x

theorem cleanD_R {c : Cx} {w : World} {D : Nat → Prop} {x : AV} {v : Value} (h : R c w D x v) (hc : cleanD x = true) : R c w noId x v := by
  cases h with
  | agg hs hh =>
    refine .agg hs fun i x v e1 e2 => clean_R (hh i x v e1 e2) ?_
    simp only [cleanD, List.all_eq_true] at hc
    exact hc x (List.mem_of_getElem? e1)
  | tup hs hh =>
    refine .tup hs fun i x v e1 e2 => clean_R (hh i x v e1 e2) ?_
    simp only [cleanD, List.all_eq_true] at hc
    exact hc x (List.mem_of_getElem? e1)
  | val v => exact .val v
  | ro cell hS hl hcc hf hk hcell ho hh => exact .ro cell hS hl hcc hf hk hcell ho hh
  | nil => exact .nil
  | emp => exact .emp
  | rop cell hS hcell hh => exact .rop cell hS hcell hh
  | clo hs hh => exact clean_R (.clo hs hh) hc
  | ptr hb => simp [cleanD, clean, clean1] at hc
  | sl hb _ _ _ _ _ => simp [cleanD, clean, clean1] at hc
  | yld hb => simp [cleanD, clean, clean1] at hc

/-- WHAT HOLDS WITHOUT ANY HEAP HOLDS BESIDE ANY. -/
theorem Fn.beside {P : Program} {f : FuncId} {args : List AV} {x : AV} (h0 : Fn P f args .nil x .nil) (hc : args.all cleanD = true) (h : H) : Fn P f args h x h := by
  refine ⟨h0.1, fun n c D w vs hr hfr hargs => ?_⟩
  have hrel : Rel c noId H.nil w := ⟨fun b cs hb => by simp [H.nil] at hb, fun b b' _ _ hb => by simp [H.nil] at hb, hr.sz, (fun b r hb => by simp [H.nil] at hb), (fun b b' _ _ hb => by simp [H.nil] at hb)⟩
  refine (h0.2 n c noId w vs hrel (fun _ _ hb => hb) ⟨hargs.1, fun i y u e1 e2 => cleanD_R (hargs.2 i y u e1 e2) ((List.all_eq_true.1 hc) y (List.mem_of_getElem? e1))⟩).mono ?_
  rintro e w' ⟨v, c', D', rfl, h2, h3, h4, h5⟩
  have hD' : ∀ b, D' b → noId b := fun b hb => by rcases h5 b hb with h6 | h6; exact h6; simp [H.nil] at h6
  have hnoget : ∀ b cs, H.nil.get b = some cs → False := fun b cs hb => by simp [H.nil] at hb
  have hfr' : ∀ k, k < w.heap.size → w'.heap[k]? = w.heap[k]? := fun k hk => h4.frame k hk (fun b cs hb => (hnoget b cs hb).elim) (fun b r hb => by simp [H.nil] at hb)
  have hS' : ∀ k, c'.S k → c.S k ∨ w.heap.size ≤ k := fun k hk => by
    rcases h4.newS k hk with h6 | h6 | ⟨b, cs, h6, _⟩
    · exact .inl h6
    · exact .inr h6
    · exact (hnoget b cs h6).elim
  refine ⟨v, { S := c'.S, φ := c.φ }, D, rfl, ?_, ⟨fun b cs hb => ?_, hr.inj, h3.sz, hr.lps_keep h4.S (fun k hk => hfr' k (hr.sz k hk)) (fun _ _ => rfl) (fun _ hb => hb) h4.shp (fun b r hb => hfr' _ (hr.lp_lt hb)) (fun b r hb hs => (hS' _ hs).resolve_right (Nat.not_le_of_lt (hr.lp_lt hb))), hr.linj⟩, ⟨h4.S, fun k hk => ?_, fun _ _ => rfl, fun _ hb => hb, Nat.le_refl _, h4.os, h4.tape, h4.output, h4.size, fun k hk _ _ => hfr' k hk, h4.shp, fun b cs hb => .inl ⟨b, cs, hb, rfl⟩, fun b r hb => .inl ⟨b, r, hb, rfl⟩, h4.fz⟩, fun b hb => .inl hb⟩
  · have h6 : R c' w' noId x v := h2.up hD'
    exact (h6.mono (c' := { S := c'.S, φ := c.φ }) (fun _ hk => hk) (fun _ _ => rfl) (fun _ hb => hb.elim) (fun _ hb => hb.elim) (fun _ C _ hk => ⟨C, hk, rfl⟩))
  · obtain ⟨q1, q2, C, e, q3, q4, q5⟩ := hr.own b cs hb
    have hlt := (Array.getElem?_eq_some_iff.1 q3).1
    refine ⟨q1, fun hS => ?_, C, e, by rw [hfr' _ hlt]; exact q3, q4, fun j y u e1 e2 => (q5 j y u e1 e2).mono h4.S (fun k hk => hfr' k (hr.sz k hk)) (fun _ _ => rfl) (fun _ hb => hb) h4.shp⟩
    rcases hS' _ hS with h6 | h6
    · exact q2 h6
    · exact absurd hlt (Nat.not_lt.2 h6)
  · rcases hS' k hk with h6 | h6
    · exact .inl h6
    · exact .inr (.inl h6)

end Go.Pe
