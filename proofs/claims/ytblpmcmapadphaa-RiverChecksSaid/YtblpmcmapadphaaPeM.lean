/- Statements whose order is open: the theorem. -/
import Derived.Test.YtblpmcmapadphaaPeL
set_option linter.unusedVariables false
set_option linter.unusedSimpArgs false
namespace Go.Pe
open Go

theorem map_congr_ops {ρ ρ' : List AV} {xs : Array Operand} (h : ∀ x, x ∈ xs → aev ρ x = aev ρ' x) : xs.toList.map (aev ρ) = xs.toList.map (aev ρ') :=
  List.map_congr_left fun x hx => h x (by simpa using hx)
theorem parts_congr {ρ ρ' : List AV} {ps : Array (Nat × Operand)} (h : ∀ x, x ∈ (ps.toList.map (·.2)).toArray → aev ρ x = aev ρ' x) : (ps.toList.map fun p => (p.1, aev ρ p.2)) = ps.toList.map fun p => (p.1, aev ρ' p.2) :=
  List.map_congr_left fun p hp => by rw [h p.2 (by simp only [List.mem_toArray, List.mem_map]; exact ⟨p, hp, rfl⟩)]
theorem opt_congr {ρ ρ' : List AV} {q : Option Operand} (h : ∀ x, q = some x → aev ρ x = aev ρ' x) : q.map (aev ρ) = q.map (aev ρ') := by
  cases q with
  | none => rfl
  | some x => simp [h x rfl]

theorem pop_congr {P : Program} {o : Oper} {ρ ρ' : List AV} {hh : H} (h : ∀ x ∈ o.op.operands, aev ρ x = aev ρ' x) : pop P o ρ hh = pop P o ρ' hh := by
  unfold pop
  split <;> rename_i hop <;> first | (rw [hop] at h; simp only [Op.operands, Call.operands] at h) | skip
  · rename_i x; rw [h x (by simp)]
  · rename_i x; rw [h x (by simp)]
  · rename_i c a b; rw [h c (by simp), h a (by simp), h b (by simp)]
  · rename_i t x; rw [h x (by simp)]
  · rename_i t x f; rw [h x (by simp)]
  · rename_i t x i; rw [h x (by simp), h i (by simp)]
  · rename_i t x i; rw [h x (by simp), h i (by simp)]
  · rename_i t x f; rw [h x (by simp)]
  · rename_i op t x y _; rw [h x (by simp), h y (by simp)]
  · rename_i op t x; rw [h x (by simp)]
  · rename_i s t x; rw [h x (by simp)]
  · rename_i x i; rw [h x (by simp)]
  · rename_i f first caps; rw [map_congr_ops (fun x hx => h x (by simp [hx]))]
  · rename_i x; rw [h x (by simp)]
  · rename_i t parts; rw [parts_congr h]
  · rename_i t x lo hi mx
    rw [h x (by simp), opt_congr (q := lo) (fun y hy => h y (by simp [hy])), opt_congr (q := hi) (fun y hy => h y (by simp [hy])), opt_congr (q := mx) (fun y hy => h y (by simp [hy]))]
  · rename_i x t; rw [h x (by simp)]
  · rename_i args _; rw [map_congr_ops (fun x hx => h x (by simp [hx]))]
  · rename_i args _; rw [map_congr_ops (fun x hx => h x (by simp [hx]))]
  · first | rfl | simp_all

theorem eop_congr {P : Program} {own : Bool} {o : Oper} {ρ ρ' : List AV} {hh : H} (h : ∀ x ∈ o.op.operands, aev ρ x = aev ρ' x) : eop P own o ρ hh = eop P own o ρ' hh := by
  unfold eop
  split <;> rename_i hop <;> first | (rw [hop] at h; simp only [Op.operands, Call.operands] at h) | skip
  · rfl
  · rename_i t x; rw [h x (by simp)]
  · rename_i t p x; rw [h p (by simp), h x (by simp)]
  · rename_i t n parts; rw [parts_congr h]
  · rename_i t l c; rw [h l (by simp), h c (by simp)]
  · rename_i s x t tx; rw [h s (by simp), h x (by simp)]
  · first | rfl | simp_all

/-- What an effect leaves: nothing new lives, but what it has made. -/
theorem eop_live {P : Program} {own : Bool} {o : Oper} {ρ : List AV} {v : H} {r : AV × H} (h : eop P own o ρ v = some r) : (∀ b, (r.2.get b).isSome = true → (v.get b).isSome = true ∨ (b = v.next ∧ allocs o.op = true)) ∧ r.2.next ≤ v.next + 1 := by
  have push : ∀ cs, allocs o.op = true → (∀ b, ((v.push cs).get b).isSome = true → (v.get b).isSome = true ∨ (b = v.next ∧ allocs o.op = true)) ∧ (v.push cs).next ≤ v.next + 1 := fun cs ha => by
    refine ⟨fun b hb => ?_, Nat.le_refl _⟩
    simp only [H.push] at hb
    split at hb
    · rename_i hbe; exact .inr ⟨hbe, ha⟩
    · exact .inl hb
  unfold eop at h
  split at h <;> rename_i hop <;> first | (cases h; done) | skip
  · obtain ⟨T, _, h⟩ := tyInt2_some h; cases h; exact push _ (by rw [hop]; rfl)
  · split at h
    · cases h; exact push _ (by rw [hop]; rfl)
    · cases h
  · obtain ⟨T, _, h⟩ := tyInt2_some h
    unfold storeA at h
    split at h
    · split at h
      · rename_i cs hcs
        split at h
        · cases h
          refine ⟨fun b hb => ?_, Nat.le_succ _⟩
          simp only [H.set] at hb
          split at hb
          · rename_i hbe; subst hbe; exact .inl (by simp [hcs])
          · exact .inl hb
        · cases h
      · cases h
    · cases h
  · obtain ⟨T, _, h⟩ := tyInt2_some h
    split at h
    · obtain ⟨E, _, h⟩ := tyInt2_some h
      unfold buildSliceA at h
      split at h
      · split at h
        · split at h
          · cases h; exact ⟨fun b hb => .inl hb, Nat.le_succ _⟩
          · cases h
        · cases h
      · cases h
    · cases h
  · obtain ⟨T, _, h⟩ := tyInt2_some h
    split at h
    · obtain ⟨E, _, h⟩ := tyInt2_some h
      split at h
      · unfold makeSliceA at h
        split at h
        · cases h; exact push _ (by rw [hop]; rfl)
        · cases h
      · cases h
    · cases h
  · obtain ⟨T, _, h⟩ := tyInt2_some h
    obtain ⟨TX, _, h⟩ := tyInt2_some h
    split at h
    · obtain ⟨E, _, h⟩ := tyInt2_some h
      have ha : allocs o.op = true := by rw [hop]; rfl
      unfold appendA at h
      split at h
      · cases h
      · split at h
        · split at h
          · split at h
            · split at h
              · split at h
                · cases h
                  refine ⟨fun b hb => ?_, Nat.le_refl _⟩
                  simp only at hb
                  split at hb
                  · rename_i hbe; exact .inr ⟨hbe, ha⟩
                  · split at hb
                    · simp at hb
                    · exact .inl hb
                · split at h
                  · cases h
                    refine ⟨fun b hb => ?_, Nat.le_refl _⟩
                    simp only at hb
                    split at hb
                    · simp at hb
                    · split at hb
                      · simp at hb
                      · exact .inl hb
                  · cases h
              · cases h
            · cases h
          · split at h
            · split at h
              · split at h
                · cases h; exact ⟨fun b hb => .inl hb, Nat.le_succ _⟩
                · cases h; exact push _ ha
              · split at h
                · cases h; exact ⟨fun b hb => .inl hb, Nat.le_succ _⟩
                · cases h
            · cases h
          · split at h
            · split at h
              · split at h
                · cases h; exact ⟨fun b hb => .inl hb, Nat.le_succ _⟩
                · cases h; exact push _ ha
              · cases h; exact ⟨fun b hb => .inl hb, Nat.le_succ _⟩
            · cases h
          · cases h
        · cases h
    · cases h

/-- No effect touches a loop. -/
theorem eop_lp {P : Program} {own : Bool} {o : Oper} {ρ : List AV} {v : H} {r : AV × H} (h : eop P own o ρ v = some r) : r.2.lp = v.lp := by
  unfold eop at h
  split at h <;> rename_i hop <;> first | (cases h; done) | skip
  · obtain ⟨T, _, h⟩ := tyInt2_some h; cases h; rfl
  · split at h
    · cases h; rfl
    · cases h
  · obtain ⟨T, _, h⟩ := tyInt2_some h
    unfold storeA at h
    split at h
    · split at h
      · split at h
        · cases h; rfl
        · cases h
      · cases h
    · cases h
  · obtain ⟨T, _, h⟩ := tyInt2_some h
    split at h
    · obtain ⟨E, _, h⟩ := tyInt2_some h
      unfold buildSliceA at h
      split at h
      · split at h
        · split at h
          · cases h; rfl
          · cases h
        · cases h
      · cases h
    · cases h
  · obtain ⟨T, _, h⟩ := tyInt2_some h
    split at h
    · obtain ⟨E, _, h⟩ := tyInt2_some h
      split at h
      · unfold makeSliceA at h
        split at h
        · cases h; rfl
        · cases h
      · cases h
    · cases h
  · obtain ⟨T, _, h⟩ := tyInt2_some h
    obtain ⟨TX, _, h⟩ := tyInt2_some h
    split at h
    · obtain ⟨E, _, h⟩ := tyInt2_some h
      unfold appendA at h
      repeat' (split at h)
      all_goals first | (cases h; done) | (cases h; rfl)
    · cases h

theorem call_run {P : Program} {o : Oper} {f : Operand} {args : Array Operand} {ats : Array TypeId} {g : Nat} {caps : List AV} {x : AV} {q q' : H} {ρ : List AV} {c : Cx} {D : Nat → Prop} {w : World} {a : Act} {r : Option Nat} {n : Nat} {next : Act → World → Prop} {Q : Exit → Act → World → Prop}
    (hop : o.op = .call { callee := .value f, args := args, argTypes := ats }) (hg : aev ρ f = .clo g caps) (hF : Fn P g (args.toList.map (aev ρ) ++ caps) q x q') (hr : Rel c D q w) (hfr : ∀ b, q.next ≤ b → ¬ D b) (hρ : RL c w D ρ a.tmps)
    (hK : ∀ v w' c' D', R c' w' D' x v → Rel c' D' q' w' → Ext D q c w D' c' w' q' → (∀ b, D' b → D b ∨ (q.next ≤ b ∧ b < q'.next)) → next (a.put o.dst v) w') : o.wpIn (Fr r) n P a w next Q := by
  refine ⟨fun f _ => trivial, ?_⟩
  obtain ⟨hcall, hF⟩ := hF
  have hclo := R_aev hρ f
  rw [hg] at hclo
  have hsem : (o.semAt (Fr r).round a.eval) = execOp a.eval o := Oper.semAt_eq _ _ _ (by rw [hop]; simp)
  rw [hsem]
  generalize hav : a.eval f = fv at hclo
  cases hclo with
  | clo hs hh =>
    rename_i cs
    have hrun : (execOp a.eval o).run P w = .ok (.enter g (args.map a.eval ++ cs)) w := by
      unfold execOp
      rw [hop]
      have hfn : ∃ fn b, P.funcs[g]? = some fn ∧ fn.name ≠ "runtime.NumGoroutine" ∧ fn.body = some b := by
        unfold callable at hcall
        cases hf : P.funcs[g]? with
        | none => simp [hf] at hcall
        | some fn =>
          simp only [hf, Bool.and_eq_true, bne_iff_ne, ne_eq] at hcall
          obtain ⟨b, hb⟩ := Option.isSome_iff_exists.1 hcall.2
          exact ⟨fn, b, rfl, by simpa using hcall.1, hb⟩
      obtain ⟨fn, b, e1, e2, e3⟩ := hfn
      simp [resolve, hav, Deferred.ofValue, invoke, callFunc, e1, e2, e3]
    rw [hrun]
    refine ⟨fun hd => by simp [Fr, Fence.wide] at hd, ?_⟩
    have hm := RL_map hρ args
    refine CallsIn_Fr ((hF (n - 1) c D w (args.map a.eval ++ cs) hr hfr ⟨by simp [hs], fun i y u h1 h2 => ?_⟩).mono ?_)
    · rw [Array.getElem?_append] at h2
      split at h2
      · rename_i hi
        rw [List.getElem?_append_left (by simpa using hi)] at h1
        exact hm.2 i y u h1 h2
      · rename_i hi
        rw [List.getElem?_append_right (by simpa using hi)] at h1
        simp only [List.length_map, Array.length_toList, Array.size_map] at h1 h2
        exact hh _ y u h1 h2
    · rintro e w' ⟨v, c', D', rfl, h2, h3, h4, h5⟩
      exact hK v w' c' D' h2 h3 h4 h5

theorem stepQ_run {P : Program} {o : Oper} {x : AV} {q : H} {ρ ρ' : List AV} {c : Cx} {D : Nat → Prop} {w : World} {a : Act} {r : Option Nat} {n : Nat} {next : Act → World → Prop} {Q : Exit → Act → World → Prop}
    (hv : stepQ P o q (fun y => y = x) ρ') (hcg : ∀ x ∈ o.op.operands, aev ρ' x = aev ρ x) (hr : Rel c D q w) (hfr : ∀ b, q.next ≤ b → ¬ D b) (hρ : RL c w D ρ a.tmps)
    (hK : ∀ v w' c' D', R c' w' D' x v → Rel c' D' q w' → Ext D q c w D' c' w' q → (∀ b, D' b → D b) → next (a.put o.dst v) w') : o.wpIn (Fr r) n P a w next Q := by
  unfold stepQ onClo onCallQ onSome at hv
  split at hv
  · rename_i f args ats hop
    rw [hop] at hcg
    simp only [Op.operands, Call.operands] at hcg
    rw [hcg f (by simp), map_congr_ops (fun y hy => hcg y (by simp [hy]))] at hv
    split at hv
    · rename_i g caps hg
      obtain ⟨y, hF, rfl⟩ := hv
      exact call_run hop hg hF hr hfr hρ fun v w' c' D' h2 h3 h4 h5 => hK v w' c' D' h2 h3 h4 fun b hb => by rcases h5 b hb with h6 | h6; exact h6; omega
    · exact hv.elim
  · rename_i hnc
    rw [pop_congr hcg] at hv
    split at hv
    · rename_i y hy
      subst hv
      obtain ⟨v, h1, h2⟩ := pop_sound hy hr hρ
      have hsem : (o.semAt (Fr r).round a.eval) = execOp a.eval o := Oper.semAt_eq _ _ _ (by
        intro cc hcc; unfold pop at hy; rw [hcc] at hy; simp at hy)
      refine ⟨fun f _ => trivial, ?_⟩
      rw [hsem, h1]
      exact hK v w c D h2 hr (Ext.refl _ _ _ _) (fun b hb => hb)
    · exact hv.elim

theorem stepE_run {P : Program} {own : Bool} {o : Oper} {x : AV} {v0 vc h' : H} {ρ ρ' : List AV} {c : Cx} {D : Nat → Prop} {w : World} {a : Act} {r : Option Nat} {n : Nat} {next : Act → World → Prop} {Q : Exit → Act → World → Prop}
    (hv : stepE P own o v0 vc (fun y k => y = x ∧ k = h') ρ') (hcg : ∀ x ∈ o.op.operands, aev ρ' x = aev ρ x) (hr : Rel c D v0 w) (hget : vc.get = v0.get) (hnl : ∀ b, v0.lp b = none) (hnl' : ∀ b, vc.lp b = none) (hfr0 : ¬ D v0.next) (hfr : ∀ b, vc.next ≤ b → ¬ D b) (hρ : RL c w D ρ a.tmps)
    (hK : ∀ v w' c' D' nx, R c' w' D' x v → Rel c' D' h' w' → Ext D { next := nx, get := v0.get, lp := v0.lp } c w D' c' w' h' → (∀ b, D' b → D b ∨ (b = v0.next)) → (∀ b, (h'.get b).isSome = true → (v0.get b).isSome = true ∨ (b = v0.next ∧ allocs o.op = true)) → (∀ b, h'.lp b = none) → next (a.put o.dst v) w') : o.wpIn (Fr r) n P a w next Q := by
  unfold stepE onClo onCallE onSome at hv
  split at hv
  · rename_i f args ats hop
    rw [hop] at hcg
    simp only [Op.operands, Call.operands] at hcg
    rw [hcg f (by simp), map_congr_ops (fun y hy => hcg y (by simp [hy]))] at hv
    split at hv
    · rename_i g caps hg
      obtain ⟨y, k, hF, hnx, hlive, hlpk, rfl, rfl⟩ := hv
      have hlpe : vc.lp = v0.lp := funext fun b => by rw [hnl, hnl']
      have hrc : Rel c D vc w := ⟨fun b cs hb => hr.own b cs (by rw [← hget]; exact hb), fun b b' c1 c2 h1 h2 e => hr.inj b b' c1 c2 (by rw [← hget]; exact h1) (by rw [← hget]; exact h2) e, hr.sz, (fun b r hb => by rw [hnl'] at hb; cases hb), (fun b b' r r' hb => by rw [hnl'] at hb; cases hb)⟩
      refine call_run hop hg hF hrc hfr hρ fun v w' c' D' h2 h3 h4 h5 => hK v w' c' D' vc.next h2 h3 (by rw [← hget, ← hlpe]; exact h4) (fun b hb => by rcases h5 b hb with h6 | h6; exact .inl h6; omega) (fun b hb => ?_) hlpk
      cases hvb : vc.get b with
      | none => rw [hlive b hvb] at hb; cases hb
      | some cs => rw [hget] at hvb; exact .inl (by simp [hvb])
    · exact hv.elim
  · rename_i hnc
    rw [eop_congr hcg] at hv
    split at hv
    · rename_i rr hrr
      obtain ⟨rfl, rfl⟩ := hv
      obtain ⟨hl1, hl2⟩ := eop_live hrr
      obtain ⟨v, w', c', D', h1, h2, h3, h4, h5⟩ := eop_sound hrr hr hfr0 hρ
      have hsem : (o.semAt (Fr r).round a.eval) = execOp a.eval o := Oper.semAt_eq _ _ _ (by
        intro cc hcc; unfold eop at hrr; rw [hcc] at hrr; simp at hrr)
      refine ⟨fun f _ => trivial, ?_⟩
      have hD : ∀ b, D' b → D b ∨ (b = v0.next) := fun b hb => by rcases h5 b hb with h6 | h6; exact .inl h6; exact .inr (by omega)
      rw [hsem]
      rcases h1 with h1 | ⟨h1, rfl⟩
      · rw [h1]; exact hK v w' c' D' v0.next h2 h3 h4 hD hl1 (fun b => by rw [eop_lp hrr]; exact hnl b)
      · rw [h1]; exact hK _ w' c' D' v0.next h2 h3 h4 hD hl1 (fun b => by rw [eop_lp hrr]; exact hnl b)
    · exact hv.elim

end Go.Pe
