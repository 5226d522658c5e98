import Derived.Test.YtffckclggkjbgaaGreatM10
set_option linter.unusedVariables false
set_option linter.unusedSimpArgs false
/- A contract over a heap of one block holds beside any heap that has such a block. -/
namespace Go.Pe
open Go

def H.one (cs : List AV) : H := { next := 1, get := fun q => if q = 0 then some cs else none, lp := fun _ => none }
theorem one_get {cs : List AV} {q : Nat} : (H.one cs).get q = if q = 0 then some cs else none := rfl
theorem one_next {cs : List AV} : (H.one cs).next = 1 := rfl

/-- The block b is called 0. -/
def re (b : Nat) : AV → AV
  | .ptr q o => if q = b then .ptr 0 o else .ptr q o
  | x => x
def reOk (b : Nat) : AV → Bool
  | .ptr q _ => q == b
  | x => cleanD x

theorem Fn.beside1 {P : Program} {f : FuncId} {args args' : List AV} {x : AV} {cs cs' : List AV} {h : H} {b : Nat} (h0 : Fn P f args' (.one cs) x (.one cs')) (hb : h.get b = some cs) (ha : args' = args.map (re b)) (hok : args.all (reOk b) = true) (hcs : cs.all clean = true) (hcs' : cs'.all clean = true) (hx : cleanD x = true) :
    Fn P f args h x (h.set b cs') := by
  refine ⟨h0.1, fun n c D w vs hr hfr hargs => ?_⟩
  obtain ⟨o1, o2, C, e, o3, o4, o5⟩ := hr.own b cs hb
  obtain ⟨c1, hc1⟩ : ∃ c1 : Cx, c1 = { S := c.S, φ := fun _ => c.φ b } := ⟨_, rfl⟩
  have hlow : ∀ {y : AV} {u : Value}, R c w noId y u → R c1 w (fun q => q = 0) y u := fun hy => by
    subst hc1
    exact hy.mono (fun _ hk => hk) (fun _ _ => rfl) (fun _ hb => hb.elim) (fun _ hb => hb.elim) (fun _ C _ hk => ⟨C, hk, rfl⟩)
  have hget : ∀ {q ds}, (H.one cs).get q = some ds → q = 0 ∧ ds = cs := fun {q ds} hq => by
    simp only [one_get] at hq; split at hq
    · rename_i h1; cases hq; exact ⟨h1, rfl⟩
    · cases hq
  have hrel : Rel c1 (fun q => q = 0) (.one cs) w := ⟨fun q ds hq => by
    obtain ⟨rfl, rfl⟩ := hget hq
    refine ⟨rfl, by subst hc1; exact o2, C, e, by subst hc1; exact o3, o4, fun j y u e1 e2 => hlow (clean_R (o5 j y u e1 e2) ((List.all_eq_true.1 hcs) y (List.mem_of_getElem? e1)))⟩,
    fun q q' _ _ hq hq' _ => by rw [(hget hq).1, (hget hq').1], by subst hc1; exact hr.sz, (fun q r hq => by simp [H.one] at hq), (fun q q' _ _ hq => by simp [H.one] at hq)⟩
  have hal : RL c1 w (fun q => q = 0) args' vs := by
    subst ha
    refine ⟨by simpa using hargs.1, fun i y u e1 e2 => ?_⟩
    rw [List.getElem?_map] at e1
    cases hy : args[i]? with
    | none => simp [hy] at e1
    | some z =>
      simp only [hy, Option.map_some, Option.some.injEq] at e1
      subst e1
      have hz := hargs.2 i z u hy e2
      have ho := (List.all_eq_true.1 hok) z (List.mem_of_getElem? hy)
      have key : cleanD z = true → re b z = z → R c1 w (fun q => q = 0) (re b z) u := fun h1 h2 => by rw [h2]; exact hlow (cleanD_R hz h1)
      cases z with
      | ptr q o =>
        simp only [reOk, beq_iff_eq] at ho
        subst ho
        simp only [re, if_true]
        cases hz with
        | ptr hq =>
          have : R c1 w (fun q => q = 0) (.ptr 0 o) (.pointer (some ⟨c1.φ 0, o, none⟩)) := .ptr rfl
          subst hc1; exact this
      | _ => exact key ho rfl
  refine (h0.2 n c1 (fun q => q = 0) w vs hrel (fun q hq h => by simp only [one_next] at hq; omega) hal).mono ?_
  rintro ee w' ⟨v, c', D', rfl, h2, h3, h4, h5⟩
  have hD' : ∀ q, D' q → q = 0 := fun q hq => by
    rcases h5 q hq with h6 | h6
    · exact h6
    · simp only [one_next] at h6; omega
  have hφ : c'.φ 0 = c.φ b := by have := h4.φ 0 rfl; rw [this]; subst hc1; rfl
  have hfr' : ∀ k, k < w.heap.size → k ≠ c.φ b → w'.heap[k]? = w.heap[k]? := fun k hk hne => h4.frame k hk (fun q ds hq => by subst hc1; exact fun h => hne h.symm) (fun q r hq => by simp [H.one] at hq)
  have hS0 : ∀ k, c.S k → c'.S k := fun k hk => h4.S k (by subst hc1; exact hk)
  have hnS : ∀ k, c.S k → k ≠ c.φ b := fun k hk hne => o2 (hne ▸ hk)
  have hS' : ∀ k, c'.S k → c.S k ∨ w.heap.size ≤ k ∨ k = c.φ b := fun k hk => by
    rcases h4.newS k hk with h6 | h6 | ⟨q, ds, _, h7⟩
    · exact .inl (by subst hc1; exact h6)
    · exact .inr (.inl h6)
    · exact .inr (.inr (by subst hc1; exact h7.symm))
  have hup : ∀ {y : AV} {u : Value}, R c' w' noId y u → R { S := c'.S, φ := c.φ } w' D y u := fun hy =>
    hy.mono (fun _ hk => hk) (fun _ _ => rfl) (fun _ hb => hb.elim) (fun _ hb => hb.elim) (fun _ C _ hk => ⟨C, hk, rfl⟩)
  refine ⟨v, { S := c'.S, φ := c.φ }, D, rfl, hup (cleanD_R h2 hx), ⟨fun q ds hq => ?_, fun q q' ds ds' hq hq' he => ?_, h3.sz, hr.lps_keep hS0 (fun k hk => hfr' k (hr.sz k hk) (hnS k hk)) (fun _ _ => rfl) (fun _ hb => hb) h4.shp (fun q r hq => hfr' _ (hr.lp_lt hq) (hr.apart (b' := b) hq o3)) (fun q r hq hS => by
      rcases hS' _ hS with h6 | h6 | h6
      · exact h6
      · have := hr.lp_lt hq; omega
      · exact (hr.apart (b' := b) hq o3 h6).elim), hr.linj⟩,
    ⟨hS0, fun k hk => ?_, fun _ _ => rfl, fun _ hb => hb, Nat.le_refl _, h4.os, h4.tape, h4.output, h4.size, fun k hk hne _ => hfr' k hk fun h => hne b cs hb h.symm, h4.shp, fun q ds hq => .inl ?_, fun q r hq => .inl ⟨q, r, hq, rfl⟩, h4.fz⟩, fun q hq => .inl hq⟩
  · simp only [H.set] at hq
    split at hq
    · rename_i hqb
      subst hqb
      cases hq
      obtain ⟨p1, p2, C', e', p3, p4, p5⟩ := h3.own 0 cs' (by simp [one_get])
      rw [hφ] at p2 p3
      exact ⟨o1, p2, C', e', p3, p4, fun j y u e1 e2 => hup (clean_R (p5 j y u e1 e2) ((List.all_eq_true.1 hcs') y (List.mem_of_getElem? e1)))⟩
    · rename_i hqb
      obtain ⟨q1, q2, C2, e2', q3, q4, q5⟩ := hr.own q ds hq
      have hlt := (Array.getElem?_eq_some_iff.1 q3).1
      have hne : c.φ q ≠ c.φ b := fun he => hqb (hr.inj q b ds cs hq hb he)
      refine ⟨q1, fun hS => ?_, C2, e2', by rw [hfr' _ hlt hne]; exact q3, q4, fun j y u e1 e2 => (q5 j y u e1 e2).mono hS0 (fun k hk => hfr' k (hr.sz k hk) (hnS k hk)) (fun _ _ => rfl) (fun _ hb => hb) h4.shp⟩
      rcases hS' _ hS with h6 | h6 | h6
      · exact q2 h6
      · exact absurd hlt (Nat.not_lt.2 h6)
      · exact hne h6
  · have hh : ∀ {q ds}, (h.set b cs').get q = some ds → ∃ ds', h.get q = some ds' := fun {q ds} hq => by
      simp only [H.set] at hq
      split at hq
      · rename_i hqb; exact ⟨cs, hqb ▸ hb⟩
      · exact ⟨ds, hq⟩
    obtain ⟨d1, e1⟩ := hh hq
    obtain ⟨d2, e2⟩ := hh hq'
    exact hr.inj q q' d1 d2 e1 e2 he
  · rcases hS' k hk with h6 | h6 | h6
    · exact .inl h6
    · exact .inr (.inl h6)
    · exact .inr (.inr ⟨b, cs, hb, h6.symm⟩)
  · simp only [H.set] at hq
    split at hq
    · rename_i hqb; exact ⟨b, cs, hb, by rw [hqb]⟩
    · exact ⟨q, ds, hq, rfl⟩

/-- A FUNCTION THAT WRITES ONE BLOCK. -/
def FinW (P : Program) (fn : Func) (x : AV) (cs' : List AV) (e : Exit) (ρ : List AV) (hh : H) : Prop :=
  match e with
  | .normal | .ret => ∃ y, resA P fn.results ρ hh = some y ∧ (∃ k, frz k hh 1 y = some x) ∧ hh.get 0 = some cs'
  | _ => False
theorem Fn.write {P : Program} {f : FuncId} {fn : Func} {code : Code} (md : Oper → Bool) (ct : Nat → Cert) {args : List AV} {cs cs' : List AV} {x : AV} (hcall : callable P f = true) (hf : P.funcs[f]? = some fn) (hb : fn.body = some code) (hd : drawsOk P ct code = true) (hcs' : cs'.all clean1 = true)
    (hv : ap (vc P md ct none code (FinW P fn x cs')) .mk (args ++ List.replicate (fn.ntmps - args.length) (.val undef)) (.one cs)) : Fn P f args (.one cs) x (.one cs') := by
  refine Fn.of_vc_gen md ct hcall hf hb rfl hd (fun _ e ρ hh hk => ?_) (fun _ => hv)
  have go : ∀ {e}, FinW P fn x cs' e ρ hh → (e = .normal ∨ e = .ret) → ∃ y k, resA P fn.results ρ hh = some y ∧ frz k hh (H.one cs).next y = some x ∧ (∀ b cs2, (H.one cs').get b = some cs2 → ∃ ds k, hh.get b = some ds ∧ b < (H.one cs).next ∧ ds.mapM (frz k hh (H.one cs).next) = some cs2) ∧
      ∀ b r, (H.one cs').lp b = some r → hh.lp b = some r ∧ b < (H.one cs).next ∧ ∃ k, r.ρ.mapM (frz k hh (H.one cs).next) = some r.ρ := fun {e} hk he => by
    have hk' : ∃ y, resA P fn.results ρ hh = some y ∧ (∃ k, frz k hh 1 y = some x) ∧ hh.get 0 = some cs' := by rcases he with rfl | rfl <;> exact hk
    obtain ⟨y, h1, ⟨k, h2⟩, h3⟩ := hk'
    refine ⟨y, k, h1, h2, fun b cs2 hb => ?_, fun b r hb => by simp [H.one] at hb⟩
    simp only [one_get] at hb
    split at hb
    · rename_i hb0; subst hb0; cases hb
      exact ⟨cs', 1, h3, by simp [one_next], on_frzl hcs'⟩
    · cases hb
  cases e with
  | normal => exact go hk (.inl rfl)
  | ret => exact go hk (.inr rfl)
  | _ => exact hk.elim
theorem ap_finw_ret {P : Program} {fn : Func} {x : AV} {cs' : List AV} {ρ : List AV} {h : H} {t : Tag (FinW P fn x cs' .ret)} : ap (FinW P fn x cs' .ret) t ρ h = onSome (resA P fn.results ρ h) (fun y => (∃ k, frz k h 1 y = some x) ∧ h.get 0 = some cs') .mk := by
  unfold ap FinW onSome; cases resA P fn.results ρ h <;> simp
theorem ap_finw_normal {P : Program} {fn : Func} {x : AV} {cs' : List AV} {ρ : List AV} {h : H} {t : Tag (FinW P fn x cs' .normal)} : ap (FinW P fn x cs' .normal) t ρ h = onSome (resA P fn.results ρ h) (fun y => (∃ k, frz k h 1 y = some x) ∧ h.get 0 = some cs') .mk := by
  unfold ap FinW onSome; cases resA P fn.results ρ h <;> simp

end Go.Pe

/- What melts. -/
namespace Go.Pe
open Go Go.Proofs Go.Proofs.YtffckclggkjbgaaGreat
attribute [local simp] ap_skip ap_region ap_seq ap_cond ap_block ap_loop ap_exit ap_ret ap_seq_normal ap_seq_ret ap_seq_exit ap_block_normal ap_block_ret ap_block_exit ap_block_other ap_nil ap_draw ap_dr_nil ap_fin_ret ap_fin_normal ap_loopK dstT_zero dstT_succ Nat.add_assoc onSome_some onSome_none ifB_true ifB_false ifB_not onClo_clo onBool_bool onBool_tup frz_val frz_ro takeAt elemTy LeN_refl LeN_push LeN_set push_get push_next set_get set_next nil_get nil_next pop_move pop_assign pop_pick pop_load pop_fieldAddr pop_indexAddr pop_field pop_binOp pop_unOp pop_convert pop_extract pop_makeFunc pop_nilCheck pop_build pop_slice pop_len pop_max pop_min eop_alloc eop_box eop_store eop_buildSlice eop_makeSlice eop_append as_move as_assign as_pick as_load as_fieldAddr as_indexAddr as_field as_binOp as_unOp as_convert as_extract as_makeFunc as_nilCheck as_build as_slice as_len as_max as_min as_alloc as_box as_store as_buildSlice as_makeSlice as_append as_call cons_free cons_guard putA_some putA_none aev_tmp aev_int aev_bool aev_nil aev_func pickA_and pickA_or pickA_true pickA_false nnA_ptr nnA_rop idxA_some intOf_int boxA_some bin_int binI_add binI_sub binI_mul binI_quo binI_rem binI_eql binI_neq binI_lss binI_leq binI_gtr binI_geq unA_not unA_neg loadA_ptr loadA_rop loadO_some asLoaded_agg asLoaded_one resA_one resA_two resOne_tmp resOne_cell cellsOf_int cellsOf_bool cellsOf_clo cellsOf_ptr cellsOf_ro cellsOf_sl cellsOf_nil cellsOf_agg one_int one_bool one_nil one_clo one_ptr one_ro one_sl one_rop mm_max mm_min elS_sl elS2_sl mkA_some chunk_zero chunk_succ zcells_zero zcells_succ clean_val clean_ro clean_rop clean1_val clean1_ro clean1_rop flat_val flat_ro flat_agg frz_agg frz_tup
attribute [local simp] t3 u3 t4 u4 t5 u5 t22 u22 t23 u23 t25 u25 t27 u27 t28 u28 t30 u30 t32 u32   t37 u37 t43 u43     t50 u50   t75 u75 t77 u77     t94 u94   t102 u102 t117 u117 t119 u119     t130 u130 t134 u134 t138 u138   t155 u155 t156 u156   t172 u172
attribute [local simp] lenA_ro indexA_ro fieldA fldA partA buildA fillA storeA buildSliceA

attribute [local simp] quietA effectful allocs fpo findNew_nil q_move q_assign q_pick q_load q_fieldAddr q_indexAddr q_field q_binOp q_unOp q_convert q_extract q_makeFunc q_nilCheck q_build q_slice q_len q_max q_min e_alloc e_box e_store e_buildSlice e_makeSlice e_append q_call e_call dr_free dr_guard qView_next eView_next hit_nil hit_cons qView_get optL_some optL_none eView_get fp_alloc fp_box fp_make fp_append fp_build fp_call fp_store mergeG_get LeN_nil new_store findNew_cons
attribute [local simp] one_get one_next ap_finw_ret ap_finw_normal
set_option maxRecDepth 20000
end Go.Pe

/- Conditions for all elements of lists of structs and of lists. -/
namespace Go.Pe
open Go Go.Proofs Go.Proofs.YtffckclggkjbgaaGreat
attribute [local simp] ap_skip ap_region ap_seq ap_cond ap_block ap_loop ap_exit ap_ret ap_seq_normal ap_seq_ret ap_seq_exit ap_block_normal ap_block_ret ap_block_exit ap_block_other ap_nil ap_draw ap_dr_nil ap_fin_ret ap_fin_normal ap_loopK dstT_zero dstT_succ Nat.add_assoc onSome_some onSome_none ifB_true ifB_false ifB_not onClo_clo onBool_bool onBool_tup frz_val frz_ro takeAt elemTy LeN_refl LeN_push LeN_set push_get push_next set_get set_next nil_get nil_next pop_move pop_assign pop_pick pop_load pop_fieldAddr pop_indexAddr pop_field pop_binOp pop_unOp pop_convert pop_extract pop_makeFunc pop_nilCheck pop_build pop_slice pop_len pop_max pop_min eop_alloc eop_box eop_store eop_buildSlice eop_makeSlice eop_append as_move as_assign as_pick as_load as_fieldAddr as_indexAddr as_field as_binOp as_unOp as_convert as_extract as_makeFunc as_nilCheck as_build as_slice as_len as_max as_min as_alloc as_box as_store as_buildSlice as_makeSlice as_append as_call cons_free cons_guard putA_some putA_none aev_tmp aev_int aev_bool aev_nil aev_func pickA_and pickA_or pickA_true pickA_false nnA_ptr nnA_rop idxA_some intOf_int boxA_some bin_int binI_add binI_sub binI_mul binI_quo binI_rem binI_eql binI_neq binI_lss binI_leq binI_gtr binI_geq unA_not unA_neg loadA_ptr loadA_rop loadO_some asLoaded_agg asLoaded_one resA_one resA_two resOne_tmp resOne_cell cellsOf_int cellsOf_bool cellsOf_clo cellsOf_ptr cellsOf_ro cellsOf_sl cellsOf_nil cellsOf_agg one_int one_bool one_nil one_clo one_ptr one_ro one_sl one_rop mm_max mm_min elS_sl elS2_sl mkA_some chunk_zero chunk_succ zcells_zero zcells_succ clean_val clean_ro clean_rop clean1_val clean1_ro clean1_rop flat_val flat_ro flat_agg frz_agg frz_tup
attribute [local simp] t3 u3 t4 u4 t5 u5 t22 u22 t23 u23 t25 u25 t27 u27 t28 u28 t30 u30 t32 u32   t37 u37 t43 u43     t50 u50   t75 u75 t77 u77     t94 u94   t102 u102 t117 u117 t119 u119     t130 u130 t134 u134 t138 u138   t155 u155 t156 u156   t172 u172
attribute [local simp] lenA_ro indexA_ro
set_option maxRecDepth 20000

theorem indexFunc_reach {f : FuncId} {caps : List AV} {h : H} {p : List AV → Bool} {xs : List (List AV)} {fu : Bool} (hlen : (xs.length : Int) < 2^62) (hk : ∀ r ∈ xs, r.length = 9) (hF : ∀ x ∈ xs, Fn Tryz.prog f ([AV.agg x] ++ caps) h (B (p x)) h) :
    Fn Tryz.prog 200 [.ro fu 9 xs, .clo f caps] h (I (idx p xs)) h := by
  refine Fn.keep noM noC (by kernel_rfl) Tryz.func200 rfl rfl fun _ => ?_
  simp -dsimp -implicitDefEqProofs
  refine LoopC.on (σ := Nat) (fun i j => [.ro fu 9 xs, .clo f caps, j 2, j 3, j 4, j 5, j 6, I xs.length, I i, j 9, j 10, j 11, j 12, j 13, j 14, j 15, j 16, j 17, j 18])
    (fun i k => k = h ∧ i ≤ xs.length ∧ ∀ q, q < i → ∀ x, xs[q]? = some x → p x = false) (fun i => xs.length - i) 0 ⟨rfl, by omega, fun q hq => by omega⟩ (by simp) ?_
  rintro i j h' ⟨rfl, hi, hp⟩
  simp -dsimp -implicitDefEqProofs
  refine ifD_in (fun hlt => ?_) (fun hge => ?_)
  · have hx := List.getElem?_eq_getElem (show i < xs.length by omega)
    have hl := hk _ (List.getElem_mem (show i < xs.length by omega))
    have ht : xs[i].take 9 = xs[i] := List.take_of_length_le (by omega)
    simp -dsimp -implicitDefEqProofs [hx, hl, ht]
    refine onCall_in (hF _ (List.getElem_mem (by omega))) ?_
    simp -dsimp -implicitDefEqProofs
    refine ifB_in (fun hb => by simp -dsimp -implicitDefEqProofs [idx_hit hx hb hp]) (fun hb => ?_)
    simp -dsimp -implicitDefEqProofs
    refine ⟨i + 1, ⟨by omega, fun q hq x hqx => ?_⟩, ?_, by omega⟩
    · by_cases hqi : q = i
      · subst hqi; rw [hx] at hqx; cases hqx; simpa using hb
      · exact hp q (by omega) x hqx
    · rw [wrap_in (by omega) (by omega)]; omega
  · simp -dsimp -implicitDefEqProofs
    exact (idx_miss fun q hq => hp q (by omega)).symm
theorem containsFunc_reach {f : FuncId} {caps : List AV} {h : H} {p : List AV → Bool} {xs : List (List AV)} {fu : Bool} (hlen : (xs.length : Int) < 2^62) (hk : ∀ r ∈ xs, r.length = 9) (hF : ∀ x ∈ xs, Fn Tryz.prog f ([AV.agg x] ++ caps) h (B (p x)) h) :
    Fn Tryz.prog 194 [.ro fu 9 xs, .clo f caps] h (B (xs.any p)) h := by
  refine Fn.keep noM noC (by kernel_rfl) Tryz.func194 rfl rfl fun _ => ?_
  simp -dsimp -implicitDefEqProofs
  refine onCall_in (indexFunc_reach hlen hk hF) ?_
  simp -dsimp -implicitDefEqProofs
  exact idx_any
theorem every1_reach {f : FuncId} {caps : List AV} {h : H} {b : Nat} {x : List AV} {v : Bool} (hb : h.get b = some [.clo f caps]) (ho : ∀ a ∈ x, one a = true) (hl : x.length = 9) (hF : Fn Tryz.prog f ([AV.agg x] ++ caps) (h.push x) (B v) (h.push x)) : Fn Tryz.prog 195 [AV.agg x, .ptr b 0] h (B !v) h := by
  refine Fn.keep noM noC (by kernel_rfl) Tryz.func195 rfl rfl fun live => ?_
  have hne : ¬ b = h.next := by have := (live.1 b _ hb).1; omega
  have ht : x.take 9 = x := List.take_of_length_le (by omega)
  simp -dsimp -implicitDefEqProofs [hb, hl, ht, hne]
  rw [if_pos ho]
  simp -dsimp -implicitDefEqProofs [hb, hl, ht, hne]
  refine onCall_in hF ?_
  simp -dsimp -implicitDefEqProofs
theorem every_reach {f : FuncId} {caps : List AV} {h : H} {p : List AV → Bool} {xs : List (List AV)} {fu : Bool} (hlen : (xs.length : Int) < 2^62) (hk : ∀ r ∈ xs, r.length = 9) (ho : ∀ x ∈ xs, ∀ a ∈ x, one a = true) (hF : ∀ x ∈ xs, Fn Tryz.prog f ([AV.agg x] ++ caps) ((h.push [.clo f caps]).push x) (B (p x)) ((h.push [.clo f caps]).push x)) :
    Fn Tryz.prog 177 [.ro fu 9 xs, .clo f caps] h (B (xs.all p)) h := by
  refine Fn.keep noM noC (by kernel_rfl) Tryz.func177 rfl rfl fun _ => ?_
  simp -dsimp -implicitDefEqProofs
  refine onCall_in (containsFunc_reach (p := fun x => !p x) hlen hk fun x hx => every1_reach (b := h.next) (f := f) (caps := caps) (by simp) (ho x hx) (hk x hx) (hF x hx)) ?_
  simp -dsimp -implicitDefEqProofs
  rw [Bool.eq_iff_iff]; simp

theorem indexFunc_shoal {f : FuncId} {caps : List AV} {h : H} {p : List AV → Bool} {xs : List (List AV)} {fu : Bool} (hlen : (xs.length : Int) < 2^62) (hk : ∀ r ∈ xs, r.length = 6) (hF : ∀ x ∈ xs, Fn Tryz.prog f ([AV.agg x] ++ caps) h (B (p x)) h) :
    Fn Tryz.prog 201 [.ro fu 6 xs, .clo f caps] h (I (idx p xs)) h := by
  refine Fn.keep noM noC (by kernel_rfl) Tryz.func201 rfl rfl fun _ => ?_
  simp -dsimp -implicitDefEqProofs
  refine LoopC.on (σ := Nat) (fun i j => [.ro fu 6 xs, .clo f caps, j 2, j 3, j 4, j 5, j 6, I xs.length, I i, j 9, j 10, j 11, j 12, j 13, j 14, j 15, j 16, j 17, j 18])
    (fun i k => k = h ∧ i ≤ xs.length ∧ ∀ q, q < i → ∀ x, xs[q]? = some x → p x = false) (fun i => xs.length - i) 0 ⟨rfl, by omega, fun q hq => by omega⟩ (by simp) ?_
  rintro i j h' ⟨rfl, hi, hp⟩
  simp -dsimp -implicitDefEqProofs
  refine ifD_in (fun hlt => ?_) (fun hge => ?_)
  · have hx := List.getElem?_eq_getElem (show i < xs.length by omega)
    have hl := hk _ (List.getElem_mem (show i < xs.length by omega))
    have ht : xs[i].take 6 = xs[i] := List.take_of_length_le (by omega)
    simp -dsimp -implicitDefEqProofs [hx, hl, ht]
    refine onCall_in (hF _ (List.getElem_mem (by omega))) ?_
    simp -dsimp -implicitDefEqProofs
    refine ifB_in (fun hb => by simp -dsimp -implicitDefEqProofs [idx_hit hx hb hp]) (fun hb => ?_)
    simp -dsimp -implicitDefEqProofs
    refine ⟨i + 1, ⟨by omega, fun q hq x hqx => ?_⟩, ?_, by omega⟩
    · by_cases hqi : q = i
      · subst hqi; rw [hx] at hqx; cases hqx; simpa using hb
      · exact hp q (by omega) x hqx
    · rw [wrap_in (by omega) (by omega)]; omega
  · simp -dsimp -implicitDefEqProofs
    exact (idx_miss fun q hq => hp q (by omega)).symm
theorem containsFunc_shoal {f : FuncId} {caps : List AV} {h : H} {p : List AV → Bool} {xs : List (List AV)} {fu : Bool} (hlen : (xs.length : Int) < 2^62) (hk : ∀ r ∈ xs, r.length = 6) (hF : ∀ x ∈ xs, Fn Tryz.prog f ([AV.agg x] ++ caps) h (B (p x)) h) :
    Fn Tryz.prog 196 [.ro fu 6 xs, .clo f caps] h (B (xs.any p)) h := by
  refine Fn.keep noM noC (by kernel_rfl) Tryz.func196 rfl rfl fun _ => ?_
  simp -dsimp -implicitDefEqProofs
  refine onCall_in (indexFunc_shoal hlen hk hF) ?_
  simp -dsimp -implicitDefEqProofs
  exact idx_any
theorem every1_shoal {f : FuncId} {caps : List AV} {h : H} {b : Nat} {x : List AV} {v : Bool} (hb : h.get b = some [.clo f caps]) (ho : ∀ a ∈ x, one a = true) (hl : x.length = 6) (hF : Fn Tryz.prog f ([AV.agg x] ++ caps) (h.push x) (B v) (h.push x)) : Fn Tryz.prog 197 [AV.agg x, .ptr b 0] h (B !v) h := by
  refine Fn.keep noM noC (by kernel_rfl) Tryz.func197 rfl rfl fun live => ?_
  have hne : ¬ b = h.next := by have := (live.1 b _ hb).1; omega
  have ht : x.take 6 = x := List.take_of_length_le (by omega)
  simp -dsimp -implicitDefEqProofs [hb, hl, ht, hne]
  rw [if_pos ho]
  simp -dsimp -implicitDefEqProofs [hb, hl, ht, hne]
  refine onCall_in hF ?_
  simp -dsimp -implicitDefEqProofs
theorem every_shoal {f : FuncId} {caps : List AV} {h : H} {p : List AV → Bool} {xs : List (List AV)} {fu : Bool} (hlen : (xs.length : Int) < 2^62) (hk : ∀ r ∈ xs, r.length = 6) (ho : ∀ x ∈ xs, ∀ a ∈ x, one a = true) (hF : ∀ x ∈ xs, Fn Tryz.prog f ([AV.agg x] ++ caps) ((h.push [.clo f caps]).push x) (B (p x)) ((h.push [.clo f caps]).push x)) :
    Fn Tryz.prog 179 [.ro fu 6 xs, .clo f caps] h (B (xs.all p)) h := by
  refine Fn.keep noM noC (by kernel_rfl) Tryz.func179 rfl rfl fun _ => ?_
  simp -dsimp -implicitDefEqProofs
  refine onCall_in (containsFunc_shoal (p := fun x => !p x) hlen hk fun x hx => every1_shoal (b := h.next) (f := f) (caps := caps) (by simp) (ho x hx) (hk x hx) (hF x hx)) ?_
  simp -dsimp -implicitDefEqProofs
  rw [Bool.eq_iff_iff]; simp

theorem indexFunc_lists {f : FuncId} {caps : List AV} {h : H} {p : AV → Bool} {xs : List (AV)} {fu : Bool} (hlen : (xs.length : Int) < 2^62) (hF : ∀ x ∈ xs, Fn Tryz.prog f ([x] ++ caps) h (B (p x)) h) :
    Fn Tryz.prog 198 [.ro fu 1 (xs.map fun x => [x]), .clo f caps] h (I (idx p xs)) h := by
  refine Fn.keep noM noC (by kernel_rfl) Tryz.func198 rfl rfl fun _ => ?_
  simp -dsimp -implicitDefEqProofs
  refine LoopC.on (σ := Nat) (fun i j => [.ro fu 1 (xs.map fun x => [x]), .clo f caps, j 2, j 3, j 4, j 5, j 6, I xs.length, I i, j 9, j 10, j 11, j 12, j 13, j 14, j 15, j 16, j 17, j 18])
    (fun i k => k = h ∧ i ≤ xs.length ∧ ∀ q, q < i → ∀ x, xs[q]? = some x → p x = false) (fun i => xs.length - i) 0 ⟨rfl, by omega, fun q hq => by omega⟩ (by simp) ?_
  rintro i j h' ⟨rfl, hi, hp⟩
  simp -dsimp -implicitDefEqProofs
  refine ifD_in (fun hlt => ?_) (fun hge => ?_)
  · have hx := List.getElem?_eq_getElem (show i < xs.length by omega)
    simp -dsimp -implicitDefEqProofs [hx]
    refine onCall_in (hF _ (List.getElem_mem (by omega))) ?_
    simp -dsimp -implicitDefEqProofs
    refine ifB_in (fun hb => by simp -dsimp -implicitDefEqProofs [idx_hit hx hb hp]) (fun hb => ?_)
    simp -dsimp -implicitDefEqProofs
    refine ⟨i + 1, ⟨by omega, fun q hq x hqx => ?_⟩, ?_, by omega⟩
    · by_cases hqi : q = i
      · subst hqi; rw [hx] at hqx; cases hqx; simpa using hb
      · exact hp q (by omega) x hqx
    · rw [wrap_in (by omega) (by omega)]; omega
  · simp -dsimp -implicitDefEqProofs
    exact (idx_miss fun q hq => hp q (by omega)).symm
theorem containsFunc_lists {f : FuncId} {caps : List AV} {h : H} {p : AV → Bool} {xs : List (AV)} {fu : Bool} (hlen : (xs.length : Int) < 2^62) (hF : ∀ x ∈ xs, Fn Tryz.prog f ([x] ++ caps) h (B (p x)) h) :
    Fn Tryz.prog 182 [.ro fu 1 (xs.map fun x => [x]), .clo f caps] h (B (xs.any p)) h := by
  refine Fn.keep noM noC (by kernel_rfl) Tryz.func182 rfl rfl fun _ => ?_
  simp -dsimp -implicitDefEqProofs
  refine onCall_in (indexFunc_lists hlen hF) ?_
  simp -dsimp -implicitDefEqProofs
  exact idx_any
theorem every1_lists {f : FuncId} {caps : List AV} {h : H} {b : Nat} {x : AV} {v : Bool} (hb : h.get b = some [.clo f caps]) (hF : Fn Tryz.prog f ([x] ++ caps) h (B v) h) : Fn Tryz.prog 183 [x, .ptr b 0] h (B !v) h := by
  refine Fn.keep noM noC (by kernel_rfl) Tryz.func183 rfl rfl fun _ => ?_
  simp -dsimp -implicitDefEqProofs [hb]
  refine onCall_in hF ?_
  simp -dsimp -implicitDefEqProofs
theorem every_lists {f : FuncId} {caps : List AV} {h : H} {p : AV → Bool} {xs : List (AV)} {fu : Bool} (hlen : (xs.length : Int) < 2^62) (hF : ∀ x ∈ xs, Fn Tryz.prog f ([x] ++ caps) (h.push [.clo f caps]) (B (p x)) (h.push [.clo f caps])) :
    Fn Tryz.prog 156 [.ro fu 1 (xs.map fun x => [x]), .clo f caps] h (B (xs.all p)) h := by
  refine Fn.keep noM noC (by kernel_rfl) Tryz.func156 rfl rfl fun _ => ?_
  simp -dsimp -implicitDefEqProofs
  refine onCall_in (containsFunc_lists (p := fun x => !p x) hlen fun x hx => every1_lists (b := h.next) (f := f) (caps := caps) (by simp) (hF x hx)) ?_
  simp -dsimp -implicitDefEqProofs
  rw [Bool.eq_iff_iff]; simp

theorem indexFunc_bounds {f : FuncId} {caps : List AV} {h : H} {p : List AV → Bool} {xs : List (List AV)} {fu : Bool} (hlen : (xs.length : Int) < 2^62) (hk : ∀ r ∈ xs, r.length = 2) (hF : ∀ x ∈ xs, Fn Tryz.prog f ([AV.agg x] ++ caps) h (B (p x)) h) :
    Fn Tryz.prog 199 [.ro fu 2 xs, .clo f caps] h (I (idx p xs)) h := by
  refine Fn.keep noM noC (by kernel_rfl) Tryz.func199 rfl rfl fun _ => ?_
  simp -dsimp -implicitDefEqProofs
  refine LoopC.on (σ := Nat) (fun i j => [.ro fu 2 xs, .clo f caps, j 2, j 3, j 4, j 5, j 6, I xs.length, I i, j 9, j 10, j 11, j 12, j 13, j 14, j 15, j 16, j 17, j 18])
    (fun i k => k = h ∧ i ≤ xs.length ∧ ∀ q, q < i → ∀ x, xs[q]? = some x → p x = false) (fun i => xs.length - i) 0 ⟨rfl, by omega, fun q hq => by omega⟩ (by simp) ?_
  rintro i j h' ⟨rfl, hi, hp⟩
  simp -dsimp -implicitDefEqProofs
  refine ifD_in (fun hlt => ?_) (fun hge => ?_)
  · have hx := List.getElem?_eq_getElem (show i < xs.length by omega)
    have hl := hk _ (List.getElem_mem (show i < xs.length by omega))
    have ht : xs[i].take 2 = xs[i] := List.take_of_length_le (by omega)
    simp -dsimp -implicitDefEqProofs [hx, hl, ht]
    refine onCall_in (hF _ (List.getElem_mem (by omega))) ?_
    simp -dsimp -implicitDefEqProofs
    refine ifB_in (fun hb => by simp -dsimp -implicitDefEqProofs [idx_hit hx hb hp]) (fun hb => ?_)
    simp -dsimp -implicitDefEqProofs
    refine ⟨i + 1, ⟨by omega, fun q hq x hqx => ?_⟩, ?_, by omega⟩
    · by_cases hqi : q = i
      · subst hqi; rw [hx] at hqx; cases hqx; simpa using hb
      · exact hp q (by omega) x hqx
    · rw [wrap_in (by omega) (by omega)]; omega
  · simp -dsimp -implicitDefEqProofs
    exact (idx_miss fun q hq => hp q (by omega)).symm
theorem containsFunc_bounds {f : FuncId} {caps : List AV} {h : H} {p : List AV → Bool} {xs : List (List AV)} {fu : Bool} (hlen : (xs.length : Int) < 2^62) (hk : ∀ r ∈ xs, r.length = 2) (hF : ∀ x ∈ xs, Fn Tryz.prog f ([AV.agg x] ++ caps) h (B (p x)) h) :
    Fn Tryz.prog 184 [.ro fu 2 xs, .clo f caps] h (B (xs.any p)) h := by
  refine Fn.keep noM noC (by kernel_rfl) Tryz.func184 rfl rfl fun _ => ?_
  simp -dsimp -implicitDefEqProofs
  refine onCall_in (indexFunc_bounds hlen hk hF) ?_
  simp -dsimp -implicitDefEqProofs
  exact idx_any
theorem every1_bounds {f : FuncId} {caps : List AV} {h : H} {b : Nat} {x : List AV} {v : Bool} (hb : h.get b = some [.clo f caps]) (ho : ∀ a ∈ x, one a = true) (hl : x.length = 2) (hF : Fn Tryz.prog f ([AV.agg x] ++ caps) (h.push x) (B v) (h.push x)) : Fn Tryz.prog 185 [AV.agg x, .ptr b 0] h (B !v) h := by
  refine Fn.keep noM noC (by kernel_rfl) Tryz.func185 rfl rfl fun live => ?_
  have hne : ¬ b = h.next := by have := (live.1 b _ hb).1; omega
  have ht : x.take 2 = x := List.take_of_length_le (by omega)
  simp -dsimp -implicitDefEqProofs [hb, hl, ht, hne]
  rw [if_pos ho]
  simp -dsimp -implicitDefEqProofs [hb, hl, ht, hne]
  refine onCall_in hF ?_
  simp -dsimp -implicitDefEqProofs
theorem every_bounds {f : FuncId} {caps : List AV} {h : H} {p : List AV → Bool} {xs : List (List AV)} {fu : Bool} (hlen : (xs.length : Int) < 2^62) (hk : ∀ r ∈ xs, r.length = 2) (ho : ∀ x ∈ xs, ∀ a ∈ x, one a = true) (hF : ∀ x ∈ xs, Fn Tryz.prog f ([AV.agg x] ++ caps) ((h.push [.clo f caps]).push x) (B (p x)) ((h.push [.clo f caps]).push x)) :
    Fn Tryz.prog 159 [.ro fu 2 xs, .clo f caps] h (B (xs.all p)) h := by
  refine Fn.keep noM noC (by kernel_rfl) Tryz.func159 rfl rfl fun _ => ?_
  simp -dsimp -implicitDefEqProofs
  refine onCall_in (containsFunc_bounds (p := fun x => !p x) hlen hk fun x hx => every1_bounds (b := h.next) (f := f) (caps := caps) (by simp) (ho x hx) (hk x hx) (hF x hx)) ?_
  simp -dsimp -implicitDefEqProofs
  rw [Bool.eq_iff_iff]; simp
end Go.Pe

/- What runs off. -/
namespace Go.Pe
open Go Go.Proofs Go.Proofs.YtffckclggkjbgaaGreat
attribute [local simp] ap_skip ap_region ap_seq ap_cond ap_block ap_loop ap_exit ap_ret ap_seq_normal ap_seq_ret ap_seq_exit ap_block_normal ap_block_ret ap_block_exit ap_block_other ap_nil ap_draw ap_dr_nil ap_fin_ret ap_fin_normal ap_loopK dstT_zero dstT_succ Nat.add_assoc onSome_some onSome_none ifB_true ifB_false ifB_not onClo_clo onBool_bool onBool_tup frz_val frz_ro takeAt elemTy LeN_refl LeN_push LeN_set push_get push_next set_get set_next nil_get nil_next pop_move pop_assign pop_pick pop_load pop_fieldAddr pop_indexAddr pop_field pop_binOp pop_unOp pop_convert pop_extract pop_makeFunc pop_nilCheck pop_build pop_slice pop_len pop_max pop_min eop_alloc eop_box eop_store eop_buildSlice eop_makeSlice eop_append as_move as_assign as_pick as_load as_fieldAddr as_indexAddr as_field as_binOp as_unOp as_convert as_extract as_makeFunc as_nilCheck as_build as_slice as_len as_max as_min as_alloc as_box as_store as_buildSlice as_makeSlice as_append as_call cons_free cons_guard putA_some putA_none aev_tmp aev_int aev_bool aev_nil aev_func pickA_and pickA_or pickA_true pickA_false nnA_ptr nnA_rop idxA_some intOf_int boxA_some bin_int binI_add binI_sub binI_mul binI_quo binI_rem binI_eql binI_neq binI_lss binI_leq binI_gtr binI_geq unA_not unA_neg loadA_ptr loadA_rop loadO_some asLoaded_agg asLoaded_one resA_one resA_two resOne_tmp resOne_cell cellsOf_int cellsOf_bool cellsOf_clo cellsOf_ptr cellsOf_ro cellsOf_sl cellsOf_nil cellsOf_agg one_int one_bool one_nil one_clo one_ptr one_ro one_sl one_rop mm_max mm_min elS_sl elS2_sl mkA_some chunk_zero chunk_succ zcells_zero zcells_succ clean_val clean_ro clean_rop clean1_val clean1_ro clean1_rop flat_val flat_ro flat_agg frz_agg frz_tup
attribute [local simp] t3 u3 t4 u4 t5 u5 t22 u22 t23 u23 t25 u25 t27 u27 t28 u28 t30 u30 t32 u32   t37 u37 t43 u43     t50 u50   t75 u75 t77 u77     t94 u94   t102 u102 t117 u117 t119 u119     t130 u130 t134 u134 t138 u138   t155 u155 t156 u156   t172 u172
attribute [local simp] lenA_ro indexA_ro fieldA fldA partA buildA fillA storeA buildSliceA
attribute [local simp] quietA effectful allocs fpo findNew_nil q_move q_assign q_pick q_load q_fieldAddr q_indexAddr q_field q_binOp q_unOp q_convert q_extract q_makeFunc q_nilCheck q_build q_slice q_len q_max q_min e_alloc e_box e_store e_buildSlice e_makeSlice e_append q_call e_call dr_free dr_guard qView_next eView_next hit_nil hit_cons qView_get optL_some optL_none eView_get fp_alloc fp_box fp_make fp_append fp_build fp_call fp_store mergeG_get LeN_nil new_store findNew_cons
attribute [local simp] one_get one_next ap_finw_ret ap_finw_normal
set_option maxRecDepth 20000

noncomputable abbrev Sk.row (x : Sk) : List AV := [I x.rain.lo, I x.rain.hi, I x.heat.lo, I x.heat.hi]
/-- Runoff, as the document says it. -/
def runs (c : Ct) : Bd → List Sk → List Bd
  | _, [] => []
  | s, x :: l => drain c (total [x.rain, melts s (warm c x)]) :: runs c (left s (warm c x)) l
def snowAt (c : Ct) (s : Bd) (l : List Sk) : Bd := l.foldl (fun s x => left s (warm c x)) s

def skP (r : List AV) : Bool := match r with
  | [.val (.int _ a), .val (.int _ b), .val (.int _ c), .val (.int _ d)] => validS ⟨⟨a, b⟩, ⟨c, d⟩⟩
  | _ => false
noncomputable abbrev cells (l : List Bd) : List AV := (l.map fun b => [I b.lo, I b.hi]).flatten
theorem storeA_at {T : TI} {h : H} {b o : Nat} {cs cs' l : List AV} {x : AV} (hb : h.get b = some cs) (hl : cellsOf x = some l) (h1 : l.length = T.size) (h2 : o + T.size ≤ cs.length) (h3 : cs.take o ++ l ++ cs.drop (o + l.length) = cs') : storeA T h (.ptr b o) x = some (.val undef, h.set b cs') := by
  simp only [storeA, hl, hb]
  rw [if_pos ⟨h1, h2⟩, h3]
theorem runs_snoc {c : Ct} : ∀ {l : List Sk} {s : Bd} {x : Sk}, runs c s (l ++ [x]) = runs c s l ++ [drain c (total [x.rain, melts (snowAt c s l) (warm c x)])]
  | [], s, x => rfl
  | y :: l, s, x => by simp only [List.cons_append, runs, runs_snoc]; rfl
theorem snow_snoc {c : Ct} {l : List Sk} {s : Bd} {x : Sk} : snowAt c s (l ++ [x]) = left (snowAt c s l) (warm c x) := by simp [snowAt, List.foldl_append]
theorem runs_len {c : Ct} : ∀ {l : List Sk} {s : Bd}, (runs c s l).length = l.length
  | [], s => rfl
  | y :: l, s => by simp [runs, runs_len]
theorem cells_len {l : List Bd} : (cells l).length = l.length * 2 := by
  induction l with
  | nil => rfl
  | cons b l ih => simp only [cells, List.map_cons, List.flatten_cons, List.length_append, List.length_cons, List.length_nil] at ih ⊢; omega
theorem cells_snoc {l : List Bd} {b : Bd} : cells (l ++ [b]) = cells l ++ [I b.lo, I b.hi] := by simp [cells]
theorem snow_in {c : Ct} {s : Bd} (hc : 0 ≤ c.melt) (h1 : 0 ≤ s.lo ∧ s.lo ≤ 1000000) (h2 : 0 ≤ s.hi ∧ s.hi ≤ 1000000) : ∀ (l : List Sk), (0 ≤ (snowAt c s l).lo ∧ (snowAt c s l).lo ≤ 1000000) ∧ (0 ≤ (snowAt c s l).hi ∧ (snowAt c s l).hi ≤ 1000000) := by
  intro l
  induction l generalizing s with
  | nil => exact ⟨h1, h2⟩
  | cons x l ih =>
    have g1 : 0 ≤ (warm c x).lo := Int.mul_nonneg hc (by omega)
    have g2 : 0 ≤ (warm c x).hi := Int.mul_nonneg hc (by omega)
    exact ih (s := left s (warm c x)) (by simp only [left]; omega) (by simp only [left]; omega)
theorem store_at {R : List Bd} {n i : Nat} {z : List Value} {y : List AV} (hz : z.length = 2) (hR : R.length = i) (hy : y.length = 2) :
    ((cells R ++ zcells (n + 1) z).take (i * 2) ++ y ++ (cells R ++ zcells (n + 1) z).drop (i * 2 + y.length)) = cells R ++ y ++ zcells n z := by
  have hl : (cells R).length = i * 2 := by rw [cells_len, hR]
  rw [List.take_left' hl, hy, ← List.drop_drop, List.drop_left' hl, zcells_succ, List.drop_left' (by simp [hz])]

theorem chunk_cells : ∀ {R : List Bd}, chunk 2 R.length (cells R) = R.map fun b => [I b.lo, I b.hi]
  | [] => rfl
  | b :: R => by
    have := chunk_cells (R := R)
    simp only [List.length_cons, chunk_succ, cells, List.map_cons, List.flatten_cons, List.cons_append, List.nil_append, List.take_succ_cons, List.take_zero, List.drop_succ_cons, List.drop_zero] at this ⊢
    rw [this]
theorem cells_all {q : AV → Bool} (hq : ∀ n, q (I n) = true) : ∀ {R : List Bd}, (cells R).all q = true
  | [] => rfl
  | b :: R => by
    have := cells_all hq (R := R)
    simp only [cells, List.map_cons, List.flatten_cons, List.all_append, List.all_cons, List.all_nil, hq, Bool.and_true, Bool.true_and] at this ⊢
    exact this
theorem frz_cells {h : H} {b n : Nat} {R : List Bd} (hb : h.get b = some (cells R)) (hn : R.length = n) : frz 2 h 0 (.sl b 0 n 2) = some (.ro false 2 (R.map fun b => [I b.lo, I b.hi])) := by
  have ht : takeAt (cells R) 0 (n * 2) = some (cells R) := by
    unfold takeAt
    rw [if_pos (by rw [cells_len]; omega), List.drop_zero, List.take_of_length_le (by rw [cells_len]; omega)]
  rw [frz, if_neg (by omega), hb]
  simp only [ht, on_frzl (cells_all (q := clean1) (fun _ => rfl))]
  rw [if_pos (cells_all (q := fun x => clean x && one x) (fun _ => rfl)), ← hn, chunk_cells]

end Go.Pe
