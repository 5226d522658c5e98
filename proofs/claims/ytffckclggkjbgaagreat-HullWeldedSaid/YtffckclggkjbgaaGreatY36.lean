import Derived.Test.YtffckclggkjbgaaGreatY35
import Derived.Test.YtffckclggkjbgaaGreatY12
set_option linter.unusedVariables false
set_option linter.unusedSimpArgs false
/- Flows: a reach's flow out of the flow of the reach above. -/
namespace Go.Pe
open Go Go.Proofs Go.Proofs.YtffckclggkjbgaaGreat
attribute [local simp] t3 u3 t4 u4 t5 u5 t22 u22 t23 u23 t25 u25 t27 u27 t28 u28 t30 u30 t32 u32   t37 u37 t43 u43     t50 u50   t75 u75 t77 u77     t94 u94   t102 u102 t117 u117 t119 u119     t130 u130 t134 u134 t138 u138   t155 u155 t156 u156   t172 u172
set_option maxRecDepth 20000
set_option maxHeartbeats 8000000
attribute [local simp] fW_eq fR_eq fS_eq extA fBd_eq fL_eq

/-- slices.Clone of a list that is not empty. -/
theorem Clone_fn {l : List Bd} {fu : Bool} (h1 : l.length ≠ 0) (h2 : l.length ≤ 1000) : Fn Tryz.prog 161 [.ro fu 2 (l.map fBd)] .nil (.sl 0 0 l.length 2) (mkH [some (rws fBd l)]) := by
  refine Fn.ofRx (bl0 := []) (bl := [some (rws fBd l)]) ownM (by kernel_rfl) Tryz.func161 rfl (by simp) ?_
  have hb1 : l.length * 16 ≤ 70368744177664 := by omega
  have hb2 : l.length ≤ 70368744177664 := by omega
  have h3 : (l.map fBd).length ≠ 0 := by simpa using h1
  simp -dsimp -implicitDefEqProofs [h1, hb1, hb2]
  refine ⟨[0], ?_⟩
  simp -dsimp -implicitDefEqProofs
  exact rws_rn (f := fBd) (l := l) (n := 3) fun _ => rfl

/-- What comes from the reach above. -/
def above (r : Rc) (fl : List Bd) (hour : Nat) : Bd := if (hour : Int) < r.delay then r.base else fl.getD (hour - r.delay.toNat) ⟨0, 0⟩
noncomputable abbrev stAV (r : Rv) (f1 : Bool) (hours : Int) (F : AV) : AV := .agg [r.reaches f1, r.shoals, I hours, F]
theorem arriving_fn {r : Rv} {f1 : Bool} {fl : List (List Bd)} {hours : Int} {i hour : Nat} {x : Rc} {l : List Bd} (hx : r.rs[i]? = some x) (hl : fl[i]? = some l) (hd : 0 ≤ x.delay) (hh : hour < l.length) (hm : l.length ≤ 1000000) :
    Fn Tryz.prog 163 [stAV r f1 hours (.sl 0 0 fl.length 1), I i, I hour] (mkH [some (rws fL fl)]) (.agg [I (above x l hour).lo, I (above x l hour).hi]) (mkH [some (rws fL fl)]) := by
  have hcl : (rws fL fl).all clean1 = true := rws_all fun _ => rfl
  have := Fn.ofR (P := Tryz.prog) (f := 163) (cs0 := [rws fL fl]) (cs1 := [rws fL fl]) (args := [stAV r f1 hours (.sl 0 0 fl.length 1), I i, I hour]) (x := .agg [I (above x l hour).lo, I (above x l hour).hi]) noM (by kernel_rfl) Tryz.func163 rfl (by simp) rfl (by simp [hcl]) ?_
  · exact this
  have hi := (List.getElem?_eq_some_iff.1 hl).1
  simp -dsimp -implicitDefEqProofs [hx]
  refine ifD_in (fun h1 => ?_) (fun h1 => ?_)
  · simp -dsimp -implicitDefEqProofs [above, h1]
  have hle : x.delay.toNat ≤ hour := by omega
  have w1 : IntKind.i64.wrap ((hour : Int) - x.delay) = ((hour - x.delay.toNat : Nat) : Int) := by rw [wrap_in (by omega) (by omega)]; omega
  have hy := List.getElem?_eq_getElem (show hour - x.delay.toNat < l.length by omega)
  have ha : above x l hour = l[hour - x.delay.toNat] := by simp only [above]; rw [if_neg h1, List.getD_eq_getElem?_getD, hy]; rfl
  simp -dsimp -implicitDefEqProofs
  refine DrawR.on { M := [2], eff := [(11, [2])] } (by kernel_rfl) (by simp) ?_
  simp -dsimp -implicitDefEqProofs [hx]
  rw [indexA_sl rfl hi]
  have hlen : i + 1 ≤ (rws fL fl).length := by rw [rws_len (k := 1) (fun _ => rfl)]; omega
  have hat := rws_at (k := 1) (f := fL) (fun _ => rfl) hl
  rw [Nat.mul_one] at hat
  simp -dsimp -implicitDefEqProofs [hlen, hat, w1, hy, ha]

/-- The flow of a reach: what comes from the side, and from above. -/
def flowOf (x : Rc) (prev side : List Bd) : List Bd := side.mapIdx fun h b => ⟨b.lo + (above x prev h).lo, b.hi + (above x prev h).hi⟩
theorem flowOf_len {x : Rc} {prev side : List Bd} : (flowOf x prev side).length = side.length := by simp [flowOf]
theorem flow0_fn {r : Rv} {f1 fu : Bool} {hours : Int} {side : List Bd} (h1 : side.length ≠ 0) (h2 : side.length ≤ 1000) : Fn Tryz.prog 121 [stAV r f1 hours (.val (.slice none 0 0)), I 0, .ro fu 2 (side.map fBd)] .nil (.ro false 2 (side.map fBd)) .nil := by
  refine Fn.ofR0 noM (by kernel_rfl) Tryz.func121 rfl (by simp) ?_
  simp -dsimp -implicitDefEqProofs
  refine onCall_in (Fn.makes (bl := [rws fBd side]) (Clone_fn h1 h2) rfl (by simp [rws_all, fBd_eq]) _ rfl) ?_
  simp -dsimp -implicitDefEqProofs
  exact ⟨2, frz_rows (rows := side.map fBd) (by simp [mkH, H.push, H.more, rws]) (Nat.zero_le _) (by simp) (by simp [fBd_eq]) (rws_all (f := fBd) fun _ => rfl)⟩
theorem above_in {x : Rc} {prev : List Bd} {m : Nat} (hb : x.base.lo.natAbs ≤ m ∧ x.base.hi.natAbs ≤ m) (hp : ∀ b ∈ prev, b.lo.natAbs ≤ m ∧ b.hi.natAbs ≤ m) (h : Nat) : (above x prev h).lo.natAbs ≤ m ∧ (above x prev h).hi.natAbs ≤ m := by
  unfold above
  split
  · exact hb
  · rw [List.getD_eq_getElem?_getD]
    cases hx : prev[h - x.delay.toNat]? with
    | none => simp
    | some b => exact hp b (List.mem_of_getElem? hx)
theorem flow_fn {r : Rv} {f1 fu : Bool} {side prev : List Bd} {fl : List (List Bd)} {i : Nat} {x : Rc} (hx : r.rs[i]? = some x) (hfl : fl.length = i + 1) (hpv : fl[i]? = some prev) (hpl : prev.length = side.length) (hd : 0 ≤ x.delay) (h1 : side.length ≠ 0) (h2 : side.length ≤ 1000) (hi : i ≤ 1000)
    (hbs : x.base.lo.natAbs ≤ 500000000000 ∧ x.base.hi.natAbs ≤ 500000000000) (hbp : ∀ b ∈ prev, b.lo.natAbs ≤ 500000000000 ∧ b.hi.natAbs ≤ 500000000000) (hbd : ∀ b ∈ side, b.lo.natAbs ≤ 500000000000 ∧ b.hi.natAbs ≤ 500000000000) :
    Fn Tryz.prog 121 [stAV r f1 side.length (.sl 0 0 fl.length 1), I fl.length, .ro fu 2 (side.map fBd)] (mkH [some (rws fL fl)]) (.ro false 2 ((flowOf x prev side).map fBd)) (mkH [some (rws fL fl)]) := by
  have hcl : (rws fL fl).all clean1 = true := rws_all fun _ => rfl
  have hcl2 : (rws fL fl).all clean = true := rws_all fun _ => rfl
  have hR : ∀ (h : H) (k : Nat), h.get 0 = some (rws fL fl) → k < side.length → Fn Tryz.prog 163 [stAV r f1 side.length (.sl 0 0 fl.length 1), I (i : Nat), I (k : Nat)] h (.agg [I (above x prev k).lo, I (above x prev k).hi]) h := fun h k hg hk =>
    Fn.reads (cs0 := [rws fL fl]) [0] (arriving_fn (f1 := f1) (hours := side.length) hx hpv hd (by omega) (by omega)) (by simp) (by simp [hg, rws_rn, fL_eq]) (by simp) (fun b hb cs hc => by simp at hb; subst hb; rw [hg] at hc; cases hc; exact hcl2) rfl
  have := Fn.ofR (P := Tryz.prog) (f := 121) (cs0 := [rws fL fl]) (cs1 := [rws fL fl]) (args := [stAV r f1 side.length (.sl 0 0 fl.length 1), I fl.length, .ro fu 2 (side.map fBd)]) (x := .ro false 2 ((flowOf x prev side).map fBd)) noM (by kernel_rfl) Tryz.func121 rfl (by simp) rfl (by simp [hcl]) ?_
  · exact this
  have w0 : IntKind.i64.wrap ((fl.length : Int) - 1) = (i : Int) := by rw [wrap_in (by omega) (by omega)]; omega
  have hpos : decide (0 < fl.length) = true := decide_eq_true (by omega)
  simp -dsimp -implicitDefEqProofs
  refine onCall_in (Fn.makes (bl := [rws fBd side]) (Clone_fn h1 h2) rfl (by simp [rws_all, fBd_eq]) _ rfl) ?_
  simp -dsimp -implicitDefEqProofs [hpos]
  refine LoopCR.on 34 (fun k => [(1, I fl.length), (2, .ro fu 2 (side.map fBd)), (3, .ptr 1 0), (7, .sl 2 0 side.length 2), (14, I side.length), (15, I (k : Nat))]) (fun k => [some (rws fL fl), some [r.reaches f1, r.shoals, I side.length, .sl 0 0 fl.length 1], some (rws fBd ((flowOf x prev side).take k ++ side.drop k))]) (fun k => k ≤ side.length) (fun k => side.length - k) 0 [0, 1, 2] (by simp) ?_ ?_
  · simp -dsimp -implicitDefEqProofs
  intro k j hk
  simp -dsimp -implicitDefEqProofs
  refine ifD_in (fun hlt => ?_) (fun hge => ?_)
  · have hlt' : k < side.length := by omega
    have hs := List.getElem?_eq_getElem hlt'
    have hsb := hbd _ (List.getElem_mem hlt')
    have hab := above_in (x := x) (prev := prev) hbs hbp k
    have hfe : (flowOf x prev side)[k]? = some ⟨side[k].lo + (above x prev k).lo, side[k].hi + (above x prev k).hi⟩ := by rw [flowOf, List.getElem?_mapIdx, hs]; rfl
    simp -dsimp -implicitDefEqProofs
    refine DrawR.on { M := [2], eff := [(14, [2])] } (by kernel_rfl) (by simp) ?_
    simp -dsimp -implicitDefEqProofs [hs, w0]
    refine onCallQ_in (hR _ k (by simp) hlt') ?_
    simp -dsimp -implicitDefEqProofs [hs, w0]
    refine onCallQ_in ((sum_fn (xs := [side[k], above x prev k]) (fu := true) (by simp) (by simp only [List.mem_cons, List.not_mem_nil, or_false]; rintro b (rfl | rfl) <;> omega)).beside rfl _) ?_
    simp -dsimp -implicitDefEqProofs
    rw [indexA_sl rfl hlt']
    have htot : total [side[k], above x prev k] = ⟨side[k].lo + (above x prev k).lo, side[k].hi + (above x prev k).hi⟩ := by simp [total]
    have hcl3 : ((flowOf x prev side).take k ++ side.drop k).length = side.length := by rw [List.length_append, List.length_take, flowOf_len, List.length_drop]; omega
    have hset : ((flowOf x prev side).take k ++ side.drop k).set k ⟨side[k].lo + (above x prev k).lo, side[k].hi + (above x prev k).hi⟩ = (flowOf x prev side).take (k + 1) ++ side.drop (k + 1) := by
      have hlk : ((flowOf x prev side).take k).length = k := by rw [List.length_take, flowOf_len]; omega
      rw [List.set_append_right _ _ (by omega), hlk, Nat.sub_self, List.drop_eq_getElem_cons hlt', List.set_cons_zero, List.take_add_one, hfe]
      simp
    rw [htot]
    simp -dsimp -implicitDefEqProofs [-storeA]
    refine on_store fBd ((flowOf x prev side).take k ++ side.drop k) k ⟨side[k].lo + (above x prev k).lo, side[k].hi + (above x prev k).hi⟩ (k := 2) (by simp) (by omega) rfl (by simp [fBd_eq]) (fun _ => rfl) rfl ?_
    rw [hset]
    simp -dsimp -implicitDefEqProofs
    refine again_in (k + 1) [0, 1, 2] (by omega) (by omega) ?_
    simp -dsimp -implicitDefEqProofs
    rw [wrap_in (by omega) (by omega)]
  · have hin : k = side.length := by omega
    subst hin
    have e : (flowOf x prev side).take side.length ++ side.drop side.length = flowOf x prev side := by
      rw [List.drop_length, List.append_nil]; exact List.take_of_length_le (by rw [flowOf_len]; omega)
    simp -dsimp -implicitDefEqProofs [e]
    exact ⟨2, frz_rows (rows := (flowOf x prev side).map fBd) (by
      have e2 : (List.map fBd (flowOf x prev side)).take side.length = List.map fBd (flowOf x prev side) := List.take_of_length_le (by rw [List.length_map, flowOf_len]; omega)
      simp [mkH, rws, e2]) (by omega) (by simp [flowOf_len]) (by simp [fBd_eq]) (rws_all (f := fBd) fun _ => rfl)⟩
end Go.Pe

/- Lists of a forecast: their lengths, their bounds. -/
namespace Go.Pe
open Go Go.Proofs Go.Proofs.YtffckclggkjbgaaGreat
attribute [local simp] ap_skip ap_region ap_seq ap_cond ap_block ap_loop ap_exit ap_ret ap_seq_normal ap_seq_ret ap_seq_exit ap_block_normal ap_block_ret ap_block_exit ap_block_other ap_nil ap_draw ap_dr_nil ap_fin_ret ap_fin_normal ap_loopK dstT_zero dstT_succ Nat.add_assoc onSome_some onSome_none ifB_true ifB_false ifB_not onClo_clo onBool_bool onBool_tup frz_val frz_ro takeAt elemTy LeN_refl LeN_push LeN_set push_get push_next set_get set_next nil_get nil_next pop_move pop_assign pop_pick pop_load pop_fieldAddr pop_indexAddr pop_field pop_binOp pop_unOp pop_convert pop_extract pop_makeFunc pop_nilCheck pop_build pop_slice pop_len pop_max pop_min eop_alloc eop_box eop_store eop_buildSlice eop_makeSlice eop_append as_move as_assign as_pick as_load as_fieldAddr as_indexAddr as_field as_binOp as_unOp as_convert as_extract as_makeFunc as_nilCheck as_build as_slice as_len as_max as_min as_alloc as_box as_store as_buildSlice as_makeSlice as_append as_call cons_free cons_guard putA_some putA_none aev_tmp aev_int aev_bool aev_nil aev_func pickA_and pickA_or pickA_true pickA_false nnA_ptr nnA_rop idxA_some intOf_int boxA_some bin_int binI_add binI_sub binI_mul binI_quo binI_rem binI_eql binI_neq binI_lss binI_leq binI_gtr binI_geq unA_not unA_neg loadA_ptr loadA_rop loadO_some asLoaded_agg asLoaded_one resA_one resA_two resOne_tmp resOne_cell cellsOf_int cellsOf_bool cellsOf_clo cellsOf_ptr cellsOf_ro cellsOf_sl cellsOf_nil cellsOf_agg one_int one_bool one_nil one_clo one_ptr one_ro one_sl one_rop mm_max mm_min elS_sl elS2_sl mkA_some chunk_zero chunk_succ zcells_zero zcells_succ clean_val clean_ro clean_rop clean1_val clean1_ro clean1_rop flat_val flat_ro flat_agg frz_agg frz_tup
attribute [local simp] t3 u3 t4 u4 t5 u5 t22 u22 t23 u23 t25 u25 t27 u27 t28 u28 t30 u30 t32 u32   t37 u37 t43 u43     t50 u50   t75 u75 t77 u77     t94 u94   t102 u102 t117 u117 t119 u119     t130 u130 t134 u134 t138 u138   t155 u155 t156 u156   t172 u172
attribute [local simp] lenA_ro indexA_ro fieldA
set_option maxRecDepth 20000

theorem same1_fn {l : List Bd} {n : Int} {h : H} {b : Nat} (hb : h.get b = some [I n]) : Fn Tryz.prog 157 [.ro false 2 (l.map fBd), .ptr b 0] h (B ((l.length : Int) == n)) h := by
  refine Fn.keep noM noC (by kernel_rfl) Tryz.func157 rfl rfl fun live => ?_
  simp -dsimp -implicitDefEqProofs [hb]
theorem fBd_inj (a b : Bd) (h : fBd a = fBd b) : a = b := by
  cases a; cases b; simp [fBd] at h; simp [h]
theorem sides2_fn {l : List Bd} {h : H} (hl : (l.length : Int) < 2^62) : Fn Tryz.prog 158 [.ro false 2 (l.map fBd)] h (B (l.all (vB 0 10000000000))) h := by
  have hE := every_bounds (f := 160) (caps := []) (h := h) (p := pOfR fBd (vB 0 10000000000)) (xs := l.map fBd) (fu := false) (by simpa using hl) (by simp [fBd_eq]) (by simp [fBd_eq, one_int]) (fun x hx => by
    obtain ⟨b, _, rfl⟩ := List.mem_map.1 hx
    rw [pOfR_eq fBd_inj]
    exact validSide_fn)
  rw [all_pOfR fBd_inj] at hE
  refine Fn.keep noM noC (by kernel_rfl) Tryz.func158 rfl rfl fun live => ?_
  simp -dsimp -implicitDefEqProofs
  refine onCall_in hE ?_
  simp -dsimp -implicitDefEqProofs
noncomputable def lAV (l : List Bd) : AV := .ro false 2 (l.map fBd)
theorem lAV_inj (a b : List Bd) (h : lAV a = lAV b) : a = b := by
  simp only [lAV, AV.ro.injEq, true_and] at h
  exact map_inj fBd_inj _ _ h
open Classical in
/-- A truth about a list, said of what stands for it. -/
noncomputable def pOfL (q : List Bd → Bool) (x : AV) : Bool := if h : ∃ a, lAV a = x then q h.choose else false
theorem pOfL_eq {q : List Bd → Bool} (a : List Bd) : pOfL q (lAV a) = q a := by
  have h : ∃ b, lAV b = lAV a := ⟨a, rfl⟩
  unfold pOfL
  rw [dif_pos h, lAV_inj _ _ h.choose_spec]
theorem lists_fn {sides : List (List Bd)} {f2 : Bool} {f : FuncId} {caps : List AV} {h : H} (q : List Bd → Bool) (hl : (sides.length : Int) < 2^62) (hF : ∀ l ∈ sides, Fn Tryz.prog f ([.ro false 2 (l.map fBd)] ++ caps) (h.push [.clo f caps]) (B (q l)) (h.push [.clo f caps])) : Fn Tryz.prog 156 [.ro f2 1 (sides.map fL), .clo f caps] h (B (sides.all q)) h := by
  have := every_lists (f := f) (caps := caps) (h := h) (p := pOfL q) (xs := sides.map lAV) (fu := f2) (by simpa using hl) (fun x hx => by
    obtain ⟨l, hl, rfl⟩ := List.mem_map.1 hx
    rw [pOfL_eq]
    exact hF l hl)
  have e1 : (sides.map lAV).map (fun x => [x]) = sides.map fL := by rw [List.map_map]; rfl
  have e2 : (sides.map lAV).all (pOfL q) = sides.all q := by
    rw [List.all_map]
    congr 1
    funext a
    exact pOfL_eq a
  rwa [e1, e2] at this
end Go.Pe

/- Forecasts: checked, and turned into a stream. -/
namespace Go.Pe
open Go Go.Proofs Go.Proofs.YtffckclggkjbgaaGreat
attribute [local simp] t3 u3 t4 u4 t5 u5 t22 u22 t23 u23 t25 u25 t27 u27 t28 u28 t30 u30 t32 u32   t37 u37 t43 u43     t50 u50   t75 u75 t77 u77     t94 u94   t102 u102 t117 u117 t119 u119     t130 u130 t134 u134 t138 u138   t155 u155 t156 u156   t172 u172
set_option maxRecDepth 20000
set_option maxHeartbeats 8000000
attribute [local simp] fW_eq fR_eq fS_eq extA fBd_eq fL_eq

def hrs (s : List (List Bd)) : Nat := (s.headD []).length
def lens (s : List (List Bd)) : Bool := s.all fun l => (l.length : Int) == hrs s
def oks (s : List (List Bd)) : Bool := s.all fun l => l.all (vB 0 10000000000)
noncomputable def startE (f : Fc) : Int := if validRv f.r = true then (if f.sides.length = f.r.rs.length then (if hrs f.sides = 0 then 4 else if lens f.sides = true then (if 400 < hrs f.sides then 5 else if oks f.sides = true then 0 else 2) else 4) else 4) else 2
theorem checkForecast_fn {f : Fc} {f1 f2 : Bool} {h : H} (hw : SmallF f) : Fn Tryz.prog 120 [f.r.av f1, sidesAV f.sides f2] h (I (startE f)) h := by
  refine Fn.beside ?_ rfl h
  refine Fn.ofR0 noM (by kernel_rfl) Tryz.func120 rfl (by simp) ?_
  have hn := hw.n
  have hrn := hw.r.n
  simp -dsimp -implicitDefEqProofs
  refine onCall_in (Check_fn hw.r) ?_
  cases hV : validRv f.r with
  | false => simp -dsimp -implicitDefEqProofs [startE, hV]
  | true =>
    simp -dsimp -implicitDefEqProofs
    by_cases h1 : f.sides.length = f.r.rs.length
    rotate_left
    · have n1 : ((f.sides.length : Int) != f.r.rs.length) = true := by simp; omega
      simp -dsimp -implicitDefEqProofs [startE, hV, h1, n1]
    have n1 : ((f.sides.length : Int) != f.r.rs.length) = false := by simp [h1]
    have hpos : 0 < f.sides.length := by
      have := hV
      simp only [validRv, Bool.and_eq_true, inB_iff] at this
      omega
    have hx0 := List.getElem?_eq_getElem hpos
    have hh : f.sides[0].length = hrs f.sides := by simp [hrs, List.headD_eq_head?_getD, List.head?_eq_getElem?, hx0]
    have hc0 := hw.c _ (List.getElem_mem hpos)
    simp -dsimp -implicitDefEqProofs [n1, hx0, hh]
    refine ifB_in (fun h2 => ?_) (fun h2 => ?_)
    · have h2' : hrs f.sides = 0 := by simpa using h2
      simp -dsimp -implicitDefEqProofs [startE, hV, h1, h2']
    have h2' : hrs f.sides ≠ 0 := by simpa using h2
    simp -dsimp -implicitDefEqProofs
    refine onCall_in (lists_fn (fun l => (l.length : Int) == hrs f.sides) (by omega) fun l hl => same1_fn (by simp)) ?_
    have hlens : (f.sides.all fun l => (l.length : Int) == hrs f.sides) = lens f.sides := rfl
    rw [hlens]
    simp -dsimp -implicitDefEqProofs
    refine ifB_in (fun h3 => ?_) (fun h3 => ?_)
    rotate_left
    · simp -dsimp -implicitDefEqProofs [startE, hV, h1, h2', h3]
    simp -dsimp -implicitDefEqProofs
    refine ifD_in (fun h4 => ?_) (fun h4 => ?_)
    · have h4' : 400 < hrs f.sides := by omega
      simp -dsimp -implicitDefEqProofs [startE, hV, h1, h2', h3, h4']
    have h4' : ¬ 400 < hrs f.sides := by omega
    simp -dsimp -implicitDefEqProofs
    refine onCall_in (lists_fn (fun l => l.all (vB 0 10000000000)) (by omega) fun l hl => sides2_fn (by have := hw.c l hl; omega)) ?_
    have hoks : (f.sides.all fun l => l.all (vB 0 10000000000)) = oks f.sides := rfl
    rw [hoks]
    simp -dsimp -implicitDefEqProofs
    refine ifB_in (fun h5 => ?_) (fun h5 => ?_)
    · simp -dsimp -implicitDefEqProofs [startE, hV, h1, h2', h3, h4', h5]
    · simp -dsimp -implicitDefEqProofs [startE, hV, h1, h2', h3, h4', h5]
end Go.Pe
