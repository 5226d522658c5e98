import Derived.Test.YtffckclggkjbgaaGreatY44
import Derived.Test.YtffckclggkjbgaaGreatY46
import Derived.Test.YtffckclggkjbgaaGreatY32
set_option linter.unusedVariables false
set_option linter.unusedSimpArgs false
/- Loads as own memory, read and copied. -/
namespace Go.Pe
open Go Go.Proofs Go.Proofs.YtffckclggkjbgaaGreat
set_option maxRecDepth 20000
set_option maxHeartbeats 8000000
attribute [local simp] t3 u3 t4 u4 t27 u27
attribute [local simp] ts5 us5 ts22 us22 ts24 us24 ts72 us72 ts118 us118 ts120 us120 ts25 us25 ts75 us75 ts150 us150 ts94 us94 ts95 us95 ts96 us96 ts98 us98 ts172 us172
attribute [local simp] convA extA lenA ixar fSec_eq fPt_eq smC_eq
/-- The load as own memory. -/
theorem load_own {x : Sm} {m : Nat} (hx : x.Ok) (hm : 1 ≤ m) (hm2 : m ≤ 4) : Fn Tryz.prog 46 [.agg (smC x), .agg [I (huM x m).a, .ro false 5 ((huM x m).ss.map fSec)]] .nil (.sl 0 0 (ldM x m).length 1) (mkH [some (rws (fun n => [I n]) (ldM x m))]) := by
  refine Fn.ofRx (bl0 := []) (bl := [some (rws (fun n => [I n]) (ldM x m))]) (butM []) (by kernel_rfl) Tryz.func46 rfl (by simp) ?_
  have hL := rowsM_len (x := x) hm
  refine Exists.elim (show ∃ D, D = ldM x m from ⟨_, rfl⟩) fun D hD => ?_
  have hDl : D.length = (rowsM x m).length := by rw [hD]; exact ldM_len
  refine Exists.elim (show ∃ u : Hu, u = huM x m from ⟨_, rfl⟩) fun u hu => ?_
  have hun : u.ss.length = (rowsM x m).length := by rw [hu]; simp [huM]
  rw [← hD, ← hu]
  simp -dsimp -implicitDefEqProofs
  refine LoopCR.on 36 (fun i => [(2, .ptr 0 0), (3, .ptr 1 0), (5, grow 2 1 i), (6, I (i : Nat))]) (fun i => [some (smC x), some [I u.a, .ro false 5 (u.ss.map fSec)], grown i (rws (fun n => [I n]) (D.take i))]) (fun i => i ≤ u.ss.length) (fun i => u.ss.length - i) 0 [0, 1, 99] (by simp) ?_ ?_
  · simp -dsimp -implicitDefEqProofs
  intro i j hi
  simp -dsimp -implicitDefEqProofs
  refine ifD_in (fun hlt => ?_) (fun hge => ?_)
  · have hir : i < (rowsM x m).length := by omega
    refine Exists.elim (show ∃ r, (rowsM x m)[i]? = some r from ⟨_, List.getElem?_eq_getElem hir⟩) fun r hr => ?_
    have hok := rowsM_ok hx r (List.mem_of_getElem? hr)
    have h2 := hok.h2
    have hs : u.ss[i]? = some (secOf r) := by rw [hu]; simp only [huM, List.getElem?_map, hr, Option.map_some]
    have hv := x.lv_in hx i
    have hd : D[i]? = some (x.lv i % (r.v2 % 6 + 1)) := by rw [hD]; exact ldM_at hr
    have hst : D.take (i + 1) = D.take i ++ [x.lv i % (r.v2 % 6 + 1)] := by rw [List.take_add_one, hd]; rfl
    have w1 : IntKind.i64.wrap ((i : Int) + 1) = (i : Int) + 1 := wrap_in (by omega) (by omega)
    have k1 : (i : Int).tmod 4 = (i : Int) := by rw [tm (by omega)]; omega
    have hi8 : 2 + i + 1 ≤ 8 := by omega
    have hi4 : (i : Int) < 4 := by omega
    have hi4' : i < 4 := by omega
    have hcell : List.take 1 (List.drop (2 + i) [U x.lot, .ro false 5 (x.rows.map fR5), U x.l0, U x.l1, U x.l2, U x.l3, U x.d0, U x.d1]) = [U (x.lv i)] := by
      match i, hi4' with
      | 0, _ => rfl
      | 1, _ => rfl
      | 2, _ => rfl
      | 3, _ => rfl
    have c1 : IntKind.i64.wrap (x.lv i) = x.lv i := wrap_in (by omega) (by omega)
    have c2 : IntKind.i64.wrap (r.v2 % 6 + 1) = r.v2 % 6 + 1 := wrap_in (by omega) (by omega)
    have c3 := tm (v := x.lv i) (n := r.v2 % 6 + 1) hv.1
    have hn0 : (r.v2 % 6 + 1 = 0) = False := eq_false (by omega)
    have hq : (secOf r).qs = [⟨r.v4 % 11, r.v2 % 6⟩] := rfl
    simp -dsimp -implicitDefEqProofs
    refine DrawR.on { M := [2], eff := [(19, [2])] } (by kernel_rfl) (by simp) ?_
    simp -dsimp -implicitDefEqProofs [k1, hi8, hi4, hi4', hcell, hs, hq, c1, c2, c3, hn0, -storeA]
    refine on_append (fun n : Int => [I n]) (D.take i) (x.lv i % (r.v2 % 6 + 1)) (by simp) (by rw [List.length_take]; omega) (show (i + 1) * 8 ≤ 70368744177664 by omega) (by omega) rfl rfl (by simp) rfl (fun _ => rfl) ?_ rfl
    simp -dsimp -implicitDefEqProofs [w1]
    refine again_in (i + 1) [0, 1, 22] (by omega) (by omega) ?_
    simp -dsimp -implicitDefEqProofs [hst]
  · have hin : i = D.length := by omega
    have ht : D.take D.length = D := List.take_length
    simp -dsimp -implicitDefEqProofs [hin, ht]
    have gp : grow 2 1 D.length = .sl 2 0 D.length 1 := by
      obtain ⟨q, hq⟩ : ∃ q, D.length = q + 1 := ⟨D.length - 1, by omega⟩
      rw [hq]; exact grow_succ
    have gn : grown D.length (rws (fun n => [I n]) D) = some (rws (fun n => [I n]) D) := by unfold grown; rw [if_neg (by omega)]
    refine ⟨[2], ?_⟩
    simp -dsimp -implicitDefEqProofs [gp, gn, -List.mapM_map, rws_rn (f := fun n : Int => [I n]) (l := D) (n := 3) (bs := [2]) fun _ => rfl]
    done
theorem append_dup {E : TI} {own : Bool} {h : H} {α : Type} {f : α → List AV} {l : List α} {b n k : Nat} (hb : h.get b = some (rws f l)) (hn : l.length = n) (hk : k = E.size) (h0 : 0 < E.size) (hz : E.zero.length = E.size) (hf : ∀ a, (f a).length = k) (hc : ∀ a, ((f a).all fun x => clean1 x && one x) = true) (hpos : n ≠ 0)
    (hb1 : n * E.bytes ≤ 70368744177664) (hb2 : n ≤ 70368744177664) : appendA E own h (.ro true k []) (.sl b 0 n k) = some (.sl h.next 0 n k, h.push (rws f l)) := by
  subst hk
  have hall : ((rws f l).all fun x => clean1 x && one x) = true := rws_all hc
  have hlen := rws_len (f := f) hf (l := l)
  have ht : takeAt (rws f l) 0 (n * E.size) = some (rws f l) := by
    unfold takeAt
    rw [if_pos (by rw [hlen, hn]; omega), List.drop_zero, List.take_of_length_le (by rw [hlen, hn]; exact Nat.le_refl _)]
  have hck : chunk E.size n (rws f l) = l.map f := by
    have := chunk_rows (k := E.size) (rows := l.map f) (fun r hr => by obtain ⟨a, _, rfl⟩ := List.mem_map.1 hr; exact hf a)
    rw [List.length_map, hn] at this
    exact this
  have hr : rowsH E.size h (.sl b 0 n E.size) = some (l.map f) := by
    show ownRows E.size h b 0 n E.size = _
    unfold ownRows
    rw [if_pos rfl, hb]
    simp only [ht]
    rw [if_pos hall, hck]
  have hm : (l.map f).length = n := by simp [hn]
  unfold appendA
  show appendX E h (.ro true E.size []) (.sl b 0 n E.size) = _
  unfold appendX
  rw [hr]
  simp only
  rw [if_pos ⟨h0, hz⟩, if_pos ⟨trivial, by simpa [hm] using hb1, by simpa [hm] using hb2⟩, if_neg (by rw [hm]; exact hpos)]
  simp [hn, rws]
/-- What is read of own memory is copied. -/
theorem numbers_own {l : List Int} (hl : (l.length : Int) ≤ 1000) (h0 : l.length ≠ 0) : Fn Tryz.prog 18 [.sl 0 0 l.length 1] (mkH ([rws (fun n => [I n]) l].map some)) (.ro false 1 (l.map fun n => [I n])) (mkH ([rws (fun n => [I n]) l].map some)) := by
  refine Fn.ofR (cs0 := [rws (fun n => [I n]) l]) (cs1 := [rws (fun n => [I n]) l]) noM (by kernel_rfl) Tryz.func18 rfl (by simp) rfl (by simp [rws_all]) ?_
  have hb1 : l.length * 8 ≤ 70368744177664 := by omega
  have hb2 : l.length ≤ 70368744177664 := by omega
  have ha := fun (E : TI) (own : Bool) (hk : 1 = E.size) (hz : E.zero.length = E.size) (hbt : E.bytes = 8) => append_dup (E := E) (own := own) (h := mkH [some (rws (fun n : Int => [I n]) l)]) (f := fun n : Int => [I n]) (l := l) (b := 0) (n := l.length) (k := 1) rfl rfl hk (by omega) hz (fun _ => rfl) (fun _ => rfl) h0 (by rw [hbt]; exact hb1) hb2
  simp -dsimp -implicitDefEqProofs [ha]
  exact ⟨2, frz_rows (rows := l.map fun n => [I n]) (k := 1) (n := l.length) (by simp [mkH, H.push, rws]) (by omega) (by simp) (fun r hr => by obtain ⟨a, _, rfl⟩ := List.mem_map.1 hr; rfl) (rws_all (f := fun n : Int => [I n]) (fun _ => rfl))⟩
end Go.Pe

/- Drafts at which a hull just displaces what it must. -/
namespace Go.Pe
open Go Go.Proofs Go.Proofs.YtffckclggkjbgaaGreat
set_option maxRecDepth 20000
set_option maxHeartbeats 8000000
/-- A call that makes one block, in an open order. -/
theorem onCallE_makes1 {P : Program} {g : Nat} {args : List AV} {h : H} {N : Nat} {x y : AV} {cells : List AV} {K : AV → H → Prop} {t : Tag K} (h0 : Fn P g args .nil x (mkH [some cells])) (hc : args.all cleanD = true) (hcl : cells.all clean = true) (hx : sft N 4 x = some y) (hl : ∀ b, h.lp b = none) (hK : K y (h.set N cells)) : onCallE P g args h N K t := by
  refine onCallE_new (FnM.makes1 h0 hc hcl h N hx) (fun b hb => ?_) hl hK
  by_cases hbN : b = N
  · exact .inr hbN
  · left; simp only [H.set]; rw [if_neg hbN]; exact hb
/-- What is read of own memory is copied, wherever it lies. -/
theorem numbersH {l : List Int} {h : H} {b : Nat} (hl : (l.length : Int) ≤ 1000) (h0 : l.length ≠ 0) (hb : h.get b = some (rws (fun n => [I n]) l)) : Fn Tryz.prog 18 [.sl b 0 l.length 1] h (.ro false 1 (l.map fun n => [I n])) h := by
  refine Fn.reads [b] (cs0 := [rws (fun n => [I n]) l]) (numbers_own hl h0) (by simp) ?_ ?_ ?_ rfl
  · exact ⟨⟨_, hb, rws_rn (f := fun n : Int => [I n]) fun _ => rfl⟩, trivial⟩
  · simp [rn, rnI]
  · intro b' hb' cs hcs
    simp only [List.mem_cons, List.not_mem_nil, or_false] at hb'
    rw [hb', hb] at hcs; cases hcs
    exact rws_all (f := fun n : Int => [I n]) (q := clean) fun _ => rfl
/-- An element of an array that is no variable. -/
noncomputable def ixV (T E : TI) (x : AV) (i : Option Int) : Option AV := match T.kind, x, i with
  | .ar n _, .agg cs, some i => if 0 ≤ i ∧ i < n then partA E cs (i.toNat * E.size) else none
  | _, _, _ => none
theorem q_index {P : Program} {d : Option Nat} {ty : TypeId} {p : String} {af : Array Edge} {g : Option (Nat × Bool)} {h : H} {K : AV → Prop} {ρ : List AV} {t : TypeId} {x i : Operand} {t1 : Tag (Oper.mk d (.index t x i) ty p af g)} {t2 : Tag K} : apQ P (Oper.mk d (.index t x i) ty p af g) h K t1 t2 ρ = onSome (tyInt P t fun T => tyInt P (elemTy T.kind) fun E => ixV T E (aev ρ x) (intOf? (aev ρ i))) K .mk := rfl
theorem ixV_ar {n : Nat} {e : TypeId} {s by' : Nat} {z : List Value} {a f c : Bool} {E : TI} {cs : List AV} {i : Int} : ixV { kind := .ar n e, size := s, zero := z, agg := a, bytes := by', fok := f, cmp := c } E (.agg cs) (some i) = if 0 ≤ i ∧ i < n then partA E cs (i.toNat * E.size) else none := rfl
theorem eq39z {k : TK} {s : Nat} {z : List Value} {a1 f : Bool} {by' : Nat} : binX Tryz.prog 39 { kind := k, size := s, zero := z, agg := a1, bytes := by', fok := f, cmp := true } .eql (.agg [I 0, I 0, I 0, I 0, I 0]) (.agg [I 0, I 0, I 0, I 0, I 0]) = some (B true) := by kernel_rfl
theorem rws1_at {l : List Int} {i : Nat} {v : Int} (h : l[i]? = some v) : i + 1 ≤ (rws (fun n : Int => [I n]) l).length ∧ List.take 1 (List.drop i (rws (fun n : Int => [I n]) l)) = [I v] := by
  have hl := rws_len (f := fun n : Int => [I n]) (k := 1) (fun _ => rfl) (l := l)
  have ha := rws_at (f := fun n : Int => [I n]) (k := 1) (fun _ => rfl) h
  have hi := (List.getElem?_eq_some_iff.1 h).1
  rw [Nat.mul_one] at ha
  exact ⟨by omega, ha⟩
theorem rws1_set {l : List Int} {i : Nat} {v w : Int} (h : l[i]? = some v) : List.take i (rws (fun n : Int => [I n]) l) ++ [I w] ++ List.drop (i + 1) (rws (fun n : Int => [I n]) l) = rws (fun n : Int => [I n]) (l.set i w) := by
  have key : ∀ l : List Int, rws (fun n : Int => [I n]) l = l.map fun n => I n := fun l => by
    induction l with
    | nil => rfl
    | cons a l ih => simp only [rws, List.map_cons, List.flatten_cons] at ih ⊢; rw [ih]; rfl
  have hi := (List.getElem?_eq_some_iff.1 h).1
  rw [key, key, List.map_set, List.set_eq_take_append_cons_drop, if_pos (by simpa using hi), List.append_assoc]
  rfl
/-- What hulls weigh, section by section. -/
def msI (u : Hu) (l : List Int) : Nat → Int
  | 0 => 0
  | i + 1 => match u.ss[i]? with
    | some s => msI u l i + (s.b + ld l i * u.a)
    | none => msI u l i
theorem msI_succ {u : Hu} {l : List Int} {i : Nat} {s : Sec} (h : u.ss[i]? = some s) : msI u l (i + 1) = msI u l i + (s.b + ld l i * u.a) := by simp [msI, h]
theorem msI_sum {u : Hu} {l : List Int} : ∀ i, i ≤ u.ss.length → msI u l i = sumI Sec.b u.ss i + accN 0 (fun i => u.a * ld l i) i
  | 0, _ => by simp [msI, sumI, accN]
  | i + 1, h => by
    obtain ⟨s, hs⟩ : ∃ s, u.ss[i]? = some s := ⟨_, List.getElem?_eq_getElem (by omega)⟩
    have ih := msI_sum (u := u) (l := l) i (by omega)
    rw [msI_succ hs, sumI_succ hs, accN, ih, Int.mul_comm (ld l i) u.a]
    omega
theorem accN_base {b : Int} {g : Nat → Int} : ∀ n, accN b g n = b + accN 0 g n
  | 0 => by simp [accN]
  | n + 1 => by rw [accN, accN, accN_base n]; omega
theorem msI_mass {u : Hu} {l : List Int} (h : l.length = u.ss.length) : msI u l u.ss.length = mass u l l.length := by
  have e := accN_base (b := sumI Sec.b u.ss u.ss.length) (g := fun i => u.a * ld l i) u.ss.length
  rw [msI_sum _ (Nat.le_refl _), mass, h, e]
theorem msI_in {u : Hu} {l : List Int} (o : OkU u) (k : OkL u l) : ∀ i, i ≤ u.ss.length → 0 ≤ msI u l i ∧ msI u l i ≤ 30000 * i
  | 0, _ => by simp [msI]
  | i + 1, h => by
    obtain ⟨s, hs⟩ : ∃ s, u.ss[i]? = some s := ⟨_, List.getElem?_eq_getElem (by omega)⟩
    have ih := msI_in o k i (by omega)
    have h1 := (o.sec s (List.mem_of_getElem? hs)).2.1
    have h2 := lot_in o k i
    rw [msI_succ hs, Int.mul_comm (ld l i) u.a]
    omega
/-- At the mean draft a hull displaces what it must, and at a centimeter less it does not. -/
theorem mean_at {u : Hu} {l : List Int} {n : Int} (o : OkU u) (hm : 0 ≤ mass u l l.length) (hn : 0 < n) (hz : mZ u l n ≤ lim u) :
    0 ≤ mZ u l n ∧ mass u l l.length * 1000 ≤ vol u (mZ u l n) * n ∧ (0 < mZ u l n → vol u (mZ u l n - 1) * n < mass u l l.length * 1000 ∧ vol u (mZ u l n - 1) ≤ vol u (mZ u l n)) := by
  have hl := lim_in o
  obtain ⟨k, hk⟩ : ∃ k, k = meanZ u (cdiv (mass u l l.length * 1000) n) := ⟨_, rfl⟩
  have hz' : mZ u l n = (k : Int) := by rw [hk]; rfl
  rw [hz'] at hz ⊢
  have hf := firstN_is (P := fun d => decide (cdiv (mass u l l.length * 1000) n ≤ vol u d)) (n := (lim u).toNat + 1)
  have h1 : decide (cdiv (mass u l l.length * 1000) n ≤ vol u k) = true := by
    rw [hk]; exact hf.hit (by show meanZ u _ < _; rw [← hk]; omega)
  refine ⟨by omega, (cdiv_le hn).1 (of_decide_eq_true h1), fun hp => ?_⟩
  obtain ⟨j, hj⟩ : ∃ j : Nat, k = j + 1 := ⟨k - 1, by omega⟩
  have hj' : (k : Int) - 1 = (j : Int) := by omega
  rw [hj']
  have h2 : decide (cdiv (mass u l l.length * 1000) n ≤ vol u j) = false := hf.no j (by show j < meanZ u _; rw [← hk]; omega)
  have h3 := of_decide_eq_false h2
  refine ⟨?_, vol_mono o (by omega) (by omega) (by omega)⟩
  rcases Int.lt_or_le (vol u j * n) (mass u l l.length * 1000) with h4 | h4
  · exact h4
  · exact absurd ((cdiv_le hn).2 h4) h3
theorem trm_zero {u : Hu} {l : List Int} (o : OkU u) (k : OkL u l) : (trm u l = 0 ↔ sgn (mom u l) = 0) := by
  have h2 := trU_in o
  have hle := cdiv_le (n := max (mom u l) (-mom u l)) (d := 4 * trU u) (q := 0) (by omega)
  have hin := (trm_in o k).1
  unfold trm at hin ⊢
  unfold sgn
  constructor
  · intro h
    have := hle.1 (by omega)
    rw [if_neg (by omega), if_neg (by omega)]
  · intro h
    have h0 : mom u l = 0 := by
      split at h
      · omega
      · split at h <;> omega
    have := hle.2 (by omega)
    omega
/-- With a lot more a hull weighs more. -/
theorem mass_set {u : Hu} {l : List Int} {k : Nat} {v : Int} (o : OkU u) (hk : l[k]? = some v) : mass u l l.length ≤ mass u (l.set k (v + 1)) (l.set k (v + 1)).length := by
  have ha := o.lot
  have key : ∀ n, accN (sumI Sec.b u.ss u.ss.length) (fun i => u.a * ld l i) n ≤ accN (sumI Sec.b u.ss u.ss.length) (fun i => u.a * ld (l.set k (v + 1)) i) n := by
    intro n
    induction n with
    | zero => exact Int.le_refl _
    | succ n ih =>
      rw [accN, accN]
      have h1 : ld l n ≤ ld (l.set k (v + 1)) n := by
        unfold ld
        by_cases hkn : k = n
        · subst hkn
          rw [List.getElem?_set_self (List.getElem?_eq_some_iff.1 hk).1, hk]; simp; omega
        · rw [List.getElem?_set_ne hkn]; exact Int.le_refl _
      have := Int.mul_le_mul_of_nonneg_left h1 (show (0 : Int) ≤ u.a by omega)
      omega
  rw [List.length_set]
  exact key _
theorem OkL_set {u : Hu} {l : List Int} {k : Nat} {v : Int} {p : Pt} (hk : OkL u l) (hv : l[k]? = some v) (hp : (hsU u)[k]? = some p) (hlt : v < p.y) : OkL u (l.set k (v + 1)) := by
  refine ⟨by rw [List.length_set]; exact hk.len, fun i n q hi hq => ?_⟩
  by_cases hik : k = i
  · subst hik
    rw [List.getElem?_set_self (List.getElem?_eq_some_iff.1 hv).1] at hi
    cases hi
    rw [hp] at hq; cases hq
    have := (hk.lots k v p hv hp).1
    omega
  · rw [List.getElem?_set_ne hik] at hi
    exact hk.lots i n q hi hq
theorem mZ_more {u : Hu} {l l' : List Int} {d : Int} (hd : 0 < d) (h : mass u l l.length ≤ mass u l' l'.length) : mZ u l d ≤ mZ u l' d := by
  unfold mZ
  exact Int.ofNat_le.2 (meanZ_mono (cdiv_mono hd (by omega)))
theorem flt_ok8 {u : Hu} {l : List Int} {b : Bd} (h1 : hullOk u = true) (h2 : OkL u l) (h3 : vB 900 1100 b = true) : fltE u l b = 0 ∨ fltE u l b = 8 := by
  have h4 : loadE u l = 0 := by
    unfold loadE
    rw [if_neg (by have := h2.1; omega), if_neg]
    rw [lotsOk_iff.2 h2.2]; simp
  unfold fltE
  rw [if_neg (by simp [h1]), if_neg (by simp [h4]), if_neg (by simp [h3])]
  split
  · exact .inl rfl
  · exact .inr rfl
theorem flt_zero {u : Hu} {l : List Int} {b : Bd} (h1 : hullOk u = true) (h2 : OkL u l) (h3 : vB 900 1100 b = true) (h : mZ u l b.lo + trm u l ≤ lim u) : fltE u l b = 0 := by
  have h4 : loadE u l = 0 := by
    unfold loadE
    rw [if_neg (by have := h2.1; omega), if_neg]
    rw [lotsOk_iff.2 h2.2]; simp
  unfold fltE
  rw [if_neg (by simp [h1]), if_neg (by simp [h4]), if_neg (by simp [h3]), if_pos h]
end Go.Pe
