import Derived.Test.YtffckclggkjbgaaGreatY34
import Derived.Test.YtffckclggkjbgaaGreatY12
import Derived.Test.YtffckclggkjbgaaGreatY09
import Derived.Test.YtffckclggkjbgaaGreatRows
set_option linter.unusedVariables false
set_option linter.unusedSimpArgs false
/- Room for sections. -/
namespace Go.Pe
open Go Go.Proofs Go.Proofs.YtffckclggkjbgaaGreat
set_option maxRecDepth 20000
set_option maxHeartbeats 8000000
attribute [local simp] t3 u3 t4 u4
attribute [local simp] ts22 us22 ts24 us24 ts72 us72 ts75 us75 ts118 us118 ts120 us120 ts150 us150
attribute [local simp] convA extA lenA ixar
section
variable {P : Program} {md : Oper → Bool} {ρ : List AV} {h : H} {d : Option Nat} {ty : TypeId} {p : String} {af : Array Edge} {g : Option (Nat × Bool)} {K : List AV → H → Prop}
theorem pop_cap {t : TypeId} {x : Operand} : pop P (Oper.mk d (.call { callee := .builtin .cap, args := #[x], argTypes := #[t] }) ty p af g) ρ h = tyInt P t fun T => capA T (aev ρ x) := by first | rfl | (simp [pop]; rfl) | simp [pop]
theorem as_cap {t : TypeId} {x : Operand} {t' : Tag (stepA P md (Oper.mk d (.call { callee := .builtin .cap, args := #[x], argTypes := #[t] }) ty p af g) K)} : ap (stepA P md (Oper.mk d (.call { callee := .builtin .cap, args := #[x], argTypes := #[t] }) ty p af g) K) t' ρ h = onSome (tyInt P t fun T => capA T (aev ρ x)) (fun v => ap K .mk (putA ρ d v) h) .mk := by rw [ap_step]; exact on_pure pop_cap (by first | rfl | simp [eop])
theorem elS2_int {e : TypeId} {kk : IntKind} {s by' s2 by2 : Nat} {z z2 : List Value} {a f' a2 f2 cm c2 : Bool} {f g : TI → Option (AV × H)} : elS2 P { kind := .sl e, size := s, zero := z, agg := a, bytes := by', fok := f', cmp := cm } { kind := .int kk, size := s2, zero := z2, agg := a2, bytes := by2, fok := f2, cmp := c2 } f g = tyInt2 P e g := rfl
end
attribute [local simp] as_cap elS2_int capA sliceA boundA intOf? zeroApp
theorem grow_fn {n : Nat} (h1 : 1 ≤ n) (h2 : n ≤ 20) : Fn Tryz.prog 128 [.val (.slice none 0 0), I (n : Nat)] .nil (.sl 0 0 0 5) (mkH [some (zcells n [.int .i64 0, .int .i64 0, .int .i64 0, .slice none 0 0, .slice none 0 0])]) := by
  refine Fn.ofRx (bl0 := []) (bl := [some (zcells n [.int .i64 0, .int .i64 0, .int .i64 0, .slice none 0 0, .slice none 0 0])]) (butM []) (by kernel_rfl) Tryz.func128 rfl (by simp) ?_
  have d1 : decide ((n : Int) < 0) = false := decide_eq_false (by omega)
  have d2 : decide (0 < (n : Int)) = true := decide_eq_true (by omega)
  have d2' : decide (0 < n) = true := decide_eq_true (by omega)
  have w0 : IntKind.i64.wrap 0 = 0 := rfl
  have w1 : IntKind.i64.wrap (n : Int) = n := wrap_in (by omega) (by omega)
  have hb1 : n * 72 ≤ 70368744177664 := by omega
  have hb2 : n ≤ 70368744177664 := by omega
  have hz : (n = 0) = False := eq_false (by omega)
  simp -dsimp -implicitDefEqProofs [d1, d2, d2', w0, w1, hb1, hb2, hz]
  refine ⟨[0], ?_⟩
  have hcl : (zcells n [.int .i64 0, .int .i64 0, .int .i64 0, .slice none 0 0, .slice none 0 0]).mapM (rn [0] 4) = some (zcells n [.int .i64 0, .int .i64 0, .int .i64 0, .slice none 0 0, .slice none 0 0]) := by
    refine rnL_clean (List.all_eq_true.2 fun x hx => ?_)
    unfold zcells at hx
    obtain ⟨r, h1, h2⟩ := List.mem_flatten.1 hx
    have := List.eq_of_mem_replicate h1
    subst this
    simp at h2
    rcases h2 with rfl | rfl <;> rfl
  simp -dsimp -implicitDefEqProofs [hcl]
  done
end Go.Pe

/- What the types of the program are. -/
namespace Go.Pe
open Go Go.Proofs Go.Proofs.YtffckclggkjbgaaGreat
theorem tsi187 : ti Tryz.prog 187 = some { kind := TK.sl 24, size := 1, zero := [Value.slice none 0 0], agg := false, bytes := 24, fok := true, cmp := true } := by kernel_rfl
theorem ts187 {f : TI → Option AV} : tyInt Tryz.prog 187 f = f { kind := TK.sl 24, size := 1, zero := [Value.slice none 0 0], agg := false, bytes := 24, fok := true, cmp := true } := tyInt_of tsi187
theorem us187 {f : TI → Option (AV × H)} : tyInt2 Tryz.prog 187 f = f { kind := TK.sl 24, size := 1, zero := [Value.slice none 0 0], agg := false, bytes := 24, fok := true, cmp := true } := tyInt2_of tsi187
theorem tsi216 : ti Tryz.prog 216 = some { kind := TK.sl 22, size := 1, zero := [Value.slice none 0 0], agg := false, bytes := 24, fok := true, cmp := true } := by kernel_rfl
theorem ts216 {f : TI → Option AV} : tyInt Tryz.prog 216 f = f { kind := TK.sl 22, size := 1, zero := [Value.slice none 0 0], agg := false, bytes := 24, fok := true, cmp := true } := tyInt_of tsi216
theorem us216 {f : TI → Option (AV × H)} : tyInt2 Tryz.prog 216 f = f { kind := TK.sl 22, size := 1, zero := [Value.slice none 0 0], agg := false, bytes := 24, fok := true, cmp := true } := tyInt2_of tsi216
end Go.Pe

/- Sections, one list after another. -/
namespace Go.Pe
open Go Go.Proofs Go.Proofs.YtffckclggkjbgaaGreat
set_option maxRecDepth 20000
set_option maxHeartbeats 8000000
theorem indexA_fst {T E : TI} {e : TypeId} {f : Bool} {k : Nat} {xs : List (List AV)} (hk : T.kind = .sl e) (hE : k = E.size) : indexA T E (.ro f k xs) 1 = (xs[1]?).map AV.rop := indexA_ro (n := 1) hk hE
attribute [local simp] t3 u3 t4 u4
attribute [local simp] ts22 us22 ts24 us24 ts72 us72 ts75 us75 ts118 us118 ts120 us120 ts150 us150 ts216 us216
attribute [local simp] convA extA lenA ixar as_cap elS2_int capA indexA_fst
theorem sec_clean {s : Sec} : ((fSec s).all fun x => clean1 x && one x) = true := rfl
/-- Rows that are appended to own memory, which may reach beyond. -/
theorem append_cut {E : TI} {h : H} {α : Type} {f : α → List AV} {A B : List α} {b n k : Nat} {g : Bool} {cs : List AV} (hb : h.get b = some cs) (hn : A.length = n) (hcs : cs.take (n * k) = rws f A) (hle : n * k ≤ cs.length) (hk : k = E.size) (h0 : 0 < E.size) (hz : E.zero.length = E.size)
    (hb1 : (n + B.length) * E.bytes ≤ 70368744177664) (hb2 : n + B.length ≤ 70368744177664) :
    appendA E true h (.sl b 0 n k) (.ro g k (B.map f)) = some (.sl h.next 0 (n + B.length) k, { next := h.next + 1, get := fun q => if q = h.next then some (rws f (A ++ B)) else if q = b then none else h.get q, lp := h.lp }) := by
  subst hk
  have e1 : rws f A ++ (B.map f).flatten = rws f (A ++ B) := by simp [rws]
  unfold appendA
  have hr : rowsA E.size (.ro g E.size (B.map f)) = some (g, B.map f) := by simp [rowsA]
  rw [hr]
  simp only
  rw [if_pos ⟨h0, hz⟩]
  simp only [hb]
  by_cases hl : cs.length = n * E.size
  · rw [if_pos ⟨trivial, trivial, hl, by simpa using hb1, by simpa using hb2⟩, if_pos trivial]
    have : cs = rws f A := by rw [← hcs, List.take_of_length_le (by omega)]
    rw [this, e1, List.length_map]
  · rw [if_neg (by intro h; exact hl h.2.2.1)]
    unfold appendX
    have hr2 : rowsH E.size h (.ro g E.size (B.map f)) = some (B.map f) := by simp [rowsH, rowsA]
    rw [hr2]
    simp only
    rw [if_pos ⟨h0, hz⟩]
    simp only [hb]
    rw [if_pos ⟨trivial, trivial, hle, by simpa using hb1, by simpa using hb2⟩, hcs, e1, List.length_map]
theorem on_append_cut {E : TI} {own : Bool} {α : Type} {h : H} {b n k : Nat} {g : Bool} {xs : List (List AV)} {cs : List AV} {K : AV × H → Prop} {t : Tag K} (f : α → List AV) (A B : List α) (hb : h.get b = some cs) (hn : A.length = n) (hcs : cs.take (n * k) = rws f A) (hle : n * k ≤ cs.length) (hx : xs = B.map f) (hk : k = E.size) (h0 : 0 < E.size) (hz : E.zero.length = E.size)
    (hb1 : (n + B.length) * E.bytes ≤ 70368744177664) (hb2 : n + B.length ≤ 70368744177664) (hv : K (.sl h.next 0 (n + B.length) k, { next := h.next + 1, get := fun q => if q = h.next then some (rws f (A ++ B)) else if q = b then none else h.get q, lp := h.lp })) (hown : own = true) : onSome (appendA E own h (.sl b 0 n k) (.ro g k xs)) K t := by
  subst hown
  subst hx
  rw [append_cut hb hn hcs hle hk h0 hz hb1 hb2]
  exact hv
theorem concat_fn {A B : List Sec} {f1 f2 : Bool} {h : H} (h1 : 1 ≤ A.length + B.length) (h2 : A.length + B.length ≤ 20) : Fn Tryz.prog 90 [.ro true 1 [[.ro f1 5 (A.map fSec)], [.ro f2 5 (B.map fSec)]]] h (.ro false 5 ((A ++ B).map fSec)) h := by
  refine Fn.beside ?_ rfl h
  refine Fn.ofR0 (butM []) (by kernel_rfl) Tryz.func90 rfl (by simp) ?_
  refine Exists.elim (show ∃ X : AV, X = .ro true 1 [[.ro f1 5 (A.map fSec)], [.ro f2 5 (B.map fSec)]] from ⟨_, rfl⟩) fun X hX => ?_
  have w0 : IntKind.i64.wrap 0 = 0 := rfl
  have w1 : IntKind.i64.wrap 1 = 1 := rfl
  have w2 : IntKind.i64.wrap 2 = 2 := rfl
  have wA : IntKind.i64.wrap (A.length : Int) = A.length := wrap_in (by omega) (by omega)
  have wB : IntKind.i64.wrap ((A.length : Int) + B.length) = (A.length : Int) + B.length := wrap_in (by omega) (by omega)
  have dA : decide ((A.length : Int) < 0) = false := decide_eq_false (by omega)
  have dB : decide ((A.length : Int) + B.length < 0) = false := decide_eq_false (by omega)
  simp -dsimp -implicitDefEqProofs
  refine LoopCR.on 36 (fun i => [(0, .ro true 1 [[.ro f1 5 (A.map fSec)], [.ro f2 5 (B.map fSec)]]), (3, I (if i = 0 then 0 else if i = 1 then (A.length : Int) else (A.length : Int) + B.length)), (9, .ro true 1 [[.ro f1 5 (A.map fSec)], [.ro f2 5 (B.map fSec)]]), (10, I 2), (11, I (i : Nat))]) (fun _ => []) (fun i => i ≤ 2) (fun i => 2 - i) 0 [] (by simp) ?_ ?_
  · simp -dsimp -implicitDefEqProofs
    done
  intro i j hi
  refine (show i = 0 ∨ i = 1 ∨ i = 2 by omega).elim (fun hi0 => ?_) (fun hi12 => hi12.elim (fun hi1 => ?_) (fun hi2 => ?_))
  · simp -dsimp -implicitDefEqProofs [hi0, wA, dA, w1]
    refine again_in 1 [] (by omega) (by omega) ?_
    simp -dsimp -implicitDefEqProofs [hi0]
    done
  · simp -dsimp -implicitDefEqProofs [hi1, wB, dB, w2, w1]
    refine again_in 2 [] (by omega) (by omega) ?_
    simp -dsimp -implicitDefEqProofs [hi1]
    done
  simp -dsimp -implicitDefEqProofs [hi2]
  refine Exists.elim (show ∃ Z, Z = zcells (A.length + B.length) [.int .i64 0, .int .i64 0, .int .i64 0, .slice none 0 0, .slice none 0 0] from ⟨_, rfl⟩) fun Z hZ => ?_
  have cG := grow_fn (n := A.length + B.length) h1 (by omega)
  rw [← hZ, show ((A.length + B.length : Nat) : Int) = (A.length : Int) + B.length by simp] at cG
  have hZc : Z.all clean = true := by
    rw [hZ]
    refine List.all_eq_true.2 fun x hx => ?_
    unfold zcells at hx
    obtain ⟨r, h1, h2⟩ := List.mem_flatten.1 hx
    have := List.eq_of_mem_replicate h1
    subst this
    simp at h2
    rcases h2 with rfl | rfl <;> rfl
  refine onCall_in (Fn.makes (bl := [Z]) cG rfl (by simp [hZc]) _ rfl) ?_
  simp -dsimp -implicitDefEqProofs
  have hZr : ∀ bs : List Nat, Z.mapM (rn bs 4) = some Z := fun bs => rnL_clean (List.all_eq_true.2 fun x hx => by
    rw [hZ] at hx
    unfold zcells at hx
    obtain ⟨r, h1, h2⟩ := List.mem_flatten.1 hx
    have := List.eq_of_mem_replicate h1
    subst this
    simp at h2
    rcases h2 with rfl | rfl <;> rfl)
  have rA : ∀ (l : List Sec) (bs : List Nat), (rws fSec l).mapM (rn bs 4) = some (rws fSec l) := fun l bs => rws_rn (f := fSec) (l := l) (n := 3) (bs := bs) fun _ => rfl
  refine LoopCR.on 36 (fun i => [(0, .ro true 1 [[.ro f1 5 (A.map fSec)], [.ro f2 5 (B.map fSec)]]), (6, .sl 0 0 (if i = 0 then 0 else if i = 1 then A.length else A.length + B.length) 5), (25, .ro true 1 [[.ro f1 5 (A.map fSec)], [.ro f2 5 (B.map fSec)]]), (26, I 2), (27, I (i : Nat))]) (fun i => [some (if i = 0 then Z else if i = 1 then rws fSec A else rws fSec (A ++ B))]) (fun i => i ≤ 2) (fun i => 2 - i) 0 [0] (by simp) ?_ ?_
  · simp -dsimp -implicitDefEqProofs [hZr]
    done
  intro i j hi
  refine (show i = 0 ∨ i = 1 ∨ i = 2 by omega).elim (fun hi0 => ?_) (fun hi12 => hi12.elim (fun hi1 => ?_) (fun hi2 => ?_))
  · simp -dsimp -implicitDefEqProofs [hi0, w1]
    refine on_append_cut (cs := Z) (n := 0) fSec [] A (by simp) rfl (by simp [rws]) (by simp) rfl rfl (by simp) rfl (by simp; omega) (by omega) ?_ rfl
    simp -dsimp -implicitDefEqProofs [w1]
    refine again_in 1 [1] (by omega) (by omega) ?_
    simp -dsimp -implicitDefEqProofs [rA]
    done
  · simp -dsimp -implicitDefEqProofs [hi1, w2, w1]
    refine on_append_cut (cs := rws fSec A) (n := A.length) fSec A B (by simp) rfl (List.take_of_length_le (by rw [rws_len (f := fSec) (k := 5) fun _ => rfl]; exact Nat.le_refl _)) (by rw [rws_len (f := fSec) (k := 5) fun _ => rfl]; exact Nat.le_refl _) rfl rfl (by simp) rfl (by simp; omega) (by omega) ?_ rfl
    simp -dsimp -implicitDefEqProofs [w1, w2]
    refine again_in 2 [1] (by omega) (by omega) ?_
    simp -dsimp -implicitDefEqProofs [rA]
    done
  simp -dsimp -implicitDefEqProofs [hi2]
  rw [← List.map_append]
  exact ⟨2, frz_rows (rows := (A ++ B).map fSec) (k := 5) (n := A.length + B.length) (by simp [mkH, rws]) (by omega) (by simp) (fun r hr => by obtain ⟨a, _, rfl⟩ := List.mem_map.1 hr; rfl) (rws_all (f := fSec) (l := A ++ B) (fun _ => rfl))⟩
end Go.Pe
