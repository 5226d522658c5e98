import Derived.Test.YtffckclggkjbgaaGreatM08
import Derived.Test.YtffckclggkjbgaaGreatRows
set_option linter.unusedVariables false
set_option linter.unusedSimpArgs false
/- The equations by which simplification walks: one for each kind of operation, so that the kernel has nothing to unfold. -/
namespace Go.Pe
open Go

def pickA (c a b : AV) : Option AV := match c with
  | .val (.bool t) => some (if t then a else b)
  | _ => none
def nnA (x : AV) : Option AV := match x with
  | .ptr b o => some (.ptr b o)
  | .rop cs => some (.rop cs)
  | _ => none
def idxA (T E : TI) (x : AV) (i : Option Int) : Option AV := match i with
  | some n => indexA T E x n
  | none => none
def fldA (P : Program) (T : TI) (f : Nat) (x : AV) : Option AV := match T.kind, x with
  | .st fs, .agg cs => match fs[f]? with
    | some (off, _, ft) => tyInt P ft fun E => partA E cs off
    | none => none
  | _, _ => none
def boxA (h : H) (x : Option (List AV)) : Option (AV × H) := match x with
  | some l => some (.ptr h.next 0, h.push l)
  | none => none
def elS (P : Program) (T : TI) (f : TI → Option (AV × H)) : Option (AV × H) := match T.kind with
  | .sl e => tyInt2 P e f
  | _ => none
def elS2 (P : Program) (T TX : TI) (f g : TI → Option (AV × H)) : Option (AV × H) := match T.kind, TX.kind with
  | .sl e, .sl _ => tyInt2 P e f
  | .sl e, .int _ => tyInt2 P e g
  | _, _ => none
def mkA (E : TI) (h : H) (l c : Option Int) : Option (AV × H) := match l, c with
  | some l, some c => makeSliceA E h l c
  | _, _ => none

theorem frz_le {h : H} {N : Nat} : ∀ {k k' : Nat}, k ≤ k' → ∀ {x y : AV}, frz k h N x = some y → frz k' h N x = some y := by
  intro k
  induction k with
  | zero => intro k' _ x y e; simp [frz] at e
  | succ k ih =>
    intro k' hk x y e
    obtain ⟨j, rfl⟩ : ∃ j, k' = j + 1 := ⟨k' - 1, by omega⟩
    have hm : ∀ {l m : List AV}, l.mapM (frz k h N) = some m → l.mapM (frz j h N) = some m := by
      intro l
      induction l with
      | nil => intro m e; simpa using e
      | cons a l ihl =>
        intro m e
        rw [List.mapM_cons] at e ⊢
        cases ha : frz k h N a with
        | none => simp [ha] at e
        | some b =>
          cases hl : l.mapM (frz k h N) with
          | none => simp [ha, hl] at e
          | some m' =>
            rw [ih (show k ≤ j by omega) ha, ihl hl]
            simpa [ha, hl] using e
    cases x with
    | val v => simpa [frz] using e
    | ro f k xs => simpa [frz] using e
    | rop cs => simpa [frz] using e
    | yld b => simpa [frz] using e
    | agg l =>
      simp only [frz] at e ⊢
      cases hl : l.mapM (frz k h N) with
      | none => simp [hl] at e
      | some m => rw [hm hl]; simpa [hl] using e
    | tup l =>
      simp only [frz] at e ⊢
      cases hl : l.mapM (frz k h N) with
      | none => simp [hl] at e
      | some m => rw [hm hl]; simpa [hl] using e
    | clo f l =>
      simp only [frz] at e ⊢
      cases hl : l.mapM (frz k h N) with
      | none => simp [hl] at e
      | some m => rw [hm hl]; simpa [hl] using e
    | ptr b o =>
      simp only [frz] at e ⊢
      split at e
      · rename_i hb; rw [if_pos hb]; exact e
      · rename_i hb
        rw [if_neg hb]
        cases hg : h.get b with
        | none => simp [hg] at e
        | some cs =>
          cases hl : (cs.drop o).mapM (frz k h N) with
          | none => simp [hg, hl] at e
          | some m => simp only [hm hl]; simpa [hg, hl] using e
    | sl b o len kk =>
      simp only [frz] at e ⊢
      split at e
      · rename_i hb; rw [if_pos hb]; exact e
      · rename_i hb
        rw [if_neg hb]
        cases hg : h.get b with
        | none => simp [hg] at e
        | some cs =>
          cases ht : takeAt cs o (len * kk) with
          | none => simp [hg, ht] at e
          | some ds =>
            cases hl : ds.mapM (frz k h N) with
            | none => simp [hg, ht, hl] at e
            | some m => simp only [ht, hm hl]; simpa [hg, ht, hl] using e
    | slc b o len kk cap =>
      simp only [frz] at e ⊢
      split at e
      · rename_i hb; rw [if_pos hb]; exact e
      · rename_i hb
        rw [if_neg hb]
        cases hg : h.get b with
        | none => simp [hg] at e
        | some cs =>
          cases ht : takeAt cs o (len * kk) with
          | none => simp [hg, ht] at e
          | some ds =>
            cases hl : ds.mapM (frz k h N) with
            | none => simp [hg, ht, hl] at e
            | some m => simp only [ht, hm hl]; simpa [hg, ht, hl] using e

section
variable {P : Program} {md : Oper → Bool} {own : Bool} {ρ : List AV} {h : H} {d : Option Nat} {ty : TypeId} {p : String} {af : Array Edge} {g : Option (Nat × Bool)} {K : List AV → H → Prop}
theorem pop_move {x : Operand} : pop P (Oper.mk d (.move x) ty p af g) ρ h = some (aev ρ x) := by first | rfl | (simp [pop]; rfl) | simp [pop]
theorem pop_assign {x : Operand} : pop P (Oper.mk d (.assign x) ty p af g) ρ h = some (aev ρ x) := by first | rfl | (simp [pop]; rfl) | simp [pop]
theorem pop_pick {c a b : Operand} : pop P (Oper.mk d (.pick c a b) ty p af g) ρ h = pickA (aev ρ c) (aev ρ a) (aev ρ b) := by first | rfl | (simp [pop]; rfl) | simp [pop]
theorem pop_load {t : TypeId} {q : Operand} : pop P (Oper.mk d (.load t q) ty p af g) ρ h = tyInt P t fun T => loadA T h (aev ρ q) := by first | rfl | (simp [pop]; rfl) | simp [pop]
theorem pop_fieldAddr {s : TypeId} {x : Operand} {f : Nat} : pop P (Oper.mk d (.fieldAddr s x f) ty p af g) ρ h = tyInt P s fun T => fieldA T f (aev ρ x) := by first | rfl | (simp [pop]; rfl) | simp [pop]
theorem pop_indexAddr {t : TypeId} {x i : Operand} : pop P (Oper.mk d (.indexAddr t x i) ty p af g) ρ h = tyInt P t fun T => tyInt P (elemTy T.kind) fun E => idxA T E (aev ρ x) (intOf? (aev ρ i)) := by first | rfl | (simp [pop]; rfl) | simp [pop]
theorem pop_field {s : TypeId} {x : Operand} {f : Nat} : pop P (Oper.mk d (.field s x f) ty p af g) ρ h = tyInt P s fun T => fldA P T f (aev ρ x) := by first | rfl | (simp [pop]; rfl) | simp [pop]
theorem pop_binOp {op : BinOp} {t ty2 : TypeId} {x y : Operand} : pop P (Oper.mk d (.binOp op t x y ty2) ty p af g) ρ h = tyInt P t fun T => binX P t T op (aev ρ x) (aev ρ y) := by first | rfl | (simp [pop]; rfl) | simp [pop]
theorem pop_unOp {op : UnOp} {ty2 : TypeId} {x : Operand} : pop P (Oper.mk d (.unOp op ty2 x) ty p af g) ρ h = unA op (aev ρ x) := by first | rfl | (simp [pop]; rfl) | simp [pop]
theorem pop_convert {s t : TypeId} {x : Operand} : pop P (Oper.mk d (.convert s t x) ty p af g) ρ h = tyInt P s fun _ => tyInt P t fun T => convA T (aev ρ x) := by first | rfl | (simp [pop]; rfl) | simp [pop]
theorem pop_extract {t : Operand} {i : Nat} : pop P (Oper.mk d (.extract t i) ty p af g) ρ h = extA (aev ρ t) i := by first | rfl | (simp [pop]; rfl) | simp [pop]
theorem pop_makeFunc {f : FuncId} {caps : Array Operand} : pop P (Oper.mk d (.makeFunc (.func f) #[] caps) ty p af g) ρ h = some (.clo f (caps.toList.map (aev ρ))) := by first | rfl | (simp [pop]; rfl) | simp [pop]
theorem pop_nilCheck {x : Operand} : pop P (Oper.mk d (.nilCheck x) ty p af g) ρ h = nnA (aev ρ x) := by first | rfl | (simp [pop]; rfl) | simp [pop]
theorem pop_build {t : TypeId} {parts : Array (Nat × Operand)} : pop P (Oper.mk d (.build t parts) ty p af g) ρ h = tyInt P t fun T => if T.fok then buildA T (parts.toList.map fun p => (p.1, aev ρ p.2)) else none := by first | rfl | (simp [pop]; rfl) | simp [pop]
theorem pop_slice {t : TypeId} {x : Operand} {lo hi mx : Option Operand} : pop P (Oper.mk d (.slice t x lo hi mx) ty p af g) ρ h = tyInt P t fun T => tyInt P (elemTy T.kind) fun E => sliceA T E (aev ρ x) (lo.map (aev ρ)) (hi.map (aev ρ)) (mx.map (aev ρ)) := by first | rfl | (simp [pop]; rfl) | simp [pop]
theorem pop_len {t : TypeId} {x : Operand} : pop P (Oper.mk d (.call { callee := .builtin .len, args := #[x], argTypes := #[t] }) ty p af g) ρ h = tyInt P t fun T => lenA T (aev ρ x) := by first | rfl | (simp [pop]; rfl) | simp [pop]
theorem pop_max {args : Array Operand} {ats : Array TypeId} : pop P (Oper.mk d (.call { callee := .builtin .max, args := args, argTypes := ats }) ty p af g) ρ h = mmA true (args.toList.map (aev ρ)) := by first | rfl | (simp [pop]; rfl) | simp [pop]
theorem pop_min {args : Array Operand} {ats : Array TypeId} : pop P (Oper.mk d (.call { callee := .builtin .min, args := args, argTypes := ats }) ty p af g) ρ h = mmA false (args.toList.map (aev ρ)) := by first | rfl | (simp [pop]; rfl) | simp [pop]
theorem eop_alloc {t : TypeId} : eop P own (Oper.mk d (.alloc t) ty p af g) ρ h = tyInt2 P t fun T => some (.ptr h.next 0, h.push (T.zero.map .val)) := by first | rfl | (simp [eop]; rfl) | simp [eop]
theorem eop_box {t : TypeId} {x : Operand} : eop P own (Oper.mk d (.box t x) ty p af g) ρ h = boxA h (cellsOf (aev ρ x)) := by first | rfl | (simp [eop]; rfl) | simp [eop]
theorem eop_store {t : TypeId} {q x : Operand} : eop P own (Oper.mk d (.store t q x) ty p af g) ρ h = tyInt2 P t fun T => storeA T h (aev ρ q) (aev ρ x) := by first | rfl | (simp [eop]; rfl) | simp [eop]
theorem eop_buildSlice {t : TypeId} {n : Nat} {parts : Array (Nat × Operand)} : eop P own (Oper.mk d (.buildSlice t n parts) ty p af g) ρ h = tyInt2 P t fun T => elS P T fun E => buildSliceA E h n (parts.toList.map fun p => (p.1, aev ρ p.2)) := by first | rfl | (simp [eop]; rfl) | simp [eop]
theorem eop_makeSlice {t : TypeId} {l c : Operand} : eop P own (Oper.mk d (.makeSlice t l c) ty p af g) ρ h = tyInt2 P t fun T => elS P T fun E => mkA E h (intOf? (aev ρ l)) (intOf? (aev ρ c)) := by first | rfl | (simp [eop]; rfl) | simp [eop]
theorem eop_append {t tx : TypeId} {s x : Operand} : eop P own (Oper.mk d (.call { callee := .builtin .append, args := #[s, x], argTypes := #[t, tx] }) ty p af g) ρ h = tyInt2 P t fun T => tyInt2 P tx fun TX => elS2 P T TX (fun E => appendA E own h (aev ρ s) (aev ρ x)) fun E => zeroApp E h (aev ρ s) (aev ρ x) := by first | rfl | (simp [eop]; rfl) | simp [eop]
theorem on_pure {o : Oper} {x : Option AV} (hp : pop P o ρ h = x) (he : eop P (md o) o ρ h = none) : onSome (stepV P (md o) o ρ h) (fun r => ap K .mk (putA ρ o.dst r.1) r.2) .mk = onSome x (fun v => ap K .mk (putA ρ o.dst v) h) .mk := by
  unfold stepV pickV; rw [hp, he]; cases x <;> rfl
theorem on_eff {o : Oper} {x : Option (AV × H)} (hp : pop P o ρ h = none) (he : eop P (md o) o ρ h = x) : onSome (stepV P (md o) o ρ h) (fun r => ap K .mk (putA ρ o.dst r.1) r.2) .mk = onSome x (fun r => ap K .mk (putA ρ o.dst r.1) r.2) .mk := by
  unfold stepV pickV; rw [hp, he]
theorem as_move {x : Operand} {t' : Tag (stepA P md (Oper.mk d (.move x) ty p af g) K)} : ap (stepA P md (Oper.mk d (.move x) ty p af g) K) t' ρ h = onSome (some (aev ρ x)) (fun v => ap K .mk (putA ρ d v) h) .mk := by rw [ap_step]; exact on_pure pop_move (by first | rfl | simp [eop])
theorem as_assign {x : Operand} {t' : Tag (stepA P md (Oper.mk d (.assign x) ty p af g) K)} : ap (stepA P md (Oper.mk d (.assign x) ty p af g) K) t' ρ h = onSome (some (aev ρ x)) (fun v => ap K .mk (putA ρ d v) h) .mk := by rw [ap_step]; exact on_pure pop_assign (by first | rfl | simp [eop])
theorem as_pick {c a b : Operand} {t' : Tag (stepA P md (Oper.mk d (.pick c a b) ty p af g) K)} : ap (stepA P md (Oper.mk d (.pick c a b) ty p af g) K) t' ρ h = onSome (pickA (aev ρ c) (aev ρ a) (aev ρ b)) (fun v => ap K .mk (putA ρ d v) h) .mk := by rw [ap_step]; exact on_pure pop_pick (by first | rfl | simp [eop])
theorem as_load {t : TypeId} {q : Operand} {t' : Tag (stepA P md (Oper.mk d (.load t q) ty p af g) K)} : ap (stepA P md (Oper.mk d (.load t q) ty p af g) K) t' ρ h = onSome (tyInt P t fun T => loadA T h (aev ρ q)) (fun v => ap K .mk (putA ρ d v) h) .mk := by rw [ap_step]; exact on_pure pop_load (by first | rfl | simp [eop])
theorem as_fieldAddr {s : TypeId} {x : Operand} {f : Nat} {t' : Tag (stepA P md (Oper.mk d (.fieldAddr s x f) ty p af g) K)} : ap (stepA P md (Oper.mk d (.fieldAddr s x f) ty p af g) K) t' ρ h = onSome (tyInt P s fun T => fieldA T f (aev ρ x)) (fun v => ap K .mk (putA ρ d v) h) .mk := by rw [ap_step]; exact on_pure pop_fieldAddr (by first | rfl | simp [eop])
theorem as_indexAddr {t : TypeId} {x i : Operand} {t' : Tag (stepA P md (Oper.mk d (.indexAddr t x i) ty p af g) K)} : ap (stepA P md (Oper.mk d (.indexAddr t x i) ty p af g) K) t' ρ h = onSome (tyInt P t fun T => tyInt P (elemTy T.kind) fun E => idxA T E (aev ρ x) (intOf? (aev ρ i))) (fun v => ap K .mk (putA ρ d v) h) .mk := by rw [ap_step]; exact on_pure pop_indexAddr (by first | rfl | simp [eop])
theorem as_field {s : TypeId} {x : Operand} {f : Nat} {t' : Tag (stepA P md (Oper.mk d (.field s x f) ty p af g) K)} : ap (stepA P md (Oper.mk d (.field s x f) ty p af g) K) t' ρ h = onSome (tyInt P s fun T => fldA P T f (aev ρ x)) (fun v => ap K .mk (putA ρ d v) h) .mk := by rw [ap_step]; exact on_pure pop_field (by first | rfl | simp [eop])
theorem as_binOp {op : BinOp} {t ty2 : TypeId} {x y : Operand} {t' : Tag (stepA P md (Oper.mk d (.binOp op t x y ty2) ty p af g) K)} : ap (stepA P md (Oper.mk d (.binOp op t x y ty2) ty p af g) K) t' ρ h = onSome (tyInt P t fun T => binX P t T op (aev ρ x) (aev ρ y)) (fun v => ap K .mk (putA ρ d v) h) .mk := by rw [ap_step]; exact on_pure pop_binOp (by first | rfl | simp [eop])
theorem as_unOp {op : UnOp} {ty2 : TypeId} {x : Operand} {t' : Tag (stepA P md (Oper.mk d (.unOp op ty2 x) ty p af g) K)} : ap (stepA P md (Oper.mk d (.unOp op ty2 x) ty p af g) K) t' ρ h = onSome (unA op (aev ρ x)) (fun v => ap K .mk (putA ρ d v) h) .mk := by rw [ap_step]; exact on_pure pop_unOp (by first | rfl | simp [eop])
theorem as_convert {s t : TypeId} {x : Operand} {t' : Tag (stepA P md (Oper.mk d (.convert s t x) ty p af g) K)} : ap (stepA P md (Oper.mk d (.convert s t x) ty p af g) K) t' ρ h = onSome (tyInt P s fun _ => tyInt P t fun T => convA T (aev ρ x)) (fun v => ap K .mk (putA ρ d v) h) .mk := by rw [ap_step]; exact on_pure pop_convert (by first | rfl | simp [eop])
theorem as_extract {t : Operand} {i : Nat} {t' : Tag (stepA P md (Oper.mk d (.extract t i) ty p af g) K)} : ap (stepA P md (Oper.mk d (.extract t i) ty p af g) K) t' ρ h = onSome (extA (aev ρ t) i) (fun v => ap K .mk (putA ρ d v) h) .mk := by rw [ap_step]; exact on_pure pop_extract (by first | rfl | simp [eop])
theorem as_makeFunc {f : FuncId} {caps : Array Operand} {t' : Tag (stepA P md (Oper.mk d (.makeFunc (.func f) #[] caps) ty p af g) K)} : ap (stepA P md (Oper.mk d (.makeFunc (.func f) #[] caps) ty p af g) K) t' ρ h = onSome (some (.clo f (caps.toList.map (aev ρ)))) (fun v => ap K .mk (putA ρ d v) h) .mk := by rw [ap_step]; exact on_pure pop_makeFunc (by first | rfl | simp [eop])
theorem as_nilCheck {x : Operand} {t' : Tag (stepA P md (Oper.mk d (.nilCheck x) ty p af g) K)} : ap (stepA P md (Oper.mk d (.nilCheck x) ty p af g) K) t' ρ h = onSome (nnA (aev ρ x)) (fun v => ap K .mk (putA ρ d v) h) .mk := by rw [ap_step]; exact on_pure pop_nilCheck (by first | rfl | simp [eop])
theorem as_build {t : TypeId} {parts : Array (Nat × Operand)} {t' : Tag (stepA P md (Oper.mk d (.build t parts) ty p af g) K)} : ap (stepA P md (Oper.mk d (.build t parts) ty p af g) K) t' ρ h = onSome (tyInt P t fun T => if T.fok then buildA T (parts.toList.map fun p => (p.1, aev ρ p.2)) else none) (fun v => ap K .mk (putA ρ d v) h) .mk := by rw [ap_step]; exact on_pure pop_build (by first | rfl | simp [eop])
theorem as_slice {t : TypeId} {x : Operand} {lo hi mx : Option Operand} {t' : Tag (stepA P md (Oper.mk d (.slice t x lo hi mx) ty p af g) K)} : ap (stepA P md (Oper.mk d (.slice t x lo hi mx) ty p af g) K) t' ρ h = onSome (tyInt P t fun T => tyInt P (elemTy T.kind) fun E => sliceA T E (aev ρ x) (lo.map (aev ρ)) (hi.map (aev ρ)) (mx.map (aev ρ))) (fun v => ap K .mk (putA ρ d v) h) .mk := by rw [ap_step]; exact on_pure pop_slice (by first | rfl | simp [eop])
theorem as_len {t : TypeId} {x : Operand} {t' : Tag (stepA P md (Oper.mk d (.call { callee := .builtin .len, args := #[x], argTypes := #[t] }) ty p af g) K)} : ap (stepA P md (Oper.mk d (.call { callee := .builtin .len, args := #[x], argTypes := #[t] }) ty p af g) K) t' ρ h = onSome (tyInt P t fun T => lenA T (aev ρ x)) (fun v => ap K .mk (putA ρ d v) h) .mk := by rw [ap_step]; exact on_pure pop_len (by first | rfl | simp [eop])
theorem as_max {args : Array Operand} {ats : Array TypeId} {t' : Tag (stepA P md (Oper.mk d (.call { callee := .builtin .max, args := args, argTypes := ats }) ty p af g) K)} : ap (stepA P md (Oper.mk d (.call { callee := .builtin .max, args := args, argTypes := ats }) ty p af g) K) t' ρ h = onSome (mmA true (args.toList.map (aev ρ))) (fun v => ap K .mk (putA ρ d v) h) .mk := by rw [ap_step]; exact on_pure pop_max (by first | rfl | simp [eop])
theorem as_min {args : Array Operand} {ats : Array TypeId} {t' : Tag (stepA P md (Oper.mk d (.call { callee := .builtin .min, args := args, argTypes := ats }) ty p af g) K)} : ap (stepA P md (Oper.mk d (.call { callee := .builtin .min, args := args, argTypes := ats }) ty p af g) K) t' ρ h = onSome (mmA false (args.toList.map (aev ρ))) (fun v => ap K .mk (putA ρ d v) h) .mk := by rw [ap_step]; exact on_pure pop_min (by first | rfl | simp [eop])
theorem as_alloc {t : TypeId} {t' : Tag (stepA P md (Oper.mk d (.alloc t) ty p af g) K)} : ap (stepA P md (Oper.mk d (.alloc t) ty p af g) K) t' ρ h = onSome (tyInt2 P t fun T => some (.ptr h.next 0, h.push (T.zero.map .val))) (fun r => ap K .mk (putA ρ d r.1) r.2) .mk := by rw [ap_step]; exact on_eff (by first | rfl | simp [pop]) eop_alloc
theorem as_box {t : TypeId} {x : Operand} {t' : Tag (stepA P md (Oper.mk d (.box t x) ty p af g) K)} : ap (stepA P md (Oper.mk d (.box t x) ty p af g) K) t' ρ h = onSome (boxA h (cellsOf (aev ρ x))) (fun r => ap K .mk (putA ρ d r.1) r.2) .mk := by rw [ap_step]; exact on_eff (by first | rfl | simp [pop]) eop_box
theorem as_store {t : TypeId} {q x : Operand} {t' : Tag (stepA P md (Oper.mk d (.store t q x) ty p af g) K)} : ap (stepA P md (Oper.mk d (.store t q x) ty p af g) K) t' ρ h = onSome (tyInt2 P t fun T => storeA T h (aev ρ q) (aev ρ x)) (fun r => ap K .mk (putA ρ d r.1) r.2) .mk := by rw [ap_step]; exact on_eff (by first | rfl | simp [pop]) eop_store
theorem as_buildSlice {t : TypeId} {n : Nat} {parts : Array (Nat × Operand)} {t' : Tag (stepA P md (Oper.mk d (.buildSlice t n parts) ty p af g) K)} : ap (stepA P md (Oper.mk d (.buildSlice t n parts) ty p af g) K) t' ρ h = onSome (tyInt2 P t fun T => elS P T fun E => buildSliceA E h n (parts.toList.map fun p => (p.1, aev ρ p.2))) (fun r => ap K .mk (putA ρ d r.1) r.2) .mk := by rw [ap_step]; exact on_eff (by first | rfl | simp [pop]) eop_buildSlice
theorem as_makeSlice {t : TypeId} {l c : Operand} {t' : Tag (stepA P md (Oper.mk d (.makeSlice t l c) ty p af g) K)} : ap (stepA P md (Oper.mk d (.makeSlice t l c) ty p af g) K) t' ρ h = onSome (tyInt2 P t fun T => elS P T fun E => mkA E h (intOf? (aev ρ l)) (intOf? (aev ρ c))) (fun r => ap K .mk (putA ρ d r.1) r.2) .mk := by rw [ap_step]; exact on_eff (by first | rfl | simp [pop]) eop_makeSlice
theorem as_append {t tx : TypeId} {s x : Operand} {t' : Tag (stepA P md (Oper.mk d (.call { callee := .builtin .append, args := #[s, x], argTypes := #[t, tx] }) ty p af g) K)} : ap (stepA P md (Oper.mk d (.call { callee := .builtin .append, args := #[s, x], argTypes := #[t, tx] }) ty p af g) K) t' ρ h = onSome (tyInt2 P t fun T => tyInt2 P tx fun TX => elS2 P T TX (fun E => appendA E (md (Oper.mk d (.call { callee := .builtin .append, args := #[s, x], argTypes := #[t, tx] }) ty p af g)) h (aev ρ s) (aev ρ x)) fun E => zeroApp E h (aev ρ s) (aev ρ x)) (fun r => ap K .mk (putA ρ d r.1) r.2) .mk := by rw [ap_step]; exact on_eff (by first | rfl | simp [pop]) eop_append
theorem as_call {f : Operand} {args : Array Operand} {ats : Array TypeId} {t' : Tag (stepA P md (Oper.mk d (.call { callee := .value f, args := args, argTypes := ats }) ty p af g) K)} : ap (stepA P md (Oper.mk d (.call { callee := .value f, args := args, argTypes := ats }) ty p af g) K) t' ρ h =
    onFn (aev ρ f) (fun f' caps => onCall P f' (args.toList.map (aev ρ) ++ caps) h (fun x h' => ap K .mk (putA ρ d x) h') .mk) (fun b => onRound P b (args.toList.map (aev ρ)) h (fun x h' => ap K .mk (putA ρ d x) h') .mk) .mk .mk := rfl
theorem cons_free {op : Op} {all : Array Oper} {Q : List AV → H → Prop} {rest : List Oper} {t : Tag (vcOps P md all Q (Oper.mk d op ty p af none :: rest))} : ap (vcOps P md all Q (Oper.mk d op ty p af none :: rest)) t ρ h = ap (stepA P md (Oper.mk d op ty p af none) (vcOps P md all Q rest)) .mk ρ h := rfl
theorem cons_guard {op : Op} {j : Nat} {want : Bool} {all : Array Oper} {Q : List AV → H → Prop} {rest : List Oper} {t : Tag (vcOps P md all Q (Oper.mk d op ty p af (some (j, want)) :: rest))} : ap (vcOps P md all Q (Oper.mk d op ty p af (some (j, want)) :: rest)) t ρ h =
    onSome (dstT all .mk j) (fun d' => onBool (ρ.getD d' (.val undef)) (fun b => ifB (b == want) (ap (stepA P md (Oper.mk d op ty p af (some (j, want))) (vcOps P md all Q rest)) .mk (ρ.set d' (.val (.bool want))) h) (ap (vcOps P md all Q rest) .mk (putA (ρ.set d' (.val (.bool !want))) d (.val undef)) h) .mk .mk)
          (ap (vcOps P md all Q rest) .mk (putA ρ d (.val undef)) h) .mk .mk) .mk := rfl
theorem putA_some {t : Nat} {x : AV} : putA ρ (some t) x = ρ.set t x := rfl
theorem putA_none {x : AV} : putA ρ none x = ρ := rfl
theorem aev_tmp {t : Nat} : aev ρ (.tmp t) = ρ.getD t (.val undef) := rfl
theorem aev_int {k : IntKind} {n : Int} : aev ρ (.const (.int k n)) = .val (.int k n) := rfl
theorem aev_bool {b : Bool} : aev ρ (.const (.bool b)) = .val (.bool b) := rfl
theorem aev_nil : aev ρ (.const (.slice none 0 0)) = .val (.slice none 0 0) := rfl
theorem aev_func {f : FuncId} : aev ρ (.func f) = .clo f [] := rfl
theorem pickA_bool {t : Bool} {a b : AV} : pickA (.val (.bool t)) a b = some (if t then a else b) := rfl
theorem pickA_and {a b : Bool} : pickA (.val (.bool a)) (.val (.bool b)) (.val (.bool false)) = some (.val (.bool (a && b))) := by cases a <;> rfl
theorem pickA_or {a b : Bool} : pickA (.val (.bool a)) (.val (.bool true)) (.val (.bool b)) = some (.val (.bool (a || b))) := by cases a <;> rfl
theorem pickA_true {a b : AV} : pickA (.val (.bool true)) a b = some a := rfl
theorem pickA_false {a b : AV} : pickA (.val (.bool false)) a b = some b := rfl
theorem nnA_ptr {b o : Nat} : nnA (.ptr b o) = some (.ptr b o) := rfl
theorem nnA_rop {cs : List AV} : nnA (.rop cs) = some (.rop cs) := rfl
theorem idxA_some {T E : TI} {x : AV} {n : Int} : idxA T E x (some n) = indexA T E x n := rfl
theorem intOf_int {k : IntKind} {n : Int} : intOf? (.val (.int k n)) = some n := rfl
theorem boxA_some {l : List AV} : boxA h (some l) = some (.ptr h.next 0, h.push l) := rfl
theorem bin_int {T : TI} {op : BinOp} {k : IntKind} {a b : Int} : bin T op (.val (.int k a)) (.val (.int k b)) = binI op k a b := by simp [bin]
theorem binI_add {k : IntKind} {a b : Int} : binI .add k a b = some (.val (.int k (k.wrap (a + b)))) := rfl
theorem binI_sub {k : IntKind} {a b : Int} : binI .sub k a b = some (.val (.int k (k.wrap (a - b)))) := rfl
theorem binI_mul {k : IntKind} {a b : Int} : binI .mul k a b = some (.val (.int k (k.wrap (a * b)))) := rfl
theorem binI_quo {k : IntKind} {a b : Int} : binI .quo k a b = if b = 0 then none else some (.val (.int k (k.wrap (a.tdiv b)))) := rfl
theorem binI_rem {k : IntKind} {a b : Int} : binI .rem k a b = if b = 0 then none else some (.val (.int k (a.tmod b))) := rfl
theorem binI_eql {k : IntKind} {a b : Int} : binI .eql k a b = some (.val (.bool (a == b))) := rfl
theorem binI_neq {k : IntKind} {a b : Int} : binI .neq k a b = some (.val (.bool (a != b))) := rfl
theorem binI_lss {k : IntKind} {a b : Int} : binI .lss k a b = some (.val (.bool (decide (a < b)))) := rfl
theorem binI_leq {k : IntKind} {a b : Int} : binI .leq k a b = some (.val (.bool (decide (a ≤ b)))) := rfl
theorem binI_gtr {k : IntKind} {a b : Int} : binI .gtr k a b = some (.val (.bool (decide (a > b)))) := rfl
theorem binI_geq {k : IntKind} {a b : Int} : binI .geq k a b = some (.val (.bool (decide (a ≥ b)))) := rfl
theorem unA_not {b : Bool} : unA .not (.val (.bool b)) = some (.val (.bool (!b))) := rfl
theorem unA_neg {k : IntKind} {n : Int} : unA .neg (.val (.int k n)) = some (.val (.int k (k.wrap (0 - n)))) := rfl
def loadO (T : TI) (c : Option (List AV)) (o : Nat) : Option AV := match c with
  | some cs => (takeAt cs o T.size).bind (asLoaded T)
  | none => none
theorem loadA_ptr {T : TI} {b o : Nat} : loadA T h (.ptr b o) = loadO T (h.get b) o := rfl
theorem loadA_rop {T : TI} {cs : List AV} : loadA T h (.rop cs) = loadO T (some cs) 0 := rfl
theorem loadO_some {T : TI} {cs : List AV} {o : Nat} : loadO T (some cs) o = (takeAt cs o T.size).bind (asLoaded T) := rfl
theorem asLoaded_agg {k : TK} {s by' : Nat} {z : List Value} {f cm : Bool} {l : List AV} : asLoaded { kind := k, size := s, zero := z, agg := true, bytes := by', fok := f, cmp := cm } l = some (.agg l) := rfl
theorem asLoaded_one {k : TK} {s by' : Nat} {z : List Value} {f cm : Bool} {x : AV} : asLoaded { kind := k, size := s, zero := z, agg := false, bytes := by', fok := f, cmp := cm } [x] = some x := rfl
theorem resA_one {rv : ResultVar} : resA P #[rv] ρ h = resOne P ρ h rv := by simp [resA]; cases resOne P ρ h rv <;> simp
theorem resA_two {rv rv' : ResultVar} : resA P #[rv, rv'] ρ h = (resOne P ρ h rv).bind fun x => (resOne P ρ h rv').bind fun y => some (.tup [x, y]) := by simp [resA]; cases resOne P ρ h rv <;> cases resOne P ρ h rv' <;> simp
theorem resOne_tmp {t : Nat} : resOne P ρ h (.tmp t) = some (ρ.getD t (.val undef)) := rfl
theorem resOne_cell {a : Nat} {t : TypeId} : resOne P ρ h (.cell a t) = tyInt P t fun T => loadA T h (ρ.getD a (.val undef)) := rfl
theorem cellsOf_int {k : IntKind} {n : Int} : cellsOf (.val (.int k n)) = some [.val (.int k n)] := rfl
theorem cellsOf_bool {b : Bool} : cellsOf (.val (.bool b)) = some [.val (.bool b)] := rfl
theorem cellsOf_clo {f : Nat} {caps : List AV} : cellsOf (.clo f caps) = some [.clo f caps] := rfl
theorem cellsOf_ptr {b o : Nat} : cellsOf (.ptr b o) = some [.ptr b o] := rfl
theorem cellsOf_ro {f : Bool} {k : Nat} {xs : List (List AV)} : cellsOf (.ro f k xs) = some [.ro f k xs] := rfl
theorem cellsOf_sl {b o n k : Nat} : cellsOf (.sl b o n k) = some [.sl b o n k] := rfl
theorem cellsOf_nil : cellsOf (.val (.slice none 0 0)) = some [.val (.slice none 0 0)] := rfl
theorem cellsOf_agg {l : List AV} : cellsOf (.agg l) = if l.all one then some l else none := rfl
theorem one_int {k : IntKind} {n : Int} : one (.val (.int k n)) = true := rfl
theorem one_bool {b : Bool} : one (.val (.bool b)) = true := rfl
theorem one_nil : one (.val (.slice none 0 0)) = true := rfl
theorem one_clo {f : Nat} {caps : List AV} : one (.clo f caps) = true := rfl
theorem one_ptr {b o : Nat} : one (.ptr b o) = true := rfl
theorem one_ro {f : Bool} {k : Nat} {xs : List (List AV)} : one (.ro f k xs) = true := rfl
theorem one_sl {b o n k : Nat} : one (.sl b o n k) = true := rfl
theorem one_rop {cs : List AV} : one (.rop cs) = true := rfl
theorem mm_max {k k' : IntKind} {a b : Int} : mmA true [.val (.int k a), .val (.int k' b)] = some (.val (.int k (max a b))) := by simp only [mmA, if_true]; congr 3; split <;> omega
theorem mm_min {k k' : IntKind} {a b : Int} : mmA false [.val (.int k a), .val (.int k' b)] = some (.val (.int k (min a b))) := by simp only [mmA, Bool.false_eq_true, if_false]; congr 3; split <;> omega
theorem elS_sl {e : TypeId} {s by' : Nat} {z : List Value} {a f' cm : Bool} {f : TI → Option (AV × H)} : elS P { kind := .sl e, size := s, zero := z, agg := a, bytes := by', fok := f', cmp := cm } f = tyInt2 P e f := rfl
theorem elS2_sl {e e2 : TypeId} {s by' s2 by2 : Nat} {z z2 : List Value} {a f' a2 f2 cm c2 : Bool} {f g : TI → Option (AV × H)} : elS2 P { kind := .sl e, size := s, zero := z, agg := a, bytes := by', fok := f', cmp := cm } { kind := .sl e2, size := s2, zero := z2, agg := a2, bytes := by2, fok := f2, cmp := c2 } f g = tyInt2 P e f := rfl
theorem mkA_some {E : TI} {l c : Int} : mkA E h (some l) (some c) = makeSliceA E h l c := rfl
theorem chunk_zero {k : Nat} {l : List AV} : chunk k 0 l = [] := rfl
theorem chunk_succ {k n : Nat} {l : List AV} : chunk k (n + 1) l = l.take k :: chunk k n (l.drop k) := by
  simp only [chunk, List.range_succ_eq_map, List.map_cons, List.map_map, Nat.zero_mul, List.drop_zero, List.drop_drop]
  congr 1
  apply List.map_congr_left
  intro i _
  simp only [Function.comp, Nat.succ_eq_add_one, Nat.add_mul, Nat.one_mul]
  rw [Nat.add_comm]
theorem zcells_zero {z : List Value} : zcells 0 z = [] := rfl
theorem zcells_succ {n : Nat} {z : List Value} : zcells (n + 1) z = z.map AV.val ++ zcells n z := by simp [zcells, List.replicate_succ]
theorem clean_val {v : Value} : clean (.val v) = true := rfl
theorem clean_ro {f : Bool} {k : Nat} {xs : List (List AV)} : clean (.ro f k xs) = true := rfl
theorem clean_rop {cs : List AV} : clean (.rop cs) = true := rfl
theorem clean1_val {v : Value} : clean1 (.val v) = true := rfl
theorem clean1_ro {f : Bool} {k : Nat} {xs : List (List AV)} : clean1 (.ro f k xs) = true := rfl
theorem clean1_rop {cs : List AV} : clean1 (.rop cs) = true := rfl
def flat : AV → Bool
  | .agg l => l.all clean1
  | x => clean1 x
theorem flat_val {v : Value} : flat (.val v) = true := rfl
theorem flat_ro {f : Bool} {k : Nat} {xs : List (List AV)} : flat (.ro f k xs) = true := rfl
theorem flat_agg {l : List AV} : flat (.agg l) = l.all clean1 := rfl
theorem on_frz1 {N n : Nat} {y : AV} (hy : clean1 y = true) : frz (n + 1) h N y = some y := by cases y <;> simp [clean1, frz] at hy ⊢
theorem on_frzl {N n : Nat} : ∀ {l : List AV}, l.all clean1 = true → l.mapM (frz (n + 1) h N) = some l
  | [], _ => by simp
  | y :: l, hl => by
    simp only [List.all_cons, Bool.and_eq_true] at hl
    rw [List.mapM_cons, on_frz1 hl.1, on_frzl hl.2]; rfl
theorem on_frz2 {N n : Nat} {y : AV} (hy : flat y = true) : frz (n + 2) h N y = some y := by
  cases y with
  | agg l => rw [frz, on_frzl (n := n) (show l.all clean1 = true from hy)]
  | _ => exact on_frz1 hy
theorem on_frzl2 {N n : Nat} : ∀ {l : List AV}, l.all flat = true → l.mapM (frz (n + 2) h N) = some l
  | [], _ => by simp
  | y :: l, hl => by
    simp only [List.all_cons, Bool.and_eq_true] at hl
    rw [List.mapM_cons, on_frz2 hl.1, on_frzl2 hl.2]; rfl
theorem frz_agg {N : Nat} {l : List AV} {x : AV} (hl : l.all clean1 = true) : (∃ k, frz k h N (.agg l) = some x) ↔ .agg l = x := by
  constructor
  · rintro ⟨k, e⟩
    match k, e with
    | 0, e => simp [frz] at e
    | 1, e => cases l <;> simp [frz, List.mapM_cons] at e; exact e
    | k + 2, e => rw [frz, on_frzl hl] at e; simpa using e
  · rintro rfl; exact ⟨2, on_frz2 hl⟩
theorem frz_tup {N : Nat} {l : List AV} {x : AV} (hl : l.all flat = true) : (∃ k, frz k h N (.tup l) = some x) ↔ .tup l = x := by
  constructor
  · rintro ⟨k, e⟩
    have e' : frz (k + 3) h N (.tup l) = some x := frz_le (by omega) e
    rw [frz, on_frzl2 hl] at e'; simpa using e'
  · rintro rfl; exact ⟨3, by rw [frz, on_frzl2 hl]⟩
end

end Go.Pe

/- What the types of the program are. -/
namespace Go.Pe
open Go Go.Proofs Go.Proofs.YtffckclggkjbgaaGreat
theorem tiz22 : ti Tryz.prog 86 = some { kind := TK.sl 90, size := 1, zero := [Value.slice none 0 0], agg := false, bytes := 24, fok := true, cmp := true } := by kernel_rfl
theorem tz22 {f : TI → Option AV} : tyInt Tryz.prog 86 f = f { kind := TK.sl 90, size := 1, zero := [Value.slice none 0 0], agg := false, bytes := 24, fok := true, cmp := true } := tyInt_of tiz22
theorem uz22 {f : TI → Option (AV × H)} : tyInt2 Tryz.prog 86 f = f { kind := TK.sl 90, size := 1, zero := [Value.slice none 0 0], agg := false, bytes := 24, fok := true, cmp := true } := tyInt2_of tiz22
theorem tiz26 : ti Tryz.prog 34 = some { kind := TK.int IntKind.i64, size := 1, zero := [Value.int IntKind.i64 0], agg := false, bytes := 8, fok := true, cmp := true } := by kernel_rfl
theorem tz26 {f : TI → Option AV} : tyInt Tryz.prog 34 f = f { kind := TK.int IntKind.i64, size := 1, zero := [Value.int IntKind.i64 0], agg := false, bytes := 8, fok := true, cmp := true } := tyInt_of tiz26
theorem uz26 {f : TI → Option (AV × H)} : tyInt2 Tryz.prog 34 f = f { kind := TK.int IntKind.i64, size := 1, zero := [Value.int IntKind.i64 0], agg := false, bytes := 8, fok := true, cmp := true } := tyInt2_of tiz26
theorem tiz29 : ti Tryz.prog 89 = some { kind := TK.st [(0, 2, 27), (2, 2, 27)], size := 4, zero := [Value.int IntKind.i64 0, Value.int IntKind.i64 0, Value.int IntKind.i64 0, Value.int IntKind.i64 0], agg := true, bytes := 32, fok := true, cmp := true } := by kernel_rfl
theorem tz29 {f : TI → Option AV} : tyInt Tryz.prog 89 f = f { kind := TK.st [(0, 2, 27), (2, 2, 27)], size := 4, zero := [Value.int IntKind.i64 0, Value.int IntKind.i64 0, Value.int IntKind.i64 0, Value.int IntKind.i64 0], agg := true, bytes := 32, fok := true, cmp := true } := tyInt_of tiz29
theorem uz29 {f : TI → Option (AV × H)} : tyInt2 Tryz.prog 89 f = f { kind := TK.st [(0, 2, 27), (2, 2, 27)], size := 4, zero := [Value.int IntKind.i64 0, Value.int IntKind.i64 0, Value.int IntKind.i64 0, Value.int IntKind.i64 0], agg := true, bytes := 32, fok := true, cmp := true } := tyInt2_of tiz29
theorem tiz30 : ti Tryz.prog 90 = some { kind := TK.st [(0, 2, 27), (2, 2, 27)], size := 4, zero := [Value.int IntKind.i64 0, Value.int IntKind.i64 0, Value.int IntKind.i64 0, Value.int IntKind.i64 0], agg := true, bytes := 32, fok := true, cmp := true } := by kernel_rfl
theorem tz30 {f : TI → Option AV} : tyInt Tryz.prog 90 f = f { kind := TK.st [(0, 2, 27), (2, 2, 27)], size := 4, zero := [Value.int IntKind.i64 0, Value.int IntKind.i64 0, Value.int IntKind.i64 0, Value.int IntKind.i64 0], agg := true, bytes := 32, fok := true, cmp := true } := tyInt_of tiz30
theorem uz30 {f : TI → Option (AV × H)} : tyInt2 Tryz.prog 90 f = f { kind := TK.st [(0, 2, 27), (2, 2, 27)], size := 4, zero := [Value.int IntKind.i64 0, Value.int IntKind.i64 0, Value.int IntKind.i64 0, Value.int IntKind.i64 0], agg := true, bytes := 32, fok := true, cmp := true } := tyInt2_of tiz30
theorem tiz68 : ti Tryz.prog 168 = some { kind := TK.oth, size := 1, zero := [Value.nilFunc], agg := false, bytes := 8, fok := true, cmp := true } := by kernel_rfl
theorem tz68 {f : TI → Option AV} : tyInt Tryz.prog 168 f = f { kind := TK.oth, size := 1, zero := [Value.nilFunc], agg := false, bytes := 8, fok := true, cmp := true } := tyInt_of tiz68
theorem uz68 {f : TI → Option (AV × H)} : tyInt2 Tryz.prog 168 f = f { kind := TK.oth, size := 1, zero := [Value.nilFunc], agg := false, bytes := 8, fok := true, cmp := true } := tyInt2_of tiz68
theorem tiz69 : ti Tryz.prog 169 = some { kind := TK.oth, size := 1, zero := [Value.nilFunc], agg := false, bytes := 8, fok := true, cmp := true } := by kernel_rfl
theorem tz69 {f : TI → Option AV} : tyInt Tryz.prog 169 f = f { kind := TK.oth, size := 1, zero := [Value.nilFunc], agg := false, bytes := 8, fok := true, cmp := true } := tyInt_of tiz69
theorem uz69 {f : TI → Option (AV × H)} : tyInt2 Tryz.prog 169 f = f { kind := TK.oth, size := 1, zero := [Value.nilFunc], agg := false, bytes := 8, fok := true, cmp := true } := tyInt2_of tiz69
end Go.Pe

/- What the types of the program are. -/
namespace Go.Pe
open Go Go.Proofs Go.Proofs.YtffckclggkjbgaaGreat
theorem ti3 : ti Tryz.prog 3 = some { kind := TK.int IntKind.i64, size := 1, zero := [Value.int IntKind.i64 0], agg := false, bytes := 8, fok := true, cmp := true } := by kernel_rfl
theorem t3 {f : TI → Option AV} : tyInt Tryz.prog 3 f = f { kind := TK.int IntKind.i64, size := 1, zero := [Value.int IntKind.i64 0], agg := false, bytes := 8, fok := true, cmp := true } := tyInt_of ti3
theorem u3 {f : TI → Option (AV × H)} : tyInt2 Tryz.prog 3 f = f { kind := TK.int IntKind.i64, size := 1, zero := [Value.int IntKind.i64 0], agg := false, bytes := 8, fok := true, cmp := true } := tyInt2_of ti3
theorem ti4 : ti Tryz.prog 4 = some { kind := TK.bool, size := 1, zero := [Value.bool false], agg := false, bytes := 1, fok := true, cmp := true } := by kernel_rfl
theorem t4 {f : TI → Option AV} : tyInt Tryz.prog 4 f = f { kind := TK.bool, size := 1, zero := [Value.bool false], agg := false, bytes := 1, fok := true, cmp := true } := tyInt_of ti4
theorem u4 {f : TI → Option (AV × H)} : tyInt2 Tryz.prog 4 f = f { kind := TK.bool, size := 1, zero := [Value.bool false], agg := false, bytes := 1, fok := true, cmp := true } := tyInt2_of ti4
theorem ti5 : ti Tryz.prog 5 = some { kind := TK.int IntKind.u8, size := 1, zero := [Value.int IntKind.u8 0], agg := false, bytes := 1, fok := true, cmp := true } := by kernel_rfl
theorem t5 {f : TI → Option AV} : tyInt Tryz.prog 5 f = f { kind := TK.int IntKind.u8, size := 1, zero := [Value.int IntKind.u8 0], agg := false, bytes := 1, fok := true, cmp := true } := tyInt_of ti5
theorem u5 {f : TI → Option (AV × H)} : tyInt2 Tryz.prog 5 f = f { kind := TK.int IntKind.u8, size := 1, zero := [Value.int IntKind.u8 0], agg := false, bytes := 1, fok := true, cmp := true } := tyInt2_of ti5
theorem ti22 : ti Tryz.prog 50 = some { kind := TK.sl 112, size := 1, zero := [Value.slice none 0 0], agg := false, bytes := 24, fok := true, cmp := true } := by kernel_rfl
theorem t22 {f : TI → Option AV} : tyInt Tryz.prog 50 f = f { kind := TK.sl 112, size := 1, zero := [Value.slice none 0 0], agg := false, bytes := 24, fok := true, cmp := true } := tyInt_of ti22
theorem u22 {f : TI → Option (AV × H)} : tyInt2 Tryz.prog 50 f = f { kind := TK.sl 112, size := 1, zero := [Value.slice none 0 0], agg := false, bytes := 24, fok := true, cmp := true } := tyInt2_of ti22
theorem ti23 : ti Tryz.prog 51 = some { kind := TK.sl 115, size := 1, zero := [Value.slice none 0 0], agg := false, bytes := 24, fok := true, cmp := true } := by kernel_rfl
theorem t23 {f : TI → Option AV} : tyInt Tryz.prog 51 f = f { kind := TK.sl 115, size := 1, zero := [Value.slice none 0 0], agg := false, bytes := 24, fok := true, cmp := true } := tyInt_of ti23
theorem u23 {f : TI → Option (AV × H)} : tyInt2 Tryz.prog 51 f = f { kind := TK.sl 115, size := 1, zero := [Value.slice none 0 0], agg := false, bytes := 24, fok := true, cmp := true } := tyInt2_of ti23
theorem ti25 : ti Tryz.prog 53 = some { kind := TK.st [(0, 1, 50), (1, 1, 51)], size := 2, zero := [Value.slice none 0 0, Value.slice none 0 0], agg := true, bytes := 48, fok := true, cmp := true } := by kernel_rfl
theorem t25 {f : TI → Option AV} : tyInt Tryz.prog 53 f = f { kind := TK.st [(0, 1, 50), (1, 1, 51)], size := 2, zero := [Value.slice none 0 0, Value.slice none 0 0], agg := true, bytes := 48, fok := true, cmp := true } := tyInt_of ti25
theorem u25 {f : TI → Option (AV × H)} : tyInt2 Tryz.prog 53 f = f { kind := TK.st [(0, 1, 50), (1, 1, 51)], size := 2, zero := [Value.slice none 0 0, Value.slice none 0 0], agg := true, bytes := 48, fok := true, cmp := true } := tyInt2_of ti25
theorem ti27 : ti Tryz.prog 27 = some { kind := TK.st [(0, 1, 3), (1, 1, 3)], size := 2, zero := [Value.int IntKind.i64 0, Value.int IntKind.i64 0], agg := true, bytes := 16, fok := true, cmp := true } := by kernel_rfl
theorem t27 {f : TI → Option AV} : tyInt Tryz.prog 27 f = f { kind := TK.st [(0, 1, 3), (1, 1, 3)], size := 2, zero := [Value.int IntKind.i64 0, Value.int IntKind.i64 0], agg := true, bytes := 16, fok := true, cmp := true } := tyInt_of ti27
theorem u27 {f : TI → Option (AV × H)} : tyInt2 Tryz.prog 27 f = f { kind := TK.st [(0, 1, 3), (1, 1, 3)], size := 2, zero := [Value.int IntKind.i64 0, Value.int IntKind.i64 0], agg := true, bytes := 16, fok := true, cmp := true } := tyInt2_of ti27
theorem ti28 : ti Tryz.prog 110 = some { kind := TK.sl 174, size := 1, zero := [Value.slice none 0 0], agg := false, bytes := 24, fok := true, cmp := true } := by kernel_rfl
theorem t28 {f : TI → Option AV} : tyInt Tryz.prog 110 f = f { kind := TK.sl 174, size := 1, zero := [Value.slice none 0 0], agg := false, bytes := 24, fok := true, cmp := true } := tyInt_of ti28
theorem u28 {f : TI → Option (AV × H)} : tyInt2 Tryz.prog 110 f = f { kind := TK.sl 174, size := 1, zero := [Value.slice none 0 0], agg := false, bytes := 24, fok := true, cmp := true } := tyInt2_of ti28
theorem ti30 : ti Tryz.prog 112 = some { kind := TK.st [(0, 1, 3), (1, 1, 3), (2, 2, 27), (4, 1, 110), (5, 1, 3), (6, 2, 27), (8, 1, 3)], size := 9, zero := [Value.int IntKind.i64 0, Value.int IntKind.i64 0, Value.int IntKind.i64 0, Value.int IntKind.i64 0, Value.slice none 0 0, Value.int IntKind.i64 0, Value.int IntKind.i64 0, Value.int IntKind.i64 0, Value.int IntKind.i64 0], agg := true, bytes := 88, fok := true, cmp := true } := by kernel_rfl
theorem t30 {f : TI → Option AV} : tyInt Tryz.prog 112 f = f { kind := TK.st [(0, 1, 3), (1, 1, 3), (2, 2, 27), (4, 1, 110), (5, 1, 3), (6, 2, 27), (8, 1, 3)], size := 9, zero := [Value.int IntKind.i64 0, Value.int IntKind.i64 0, Value.int IntKind.i64 0, Value.int IntKind.i64 0, Value.slice none 0 0, Value.int IntKind.i64 0, Value.int IntKind.i64 0, Value.int IntKind.i64 0, Value.int IntKind.i64 0], agg := true, bytes := 88, fok := true, cmp := true } := tyInt_of ti30
theorem u30 {f : TI → Option (AV × H)} : tyInt2 Tryz.prog 112 f = f { kind := TK.st [(0, 1, 3), (1, 1, 3), (2, 2, 27), (4, 1, 110), (5, 1, 3), (6, 2, 27), (8, 1, 3)], size := 9, zero := [Value.int IntKind.i64 0, Value.int IntKind.i64 0, Value.int IntKind.i64 0, Value.int IntKind.i64 0, Value.slice none 0 0, Value.int IntKind.i64 0, Value.int IntKind.i64 0, Value.int IntKind.i64 0, Value.int IntKind.i64 0], agg := true, bytes := 88, fok := true, cmp := true } := tyInt2_of ti30
theorem ti32 : ti Tryz.prog 54 = some { kind := TK.sl 116, size := 1, zero := [Value.slice none 0 0], agg := false, bytes := 24, fok := true, cmp := true } := by kernel_rfl
theorem t32 {f : TI → Option AV} : tyInt Tryz.prog 54 f = f { kind := TK.sl 116, size := 1, zero := [Value.slice none 0 0], agg := false, bytes := 24, fok := true, cmp := true } := tyInt_of ti32
theorem u32 {f : TI → Option (AV × H)} : tyInt2 Tryz.prog 54 f = f { kind := TK.sl 116, size := 1, zero := [Value.slice none 0 0], agg := false, bytes := 24, fok := true, cmp := true } := tyInt2_of ti32
theorem ti37 : ti Tryz.prog 34 = some { kind := TK.int IntKind.i64, size := 1, zero := [Value.int IntKind.i64 0], agg := false, bytes := 8, fok := true, cmp := true } := by kernel_rfl
theorem t37 {f : TI → Option AV} : tyInt Tryz.prog 34 f = f { kind := TK.int IntKind.i64, size := 1, zero := [Value.int IntKind.i64 0], agg := false, bytes := 8, fok := true, cmp := true } := tyInt_of ti37
theorem u37 {f : TI → Option (AV × H)} : tyInt2 Tryz.prog 34 f = f { kind := TK.int IntKind.i64, size := 1, zero := [Value.int IntKind.i64 0], agg := false, bytes := 8, fok := true, cmp := true } := tyInt2_of ti37
theorem ti43 : ti Tryz.prog 218 = some { kind := TK.oth, size := 1, zero := [Value.nilFunc], agg := false, bytes := 8, fok := true, cmp := true } := by kernel_rfl
theorem t43 {f : TI → Option AV} : tyInt Tryz.prog 218 f = f { kind := TK.oth, size := 1, zero := [Value.nilFunc], agg := false, bytes := 8, fok := true, cmp := true } := tyInt_of ti43
theorem u43 {f : TI → Option (AV × H)} : tyInt2 Tryz.prog 218 f = f { kind := TK.oth, size := 1, zero := [Value.nilFunc], agg := false, bytes := 8, fok := true, cmp := true } := tyInt2_of ti43
theorem ti50 : ti Tryz.prog 116 = some { kind := TK.sl 27, size := 1, zero := [Value.slice none 0 0], agg := false, bytes := 24, fok := true, cmp := true } := by kernel_rfl
theorem t50 {f : TI → Option AV} : tyInt Tryz.prog 116 f = f { kind := TK.sl 27, size := 1, zero := [Value.slice none 0 0], agg := false, bytes := 24, fok := true, cmp := true } := tyInt_of ti50
theorem u50 {f : TI → Option (AV × H)} : tyInt2 Tryz.prog 116 f = f { kind := TK.sl 27, size := 1, zero := [Value.slice none 0 0], agg := false, bytes := 24, fok := true, cmp := true } := tyInt2_of ti50
theorem ti75 : ti Tryz.prog 55 = some { kind := TK.sl 64, size := 1, zero := [Value.slice none 0 0], agg := false, bytes := 24, fok := true, cmp := true } := by kernel_rfl
theorem t75 {f : TI → Option AV} : tyInt Tryz.prog 55 f = f { kind := TK.sl 64, size := 1, zero := [Value.slice none 0 0], agg := false, bytes := 24, fok := true, cmp := true } := tyInt_of ti75
theorem u75 {f : TI → Option (AV × H)} : tyInt2 Tryz.prog 55 f = f { kind := TK.sl 64, size := 1, zero := [Value.slice none 0 0], agg := false, bytes := 24, fok := true, cmp := true } := tyInt2_of ti75
theorem ti77 : ti Tryz.prog 64 = some { kind := TK.st [(0, 1, 3), (1, 2, 27)], size := 3, zero := [Value.int IntKind.i64 0, Value.int IntKind.i64 0, Value.int IntKind.i64 0], agg := true, bytes := 24, fok := true, cmp := true } := by kernel_rfl
theorem t77 {f : TI → Option AV} : tyInt Tryz.prog 64 f = f { kind := TK.st [(0, 1, 3), (1, 2, 27)], size := 3, zero := [Value.int IntKind.i64 0, Value.int IntKind.i64 0, Value.int IntKind.i64 0], agg := true, bytes := 24, fok := true, cmp := true } := tyInt_of ti77
theorem u77 {f : TI → Option (AV × H)} : tyInt2 Tryz.prog 64 f = f { kind := TK.st [(0, 1, 3), (1, 2, 27)], size := 3, zero := [Value.int IntKind.i64 0, Value.int IntKind.i64 0, Value.int IntKind.i64 0], agg := true, bytes := 24, fok := true, cmp := true } := tyInt2_of ti77
theorem ti94 : ti Tryz.prog 102 = some { kind := TK.sl 5, size := 1, zero := [Value.slice none 0 0], agg := false, bytes := 24, fok := true, cmp := true } := by kernel_rfl
theorem t94 {f : TI → Option AV} : tyInt Tryz.prog 102 f = f { kind := TK.sl 5, size := 1, zero := [Value.slice none 0 0], agg := false, bytes := 24, fok := true, cmp := true } := tyInt_of ti94
theorem u94 {f : TI → Option (AV × H)} : tyInt2 Tryz.prog 102 f = f { kind := TK.sl 5, size := 1, zero := [Value.slice none 0 0], agg := false, bytes := 24, fok := true, cmp := true } := tyInt2_of ti94
theorem ti102 : ti Tryz.prog 115 = some { kind := TK.st [(0, 1, 3), (1, 2, 27), (3, 1, 3), (4, 2, 27)], size := 6, zero := [Value.int IntKind.i64 0, Value.int IntKind.i64 0, Value.int IntKind.i64 0, Value.int IntKind.i64 0, Value.int IntKind.i64 0, Value.int IntKind.i64 0], agg := true, bytes := 48, fok := true, cmp := true } := by kernel_rfl
theorem t102 {f : TI → Option AV} : tyInt Tryz.prog 115 f = f { kind := TK.st [(0, 1, 3), (1, 2, 27), (3, 1, 3), (4, 2, 27)], size := 6, zero := [Value.int IntKind.i64 0, Value.int IntKind.i64 0, Value.int IntKind.i64 0, Value.int IntKind.i64 0, Value.int IntKind.i64 0, Value.int IntKind.i64 0], agg := true, bytes := 48, fok := true, cmp := true } := tyInt_of ti102
theorem u102 {f : TI → Option (AV × H)} : tyInt2 Tryz.prog 115 f = f { kind := TK.st [(0, 1, 3), (1, 2, 27), (3, 1, 3), (4, 2, 27)], size := 6, zero := [Value.int IntKind.i64 0, Value.int IntKind.i64 0, Value.int IntKind.i64 0, Value.int IntKind.i64 0, Value.int IntKind.i64 0, Value.int IntKind.i64 0], agg := true, bytes := 48, fok := true, cmp := true } := tyInt2_of ti102
theorem ti117 : ti Tryz.prog 256 = some { kind := TK.oth, size := 1, zero := [Value.nilFunc], agg := false, bytes := 8, fok := true, cmp := true } := by kernel_rfl
theorem t117 {f : TI → Option AV} : tyInt Tryz.prog 256 f = f { kind := TK.oth, size := 1, zero := [Value.nilFunc], agg := false, bytes := 8, fok := true, cmp := true } := tyInt_of ti117
theorem u117 {f : TI → Option (AV × H)} : tyInt2 Tryz.prog 256 f = f { kind := TK.oth, size := 1, zero := [Value.nilFunc], agg := false, bytes := 8, fok := true, cmp := true } := tyInt2_of ti117
theorem ti119 : ti Tryz.prog 174 = some { kind := TK.st [(0, 1, 3), (1, 1, 3)], size := 2, zero := [Value.int IntKind.i64 0, Value.int IntKind.i64 0], agg := true, bytes := 16, fok := true, cmp := true } := by kernel_rfl
theorem t119 {f : TI → Option AV} : tyInt Tryz.prog 174 f = f { kind := TK.st [(0, 1, 3), (1, 1, 3)], size := 2, zero := [Value.int IntKind.i64 0, Value.int IntKind.i64 0], agg := true, bytes := 16, fok := true, cmp := true } := tyInt_of ti119
theorem u119 {f : TI → Option (AV × H)} : tyInt2 Tryz.prog 174 f = f { kind := TK.st [(0, 1, 3), (1, 1, 3)], size := 2, zero := [Value.int IntKind.i64 0, Value.int IntKind.i64 0], agg := true, bytes := 16, fok := true, cmp := true } := tyInt2_of ti119
theorem ti130 : ti Tryz.prog 25 = some { kind := TK.sl 3, size := 1, zero := [Value.slice none 0 0], agg := false, bytes := 24, fok := true, cmp := true } := by kernel_rfl
theorem t130 {f : TI → Option AV} : tyInt Tryz.prog 25 f = f { kind := TK.sl 3, size := 1, zero := [Value.slice none 0 0], agg := false, bytes := 24, fok := true, cmp := true } := tyInt_of ti130
theorem u130 {f : TI → Option (AV × H)} : tyInt2 Tryz.prog 25 f = f { kind := TK.sl 3, size := 1, zero := [Value.slice none 0 0], agg := false, bytes := 24, fok := true, cmp := true } := tyInt2_of ti130
theorem ti134 : ti Tryz.prog 177 = some { kind := TK.st [(0, 2, 53), (2, 1, 3), (3, 1, 54)], size := 4, zero := [Value.slice none 0 0, Value.slice none 0 0, Value.int IntKind.i64 0, Value.slice none 0 0], agg := true, bytes := 80, fok := true, cmp := true } := by kernel_rfl
theorem t134 {f : TI → Option AV} : tyInt Tryz.prog 177 f = f { kind := TK.st [(0, 2, 53), (2, 1, 3), (3, 1, 54)], size := 4, zero := [Value.slice none 0 0, Value.slice none 0 0, Value.int IntKind.i64 0, Value.slice none 0 0], agg := true, bytes := 80, fok := true, cmp := true } := tyInt_of ti134
theorem u134 {f : TI → Option (AV × H)} : tyInt2 Tryz.prog 177 f = f { kind := TK.st [(0, 2, 53), (2, 1, 3), (3, 1, 54)], size := 4, zero := [Value.slice none 0 0, Value.slice none 0 0, Value.int IntKind.i64 0, Value.slice none 0 0], agg := true, bytes := 80, fok := true, cmp := true } := tyInt2_of ti134
theorem ti138 : ti Tryz.prog 181 = some { kind := TK.st [(0, 9, 112), (9, 1, 3), (10, 1, 3)], size := 11, zero := [Value.int IntKind.i64 0, Value.int IntKind.i64 0, Value.int IntKind.i64 0, Value.int IntKind.i64 0, Value.slice none 0 0, Value.int IntKind.i64 0, Value.int IntKind.i64 0, Value.int IntKind.i64 0, Value.int IntKind.i64 0, Value.int IntKind.i64 0, Value.int IntKind.i64 0], agg := true, bytes := 104, fok := true, cmp := true } := by kernel_rfl
theorem t138 {f : TI → Option AV} : tyInt Tryz.prog 181 f = f { kind := TK.st [(0, 9, 112), (9, 1, 3), (10, 1, 3)], size := 11, zero := [Value.int IntKind.i64 0, Value.int IntKind.i64 0, Value.int IntKind.i64 0, Value.int IntKind.i64 0, Value.slice none 0 0, Value.int IntKind.i64 0, Value.int IntKind.i64 0, Value.int IntKind.i64 0, Value.int IntKind.i64 0, Value.int IntKind.i64 0, Value.int IntKind.i64 0], agg := true, bytes := 104, fok := true, cmp := true } := tyInt_of ti138
theorem u138 {f : TI → Option (AV × H)} : tyInt2 Tryz.prog 181 f = f { kind := TK.st [(0, 9, 112), (9, 1, 3), (10, 1, 3)], size := 11, zero := [Value.int IntKind.i64 0, Value.int IntKind.i64 0, Value.int IntKind.i64 0, Value.int IntKind.i64 0, Value.slice none 0 0, Value.int IntKind.i64 0, Value.int IntKind.i64 0, Value.int IntKind.i64 0, Value.int IntKind.i64 0, Value.int IntKind.i64 0, Value.int IntKind.i64 0], agg := true, bytes := 104, fok := true, cmp := true } := tyInt2_of ti138
theorem ti155 : ti Tryz.prog 198 = some { kind := TK.oth, size := 1, zero := [Value.nilFunc], agg := false, bytes := 8, fok := true, cmp := true } := by kernel_rfl
theorem t155 {f : TI → Option AV} : tyInt Tryz.prog 198 f = f { kind := TK.oth, size := 1, zero := [Value.nilFunc], agg := false, bytes := 8, fok := true, cmp := true } := tyInt_of ti155
theorem u155 {f : TI → Option (AV × H)} : tyInt2 Tryz.prog 198 f = f { kind := TK.oth, size := 1, zero := [Value.nilFunc], agg := false, bytes := 8, fok := true, cmp := true } := tyInt2_of ti155
theorem ti156 : ti Tryz.prog 81 = some { kind := TK.oth, size := 1, zero := [Value.nilFunc], agg := false, bytes := 8, fok := true, cmp := true } := by kernel_rfl
theorem t156 {f : TI → Option AV} : tyInt Tryz.prog 81 f = f { kind := TK.oth, size := 1, zero := [Value.nilFunc], agg := false, bytes := 8, fok := true, cmp := true } := tyInt_of ti156
theorem u156 {f : TI → Option (AV × H)} : tyInt2 Tryz.prog 81 f = f { kind := TK.oth, size := 1, zero := [Value.nilFunc], agg := false, bytes := 8, fok := true, cmp := true } := tyInt2_of ti156
theorem ti172 : ti Tryz.prog 238 = some { kind := TK.oth, size := 1, zero := [Value.nilFunc], agg := false, bytes := 8, fok := true, cmp := true } := by kernel_rfl
theorem t172 {f : TI → Option AV} : tyInt Tryz.prog 238 f = f { kind := TK.oth, size := 1, zero := [Value.nilFunc], agg := false, bytes := 8, fok := true, cmp := true } := tyInt_of ti172
theorem u172 {f : TI → Option (AV × H)} : tyInt2 Tryz.prog 238 f = f { kind := TK.oth, size := 1, zero := [Value.nilFunc], agg := false, bytes := 8, fok := true, cmp := true } := tyInt2_of ti172
end Go.Pe

/- Numbers, truths; what a heap holds; a few equations more. -/
namespace Go.Pe
open Go
noncomputable abbrev I (n : Int) : AV := .val (.int .i64 n)
noncomputable abbrev B (b : Bool) : AV := .val (.bool b)
noncomputable abbrev noC : Nat → Cert := fun _ => {}
noncomputable abbrev noM : Oper → Bool := fun _ => false
/-- All that is appended to may be written into later. -/
def ownM : Oper → Bool := fun _ => true
theorem ownM_eq {o : Oper} : ownM o = true := rfl
/-- All but what these slots get. -/
def butM (l : List Nat) : Oper → Bool := fun o => match o.dst with | some d => !(l.contains d) | none => true
theorem butM_eq {l : List Nat} {d : Nat} {op : Op} {ty : TypeId} {p : String} {af : Array Edge} {g : Option (Nat × Bool)} : butM l (Oper.mk (some d) op ty p af g) = !(l.contains d) := rfl

theorem wrap_in {n : Int} (h1 : -2^63 ≤ n) (h2 : n < 2^63) : IntKind.i64.wrap n = n := by rw [IntKind.wrap_i64]; omega
theorem frz_val {h : H} {N : Nat} {v : Value} {x : AV} : (∃ k, frz k h N (.val v) = some x) ↔ .val v = x :=
  ⟨fun ⟨k, e⟩ => by cases k <;> simp [frz] at e; exact e, fun e => ⟨1, by simp [frz, e]⟩⟩
theorem frz_ro {h : H} {N : Nat} {f : Bool} {k : Nat} {xs : List (List AV)} {x : AV} : (∃ n, frz n h N (.ro f k xs) = some x) ↔ .ro f k xs = x :=
  ⟨fun ⟨k, e⟩ => by cases k <;> simp [frz] at e; exact e, fun e => ⟨1, by simp [frz, e]⟩⟩

theorem LeN_refl {h : H} : H.LeN h h ↔ True := ⟨fun _ => trivial, fun _ _ _ _ e => e⟩
theorem LeN_push {h k : H} {cs : List AV} (hk : h.next ≤ k.next) : H.LeN h (k.push cs) ↔ H.LeN h k :=
  ⟨fun hl b cs hb e => by have := hl b cs hb e; simp only [H.push] at this; rwa [if_neg (by omega)] at this, fun hl b cs hb e => by simp only [H.push]; rw [if_neg (by omega)]; exact hl b cs hb e⟩
theorem LeN_set {h k : H} {b : Nat} {cs : List AV} (hb : h.next ≤ b) : H.LeN h (k.set b cs) ↔ H.LeN h k :=
  ⟨fun hl b cs hb e => by have := hl b cs hb e; simp only [H.set] at this; rwa [if_neg (by omega)] at this, fun hl b cs hb e => by simp only [H.set]; rw [if_neg (by omega)]; exact hl b cs hb e⟩
theorem push_get {h : H} {cs : List AV} {b : Nat} : (h.push cs).get b = if b = h.next then some cs else h.get b := rfl
theorem push_next {h : H} {cs : List AV} : (h.push cs).next = h.next + 1 := rfl
theorem set_get {h : H} {cs : List AV} {b q : Nat} : (h.set b cs).get q = if q = b then some cs else h.get q := rfl
theorem set_next {h : H} {cs : List AV} {b : Nat} : (h.set b cs).next = h.next := rfl
theorem nil_get {b : Nat} : H.nil.get b = none := rfl
theorem nil_next : H.nil.next = 0 := rfl

theorem indexA_ro {T E : TI} {e : TypeId} {f : Bool} {k : Nat} {xs : List (List AV)} {n : Nat} (hk : T.kind = .sl e) (hE : k = E.size) : indexA T E (.ro f k xs) (n : Int) = (xs[n]?).map AV.rop := by
  unfold indexA
  rw [if_neg (by omega), hk]
  simp only [hE, if_true, Int.toNat_natCast]
  cases xs[n]? <;> rfl
theorem lenA_ro {e : TypeId} {s by' : Nat} {z : List Value} {a f' cm : Bool} {f : Bool} {k : Nat} {xs : List (List AV)} : lenA { kind := .sl e, size := s, zero := z, agg := a, bytes := by', fok := f', cmp := cm } (.ro f k xs) = some (.val (.int .i64 xs.length)) := rfl
theorem indexA_ro0 {T E : TI} {e : TypeId} {f : Bool} {k : Nat} {xs : List (List AV)} (hk : T.kind = .sl e) (hE : k = E.size) : indexA T E (.ro f k xs) 0 = (xs[0]?).map AV.rop := indexA_ro (n := 0) hk hE
theorem indexA_ro1 {T E : TI} {e : TypeId} {f : Bool} {k : Nat} {xs : List (List AV)} {n : Nat} (hk : T.kind = .sl e) (hE : k = E.size) : indexA T E (.ro f k xs) ((n : Int) + 1) = (xs[n + 1]?).map AV.rop := indexA_ro (n := n + 1) hk hE
theorem indexA_sl {e : TypeId} {s by' : Nat} {z : List Value} {a f' cm : Bool} {E : TI} {b o len k n : Nat} (hE : k = E.size) (hn : n < len) : indexA { kind := .sl e, size := s, zero := z, agg := a, bytes := by', fok := f', cmp := cm } E (.sl b o len k) (n : Int) = some (.ptr b (o + n * k)) := by
  unfold indexA
  rw [if_neg (by omega)]
  simp only
  rw [if_pos ⟨hE, by omega⟩]
  simp
end Go.Pe
