/- The equations by which simplification walks through statements whose order is open. -/
import Derived.Test.YtblpmcmapadphaaPeQ
set_option linter.unusedVariables false
set_option linter.unusedSimpArgs false
namespace Go.Pe
open Go

def apQ (P : Program) (o : Oper) (q : H) (K : AV → Prop) (_ : Tag o) (_ : Tag K) (ρ : List AV) : Prop := stepQ P o q K ρ
def apE (P : Program) (own : Bool) (o : Oper) (v vc : H) (K : AV → H → Prop) (_ : Tag o) (_ : Tag K) (ρ : List AV) : Prop := stepE P own o v vc K ρ

/-- The block that a store writes, if the statement has made it. -/
def findNew : List Oper → Nat → Nat → Option Nat
  | [], _, _ => none
  | o :: l, t, j => if o.dst == some t && allocs o.op then some j else findNew l t (j + 1)
def fpT (all : Array Oper) (_ : Tag all) (t : Nat) : Option Nat := findNew all.toList t 0
theorem findNew_nil {t j : Nat} : findNew [] t j = none := rfl

section
variable {P : Program} {md : Oper → Bool} {own : Bool} {ρ : List AV} {h : H} {d : Option Nat} {ty : TypeId} {p : String} {af : Array Edge} {g : Option (Nat × Bool)} {K : AV → Prop} {KE : AV → H → Prop} {v vc : H}
theorem q_move {x : Operand} {t1 : Tag (Oper.mk d (.move x) ty p af g)} {t2 : Tag K} : apQ P (Oper.mk d (.move x) ty p af g) h K t1 t2 ρ = onSome (some (aev ρ x)) K .mk := by unfold apQ; rw [stepQ_eq]; exact congrArg (fun x => onSome x K .mk) pop_move
theorem q_assign {x : Operand} {t1 : Tag (Oper.mk d (.assign x) ty p af g)} {t2 : Tag K} : apQ P (Oper.mk d (.assign x) ty p af g) h K t1 t2 ρ = onSome (some (aev ρ x)) K .mk := by unfold apQ; rw [stepQ_eq]; exact congrArg (fun x => onSome x K .mk) pop_assign
theorem q_pick {c a b : Operand} {t1 : Tag (Oper.mk d (.pick c a b) ty p af g)} {t2 : Tag K} : apQ P (Oper.mk d (.pick c a b) ty p af g) h K t1 t2 ρ = onSome (pickA (aev ρ c) (aev ρ a) (aev ρ b)) K .mk := by unfold apQ; rw [stepQ_eq]; exact congrArg (fun x => onSome x K .mk) pop_pick
theorem q_load {t : TypeId} {q : Operand} {t1 : Tag (Oper.mk d (.load t q) ty p af g)} {t2 : Tag K} : apQ P (Oper.mk d (.load t q) ty p af g) h K t1 t2 ρ = onSome (tyInt P t fun T => loadA T h (aev ρ q)) K .mk := by unfold apQ; rw [stepQ_eq]; exact congrArg (fun x => onSome x K .mk) pop_load
theorem q_fieldAddr {s : TypeId} {x : Operand} {f : Nat} {t1 : Tag (Oper.mk d (.fieldAddr s x f) ty p af g)} {t2 : Tag K} : apQ P (Oper.mk d (.fieldAddr s x f) ty p af g) h K t1 t2 ρ = onSome (tyInt P s fun T => fieldA T f (aev ρ x)) K .mk := by unfold apQ; rw [stepQ_eq]; exact congrArg (fun x => onSome x K .mk) pop_fieldAddr
theorem q_indexAddr {t : TypeId} {x i : Operand} {t1 : Tag (Oper.mk d (.indexAddr t x i) ty p af g)} {t2 : Tag K} : apQ P (Oper.mk d (.indexAddr t x i) ty p af g) h K t1 t2 ρ = onSome (tyInt P t fun T => tyInt P (elemTy T.kind) fun E => idxA T E (aev ρ x) (intOf? (aev ρ i))) K .mk := by unfold apQ; rw [stepQ_eq]; exact congrArg (fun x => onSome x K .mk) pop_indexAddr
theorem q_field {s : TypeId} {x : Operand} {f : Nat} {t1 : Tag (Oper.mk d (.field s x f) ty p af g)} {t2 : Tag K} : apQ P (Oper.mk d (.field s x f) ty p af g) h K t1 t2 ρ = onSome (tyInt P s fun T => fldA P T f (aev ρ x)) K .mk := by unfold apQ; rw [stepQ_eq]; exact congrArg (fun x => onSome x K .mk) pop_field
theorem q_binOp {op : BinOp} {t ty2 : TypeId} {x y : Operand} {t1 : Tag (Oper.mk d (.binOp op t x y ty2) ty p af g)} {t2 : Tag K} : apQ P (Oper.mk d (.binOp op t x y ty2) ty p af g) h K t1 t2 ρ = onSome (tyInt P t fun T => binX P t T op (aev ρ x) (aev ρ y)) K .mk := by unfold apQ; rw [stepQ_eq]; exact congrArg (fun x => onSome x K .mk) pop_binOp
theorem q_unOp {op : UnOp} {ty2 : TypeId} {x : Operand} {t1 : Tag (Oper.mk d (.unOp op ty2 x) ty p af g)} {t2 : Tag K} : apQ P (Oper.mk d (.unOp op ty2 x) ty p af g) h K t1 t2 ρ = onSome (unA op (aev ρ x)) K .mk := by unfold apQ; rw [stepQ_eq]; exact congrArg (fun x => onSome x K .mk) pop_unOp
theorem q_convert {s t : TypeId} {x : Operand} {t1 : Tag (Oper.mk d (.convert s t x) ty p af g)} {t2 : Tag K} : apQ P (Oper.mk d (.convert s t x) ty p af g) h K t1 t2 ρ = onSome (tyInt P s fun _ => tyInt P t fun T => convA T (aev ρ x)) K .mk := by unfold apQ; rw [stepQ_eq]; exact congrArg (fun x => onSome x K .mk) pop_convert
theorem q_extract {t : Operand} {i : Nat} {t1 : Tag (Oper.mk d (.extract t i) ty p af g)} {t2 : Tag K} : apQ P (Oper.mk d (.extract t i) ty p af g) h K t1 t2 ρ = onSome (extA (aev ρ t) i) K .mk := by unfold apQ; rw [stepQ_eq]; exact congrArg (fun x => onSome x K .mk) pop_extract
theorem q_makeFunc {f : FuncId} {caps : Array Operand} {t1 : Tag (Oper.mk d (.makeFunc (.func f) #[] caps) ty p af g)} {t2 : Tag K} : apQ P (Oper.mk d (.makeFunc (.func f) #[] caps) ty p af g) h K t1 t2 ρ = onSome (some (.clo f (caps.toList.map (aev ρ)))) K .mk := by unfold apQ; rw [stepQ_eq]; exact congrArg (fun x => onSome x K .mk) pop_makeFunc
theorem q_nilCheck {x : Operand} {t1 : Tag (Oper.mk d (.nilCheck x) ty p af g)} {t2 : Tag K} : apQ P (Oper.mk d (.nilCheck x) ty p af g) h K t1 t2 ρ = onSome (nnA (aev ρ x)) K .mk := by unfold apQ; rw [stepQ_eq]; exact congrArg (fun x => onSome x K .mk) pop_nilCheck
theorem q_build {t : TypeId} {parts : Array (Nat × Operand)} {t1 : Tag (Oper.mk d (.build t parts) ty p af g)} {t2 : Tag K} : apQ P (Oper.mk d (.build t parts) ty p af g) h K t1 t2 ρ = onSome (tyInt P t fun T => if T.fok then buildA T (parts.toList.map fun p => (p.1, aev ρ p.2)) else none) K .mk := by unfold apQ; rw [stepQ_eq]; exact congrArg (fun x => onSome x K .mk) pop_build
theorem q_slice {t : TypeId} {x : Operand} {lo hi mx : Option Operand} {t1 : Tag (Oper.mk d (.slice t x lo hi mx) ty p af g)} {t2 : Tag K} : apQ P (Oper.mk d (.slice t x lo hi mx) ty p af g) h K t1 t2 ρ = onSome (tyInt P t fun T => tyInt P (elemTy T.kind) fun E => sliceA T E (aev ρ x) (lo.map (aev ρ)) (hi.map (aev ρ)) (mx.map (aev ρ))) K .mk := by unfold apQ; rw [stepQ_eq]; exact congrArg (fun x => onSome x K .mk) pop_slice
theorem q_len {t : TypeId} {x : Operand} {t1 : Tag (Oper.mk d (.call { callee := .builtin .len, args := #[x], argTypes := #[t] }) ty p af g)} {t2 : Tag K} : apQ P (Oper.mk d (.call { callee := .builtin .len, args := #[x], argTypes := #[t] }) ty p af g) h K t1 t2 ρ = onSome (tyInt P t fun T => lenA T (aev ρ x)) K .mk := by unfold apQ; rw [stepQ_eq]; exact congrArg (fun x => onSome x K .mk) pop_len
theorem q_max {args : Array Operand} {ats : Array TypeId} {t1 : Tag (Oper.mk d (.call { callee := .builtin .max, args := args, argTypes := ats }) ty p af g)} {t2 : Tag K} : apQ P (Oper.mk d (.call { callee := .builtin .max, args := args, argTypes := ats }) ty p af g) h K t1 t2 ρ = onSome (mmA true (args.toList.map (aev ρ))) K .mk := by unfold apQ; rw [stepQ_eq]; exact congrArg (fun x => onSome x K .mk) pop_max
theorem q_min {args : Array Operand} {ats : Array TypeId} {t1 : Tag (Oper.mk d (.call { callee := .builtin .min, args := args, argTypes := ats }) ty p af g)} {t2 : Tag K} : apQ P (Oper.mk d (.call { callee := .builtin .min, args := args, argTypes := ats }) ty p af g) h K t1 t2 ρ = onSome (mmA false (args.toList.map (aev ρ))) K .mk := by unfold apQ; rw [stepQ_eq]; exact congrArg (fun x => onSome x K .mk) pop_min
theorem e_alloc {t : TypeId} {t1 : Tag (Oper.mk d (.alloc t) ty p af g)} {t2 : Tag KE} : apE P own (Oper.mk d (.alloc t) ty p af g) v vc KE t1 t2 ρ = onSome (tyInt2 P t fun T => some (.ptr v.next 0, v.push (T.zero.map .val))) (fun r => KE r.1 r.2) .mk := by unfold apE; rw [stepE_eq]; exact congrArg (fun x => onSome x (fun r => KE r.1 r.2) .mk) eop_alloc
theorem e_box {t : TypeId} {x : Operand} {t1 : Tag (Oper.mk d (.box t x) ty p af g)} {t2 : Tag KE} : apE P own (Oper.mk d (.box t x) ty p af g) v vc KE t1 t2 ρ = onSome (boxA v (cellsOf (aev ρ x))) (fun r => KE r.1 r.2) .mk := by unfold apE; rw [stepE_eq]; exact congrArg (fun x => onSome x (fun r => KE r.1 r.2) .mk) eop_box
theorem e_store {t : TypeId} {q x : Operand} {t1 : Tag (Oper.mk d (.store t q x) ty p af g)} {t2 : Tag KE} : apE P own (Oper.mk d (.store t q x) ty p af g) v vc KE t1 t2 ρ = onSome (tyInt2 P t fun T => storeA T v (aev ρ q) (aev ρ x)) (fun r => KE r.1 r.2) .mk := by unfold apE; rw [stepE_eq]; exact congrArg (fun x => onSome x (fun r => KE r.1 r.2) .mk) eop_store
theorem e_buildSlice {t : TypeId} {n : Nat} {parts : Array (Nat × Operand)} {t1 : Tag (Oper.mk d (.buildSlice t n parts) ty p af g)} {t2 : Tag KE} : apE P own (Oper.mk d (.buildSlice t n parts) ty p af g) v vc KE t1 t2 ρ = onSome (tyInt2 P t fun T => elS P T fun E => buildSliceA E v n (parts.toList.map fun p => (p.1, aev ρ p.2))) (fun r => KE r.1 r.2) .mk := by unfold apE; rw [stepE_eq]; exact congrArg (fun x => onSome x (fun r => KE r.1 r.2) .mk) eop_buildSlice
theorem e_makeSlice {t : TypeId} {l c : Operand} {t1 : Tag (Oper.mk d (.makeSlice t l c) ty p af g)} {t2 : Tag KE} : apE P own (Oper.mk d (.makeSlice t l c) ty p af g) v vc KE t1 t2 ρ = onSome (tyInt2 P t fun T => elS P T fun E => mkA E v (intOf? (aev ρ l)) (intOf? (aev ρ c))) (fun r => KE r.1 r.2) .mk := by unfold apE; rw [stepE_eq]; exact congrArg (fun x => onSome x (fun r => KE r.1 r.2) .mk) eop_makeSlice
theorem e_append {t tx : TypeId} {s x : Operand} {t1 : Tag (Oper.mk d (.call { callee := .builtin .append, args := #[s, x], argTypes := #[t, tx] }) ty p af g)} {t2 : Tag KE} : apE P own (Oper.mk d (.call { callee := .builtin .append, args := #[s, x], argTypes := #[t, tx] }) ty p af g) v vc KE t1 t2 ρ = onSome (tyInt2 P t fun T => tyInt2 P tx fun TX => elS2 P T TX fun E => appendA E own v (aev ρ s) (aev ρ x)) (fun r => KE r.1 r.2) .mk := by unfold apE; rw [stepE_eq]; exact congrArg (fun x => onSome x (fun r => KE r.1 r.2) .mk) eop_append
theorem q_call {f : Operand} {args : Array Operand} {ats : Array TypeId} {t1 : Tag (Oper.mk d (.call { callee := .value f, args := args, argTypes := ats }) ty p af g)} {t2 : Tag K} : apQ P (Oper.mk d (.call { callee := .value f, args := args, argTypes := ats }) ty p af g) h K t1 t2 ρ =
    onClo (aev ρ f) (fun f' caps => onCallQ P f' (args.toList.map (aev ρ) ++ caps) h K .mk) .mk := rfl
theorem e_call {f : Operand} {args : Array Operand} {ats : Array TypeId} {t1 : Tag (Oper.mk d (.call { callee := .value f, args := args, argTypes := ats }) ty p af g)} {t2 : Tag KE} : apE P own (Oper.mk d (.call { callee := .value f, args := args, argTypes := ats }) ty p af g) v vc KE t1 t2 ρ =
    onClo (aev ρ f) (fun f' caps => onCallE P f' (args.toList.map (aev ρ) ++ caps) vc KE .mk) .mk := rfl

variable {ct : Cert} {all : Array Oper} {h0 : H} {Q : List AV → H → Prop} {rest : List Oper} {i : Nat} {G : Nat → Option (List AV)}
theorem dr_free {op : Op} {t : Tag (vcDr P md ct all h0 Q (Oper.mk d op ty p af none :: rest) i)} : apG (vcDr P md ct all h0 Q (Oper.mk d op ty p af none :: rest) i) t ρ G =
    ifB (quietA ct i (Oper.mk d op ty p af none)) (apQ P (Oper.mk d op ty p af none) (qView ct h0 all.size i) (fun x => apG (vcDr P md ct all h0 Q rest (i + 1)) .mk (putA ρ d x) G) .mk .mk ρ)
      (apE P (md (Oper.mk d op ty p af none)) (Oper.mk d op ty p af none) (eView all ct h0 i (h0.next + i) (Oper.mk d op ty p af none) G) (eView all ct h0 i (h0.next + all.size) (Oper.mk d op ty p af none) G) (fun x h' => apG (vcDr P md ct all h0 Q rest (i + 1)) .mk (putA ρ d x) (mergeG G (eView all ct h0 i (h0.next + i) (Oper.mk d op ty p af none) G) h')) .mk .mk ρ) .mk .mk := by
  rw [ap_dr_cons]; unfold ifB apQ apE; rfl
theorem dr_guard {op : Op} {j : Nat} {want : Bool} {t : Tag (vcDr P md ct all h0 Q (Oper.mk d op ty p af (some (j, want)) :: rest) i)} : apG (vcDr P md ct all h0 Q (Oper.mk d op ty p af (some (j, want)) :: rest) i) t ρ G =
    onSome (dstT all .mk j) (fun d' => onBool (ρ.getD d' (.val undef)) (fun b => ifB (b == want) (ifB (quietA ct i (Oper.mk d op ty p af (some (j, want)))) (apQ P (Oper.mk d op ty p af (some (j, want))) (qView ct h0 all.size i) (fun x => apG (vcDr P md ct all h0 Q rest (i + 1)) .mk (putA (ρ.set d' (.val (.bool want))) d x) G) .mk .mk (ρ.set d' (.val (.bool want))))
      (apE P (md (Oper.mk d op ty p af (some (j, want)))) (Oper.mk d op ty p af (some (j, want))) (eView all ct h0 i (h0.next + i) (Oper.mk d op ty p af (some (j, want))) G) (eView all ct h0 i (h0.next + all.size) (Oper.mk d op ty p af (some (j, want))) G) (fun x h' => apG (vcDr P md ct all h0 Q rest (i + 1)) .mk (putA (ρ.set d' (.val (.bool want))) d x) (mergeG G (eView all ct h0 i (h0.next + i) (Oper.mk d op ty p af (some (j, want))) G) h')) .mk .mk (ρ.set d' (.val (.bool want)))) .mk .mk)
          (apG (vcDr P md ct all h0 Q rest (i + 1)) .mk (putA (ρ.set d' (.val (.bool !want))) d (.val undef)) G) .mk .mk)
          (apG (vcDr P md ct all h0 Q rest (i + 1)) .mk (putA ρ d (.val undef)) G) .mk .mk) .mk := by
  rw [ap_dr_cons]; unfold ifB apQ apE; rfl
theorem qView_next {m : Nat} : (qView ct h0 m i).next = h0.next + m := rfl
theorem eView_next {nx : Nat} {o : Oper} : (eView all ct h0 i nx o G).next = nx := rfl
/-- Whether a block is among those that are named. -/
def hit : List Nat → Nat → Nat → Bool
  | [], _, _ => false
  | j :: l, n, b => n + j == b || hit l n b
theorem hit_nil {n b : Nat} : hit [] n b = false := rfl
theorem hit_cons {j n b : Nat} {l : List Nat} : hit (j :: l) n b = (n + j == b || hit l n b) := rfl
theorem on_hit {n b : Nat} : ∀ {l : List Nat}, l.any (fun j => n + j == b) = hit l n b
  | [] => rfl
  | j :: l => by rw [List.any_cons, on_hit]; rfl
theorem on_hit0 {b : Nat} : ∀ {l : List Nat}, l.contains b = hit l 0 b
  | [] => rfl
  | j :: l => by
    have := on_hit0 (b := b) (l := l)
    rw [List.contains_cons, this, hit_cons, Nat.zero_add]
    congr 1
    rw [Bool.eq_iff_iff]; simp only [beq_iff_eq]; exact eq_comm
/-- Whether a pair is among those that are named. -/
def hit2 : List (Nat × Nat) → Nat → Nat → Bool
  | [], _, _ => false
  | p :: l, i, b => (p.1 == i && p.2 == b) || hit2 l i b
@[simp] theorem hit2_nil {i b : Nat} : hit2 [] i b = false := rfl
@[simp] theorem hit2_cons {p q i b : Nat} {l : List (Nat × Nat)} : hit2 ((p, q) :: l) i b = ((p == i && q == b) || hit2 l i b) := rfl
theorem on_hit2 {i b : Nat} : ∀ {l : List (Nat × Nat)}, l.contains (i, b) = hit2 l i b
  | [] => rfl
  | (p, q) :: l => by
    rw [List.contains_cons, on_hit2, hit2_cons]
    congr 1
    rw [Bool.eq_iff_iff]
    simp only [beq_iff_eq, Bool.and_eq_true, Prod.mk.injEq]
    exact ⟨fun h => ⟨h.1.symm, h.2.symm⟩, fun h => ⟨h.1.symm, h.2.symm⟩⟩
theorem qView_get {m b : Nat} : (qView ct h0 m i).get b = if (hit ct.M 0 b && !(hit2 ct.see i b)) = true then none else h0.get b := by
  rw [← on_hit0, ← on_hit2]; rfl
def optL : Option Nat → List Nat
  | some j => [j]
  | none => []
theorem optL_some {j : Nat} : optL (some j) = [j] := rfl
theorem optL_none : optL none = [] := rfl
theorem eView_get {nx b : Nat} {o : Oper} : (eView all ct h0 i nx o G).get b = if (hit (fpn all i o) h0.next b || hit (fpo ct i) 0 b) = true then G b else none := by
  rw [← on_hit, ← on_hit0]; rfl
theorem fp_alloc {t : TypeId} : fpn all i (Oper.mk d (.alloc t) ty p af g) = [i] := rfl
theorem fp_box {t : TypeId} {x : Operand} : fpn all i (Oper.mk d (.box t x) ty p af g) = [i] := rfl
theorem fp_make {t : TypeId} {x y : Operand} : fpn all i (Oper.mk d (.makeSlice t x y) ty p af g) = [i] := rfl
theorem fp_append {args : Array Operand} {ats : Array TypeId} : fpn all i (Oper.mk d (.call { callee := .builtin .append, args := args, argTypes := ats }) ty p af g) = [i] := rfl
theorem fp_build {t : TypeId} {n : Nat} {parts : Array (Nat × Operand)} : fpn all i (Oper.mk d (.buildSlice t n parts) ty p af g) = [] := rfl
theorem fp_call {f : Operand} {args : Array Operand} {ats : Array TypeId} : fpn all i (Oper.mk d (.call { callee := .value f, args := args, argTypes := ats }) ty p af g) = [] := rfl
theorem fp_store {t : TypeId} {x y : Operand} : fpn all i (Oper.mk d (.store t x y) ty p af g) = optL (storeNew all (.store t x y)) := by
  simp only [fpn, allocs]; cases storeNew all (.store t x y) <;> rfl
theorem mergeG_get {w w' : H} {b : Nat} : mergeG G w w' b = if ((w.get b).isSome || (w'.get b).isSome) = true then w'.get b else G b := rfl
theorem LeN_nil {k : H} : H.LeN H.nil k ↔ True := ⟨fun _ => trivial, fun _ b cs hb _ => absurd hb (Nat.not_lt_zero _)⟩
theorem on_find {L : List Oper} {t : Nat} : ∀ (l : List Oper) (k : Nat), (∀ j, L[k + j]? = l[j]?) → ((List.range' k l.length).find? fun j => match L.toArray[j]? with | some o => o.dst == some t && allocs o.op | none => false) = findNew l t k
  | [], k, _ => rfl
  | o :: l, k, hl => by
    have h0 : L[k]? = some o := by simpa using hl 0
    have ih := on_find (t := t) l (k + 1) fun j => by have := hl (j + 1); simpa [Nat.add_assoc, Nat.add_comm 1 j] using this
    simp only [List.length_cons, List.range'_succ, List.find?_cons, List.getElem?_toArray, h0, findNew]
    simp only [List.getElem?_toArray] at ih
    split
    · rename_i hb; rw [hb]; rfl
    · rename_i hb; rw [hb]; exact ih
theorem new_store {l : List Oper} {t : TypeId} {k : Nat} {x : Operand} : storeNew l.toArray (.store t (.tmp k) x) = findNew l k 0 := by
  have := on_find (L := l) (t := k) l 0 (by simp)
  unfold storeNew
  rw [← this, List.range_eq_range']
  simp only [List.size_toArray]
  congr 1
theorem findNew_cons {l : List Oper} {t j : Nat} {d : Option Nat} {op : Op} {ty : TypeId} {p : String} {af : Array Edge} {g : Option (Nat × Bool)} : findNew (Oper.mk d op ty p af g :: l) t j = if (d == some t && allocs op) = true then some j else findNew l t (j + 1) := by
  simp only [findNew]
end

end Go.Pe
