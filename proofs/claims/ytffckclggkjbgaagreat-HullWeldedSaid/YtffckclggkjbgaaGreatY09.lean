import Derived.Test.YtffckclggkjbgaaGreatY08
set_option linter.unusedVariables false
set_option linter.unusedSimpArgs false
/- How simplification walks through code: the continuation stays closed until what it waits for is a value. -/
namespace Go.Pe
open Go

@[simp] theorem push_lp {h : H} {cs : List AV} : (h.push cs).lp = h.lp := rfl
@[simp] theorem set_lp {h : H} {b : Nat} {cs : List AV} : (h.set b cs).lp = h.lp := rfl
@[simp] theorem LeL_refl {h : H} : H.LeL h h = True := by simp [H.LeL]
@[simp] theorem LeL_push {h k : H} {cs : List AV} : H.LeL h (k.push cs) = H.LeL h k := rfl
@[simp] theorem LeL_set {h k : H} {b : Nat} {cs : List AV} : H.LeL h (k.set b cs) = H.LeL h k := rfl
@[simp] theorem LeL_nil {k : H} : H.LeL H.nil k = True := by simp [H.LeL, H.nil]
@[simp] theorem LeL_mk {h k : H} {n : Nat} {g : Nat → Option (List AV)} : H.LeL h { next := n, get := g, lp := k.lp } = H.LeL h k := rfl
@[simp] theorem LeL_mknil {k : H} {n : Nat} {g : Nat → Option (List AV)} : H.LeL { next := n, get := g, lp := fun _ => none } k = True := by simp [H.LeL]
@[simp] theorem nil_lp : H.nil.lp = fun _ => none := rfl

def ap (F : List AV → H → Prop) (_ : Tag F) (ρ : List AV) (h : H) : Prop := F ρ h
def apG (F : List AV → (Nat → Option (List AV)) → Prop) (_ : Tag F) (ρ : List AV) (g : Nat → Option (List AV)) : Prop := F ρ g
def seqK (V : List AV → H → Prop) (Q : Exit → List AV → H → Prop) : Exit → List AV → H → Prop := fun e ρ h => match e with | .normal => V ρ h | e => Q e ρ h
def blockK (id : Nat) (Q : Exit → List AV → H → Prop) : Exit → List AV → H → Prop := fun e ρ h => match e with | .exit id' => (if id' = id then Q .normal ρ h else Q (.exit id') ρ h) | e => Q e ρ h
def dstT (all : Array Oper) (_ : Tag all) (j : Nat) : Option Nat := (all[j]?).bind (·.dst)
theorem dstT_zero {o : Oper} {l : List Oper} {t : Tag (o :: l).toArray} : dstT (o :: l).toArray t 0 = o.dst := by simp [dstT]
theorem dstT_succ {o : Oper} {l : List Oper} {j : Nat} {t : Tag (o :: l).toArray} : dstT (o :: l).toArray t (j + 1) = dstT l.toArray .mk j := by simp [dstT]

section
variable {P : Program} {md : Oper → Bool} {ct : Nat → Cert} {rd : Option Nat} {Q : Exit → List AV → H → Prop} {ρ : List AV} {h : H}
theorem ap_skip {t : Tag (vc P md ct rd .skip Q)} : ap (vc P md ct rd .skip Q) t ρ h = ap (Q .normal) .mk ρ h := rfl
theorem ap_region {id : Nat} {l : List Oper} {t : Tag (vc P md ct rd (.region id l.toArray false) Q)} : ap (vc P md ct rd (.region id l.toArray false) Q) t ρ h = ap (vcOps P md l.toArray (Q .normal) l) .mk ρ h := rfl
theorem ap_seq {x y : Code} {t : Tag (vc P md ct rd (.seq x y) Q)} : ap (vc P md ct rd (.seq x y) Q) t ρ h = ap (vc P md ct rd x (seqK (vc P md ct rd y Q) Q)) .mk ρ h := rfl
theorem ap_cond {c : Operand} {x y : Code} {t : Tag (vc P md ct rd (.cond c x y) Q)} : ap (vc P md ct rd (.cond c x y) Q) t ρ h = onBool (aev ρ c) (fun b => ifB b (ap (vc P md ct rd x Q) .mk ρ h) (ap (vc P md ct rd y Q) .mk ρ h) .mk .mk) False .mk .mk := rfl
theorem ap_block {id : Nat} {x : Code} {t : Tag (vc P md ct rd (.block id x) Q)} : ap (vc P md ct rd (.block id x) Q) t ρ h = ap (vc P md ct rd x (blockK id Q)) .mk ρ h := rfl
theorem ap_loop {x : Code} {t : Tag (vc P md ct rd (.loop x) Q)} : ap (vc P md ct rd (.loop x) Q) t ρ h = LoopC P md ct rd x Q .mk ρ h := rfl
theorem ap_exit {id : Nat} {t : Tag (vc P md ct rd (.exit id) Q)} : ap (vc P md ct rd (.exit id) Q) t ρ h = ap (Q (.exit id)) .mk ρ h := rfl
theorem ap_ret {t : Tag (vc P md ct rd .ret Q)} : ap (vc P md ct rd .ret Q) t ρ h = ap (Q .ret) .mk ρ h := rfl
theorem ap_seq_normal {V : List AV → H → Prop} {t : Tag (seqK V Q .normal)} : ap (seqK V Q .normal) t ρ h = ap V .mk ρ h := rfl
theorem ap_seq_ret {V : List AV → H → Prop} {t : Tag (seqK V Q .ret)} : ap (seqK V Q .ret) t ρ h = ap (Q .ret) .mk ρ h := rfl
theorem ap_seq_exit {V : List AV → H → Prop} {id : Nat} {t : Tag (seqK V Q (.exit id))} : ap (seqK V Q (.exit id)) t ρ h = ap (Q (.exit id)) .mk ρ h := rfl
theorem ap_block_normal {id : Nat} {t : Tag (blockK id Q .normal)} : ap (blockK id Q .normal) t ρ h = ap (Q .normal) .mk ρ h := rfl
theorem ap_block_ret {id : Nat} {t : Tag (blockK id Q .ret)} : ap (blockK id Q .ret) t ρ h = ap (Q .ret) .mk ρ h := rfl
theorem ap_block_exit {id : Nat} {t : Tag (blockK id Q (.exit id))} : ap (blockK id Q (.exit id)) t ρ h = ap (Q .normal) .mk ρ h := by simp [ap, blockK]
theorem ap_block_other {id id' : Nat} (hne : id' ≠ id) {t : Tag (blockK id Q (.exit id'))} : ap (blockK id Q (.exit id')) t ρ h = ap (Q (.exit id')) .mk ρ h := by simp [ap, blockK, hne]
theorem ap_nil {all : Array Oper} {Q : List AV → H → Prop} {t : Tag (vcOps P md all Q [])} : ap (vcOps P md all Q []) t ρ h = ap Q .mk ρ h := rfl
theorem ap_cons {all : Array Oper} {Q : List AV → H → Prop} {rest : List Oper} {o : Oper} {t : Tag (vcOps P md all Q (o :: rest))} : ap (vcOps P md all Q (o :: rest)) t ρ h = match o.guard with
    | none => ap (stepA P md o (vcOps P md all Q rest)) .mk ρ h
    | some (j, want) => onSome (dstT all .mk j) (fun d => onBool (ρ.getD d (.val undef)) (fun b => ifB (b == want) (ap (stepA P md o (vcOps P md all Q rest)) .mk (ρ.set d (.val (.bool want))) h) (ap (vcOps P md all Q rest) .mk (putA (ρ.set d (.val (.bool !want))) o.dst (.val undef)) h) .mk .mk)
          (ap (vcOps P md all Q rest) .mk (putA ρ o.dst (.val undef)) h) .mk .mk) .mk := rfl
theorem ap_step {o : Oper} {K : List AV → H → Prop} {t : Tag (stepA P md o K)} : ap (stepA P md o K) t ρ h = match o.op with
  | .call { callee := .value f, args, .. } => onFn (aev ρ f) (fun g caps => onCall P g (args.toList.map (aev ρ) ++ caps) h (fun x h' => ap K .mk (putA ρ o.dst x) h') .mk) (fun b => onRound P b (args.toList.map (aev ρ)) h (fun x h' => ap K .mk (putA ρ o.dst x) h') .mk) .mk .mk
  | _ => onSome (stepV P (md o) o ρ h) (fun r => ap K .mk (putA ρ o.dst r.1) r.2) .mk := rfl

theorem ap_draw {id : Nat} {l : List Oper} {t : Tag (vc P md ct rd (.region id l.toArray true) Q)} : ap (vc P md ct rd (.region id l.toArray true) Q) t ρ h = ((∀ b ∈ (ct id).M, b < h.next) ∧ apG (vcDr P md (ct id) l.toArray h (Q .normal) l 0) .mk ρ h.get) := rfl
theorem ap_dr_nil {ct : Cert} {l : List Oper} {h0 : H} {Q : List AV → H → Prop} {i : Nat} {g : Nat → Option (List AV)} {t : Tag (vcDr P md ct l.toArray h0 Q [] i)} : apG (vcDr P md ct l.toArray h0 Q [] i) t ρ g = ap Q .mk ρ { next := h0.next + l.length, get := g, lp := h0.lp } := by simp [apG, ap, vcDr]
theorem ap_dr_cons {ct : Cert} {all : Array Oper} {h0 : H} {Q : List AV → H → Prop} {o : Oper} {rest : List Oper} {i : Nat} {g : Nat → Option (List AV)} {t : Tag (vcDr P md ct all h0 Q (o :: rest) i)} : apG (vcDr P md ct all h0 Q (o :: rest) i) t ρ g = match o.guard with
    | none => if quietA ct i o then stepQ P o (qView ct h0 all.size i) (fun x => apG (vcDr P md ct all h0 Q rest (i + 1)) .mk (putA ρ o.dst x) g) ρ
        else stepE P (md o) o (eView all ct h0 i (h0.next + i) o g) (eView all ct h0 i (h0.next + all.size) o g) (fun x h' => apG (vcDr P md ct all h0 Q rest (i + 1)) .mk (putA ρ o.dst x) (mergeG g (eView all ct h0 i (h0.next + i) o g) h')) ρ
    | some (j, want) => onSome (dstT all .mk j) (fun d => onBool (ρ.getD d (.val undef)) (fun b => ifB (b == want) (if quietA ct i o then stepQ P o (qView ct h0 all.size i) (fun x => apG (vcDr P md ct all h0 Q rest (i + 1)) .mk (putA (ρ.set d (.val (.bool want))) o.dst x) g) (ρ.set d (.val (.bool want)))
            else stepE P (md o) o (eView all ct h0 i (h0.next + i) o g) (eView all ct h0 i (h0.next + all.size) o g) (fun x h' => apG (vcDr P md ct all h0 Q rest (i + 1)) .mk (putA (ρ.set d (.val (.bool want))) o.dst x) (mergeG g (eView all ct h0 i (h0.next + i) o g) h')) (ρ.set d (.val (.bool want))))
          (apG (vcDr P md ct all h0 Q rest (i + 1)) .mk (putA (ρ.set d (.val (.bool !want))) o.dst (.val undef)) g) .mk .mk)
          (apG (vcDr P md ct all h0 Q rest (i + 1)) .mk (putA ρ o.dst (.val undef)) g) .mk .mk) .mk := rfl
theorem stepQ_eq {o : Oper} {q : H} {K : AV → Prop} : stepQ P o q K ρ = match o.op with
  | .call { callee := .value f, args, .. } => onClo (aev ρ f) (fun g caps => onCallQ P g (args.toList.map (aev ρ) ++ caps) q K .mk) .mk
  | _ => onSome (pop P o ρ q) K .mk := rfl
theorem stepE_eq {own : Bool} {o : Oper} {v vc : H} {K : AV → H → Prop} : stepE P own o v vc K ρ = match o.op with
  | .call { callee := .value f, args, .. } => onClo (aev ρ f) (fun g caps => onCallE P g (args.toList.map (aev ρ) ++ caps) vc v.next K .mk) .mk
  | _ => onSome (eop P own o ρ v) (fun r => K r.1 r.2) .mk := rfl

def loopK {σ : Type} (tm : σ → (Nat → AV) → List AV) (hp : σ → H → Prop) (μ : σ → Nat) (n : Nat) : List AV → H → Prop := fun ρ' h' => ∃ s', hp s' h' ∧ ρ' = tm s' (fun k => ρ'.getD k (.val undef)) ∧ μ s' < n
theorem ap_loopK {σ : Type} {tm : σ → (Nat → AV) → List AV} {hp : σ → H → Prop} {μ : σ → Nat} {n : Nat} {t : Tag (loopK tm hp μ n)} : ap (loopK tm hp μ n) t ρ h = ∃ s', hp s' h ∧ ρ = tm s' (fun k => ρ.getD k (.val undef)) ∧ μ s' < n := rfl
/-- A LOOP, BY A FORM OF ITS SLOTS. -/
theorem LoopC.on {x : Code} {σ : Type} (tm : σ → (Nat → AV) → List AV) (hp : σ → H → Prop) (μ : σ → Nat) (s0 : σ) (h0 : hp s0 h) (e0 : ρ = tm s0 (fun k => ρ.getD k (.val undef)))
    (round : ∀ s j h, hp s h → ap (vc P md ct rd x (seqK (loopK tm hp μ (μ s)) Q)) .mk (tm s j) h) {t : Tag Q} : LoopC P md ct rd x Q t ρ h :=
  LoopC.by tm hp μ s0 h0 e0 round

/-- A FUNCTION THAT LEAVES THE HEAP ALONE. -/
theorem Fn.keep {f : FuncId} {fn : Func} {code : Code} (md : Oper → Bool) (ct : Nat → Cert) {args : List AV} {x : AV} (hcall : callable P f = true) (hf : P.funcs[f]? = some fn) (hb : fn.body = some code) (hd : drawsOk P ct code = true)
    (hv : LiveH h → ap (vc P md ct none code (FinK P fn h x)) .mk (args ++ List.replicate (fn.ntmps - args.length) (.val undef)) h) : Fn P f args h x h := Fn.of_vc_keep md ct hcall hf hb hd hv
theorem ap_fin_ret {fn : Func} {x : AV} {h0 : H} {t : Tag (FinK P fn h0 x .ret)} : ap (FinK P fn h0 x .ret) t ρ h = onSome (resA P fn.results ρ h) (fun y => (∃ k, frz k h h0.next y = some x) ∧ H.LeN h0 h ∧ H.LeL h0 h) .mk := by
  unfold ap FinK onSome; cases resA P fn.results ρ h <;> simp
theorem ap_fin_normal {fn : Func} {x : AV} {h0 : H} {t : Tag (FinK P fn h0 x .normal)} : ap (FinK P fn h0 x .normal) t ρ h = onSome (resA P fn.results ρ h) (fun y => (∃ k, frz k h h0.next y = some x) ∧ H.LeN h0 h ∧ H.LeL h0 h) .mk := by
  unfold ap FinK onSome; cases resA P fn.results ρ h <;> simp
end

end Go.Pe

/- The equations by which simplification walks: one for each kind of operation, so that the kernel has nothing to unfold. -/
namespace Go.Pe
open Go

def pickA (c a b : AV) : Option AV := match c with
  | .val (.bool t) => some (if t then a else b)
  | _ => none
def nnA (x : AV) : Option AV := match x with
  | .ptr b o => some (.ptr b o)
  | .rop cs => some (.rop cs)
  | _ => none
def idxA (T E : TI) (x : AV) (i : Option Int) : Option AV := match i with
  | some n => indexA T E x n
  | none => none
def fldA (P : Program) (T : TI) (f : Nat) (x : AV) : Option AV := match T.kind, x with
  | .st fs, .agg cs => match fs[f]? with
    | some (off, _, ft) => tyInt P ft fun E => partA E cs off
    | none => none
  | _, _ => none
def boxA (h : H) (x : Option (List AV)) : Option (AV × H) := match x with
  | some l => some (.ptr h.next 0, h.push l)
  | none => none
def elS (P : Program) (T : TI) (f : TI → Option (AV × H)) : Option (AV × H) := match T.kind with
  | .sl e => tyInt2 P e f
  | _ => none
def elS2 (P : Program) (T TX : TI) (f g : TI → Option (AV × H)) : Option (AV × H) := match T.kind, TX.kind with
  | .sl e, .sl _ => tyInt2 P e f
  | .sl e, .int _ => tyInt2 P e g
  | _, _ => none
def mkA (E : TI) (h : H) (l c : Option Int) : Option (AV × H) := match l, c with
  | some l, some c => makeSliceA E h l c
  | _, _ => none

theorem frz_le {h : H} {N : Nat} : ∀ {k k' : Nat}, k ≤ k' → ∀ {x y : AV}, frz k h N x = some y → frz k' h N x = some y := by
  intro k
  induction k with
  | zero => intro k' _ x y e; simp [frz] at e
  | succ k ih =>
    intro k' hk x y e
    obtain ⟨j, rfl⟩ : ∃ j, k' = j + 1 := ⟨k' - 1, by omega⟩
    have hm : ∀ {l m : List AV}, l.mapM (frz k h N) = some m → l.mapM (frz j h N) = some m := by
      intro l
      induction l with
      | nil => intro m e; simpa using e
      | cons a l ihl =>
        intro m e
        rw [List.mapM_cons] at e ⊢
        cases ha : frz k h N a with
        | none => simp [ha] at e
        | some b =>
          cases hl : l.mapM (frz k h N) with
          | none => simp [ha, hl] at e
          | some m' =>
            rw [ih (show k ≤ j by omega) ha, ihl hl]
            simpa [ha, hl] using e
    cases x with
    | val v => simpa [frz] using e
    | ro f k xs => simpa [frz] using e
    | rop cs => simpa [frz] using e
    | yld b => simpa [frz] using e
    | agg l =>
      simp only [frz] at e ⊢
      cases hl : l.mapM (frz k h N) with
      | none => simp [hl] at e
      | some m => rw [hm hl]; simpa [hl] using e
    | tup l =>
      simp only [frz] at e ⊢
      cases hl : l.mapM (frz k h N) with
      | none => simp [hl] at e
      | some m => rw [hm hl]; simpa [hl] using e
    | clo f l =>
      simp only [frz] at e ⊢
      cases hl : l.mapM (frz k h N) with
      | none => simp [hl] at e
      | some m => rw [hm hl]; simpa [hl] using e
    | ptr b o =>
      simp only [frz] at e ⊢
      split at e
      · rename_i hb; rw [if_pos hb]; exact e
      · rename_i hb
        rw [if_neg hb]
        cases hg : h.get b with
        | none => simp [hg] at e
        | some cs =>
          cases hl : (cs.drop o).mapM (frz k h N) with
          | none => simp [hg, hl] at e
          | some m => simp only [hm hl]; simpa [hg, hl] using e
    | sl b o len kk =>
      simp only [frz] at e ⊢
      split at e
      · rename_i hb; rw [if_pos hb]; exact e
      · rename_i hb
        rw [if_neg hb]
        cases hg : h.get b with
        | none => simp [hg] at e
        | some cs =>
          cases ht : takeAt cs o (len * kk) with
          | none => simp [hg, ht] at e
          | some ds =>
            cases hl : ds.mapM (frz k h N) with
            | none => simp [hg, ht, hl] at e
            | some m => simp only [ht, hm hl]; simpa [hg, ht, hl] using e
    | slc b o len kk cap =>
      simp only [frz] at e ⊢
      split at e
      · rename_i hb; rw [if_pos hb]; exact e
      · rename_i hb
        rw [if_neg hb]
        cases hg : h.get b with
        | none => simp [hg] at e
        | some cs =>
          cases ht : takeAt cs o (len * kk) with
          | none => simp [hg, ht] at e
          | some ds =>
            cases hl : ds.mapM (frz k h N) with
            | none => simp [hg, ht, hl] at e
            | some m => simp only [ht, hm hl]; simpa [hg, ht, hl] using e

section
variable {P : Program} {md : Oper → Bool} {own : Bool} {ρ : List AV} {h : H} {d : Option Nat} {ty : TypeId} {p : String} {af : Array Edge} {g : Option (Nat × Bool)} {K : List AV → H → Prop}
theorem pop_move {x : Operand} : pop P (Oper.mk d (.move x) ty p af g) ρ h = some (aev ρ x) := by first | rfl | (simp [pop]; rfl) | simp [pop]
theorem pop_assign {x : Operand} : pop P (Oper.mk d (.assign x) ty p af g) ρ h = some (aev ρ x) := by first | rfl | (simp [pop]; rfl) | simp [pop]
theorem pop_pick {c a b : Operand} : pop P (Oper.mk d (.pick c a b) ty p af g) ρ h = pickA (aev ρ c) (aev ρ a) (aev ρ b) := by first | rfl | (simp [pop]; rfl) | simp [pop]
theorem pop_load {t : TypeId} {q : Operand} : pop P (Oper.mk d (.load t q) ty p af g) ρ h = tyInt P t fun T => loadA T h (aev ρ q) := by first | rfl | (simp [pop]; rfl) | simp [pop]
theorem pop_fieldAddr {s : TypeId} {x : Operand} {f : Nat} : pop P (Oper.mk d (.fieldAddr s x f) ty p af g) ρ h = tyInt P s fun T => fieldA T f (aev ρ x) := by first | rfl | (simp [pop]; rfl) | simp [pop]
theorem pop_indexAddr {t : TypeId} {x i : Operand} : pop P (Oper.mk d (.indexAddr t x i) ty p af g) ρ h = tyInt P t fun T => tyInt P (elemTy T.kind) fun E => idxA T E (aev ρ x) (intOf? (aev ρ i)) := by first | rfl | (simp [pop]; rfl) | simp [pop]
theorem pop_field {s : TypeId} {x : Operand} {f : Nat} : pop P (Oper.mk d (.field s x f) ty p af g) ρ h = tyInt P s fun T => fldA P T f (aev ρ x) := by first | rfl | (simp [pop]; rfl) | simp [pop]
theorem pop_binOp {op : BinOp} {t ty2 : TypeId} {x y : Operand} : pop P (Oper.mk d (.binOp op t x y ty2) ty p af g) ρ h = tyInt P t fun T => binX P t T op (aev ρ x) (aev ρ y) := by first | rfl | (simp [pop]; rfl) | simp [pop]
theorem pop_unOp {op : UnOp} {ty2 : TypeId} {x : Operand} : pop P (Oper.mk d (.unOp op ty2 x) ty p af g) ρ h = unA op (aev ρ x) := by first | rfl | (simp [pop]; rfl) | simp [pop]
theorem pop_convert {s t : TypeId} {x : Operand} : pop P (Oper.mk d (.convert s t x) ty p af g) ρ h = tyInt P s fun _ => tyInt P t fun T => convA T (aev ρ x) := by first | rfl | (simp [pop]; rfl) | simp [pop]
theorem pop_extract {t : Operand} {i : Nat} : pop P (Oper.mk d (.extract t i) ty p af g) ρ h = extA (aev ρ t) i := by first | rfl | (simp [pop]; rfl) | simp [pop]
theorem pop_makeFunc {f : FuncId} {caps : Array Operand} : pop P (Oper.mk d (.makeFunc (.func f) #[] caps) ty p af g) ρ h = some (.clo f (caps.toList.map (aev ρ))) := by first | rfl | (simp [pop]; rfl) | simp [pop]
theorem pop_nilCheck {x : Operand} : pop P (Oper.mk d (.nilCheck x) ty p af g) ρ h = nnA (aev ρ x) := by first | rfl | (simp [pop]; rfl) | simp [pop]
theorem pop_build {t : TypeId} {parts : Array (Nat × Operand)} : pop P (Oper.mk d (.build t parts) ty p af g) ρ h = tyInt P t fun T => bldT P T (parts.toList.map fun p => (p.1, aev ρ p.2)) := by first | rfl | (simp [pop]; rfl) | simp [pop]
theorem pop_slice {t : TypeId} {x : Operand} {lo hi mx : Option Operand} : pop P (Oper.mk d (.slice t x lo hi mx) ty p af g) ρ h = tyInt P t fun T => tyInt P (elemTy T.kind) fun E => sliceA T E (aev ρ x) (lo.map (aev ρ)) (hi.map (aev ρ)) (mx.map (aev ρ)) := by first | rfl | (simp [pop]; rfl) | simp [pop]
theorem pop_len {t : TypeId} {x : Operand} : pop P (Oper.mk d (.call { callee := .builtin .len, args := #[x], argTypes := #[t] }) ty p af g) ρ h = tyInt P t fun T => lenA T (aev ρ x) := by first | rfl | (simp [pop]; rfl) | simp [pop]
theorem pop_max {args : Array Operand} {ats : Array TypeId} : pop P (Oper.mk d (.call { callee := .builtin .max, args := args, argTypes := ats }) ty p af g) ρ h = mmA true (args.toList.map (aev ρ)) := by first | rfl | (simp [pop]; rfl) | simp [pop]
theorem pop_min {args : Array Operand} {ats : Array TypeId} : pop P (Oper.mk d (.call { callee := .builtin .min, args := args, argTypes := ats }) ty p af g) ρ h = mmA false (args.toList.map (aev ρ)) := by first | rfl | (simp [pop]; rfl) | simp [pop]
theorem eop_alloc {t : TypeId} : eop P own (Oper.mk d (.alloc t) ty p af g) ρ h = tyInt2 P t fun T => some (.ptr h.next 0, h.push (T.zero.map .val)) := by first | rfl | (simp [eop]; rfl) | simp [eop]
theorem eop_box {t : TypeId} {x : Operand} : eop P own (Oper.mk d (.box t x) ty p af g) ρ h = boxA h (cellsOf (aev ρ x)) := by first | rfl | (simp [eop]; rfl) | simp [eop]
theorem eop_store {t : TypeId} {q x : Operand} : eop P own (Oper.mk d (.store t q x) ty p af g) ρ h = tyInt2 P t fun T => storeA T h (aev ρ q) (aev ρ x) := by first | rfl | (simp [eop]; rfl) | simp [eop]
theorem eop_buildSlice {t : TypeId} {n : Nat} {parts : Array (Nat × Operand)} : eop P own (Oper.mk d (.buildSlice t n parts) ty p af g) ρ h = tyInt2 P t fun T => elS P T fun E => buildSliceA own E h n (parts.toList.map fun p => (p.1, aev ρ p.2)) := by first | rfl | (simp [eop]; rfl) | simp [eop]
theorem eop_makeSlice {t : TypeId} {l c : Operand} : eop P own (Oper.mk d (.makeSlice t l c) ty p af g) ρ h = tyInt2 P t fun T => elS P T fun E => mkA E h (intOf? (aev ρ l)) (intOf? (aev ρ c)) := by first | rfl | (simp [eop]; rfl) | simp [eop]
theorem eop_append {t tx : TypeId} {s x : Operand} : eop P own (Oper.mk d (.call { callee := .builtin .append, args := #[s, x], argTypes := #[t, tx] }) ty p af g) ρ h = tyInt2 P t fun T => tyInt2 P tx fun TX => elS2 P T TX (fun E => appendA E own h (aev ρ s) (aev ρ x)) fun E => zeroApp E h (aev ρ s) (aev ρ x) := by first | rfl | (simp [eop]; rfl) | simp [eop]
theorem on_pure {o : Oper} {x : Option AV} (hp : pop P o ρ h = x) (he : eop P (md o) o ρ h = none) : onSome (stepV P (md o) o ρ h) (fun r => ap K .mk (putA ρ o.dst r.1) r.2) .mk = onSome x (fun v => ap K .mk (putA ρ o.dst v) h) .mk := by
  unfold stepV pickV; rw [hp, he]; cases x <;> rfl
theorem on_eff {o : Oper} {x : Option (AV × H)} (hp : pop P o ρ h = none) (he : eop P (md o) o ρ h = x) : onSome (stepV P (md o) o ρ h) (fun r => ap K .mk (putA ρ o.dst r.1) r.2) .mk = onSome x (fun r => ap K .mk (putA ρ o.dst r.1) r.2) .mk := by
  unfold stepV pickV; rw [hp, he]
theorem as_move {x : Operand} {t' : Tag (stepA P md (Oper.mk d (.move x) ty p af g) K)} : ap (stepA P md (Oper.mk d (.move x) ty p af g) K) t' ρ h = onSome (some (aev ρ x)) (fun v => ap K .mk (putA ρ d v) h) .mk := by rw [ap_step]; exact on_pure pop_move (by first | rfl | simp [eop])
theorem as_assign {x : Operand} {t' : Tag (stepA P md (Oper.mk d (.assign x) ty p af g) K)} : ap (stepA P md (Oper.mk d (.assign x) ty p af g) K) t' ρ h = onSome (some (aev ρ x)) (fun v => ap K .mk (putA ρ d v) h) .mk := by rw [ap_step]; exact on_pure pop_assign (by first | rfl | simp [eop])
theorem as_pick {c a b : Operand} {t' : Tag (stepA P md (Oper.mk d (.pick c a b) ty p af g) K)} : ap (stepA P md (Oper.mk d (.pick c a b) ty p af g) K) t' ρ h = onSome (pickA (aev ρ c) (aev ρ a) (aev ρ b)) (fun v => ap K .mk (putA ρ d v) h) .mk := by rw [ap_step]; exact on_pure pop_pick (by first | rfl | simp [eop])
theorem as_load {t : TypeId} {q : Operand} {t' : Tag (stepA P md (Oper.mk d (.load t q) ty p af g) K)} : ap (stepA P md (Oper.mk d (.load t q) ty p af g) K) t' ρ h = onSome (tyInt P t fun T => loadA T h (aev ρ q)) (fun v => ap K .mk (putA ρ d v) h) .mk := by rw [ap_step]; exact on_pure pop_load (by first | rfl | simp [eop])
theorem as_fieldAddr {s : TypeId} {x : Operand} {f : Nat} {t' : Tag (stepA P md (Oper.mk d (.fieldAddr s x f) ty p af g) K)} : ap (stepA P md (Oper.mk d (.fieldAddr s x f) ty p af g) K) t' ρ h = onSome (tyInt P s fun T => fieldA T f (aev ρ x)) (fun v => ap K .mk (putA ρ d v) h) .mk := by rw [ap_step]; exact on_pure pop_fieldAddr (by first | rfl | simp [eop])
theorem as_indexAddr {t : TypeId} {x i : Operand} {t' : Tag (stepA P md (Oper.mk d (.indexAddr t x i) ty p af g) K)} : ap (stepA P md (Oper.mk d (.indexAddr t x i) ty p af g) K) t' ρ h = onSome (tyInt P t fun T => tyInt P (elemTy T.kind) fun E => idxA T E (aev ρ x) (intOf? (aev ρ i))) (fun v => ap K .mk (putA ρ d v) h) .mk := by rw [ap_step]; exact on_pure pop_indexAddr (by first | rfl | simp [eop])
theorem as_field {s : TypeId} {x : Operand} {f : Nat} {t' : Tag (stepA P md (Oper.mk d (.field s x f) ty p af g) K)} : ap (stepA P md (Oper.mk d (.field s x f) ty p af g) K) t' ρ h = onSome (tyInt P s fun T => fldA P T f (aev ρ x)) (fun v => ap K .mk (putA ρ d v) h) .mk := by rw [ap_step]; exact on_pure pop_field (by first | rfl | simp [eop])
theorem as_binOp {op : BinOp} {t ty2 : TypeId} {x y : Operand} {t' : Tag (stepA P md (Oper.mk d (.binOp op t x y ty2) ty p af g) K)} : ap (stepA P md (Oper.mk d (.binOp op t x y ty2) ty p af g) K) t' ρ h = onSome (tyInt P t fun T => binX P t T op (aev ρ x) (aev ρ y)) (fun v => ap K .mk (putA ρ d v) h) .mk := by rw [ap_step]; exact on_pure pop_binOp (by first | rfl | simp [eop])
theorem as_unOp {op : UnOp} {ty2 : TypeId} {x : Operand} {t' : Tag (stepA P md (Oper.mk d (.unOp op ty2 x) ty p af g) K)} : ap (stepA P md (Oper.mk d (.unOp op ty2 x) ty p af g) K) t' ρ h = onSome (unA op (aev ρ x)) (fun v => ap K .mk (putA ρ d v) h) .mk := by rw [ap_step]; exact on_pure pop_unOp (by first | rfl | simp [eop])
theorem as_convert {s t : TypeId} {x : Operand} {t' : Tag (stepA P md (Oper.mk d (.convert s t x) ty p af g) K)} : ap (stepA P md (Oper.mk d (.convert s t x) ty p af g) K) t' ρ h = onSome (tyInt P s fun _ => tyInt P t fun T => convA T (aev ρ x)) (fun v => ap K .mk (putA ρ d v) h) .mk := by rw [ap_step]; exact on_pure pop_convert (by first | rfl | simp [eop])
theorem as_extract {t : Operand} {i : Nat} {t' : Tag (stepA P md (Oper.mk d (.extract t i) ty p af g) K)} : ap (stepA P md (Oper.mk d (.extract t i) ty p af g) K) t' ρ h = onSome (extA (aev ρ t) i) (fun v => ap K .mk (putA ρ d v) h) .mk := by rw [ap_step]; exact on_pure pop_extract (by first | rfl | simp [eop])
theorem as_makeFunc {f : FuncId} {caps : Array Operand} {t' : Tag (stepA P md (Oper.mk d (.makeFunc (.func f) #[] caps) ty p af g) K)} : ap (stepA P md (Oper.mk d (.makeFunc (.func f) #[] caps) ty p af g) K) t' ρ h = onSome (some (.clo f (caps.toList.map (aev ρ)))) (fun v => ap K .mk (putA ρ d v) h) .mk := by rw [ap_step]; exact on_pure pop_makeFunc (by first | rfl | simp [eop])
theorem as_nilCheck {x : Operand} {t' : Tag (stepA P md (Oper.mk d (.nilCheck x) ty p af g) K)} : ap (stepA P md (Oper.mk d (.nilCheck x) ty p af g) K) t' ρ h = onSome (nnA (aev ρ x)) (fun v => ap K .mk (putA ρ d v) h) .mk := by rw [ap_step]; exact on_pure pop_nilCheck (by first | rfl | simp [eop])
theorem as_build {t : TypeId} {parts : Array (Nat × Operand)} {t' : Tag (stepA P md (Oper.mk d (.build t parts) ty p af g) K)} : ap (stepA P md (Oper.mk d (.build t parts) ty p af g) K) t' ρ h = onSome (tyInt P t fun T => bldT P T (parts.toList.map fun p => (p.1, aev ρ p.2))) (fun v => ap K .mk (putA ρ d v) h) .mk := by rw [ap_step]; exact on_pure pop_build (by first | rfl | simp [eop])
theorem as_slice {t : TypeId} {x : Operand} {lo hi mx : Option Operand} {t' : Tag (stepA P md (Oper.mk d (.slice t x lo hi mx) ty p af g) K)} : ap (stepA P md (Oper.mk d (.slice t x lo hi mx) ty p af g) K) t' ρ h = onSome (tyInt P t fun T => tyInt P (elemTy T.kind) fun E => sliceA T E (aev ρ x) (lo.map (aev ρ)) (hi.map (aev ρ)) (mx.map (aev ρ))) (fun v => ap K .mk (putA ρ d v) h) .mk := by rw [ap_step]; exact on_pure pop_slice (by first | rfl | simp [eop])
theorem as_len {t : TypeId} {x : Operand} {t' : Tag (stepA P md (Oper.mk d (.call { callee := .builtin .len, args := #[x], argTypes := #[t] }) ty p af g) K)} : ap (stepA P md (Oper.mk d (.call { callee := .builtin .len, args := #[x], argTypes := #[t] }) ty p af g) K) t' ρ h = onSome (tyInt P t fun T => lenA T (aev ρ x)) (fun v => ap K .mk (putA ρ d v) h) .mk := by rw [ap_step]; exact on_pure pop_len (by first | rfl | simp [eop])
theorem as_max {args : Array Operand} {ats : Array TypeId} {t' : Tag (stepA P md (Oper.mk d (.call { callee := .builtin .max, args := args, argTypes := ats }) ty p af g) K)} : ap (stepA P md (Oper.mk d (.call { callee := .builtin .max, args := args, argTypes := ats }) ty p af g) K) t' ρ h = onSome (mmA true (args.toList.map (aev ρ))) (fun v => ap K .mk (putA ρ d v) h) .mk := by rw [ap_step]; exact on_pure pop_max (by first | rfl | simp [eop])
theorem as_min {args : Array Operand} {ats : Array TypeId} {t' : Tag (stepA P md (Oper.mk d (.call { callee := .builtin .min, args := args, argTypes := ats }) ty p af g) K)} : ap (stepA P md (Oper.mk d (.call { callee := .builtin .min, args := args, argTypes := ats }) ty p af g) K) t' ρ h = onSome (mmA false (args.toList.map (aev ρ))) (fun v => ap K .mk (putA ρ d v) h) .mk := by rw [ap_step]; exact on_pure pop_min (by first | rfl | simp [eop])
theorem as_alloc {t : TypeId} {t' : Tag (stepA P md (Oper.mk d (.alloc t) ty p af g) K)} : ap (stepA P md (Oper.mk d (.alloc t) ty p af g) K) t' ρ h = onSome (tyInt2 P t fun T => some (.ptr h.next 0, h.push (T.zero.map .val))) (fun r => ap K .mk (putA ρ d r.1) r.2) .mk := by rw [ap_step]; exact on_eff (by first | rfl | simp [pop]) eop_alloc
theorem as_box {t : TypeId} {x : Operand} {t' : Tag (stepA P md (Oper.mk d (.box t x) ty p af g) K)} : ap (stepA P md (Oper.mk d (.box t x) ty p af g) K) t' ρ h = onSome (boxA h (cellsOf (aev ρ x))) (fun r => ap K .mk (putA ρ d r.1) r.2) .mk := by rw [ap_step]; exact on_eff (by first | rfl | simp [pop]) eop_box
theorem as_store {t : TypeId} {q x : Operand} {t' : Tag (stepA P md (Oper.mk d (.store t q x) ty p af g) K)} : ap (stepA P md (Oper.mk d (.store t q x) ty p af g) K) t' ρ h = onSome (tyInt2 P t fun T => storeA T h (aev ρ q) (aev ρ x)) (fun r => ap K .mk (putA ρ d r.1) r.2) .mk := by rw [ap_step]; exact on_eff (by first | rfl | simp [pop]) eop_store
theorem as_buildSlice {t : TypeId} {n : Nat} {parts : Array (Nat × Operand)} {t' : Tag (stepA P md (Oper.mk d (.buildSlice t n parts) ty p af g) K)} : ap (stepA P md (Oper.mk d (.buildSlice t n parts) ty p af g) K) t' ρ h = onSome (tyInt2 P t fun T => elS P T fun E => buildSliceA (md (Oper.mk d (.buildSlice t n parts) ty p af g)) E h n (parts.toList.map fun p => (p.1, aev ρ p.2))) (fun r => ap K .mk (putA ρ d r.1) r.2) .mk := by rw [ap_step]; exact on_eff (by first | rfl | simp [pop]) eop_buildSlice
theorem as_makeSlice {t : TypeId} {l c : Operand} {t' : Tag (stepA P md (Oper.mk d (.makeSlice t l c) ty p af g) K)} : ap (stepA P md (Oper.mk d (.makeSlice t l c) ty p af g) K) t' ρ h = onSome (tyInt2 P t fun T => elS P T fun E => mkA E h (intOf? (aev ρ l)) (intOf? (aev ρ c))) (fun r => ap K .mk (putA ρ d r.1) r.2) .mk := by rw [ap_step]; exact on_eff (by first | rfl | simp [pop]) eop_makeSlice
theorem as_append {t tx : TypeId} {s x : Operand} {t' : Tag (stepA P md (Oper.mk d (.call { callee := .builtin .append, args := #[s, x], argTypes := #[t, tx] }) ty p af g) K)} : ap (stepA P md (Oper.mk d (.call { callee := .builtin .append, args := #[s, x], argTypes := #[t, tx] }) ty p af g) K) t' ρ h = onSome (tyInt2 P t fun T => tyInt2 P tx fun TX => elS2 P T TX (fun E => appendA E (md (Oper.mk d (.call { callee := .builtin .append, args := #[s, x], argTypes := #[t, tx] }) ty p af g)) h (aev ρ s) (aev ρ x)) fun E => zeroApp E h (aev ρ s) (aev ρ x)) (fun r => ap K .mk (putA ρ d r.1) r.2) .mk := by rw [ap_step]; exact on_eff (by first | rfl | simp [pop]) eop_append
theorem as_call {f : Operand} {args : Array Operand} {ats : Array TypeId} {t' : Tag (stepA P md (Oper.mk d (.call { callee := .value f, args := args, argTypes := ats }) ty p af g) K)} : ap (stepA P md (Oper.mk d (.call { callee := .value f, args := args, argTypes := ats }) ty p af g) K) t' ρ h =
    onFn (aev ρ f) (fun f' caps => onCall P f' (args.toList.map (aev ρ) ++ caps) h (fun x h' => ap K .mk (putA ρ d x) h') .mk) (fun b => onRound P b (args.toList.map (aev ρ)) h (fun x h' => ap K .mk (putA ρ d x) h') .mk) .mk .mk := rfl
theorem cons_free {op : Op} {all : Array Oper} {Q : List AV → H → Prop} {rest : List Oper} {t : Tag (vcOps P md all Q (Oper.mk d op ty p af none :: rest))} : ap (vcOps P md all Q (Oper.mk d op ty p af none :: rest)) t ρ h = ap (stepA P md (Oper.mk d op ty p af none) (vcOps P md all Q rest)) .mk ρ h := rfl
theorem cons_guard {op : Op} {j : Nat} {want : Bool} {all : Array Oper} {Q : List AV → H → Prop} {rest : List Oper} {t : Tag (vcOps P md all Q (Oper.mk d op ty p af (some (j, want)) :: rest))} : ap (vcOps P md all Q (Oper.mk d op ty p af (some (j, want)) :: rest)) t ρ h =
    onSome (dstT all .mk j) (fun d' => onBool (ρ.getD d' (.val undef)) (fun b => ifB (b == want) (ap (stepA P md (Oper.mk d op ty p af (some (j, want))) (vcOps P md all Q rest)) .mk (ρ.set d' (.val (.bool want))) h) (ap (vcOps P md all Q rest) .mk (putA (ρ.set d' (.val (.bool !want))) d (.val undef)) h) .mk .mk)
          (ap (vcOps P md all Q rest) .mk (putA ρ d (.val undef)) h) .mk .mk) .mk := rfl
theorem putA_some {t : Nat} {x : AV} : putA ρ (some t) x = ρ.set t x := rfl
theorem putA_none {x : AV} : putA ρ none x = ρ := rfl
theorem aev_tmp {t : Nat} : aev ρ (.tmp t) = ρ.getD t (.val undef) := rfl
theorem aev_int {k : IntKind} {n : Int} : aev ρ (.const (.int k n)) = .val (.int k n) := rfl
theorem aev_bool {b : Bool} : aev ρ (.const (.bool b)) = .val (.bool b) := rfl
theorem aev_nil : aev ρ (.const (.slice none 0 0)) = .val (.slice none 0 0) := rfl
theorem aev_func {f : FuncId} : aev ρ (.func f) = .clo f [] := rfl
theorem pickA_bool {t : Bool} {a b : AV} : pickA (.val (.bool t)) a b = some (if t then a else b) := rfl
theorem pickA_and {a b : Bool} : pickA (.val (.bool a)) (.val (.bool b)) (.val (.bool false)) = some (.val (.bool (a && b))) := by cases a <;> rfl
theorem pickA_or {a b : Bool} : pickA (.val (.bool a)) (.val (.bool true)) (.val (.bool b)) = some (.val (.bool (a || b))) := by cases a <;> rfl
theorem pickA_true {a b : AV} : pickA (.val (.bool true)) a b = some a := rfl
theorem pickA_false {a b : AV} : pickA (.val (.bool false)) a b = some b := rfl
theorem nnA_ptr {b o : Nat} : nnA (.ptr b o) = some (.ptr b o) := rfl
theorem nnA_rop {cs : List AV} : nnA (.rop cs) = some (.rop cs) := rfl
theorem idxA_some {T E : TI} {x : AV} {n : Int} : idxA T E x (some n) = indexA T E x n := rfl
theorem intOf_int {k : IntKind} {n : Int} : intOf? (.val (.int k n)) = some n := rfl
theorem boxA_some {l : List AV} : boxA h (some l) = some (.ptr h.next 0, h.push l) := rfl
theorem bin_int {T : TI} {op : BinOp} {k : IntKind} {a b : Int} : bin T op (.val (.int k a)) (.val (.int k b)) = binI op k a b := by simp [bin]
theorem binI_add {k : IntKind} {a b : Int} : binI .add k a b = some (.val (.int k (k.wrap (a + b)))) := rfl
theorem binI_sub {k : IntKind} {a b : Int} : binI .sub k a b = some (.val (.int k (k.wrap (a - b)))) := rfl
theorem binI_mul {k : IntKind} {a b : Int} : binI .mul k a b = some (.val (.int k (k.wrap (a * b)))) := rfl
theorem binI_quo {k : IntKind} {a b : Int} : binI .quo k a b = if b = 0 then none else some (.val (.int k (k.wrap (a.tdiv b)))) := rfl
theorem binI_rem {k : IntKind} {a b : Int} : binI .rem k a b = if b = 0 then none else some (.val (.int k (a.tmod b))) := rfl
theorem binI_eql {k : IntKind} {a b : Int} : binI .eql k a b = some (.val (.bool (a == b))) := rfl
theorem binI_neq {k : IntKind} {a b : Int} : binI .neq k a b = some (.val (.bool (a != b))) := rfl
theorem binI_lss {k : IntKind} {a b : Int} : binI .lss k a b = some (.val (.bool (decide (a < b)))) := rfl
theorem binI_leq {k : IntKind} {a b : Int} : binI .leq k a b = some (.val (.bool (decide (a ≤ b)))) := rfl
theorem binI_gtr {k : IntKind} {a b : Int} : binI .gtr k a b = some (.val (.bool (decide (a > b)))) := rfl
theorem binI_geq {k : IntKind} {a b : Int} : binI .geq k a b = some (.val (.bool (decide (a ≥ b)))) := rfl
theorem unA_not {b : Bool} : unA .not (.val (.bool b)) = some (.val (.bool (!b))) := rfl
theorem unA_neg {k : IntKind} {n : Int} : unA .neg (.val (.int k n)) = some (.val (.int k (k.wrap (0 - n)))) := rfl
def loadO (T : TI) (c : Option (List AV)) (o : Nat) : Option AV := match c with
  | some cs => (takeAt cs o T.size).bind (asLoaded T)
  | none => none
theorem loadA_ptr {T : TI} {b o : Nat} : loadA T h (.ptr b o) = loadO T (h.get b) o := rfl
theorem loadA_rop {T : TI} {cs : List AV} : loadA T h (.rop cs) = loadO T (some cs) 0 := rfl
theorem loadO_some {T : TI} {cs : List AV} {o : Nat} : loadO T (some cs) o = (takeAt cs o T.size).bind (asLoaded T) := rfl
theorem asLoaded_agg {k : TK} {s by' : Nat} {z : List Value} {f cm : Bool} {l : List AV} : asLoaded { kind := k, size := s, zero := z, agg := true, bytes := by', fok := f, cmp := cm } l = some (.agg l) := rfl
theorem asLoaded_one {k : TK} {s by' : Nat} {z : List Value} {f cm : Bool} {x : AV} : asLoaded { kind := k, size := s, zero := z, agg := false, bytes := by', fok := f, cmp := cm } [x] = some x := rfl
theorem resA_one {rv : ResultVar} : resA P #[rv] ρ h = resOne P ρ h rv := by simp [resA]; cases resOne P ρ h rv <;> simp
theorem resA_two {rv rv' : ResultVar} : resA P #[rv, rv'] ρ h = (resOne P ρ h rv).bind fun x => (resOne P ρ h rv').bind fun y => some (.tup [x, y]) := by simp [resA]; cases resOne P ρ h rv <;> cases resOne P ρ h rv' <;> simp
theorem resOne_tmp {t : Nat} : resOne P ρ h (.tmp t) = some (ρ.getD t (.val undef)) := rfl
theorem resOne_cell {a : Nat} {t : TypeId} : resOne P ρ h (.cell a t) = tyInt P t fun T => loadA T h (ρ.getD a (.val undef)) := rfl
theorem cellsOf_int {k : IntKind} {n : Int} : cellsOf (.val (.int k n)) = some [.val (.int k n)] := rfl
theorem cellsOf_bool {b : Bool} : cellsOf (.val (.bool b)) = some [.val (.bool b)] := rfl
theorem cellsOf_clo {f : Nat} {caps : List AV} : cellsOf (.clo f caps) = some [.clo f caps] := rfl
theorem cellsOf_ptr {b o : Nat} : cellsOf (.ptr b o) = some [.ptr b o] := rfl
theorem cellsOf_ro {f : Bool} {k : Nat} {xs : List (List AV)} : cellsOf (.ro f k xs) = some [.ro f k xs] := rfl
theorem cellsOf_sl {b o n k : Nat} : cellsOf (.sl b o n k) = some [.sl b o n k] := rfl
theorem cellsOf_nil : cellsOf (.val (.slice none 0 0)) = some [.val (.slice none 0 0)] := rfl
theorem cellsOf_agg {l : List AV} : cellsOf (.agg l) = if l.all one then some l else none := rfl
theorem one_int {k : IntKind} {n : Int} : one (.val (.int k n)) = true := rfl
theorem one_bool {b : Bool} : one (.val (.bool b)) = true := rfl
theorem one_nil : one (.val (.slice none 0 0)) = true := rfl
theorem one_clo {f : Nat} {caps : List AV} : one (.clo f caps) = true := rfl
theorem one_ptr {b o : Nat} : one (.ptr b o) = true := rfl
theorem one_ro {f : Bool} {k : Nat} {xs : List (List AV)} : one (.ro f k xs) = true := rfl
theorem one_sl {b o n k : Nat} : one (.sl b o n k) = true := rfl
theorem one_rop {cs : List AV} : one (.rop cs) = true := rfl
theorem mm_max {k k' : IntKind} {a b : Int} : mmA true [.val (.int k a), .val (.int k' b)] = some (.val (.int k (max a b))) := by simp only [mmA, if_true]; congr 3; split <;> omega
theorem mm_min {k k' : IntKind} {a b : Int} : mmA false [.val (.int k a), .val (.int k' b)] = some (.val (.int k (min a b))) := by simp only [mmA, Bool.false_eq_true, if_false]; congr 3; split <;> omega
theorem elS_sl {e : TypeId} {s by' : Nat} {z : List Value} {a f' cm : Bool} {f : TI → Option (AV × H)} : elS P { kind := .sl e, size := s, zero := z, agg := a, bytes := by', fok := f', cmp := cm } f = tyInt2 P e f := rfl
theorem elS2_sl {e e2 : TypeId} {s by' s2 by2 : Nat} {z z2 : List Value} {a f' a2 f2 cm c2 : Bool} {f g : TI → Option (AV × H)} : elS2 P { kind := .sl e, size := s, zero := z, agg := a, bytes := by', fok := f', cmp := cm } { kind := .sl e2, size := s2, zero := z2, agg := a2, bytes := by2, fok := f2, cmp := c2 } f g = tyInt2 P e f := rfl
theorem mkA_some {E : TI} {l c : Int} : mkA E h (some l) (some c) = makeSliceA E h l c := rfl
theorem chunk_zero {k : Nat} {l : List AV} : chunk k 0 l = [] := rfl
theorem chunk_succ {k n : Nat} {l : List AV} : chunk k (n + 1) l = l.take k :: chunk k n (l.drop k) := by
  simp only [chunk, List.range_succ_eq_map, List.map_cons, List.map_map, Nat.zero_mul, List.drop_zero, List.drop_drop]
  congr 1
  apply List.map_congr_left
  intro i _
  simp only [Function.comp, Nat.succ_eq_add_one, Nat.add_mul, Nat.one_mul]
  rw [Nat.add_comm]
theorem zcells_zero {z : List Value} : zcells 0 z = [] := rfl
theorem zcells_succ {n : Nat} {z : List Value} : zcells (n + 1) z = z.map AV.val ++ zcells n z := by simp [zcells, List.replicate_succ]
theorem clean_val {v : Value} : clean (.val v) = true := rfl
theorem clean_ro {f : Bool} {k : Nat} {xs : List (List AV)} : clean (.ro f k xs) = true := rfl
theorem clean_rop {cs : List AV} : clean (.rop cs) = true := rfl
theorem clean1_val {v : Value} : clean1 (.val v) = true := rfl
theorem clean1_ro {f : Bool} {k : Nat} {xs : List (List AV)} : clean1 (.ro f k xs) = true := rfl
theorem clean1_rop {cs : List AV} : clean1 (.rop cs) = true := rfl
def flat : AV → Bool
  | .agg l => l.all clean1
  | x => clean1 x
theorem flat_val {v : Value} : flat (.val v) = true := rfl
theorem flat_ro {f : Bool} {k : Nat} {xs : List (List AV)} : flat (.ro f k xs) = true := rfl
theorem flat_agg {l : List AV} : flat (.agg l) = l.all clean1 := rfl
theorem on_frz1 {N n : Nat} {y : AV} (hy : clean1 y = true) : frz (n + 1) h N y = some y := by cases y <;> simp [clean1, frz] at hy ⊢
theorem on_frzl {N n : Nat} : ∀ {l : List AV}, l.all clean1 = true → l.mapM (frz (n + 1) h N) = some l
  | [], _ => by simp
  | y :: l, hl => by
    simp only [List.all_cons, Bool.and_eq_true] at hl
    rw [List.mapM_cons, on_frz1 hl.1, on_frzl hl.2]; rfl
theorem on_frz2 {N n : Nat} {y : AV} (hy : flat y = true) : frz (n + 2) h N y = some y := by
  cases y with
  | agg l => rw [frz, on_frzl (n := n) (show l.all clean1 = true from hy)]
  | _ => exact on_frz1 hy
theorem on_frzl2 {N n : Nat} : ∀ {l : List AV}, l.all flat = true → l.mapM (frz (n + 2) h N) = some l
  | [], _ => by simp
  | y :: l, hl => by
    simp only [List.all_cons, Bool.and_eq_true] at hl
    rw [List.mapM_cons, on_frz2 hl.1, on_frzl2 hl.2]; rfl
theorem frz_agg {N : Nat} {l : List AV} {x : AV} (hl : l.all clean1 = true) : (∃ k, frz k h N (.agg l) = some x) ↔ .agg l = x := by
  constructor
  · rintro ⟨k, e⟩
    match k, e with
    | 0, e => simp [frz] at e
    | 1, e => cases l <;> simp [frz, List.mapM_cons] at e; exact e
    | k + 2, e => rw [frz, on_frzl hl] at e; simpa using e
  · rintro rfl; exact ⟨2, on_frz2 hl⟩
theorem frz_tup {N : Nat} {l : List AV} {x : AV} (hl : l.all flat = true) : (∃ k, frz k h N (.tup l) = some x) ↔ .tup l = x := by
  constructor
  · rintro ⟨k, e⟩
    have e' : frz (k + 3) h N (.tup l) = some x := frz_le (by omega) e
    rw [frz, on_frzl2 hl] at e'; simpa using e'
  · rintro rfl; exact ⟨3, by rw [frz, on_frzl2 hl]⟩
end

attribute [simp] bldT buildAr emptyA
end Go.Pe

/- The equations by which simplification walks through statements whose order is open. -/
namespace Go.Pe
open Go

def apQ (P : Program) (o : Oper) (q : H) (K : AV → Prop) (_ : Tag o) (_ : Tag K) (ρ : List AV) : Prop := stepQ P o q K ρ
def apE (P : Program) (own : Bool) (o : Oper) (v vc : H) (K : AV → H → Prop) (_ : Tag o) (_ : Tag K) (ρ : List AV) : Prop := stepE P own o v vc K ρ

/-- The block that a store writes, if the statement has made it. -/
def findNew : List Oper → Nat → Nat → Option Nat
  | [], _, _ => none
  | o :: l, t, j => if o.dst == some t && allocs o.op then some j else findNew l t (j + 1)
def fpT (all : Array Oper) (_ : Tag all) (t : Nat) : Option Nat := findNew all.toList t 0
theorem findNew_nil {t j : Nat} : findNew [] t j = none := rfl

section
variable {P : Program} {md : Oper → Bool} {own : Bool} {ρ : List AV} {h : H} {d : Option Nat} {ty : TypeId} {p : String} {af : Array Edge} {g : Option (Nat × Bool)} {K : AV → Prop} {KE : AV → H → Prop} {v vc : H}
theorem q_move {x : Operand} {t1 : Tag (Oper.mk d (.move x) ty p af g)} {t2 : Tag K} : apQ P (Oper.mk d (.move x) ty p af g) h K t1 t2 ρ = onSome (some (aev ρ x)) K .mk := by unfold apQ; rw [stepQ_eq]; exact congrArg (fun x => onSome x K .mk) pop_move
theorem q_assign {x : Operand} {t1 : Tag (Oper.mk d (.assign x) ty p af g)} {t2 : Tag K} : apQ P (Oper.mk d (.assign x) ty p af g) h K t1 t2 ρ = onSome (some (aev ρ x)) K .mk := by unfold apQ; rw [stepQ_eq]; exact congrArg (fun x => onSome x K .mk) pop_assign
theorem q_pick {c a b : Operand} {t1 : Tag (Oper.mk d (.pick c a b) ty p af g)} {t2 : Tag K} : apQ P (Oper.mk d (.pick c a b) ty p af g) h K t1 t2 ρ = onSome (pickA (aev ρ c) (aev ρ a) (aev ρ b)) K .mk := by unfold apQ; rw [stepQ_eq]; exact congrArg (fun x => onSome x K .mk) pop_pick
theorem q_load {t : TypeId} {q : Operand} {t1 : Tag (Oper.mk d (.load t q) ty p af g)} {t2 : Tag K} : apQ P (Oper.mk d (.load t q) ty p af g) h K t1 t2 ρ = onSome (tyInt P t fun T => loadA T h (aev ρ q)) K .mk := by unfold apQ; rw [stepQ_eq]; exact congrArg (fun x => onSome x K .mk) pop_load
theorem q_fieldAddr {s : TypeId} {x : Operand} {f : Nat} {t1 : Tag (Oper.mk d (.fieldAddr s x f) ty p af g)} {t2 : Tag K} : apQ P (Oper.mk d (.fieldAddr s x f) ty p af g) h K t1 t2 ρ = onSome (tyInt P s fun T => fieldA T f (aev ρ x)) K .mk := by unfold apQ; rw [stepQ_eq]; exact congrArg (fun x => onSome x K .mk) pop_fieldAddr
theorem q_indexAddr {t : TypeId} {x i : Operand} {t1 : Tag (Oper.mk d (.indexAddr t x i) ty p af g)} {t2 : Tag K} : apQ P (Oper.mk d (.indexAddr t x i) ty p af g) h K t1 t2 ρ = onSome (tyInt P t fun T => tyInt P (elemTy T.kind) fun E => idxA T E (aev ρ x) (intOf? (aev ρ i))) K .mk := by unfold apQ; rw [stepQ_eq]; exact congrArg (fun x => onSome x K .mk) pop_indexAddr
theorem q_field {s : TypeId} {x : Operand} {f : Nat} {t1 : Tag (Oper.mk d (.field s x f) ty p af g)} {t2 : Tag K} : apQ P (Oper.mk d (.field s x f) ty p af g) h K t1 t2 ρ = onSome (tyInt P s fun T => fldA P T f (aev ρ x)) K .mk := by unfold apQ; rw [stepQ_eq]; exact congrArg (fun x => onSome x K .mk) pop_field
theorem q_binOp {op : BinOp} {t ty2 : TypeId} {x y : Operand} {t1 : Tag (Oper.mk d (.binOp op t x y ty2) ty p af g)} {t2 : Tag K} : apQ P (Oper.mk d (.binOp op t x y ty2) ty p af g) h K t1 t2 ρ = onSome (tyInt P t fun T => binX P t T op (aev ρ x) (aev ρ y)) K .mk := by unfold apQ; rw [stepQ_eq]; exact congrArg (fun x => onSome x K .mk) pop_binOp
theorem q_unOp {op : UnOp} {ty2 : TypeId} {x : Operand} {t1 : Tag (Oper.mk d (.unOp op ty2 x) ty p af g)} {t2 : Tag K} : apQ P (Oper.mk d (.unOp op ty2 x) ty p af g) h K t1 t2 ρ = onSome (unA op (aev ρ x)) K .mk := by unfold apQ; rw [stepQ_eq]; exact congrArg (fun x => onSome x K .mk) pop_unOp
theorem q_convert {s t : TypeId} {x : Operand} {t1 : Tag (Oper.mk d (.convert s t x) ty p af g)} {t2 : Tag K} : apQ P (Oper.mk d (.convert s t x) ty p af g) h K t1 t2 ρ = onSome (tyInt P s fun _ => tyInt P t fun T => convA T (aev ρ x)) K .mk := by unfold apQ; rw [stepQ_eq]; exact congrArg (fun x => onSome x K .mk) pop_convert
theorem q_extract {t : Operand} {i : Nat} {t1 : Tag (Oper.mk d (.extract t i) ty p af g)} {t2 : Tag K} : apQ P (Oper.mk d (.extract t i) ty p af g) h K t1 t2 ρ = onSome (extA (aev ρ t) i) K .mk := by unfold apQ; rw [stepQ_eq]; exact congrArg (fun x => onSome x K .mk) pop_extract
theorem q_makeFunc {f : FuncId} {caps : Array Operand} {t1 : Tag (Oper.mk d (.makeFunc (.func f) #[] caps) ty p af g)} {t2 : Tag K} : apQ P (Oper.mk d (.makeFunc (.func f) #[] caps) ty p af g) h K t1 t2 ρ = onSome (some (.clo f (caps.toList.map (aev ρ)))) K .mk := by unfold apQ; rw [stepQ_eq]; exact congrArg (fun x => onSome x K .mk) pop_makeFunc
theorem q_nilCheck {x : Operand} {t1 : Tag (Oper.mk d (.nilCheck x) ty p af g)} {t2 : Tag K} : apQ P (Oper.mk d (.nilCheck x) ty p af g) h K t1 t2 ρ = onSome (nnA (aev ρ x)) K .mk := by unfold apQ; rw [stepQ_eq]; exact congrArg (fun x => onSome x K .mk) pop_nilCheck
theorem q_build {t : TypeId} {parts : Array (Nat × Operand)} {t1 : Tag (Oper.mk d (.build t parts) ty p af g)} {t2 : Tag K} : apQ P (Oper.mk d (.build t parts) ty p af g) h K t1 t2 ρ = onSome (tyInt P t fun T => bldT P T (parts.toList.map fun p => (p.1, aev ρ p.2))) K .mk := by unfold apQ; rw [stepQ_eq]; exact congrArg (fun x => onSome x K .mk) pop_build
theorem q_slice {t : TypeId} {x : Operand} {lo hi mx : Option Operand} {t1 : Tag (Oper.mk d (.slice t x lo hi mx) ty p af g)} {t2 : Tag K} : apQ P (Oper.mk d (.slice t x lo hi mx) ty p af g) h K t1 t2 ρ = onSome (tyInt P t fun T => tyInt P (elemTy T.kind) fun E => sliceA T E (aev ρ x) (lo.map (aev ρ)) (hi.map (aev ρ)) (mx.map (aev ρ))) K .mk := by unfold apQ; rw [stepQ_eq]; exact congrArg (fun x => onSome x K .mk) pop_slice
theorem q_len {t : TypeId} {x : Operand} {t1 : Tag (Oper.mk d (.call { callee := .builtin .len, args := #[x], argTypes := #[t] }) ty p af g)} {t2 : Tag K} : apQ P (Oper.mk d (.call { callee := .builtin .len, args := #[x], argTypes := #[t] }) ty p af g) h K t1 t2 ρ = onSome (tyInt P t fun T => lenA T (aev ρ x)) K .mk := by unfold apQ; rw [stepQ_eq]; exact congrArg (fun x => onSome x K .mk) pop_len
theorem q_max {args : Array Operand} {ats : Array TypeId} {t1 : Tag (Oper.mk d (.call { callee := .builtin .max, args := args, argTypes := ats }) ty p af g)} {t2 : Tag K} : apQ P (Oper.mk d (.call { callee := .builtin .max, args := args, argTypes := ats }) ty p af g) h K t1 t2 ρ = onSome (mmA true (args.toList.map (aev ρ))) K .mk := by unfold apQ; rw [stepQ_eq]; exact congrArg (fun x => onSome x K .mk) pop_max
theorem q_min {args : Array Operand} {ats : Array TypeId} {t1 : Tag (Oper.mk d (.call { callee := .builtin .min, args := args, argTypes := ats }) ty p af g)} {t2 : Tag K} : apQ P (Oper.mk d (.call { callee := .builtin .min, args := args, argTypes := ats }) ty p af g) h K t1 t2 ρ = onSome (mmA false (args.toList.map (aev ρ))) K .mk := by unfold apQ; rw [stepQ_eq]; exact congrArg (fun x => onSome x K .mk) pop_min
theorem e_alloc {t : TypeId} {t1 : Tag (Oper.mk d (.alloc t) ty p af g)} {t2 : Tag KE} : apE P own (Oper.mk d (.alloc t) ty p af g) v vc KE t1 t2 ρ = onSome (tyInt2 P t fun T => some (.ptr v.next 0, v.push (T.zero.map .val))) (fun r => KE r.1 r.2) .mk := by unfold apE; rw [stepE_eq]; exact congrArg (fun x => onSome x (fun r => KE r.1 r.2) .mk) eop_alloc
theorem e_box {t : TypeId} {x : Operand} {t1 : Tag (Oper.mk d (.box t x) ty p af g)} {t2 : Tag KE} : apE P own (Oper.mk d (.box t x) ty p af g) v vc KE t1 t2 ρ = onSome (boxA v (cellsOf (aev ρ x))) (fun r => KE r.1 r.2) .mk := by unfold apE; rw [stepE_eq]; exact congrArg (fun x => onSome x (fun r => KE r.1 r.2) .mk) eop_box
theorem e_store {t : TypeId} {q x : Operand} {t1 : Tag (Oper.mk d (.store t q x) ty p af g)} {t2 : Tag KE} : apE P own (Oper.mk d (.store t q x) ty p af g) v vc KE t1 t2 ρ = onSome (tyInt2 P t fun T => storeA T v (aev ρ q) (aev ρ x)) (fun r => KE r.1 r.2) .mk := by unfold apE; rw [stepE_eq]; exact congrArg (fun x => onSome x (fun r => KE r.1 r.2) .mk) eop_store
theorem e_buildSlice {t : TypeId} {n : Nat} {parts : Array (Nat × Operand)} {t1 : Tag (Oper.mk d (.buildSlice t n parts) ty p af g)} {t2 : Tag KE} : apE P own (Oper.mk d (.buildSlice t n parts) ty p af g) v vc KE t1 t2 ρ = onSome (tyInt2 P t fun T => elS P T fun E => buildSliceA own E v n (parts.toList.map fun p => (p.1, aev ρ p.2))) (fun r => KE r.1 r.2) .mk := by unfold apE; rw [stepE_eq]; exact congrArg (fun x => onSome x (fun r => KE r.1 r.2) .mk) eop_buildSlice
theorem e_makeSlice {t : TypeId} {l c : Operand} {t1 : Tag (Oper.mk d (.makeSlice t l c) ty p af g)} {t2 : Tag KE} : apE P own (Oper.mk d (.makeSlice t l c) ty p af g) v vc KE t1 t2 ρ = onSome (tyInt2 P t fun T => elS P T fun E => mkA E v (intOf? (aev ρ l)) (intOf? (aev ρ c))) (fun r => KE r.1 r.2) .mk := by unfold apE; rw [stepE_eq]; exact congrArg (fun x => onSome x (fun r => KE r.1 r.2) .mk) eop_makeSlice
theorem e_append {t tx : TypeId} {s x : Operand} {t1 : Tag (Oper.mk d (.call { callee := .builtin .append, args := #[s, x], argTypes := #[t, tx] }) ty p af g)} {t2 : Tag KE} : apE P own (Oper.mk d (.call { callee := .builtin .append, args := #[s, x], argTypes := #[t, tx] }) ty p af g) v vc KE t1 t2 ρ = onSome (tyInt2 P t fun T => tyInt2 P tx fun TX => elS2 P T TX (fun E => appendA E own v (aev ρ s) (aev ρ x)) fun E => zeroApp E v (aev ρ s) (aev ρ x)) (fun r => KE r.1 r.2) .mk := by unfold apE; rw [stepE_eq]; exact congrArg (fun x => onSome x (fun r => KE r.1 r.2) .mk) eop_append
theorem q_call {f : Operand} {args : Array Operand} {ats : Array TypeId} {t1 : Tag (Oper.mk d (.call { callee := .value f, args := args, argTypes := ats }) ty p af g)} {t2 : Tag K} : apQ P (Oper.mk d (.call { callee := .value f, args := args, argTypes := ats }) ty p af g) h K t1 t2 ρ =
    onClo (aev ρ f) (fun f' caps => onCallQ P f' (args.toList.map (aev ρ) ++ caps) h K .mk) .mk := rfl
theorem e_call {f : Operand} {args : Array Operand} {ats : Array TypeId} {t1 : Tag (Oper.mk d (.call { callee := .value f, args := args, argTypes := ats }) ty p af g)} {t2 : Tag KE} : apE P own (Oper.mk d (.call { callee := .value f, args := args, argTypes := ats }) ty p af g) v vc KE t1 t2 ρ =
    onClo (aev ρ f) (fun f' caps => onCallE P f' (args.toList.map (aev ρ) ++ caps) vc v.next KE .mk) .mk := rfl

variable {ct : Cert} {all : Array Oper} {h0 : H} {Q : List AV → H → Prop} {rest : List Oper} {i : Nat} {G : Nat → Option (List AV)}
theorem dr_free {op : Op} {t : Tag (vcDr P md ct all h0 Q (Oper.mk d op ty p af none :: rest) i)} : apG (vcDr P md ct all h0 Q (Oper.mk d op ty p af none :: rest) i) t ρ G =
    ifB (quietA ct i (Oper.mk d op ty p af none)) (apQ P (Oper.mk d op ty p af none) (qView ct h0 all.size i) (fun x => apG (vcDr P md ct all h0 Q rest (i + 1)) .mk (putA ρ d x) G) .mk .mk ρ)
      (apE P (md (Oper.mk d op ty p af none)) (Oper.mk d op ty p af none) (eView all ct h0 i (h0.next + i) (Oper.mk d op ty p af none) G) (eView all ct h0 i (h0.next + all.size) (Oper.mk d op ty p af none) G) (fun x h' => apG (vcDr P md ct all h0 Q rest (i + 1)) .mk (putA ρ d x) (mergeG G (eView all ct h0 i (h0.next + i) (Oper.mk d op ty p af none) G) h')) .mk .mk ρ) .mk .mk := by
  rw [ap_dr_cons]; unfold ifB apQ apE; rfl
theorem dr_guard {op : Op} {j : Nat} {want : Bool} {t : Tag (vcDr P md ct all h0 Q (Oper.mk d op ty p af (some (j, want)) :: rest) i)} : apG (vcDr P md ct all h0 Q (Oper.mk d op ty p af (some (j, want)) :: rest) i) t ρ G =
    onSome (dstT all .mk j) (fun d' => onBool (ρ.getD d' (.val undef)) (fun b => ifB (b == want) (ifB (quietA ct i (Oper.mk d op ty p af (some (j, want)))) (apQ P (Oper.mk d op ty p af (some (j, want))) (qView ct h0 all.size i) (fun x => apG (vcDr P md ct all h0 Q rest (i + 1)) .mk (putA (ρ.set d' (.val (.bool want))) d x) G) .mk .mk (ρ.set d' (.val (.bool want))))
      (apE P (md (Oper.mk d op ty p af (some (j, want)))) (Oper.mk d op ty p af (some (j, want))) (eView all ct h0 i (h0.next + i) (Oper.mk d op ty p af (some (j, want))) G) (eView all ct h0 i (h0.next + all.size) (Oper.mk d op ty p af (some (j, want))) G) (fun x h' => apG (vcDr P md ct all h0 Q rest (i + 1)) .mk (putA (ρ.set d' (.val (.bool want))) d x) (mergeG G (eView all ct h0 i (h0.next + i) (Oper.mk d op ty p af (some (j, want))) G) h')) .mk .mk (ρ.set d' (.val (.bool want)))) .mk .mk)
          (apG (vcDr P md ct all h0 Q rest (i + 1)) .mk (putA (ρ.set d' (.val (.bool !want))) d (.val undef)) G) .mk .mk)
          (apG (vcDr P md ct all h0 Q rest (i + 1)) .mk (putA ρ d (.val undef)) G) .mk .mk) .mk := by
  rw [ap_dr_cons]; unfold ifB apQ apE; rfl
theorem qView_next {m : Nat} : (qView ct h0 m i).next = h0.next + m := rfl
theorem eView_next {nx : Nat} {o : Oper} : (eView all ct h0 i nx o G).next = nx := rfl
/-- Whether a block is among those that are named. -/
def hit : List Nat → Nat → Nat → Bool
  | [], _, _ => false
  | j :: l, n, b => n + j == b || hit l n b
theorem hit_nil {n b : Nat} : hit [] n b = false := rfl
theorem hit_cons {j n b : Nat} {l : List Nat} : hit (j :: l) n b = (n + j == b || hit l n b) := rfl
theorem on_hit {n b : Nat} : ∀ {l : List Nat}, l.any (fun j => n + j == b) = hit l n b
  | [] => rfl
  | j :: l => by rw [List.any_cons, on_hit]; rfl
theorem on_hit0 {b : Nat} : ∀ {l : List Nat}, l.contains b = hit l 0 b
  | [] => rfl
  | j :: l => by
    have := on_hit0 (b := b) (l := l)
    rw [List.contains_cons, this, hit_cons, Nat.zero_add]
    congr 1
    rw [Bool.eq_iff_iff]; simp only [beq_iff_eq]; exact eq_comm
/-- Whether a pair is among those that are named. -/
def hit2 : List (Nat × Nat) → Nat → Nat → Bool
  | [], _, _ => false
  | p :: l, i, b => (p.1 == i && p.2 == b) || hit2 l i b
@[simp] theorem hit2_nil {i b : Nat} : hit2 [] i b = false := rfl
@[simp] theorem hit2_cons {p q i b : Nat} {l : List (Nat × Nat)} : hit2 ((p, q) :: l) i b = ((p == i && q == b) || hit2 l i b) := rfl
theorem on_hit2 {i b : Nat} : ∀ {l : List (Nat × Nat)}, l.contains (i, b) = hit2 l i b
  | [] => rfl
  | (p, q) :: l => by
    rw [List.contains_cons, on_hit2, hit2_cons]
    congr 1
    rw [Bool.eq_iff_iff]
    simp only [beq_iff_eq, Bool.and_eq_true, Prod.mk.injEq]
    exact ⟨fun h => ⟨h.1.symm, h.2.symm⟩, fun h => ⟨h.1.symm, h.2.symm⟩⟩
theorem qView_get {m b : Nat} : (qView ct h0 m i).get b = if (hit ct.M 0 b && !(hit2 ct.see i b)) = true then none else h0.get b := by
  rw [← on_hit0, ← on_hit2]; rfl
def optL : Option Nat → List Nat
  | some j => [j]
  | none => []
theorem optL_some {j : Nat} : optL (some j) = [j] := rfl
theorem optL_none : optL none = [] := rfl
theorem eView_get {nx b : Nat} {o : Oper} : (eView all ct h0 i nx o G).get b = if (hit (fpn all i o) h0.next b || hit (fpo ct i) 0 b) = true then G b else none := by
  rw [← on_hit, ← on_hit0]; rfl
theorem fp_alloc {t : TypeId} : fpn all i (Oper.mk d (.alloc t) ty p af g) = [i] := rfl
theorem fp_box {t : TypeId} {x : Operand} : fpn all i (Oper.mk d (.box t x) ty p af g) = [i] := rfl
theorem fp_make {t : TypeId} {x y : Operand} : fpn all i (Oper.mk d (.makeSlice t x y) ty p af g) = [i] := rfl
theorem fp_append {args : Array Operand} {ats : Array TypeId} : fpn all i (Oper.mk d (.call { callee := .builtin .append, args := args, argTypes := ats }) ty p af g) = [i] := rfl
theorem fp_build {t : TypeId} {n : Nat} {parts : Array (Nat × Operand)} : fpn all i (Oper.mk d (.buildSlice t n parts) ty p af g) = [i] := rfl
theorem fp_call {f : Operand} {args : Array Operand} {ats : Array TypeId} : fpn all i (Oper.mk d (.call { callee := .value f, args := args, argTypes := ats }) ty p af g) = [] := rfl
theorem fp_store {t : TypeId} {x y : Operand} : fpn all i (Oper.mk d (.store t x y) ty p af g) = optL (storeNew all (.store t x y)) := by
  simp only [fpn, allocs]; cases storeNew all (.store t x y) <;> rfl
theorem mergeG_get {w w' : H} {b : Nat} : mergeG G w w' b = if ((w.get b).isSome || (w'.get b).isSome) = true then w'.get b else G b := rfl
theorem LeN_nil {k : H} : H.LeN H.nil k ↔ True := ⟨fun _ => trivial, fun _ b cs hb _ => absurd hb (Nat.not_lt_zero _)⟩
theorem on_find {L : List Oper} {t : Nat} : ∀ (l : List Oper) (k : Nat), (∀ j, L[k + j]? = l[j]?) → ((List.range' k l.length).find? fun j => match L.toArray[j]? with | some o => o.dst == some t && allocs o.op | none => false) = findNew l t k
  | [], k, _ => rfl
  | o :: l, k, hl => by
    have h0 : L[k]? = some o := by simpa using hl 0
    have ih := on_find (t := t) l (k + 1) fun j => by have := hl (j + 1); simpa [Nat.add_assoc, Nat.add_comm 1 j] using this
    simp only [List.length_cons, List.range'_succ, List.find?_cons, List.getElem?_toArray, h0, findNew]
    simp only [List.getElem?_toArray] at ih
    split
    · rename_i hb; rw [hb]; rfl
    · rename_i hb; rw [hb]; exact ih
theorem new_store {l : List Oper} {t : TypeId} {k : Nat} {x : Operand} : storeNew l.toArray (.store t (.tmp k) x) = findNew l k 0 := by
  have := on_find (L := l) (t := k) l 0 (by simp)
  unfold storeNew
  rw [← this, List.range_eq_range']
  simp only [List.size_toArray]
  congr 1
theorem findNew_cons {l : List Oper} {t j : Nat} {d : Option Nat} {op : Op} {ty : TypeId} {p : String} {af : Array Edge} {g : Option (Nat × Bool)} : findNew (Oper.mk d op ty p af g :: l) t j = if (d == some t && allocs op) = true then some j else findNew l t (j + 1) := by
  simp only [findNew]
end

end Go.Pe
