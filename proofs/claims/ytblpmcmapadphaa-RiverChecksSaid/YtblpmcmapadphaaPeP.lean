/- How simplification walks through code: the continuation stays closed until what it waits for is a value. -/
import Derived.Test.YtblpmcmapadphaaPeO
set_option linter.unusedVariables false
set_option linter.unusedSimpArgs false
namespace Go.Pe
open Go

@[simp] theorem push_lp {h : H} {cs : List AV} : (h.push cs).lp = h.lp := rfl
@[simp] theorem set_lp {h : H} {b : Nat} {cs : List AV} : (h.set b cs).lp = h.lp := rfl
@[simp] theorem LeL_refl {h : H} : H.LeL h h = True := by simp [H.LeL]
@[simp] theorem LeL_push {h k : H} {cs : List AV} : H.LeL h (k.push cs) = H.LeL h k := rfl
@[simp] theorem LeL_set {h k : H} {b : Nat} {cs : List AV} : H.LeL h (k.set b cs) = H.LeL h k := rfl
@[simp] theorem LeL_nil {k : H} : H.LeL H.nil k = True := by simp [H.LeL, H.nil]
@[simp] theorem LeL_mk {h k : H} {n : Nat} {g : Nat → Option (List AV)} : H.LeL h { next := n, get := g, lp := k.lp } = H.LeL h k := rfl
@[simp] theorem LeL_mknil {k : H} {n : Nat} {g : Nat → Option (List AV)} : H.LeL { next := n, get := g, lp := fun _ => none } k = True := by simp [H.LeL]
@[simp] theorem nil_lp : H.nil.lp = fun _ => none := rfl

def ap (F : List AV → H → Prop) (_ : Tag F) (ρ : List AV) (h : H) : Prop := F ρ h
def apG (F : List AV → (Nat → Option (List AV)) → Prop) (_ : Tag F) (ρ : List AV) (g : Nat → Option (List AV)) : Prop := F ρ g
def seqK (V : List AV → H → Prop) (Q : Exit → List AV → H → Prop) : Exit → List AV → H → Prop := fun e ρ h => match e with | .normal => V ρ h | e => Q e ρ h
def blockK (id : Nat) (Q : Exit → List AV → H → Prop) : Exit → List AV → H → Prop := fun e ρ h => match e with | .exit id' => (if id' = id then Q .normal ρ h else Q (.exit id') ρ h) | e => Q e ρ h
def dstT (all : Array Oper) (_ : Tag all) (j : Nat) : Option Nat := (all[j]?).bind (·.dst)
theorem dstT_zero {o : Oper} {l : List Oper} {t : Tag (o :: l).toArray} : dstT (o :: l).toArray t 0 = o.dst := by simp [dstT]
theorem dstT_succ {o : Oper} {l : List Oper} {j : Nat} {t : Tag (o :: l).toArray} : dstT (o :: l).toArray t (j + 1) = dstT l.toArray .mk j := by simp [dstT]

section
variable {P : Program} {md : Oper → Bool} {ct : Nat → Cert} {rd : Option Nat} {Q : Exit → List AV → H → Prop} {ρ : List AV} {h : H}
theorem ap_skip {t : Tag (vc P md ct rd .skip Q)} : ap (vc P md ct rd .skip Q) t ρ h = ap (Q .normal) .mk ρ h := rfl
theorem ap_region {id : Nat} {l : List Oper} {t : Tag (vc P md ct rd (.region id l.toArray false) Q)} : ap (vc P md ct rd (.region id l.toArray false) Q) t ρ h = ap (vcOps P md l.toArray (Q .normal) l) .mk ρ h := rfl
theorem ap_seq {x y : Code} {t : Tag (vc P md ct rd (.seq x y) Q)} : ap (vc P md ct rd (.seq x y) Q) t ρ h = ap (vc P md ct rd x (seqK (vc P md ct rd y Q) Q)) .mk ρ h := rfl
theorem ap_cond {c : Operand} {x y : Code} {t : Tag (vc P md ct rd (.cond c x y) Q)} : ap (vc P md ct rd (.cond c x y) Q) t ρ h = onBool (aev ρ c) (fun b => ifB b (ap (vc P md ct rd x Q) .mk ρ h) (ap (vc P md ct rd y Q) .mk ρ h) .mk .mk) False .mk .mk := rfl
theorem ap_block {id : Nat} {x : Code} {t : Tag (vc P md ct rd (.block id x) Q)} : ap (vc P md ct rd (.block id x) Q) t ρ h = ap (vc P md ct rd x (blockK id Q)) .mk ρ h := rfl
theorem ap_loop {x : Code} {t : Tag (vc P md ct rd (.loop x) Q)} : ap (vc P md ct rd (.loop x) Q) t ρ h = LoopC P md ct rd x Q .mk ρ h := rfl
theorem ap_exit {id : Nat} {t : Tag (vc P md ct rd (.exit id) Q)} : ap (vc P md ct rd (.exit id) Q) t ρ h = ap (Q (.exit id)) .mk ρ h := rfl
theorem ap_ret {t : Tag (vc P md ct rd .ret Q)} : ap (vc P md ct rd .ret Q) t ρ h = ap (Q .ret) .mk ρ h := rfl
theorem ap_seq_normal {V : List AV → H → Prop} {t : Tag (seqK V Q .normal)} : ap (seqK V Q .normal) t ρ h = ap V .mk ρ h := rfl
theorem ap_seq_ret {V : List AV → H → Prop} {t : Tag (seqK V Q .ret)} : ap (seqK V Q .ret) t ρ h = ap (Q .ret) .mk ρ h := rfl
theorem ap_seq_exit {V : List AV → H → Prop} {id : Nat} {t : Tag (seqK V Q (.exit id))} : ap (seqK V Q (.exit id)) t ρ h = ap (Q (.exit id)) .mk ρ h := rfl
theorem ap_block_normal {id : Nat} {t : Tag (blockK id Q .normal)} : ap (blockK id Q .normal) t ρ h = ap (Q .normal) .mk ρ h := rfl
theorem ap_block_ret {id : Nat} {t : Tag (blockK id Q .ret)} : ap (blockK id Q .ret) t ρ h = ap (Q .ret) .mk ρ h := rfl
theorem ap_block_exit {id : Nat} {t : Tag (blockK id Q (.exit id))} : ap (blockK id Q (.exit id)) t ρ h = ap (Q .normal) .mk ρ h := by simp [ap, blockK]
theorem ap_block_other {id id' : Nat} (hne : id' ≠ id) {t : Tag (blockK id Q (.exit id'))} : ap (blockK id Q (.exit id')) t ρ h = ap (Q (.exit id')) .mk ρ h := by simp [ap, blockK, hne]
theorem ap_nil {all : Array Oper} {Q : List AV → H → Prop} {t : Tag (vcOps P md all Q [])} : ap (vcOps P md all Q []) t ρ h = ap Q .mk ρ h := rfl
theorem ap_cons {all : Array Oper} {Q : List AV → H → Prop} {rest : List Oper} {o : Oper} {t : Tag (vcOps P md all Q (o :: rest))} : ap (vcOps P md all Q (o :: rest)) t ρ h = match o.guard with
    | none => ap (stepA P md o (vcOps P md all Q rest)) .mk ρ h
    | some (j, want) => onSome (dstT all .mk j) (fun d => onBool (ρ.getD d (.val undef)) (fun b => ifB (b == want) (ap (stepA P md o (vcOps P md all Q rest)) .mk (ρ.set d (.val (.bool want))) h) (ap (vcOps P md all Q rest) .mk (putA (ρ.set d (.val (.bool !want))) o.dst (.val undef)) h) .mk .mk)
          (ap (vcOps P md all Q rest) .mk (putA ρ o.dst (.val undef)) h) .mk .mk) .mk := rfl
theorem ap_step {o : Oper} {K : List AV → H → Prop} {t : Tag (stepA P md o K)} : ap (stepA P md o K) t ρ h = match o.op with
  | .call { callee := .value f, args, .. } => onFn (aev ρ f) (fun g caps => onCall P g (args.toList.map (aev ρ) ++ caps) h (fun x h' => ap K .mk (putA ρ o.dst x) h') .mk) (fun b => onRound P b (args.toList.map (aev ρ)) h (fun x h' => ap K .mk (putA ρ o.dst x) h') .mk) .mk .mk
  | _ => onSome (stepV P (md o) o ρ h) (fun r => ap K .mk (putA ρ o.dst r.1) r.2) .mk := rfl

theorem ap_draw {id : Nat} {l : List Oper} {t : Tag (vc P md ct rd (.region id l.toArray true) Q)} : ap (vc P md ct rd (.region id l.toArray true) Q) t ρ h = ((∀ b ∈ (ct id).M, b < h.next) ∧ apG (vcDr P md (ct id) l.toArray h (Q .normal) l 0) .mk ρ h.get) := rfl
theorem ap_dr_nil {ct : Cert} {l : List Oper} {h0 : H} {Q : List AV → H → Prop} {i : Nat} {g : Nat → Option (List AV)} {t : Tag (vcDr P md ct l.toArray h0 Q [] i)} : apG (vcDr P md ct l.toArray h0 Q [] i) t ρ g = ap Q .mk ρ { next := h0.next + l.length, get := g, lp := h0.lp } := by simp [apG, ap, vcDr]
theorem ap_dr_cons {ct : Cert} {all : Array Oper} {h0 : H} {Q : List AV → H → Prop} {o : Oper} {rest : List Oper} {i : Nat} {g : Nat → Option (List AV)} {t : Tag (vcDr P md ct all h0 Q (o :: rest) i)} : apG (vcDr P md ct all h0 Q (o :: rest) i) t ρ g = match o.guard with
    | none => if quietA ct i o then stepQ P o (qView ct h0 all.size i) (fun x => apG (vcDr P md ct all h0 Q rest (i + 1)) .mk (putA ρ o.dst x) g) ρ
        else stepE P (md o) o (eView all ct h0 i (h0.next + i) o g) (eView all ct h0 i (h0.next + all.size) o g) (fun x h' => apG (vcDr P md ct all h0 Q rest (i + 1)) .mk (putA ρ o.dst x) (mergeG g (eView all ct h0 i (h0.next + i) o g) h')) ρ
    | some (j, want) => onSome (dstT all .mk j) (fun d => onBool (ρ.getD d (.val undef)) (fun b => ifB (b == want) (if quietA ct i o then stepQ P o (qView ct h0 all.size i) (fun x => apG (vcDr P md ct all h0 Q rest (i + 1)) .mk (putA (ρ.set d (.val (.bool want))) o.dst x) g) (ρ.set d (.val (.bool want)))
            else stepE P (md o) o (eView all ct h0 i (h0.next + i) o g) (eView all ct h0 i (h0.next + all.size) o g) (fun x h' => apG (vcDr P md ct all h0 Q rest (i + 1)) .mk (putA (ρ.set d (.val (.bool want))) o.dst x) (mergeG g (eView all ct h0 i (h0.next + i) o g) h')) (ρ.set d (.val (.bool want))))
          (apG (vcDr P md ct all h0 Q rest (i + 1)) .mk (putA (ρ.set d (.val (.bool !want))) o.dst (.val undef)) g) .mk .mk)
          (apG (vcDr P md ct all h0 Q rest (i + 1)) .mk (putA ρ o.dst (.val undef)) g) .mk .mk) .mk := rfl
theorem stepQ_eq {o : Oper} {q : H} {K : AV → Prop} : stepQ P o q K ρ = match o.op with
  | .call { callee := .value f, args, .. } => onClo (aev ρ f) (fun g caps => onCallQ P g (args.toList.map (aev ρ) ++ caps) q K .mk) .mk
  | _ => onSome (pop P o ρ q) K .mk := rfl
theorem stepE_eq {own : Bool} {o : Oper} {v vc : H} {K : AV → H → Prop} : stepE P own o v vc K ρ = match o.op with
  | .call { callee := .value f, args, .. } => onClo (aev ρ f) (fun g caps => onCallE P g (args.toList.map (aev ρ) ++ caps) vc K .mk) .mk
  | _ => onSome (eop P own o ρ v) (fun r => K r.1 r.2) .mk := rfl

def loopK {σ : Type} (tm : σ → (Nat → AV) → List AV) (hp : σ → H → Prop) (μ : σ → Nat) (n : Nat) : List AV → H → Prop := fun ρ' h' => ∃ s', hp s' h' ∧ ρ' = tm s' (fun k => ρ'.getD k (.val undef)) ∧ μ s' < n
theorem ap_loopK {σ : Type} {tm : σ → (Nat → AV) → List AV} {hp : σ → H → Prop} {μ : σ → Nat} {n : Nat} {t : Tag (loopK tm hp μ n)} : ap (loopK tm hp μ n) t ρ h = ∃ s', hp s' h ∧ ρ = tm s' (fun k => ρ.getD k (.val undef)) ∧ μ s' < n := rfl
/-- A LOOP, BY A FORM OF ITS SLOTS. -/
theorem LoopC.on {x : Code} {σ : Type} (tm : σ → (Nat → AV) → List AV) (hp : σ → H → Prop) (μ : σ → Nat) (s0 : σ) (h0 : hp s0 h) (e0 : ρ = tm s0 (fun k => ρ.getD k (.val undef)))
    (round : ∀ s j h, hp s h → ap (vc P md ct rd x (seqK (loopK tm hp μ (μ s)) Q)) .mk (tm s j) h) {t : Tag Q} : LoopC P md ct rd x Q t ρ h :=
  LoopC.by tm hp μ s0 h0 e0 round

/-- A FUNCTION THAT LEAVES THE HEAP ALONE. -/
theorem Fn.keep {f : FuncId} {fn : Func} {code : Code} (md : Oper → Bool) (ct : Nat → Cert) {args : List AV} {x : AV} (hcall : callable P f = true) (hf : P.funcs[f]? = some fn) (hb : fn.body = some code) (hd : drawsOk P ct code = true)
    (hv : LiveH h → ap (vc P md ct none code (FinK P fn h x)) .mk (args ++ List.replicate (fn.ntmps - args.length) (.val undef)) h) : Fn P f args h x h := Fn.of_vc_keep md ct hcall hf hb hd hv
theorem ap_fin_ret {fn : Func} {x : AV} {h0 : H} {t : Tag (FinK P fn h0 x .ret)} : ap (FinK P fn h0 x .ret) t ρ h = onSome (resA P fn.results ρ h) (fun y => (∃ k, frz k h h0.next y = some x) ∧ H.LeN h0 h ∧ H.LeL h0 h) .mk := by
  unfold ap FinK onSome; cases resA P fn.results ρ h <;> simp
theorem ap_fin_normal {fn : Func} {x : AV} {h0 : H} {t : Tag (FinK P fn h0 x .normal)} : ap (FinK P fn h0 x .normal) t ρ h = onSome (resA P fn.results ρ h) (fun y => (∃ k, frz k h h0.next y = some x) ∧ H.LeN h0 h ∧ H.LeL h0 h) .mk := by
  unfold ap FinK onSome; cases resA P fn.results ρ h <;> simp
end

end Go.Pe
