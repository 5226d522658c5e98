/- Operations that leave memory alone: numbers, tuples, builtins, structs; and all of them together. -/
import Derived.Test.YtblpmcmapadphaaPeC
set_option linter.unusedVariables false
set_option linter.unusedSimpArgs false
namespace Go.Pe
open Go

def binI (op : BinOp) (k : IntKind) (a b : Int) : Option AV :=
  match op with
  | .add => some (.val (.int k (k.wrap (a + b))))
  | .sub => some (.val (.int k (k.wrap (a - b))))
  | .mul => some (.val (.int k (k.wrap (a * b))))
  | .quo => if b = 0 then none else some (.val (.int k (k.wrap (a.tdiv b))))
  | .rem => if b = 0 then none else some (.val (.int k (a.tmod b)))
  | .eql => some (.val (.bool (a == b)))
  | .neq => some (.val (.bool (a != b)))
  | .lss => some (.val (.bool (decide (a < b))))
  | .leq => some (.val (.bool (decide (a ≤ b))))
  | .gtr => some (.val (.bool (decide (a > b))))
  | .geq => some (.val (.bool (decide (a ≥ b))))
  | _ => none

theorem run_binI {P : Program} {op : BinOp} {t : TypeId} {x y : Operand} {k : IntKind} {a b : Int} {r : AV} (w : World) (h : binI op k a b = some r) :
    ∃ v, (do eqGuard op t x y (.int k a) (.int k b); binOp op t (.int k a) (.int k b) : Sem Value).run P w = .ok v w ∧ r = .val v := by
  have hg : eqGuard op t x y (.int k a) (.int k b) = pure () := by cases op <;> rfl
  rw [hg]
  cases op <;> simp only [binI] at h <;> first
    | (cases h; exact ⟨_, by simp [binOp, Op.intArith, Op.intCmp], rfl⟩)
    | (split at h
       · cases h
       · rename_i hb
         cases h; exact ⟨_, by simp [binOp, Op.intDiv, hb], rfl⟩)
    | cases h

/-- Whether a slice is nil. -/
def nilA : AV → Option Bool
  | .ro _ _ (_ :: _) => some false
  | .sl _ _ _ _ => some false
  | .val (.slice none 0 0) => some true
  | _ => none

def bin (T : TI) (op : BinOp) (x y : AV) : Option AV :=
  match x, y with
  | .val (.int k a), .val (.int k' b) => if k = k' then binI op k a b else none
  | .val (.bool a), .val (.bool b) => match T.kind, op with
    | .bool, .eql => some (.val (.bool (a == b)))
    | .bool, .neq => some (.val (.bool (!(a == b))))
    | _, _ => none
  | x, .val (.slice none 0 0) => match T.kind, op, nilA x with
    | .sl _, .eql, some b => some (.val (.bool b))
    | .sl _, .neq, some b => some (.val (.bool (!b)))
    | _, _, _ => none
  | _, _ => none

theorem run_bin {P : Program} {c : Cx} {w : World} {D : Nat → Prop} {t : TypeId} {T : TI} (hT : ti P t = some T) {op : BinOp} {x y r : AV} {u v : Value} (ox oy : Operand) (hu : R c w D x u) (hv : R c w D y v) (h : bin T op x y = some r) :
    ∃ z, (do eqGuard op t ox oy u v; binOp op t u v : Sem Value).run P w = .ok z w ∧ R c w D r z := by
  unfold bin at h
  split at h
  · split at h
    · rename_i hk
      subst hk
      cases hu; cases hv
      obtain ⟨z, h1, h2⟩ := run_binI (P := P) (t := t) (x := ox) (y := oy) w h
      exact ⟨z, h1, h2 ▸ .val z⟩
    · cases h
  · cases hu; cases hv
    split at h
    · rename_i hk
      cases h
      have hb := ti_bool hT hk
      exact ⟨_, by simp [eqGuard_at_bool, run_eql_bool w t _ _ hb], .val _⟩
    · rename_i hk
      cases h
      have hb := ti_bool hT hk
      exact ⟨_, by simp [eqGuard_at_bool, run_neq_bool w t _ _ hb], .val _⟩
    · cases h
  · cases hv
    have isnil : ∀ b, nilA x = some b → ∃ a n m, u = .slice a n m ∧ a.isNone = b := fun b hb => by
      unfold nilA at hb
      split at hb
      · cases hb
        cases hu with
        | ro cell hS hl hc hf hk hcell ho hh => exact ⟨_, _, _, rfl, rfl⟩
      · cases hb
        cases hu with
        | sl hb' hc C e hblk hC => exact ⟨_, _, _, rfl, rfl⟩
      · cases hb; cases hu; exact ⟨none, 0, 0, rfl, rfl⟩
      · cases hb
    have run : ∀ {e : TypeId} (d : Nat) (a : Option Addr) (n m : Nat), P.underlying t = some (.slice e) → (Op.equalIn (d + 1) t (.slice a n m) (.slice none 0 0)).run P w = .ok a.isNone w := fun d a n m ht => by
      cases a with
      | none => simp [Op.equalIn, run_underlying ht]
      | some a => simp [Op.equalIn, run_underlying ht]
    split at h
    · rename_i e b hk hb
      cases h
      obtain ⟨a, n, m, rfl, rfl⟩ := isnil _ hb
      refine ⟨.bool a.isNone, ?_, .val _⟩
      have := run 9999 a n m (ti_sl hT hk)
      simp only [binOp]
      simp [eqGuard_at_slice, Op.equal, Op.maxDepth, this]
    · rename_i e b hk hb
      cases h
      obtain ⟨a, n, m, rfl, rfl⟩ := isnil _ hb
      refine ⟨.bool (!a.isNone), ?_, .val _⟩
      have := run 9999 a n m (ti_sl hT hk)
      simp only [binOp]
      simp [eqGuard_at_slice, Op.equal, Op.maxDepth, this]
    · cases h
  · cases h

def unA (op : UnOp) (x : AV) : Option AV :=
  match op, x with
  | .not, .val (.bool b) => some (.val (.bool (!b)))
  | .neg, .val (.int k n) => some (.val (.int k (k.wrap (0 - n))))
  | _, _ => none

theorem run_unA {P : Program} {c : Cx} {w : World} {D : Nat → Prop} {op : UnOp} {x r : AV} {u : Value} (hu : R c w D x u) (h : unA op x = some r) : ∃ z, (Op.unary op u).run P w = .ok z w ∧ R c w D r z := by
  unfold unA at h
  split at h
  · cases h; cases hu; exact ⟨_, by simp [Op.unary], .val _⟩
  · cases h; cases hu; exact ⟨_, by simp [Op.unary, Op.intArith], .val _⟩
  · cases h

def convA (T : TI) (x : AV) : Option AV :=
  match T.kind, x with
  | .int k, .val (.int _ n) => some (.val (.int k (k.wrap n)))
  | _, _ => none

theorem run_convA {P : Program} {c : Cx} {w : World} {D : Nat → Prop} {s t : TypeId} {S T : TI} (hS : ti P s = some S) (hT : ti P t = some T) {x r : AV} {u : Value} (hu : R c w D x u) (h : convA T x = some r) :
    ∃ z, (convert s t u).run P w = .ok z w ∧ R c w D r z := by
  unfold convA at h
  split at h
  · rename_i k k' n hk
    cases h; cases hu
    obtain ⟨i, z, d, hi, hd, _⟩ := ti_parts hS
    refine ⟨_, ?_, .val _⟩
    simp only [convert, Sem.run_bind, run_underlying hd, run_underlying (ti_int hT hk), Result.andThen_ok]
    cases d <;> simp [Conv.intToInt]
  · cases h

def extA (x : AV) (i : Nat) : Option AV := match x with | .tup l => l[i]? | _ => none
theorem run_extA {P : Program} {c : Cx} {w : World} {D : Nat → Prop} {x r : AV} {u : Value} {i : Nat} (hu : R c w D x u) (h : extA x i = some r) : ∃ z, (Instr.extract u i).run P w = .ok z w ∧ R c w D r z := by
  unfold extA at h
  split at h
  · cases hu with
    | tup hs hh =>
      rename_i l cs
      have hlt : i < cs.size := by rw [hs]; exact (List.getElem?_eq_some_iff.1 h).1
      have h2 := Array.getElem?_eq_getElem hlt
      exact ⟨cs[i], by simp [Instr.extract, h2], hh i r _ h h2⟩
  · cases h

def lenA (T : TI) (x : AV) : Option AV :=
  match T.kind, x with
  | .sl _, .ro _ _ xs => some (.val (.int .i64 xs.length))
  | .sl _, .sl _ _ len _ => some (.val (.int .i64 len))
  | .sl _, .val (.slice none 0 0) => some (.val (.int .i64 0))
  | .ar n _, _ => some (.val (.int .i64 n))
  | .str, .val (.string s) => some (.val (.int .i64 s.size))
  | _, _ => none

theorem run_lenA {P : Program} {c : Cx} {w : World} {D : Nat → Prop} {t ty : TypeId} {T : TI} (hT : ti P t = some T) {x r : AV} {u : Value} (hu : R c w D x u) (h : lenA T x = some r) :
    ∃ z, (Builtin.len_ #[t] ty #[u]).run P w = .ok z w ∧ R c w D r z := by
  unfold lenA at h
  split at h
  · rename_i e f k xs hk
    cases h
    have hd := ti_sl hT hk
    cases hu with
    | ro cell hS hl hc hf hkk hcell ho hh => subst hl; exact ⟨_, by simp [Builtin.len_, run_underlying hd, goInt], .val _⟩
    | nil => exact ⟨_, by simp [Builtin.len_, run_underlying hd, goInt], .val _⟩
    | emp => exact ⟨_, by simp [Builtin.len_, run_underlying hd, goInt], .val _⟩
  · rename_i e b o len k hk
    cases h
    have hd := ti_sl hT hk
    cases hu with
    | sl hb hc C e' hblk hC => exact ⟨_, by simp [Builtin.len_, run_underlying hd, goInt], .val _⟩
  · rename_i e hk
    cases h
    have hd := ti_sl hT hk
    cases hu
    exact ⟨_, by simp [Builtin.len_, run_underlying hd, goInt], .val _⟩
  · rename_i n e hk
    cases h
    have hd := ti_ar hT hk
    exact ⟨_, by simp [Builtin.len_, run_underlying hd, goInt], .val _⟩
  · rename_i s hk
    cases h
    have hd := ti_str hT hk
    cases hu
    exact ⟨_, by simp [Builtin.len_, run_underlying hd, goInt], .val _⟩
  · cases h

/-- min and max of integers of one kind. -/
def mmA (mx : Bool) : List AV → Option AV
  | [.val (.int k a), .val (.int _ b)] => some (.val (.int k (if mx then (if b > a then b else a) else (if b < a then b else a))))
  | [.val (.int k a), .val (.int _ b), .val (.int _ d)] => let m := if mx then (if b > a then b else a) else (if b < a then b else a)
    some (.val (.int k (if mx then (if d > m then d else m) else (if d < m then d else m))))
  | _ => none

theorem RL_two {c : Cx} {w : World} {D : Nat → Prop} {x y : AV} {vs : Array Value} (h : RL c w D [x, y] vs) : ∃ u v, vs = #[u, v] ∧ R c w D x u ∧ R c w D y v := by
  obtain ⟨hs, hh⟩ := h
  match vs, hs, hh with
  | ⟨[u, v]⟩, _, hh => exact ⟨u, v, rfl, hh 0 _ _ rfl rfl, hh 1 _ _ rfl rfl⟩
theorem RL_three {c : Cx} {w : World} {D : Nat → Prop} {x y z : AV} {vs : Array Value} (h : RL c w D [x, y, z] vs) : ∃ u v t, vs = #[u, v, t] ∧ R c w D x u ∧ R c w D y v ∧ R c w D z t := by
  obtain ⟨hs, hh⟩ := h
  match vs, hs, hh with
  | ⟨[u, v, t]⟩, _, hh => exact ⟨u, v, t, rfl, hh 0 _ _ rfl rfl, hh 1 _ _ rfl rfl, hh 2 _ _ rfl rfl⟩
theorem RL_one {c : Cx} {w : World} {D : Nat → Prop} {x : AV} {vs : Array Value} (h : RL c w D [x] vs) : ∃ u, vs = #[u] ∧ R c w D x u := by
  obtain ⟨hs, hh⟩ := h
  match vs, hs, hh with
  | ⟨[u]⟩, _, hh => exact ⟨u, rfl, hh 0 _ _ rfl rfl⟩

theorem run_mmA {P : Program} {c : Cx} {w : World} {D : Nat → Prop} {ts : Array TypeId} {ty : TypeId} {mx : Bool} {xs : List AV} {vs : Array Value} {r : AV} (hu : RL c w D xs vs) (h : mmA mx xs = some r) :
    ∃ z, ((if mx then Builtin.max_ ts ty vs else Builtin.min_ ts ty vs)).run P w = .ok z w ∧ R c w D r z := by
  unfold mmA at h
  split at h
  · cases h
    obtain ⟨u, v, rfl, h1, h2⟩ := RL_two hu
    cases h1; cases h2
    cases mx <;> exact ⟨_, by simp [Builtin.max_, Builtin.min_, Builtin.max2, Builtin.min2], .val _⟩
  · cases h
    obtain ⟨u, v, t, rfl, h1, h2, h3⟩ := RL_three hu
    cases h1; cases h2; cases h3
    cases mx <;> exact ⟨_, by simp [Builtin.max_, Builtin.min_, Builtin.max2, Builtin.min2], .val _⟩
  · cases h

/-- A slice of a slice that stays as it is. -/
def boundA (d : Int) : Option AV → Option Int
  | none => some d
  | some y => intOf? y
def sliceA (T E : TI) (x : AV) (lo hi mx : Option AV) : Option AV :=
  match T.kind, x with
  | .sl _, .ro _ k xs =>
    match boundA 0 lo, boundA xs.length hi with
    | some l, some h => if k = E.size ∧ 0 ≤ l ∧ l ≤ h ∧ h ≤ xs.length then
        match mx with
        | none => some (.ro false k ((xs.drop l.toNat).take (h.toNat - l.toNat)))
        | some y => match hi, intOf? y with
          | some _, some m => if h = m then some (.ro true k ((xs.drop l.toNat).take (h.toNat - l.toNat))) else none
          | _, _ => none
      else none
    | _, _ => none
  | _, _ => none

theorem run_sliceBound {P : Program} {w : World} {k : IntKind} {i : Int} {y : Nat} {code : BoundsCode} (h0 : 0 ≤ i) (h1 : i ≤ y) : (Instr.sliceBound (.int k i) y code).run P w = .ok i.toNat w := by
  simp [Instr.sliceBound, asIntOf, h0, h1]

theorem optInt_R {c : Cx} {w : World} {D : Nat → Prop} {x : AV} {v : Value} {n : Int} (h : R c w D x v) (hx : intOf? x = some n) : ∃ k, v = .int k n := intOf?_R h hx

theorem ro_part {c : Cx} {w : World} {D : Nat → Prop} {f : Bool} {k : Nat} {xs : List (List AV)} {b o len cap : Nat} (h : R c w D (.ro f k xs) (.slice (some ⟨b, o, none⟩) len cap)) (l n m : Nat) (hln : l + n ≤ xs.length)
    (hm : n ≤ m) (hmc : m ≤ cap) (g : Bool) (hg : g = true → m = n) : R c w D (.ro g k ((xs.drop l).take n)) (.slice (some ⟨b, o + l * k, none⟩) n m) := by
  cases h with
  | emp =>
    simp only [List.length_nil] at hln
    have e1 : n = 0 := by omega
    have e2 : m = 0 := by omega
    subst e1; subst e2; simpa using R.emp
  | ro cell hS hl hc hf hkk hcell ho hh =>
    refine .ro (fun i j => cell (l + i) j) hS (by simp; omega) hm hg (fun row hr => hkk row (List.mem_of_mem_drop (List.mem_of_mem_take hr))) (fun i j hi hj => ?_) (fun i j hi hj => ho (l + i) j (by omega) hj) (fun i j row x h1 h2 => ?_)
    · have := hcell (l + i) j (by omega) hj
      rw [show o + l * k + i * k + j = o + (l + i) * k + j by rw [Nat.add_mul]; omega]; exact this
    · refine hh (l + i) j row x ?_ h2
      rw [List.getElem?_take] at h1
      split at h1
      · simpa [List.getElem?_drop] using h1
      · cases h1

theorem run_sliceBounds {P : Program} {w : World} {len cap : Nat} {l h m : Int} {lo hi mx : Option Value} (h0 : 0 ≤ l) (h1 : l ≤ h) (h2 : h ≤ m) (h3 : m ≤ cap)
    (hlo : (lo = none ∧ l = 0) ∨ ∃ kk, lo = some (.int kk l)) (hhi : (hi = none ∧ h = len) ∨ ∃ kk, hi = some (.int kk h)) (hmx : (mx = none ∧ m = cap) ∨ ∃ kk, mx = some (.int kk m) ∧ hi.isSome = true) :
    (Instr.sliceBounds true len cap lo hi mx).run P w = .ok (l.toNat, h.toNat, m.toNat) w := by
  have e1 : ∀ (kk : IntKind) (code : BoundsCode), (Instr.sliceBound (.int kk m) cap code).run P w = .ok m.toNat w := fun kk code => run_sliceBound (by omega) h3
  have e2 : ∀ (kk : IntKind) (code : BoundsCode), (Instr.sliceBound (.int kk h) m.toNat code).run P w = .ok h.toNat w := fun kk code => run_sliceBound (by omega) (by omega)
  have e3 : ∀ (kk : IntKind) (code : BoundsCode), (Instr.sliceBound (.int kk l) h.toNat code).run P w = .ok l.toNat w := fun kk code => run_sliceBound h0 (by omega)
  rcases hmx with ⟨rfl, rfl⟩ | ⟨k3, rfl, hs⟩
  · simp only [Int.toNat_natCast] at e2
    rcases hhi with ⟨rfl, rfl⟩ | ⟨k2, rfl⟩
    · simp only [Int.toNat_natCast] at e3
      rcases hlo with ⟨rfl, rfl⟩ | ⟨k1, rfl⟩ <;> simp [Instr.sliceBounds, e3]
    · rcases hlo with ⟨rfl, rfl⟩ | ⟨k1, rfl⟩ <;> simp [Instr.sliceBounds, e2, e3]
  · rcases hhi with ⟨rfl, rfl⟩ | ⟨k2, rfl⟩
    · simp at hs
    · rcases hlo with ⟨rfl, rfl⟩ | ⟨k1, rfl⟩ <;> simp [Instr.sliceBounds, e1, e2, e3]

theorem boundA_R {c : Cx} {w : World} {D : Nat → Prop} {d n : Int} {x : Option AV} {x' : Option Value} (h : ∀ y, x = some y → ∃ v, x' = some v ∧ R c w D y v) (h0 : x = none → x' = none) (hx : boundA d x = some n) :
    (x' = none ∧ n = d) ∨ ∃ kk, x' = some (.int kk n) := by
  cases x with
  | none => simp only [boundA, Option.some.injEq] at hx; exact .inl ⟨h0 rfl, hx.symm⟩
  | some y =>
    obtain ⟨v, hv, hR⟩ := h y rfl
    obtain ⟨kk, rfl⟩ := intOf?_R hR hx
    exact .inr ⟨kk, hv⟩

theorem run_sliceA {P : Program} {c : Cx} {w : World} {D : Nat → Prop} {t : TypeId} {T E : TI} (hT : ti P t = some T) (hE : ti P (elemTy T.kind) = some E) {x r : AV} {u : Value} {lo hi mx : Option AV} {lo' hi' mx' : Option Value}
    (hu : R c w D x u) (hlo : ∀ y, lo = some y → ∃ v, lo' = some v ∧ R c w D y v) (hlo0 : lo = none → lo' = none) (hhi : ∀ y, hi = some y → ∃ v, hi' = some v ∧ R c w D y v) (hhi0 : hi = none → hi' = none)
    (hmx : ∀ y, mx = some y → ∃ v, mx' = some v ∧ R c w D y v) (hmx0 : mx = none → mx' = none) (h : sliceA T E x lo hi mx = some r) :
    ∃ z, (Instr.sliceAt t u lo' hi' mx').run P w = .ok z w ∧ R c w D r z := by
  unfold sliceA at h
  split at h
  · rename_i e f k xs hk
    rw [hk] at hE
    have hd := ti_sl hT hk
    have hs : (sizeOf e).run P w = .ok E.size w := ti_size hE w
    split at h
    · rename_i l h' e1 e2
      split at h
      · rename_i hcond
        obtain ⟨hks, h0, h1, h2⟩ := hcond
        have hlo2 := boundA_R hlo hlo0 e1
        -- what comes out, whatever the slice's own make
        have out : ∃ (g : Bool) (m : Nat → Int), r = .ro g k ((xs.drop l.toNat).take (h'.toNat - l.toNat)) ∧ (g = true → ∀ cap : Nat, m cap = h') ∧ ∀ (len cap : Nat), len = xs.length → len ≤ cap →
            h' ≤ m cap ∧ m cap ≤ cap ∧ (Instr.sliceBounds true len cap lo' hi' mx').run P w = .ok (l.toNat, h'.toNat, (m cap).toNat) w := by
          cases mx with
          | none =>
            dsimp only at h
            cases h
            refine ⟨false, fun cap => cap, rfl, by simp, fun len cap hl hc => ?_⟩
            have hcc : h' ≤ (cap : Int) := by omega
            refine ⟨hcc, Int.le_refl _, run_sliceBounds h0 h1 hcc (Int.le_refl _) hlo2 ?_ (.inl ⟨hmx0 rfl, rfl⟩)⟩
            subst hl; exact boundA_R hhi hhi0 e2
          | some y =>
            dsimp only at h
            split at h
            · rename_i yh m' hm
              split at h
              · rename_i hmm
                subst hmm
                cases h
                refine ⟨true, fun _ => h', rfl, fun _ _ => rfl, fun len cap hl hc => ?_⟩
                have hcc : h' ≤ (cap : Int) := by omega
                refine ⟨Int.le_refl _, hcc, ?_⟩
                obtain ⟨v, hv, hR⟩ := hmx y rfl
                obtain ⟨kk, rfl⟩ := intOf?_R hR hm
                obtain ⟨v2, hv2, hR2⟩ := hhi yh rfl
                refine run_sliceBounds h0 h1 (Int.le_refl _) hcc hlo2 ?_ (.inr ⟨kk, hv, by rw [hv2]; rfl⟩)
                subst hl; exact boundA_R hhi hhi0 e2
              · cases h
            · cases h
        obtain ⟨g, m, rfl, hg, hb⟩ := out
        cases hu with
        | nil =>
          obtain ⟨h3, h4, h5⟩ := hb 0 0 rfl (Nat.le_refl _)
          simp only [List.length_nil, Int.natCast_zero] at h2
          have hh0 : h' = 0 := by omega
          have hl0 : l = 0 := by omega
          have hm0 : m 0 = 0 := by simp at h4; omega
          subst hh0; subst hl0
          rw [hm0] at h5
          refine ⟨.slice none 0 0, by simp [Instr.sliceAt, run_underlying hd, Instr.slice, h5, hs], by simpa using R.nil⟩
        | emp =>
          rename_i a
          obtain ⟨h3, h4, h5⟩ := hb 0 0 rfl (Nat.le_refl _)
          simp only [List.length_nil, Int.natCast_zero] at h2
          have hh0 : h' = 0 := by omega
          have hl0 : l = 0 := by omega
          have hm0 : m 0 = 0 := by simp at h4; omega
          subst hh0; subst hl0
          rw [hm0] at h5
          refine ⟨.slice (some a) 0 0, by simp [Instr.sliceAt, run_underlying hd, Instr.slice, h5, hs], by simpa using R.emp⟩
        | ro cell hS hl hc hf hkk hcell ho hh =>
          rename_i b o len cap
          have hro : R c w D (.ro f k xs) (.slice (some ⟨b, o, none⟩) len cap) := .ro cell hS hl hc hf hkk hcell ho hh
          obtain ⟨h3, h4, h5⟩ := hb len cap hl hc
          refine ⟨.slice (some (if (m cap).toNat = l.toNat then ⟨b, o, none⟩ else ⟨b, o + l.toNat * E.size, none⟩)) (h'.toNat - l.toNat) ((m cap).toNat - l.toNat), ?_, ?_⟩
          · simp [Instr.sliceAt, run_underlying hd, Instr.slice, h5, hs, Addr_add]
            split <;> simp_all
          · by_cases hcl : (m cap).toNat = l.toNat
            · rw [if_pos hcl]
              have e3 : h'.toNat - l.toNat = 0 := by omega
              rw [e3, hcl, Nat.sub_self]
              have := ro_part hro 0 0 0 (by omega) (by omega) (by omega) g (by simp)
              simpa using this
            · rw [if_neg hcl, ← hks]
              exact ro_part hro l.toNat (h'.toNat - l.toNat) ((m cap).toNat - l.toNat) (by omega) (by omega) (by omega) g (fun e => by rw [hg e cap])
      · cases h
    · cases h
  · cases h

end Go.Pe
