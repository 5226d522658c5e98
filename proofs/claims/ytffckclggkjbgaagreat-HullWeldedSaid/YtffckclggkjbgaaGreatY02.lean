import Derived.Test.YtffckclggkjbgaaGreatY01
set_option linter.unusedVariables false
set_option linter.unusedSimpArgs false
/- Operations that leave memory alone: numbers, tuples, builtins, structs; and all of them together. -/
namespace Go.Pe
open Go

def binI (op : BinOp) (k : IntKind) (a b : Int) : Option AV :=
  match op with
  | .add => some (.val (.int k (k.wrap (a + b))))
  | .sub => some (.val (.int k (k.wrap (a - b))))
  | .mul => some (.val (.int k (k.wrap (a * b))))
  | .quo => if b = 0 then none else some (.val (.int k (k.wrap (a.tdiv b))))
  | .rem => if b = 0 then none else some (.val (.int k (a.tmod b)))
  | .shr => if b < 0 then none else some (.val (.int k (a.fdiv (2 ^ min b.toNat k.bits))))
  | .eql => some (.val (.bool (a == b)))
  | .neq => some (.val (.bool (a != b)))
  | .lss => some (.val (.bool (decide (a < b))))
  | .leq => some (.val (.bool (decide (a ≤ b))))
  | .gtr => some (.val (.bool (decide (a > b))))
  | .geq => some (.val (.bool (decide (a ≥ b))))
  | _ => none

theorem run_binI {P : Program} {op : BinOp} {t : TypeId} {x y : Operand} {k : IntKind} {a b : Int} {r : AV} (w : World) (h : binI op k a b = some r) :
    ∃ v, (do eqGuard op t x y (.int k a) (.int k b); binOp op t (.int k a) (.int k b) : Sem Value).run P w = .ok v w ∧ r = .val v := by
  have hg : eqGuard op t x y (.int k a) (.int k b) = pure () := by cases op <;> rfl
  rw [hg]
  cases op <;> simp only [binI] at h <;> first
    | (cases h; exact ⟨_, by simp [binOp, Op.intArith, Op.intCmp], rfl⟩)
    | (split at h
       · cases h
       · rename_i hb
         cases h; refine ⟨_, ?_, rfl⟩
         first
           | (simp [binOp, Op.intDiv, hb]; done)
           | (show Sem.run P (Op.shift .shr k a k b) w = _; unfold Op.shift; rw [if_neg hb]; simp; done)
           | (show Sem.run P (Op.shift .shr k a k b) w = _; unfold Op.shift; rw [if_neg hb]; rfl))
    | cases h

/-- Whether a slice is nil. -/
def nilA : AV → Option Bool
  | .ro _ _ (_ :: _) => some false
  | .sl _ _ _ _ => some false
  | .slc _ _ _ _ _ => some false
  | .val (.slice none 0 0) => some true
  | _ => none

def bin (T : TI) (op : BinOp) (x y : AV) : Option AV :=
  match x, y with
  | .val (.int k a), .val (.int k' b) => if k = k' then binI op k a b else none
  | .val (.bool a), .val (.bool b) => match T.kind, op with
    | .bool, .eql => some (.val (.bool (a == b)))
    | .bool, .neq => some (.val (.bool (!(a == b))))
    | _, _ => none
  | x, .val (.slice none 0 0) => match T.kind, op, nilA x with
    | .sl _, .eql, some b => some (.val (.bool b))
    | .sl _, .neq, some b => some (.val (.bool (!b)))
    | _, _, _ => none
  | _, _ => none

theorem run_bin {P : Program} {c : Cx} {w : World} {D : Nat → Prop} {t : TypeId} {T : TI} (hT : ti P t = some T) {op : BinOp} {x y r : AV} {u v : Value} (ox oy : Operand) (hu : R c w D x u) (hv : R c w D y v) (h : bin T op x y = some r) :
    ∃ z, (do eqGuard op t ox oy u v; binOp op t u v : Sem Value).run P w = .ok z w ∧ R c w D r z := by
  unfold bin at h
  split at h
  · split at h
    · rename_i hk
      subst hk
      cases hu; cases hv
      obtain ⟨z, h1, h2⟩ := run_binI (P := P) (t := t) (x := ox) (y := oy) w h
      exact ⟨z, h1, h2 ▸ .val z⟩
    · cases h
  · cases hu; cases hv
    split at h
    · rename_i hk
      cases h
      have hb := ti_bool hT hk
      exact ⟨_, by simp [eqGuard_at_bool, run_eql_bool w t _ _ hb], .val _⟩
    · rename_i hk
      cases h
      have hb := ti_bool hT hk
      exact ⟨_, by simp [eqGuard_at_bool, run_neq_bool w t _ _ hb], .val _⟩
    · cases h
  · cases hv
    have isnil : ∀ b, nilA x = some b → ∃ a n m, u = .slice a n m ∧ a.isNone = b := fun b hb => by
      unfold nilA at hb
      split at hb
      · cases hb
        cases hu with
        | ro cell hS hl hc hf hk hcell ho hh => exact ⟨_, _, _, rfl, rfl⟩
      · cases hb
        cases hu with
        | sl hb' hc C e hblk hC => exact ⟨_, _, _, rfl, rfl⟩
      · cases hb
        cases hu with
        | slc hb' hc C e hblk hC => exact ⟨_, _, _, rfl, rfl⟩
      · cases hb; cases hu; exact ⟨none, 0, 0, rfl, rfl⟩
      · cases hb
    have run : ∀ {e : TypeId} (d : Nat) (a : Option Addr) (n m : Nat), P.underlying t = some (.slice e) → (Op.equalIn (d + 1) t (.slice a n m) (.slice none 0 0)).run P w = .ok a.isNone w := fun d a n m ht => by
      cases a with
      | none => simp [Op.equalIn, run_underlying ht]
      | some a => simp [Op.equalIn, run_underlying ht]
    split at h
    · rename_i e b hk hb
      cases h
      obtain ⟨a, n, m, rfl, rfl⟩ := isnil _ hb
      refine ⟨.bool a.isNone, ?_, .val _⟩
      have := run 9999 a n m (ti_sl hT hk)
      simp only [binOp]
      simp [eqGuard_at_slice, Op.equal, Op.maxDepth, this]
    · rename_i e b hk hb
      cases h
      obtain ⟨a, n, m, rfl, rfl⟩ := isnil _ hb
      refine ⟨.bool (!a.isNone), ?_, .val _⟩
      have := run 9999 a n m (ti_sl hT hk)
      simp only [binOp]
      simp [eqGuard_at_slice, Op.equal, Op.maxDepth, this]
    · cases h
  · cases h

def unA (op : UnOp) (x : AV) : Option AV :=
  match op, x with
  | .not, .val (.bool b) => some (.val (.bool (!b)))
  | .neg, .val (.int k n) => some (.val (.int k (k.wrap (0 - n))))
  | _, _ => none

theorem run_unA {P : Program} {c : Cx} {w : World} {D : Nat → Prop} {op : UnOp} {x r : AV} {u : Value} (hu : R c w D x u) (h : unA op x = some r) : ∃ z, (Op.unary op u).run P w = .ok z w ∧ R c w D r z := by
  unfold unA at h
  split at h
  · cases h; cases hu; exact ⟨_, by simp [Op.unary], .val _⟩
  · cases h; cases hu; exact ⟨_, by simp [Op.unary, Op.intArith], .val _⟩
  · cases h

def convA (T : TI) (x : AV) : Option AV :=
  match T.kind, x with
  | .int k, .val (.int _ n) => some (.val (.int k (k.wrap n)))
  | _, _ => none

theorem run_convA {P : Program} {c : Cx} {w : World} {D : Nat → Prop} {s t : TypeId} {S T : TI} (hS : ti P s = some S) (hT : ti P t = some T) {x r : AV} {u : Value} (hu : R c w D x u) (h : convA T x = some r) :
    ∃ z, (convert s t u).run P w = .ok z w ∧ R c w D r z := by
  unfold convA at h
  split at h
  · rename_i k k' n hk
    cases h; cases hu
    obtain ⟨i, z, d, hi, hd, _⟩ := ti_parts hS
    refine ⟨_, ?_, .val _⟩
    simp only [convert, Sem.run_bind, run_underlying hd, run_underlying (ti_int hT hk), Result.andThen_ok]
    cases d <;> simp [Conv.intToInt]
  · cases h

def extA (x : AV) (i : Nat) : Option AV := match x with | .tup l => l[i]? | _ => none
theorem run_extA {P : Program} {c : Cx} {w : World} {D : Nat → Prop} {x r : AV} {u : Value} {i : Nat} (hu : R c w D x u) (h : extA x i = some r) : ∃ z, (Instr.extract u i).run P w = .ok z w ∧ R c w D r z := by
  unfold extA at h
  split at h
  · cases hu with
    | tup hs hh =>
      rename_i l cs
      have hlt : i < cs.size := by rw [hs]; exact (List.getElem?_eq_some_iff.1 h).1
      have h2 := Array.getElem?_eq_getElem hlt
      exact ⟨cs[i], by simp [Instr.extract, h2], hh i r _ h h2⟩
  · cases h

def lenA (T : TI) (x : AV) : Option AV :=
  match T.kind, x with
  | .sl _, .ro _ _ xs => some (.val (.int .i64 xs.length))
  | .sl _, .sl _ _ len _ => some (.val (.int .i64 len))
  | .sl _, .slc _ _ len _ _ => some (.val (.int .i64 len))
  | .sl _, .val (.slice none 0 0) => some (.val (.int .i64 0))
  | .ar n _, _ => some (.val (.int .i64 n))
  | .str, .val (.string s) => some (.val (.int .i64 s.size))
  | _, _ => none

theorem run_lenA {P : Program} {c : Cx} {w : World} {D : Nat → Prop} {t ty : TypeId} {T : TI} (hT : ti P t = some T) {x r : AV} {u : Value} (hu : R c w D x u) (h : lenA T x = some r) :
    ∃ z, (Builtin.len_ #[t] ty #[u]).run P w = .ok z w ∧ R c w D r z := by
  unfold lenA at h
  split at h
  · rename_i e f k xs hk
    cases h
    have hd := ti_sl hT hk
    cases hu with
    | ro cell hS hl hc hf hkk hcell ho hh => subst hl; exact ⟨_, by simp [Builtin.len_, run_underlying hd, goInt], .val _⟩
    | nil => exact ⟨_, by simp [Builtin.len_, run_underlying hd, goInt], .val _⟩
    | emp => exact ⟨_, by simp [Builtin.len_, run_underlying hd, goInt], .val _⟩
  · rename_i e b o len k hk
    cases h
    have hd := ti_sl hT hk
    cases hu with
    | sl hb hc C e' hblk hC => exact ⟨_, by simp [Builtin.len_, run_underlying hd, goInt], .val _⟩
  · rename_i e b o len k cap hk
    cases h
    have hd := ti_sl hT hk
    cases hu with
    | slc hb hc C e' hblk hC => exact ⟨_, by simp [Builtin.len_, run_underlying hd, goInt], .val _⟩
  · rename_i e hk
    cases h
    have hd := ti_sl hT hk
    cases hu
    exact ⟨_, by simp [Builtin.len_, run_underlying hd, goInt], .val _⟩
  · rename_i n e hk
    cases h
    have hd := ti_ar hT hk
    exact ⟨_, by simp [Builtin.len_, run_underlying hd, goInt], .val _⟩
  · rename_i s hk
    cases h
    have hd := ti_str hT hk
    cases hu
    exact ⟨_, by simp [Builtin.len_, run_underlying hd, goInt], .val _⟩
  · cases h

/-- What a slice has room for, where that is known. -/
def capA (T : TI) (x : AV) : Option AV :=
  match T.kind, x with
  | .sl _, .ro true _ xs => some (.val (.int .i64 xs.length))
  | .sl _, .slc _ _ _ _ cap => some (.val (.int .i64 cap))
  | .sl _, .val (.slice none 0 0) => some (.val (.int .i64 0))
  | _, _ => none

theorem run_capA {P : Program} {c : Cx} {w : World} {D : Nat → Prop} {t ty : TypeId} {T : TI} (hT : ti P t = some T) {x r : AV} {u : Value} (hu : R c w D x u) (h : capA T x = some r) :
    ∃ z, (Builtin.cap_ #[t] ty #[u]).run P w = .ok z w ∧ R c w D r z := by
  unfold capA at h
  split at h
  · rename_i e k xs hk
    cases h
    have hd := ti_sl hT hk
    cases hu with
    | ro cell hS hl hc hf hkk hcell ho hh => have := hf rfl; subst this; subst hl; exact ⟨_, by simp [Builtin.cap_, run_underlying hd, goInt], .val _⟩
    | nil => exact ⟨_, by simp [Builtin.cap_, run_underlying hd, goInt], .val _⟩
    | emp => exact ⟨_, by simp [Builtin.cap_, run_underlying hd, goInt], .val _⟩
  · rename_i e b o len k cap hk
    cases h
    have hd := ti_sl hT hk
    cases hu with
    | slc hb hc C e' hblk hC => exact ⟨_, by simp [Builtin.cap_, run_underlying hd, goInt], .val _⟩
  · rename_i e hk
    cases h
    have hd := ti_sl hT hk
    cases hu
    exact ⟨_, by simp [Builtin.cap_, run_underlying hd, goInt], .val _⟩
  · cases h

/-- min and max of integers of one kind. -/
def mmA (mx : Bool) : List AV → Option AV
  | [.val (.int k a), .val (.int _ b)] => some (.val (.int k (if mx then (if b > a then b else a) else (if b < a then b else a))))
  | [.val (.int k a), .val (.int _ b), .val (.int _ d)] => let m := if mx then (if b > a then b else a) else (if b < a then b else a)
    some (.val (.int k (if mx then (if d > m then d else m) else (if d < m then d else m))))
  | _ => none

theorem RL_two {c : Cx} {w : World} {D : Nat → Prop} {x y : AV} {vs : Array Value} (h : RL c w D [x, y] vs) : ∃ u v, vs = #[u, v] ∧ R c w D x u ∧ R c w D y v := by
  obtain ⟨hs, hh⟩ := h
  match vs, hs, hh with
  | ⟨[u, v]⟩, _, hh => exact ⟨u, v, rfl, hh 0 _ _ rfl rfl, hh 1 _ _ rfl rfl⟩
theorem RL_three {c : Cx} {w : World} {D : Nat → Prop} {x y z : AV} {vs : Array Value} (h : RL c w D [x, y, z] vs) : ∃ u v t, vs = #[u, v, t] ∧ R c w D x u ∧ R c w D y v ∧ R c w D z t := by
  obtain ⟨hs, hh⟩ := h
  match vs, hs, hh with
  | ⟨[u, v, t]⟩, _, hh => exact ⟨u, v, t, rfl, hh 0 _ _ rfl rfl, hh 1 _ _ rfl rfl, hh 2 _ _ rfl rfl⟩
theorem RL_one {c : Cx} {w : World} {D : Nat → Prop} {x : AV} {vs : Array Value} (h : RL c w D [x] vs) : ∃ u, vs = #[u] ∧ R c w D x u := by
  obtain ⟨hs, hh⟩ := h
  match vs, hs, hh with
  | ⟨[u]⟩, _, hh => exact ⟨u, rfl, hh 0 _ _ rfl rfl⟩

theorem run_mmA {P : Program} {c : Cx} {w : World} {D : Nat → Prop} {ts : Array TypeId} {ty : TypeId} {mx : Bool} {xs : List AV} {vs : Array Value} {r : AV} (hu : RL c w D xs vs) (h : mmA mx xs = some r) :
    ∃ z, ((if mx then Builtin.max_ ts ty vs else Builtin.min_ ts ty vs)).run P w = .ok z w ∧ R c w D r z := by
  unfold mmA at h
  split at h
  · cases h
    obtain ⟨u, v, rfl, h1, h2⟩ := RL_two hu
    cases h1; cases h2
    cases mx <;> exact ⟨_, by simp [Builtin.max_, Builtin.min_, Builtin.max2, Builtin.min2], .val _⟩
  · cases h
    obtain ⟨u, v, t, rfl, h1, h2, h3⟩ := RL_three hu
    cases h1; cases h2; cases h3
    cases mx <;> exact ⟨_, by simp [Builtin.max_, Builtin.min_, Builtin.max2, Builtin.min2], .val _⟩
  · cases h

/-- A slice of a slice that stays as it is. -/
def boundA (d : Int) : Option AV → Option Int
  | none => some d
  | some y => intOf? y
/-- A part of a slice of the call's own, with room up to m. -/
def cutS (b o k : Nat) (l h m : Int) : AV := .slc b (if m = l then o else o + l.toNat * k) (h.toNat - l.toNat) k (m.toNat - l.toNat)
def sliceA (T E : TI) (x : AV) (lo hi mx : Option AV) : Option AV :=
  match T.kind, x with
  | .sl _, .ro _ k xs =>
    match boundA 0 lo, boundA xs.length hi with
    | some l, some h => if k = E.size ∧ 0 ≤ l ∧ l ≤ h ∧ h ≤ xs.length then
        match mx with
        | none => some (.ro false k ((xs.drop l.toNat).take (h.toNat - l.toNat)))
        | some y => match hi, intOf? y with
          | some _, some m => if h = m then some (.ro true k ((xs.drop l.toNat).take (h.toNat - l.toNat))) else none
          | _, _ => none
      else none
    | _, _ => none
  | .sl _, .sl b o len k =>
    match boundA 0 lo, boundA len hi with
    | some l, some h => if k = E.size ∧ 0 ≤ l ∧ l ≤ h ∧ h ≤ len then
        match mx with
        | none => if l = 0 ∨ l < h then some (.sl b (o + l.toNat * k) (h.toNat - l.toNat) k) else none
        | some y => match hi, intOf? y with
          | some _, some m => if h ≤ m ∧ m ≤ len then some (cutS b o k l h m) else none
          | _, _ => none
      else none
    | _, _ => none
  | .sl _, .slc b o len k cap =>
    match boundA 0 lo, boundA len hi with
    | some l, some h => if k = E.size ∧ 0 ≤ l ∧ l ≤ h ∧ h ≤ cap then
        match mx with
        | none => some (cutS b o k l h cap)
        | some y => match hi, intOf? y with
          | some _, some m => if h ≤ m ∧ m ≤ cap then some (cutS b o k l h m) else none
          | _, _ => none
      else none
    | _, _ => none
  | .sl _, .val (.slice none 0 0) =>
    match boundA 0 lo, boundA 0 hi, boundA 0 mx with
    | some l, some h, some m => if l = 0 ∧ h = 0 ∧ m = 0 ∧ (mx.isSome = true → hi.isSome = true) then some (.val (.slice none 0 0)) else none
    | _, _, _ => none
  | _, _ => none

theorem run_sliceBound {P : Program} {w : World} {k : IntKind} {i : Int} {y : Nat} {code : BoundsCode} (h0 : 0 ≤ i) (h1 : i ≤ y) : (Instr.sliceBound (.int k i) y code).run P w = .ok i.toNat w := by
  simp [Instr.sliceBound, asIntOf, h0, h1]

theorem optInt_R {c : Cx} {w : World} {D : Nat → Prop} {x : AV} {v : Value} {n : Int} (h : R c w D x v) (hx : intOf? x = some n) : ∃ k, v = .int k n := intOf?_R h hx

theorem ro_part {c : Cx} {w : World} {D : Nat → Prop} {f : Bool} {k : Nat} {xs : List (List AV)} {b o len cap : Nat} (h : R c w D (.ro f k xs) (.slice (some ⟨b, o, none⟩) len cap)) (l n m : Nat) (hln : l + n ≤ xs.length)
    (hm : n ≤ m) (hmc : m ≤ cap) (g : Bool) (hg : g = true → m = n) : R c w D (.ro g k ((xs.drop l).take n)) (.slice (some ⟨b, o + l * k, none⟩) n m) := by
  cases h with
  | emp =>
    simp only [List.length_nil] at hln
    have e1 : n = 0 := by omega
    have e2 : m = 0 := by omega
    subst e1; subst e2; simpa using R.emp
  | ro cell hS hl hc hf hkk hcell ho hh =>
    refine .ro (fun i j => cell (l + i) j) hS (by simp; omega) hm hg (fun row hr => hkk row (List.mem_of_mem_drop (List.mem_of_mem_take hr))) (fun i j hi hj => ?_) (fun i j hi hj => ho (l + i) j (by omega) hj) (fun i j row x h1 h2 => ?_)
    · have := hcell (l + i) j (by omega) hj
      rw [show o + l * k + i * k + j = o + (l + i) * k + j by rw [Nat.add_mul]; omega]; exact this
    · refine hh (l + i) j row x ?_ h2
      rw [List.getElem?_take] at h1
      split at h1
      · simpa [List.getElem?_drop] using h1
      · cases h1

theorem run_sliceBounds {P : Program} {w : World} {len cap : Nat} {l h m : Int} {lo hi mx : Option Value} (h0 : 0 ≤ l) (h1 : l ≤ h) (h2 : h ≤ m) (h3 : m ≤ cap)
    (hlo : (lo = none ∧ l = 0) ∨ ∃ kk, lo = some (.int kk l)) (hhi : (hi = none ∧ h = len) ∨ ∃ kk, hi = some (.int kk h)) (hmx : (mx = none ∧ m = cap) ∨ ∃ kk, mx = some (.int kk m) ∧ hi.isSome = true) :
    (Instr.sliceBounds true len cap lo hi mx).run P w = .ok (l.toNat, h.toNat, m.toNat) w := by
  have e1 : ∀ (kk : IntKind) (code : BoundsCode), (Instr.sliceBound (.int kk m) cap code).run P w = .ok m.toNat w := fun kk code => run_sliceBound (by omega) h3
  have e2 : ∀ (kk : IntKind) (code : BoundsCode), (Instr.sliceBound (.int kk h) m.toNat code).run P w = .ok h.toNat w := fun kk code => run_sliceBound (by omega) (by omega)
  have e3 : ∀ (kk : IntKind) (code : BoundsCode), (Instr.sliceBound (.int kk l) h.toNat code).run P w = .ok l.toNat w := fun kk code => run_sliceBound h0 (by omega)
  rcases hmx with ⟨rfl, rfl⟩ | ⟨k3, rfl, hs⟩
  · simp only [Int.toNat_natCast] at e2
    rcases hhi with ⟨rfl, rfl⟩ | ⟨k2, rfl⟩
    · simp only [Int.toNat_natCast] at e3
      rcases hlo with ⟨rfl, rfl⟩ | ⟨k1, rfl⟩ <;> simp [Instr.sliceBounds, e3]
    · rcases hlo with ⟨rfl, rfl⟩ | ⟨k1, rfl⟩ <;> simp [Instr.sliceBounds, e2, e3]
  · rcases hhi with ⟨rfl, rfl⟩ | ⟨k2, rfl⟩
    · simp at hs
    · rcases hlo with ⟨rfl, rfl⟩ | ⟨k1, rfl⟩ <;> simp [Instr.sliceBounds, e1, e2, e3]

theorem boundA_R {c : Cx} {w : World} {D : Nat → Prop} {d n : Int} {x : Option AV} {x' : Option Value} (h : ∀ y, x = some y → ∃ v, x' = some v ∧ R c w D y v) (h0 : x = none → x' = none) (hx : boundA d x = some n) :
    (x' = none ∧ n = d) ∨ ∃ kk, x' = some (.int kk n) := by
  cases x with
  | none => simp only [boundA, Option.some.injEq] at hx; exact .inl ⟨h0 rfl, hx.symm⟩
  | some y =>
    obtain ⟨v, hv, hR⟩ := h y rfl
    obtain ⟨kk, rfl⟩ := intOf?_R hR hx
    exact .inr ⟨kk, hv⟩

theorem slc_sl {c : Cx} {w : World} {D : Nat → Prop} {b o len k cap : Nat} {v : Value} (h : R c w D (.slc b o len k cap) v) : R c w D (.sl b o len k) v := by
  cases h with
  | slc hb hc C e hblk hC => exact .sl hb hc C e hblk hC
theorem run_cut {P : Program} {c : Cx} {w : World} {D : Nat → Prop} {t e : TypeId} {E : TI} {b o k len cap : Nat} {C : Array Value} {e' : TypeId} {l h m : Int} {lo hi mx : Option Value} (hd : P.underlying t = some (.slice e)) (hs : (sizeOf e).run P w = .ok E.size w) (hk : k = E.size)
    (hb : D b) (hC : o + cap * k ≤ C.size) (hblk : w.heap[c.φ b]? = some (.cells C e' (0, 0))) (h0 : 0 ≤ l) (h1 : l ≤ h) (h2 : h ≤ m) (h3 : m ≤ cap) (h5 : (Instr.sliceBounds true len cap lo hi mx).run P w = .ok (l.toNat, h.toNat, m.toNat) w) :
    ∃ z, (Instr.sliceAt t (.slice (some ⟨c.φ b, o, none⟩) len cap) lo hi mx).run P w = .ok z w ∧ R c w D (cutS b o k l h m) z := by
  have hmul : ∀ a b : Nat, a ≤ b → a * k ≤ b * k := fun a b h => Nat.mul_le_mul_right _ h
  refine ⟨.slice (some (if m.toNat = l.toNat then ⟨c.φ b, o, none⟩ else ⟨c.φ b, o + l.toNat * E.size, none⟩)) (h.toNat - l.toNat) (m.toNat - l.toNat), ?_, ?_⟩
  · simp [Instr.sliceAt, run_underlying hd, Instr.slice, h5, hs, Addr_add]
    split <;> simp_all
  · unfold cutS
    by_cases hcl : m = l
    · have e0 : m.toNat = l.toNat := by rw [hcl]
      rw [if_pos hcl, if_pos e0]
      refine .slc hb (by omega) C e' hblk ?_
      have e9 : m.toNat - l.toNat = 0 := by omega
      rw [e9]; have := hmul 0 cap (by omega); omega
    · rw [if_neg hcl, if_neg (by omega), ← hk]
      refine .slc hb (by omega) C e' hblk ?_
      have h6 := hmul l.toNat m.toNat (by omega)
      have h7 := hmul m.toNat cap (by omega)
      rw [Nat.sub_mul]; omega

theorem run_sliceA {P : Program} {c : Cx} {w : World} {D : Nat → Prop} {t : TypeId} {T E : TI} (hT : ti P t = some T) (hE : ti P (elemTy T.kind) = some E) {x r : AV} {u : Value} {lo hi mx : Option AV} {lo' hi' mx' : Option Value}
    (hu : R c w D x u) (hlo : ∀ y, lo = some y → ∃ v, lo' = some v ∧ R c w D y v) (hlo0 : lo = none → lo' = none) (hhi : ∀ y, hi = some y → ∃ v, hi' = some v ∧ R c w D y v) (hhi0 : hi = none → hi' = none)
    (hmx : ∀ y, mx = some y → ∃ v, mx' = some v ∧ R c w D y v) (hmx0 : mx = none → mx' = none) (h : sliceA T E x lo hi mx = some r) :
    ∃ z, (Instr.sliceAt t u lo' hi' mx').run P w = .ok z w ∧ R c w D r z := by
  unfold sliceA at h
  split at h
  · rename_i e f k xs hk
    rw [hk] at hE
    have hd := ti_sl hT hk
    have hs : (sizeOf e).run P w = .ok E.size w := ti_size hE w
    split at h
    · rename_i l h' e1 e2
      split at h
      · rename_i hcond
        obtain ⟨hks, h0, h1, h2⟩ := hcond
        have hlo2 := boundA_R hlo hlo0 e1
        -- what comes out, whatever the slice's own make
        have out : ∃ (g : Bool) (m : Nat → Int), r = .ro g k ((xs.drop l.toNat).take (h'.toNat - l.toNat)) ∧ (g = true → ∀ cap : Nat, m cap = h') ∧ ∀ (len cap : Nat), len = xs.length → len ≤ cap →
            h' ≤ m cap ∧ m cap ≤ cap ∧ (Instr.sliceBounds true len cap lo' hi' mx').run P w = .ok (l.toNat, h'.toNat, (m cap).toNat) w := by
          cases mx with
          | none =>
            dsimp only at h
            cases h
            refine ⟨false, fun cap => cap, rfl, by simp, fun len cap hl hc => ?_⟩
            have hcc : h' ≤ (cap : Int) := by omega
            refine ⟨hcc, Int.le_refl _, run_sliceBounds h0 h1 hcc (Int.le_refl _) hlo2 ?_ (.inl ⟨hmx0 rfl, rfl⟩)⟩
            subst hl; exact boundA_R hhi hhi0 e2
          | some y =>
            dsimp only at h
            split at h
            · rename_i yh m' hm
              split at h
              · rename_i hmm
                subst hmm
                cases h
                refine ⟨true, fun _ => h', rfl, fun _ _ => rfl, fun len cap hl hc => ?_⟩
                have hcc : h' ≤ (cap : Int) := by omega
                refine ⟨Int.le_refl _, hcc, ?_⟩
                obtain ⟨v, hv, hR⟩ := hmx y rfl
                obtain ⟨kk, rfl⟩ := intOf?_R hR hm
                obtain ⟨v2, hv2, hR2⟩ := hhi yh rfl
                refine run_sliceBounds h0 h1 (Int.le_refl _) hcc hlo2 ?_ (.inr ⟨kk, hv, by rw [hv2]; rfl⟩)
                subst hl; exact boundA_R hhi hhi0 e2
              · cases h
            · cases h
        obtain ⟨g, m, rfl, hg, hb⟩ := out
        cases hu with
        | nil =>
          obtain ⟨h3, h4, h5⟩ := hb 0 0 rfl (Nat.le_refl _)
          simp only [List.length_nil, Int.natCast_zero] at h2
          have hh0 : h' = 0 := by omega
          have hl0 : l = 0 := by omega
          have hm0 : m 0 = 0 := by simp at h4; omega
          subst hh0; subst hl0
          rw [hm0] at h5
          refine ⟨.slice none 0 0, by simp [Instr.sliceAt, run_underlying hd, Instr.slice, h5, hs], by simpa using R.nil⟩
        | emp =>
          rename_i a
          obtain ⟨h3, h4, h5⟩ := hb 0 0 rfl (Nat.le_refl _)
          simp only [List.length_nil, Int.natCast_zero] at h2
          have hh0 : h' = 0 := by omega
          have hl0 : l = 0 := by omega
          have hm0 : m 0 = 0 := by simp at h4; omega
          subst hh0; subst hl0
          rw [hm0] at h5
          refine ⟨.slice (some a) 0 0, by simp [Instr.sliceAt, run_underlying hd, Instr.slice, h5, hs], by simpa using R.emp⟩
        | ro cell hS hl hc hf hkk hcell ho hh =>
          rename_i b o len cap
          have hro : R c w D (.ro f k xs) (.slice (some ⟨b, o, none⟩) len cap) := .ro cell hS hl hc hf hkk hcell ho hh
          obtain ⟨h3, h4, h5⟩ := hb len cap hl hc
          refine ⟨.slice (some (if (m cap).toNat = l.toNat then ⟨b, o, none⟩ else ⟨b, o + l.toNat * E.size, none⟩)) (h'.toNat - l.toNat) ((m cap).toNat - l.toNat), ?_, ?_⟩
          · simp [Instr.sliceAt, run_underlying hd, Instr.slice, h5, hs, Addr_add]
            split <;> simp_all
          · by_cases hcl : (m cap).toNat = l.toNat
            · rw [if_pos hcl]
              have e3 : h'.toNat - l.toNat = 0 := by omega
              rw [e3, hcl, Nat.sub_self]
              have := ro_part hro 0 0 0 (by omega) (by omega) (by omega) g (by simp)
              simpa using this
            · rw [if_neg hcl, ← hks]
              exact ro_part hro l.toNat (h'.toNat - l.toNat) ((m cap).toNat - l.toNat) (by omega) (by omega) (by omega) g (fun e => by rw [hg e cap])
      · cases h
    · cases h
  · rename_i e b o len k hk
    rw [hk] at hE
    have hd := ti_sl hT hk
    have hs : (sizeOf e).run P w = .ok E.size w := ti_size hE w
    split at h
    · rename_i l h' e1 e2
      split at h
      · rename_i hcond
        obtain ⟨hks, h0, h1, h2⟩ := hcond
        have hlo2 := boundA_R hlo hlo0 e1
        have hhi2 := boundA_R hhi hhi0 e2
        cases hu with
        | sl hb hc C e' hblk hC =>
          rename_i cap
          split at h
          · split at h
            · rename_i hl
              cases h
              have hcc : h' ≤ (cap : Int) := by omega
              have h5 := run_sliceBounds (P := P) (w := w) (mx := mx') h0 h1 hcc (Int.le_refl _) hlo2 hhi2 (.inl ⟨hmx0 rfl, rfl⟩)
              obtain ⟨z, g1, g2⟩ := run_cut hd hs hks hb hC hblk h0 h1 hcc (Int.le_refl _) h5
              refine ⟨z, g1, ?_⟩
              have g3 := slc_sl g2
              by_cases hcl : (cap : Int) = l
              · have hl0 : l = 0 := by omega
                rw [if_pos hcl] at g3
                subst hl0; simpa using g3
              · rw [if_neg hcl] at g3; exact g3
            · cases h
          · rename_i y
            split at h
            · rename_i yh m hm
              split at h
              · rename_i hmm
                cases h
                obtain ⟨v, hv, hR⟩ := hmx y rfl
                obtain ⟨kk, rfl⟩ := intOf?_R hR hm
                obtain ⟨v2, hv2, hR2⟩ := hhi yh rfl
                have hcc : m ≤ (cap : Int) := by omega
                have h5 := run_sliceBounds (P := P) (w := w) h0 h1 hmm.1 hcc hlo2 hhi2 (.inr ⟨kk, hv, by rw [hv2]; rfl⟩)
                exact run_cut hd hs hks hb hC hblk h0 h1 hmm.1 hcc h5
              · cases h
            · cases h
      · cases h
    · cases h
  · rename_i e b o len k cap hk
    rw [hk] at hE
    have hd := ti_sl hT hk
    have hs : (sizeOf e).run P w = .ok E.size w := ti_size hE w
    split at h
    · rename_i l h' e1 e2
      split at h
      · rename_i hcond
        obtain ⟨hks, h0, h1, h2⟩ := hcond
        have hlo2 := boundA_R hlo hlo0 e1
        have hhi2 := boundA_R hhi hhi0 e2
        cases hu with
        | slc hb hc C e' hblk hC =>
          split at h
          · cases h
            have h5 := run_sliceBounds (P := P) (w := w) (mx := mx') h0 h1 h2 (Int.le_refl _) hlo2 hhi2 (.inl ⟨hmx0 rfl, rfl⟩)
            exact run_cut hd hs hks hb hC hblk h0 h1 h2 (Int.le_refl _) h5
          · rename_i y
            split at h
            · rename_i yh m hm
              split at h
              · rename_i hmm
                cases h
                obtain ⟨v, hv, hR⟩ := hmx y rfl
                obtain ⟨kk, rfl⟩ := intOf?_R hR hm
                obtain ⟨v2, hv2, hR2⟩ := hhi yh rfl
                have h5 := run_sliceBounds (P := P) (w := w) h0 h1 hmm.1 hmm.2 hlo2 hhi2 (.inr ⟨kk, hv, by rw [hv2]; rfl⟩)
                exact run_cut hd hs hks hb hC hblk h0 h1 hmm.1 hmm.2 h5
              · cases h
            · cases h
      · cases h
    · cases h
  · rename_i e hk
    rw [hk] at hE
    have hd := ti_sl hT hk
    have hs : (sizeOf e).run P w = .ok E.size w := ti_size hE w
    split at h
    · rename_i l h' m e1 e2 e3
      split at h
      · rename_i hcond
        obtain ⟨rfl, rfl, rfl, hmh⟩ := hcond
        cases h; cases hu
        have hlo2 := boundA_R hlo hlo0 e1
        have hhi2 := boundA_R hhi hhi0 e2
        have hmx2 := boundA_R hmx hmx0 e3
        have h5 := run_sliceBounds (P := P) (w := w) (len := 0) (cap := 0) (lo := lo') (hi := hi') (mx := mx') (Int.le_refl 0) (Int.le_refl 0) (Int.le_refl 0) (Int.le_refl 0) hlo2 hhi2 (by
          rcases hmx2 with ⟨h6, _⟩ | ⟨kk, h6⟩
          · exact .inl ⟨h6, rfl⟩
          · refine .inr ⟨kk, h6, ?_⟩
            cases mx with
            | none => rw [hmx0 rfl] at h6; cases h6
            | some y =>
              have := hmh rfl
              cases hi with
              | none => cases this
              | some yh => obtain ⟨v2, hv2, _⟩ := hhi yh rfl; rw [hv2]; rfl)
        exact ⟨.slice none 0 0, by simp [Instr.sliceAt, run_underlying hd, Instr.slice, h5, hs], .val _⟩
      · cases h
    · cases h
  · cases h

end Go.Pe

/- Structs that are built; all operations that leave memory alone, together. -/
namespace Go.Pe
open Go

def fillA (place : Nat → Option (Nat × Nat)) (cells : List AV) : List (Nat × AV) → Option (List AV)
  | [] => some cells
  | (i, x) :: rest =>
    match place i, cellsOf x with
    | some (off, size), some l => if l.length ≠ size ∨ off + l.length > cells.length then none else fillA place (cells.take off ++ l ++ cells.drop (off + l.length)) rest
    | _, _ => none

theorem foldl_set {off : Nat} : ∀ (vs : List Value) (n : Nat) (cs : Array Value), ((vs.zipIdx n).foldl (fun cs (x : Value × Nat) => cs.setIfInBounds (off + x.2) x.1) cs).size = cs.size ∧
    ∀ j, ((vs.zipIdx n).foldl (fun cs (x : Value × Nat) => cs.setIfInBounds (off + x.2) x.1) cs)[j]? =
      if off + n ≤ j ∧ j < off + n + vs.length then (if j < cs.size then vs[j - (off + n)]? else none) else cs[j]?
  | [], n, cs => ⟨rfl, fun j => by simp; intro h1 h2; omega⟩
  | v :: vs, n, cs => by
    obtain ⟨h1, h2⟩ := foldl_set vs (n + 1) (cs.setIfInBounds (off + n) v)
    simp only [List.zipIdx_cons, List.foldl_cons]
    refine ⟨by rw [h1]; simp, fun j => ?_⟩
    rw [h2 j]
    simp only [Array.size_setIfInBounds, Array.getElem?_setIfInBounds, List.length_cons]
    by_cases hj : off + n = j
    · subst hj
      rw [if_neg (show ¬ (off + (n + 1) ≤ off + n ∧ off + n < off + (n + 1) + vs.length) by omega), if_pos rfl, if_pos (show off + n ≤ off + n ∧ off + n < off + n + (vs.length + 1) by omega)]
      simp
    · by_cases hb : off + (n + 1) ≤ j ∧ j < off + (n + 1) + vs.length
      · rw [if_pos hb, if_pos (show off + n ≤ j ∧ j < off + n + (vs.length + 1) by omega)]
        rw [show j - (off + n) = (j - (off + (n + 1))) + 1 by omega, List.getElem?_cons_succ]
      · rw [if_neg hb, if_neg hj, if_neg (show ¬ (off + n ≤ j ∧ j < off + n + (vs.length + 1)) by omega)]

theorem splice_get {α : Type} {cs l : List α} {off j : Nat} (h : off + l.length ≤ cs.length) : (cs.take off ++ l ++ cs.drop (off + l.length))[j]? = if off ≤ j ∧ j < off + l.length then l[j - off]? else cs[j]? := by
  rw [List.append_assoc]
  by_cases h1 : j < off
  · rw [List.getElem?_append_left (by simp; omega), if_neg (by omega), List.getElem?_take, if_pos h1]
  · rw [List.getElem?_append_right (by simp; omega)]
    have e : (cs.take off).length = off := by simp; omega
    rw [e]
    by_cases h2 : j < off + l.length
    · rw [List.getElem?_append_left (by omega), if_pos ⟨by omega, h2⟩]
    · rw [List.getElem?_append_right (by omega), if_neg (by omega), List.getElem?_drop]
      congr 1; omega

theorem fill_R {c : Cx} {w : World} {D : Nat → Prop} {place : Nat → Option (Nat × Nat)} : ∀ (ps : List (Nat × AV)) (qs : List (Nat × Value)) (cells r : List AV) (vs : Array Value), RL c w D cells vs →
    ps.map (·.1) = qs.map (·.1) → (∀ (i : Nat) (x : AV) (v : Value), (ps.map (·.2))[i]? = some x → (qs.map (·.2))[i]? = some v → R c w D x v) → fillA place cells ps = some r → ∃ us, Instr.fill place vs qs = some us ∧ RL c w D r us
  | [], [], cells, r, vs, h, _, _, hf => by simp only [fillA, Option.some.injEq] at hf; subst hf; exact ⟨vs, rfl, h⟩
  | [], _ :: _, _, _, _, _, h, _, _ => by simp at h
  | _ :: _, [], _, _, _, _, h, _, _ => by simp at h
  | (i, x) :: ps, (i', v) :: qs, cells, r, vs, h, he, hR, hf => by
    simp only [List.map_cons, List.cons.injEq] at he
    obtain ⟨rfl, he⟩ := he
    simp only [fillA] at hf
    split at hf
    · rename_i off size l hp hl
      split at hf
      · cases hf
      · rename_i hcond
        have hx : R c w D x v := hR 0 x v rfl rfl
        obtain ⟨hcells, _⟩ := cellsOf_R hx hl
        have e1 : v.cells.size = l.length := hcells.1
        have e2 : vs.size = cells.length := h.1
        have hlen : l.length = size := by omega
        have hoff : off + l.length ≤ cells.length := by omega
        simp only [Instr.fill, hp]
        rw [if_neg (by simp [e1, e2]; omega)]
        refine fill_R ps qs _ r _ ?_ he (fun i x v h1 h2 => hR (i + 1) x v h1 h2) hf
        have hz : ∀ cs : Array Value, v.cells.zipIdx.foldl (fun cs (x : Value × Nat) => cs.setIfInBounds (off + x.2) x.1) cs = (v.cells.toList.zipIdx 0).foldl (fun cs (x : Value × Nat) => cs.setIfInBounds (off + x.2) x.1) cs := fun cs => by
          rw [← Array.foldl_toList]; simp
        have hz' : v.cells.zipIdx.foldl (fun cs x => match x with | (c, j) => cs.setIfInBounds (off + j) c) vs = (v.cells.toList.zipIdx 0).foldl (fun cs (x : Value × Nat) => cs.setIfInBounds (off + x.2) x.1) vs := hz vs
        rw [hz']
        obtain ⟨g1, g2⟩ := foldl_set (off := off) v.cells.toList 0 vs
        refine ⟨by rw [g1, e2, List.length_append, List.length_append, List.length_take, List.length_drop]; omega, fun j y u h1 h2 => ?_⟩
        rw [splice_get hoff] at h1
        rw [g2 j] at h2
        simp only [Nat.add_zero, Array.length_toList, e1] at h2
        by_cases hj : off ≤ j ∧ j < off + l.length
        · rw [if_pos hj] at h1 h2
          rw [if_pos (by omega)] at h2
          exact hcells.2 _ y u h1 (by simpa using h2)
        · rw [if_neg hj] at h1 h2
          exact h.2 j y u h1 h2
    · cases hf

/-- A struct out of its parts. -/
def buildA (T : TI) (parts : List (Nat × AV)) : Option AV :=
  match T.kind with
  | .st fs => (fillA (fun i => (fs[i]?).map fun f => (f.1, f.2.1)) (T.zero.map .val) parts).map .agg
  | _ => none

theorem run_mapM_places {P : Program} {w : World} : ∀ (l : List Field), (∀ f ∈ l, (sizeOf f.type).run P w = .ok (P.cellsOf f.type) w) →
    (l.mapM fun f => do pure (f.offset, ← sizeOf f.type) : Sem (List (Nat × Nat))).run P w = .ok (l.map fun f => (f.offset, P.cellsOf f.type)) w
  | [], _ => rfl
  | f :: l, h => by
    rw [List.mapM_cons]
    have ih := run_mapM_places l (fun g hg => h g (by simp [hg]))
    simp only [Sem.run_bind, h f (by simp), Result.andThen_ok, Sem.run_pure, ih, List.map_cons]


theorem run_buildA {P : Program} {c : Cx} {w : World} {D : Nat → Prop} {t : TypeId} {T : TI} (hT : ti P t = some T) (hok : T.fok = true) {ps : List (Nat × AV)} {qs : Array (Nat × Value)} {r : AV}
    (he : ps.map (·.1) = qs.toList.map (·.1)) (hR : ∀ (i : Nat) (x : AV) (v : Value), (ps.map (·.2))[i]? = some x → (qs.toList.map (·.2))[i]? = some v → R c w D x v) (h : buildA T ps = some r) :
    ∃ z, (Instr.build t qs).run P w = .ok z w ∧ R c w D r z := by
  unfold buildA at h
  split at h
  · rename_i fs hk
    obtain ⟨F, hF, rfl⟩ := ti_st hT hk
    obtain ⟨z, hz, hzc⟩ := ti_zero hT w
    have hsz : ∀ f ∈ F.toList, (sizeOf f.type).run P w = .ok (P.cellsOf f.type) w := fun f hf => by
      have : (P.info? f.type).isSome = true := by
        have hok' := hok
        rw [ti_fok hT] at hok'
        unfold fieldsOk Program.fieldsOf at hok'
        rw [hF] at hok'
        exact Array.all_eq_true_iff_forall_mem.1 hok' f (by simpa using hf)
      obtain ⟨i, hi⟩ := Option.isSome_iff_exists.1 this
      simp [sizeOf, typeInfo, hi, Program.cellsOf]
    have hplaces : (F.mapM fun f => do pure (f.offset, ← sizeOf f.type) : Sem (Array (Nat × Nat))).run P w = .ok (F.toList.map fun f => (f.offset, P.cellsOf f.type)).toArray w := by
      rw [Array.mapM_eq_mapM_toList, Sem.run_map, run_mapM_places F.toList hsz]; rfl
    obtain ⟨cells, hfil, rfl⟩ := Option.map_eq_some_iff.1 h
    have hpl : (fun (i : Nat) => ((F.toList.map fun f => (f.offset, P.cellsOf f.type, f.type))[i]?).map fun (f : Nat × Nat × TypeId) => (f.1, f.2.1)) = fun (i : Nat) => ((F.toList.map fun f => (f.offset, P.cellsOf f.type)).toArray[i]? : Option (Nat × Nat)) := by
      funext i; simp [Function.comp_def]
    rw [hpl] at hfil
    have hz0 : RL c w D (T.zero.map .val) z.cells := by
      refine ⟨by rw [← hzc]; simp, fun i x v h1 h2 => ?_⟩
      rw [← hzc] at h1
      simp only [List.getElem?_map, Array.getElem?_toList, h2, Option.map_some, Option.some.injEq] at h1
      subst h1; exact .val v
    obtain ⟨us, hu1, hu2⟩ := fill_R ps qs.toList _ cells z.cells hz0 he hR hfil
    refine ⟨.agg us, ?_, .agg hu2.1 hu2.2⟩
    simp only [Instr.build, Sem.run_bind, hz, Result.andThen_ok, run_underlying hF, hplaces, hu1]
    rfl
  · cases h

/-- Whether two values are equal, part by part. -/
def eqFs (E : TypeId → AV → AV → Option Bool) (P : Program) : List (Nat × Nat × TypeId) → List AV → List AV → Option Bool
  | [], _, _ => some true
  | (off, _, ft) :: fs, cs, ds => match ti P ft with
    | some T => match partA T cs off, partA T ds off with
      | some a, some b => match E ft a b, eqFs E P fs cs ds with
        | some r, some r' => some (r && r')
        | _, _ => none
      | _, _ => none
    | none => none
def eqV (P : Program) : Nat → TypeId → AV → AV → Option Bool
  | 0, _, _, _ => none
  | d + 1, t, x, y => match ti P t with
    | none => none
    | some T => match T.kind with
      | .int _ => match x, y with
        | .val (.int k a), .val (.int k' b) => if k = k' then some (a == b) else none
        | _, _ => none
      | .bool => match x, y with
        | .val (.bool a), .val (.bool b) => some (a == b)
        | _, _ => none
      | .str => match x, y with
        | .val (.string a), .val (.string b) => some (a.toList == b.toList)
        | _, _ => none
      | .st fs => match x, y with
        | .agg cs, .agg ds => if T.cmp then eqFs (eqV P d) P fs cs ds else none
        | _, _ => none
      | _ => none

theorem run_eqV {P : Program} {c : Cx} {w : World} {D : Nat → Prop} : ∀ (d : Nat) (t : TypeId) (x y : AV) (u v : Value) (r : Bool), eqV P d t x y = some r → R c w D x u → R c w D y v → ∀ n, d ≤ n → (Op.equalIn n t u v).run P w = .ok r w
  | 0, t, x, y, u, v, r, h, _, _, _, _ => by simp [eqV] at h
  | d + 1, t, x, y, u, v, r, h, hx, hy, n, hn => by
    obtain ⟨n, rfl⟩ : ∃ k, n = k + 1 := ⟨n - 1, by omega⟩
    simp only [eqV] at h
    split at h
    · cases h
    · rename_i T hT
      split at h
      · rename_i k hk
        split at h
        · split at h
          · rename_i hkk; subst hkk; cases h; cases hx; cases hy
            exact run_equalIn_int w n t _ _ _ _ (ti_int hT hk)
          · cases h
        · cases h
      · rename_i hk
        split at h
        · cases h; cases hx; cases hy; exact run_equalIn_bool' w n t _ _ (ti_bool hT hk)
        · cases h
      · rename_i hk
        split at h
        · cases h; cases hx; cases hy; exact run_equalIn_string w n t _ _ (ti_str hT hk)
        · cases h
      · rename_i fs hk
        split at h
        · rename_i cs ds
          split at h
          · rename_i hcmp
            rw [ti_cmp hT] at hcmp
            simp only [cmpOk, Bool.and_eq_true, Bool.not_eq_true'] at hcmp
            obtain ⟨⟨hn1, hn2⟩, _⟩ := hcmp
            obtain ⟨F, hF, rfl⟩ := ti_st hT hk
            have hfo : P.fieldsOf t = F := by unfold Program.fieldsOf; rw [hF]
            rw [hfo] at hn1
            cases hx with
            | agg hs1 hh1 =>
              rename_i xs
              cases hy with
              | agg hs2 hh2 =>
                rename_i ys
                rw [run_equalIn_agg w n t xs ys (by rw [hfo]; exact hF) hn2, hfo]
                have hnames : ∀ f ∈ F.toList, f.name ≠ "_" := fun f hf => by
                  have := Array.all_eq_true_iff_forall_mem.1 hn1 f (by simpa using hf)
                  simpa using this
                generalize F.toList = l at h hnames
                clear hfo hF hn1 hk
                induction l generalizing r with
                | nil => simp only [List.map_nil, eqFs, Option.some.injEq] at h; subst h; rfl
                | cons f l ih =>
                  simp only [List.map_cons, eqFs] at h
                  split at h
                  · rename_i Tf hTf
                    split at h
                    · rename_i a b ha hb
                      split at h
                      · rename_i r1 r2 h1 h2
                        cases h
                        obtain ⟨z1, e1, e2⟩ := run_partA hTf (w := w) (D := D) (c := c) ⟨hs1, hh1⟩ ha
                        obtain ⟨z2, e3, e4⟩ := run_partA hTf (w := w) (D := D) (c := c) ⟨hs2, hh2⟩ hb
                        have e5 := run_eqV d f.type a b z1 z2 r1 h1 e2 e4 n (by omega)
                        have e6 := ih r2 h2 (fun g hg => hnames g (List.mem_cons_of_mem _ hg))
                        simp only [Op.eqFields, if_pos (hnames f (List.mem_cons_self ..)), Sem.run_bind, e1, e3, e5, Result.andThen_ok]
                        cases r1 with
                        | true => simpa using e6
                        | false => simp
                      · cases h
                    · cases h
                  · cases h
          · cases h
        · cases h
      · cases h

/-- Operations on two values: structs are compared part by part. -/
def binX (P : Program) (t : TypeId) (T : TI) (op : BinOp) (x y : AV) : Option AV :=
  match x, y with
  | .agg cs, .agg ds => if T.cmp then (match op with
    | .eql => (eqV P 40 t (.agg cs) (.agg ds)).map fun b => .val (.bool b)
    | .neq => (eqV P 40 t (.agg cs) (.agg ds)).map fun b => .val (.bool (!b))
    | _ => none) else none
  | x, y => bin T op x y
@[simp] theorem binX_val {P : Program} {t : TypeId} {T : TI} {op : BinOp} {u v : Value} : binX P t T op (.val u) (.val v) = bin T op (.val u) (.val v) := rfl

@[simp] theorem binX_ro {P : Program} {t : TypeId} {T : TI} {op : BinOp} {f : Bool} {k : Nat} {xs : List (List AV)} {v : Value} : binX P t T op (.ro f k xs) (.val v) = bin T op (.ro f k xs) (.val v) := rfl
@[simp] theorem binX_sl {P : Program} {t : TypeId} {T : TI} {op : BinOp} {b o l k : Nat} {v : Value} : binX P t T op (.sl b o l k) (.val v) = bin T op (.sl b o l k) (.val v) := rfl

theorem run_binX {P : Program} {c : Cx} {w : World} {D : Nat → Prop} {t : TypeId} {T : TI} (hT : ti P t = some T) {op : BinOp} {x y r : AV} {u v : Value} (ox oy : Operand) (hu : R c w D x u) (hv : R c w D y v) (h : binX P t T op x y = some r) :
    ∃ z, (do eqGuard op t ox oy u v; binOp op t u v : Sem Value).run P w = .ok z w ∧ R c w D r z := by
  unfold binX at h
  split at h
  · rename_i cs ds
    split at h
    · rename_i hcmp
      rw [ti_cmp hT] at hcmp
      simp only [cmpOk, Bool.and_eq_true, Bool.not_eq_true'] at hcmp
      cases hu with
      | agg hs1 hh1 =>
        rename_i xs
        cases hv with
        | agg hs2 hh2 =>
          rename_i ys
          split at h
          · obtain ⟨b, hb, rfl⟩ := Option.map_eq_some_iff.1 h
            have := run_eqV (P := P) 40 t _ _ _ _ b hb (.agg (D := D) hs1 hh1) (.agg hs2 hh2) 10000 (by omega)
            exact ⟨.bool b, by simp only [Sem.run_bind, run_eqGuard_agg w _ t ox oy xs ys hcmp.2, Result.andThen_ok, run_eql_struct, this, Result.andThen], .val _⟩
          · obtain ⟨b, hb, rfl⟩ := Option.map_eq_some_iff.1 h
            have := run_eqV (P := P) 40 t _ _ _ _ b hb (.agg (D := D) hs1 hh1) (.agg hs2 hh2) 10000 (by omega)
            exact ⟨.bool (!b), by simp only [Sem.run_bind, run_eqGuard_agg w _ t ox oy xs ys hcmp.2, Result.andThen_ok, run_neq_struct, this, Result.andThen], .val _⟩
          · cases h
    · cases h
  · exact run_bin hT ox oy hu hv h

def tyInt (P : Program) (t : TypeId) (f : TI → Option AV) : Option AV := match ti P t with | some T => f T | none => none

/-- An array out of its parts. -/
def buildAr (T E : TI) (parts : List (Nat × AV)) : Option AV := (fillA (fun i => some (i * E.size, E.size)) (T.zero.map .val) parts).map .agg
/-- A struct or an array out of its parts. -/
def bldT (P : Program) (T : TI) (parts : List (Nat × AV)) : Option AV :=
  match T.kind with
  | .ar _ e => tyInt P e fun E => buildAr T E parts
  | _ => if T.fok then buildA T parts else none
theorem run_buildAr {P : Program} {c : Cx} {w : World} {D : Nat → Prop} {t e : TypeId} {T E : TI} {n : Nat} (hT : ti P t = some T) (hk : T.kind = .ar n e) (hE : ti P e = some E) {ps : List (Nat × AV)} {qs : Array (Nat × Value)} {r : AV}
    (he : ps.map (·.1) = qs.toList.map (·.1)) (hR : ∀ (i : Nat) (x : AV) (v : Value), (ps.map (·.2))[i]? = some x → (qs.toList.map (·.2))[i]? = some v → R c w D x v) (h : buildAr T E ps = some r) :
    ∃ z, (Instr.build t qs).run P w = .ok z w ∧ R c w D r z := by
  unfold buildAr at h
  obtain ⟨z, hz, hzc⟩ := ti_zero hT w
  have hsz := ti_size hE w
  obtain ⟨cells, hfil, rfl⟩ := Option.map_eq_some_iff.1 h
  have hz0 : RL c w D (T.zero.map .val) z.cells := by
    refine ⟨by rw [← hzc]; simp, fun i x v h1 h2 => ?_⟩
    rw [← hzc] at h1
    simp only [List.getElem?_map, Array.getElem?_toList, h2, Option.map_some, Option.some.injEq] at h1
    subst h1; exact .val v
  obtain ⟨us, hu1, hu2⟩ := fill_R ps qs.toList _ cells z.cells hz0 he hR hfil
  refine ⟨.agg us, ?_, .agg hu2.1 hu2.2⟩
  simp only [Instr.build, Sem.run_bind, hz, Result.andThen_ok, run_underlying (ti_ar hT hk), hsz, hu1]
  rfl
/-- What an operation that leaves memory alone gives. -/
def pop (P : Program) (o : Oper) (ρ : List AV) (h : H) : Option AV :=
  match o.op with
  | .move x => some (aev ρ x)
  | .assign x => some (aev ρ x)
  | .pick c a b => match aev ρ c with
    | .val (.bool t) => some (if t then aev ρ a else aev ρ b)
    | _ => none
  | .load t p => tyInt P t fun T => loadA T h (aev ρ p)
  | .fieldAddr s x f => tyInt P s fun T => fieldA T f (aev ρ x)
  | .indexAddr t x i => tyInt P t fun T => tyInt P (elemTy T.kind) fun E => match intOf? (aev ρ i) with
    | some n => indexA T E (aev ρ x) n
    | none => none
  | .index t x i => tyInt P t fun T => tyInt P (elemTy T.kind) fun E => match T.kind, aev ρ x, intOf? (aev ρ i) with
    | .ar n _, .agg cs, some i => if 0 ≤ i ∧ i < n then partA E cs (i.toNat * E.size) else none
    | _, _, _ => none
  | .field s x f => tyInt P s fun T => match T.kind, aev ρ x with
    | .st fs, .agg cs => match fs[f]? with
      | some (off, _, ft) => tyInt P ft fun E => partA E cs off
      | none => none
    | _, _ => none
  | .binOp op t x y _ => tyInt P t fun T => binX P t T op (aev ρ x) (aev ρ y)
  | .unOp op _ x => unA op (aev ρ x)
  | .convert s t x => tyInt P s fun _ => tyInt P t fun T => convA T (aev ρ x)
  | .extract t i => extA (aev ρ t) i
  | .makeFunc (.func f) first caps => if first.isEmpty then some (.clo f (caps.toList.map (aev ρ))) else none
  | .nilCheck x => match aev ρ x with
    | .ptr b o => some (.ptr b o)
    | .rop cs => some (.rop cs)
    | _ => none
  | .build t parts => tyInt P t fun T => bldT P T (parts.toList.map fun p => (p.1, aev ρ p.2))
  | .slice t x lo hi mx => tyInt P t fun T => tyInt P (elemTy T.kind) fun E => sliceA T E (aev ρ x) (lo.map (aev ρ)) (hi.map (aev ρ)) (mx.map (aev ρ))
  | .call { callee := .builtin .len, args := ⟨[x]⟩, argTypes := ⟨[t]⟩ } => tyInt P t fun T => lenA T (aev ρ x)
  | .call { callee := .builtin .cap, args := ⟨[x]⟩, argTypes := ⟨[t]⟩ } => tyInt P t fun T => capA T (aev ρ x)
  | .call { callee := .builtin .max, args, .. } => mmA true (args.toList.map (aev ρ))
  | .call { callee := .builtin .min, args, .. } => mmA false (args.toList.map (aev ρ))
  | _ => none

theorem tyInt_some {P : Program} {t : TypeId} {f : TI → Option AV} {x : AV} (h : tyInt P t f = some x) : ∃ T, ti P t = some T ∧ f T = some x := by
  unfold tyInt at h
  split at h
  · exact ⟨_, by assumption, h⟩
  · cases h

theorem pop_sound {P : Program} {o : Oper} {ρ : List AV} {h : H} {c : Cx} {w : World} {a : Act} {x : AV} (hx : pop P o ρ h = some x) {D : Nat → Prop} (hr : Rel c D h w) (hρ : RL c w D ρ a.tmps) :
    ∃ v, (execOp a.eval o).run P w = .ok (.value v) w ∧ R c w D x v := by
  unfold pop at hx
  unfold execOp
  have key : ∀ {s : Sem Value} {x : AV}, (∃ v, s.run P w = .ok v w ∧ R c w D x v) → ∃ v, (do pure (Next.value (← s)) : Sem Next).run P w = .ok (.value v) w ∧ R c w D x v := fun ⟨v, h1, h2⟩ => ⟨v, by simp [h1], h2⟩
  split at hx <;> rename_i hop <;> first | (cases hx; done) | (rw [hop]; simp only)
  · cases hx; exact ⟨_, rfl, R_aev hρ _⟩
  · cases hx; exact ⟨_, rfl, R_aev hρ _⟩
  · rename_i cc aa bb
    split at hx
    · rename_i t ht
      cases hx
      have hc := R_aev hρ cc
      rw [ht] at hc
      generalize a.eval cc = vc at hc ⊢
      cases hc
      refine ⟨if t then a.eval aa else a.eval bb, by simp [asBool], ?_⟩
      cases t <;> exact R_aev hρ _
    · cases hx
  · obtain ⟨T, hT, hx⟩ := tyInt_some hx
    exact key (run_load_A hT hr (R_aev hρ _) hx)
  · obtain ⟨T, hT, hx⟩ := tyInt_some hx
    exact key (run_fieldA hT (R_aev hρ _) hx)
  · obtain ⟨T, hT, hx⟩ := tyInt_some hx
    obtain ⟨E, hE, hx⟩ := tyInt_some hx
    split at hx
    · rename_i n hn
      obtain ⟨k, hk⟩ := intOf?_R (R_aev hρ _) hn
      exact key (run_indexA hT hE (R_aev hρ _) hk hx)
    · cases hx
  · rename_i t xx ii
    obtain ⟨T, hT, hx⟩ := tyInt_some hx
    obtain ⟨E, hE, hx⟩ := tyInt_some hx
    split at hx
    · rename_i n e cs i hk hcs hi
      split at hx
      · rename_i hcond
        obtain ⟨k, hk'⟩ := intOf?_R (R_aev hρ ii) hi
        have hagg := R_aev hρ xx
        rw [hcs] at hagg
        generalize a.eval xx = vx at hagg ⊢
        rw [hk] at hE
        cases hagg with
        | agg hs hh =>
          obtain ⟨z, h1, h2⟩ := run_partA hE (w := w) (D := D) (c := c) ⟨hs, hh⟩ hx
          refine key ⟨z, ?_, h2⟩
          rw [hk']
          have hsz := ti_size hE w
          simp only [elemTy] at hsz h1
          simp [Instr.index, asIntOf, run_underlying (ti_ar hT hk), hcond, hsz, h1]
      · cases hx
    · cases hx
  · rename_i s xx f
    obtain ⟨T, hT, hx⟩ := tyInt_some hx
    split at hx
    · rename_i fs cs hk hcs
      split at hx
      · rename_i off sz ft hf
        obtain ⟨E, hE, hx⟩ := tyInt_some hx
        obtain ⟨F, hF, rfl⟩ := ti_st hT hk
        have hagg := R_aev hρ xx
        rw [hcs] at hagg
        generalize a.eval xx = vx at hagg ⊢
        cases hagg with
        | agg hs hh =>
          obtain ⟨z, h1, h2⟩ := run_partA hE (w := w) (D := D) (c := c) ⟨hs, hh⟩ hx
          refine key ⟨z, ?_, h2⟩
          have hf' : ∃ g, F[f]? = some g ∧ g.offset = off ∧ g.type = ft := by
            simp only [List.getElem?_map, Array.getElem?_toList] at hf
            cases hg : F[f]? with
            | none => simp [hg] at hf
            | some g => simp only [hg, Option.map_some, Option.some.injEq, Prod.mk.injEq] at hf; exact ⟨g, rfl, hf.1, hf.2.2⟩
          obtain ⟨g, hg, ho, ht⟩ := hf'
          subst ho; subst ht
          simp [Instr.field, run_underlying hF, hg, asAgg, h1]
      · cases hx
    · cases hx
  · obtain ⟨T, hT, hx⟩ := tyInt_some hx
    exact key (run_binX hT _ _ (R_aev hρ _) (R_aev hρ _) hx)
  · exact key (run_unA (R_aev hρ _) hx)
  · obtain ⟨S, hS, hx⟩ := tyInt_some hx
    obtain ⟨T, hT, hx⟩ := tyInt_some hx
    exact key (run_convA hS hT (R_aev hρ _) hx)
  · exact key (run_extA (R_aev hρ _) hx)
  · rename_i f first caps
    split at hx
    · rename_i hfi
      cases hx
      have : first = #[] := by simpa using hfi
      subst this
      have hm := RL_map hρ caps
      exact key ⟨.func (.func f) #[] (caps.map a.eval), by simp [Instr.makeFunc], .clo hm.1 hm.2⟩
    · cases hx
  · rename_i xx
    have hp := R_aev hρ xx
    split at hx
    · rename_i b o hb
      cases hx
      rw [hb] at hp
      generalize a.eval xx = vx at hp ⊢
      cases hp with
      | ptr hb => exact ⟨_, rfl, .ptr hb⟩
    · rename_i cs hb
      cases hx
      rw [hb] at hp
      generalize a.eval xx = vx at hp ⊢
      cases hp with
      | rop cell hS hcell hh => exact ⟨_, rfl, .rop cell hS hcell hh⟩
    · cases hx
  · rename_i t parts
    obtain ⟨T, hT, hx⟩ := tyInt_some hx
    have hps : ∀ (i : Nat) (x : AV) (v : Value), ((parts.toList.map fun p => (p.1, aev ρ p.2)).map (·.2))[i]? = some x → ((parts.map fun p => (p.1, a.eval p.2)).toList.map (·.2))[i]? = some v → R c w D x v := fun i x v h1 h2 => by
      simp only [List.map_map, List.getElem?_map, Array.toList_map, Array.getElem?_toList] at h1 h2
      cases hp : parts[i]? with
      | none => simp [hp] at h1
      | some p =>
        simp only [hp, Option.map_some, Function.comp_apply, Option.some.injEq] at h1 h2
        subst h1; subst h2
        exact R_aev hρ _
    unfold bldT at hx
    split at hx
    · rename_i hk
      obtain ⟨E, hE, hx⟩ := tyInt_some hx
      exact key (run_buildAr hT hk hE (ps := parts.toList.map fun p => (p.1, aev ρ p.2)) (by simp [Function.comp_def]) hps hx)
    · split at hx
      · rename_i hok
        exact key (run_buildA hT hok (ps := parts.toList.map fun p => (p.1, aev ρ p.2)) (by simp [Function.comp_def]) hps hx)
      · cases hx
  · rename_i t xx lo hi mx
    obtain ⟨T, hT, hx⟩ := tyInt_some hx
    obtain ⟨E, hE, hx⟩ := tyInt_some hx
    have hopt : ∀ (q : Option Operand) (y : AV), q.map (aev ρ) = some y → ∃ v, q.map a.eval = some v ∧ R c w D y v := fun q y hq => by
      cases q with
      | none => cases hq
      | some q => simp only [Option.map_some, Option.some.injEq] at hq; subst hq; exact ⟨_, rfl, R_aev hρ _⟩
    have hopt0 : ∀ (q : Option Operand), q.map (aev ρ) = none → q.map a.eval = none := fun q hq => by cases q <;> simp_all
    exact key (run_sliceA hT hE (R_aev hρ _) (hopt lo) (hopt0 lo) (hopt hi) (hopt0 hi) (hopt mx) (hopt0 mx) hx)
  · obtain ⟨T, hT, hx⟩ := tyInt_some hx
    obtain ⟨z, h1, h2⟩ := run_lenA (ty := o.type) hT (R_aev hρ _) hx
    exact ⟨z, by simp [resolve, invoke, builtin, h1], h2⟩
  · obtain ⟨T, hT, hx⟩ := tyInt_some hx
    obtain ⟨z, h1, h2⟩ := run_capA (ty := o.type) hT (R_aev hρ _) hx
    exact ⟨z, by simp [resolve, invoke, builtin, h1], h2⟩
  · rename_i args ats
    obtain ⟨z, h1, h2⟩ := run_mmA (P := P) (ts := ats) (ty := o.type) (RL_map hρ args) hx
    exact ⟨z, by simp only [if_true] at h1; simp [resolve, invoke, builtin, h1], h2⟩
  · rename_i args ats
    obtain ⟨z, h1, h2⟩ := run_mmA (P := P) (ts := ats) (ty := o.type) (RL_map hρ args) hx
    exact ⟨z, by simp only [Bool.false_eq_true, if_false] at h1; simp [resolve, invoke, builtin, h1], h2⟩

end Go.Pe
