import Derived.Test.YtffckclggkjbgaaGreatY03
set_option linter.unusedVariables false
set_option linter.unusedSimpArgs false
/- make and append; all operations with an effect, together. -/
namespace Go.Pe
open Go

theorem zcells_made {n m : Nat} {z : List Value} {Z : Array Value} (hz : Z.toList = z) (hm : n * z.length ≤ m) {j : Nat} {x : AV} {v : Value} (h1 : (zcells n z)[j]? = some x) (h2 : (madeCells Z m)[j]? = some v) : x = .val v := by
  obtain ⟨u, hu, rfl⟩ := zcells_get h1
  have hlt : j < n * z.length := by rw [← zcells_len]; exact (List.getElem?_eq_some_iff.1 h1).1
  have hs : Z.size = z.length := by rw [← hz]; simp
  have hj : j < m := by omega
  rw [← hz, Array.getElem?_toList] at hu
  simp only [Array.length_toList] at hu
  simp [madeCells, hj, getElem!_def, hu] at h2
  subst h2; rfl

theorem did_makeSlice {P : Program} {c : Cx} {w : World} {h : H} {D : Nat → Prop} (hr : Rel c D h w) (hfr : ¬ D h.next) {t e : TypeId} {T E : TI} (hT : ti P t = some T) (hk : T.kind = .sl e) (hE : ti P e = some E) {l m : Int} {k1 k2 : IntKind} {r : AV × H}
    (hm : makeSliceA E h l m = some r) : Did P (Instr.makeSlice t (.int k1 l) (.int k2 m)) c D w h r := by
  unfold makeSliceA at hm
  split at hm
  · rename_i hcond
    obtain ⟨h0, h1, h2, h3, hzl⟩ := hcond
    obtain ⟨i, z, d, hi, hd, _, hz, hs, hzc, _, hb⟩ := ti_parts hE
    have hrun := run_make (P := P) w t e i z (ti_sl hT hk) hi hz k1 k2 l m h0 h1 (by rw [hb]; omega) (by omega)
    have hzs : z.cells.size = E.size := by rw [← hzl, ← hzc]; simp
    have hle : l.toNat * E.size ≤ m.toNat * E.size := Nat.mul_le_mul_right _ (by omega)
    rw [hs] at hrun
    have hms : (madeCells z.cells (m.toNat * E.size)).size = m.toNat * E.size := size_madeCells _ _
    split at hm
    · cases hm
      obtain ⟨g1, g2⟩ := push_ok (cs := zcells l.toNat E.zero) hr hfr (made_alloc w (.cells (madeCells z.cells (m.toNat * E.size)) e (0, 0))) (by rw [zcells_len, hzl, hms]; exact hle)
        (fun j x v e1 e2 => by rw [zcells_made hzc (by rw [hzl]; exact hle) e1 e2]; exact .val v)
      refine ⟨_, _, _, _, hrun, ?_, g1, g2, addId_bound (Nat.lt_succ_self _)⟩
      have : R (c.bind h.next w.heap.size) (w.alloc (.cells (madeCells z.cells (m.toNat * E.size)) e)) (addId D h.next) (.sl h.next 0 l.toNat E.size) (.slice (some ⟨(c.bind h.next w.heap.size).φ h.next, 0, none⟩) l.toNat m.toNat) :=
        .sl (.inr rfl) (by omega) (madeCells z.cells (m.toNat * E.size)) e (by simpa [Cx.bind] using (made_alloc w (.cells (madeCells z.cells (m.toNat * E.size)) e (0, 0))).new) (by rw [hms]; omega)
      simpa [Cx.bind, H.push] using this
    · cases hm
      obtain ⟨g1, g2⟩ := push_ok (cs := zcells m.toNat E.zero) hr hfr (made_alloc w (.cells (madeCells z.cells (m.toNat * E.size)) e (0, 0))) (by rw [zcells_len, hzl, hms]; exact Nat.le_refl _)
        (fun j x v e1 e2 => by rw [zcells_made hzc (by rw [hzl]; exact Nat.le_refl _) e1 e2]; exact .val v)
      refine ⟨_, _, _, _, hrun, ?_, g1, g2, addId_bound (Nat.lt_succ_self _)⟩
      have : R (c.bind h.next w.heap.size) (w.alloc (.cells (madeCells z.cells (m.toNat * E.size)) e)) (addId D h.next) (.slc h.next 0 l.toNat E.size m.toNat) (.slice (some ⟨(c.bind h.next w.heap.size).φ h.next, 0, none⟩) l.toNat m.toNat) :=
        .slc (.inr rfl) (by omega) (madeCells z.cells (m.toNat * E.size)) e (by simpa [Cx.bind] using (made_alloc w (.cells (madeCells z.cells (m.toNat * E.size)) e (0, 0))).new) (by rw [hms]; omega)
      simpa [Cx.bind, H.push] using this
  · cases hm

def rowsA (k : Nat) : AV → Option (Bool × List (List AV))
  | .ro f k' xs => if k' = k then some (f, xs) else none
  | .val (.slice none 0 0) => some (false, [])
  | _ => none

theorem src_of {P : Program} {c : Cx} {w : World} {D : Nat → Prop} {x : AV} {v : Value} {tx e' : TypeId} {k : Nat} {f : Bool} {xs : List (List AV)} (h0 : 0 < k) (hk : P.underlying tx = some (.slice e')) (hx : R c w D x v) (h : rowsA k x = some (f, xs)) :
    ∃ news, Src P k tx v xs.length news w ∧ (∀ j, j < news.length → ∀ y u, xs.flatten[j]? = some y → news[j]? = some u → R c w noId y u) ∧ xs.flatten.length = news.length := by
  have hnil : ∃ news, Src P k tx (.slice none 0 0) ([] : List (List AV)).length news w ∧ (∀ j, j < news.length → ∀ y u, ([] : List (List AV)).flatten[j]? = some y → news[j]? = some u → R c w noId y u) ∧ ([] : List (List AV)).flatten.length = news.length :=
    ⟨[], Src.ofNil w hk 0, fun j hj => by simp at hj, rfl⟩
  unfold rowsA at h
  split at h
  · rename_i f' k' xs'
    split at h
    · rename_i hkk; subst hkk
      cases h
      cases hx with
      | nil => exact hnil
      | emp =>
        rename_i a
        exact ⟨[], Src.ofSlice w hk a 0 0 _ (by simp) (fun j u hj => by simp at hj) (fun u hu => by cases hu), fun j hj => by simp at hj, rfl⟩
      | ro cell hS hl hc hf hrow hcell ho hh =>
        rename_i b o len cap
        have hget : ∀ j u, ((List.range (len * k')).map fun j => cell (j / k') (j % k'))[j]? = some u → j < len * k' ∧ u = cell (j / k') (j % k') := fun j u hj => by
          have hlt : j < len * k' := by have := (List.getElem?_eq_some_iff.1 hj).1; simpa using this
          simp [hlt] at hj
          exact ⟨hlt, hj.symm⟩
        have hdm : ∀ j, j < len * k' → j / k' < len ∧ j % k' < k' := fun j hj => ⟨Nat.div_lt_of_lt_mul (by rw [Nat.mul_comm]; exact hj), Nat.mod_lt _ h0⟩
        refine ⟨(List.range (len * k')).map fun j => cell (j / k') (j % k'), ?_, fun j hj y u e1 e2 => ?_, by rw [flatten_len xs hrow]; simp [hl]⟩
        · rw [← hl]
          refine Src.ofSlice w hk ⟨b, o, none⟩ len cap _ (by simp) (fun j u hj => ?_) (fun u hu => ?_)
          · obtain ⟨hlt, rfl⟩ := hget j u hj
            obtain ⟨g1, g2⟩ := hdm j hlt
            rw [Addr_add]
            have := hcell _ _ g1 g2
            rw [show o + j = o + j / k' * k' + j % k' by have := Nat.div_add_mod j k'; rw [Nat.mul_comm] at this; omega]; exact this
          · obtain ⟨j, hj, rfl⟩ := List.mem_map.1 hu
            obtain ⟨g1, g2⟩ := hdm j (by simpa using hj)
            exact ho _ _ g1 g2
        · obtain ⟨hlt, rfl⟩ := hget j u e2
          rw [flatten_get h0 xs j hrow] at e1
          cases hx : xs[j / k']? with
          | none => simp [hx] at e1
          | some row => simp only [hx, Option.bind_some] at e1; exact hh _ _ row y hx e1
    · cases h
  · cases h; cases hx; exact hnil
  · cases h

/-- There is room in the row. -/
theorem run_append_in {P : Program} (w : World) (t tx ty e : TypeId) (i : TypeInfo) (ht : P.underlying t = some (.slice e)) (hi : P.info? e = some i) (b sLen sCap : Nat) (C : Array Value) (e' : TypeId) (hb : w.heap[b]? = some (.cells C e' (0, 0)))
    (x : Value) (n : Nat) (news : List Value) (hs : Src P i.size tx x n news w) (hroom : sLen + n ≤ sCap) (hC : sLen * i.size + news.length ≤ C.size) :
    (Builtin.append_ #[t, tx] ty #[.slice (some ⟨b, 0, none⟩) sLen sCap, x]).run P w = .ok (.slice (some ⟨b, 0, none⟩) (sLen + n) sCap) (w.setRow b (C.toList.take (sLen * i.size) ++ news ++ C.toList.drop (sLen * i.size + news.length)).toArray) := by
  have hst := run_storeCells_at (P := P) b (sLen * i.size) e' news 0 C w hb (by omega) hs.one
  simp only [Nat.add_zero] at hst
  rcases hs.kind with ⟨e2, hk⟩ | hk <;> simp [Builtin.append_, run_underlying ht, run_underlying hk, sizeOf, typeInfo, hi, hs.len, hroom, hs.cells, Addr_add, hst]

/-- Rows of the call's own memory. -/
def ownRows (k : Nat) (h : H) (b o len k' : Nat) : Option (List (List AV)) :=
  if k' = k then match h.get b with
    | some cs => match takeAt cs o (len * k) with
      | some l => if (l.all fun x => clean1 x && one x) = true then some (chunk k len l) else none
      | none => none
    | none => none
  else none
def rowsH (k : Nat) (h : H) (x : AV) : Option (List (List AV)) :=
  match x with
  | .sl b o len k' => ownRows k h b o len k'
  | .slc b o len k' _ => ownRows k h b o len k'
  | x => (rowsA k x).map (·.2)
/-- append of any rows to slices of any make. -/
def appendX (E : TI) (h : H) (s x : AV) : Option (AV × H) :=
  match rowsH E.size h x with
  | none => none
  | some xs =>
    if 0 < E.size ∧ E.zero.length = E.size then
      match s with
      | .sl b o len k => match h.get b with
        | some cs => if o = 0 ∧ k = E.size ∧ len * k ≤ cs.length ∧ (len + xs.length) * E.bytes ≤ 70368744177664 ∧ len + xs.length ≤ 70368744177664 then
            some (.sl h.next 0 (len + xs.length) k, { next := h.next + 1, get := fun q => if q = h.next then some (cs.take (len * k) ++ xs.flatten) else if q = b then none else h.get q, lp := h.lp })
          else none
        | none => none
      | .slc b o len k cap => match h.get b with
        | some cs => if k = E.size ∧ (len + xs.length) * E.bytes ≤ 70368744177664 ∧ len + xs.length ≤ 70368744177664 then
            if len + xs.length ≤ cap then
              (if o = 0 ∧ (len + xs.length) * k ≤ cs.length then some (.slc b 0 (len + xs.length) k cap, h.set b (cs.take (len * k) ++ xs.flatten ++ cs.drop (len * k + xs.flatten.length))) else none)
            else match takeAt cs o (len * k) with
              | some old => some (.sl h.next 0 (len + xs.length) k, h.push (old ++ xs.flatten))
              | none => none
          else none
        | none => none
      | .ro true k ys => if k = E.size ∧ (ys.length + xs.length) * E.bytes ≤ 70368744177664 ∧ ys.length + xs.length ≤ 70368744177664 then
          (if xs.length = 0 then some (.ro true k ys, h) else some (.sl h.next 0 (ys.length + xs.length) k, h.push (ys.flatten ++ xs.flatten)))
        else none
      | .val (.slice none 0 0) => if xs.length * E.bytes ≤ 70368744177664 ∧ xs.length ≤ 70368744177664 then
          (if xs.length = 0 then some (.val (.slice none 0 0), h) else some (.sl h.next 0 xs.length E.size, h.push xs.flatten))
        else none
      | _ => none
    else none

def appendA (E : TI) (own : Bool) (h : H) (s x : AV) : Option (AV × H) :=
  match rowsA E.size x with
  | none => appendX E h s x
  | some (f, xs) =>
    if 0 < E.size ∧ E.zero.length = E.size then
    match s with
    | .sl b o len k => match h.get b with
      | some cs => if o = 0 ∧ k = E.size ∧ cs.length = len * k ∧ (len + xs.length) * E.bytes ≤ 70368744177664 ∧ len + xs.length ≤ 70368744177664 then
          (if own then some (.sl h.next 0 (len + xs.length) k, { next := h.next + 1, get := fun q => if q = h.next then some (cs ++ xs.flatten) else if q = b then none else h.get q, lp := h.lp })
          else if ((cs ++ xs.flatten).all fun x => clean1 x && one x) = true then some (.ro false k (chunk k (len + xs.length) (cs ++ xs.flatten)), { next := h.next + 1, get := fun q => if q = h.next then none else if q = b then none else h.get q, lp := h.lp }) else none)
        else appendX E h s x
      | none => none
    | .slc _ _ _ _ _ => appendX E h s x
    | .ro true k ys => if k = E.size ∧ (ys.length + xs.length) * E.bytes ≤ 70368744177664 ∧ ys.length + xs.length ≤ 70368744177664 then
        if own then (if xs.length = 0 then some (.ro true k ys, h) else some (.sl h.next 0 (ys.length + xs.length) k, h.push (ys.flatten ++ xs.flatten)))
        else if ys.length = 0 then some (.ro false k xs, h) else none
      else none
    | .val (.slice none 0 0) => if xs.length * E.bytes ≤ 70368744177664 ∧ xs.length ≤ 70368744177664 then
        if own then (if xs.length = 0 then some (.val (.slice none 0 0), h) else some (.sl h.next 0 xs.length E.size, h.push xs.flatten))
        else some (.ro false E.size xs, h)
      else none
    | _ => none
    else none

/-- Rows that are appended, wherever they lie. -/
def SrcOK (P : Program) (c : Cx) (w : World) (k : Nat) (tx : TypeId) (v : Value) (xs : List (List AV)) : Prop :=
  (∃ news, Src P k tx v xs.length news w ∧ (∀ j, j < news.length → ∀ y u, xs.flatten[j]? = some y → news[j]? = some u → R c w noId y u) ∧ xs.flatten.length = news.length) ∧ ∀ row ∈ xs, row.length = k

theorem rows_len {P : Program} {c : Cx} {w : World} {D : Nat → Prop} {x : AV} {v : Value} {k : Nat} {f : Bool} {xs : List (List AV)} (hx : R c w D x v) (h : rowsA k x = some (f, xs)) : ∀ row ∈ xs, row.length = k := by
  unfold rowsA at h
  split at h
  · split at h
    · rename_i hk; subst hk; cases h
      cases hx with
      | ro cell hS hl hc hf hrow hcell ho hh => exact hrow
      | nil => intro row hr; cases hr
      | emp => intro row hr; cases hr
    · cases h
  · cases h; intro row hr; cases hr
  · cases h

section
variable {P : Program} {c : Cx} {w : World} {h : H} {D : Nat → Prop} (hr : Rel c D h w) (hfr : ¬ D h.next) {t tx ty e e' : TypeId} {E : TI} (ht : P.underlying t = some (.slice e)) (htx : P.underlying tx = some (.slice e')) (hE : ti P e = some E)
include hr hfr ht htx hE

omit hr hfr in
/-- append that must make a new row: what is known of it. -/
theorem append_new {u v : Value} {base : Option Addr} {sLen sCap : Nat} {olds : List Value} {cs : List AV} {xs : List (List AV)} (h0 : 0 < E.size) (hzl : E.zero.length = E.size) (hu : u = .slice base sLen sCap)
    (hold : ∀ w' : World, w'.heap = w.heap → (Builtin.firstCells E.size sLen u).run P w' = .ok olds.toArray w') (hol : olds.length = sLen * E.size) (hcl : cs.length = olds.length)
    (hcs : ∀ (j : Nat) (y : AV) (q : Value), cs[j]? = some y → olds[j]? = some q → R c w D y q)
    (hS : SrcOK P c w E.size tx v xs) (hb1 : (sLen + xs.length) * E.bytes ≤ 70368744177664) (hb2 : sLen + xs.length ≤ 70368744177664) (hroom : sCap < sLen + xs.length) (hcp : sLen ≤ sCap) :
    ∃ w' C cap, (Builtin.append_ #[t, tx] ty #[u, v]).run P w = .ok (.slice (some ⟨w.heap.size, 0, none⟩) (sLen + xs.length) cap) w' ∧ sLen + xs.length ≤ cap ∧ Made w w' (.cells C e (0, 0)) ∧ C.size = cap * E.size ∧
      (∀ (j : Nat) (y : AV) (q : Value), (cs ++ xs.flatten)[j]? = some y → C[j]? = some q → R c w D y q) ∧ (∀ (j : Nat) (q : Value), olds.length ≤ j → j < olds.length + xs.length * E.size → C[j]? = some q → q.oneCell' = true) ∧
      (∀ (j : Nat) (y : AV) (q : Value), xs.flatten[j]? = some y → C[olds.length + j]? = some q → R c w noId y q) := by
  have _htx := htx
  subst hu
  obtain ⟨i, z, d, hi, hd, _, hz, hs, hzc, _, hb⟩ := ti_parts hE
  obtain ⟨news, hsrc, hnews, hnl⟩ := hS.1
  have hfl := flatten_len xs hS.2
  have hfit := Go.growslice_fits (need := sLen + xs.length) (old := sCap) (bytes := E.bytes) (by omega) (by omega)
  have hrun := run_append_grow_src (P := P) w t tx ty e i z ht hi hz base sLen sCap olds (by rw [hs]; exact hold w.drew rfl) v xs.length news (by rw [hs]; exact hsrc) (by omega) (by omega) (by rw [hb]; exact hfit)
  have hcap := grownCap_ge w (sLen + xs.length) sCap e
  have hzs : z.cells.size = E.size := by rw [← hzl, ← hzc]; simp
  have hnn : news.length = xs.length * E.size := hsrc.newsLen
  have hCget : ∀ (j : Nat), j < olds.length + news.length → ((olds ++ news).toArray ++ Builtin.zeroCells z.cells (grownCap w (sLen + xs.length) sCap e - (sLen + xs.length)))[j]? = (olds ++ news)[j]? := fun j hj => by
    rw [Array.getElem?_append_left (by simpa using hj)]; simp
  refine ⟨_, _, _, hrun, hcap, made_drew w _, ?_, fun j y q e1 e2 => ?_, fun j q e1 e2 e3 => ?_, fun j y q e1 e2 => ?_⟩
  · have hsub : grownCap w (sLen + xs.length) sCap e = (sLen + xs.length) + (grownCap w (sLen + xs.length) sCap e - (sLen + xs.length)) := by omega
    rw [Array.size_append, size_zeroCells, hzs]
    simp only [List.size_toArray, List.length_append, hol, hnn]
    rw [← Nat.add_mul, ← Nat.add_mul, ← hsub]
  · have hj : j < (cs ++ xs.flatten).length := (List.getElem?_eq_some_iff.1 e1).1
    simp only [List.length_append, hcl, hnl] at hj
    rw [hCget j hj] at e2
    by_cases hjo : j < olds.length
    · rw [List.getElem?_append_left (by omega)] at e1
      rw [List.getElem?_append_left hjo] at e2
      exact hcs j y q e1 e2
    · rw [List.getElem?_append_right (by omega), hcl] at e1
      rw [List.getElem?_append_right (by omega)] at e2
      exact (hnews _ (by omega) y q e1 e2).up (fun _ hb => hb.elim)
  · rw [hCget j (by omega), List.getElem?_append_right e1] at e3
    exact hsrc.one q (List.mem_of_getElem? e3)
  · have hj : j < xs.flatten.length := (List.getElem?_eq_some_iff.1 e1).1
    rw [hCget _ (by omega), List.getElem?_append_right (by omega), Nat.add_sub_cancel_left] at e2
    exact hnews j (by omega) y q e1 e2

omit hr hfr in
/-- Nothing is appended. -/
theorem append_none {u v : Value} {base : Option Addr} {n cap : Nat} {ty : TypeId} (h0 : 0 < E.size) (hu : u = .slice base n cap) (hc : n ≤ cap) (hcap : base = none → cap = 0) (hS : SrcOK P c w E.size tx v []) :
    (Builtin.append_ #[t, tx] ty #[u, v]).run P w = .ok u w := by
  have _htx := htx
  obtain ⟨i, z, d, hi, hd, _, hz, hsz, hzc, _, hby⟩ := ti_parts hE
  obtain ⟨news, hsrc, _, _⟩ := hS.1
  have hn0 : news = [] := List.length_eq_zero_iff.1 (by rw [hsrc.newsLen]; simp)
  subst hn0
  subst hu
  have hc' := hsrc.cells
  simp only [List.length_nil] at hc'
  have hlen := hsrc.len
  simp only [List.length_nil] at hlen
  cases base with
  | none =>
    have := hcap rfl
    have hn : n = 0 := by omega
    subst hn; subst this
    rcases hsrc.kind with ⟨e2, hk⟩ | hk <;> simp [Builtin.append_, run_underlying ht, run_underlying hk, sizeOf, typeInfo, hi, hsz, hlen, hc', storeCells]
  | some a =>
    rcases hsrc.kind with ⟨e2, hk⟩ | hk <;> simp [Builtin.append_, run_underlying ht, run_underlying hk, sizeOf, typeInfo, hi, hsz, hlen, hc', storeCells, hc]

theorem did_new_own {u v : Value} {base : Option Addr} {sLen sCap : Nat} {olds : List Value} {cs : List AV} {xs : List (List AV)} {ty : TypeId} (h0 : 0 < E.size) (hzl : E.zero.length = E.size) (hu : u = .slice base sLen sCap)
    (hold : ∀ w' : World, w'.heap = w.heap → (Builtin.firstCells E.size sLen u).run P w' = .ok olds.toArray w') (hol : olds.length = sLen * E.size) (hcl : cs.length = olds.length)
    (hcs : ∀ (j : Nat) (y : AV) (q : Value), cs[j]? = some y → olds[j]? = some q → R c w D y q)
    (hS : SrcOK P c w E.size tx v xs) (hb1 : (sLen + xs.length) * E.bytes ≤ 70368744177664) (hb2 : sLen + xs.length ≤ 70368744177664) (hroom : sCap < sLen + xs.length) (hcp : sLen ≤ sCap) :
    Did P (Builtin.append_ #[t, tx] ty #[u, v]) c D w h (.sl h.next 0 (sLen + xs.length) E.size, h.push (cs ++ xs.flatten)) := by
  obtain ⟨w', C, cap, hrun, hcap, hm, hC, hcont, _, _⟩ := append_new (c := c) (D := D) (ty := ty) ht htx hE h0 hzl hu hold hol hcl hcs hS hb1 hb2 hroom hcp
  have hfl := flatten_len xs hS.2
  obtain ⟨g1, g2⟩ := push_ok (cs := cs ++ xs.flatten) hr hfr hm (by rw [List.length_append, hcl, hol, hfl, hC, ← Nat.add_mul]; exact Nat.mul_le_mul_right _ hcap) hcont
  refine ⟨_, _, _, _, hrun, ?_, g1, g2, addId_bound (Nat.lt_succ_self _)⟩
  have : R (c.bind h.next w.heap.size) w' (addId D h.next) (.sl h.next 0 (sLen + xs.length) E.size) (.slice (some ⟨(c.bind h.next w.heap.size).φ h.next, 0, none⟩) (sLen + xs.length) cap) :=
    .sl (.inr rfl) hcap C e (by simpa [Cx.bind] using hm.new) (by rw [hC]; omega)
  simpa [Cx.bind, H.push] using this

omit hfr in
/-- A copy that nothing is written into: it stays as it is. -/
theorem did_new_copy {u v : Value} {base : Option Addr} {xs : List (List AV)} {ty : TypeId} (h0 : 0 < E.size) (hzl : E.zero.length = E.size) (hu : u = .slice base 0 0) (hR : R c w D (.ro false E.size []) u)
    (hS : SrcOK P c w E.size tx v xs) (hb1 : xs.length * E.bytes ≤ 70368744177664) (hb2 : xs.length ≤ 70368744177664) :
    Did P (Builtin.append_ #[t, tx] ty #[u, v]) c D w h (.ro false E.size xs, h) := by
  have hrl := hS.2
  have hfl := flatten_len xs hrl
  by_cases hne : 0 < xs.length
  · obtain ⟨w', C, cap, hrun, hcap, hm, hC, hcont, hone, hnw⟩ := append_new (c := c) (D := D) (ty := ty) (cs := []) (olds := []) ht htx hE h0 hzl hu (fun w' _ => by subst hu; cases base with
      | none => exact run_firstCells_none w' _ _ _ _
      | some a => exact run_firstCells_some w' E.size 0 a 0 0 [] (by simp) (fun j v hj => by simp at hj)) (by simp) rfl (fun j y q e1 => by simp at e1) hS (by simpa using hb1) (by simpa using hb2) (by omega) (Nat.le_refl _)
    obtain ⟨g1, g2⟩ := keep_ok hr hm
    simp only [Nat.zero_add, List.nil_append, List.length_nil] at hrun hcap hcont hone hnw
    have hmul : xs.length * E.size ≤ C.size := by rw [hC]; exact Nat.mul_le_mul_right _ hcap
    have hidx : ∀ i j, i < xs.length → j < E.size → i * E.size + j < xs.length * E.size := fun i j hi hj => by
      have : (i + 1) * E.size ≤ xs.length * E.size := Nat.mul_le_mul_right _ hi
      rw [Nat.succ_mul] at this; omega
    refine ⟨_, w', c.keep w.heap.size, D, hrun, .ro (fun i j => C.getD (i * E.size + j) undef) (Or.inr rfl) rfl hcap (by simp) hrl (fun i j hi hj => ?_) (fun i j hi hj => ?_) (fun i j row y e1 e2 => ?_), g1, g2, fun b hb => .inl hb⟩
    · have hlt : i * E.size + j < C.size := by have := hidx i j hi hj; omega
      simp [World.cell?, hm.new, Array.getD, hlt]
    · have hlt' := hidx i j hi hj
      have hlt : i * E.size + j < C.size := by omega
      refine hone (i * E.size + j) _ (Nat.zero_le _) hlt' ?_
      simp [Array.getD, hlt]
    · have hi : i < xs.length := (List.getElem?_eq_some_iff.1 e1).1
      have hj : j < E.size := by rw [← hrl row (List.mem_of_getElem? e1)]; exact (List.getElem?_eq_some_iff.1 e2).1
      have hlt' := hidx i j hi hj
      have hlt : i * E.size + j < C.size := by omega
      obtain ⟨news, hsrc, hnews, hnl⟩ := hS.1
      have hgetf : xs.flatten[i * E.size + j]? = some y := by
        rw [flatten_get h0 xs _ hrl]
        have e3 : (i * E.size + j) / E.size = i := by rw [Nat.mul_comm, Nat.mul_add_div h0, Nat.div_eq_of_lt hj, Nat.add_zero]
        have e4 : (i * E.size + j) % E.size = j := by rw [Nat.mul_comm, Nat.mul_add_mod, Nat.mod_eq_of_lt hj]
        rw [e3, e4, e1]; exact e2
      have hq : C[i * E.size + j]? = some (C.getD (i * E.size + j) undef) := by simp [Array.getD, hlt]
      exact (hnw _ y _ hgetf hq).mono g2.S (g2.fix hr) (fun b hb => hb.elim) (fun _ hb => hb) g2.shp
  · have hx0 : xs = [] := by cases xs with
      | nil => rfl
      | cons _ _ => simp at hne
    subst hx0
    obtain ⟨i, z, d, hi, hd, _, hz, hsz, hzc, _, hby⟩ := ti_parts hE
    obtain ⟨news, hsrc, _, _⟩ := hS.1
    refine ⟨u, w, c, D, ?_, hR, hr, Ext.refl D h c w, fun b hb => .inl hb⟩
    have hn0 : news = [] := List.length_eq_zero_iff.1 (by rw [hsrc.newsLen]; simp)
    subst hn0
    subst hu
    have hc := hsrc.cells
    simp only [List.length_nil] at hc
    have hlen := hsrc.len
    simp only [List.length_nil] at hlen
    rcases hsrc.kind with ⟨e2, hk⟩ | hk <;> cases base <;> simp [Builtin.append_, run_underlying ht, run_underlying hk, sizeOf, typeInfo, hi, hsz, hlen, hc, storeCells]

omit hr hfr ht htx hE in
/-- A row that is not written from then on. -/
theorem did_freeze {s : Sem Value} {n len k nx : Nat} {cs : List AV} {g : Nat → Option (List AV)} {l : Nat → Option Lp} (hd : Did P s c D w h (.sl n 0 len k, { next := nx, get := g, lp := l })) (hn : g n = some cs) (hl : cs.length = len * k) (hc : (cs.all fun x => clean1 x && one x) = true) :
    Did P s c D w h (.ro false k (chunk k len cs), { next := nx, get := fun q => if q = n then none else g q, lp := l }) := by
  obtain ⟨v, w', c', D', h1, h2, h3, h4, h5⟩ := hd
  have hcl : ∀ x ∈ cs, clean1 x = true ∧ one x = true := fun x hx => by simpa [Bool.and_eq_true] using (List.all_eq_true.1 hc) x hx
  obtain ⟨q1, q2, C, e, q3, q4, q5⟩ := h3.own n cs hn
  have hkeep : ∀ {y : AV} {u : Value} {D'' : Nat → Prop}, R c' w' D'' y u → R (c'.keep (c'.φ n)) w' D'' y u := fun hy => hy.mono (fun _ hk => .inl hk) (fun _ _ => rfl) (fun _ _ => rfl) (fun _ hb => hb) (fun _ C _ hk => ⟨C, hk, rfl⟩)
  refine ⟨v, w', c'.keep (c'.φ n), D', h1, ?_, ⟨fun b ds hb => ?_, fun b b' d1 d2 e1 e2 he => ?_, fun q hq => ?_, fun b r hb => ?_, h3.linj⟩, ⟨fun q hq => .inl (h4.S q hq), fun q hq => ?_, h4.φ, h4.dom, h4.next, h4.os, h4.tape, h4.output, h4.size, h4.frame, h4.shp, fun b ds hb => ?_, h4.lorigin, h4.fz⟩, h5⟩
  · cases h2 with
    | sl hb hcc C2 e2 hblk hC =>
      rename_i cap
      rw [q3] at hblk
      cases hblk
      have hrow : ∀ i j, i < len → j < k → i * k + j < cs.length := fun i j hi hj => by
        have : (i + 1) * k ≤ len * k := Nat.mul_le_mul_right _ hi
        rw [Nat.succ_mul] at this; omega
      refine .ro (fun i j => C.getD (i * k + j) undef) (.inr rfl) (by simp [chunk]) hcc (by simp) (fun row hr => ?_) (fun i j hi hj => ?_) (fun i j hi hj => ?_) (fun i j row x e1 e2 => ?_)
      · simp only [chunk, List.mem_map, List.mem_range] at hr
        obtain ⟨i, hi, rfl⟩ := hr
        have : (i + 1) * k ≤ len * k := Nat.mul_le_mul_right _ hi
        rw [Nat.succ_mul] at this
        simp; omega
      · have := hrow i j hi hj
        have hlt : i * k + j < C.size := by omega
        simp [World.cell?, q3, Array.getD, hlt]
      · have hlt := hrow i j hi hj
        have hlt2 : i * k + j < C.size := by omega
        have g1 := q5 (i * k + j) _ _ (List.getElem?_eq_getElem hlt) (Array.getElem?_eq_getElem hlt2)
        have := one_R g1 (hcl _ (List.getElem_mem hlt)).2
        simpa [Array.getD, hlt2] using this
      · simp only [chunk, List.getElem?_map] at e1
        by_cases hi : i < len
        · rw [List.getElem?_eq_getElem (by simpa using hi)] at e1
          simp only [Option.map_some, List.getElem_range, Option.some.injEq] at e1
          subst e1
          rw [List.getElem?_take] at e2
          split at e2
          · rename_i hj
            rw [List.getElem?_drop] at e2
            have hlt2 : i * k + j < C.size := by have := (List.getElem?_eq_some_iff.1 e2).1; omega
            have g1 := q5 (i * k + j) x _ e2 (Array.getElem?_eq_getElem hlt2)
            have := hkeep (clean1_R g1 (hcl x (List.mem_of_getElem? e2)).1)
            simpa [Array.getD, hlt2] using this
          · cases e2
        · rw [List.getElem?_eq_none (by simpa using hi)] at e1; cases e1
  · simp only at hb
    split at hb
    · cases hb
    · rename_i hbn
      obtain ⟨p1, p2, C2, e2, p3, p4, p5⟩ := h3.own b ds hb
      refine ⟨p1, fun hS => ?_, C2, e2, p3, p4, fun j y u g1 g2 => hkeep (p5 j y u g1 g2)⟩
      rcases hS with hS | hS
      · exact p2 hS
      · exact hbn (h3.inj b n ds cs hb hn hS)
  · simp only at e1 e2
    split at e1
    · cases e1
    · split at e2
      · cases e2
      · exact h3.inj b b' d1 d2 e1 e2 he
  · rcases hq with hq | rfl
    · exact h3.sz q hq
    · exact (Array.getElem?_eq_some_iff.1 q3).1
  · obtain ⟨p1, p2, fn, tmps, dd, p3, p4⟩ := h3.lps b r hb
    refine ⟨p1, fun hS => ?_, fn, tmps, dd, p3, p4.1, fun i y u g1 g2 => hkeep (p4.2 i y u g1 g2)⟩
    rcases hS with hS | hS
    · exact p2 hS
    · exact h3.apart (b' := b) hb q3 hS
  · rcases hq with hq | rfl
    · exact h4.newS q hq
    · rcases h4.origin n cs hn with ⟨b0, cs0, u1, u2⟩ | u
      · exact .inr (.inr ⟨b0, cs0, u1, u2⟩)
      · exact .inr (.inl u)
  · simp only at hb
    split at hb
    · cases hb
    · exact h4.origin b ds hb

theorem did_app_sl {u v : Value} {ty : TypeId} {b len : Nat} {cs : List AV} {xs : List (List AV)} (h0 : 0 < E.size) (hzl : E.zero.length = E.size) (hs : R c w D (.sl b 0 len E.size) u) (hcs : h.get b = some cs) (hcl : cs.length = len * E.size)
    (hS : SrcOK P c w E.size tx v xs) (hb1 : (len + xs.length) * E.bytes ≤ 70368744177664) (hb2 : len + xs.length ≤ 70368744177664) : Did P (Builtin.append_ #[t, tx] ty #[u, v]) c D w h (.sl h.next 0 (len + xs.length) E.size, { next := h.next + 1, get := fun q => if q = h.next then some (cs ++ xs.flatten) else if q = b then none else h.get q, lp := h.lp }) := by
  have _htx := htx
  obtain ⟨i, z, d, hi, hd, _, hz, hsz, hzc, _, hby⟩ := ti_parts hE
  have hrl := hS.2
  have hfl := flatten_len xs hrl
  obtain ⟨news, hsrc, hnews, hnl⟩ := hS.1
  have hnn : news.length = xs.length * E.size := hsrc.newsLen
  cases hs with
  | sl hbn hc C e2 hblk hC =>
    rename_i cap
    obtain ⟨_, hbS, C2, e3, hblk2, hlen, hcont⟩ := hr.own b cs hcs
    rw [hblk] at hblk2
    cases hblk2
    by_cases hroom : len + xs.length ≤ cap
    · have hmul : (len + xs.length) * E.size ≤ cap * E.size := Nat.mul_le_mul_right _ hroom
      rw [Nat.add_mul] at hmul
      have hrun := run_append_in (P := P) w t tx ty e i ht hi (c.φ b) len cap C e2 hblk v xs.length news (by rw [hsz]; exact hsrc) hroom (by rw [hsz]; omega)
      rw [hsz] at hrun
      have hC' : ∀ j, ((C.toList.take (len * E.size) ++ news ++ C.toList.drop (len * E.size + news.length)).toArray)[j]? = if len * E.size ≤ j ∧ j < len * E.size + news.length then news[j - len * E.size]? else C[j]? := fun j => by
        have := splice_get (cs := C.toList) (l := news) (off := len * E.size) (j := j) (by simp; omega)
        simp only [List.getElem?_toArray]
        rw [this]; simp
      have hCs : (C.toList.take (len * E.size) ++ news ++ C.toList.drop (len * E.size + news.length)).toArray.size = C.size := by simp; omega
      obtain ⟨g1, g2⟩ := put_ok (h' := { next := h.next + 1, get := fun q => if q = h.next then some (cs ++ xs.flatten) else if q = b then none else h.get q, lp := h.lp }) (c' := c.bind h.next (c.φ b)) (n := h.next) (cs' := cs ++ xs.flatten) hr hcs hblk (put_setRow hblk) hCs
        (D' := addId D h.next) (by rw [hCs, List.length_append, hcl, hfl]; omega) (.inr hfr) rfl (fun _ hq => .inl hq) (.inr rfl) (Nat.le_succ _) (fun q => rfl) rfl (fun j y q e1 e2 => by
          rw [hC'] at e2
          have hj : j < (cs ++ xs.flatten).length := (List.getElem?_eq_some_iff.1 e1).1
          simp only [List.length_append, hcl, hnl] at hj
          by_cases hjo : j < len * E.size
          · rw [List.getElem?_append_left (by omega)] at e1
            rw [if_neg (by omega)] at e2
            exact hcont j y q e1 e2
          · rw [List.getElem?_append_right (by omega), hcl] at e1
            rw [if_pos (by omega)] at e2
            exact (hnews _ (by omega) y q e1 e2).up (fun _ hb => hb.elim))
      refine ⟨_, _, _, _, hrun, ?_, g1, g2, addId_bound (Nat.lt_succ_self _)⟩
      have hfix := g2.shp (c.φ b) C e2 hblk
      obtain ⟨C3, h3, h4⟩ := hfix
      have : R (c.bind h.next (c.φ b)) (w.setRow (c.φ b) (C.toList.take (len * E.size) ++ news ++ C.toList.drop (len * E.size + news.length)).toArray) (addId D h.next) (.sl h.next 0 (len + xs.length) E.size) (.slice (some ⟨(c.bind h.next (c.φ b)).φ h.next, 0, none⟩) (len + xs.length) cap) :=
        .sl (.inr rfl) hroom C3 e2 (by simpa [Cx.bind] using h3) (by rw [h4]; omega)
      simpa [Cx.bind] using this
    · have hsrcCells : ∀ j u, (C.toList.take (len * E.size))[j]? = some u → C[j]? = some u ∧ j < len * E.size := fun j u hj => by
        rw [List.getElem?_take] at hj
        split at hj
        · exact ⟨by simpa using hj, by assumption⟩
        · cases hj
      have hcapm : len * E.size ≤ C.size := by have := Nat.mul_le_mul_right E.size hc; omega
      have hol : (C.toList.take (len * E.size)).length = len * E.size := by simp; omega
      have hold : ∀ w' : World, w'.heap = w.heap → (Builtin.firstCells E.size len (.slice (some ⟨c.φ b, 0, none⟩) len cap)).run P w' = .ok (C.toList.take (len * E.size)).toArray w' := fun w' hw' =>
        run_firstCells_some w' E.size len ⟨c.φ b, 0, none⟩ len cap _ hol (fun j u hj => by
          obtain ⟨g1, g2⟩ := hsrcCells j u hj
          rw [Addr_add]; simp [World.cell?, hw', hblk, g1])
      have hfit := Go.growslice_fits (need := len + xs.length) (old := cap) (bytes := E.bytes) (by omega) (by omega)
      have hrun := run_append_grow_src (P := P) w t tx ty e i z ht hi hz (some ⟨c.φ b, 0, none⟩) len cap (C.toList.take (len * E.size)) (by rw [hsz]; exact hold w.drew rfl) v xs.length news (by rw [hsz]; exact hsrc) (by omega) (by omega) (by rw [hby]; exact hfit)
      have hcap := grownCap_ge w (len + xs.length) cap e
      have hzs : z.cells.size = E.size := by rw [← hzl, ← hzc]; simp
      have hCget : ∀ (j : Nat), j < len * E.size + news.length → ((C.toList.take (len * E.size) ++ news).toArray ++ Builtin.zeroCells z.cells (grownCap w (len + xs.length) cap e - (len + xs.length)))[j]? = (C.toList.take (len * E.size) ++ news)[j]? := fun j hj => by
        rw [Array.getElem?_append_left (by simp; omega)]; simp
      have hsize : ((C.toList.take (len * E.size) ++ news).toArray ++ Builtin.zeroCells z.cells (grownCap w (len + xs.length) cap e - (len + xs.length))).size = grownCap w (len + xs.length) cap e * E.size := by
        have hsub : grownCap w (len + xs.length) cap e = (len + xs.length) + (grownCap w (len + xs.length) cap e - (len + xs.length)) := by omega
        rw [Array.size_append, size_zeroCells, hzs]
        simp only [List.size_toArray, List.length_append, hol, hnn]
        rw [← Nat.add_mul, ← Nat.add_mul, ← hsub]
      -- the old block goes out of use, and a new one comes
      have hkill : Rel c D (h.kill b) w := ⟨fun q ds hq => by
          simp only [H.kill] at hq
          split at hq
          · cases hq
          · exact hr.own q ds hq, fun q q' d1 d2 e1 e2 he => by
          simp only [H.kill] at e1 e2
          split at e1
          · cases e1
          · split at e2
            · cases e2
            · exact hr.inj q q' d1 d2 e1 e2 he, hr.sz, hr.lps, hr.linj⟩
      obtain ⟨g1, g2⟩ := push_ok (h := h.kill b) (cs := cs ++ xs.flatten) hkill hfr (made_drew w (.cells ((C.toList.take (len * E.size) ++ news).toArray ++ Builtin.zeroCells z.cells (grownCap w (len + xs.length) cap e - (len + xs.length))) e (0, 0)))
        (by rw [hsize, List.length_append, hcl, hfl, ← Nat.add_mul]; exact Nat.mul_le_mul_right _ hcap) (fun j y q e1 e2 => by
          have hj : j < (cs ++ xs.flatten).length := (List.getElem?_eq_some_iff.1 e1).1
          simp only [List.length_append, hcl, hnl] at hj
          rw [hCget j hj] at e2
          by_cases hjo : j < len * E.size
          · rw [List.getElem?_append_left (by omega)] at e1
            rw [List.getElem?_append_left (by omega)] at e2
            exact hcont j y q e1 (hsrcCells j q e2).1
          · rw [List.getElem?_append_right (by omega), hcl] at e1
            rw [List.getElem?_append_right (by omega), hol] at e2
            exact (hnews _ (by omega) y q e1 e2).up (fun _ hb => hb.elim))
      have heq : (h.kill b).push (cs ++ xs.flatten) = { next := h.next + 1, get := fun q => if q = h.next then some (cs ++ xs.flatten) else if q = b then none else h.get q, lp := h.lp } := rfl
      rw [heq] at g1 g2
      refine ⟨_, _, _, _, hrun, ?_, g1, ⟨g2.S, fun k hk => ?_, g2.φ, g2.dom, g2.next, g2.os, g2.tape, g2.output, g2.size, fun k hk hno hnl => g2.frame k hk (fun q ds hq => ?_) hnl, g2.shp, fun q ds hq => ?_, g2.lorigin, g2.fz⟩, addId_bound (Nat.lt_succ_self _)⟩
      · have hnew : (w.drew.alloc (.cells ((C.toList.take (len * E.size) ++ news).toArray ++ Builtin.zeroCells z.cells (grownCap w (len + xs.length) cap e - (len + xs.length))) e)).heap[w.heap.size]? = some (.cells ((C.toList.take (len * E.size) ++ news).toArray ++ Builtin.zeroCells z.cells (grownCap w (len + xs.length) cap e - (len + xs.length))) e (0, 0)) := (made_drew w _).new
        have : R (c.bind h.next w.heap.size) (w.drew.alloc (.cells ((C.toList.take (len * E.size) ++ news).toArray ++ Builtin.zeroCells z.cells (grownCap w (len + xs.length) cap e - (len + xs.length))) e)) (addId D h.next) (.sl h.next 0 (len + xs.length) E.size) (.slice (some ⟨(c.bind h.next w.heap.size).φ h.next, 0, none⟩) (len + xs.length) (grownCap w (len + xs.length) cap e)) :=
          .sl (.inr rfl) hcap _ e (by simpa [Cx.bind] using hnew) (by rw [hsize]; omega)
        have e9 : (c.bind h.next w.heap.size).φ h.next = w.heap.size := by simp [Cx.bind]
        rw [e9] at this
        exact this
      · rcases g2.newS k hk with h1 | h1 | ⟨q, ds, h1, h2⟩
        · exact .inl h1
        · exact .inr (.inl h1)
        · simp only [H.kill] at h1
          split at h1
          · cases h1
          · exact .inr (.inr ⟨q, ds, h1, h2⟩)
      · simp only [H.kill] at hq
        split at hq
        · cases hq
        · exact hno q ds hq
      · rcases g2.origin q ds hq with ⟨q0, d0, h1, h2⟩ | h1
        · simp only [H.kill] at h1
          split at h1
          · cases h1
          · exact .inl ⟨q0, d0, h1, h2⟩
        · exact .inr h1

omit hfr ht htx hE in
theorem Rel.trim {b : Nat} {cs : List AV} (hb : h.get b = some cs) (n : Nat) : Rel c D (h.set b (cs.take n)) w := by
  have sub : ∀ q ds, (h.set b (cs.take n)).get q = some ds → ∃ ds', h.get q = some ds' ∧ ds.length ≤ ds'.length ∧ ∀ (j : Nat) (x : AV), ds[j]? = some x → ds'[j]? = some x := fun q ds hq => by
    simp only [H.set] at hq
    split at hq
    · rename_i hqb
      subst hqb; cases hq
      refine ⟨cs, hb, by rw [List.length_take]; omega, fun j x hx => ?_⟩
      rw [List.getElem?_take] at hx
      split at hx
      · exact hx
      · cases hx
    · exact ⟨ds, hq, Nat.le_refl _, fun _ _ h => h⟩
  refine ⟨fun q ds hq => ?_, fun q q' d1 d2 e1 e2 he => ?_, hr.sz, hr.lps, hr.linj⟩
  · obtain ⟨ds', g1, g2, g3⟩ := sub q ds hq
    obtain ⟨q1, q2, C, e, q3, q4, q5⟩ := hr.own q ds' g1
    exact ⟨q1, q2, C, e, q3, Nat.le_trans g2 q4, fun j x v e1 e2 => q5 j x v (g3 j x e1) e2⟩
  · obtain ⟨d1', g1, _⟩ := sub q d1 e1
    obtain ⟨d2', g2, _⟩ := sub q' d2 e2
    exact hr.inj q q' d1' d2' g1 g2 he
omit hr hfr ht htx hE in
theorem Did.trim {s : Sem Value} {r : AV × H} {b : Nat} {cs : List AV} {n : Nat} (hb : h.get b = some cs) (hd : Did P s c D w (h.set b (cs.take n)) r) : Did P s c D w h r := by
  obtain ⟨v, w', c', D', h1, h2, h3, h4, h5⟩ := hd
  have sub : ∀ q ds, (h.set b (cs.take n)).get q = some ds → ∃ ds', h.get q = some ds' := fun q ds hq => by
    simp only [H.set] at hq
    split at hq
    · rename_i hqb; subst hqb; exact ⟨cs, hb⟩
    · exact ⟨ds, hq⟩
  have sub' : ∀ q ds, h.get q = some ds → ∃ ds', (h.set b (cs.take n)).get q = some ds' := fun q ds hq => by
    simp only [H.set]
    split
    · exact ⟨_, rfl⟩
    · exact ⟨ds, hq⟩
  refine ⟨v, w', c', D', h1, h2, h3, ⟨h4.S, fun k hk => ?_, h4.φ, h4.dom, h4.next, h4.os, h4.tape, h4.output, h4.size, fun k hk hno hnl => h4.frame k hk (fun q ds hq => ?_) hnl, h4.shp, fun q ds hq => ?_, h4.lorigin, h4.fz⟩, h5⟩
  · rcases h4.newS k hk with g | g | ⟨q, ds, g1, g2⟩
    · exact .inl g
    · exact .inr (.inl g)
    · obtain ⟨ds', g3⟩ := sub q ds g1; exact .inr (.inr ⟨q, ds', g3, g2⟩)
  · obtain ⟨ds', g3⟩ := sub q ds hq; exact hno q ds' g3
  · rcases h4.origin q ds hq with ⟨q0, d0, g1, g2⟩ | g
    · obtain ⟨ds', g3⟩ := sub q0 d0 g1; exact .inl ⟨q0, ds', g3, g2⟩
    · exact .inr g

omit hfr ht hE in
theorem src_ofH {x : AV} {v : Value} {k : Nat} {xs : List (List AV)} (h0 : 0 < k) (hx : R c w D x v) (hh : rowsH k h x = some xs) : SrcOK P c w k tx v xs := by
  have own : ∀ {b o len k' cap : Nat} {C : Array Value} {e : TypeId}, D b → len ≤ cap → w.heap[c.φ b]? = some (.cells C e (0, 0)) → ownRows k h b o len k' = some xs → SrcOK P c w k tx (.slice (some ⟨c.φ b, o, none⟩) len cap) xs := by
    intro b o len k' cap C e hb hc hblk hr'
    unfold ownRows at hr'
    split at hr'
    · rename_i hk; subst hk
      split at hr'
      · rename_i cs hcs
        split at hr'
        · rename_i l hl
          split at hr'
          · rename_i hall
            cases hr'
            obtain ⟨_, _, C2, e2, q3, q4, q5⟩ := hr.own b cs hcs
            rw [hblk] at q3; cases q3
            obtain ⟨g1, g2, g3⟩ := takeAt_len hl
            have hrow : ∀ row ∈ chunk k' len l, row.length = k' := fun row hrow => by
              simp only [chunk, List.mem_map, List.mem_range] at hrow
              obtain ⟨i, hi, rfl⟩ := hrow
              have : (i + 1) * k' ≤ len * k' := Nat.mul_le_mul_right _ hi
              rw [Nat.succ_mul] at this
              simp [g1]; omega
            have hlen : (chunk k' len l).length = len := by simp [chunk]
            have hfl := flatten_len _ hrow
            rw [hlen] at hfl
            have hval : ∀ j x u, l[j]? = some x → C[o + j]? = some u → R c w D x u := fun j x u e1 e2 => by
              have hj := (List.getElem?_eq_some_iff.1 e1).1
              exact q5 (o + j) x u (by rw [← g2 j (by omega)]; exact e1) e2
            have hcl : ∀ j x, l[j]? = some x → clean1 x = true ∧ one x = true := fun j x e1 => by
              have := (List.all_eq_true.1 hall) x (List.mem_of_getElem? e1)
              simpa [Bool.and_eq_true] using this
            have hget : ∀ j u, ((C.toList.drop o).take (len * k'))[j]? = some u → j < len * k' ∧ C[o + j]? = some u := fun j u hj => by
              rw [List.getElem?_take] at hj
              split at hj
              · rename_i hlt; rw [List.getElem?_drop] at hj; exact ⟨hlt, by simpa using hj⟩
              · cases hj
            refine ⟨⟨(C.toList.drop o).take (len * k'), ?_, fun j hj y u e1 e2 => ?_, by rw [hfl]; simp; omega⟩, hrow⟩
            · rw [hlen]
              refine Src.ofSlice w htx ⟨c.φ b, o, none⟩ len cap _ (by simp; omega) (fun j u hj => ?_) (fun u hu => ?_)
              · obtain ⟨_, g⟩ := hget j u hj
                rw [Addr_add]; simp [World.cell?, hblk, g]
              · obtain ⟨j, hj⟩ := List.getElem?_of_mem hu
                obtain ⟨hlt, g⟩ := hget j u hj
                have hl' := List.getElem?_eq_getElem (l := l) (i := j) (by omega)
                exact one_R (hval j _ u hl' g) (hcl j _ hl').2
            · obtain ⟨hlt, g⟩ := hget j u e2
              rw [flatten_get h0 _ j hrow] at e1
              have hd : j / k' < len := Nat.div_lt_of_lt_mul (by rw [Nat.mul_comm]; exact hlt)
              have hm := Nat.mod_lt j h0
              simp only [chunk, List.getElem?_map, List.getElem?_range hd, Option.map_some, Option.bind_some] at e1
              rw [List.getElem?_take, if_pos hm, List.getElem?_drop, show j / k' * k' + j % k' = j by have := Nat.div_add_mod j k'; rw [Nat.mul_comm] at this; exact this] at e1
              exact clean1_R (hval j y u e1 g) (hcl j y e1).1
          · cases hr'
        · cases hr'
      · cases hr'
    · cases hr'
  unfold rowsH at hh
  split at hh
  · cases hx with
    | sl hb hc C e hblk hC => exact own hb hc hblk hh
  · cases hx with
    | slc hb hc C e hblk hC => exact own hb hc hblk hh
  · obtain ⟨⟨f, ys⟩, h1, h2⟩ := Option.map_eq_some_iff.1 hh
    simp only at h2; subst h2
    exact ⟨src_of h0 htx hx h1, rows_len (P := P) hx h1⟩

theorem did_appendX {s x : AV} {u v : Value} {r : AV × H} {ty : TypeId} (hs : R c w D s u) (hx : R c w D x v) (ha : appendX E h s x = some r) : Did P (Builtin.append_ #[t, tx] ty #[u, v]) c D w h r := by
  obtain ⟨i, z, d, hi, hd, _, hz, hsz, hzc, _, hby⟩ := ti_parts hE
  unfold appendX at ha
  split at ha
  · cases ha
  · rename_i xs hrows
    split at ha
    · rename_i hE0
      obtain ⟨h0, hzl⟩ := hE0
      have hS : SrcOK P c w E.size tx v xs := src_ofH hr htx h0 hx hrows
      have hrl := hS.2
      have hfl := flatten_len xs hrl
      split at ha
      · rename_i b o len k
        split at ha
        · rename_i cs hcs
          split at ha
          · rename_i hcond
            obtain ⟨rfl, rfl, hcl, hb1, hb2⟩ := hcond
            cases ha
            refine Did.trim (n := len * E.size) hcs ?_
            have main := did_app_sl (ty := ty) (cs := cs.take (len * E.size)) (hr.trim hcs (len * E.size)) (h := h.set b (cs.take (len * E.size))) hfr ht htx hE h0 hzl hs (by simp [H.set]) (by rw [List.length_take]; omega) hS hb1 hb2
            have heq : ({ next := (h.set b (cs.take (len * E.size))).next + 1, get := fun q => if q = (h.set b (cs.take (len * E.size))).next then some (cs.take (len * E.size) ++ xs.flatten) else if q = b then none else (h.set b (cs.take (len * E.size))).get q, lp := (h.set b (cs.take (len * E.size))).lp } : H) =
                { next := h.next + 1, get := fun q => if q = h.next then some (cs.take (len * E.size) ++ xs.flatten) else if q = b then none else h.get q, lp := h.lp } := by
              simp only [H.set]; congr 1; funext q; by_cases hq : q = b <;> simp [hq]
            rw [heq] at main
            exact main
          · cases ha
        · cases ha
      · rename_i b o len k cap
        split at ha
        · rename_i cs hcs
          split at ha
          · rename_i hcond
            obtain ⟨rfl, hb1, hb2⟩ := hcond
            cases hs with
            | slc hbn hc C e2 hblk hC =>
              obtain ⟨_, hbS, C2, e3, hblk2, hlen, hcont⟩ := hr.own b cs hcs
              rw [hblk] at hblk2
              cases hblk2
              split at ha
              · rename_i hroom
                split at ha
                · rename_i hc2
                  obtain ⟨rfl, hcl⟩ := hc2
                  cases ha
                  obtain ⟨news, hsrc, hnews, hnl⟩ := hS.1
                  have hnn : news.length = xs.length * E.size := hsrc.newsLen
                  rw [Nat.add_mul] at hcl
                  have hmul : (len + xs.length) * E.size ≤ cap * E.size := Nat.mul_le_mul_right _ hroom
                  rw [Nat.add_mul] at hmul
                  have hrun := run_append_in (P := P) w t tx ty e i ht hi (c.φ b) len cap C e2 hblk v xs.length news (by rw [hsz]; exact hsrc) hroom (by rw [hsz]; omega)
                  rw [hsz] at hrun
                  have hC' : ∀ j, ((C.toList.take (len * E.size) ++ news ++ C.toList.drop (len * E.size + news.length)).toArray)[j]? = if len * E.size ≤ j ∧ j < len * E.size + news.length then news[j - len * E.size]? else C[j]? := fun j => by
                    have := splice_get (cs := C.toList) (l := news) (off := len * E.size) (j := j) (by simp; omega)
                    simp only [List.getElem?_toArray]
                    rw [this]; simp
                  have hCs : (C.toList.take (len * E.size) ++ news ++ C.toList.drop (len * E.size + news.length)).toArray.size = C.size := by simp; omega
                  obtain ⟨g1, g2⟩ := put_ok (h' := h.set b (cs.take (len * E.size) ++ xs.flatten ++ cs.drop (len * E.size + xs.flatten.length))) (c' := c.bind b (c.φ b)) (n := b) (cs' := cs.take (len * E.size) ++ xs.flatten ++ cs.drop (len * E.size + xs.flatten.length)) hr hcs hblk (put_setRow hblk) hCs
                    (D' := D) (by rw [hCs]; simp [hfl]; omega) (.inl rfl) rfl (fun _ hq => hq) hbn (Nat.le_refl _) (fun q => by simp only [H.set]; split <;> rfl) rfl (fun j y q e1 e2 => by
                      rw [splice_get (by rw [hfl]; omega)] at e1
                      rw [hC'] at e2
                      rw [hnl] at e1
                      by_cases hj : len * E.size ≤ j ∧ j < len * E.size + news.length
                      · rw [if_pos hj] at e1 e2
                        exact (hnews _ (by omega) y q e1 e2).up (fun _ hb => hb.elim)
                      · rw [if_neg hj] at e1 e2; exact hcont j y q e1 e2)
                  refine ⟨_, _, _, _, hrun, ?_, g1, g2, fun b hb => .inl hb⟩
                  obtain ⟨C3, h3, h4⟩ := g2.shp (c.φ b) C e2 hblk
                  have e9 : (c.bind b (c.φ b)).φ b = c.φ b := by simp [Cx.bind]
                  have : R (c.bind b (c.φ b)) (w.setRow (c.φ b) (C.toList.take (len * E.size) ++ news ++ C.toList.drop (len * E.size + news.length)).toArray) D (.slc b 0 (len + xs.length) E.size cap) (.slice (some ⟨(c.bind b (c.φ b)).φ b, 0, none⟩) (len + xs.length) cap) :=
                    .slc hbn hroom C3 e2 (by rw [e9]; exact h3) (by rw [h4]; exact hC)
                  rw [e9] at this
                  exact this
                · cases ha
              · rename_i hroom
                split at ha
                · rename_i old hold
                  cases ha
                  obtain ⟨g1, g2, g3⟩ := takeAt_len hold
                  have hol : ((C.toList.drop o).take (len * E.size)).length = len * E.size := by rw [List.length_take, List.length_drop, Array.length_toList]; omega
                  refine did_new_own (ty := ty) (sCap := cap) (olds := (C.toList.drop o).take (len * E.size)) hr hfr ht htx hE h0 hzl rfl (fun w' hw' => run_firstCells_some w' E.size len ⟨c.φ b, o, none⟩ len cap _ hol (fun j u hj => ?_)) hol (by rw [g1, hol]) (fun j y q e1 e2 => ?_) hS hb1 hb2 (by omega) hc
                  · rw [List.getElem?_take] at hj
                    split at hj
                    · rw [List.getElem?_drop] at hj
                      rw [Addr_add]
                      have : C[o + j]? = some u := by simpa using hj
                      simp [World.cell?, hw', hblk, this]
                    · cases hj
                  · rw [List.getElem?_take] at e2
                    split at e2
                    · rename_i hj
                      rw [List.getElem?_drop] at e2
                      exact hcont (o + j) y q (by rw [← g2 j hj]; exact e1) (by simpa using e2)
                    · cases e2
                · cases ha
          · cases ha
        · cases ha
      · rename_i k ys
        split at ha
        · rename_i hcond
          obtain ⟨rfl, hb1, hb2⟩ := hcond
          split at ha
          · rename_i hne
            cases ha
            have hx0 : xs = [] := List.length_eq_zero_iff.1 hne
            subst hx0
            cases hs with
            | nil => exact ⟨_, w, c, D, append_none (ty := ty) ht htx hE h0 rfl (Nat.le_refl _) (fun _ => rfl) hS, .nil, hr, Ext.refl _ _ _ _, fun b hb => .inl hb⟩
            | emp => exact ⟨_, w, c, D, append_none (ty := ty) ht htx hE h0 rfl (Nat.le_refl _) (fun h => nomatch h) hS, .emp, hr, Ext.refl _ _ _ _, fun b hb => .inl hb⟩
            | ro cell hSb hl hc hf hrow hcell ho hh => exact ⟨_, w, c, D, append_none (ty := ty) ht htx hE h0 rfl hc (fun h => nomatch h) hS, .ro cell hSb hl hc hf hrow hcell ho hh, hr, Ext.refl _ _ _ _, fun b hb => .inl hb⟩
          · rename_i hne
            cases ha
            cases hs with
            | nil =>
              have := did_new_own (ty := ty) (sLen := 0) (cs := []) (olds := []) hr hfr ht htx hE h0 hzl rfl (fun w' _ => run_firstCells_none w' _ _ _ _) (by simp) rfl (fun j y q e1 => by simp at e1) hS (by simpa using hb1) (by simpa using hb2) (by omega) (Nat.le_refl _)
              simpa using this
            | emp =>
              rename_i a
              have := did_new_own (ty := ty) (sLen := 0) (cs := []) (olds := []) hr hfr ht htx hE h0 hzl rfl (fun w' _ => run_firstCells_some w' E.size 0 a 0 0 [] (by simp) (fun j v hj => by simp at hj)) (by simp) rfl (fun j y q e1 => by simp at e1) hS (by simpa using hb1) (by simpa using hb2) (by omega) (Nat.le_refl _)
              simpa using this
            | ro cell hSb hl hc hf hrow hcell ho hh =>
              rename_i b o len cap
              have hcap := hf rfl
              subst hcap; subst hl
              have hyl := flatten_len ys hrow
              have hget : ∀ j u, ((List.range (ys.length * E.size)).map fun j => cell (j / E.size) (j % E.size))[j]? = some u → j < ys.length * E.size ∧ u = cell (j / E.size) (j % E.size) := fun j u hj => by
                have hlt : j < ys.length * E.size := by have := (List.getElem?_eq_some_iff.1 hj).1; simpa using this
                simp [hlt] at hj
                exact ⟨hlt, hj.symm⟩
              have hdm : ∀ j, j < ys.length * E.size → j / E.size < ys.length ∧ j % E.size < E.size := fun j hj => ⟨Nat.div_lt_of_lt_mul (by rw [Nat.mul_comm]; exact hj), Nat.mod_lt _ h0⟩
              refine did_new_own (ty := ty) (cs := ys.flatten) (olds := (List.range (ys.length * E.size)).map fun j => cell (j / E.size) (j % E.size)) hr hfr ht htx hE h0 hzl rfl (fun w' hw' => run_firstCells_some w' _ _ _ _ _ _ (by simp) (fun j u hj => ?_)) (by simp) (by rw [hyl]; simp) (fun j y q e1 e2 => ?_) hS hb1 hb2 (by omega) (Nat.le_refl _)
              · obtain ⟨hlt, rfl⟩ := hget j u hj
                obtain ⟨g1, g2⟩ := hdm j hlt
                rw [Addr_add]
                have := hcell _ _ g1 g2
                rw [show o + j = o + j / E.size * E.size + j % E.size by have := Nat.div_add_mod j E.size; rw [Nat.mul_comm] at this; omega]
                simpa [World.cell?, hw'] using this
              · obtain ⟨hlt, rfl⟩ := hget j q e2
                rw [flatten_get h0 ys j hrow] at e1
                cases hy : ys[j / E.size]? with
                | none => simp [hy] at e1
                | some row => simp only [hy, Option.bind_some] at e1; exact (hh _ _ row y hy e1).up (fun _ hb => hb.elim)
        · cases ha
      · split at ha
        · rename_i hcond
          obtain ⟨hb1, hb2⟩ := hcond
          split at ha
          · rename_i hne
            cases ha
            have hx0 : xs = [] := List.length_eq_zero_iff.1 hne
            subst hx0
            cases hs
            exact ⟨_, w, c, D, append_none (ty := ty) ht htx hE h0 rfl (Nat.le_refl _) (fun _ => rfl) hS, .val _, hr, Ext.refl _ _ _ _, fun b hb => .inl hb⟩
          · rename_i hne
            cases ha
            cases hs
            have := did_new_own (ty := ty) (sLen := 0) (cs := []) (olds := []) hr hfr ht htx hE h0 hzl rfl (fun w' _ => run_firstCells_none w' _ _ _ _) (by simp) rfl (fun j y q e1 => by simp at e1) hS (by simpa using hb1) (by simpa using hb2) (by omega) (Nat.le_refl _)
            simpa using this
        · cases ha
      · cases ha
    · cases ha

theorem did_append {s x : AV} {u v : Value} {r : AV × H} {ty : TypeId} {own : Bool} (hs : R c w D s u) (hx : R c w D x v) (ha : appendA E own h s x = some r) : Did P (Builtin.append_ #[t, tx] ty #[u, v]) c D w h r := by
  obtain ⟨i, z, d, hi, hd, _, hz, hsz, hzc, _, hby⟩ := ti_parts hE
  unfold appendA at ha
  split at ha
  · exact did_appendX hr hfr ht htx hE hs hx ha
  · rename_i f xs hrows
    split at ha
    · rename_i hE0
      obtain ⟨h0, hzl⟩ := hE0
      have hS : SrcOK P c w E.size tx v xs := ⟨src_of h0 htx hx hrows, rows_len (P := P) hx hrows⟩
      have hrl := hS.2
      have hfl := flatten_len xs hrl
      obtain ⟨news, hsrc, hnews, hnl⟩ := hS.1
      have hnn : news.length = xs.length * E.size := hsrc.newsLen
      split at ha
      · rename_i b o len k
        split at ha
        · rename_i cs hcs
          split at ha
          · rename_i hcond
            obtain ⟨rfl, rfl, hcl, hb1, hb2⟩ := hcond
            have main : Did P (Builtin.append_ #[t, tx] ty #[u, v]) c D w h (.sl h.next 0 (len + xs.length) E.size, { next := h.next + 1, get := fun q => if q = h.next then some (cs ++ xs.flatten) else if q = b then none else h.get q, lp := h.lp }) := did_app_sl hr hfr ht htx hE h0 hzl hs hcs hcl hS hb1 hb2
            split at ha
            · cases ha; exact main
            · split at ha
              · rename_i hcc
                cases ha
                have := did_freeze main (cs := cs ++ xs.flatten) (by simp) (by rw [List.length_append, hcl, hfl, Nat.add_mul]) hcc
                obtain ⟨v', w', c', D', p1, p2, p3, p4, p5⟩ := this
                have heq : ({ next := h.next + 1, get := fun q => if q = h.next then none else (if q = h.next then some (cs ++ xs.flatten) else if q = b then none else h.get q), lp := h.lp } : H) = { next := h.next + 1, get := fun q => if q = h.next then none else if q = b then none else h.get q, lp := h.lp } := by
                  congr 1; funext q; by_cases hq : q = h.next <;> simp [hq]
                rw [heq] at p3 p4
                exact ⟨v', w', c', D', p1, p2, p3, p4, p5⟩
              · cases ha
          · exact did_appendX hr hfr ht htx hE hs hx ha
        · cases ha
      · exact did_appendX hr hfr ht htx hE hs hx ha
      · rename_i k ys
        split at ha
        · rename_i hcond
          obtain ⟨rfl, hb1, hb2⟩ := hcond
          split at ha
          · split at ha
            · rename_i hne
              cases ha
              have hx0 : xs = [] := List.length_eq_zero_iff.1 hne
              subst hx0
              cases hs with
              | nil => exact ⟨_, w, c, D, append_none (ty := ty) ht htx hE h0 rfl (Nat.le_refl _) (fun _ => rfl) hS, .nil, hr, Ext.refl _ _ _ _, fun b hb => .inl hb⟩
              | emp => exact ⟨_, w, c, D, append_none (ty := ty) ht htx hE h0 rfl (Nat.le_refl _) (fun h => nomatch h) hS, .emp, hr, Ext.refl _ _ _ _, fun b hb => .inl hb⟩
              | ro cell hSb hl hc hf hrow hcell ho hh => exact ⟨_, w, c, D, append_none (ty := ty) ht htx hE h0 rfl hc (fun h => nomatch h) hS, .ro cell hSb hl hc hf hrow hcell ho hh, hr, Ext.refl _ _ _ _, fun b hb => .inl hb⟩
            · rename_i hne
              cases ha
              cases hs with
              | nil =>
                have := did_new_own (ty := ty) (sLen := 0) (cs := []) (olds := []) hr hfr ht htx hE h0 hzl rfl (fun w' _ => run_firstCells_none w' _ _ _ _) (by simp) rfl (fun j y q e1 => by simp at e1) hS (by simpa using hb1) (by simpa using hb2) (by omega) (Nat.le_refl _)
                simpa using this
              | emp =>
                rename_i a
                have := did_new_own (ty := ty) (sLen := 0) (cs := []) (olds := []) hr hfr ht htx hE h0 hzl rfl (fun w' _ => run_firstCells_some w' E.size 0 a 0 0 [] (by simp) (fun j v hj => by simp at hj)) (by simp) rfl (fun j y q e1 => by simp at e1) hS (by simpa using hb1) (by simpa using hb2) (by omega) (Nat.le_refl _)
                simpa using this
              | ro cell hSb hl hc hf hrow hcell ho hh =>
                rename_i b o len cap
                have hcap := hf rfl
                subst hcap; subst hl
                have hyl := flatten_len ys hrow
                have hget : ∀ j u, ((List.range (ys.length * E.size)).map fun j => cell (j / E.size) (j % E.size))[j]? = some u → j < ys.length * E.size ∧ u = cell (j / E.size) (j % E.size) := fun j u hj => by
                  have hlt : j < ys.length * E.size := by have := (List.getElem?_eq_some_iff.1 hj).1; simpa using this
                  simp [hlt] at hj
                  exact ⟨hlt, hj.symm⟩
                have hdm : ∀ j, j < ys.length * E.size → j / E.size < ys.length ∧ j % E.size < E.size := fun j hj => ⟨Nat.div_lt_of_lt_mul (by rw [Nat.mul_comm]; exact hj), Nat.mod_lt _ h0⟩
                refine did_new_own (ty := ty) (cs := ys.flatten) (olds := (List.range (ys.length * E.size)).map fun j => cell (j / E.size) (j % E.size)) hr hfr ht htx hE h0 hzl rfl (fun w' hw' => run_firstCells_some w' _ _ _ _ _ _ (by simp) (fun j u hj => ?_)) (by simp) (by rw [hyl]; simp) (fun j y q e1 e2 => ?_) hS hb1 hb2 (by omega) (Nat.le_refl _)
                · obtain ⟨hlt, rfl⟩ := hget j u hj
                  obtain ⟨g1, g2⟩ := hdm j hlt
                  rw [Addr_add]
                  have := hcell _ _ g1 g2
                  rw [show o + j = o + j / E.size * E.size + j % E.size by have := Nat.div_add_mod j E.size; rw [Nat.mul_comm] at this; omega]
                  simpa [World.cell?, hw'] using this
                · obtain ⟨hlt, rfl⟩ := hget j q e2
                  rw [flatten_get h0 ys j hrow] at e1
                  cases hy : ys[j / E.size]? with
                  | none => simp [hy] at e1
                  | some row => simp only [hy, Option.bind_some] at e1; exact (hh _ _ row y hy e1).up (fun _ hb => hb.elim)
          · split at ha
            · rename_i hy0
              cases ha
              have hy : ys = [] := List.length_eq_zero_iff.1 hy0
              subst hy
              cases hs with
              | nil => exact did_new_copy (ty := ty) hr ht htx hE h0 hzl rfl .nil hS (by simpa using hb1) (by simpa using hb2)
              | emp => exact did_new_copy (ty := ty) hr ht htx hE h0 hzl rfl .emp hS (by simpa using hb1) (by simpa using hb2)
              | ro cell hSb hl hc hf hrow hcell ho hh =>
                have hcap := hf rfl
                subst hcap; subst hl
                exact did_new_copy (ty := ty) hr ht htx hE h0 hzl rfl (.ro cell hSb rfl (Nat.le_refl _) (by simp) hrow hcell ho hh) hS (by simpa using hb1) (by simpa using hb2)
            · cases ha
        · cases ha
      · split at ha
        · rename_i hcond
          obtain ⟨hb1, hb2⟩ := hcond
          split at ha
          · split at ha
            · rename_i hne
              cases ha
              have hx0 : xs = [] := List.length_eq_zero_iff.1 hne
              subst hx0
              cases hs
              exact ⟨_, w, c, D, append_none (ty := ty) ht htx hE h0 rfl (Nat.le_refl _) (fun _ => rfl) hS, .val _, hr, Ext.refl _ _ _ _, fun b hb => .inl hb⟩
            · rename_i hne
              cases ha
              cases hs
              have := did_new_own (ty := ty) (sLen := 0) (cs := []) (olds := []) hr hfr ht htx hE h0 hzl rfl (fun w' _ => run_firstCells_none w' _ _ _ _) (by simp) rfl (fun j y q e1 => by simp at e1) hS (by simpa using hb1) (by simpa using hb2) (by omega) (Nat.le_refl _)
              simpa using this
          · cases ha
            cases hs
            exact did_new_copy (ty := ty) hr ht htx hE h0 hzl rfl .nil hS hb1 hb2
        · cases ha
      · cases ha
    · cases ha
end

theorem appendX_new {E : TI} {v : H} {s x : AV} {r : AV × H} (h : appendX E v s x = some r) : (∀ b, (r.2.get b).isSome = true → (v.get b).isSome = true ∨ b = v.next) ∧ r.2.next ≤ v.next + 1 ∧ r.2.lp = v.lp ∧
    ∀ b, b ≠ v.next → (∀ b0 o l k, s = .sl b0 o l k → b ≠ b0) → (∀ b0 o l k c, s = .slc b0 o l k c → b ≠ b0) → r.2.get b = v.get b := by
  unfold appendX at h
  split at h
  · cases h
  · split at h
    · split at h
      · rename_i b0 o len k
        split at h
        · rename_i cs hcs
          split at h
          · cases h
            refine ⟨fun b hb => ?_, Nat.le_refl _, rfl, fun b h1 h2 _ => ?_⟩
            · simp only at hb
              split at hb
              · rename_i hbe; exact .inr hbe
              · split at hb
                · simp at hb
                · exact .inl hb
            · simp only
              rw [if_neg h1, if_neg (h2 _ _ _ _ rfl)]
          · cases h
        · cases h
      · rename_i b0 o len k cap
        split at h
        · rename_i cs hcs
          split at h
          · split at h
            · split at h
              · cases h
                refine ⟨fun b hb => ?_, Nat.le_succ _, rfl, fun b _ _ h3 => ?_⟩
                · simp only [H.set] at hb
                  split at hb
                  · rename_i hbe; subst hbe; exact .inl (by simp [hcs])
                  · exact .inl hb
                · simp only [H.set]
                  rw [if_neg (h3 _ _ _ _ _ rfl)]
              · cases h
            · split at h
              · cases h
                refine ⟨fun b hb => ?_, Nat.le_refl _, rfl, fun b h1 _ _ => ?_⟩
                · simp only [H.push] at hb
                  split at hb
                  · rename_i hbe; exact .inr hbe
                  · exact .inl hb
                · simp only [H.push]
                  rw [if_neg h1]
              · cases h
          · cases h
        · cases h
      · split at h
        · split at h
          · cases h; exact ⟨fun b hb => .inl hb, Nat.le_succ _, rfl, fun _ _ _ _ => rfl⟩
          · cases h
            refine ⟨fun b hb => ?_, Nat.le_refl _, rfl, fun b h1 _ _ => ?_⟩
            · simp only [H.push] at hb
              split at hb
              · rename_i hbe; exact .inr hbe
              · exact .inl hb
            · simp only [H.push]
              rw [if_neg h1]
        · cases h
      · split at h
        · split at h
          · cases h; exact ⟨fun b hb => .inl hb, Nat.le_succ _, rfl, fun _ _ _ _ => rfl⟩
          · cases h
            refine ⟨fun b hb => ?_, Nat.le_refl _, rfl, fun b h1 _ _ => ?_⟩
            · simp only [H.push] at hb
              split at hb
              · rename_i hbe; exact .inr hbe
              · exact .inl hb
            · simp only [H.push]
              rw [if_neg h1]
        · cases h
      · cases h
    · cases h

/-- append of made zeros to nothing. -/
def zeroApp (E : TI) (h : H) (s x : AV) : Option (AV × H) :=
  match s, intOf? x with
  | .val (.slice none 0 0), some n => if 0 ≤ n ∧ 0 < E.size ∧ E.zero.length = E.size ∧ n.toNat * E.bytes ≤ 70368744177664 ∧ n.toNat ≤ 70368744177664 then
      (if n = 0 then some (.val (.slice none 0 0), h) else some (.sl h.next 0 n.toNat E.size, h.push (zcells n.toNat E.zero)))
    else none
  | _, _ => none

theorem run_append_zeros {P : Program} (w : World) (t tx ty e : TypeId) (i : TypeInfo) (z : Value) (kk k : IntKind) (ht : P.underlying t = some (.slice e)) (hi : P.info? e = some i) (hz : i.zero = some z) (hkt : P.underlying tx = some (.int kk)) (n : Nat)
    (h0 : 0 < n) (hs : 0 < i.size) (hb1 : n * i.bytes ≤ 70368744177664) (hb2 : n ≤ 70368744177664) :
    (Builtin.append_ #[t, tx] ty #[.slice none 0 0, .int k n]).run P w = .ok (.slice (some ⟨w.heap.size, 0, none⟩) n (grownCap w n 0 e)) (w.drew.alloc (.cells (Builtin.zeroCells z.cells n ++ Builtin.zeroCells z.cells (grownCap w n 0 e - n)) e)) := by
  have hw : IntKind.i64.wrap (n : Int) = n := by rw [IntKind.wrap_i64]; omega
  have hfit := Go.growslice_fits (need := n) (old := 0) (bytes := i.bytes) (by omega) (by omega)
  have hn : n ≠ 0 := by omega
  have hns : i.size ≠ 0 := by omega
  have h63' : ¬ (9223372036854775807 < (n : Int)) := by omega
  have h48 : ¬ (281474976710656 < (n : Int) * i.bytes) := by
    have : (n : Int) * i.bytes = ((n * i.bytes : Nat) : Int) := by simp
    rw [this]; omega
  have h48' : ¬ (281474976710656 < Builtin.nextslicecap n 0 * i.bytes) := by omega
  simp [Builtin.append_, run_underlying ht, run_underlying hkt, sizeOf, typeInfo, zeroValue, hi, hz, asInt, asIntOf, hw, hn, hns, h63', h48, h48', Question.forced, newRow, grownCap, Builtin.firstCells]
  have e1 : ¬ ((n : Int) < 0) := by omega
  have e2 : ¬ (n * i.size = 0) := Nat.ne_of_gt (Nat.mul_pos h0 hs)
  rw [if_neg e1, if_neg e2]

theorem did_zeroApp {P : Program} {c : Cx} {w : World} {h : H} {D : Nat → Prop} (hr : Rel c D h w) (hfr : ¬ D h.next) {t tx e : TypeId} {E : TI} {kk : IntKind} (ht : P.underlying t = some (.slice e)) (htx : P.underlying tx = some (.int kk)) (hE : ti P e = some E)
    {s x : AV} {u v : Value} {r : AV × H} {ty : TypeId} (hs : R c w D s u) (hx : R c w D x v) (ha : zeroApp E h s x = some r) : Did P (Builtin.append_ #[t, tx] ty #[u, v]) c D w h r := by
  obtain ⟨i, z, d, hi, hd, _, hz, hsz, hzc, _, hby⟩ := ti_parts hE
  unfold zeroApp at ha
  split at ha
  · rename_i n hn
    obtain ⟨k, rfl⟩ := intOf?_R hx hn
    cases hs
    split at ha
    · rename_i hcond
      obtain ⟨h0, h1, hzl, hb1, hb2⟩ := hcond
      split at ha
      · rename_i hn0
        subst hn0
        cases ha
        refine ⟨_, w, c, D, ?_, .val _, hr, Ext.refl _ _ _ _, fun b hb => .inl hb⟩
        have hw : IntKind.i64.wrap (0 : Int) = 0 := by rw [IntKind.wrap_i64]; omega
        simp [Builtin.append_, run_underlying ht, run_underlying htx, sizeOf, typeInfo, hi, asInt, asIntOf, hw]
      · rename_i hn0
        cases ha
        have hnn : n = (n.toNat : Int) := by omega
        have hrun := run_append_zeros (P := P) w t tx ty e i z kk k ht hi hz htx n.toNat (by omega) (by omega) (by rw [hby]; exact hb1) hb2
        rw [← hnn] at hrun
        have hcap := grownCap_ge w n.toNat 0 e
        have hzs : z.cells.size = E.size := by rw [← hzl, ← hzc]; simp
        have hCs : (Builtin.zeroCells z.cells n.toNat ++ Builtin.zeroCells z.cells (grownCap w n.toNat 0 e - n.toNat)).size = grownCap w n.toNat 0 e * E.size := by
          rw [Array.size_append, size_zeroCells, size_zeroCells, hzs, ← Nat.add_mul]; congr 1; omega
        obtain ⟨g1, g2⟩ := push_ok (cs := zcells n.toNat E.zero) hr hfr (made_drew w (.cells (Builtin.zeroCells z.cells n.toNat ++ Builtin.zeroCells z.cells (grownCap w n.toNat 0 e - n.toNat)) e (0, 0)))
          (by rw [zcells_len, hzl, hCs]; exact Nat.mul_le_mul_right _ hcap) (fun j x v e1 e2 => by
            have hj : j < n.toNat * E.size := by have := (List.getElem?_eq_some_iff.1 e1).1; rw [zcells_len, hzl] at this; exact this
            have hj2 : j < (Builtin.zeroCells z.cells n.toNat).size := by rw [size_zeroCells, hzs]; exact hj
            rw [Array.getElem?_append_left hj2] at e2
            obtain ⟨u, hu, rfl⟩ := zcells_get e1
            have hlt : j % E.zero.length < z.cells.size := by rw [hzl, hzs]; exact Nat.mod_lt _ (by omega)
            rw [← hzc, Array.getElem?_toList] at hu
            simp only [Array.length_toList] at hu
            simp only [Builtin.zeroCells, Array.getElem?_map, Array.getElem?_range] at e2
            rw [if_pos (by rw [hzs]; exact hj)] at e2
            simp only [Option.map_some, Option.some.injEq] at e2
            simp only [getElem!_def, hu] at e2
            subst e2; exact .val _)
        refine ⟨_, _, _, _, hrun, ?_, g1, g2, addId_bound (Nat.lt_succ_self _)⟩
        have hnew : (w.drew.alloc (.cells (Builtin.zeroCells z.cells n.toNat ++ Builtin.zeroCells z.cells (grownCap w n.toNat 0 e - n.toNat)) e)).heap[w.heap.size]? = some (.cells (Builtin.zeroCells z.cells n.toNat ++ Builtin.zeroCells z.cells (grownCap w n.toNat 0 e - n.toNat)) e (0, 0)) := (made_drew w _).new
        have : R (c.bind h.next w.heap.size) (w.drew.alloc (.cells (Builtin.zeroCells z.cells n.toNat ++ Builtin.zeroCells z.cells (grownCap w n.toNat 0 e - n.toNat)) e)) (addId D h.next) (.sl h.next 0 n.toNat E.size) (.slice (some ⟨(c.bind h.next w.heap.size).φ h.next, 0, none⟩) n.toNat (grownCap w n.toNat 0 e)) :=
          .sl (.inr rfl) hcap _ e (by simpa [Cx.bind] using hnew) (by rw [hCs]; omega)
        have e9 : (c.bind h.next w.heap.size).φ h.next = w.heap.size := by simp [Cx.bind]
        rw [e9] at this
        exact this
    · cases ha
  · cases ha

theorem zeroApp_new {E : TI} {v : H} {s x : AV} {r : AV × H} (h : zeroApp E v s x = some r) : (∀ b, (r.2.get b).isSome = true → (v.get b).isSome = true ∨ b = v.next) ∧ r.2.next ≤ v.next + 1 ∧ r.2.lp = v.lp ∧ ∀ b, b ≠ v.next → r.2.get b = v.get b := by
  unfold zeroApp at h
  split at h
  · split at h
    · split at h
      · cases h; exact ⟨fun b hb => .inl hb, Nat.le_succ _, rfl, fun _ _ => rfl⟩
      · cases h
        refine ⟨fun b hb => ?_, Nat.le_refl _, rfl, fun b h1 => ?_⟩
        · simp only [H.push] at hb
          split at hb
          · rename_i hbe; exact .inr hbe
          · exact .inl hb
        · simp only [H.push]
          rw [if_neg h1]
    · cases h
  · cases h

/-- What an operation with an effect gives, and the heap behind it. 'own': what it appends to a copy of may be written into later. -/
def eop (P : Program) (own : Bool) (o : Oper) (ρ : List AV) (h : H) : Option (AV × H) :=
  match o.op with
  | .alloc t => tyInt2 P t fun T => some (.ptr h.next 0, h.push (T.zero.map .val))
  | .box _ x => match cellsOf (aev ρ x) with
    | some l => some (.ptr h.next 0, h.push l)
    | none => none
  | .store t p x => tyInt2 P t fun T => storeA T h (aev ρ p) (aev ρ x)
  | .buildSlice t n parts => tyInt2 P t fun T => match T.kind with
    | .sl e => tyInt2 P e fun E => buildSliceA own E h n (parts.toList.map fun p => (p.1, aev ρ p.2))
    | _ => none
  | .makeSlice t l c => tyInt2 P t fun T => match T.kind with
    | .sl e => tyInt2 P e fun E => match intOf? (aev ρ l), intOf? (aev ρ c) with
      | some l, some c => makeSliceA E h l c
      | _, _ => none
    | _ => none
  | .call { callee := .builtin .append, args := ⟨[s, x]⟩, argTypes := ⟨[t, tx]⟩ } => tyInt2 P t fun T => tyInt2 P tx fun TX => match T.kind, TX.kind with
    | .sl e, .sl _ => tyInt2 P e fun E => appendA E own h (aev ρ s) (aev ρ x)
    | .sl e, .int _ => tyInt2 P e fun E => zeroApp E h (aev ρ s) (aev ρ x)
    | _, _ => none
  | _ => none

/-- It ran to a value (a store: to none), and what it gave is what is said. -/
def Done (P : Program) (s : Sem Next) (c : Cx) (D : Nat → Prop) (w : World) (h : H) (r : AV × H) : Prop :=
  ∃ v w' c' D', (s.run P w = .ok (.value v) w' ∨ (s.run P w = .ok .skip w' ∧ v = undef)) ∧ R c' w' D' r.1 v ∧ Rel c' D' r.2 w' ∧ Ext D h c w D' c' w' r.2 ∧ ∀ b, D' b → D b ∨ (h.next ≤ b ∧ b < r.2.next)

theorem eop_sound {P : Program} {own : Bool} {o : Oper} {ρ : List AV} {h : H} {c : Cx} {w : World} {a : Act} {r : AV × H} (hx : eop P own o ρ h = some r) {D : Nat → Prop} (hr : Rel c D h w) (hfr : ¬ D h.next) (hρ : RL c w D ρ a.tmps) :
    Done P (execOp a.eval o) c D w h r := by
  have key : ∀ {s : Sem Value} {r : AV × H}, Did P s c D w h r → Done P (do pure (Next.value (← s)) : Sem Next) c D w h r := fun ⟨v, w', c', D', h1, h2, h3, h4, h5⟩ => ⟨v, w', c', D', .inl (by simp [h1]), h2, h3, h4, h5⟩
  unfold eop at hx
  unfold execOp
  split at hx <;> rename_i hop <;> first | (cases hx; done) | (rw [hop]; simp only)
  · obtain ⟨T, hT, hx⟩ := tyInt2_some hx
    cases hx
    exact key (did_alloc hr hfr hT)
  · split at hx
    · rename_i l hl
      cases hx
      exact key (did_box hr hfr (R_aev hρ _) hl)
    · cases hx
  · obtain ⟨T, hT, hx⟩ := tyInt2_some hx
    obtain ⟨v, w', c', D', h1, h2, h3, h4, h5⟩ := did_store hr hT (R_aev hρ _) (R_aev hρ _) hx
    refine ⟨undef, w', c', D', .inr ⟨?_, rfl⟩, ?_, h3, h4, h5⟩
    · simp only [Sem.run_bind] at h1 ⊢
      generalize hg : (Instr.storeAt _ _ _).run P w = g at h1 ⊢
      cases g with
      | ok u w1 => simp at h1 ⊢; exact h1.2
      | halt e w1 => simp at h1
    · unfold storeA at hx
      split at hx
      · split at hx
        · split at hx
          · cases hx; exact .val _
          · cases hx
        · cases hx
      · cases hx
  · rename_i t n parts
    obtain ⟨T, hT, hx⟩ := tyInt2_some hx
    split at hx
    · rename_i e hk
      obtain ⟨E, hE, hx⟩ := tyInt2_some hx
      refine key (did_buildSlice hr hfr hT hk hE (ps := parts.toList.map fun p => (p.1, aev ρ p.2)) (by simp [Function.comp_def]) (fun i x v h1 h2 => ?_) hx)
      simp only [List.map_map, List.getElem?_map, Array.toList_map, Array.getElem?_toList] at h1 h2
      cases hp : parts[i]? with
      | none => simp [hp] at h1
      | some p =>
        simp only [hp, Option.map_some, Function.comp_apply, Option.some.injEq] at h1 h2
        subst h1; subst h2
        exact R_aev hρ _
    · cases hx
  · obtain ⟨T, hT, hx⟩ := tyInt2_some hx
    split at hx
    · rename_i e hk
      obtain ⟨E, hE, hx⟩ := tyInt2_some hx
      split at hx
      · rename_i l m hl hm
        obtain ⟨k1, e1⟩ := intOf?_R (R_aev hρ _) hl
        obtain ⟨k2, e2⟩ := intOf?_R (R_aev hρ _) hm
        rw [e1, e2]
        exact key (did_makeSlice hr hfr hT hk hE hx)
      · cases hx
    · cases hx
  · obtain ⟨T, hT, hx⟩ := tyInt2_some hx
    obtain ⟨TX, hTX, hx⟩ := tyInt2_some hx
    split at hx
    · rename_i e e' hk hk'
      obtain ⟨E, hE, hx⟩ := tyInt2_some hx
      obtain ⟨v, w', c', D', h1, h2, h3, h4, h5⟩ := did_append (ty := o.type) hr hfr (ti_sl hT hk) (ti_sl hTX hk') hE (R_aev hρ _) (R_aev hρ _) hx
      exact ⟨v, w', c', D', .inl (by simp [resolve, invoke, builtin, h1]), h2, h3, h4, h5⟩
    · rename_i e kk hk hk'
      obtain ⟨E, hE, hx⟩ := tyInt2_some hx
      obtain ⟨v, w', c', D', h1, h2, h3, h4, h5⟩ := did_zeroApp (ty := o.type) hr hfr (ti_sl hT hk) (ti_int hTX hk') hE (R_aev hρ _) (R_aev hρ _) hx
      exact ⟨v, w', c', D', .inl (by simp [resolve, invoke, builtin, h1]), h2, h3, h4, h5⟩
    · cases hx

end Go.Pe
