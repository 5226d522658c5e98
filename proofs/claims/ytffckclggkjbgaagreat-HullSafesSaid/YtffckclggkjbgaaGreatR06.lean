import Derived.Test.YtffckclggkjbgaaGreatP07
import Derived.Test.YtffckclggkjbgaaGreatR05
import Derived.Test.YtffckclggkjbgaaGreatR01
import Derived.Test.YtffckclggkjbgaaGreatR03
import Derived.Test.YtffckclggkjbgaaGreatO08
set_option linter.unusedVariables false
set_option linter.unusedSimpArgs false
/- Arguments of the laws RiverShallow, RiverCloses, RiverTruths, RiverEnds, RiverNarrows and RiverKeeps, opened. -/
namespace Go.Pe
open Go Go.Proofs Go.Proofs.YtffckclggkjbgaaGreat
set_option maxRecDepth 100000
/-- A closure of a part of the river. -/
structure Cz where
  from' : Int
  to' : Int
  beg : Bd
  fin : Bd
noncomputable def fC (c : Cz) : List AV := [I c.from', I c.to', I c.beg.lo, I c.beg.hi, I c.fin.lo, I c.fin.hi]
theorem fC_eq {c : Cz} : fC c = [I c.from', I c.to', I c.beg.lo, I c.beg.hi, I c.fin.lo, I c.fin.hi] := rfl
theorem open_ps {n : Nat} {xs : List AV} (h : TyC Tryz.prog (n + 3) 64 xs) : ∃ p : Ps, xs = fPs p := by
  obtain ⟨a, r1, rfl, _, h1, b, r2, rfl, _, h2, rfl⟩ := TyC_at ti77 h
  obtain ⟨a, rfl⟩ := open_i64 h1
  obtain ⟨b, rfl⟩ := open_bd h2
  exact ⟨⟨a, b⟩, rfl⟩
theorem open_way {n : Nat} {xs : List AV} (h : TyC Tryz.prog (n + 4) 55 xs) : ∃ l : List Ps, xs = [.ro false 3 (l.map fPs)] := by
  obtain ⟨rows, rfl, h1, h2⟩ := TyC_at ti75 h
  obtain ⟨l, rfl, _⟩ := rows_map fPs (fun _ => True) (rows := rows) (fun r hr => (open_ps (h2 r hr).2).imp fun _ h => ⟨h, trivial⟩)
  exact ⟨l, by rw [show Tryz.prog.cellsOf 64 = 3 by kernel_rfl]⟩
noncomputable abbrev W16 (n : Int) : AV := .val (.int .u16 n)
end Go.Pe

/- Passages as arguments, opened. -/
namespace Go.Pe
open Go Go.Proofs Go.Proofs.YtffckclggkjbgaaGreat
set_option maxRecDepth 100000
theorem open_pg {n : Nat} {xs : List AV} (h : TyC Tryz.prog (n + 7) 57 xs) : ∃ p : Pg, xs = pgC p false false false := by
  obtain ⟨x1, r1, rfl, _, h1, x2, r2, rfl, _, h2, x3, r3, rfl, _, h3, x4, r4, rfl, _, h4, rfl⟩ := TyC_at tsi57 h
  obtain ⟨r, rfl, _⟩ := open_rv h1
  obtain ⟨s, rfl⟩ := open_sides h2
  obtain ⟨w, rfl⟩ := open_way h3
  obtain ⟨k, rfl⟩ := open_i64 h4
  exact ⟨⟨⟨r, s⟩, w, k⟩, rfl⟩
end Go.Pe

/- The law HullSafes of package hull returns true for every hull, every load, all bounds of the density and every passage. It has no condition. -/
namespace Go.Pe
open Go Go.Proofs Go.Proofs.YtffckclggkjbgaaGreat
set_option maxRecDepth 100000
theorem hs_all (ys : List AV) (h : TyVs Tryz.prog 20 [29, 57] ys) : ∃ h', Fn Tryz.prog 4 ys .nil (.val (.bool true)) h' := by
  obtain ⟨y1, z1, rfl, v1, y2, z2, rfl, v2, rfl⟩ := h
  obtain ⟨x1, rfl, w1⟩ := TyV_st (by kernel_rfl) v1
  obtain ⟨x2, rfl, w2⟩ := TyV_st (by kernel_rfl) v2
  obtain ⟨u, l, b, rfl⟩ := open_loaded w1
  obtain ⟨p, rfl⟩ := open_pg w2
  refine ⟨.nil, ?_⟩
  by_cases hbig : greatF u = true ∨ 20 < l.length ∨ wideF p = true
  · exact hs_big (x := ⟨u, l, b⟩) hbig
  have hg : greatF u = false := Bool.eq_false_iff.2 fun h => hbig (.inl h)
  have hl : l.length ≤ 20 := by have := fun h => hbig (.inr (.inl h)); omega
  have hw : wideF p = false := Bool.eq_false_iff.2 fun h => hbig (.inr (.inr h))
  exact hs_law (x := ⟨u, l, b⟩) (small_ofU hg) hg hl (wok_of hw)
end Go.Pe
namespace Go.Proofs.YtffckclggkjbgaaGreat
theorem hullSafes : Rows.HullSafesSaid := holds4 Go.Pe.hs_all
end Go.Proofs.YtffckclggkjbgaaGreat
