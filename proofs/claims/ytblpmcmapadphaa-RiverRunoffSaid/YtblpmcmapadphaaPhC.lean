/- The law RiverRunoff of package river returns true for every catchment and every sky, and leaves its arguments as they were. It has no condition. -/
import Derived.Test.YtblpmcmapadphaaPhB
import Derived.Test.YtblpmcmapadphaaPgN
import Derived.Test.YtblpmcmapadphaaPhO
set_option linter.unusedVariables false
set_option linter.unusedSimpArgs false
namespace Go.Pe
open Go Go.Proofs Go.Proofs.Ytblpmcmapadphaa
theorem rr_law (ys : List AV) (h : TyVs Try.prog 20 [48, 49] ys) : ∃ h', Fn Try.prog 4 ys .nil (.val (.bool true)) h' := by
  obtain ⟨c, sky, rfl, hl⟩ := rr_args h
  unfold maxLen at hl
  refine ⟨.nil, ?_⟩
  by_cases h1 : 100 < sky.length ∧ sky.length ≤ 400 ∨ 450 < sky.length
  · exact rr_skip2 h1 (by omega)
  · have h2 : sky.length ≤ 100 ∨ 400 < sky.length ∧ sky.length ≤ 450 := by omega
    cases hc : validC c with
    | false => exact rr_look (e := 2) h2 rfl (runoff_bad hc) (Catch_bad hc) (fun _ => rfl) (fun h => absurd h (by decide))
    | true =>
      have hg := Catch_good (sky := sky) hc (by omega)
      by_cases h3 : 400 < sky.length
      · have e : rCatch c sky = 5 := by rw [rCatch, if_neg (by simp [hc]), if_pos h3]
        rw [e] at hg
        exact rr_look (e := 5) h2 rfl (runoff_long hc h3 (by omega)) hg (fun _ => rfl) (fun h => absurd h (by decide))
      · cases hs : sky.all validS with
        | false =>
          have e : rCatch c sky = 2 := by rw [rCatch, if_neg (by simp [hc]), if_neg h3, if_pos hs]
          rw [e] at hg
          exact rr_look (e := 2) h2 rfl (runoff_sky hc (by omega) hs) hg (fun _ => rfl) (fun h => absurd h (by decide))
        | true =>
          have e : rCatch c sky = 0 := by rw [rCatch, if_neg (by simp [hc]), if_neg h3, if_neg (by simp [hs])]
          rw [e] at hg
          have hr := runoff_ok (c := c) (sky := sky) (fu := false) hc (by omega) hs
          rw [← rRuns_eq hc] at hr
          exact rr_look (e := 0) (L := .ro false 2 ((rRuns c sky).map fB)) h2 rfl hr hg (fun h => absurd rfl h) (fun _ => ⟨rRunoff_fn (by omega) hc hs, false, rfl⟩)
end Go.Pe
namespace Go.Proofs.Ytblpmcmapadphaa
theorem riverRunoff : Rows.RiverRunoffSaid := holds4 Go.Pe.rr_law
end Go.Proofs.Ytblpmcmapadphaa
