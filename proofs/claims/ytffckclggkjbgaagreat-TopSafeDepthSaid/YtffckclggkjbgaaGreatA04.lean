import Derived.Test.YtffckclggkjbgaaGreatY11
import Derived.Test.YtffckclggkjbgaaGreatY19
set_option linter.unusedVariables false
set_option linter.unusedSimpArgs false
/- A call whose contract holds in every heap; the second row of a read-only slice. -/
namespace Go.Pe
open Go Go.Proofs Go.Proofs.YtffckclggkjbgaaGreat
theorem onCallQ_eve {g : Nat} {args : List AV} {h : H} {x : AV} {K : AV → Prop} {t : Tag K} (h1 : ∀ h, Fn Tryz.prog g args h x h) (h2 : K x) : onCallQ Tryz.prog g args h K t := onCallQ_in (h1 h) h2
theorem indexA_one {T E : TI} {e : TypeId} {f : Bool} {k : Nat} {xs : List (List AV)} (hk : T.kind = .sl e) (hE : k = E.size) : indexA T E (.ro f k xs) 1 = (xs[1]?).map AV.rop := indexA_ro (n := 1) hk hE
end Go.Pe
