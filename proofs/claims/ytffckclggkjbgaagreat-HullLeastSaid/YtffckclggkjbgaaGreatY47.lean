import Derived.Test.YtffckclggkjbgaaGreatY11
import Derived.Test.YtffckclggkjbgaaGreatY19
set_option linter.unusedVariables false
set_option linter.unusedSimpArgs false
/- A call whose contract holds in every heap. -/
namespace Go.Pe
open Go Go.Proofs Go.Proofs.YtffckclggkjbgaaGreat
theorem onCallQ_all {g : Nat} {args : List AV} {h : H} {x : AV} {K : AV → Prop} {t : Tag K} (h1 : ∀ h, Fn Tryz.prog g args h x h) (h2 : K x) : onCallQ Tryz.prog g args h K t := onCallQ_in (h1 h) h2
end Go.Pe
