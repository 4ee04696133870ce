/- Whether a value may stand in a column, given and landed. -/
import Derived.Test.YtmcjchaokpcomaaVs
import Derived.Test.YtmcjchaokpcomaaValOk
namespace Go.Proofs.Ytmcjchaokpcomaa
open Go.ChangeShapes Go.WideShapes Go.ChangeAt Go.RowKit

/-- Whether a value may stand in a column. -/
def fitsB (c : Cl) (v : Vc) : Bool := okB v.ty v.n v.s && (if v.ty = 0 then !c.nt else v.ty == c.ty)

end Go.Proofs.Ytmcjchaokpcomaa
