/- impl.signsBy over a method of a map: the signs that it tells of each three. -/
import Derived.Test.YtfjimdmoindepaaSgBy
namespace Go.Proofs.Ytfjimdmoindepaa.Sg
open Go.RowKit Pt
end Go.Proofs.Ytfjimdmoindepaa.Sg
