/- The signs of some elements: impl.signsOfElements. -/
import Derived.Test.YtfjimdmoindepaaSgPick
namespace Go.Proofs.Ytfjimdmoindepaa.Sg
open Go.RowKit Pt
end Go.Proofs.Ytfjimdmoindepaa.Sg
