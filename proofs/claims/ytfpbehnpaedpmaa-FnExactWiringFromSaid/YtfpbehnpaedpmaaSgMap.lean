/- Signs in a map from three elements: the map's reading, the sign of any three (impl's signMap.at). -/
import Derived.Test.YtfpbehnpaedpmaaSgAreImpl
import Derived.Maps.OwnOps
import Derived.Maps.Views
import Derived.DeepKeys4
namespace Go.Proofs.Ytfpbehnpaedpmaa.Sg
open Go.RowKit Pt Go.Maps
/-- What a key reads as. -/
def kl (a b c : Int) : Lit := .string (keyBytes [.int .i64 a, .int .i64 b, .int .i64 c])
end Go.Proofs.Ytfpbehnpaedpmaa.Sg
