/- The signs of some elements: impl.signsOfElements. -/
import Derived.Test.YtdnbocmfgofhcaaSgPick
namespace Go.Proofs.Ytdnbocmfgofhcaa.Sg
open Go.RowKit Pt
end Go.Proofs.Ytdnbocmfgofhcaa.Sg
