/- What the proofs stand on: RefEncode. -/
import Derived.Deep.RegionHeld3
import Derived.Test.YtomgijcbekjlaaaGreatQ9
namespace Go.Proofs.YtomgijcbekjlaaaGreat
open Go.RowKit
end Go.Proofs.YtomgijcbekjlaaaGreat
