/- What the proofs stand on: SumOpen, RefSumTake, SumApp, RefSum. -/
import Derived.ProofKit
import Derived.SizedLaws
import Derived.Test.YtomgijcbekjlaaaGreatQ5
import Derived.Test.YtomgijcbekjlaaaGreatQ19
import Derived.Deep.RegionHeld3
import Derived.Test.YtomgijcbekjlaaaGreatQ0
import Derived.Laws.OwnMore
namespace Go.Proofs.YtomgijcbekjlaaaGreat
open Go.ChangeShapes Go.WideShapes Go.ChangeAt Go.RowKit
/-- Sum at such a slice. -/
theorem sum_src {ao : Option Addr} {cap : Nat} {bs : List UInt8} {B off : Nat} (w : World) (h : SrcAt w ao cap bs B off) (hlen : bs.length ≤ 281474976710656) :
    Calls Tryz.prog 31 #[.slice ao bs.length cap] w fun e w' => e = .returned (.string (SL (sumL bs))) ∧ Below w.heap.size w w' :=
  sum_any B off cap ao bs w h.src h.le h.top h.cell hlen
set_option maxRecDepth 100000 in
theorem RunAt.below {w w' : World} {g : Nat} {l : List UInt8} (h : RunAt w g l) (hb : Below w.heap.size w w') : RunAt w' g l :=
  let ⟨st, rest, h1, h2⟩ := h; ⟨st, rest, h1, below_heap hb h2⟩
set_option maxRecDepth 100000 in
theorem RunAt.lt {w : World} {g : Nat} {l : List UInt8} (h : RunAt w g l) : g < w.heap.size :=
  let ⟨_, _, _, h2⟩ := h; (Array.getElem?_eq_some_iff.1 h2).1
set_option maxRecDepth 100000 in
theorem RunAt.grown {w w' : World} {g k : Nat} {l : List UInt8} (h : RunAt w g l) (hg : w.grownBy w' (some k)) (hne : g ≠ k) : RunAt w' g l :=
  let ⟨st, rest, h1, h2⟩ := h; ⟨st, rest, h1, grown_heap hg h2 hne⟩
end Go.Proofs.YtomgijcbekjlaaaGreat
namespace Go.Proofs.YtomgijcbekjlaaaGreat
open Go.RowKit
end Go.Proofs.YtomgijcbekjlaaaGreat
namespace Go.Proofs.YtomgijcbekjlaaaGreat
open Go.RowKit
end Go.Proofs.YtomgijcbekjlaaaGreat
namespace Go.Proofs.YtomgijcbekjlaaaGreat
open Go.RowKit
end Go.Proofs.YtomgijcbekjlaaaGreat
