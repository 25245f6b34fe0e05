/- What the proofs stand on: RefOpen. -/
import Derived.Deep.LoopGhost
import Derived.Test.YtomgijcbekjlaaaGreatQ30
import Derived.Test.YtomgijcbekjlaaaGreatQ0
namespace Go.Proofs.YtomgijcbekjlaaaGreat
open Go.RowKit
/-- The slice of the call's own and what is still to be read lie in two blocks. -/
def Apart (v : Value) (q : List UInt8) (B : Nat) : Prop := ∀ g, v.ownBlock = some g → 0 < q.length → g ≠ B
theorem Apart.piece {v : Value} {q q' : List UInt8} {B : Nat} (h : Apart v q B) (hq : q'.length ≤ q.length) : Apart v q' B := fun g hg hp => h g hg (by omega)
theorem Apart.next {w : World} {v v' : Value} {q : List UInt8} {B : Nat} (h : Apart v q B) (hB : 0 < q.length → B < w.heap.size) (hv : ∀ k, v'.ownBlock = some k → v.ownBlock = some k ∨ k = w.heap.size) : Apart v' q B := fun g hg hq e => by
  rcases hv g hg with h1 | h1
  · exact h g h1 hq e
  · have := hB hq; omega
theorem Apart.ne {v : Value} {q : List UInt8} {B : Nat} (h : Apart v q B) : 0 < q.length → v.ownBlock ≠ some B := fun hq e => h B e hq rfl
end Go.Proofs.YtomgijcbekjlaaaGreat
