/- What the proofs stand on: DiskMore. -/
import Derived.Deep.RegionHeld3
import Derived.Test.YtomgijcbekjlaaaGreatQ7
namespace Go.Proofs.YtomgijcbekjlaaaGreat
open Go.RowKit
theorem FilesOwn.more {w w3 w4 : World} {E B : Nat} {F : Nat → Prop} {v v4 sl : Value} {Q : List (Bs × Value)} {L : Files} {k : Nat} {n b : Bs} (h : FilesOwn w E B F v Q (L.take k)) (h3 : Turn (fun _ => False) w w3)
    (hb : BytesAt w3 (fun i => F i ∧ v.ownBlock ≠ some i) sl b) (htl : (L.take k).length = k) (hown4 : w4.ownsRow B E 2 v4 (k + 1) (fcells Q ++ fcells [(n, sl)])) (hg4 : w3.grownBy w4 v.ownBlock)
    (hnew : ∀ i, v4.ownBlock = some i → v.ownBlock = some i ∨ i = w3.heap.size) (hf : L[k]? = some (n, b)) : FilesOwn w4 E B F v4 (Q ++ [(n, sl)]) (L.take (k + 1)) := by
  have FO := h.turn h3 (fun _ _ h => h) (fun _ _ h => h)
  have FO4 := FO.grown (Has.one (n := n) hb) (by rw [htl]; exact hown4) hg4 hnew
  have htake : L.take k ++ [(n, b)] = L.take (k + 1) := by rw [List.take_add_one, hf]; rfl
  rw [htake] at FO4
  exact FO4
end Go.Proofs.YtomgijcbekjlaaaGreat
