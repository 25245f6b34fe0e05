/- A region whose operations read, but for a tail of one forced order: the world keeps its name. No function of the program here. -/
import Derived.Test.YthibhkoneajffaaMem
import Derived.StillTailTactics
import Derived.Sort.Walk0
namespace Go.Proofs.Ythibhkoneajffaa
theorem wp_still_last {P : Program} {id : Nat} {Q : Exit → Act → World → Prop} {a : Act} {w w1 : World} {l : List Oper} (hw : w1 = w.drew) (n : Nat) (hm : P.follows .mixedOrders = true) (hB : Region.lexTailB .any l.toArray n = true)
    (h : wpStill P l.toArray w1 (fun a' => wpList P l.toArray Q (l.drop n) a' w1) (l.take n) a) : (Code.region id l.toArray true).wp P Q a w := by
  subst hw
  exact wp_region_still_tail n hm hB h
theorem SL_toList (l : List UInt8) : (SL l).toList = l := by
  rw [Lib.toList_data]
  rfl
end Go.Proofs.Ythibhkoneajffaa
