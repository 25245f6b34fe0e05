/- The walk of SumIs. -/
import Derived.Test.YtijgmhdhaekocaaRefSum
import Derived.Test.YtijgmhdhaekocaaKeeps
namespace Go.Proofs.Ytijgmhdhaekocaa
open Go.RowKit
set_option maxHeartbeats 400000 in
theorem is_any (ao : Option Addr) (cap : Nat) (bs : List UInt8) (B off : Nat) (w : World) (h : SrcAt w ao cap bs B off) (hs : bs.length ≤ 140737488351232) :
    Calls Try.prog 3 #[.slice ao bs.length cap] w fun e w' => e = .returned (.bool true) ∧ Below w.heap.size w w' := by
  go_enter Try.func3, Try.ntmps3
  go_wp2_with fail
  refine (awake_any _).mono ?_
  rintro e w1 ⟨rfl, hb1⟩
  have hs1 := h.below hb1
  have hl : (SL (sumL bs)).size = 32 := by rw [SL_size, sumL_length]
  go_wp2_with fail
  refine (sum_src _ hs1 (by omega)).mono ?_
  rintro e w2 ⟨rfl, hb2⟩
  have hs2 := hs1.below hb2
  have hc2 := hb1.trans (hb2.mono hb1.size)
  go_wp2_with fail
  refine (refSum_any ao cap bs B off _ hs2 hs).mono ?_
  rintro e w3 ⟨rfl, hb3⟩
  have hc3 := hc2.trans (hb3.mono hc2.size)
  go_wp2_with fail
  go_ret
  exact ⟨rfl, hc3⟩
end Go.Proofs.Ytijgmhdhaekocaa
