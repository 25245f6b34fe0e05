/- The walk of PressPresses. -/
import Derived.Test.YtjieljmlpbiidaaAwake
import Derived.Test.YtjieljmlpbiidaaRefPress
import Derived.Test.YtjieljmlpbiidaaSame
namespace Go.Proofs.Ytjieljmlpbiidaa
open Go.RowKit
set_option maxRecDepth 100000 in
set_option maxHeartbeats 800000 in
theorem presses_law (ao : Option Addr) (cap : Nat) (bs : List UInt8) (B off : Nat) (w : World) (h : SrcAt w ao cap bs B off) (hs : bs.length ≤ 140737488355328) :
    Calls Try.prog 3 #[.slice ao bs.length cap] w fun e w' => e = .returned (.bool true) ∧ Below w.heap.size w w' := by
  have hp := fun (W : World) (hW : SrcAt W ao cap bs B off) => press_any ao cap bs B off W hW hs
  have hr := fun (W : World) (hW : SrcAt W ao cap bs B off) => refPress_any ao cap bs B off W hW hs
  obtain ⟨L, hL⟩ : ∃ L, L = pressL bs := ⟨_, rfl⟩
  rw [← hL] at hp hr
  obtain ⟨n, hn⟩ : ∃ n, n = bs.length := ⟨_, rfl⟩
  rw [← hn] at hp hr ⊢
  have HP := Lib.hid hp
  have HR := Lib.hid hr
  clear hp hr hL hn hs
  go_enter Try.func3, Try.ntmps3
  go_wp2_with fail
  refine (awake_any _).mono ?_
  rintro e w1 ⟨rfl, b1⟩
  go_wp2_with fail
  refine (HP.out _ (h.below b1)).mono ?_
  rintro e w2 ⟨v2, rfl, o2, b2⟩
  have e2 := b1.trans (b2.mono b1.size)
  obtain ⟨a2, c2, B2, rfl, s2, _⟩ := src_of_own o2
  clear o2
  go_wp2_with fail
  refine (HR.out _ (h.below e2)).mono ?_
  rintro e w3 ⟨a3, c3, B3, o3, rfl, s3, b3⟩
  have e3 := e2.trans (b3.mono e2.size)
  have s2 := s2.below b3
  clear b2 b3 e2 b1
  go_wp2_with fail
  refine (same_true _ s2 s3).mono ?_
  rintro e w4 ⟨rfl, rfl⟩
  go_wp2_with fail
  go_ret
  exact ⟨rfl, e3⟩
end Go.Proofs.Ytjieljmlpbiidaa
