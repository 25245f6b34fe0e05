/- The walk of PressOpens. -/
import Derived.Test.YtjieljmlpbiidaaAwake
import Derived.Test.YtjieljmlpbiidaaRefOpen
import Derived.Test.YtjieljmlpbiidaaSame
namespace Go.Proofs.Ytjieljmlpbiidaa
open Go.RowKit
/-- Both ends of Open, as one: a slice and a number. -/
def OpensTo (w : World) (l : List UInt8) (x : Int) (e : Ending) (w' : World) : Prop := ∃ ao cap B off, e = .returned (.tuple #[.slice ao l.length cap, .int .i64 x]) ∧ SrcAt w' ao cap l B off ∧ Below w.heap.size w w'
theorem opens_of (R : Option (List UInt8)) : ∃ (l : List UInt8) (x : Int), ∀ w e w', Opened w R e w' → OpensTo w l x e w' := by
  cases R with
  | none => exact ⟨[], 2, fun w e w' ⟨h1, h2⟩ => ⟨none, 0, 0, 0, h1, src_nil _, h2⟩⟩
  | some l => exact ⟨l, 0, fun w e w' ⟨ao, cap, B, h1, h2, h3⟩ => ⟨ao, cap, B, 0, h1, h2, h3⟩⟩
theorem opens_min (n : Int) : (if n > 4194304 then (4194304 : Int) else n) = min n 4194304 := by
  by_cases h : n > 4194304
  · rw [if_pos h]; omega
  · rw [if_neg h]; omega
set_option maxRecDepth 100000 in
set_option maxHeartbeats 800000 in
theorem opens_law (ao : Option Addr) (cap : Nat) (bs : List UInt8) (B off : Nat) (most : Int) (w : World) (h : SrcAt w ao cap bs B off) (hs : bs.length ≤ 140737488355328) (_hm : (Lit.int .i64 most).wf = true) :
    Calls Try.prog 4 #[.slice ao bs.length cap, .int .i64 most] w fun e w' => e = .returned (.bool true) ∧ Below w.heap.size w w' := by
  have hmin := opens_min most
  obtain ⟨q, hq⟩ : ∃ q, q = min most 4194304 := ⟨_, rfl⟩
  have hql : q ≤ 4194304 := by omega
  rw [← hq] at hmin
  obtain ⟨l, x, hall⟩ := opens_of (openL bs q)
  have h1 := fun (W : World) (hW : SrcAt W ao cap bs B off) => (open_any ao cap bs B off q W hW (by omega) (fun s k _ hsq => by omega)).mono (hall W)
  have h2 := fun (W : World) (hW : SrcAt W ao cap bs B off) => (refOpen_any ao cap bs B off q W hW hs (fun s k _ hsq => by omega)).mono (hall W)
  obtain ⟨n, hn⟩ : ∃ n, n = bs.length := ⟨_, rfl⟩
  rw [← hn] at h1 h2 ⊢
  have H1 := Lib.hid h1
  have H2 := Lib.hid h2
  obtain ⟨m, hm⟩ : ∃ m, m = l.length := ⟨_, rfl⟩
  have HM := Lib.hid hm
  clear h1 h2 hn hall hq _hm hm
  go_enter Try.func4, Try.ntmps4
  go_wp2_with fail
  refine (awake_any _).mono ?_
  rintro e w1 ⟨rfl, b1⟩
  go_wp2_with fail
  refine (H1.out _ (h.below b1)).mono ?_
  rintro e w2 ⟨a2, c2, B2, o2, rfl, s2, b2⟩
  have e2 := b1.trans (b2.mono b1.size)
  rw [← HM.out]
  clear b1 b2 hmin
  go_wp2_with fail
  refine (H2.out _ (h.below e2)).mono ?_
  rintro e w3 ⟨a3, c3, B3, o3, rfl, s3, b3⟩
  have e3 := e2.trans (b3.mono e2.size)
  have s2 := s2.below b3
  have hsame := same_true _ s2 s3
  rw [← HM.out] at hsame ⊢
  have HSM := Lib.hid hsame
  clear b3 e2 hsame
  go_wp2_with fail
  refine HSM.out.mono ?_
  rintro e w4 ⟨rfl, rfl⟩
  go_wp2_with fail
  go_ret
  exact ⟨rfl, e3⟩
end Go.Proofs.Ytjieljmlpbiidaa
