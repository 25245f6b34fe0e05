/- The walk of PutNum. -/
import Derived.Test.YtjieljmlpbiidaaCodeGroups
import Derived.Test.YtjieljmlpbiidaaCodeLayB
namespace Go.Proofs.Ytjieljmlpbiidaa
open Go.RowKit
set_option maxRecDepth 100000 in
set_option maxHeartbeats 800000 in
theorem putNum_any (ao : Option Addr) (cap : Nat) (bs : List UInt8) (B off : Nat) (n : Int) (w : World) (h : SrcAt w ao cap bs B off) (hs : bs.length ≤ 281474976710000) :
    Calls Try.prog 30 #[.slice ao bs.length cap, .int .i64 n] w fun e w' => ∃ v, e = .returned v ∧ w'.ownsRow w.heap.size 5 1 v (bs ++ numL (clampN n)).length ((bs ++ numL (clampN n)).map B8) ∧ Below w.heap.size w w' := by
  have hl := numL_le (clampN n)
  obtain ⟨L, hL⟩ : ∃ L, L = numL (clampN n) := ⟨_, rfl⟩
  have hg : ∀ W : World, Calls Try.prog 41 #[.int .i64 n] W fun e w' => ∃ v, e = .returned v ∧ w'.ownsRow W.heap.size 5 1 v L.length (L.map B8) ∧ Below W.heap.size W w' := by
    rw [hL]; exact groups_any n
  rw [← hL] at hl ⊢
  have HG := Lib.hid hg
  clear hL hg
  go_enter Try.func30, Try.ntmps30
  go_wp2_with fail
  refine (HG.out _).mono ?_
  rintro e w1 ⟨v1, rfl, o1, b1⟩
  obtain ⟨ao2, cap2, B2, rfl, s2, _⟩ := src_of_own o1
  go_wp2_with fail
  have bx : Below w.heap.size w (w1.alloc (.cells #[.slice ao2 L.length cap2] 22)) := b1.alloc b1.size _
  have by1 : Below w1.heap.size w1 (w1.alloc (.cells #[.slice ao2 L.length cap2] 22)) := (Below.refl _ _).alloc (Nat.le_refl _) _
  refine (lay_bytes ao cap bs B off w1.heap.size 1 [L] _ (h.below bx) (by simp) (fun k hk => ?_) (by simp) (by simp; omega)).mono ?_
  · obtain rfl : k = 0 := by simpa using hk
    exact ⟨ao2, cap2, B2, 0, by rw [cell_of_row _ _ _ _ _ _ (heap_alloc_new w1 _)]; rfl, s2.below by1⟩
  · rintro e w3 ⟨v3, rfl, o3, b3⟩
    go_wp2_with fail
    go_ret
    have e1 : bs ++ [L].flatten = bs ++ L := by simp
    rw [e1] at o3
    exact ⟨_, rfl, own_base o3 bx.size, bx.trans (b3.mono bx.size)⟩
end Go.Proofs.Ytjieljmlpbiidaa
