/- The walk of awake: the document's examples. -/
import Derived.Test.YtplhcidfboaobaaTake
import Derived.Test.YtplhcidfboaobaaPut
namespace Go.Proofs.Ytplhcidfboaobaa
open Go.RowKit
theorem src_new (w : World) (bs : List UInt8) (hm : bs.length ≤ maxLen) : SrcAt (w.alloc (.cells (cells8 bs) 5)) (some ⟨w.heap.size, 0, none⟩) bs.length bs w.heap.size 0 :=
  ⟨Nat.le_refl _, hm, fun _ => rfl, fun h => by (cases h), fun _ => by simp, fun j hj => by
    rw [Nat.zero_add, cell_of_row _ _ _ _ _ _ (heap_alloc_new w _)]
    simp [cells8, B8, hj]⟩
theorem parse_128 : parse [128, 0] = none := by decide
theorem num_300 : numL (clampN 300) = [172, 2] := by decide
theorem int_m1 : intL (-1) = [1] := by decide
theorem text_ab : numL (ByteArray.size { data := #[97, 98] }) ++ #[(97 : UInt8), 98].toList = [2, 97, 98] := by decide
theorem ex1 (w : World) : Calls Try.prog 18 #[.slice (some ⟨w.heap.size, 0, none⟩) 2 2] (w.alloc (.cells #[.int .u8 128, .int .u8 0] 5)) fun e w' => e = .returned (.tuple #[.int .i64 0, .slice none 0 0, .int .i64 2]) ∧ w' = w.alloc (.cells #[.int .u8 128, .int .u8 0] 5) :=
  takeNum_no _ 2 [128, 0] w.heap.size 0 _ (src_new w [128, 0] (by decide)) (by decide) parse_128
/-- A slice that string() turns into this text. -/
def Says (w : World) (e : Ending) (w' : World) (s : ByteArray) : Prop := ∃ ao n cap, e = .returned (.slice ao n cap) ∧ (∀ W, Below w'.heap.size w' W → (convert 22 9 (.slice ao n cap)).run Try.prog W = .ok (.string s) W) ∧ Below w.heap.size w w'
theorem says_of {w w' : World} {e : Ending} {base : Nat} {l : List UInt8} (h : ∃ v, e = .returned v ∧ w'.ownsRow base 5 1 v l.length (l.map B8) ∧ Below w.heap.size w w') : Says w e w' (SL l) := by
  obtain ⟨v, rfl, ho, hb⟩ := h
  obtain ⟨ao, cap, B, rfl, hs, _⟩ := src_of_own ho
  exact ⟨ao, _, cap, rfl, fun W hW => convert_src (hs.below hW), hb⟩
theorem ex2 (w : World) : Calls Try.prog 12 #[.slice none 0 0, .int .i64 300] w fun e w' => Says w e w' { data := #[172, 2] } := by
  refine (putNum_any none 0 [] 0 0 300 w (src_nil w) (by decide)).mono fun e w' h => ?_
  have h1 := says_of h
  rw [num_300] at h1
  exact h1
theorem ex3 (w : World) : Calls Try.prog 16 #[.slice none 0 0, .int .i64 (-1)] w fun e w' => Says w e w' { data := #[1] } := by
  refine (putInt_any none 0 [] 0 0 (-1) w (src_nil w) (by decide)).mono fun e w' h => ?_
  have h1 := says_of h
  rw [int_m1] at h1
  exact h1
theorem ex4 (w : World) : Calls Try.prog 14 #[.slice none 0 0, .string { data := #[97, 98] }] w fun e w' => Says w e w' { data := #[2, 97, 98] } := by
  refine (putText_any none 0 [] 0 0 { data := #[97, 98] } w (src_nil w) (by decide)).mono fun e w' h => ?_
  have h1 := says_of h
  rw [text_ab] at h1
  exact h1
set_option maxRecDepth 100000 in
set_option maxHeartbeats 800000 in
theorem awake_any (w : World) : Calls Try.prog 10 #[] w fun e w' => e = .returned (.bool true) ∧ Below w.heap.size w w' := by
  go_enter Try.func10, Try.ntmps10
  go_wp2_with fail
  refine (ex1 _).mono ?_
  rintro e w1 ⟨rfl, hw1⟩
  have c1 : Below w.heap.size w w1 := by rw [hw1]; exact (Below.refl _ _).alloc (Nat.le_refl _) _
  clear hw1
  go_wp2_with fail
  refine (ex2 _).mono ?_
  rintro e w2 ⟨ao2, n2, cap2, rfl, cv2, b2⟩
  have c2 := c1.trans (b2.mono c1.size)
  have k2 := cv2 w2 (Below.refl _ _)
  clear cv2 b2
  go_wp2_with fail
  refine (ex3 _).mono ?_
  rintro e w3 ⟨ao3, n3, cap3, rfl, cv3, b3⟩
  have c3 := c2.trans (b3.mono c2.size)
  have k3 := cv3 w3 (Below.refl _ _)
  clear cv3 b3
  go_wp2_with fail
  refine (ex4 _).mono ?_
  rintro e w4 ⟨ao4, n4, cap4, rfl, cv4, b4⟩
  have c4 := c3.trans (b4.mono c3.size)
  have k4 := cv4 w4 (Below.refl _ _)
  clear cv4 b4
  go_wp2_with fail
  go_ret
  exact ⟨rfl, c4⟩
end Go.Proofs.Ytplhcidfboaobaa
