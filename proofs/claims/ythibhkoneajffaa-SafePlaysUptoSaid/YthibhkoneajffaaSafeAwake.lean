/- awake of the laws of layer 5: the document's example. -/
import Derived.Test.YthibhkoneajffaaSafeSweep
import Derived.Test.YthibhkoneajffaaDiskDuo
namespace Go.Proofs.Ythibhkoneajffaa
open Go.RowKit
/-- make of k bytes. -/
theorem make_zeros (k : Nat) (hk : k ≤ 140737488355328) (W : World) : (Instr.makeSlice 29 (.int .i64 (k : Int)) (.int .i64 (k : Int))).run Try.prog W = .ok (.slice (some ⟨W.heap.size, 0, none⟩) k k) (W.alloc (.cells (cells8 (List.replicate k 0)) 5)) := by
  obtain ⟨i0, hi, hz0, hz1, hz2⟩ := info_parts info5
  rw [run_make (P := Try.prog) W 29 5 i0 (.int .u8 0) Try.underlying29 hi hz0 .i64 .i64 k k (by omega) (Int.le_refl _) (by rw [hz2]; omega) (by omega)]
  rw [Int.toNat_natCast, hz1, Nat.mul_one]
  have e : madeCells (Value.int .u8 0).cells k = cells8 (List.replicate k 0) := zeros_made k
  rw [e]
theorem bytes_made (W : World) (l : Bs) (hm : l.length ≤ maxLen) (Z : Nat → Prop) (hZ : Z W.heap.size) : BytesAt (W.alloc (.cells (cells8 l) 5)) Z (.slice (some ⟨W.heap.size, 0, none⟩) l.length l.length) l :=
  ⟨_, _, _, _, rfl, src_new W l hm, fun _ => hZ⟩
theorem bytes_nil (W : World) (Z : Nat → Prop) : BytesAt W Z (.slice none 0 0) [] := ⟨none, 0, 0, 0, rfl, src_nil W, fun h => absurd h (by simp)⟩
def z80 : Bs := List.replicate 80 0
def awS : St := ⟨[([97], z80)], 100, 4, -1, false⟩
theorem aw_save : saveS (newS 100) [97] z80 = (0, awS) := by kernel_rfl
theorem aw_read : readS awS [97] = (0, z80) := by kernel_rfl
theorem aw_need : needI [97] 80 = 98 := by kernel_rfl
theorem aw_bad : saveS awS [97, 126] [] = (1, awS) := save_bad (.inr (.inr rfl))
set_option maxRecDepth 100000 in
set_option maxHeartbeats 4000000 in
theorem awake_any (w : World) : Calls Try.prog 9 #[] w fun e w' => e = .returned (.bool true) ∧ Below w.heap.size w w' := by
  have HN := one_new w 100 (by omega)
  have g0 : Good (newS 100) := good_new (by omega)
  have g1 : Good awS := by have := g0.save (n := [97]) (b := z80); rw [aw_save] at this; exact this
  go_enter Try.func9, Try.ntmps9
  have hmk : ∀ W : World, (Instr.makeSlice 29 (.int .i64 80) (.int .i64 80)).run Try.prog W = .ok (.slice (some ⟨W.heap.size, 0, none⟩) 80 80) (W.alloc (.cells (cells8 z80) 5)) := make_zeros 80 (by omega)
  go_wp2_with (first | (go_at_call 35; refine HN.mono ?_; rintro e w1 ⟨p, rfl, P0⟩) | (go_at_call 21; fail))
  have hb1 : Below w1.heap.size w1 (w1.alloc (.cells (cells8 z80) 5)) := (Below.refl _ _).alloc (Nat.le_refl _) _
  have h2 := P0.snap hb1
  have hs := save_any h2 g0 (by decide) [97] z80 (by decide) _ (bytes_made w1 z80 (by unfold z80 maxLen; rw [List.length_replicate]; omega) _ (.inr ⟨Nat.le_refl _, by simp⟩)) (by unfold z80; rw [List.length_replicate]; omega)
  rw [aw_save] at hs
  have hback : ∀ w3, One (w1.alloc (.cells (cells8 z80) 5)) (fun k => elder w k ∨ (w1.heap.size ≤ k ∧ k < (w1.alloc (.cells (cells8 z80) 5)).heap.size)) w3 p awS → One w (elder w) w3 p awS := fun w3 h => P0.back hb1 h
  have HS := Lib.hid hs
  have HB := Lib.hid hback
  clear hs hback h2 hb1 HN
  refine HS.out.mono ?_
  rintro e w3 ⟨rfl, h3⟩
  have H3 := Lib.hid (HB.out w3 h3)
  have hneed := fun W => need_any [97] 80 W
  rw [aw_need] at hneed
  have hbad := fun (W : World) (h : One w (elder w) W p awS) => save_any h g1 (by decide) [97, 126] [] (by decide) _ (bytes_nil W _) (by decide)
  rw [aw_bad] at hbad
  have hread := H3.out.read g1 [97]
  rw [aw_read] at hread
  have HRD := Lib.hid hread
  have HBD := Lib.hid hbad
  have HND := Lib.hid hneed
  clear h3 HS HB hneed hbad P0 g0 hread
  go_wp2_with (first
    | (go_at_call 30; refine HRD.out.mono ?_; rintro e w4 ⟨v, rfl, hown, hb4⟩; have H4 := Lib.hid (H3.out.below hb4); obtain ⟨ao, cap, B, rfl, _, _⟩ := src_of_own hown; clear hown hb4)
    | (go_at_call 28; refine (HND.out _).mono ?_; rintro e w' ⟨rfl, rfl⟩)
    | (go_at_call 23; refine H4.out.ops.mono ?_; rintro e w' ⟨rfl, rfl⟩)
    | (go_at_call 21; refine (HBD.out _ H4.out).mono ?_; rintro e w5 ⟨rfl, h5⟩))
  go_ret
  exact ⟨rfl, h5.old⟩
end Go.Proofs.Ythibhkoneajffaa
