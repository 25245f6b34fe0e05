/- The walk of awake: the document's example. -/
import Derived.Test.YtjieljmlpbiidaaPressOpen
import Derived.Test.YtjieljmlpbiidaaPress
import Derived.Lib.SlBytesConst
namespace Go.Proofs.Ytjieljmlpbiidaa
open Go.RowKit
theorem open_8 : openL [8, 0, 97, 7, 1] 8 = some [97, 97, 97, 97, 97, 97, 97, 97] := by decide
theorem open_7 : openL [8, 0, 97, 7, 1] 7 = none := by decide
theorem press_8 : pressL [97, 97, 97, 97, 97, 97, 97, 97] = [8, 0, 97, 7, 1] := by
  have hl : longest4 [97, 97, 97, 97, 97, 97, 97, 97] 1 = (7, 1) := like_longest 8 97 1 (by omega) (by omega) (by omega)
  unfold pressL
  rw [toks_step (by decide) (by decide), toks_copy (by decide) (by rw [hl]; decide), hl, toks_end (by decide)]
  decide
theorem parse_8 : parse [8, 0, 97, 7, 1] = some (8, 1) := by decide
theorem ex1 (w : World) : Calls Try.prog 14 #[.slice (some ⟨w.heap.size, 0, none⟩) 5 5, .int .i64 8] (w.alloc (.cells #[.int .u8 8, .int .u8 0, .int .u8 97, .int .u8 7, .int .u8 1] 5)) fun e w' =>
    ∃ ao cap, e = .returned (.tuple #[.slice ao 8 cap, .int .i64 0]) ∧ (∀ W, Below w'.heap.size w' W → (convert 22 9 (.slice ao 8 cap)).run Try.prog W = .ok (.string { data := #[97, 97, 97, 97, 97, 97, 97, 97] }) W) ∧ Below w.heap.size w w' := by
  refine (open_any _ 5 [8, 0, 97, 7, 1] w.heap.size 0 8 _ (src_new w [8, 0, 97, 7, 1] (by decide)) (by decide) ?_).mono ?_
  · intro s k hp _
    rw [parse_8] at hp
    simp only [Option.some.injEq, Prod.mk.injEq] at hp
    omega
  · intro e w' ho
    rw [open_8] at ho
    obtain ⟨ao, cap, B, rfl, hs, hb⟩ := ho
    exact ⟨ao, cap, rfl, fun W hW => convert_src (hs.below hW), ((Below.refl _ _).alloc (Nat.le_refl _) _).trans (hb.mono (by simp))⟩
theorem ex2 (w : World) : Calls Try.prog 14 #[.slice (some ⟨w.heap.size, 0, none⟩) 5 5, .int .i64 7] (w.alloc (.cells #[.int .u8 8, .int .u8 0, .int .u8 97, .int .u8 7, .int .u8 1] 5)) fun e w' =>
    e = .returned (.tuple #[.slice none 0 0, .int .i64 2]) ∧ Below w.heap.size w w' := by
  refine (open_any _ 5 [8, 0, 97, 7, 1] w.heap.size 0 7 _ (src_new w [8, 0, 97, 7, 1] (by decide)) (by decide) ?_).mono ?_
  · intro s k hp _
    rw [parse_8] at hp
    simp only [Option.some.injEq, Prod.mk.injEq] at hp
    omega
  · intro e w' ho
    rw [open_7] at ho
    obtain ⟨rfl, hb⟩ := ho
    exact ⟨rfl, ((Below.refl _ _).alloc (Nat.le_refl _) _).trans (hb.mono (by simp))⟩
theorem src_const (w : World) (bs : List UInt8) (fr : Nat × Nat) (hm : bs.length ≤ maxLen) : SrcAt (w.alloc (.cells (cells8 bs) 5 fr)) (some ⟨w.heap.size, 0, none⟩) bs.length bs w.heap.size 0 :=
  ⟨Nat.le_refl _, hm, fun _ => rfl, fun h => by (cases h), fun _ => by simp, fun j hj => by
    rw [Nat.zero_add, cell_of_row _ _ _ _ _ _ (heap_alloc_new w _)]
    simp [cells8, B8, hj]⟩
theorem ex3 (w : World) : Calls Try.prog 12 #[.slice (some ⟨w.heap.size, 0, none⟩) 8 8] (w.alloc (.cells #[.int .u8 97, .int .u8 97, .int .u8 97, .int .u8 97, .int .u8 97, .int .u8 97, .int .u8 97, .int .u8 97] 5 (8, 9))) fun e w' =>
    ∃ ao n cap, e = .returned (.slice ao n cap) ∧ (convert 22 9 (.slice ao n cap)).run Try.prog w' = .ok (.string { data := #[8, 0, 97, 7, 1] }) w' ∧ Below w.heap.size w w' := by
  refine (press_any _ 8 [97, 97, 97, 97, 97, 97, 97, 97] w.heap.size 0 _ (src_const w [97, 97, 97, 97, 97, 97, 97, 97] (8, 9) (by decide)) (by decide)).mono ?_
  intro e w' hp
  rw [press_8] at hp
  obtain ⟨v, rfl, ho, hb⟩ := hp
  obtain ⟨ao, cap, B, rfl, hs, _⟩ := src_of_own ho
  exact ⟨ao, _, cap, rfl, convert_src hs, ((Below.refl _ _).alloc (Nat.le_refl _) _).trans (hb.mono (by simp))⟩
set_option maxRecDepth 100000 in
set_option maxHeartbeats 800000 in
theorem awake_any (w : World) : Calls Try.prog 10 #[] w fun e w' => e = .returned (.bool true) ∧ Below w.heap.size w w' := by
  have kc := fun (w : World) (C : Array Value) (n c : Nat) => Lib.run_convert_bytes_const (P := Try.prog) w 22 5 C n c Try.underlying22 Try.underlying5
  go_enter Try.func10, Try.ntmps10
  go_wp2_with fail
  refine (ex1 _).mono ?_
  rintro e w1 ⟨ao1, cap1, rfl, cv1, b1⟩
  go_wp2_with fail
  refine (ex2 _).mono ?_
  rintro e w2 ⟨rfl, b2⟩
  have c2 := b1.trans (b2.mono b1.size)
  have hz2 := b2.size
  have d2 := b2
  clear b2
  go_wp2_with fail
  refine (ex3 _).mono ?_
  rintro e w3 ⟨ao3, n3, cap3, rfl, cv3, b3⟩
  have c3 := c2.trans (b3.mono c2.size)
  have k1 := cv1 w3 (d2.trans (b3.mono hz2))
  clear cv1 b3 d2
  go_wp2_with fail
  go_ret
  exact ⟨rfl, c3⟩
end Go.Proofs.Ytjieljmlpbiidaa
