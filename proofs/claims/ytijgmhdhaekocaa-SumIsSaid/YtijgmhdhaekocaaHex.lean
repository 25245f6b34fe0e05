/- The walks of IndexByte, Hex, Unhex. -/
import Derived.Test.YtijgmhdhaekocaaSum
import Derived.Lib.Bytealg
import Derived.Test.YtijgmhdhaekocaaStep
namespace Go.Proofs.Ytijgmhdhaekocaa
open Go.RowKit
def digitsL : List UInt8 := [48, 49, 50, 51, 52, 53, 54, 55, 56, 57, 97, 98, 99, 100, 101, 102]
def digitL (d : Nat) : UInt8 := digitsL.getD d 0
def hexB (x : UInt8) : List UInt8 := [digitL (x.toNat / 16), digitL (x.toNat % 16)]
def hexL (bs : List UInt8) : List UInt8 := bs.flatMap hexB
theorem hexL_length (l : List UInt8) : (hexL l).length = 2 * l.length := by
  induction l with
  | nil => rfl
  | cons x l ih => simp only [hexL, List.flatMap_cons, List.length_append] at *; rw [ih]; simp [hexB]; omega
theorem hexL_succ (l : List UInt8) (k : Nat) (h : k < l.length) : hexL (l.take (k + 1)) = hexL (l.take k) ++ hexB (l.getD k 0) := by
  have e : l.getD k 0 = l[k] := by simp [h]
  rw [List.take_succ_eq_append_getElem h, e, hexL, List.flatMap_append]
  simp [hexL]
def digitsS : ByteArray := { data := #[48, 49, 50, 51, 52, 53, 54, 55, 56, 57, 97, 98, 99, 100, 101, 102] }
theorem digitsS_at (d : Nat) (h : d < 16) : digitsS[d]? = some (digitL d) := by
  have : d = 0 ∨ d = 1 ∨ d = 2 ∨ d = 3 ∨ d = 4 ∨ d = 5 ∨ d = 6 ∨ d = 7 ∨ d = 8 ∨ d = 9 ∨ d = 10 ∨ d = 11 ∨ d = 12 ∨ d = 13 ∨ d = 14 ∨ d = 15 := by omega
  rcases this with rfl | rfl | rfl | rfl | rfl | rfl | rfl | rfl | rfl | rfl | rfl | rfl | rfl | rfl | rfl | rfl <;> rfl
theorem index_string (s : ByteArray) (k : IntKind) (d : Nat) (x : UInt8) (h : s[d]? = some x) (W : World) : (Instr.index 9 (.string s) (.int k (d : Int))).run Try.prog W = .ok (.int .u8 (x.toNat : Int)) W := by
  have h0 : (0 ≤ (d : Int)) := by omega
  simp only [Instr.index, asIntOf, Sem.run_bind, Sem.run_pure, Result.andThen_ok, run_underlying Try.underlying9, if_pos h0, Int.toNat_natCast, h]
theorem digit_at (k : IntKind) (d : Nat) (h : d < 16) (W : World) : (Instr.index 9 (.string { data := #[48, 49, 50, 51, 52, 53, 54, 55, 56, 57, 97, 98, 99, 100, 101, 102] }) (.int k (d : Int))).run Try.prog W = .ok (.int .u8 ((digitL d).toNat : Int)) W :=
  index_string digitsS k d _ (digitsS_at d h) W
theorem and15 (x : UInt8) : bits .and .u8 (x.toNat : Int) 15 = ((x.toNat % 16 : Nat) : Int) := by
  have hx : x.toNat < 256 := x.toNat_lt
  have h := (bits_nat .u8 8 (by decide) (fun n h0 h1 => IntWalk.u8_in n ⟨h0, by omega⟩) x.toNat 15 hx (by omega)).1
  have e := Nat.and_two_pow_sub_one_eq_mod x.toNat 4
  rw [show (15 : Int) = ((15 : Nat) : Int) from rfl, h, show (15 : Nat) = 2 ^ 4 - 1 from rfl, e]
theorem byte_at (s : ByteArray) (k : Nat) (h : k < s.size) : s[k]? = some (s.data.toList.getD k 0) := by
  have h2 : k < s.data.toList.length := h
  rw [getElem?_pos s k h]
  simp only [List.getD, List.getElem?_eq_getElem h2, Option.getD_some]
  rfl
set_option maxHeartbeats 400000 in
theorem hex_any (s : ByteArray) (w : World) (hs : 2 * s.size ≤ 281474976710656) :
    Calls Try.prog 17 #[.string s] w fun e w' => e = .returned (.string (SL (hexL s.data.toList))) ∧ Below w.heap.size w w' := by
  obtain ⟨i0, hi, hz0, hz1, hz2⟩ := info_parts info5
  have hmk : ∀ u : World, (Instr.makeSlice 22 (.int .i64 0) (.int .i64 (2 * (s.size : Int)))).run Try.prog u =
      .ok (.slice (some ⟨u.heap.size, 0, none⟩) 0 (2 * s.size)) (u.alloc (.cells (cells8 (zeros8 (2 * s.size))) 5)) := fun u => by
    have h := run_make (P := Try.prog) u 22 5 i0 (.int .u8 0) Try.underlying22 hi hz0 .i64 .i64 0 (2 * (s.size : Int)) (by omega) (by omega) (by rw [hz2]; omega) (by omega)
    have e2 : (2 * (s.size : Int)).toNat = 2 * s.size := by omega
    rw [e2] at h
    simpa [hz1, Value.cells, made8] using h
  go_enter Try.func17, Try.ntmps17
  go_wp2
  obtain ⟨wx, hwx⟩ : ∃ wx, wx = w.alloc (.cells (cells8 (zeros8 (2 * s.size))) 5) := ⟨_, rfl⟩
  have hown : wx.ownsRow w.heap.size 5 1 (.slice (some ⟨w.heap.size, 0, none⟩) 0 (2 * s.size)) 0 ((hexL (s.data.toList.take 0)).map B8) := by
    rw [hwx]
    exact owns_of_row (heap_alloc_new _ _) (by omega) (by omega) (by unfold maxLen; omega) (by simp [cells8_size, zeros8_length]) (by simp [hexL]) (by simp [hexL])
  have hbel : Below w.heap.size w wx := by rw [hwx]; exact (Below.refl _ _).alloc (Nat.le_refl _) _
  rw [← hwx]
  clear hwx
  have HO := Lib.hid hown
  clear hown
  go_loopw [3, 4, 11] (fun v _ i wr => ∃ k : Nat, k ≤ s.size ∧ i = .int .i64 k ∧ v = .slice (some ⟨w.heap.size, 0, none⟩) (2 * k) (2 * s.size) ∧ wr.ownsRow w.heap.size 5 1 (.slice (some ⟨w.heap.size, 0, none⟩) (2 * k) (2 * s.size)) (2 * k) ((hexL (s.data.toList.take k)).map B8) ∧ Below w.heap.size w wr) (fun _ _ i _ => s.size - (intOf i).toNat)
  case atStart => exact ⟨0, by omega, rfl, rfl, HO.out, hbel⟩
  case round =>
    clear HO hbel
    obtain ⟨k, hk, rfl, rfl, hown, hbel⟩ := hrel
    have HO := Lib.hid hown
    clear hown
    by_cases hlt : k < s.size
    · obtain ⟨x, hx⟩ : ∃ x, x = s.data.toList.getD k 0 := ⟨_, rfl⟩
      have hsx : s[k]? = some x := by
        rw [hx]
        exact byte_at s k hlt
      have hi1 := index_string s .i64 k x hsx
      have hd1 : ∀ W, (Instr.index 9 (.string { data := #[48, 49, 50, 51, 52, 53, 54, 55, 56, 57, 97, 98, 99, 100, 101, 102] }) (.int .u8 ((x.toNat : Int) / 16))).run Try.prog W = .ok (.int .u8 ((digitL (x.toNat / 16)).toNat : Int)) W := fun W => by
        have h := digit_at .u8 (x.toNat / 16) (by have := x.toNat_lt; omega) W
        rw [show ((x.toNat / 16 : Nat) : Int) = (x.toNat : Int) / 16 from by omega] at h
        exact h
      have hd2 : ∀ W, (Instr.index 9 (.string { data := #[48, 49, 50, 51, 52, 53, 54, 55, 56, 57, 97, 98, 99, 100, 101, 102] }) (.int .u8 ((x.toNat : Int) % 16))).run Try.prog W = .ok (.int .u8 ((digitL (x.toNat % 16)).toNat : Int)) W := fun W => by
        have h := digit_at .u8 (x.toNat % 16) (by omega) W
        rw [show ((x.toNat % 16 : Nat) : Int) = (x.toNat : Int) % 16 from by omega] at h
        exact h
      have ha : bits .and .u8 (x.toNat : Int) 15 = (x.toNat : Int) % 16 := by have := and15 x; omega
      have HX := Lib.hid hx
      have HSX := Lib.hid hsx
      clear hx hsx
      go_wp2
      go_region_law (refine step_append_fits rfl _ _ 22 rfl w.heap.size 5 i0 1 Try.underlying22 hi hz1 w.heap.size (2 * k) (2 * s.size) _ rfl (HO.out.alloc _) ⟨wr.heap.size, 0, none⟩ 2 2 _ rfl rfl (cells_new _ _ _) (by simp [Value.oneCell']) (by omega) ?_; intro w1 HO1 hgrow1)
      all_goals go_wp2
      all_goals go_roundw
      all_goals first
        | (refine ⟨k + 1, by omega, by go_num, rfl, ?_, ?_⟩
           · have h := HO1.out
             have e : hexL (s.data.toList.take (k + 1)) = hexL (s.data.toList.take k) ++ hexB x := by rw [hexL_succ _ _ (show k < s.data.toList.length from hlt), HX.out]
             rw [e, List.map_append]
             exact h
           · exact (hbel.alloc hbel.size _).drew.grown hgrow1 (by have := hbel.size; simp; omega) (fun k hk => by cases hk; exact Nat.le_refl _))
        | (simp [intOf]; omega)
    · obtain rfl : k = s.size := by omega
      have h := HO.out
      rw [List.take_of_length_le (show s.data.toList.length ≤ s.size from Nat.le_refl _)] at h
      have hl : (hexL s.data.toList).length = 2 * s.size := hexL_length _
      have hcv := convert_own (w := wr) (base := w.heap.size) (v := .slice (some ⟨w.heap.size, 0, none⟩) (2 * s.size) (2 * s.size)) (bs := hexL s.data.toList) (by rw [hl]; exact h)
      clear h hl
      go_wp2
      go_ret
      exact ⟨rfl, hbel⟩
theorem call30 (s : ByteArray) (c : Int) (w : World) : (callFunc 30 #[.string s, .int .u8 c]).run Try.prog w = .ok (.value (.int .i64 (Lib.indexByte s.data.toList c.toNat.toUInt8))) w := by
  rw [run_callFunc_extern Try.func30 (by kernel_rfl) (by kernel_rfl) (by kernel_rfl) (e := Extern.BytealgIndexByte.indexByte) (by kernel_rfl), Lib.run_indexByteString]
  rfl
set_option maxHeartbeats 400000 in
theorem index_any (s : ByteArray) (c : Int) (w : World) :
    Calls Try.prog 25 #[.string s, .int .u8 c] w fun e w' => e = .returned (.int .i64 (Lib.indexByte s.data.toList c.toNat.toUInt8)) ∧ w' = w := by
  have hx := fun w => call30 s c w
  go_enter Try.func25, Try.ntmps25
  go_wp2
  go_ret
  exact ⟨rfl, rfl⟩
end Go.Proofs.Ytijgmhdhaekocaa
