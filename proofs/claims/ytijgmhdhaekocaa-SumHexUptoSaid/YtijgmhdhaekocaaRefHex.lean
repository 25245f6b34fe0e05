/- The walks of the document's answers for Hex and Unhex. -/
import Derived.Test.YtijgmhdhaekocaaDigits
namespace Go.Proofs.Ytijgmhdhaekocaa
open Go.RowKit
set_option maxHeartbeats 400000 in
theorem refHex_any (s : ByteArray) (w : World) (hs : 2 * s.size ≤ 140737488355328) :
    Calls Try.prog 18 #[.string s] w fun e w' => e = .returned (.string (SL (hexL s.data.toList))) ∧ Below w.heap.size w w' := by
  obtain ⟨i0, hi, hz0, hz1, hz2⟩ := info_parts info5
  go_enter Try.func18, Try.ntmps18
  go_wp2
  go_loopw [3, 4] (fun v i wr => ∃ k : Nat, k ≤ s.size ∧ i = .int .i64 k ∧ wr.ownsRow w.heap.size 5 1 v (2 * k) ((hexL (s.data.toList.take k)).map B8) ∧ Below w.heap.size w wr) (fun _ i _ => s.size - (intOf i).toNat)
  case atStart => exact ⟨0, by omega, rfl, World.ownsRow_nil _ _ _ _, Below.refl _ _⟩
  case round =>
    obtain ⟨k, hk, rfl, hown, hbel⟩ := hrel
    have HO := Lib.hid hown
    clear hown
    by_cases hlt : k < s.size
    · obtain ⟨x, hx⟩ : ∃ x, x = s.data.toList.getD k 0 := ⟨_, rfl⟩
      have hsx : s[k]? = some x := by rw [hx]; exact byte_at s k hlt
      have hi1 := index_string s .i64 k x hsx
      have hd1 : ∀ W, (Instr.index 9 (.string { data := #[48, 49, 50, 51, 52, 53, 54, 55, 56, 57, 97, 98, 99, 100, 101, 102] }) (.int .u8 ((x.toNat : Int) / 16))).run Try.prog W = .ok (.int .u8 ((digitL (x.toNat / 16)).toNat : Int)) W := fun W => by
        have h := digit_at .u8 (x.toNat / 16) (by have := x.toNat_lt; omega) W
        rw [show ((x.toNat / 16 : Nat) : Int) = (x.toNat : Int) / 16 from by omega] at h
        exact h
      have hd2 : ∀ W, (Instr.index 9 (.string { data := #[48, 49, 50, 51, 52, 53, 54, 55, 56, 57, 97, 98, 99, 100, 101, 102] }) (.int .u8 ((x.toNat : Int) % 16))).run Try.prog W = .ok (.int .u8 ((digitL (x.toNat % 16)).toNat : Int)) W := fun W => by
        have h := digit_at .u8 (x.toNat % 16) (by omega) W
        rw [show ((x.toNat % 16 : Nat) : Int) = (x.toNat : Int) % 16 from by omega] at h
        exact h
      have hw1 : IntKind.u8.wrap ((x.toNat : Int) / 16) = (x.toNat : Int) / 16 := IntWalk.u8_in _ (by have := x.toNat_lt; omega)
      have hw3 : (x.toNat : Int).tmod 16 = (x.toNat : Int) % 16 := Int.tmod_eq_emod_of_nonneg (by omega)
      have hw2 : IntKind.u8.wrap ((x.toNat : Int) % 16) = (x.toNat : Int) % 16 := IntWalk.u8_in _ (by omega)
      have HX := Lib.hid hx
      have HSX := Lib.hid hsx
      clear hx hsx
      go_wp2
      go_region_law (refine step_append_own rfl _ _ 22 rfl w.heap.size 5 i0 (.int .u8 0) 1 1 Try.underlying22 hi hz0 hz1 hz2 rfl (by decide) _ (2 * k) _ rfl (HO.out.alloc _) ⟨wr.heap.size, 0, none⟩ 2 2 _ rfl rfl (cells_new _ _ _) (by simp [Value.oneCell']) (by unfold maxLen; omega) (by omega) (by have := hbel.size; simp; omega) ?_; intro v1 w1 HO1 hgrow1)
      all_goals go_wp2
      all_goals go_roundw
      all_goals first
        | (refine ⟨k + 1, by omega, by go_num, ?_, ?_⟩
           · have h := HO1.out
             have e : hexL (s.data.toList.take (k + 1)) = hexL (s.data.toList.take k) ++ hexB x := by rw [hexL_succ _ _ (show k < s.data.toList.length from hlt), HX.out]
             rw [e, List.map_append]
             exact h
           · exact (hbel.alloc hbel.size _).drew.grown hgrow1 (by have := hbel.size; simp; omega) (fun k hk => (HO.out.lt k hk).1))
        | (simp [intOf]; omega)
    · obtain rfl : k = s.size := by omega
      have h := HO.out
      rw [List.take_of_length_le (show s.data.toList.length ≤ s.size from Nat.le_refl _)] at h
      have hl : (hexL s.data.toList).length = 2 * s.size := hexL_length _
      rw [← hl] at h
      have hcv := convert_own h
      clear h hl
      go_wp2
      go_ret
      exact ⟨rfl, hbel⟩
theorem indexByte_at : ∀ (l : List UInt8) (c : UInt8) (p : Nat), Lib.indexByte l c = (p : Int) → l.getD p 0 = c
  | [], c, p, h => by
    have h2 : Lib.indexByte [] c = -1 := rfl
    omega
  | b :: l, c, p, h => by
    unfold Lib.indexByte at h
    by_cases hb : (b == c) = true
    · rw [if_pos hb] at h
      obtain rfl : p = 0 := by omega
      simpa using hb
    · rw [if_neg hb] at h
      have hge := Lib.indexByte_ge l c
      by_cases hm : Lib.indexByte l c = -1
      · rw [hm] at h
        simp at h
      · rw [if_neg (by simpa using hm)] at h
        obtain ⟨q, rfl⟩ : ∃ q, p = q + 1 := ⟨p - 1, by omega⟩
        have h2 : Lib.indexByte l c = (q : Int) := by omega
        rw [List.getD_cons_succ]
        exact indexByte_at l c q h2
set_option maxHeartbeats 400000 in
theorem digit_any (x : UInt8) (w : World) :
    Calls Try.prog 26 #[.int .u8 (x.toNat : Int)] w fun e w' => e = .returned (.int .i64 (dv x)) ∧ w' = w := by
  go_enter Try.func26, Try.ntmps26
  go_wp2
  go_loop [3] (fun i => ∃ k : Nat, k ≤ 16 ∧ i = .int .i64 k ∧ ∀ j, j < k → digitL j ≠ x) (fun i => 16 - (intOf i).toNat)
  case atStart => exact ⟨0, by omega, rfl, fun j hj => absurd hj (Nat.not_lt_zero _)⟩
  case round =>
    obtain ⟨k, hk, rfl, hno⟩ := hrel
    have HNO := Lib.hid hno
    clear hno
    by_cases hlt : k < 16
    · have hd := digit_at .i64 k hlt
      by_cases he : digitL k = x
      · have hv : dv x = (k : Int) := by rw [← he]; exact dv_digit k hlt
        have hb : (((digitL k).toNat : Int) == (x.toNat : Int)) = true := by rw [he]; simp
        have HV := Lib.hid hv
        clear hv he
        go_wp2
        go_ret
        exact ⟨by rw [HV.out]; rfl, rfl⟩
      · have hb : (((digitL k).toNat : Int) == (x.toNat : Int)) = false := by
          rw [beq_eq_false_iff_ne]
          intro h
          exact he (UInt8.toNat_inj.1 (by omega))
        have HE := Lib.hid he
        clear he
        go_wp2
        go_round
        case rel =>
          refine ⟨k + 1, by omega, by go_num, fun j hj => ?_⟩
          by_cases hjk : j = k
          · rw [hjk]; exact HE.out
          · exact HNO.out j (by omega)
        case measure => simp [intOf]; omega
    · have hv : dv x = -1 := by
        rcases dv_cases x with h | ⟨p, hp, h⟩
        · exact h
        · exact absurd (indexByte_at digitsL x p h) (HNO.out p (by omega))
      have HV := Lib.hid hv
      clear hv
      go_wp2
      go_ret
      exact ⟨by rw [HV.out]; rfl, rfl⟩
end Go.Proofs.Ytijgmhdhaekocaa
