/- The walk of SumDigits, and the digits' laws. -/
import Derived.Test.YtijgmhdhaekocaaAwake
namespace Go.Proofs.Ytijgmhdhaekocaa
open Go.RowKit
theorem dv_digit (d : Nat) (h : d < 16) : dv (digitL d) = (d : Int) := by
  have : d = 0 ∨ d = 1 ∨ d = 2 ∨ d = 3 ∨ d = 4 ∨ d = 5 ∨ d = 6 ∨ d = 7 ∨ d = 8 ∨ d = 9 ∨ d = 10 ∨ d = 11 ∨ d = 12 ∨ d = 13 ∨ d = 14 ∨ d = 15 := by omega
  rcases this with rfl | rfl | rfl | rfl | rfl | rfl | rfl | rfl | rfl | rfl | rfl | rfl | rfl | rfl | rfl | rfl <;> decide
theorem digit_range (d : Nat) (h : d < 16) : (48 ≤ (digitL d).toNat ∧ (digitL d).toNat ≤ 57) ∨ (97 ≤ (digitL d).toNat ∧ (digitL d).toNat ≤ 102) := by
  have : d = 0 ∨ d = 1 ∨ d = 2 ∨ d = 3 ∨ d = 4 ∨ d = 5 ∨ d = 6 ∨ d = 7 ∨ d = 8 ∨ d = 9 ∨ d = 10 ∨ d = 11 ∨ d = 12 ∨ d = 13 ∨ d = 14 ∨ d = 15 := by omega
  rcases this with rfl | rfl | rfl | rfl | rfl | rfl | rfl | rfl | rfl | rfl | rfl | rfl | rfl | rfl | rfl | rfl <;> decide
/-- There and back. -/
theorem unhex_hex : ∀ l : List UInt8, unhexL (hexL l) = some l
  | [] => rfl
  | x :: l => by
    have hx : x.toNat < 256 := x.toNat_lt
    have e : hexL (x :: l) = digitL (x.toNat / 16) :: digitL (x.toNat % 16) :: hexL l := rfl
    rw [e, unhexL, dv_digit _ (by omega), dv_digit _ (by omega), if_neg (by omega), unhex_hex l]
    have e2 : UInt8.ofNat (16 * (((x.toNat / 16 : Nat) : Int)).toNat + (((x.toNat % 16 : Nat) : Int)).toNat) = x := by
      rw [Int.toNat_natCast, Int.toNat_natCast, show 16 * (x.toNat / 16) + x.toNat % 16 = x.toNat by omega, UInt8.ofNat_toNat]
    simp only [Option.map_some, e2]
theorem hexL_range (l : List UInt8) : ∀ x ∈ hexL l, (48 ≤ x.toNat ∧ x.toNat ≤ 57) ∨ (97 ≤ x.toNat ∧ x.toNat ≤ 102) := by
  intro x hx
  obtain ⟨y, _, hy⟩ := List.mem_flatMap.1 hx
  have hb : y.toNat < 256 := y.toNat_lt
  simp only [hexB, List.mem_cons, List.not_mem_nil, or_false] at hy
  rcases hy with rfl | rfl
  · exact digit_range _ (by omega)
  · exact digit_range _ (by omega)
theorem unhex_more1 (l : List UInt8) : unhexL (hexL l ++ [48]) = none := unhexL_odd _ (by rw [List.length_append, hexL_length]; simp)
theorem unhex_more2 (l : List UInt8) : unhexL (hexL l ++ [48, 103]) = none := by
  rw [unhexL_append _ _ _ (unhex_hex l)]
  have : unhexL [48, 103] = none := by decide
  rw [this]
  rfl
set_option maxHeartbeats 400000 in
theorem digits_any (s : ByteArray) (w : World) (hs : s.size ≤ 140737488351232) :
    Calls Try.prog 8 #[.string s] w fun e w' => e = .returned (.bool true) ∧ Below w.heap.size w w' := by
  go_enter Try.func8, Try.ntmps8
  go_wp2_with fail
  refine (awake_any _).mono ?_
  rintro e w1 ⟨rfl, hb1⟩
  go_wp2_with fail
  refine (hex_any _ _ (by omega)).mono ?_
  rintro e w2 ⟨rfl, hb2⟩
  have hb := hb1.trans (hb2.mono hb1.size)
  obtain ⟨h, hh⟩ : ∃ h, h = SL (hexL s.data.toList) := ⟨_, rfl⟩
  have hd : h.data.toList = hexL s.data.toList := by rw [hh]; rfl
  have hsz : h.size = 2 * s.size := by rw [hh, SL_size, hexL_length]; rfl
  rw [← hh]
  have HH := Lib.hid hh
  have HD := Lib.hid hd
  have HSZ := Lib.hid hsz
  have hle : h.size ≤ 281474976702464 := by omega
  clear hh hd hsz hb1 hb2
  go_wp2_with fail
  go_loop [5] (fun i => ∃ k : Nat, k ≤ h.size ∧ i = .int .i64 k) (fun i => h.size - (intOf i).toNat)
  case atStart => exact ⟨0, by omega, rfl⟩
  case round =>
    obtain ⟨k, hk, rfl⟩ := hrel
    by_cases hlt : k < h.size
    · obtain ⟨x, hx⟩ : ∃ x, x = h.data.toList.getD k 0 := ⟨_, rfl⟩
      have hi1 := index_string h .i64 k x (by rw [hx]; exact byte_at h k hlt)
      have hr : (48 ≤ x.toNat ∧ x.toNat ≤ 57) ∨ (97 ≤ x.toNat ∧ x.toNat ≤ 102) := by
        refine hexL_range s.data.toList x ?_
        rw [← HD.out, hx]
        have h2 : k < h.data.toList.length := hlt
        simp only [List.getD, List.getElem?_eq_getElem h2, Option.getD_some]
        exact List.getElem_mem h2
      clear hx
      rcases hr with ⟨r1, r2⟩ | ⟨r1, r2⟩
      · have d1 : decide ((x.toNat : Int) < 48) = false := by simp; omega
        have d2 : decide ((57 : Int) < (x.toNat : Int)) = false := by simp; omega
        go_wp2
        go_round
        case rel => exact ⟨k + 1, by omega, by go_num⟩
        case measure => simp [intOf]; omega
      · have d1 : decide ((x.toNat : Int) < 48) = false := by simp; omega
        have d2 : decide ((57 : Int) < (x.toNat : Int)) = true := by simp; omega
        have d3 : decide ((x.toNat : Int) < 97) = false := by simp; omega
        have d4 : decide ((102 : Int) < (x.toNat : Int)) = false := by simp; omega
        go_wp2
        go_round
        case rel => exact ⟨k + 1, by omega, by go_num⟩
        case measure => simp [intOf]; omega
    · have u1 : ∀ W, Calls Try.prog 15 #[.string (h ++ { data := #[48] })] W fun e w' => e = .returned (.tuple #[.string (SL []), .int .i64 1]) ∧ Below W.heap.size W w' := fun W =>
        (unhex_any _ W (by rw [ByteArray.size_append]; have : ({ data := #[48] } : ByteArray).size = 1 := rfl; omega)).mono fun _ _ hq => ⟨hq.1.trans (congrArg Ending.returned (unhexV_none (by rw [ByteArray.data_append, Array.toList_append, HD.out]; exact unhex_more1 _))), hq.2⟩
      have u2 : ∀ W, Calls Try.prog 15 #[.string (h ++ { data := #[48, 103] })] W fun e w' => e = .returned (.tuple #[.string (SL []), .int .i64 1]) ∧ Below W.heap.size W w' := fun W =>
        (unhex_any _ W (by rw [ByteArray.size_append]; have : ({ data := #[48, 103] } : ByteArray).size = 2 := rfl; omega)).mono fun _ _ hq => ⟨hq.1.trans (congrArg Ending.returned (unhexV_none (by rw [ByteArray.data_append, Array.toList_append, HD.out]; exact unhex_more2 _))), hq.2⟩
      have hbe : ((h.size : Int) == 2 * (s.size : Int)) = true := by have := HSZ.out; rw [beq_iff_eq]; omega
      have U1 := Lib.hid u1
      have U2 := Lib.hid u2
      clear u1 u2
      go_wp2_with fail
      refine (U1.out _).mono ?_
      rintro e w3 ⟨rfl, hb3⟩
      go_wp2_with fail
      refine (U2.out _).mono ?_
      rintro e w4 ⟨rfl, hb4⟩
      go_wp2_with fail
      go_ret
      have hc := hb.trans (hb3.mono hb.size)
      exact ⟨rfl, hc.trans (hb4.mono hc.size)⟩
end Go.Proofs.Ytijgmhdhaekocaa
