/- The walk of CodeLength. -/
import Derived.Test.YtplhcidfboaobaaAwake
import Derived.Test.YtplhcidfboaobaaRefPut
namespace Go.Proofs.Ytplhcidfboaobaa
open Go.RowKit
theorem numF_bytes (f : Nat) : ∀ (n i : Nat), n < 64 * 128 ^ f → i < (numF f n).length → (128 ≤ ((numF f n).getD i 0).toNat ↔ i + 1 < (numF f n).length) := by
  induction f with
  | zero =>
    intro n i hn hi
    have e : (UInt8.ofNat n).toNat = n := UInt8.toNat_ofNat_of_lt' (by show n < 256; omega)
    simp [numF] at hi ⊢
    subst hi
    simp [e]; omega
  | succ f ih =>
    intro n i hn hi
    rw [numF] at hi ⊢
    split at hi
    · rename_i h
      have e : (UInt8.ofNat n).toNat = n := UInt8.toNat_ofNat_of_lt' (by show n < 256; omega)
      rw [if_pos h]
      simp at hi
      subst hi
      simp [e]; omega
    · rename_i h
      rw [if_neg h]
      have e : (UInt8.ofNat (n % 128 + 128)).toNat = n % 128 + 128 := UInt8.toNat_ofNat_of_lt' (by show _ < 256; omega)
      have hp := numF_pos f (n / 128)
      cases i with
      | zero => simp; omega
      | succ i =>
        have h1 := ih (n / 128) i (by rw [Nat.pow_succ] at hn; omega) (by simpa using hi)
        simp only [List.getD_cons_succ, List.length_cons]
        omega
set_option maxRecDepth 100000 in
set_option maxHeartbeats 800000 in
theorem length_law (n : Int) (w : World) : Calls Try.prog 8 #[.int .i64 n] w fun e w' => e = .returned (.bool true) ∧ Below w.heap.size w w' := by
  obtain ⟨q, hc1, hc2⟩ := clamp_max_min n
  have hcl := clampN_le n
  obtain ⟨m, hm⟩ : ∃ m : Nat, m = clampN n := ⟨_, rfl⟩
  obtain ⟨L, hL⟩ : ∃ L : List UInt8, L = numL m := ⟨_, rfl⟩
  have hput : ∀ W : World, Calls Try.prog 12 #[.slice none 0 0, .int .i64 n] W fun e w' => ∃ ao cap B, e = .returned (.slice ao L.length cap) ∧ SrcAt w' ao cap L B 0 ∧ Below W.heap.size W w' := fun W => by
    refine (putNum_any none 0 [] 0 0 n W (src_nil W) (by decide)).mono fun e w' ⟨v, he, ho, hb⟩ => ?_
    rw [List.nil_append, ← hm, ← hL] at ho
    obtain ⟨ao, cap, B, rfl, hs, _⟩ := src_of_own ho
    exact ⟨ao, cap, B, he, hs, hb⟩
  rw [← hm] at hc2 hcl
  have HL := Lib.hid hL
  have HPUT := Lib.hid hput
  have hl9 : L.length ≤ 9 := by rw [hL]; exact numL_le m
  clear hm hL hput
  obtain ⟨len, hlen⟩ : ∃ len, len = L.length := ⟨_, rfl⟩
  rw [← hlen] at HPUT hl9
  have HLEN := Lib.hid hlen
  clear hlen
  go_enter Try.func8, Try.ntmps8
  go_wp2_with fail
  refine (awake_any _).mono ?_
  rintro e w1 ⟨rfl, b1⟩
  go_wp2_with fail
  refine (HPUT.out _).mono ?_
  rintro e w2 ⟨ao, cap, B, rfl, s2, b2⟩
  have c2 := b1.trans (b2.mono b1.size)
  have S2 := Lib.hid s2
  clear b1 b2 s2
  go_wp2_with fail
  clear hc1 hc2
  go_loop [5, 6] (fun x y => ∃ f k t : Nat, x = .int .i64 (k : Int) ∧ y = .int .i64 (t : Int) ∧ f ≤ 8 ∧ t ≤ 9 ∧ k < 64 * 128 ^ f ∧ (numF f k).length + t = len + 1) (fun x _ => (intOf x).toNat)
  case atStart => exact ⟨8, m, 1, rfl, rfl, by omega, by omega, by omega, by rw [HLEN.out, HL.out]; rfl⟩
  case round =>
    obtain ⟨f, k, t, rfl, rfl, hf, ht, hk, hlen⟩ := hrel
    have HK := Lib.hid hk
    have HE := Lib.hid hlen
    have hkb : (k : Int) ≤ 4611686018427387903 := by
      have h1 : 128 ^ f ≤ 128 ^ 8 := Nat.pow_le_pow_right (by omega) hf
      omega
    clear hk hlen
    by_cases hlt : 128 ≤ k
    · obtain ⟨f', rfl, hmore, hless⟩ := numF_more hlt HK.out
      have ht2 : t + 1 ≤ 9 := by
        have h1 := HE.out
        have h2 := numF_pos f' (k / 128)
        rw [hmore, List.length_cons] at h1
        omega
      have HM := Lib.hid hmore
      have HS := Lib.hid hless
      clear hmore hless
      go_wp2_with fail
      go_round
      case rel => exact ⟨f', k / 128, t + 1, by congr 1, by go_num, by omega, ht2, HS.out, by have h1 := HE.out; rw [HM.out, List.length_cons] at h1; omega⟩
      case measure => simp [intOf]; omega
    · have hlast := numF_last (Nat.lt_of_not_le hlt) HK.out
      have hte : t = len := by have h1 := HE.out; rw [hlast] at h1; simp at h1; omega
      subst hte
      clear hlast HE
      go_wp2_with fail
      go_loop [7] (fun i => ∃ j : Nat, j ≤ t ∧ i = .int .i64 (j : Int)) (fun i => t - (intOf i).toNat)
      case atStart => exact ⟨0, by omega, rfl⟩
      case round =>
        obtain ⟨j, hj, rfl⟩ := hrel
        by_cases hjt : j < t
        · have hjl : j < L.length := by rw [← HLEN.out]; exact hjt
          have hcell := S2.out.cell j hjl
          have hao := S2.out.src (by omega)
          subst hao
          have hb := numF_bytes 8 m j (by omega) (by have := HL.out; rw [show numF 8 m = L from this.symm]; exact hjl)
          rw [show numF 8 m = L from HL.out.symm, ← HLEN.out] at hb
          obtain ⟨c, hc⟩ : ∃ c, c = (L.getD j 0).toNat := ⟨_, rfl⟩
          have hc256 : c < 256 := by rw [hc]; exact (L.getD j 0).toNat_lt
          rw [← hc] at hcell hb
          rw [Nat.zero_add] at hcell
          clear hc hjl
          by_cases hlast : j + 1 < t
          · have hc128 := hb.2 hlast
            have d1 : decide ((128 : Int) ≤ (c : Int)) = true := by simp; omega
            have d2 : decide ((j : Int) + 1 < (t : Int)) = true := by simp; omega
            clear hb
            go_wp2_with fail
            go_round
            case rel => exact ⟨j + 1, by omega, by go_num⟩
            case measure => simp [intOf]; omega
          · have hc128 : c < 128 := by
              have : ¬ 128 ≤ c := fun h => hlast (hb.1 h)
              omega
            have d1 : decide ((128 : Int) ≤ (c : Int)) = false := by simp; omega
            have d2 : decide ((j : Int) + 1 < (t : Int)) = false := by simp; omega
            clear hb
            go_wp2_with fail
            go_round
            case rel => exact ⟨j + 1, by omega, by go_num⟩
            case measure => simp [intOf]; omega
        · obtain rfl : j = t := by omega
          go_wp2_with fail
          go_ret
          exact ⟨rfl, c2⟩
end Go.Proofs.Ytplhcidfboaobaa
