/- The walk of number (package code). -/
import Derived.Test.YtjieljmlpbiidaaMem
import Derived.Test.YtjieljmlpbiidaaCodeNum
import Derived.WalkMore
namespace Go.Proofs.Ytjieljmlpbiidaa
open Go.RowKit
/-- What number answers. -/
def numV (bs : List UInt8) : Value := match parse bs with
  | some p => .tuple #[.int .i64 (p.1 : Int), .int .i64 (p.2 : Int)]
  | none => .tuple #[.int .i64 0, .int .i64 0]
theorem numV_none {bs : List UInt8} (h : parse bs = none) : numV bs = .tuple #[.int .i64 0, .int .i64 0] := by unfold numV; rw [h]
theorem numV_some {bs : List UInt8} {n k : Nat} (h : parse bs = some (n, k)) : numV bs = .tuple #[.int .i64 (n : Int), .int .i64 (k : Int)] := by unfold numV; rw [h]
set_option maxRecDepth 100000 in
set_option maxHeartbeats 800000 in
theorem number_any (ao : Option Addr) (cap : Nat) (bs : List UInt8) (B off : Nat) (w : World) (h : SrcAt w ao cap bs B off) (hs : bs.length ≤ 281474976710656) :
    Calls Try.prog 42 #[.slice ao bs.length cap] w fun e w' => e = .returned (numV bs) ∧ w' = w := by
  obtain ⟨n, hbn⟩ : ∃ n, n = bs.length := ⟨_, rfl⟩
  rw [← hbn] at hs ⊢
  have HB := Lib.hid hbn
  clear hbn
  go_enter Try.func42, Try.ntmps42
  go_wp2
  go_step3
  go_wp2
  go_step3
  go_wp2
  go_loop [2, 8] (fun v i => ∃ k x : Nat, k ≤ n ∧ k ≤ 8 ∧ i = .int .i64 k ∧ v = .int .i64 x ∧ Behind bs k x) (fun _ i => n - (intOf i).toNat)
  case atStart => exact ⟨0, 0, by omega, by omega, rfl, rfl, behind_zero bs⟩
  case round =>
    obtain ⟨k, x, hk, hk8, rfl, rfl, hbe⟩ := hrel
    have HBE := Lib.hid hbe
    clear hbe
    by_cases hlt : k < n
    · have hltb : k < bs.length := by rw [← HB.out]; exact hlt
      have hcell := h.cell k hltb
      have hao := h.src (by omega)
      obtain ⟨c, hc⟩ : ∃ c : Nat, c = (bs.getD k 0).toNat := ⟨_, rfl⟩
      have hc256 : c < 256 := by rw [hc]; exact (bs.getD k 0).toNat_lt
      rw [← hc] at hcell
      have HC := Lib.hid hc
      subst hao
      have hbl : k < bs.length := hltb
      obtain ⟨y, hy⟩ : ∃ y : Nat, y = c % 128 * 128 ^ k := ⟨_, rfl⟩
      obtain ⟨s1, s2⟩ := shl_val k (c % 128) hk8 (by omega)
      rw [← hy] at s1 s2
      have hxb : (x : Int) ≤ 72057594037927935 := by
        have h1 := HBE.out.lt
        have h2 : 128 ^ k ≤ 128 ^ 8 := Nat.pow_le_pow_right (by omega) hk8
        omega
      have hw1 : wrap64 ((c : Int) % 128 * 2 ^ (7 * k)) = (y : Int) := by
        rw [show (c : Int) % 128 = ((c % 128 : Nat) : Int) from by omega, s2]
        exact IntWalk.wrap64_in _ ⟨by omega, by omega⟩
      have hy0 : 0 ≤ (y : Int) := by omega
      have hy1 : (y : Int) ≤ 9151314442816847872 := s1
      have HY := Lib.hid hy
      have hks : (0 : Int) ≤ 7 * (k : Int) ∧ 7 * (k : Int) ≤ 64 := by omega
      clear hc hltb s1 s2 hy
      have hkb : k < bs.length := by rw [← HB.out]; exact hlt
      have HKB := Lib.hid hkb
      clear hkb
      by_cases hbad : k = 8 ∧ 63 < c
      · obtain ⟨h8, h63⟩ := hbad
        have b8 : ((k : Int) == 8) = true := by simp; omega
        have hv : numV bs = .tuple #[.int .i64 0, .int .i64 0] := by
          unfold numV
          rw [behind_bad HBE.out HKB.out h8 (by rw [← HC.out]; exact h63)]
        have HV := Lib.hid hv
        have h63' : (63 : Int) < (c : Int) := by omega
        clear hv h8
        go_wp2_with fail
        go_ret2
        exact ⟨by rw [HV.out]; rfl, rfl⟩
      · have hg : (decide ((63 : Int) < (c : Int)) && ((k : Int) == 8)) = false := by
          by_cases h8 : k = 8
          · have : ¬ 63 < c := fun h => hbad ⟨h8, h⟩
            simp; intro h; omega
          · have : ((k : Int) == 8) = false := by simp; omega
            rw [this, Bool.and_false]
        by_cases hmore : 128 ≤ c
        · have h8 : k < 8 := by omega
          have b8 : ((k : Int) == 8) = false := by simp; omega
          have hnext := behind_more HBE.out HKB.out h8 (by rw [← HC.out]; exact hmore)
          rw [← HC.out, ← HY.out] at hnext
          have HN := Lib.hid hnext
          clear hbad hg hnext
          go_wp2_with fail
          go_round
          case rel => exact ⟨k + 1, x + y, by omega, by omega, by go_num, by go_num, HN.out⟩
          case measure => simp [intOf]; omega
        · have h63 : k = 8 → c ≤ 63 := fun h => by
            have : ¬ 63 < c := fun h1 => hbad ⟨h, h1⟩
            omega
          by_cases hno : c = 0 ∧ 0 < k
          · obtain ⟨hc0, hk0⟩ := hno
            have hv : numV bs = .tuple #[.int .i64 0, .int .i64 0] := by
              unfold numV
              rw [behind_nought HBE.out HKB.out hk8 hk0 (by rw [← HC.out]; exact hc0)]
            have HV := Lib.hid hv
            have b0 : ((c : Int) == 0) = true := by simp; omega
            have hle : ¬ (63 : Int) < (c : Int) := by omega
            clear hv hbad hg h63 hc0
            by_cases h8 : k = 8
            · have b8 : ((k : Int) == 8) = true := by simp; omega
              clear h8
              go_wp2_with fail
              go_ret2
              exact ⟨by rw [HV.out]; rfl, rfl⟩
            · have b8 : ((k : Int) == 8) = false := by simp; omega
              go_wp2_with fail
              go_ret2
              exact ⟨by rw [HV.out]; rfl, rfl⟩
          · have hv : numV bs = .tuple #[.int .i64 ((x + y : Nat) : Int), .int .i64 ((k + 1 : Nat) : Int)] := by
              unfold numV
              rw [behind_done HBE.out HKB.out hk8 (fun h => by rw [← HC.out]; exact h63 h) (by rw [← HC.out]; omega) (fun h => by rw [← HC.out]; intro h1; exact hno ⟨h1, h⟩), ← HC.out, ← HY.out]
            have HV := Lib.hid hv
            have fin : Value.tuple #[.int .i64 ((x : Int) + (y : Int)), .int .i64 ((k : Int) + 1)] = numV bs := by
              rw [hv]
              congr 1
            have HF := Lib.hid fin
            clear hv fin
            by_cases h8 : k = 8
            · have b8 : ((k : Int) == 8) = true := by simp; omega
              have hle : ¬ (63 : Int) < (c : Int) := by have := h63 h8; omega
              have hc0 : c ≠ 0 := fun h => hno ⟨h, by omega⟩
              have b0 : ((c : Int) == 0) = false := by simp; omega
              clear h8 hno h63 hbad hg
              go_wp2_with fail
              go_ret2
              exact ⟨by rw [← HF.out]; rfl, rfl⟩
            · have b8 : ((k : Int) == 8) = false := by simp; omega
              by_cases hc0 : c = 0
              · have hk0 : ¬ 0 < k := fun h => hno ⟨hc0, h⟩
                have b0 : ((c : Int) == 0) = true := by simp; omega
                have hlk : ¬ (0 : Int) < (k : Int) := by omega
                clear hno h63 hbad hg hc0
                go_wp2_with fail
                go_ret2
                exact ⟨by rw [← HF.out]; rfl, rfl⟩
              · have b0 : ((c : Int) == 0) = false := by simp; omega
                clear hno h63 hbad hg hc0
                go_wp2_with fail
                go_ret2
                exact ⟨by rw [← HF.out]; rfl, rfl⟩
    · have hv : numV bs = .tuple #[.int .i64 0, .int .i64 0] := by
        unfold numV
        rw [behind_end HBE.out (by rw [← HB.out]; omega)]
      have HV := Lib.hid hv
      clear hv
      go_wp2_with fail
      go_ret2
      exact ⟨by rw [HV.out]; rfl, rfl⟩
end Go.Proofs.Ytjieljmlpbiidaa
