/- The walk of number. -/
import Derived.Test.YtplhcidfboaobaaBase
import Derived.WalkMore
namespace Go.Proofs.Ytplhcidfboaobaa
open Go.RowKit
/-- What number answers. -/
def numV (bs : List UInt8) : Value := match parse bs with
  | some p => .tuple #[.int .i64 (p.1 : Int), .int .i64 (p.2 : Int)]
  | none => .tuple #[.int .i64 0, .int .i64 0]
/-- What is known of a row behind its first k bytes, each of which said that one more comes. -/
structure Behind (bs : List UInt8) (k x : Nat) : Prop where
  lt : x < 128 ^ k
  eq : parse bs = (parseF (8 - k) (k == 0) (bs.drop k)).map fun p => (x + 128 ^ k * p.1, k + p.2)
theorem behind_zero (bs : List UInt8) : Behind bs 0 0 := ⟨by simp, by
  rw [List.drop_zero]
  unfold parse
  show parseF 8 true bs = Option.map _ (parseF 8 true bs)
  cases parseF 8 true bs <;> simp⟩
theorem drop_at (bs : List UInt8) (k : Nat) (h : k < bs.length) : bs.drop k = bs.getD k 0 :: bs.drop (k + 1) := by
  rw [List.drop_eq_getElem_cons h]
  simp [List.getD, h]
theorem behind_end {bs : List UInt8} {k x : Nat} (h : Behind bs k x) (hk : bs.length ≤ k) : parse bs = none := by
  rw [h.eq, List.drop_eq_nil_of_le hk]
  cases 8 - k <;> rfl
theorem behind_more {bs : List UInt8} {k x : Nat} (h : Behind bs k x) (hk : k < bs.length) (h8 : k < 8) (hc : 128 ≤ (bs.getD k 0).toNat) : Behind bs (k + 1) (x + (bs.getD k 0).toNat % 128 * 128 ^ k) := by
  refine ⟨?_, ?_⟩
  · have h1 := h.lt
    have h2 : (bs.getD k 0).toNat % 128 * 128 ^ k ≤ 127 * 128 ^ k := Nat.mul_le_mul_right _ (by omega)
    rw [Nat.pow_succ]; omega
  · obtain ⟨f, hf⟩ : ∃ f, 8 - k = f + 1 := ⟨7 - k, by omega⟩
    have e1 : (k + 1 == 0) = false := by simp
    rw [h.eq, drop_at bs k hk, hf, parseF, if_pos hc, show 8 - (k + 1) = f by omega, e1]
    rw [Option.map_map]
    congr 1
    funext p
    simp only [Function.comp, Prod.mk.injEq]
    refine ⟨?_, by omega⟩
    rw [Nat.mul_add, Nat.pow_succ, Nat.mul_comm ((bs.getD k 0).toNat % 128), Nat.mul_assoc, Nat.add_assoc]
theorem behind_bad {bs : List UInt8} {k x : Nat} (h : Behind bs k x) (hk : k < bs.length) (h8 : k = 8) (hc : 63 < (bs.getD k 0).toNat) : parse bs = none := by
  subst h8
  rw [h.eq, drop_at bs 8 hk]
  show Option.map _ (parseF 0 false _) = none
  rw [parseF, if_pos hc]
  rfl
theorem behind_nought {bs : List UInt8} {k x : Nat} (h : Behind bs k x) (hk : k < bs.length) (h8 : k ≤ 8) (h0 : 0 < k) (hc : (bs.getD k 0).toNat = 0) : parse bs = none := by
  have e1 : (k == 0) = false := by simp; omega
  rw [h.eq, drop_at bs k hk, e1]
  cases 8 - k with
  | zero => rw [parseF, if_neg (by omega), if_pos ⟨hc, rfl⟩]; rfl
  | succ f => rw [parseF, if_neg (by omega), if_pos ⟨hc, rfl⟩]; rfl
theorem behind_done {bs : List UInt8} {k x : Nat} (h : Behind bs k x) (hk : k < bs.length) (h8 : k ≤ 8) (h63 : k = 8 → (bs.getD k 0).toNat ≤ 63) (hc : (bs.getD k 0).toNat < 128) (h0 : 0 < k → (bs.getD k 0).toNat ≠ 0) :
    parse bs = some (x + (bs.getD k 0).toNat % 128 * 128 ^ k, k + 1) := by
  have hn : ¬ ((bs.getD k 0).toNat = 0 ∧ (k == 0) = false) := fun ⟨a, b⟩ => h0 (by simp at b; omega) a
  have e : (bs.getD k 0).toNat % 128 = (bs.getD k 0).toNat := Nat.mod_eq_of_lt hc
  rw [h.eq, drop_at bs k hk, e, Nat.mul_comm]
  rcases Nat.eq_or_lt_of_le h8 with rfl | hlt
  · show Option.map _ (parseF 0 _ _) = _
    rw [parseF, if_neg (by have := h63 rfl; omega), if_neg hn]
    rfl
  · obtain ⟨f, hf⟩ : ∃ f, 8 - k = f + 1 := ⟨7 - k, by omega⟩
    rw [hf, parseF, if_neg (by omega), if_neg hn]
    rfl
theorem shl_val (k : Nat) (c : Nat) (h : k ≤ 8) (hc : c < 128) : ((c * 128 ^ k : Nat) : Int) ≤ 9151314442816847872 ∧ (c : Int) * 2 ^ (7 * k) = ((c * 128 ^ k : Nat) : Int) := by
  have h1 : 128 ^ k ≤ 128 ^ 8 := Nat.pow_le_pow_right (by omega) h
  have h2 : c * 128 ^ k ≤ 127 * 128 ^ 8 := Nat.mul_le_mul (by omega) h1
  refine ⟨by omega, ?_⟩
  rw [Int.pow_mul]
  simp
set_option maxRecDepth 100000 in
set_option maxHeartbeats 800000 in
theorem number_any (ao : Option Addr) (cap : Nat) (bs : List UInt8) (B off : Nat) (w : World) (h : SrcAt w ao cap bs B off) (hs : bs.length ≤ 281474976710656) :
    Calls Try.prog 27 #[.slice ao bs.length cap] w fun e w' => e = .returned (numV bs) ∧ w' = w := by
  obtain ⟨n, hbn⟩ : ∃ n, n = bs.length := ⟨_, rfl⟩
  rw [← hbn] at hs ⊢
  have HB := Lib.hid hbn
  clear hbn
  go_enter Try.func27, Try.ntmps27
  go_wp2
  go_step3
  go_wp2
  go_step3
  go_wp2
  go_loop [2, 8] (fun v i => ∃ k x : Nat, k ≤ n ∧ k ≤ 8 ∧ i = .int .i64 k ∧ v = .int .i64 x ∧ Behind bs k x) (fun _ i => n - (intOf i).toNat)
  case atStart => exact ⟨0, 0, by omega, by omega, rfl, rfl, behind_zero bs⟩
  case round =>
    obtain ⟨k, x, hk, hk8, rfl, rfl, hbe⟩ := hrel
    have HBE := Lib.hid hbe
    clear hbe
    by_cases hlt : k < n
    · have hltb : k < bs.length := by rw [← HB.out]; exact hlt
      have hcell := h.cell k hltb
      have hao := h.src (by omega)
      obtain ⟨c, hc⟩ : ∃ c : Nat, c = (bs.getD k 0).toNat := ⟨_, rfl⟩
      have hc256 : c < 256 := by rw [hc]; exact (bs.getD k 0).toNat_lt
      rw [← hc] at hcell
      have HC := Lib.hid hc
      subst hao
      have hbl : k < bs.length := hltb
      obtain ⟨y, hy⟩ : ∃ y : Nat, y = c % 128 * 128 ^ k := ⟨_, rfl⟩
      obtain ⟨s1, s2⟩ := shl_val k (c % 128) hk8 (by omega)
      rw [← hy] at s1 s2
      have hxb : (x : Int) ≤ 72057594037927935 := by
        have h1 := HBE.out.lt
        have h2 : 128 ^ k ≤ 128 ^ 8 := Nat.pow_le_pow_right (by omega) hk8
        omega
      have hw1 : wrap64 ((c : Int) % 128 * 2 ^ (7 * k)) = (y : Int) := by
        rw [show (c : Int) % 128 = ((c % 128 : Nat) : Int) from by omega, s2]
        exact IntWalk.wrap64_in _ ⟨by omega, by omega⟩
      have hy0 : 0 ≤ (y : Int) := by omega
      have hy1 : (y : Int) ≤ 9151314442816847872 := s1
      have HY := Lib.hid hy
      have hks : (0 : Int) ≤ 7 * (k : Int) ∧ 7 * (k : Int) ≤ 64 := by omega
      clear hc hltb s1 s2 hy
      have hkb : k < bs.length := by rw [← HB.out]; exact hlt
      have HKB := Lib.hid hkb
      clear hkb
      by_cases hbad : k = 8 ∧ 63 < c
      · obtain ⟨h8, h63⟩ := hbad
        have b8 : ((k : Int) == 8) = true := by simp; omega
        have hv : numV bs = .tuple #[.int .i64 0, .int .i64 0] := by
          unfold numV
          rw [behind_bad HBE.out HKB.out h8 (by rw [← HC.out]; exact h63)]
        have HV := Lib.hid hv
        have h63' : (63 : Int) < (c : Int) := by omega
        clear hv h8
        go_wp2_with fail
        go_ret2
        exact ⟨by rw [HV.out]; rfl, rfl⟩
      · have hg : (decide ((63 : Int) < (c : Int)) && ((k : Int) == 8)) = false := by
          by_cases h8 : k = 8
          · have : ¬ 63 < c := fun h => hbad ⟨h8, h⟩
            simp; intro h; omega
          · have : ((k : Int) == 8) = false := by simp; omega
            rw [this, Bool.and_false]
        by_cases hmore : 128 ≤ c
        · have h8 : k < 8 := by omega
          have b8 : ((k : Int) == 8) = false := by simp; omega
          have hnext := behind_more HBE.out HKB.out h8 (by rw [← HC.out]; exact hmore)
          rw [← HC.out, ← HY.out] at hnext
          have HN := Lib.hid hnext
          clear hbad hg hnext
          go_wp2_with fail
          go_round
          case rel => exact ⟨k + 1, x + y, by omega, by omega, by go_num, by go_num, HN.out⟩
          case measure => simp [intOf]; omega
        · have h63 : k = 8 → c ≤ 63 := fun h => by
            have : ¬ 63 < c := fun h1 => hbad ⟨h, h1⟩
            omega
          by_cases hno : c = 0 ∧ 0 < k
          · obtain ⟨hc0, hk0⟩ := hno
            have hv : numV bs = .tuple #[.int .i64 0, .int .i64 0] := by
              unfold numV
              rw [behind_nought HBE.out HKB.out hk8 hk0 (by rw [← HC.out]; exact hc0)]
            have HV := Lib.hid hv
            have b0 : ((c : Int) == 0) = true := by simp; omega
            have hle : ¬ (63 : Int) < (c : Int) := by omega
            clear hv hbad hg h63 hc0
            by_cases h8 : k = 8
            · have b8 : ((k : Int) == 8) = true := by simp; omega
              clear h8
              go_wp2_with fail
              go_ret2
              exact ⟨by rw [HV.out]; rfl, rfl⟩
            · have b8 : ((k : Int) == 8) = false := by simp; omega
              go_wp2_with fail
              go_ret2
              exact ⟨by rw [HV.out]; rfl, rfl⟩
          · have hv : numV bs = .tuple #[.int .i64 ((x + y : Nat) : Int), .int .i64 ((k + 1 : Nat) : Int)] := by
              unfold numV
              rw [behind_done HBE.out HKB.out hk8 (fun h => by rw [← HC.out]; exact h63 h) (by rw [← HC.out]; omega) (fun h => by rw [← HC.out]; intro h1; exact hno ⟨h1, h⟩), ← HC.out, ← HY.out]
            have HV := Lib.hid hv
            have fin : Value.tuple #[.int .i64 ((x : Int) + (y : Int)), .int .i64 ((k : Int) + 1)] = numV bs := by
              rw [hv]
              congr 1
            have HF := Lib.hid fin
            clear hv fin
            by_cases h8 : k = 8
            · have b8 : ((k : Int) == 8) = true := by simp; omega
              have hle : ¬ (63 : Int) < (c : Int) := by have := h63 h8; omega
              have hc0 : c ≠ 0 := fun h => hno ⟨h, by omega⟩
              have b0 : ((c : Int) == 0) = false := by simp; omega
              clear h8 hno h63 hbad hg
              go_wp2_with fail
              go_ret2
              exact ⟨by rw [← HF.out]; rfl, rfl⟩
            · have b8 : ((k : Int) == 8) = false := by simp; omega
              by_cases hc0 : c = 0
              · have hk0 : ¬ 0 < k := fun h => hno ⟨hc0, h⟩
                have b0 : ((c : Int) == 0) = true := by simp; omega
                have hlk : ¬ (0 : Int) < (k : Int) := by omega
                clear hno h63 hbad hg hc0
                go_wp2_with fail
                go_ret2
                exact ⟨by rw [← HF.out]; rfl, rfl⟩
              · have b0 : ((c : Int) == 0) = false := by simp; omega
                clear hno h63 hbad hg hc0
                go_wp2_with fail
                go_ret2
                exact ⟨by rw [← HF.out]; rfl, rfl⟩
    · have hv : numV bs = .tuple #[.int .i64 0, .int .i64 0] := by
        unfold numV
        rw [behind_end HBE.out (by rw [← HB.out]; omega)]
      have HV := Lib.hid hv
      clear hv
      go_wp2_with fail
      go_ret2
      exact ⟨by rw [HV.out]; rfl, rfl⟩
end Go.Proofs.Ytplhcidfboaobaa
