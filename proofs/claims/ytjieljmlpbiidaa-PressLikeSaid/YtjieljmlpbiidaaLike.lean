/- The walk of PressLike. -/
import Derived.Test.YtjieljmlpbiidaaAwake
namespace Go.Proofs.Ytjieljmlpbiidaa
open Go.RowKit
theorem and_small (c : Int) (m : Nat) (hm : m ≤ 65535) : ∃ v : Nat, v ≤ m ∧ bits .and .i64 c (m : Int) = (v : Int) := by
  have hw : bits .and .i64 c (m : Int) = IntKind.i64.wrap (((BitVec.ofInt 64 c) &&& (BitVec.ofInt 64 (m : Int))).toNat : Int) := rfl
  have e : (BitVec.ofInt 64 (m : Int)).toNat = m := by
    rw [BitVec.toNat_ofInt]
    omega
  have hle : ((BitVec.ofInt 64 c) &&& (BitVec.ofInt 64 (m : Int))).toNat ≤ m := by
    rw [BitVec.toNat_and, e]
    exact Nat.and_le_right
  exact ⟨_, hle, by rw [hw]; exact IntWalk.i64_in _ (by omega)⟩
theorem byte_of {c : Int} (h : (Lit.int .u8 c).wf = true) : ∃ x : UInt8, c = (x.toNat : Int) := by
  have e1 : IntKind.min .u8 = 0 := rfl
  have e2 : IntKind.max .u8 = 255 := rfl
  have h1 : (decide (IntKind.min .u8 ≤ c) && decide (c ≤ IntKind.max .u8)) = true := h
  rw [e1, e2] at h1
  simp only [Bool.and_eq_true, decide_eq_true_eq] at h1
  refine ⟨UInt8.ofNat c.toNat, ?_⟩
  rw [UInt8.toNat_ofNat_of_lt' (by show c.toNat < 256; omega)]
  omega
set_option maxRecDepth 100000 in
set_option maxHeartbeats 800000 in
theorem like_law (n : Int) (c : Int) (w : World) (_hn : (Lit.int .i64 n).wf = true) (hc : (Lit.int .u8 c).wf = true) :
    Calls Try.prog 6 #[.int .i64 n, .int .u8 c] w fun e w' => e = .returned (.bool true) ∧ Below w.heap.size w w' := by
  obtain ⟨u, hu, hau⟩ := and_small n 4095 (by decide)
  obtain ⟨x, rfl⟩ := byte_of hc
  obtain ⟨i0, hi, hz0, hz1, hz2⟩ := info_parts info5
  obtain ⟨k, hk⟩ : ∃ k, k = 5 + u := ⟨_, rfl⟩
  have hki : (5 : Int) + (u : Int) = (k : Int) := by omega
  have hk5 : 5 ≤ k := by omega
  have hkb : k ≤ 4100 := by omega
  have hau' : bits .and .i64 n 4095 = (u : Int) := hau
  clear hc hk hau _hn
  go_enter Try.func6, Try.ntmps6
  go_wp2_with fail
  refine (awake_any _).mono ?_
  rintro e w1 ⟨rfl, b1⟩
  go_wp2_with fail
  clear hau' hki
  go_loopw [7, 8] (fun v i wr => ∃ (j : Nat), i = .int .i64 (j : Int) ∧ j ≤ k ∧ wr.ownsRow w.heap.size 5 1 v j ((List.replicate j x).map B8) ∧ Below w.heap.size w wr) (fun _ i _ => k - (intOf i).toNat)
  case atStart => exact ⟨0, rfl, Nat.zero_le _, World.ownsRow_nil _ _ _ _, b1⟩
  case round =>
    clear b1
    obtain ⟨j, rfl, hjk, hown, hbel⟩ := hrel
    by_cases hlt : j < k
    · have HW := Lib.hid hown
      clear hown
      go_wp2_with (at_builtin; refine wpList_append_own _ rfl _ _ 22 rfl w.heap.size 5 i0 (.int .u8 0) 1 1 Try.underlying22 hi hz0 hz1 hz2 rfl (by decide) _ j _ rfl (HW.out.alloc _) ⟨_, 0, none⟩ 1 1 _ rfl rfl (news_one _ _) (by simp [Value.oneCell']) (by unfold maxLen; omega) (by omega) (by have := hbel.size; simp; omega) ?_; intro v3 w3 hown3 hgrow3 _; have O3 := Lib.hid hown3; have G3 := Lib.hid hgrow3; clear hown3 hgrow3)
      go_roundw
      case rel =>
        refine ⟨j + 1, by go_num, by omega, ?_, (hbel.alloc hbel.size _).grown G3.out (by have := hbel.size; simp; omega) (fun k hk => (HW.out.lt k hk).1)⟩
        have h3 := O3.out
        rw [List.replicate_succ', List.map_append]
        exact h3
      case measure => simp [intOf]; omega
    · obtain rfl : j = k := by omega
      have hlen : (List.replicate j x).length = j := List.length_replicate
      have hown' := hown
      rw [← hlen] at hown'
      obtain ⟨ao, cap, B, hv, hs, _⟩ := src_of_own (bs := List.replicate j x) (by rw [hlen]; exact hown)
      rw [hlen] at hv
      subst hv
      have hp := press_any ao cap (List.replicate j x) B 0 _ hs (by omega)
      have hl := like_press j x hk5 hkb
      rw [hlen] at hp
      obtain ⟨m, hm⟩ : ∃ m, m = (pressL (List.replicate j x)).length := ⟨_, rfl⟩
      have HP := Lib.hid hp
      rw [← hm] at hl
      have hle : (m : Int) ≤ 20 + (j : Int) / 64 := by omega
      have HM := Lib.hid hm
      clear hown hown' hlen hp hl hm hs
      go_wp2_with fail
      refine HP.out.mono ?_
      rintro e w2 ⟨v2, rfl, o2, b2⟩
      rw [← HM.out] at o2
      have o2' := o2
      rw [HM.out] at o2'
      obtain ⟨a2, c2, B2, hv2, _, _⟩ := src_of_own o2'
      rw [← HM.out] at hv2
      subst hv2
      have e2 := hbel.trans (b2.mono hbel.size)
      clear o2 o2'
      go_wp2_with fail
      go_ret
      exact ⟨rfl, e2⟩
end Go.Proofs.Ytjieljmlpbiidaa
