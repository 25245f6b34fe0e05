/- The walk of PressRuns. -/
import Derived.Test.YtjieljmlpbiidaaLike
import Derived.Test.YtjieljmlpbiidaaRefPutNum
import Derived.Test.YtjieljmlpbiidaaSame
namespace Go.Proofs.Ytjieljmlpbiidaa
open Go.RowKit
theorem upTo_succ (k : Nat) : upTo (k + 1) = upTo k ++ [UInt8.ofNat k] := by
  unfold upTo
  rw [List.range_succ, List.map_append]
  rfl
theorem clampN_two {n : Nat} (h0 : 0 < n) (h : n ≤ 281474976710656) : clampN (2 * ((n : Int) - 1)) = 2 * (n - 1) := by
  have e : 2 * ((n : Int) - 1) = ((2 * (n - 1) : Nat) : Int) := by omega
  rw [e, clampN_nat _ (by omega)]
set_option maxRecDepth 100000 in
set_option maxHeartbeats 1600000 in
theorem runs_law (n : Int) (w : World) (_hn : (Lit.int .i64 n).wf = true) :
    Calls Try.prog 9 #[.int .i64 n] w fun e w' => e = .returned (.bool true) ∧ Below w.heap.size w w' := by
  obtain ⟨u, hu, hau⟩ := and_small n 255 (by decide)
  obtain ⟨i0, hi, hz0, hz1, hz2⟩ := info_parts info5
  obtain ⟨k, hk⟩ : ∃ k, k = 1 + u := ⟨_, rfl⟩
  have hki : (1 : Int) + (u : Int) = (k : Int) := by omega
  have hk5 : 1 ≤ k := by omega
  have hkb : k ≤ 256 := by omega
  have hau' : bits .and .i64 n 255 = (u : Int) := hau
  clear hk hau _hn
  go_enter Try.func9, Try.ntmps9
  go_wp2_with fail
  refine (awake_any _).mono ?_
  rintro e w1 ⟨rfl, b1⟩
  go_wp2_with fail
  clear hau' hki
  go_loopw [5, 6] (fun v i wr => ∃ (j : Nat), i = .int .i64 (j : Int) ∧ j ≤ k ∧ wr.ownsRow w.heap.size 5 1 v j ((upTo j).map B8) ∧ Below w.heap.size w wr) (fun _ i _ => k - (intOf i).toNat)
  case atStart => exact ⟨0, rfl, Nat.zero_le _, World.ownsRow_nil _ _ _ _, b1⟩
  case round =>
    clear b1
    obtain ⟨j, rfl, hjk, hown, hbel⟩ := hrel
    by_cases hlt : j < k
    · have HW := Lib.hid hown
      clear hown
      go_wp2_with (at_builtin; refine wpList_append_own _ rfl _ _ 22 rfl w.heap.size 5 i0 (.int .u8 0) 1 1 Try.underlying22 hi hz0 hz1 hz2 rfl (by decide) _ j _ rfl (HW.out.alloc _) ⟨_, 0, none⟩ 1 1 _ rfl rfl (news_one _ _) (by simp [Value.oneCell']) (by unfold maxLen; omega) (by omega) (by have := hbel.size; simp; omega) ?_; intro v3 w3 hown3 hgrow3 _; have O3 := Lib.hid hown3; have G3 := Lib.hid hgrow3; clear hown3 hgrow3)
      go_roundw
      case rel =>
        refine ⟨j + 1, by go_num, by omega, ?_, (hbel.alloc hbel.size _).grown G3.out (by have := hbel.size; simp; omega) (fun k hk => (HW.out.lt k hk).1)⟩
        have h3 := O3.out
        have hcell : (.int .u8 (j : Int) : Value) = B8 (UInt8.ofNat j) := by
          unfold B8
          rw [UInt8.toNat_ofNat_of_lt' (by show _ < 256; omega)]
        rw [upTo_succ, List.map_append]
        rw [hcell] at h3
        exact h3
      case measure => simp [intOf]; omega
    · obtain rfl : j = k := by omega
      have hlen := upTo_length j
      have hwn := hown
      rw [← hlen] at hwn
      obtain ⟨ao, cap, B, hv, hs, _⟩ := src_of_own (bs := upTo j) (by rw [hlen]; exact hown)
      rw [hlen] at hv
      subst hv
      have hp := press_any ao cap (upTo j) B 0 _ hs (by omega)
      rw [hlen] at hp
      have hpress := upTo_press j (by omega) hkb
      obtain ⟨H, hH⟩ : ∃ H, H = numL j ++ numL (2 * (j - 1)) := ⟨_, rfl⟩
      have hHl : H.length ≤ 18 := by
        have h1 := numL_le j
        have h2 := numL_le (2 * (j - 1))
        rw [hH, List.length_append]; omega
      rw [← List.append_assoc, ← hH] at hpress
      obtain ⟨m, hm⟩ : ∃ m, m = (pressL (upTo j)).length := ⟨_, rfl⟩
      obtain ⟨hl, hhl⟩ : ∃ hl, hl = H.length := ⟨_, rfl⟩
      rw [← hhl] at hHl
      have hmi : (m : Int) = (j : Int) + (hl : Int) := by
        rw [hm, hpress, List.length_append, hlen, hhl]; omega
      have hdrop : (pressL (upTo j)).drop hl = upTo j := by rw [hpress, hhl, List.drop_left]
      have hp1 : ∀ W : World, Calls Try.prog 16 #[.slice none 0 0, .int .i64 (j : Int)] W fun e w' => ∃ v, e = .returned v ∧ w'.ownsRow W.heap.size 5 1 v (numL j).length ((numL j).map B8) ∧ Below W.heap.size W w' := fun W => by
        have h1 := refPutNum_any none 0 [] 0 0 (j : Int) W (src_nil W) (by simp)
        rw [List.nil_append, clampN_nat _ (by omega)] at h1
        exact h1
      have hnl := numL_le j
      have hp2 : ∀ (W : World) (a : Option Addr) (c b : Nat), SrcAt W a c (numL j) b 0 → Calls Try.prog 16 #[.slice a (numL j).length c, .int .i64 (2 * ((j : Int) - 1))] W fun e w' => ∃ v, e = .returned v ∧ w'.ownsRow W.heap.size 5 1 v H.length (H.map B8) ∧ Below W.heap.size W w' := fun W a c b hW => by
        have h1 := refPutNum_any a c (numL j) b 0 (2 * ((j : Int) - 1)) W hW (by omega)
        rw [clampN_two (by omega) (by omega), ← hH] at h1
        exact h1
      obtain ⟨q, hq⟩ : ∃ q, q = numL j := ⟨_, rfl⟩
      rw [← hq] at hp1 hp2
      have HP := Lib.hid hp
      have HP1 := Lib.hid hp1
      have HP2 := Lib.hid hp2
      have HM := Lib.hid hm
      have HD := Lib.hid hdrop
      have HL := Lib.hid hhl
      have HLen := Lib.hid hlen
      have HMI := Lib.hid hmi
      have hj1 : (1 : Int) ≤ (j : Int) := by omega
      have hhlm : hl ≤ m := by omega
      clear hown hlen hp hm hp1 hp2 hpress hdrop hhl hmi hH hq hnl hwn
      go_wp2_with fail
      refine HP.out.mono ?_
      rintro e w2 ⟨v2, rfl, o2, b2⟩
      obtain ⟨a2, c2, B2, rfl, s2, _⟩ := src_of_own o2
      have s1 := hs.below b2
      have e2 := hbel.trans (b2.mono hbel.size)
      rw [← HM.out]
      clear o2 b2 hs hbel
      go_wp2_with fail
      refine (HP1.out _).mono ?_
      rintro e w3 ⟨v3, rfl, o3, b3⟩
      obtain ⟨a3, c3, B3, rfl, s3, _⟩ := src_of_own o3
      have s1 := s1.below b3
      have s2 := s2.below b3
      have e3 := e2.trans (b3.mono e2.size)
      obtain ⟨ql, hql⟩ : ∃ ql, ql = q.length := ⟨_, rfl⟩
      have hp3 := HP2.out _ a3 c3 B3 s3
      rw [← hql] at hp3 ⊢
      have HP3 := Lib.hid hp3
      clear o3 b3 e2 hp3 hql s3
      go_wp2_with fail
      refine HP3.out.mono ?_
      rintro e w4 ⟨v4, rfl, o4, b4⟩
      obtain ⟨a4, c4, B4, rfl, s4, _⟩ := src_of_own o4
      have s1 := s1.below b4
      have s2 := s2.below b4
      have e4 := e3.trans (b4.mono e3.size)
      rw [← HL.out]
      obtain ⟨a5, hs5, s5⟩ := s2.slice_l hl (by have := HM.out; omega)
      rw [HD.out] at s5
      have e5 : (pressL (upTo j)).length - hl = j := by have := HM.out; have := HMI.out; omega
      rw [← HM.out] at hs5 e5
      rw [e5] at hs5
      have hsame := same_true _ s5 s1
      rw [HLen.out] at hsame
      have HSM := Lib.hid hsame
      have hl0 : (0 : Int) ≤ (hl : Int) := by omega
      have hlm' : (hl : Int) ≤ (m : Int) := by omega
      have hqq : ((m : Int) == (j : Int) + (hl : Int)) = true := by have := HMI.out; simp; omega
      clear o4 b4 e3 e5 hsame s4
      go_wp2_with fail
      refine HSM.out.mono ?_
      rintro e w5 ⟨rfl, rfl⟩
      go_wp2_with fail
      go_ret
      exact ⟨rfl, e4⟩
end Go.Proofs.Ytjieljmlpbiidaa
