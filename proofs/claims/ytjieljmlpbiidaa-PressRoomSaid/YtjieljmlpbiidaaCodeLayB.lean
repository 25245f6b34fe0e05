/- The walk of lay, for bytes (package code). -/
import Derived.Test.YtjieljmlpbiidaaMem
import Derived.Test.YtjieljmlpbiidaaCodeNum
namespace Go.Proofs.Ytjieljmlpbiidaa
open Go.RowKit
set_option maxRecDepth 100000 in
set_option maxHeartbeats 800000 in
theorem lay_bytes (ao : Option Addr) (cap : Nat) (bs : List UInt8) (B off g cp : Nat) (ls : List (List UInt8)) (w : World) (h : SrcAt w ao cap bs B off) (hg : g < w.heap.size)
    (hput : ∀ k, k < ls.length → ∃ ao' cap' B' off', w.cell? ⟨g, k, none⟩ = some (.slice ao' (ls.getD k []).length cap') ∧ SrcAt w ao' cap' (ls.getD k []) B' off') (hn : ls.length ≤ 1000) (hs : bs.length + ls.flatten.length ≤ 281474976710656) :
    Calls Try.prog 40 #[.slice ao bs.length cap, .slice (some ⟨g, 0, none⟩) ls.length cp] w fun e w' => ∃ v, e = .returned v ∧ w'.ownsRow w.heap.size 5 1 v (bs ++ ls.flatten).length ((bs ++ ls.flatten).map B8) ∧ Below w.heap.size w w' := by
  obtain ⟨i0, hi, hz0, hz1, hz2⟩ := info_parts info5
  obtain ⟨n, hbn⟩ : ∃ n, n = bs.length := ⟨_, rfl⟩
  obtain ⟨m, hm⟩ : ∃ m, m = ls.length := ⟨_, rfl⟩
  obtain ⟨t, ht⟩ : ∃ t, t = ls.flatten.length := ⟨_, rfl⟩
  rw [← ht] at hs
  rw [← hm] at hn
  rw [← hbn] at hs
  rw [← hbn, ← hm]
  have HB := Lib.hid hbn
  have HM := Lib.hid hm
  have HT := Lib.hid ht
  have HP := Lib.hid hput
  clear hbn hm ht hput
  go_enter Try.func40, Try.ntmps40
  go_wp2
  go_loop [5, 15] (fun x i => ∃ k : Nat, k ≤ m ∧ i = .int .i64 k ∧ x = .int .i64 ((n + (ls.take k).flatten.length : Nat) : Int)) (fun _ i => m - (intOf i).toNat)
  case atStart => exact ⟨0, by omega, rfl, by simp⟩
  case round =>
    obtain ⟨k, hk, rfl, rfl⟩ := hrel
    have hle := flat_take_le ls k
    rw [← HT.out] at hle
    by_cases hlt : k < m
    · obtain ⟨ao', cap', B', off', hcell, hsrc⟩ := HP.out k (by rw [← HM.out]; exact hlt)
      have hstep := flat_take ls k (by rw [← HM.out]; exact hlt)
      have hle2 := flat_take_le ls (k + 1)
      rw [← HT.out, hstep, List.length_append] at hle2
      obtain ⟨q, hq⟩ : ∃ q, q = (ls.take k).flatten.length := ⟨_, rfl⟩
      obtain ⟨r, hr⟩ : ∃ r, r = (ls.getD k []).length := ⟨_, rfl⟩
      have hnext : (ls.take (k + 1)).flatten.length = q + r := by rw [hstep, List.length_append, hq, hr]
      rw [← hq, ← hr] at hle2
      rw [← hq] at hle ⊢
      rw [← hr] at hcell
      have HN := Lib.hid hnext
      clear hnext hq hr hsrc hstep
      go_wp2
      go_round
      case rel => exact ⟨k + 1, by omega, by go_num, by rw [HN.out]; go_num⟩
      case measure => simp [intOf]; omega
    · obtain rfl : k = m := by omega
      rw [List.take_of_length_le (by rw [← HM.out]; omega), ← HT.out]
      go_wp2_with (first
        | (at_make; refine wpList_make_own _ rfl _ _ 22 rfl w.heap.size 5 i0 (.int .u8 0) 1 Try.underlying22 hi hz0 hz1 _ _ _ (n + t) rfl rfl (by omega) (by rw [hz2]; omega) (by unfold maxLen; omega) (Nat.le_refl _) ?_; intro w1 hown1 hgrow1; have HO1 := Lib.hid hown1; have HG1 := Lib.hid (below_of_none hgrow1); clear hown1 hgrow1)
        | (at_builtin; refine wpList_append_fits_any _ rfl _ _ 22 rfl w.heap.size 5 i0 1 Try.underlying22 hi hz1 w.heap.size 0 (n + t) [] rfl HO1.out ao n cap (bs.map B8) rfl (by rw [List.length_map, Nat.mul_one]; exact HB.out.symm) (fun hh => by rw [HB.out]; exact h.bare hh) (h.below HG1.out).cells (B8_one _) (by omega) ?_; intro w2 hown2 hgrow2; have HO2 := Lib.hid hown2; have HG2 := Lib.hid hgrow2; clear hown2 hgrow2))
      have hw2 : w2.ownsRow w.heap.size 5 1 (.slice (some ⟨w.heap.size, 0, none⟩) n (n + t)) n (bs.map B8) ∧ Below w.heap.size w w2 :=
        ⟨by have h1 := HO2.out; rw [Nat.zero_add, List.nil_append] at h1; exact h1, HG1.out.grown HG2.out HG1.out.size (fun k hk => by cases hk; exact Nat.le_refl _)⟩
      obtain ⟨o2, b2⟩ := hw2
      have O2 := Lib.hid o2
      clear o2 HO1 HG1 HO2 HG2 hle hlt hk
      generalize Value.int IntKind.i64 ((n : Int) + (t : Int)) = y5
      go_loopw [8, 30] (fun v i wr => ∃ j : Nat, j ≤ k ∧ i = .int .i64 j ∧ v = .slice (some ⟨w.heap.size, 0, none⟩) (n + (ls.take j).flatten.length) (n + t) ∧ wr.ownsRow w.heap.size 5 1 (.slice (some ⟨w.heap.size, 0, none⟩) (n + (ls.take j).flatten.length) (n + t)) (n + (ls.take j).flatten.length) ((bs ++ (ls.take j).flatten).map B8) ∧ Below w.heap.size w wr) (fun _ i _ => k - (intOf i).toNat)
      case atStart => exact ⟨0, by omega, rfl, rfl, by simpa using O2.out, b2⟩
      case round =>
        clear O2 b2
        obtain ⟨j, hj, rfl, rfl, hown, hbel⟩ := hrel
        have HO := Lib.hid hown
        have hle := flat_take_le ls j
        rw [← HT.out] at hle
        clear hown
        by_cases hlt : j < k
        · obtain ⟨ao', cap', B', off', hcell, hsrc⟩ := HP.out j (by rw [← HM.out]; exact hlt)
          have hstep := flat_take ls j (by rw [← HM.out]; exact hlt)
          have hle2 := flat_take_le ls (j + 1)
          rw [← HT.out, hstep, List.length_append] at hle2
          obtain ⟨q, hq⟩ : ∃ q, q = (ls.take j).flatten.length := ⟨_, rfl⟩
          obtain ⟨r, hr⟩ : ∃ r, r = (ls.getD j []).length := ⟨_, rfl⟩
          have hnext : (ls.take (j + 1)).flatten.length = q + r := by rw [hstep, List.length_append, hq, hr]
          rw [← hq, ← hr] at hle2
          rw [← hq] at hle HO ⊢
          rw [← hr] at hcell
          have hcell' := (hbel.cell (p := ⟨g, j, none⟩) hg).trans hcell
          have HR := Lib.hid hr
          have HN := Lib.hid hnext
          have HS := Lib.hid hstep
          clear hcell hnext hq hr hstep
          go_wp2_with (at_builtin; refine wpList_append_fits_any _ rfl _ _ 22 rfl w.heap.size 5 i0 1 Try.underlying22 hi hz1 w.heap.size (n + q) (n + t) _ rfl HO.out ao' r cap' ((ls.getD j []).map B8) rfl (by rw [List.length_map, Nat.mul_one]; exact HR.out.symm) (fun hh => by rw [HR.out]; exact hsrc.bare hh) (hsrc.below hbel).cells (B8_one _) (by omega) ?_; intro w3 hown3 hgrow3; have HO3 := Lib.hid hown3; have HG3 := Lib.hid hgrow3; clear hown3 hgrow3)
          go_roundw
          case rel =>
            refine ⟨j + 1, by omega, by go_num, by rw [HN.out, Nat.add_assoc], ?_, hbel.grown HG3.out hbel.size (fun k hk => by cases hk; exact Nat.le_refl _)⟩
            have h1 := HO3.out
            rw [← List.map_append, List.append_assoc, Nat.add_assoc] at h1
            rw [HN.out, HS.out]
            exact h1
          case measure => simp [intOf]; omega
        · obtain rfl : j = k := by omega
          rw [List.take_of_length_le (by rw [← HM.out]; omega), ← HT.out] at HO ⊢
          go_wp2
          go_ret
          exact ⟨_, rfl, by rw [List.length_append, ← HT.out, ← HB.out]; exact HO.out, hbel⟩
end Go.Proofs.Ytjieljmlpbiidaa
