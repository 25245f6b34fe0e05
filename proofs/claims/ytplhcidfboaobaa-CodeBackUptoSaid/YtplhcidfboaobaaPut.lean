/- The walks of PutNum, PutText, PutInt. -/
import Derived.Test.YtplhcidfboaobaaLay
namespace Go.Proofs.Ytplhcidfboaobaa
open Go.RowKit
set_option maxRecDepth 100000 in
set_option maxHeartbeats 800000 in
theorem putNum_any (ao : Option Addr) (cap : Nat) (bs : List UInt8) (B off : Nat) (n : Int) (w : World) (h : SrcAt w ao cap bs B off) (hs : bs.length ≤ 281474976710000) :
    Calls Try.prog 12 #[.slice ao bs.length cap, .int .i64 n] w fun e w' => ∃ v, e = .returned v ∧ w'.ownsRow w.heap.size 5 1 v (bs ++ numL (clampN n)).length ((bs ++ numL (clampN n)).map B8) ∧ Below w.heap.size w w' := by
  have hl := numL_le (clampN n)
  obtain ⟨L, hL⟩ : ∃ L, L = numL (clampN n) := ⟨_, rfl⟩
  have hg : ∀ W : World, Calls Try.prog 25 #[.int .i64 n] W fun e w' => ∃ v, e = .returned v ∧ w'.ownsRow W.heap.size 5 1 v L.length (L.map B8) ∧ Below W.heap.size W w' := by
    rw [hL]; exact groups_any n
  rw [← hL] at hl ⊢
  have HG := Lib.hid hg
  clear hL hg
  go_enter Try.func12, Try.ntmps12
  go_wp2_with fail
  refine (HG.out _).mono ?_
  rintro e w1 ⟨v1, rfl, o1, b1⟩
  obtain ⟨ao2, cap2, B2, rfl, s2, _⟩ := src_of_own o1
  go_wp2_with fail
  have bx : Below w.heap.size w (w1.alloc (.cells #[.slice ao2 L.length cap2] 22)) := b1.alloc b1.size _
  have by1 : Below w1.heap.size w1 (w1.alloc (.cells #[.slice ao2 L.length cap2] 22)) := (Below.refl _ _).alloc (Nat.le_refl _) _
  refine (lay_bytes ao cap bs B off w1.heap.size 1 [L] _ (h.below bx) (by simp) (fun k hk => ?_) (by simp) (by simp; omega)).mono ?_
  · obtain rfl : k = 0 := by simpa using hk
    exact ⟨ao2, cap2, B2, 0, by rw [cell_of_row _ _ _ _ _ _ (heap_alloc_new w1 _)]; rfl, s2.below by1⟩
  · rintro e w3 ⟨v3, rfl, o3, b3⟩
    go_wp2_with fail
    go_ret
    have e1 : bs ++ [L].flatten = bs ++ L := by simp
    rw [e1] at o3
    exact ⟨_, rfl, own_base o3 bx.size, bx.trans (b3.mono bx.size)⟩
set_option maxRecDepth 100000 in
set_option maxHeartbeats 800000 in
theorem putText_any (ao : Option Addr) (cap : Nat) (bs : List UInt8) (B off : Nat) (s : ByteArray) (w : World) (h : SrcAt w ao cap bs B off) (hs : bs.length + s.size ≤ 281474976710000) :
    Calls Try.prog 14 #[.slice ao bs.length cap, .string s] w fun e w' => ∃ v, e = .returned v ∧ w'.ownsRow w.heap.size 5 1 v (bs ++ (numL s.size ++ s.data.toList)).length ((bs ++ (numL s.size ++ s.data.toList)).map B8) ∧ Below w.heap.size w w' := by
  have hl := numL_le s.size
  have hp := numL_pos s.size
  obtain ⟨L, hL⟩ : ∃ L, L = numL s.size := ⟨_, rfl⟩
  have hg : ∀ W : World, Calls Try.prog 25 #[.int .i64 (s.size : Int)] W fun e w' => ∃ v, e = .returned v ∧ w'.ownsRow W.heap.size 5 1 v L.length (L.map B8) ∧ Below W.heap.size W w' := by
    have h1 := groups_any (s.size : Int)
    rw [clampN_nat _ (by omega)] at h1
    rw [hL]; exact h1
  rw [← hL] at hl hp ⊢
  have HG := Lib.hid hg
  clear hL hg
  go_enter Try.func14, Try.ntmps14
  go_wp2_with fail
  refine (HG.out _).mono ?_
  rintro e w1 ⟨v1, rfl, o1, b1⟩
  obtain ⟨ao2, cap2, B2, rfl, s2, _⟩ := src_of_own o1
  have cv := convert_src s2
  go_wp2_with fail
  clear cv
  have bx : Below w.heap.size w (w1.alloc (.cells #[.string (SL L), .string s] 9)) := b1.alloc b1.size _
  refine (lay_texts ao cap bs B off w1.heap.size 2 [L, s.data.toList] _ (h.below bx) (by simp) (fun k hk => ?_) (by simp) (by simp; omega) (by simp; omega)).mono ?_
  · rw [cell_of_row _ _ _ _ _ _ (heap_alloc_new w1 _)]
    have hk2 : k = 0 ∨ k = 1 := by simp at hk; omega
    rcases hk2 with rfl | rfl <;> rfl
  · rintro e w3 ⟨v3, rfl, o3, b3⟩
    go_wp2_with fail
    go_ret
    have e1 : bs ++ [L, s.data.toList].flatten = bs ++ (L ++ s.data.toList) := by simp
    rw [e1] at o3
    exact ⟨_, rfl, own_base o3 bx.size, bx.trans (b3.mono bx.size)⟩
theorem clamp_int (n : Int) : ∃ q : Int, (if (2305843009213693951 : Int) < n then 2305843009213693951 else n) = q ∧ (if q > -2305843009213693952 then q else -2305843009213693952) = clampI n := by
  refine ⟨_, rfl, ?_⟩
  unfold clampI
  split <;> split <;> split <;> (try split) <;> omega
theorem clampN_zig_neg (m : Int) (h : m < 0) (h2 : -2305843009213693952 ≤ m) : clampN (-2 * m - 1) = zig m := by unfold clampN zig; rw [if_neg (by omega), if_neg (by omega), if_pos h]
theorem clampN_zig_pos (m : Int) (h : 0 ≤ m) (h2 : m ≤ 2305843009213693951) : clampN (2 * m) = zig m := by unfold clampN zig; rw [if_neg (by omega), if_neg (by omega), if_neg (by omega)]
set_option maxRecDepth 100000 in
set_option maxHeartbeats 800000 in
theorem putInt_any (ao : Option Addr) (cap : Nat) (bs : List UInt8) (B off : Nat) (n : Int) (w : World) (h : SrcAt w ao cap bs B off) (hs : bs.length ≤ 281474976710000) :
    Calls Try.prog 16 #[.slice ao bs.length cap, .int .i64 n] w fun e w' => ∃ v, e = .returned v ∧ w'.ownsRow w.heap.size 5 1 v (bs ++ intL n).length ((bs ++ intL n).map B8) ∧ Below w.heap.size w w' := by
  obtain ⟨q, c1, c2⟩ := clamp_int n
  have hin := clampI_in n
  unfold intL
  obtain ⟨m, hm⟩ : ∃ m, m = clampI n := ⟨_, rfl⟩
  rw [← hm] at c2 hin ⊢
  clear hm
  obtain ⟨hlo, hhi⟩ := hin
  go_enter Try.func16, Try.ntmps16
  go_wp2_with fail
  · have hneg : m < 0 := by assumption
    refine (putNum_any ao cap bs B off _ w h hs).mono ?_
    rintro e w1 ⟨v1, rfl, o1, b1⟩
    rw [clampN_zig_neg m hneg hlo] at o1
    clear c1 c2
    go_wp2_with fail
    go_ret
    exact ⟨_, rfl, o1, b1⟩
  · have hneg : 0 ≤ m := by assumption
    refine (putNum_any ao cap bs B off _ w h hs).mono ?_
    rintro e w1 ⟨v1, rfl, o1, b1⟩
    rw [clampN_zig_pos m hneg hhi] at o1
    clear c1 c2
    go_wp2_with fail
    go_ret
    exact ⟨_, rfl, o1, b1⟩
end Go.Proofs.Ytplhcidfboaobaa
