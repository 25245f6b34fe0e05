/- The walk of TakeNum. -/
import Derived.Test.YtjieljmlpbiidaaClone
import Derived.Test.YtjieljmlpbiidaaCodeNumber
namespace Go.Proofs.Ytjieljmlpbiidaa
open Go.RowKit
set_option maxRecDepth 100000 in
set_option maxHeartbeats 800000 in
theorem takeNum_no (ao : Option Addr) (cap : Nat) (bs : List UInt8) (B off : Nat) (w : World) (h : SrcAt w ao cap bs B off) (hs : bs.length ≤ 281474976710656) (hp : parse bs = none) :
    Calls Try.prog 36 #[.slice ao bs.length cap] w fun e w' => e = .returned (.tuple #[.int .i64 0, .slice none 0 0, .int .i64 2]) ∧ w' = w := by
  have hnum := number_any ao cap bs B off w h hs
  rw [numV_none hp] at hnum
  have HN := Lib.hid hnum
  clear hnum hp
  go_enter Try.func36, Try.ntmps36
  go_wp2_with fail
  refine HN.out.mono ?_
  rintro e w1 ⟨rfl, rfl⟩
  go_wp2_with fail
  go_ret3
  exact ⟨rfl, rfl⟩
set_option maxRecDepth 100000 in
set_option maxHeartbeats 800000 in
theorem takeNum_yes (ao : Option Addr) (cap : Nat) (bs : List UInt8) (B off : Nat) (w : World) (h : SrcAt w ao cap bs B off) (hs : bs.length ≤ 140737488355328) (n : Nat) (rest : List UInt8) (hn : n ≤ 4611686018427387903) (he : bs = numL n ++ rest) :
    Calls Try.prog 36 #[.slice ao bs.length cap] w fun e w' => ∃ ao' cap' B', e = .returned (.tuple #[.int .i64 (n : Int), .slice ao' rest.length cap', .int .i64 0]) ∧ SrcAt w' ao' cap' rest B' 0 ∧ Below w.heap.size w w' := by
  have hp := parse_numL n rest hn
  rw [← he] at hp
  obtain ⟨k, hk⟩ : ∃ k, k = (numL n).length := ⟨_, rfl⟩
  rw [← hk] at hp
  have hnum := number_any ao cap bs B off w h (by omega)
  rw [numV_some hp] at hnum
  have hkp : 0 < k := by rw [hk]; exact numL_pos n
  have hkl : k ≤ bs.length := by rw [he, List.length_append, ← hk]; omega
  have hr : rest = bs.drop k := by rw [he, hk, List.drop_left]
  obtain ⟨ao2, hsl, hs2⟩ := h.slice_l k hkl
  rw [← hr] at hs2
  have hrl : rest.length = bs.length - k := by rw [hr, List.length_drop]
  have hcl := clone_any ao2 (cap - k) rest B (off + k) w hs2 (by omega)
  rw [hrl] at hcl
  have HN := Lib.hid hnum
  have HC := Lib.hid hcl
  have HR := Lib.hid hrl
  have hki : ((k : Int) == 0) = false := by simp; omega
  clear hnum hp hk he hr hcl hrl hn
  go_enter Try.func36, Try.ntmps36
  go_wp2_with fail
  refine HN.out.mono ?_
  rintro e w1 ⟨rfl, rfl⟩
  go_wp2_with fail
  refine HC.out.mono ?_
  rintro e w2 ⟨v, rfl, o2, b2⟩
  rw [← HR.out] at o2 ⊢
  obtain ⟨ao3, cap3, B3, rfl, s3, _⟩ := src_of_own o2
  go_wp2_with fail
  go_ret3
  exact ⟨ao3, cap3, B3, rfl, s3, b2⟩
end Go.Proofs.Ytjieljmlpbiidaa
