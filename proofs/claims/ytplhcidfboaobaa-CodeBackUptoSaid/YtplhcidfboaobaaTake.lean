/- The walks of TakeNum, TakeInt, TakeText. -/
import Derived.Test.YtplhcidfboaobaaGroups
import Derived.Test.YtplhcidfboaobaaNumber
namespace Go.Proofs.Ytplhcidfboaobaa
open Go.RowKit
theorem numV_none {bs : List UInt8} (h : parse bs = none) : numV bs = .tuple #[.int .i64 0, .int .i64 0] := by unfold numV; rw [h]
theorem numV_some {bs : List UInt8} {n k : Nat} (h : parse bs = some (n, k)) : numV bs = .tuple #[.int .i64 (n : Int), .int .i64 (k : Int)] := by unfold numV; rw [h]
set_option maxRecDepth 100000 in
set_option maxHeartbeats 800000 in
theorem takeNum_no (ao : Option Addr) (cap : Nat) (bs : List UInt8) (B off : Nat) (w : World) (h : SrcAt w ao cap bs B off) (hs : bs.length ≤ 281474976710656) (hp : parse bs = none) :
    Calls Try.prog 18 #[.slice ao bs.length cap] w fun e w' => e = .returned (.tuple #[.int .i64 0, .slice none 0 0, .int .i64 2]) ∧ w' = w := by
  have hnum := number_any ao cap bs B off w h hs
  rw [numV_none hp] at hnum
  have HN := Lib.hid hnum
  clear hnum hp
  go_enter Try.func18, Try.ntmps18
  go_wp2_with fail
  refine HN.out.mono ?_
  rintro e w1 ⟨rfl, rfl⟩
  go_wp2_with fail
  go_ret3
  exact ⟨rfl, rfl⟩
set_option maxRecDepth 100000 in
set_option maxHeartbeats 800000 in
theorem takeNum_yes (ao : Option Addr) (cap : Nat) (bs : List UInt8) (B off : Nat) (w : World) (h : SrcAt w ao cap bs B off) (hs : bs.length ≤ 140737488355328) (n : Nat) (rest : List UInt8) (hn : n ≤ 4611686018427387903) (he : bs = numL n ++ rest) :
    Calls Try.prog 18 #[.slice ao bs.length cap] w fun e w' => ∃ ao' cap' B', e = .returned (.tuple #[.int .i64 (n : Int), .slice ao' rest.length cap', .int .i64 0]) ∧ SrcAt w' ao' cap' rest B' 0 ∧ Below w.heap.size w w' := by
  have hp := parse_numL n rest hn
  rw [← he] at hp
  obtain ⟨k, hk⟩ : ∃ k, k = (numL n).length := ⟨_, rfl⟩
  rw [← hk] at hp
  have hnum := number_any ao cap bs B off w h (by omega)
  rw [numV_some hp] at hnum
  have hkp : 0 < k := by rw [hk]; exact numL_pos n
  have hkl : k ≤ bs.length := by rw [he, List.length_append, ← hk]; omega
  have hr : rest = bs.drop k := by rw [he, hk, List.drop_left]
  obtain ⟨ao2, hsl, hs2⟩ := h.slice_l k hkl
  rw [← hr] at hs2
  have hrl : rest.length = bs.length - k := by rw [hr, List.length_drop]
  have hcl := clone_any ao2 (cap - k) rest B (off + k) w hs2 (by omega)
  rw [hrl] at hcl
  have HN := Lib.hid hnum
  have HC := Lib.hid hcl
  have HR := Lib.hid hrl
  have hki : ((k : Int) == 0) = false := by simp; omega
  clear hnum hp hk he hr hcl hrl hn
  go_enter Try.func18, Try.ntmps18
  go_wp2_with fail
  refine HN.out.mono ?_
  rintro e w1 ⟨rfl, rfl⟩
  go_wp2_with fail
  refine HC.out.mono ?_
  rintro e w2 ⟨v, rfl, o2, b2⟩
  rw [← HR.out] at o2 ⊢
  obtain ⟨ao3, cap3, B3, rfl, s3, _⟩ := src_of_own o2
  go_wp2_with fail
  go_ret3
  exact ⟨ao3, cap3, B3, rfl, s3, b2⟩
set_option maxRecDepth 100000 in
set_option maxHeartbeats 800000 in
theorem takeInt_no (ao : Option Addr) (cap : Nat) (bs : List UInt8) (B off : Nat) (w : World) (h : SrcAt w ao cap bs B off) (hs : bs.length ≤ 281474976710656) (hp : parse bs = none) :
    Calls Try.prog 22 #[.slice ao bs.length cap] w fun e w' => e = .returned (.tuple #[.int .i64 0, .slice none 0 0, .int .i64 2]) ∧ w' = w := by
  go_enter Try.func22, Try.ntmps22
  go_wp2_with fail
  refine (takeNum_no ao cap bs B off w h hs hp).mono ?_
  rintro e w1 ⟨rfl, rfl⟩
  go_wp2_with fail
  go_ret3
  exact ⟨rfl, rfl⟩
set_option maxRecDepth 100000 in
set_option maxHeartbeats 800000 in
theorem takeInt_yes (ao : Option Addr) (cap : Nat) (bs : List UInt8) (B off : Nat) (w : World) (h : SrcAt w ao cap bs B off) (hs : bs.length ≤ 140737488355328) (n : Nat) (rest : List UInt8) (hn : n ≤ 4611686018427387903) (he : bs = numL n ++ rest) :
    Calls Try.prog 22 #[.slice ao bs.length cap] w fun e w' => ∃ ao' cap' B', e = .returned (.tuple #[.int .i64 (unzig n), .slice ao' rest.length cap', .int .i64 0]) ∧ SrcAt w' ao' cap' rest B' 0 ∧ Below w.heap.size w w' := by
  have ht := takeNum_yes ao cap bs B off w h hs n rest hn he
  have hnb : (n : Int) ≤ 4611686018427387903 := by omega
  obtain ⟨hi1, hi2⟩ := unzig_in n hn
  obtain ⟨z, hz0⟩ : ∃ z, z = unzig n := ⟨_, rfl⟩
  rw [← hz0] at hi1 hi2 ⊢
  have HT := Lib.hid ht
  clear ht he hn
  by_cases hodd : n % 2 = 1
  · have b : ((n : Int) % 2 == 1) = true := by simp; omega
    have hz2 : (-((n : Int) + 1)).tdiv 2 = z := by
      rw [hz0]; unfold unzig; rw [if_pos hodd, Int.neg_tdiv, Int.tdiv_eq_ediv_of_nonneg (by omega)]; omega
    clear hodd hz0
    go_enter Try.func22, Try.ntmps22
    go_wp2_with fail
    refine HT.out.mono ?_
    rintro e w1 ⟨ao1, cap1, B1, rfl, s1, b1⟩
    go_wp2_with fail
    go_ret3
    exact ⟨ao1, cap1, B1, rfl, s1, b1⟩
  · have b : ((n : Int) % 2 == 1) = false := by simp; omega
    have hz : (n : Int) / 2 = z := by rw [hz0]; unfold unzig; rw [if_neg hodd]; omega
    clear hodd hz0
    go_enter Try.func22, Try.ntmps22
    go_wp2_with fail
    refine HT.out.mono ?_
    rintro e w1 ⟨ao1, cap1, B1, rfl, s1, b1⟩
    go_wp2_with fail
    go_ret3
    exact ⟨ao1, cap1, B1, rfl, s1, b1⟩
end Go.Proofs.Ytplhcidfboaobaa
