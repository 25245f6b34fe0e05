/- The small functions of package safe and of the document's answer: suffixes, what a Save needs. -/
import Derived.Test.YthibhkoneajffaaSafePure
import Derived.Test.YthibhkoneajffaaDiskRefSmall
import Derived.LoopTactic
namespace Go.Proofs.Ythibhkoneajffaa
open Go.RowKit
theorem SL_extract (n : Bs) (a b : Nat) : (SL n).extract a b = SL ((n.take b).drop a) := by
  apply ByteArray.ext
  rw [ByteArray.data_extract]
  simp [SL, List.extract_eq_take_drop, List.drop_take]
theorem SL_cat (a b : Bs) : SL a ++ SL b = SL (a ++ b) := by
  apply ByteArray.ext
  simp [SL]
theorem SL_shadow (n : Bs) : SL n ++ (⟨#[126]⟩ : ByteArray) = SL (shadowN n) := SL_cat n [126]
theorem snoc_of {n : Bs} (h : 1 ≤ n.length) : ∃ a x, n = a ++ [x] := by
  have hne : n ≠ [] := fun e => by subst e; simp at h
  exact ⟨n.dropLast, n.getLast hne, (List.dropLast_concat_getLast hne).symm⟩
theorem marked_snoc (a : Bs) (x : UInt8) : marked (a ++ [x]) = (x == 126) := by
  unfold marked
  rw [List.getLast?_append]
  by_cases e : x = 126
  · simp [e]
  · simp [e]
theorem marked_eq {n : Bs} (h : 1 ≤ n.length) : marked n = (((SL n).extract (n.length - 1) n.length).toList == [126]) := by
  rw [SL_extract, List.take_length, SL_toList]
  obtain ⟨a, x, rfl⟩ := snoc_of h
  rw [marked_snoc]
  simp
set_option maxRecDepth 100000 in
theorem suffix1_any (n : Bs) (hn : n.length ≤ 9223372036854775807) (w : World) : Calls Try.prog 68 #[.string (SL n), .string ⟨#[126]⟩] w fun e w' => e = .returned (.bool (marked n)) ∧ w' = w := by
  have hs : (SL n).size = n.length := SL_size n
  obtain ⟨k, hk⟩ : ∃ k, k = n.length := ⟨_, rfl⟩
  have h1 : (⟨#[126]⟩ : ByteArray).size = 1 := rfl
  by_cases h0 : 1 ≤ k
  · have hm := marked_eq (n := n) (by omega)
    rw [← hk] at hs hn hm
    have g1 : (k : Int) ≥ 1 := by omega
    have g2 : wrap64 ((k : Int) - 1) = ((k - 1 : Nat) : Int) := by rw [IntWalk.wrap64_in _ ⟨by omega, by omega⟩]; omega
    obtain ⟨t, ht⟩ : ∃ t, t = marked n := ⟨_, rfl⟩
    rw [← ht] at hm ⊢
    have HM := Lib.hid hm
    clear hm ht hk
    go_enter Try.func68, Try.ntmps68
    go_wp2
    go_ret
    exact ⟨by rw [HM.out] <;> rfl, rfl⟩
  · have hn0 : n = [] := List.eq_nil_of_length_eq_zero (by omega)
    subst hn0
    have hz : (SL []).size = 0 := rfl
    go_enter Try.func68, Try.ntmps68
    go_wp2
    go_ret
    exact ⟨rfl, rfl⟩
set_option maxRecDepth 100000 in
theorem suffix_any (n : Bs) (hn : n.length ≤ 9223372036854775807) (w : World) : Calls Try.prog 51 #[.string (SL n), .string ⟨#[126]⟩] w fun e w' => e = .returned (.bool (marked n)) ∧ w' = w := by
  have h := suffix1_any n hn w
  go_enter Try.func51, Try.ntmps51
  go_wp2_with (go_at_call 68; refine h.mono ?_; rintro e w' ⟨rfl, rfl⟩)
  go_ret
  exact ⟨rfl, rfl⟩
/-- What a Save needs, as the code reckons it. -/
def needI (n : Bs) (m : Int) : Int := wrap64 (wrap64 (wrap64 (16 + (n.length : Int)) + 1) + max m 0)
theorem needI_nat {n : Bs} {k : Nat} (hn : n.length ≤ 281474976710656) (hk : k ≤ 281474976710656) : needI n (k : Int) = needS n k := by
  unfold needI needS
  rw [IntWalk.wrap64_in (16 + (n.length : Int)) ⟨by omega, by omega⟩, IntWalk.wrap64_in (16 + (n.length : Int) + 1) ⟨by omega, by omega⟩, IntWalk.wrap64_in _ ⟨by omega, by omega⟩]
  omega
set_option maxRecDepth 100000 in
theorem need_any (n : Bs) (m : Int) (w : World) : Calls Try.prog 28 #[.string (SL n), .int .i64 m] w fun e w' => e = .returned (.int .i64 (needI n m)) ∧ w' = w := by
  have hs : (SL n).size = n.length := SL_size n
  unfold needI
  go_enter Try.func28, Try.ntmps28
  go_wp2
  go_ret
  exact ⟨rfl, rfl⟩
set_option maxRecDepth 100000 in
theorem refNeed_any (n : Bs) (m : Int) (w : World) : Calls Try.prog 29 #[.string (SL n), .int .i64 m] w fun e w' => e = .returned (.int .i64 (needI n m)) ∧ w' = w := by
  have hs : (SL n).size = n.length := SL_size n
  unfold needI
  go_enter Try.func29, Try.ntmps29
  go_wp2
  go_ret
  exact ⟨rfl, rfl⟩
theorem marked_last {n : Bs} (h : n.length - 1 < (SL n).size) (h1 : 1 ≤ n.length) : marked n = ((((SL n)[n.length - 1]'h).toNat : Int) == 126) := by
  obtain ⟨a, y, rfl⟩ := snoc_of h1
  have e1 : (SL (a ++ [y]))[(a ++ [y]).length - 1]'h = (a ++ [y])[(a ++ [y]).length - 1]'(by simp) := rfl
  have e2 : (a ++ [y])[(a ++ [y]).length - 1]'(by simp) = y := by simp
  rw [e1, e2, marked_snoc]
  by_cases e : y = 126
  · subst e; rfl
  · have e3 : ¬ ((y.toNat : Int) = 126) := fun h => e (UInt8.toNat_inj.1 (by show y.toNat = 126; omega))
    rw [beq_false_of_ne e, beq_false_of_ne e3]
set_option maxRecDepth 100000 in
theorem refShadow_any (n : Bs) (hn : n.length ≤ 9223372036854775807) (w : World) : Calls Try.prog 53 #[.string (SL n)] w fun e w' => e = .returned (.bool (marked n)) ∧ w' = w := by
  have hs : (SL n).size = n.length := SL_size n
  by_cases h0 : 1 ≤ n.length
  · have hm := marked_last (n := n) (by omega) h0
    have g1 : (n.length : Int) > 0 := by omega
    have g2 : wrap64 ((n.length : Int) - 1) = ((n.length - 1 : Nat) : Int) := by rw [IntWalk.wrap64_in _ ⟨by omega, by omega⟩]; omega
    have HM := Lib.hid hm
    clear hm
    go_enter Try.func53, Try.ntmps53
    go_wp2
    go_ret
    exact ⟨by rw [HM.out] <;> rfl, rfl⟩
  · have hn0 : n = [] := List.eq_nil_of_length_eq_zero (by omega)
    subst hn0
    have hz : (SL []).size = 0 := rfl
    go_enter Try.func53, Try.ntmps53
    go_wp2
    go_ret
    exact ⟨rfl, rfl⟩
end Go.Proofs.Ythibhkoneajffaa
