/- The walks of the document's answers for TakeInt and TakeText. -/
import Derived.Test.YtplhcidfboaobaaRefTake
import Derived.Test.YtplhcidfboaobaaText
namespace Go.Proofs.Ytplhcidfboaobaa
open Go.RowKit
theorem refTakeNum_no (ao : Option Addr) (cap : Nat) (bs : List UInt8) (B off : Nat) (w : World) (h : SrcAt w ao cap bs B off) (hs : bs.length ≤ 140737488355328) (hp : parse bs = none) :
    Calls Try.prog 19 #[.slice ao bs.length cap] w fun e w' => e = .returned (.tuple #[.int .i64 0, .slice none 0 0, .int .i64 2]) ∧ Below w.heap.size w w' := by
  refine (refTakeNum_any ao cap bs B off w h hs).mono ?_
  rintro e w' ⟨⟨_, h1⟩ | ⟨n, k, _, _, _, h1, _⟩, hb⟩
  · exact ⟨h1, hb⟩
  · rw [hp] at h1; cases h1
theorem refTakeNum_yes (ao : Option Addr) (cap : Nat) (bs : List UInt8) (B off : Nat) (w : World) (h : SrcAt w ao cap bs B off) (hs : bs.length ≤ 140737488355328) (n : Nat) (rest : List UInt8) (hn : n ≤ 4611686018427387903) (he : bs = numL n ++ rest) :
    Calls Try.prog 19 #[.slice ao bs.length cap] w fun e w' => ∃ ao' cap' B', e = .returned (.tuple #[.int .i64 (n : Int), .slice ao' rest.length cap', .int .i64 0]) ∧ SrcAt w' ao' cap' rest B' 0 ∧ Below w.heap.size w w' := by
  have hp := parse_numL n rest hn
  rw [← he] at hp
  refine (refTakeNum_any ao cap bs B off w h hs).mono ?_
  rintro e w' ⟨⟨h1, _⟩ | ⟨n', k, ao', cap', B', h1, h2, h3⟩, hb⟩
  · rw [hp] at h1; cases h1
  · rw [hp] at h1
    simp only [Option.some.injEq, Prod.mk.injEq] at h1
    obtain ⟨rfl, rfl⟩ := h1
    have e1 : bs.drop (numL n).length = rest := by rw [he, List.drop_left]
    rw [e1] at h2 h3
    exact ⟨ao', cap', B', h2, h3, hb⟩
set_option maxRecDepth 100000 in
set_option maxHeartbeats 800000 in
theorem refTakeInt_no (ao : Option Addr) (cap : Nat) (bs : List UInt8) (B off : Nat) (w : World) (h : SrcAt w ao cap bs B off) (hs : bs.length ≤ 140737488355328) (hp : parse bs = none) :
    Calls Try.prog 23 #[.slice ao bs.length cap] w fun e w' => e = .returned (.tuple #[.int .i64 0, .slice none 0 0, .int .i64 2]) ∧ Below w.heap.size w w' := by
  go_enter Try.func23, Try.ntmps23
  go_wp2_with fail
  refine (refTakeNum_no ao cap bs B off w h hs hp).mono ?_
  rintro e w1 ⟨rfl, b1⟩
  go_wp2_with fail
  go_ret3
  exact ⟨rfl, b1⟩
set_option maxRecDepth 100000 in
set_option maxHeartbeats 800000 in
theorem refTakeInt_yes (ao : Option Addr) (cap : Nat) (bs : List UInt8) (B off : Nat) (w : World) (h : SrcAt w ao cap bs B off) (hs : bs.length ≤ 140737488355328) (n : Nat) (rest : List UInt8) (hn : n ≤ 4611686018427387903) (he : bs = numL n ++ rest) :
    Calls Try.prog 23 #[.slice ao bs.length cap] w fun e w' => ∃ ao' cap' B', e = .returned (.tuple #[.int .i64 (unzig n), .slice ao' rest.length cap', .int .i64 0]) ∧ SrcAt w' ao' cap' rest B' 0 ∧ Below w.heap.size w w' := by
  have ht := refTakeNum_yes ao cap bs B off w h hs n rest hn he
  have hnb : (n : Int) ≤ 4611686018427387903 := by omega
  obtain ⟨hi1, hi2⟩ := unzig_in n hn
  obtain ⟨z, hz0⟩ : ∃ z, z = unzig n := ⟨_, rfl⟩
  rw [← hz0] at hi1 hi2 ⊢
  have HT := Lib.hid ht
  clear ht he hn
  by_cases hodd : n % 2 = 1
  · have b : ((n : Int) % 2 == 0) = false := by simp; omega
    have hz2 : (-((n : Int) + 1)).tdiv 2 = z := by
      rw [hz0]; unfold unzig; rw [if_pos hodd, Int.neg_tdiv, Int.tdiv_eq_ediv_of_nonneg (by omega)]; omega
    clear hodd hz0
    go_enter Try.func23, Try.ntmps23
    go_wp2_with fail
    refine HT.out.mono ?_
    rintro e w1 ⟨ao1, cap1, B1, rfl, s1, b1⟩
    go_wp2_with fail
    go_ret3
    exact ⟨ao1, cap1, B1, rfl, s1, b1⟩
  · have b : ((n : Int) % 2 == 0) = true := by simp; omega
    have hz : (n : Int) / 2 = z := by rw [hz0]; unfold unzig; rw [if_neg hodd]; omega
    clear hodd hz0
    go_enter Try.func23, Try.ntmps23
    go_wp2_with fail
    refine HT.out.mono ?_
    rintro e w1 ⟨ao1, cap1, B1, rfl, s1, b1⟩
    go_wp2_with fail
    go_ret3
    exact ⟨ao1, cap1, B1, rfl, s1, b1⟩
set_option maxRecDepth 100000 in
set_option maxHeartbeats 800000 in
theorem refTakeText_no (ao : Option Addr) (cap : Nat) (bs : List UInt8) (B off : Nat) (most : Int) (w : World) (h : SrcAt w ao cap bs B off) (hs : bs.length ≤ 140737488355328) (hp : NoText bs most) :
    Calls Try.prog 21 #[.slice ao bs.length cap, .int .i64 most] w fun e w' => e = .returned (.tuple #[.string (SL []), .slice none 0 0, .int .i64 2]) ∧ Below w.heap.size w w' := by
  rcases hp with hp | ⟨n, k, hp, hk, hn, hc⟩
  · have ht := refTakeNum_no ao cap bs B off w h hs hp
    have HT := Lib.hid ht
    clear ht hp
    go_enter Try.func21, Try.ntmps21
    go_wp2_with fail
    refine HT.out.mono ?_
    rintro e w1 ⟨rfl, b1⟩
    go_wp2_with fail
    go_ret3
    exact ⟨rfl, b1⟩
  · obtain ⟨_, r, he, hkl⟩ := parse_some hp
    have ht := refTakeNum_yes ao cap bs B off w h hs n r hn he
    have hrl : bs.length = k + r.length := by rw [hkl, he]; simp
    have HT := Lib.hid ht
    have hnb : (n : Int) ≤ 4611686018427387903 := by omega
    have hrb : r.length ≤ 140737488355328 := by omega
    have hc' : most < (n : Int) ∨ r.length < n := by omega
    clear ht hp hn he hkl hc hrl
    by_cases hm : most < (n : Int)
    · clear hc'
      go_enter Try.func21, Try.ntmps21
      go_wp2_with fail
      refine HT.out.mono ?_
      rintro e w1 ⟨ao1, cap1, B1, rfl, s1, b1⟩
      go_wp2_with fail
      go_ret3
      exact ⟨rfl, b1⟩
    · have hc2 : r.length < n := by rcases hc' with h1 | h1 <;> omega
      clear hc'
      go_enter Try.func21, Try.ntmps21
      go_wp2_with fail
      refine HT.out.mono ?_
      rintro e w1 ⟨ao1, cap1, B1, rfl, s1, b1⟩
      go_wp2_with fail
      go_ret3
      exact ⟨rfl, b1⟩
set_option maxRecDepth 100000 in
set_option maxHeartbeats 800000 in
theorem refTakeText_yes (ao : Option Addr) (cap : Nat) (bs : List UInt8) (B off : Nat) (most : Int) (w : World) (h : SrcAt w ao cap bs B off) (hs : bs.length ≤ 140737488355328) (t rest : List UInt8) (he : bs = numL t.length ++ (t ++ rest)) (hm : (t.length : Int) ≤ most) :
    Calls Try.prog 21 #[.slice ao bs.length cap, .int .i64 most] w fun e w' => ∃ ao' cap' B' off', e = .returned (.tuple #[.string (SL t), .slice ao' rest.length cap', .int .i64 0]) ∧ SrcAt w' ao' cap' rest B' off' ∧ Below w.heap.size w w' := by
  have hbl : bs.length = (numL t.length).length + (t.length + rest.length) := by rw [he]; simp
  have ht := refTakeNum_yes ao cap bs B off w h hs t.length (t ++ rest) (by omega) he
  obtain ⟨n, hn⟩ : ∃ n, n = t.length := ⟨_, rfl⟩
  obtain ⟨r, hr⟩ : ∃ r, r = rest.length := ⟨_, rfl⟩
  obtain ⟨m, hmm⟩ : ∃ m, m = (t ++ rest).length := ⟨_, rfl⟩
  have hmr : m = n + r := by rw [hmm, List.length_append, hn, hr]
  have hmb : m ≤ 140737488355328 := by rw [hmr]; omega
  rw [← hn, ← hmm] at ht
  rw [← hn] at hm
  rw [← hr]
  have HT := Lib.hid ht
  have HM := Lib.hid hmm
  have HR := Lib.hid hmr
  have HN := Lib.hid hn
  have HRR := Lib.hid hr
  have hnm : n ≤ m := by omega
  clear ht hmm hmr hn hr he hbl
  go_enter Try.func21, Try.ntmps21
  go_wp2_with fail
  refine HT.out.mono ?_
  rintro e w1 ⟨ao1, cap1, B1, rfl, s1, b1⟩
  obtain ⟨ao2, hsl2, hs2⟩ := s1.slice_h n (by rw [← HM.out]; exact hnm)
  obtain ⟨ao3, hsl3, hs3⟩ := s1.slice_l n (by rw [← HM.out]; exact hnm)
  rw [HN.out, List.take_left] at hs2
  rw [HN.out, List.drop_left] at hs3
  rw [← HM.out] at hsl2 hsl3
  have hmn : m - n = r := by have := HR.out; omega
  rw [hmn] at hsl3
  rw [← HN.out] at hs3
  have hcv : ∀ W' : World, Below w1.heap.size w1 W' → (convert 22 9 (.slice ao2 n cap1)).run Try.prog W' = .ok (.string (SL t)) W' := fun W' hb => by
    have h1 := convert_src (hs2.below hb)
    rw [← HN.out] at h1
    exact h1
  have cv0 := hcv w1 (Below.refl _ _)
  have cv1 := hcv w1.drew (Below.refl _ _).drew
  have HS3 := Lib.hid hs3
  clear hs2 hcv hmn hs3
  go_wp2_with fail
  go_region_with (fail)
  all_goals go_wp2
  all_goals go_ret3
  all_goals exact ⟨ao3, _, B1, _, rfl, HS3.out.below (Below.refl _ _).drew, b1.drew⟩
end Go.Proofs.Ytplhcidfboaobaa
