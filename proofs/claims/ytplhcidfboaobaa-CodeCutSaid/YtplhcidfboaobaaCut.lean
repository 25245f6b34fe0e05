/- The walk of CodeCut. -/
import Derived.Test.YtplhcidfboaobaaAwake
import Derived.Test.YtplhcidfboaobaaText
namespace Go.Proofs.Ytplhcidfboaobaa
open Go.RowKit
theorem and_small (c : Int) (m : Nat) (hm : m ≤ 65535) : ∃ v : Nat, v ≤ m ∧ bits .and .i64 c (m : Int) = (v : Int) := by
  have hw : bits .and .i64 c (m : Int) = IntKind.i64.wrap (((BitVec.ofInt 64 c) &&& (BitVec.ofInt 64 (m : Int))).toNat : Int) := rfl
  have e : (BitVec.ofInt 64 (m : Int)).toNat = m := by
    rw [BitVec.toNat_ofInt]
    omega
  have hle : ((BitVec.ofInt 64 c) &&& (BitVec.ofInt 64 (m : Int))).toNat ≤ m := by
    rw [BitVec.toNat_and, e]
    exact Nat.and_le_right
  exact ⟨_, hle, by rw [hw]; exact IntWalk.i64_in _ (by omega)⟩
theorem noText_cut (s : List UInt8) (j : Nat) (most : Int) (hs : s.length ≤ 4611686018427387903) (hj : j < (numL s.length ++ s).length) : NoText ((numL s.length ++ s).take j) most := by
  by_cases hk : j < (numL s.length).length
  · exact .inl (parse_cut hs hk)
  · have e : (numL s.length ++ s).take j = numL s.length ++ s.take (j - (numL s.length).length) := by
      rw [List.take_append, List.take_of_length_le (by omega)]
    rw [List.length_append] at hj
    rw [e]
    exact .inr ⟨s.length, _, parse_numL _ _ hs, by rw [List.length_append]; omega, hs, .inr (by rw [List.length_append, List.length_take]; omega)⟩
theorem noText_less (s : List UInt8) (hs : s.length ≤ 4611686018427387903) : NoText (numL s.length ++ s) ((s.length : Int) - 1) :=
  .inr ⟨s.length, _, parse_numL _ _ hs, by rw [List.length_append]; omega, hs, .inl (by omega)⟩
set_option maxRecDepth 100000 in
set_option maxHeartbeats 1600000 in
theorem cut_law (n at_ : Int) (s : ByteArray) (w : World) (hs : s.size ≤ 140737488351232) :
    Calls Try.prog 7 #[.int .i64 n, .string s, .int .i64 at_] w fun e w' => e = .returned (.bool true) ∧ Below w.heap.size w w' := by
  have hcl := clampN_le n
  obtain ⟨L, hL⟩ : ∃ L : List UInt8, L = numL (clampN n) := ⟨_, rfl⟩
  obtain ⟨M, hM⟩ : ∃ M : List UInt8, M = numL s.size ++ s.data.toList := ⟨_, rfl⟩
  have hLl : 0 < L.length ∧ L.length ≤ 9 := by rw [hL]; exact ⟨numL_pos _, numL_le _⟩
  have hMl : 0 < M.length ∧ M.length ≤ 140737488351232 + 9 := by
    have h1 := numL_pos s.size
    have h2 := numL_le s.size
    have h3 : s.data.toList.length = s.size := rfl
    rw [hM, List.length_append]
    omega
  have pa : ∀ W : World, Calls Try.prog 12 #[.slice none 0 0, .int .i64 n] W fun e w' => ∃ ao cap B, e = .returned (.slice ao L.length cap) ∧ SrcAt w' ao cap L B 0 ∧ Below W.heap.size W w' := fun W => by
    refine (putNum_any none 0 [] 0 0 n W (src_nil W) (by decide)).mono fun e w' ⟨v, he, ho, hb⟩ => ?_
    rw [List.nil_append, ← hL] at ho
    obtain ⟨ao, cap, B, rfl, hs, _⟩ := src_of_own ho
    exact ⟨ao, cap, B, he, hs, hb⟩
  have pb : ∀ W : World, Calls Try.prog 14 #[.slice none 0 0, .string s] W fun e w' => ∃ ao cap B, e = .returned (.slice ao M.length cap) ∧ SrcAt w' ao cap M B 0 ∧ Below W.heap.size W w' := fun W => by
    refine (putText_any none 0 [] 0 0 s W (src_nil W) (by rw [List.length_nil]; omega)).mono fun e w' ⟨v, he, ho, hb⟩ => ?_
    rw [List.nil_append, ← hM] at ho
    obtain ⟨ao, cap, B, rfl, hs, _⟩ := src_of_own ho
    exact ⟨ao, cap, B, he, hs, hb⟩
  obtain ⟨u, hu, hau⟩ := and_small at_ 63 (by decide)
  obtain ⟨v, hv, hav⟩ := and_small at_ 65535 (by decide)
  have hsl : s.data.toList.length = s.size := rfl
  have ta : ∀ j, j < L.length → parse (L.take j) = none := fun j hj => by
    have h1 := parse_cut (r := []) hcl (by rw [← hL]; exact hj)
    rw [List.append_nil, ← hL] at h1
    exact h1
  have tb : ∀ j, j < M.length → NoText (M.take j) (s.size : Int) := fun j hj => by
    have h1 := noText_cut s.data.toList j (s.size : Int) (by rw [hsl]; omega) (by rw [hsl, ← hM]; exact hj)
    rw [hsl, ← hM] at h1
    exact h1
  have tc : NoText M ((s.size : Int) - 1) := by
    have h1 := noText_less s.data.toList (by rw [hsl]; omega)
    rw [hsl, ← hM] at h1
    exact h1
  obtain ⟨la, hla⟩ : ∃ la, la = L.length := ⟨_, rfl⟩
  obtain ⟨lb, hlb⟩ : ∃ lb, lb = M.length := ⟨_, rfl⟩
  rw [← hla] at hLl pa ta
  rw [← hlb] at hMl pb tb
  obtain ⟨hla0, hla9⟩ := hLl
  obtain ⟨hlb0, hlb9⟩ := hMl
  have HLA := Lib.hid hla
  have HLB := Lib.hid hlb
  have PA := Lib.hid pa
  have PB := Lib.hid pb
  have TA := Lib.hid ta
  have TB := Lib.hid tb
  have TC := Lib.hid tc
  have z1 : ((la : Int) == 0) = false := by simp; omega
  have z2 : ((lb : Int) == 0) = false := by simp; omega
  have hau' : bits .and .i64 at_ 63 = (u : Int) := hau
  have hav' : bits .and .i64 at_ 65535 = (v : Int) := hav
  clear hL hM hcl pa pb ta tb tc hla hlb hsl hau hav
  go_enter Try.func7, Try.ntmps7
  go_wp2_with fail
  refine (awake_any _).mono ?_
  rintro e w1 ⟨rfl, b1⟩
  go_wp2_with fail
  refine (PA.out _).mono ?_
  rintro e w2 ⟨a2, c2, B2, rfl, s2, b2⟩
  have e2 := b1.trans (b2.mono b1.size)
  clear b1 b2
  go_wp2_with fail
  refine (PB.out _).mono ?_
  rintro e w3 ⟨a3, c3, B3, rfl, s3, b3⟩
  have e3 := e2.trans (b3.mono e2.size)
  have s2 := s2.below b3
  clear b3 e2
  obtain ⟨a4, sl4, s4⟩ := s2.slice_h (u % la) (by rw [← HLA.out]; exact Nat.le_of_lt (Nat.mod_lt _ hla0))
  obtain ⟨a5, sl5, s5⟩ := s3.slice_h (v % lb) (by rw [← HLB.out]; exact Nat.le_of_lt (Nat.mod_lt _ hlb0))
  rw [← HLA.out, Int.natCast_emod] at sl4
  rw [← HLB.out, Int.natCast_emod] at sl5
  have m1 : u % la < la := Nat.mod_lt _ hla0
  have m2 : v % lb < lb := Nat.mod_lt _ hlb0
  have l4 : (L.take (u % la)).length = u % la := by rw [List.length_take, ← HLA.out]; omega
  have l5 : (M.take (v % lb)).length = v % lb := by rw [List.length_take, ← HLB.out]; omega
  have t4 : ∀ W : World, Below w3.heap.size w3 W → Calls Try.prog 18 #[.slice a4 (u % la) c2] W fun e w' => e = .returned (.tuple #[.int .i64 0, .slice none 0 0, .int .i64 2]) ∧ w' = W := fun W hW => by
    have h1 := takeNum_no a4 c2 _ B2 0 W (s4.below hW) (by rw [l4]; omega) (TA.out _ m1)
    rw [l4] at h1
    exact h1
  have t5 : ∀ W : World, Below w3.heap.size w3 W → Calls Try.prog 20 #[.slice a5 (v % lb) c3, .int .i64 (s.size : Int)] W fun e w' => e = .returned (.tuple #[.string (SL []), .slice none 0 0, .int .i64 2]) ∧ w' = W := fun W hW => by
    have h1 := takeText_no a5 c3 _ B3 0 (s.size : Int) W (s5.below hW) (by rw [l5]; omega) (TB.out _ m2)
    rw [l5] at h1
    exact h1
  have t6 : ∀ W : World, Below w3.heap.size w3 W → Calls Try.prog 20 #[.slice a3 lb c3, .int .i64 ((s.size : Int) - 1)] W fun e w' => e = .returned (.tuple #[.string (SL []), .slice none 0 0, .int .i64 2]) ∧ w' = W := fun W hW => by
    have h1 := takeText_no a3 c3 M B3 0 ((s.size : Int) - 1) W (s3.below hW) (by rw [← HLB.out]; omega) TC.out
    rw [← HLB.out] at h1
    exact h1
  have T4 := Lib.hid t4
  have T5 := Lib.hid t5
  have T6 := Lib.hid t6
  clear m1 m2 l4 l5 t4 t5 t6 s4 s5 s2 s3
  go_wp2_with fail
  refine (T4.out _ (Below.refl _ _)).mono ?_
  rintro e w4 ⟨rfl, rfl⟩
  go_wp2_with fail
  refine (T5.out _ (Below.refl _ _)).mono ?_
  rintro e w4 ⟨rfl, rfl⟩
  go_wp2_with fail
  refine (T6.out _ (Below.refl _ _)).mono ?_
  rintro e w4 ⟨rfl, rfl⟩
  go_wp2_with fail
  go_ret
  exact ⟨rfl, e3⟩
end Go.Proofs.Ytplhcidfboaobaa
