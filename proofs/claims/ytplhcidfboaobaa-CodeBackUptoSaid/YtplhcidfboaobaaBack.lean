/- The walk of CodeBack. -/
import Derived.Test.YtplhcidfboaobaaOnly
namespace Go.Proofs.Ytplhcidfboaobaa
open Go.RowKit
set_option maxRecDepth 100000 in
set_option maxHeartbeats 1600000 in
theorem back_law (n m : Int) (s : ByteArray) (ao : Option Addr) (cap : Nat) (bs : List UInt8) (B off : Nat) (w : World) (h : SrcAt w ao cap bs B off) (hs : bs.length + s.size ≤ 1048576) :
    Calls Try.prog 5 #[.int .i64 n, .string s, .int .i64 m, .slice ao bs.length cap] w fun e w' => e = .returned (.bool true) ∧ Below w.heap.size w w' := by
  obtain ⟨q1, c1, c2⟩ := clamp_max_min n
  obtain ⟨q2, d1, d2⟩ := clamp_int2 m
  have hcl := clampN_le n
  have hci := clampI_in m
  obtain ⟨a, ha⟩ : ∃ a : Nat, a = clampN n := ⟨_, rfl⟩
  obtain ⟨z, hz⟩ : ∃ z : Int, z = clampI m := ⟨_, rfl⟩
  have hsl : s.data.toList.length = s.size := rfl
  obtain ⟨L1, hL1⟩ : ∃ L : List UInt8, L = numL a := ⟨_, rfl⟩
  obtain ⟨L2, hL2⟩ : ∃ L : List UInt8, L = L1 ++ (numL s.size ++ s.data.toList) := ⟨_, rfl⟩
  obtain ⟨L3, hL3⟩ : ∃ L : List UInt8, L = L2 ++ intL m := ⟨_, rfl⟩
  obtain ⟨R1, hR1⟩ : ∃ R : List UInt8, R = numL s.size ++ (s.data.toList ++ (intL m ++ bs)) := ⟨_, rfl⟩
  obtain ⟨R2, hR2⟩ : ∃ R : List UInt8, R = intL m ++ bs := ⟨_, rfl⟩
  obtain ⟨T, hT⟩ : ∃ T : List UInt8, T = L3 ++ bs := ⟨_, rfl⟩
  have g1 := numL_le a
  have g2 := numL_le s.size
  have g3 := intL_le m
  have hl1 : L1.length ≤ 9 := by rw [hL1]; exact g1
  have hl2 : L2.length ≤ 18 + s.size := by rw [hL2]; simp only [List.length_append, hsl]; omega
  have hl3 : L3.length ≤ 27 + s.size := by rw [hL3]; simp only [List.length_append]; omega
  have hlT : T.length ≤ 27 + 1048576 := by rw [hT]; simp only [List.length_append]; omega
  have hT1 : T = numL a ++ R1 := by rw [hT, hL3, hL2, hL1, hR1]; simp only [List.append_assoc]
  have hR12 : R1 = numL s.data.toList.length ++ (s.data.toList ++ R2) := by rw [hR1, hR2, hsl]
  have hR23 : R2 = numL (zig z) ++ bs := by rw [hR2, intL, hz]
  have hr1 : R1.length ≤ 27 + 1048576 := by rw [hR1]; simp only [List.length_append, hsl]; omega
  have hr2 : R2.length ≤ 27 + 1048576 := by rw [hR2]; simp only [List.length_append]; omega
  have pu1 : ∀ W : World, Calls Try.prog 12 #[.slice none 0 0, .int .i64 n] W (fun e w' => ∃ ao cap B, e = .returned (.slice ao L1.length cap) ∧ SrcAt w' ao cap L1 B 0 ∧ Below W.heap.size W w') := fun W => by
    refine (putNum_any none 0 [] 0 0 n W (src_nil W) (by decide)).mono fun e w' ⟨v, he, ho, hb⟩ => ?_
    rw [List.nil_append, ← ha, ← hL1] at ho
    obtain ⟨a2, k2, B2, rfl, hs2, _⟩ := src_of_own ho
    exact ⟨a2, k2, B2, he, hs2, hb⟩
  have pu2 : ∀ (W : World) (a1 : Option Addr) (k1 B1 : Nat), SrcAt W a1 k1 L1 B1 0 → Calls Try.prog 14 #[.slice a1 L1.length k1, .string s] W (fun e w' => ∃ ao cap B, e = .returned (.slice ao L2.length cap) ∧ SrcAt w' ao cap L2 B 0 ∧ Below W.heap.size W w') := fun W a1 k1 B1 h1 => by
    refine (putText_any a1 k1 L1 B1 0 s W h1 (by omega)).mono fun e w' ⟨v, he, ho, hb⟩ => ?_
    rw [← hL2] at ho
    obtain ⟨a2, k2, B2, rfl, hs2, _⟩ := src_of_own ho
    exact ⟨a2, k2, B2, he, hs2, hb⟩
  have pu3 : ∀ (W : World) (a1 : Option Addr) (k1 B1 : Nat), SrcAt W a1 k1 L2 B1 0 → Calls Try.prog 16 #[.slice a1 L2.length k1, .int .i64 m] W (fun e w' => ∃ v, e = .returned v ∧ w'.ownsRow W.heap.size 5 1 v L3.length (L3.map B8) ∧ Below W.heap.size W w') := fun W a1 k1 B1 h1 => by
    refine (putInt_any a1 k1 L2 B1 0 m W h1 (by omega)).mono fun e w' ⟨v, he, ho, hb⟩ => ?_
    rw [← hL3] at ho
    exact ⟨v, he, ho, hb⟩
  have tk1 := fun a1 k1 B1 W hW => takeNum_yes a1 k1 T B1 0 W hW (by omega) a R1 (by rw [ha]; exact hcl) hT1
  have tk2 := fun a1 k1 B1 W hW => takeText_yes a1 k1 R1 B1 0 (s.size : Int) W hW (by omega) s.data.toList R2 hR12 (by rw [hsl]; omega)
  have tk3 := fun a1 k1 B1 W hW => takeInt_yes a1 k1 R2 B1 0 W hW (by omega) (zig z) bs (zig_le z (by rw [hz]; exact hci)) hR23
  rw [SL_data] at tk2
  rw [unzig_zig] at tk3
  rw [← ha] at c2 hcl
  rw [← hz] at d2 hci
  obtain ⟨hci1, hci2⟩ := hci
  obtain ⟨l3, hl3'⟩ : ∃ l, l = L3.length := ⟨_, rfl⟩
  obtain ⟨lb, hlb⟩ : ∃ l, l = bs.length := ⟨_, rfl⟩
  have hadd : l3 + lb ≤ 140737488355328 := by rw [hl3', hlb]; omega
  rw [← hl3'] at pu3
  rw [← hlb] at tk3 ⊢
  have PU1 := Lib.hid pu1
  have PU2 := Lib.hid pu2
  have PU3 := Lib.hid pu3
  have TK1 := Lib.hid tk1
  have TK2 := Lib.hid tk2
  have TK3 := Lib.hid tk3
  have HL3 := Lib.hid hl3'
  have HLB := Lib.hid hlb
  have HT := Lib.hid hT
  clear pu1 pu2 pu3 tk1 tk2 tk3 hl3' hlb hT hT1 hR12 hR23 hr1 hr2 hlT hl1 hl2 hl3 g1 g2 g3 hL1 hL2 hL3 hR1 hR2 ha hz hsl
  have C1 := Lib.hid c1
  have C2 := Lib.hid c2
  have D1 := Lib.hid d1
  have D2 := Lib.hid d2
  clear c1 c2 d1 d2
  go_enter Try.func5, Try.ntmps5
  go_wp2_with fail
  refine (awake_any _).mono ?_
  rintro e w1 ⟨rfl, e1⟩
  go_wp2_with fail
  refine (PU1.out _).mono ?_
  rintro e w2 ⟨a2, k2, B2, rfl, s2, b2⟩
  have e2 := e1.trans (b2.mono e1.size)
  clear b2 e1
  go_wp2_with fail
  refine (PU2.out _ a2 k2 B2 s2).mono ?_
  rintro e w3 ⟨a3, k3, B3, rfl, s3, b3⟩
  have e3 := e2.trans (b3.mono e2.size)
  clear b3 e2 s2
  go_wp2_with fail
  refine (PU3.out _ a3 k3 B3 s3).mono ?_
  rintro e w4 ⟨v4, rfl, o4, b4⟩
  have e4 := e3.trans (b4.mono e3.size)
  have hsz := b4.size
  have hws := e3.size
  have h4 := h.below e4
  have O4 := Lib.hid o4
  clear b4 e3 s3 o4
  go_wp2_with (at_builtin; refine wpList_append_src rfl _ _ rfl w3.heap.size _ l3 _ rfl O4.out ao lb cap rfl (bs.map B8) (by rw [List.length_map]; exact HLB.out.symm) (fun hh => by rw [HLB.out]; exact h4.bare hh) h4.cells (B8_one _) hadd hsz ?_; intro v5 w5 O5 hg5 hv5; have G5 := Lib.hid hg5; clear hg5 hv5)
  obtain ⟨a5, k5, B5, rfl, s5⟩ := own_back O5 HL3.out HLB.out HT.out
  have e5 := e4.grown G5.out e4.size (fun k hk => Nat.le_trans hws ((O4.out.lt k hk).1))
  clear O4 O5 G5 hsz hws h4 e4
  go_wp2_with fail
  refine (TK1.out a5 k5 B5 _ s5).mono ?_
  rintro e w6 ⟨a6, k6, B6, rfl, s6, b6⟩
  have e6 := e5.trans (b6.mono e5.size)
  clear b6 e5 s5
  go_wp2_with fail
  refine (TK2.out a6 k6 B6 _ s6).mono ?_
  rintro e w7 ⟨a7, k7, B7, rfl, s7, b7⟩
  have e7 := e6.trans (b7.mono e6.size)
  clear b7 e6 s6
  go_wp2_with fail
  refine (TK3.out a7 k7 B7 _ s7).mono ?_
  rintro e w8 ⟨a8, k8, B8', rfl, s8, b8⟩
  have e8 := e7.trans (b8.mono e7.size)
  clear b8 e7 s7
  have c1 := C1.out
  have c2 := C2.out
  have d1 := D1.out
  have d2 := D2.out
  go_wp2_with fail
  rw [HLB.out]
  refine (same_true _ s8 (h.below e8)).mono ?_
  rintro e x8 ⟨rfl, rfl⟩
  clear c1 c2 d1 d2
  go_wp2_with fail
  go_ret
  exact ⟨rfl, e8⟩
end Go.Proofs.Ytplhcidfboaobaa
