/- The walk of PressBack. -/
import Derived.Test.YtjieljmlpbiidaaRoom
import Derived.Test.YtjieljmlpbiidaaLike
namespace Go.Proofs.Ytjieljmlpbiidaa
open Go.RowKit
set_option maxRecDepth 100000 in
set_option maxHeartbeats 1600000 in
theorem back_law (ao : Option Addr) (cap : Nat) (bs : List UInt8) (B off : Nat) (more : Int) (w : World) (h : SrcAt w ao cap bs B off) (hs : bs.length ≤ 140737488355328) (_hm : (Lit.int .i64 more).wf = true) :
    Calls Try.prog 5 #[.slice ao bs.length cap, .int .i64 more] w fun e w' => e = .returned (.bool true) ∧ Below w.heap.size w w' := by
  obtain ⟨u, hu, hau⟩ := and_small more 1023 (by decide)
  have hau' : bits .and .i64 more 1023 = (u : Int) := hau
  have hp := fun (W : World) (hW : SrcAt W ao cap bs B off) => press_any ao cap bs B off W hW hs
  have ho1 := fun (a : Option Addr) (c b o : Nat) (W : World) (hW : SrcAt W a c (pressL bs) b o) => open_of_press bs hs ((bs.length : Int) + (u : Int)) a c b o W hW
  have ho2 := fun (a : Option Addr) (c b o : Nat) (W : World) (hW : SrcAt W a c (pressL bs) b o) => open_of_press bs hs ((bs.length : Int) - 1) a c b o W hW
  have hn1 : ¬ ((bs.length : Int) + (u : Int) < (bs.length : Int)) := by omega
  have hn2 : (bs.length : Int) - 1 < (bs.length : Int) := by omega
  simp only [if_neg hn1] at ho1
  simp only [if_pos hn2] at ho2
  have hsmall : bs.length ≤ 1048576 → (pressL bs).length ≤ bs.length + bs.length / 4 + 9 := press_le bs
  obtain ⟨L, hL⟩ : ∃ L, L = pressL bs := ⟨_, rfl⟩
  rw [← hL] at hp ho1 ho2 hsmall
  obtain ⟨n, hn⟩ : ∃ n, n = bs.length := ⟨_, rfl⟩
  rw [← hn] at hp ho1 ho2 hsmall hs ⊢
  obtain ⟨m, hm⟩ : ∃ m, m = L.length := ⟨_, rfl⟩
  rw [← hm] at ho1 ho2 hsmall
  have HP := Lib.hid hp
  have HO1 := Lib.hid ho1
  have HO2 := Lib.hid ho2
  have HN := Lib.hid hn
  have HM := Lib.hid hm
  clear hp hL hn _hm hn1 hn2 ho1 ho2 hau hm
  by_cases hbig : 1048576 < n
  · clear hsmall
    go_enter Try.func5, Try.ntmps5
    go_wp2_with fail
    refine (awake_any _).mono ?_
    rintro e w1 ⟨rfl, b1⟩
    go_wp2_with fail
    refine (HP.out _ (h.below b1)).mono ?_
    rintro e w2 ⟨v2, rfl, o2, b2⟩
    have e2 := b1.trans (b2.mono b1.size)
    obtain ⟨a2, c2, B2, rfl, s2, _⟩ := src_of_own o2
    rw [← HM.out]
    clear o2 b1 b2
    go_wp2_with fail
    refine (HO1.out _ _ _ _ _ s2).mono ?_
    rintro e w3 ⟨a3, c3, B3, rfl, s3, b3⟩
    have e3 := e2.trans (b3.mono e2.size)
    have s2 := s2.below b3
    rw [← HN.out]
    clear b3 e2
    go_wp2_with fail
    refine (HO2.out _ _ _ _ _ s2).mono ?_
    rintro e w4 ⟨rfl, b4⟩
    have e4 := e3.trans (b4.mono e3.size)
    have s3 := s3.below b4
    have hsame := same_true _ s3 (h.below e4)
    rw [← HN.out] at hsame
    have HSM := Lib.hid hsame
    clear hsame b4 s2 e3
    go_wp2_with fail
    refine HSM.out.mono ?_
    rintro e w5 ⟨rfl, rfl⟩
    go_wp2_with fail
    go_ret
    exact ⟨rfl, e4⟩
  · have hle := hsmall (by omega)
    have hleI : (m : Int) ≤ (n : Int) + (n : Int) / 4 + 9 := by omega
    clear hsmall
    go_enter Try.func5, Try.ntmps5
    go_wp2_with fail
    refine (awake_any _).mono ?_
    rintro e w1 ⟨rfl, b1⟩
    go_wp2_with fail
    refine (HP.out _ (h.below b1)).mono ?_
    rintro e w2 ⟨v2, rfl, o2, b2⟩
    have e2 := b1.trans (b2.mono b1.size)
    obtain ⟨a2, c2, B2, rfl, s2, _⟩ := src_of_own o2
    rw [← HM.out]
    clear o2 b1 b2
    go_wp2_with fail
    refine (HO1.out _ _ _ _ _ s2).mono ?_
    rintro e w3 ⟨a3, c3, B3, rfl, s3, b3⟩
    have e3 := e2.trans (b3.mono e2.size)
    have s2 := s2.below b3
    rw [← HN.out]
    clear b3 e2
    go_wp2_with fail
    refine (HO2.out _ _ _ _ _ s2).mono ?_
    rintro e w4 ⟨rfl, b4⟩
    have e4 := e3.trans (b4.mono e3.size)
    have s3 := s3.below b4
    have hsame := same_true _ s3 (h.below e4)
    rw [← HN.out] at hsame
    have HSM := Lib.hid hsame
    clear hsame b4 s2 e3
    go_wp2_with fail
    refine HSM.out.mono ?_
    rintro e w5 ⟨rfl, rfl⟩
    go_wp2_with fail
    go_ret
    exact ⟨rfl, e4⟩
end Go.Proofs.Ytjieljmlpbiidaa
