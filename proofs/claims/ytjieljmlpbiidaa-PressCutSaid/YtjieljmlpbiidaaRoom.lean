/- The walk of PressRoom. -/
import Derived.Test.YtjieljmlpbiidaaAwake
import Derived.Test.YtjieljmlpbiidaaSame
namespace Go.Proofs.Ytjieljmlpbiidaa
open Go.RowKit
/-- Open of what Press made, with any room. -/
theorem open_of_press (bs : List UInt8) (hs : bs.length ≤ 140737488355328) (most : Int) (ao : Option Addr) (cap B off : Nat) (w : World) (h : SrcAt w ao cap (pressL bs) B off) :
    Calls Try.prog 14 #[.slice ao (pressL bs).length cap, .int .i64 most] w (Opened w (if most < (bs.length : Int) then none else some bs)) := by
  have hl := press_wide bs
  have ho := open_any ao cap (pressL bs) B off most w h (by omega) (fun s k hp _ => by
    unfold pressL at hp
    rw [parse_numL bs.length _ (by omega)] at hp
    simp only [Option.some.injEq, Prod.mk.injEq] at hp
    omega)
  rw [open_press bs (by omega)] at ho
  exact ho
set_option maxRecDepth 100000 in
set_option maxHeartbeats 800000 in
theorem room_law (ao : Option Addr) (cap : Nat) (bs : List UInt8) (B off : Nat) (most : Int) (w : World) (h : SrcAt w ao cap bs B off) (hs : bs.length ≤ 140737488355328) (_hm : (Lit.int .i64 most).wf = true) :
    Calls Try.prog 8 #[.slice ao bs.length cap, .int .i64 most] w fun e w' => e = .returned (.bool true) ∧ Below w.heap.size w w' := by
  have hp := fun (W : World) (hW : SrcAt W ao cap bs B off) => press_any ao cap bs B off W hW hs
  have hop := fun (a : Option Addr) (c b o : Nat) (W : World) (hW : SrcAt W a c (pressL bs) b o) => open_of_press bs hs most a c b o W hW
  obtain ⟨L, hL⟩ : ∃ L, L = pressL bs := ⟨_, rfl⟩
  rw [← hL] at hp hop
  obtain ⟨n, hn⟩ : ∃ n, n = bs.length := ⟨_, rfl⟩
  rw [← hn] at hp hop ⊢
  have HP := Lib.hid hp
  have HN := Lib.hid hn
  clear hp hL hn hs _hm
  by_cases hlt : most < (n : Int)
  · have hop2 := hop
    simp only [if_pos hlt] at hop2
    have HO := Lib.hid hop2
    have hd : decide (most < (n : Int)) = true := decide_eq_true hlt
    clear hop hop2 hlt
    go_enter Try.func8, Try.ntmps8
    go_wp2_with fail
    refine (awake_any _).mono ?_
    rintro e w1 ⟨rfl, b1⟩
    go_wp2_with fail
    refine (HP.out _ (h.below b1)).mono ?_
    rintro e w2 ⟨v2, rfl, o2, b2⟩
    have e2 := b1.trans (b2.mono b1.size)
    obtain ⟨a2, c2, B2, rfl, s2, _⟩ := src_of_own o2
    clear o2 b1 b2
    go_wp2_with fail
    refine (HO.out _ _ _ _ _ s2).mono ?_
    rintro e w3 ⟨rfl, b3⟩
    have e3 := e2.trans (b3.mono e2.size)
    go_wp2_with fail
    go_ret
    exact ⟨rfl, e3⟩
  · have hop2 := hop
    simp only [if_neg hlt] at hop2
    have HO := Lib.hid hop2
    have hd : decide (most < (n : Int)) = false := decide_eq_false hlt
    clear hop hop2 hlt
    go_enter Try.func8, Try.ntmps8
    go_wp2_with fail
    refine (awake_any _).mono ?_
    rintro e w1 ⟨rfl, b1⟩
    go_wp2_with fail
    refine (HP.out _ (h.below b1)).mono ?_
    rintro e w2 ⟨v2, rfl, o2, b2⟩
    have e2 := b1.trans (b2.mono b1.size)
    obtain ⟨a2, c2, B2, rfl, s2, _⟩ := src_of_own o2
    clear o2 b1 b2
    go_wp2_with fail
    refine (HO.out _ _ _ _ _ s2).mono ?_
    rintro e w3 ⟨a3, c3, B3, rfl, s3, b3⟩
    have e3 := e2.trans (b3.mono e2.size)
    have hsame := same_true _ s3 (h.below e3)
    rw [← HN.out] at hsame
    rw [← HN.out]
    have HSM := Lib.hid hsame
    clear hsame b3 s2
    go_wp2_with fail
    refine HSM.out.mono ?_
    rintro e w4 ⟨rfl, rfl⟩
    go_wp2_with fail
    go_ret
    exact ⟨rfl, e3⟩
end Go.Proofs.Ytjieljmlpbiidaa
