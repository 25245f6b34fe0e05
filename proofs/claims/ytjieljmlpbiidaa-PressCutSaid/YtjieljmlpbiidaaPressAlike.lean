/- The walk of alike. -/
import Derived.Test.YtjieljmlpbiidaaPressFour
import Derived.Laws.Rows
namespace Go.Proofs.Ytjieljmlpbiidaa
open Go.RowKit
theorem ret_int {k : IntKind} {a b : Int} (h : a = b) : Ending.returned (.int k a) = .returned (.int k b) := by rw [h]
set_option maxRecDepth 100000 in
set_option maxHeartbeats 800000 in
theorem alike_any (ao : Option Addr) (cap : Nat) (bs : List UInt8) (B off : Nat) (k i n most : Nat) (w : World) (h : SrcAt w ao cap bs B off) (hs : bs.length ≤ 281474976710656) (hk : k < i) (hm : most = min 259 (bs.length - i)) (hi : i ≤ bs.length) (hn : n ≤ most) (he : ∀ j, j < n → bs.getD (k + j) 0 = bs.getD (i + j) 0) :
    Calls Try.prog 33 #[.slice ao bs.length cap, .int .i64 (k : Int), .int .i64 (i : Int), .int .i64 (n : Int), .int .i64 (most : Int)] w fun e w' => e = .returned (.int .i64 (alike bs k i : Int)) ∧ Below w.heap.size w w' := by
  obtain ⟨N, hN⟩ : ∃ N, N = bs.length := ⟨_, rfl⟩
  have HE := Lib.hid he
  have HM := Lib.hid hm
  have hml : i + most ≤ N := by omega
  have hNl : N ≤ bs.length := by omega
  rw [← hN] at hs hi ⊢
  have HN := Lib.hid hN
  clear he hm hN
  go_enter Try.func33, Try.ntmps33
  go_wp2
  go_loopw [3] (fun x wr => ∃ y : Nat, x = .int .i64 (y : Int) ∧ n ≤ y ∧ y ≤ most ∧ Below w.heap.size w wr ∧ ∀ j, j < y → bs.getD (k + j) 0 = bs.getD (i + j) 0) (fun x _ => most - (intOf x).toNat)
  case atStart => exact ⟨n, rfl, Nat.le_refl _, hn, Below.refl _ _, HE.out⟩
  case round =>
    clear HE hn
    obtain ⟨y, rfl, h1, h2, hb, he⟩ := hrel
    have HE := Lib.hid he
    clear he
    by_cases hlt : y < most
    · have hy := h.below hb
      have c1 : wr.cell? ⟨B, off + (k + y), none⟩ = some (.int .u8 ((bs.getD (k + y) 0).toNat : Int)) := hy.cell (k + y) (by omega)
      have c2 : wr.cell? ⟨B, off + (i + y), none⟩ = some (.int .u8 ((bs.getD (i + y) 0).toNat : Int)) := hy.cell (i + y) (by omega)
      obtain rfl := h.src (by omega)
      obtain ⟨x1, hx1⟩ : ∃ x, x = bs.getD (k + y) 0 := ⟨_, rfl⟩
      obtain ⟨x2, hx2⟩ : ∃ x, x = bs.getD (i + y) 0 := ⟨_, rfl⟩
      rw [← hx1] at c1
      rw [← hx2] at c2
      have HX1 := Lib.hid hx1
      have HX2 := Lib.hid hx2
      clear hx1 hx2 hy
      by_cases heq : x1 = x2
      · subst heq
        go_wp2
        go_quiet (fail)
        go_wp2
        go_roundw
        case rel =>
          refine ⟨y + 1, by go_num, by omega, by omega, below_drewN hb _, fun j hj => ?_⟩
          by_cases e : j = y
          · subst e; rw [← HX1.out, ← HX2.out]
          · exact HE.out j (by omega)
        case measure => simp [intOf]; omega
      · have hq : ((x1.toNat : Int) == (x2.toNat : Int)) = false := by
          simp
          exact fun e => heq (UInt8.toNat_inj.1 (by omega))
        clear heq
        go_wp2
        go_quiet (fail)
        go_wp2
        go_ret
        refine ⟨ret_int (congrArg _ (alike_of ⟨by have := HM.out; omega, by omega, HE.out, .inr (.inr ?_)⟩)), below_drewN hb _⟩
        rw [← HX1.out, ← HX2.out]
        intro e
        rw [e] at hq
        simp at hq
    · obtain rfl : y = most := by omega
      have hd : decide ((y : Int) < (y : Int)) = false := by simp
      go_wp2
      go_quiet (fail)
      go_wp2
      go_ret
      refine ⟨ret_int (congrArg _ (alike_of ⟨by have := HM.out; omega, by omega, HE.out, ?_⟩)), below_drewN hb _⟩
      have := HM.out
      omega
end Go.Proofs.Ytjieljmlpbiidaa
