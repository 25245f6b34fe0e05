/- The walks of the document's alike and longest. -/
import Derived.Test.YtjieljmlpbiidaaPressFour
import Derived.Laws.Rows
import Derived.Deep.QuietTactic
namespace Go.Proofs.Ytjieljmlpbiidaa
open Go.RowKit
theorem ref_ret_int {k : IntKind} {a b : Int} (h : a = b) : Ending.returned (.int k a) = .returned (.int k b) := by rw [h]
set_option maxRecDepth 100000 in
set_option maxHeartbeats 800000 in
theorem refAlike_any (ao : Option Addr) (cap : Nat) (bs : List UInt8) (B off : Nat) (k i : Nat) (w : World) (h : SrcAt w ao cap bs B off) (hs : bs.length ≤ 281474976710656) (hk : k < i) (hi : i < bs.length) :
    Calls Try.prog 35 #[.slice ao bs.length cap, .int .i64 (k : Int), .int .i64 (i : Int)] w fun e w' => e = .returned (.int .i64 (alike bs k i : Int)) ∧ Below w.heap.size w w' := by
  obtain ⟨N, hN⟩ : ∃ N, N = bs.length := ⟨_, rfl⟩
  have hNl : N ≤ bs.length := by omega
  obtain rfl := h.src (by omega)
  rw [← hN] at hs hi ⊢
  have HN := Lib.hid hN
  clear hN
  go_enter Try.func35, Try.ntmps35
  go_wp2
  go_loopw [7] (fun x wr => ∃ y : Nat, x = .int .i64 (y : Int) ∧ y ≤ 259 ∧ i + y ≤ N ∧ Below w.heap.size w wr ∧ ∀ j, j < y → bs.getD (k + j) 0 = bs.getD (i + j) 0) (fun x _ => 259 - (intOf x).toNat)
  case atStart => exact ⟨0, rfl, Nat.zero_le _, by omega, Below.refl _ _, fun j hj => absurd hj (Nat.not_lt_zero j)⟩
  case round =>
    obtain ⟨y, rfl, h1, h2, hb, he⟩ := hrel
    have HE := Lib.hid he
    clear he
    by_cases hlt : y < 259
    · have hd0 : decide ((y : Int) < 259) = true := by simp; omega
      have hsum : IntKind.i64.wrap ((i : Int) + (y : Int)) = (i : Int) + (y : Int) := IntWalk.i64_in _ (by omega)
      by_cases hlt2 : i + y < N
      · have hy := h.below hb
        have c1 : wr.cell? ⟨B, off + (k + y), none⟩ = some (.int .u8 ((bs.getD (k + y) 0).toNat : Int)) := hy.cell (k + y) (by omega)
        have c2 : wr.cell? ⟨B, off + (i + y), none⟩ = some (.int .u8 ((bs.getD (i + y) 0).toNat : Int)) := hy.cell (i + y) (by omega)
        obtain ⟨x1, hx1⟩ : ∃ x, x = bs.getD (k + y) 0 := ⟨_, rfl⟩
        obtain ⟨x2, hx2⟩ : ∃ x, x = bs.getD (i + y) 0 := ⟨_, rfl⟩
        rw [← hx1] at c1
        rw [← hx2] at c2
        have HX1 := Lib.hid hx1
        have HX2 := Lib.hid hx2
        have hltI : decide ((i : Int) + (y : Int) < (N : Int)) = true := by simp; omega
        clear hx1 hx2 hy
        by_cases heq : x1 = x2
        · subst heq
          go_wp2
          go_quiet (fail)
          go_wp2
          go_roundw
          case rel =>
            refine ⟨y + 1, by go_num, by omega, by omega, below_drewN hb _, fun j hj => ?_⟩
            by_cases e : j = y
            · subst e; rw [← HX1.out, ← HX2.out]
            · exact HE.out j (by omega)
          case measure => simp [intOf]; omega
        · have hq : ((x1.toNat : Int) == (x2.toNat : Int)) = false := by
            simp
            exact fun e => heq (UInt8.toNat_inj.1 (by omega))
          clear heq
          go_wp2
          go_quiet (fail)
          go_wp2
          go_ret
          refine ⟨ref_ret_int (congrArg _ (alike_of ⟨by omega, by omega, HE.out, .inr (.inr ?_)⟩)), below_drewN hb _⟩
          rw [← HX1.out, ← HX2.out]
          intro e
          rw [e] at hq
          simp at hq
      · have hd : decide ((i : Int) + (y : Int) < (N : Int)) = false := by simp; omega
        go_wp2
        go_quiet (fail)
        go_wp2
        go_ret
        refine ⟨ref_ret_int (congrArg _ (alike_of ⟨by omega, by omega, HE.out, .inr (.inl ?_)⟩)), below_drewN hb _⟩
        have := HN.out
        omega
    · obtain rfl : y = 259 := by omega
      have hd0 : decide (((259 : Nat) : Int) < 259) = false := by simp
      go_wp2
      go_quiet (fail)
      go_wp2
      go_ret
      exact ⟨ref_ret_int (congrArg _ (alike_of ⟨by omega, by omega, HE.out, .inl rfl⟩)), below_drewN hb _⟩
set_option maxRecDepth 100000 in
set_option maxHeartbeats 800000 in
theorem refLongest_any (ao : Option Addr) (cap : Nat) (bs : List UInt8) (B off : Nat) (i : Nat) (w : World) (h : SrcAt w ao cap bs B off) (hs : bs.length ≤ 281474976710656) (hi : i < bs.length) :
    Calls Try.prog 22 #[.slice ao bs.length cap, .int .i64 (i : Int)] w fun e w' => e = .returned (.tuple #[.int .i64 ((longest bs i).1 : Int), .int .i64 ((longest bs i).2 : Int)]) ∧ Below w.heap.size w w' := by
  have hal := fun k (hk : k < i) (W : World) (hW : SrcAt W ao cap bs B off) => refAlike_any ao cap bs B off k i W hW hs hk hi
  obtain ⟨N, hN⟩ : ∃ N, N = bs.length := ⟨_, rfl⟩
  rw [← hN] at hs hi hal ⊢
  have HA := Lib.hid hal
  clear hN hal
  go_enter Try.func22, Try.ntmps22
  go_wp2
  go_loopw [6, 7, 8] (fun x y z wr => ∃ d : Nat, z = .int .i64 ((d : Int) + 1) ∧ d ≤ 4096 ∧ d ≤ i ∧ x = .int .i64 ((lng bs i d).1 : Int) ∧ y = .int .i64 ((lng bs i d).2 : Int) ∧ Below w.heap.size w wr) (fun _ _ z _ => 4097 - (intOf z).toNat)
  case atStart => exact ⟨0, rfl, Nat.zero_le _, Nat.zero_le _, rfl, rfl, Below.refl _ _⟩
  case round =>
    obtain ⟨d, rfl, h1, h2, rfl, rfl, hb⟩ := hrel
    by_cases hlt : d < 4096 ∧ d < i
    · obtain ⟨h3, h4⟩ := hlt
      have hc := HA.out (i - (d + 1)) (by omega) wr (h.below hb)
      have e1 : ((i - (d + 1) : Nat) : Int) = (i : Int) - ((d : Int) + 1) := by omega
      rw [e1] at hc
      obtain ⟨A, hA⟩ : ∃ A, A = alike bs (i - (d + 1)) i := ⟨_, rfl⟩
      rw [← hA] at hc
      have HC := Lib.hid hc
      obtain ⟨L1, hL1⟩ : ∃ L, L = (lng bs i d).1 := ⟨_, rfl⟩
      obtain ⟨L2, hL2⟩ : ∃ L, L = (lng bs i d).2 := ⟨_, rfl⟩
      have hs1 : lng bs i (d + 1) = if L1 < A then (A, d + 1) else lng bs i d := by rw [hA, hL1]; rfl
      rw [← hL1, ← hL2]
      have HS := Lib.hid hs1
      have HL1 := Lib.hid hL1
      have HL2 := Lib.hid hL2
      clear e1 hc hA hL1 hL2 hs1
      by_cases hgt : L1 < A
      all_goals
        go_wp2_with fail
        refine HC.out.mono ?_
        rintro e w1 ⟨rfl, b1⟩
        have bb := hb.trans (b1.mono hb.size)
        go_wp2_with fail
        go_roundw
        case rel =>
          refine ⟨d + 1, by go_num, by omega, by omega, ?_, ?_, bb⟩
          · rw [HS.out]
            first
              | (rw [if_pos hgt])
              | (rw [if_neg hgt, HL1.out])
          · rw [HS.out]
            first
              | (rw [if_pos hgt]; go_num)
              | (rw [if_neg hgt, HL2.out])
        case measure => simp [intOf]; omega
    · have hd : d = min 4096 i := by omega
      have HD := Lib.hid hd
      clear hd
      by_cases h5 : d < 4096
      · have h6 : i ≤ d := by omega
        clear hlt
        go_wp2_with fail
        go_ret2
        have e1 : longest bs i = lng bs i d := by unfold longest; rw [← HD.out]
        rw [e1]
        exact ⟨rfl, hb⟩
      · have h6 : 4096 ≤ d := by omega
        clear hlt
        go_wp2_with fail
        go_ret2
        have e1 : longest bs i = lng bs i d := by unfold longest; rw [← HD.out]
        rw [e1]
        exact ⟨rfl, hb⟩
end Go.Proofs.Ytjieljmlpbiidaa
