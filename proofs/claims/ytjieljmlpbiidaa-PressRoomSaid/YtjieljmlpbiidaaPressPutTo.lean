/- The walks of putRun, putCopy. -/
import Derived.Test.YtjieljmlpbiidaaPressPure2
import Derived.Test.YtjieljmlpbiidaaRowC
namespace Go.Proofs.Ytjieljmlpbiidaa
open Go.RowKit
theorem clampN_run {n : Nat} (h0 : 0 < n) (h : n ≤ 281474976710656) : clampN (2 * ((n : Int) - 1)) = 2 * (n - 1) := by
  have e : 2 * ((n : Int) - 1) = ((2 * (n - 1) : Nat) : Int) := by omega
  rw [e, clampN_nat _ (by omega)]
set_option maxRecDepth 100000 in
set_option maxHeartbeats 800000 in
theorem putRunTo (base : Nat) (v : Value) (O : List UInt8) (ao : Option Addr) (cap : Nat) (r : List UInt8) (B off : Nat) (w : World) (hb : base ≤ w.heap.size) (h : w.ownsRow base 5 1 v O.length (O.map B8)) (hr : SrcAt w ao cap r B off) (hB : 0 < r.length → B < base) (hs : O.length + 9 + r.length ≤ 225000000000000) :
    Calls Try.prog 19 #[v, .slice ao r.length cap] w (PutTo base w (O ++ runT r)) := by
  by_cases h0 : r.length = 0
  · have e : runT r = [] := by rw [runT, if_pos h0]
    rw [e, List.append_nil, h0]
    go_enter Try.func19, Try.ntmps19
    go_wp2
    go_ret
    exact ⟨_, rfl, h, OutTurned.refl _ _⟩
  · have hput := rowPutNumTo base v O (2 * ((r.length : Int) - 1)) w hb h (by omega)
    rw [clampN_run (by omega) (by omega)] at hput
    have hl := numL_le (2 * (r.length - 1))
    rw [runT_pos (by omega)]
    obtain ⟨L, hL⟩ : ∃ L, L = numL (2 * (r.length - 1)) := ⟨_, rfl⟩
    rw [← hL] at hput hl ⊢
    obtain ⟨n, hn⟩ : ∃ n, n = r.length := ⟨_, rfl⟩
    rw [← hn] at hput hs h0 ⊢
    have HP := Lib.hid hput
    have HN := Lib.hid hn
    have hq : ((n : Int) == 0) = false := by simp; omega
    clear hput hL hn h
    go_enter Try.func19, Try.ntmps19
    go_wp2_with fail
    refine HP.out.mono ?_
    rintro e w1 ⟨v1, rfl, o1, t1⟩
    have hz := t1.below.size
    have r1 := hr.keep hB t1.below
    obtain ⟨m, hm⟩ : ∃ m, m = (O ++ L).length := ⟨_, rfl⟩
    have hml : m ≤ O.length + 9 := by rw [hm, List.length_append]; omega
    rw [← hm] at o1
    have HM := Lib.hid hm
    clear hm
    go_wp2_with (at_builtin; refine wpList_append_src rfl _ _ rfl base v1 m _ rfl o1 ao n cap rfl (r.map B8) (by rw [List.length_map]; exact HN.out.symm) (fun hh => by rw [HN.out]; exact r1.bare hh) r1.cells (B8_one _) (by omega) (by omega) ?_; intro v3 w3 hown3 hg3 hv3; clear hv3)
    go_ret
    refine ⟨_, rfl, ?_, t1.trans (OutTurned.of_grown (by omega) o1 hg3)⟩
    have h3 := hown3.out
    rw [← List.map_append, HM.out, HN.out, ← List.length_append, List.append_assoc] at h3
    exact h3
set_option maxRecDepth 100000 in
set_option maxHeartbeats 800000 in
theorem putCopyTo (base : Nat) (v : Value) (O : List UInt8) (n d : Nat) (w : World) (hb : base ≤ w.heap.size) (h : w.ownsRow base 5 1 v O.length (O.map B8)) (h4 : 4 ≤ n) (hn : n ≤ 259) (hd : d ≤ 4096) (hs : O.length + 18 ≤ 225000000000000) :
    Calls Try.prog 20 #[v, .int .i64 (n : Int), .int .i64 (d : Int)] w (PutTo base w (O ++ (numL (2 * (n - 4) + 1) ++ numL d))) := by
  have hl := numL_le (2 * (n - 4) + 1)
  have p1 := rowPutNumTo base v O (2 * ((n : Int) - 4) + 1) w hb h (by omega)
  have e1 : 2 * ((n : Int) - 4) + 1 = ((2 * (n - 4) + 1 : Nat) : Int) := by omega
  have e2 : clampN (2 * ((n : Int) - 4) + 1) = 2 * (n - 4) + 1 := by rw [e1, clampN_nat _ (by omega)]
  rw [e2] at p1
  have hd0 : clampN (d : Int) = d := clampN_nat d (by omega)
  obtain ⟨L, hL⟩ : ∃ L, L = numL (2 * (n - 4) + 1) := ⟨_, rfl⟩
  rw [← hL] at p1 hl ⊢
  have P1 := Lib.hid p1
  have HD := Lib.hid hd0
  have hlo : (4 : Int) ≤ (n : Int) := by omega
  have hhi : (n : Int) ≤ 259 := by omega
  clear p1 e1 e2 hL hd0
  go_enter Try.func20, Try.ntmps20
  go_wp2_with fail
  refine P1.out.mono ?_
  rintro e w1 ⟨v1, rfl, o1, t1⟩
  have hz := t1.below.size
  go_wp2_with fail
  refine (rowPutNumTo base v1 (O ++ L) (d : Int) w1 (by omega) o1 (by rw [List.length_append]; omega)).mono ?_
  rintro e w2 ⟨v2, rfl, o2, t2⟩
  rw [HD.out] at o2
  clear o1
  go_wp2_with fail
  go_ret
  rw [List.append_assoc] at o2
  exact ⟨_, rfl, o2, t1.trans t2⟩
end Go.Proofs.Ytjieljmlpbiidaa
