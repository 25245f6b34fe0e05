/- The walk of DiskPlays, at every capacity. -/
import Derived.Test.YtmblkojilckobaaPlays
namespace Go.Proofs.Ytmblkojilckobaa
open Go.RowKit
set_option maxRecDepth 100000 in
theorem plays_any (c : Int) (v : Value) (sc : List OpR) (w : World) (hsc : ScriptAt w (elder w) v sc) : Calls Try.prog 3 #[.int .i64 c, v] w fun e w' => e = .returned (.bool true) ∧ Below w.heap.size w w' := by
  by_cases hc : c < 0 ∨ 1099511627776 < c
  · have hA := awake_any w
    obtain ⟨ao, cap, g, off, rfl, hg, hcell⟩ := hsc
    clear hg hcell
    go_enter Try.func3, Try.ntmps3
    go_wp2_with (first
      | (go_at_call 10; refine hA.mono ?_; rintro e w1 ⟨rfl, b1⟩; have B1 := Lib.hid b1)
      | (go_at_call 11; refine (new_no c hc _).mono ?_; rintro e w2 ⟨rfl, hw2⟩; have B2 := hw2 ▸ B1; clear hw2)
      | (go_at_call 12; refine (refNew_no c hc _).mono ?_; rintro e w3 ⟨rfl, hw3⟩; have B3 := hw3 ▸ B2; clear hw3))
    go_loopw [10] (fun i W => i = .int .i64 0 ∧ W = w3) (fun _ _ => 0)
    case atStart => exact ⟨rfl, rfl⟩
    case round =>
      obtain ⟨rfl, rfl⟩ := hrel
      go_wp2
      go_ret
      exact ⟨rfl, B3.out⟩
  · obtain ⟨C, rfl⟩ : ∃ C : Nat, c = (C : Int) := ⟨c.toNat, by omega⟩
    exact plays_yes C (by omega) v sc w hsc
end Go.Proofs.Ytmblkojilckobaa
