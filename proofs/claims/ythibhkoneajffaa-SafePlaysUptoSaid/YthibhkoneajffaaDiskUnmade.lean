/- What a disk that New has not made answers. -/
import Derived.Test.YthibhkoneajffaaDiskSmall
namespace Go.Proofs.Ythibhkoneajffaa
open Go.RowKit
/-- New has not made it: made says no, in this world and with numbers drawn. -/
def Unmade (w : World) (x : Value) : Prop := ∀ m, Calls Try.prog 54 #[x] (w.drewN m) fun e w' => e = .returned (.bool false) ∧ w' = w.drewN m
theorem Unmade.one {w : World} {x : Value} (h : Unmade w x) : Calls Try.prog 54 #[x] w fun e w' => e = .returned (.bool false) ∧ w' = w := h 0
theorem Unmade.drewN {w : World} {x : Value} (h : Unmade w x) (n : Nat) : Unmade (w.drewN n) x := fun m => by
  rw [World.drewN_drewN]
  exact h _
set_option maxRecDepth 100000 in
theorem unmade_nil (w : World) : Unmade w (.pointer none) := fun m => by
  go_enter Try.func54, Try.ntmps54
  go_wp2
  go_ret
  exact ⟨rfl, rfl⟩
set_option maxRecDepth 100000 in
theorem unmade_zero {p : Nat} {w : World} (c0 : w.cell? ⟨p, 0, none⟩ = some (.map none)) : Unmade w (ptr p) := fun m => by
  have hq : ∀ W, (binOp .neq 67 (.map none) (.map none)).run Try.prog W = .ok (.bool false) W := fun W => by have := run_neq_map_nil W 67 9 29 none Try.underlying67; exact this
  have d0 : (w.drewN m).cell? ⟨p, 0, none⟩ = some (.map none) := c0
  go_enter Try.func54, Try.ntmps54
  go_wp2
  go_ret
  exact ⟨rfl, rfl⟩
section
variable {w : World} {x : Value}
set_option maxRecDepth 100000 in
theorem unmade_free (h : Unmade w x) : Calls Try.prog 34 #[x] w fun e w' => e = .returned (.int .i64 0) ∧ w' = w := by
  have H := h.one
  go_enter Try.func34, Try.ntmps34
  go_wp2_with (go_at_call 54; refine H.mono ?_; rintro e _ ⟨rfl, rfl⟩)
  go_ret
  exact ⟨rfl, rfl⟩
set_option maxRecDepth 100000 in
theorem unmade_ops (h : Unmade w x) : Calls Try.prog 23 #[x] w fun e w' => e = .returned (.int .i64 0) ∧ w' = w := by
  have H := h.one
  go_enter Try.func23, Try.ntmps23
  go_wp2_with (go_at_call 54; refine H.mono ?_; rintro e _ ⟨rfl, rfl⟩)
  go_ret
  exact ⟨rfl, rfl⟩
set_option maxRecDepth 100000 in
theorem unmade_off (h : Unmade w x) : Calls Try.prog 32 #[x] w fun e w' => e = .returned (.bool true) ∧ w' = w := by
  have H := h.one
  go_enter Try.func32, Try.ntmps32
  go_wp2_with (go_at_call 54; refine H.mono ?_; rintro e _ ⟨rfl, rfl⟩)
  go_ret
  exact ⟨rfl, rfl⟩
set_option maxRecDepth 100000 in
theorem unmade_cut (h : Unmade w x) (z : Int) : Calls Try.prog 17 #[x, .int .i64 z] w fun e w' => e = .returned (err 1) ∧ w' = w := by
  have H := h.one
  go_enter Try.func17, Try.ntmps17
  go_wp2_with (go_at_call 54; refine H.mono ?_; rintro e _ ⟨rfl, rfl⟩)
  go_ret
  exact ⟨rfl, rfl⟩
set_option maxRecDepth 100000 in
theorem unmade_on (h : Unmade w x) : Calls Try.prog 19 #[x] w fun e w' => e = .returned (.tuple #[]) ∧ w' = w := by
  have H := h.one
  go_enter Try.func19, Try.ntmps19
  go_wp2_with (go_at_call 54; refine H.mono ?_; rintro e _ ⟨rfl, rfl⟩)
  go_end0
  exact ⟨rfl, rfl⟩
set_option maxRecDepth 100000 in
theorem unmade_has (h : Unmade w x) (s : Value) : Calls Try.prog 33 #[x, s] w fun e w' => e = .returned (.bool false) ∧ w' = w := by
  have H := h.one
  go_enter Try.func33, Try.ntmps33
  go_wp2_with (go_at_call 54; refine H.mono ?_; rintro e _ ⟨rfl, rfl⟩)
  go_ret
  exact ⟨rfl, rfl⟩
set_option maxRecDepth 100000 in
theorem unmade_names (h : Unmade w x) : Calls Try.prog 50 #[x] w fun e w' => e = .returned (.slice none 0 0) ∧ w' = w := by
  have H := h.one
  go_enter Try.func50, Try.ntmps50
  go_wp2_with (go_at_call 54; refine H.mono ?_; rintro e _ ⟨rfl, rfl⟩)
  go_ret
  exact ⟨rfl, rfl⟩
set_option maxRecDepth 100000 in
theorem unmade_dump (h : Unmade w x) : Calls Try.prog 26 #[x] w fun e w' => e = .returned (.slice none 0 0) ∧ w' = w := by
  have H := unmade_names h
  go_enter Try.func26, Try.ntmps26
  go_wp2_with (go_at_call 50; refine H.mono ?_; rintro e w1 ⟨rfl, rfl⟩)
  go_loopw [3, 9] (fun x i W => x = .slice none 0 0 ∧ i = .int .i64 0 ∧ W = w1) (fun _ _ _ => 0)
  case atStart => exact ⟨rfl, rfl, rfl⟩
  case round =>
    obtain ⟨rfl, rfl, rfl⟩ := hrel
    go_wp2
    go_ret
    exact ⟨rfl, rfl⟩
set_option maxRecDepth 100000 in
theorem unmade_read (h : Unmade w x) (s : Value) : Calls Try.prog 30 #[x, s] w fun e w' => e = .returned (.tuple #[.slice none 0 0, err 1]) ∧ w' = w := by
  have H := h.one
  go_enter Try.func30, Try.ntmps30
  go_wp2_with (go_at_call 54; refine H.mono ?_; rintro e _ ⟨rfl, rfl⟩)
  go_ret2
  exact ⟨rfl, rfl⟩
set_option maxRecDepth 100000 in
theorem unmade_ready (h : Unmade w x) (s : Value) : Calls Try.prog 38 #[x, s] w fun e w' => e = .returned (err 1) ∧ w' = w := by
  have H := h.one
  go_enter Try.func38, Try.ntmps38
  go_wp2_with (go_at_call 54; refine H.mono ?_; rintro e _ ⟨rfl, rfl⟩)
  go_ret
  exact ⟨rfl, rfl⟩
set_option maxRecDepth 100000 in
theorem unmade_readyAt (h : Unmade w x) (s : Value) : Calls Try.prog 46 #[x, s] w fun e w' => e = .returned (err 1) ∧ w' = w := by
  have H := unmade_ready h s
  go_enter Try.func46, Try.ntmps46
  go_wp2_with (go_at_call 38; refine H.mono ?_; rintro e _ ⟨rfl, rfl⟩)
  go_ret
  exact ⟨rfl, rfl⟩
set_option maxRecDepth 100000 in
theorem unmade_append (h : Unmade w x) (s : Value) (ao : Option Addr) (len cap : Nat) : Calls Try.prog 11 #[x, s, .slice ao len cap] w fun e w' => e = .returned (err 1) ∧ w' = w := by
  have H := unmade_ready h s
  go_enter Try.func11, Try.ntmps11
  by_cases hl : (len : Int) > 64
  · go_wp2_with (go_at_call 38; refine H.mono ?_; rintro e _ ⟨rfl, rfl⟩)
    go_ret
    exact ⟨rfl, rfl⟩
  · go_wp2_with (go_at_call 38; refine H.mono ?_; rintro e _ ⟨rfl, rfl⟩)
    go_ret
    exact ⟨rfl, rfl⟩
set_option maxRecDepth 100000 in
theorem unmade_remove (h : Unmade w x) (s : Value) : Calls Try.prog 13 #[x, s] w fun e w' => e = .returned (err 1) ∧ w' = w := by
  have H := unmade_readyAt h s
  go_enter Try.func13, Try.ntmps13
  go_wp2_with (go_at_call 46; refine H.mono ?_; rintro e _ ⟨rfl, rfl⟩)
  go_ret
  exact ⟨rfl, rfl⟩
set_option maxRecDepth 100000 in
theorem unmade_sync (h : Unmade w x) (s : Value) : Calls Try.prog 70 #[x, s] w fun e w' => e = .returned (err 1) ∧ w' = w := by
  have H := unmade_readyAt h s
  go_enter Try.func70, Try.ntmps70
  go_wp2_with (go_at_call 46; refine H.mono ?_; rintro e _ ⟨rfl, rfl⟩)
  go_ret
  exact ⟨rfl, rfl⟩
set_option maxRecDepth 100000 in
theorem unmade_rename (h : Unmade w x) (s : Value) (t : Bs) : Calls Try.prog 56 #[x, s, .string (SL t)] w fun e w' => e = .returned (err 1) ∧ w' = w := by
  have H := unmade_readyAt h s
  have M := mayBe_any t w
  obtain ⟨b, hb⟩ : ∃ b, b = named t := ⟨_, rfl⟩
  rw [← hb] at M
  clear hb
  go_enter Try.func56, Try.ntmps56
  cases b with
  | false =>
    go_wp2_with (first | (go_at_call 62; refine M.mono ?_; rintro e _ ⟨rfl, rfl⟩) | (go_at_call 46; refine H.mono ?_; rintro e _ ⟨rfl, rfl⟩))
    go_ret
    exact ⟨rfl, rfl⟩
  | true =>
    go_wp2_with (first | (go_at_call 62; refine M.mono ?_; rintro e _ ⟨rfl, rfl⟩) | (go_at_call 46; refine H.mono ?_; rintro e _ ⟨rfl, rfl⟩))
    go_ret
    exact ⟨rfl, rfl⟩
end
end Go.Proofs.Ythibhkoneajffaa
