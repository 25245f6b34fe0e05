/- What a disk that New has not made answers. -/
import Derived.Test.YtmblkojilckobaaDiskSmall
namespace Go.Proofs.Ytmblkojilckobaa
open Go.RowKit
/-- New has not made it: made says no, in this world and with numbers drawn. -/
def Unmade (w : World) (x : Value) : Prop := ∀ m, Calls Try.prog 43 #[x] (w.drewN m) fun e w' => e = .returned (.bool false) ∧ w' = w.drewN m
theorem Unmade.one {w : World} {x : Value} (h : Unmade w x) : Calls Try.prog 43 #[x] w fun e w' => e = .returned (.bool false) ∧ w' = w := h 0
theorem Unmade.drewN {w : World} {x : Value} (h : Unmade w x) (n : Nat) : Unmade (w.drewN n) x := fun m => by
  rw [World.drewN_drewN]
  exact h _
set_option maxRecDepth 100000 in
theorem unmade_nil (w : World) : Unmade w (.pointer none) := fun m => by
  go_enter Try.func43, Try.ntmps43
  go_wp2
  go_ret
  exact ⟨rfl, rfl⟩
set_option maxRecDepth 100000 in
theorem unmade_zero {p : Nat} {w : World} (c0 : w.cell? ⟨p, 0, none⟩ = some (.map none)) : Unmade w (ptr p) := fun m => by
  have hq : ∀ W, (binOp .neq 47 (.map none) (.map none)).run Try.prog W = .ok (.bool false) W := fun W => by have := run_neq_map_nil W 47 9 32 none Try.underlying47; exact this
  have d0 : (w.drewN m).cell? ⟨p, 0, none⟩ = some (.map none) := c0
  go_enter Try.func43, Try.ntmps43
  go_wp2
  go_ret
  exact ⟨rfl, rfl⟩
section
variable {w : World} {x : Value}
set_option maxRecDepth 100000 in
theorem unmade_free (h : Unmade w x) : Calls Try.prog 14 #[x] w fun e w' => e = .returned (.int .i64 0) ∧ w' = w := by
  have H := h.one
  go_enter Try.func14, Try.ntmps14
  go_wp2_with (go_at_call 43; refine H.mono ?_; rintro e _ ⟨rfl, rfl⟩)
  go_ret
  exact ⟨rfl, rfl⟩
set_option maxRecDepth 100000 in
theorem unmade_ops (h : Unmade w x) : Calls Try.prog 30 #[x] w fun e w' => e = .returned (.int .i64 0) ∧ w' = w := by
  have H := h.one
  go_enter Try.func30, Try.ntmps30
  go_wp2_with (go_at_call 43; refine H.mono ?_; rintro e _ ⟨rfl, rfl⟩)
  go_ret
  exact ⟨rfl, rfl⟩
set_option maxRecDepth 100000 in
theorem unmade_off (h : Unmade w x) : Calls Try.prog 16 #[x] w fun e w' => e = .returned (.bool true) ∧ w' = w := by
  have H := h.one
  go_enter Try.func16, Try.ntmps16
  go_wp2_with (go_at_call 43; refine H.mono ?_; rintro e _ ⟨rfl, rfl⟩)
  go_ret
  exact ⟨rfl, rfl⟩
set_option maxRecDepth 100000 in
theorem unmade_cut (h : Unmade w x) (z : Int) : Calls Try.prog 28 #[x, .int .i64 z] w fun e w' => e = .returned (err 1) ∧ w' = w := by
  have H := h.one
  go_enter Try.func28, Try.ntmps28
  go_wp2_with (go_at_call 43; refine H.mono ?_; rintro e _ ⟨rfl, rfl⟩)
  go_ret
  exact ⟨rfl, rfl⟩
set_option maxRecDepth 100000 in
theorem unmade_on (h : Unmade w x) : Calls Try.prog 22 #[x] w fun e w' => e = .returned (.tuple #[]) ∧ w' = w := by
  have H := h.one
  go_enter Try.func22, Try.ntmps22
  go_wp2_with (go_at_call 43; refine H.mono ?_; rintro e _ ⟨rfl, rfl⟩)
  go_end0
  exact ⟨rfl, rfl⟩
set_option maxRecDepth 100000 in
theorem unmade_has (h : Unmade w x) (s : Value) : Calls Try.prog 29 #[x, s] w fun e w' => e = .returned (.bool false) ∧ w' = w := by
  have H := h.one
  go_enter Try.func29, Try.ntmps29
  go_wp2_with (go_at_call 43; refine H.mono ?_; rintro e _ ⟨rfl, rfl⟩)
  go_ret
  exact ⟨rfl, rfl⟩
set_option maxRecDepth 100000 in
theorem unmade_names (h : Unmade w x) : Calls Try.prog 31 #[x] w fun e w' => e = .returned (.slice none 0 0) ∧ w' = w := by
  have H := h.one
  go_enter Try.func31, Try.ntmps31
  go_wp2_with (go_at_call 43; refine H.mono ?_; rintro e _ ⟨rfl, rfl⟩)
  go_ret
  exact ⟨rfl, rfl⟩
set_option maxRecDepth 100000 in
theorem unmade_dump (h : Unmade w x) : Calls Try.prog 21 #[x] w fun e w' => e = .returned (.slice none 0 0) ∧ w' = w := by
  have H := unmade_names h
  go_enter Try.func21, Try.ntmps21
  go_wp2_with (go_at_call 31; refine H.mono ?_; rintro e w1 ⟨rfl, rfl⟩)
  go_loopw [3, 9] (fun x i W => x = .slice none 0 0 ∧ i = .int .i64 0 ∧ W = w1) (fun _ _ _ => 0)
  case atStart => exact ⟨rfl, rfl, rfl⟩
  case round =>
    obtain ⟨rfl, rfl, rfl⟩ := hrel
    go_wp2
    go_ret
    exact ⟨rfl, rfl⟩
set_option maxRecDepth 100000 in
theorem unmade_read (h : Unmade w x) (s : Value) : Calls Try.prog 23 #[x, s] w fun e w' => e = .returned (.tuple #[.slice none 0 0, err 1]) ∧ w' = w := by
  have H := h.one
  go_enter Try.func23, Try.ntmps23
  go_wp2_with (go_at_call 43; refine H.mono ?_; rintro e _ ⟨rfl, rfl⟩)
  go_ret2
  exact ⟨rfl, rfl⟩
set_option maxRecDepth 100000 in
theorem unmade_ready (h : Unmade w x) (s : Value) : Calls Try.prog 50 #[x, s] w fun e w' => e = .returned (err 1) ∧ w' = w := by
  have H := h.one
  go_enter Try.func50, Try.ntmps50
  go_wp2_with (go_at_call 43; refine H.mono ?_; rintro e _ ⟨rfl, rfl⟩)
  go_ret
  exact ⟨rfl, rfl⟩
set_option maxRecDepth 100000 in
theorem unmade_readyAt (h : Unmade w x) (s : Value) : Calls Try.prog 52 #[x, s] w fun e w' => e = .returned (err 1) ∧ w' = w := by
  have H := unmade_ready h s
  go_enter Try.func52, Try.ntmps52
  go_wp2_with (go_at_call 50; refine H.mono ?_; rintro e _ ⟨rfl, rfl⟩)
  go_ret
  exact ⟨rfl, rfl⟩
set_option maxRecDepth 100000 in
theorem unmade_append (h : Unmade w x) (s : Value) (ao : Option Addr) (len cap : Nat) : Calls Try.prog 24 #[x, s, .slice ao len cap] w fun e w' => e = .returned (err 1) ∧ w' = w := by
  have H := unmade_ready h s
  go_enter Try.func24, Try.ntmps24
  by_cases hl : (len : Int) > 64
  · go_wp2_with (go_at_call 50; refine H.mono ?_; rintro e _ ⟨rfl, rfl⟩)
    go_ret
    exact ⟨rfl, rfl⟩
  · go_wp2_with (go_at_call 50; refine H.mono ?_; rintro e _ ⟨rfl, rfl⟩)
    go_ret
    exact ⟨rfl, rfl⟩
set_option maxRecDepth 100000 in
theorem unmade_remove (h : Unmade w x) (s : Value) : Calls Try.prog 25 #[x, s] w fun e w' => e = .returned (err 1) ∧ w' = w := by
  have H := unmade_readyAt h s
  go_enter Try.func25, Try.ntmps25
  go_wp2_with (go_at_call 52; refine H.mono ?_; rintro e _ ⟨rfl, rfl⟩)
  go_ret
  exact ⟨rfl, rfl⟩
set_option maxRecDepth 100000 in
theorem unmade_sync (h : Unmade w x) (s : Value) : Calls Try.prog 27 #[x, s] w fun e w' => e = .returned (err 1) ∧ w' = w := by
  have H := unmade_readyAt h s
  go_enter Try.func27, Try.ntmps27
  go_wp2_with (go_at_call 52; refine H.mono ?_; rintro e _ ⟨rfl, rfl⟩)
  go_ret
  exact ⟨rfl, rfl⟩
set_option maxRecDepth 100000 in
theorem unmade_rename (h : Unmade w x) (s : Value) (t : Bs) : Calls Try.prog 26 #[x, s, .string (SL t)] w fun e w' => e = .returned (err 1) ∧ w' = w := by
  have H := unmade_readyAt h s
  have M := mayBe_any t w
  obtain ⟨b, hb⟩ : ∃ b, b = named t := ⟨_, rfl⟩
  rw [← hb] at M
  clear hb
  go_enter Try.func26, Try.ntmps26
  cases b with
  | false =>
    go_wp2_with (first | (go_at_call 45; refine M.mono ?_; rintro e _ ⟨rfl, rfl⟩) | (go_at_call 52; refine H.mono ?_; rintro e _ ⟨rfl, rfl⟩))
    go_ret
    exact ⟨rfl, rfl⟩
  | true =>
    go_wp2_with (first | (go_at_call 45; refine M.mono ?_; rintro e _ ⟨rfl, rfl⟩) | (go_at_call 52; refine H.mono ?_; rintro e _ ⟨rfl, rfl⟩))
    go_ret
    exact ⟨rfl, rfl⟩
end
end Go.Proofs.Ytmblkojilckobaa
