/- write, Cut, On of package disk: what turns the struct's block alone. -/
import Derived.Test.YthibhkoneajffaaDiskSmall
namespace Go.Proofs.Ythibhkoneajffaa
open Go.RowKit
/-- Nothing but block p has turned, and it holds o. -/
structure OnlyHead (p : Nat) (o : Obj) (w w' : World) : Prop where
  head : w'.heap[p]? = some o
  turn : Turn (fun k => k = p) w w'
theorem turn_set (p i : Nat) (w : World) (v : Value) : Turn (fun k => k = p) w (w.setCell ⟨p, i, none⟩ v) := Turn.setCell w _ v rfl
section
variable {p mb : Nat} {a b c : Int} {d : Bool} {w : World}
set_option maxRecDepth 100000 in
theorem write_full (h : w.heap[p]? = some (headO mb a b c d)) (m : Int) (hm : a < m) : Calls Try.prog 40 #[ptr p, .int .i64 m] w fun e w' => e = .returned (err 4) ∧ w' = w := by
  obtain ⟨c0, c1, c2, c3, c4, fr⟩ := head_cells h
  have hg : m > a := hm
  go_enter Try.func40, Try.ntmps40
  go_wp2
  go_ret
  exact ⟨rfl, rfl⟩
set_option maxRecDepth 100000 in
theorem write_cut (h : w.heap[p]? = some (headO mb a b 0 d)) (m : Int) (hm : ¬ a < m) : Calls Try.prog 40 #[ptr p, .int .i64 m] w fun e w' => e = .returned (err 5) ∧ OnlyHead p (headO mb a b 0 true) w w' := by
  obtain ⟨c0, c1, c2, c3, c4, fr⟩ := head_cells h
  have hg : ¬ m > a := hm
  have f4 := fr 4
  have hh := heap_setCell_same w p 4 _ 74 (.bool true) h
  go_enter Try.func40, Try.ntmps40
  go_wp2
  go_ret
  exact ⟨rfl, hh, turn_set _ _ _ _⟩
theorem heap_set3 {cs : Array Value} {t : TypeId} (h : w.heap[p]? = some (.cells cs t (0, 0))) (i j : Nat) (u v : Value) :
    ((w.setCell ⟨p, i, none⟩ u).setCell ⟨p, j, none⟩ v).heap[p]? = some (.cells ((cs.setIfInBounds i u).setIfInBounds j v) t (0, 0)) := heap_setCell_same _ p j _ t v (heap_setCell_same w p i cs t u h)
set_option maxRecDepth 100000 in
theorem write_done0 (h : w.heap[p]? = some (headO mb a b (-1) d)) (m : Int) (hm : ¬ a < m) (ha : -9223372036854775808 ≤ a - m ∧ a - m ≤ 9223372036854775807) (hb : 0 ≤ b ∧ b ≤ 1000000000000) :
    Calls Try.prog 40 #[ptr p, .int .i64 m] w fun e w' => e = .returned (err 0) ∧ OnlyHead p (headO mb (a - m) (b + 1) (-1) d) w w' := by
  obtain ⟨c0, c1, c2, c3, c4, fr⟩ := head_cells h
  have hg : ¬ m > a := hm
  have f1 := fr 1
  have f2 := fr 2
  obtain ⟨f, hf⟩ : ∃ f, f = a - m := ⟨_, rfl⟩
  have hw : wrap64 (a - m) = f := by rw [hf]; exact IntWalk.wrap64_in _ ⟨by omega, by omega⟩
  have hf2 : a - m = f := hf.symm
  obtain ⟨g, hgg⟩ : ∃ g, g = b + 1 := ⟨_, rfl⟩
  have hw2 : (Op.intArith .add .i64 b 1).run Try.prog (w.setCell ⟨p, 1, none⟩ (.int .i64 f)) = .ok (.int .i64 g) (w.setCell ⟨p, 1, none⟩ (.int .i64 f)) := by
    rw [hgg]
    simp [go_sem, IntKind.wrap_i64]
    omega
  have k2 : (w.setCell ⟨p, 1, none⟩ (.int .i64 f)).cell? ⟨p, 2, none⟩ = some (.int .i64 b) := by
    rw [cell_of_row _ _ _ _ _ _ (heap_setCell_same w p 1 _ 74 _ h)]; rfl
  have g2 : (w.setCell ⟨p, 1, none⟩ (.int .i64 f)).frozen? ⟨p, 2, none⟩ = false := frozen_of_row _ _ _ _ _ (heap_setCell_same w p 1 _ 74 _ h)
  have hadd := run_call_add (P := Try.prog) Try.func74 (by kernel_rfl) (by kernel_rfl) (by kernel_rfl) .i64 (by kernel_rfl) k2 g2 hw2
  have hh := heap_set3 h 1 2 (.int .i64 f) (.int .i64 g)
  rw [← hf, ← hgg]
  clear hgg hf hw2
  go_enter Try.func40, Try.ntmps40
  go_wp2
  go_ret
  exact ⟨rfl, hh, (turn_set p 1 _ _).trans (turn_set p 2 _ _)⟩
set_option maxRecDepth 100000 in
theorem write_done1 (h : w.heap[p]? = some (headO mb a b c d)) (m : Int) (hm : ¬ a < m) (hc : 0 < c ∧ c ≤ 9223372036854775807) (ha : -9223372036854775808 ≤ a - m ∧ a - m ≤ 9223372036854775807) (hb : 0 ≤ b ∧ b ≤ 1000000000000) :
    Calls Try.prog 40 #[ptr p, .int .i64 m] w fun e w' => e = .returned (err 0) ∧ OnlyHead p (headO mb (a - m) (b + 1) (c - 1) d) w w' := by
  obtain ⟨c0, c1, c2, c3, c4, fr⟩ := head_cells h
  have hg : ¬ m > a := hm
  have f1 := fr 1
  have f2 := fr 2
  have f3 := fr 3
  have hc0 : ¬ c = 0 := by omega
  have hc1 : ¬ c = -1 := by omega
  obtain ⟨l, hl⟩ : ∃ l, l = c - 1 := ⟨_, rfl⟩
  have hwl : wrap64 (c - 1) = l := by rw [hl]; exact IntWalk.wrap64_in _ ⟨by omega, by omega⟩
  obtain ⟨f, hf⟩ : ∃ f, f = a - m := ⟨_, rfl⟩
  have hw : wrap64 (a - m) = f := by rw [hf]; exact IntWalk.wrap64_in _ ⟨by omega, by omega⟩
  have hf2 : a - m = f := hf.symm
  have hl2 : c - 1 = l := hl.symm
  obtain ⟨g, hgg⟩ : ∃ g, g = b + 1 := ⟨_, rfl⟩
  obtain ⟨W, hW⟩ : ∃ W, W = (w.setCell ⟨p, 3, none⟩ (.int .i64 l)).setCell ⟨p, 1, none⟩ (.int .i64 f) := ⟨_, rfl⟩
  have hw2 : (Op.intArith .add .i64 b 1).run Try.prog W = .ok (.int .i64 g) W := by
    rw [hgg]
    simp [go_sem, IntKind.wrap_i64]
    omega
  have hrow : W.heap[p]? = some (.cells ((#[.map (some mb), .int .i64 a, .int .i64 b, .int .i64 c, .bool d].setIfInBounds 3 (.int .i64 l)).setIfInBounds 1 (.int .i64 f)) 74 (0, 0)) := by
    rw [hW]
    exact heap_set3 h 3 1 (.int .i64 l) (.int .i64 f)
  have k2 : W.cell? ⟨p, 2, none⟩ = some (.int .i64 b) := by
    rw [cell_of_row _ _ _ _ _ _ hrow]; rfl
  have g2 : W.frozen? ⟨p, 2, none⟩ = false := frozen_of_row _ _ _ _ _ hrow
  have hadd := run_call_add (P := Try.prog) Try.func74 (by kernel_rfl) (by kernel_rfl) (by kernel_rfl) .i64 (by kernel_rfl) k2 g2 hw2
  have hh := heap_setCell_same W p 2 _ 74 (.int .i64 g) hrow
  have ht : Turn (fun k => k = p) w W := by
    rw [hW]
    exact (turn_set p 3 _ _).trans (turn_set p 1 _ _)
  rw [← hf, ← hgg, ← hl]
  clear hgg hf hw2 hl
  subst hW
  go_enter Try.func40, Try.ntmps40
  go_wp2
  go_ret
  exact ⟨rfl, hh, ht.trans (turn_set p 2 _ _)⟩
set_option maxRecDepth 100000 in
theorem cut_head (h : w.heap[p]? = some (headO mb a b c d)) (z : Int) (hz : 0 ≤ z) : Calls Try.prog 17 #[ptr p, .int .i64 z] w fun e w' => e = .returned (err 0) ∧ OnlyHead p (headO mb a b z d) w w' := by
  obtain ⟨c0, c1, c2, c3, c4, fr⟩ := head_cells h
  have f3 := fr 3
  have hm := made_any c0
  have hz2 : ¬ z < 0 := by omega
  have hh := heap_setCell_same w p 3 _ 74 (.int .i64 z) h
  go_enter Try.func17, Try.ntmps17
  go_wp2_with (go_at_call 54; refine hm.mono ?_; rintro e w' ⟨rfl, rfl⟩)
  go_ret
  exact ⟨rfl, hh, turn_set _ _ _ _⟩
set_option maxRecDepth 100000 in
theorem cut_bad (h : w.heap[p]? = some (headO mb a b c d)) (z : Int) (hz : z < 0) : Calls Try.prog 17 #[ptr p, .int .i64 z] w fun e w' => e = .returned (err 1) ∧ w' = w := by
  obtain ⟨c0, c1, c2, c3, c4, fr⟩ := head_cells h
  have hm := made_any c0
  go_enter Try.func17, Try.ntmps17
  go_wp2_with (go_at_call 54; refine hm.mono ?_; rintro e w' ⟨rfl, rfl⟩)
  go_ret
  exact ⟨rfl, rfl⟩
set_option maxRecDepth 100000 in
theorem on_head (h : w.heap[p]? = some (headO mb a b c d)) : Calls Try.prog 19 #[ptr p] w fun e w' => e = .returned (.tuple #[]) ∧ OnlyHead p (headO mb a b (-1) false) w w' := by
  obtain ⟨c0, c1, c2, c3, c4, fr⟩ := head_cells h
  have f3 := fr 3
  have f4 := fr 4
  have hm := made_any c0
  have hh := heap_set3 h 4 3 (.bool false) (.int .i64 (-1))
  go_enter Try.func19, Try.ntmps19
  go_wp2_with (go_at_call 54; refine hm.mono ?_; rintro e w' ⟨rfl, rfl⟩)
  go_end0
  exact ⟨rfl, hh, (turn_set p 4 _ _).trans (turn_set p 3 _ _)⟩
set_option maxRecDepth 100000 in
theorem new_yes (c : Nat) (hc : c ≤ 1099511627776) (w : World) : Calls Try.prog 35 #[.int .i64 (c : Int)] w fun e w' => e = .returned (.tuple #[ptr (w.heap.size + 1), err 0]) ∧ w' = (w.alloc (.map #[] 0)).alloc (headO w.heap.size (c : Int) 0 (-1) false) := by
  have hmm := @run_makeMap Try.prog
  have h1 : ¬ ((c : Int) < 0) := by omega
  have h2 : ¬ ((c : Int) > 1099511627776) := by omega
  go_enter Try.func35, Try.ntmps35
  go_wp2
  go_ret2
  exact ⟨rfl, rfl⟩
set_option maxRecDepth 100000 in
theorem new_no (c : Int) (hc : c < 0 ∨ 1099511627776 < c) (w : World) : Calls Try.prog 35 #[.int .i64 c] w fun e w' => e = .returned (.tuple #[.pointer none, err 1]) ∧ w' = w := by
  by_cases h1 : c < 0
  · go_enter Try.func35, Try.ntmps35
    go_wp2
    go_ret2
    exact ⟨rfl, rfl⟩
  · have h2 : c > 1099511627776 := by omega
    go_enter Try.func35, Try.ntmps35
    go_wp2
    go_ret2
    exact ⟨rfl, rfl⟩
end
end Go.Proofs.Ythibhkoneajffaa
