/- The program's isAll: are two objects one by their fields, lists by their lengths? Written by wip/tools/mk_isall.py. -/
import Derived.Test.YtckbeeadkiiccaaCBody
namespace Go.Proofs.Ytckbeeadkiiccaa
open Go.RowKit
set_option maxRecDepth 100000 in
set_option maxHeartbeats 8000000 in
theorem isAll_any (o p : ObjR) (a1 : Option Addr) (c1 : Nat) (a2 : Option Addr) (c2 : Nat) (a3 : Option Addr) (c3 : Nat) (b1 : Option Addr) (d1 : Nat) (b2 : Option Addr) (d2 : Nat) (b3 : Option Addr) (d3 : Nat) (w : World) :
    Calls Try.prog 35 #[objV o (.slice a1 o.data.length c1) (.slice a2 o.ents.length c2) (.slice a3 o.ups.length c3), objV p (.slice b1 p.data.length d1) (.slice b2 p.ents.length d2) (.slice b3 p.ups.length d3)] w fun e w' => e = .returned (.bool (allB o p)) ∧ Below w.heap.size w w' := by
  have hn2 : ∀ v u : Obj, Below w.heap.size w ((w.alloc v).alloc u) := fun v u => ((Below.refl _ _).alloc (Nat.le_refl _) _).alloc (by simp) _
  have HN2 := Lib.hid hn2
  obtain ⟨kind, data, ents, tree, ups, target, name, who, stamp, text⟩ := o
  obtain ⟨kind', data', ents', tree', ups', target', name', who', stamp', text'⟩ := p
  have hv : allB ⟨kind, data, ents, tree, ups, target, name, who, stamp, text⟩ ⟨kind', data', ents', tree', ups', target', name', who', stamp', text'⟩ = (((decide (data.length = data'.length) && decide (ents.length = ents'.length) && decide (ups.length = ups'.length)) && ((tree == tree') && (target == target') && (name == name'))) && (who == who') && decide (stamp = stamp') && (text == text')) := rfl
  rw [hv]
  clear hv hn2
  unfold objV
  simp only
  obtain ⟨n1, hn1⟩ : ∃ n, n = data.length := ⟨_, rfl⟩
  obtain ⟨n2, hn2⟩ : ∃ n, n = ents.length := ⟨_, rfl⟩
  obtain ⟨n3, hn3⟩ : ∃ n, n = ups.length := ⟨_, rfl⟩
  obtain ⟨m1, hm1⟩ : ∃ n, n = data'.length := ⟨_, rfl⟩
  obtain ⟨m2, hm2⟩ : ∃ n, n = ents'.length := ⟨_, rfl⟩
  obtain ⟨m3, hm3⟩ : ∃ n, n = ups'.length := ⟨_, rfl⟩
  rw [← hn1, ← hn2, ← hn3, ← hm1, ← hm2, ← hm3]
  clear hn1 hn2 hn3 hm1 hm2 hm3
  have l1 := SL_toList tree
  have l2 := SL_toList tree'
  have l3 := SL_toList target
  have l4 := SL_toList target'
  have l5 := SL_toList name
  have l6 := SL_toList name'
  have l7 := SL_toList who
  have l8 := SL_toList who'
  have l9 := SL_toList text
  have l0 := SL_toList text'
  by_cases k1 : n1 = m1
  rotate_left
  · have i1 : ¬ (n1 : Int) = (m1 : Int) := by omega
    have j1 : ((n1 : Int) == (m1 : Int)) = false := by simpa using i1
    by_cases hq1 : (tree == tree') = true
    rotate_left
    · have f1 : (tree == tree') = false := by simpa using hq1
      clear hq1
      clear l3 l4 l5 l6 l7 l8 l9 l0
      rw [show (((decide (n1 = m1) && decide (n2 = m2) && decide (n3 = m3)) && ((tree == tree') && (target == target') && (name == name'))) && (who == who') && decide (stamp = stamp') && (text == text')) = false from by simp [k1, f1]]
      go_enter Try.func35, Try.ntmps35
      go_wp2
      go_ret
      exact ⟨rfl, HN2.out _ _⟩
    by_cases hq2 : (target == target') = true
    rotate_left
    · have f2 : (target == target') = false := by simpa using hq2
      clear hq2
      clear l5 l6 l7 l8 l9 l0
      rw [show (((decide (n1 = m1) && decide (n2 = m2) && decide (n3 = m3)) && ((tree == tree') && (target == target') && (name == name'))) && (who == who') && decide (stamp = stamp') && (text == text')) = false from by simp [k1, hq1, f2]]
      go_enter Try.func35, Try.ntmps35
      go_wp2
      go_ret
      exact ⟨rfl, HN2.out _ _⟩
    by_cases hq3 : (name == name') = true
    rotate_left
    · have f3 : (name == name') = false := by simpa using hq3
      clear hq3
      clear l7 l8 l9 l0
      rw [show (((decide (n1 = m1) && decide (n2 = m2) && decide (n3 = m3)) && ((tree == tree') && (target == target') && (name == name'))) && (who == who') && decide (stamp = stamp') && (text == text')) = false from by simp [k1, hq1, hq2, f3]]
      go_enter Try.func35, Try.ntmps35
      go_wp2
      go_ret
      exact ⟨rfl, HN2.out _ _⟩
    clear l7 l8 l9 l0
    rw [show (((decide (n1 = m1) && decide (n2 = m2) && decide (n3 = m3)) && ((tree == tree') && (target == target') && (name == name'))) && (who == who') && decide (stamp = stamp') && (text == text')) = false from by simp [k1, hq1, hq2, hq3]]
    go_enter Try.func35, Try.ntmps35
    go_wp2
    go_ret
    exact ⟨rfl, HN2.out _ _⟩
  obtain rfl := k1
  by_cases k2 : n2 = m2
  rotate_left
  · have i2 : ¬ (n2 : Int) = (m2 : Int) := by omega
    have j2 : ((n2 : Int) == (m2 : Int)) = false := by simpa using i2
    by_cases hq1 : (tree == tree') = true
    rotate_left
    · have f1 : (tree == tree') = false := by simpa using hq1
      clear hq1
      clear l3 l4 l5 l6 l7 l8 l9 l0
      rw [show (((decide (n1 = n1) && decide (n2 = m2) && decide (n3 = m3)) && ((tree == tree') && (target == target') && (name == name'))) && (who == who') && decide (stamp = stamp') && (text == text')) = false from by simp [k2, f1]]
      go_enter Try.func35, Try.ntmps35
      go_wp2
      go_ret
      exact ⟨rfl, HN2.out _ _⟩
    by_cases hq2 : (target == target') = true
    rotate_left
    · have f2 : (target == target') = false := by simpa using hq2
      clear hq2
      clear l5 l6 l7 l8 l9 l0
      rw [show (((decide (n1 = n1) && decide (n2 = m2) && decide (n3 = m3)) && ((tree == tree') && (target == target') && (name == name'))) && (who == who') && decide (stamp = stamp') && (text == text')) = false from by simp [k2, hq1, f2]]
      go_enter Try.func35, Try.ntmps35
      go_wp2
      go_ret
      exact ⟨rfl, HN2.out _ _⟩
    by_cases hq3 : (name == name') = true
    rotate_left
    · have f3 : (name == name') = false := by simpa using hq3
      clear hq3
      clear l7 l8 l9 l0
      rw [show (((decide (n1 = n1) && decide (n2 = m2) && decide (n3 = m3)) && ((tree == tree') && (target == target') && (name == name'))) && (who == who') && decide (stamp = stamp') && (text == text')) = false from by simp [k2, hq1, hq2, f3]]
      go_enter Try.func35, Try.ntmps35
      go_wp2
      go_ret
      exact ⟨rfl, HN2.out _ _⟩
    clear l7 l8 l9 l0
    rw [show (((decide (n1 = n1) && decide (n2 = m2) && decide (n3 = m3)) && ((tree == tree') && (target == target') && (name == name'))) && (who == who') && decide (stamp = stamp') && (text == text')) = false from by simp [k2, hq1, hq2, hq3]]
    go_enter Try.func35, Try.ntmps35
    go_wp2
    go_ret
    exact ⟨rfl, HN2.out _ _⟩
  obtain rfl := k2
  by_cases k3 : n3 = m3
  rotate_left
  · have i3 : ¬ (n3 : Int) = (m3 : Int) := by omega
    have j3 : ((n3 : Int) == (m3 : Int)) = false := by simpa using i3
    by_cases hq1 : (tree == tree') = true
    rotate_left
    · have f1 : (tree == tree') = false := by simpa using hq1
      clear hq1
      clear l3 l4 l5 l6 l7 l8 l9 l0
      rw [show (((decide (n1 = n1) && decide (n2 = n2) && decide (n3 = m3)) && ((tree == tree') && (target == target') && (name == name'))) && (who == who') && decide (stamp = stamp') && (text == text')) = false from by simp [k3, f1]]
      go_enter Try.func35, Try.ntmps35
      go_wp2
      go_ret
      exact ⟨rfl, HN2.out _ _⟩
    by_cases hq2 : (target == target') = true
    rotate_left
    · have f2 : (target == target') = false := by simpa using hq2
      clear hq2
      clear l5 l6 l7 l8 l9 l0
      rw [show (((decide (n1 = n1) && decide (n2 = n2) && decide (n3 = m3)) && ((tree == tree') && (target == target') && (name == name'))) && (who == who') && decide (stamp = stamp') && (text == text')) = false from by simp [k3, hq1, f2]]
      go_enter Try.func35, Try.ntmps35
      go_wp2
      go_ret
      exact ⟨rfl, HN2.out _ _⟩
    by_cases hq3 : (name == name') = true
    rotate_left
    · have f3 : (name == name') = false := by simpa using hq3
      clear hq3
      clear l7 l8 l9 l0
      rw [show (((decide (n1 = n1) && decide (n2 = n2) && decide (n3 = m3)) && ((tree == tree') && (target == target') && (name == name'))) && (who == who') && decide (stamp = stamp') && (text == text')) = false from by simp [k3, hq1, hq2, f3]]
      go_enter Try.func35, Try.ntmps35
      go_wp2
      go_ret
      exact ⟨rfl, HN2.out _ _⟩
    clear l7 l8 l9 l0
    rw [show (((decide (n1 = n1) && decide (n2 = n2) && decide (n3 = m3)) && ((tree == tree') && (target == target') && (name == name'))) && (who == who') && decide (stamp = stamp') && (text == text')) = false from by simp [k3, hq1, hq2, hq3]]
    go_enter Try.func35, Try.ntmps35
    go_wp2
    go_ret
    exact ⟨rfl, HN2.out _ _⟩
  obtain rfl := k3
  by_cases hq1 : (tree == tree') = true
  rotate_left
  · have f1 : (tree == tree') = false := by simpa using hq1
    clear hq1
    clear l3 l4 l5 l6 l7 l8 l9 l0
    rw [show (((decide (n1 = n1) && decide (n2 = n2) && decide (n3 = n3)) && ((tree == tree') && (target == target') && (name == name'))) && (who == who') && decide (stamp = stamp') && (text == text')) = false from by simp [f1]]
    go_enter Try.func35, Try.ntmps35
    go_wp2
    go_ret
    exact ⟨rfl, HN2.out _ _⟩
  by_cases hq2 : (target == target') = true
  rotate_left
  · have f2 : (target == target') = false := by simpa using hq2
    clear hq2
    clear l5 l6 l7 l8 l9 l0
    rw [show (((decide (n1 = n1) && decide (n2 = n2) && decide (n3 = n3)) && ((tree == tree') && (target == target') && (name == name'))) && (who == who') && decide (stamp = stamp') && (text == text')) = false from by simp [hq1, f2]]
    go_enter Try.func35, Try.ntmps35
    go_wp2
    go_ret
    exact ⟨rfl, HN2.out _ _⟩
  by_cases hq3 : (name == name') = true
  rotate_left
  · have f3 : (name == name') = false := by simpa using hq3
    clear hq3
    clear l7 l8 l9 l0
    rw [show (((decide (n1 = n1) && decide (n2 = n2) && decide (n3 = n3)) && ((tree == tree') && (target == target') && (name == name'))) && (who == who') && decide (stamp = stamp') && (text == text')) = false from by simp [hq1, hq2, f3]]
    go_enter Try.func35, Try.ntmps35
    go_wp2
    go_ret
    exact ⟨rfl, HN2.out _ _⟩
  by_cases hqw : (who == who') = true
  rotate_left
  · have fw : (who == who') = false := by simpa using hqw
    clear hqw
    clear l9 l0
    rw [show (((decide (n1 = n1) && decide (n2 = n2) && decide (n3 = n3)) && ((tree == tree') && (target == target') && (name == name'))) && (who == who') && decide (stamp = stamp') && (text == text')) = false from by simp [hq1, hq2, hq3, fw]]
    go_enter Try.func35, Try.ntmps35
    go_wp2
    go_ret
    exact ⟨rfl, HN2.out _ _⟩
  by_cases hqz : stamp = stamp'
  rotate_left
  · have fz : (stamp == stamp') = false := by simpa using hqz
    clear l9 l0
    rw [show (((decide (n1 = n1) && decide (n2 = n2) && decide (n3 = n3)) && ((tree == tree') && (target == target') && (name == name'))) && (who == who') && decide (stamp = stamp') && (text == text')) = false from by simp [hq1, hq2, hq3, hqw, hqz]]
    go_enter Try.func35, Try.ntmps35
    go_wp2
    go_ret
    exact ⟨rfl, HN2.out _ _⟩
  obtain rfl := hqz
  by_cases hqt : (text == text') = true
  rotate_left
  · have ft : (text == text') = false := by simpa using hqt
    clear hqt
    rw [show (((decide (n1 = n1) && decide (n2 = n2) && decide (n3 = n3)) && ((tree == tree') && (target == target') && (name == name'))) && (who == who') && decide (stamp = stamp) && (text == text')) = false from by simp [hq1, hq2, hq3, hqw, ft]]
    go_enter Try.func35, Try.ntmps35
    go_wp2
    go_ret
    exact ⟨rfl, HN2.out _ _⟩
  rw [show (((decide (n1 = n1) && decide (n2 = n2) && decide (n3 = n3)) && ((tree == tree') && (target == target') && (name == name'))) && (who == who') && decide (stamp = stamp) && (text == text')) = true from by simp [hq1, hq2, hq3, hqw, hqt]]
  go_enter Try.func35, Try.ntmps35
  go_wp2
  go_ret
  exact ⟨rfl, HN2.out _ _⟩
end Go.Proofs.Ytckbeeadkiiccaa
