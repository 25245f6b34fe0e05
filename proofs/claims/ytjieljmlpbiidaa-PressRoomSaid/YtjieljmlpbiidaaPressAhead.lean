/- The places in memory; the walks of ahead and bytes.Equal. -/
import Derived.Test.YtjieljmlpbiidaaPressFourAt
import Derived.Test.YtjieljmlpbiidaaPressAlike
namespace Go.Proofs.Ytjieljmlpbiidaa
open Go.RowKit
/-- The places: the map's block, and how far back each. -/
def TabAt (w : World) (pb mb : Nat) (tab : Nat → Int) : Prop :=
  ∃ C : Array Value, w.heap[pb]? = some (.cells C 38 (0, 0)) ∧ C.size = 4097 ∧ C[0]? = some (.map (some mb)) ∧ ∀ j, j < 4096 → C[1 + j]? = some (.int .i64 (tab j))
theorem TabAt.lt {w : World} {pb mb : Nat} {tab : Nat → Int} (h : TabAt w pb mb tab) : pb < w.heap.size := by
  obtain ⟨C, h1, _⟩ := h
  exact (Array.getElem?_eq_some_iff.1 h1).1
theorem TabAt.cell0 {w : World} {pb mb : Nat} {tab : Nat → Int} (h : TabAt w pb mb tab) : w.cell? ⟨pb, 0, none⟩ = some (.map (some mb)) := by
  obtain ⟨C, h1, h2, h3, h4⟩ := h
  rw [cell_of_row _ _ _ _ _ _ h1]; exact h3
theorem TabAt.cell {w : World} {pb mb : Nat} {tab : Nat → Int} (h : TabAt w pb mb tab) (j : Nat) (hj : j < 4096) : w.cell? ⟨pb, 1 + j, none⟩ = some (.int .i64 (tab j)) := by
  obtain ⟨C, h1, h2, h3, h4⟩ := h
  rw [cell_of_row _ _ _ _ _ _ h1]; exact h4 j hj
theorem TabAt.frozen {w : World} {pb mb : Nat} {tab : Nat → Int} (h : TabAt w pb mb tab) (j : Nat) : w.frozen? ⟨pb, j, none⟩ = false := by
  obtain ⟨C, h1, h2, h3, h4⟩ := h
  exact frozen_of_row _ _ _ _ _ h1
theorem TabAt.of_heap {w w' : World} {pb mb : Nat} {tab : Nat → Int} (h : TabAt w pb mb tab) (hw : w'.heap[pb]? = w.heap[pb]?) : TabAt w' pb mb tab := by
  obtain ⟨C, h1, h2⟩ := h
  exact ⟨C, hw.trans h1, h2⟩
theorem TabAt.below {w w' : World} {pb mb : Nat} {tab : Nat → Int} (h : TabAt w pb mb tab) (hb : Below w.heap.size w w') : TabAt w' pb mb tab := h.of_heap (hb.block _ h.lt)
theorem TabAt.set {w : World} {pb mb : Nat} {tab : Nat → Int} (h : TabAt w pb mb tab) (j : Nat) (hj : j < 4096) (v : Int) : TabAt (w.setCell ⟨pb, 1 + j, none⟩ (.int .i64 v)) pb mb (fun x => if x = j then v else tab x) := by
  obtain ⟨C, h1, h2, h3, h4⟩ := h
  refine ⟨C.set! (1 + j) (.int .i64 v), heap_setCell_same _ _ _ _ _ _ h1, by simp [h2], ?_, fun x hx => ?_⟩
  · rw [← h3]; simp
  · simp only [Array.set!_eq_setIfInBounds, Array.getElem?_setIfInBounds, h2]
    by_cases e : x = j
    · subst e; rw [if_pos rfl, if_pos (by omega), if_pos rfl]
    · rw [if_neg (by omega), if_neg e]; exact h4 x hx
set_option maxRecDepth 100000 in
set_option maxHeartbeats 800000 in
theorem ahead_any (pb mb : Nat) (tab : Nat → Int) (k i x : Nat) (w : World) (h : TabAt w pb mb tab) (hi : i ≤ 281474976710656) (hk : k ≤ i) (hx : x ≤ k) (ht : tab (k % 4096) = (x : Int)) :
    Calls Try.prog 34 #[.pointer (some ⟨pb, 0, none⟩), .int .i64 (k : Int), .int .i64 (i : Int)] w fun e w' => (∃ β : Bool, e = .returned (.tuple #[.int .i64 ((k - x : Nat) : Int), .bool β]) ∧ (β = true ↔ 0 < x ∧ i - k + x ≤ 4096)) ∧ w' = w := by
  have c1 := h.cell (k % 4096) (Nat.mod_lt _ (by omega))
  rw [ht] at c1
  have hm : k % 4096 < 4096 := Nat.mod_lt _ (by omega)
  have e1 : ((k - x : Nat) : Int) = (k : Int) - (x : Int) := by omega
  rw [e1]
  clear ht e1
  by_cases h0 : 0 < x
  · by_cases h1 : i - k + x ≤ 4096
    · have h2 : (i : Int) - (k : Int) + (x : Int) ≤ 4096 := by omega
      go_enter Try.func34, Try.ntmps34
      go_wp2
      go_ret2
      exact ⟨⟨true, rfl, by simp; omega⟩, rfl⟩
    · have h2 : decide ((i : Int) - (k : Int) + (x : Int) ≤ 4096) = false := by simp; omega
      go_enter Try.func34, Try.ntmps34
      go_wp2
      go_ret2
      exact ⟨⟨false, rfl, by simp; omega⟩, rfl⟩
  · have h2 : (x : Int) ≤ 0 := by omega
    go_enter Try.func34, Try.ntmps34
    go_wp2
    go_ret2
    exact ⟨⟨false, rfl, by simp; omega⟩, rfl⟩
theorem SL_eq (l r : List UInt8) : ((SL l).toList == (SL r).toList) = decide (l = r) := by
  have e : ∀ x : List UInt8, (SL x).toList = x := fun x => by rw [ByteArray.toList_eq]; rfl
  rw [e, e, Bool.eq_iff_iff]
  simp
set_option maxRecDepth 100000 in
set_option maxHeartbeats 800000 in
theorem equal_any {ao bo : Option Addr} {capa capb : Nat} {l r : List UInt8} {A offa B offb : Nat} (w : World) (ha : SrcAt w ao capa l A offa) (hb : SrcAt w bo capb r B offb) :
    Calls Try.prog 32 #[.slice ao l.length capa, .slice bo r.length capb] w fun e w' => e = .returned (.bool (decide (l = r))) ∧ w' = w := by
  have c1 := convert_src ha
  have c2 := convert_src hb
  go_enter Try.func32, Try.ntmps32
  go_wp2
  go_ret
  refine ⟨?_, rfl⟩
  rw [← SL_eq]
  rfl
end Go.Proofs.Ytjieljmlpbiidaa
