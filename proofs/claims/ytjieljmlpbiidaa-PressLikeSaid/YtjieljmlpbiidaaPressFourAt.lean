/- The walk of fourAt: four bytes by value. -/
import Derived.Test.YtjieljmlpbiidaaPressFour
import Derived.Laws.Rows
import Derived.Laws.Alloc2
namespace Go.Proofs.Ytjieljmlpbiidaa
open Go.RowKit
theorem size53 : (Try.prog.info? 55).map (·.size) = some 4 := by kernel_rfl
theorem arr53 (W : World) (a : Addr) (cap : Nat) : (Instr.arrayAt 55 (.slice (some a) 4 cap)).run Try.prog W = .ok (.pointer (some a)) W := by
  unfold Instr.arrayAt
  rw [Sem.run_bind, run_underlying Try.underlying55]
  rfl
theorem take_four (bs : List UInt8) (k : Nat) (hk : k + 4 ≤ bs.length) : (bs.drop k).take 4 = four bs k := by
  apply List.ext_getElem?
  intro j
  unfold four
  rw [List.getElem?_take]
  by_cases hj : j < 4
  · rw [if_pos hj, List.getElem?_drop]
    have h4 : j = 0 ∨ j = 1 ∨ j = 2 ∨ j = 3 := by omega
    rcases h4 with rfl | rfl | rfl | rfl <;> simp [List.getD] <;> rw [List.getElem?_eq_getElem (by omega)] <;> rfl
  · rw [if_neg hj]
    symm
    rw [List.getElem?_eq_none]
    simp; omega
theorem SrcAt.range {w : World} {ao : Option Addr} {cap : Nat} {bs : List UInt8} {B off : Nat} (h : SrcAt w ao cap bs B off) : w.rangeAt B off (bs.map B8) := fun j v hv => by
  have hj : j < bs.length := by have := (List.getElem?_eq_some_iff.1 hv).1; rwa [List.length_map] at this
  rw [h.cell j hj, ← hv]
  simp [B8, hj]
set_option maxRecDepth 100000 in
set_option maxHeartbeats 800000 in
theorem fourAt_any (ao : Option Addr) (cap : Nat) (bs : List UInt8) (B off : Nat) (k : Nat) (w : World) (h : SrcAt w ao cap bs B off) (hk : k + 4 ≤ bs.length) (hs : bs.length ≤ 281474976710656) :
    Calls Try.prog 31 #[.slice ao bs.length cap, .int .i64 (k : Int)] w fun e w' => e = .returned (fourV (four bs k)) ∧ Below w.heap.size w w' := by
  obtain ⟨ao2, hsl0, hs2⟩ := h.slice_lh k 4 hk
  rw [take_four bs k hk] at hs2
  obtain rfl := hs2.src (by rw [four_length]; omega)
  obtain ⟨F, hF⟩ : ∃ F, F = four bs k := ⟨_, rfl⟩
  have hFl : F.length = 4 := by rw [hF]; rfl
  rw [← hF] at hs2 ⊢
  obtain ⟨n, hn⟩ : ∃ n, n = bs.length := ⟨_, rfl⟩
  rw [← hn] at hk hs hsl0 ⊢
  have hsl : ∀ w : World, (Instr.slice 22 (.slice ao n cap) (some (.int .i64 (k : Int))) (some (.int .i64 ((k : Int) + 4))) none).run Try.prog w = .ok (.slice (some ⟨B, off + k, none⟩) 4 (cap - k)) w := hsl0
  have harr := fun W => arr53 W ⟨B, off + k, none⟩ (cap - k)
  have hb1 : Below w.heap.size w (w.alloc (.cells #[.int .u8 0, .int .u8 0, .int .u8 0, .int .u8 0] 55)) := (Below.refl _ _).alloc (Nat.le_refl _) _
  have hr := (hs2.below hb1).range
  have hh := heap_alloc_new w (.cells #[.int .u8 0, .int .u8 0, .int .u8 0, .int .u8 0] 55)
  have hi : (Try.prog.info? 55).map (·.size) = some (F.map B8).length := by rw [size53, List.length_map, hFl]
  have HF := Lib.hid hFl
  have HR := Lib.hid hr
  have HI := Lib.hid hi
  have HH := Lib.hid hh
  clear hF hFl hn hsl0 hr hi hh
  go_enter Try.func31, Try.ntmps31
  go_wp2_with (first | (refine wpList_load_mid rfl 55 _ rfl B (off + k) rfl (F.map B8) _ HR.out Try.underlying55 rfl HI.out ?_) | (refine wpList_store_row rfl 55 _ _ rfl _ _ rfl rfl _ _ HH.out (by rw [HI.out]; rfl) (by simp [HF.out]) (all_oneCell_toArray (B8_one F)) ?_))
  try simp only [Exit.inBlock, Exit.then]
  refine bodyPost_ret (results_cell_row Try.results31 _ _ w.heap.size 55 (cells8 F) (0,0) _ rfl (setRow_heap _ _ _ _ _ _ HH.out) Try.underlying55 rfl ?_) rfl ?_
  · rw [HI.out]; simp [cells8]
  · exact ⟨rfl, below_setRow hb1 (Nat.le_refl _) _⟩
end Go.Proofs.Ytjieljmlpbiidaa
