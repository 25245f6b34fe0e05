/- What the proofs stand on: DiskOpen. -/
import Derived.Deep.Slices
import Derived.Deep.Fields
import Derived.Test.YtomgijcbekjlaaaGreatP17
import Derived.Test.YtomgijcbekjlaaaGreatP15
set_option maxRecDepth 100000
set_option maxHeartbeats 40000000
namespace Go.Proofs.YtomgijcbekjlaaaGreat
section
open Go.ChangeShapes Go.WideShapes Go.ChangeAt Go.RowKit Go.Deep
theorem bytes_cell {H : Type} {enc : TypeId × Value -> H} {W : World} {n : Nat} {v : Value} {y : DataW H × List MemPlace} (h : DataW.trod enc Tryz.prog W 0 (fun _ => true) true n 29 [v] = some y) (hlt : ∀ x ∈ y.2, x.block < W.heap.size) :
  ∃ bs, BytesAt W (fun k => k < W.heap.size) v bs := by
 rcases open_ints Tryz.underlying29 Tryz.underlying5 cells5 h with ⟨hcs, hx⟩ | ⟨a, len', cap', zs, hcs, _, hl, hm, hz, hx, hcell, hwz⟩
 ·simp at hcs
  subst hcs; exact ⟨[], none, 0, 0, 0, rfl, src_nil W, fun h => absurd h (by simp)⟩
 ·simp at hcs
  subst hcs; subst hx; simp only [if_true] at hz; obtain ⟨bs, hbs⟩ : ∃ bs : List UInt8, bs = (zs.take len').map fun n => UInt8.ofNat n.toNat := ⟨_, rfl⟩
  have hbl : bs.length = len' := by rw [hbs, List.length_map, List.length_take]; omega
  have hat : ∀ j, j < len' -> ((bs.getD j 0).toNat : Int) = zs.getD j 0 := fun j hj => by
   have h1 : j < zs.length := by omega
   have h2 := u8_of_wf (hwz zs[j] (List.getElem_mem h1)); rw [hbs]; simp only [List.getD, List.getElem?_map, List.getElem?_take, hj, if_true, List.getElem?_eq_getElem h1, Option.map_some, Option.getD_some]; exact h2
  obtain ⟨b, off, spot⟩ := a; by_cases hl0 : len' = 0
  ·subst hl0
   have hb0 : bs = [] := List.eq_nil_of_length_eq_zero hbl
   exact ⟨[], some ⟨b, off, spot⟩, cap', 0, 0, rfl, ⟨Nat.zero_le _, hm, fun h => absurd h (Nat.lt_irrefl _), (fun h => by cases h), fun h => absurd h (Nat.lt_irrefl _), fun j hj => absurd hj (Nat.not_lt_zero _)⟩, fun h => absurd h (by simp)⟩
  ·have hspot : spot = Option.none := by simpa [Addr.add] using World.cell?_spot (hcell 0 (by omega))
   subst hspot; have hbW : b < W.heap.size := hlt (.cell b off) (MemPlace.mem_row.2 ⟨0, by omega, by simp⟩)
   refine ⟨bs, some ⟨b, off, Option.none⟩, cap', b, off, by rw [hbl], ⟨by omega, hm, fun _ => rfl, (fun h => by cases h), fun _ => hbW, fun j hj => ?_⟩, fun _ => hbW⟩
   have h3 := hcell j (by omega)
   rw [Addr.add_lit] at h3; rw [h3, hat j (by omega)]
theorem text_of (s : ByteArray) (h : s.size <= maxLen) : ∃ b : Bs, s = SL b /\ b.length <= 9223372036854775807 := by
 refine ⟨s.data.toList, (SL_data s).symm, ?_⟩; have h1 : s.data.toList.length = s.size := rfl
 unfold maxLen at h; omega
theorem cells74 : Tryz.prog.cellsOf 73 = 2 := by kernel_rfl
theorem cells3 : Tryz.prog.cellsOf 3 = 1 := by kernel_rfl
theorem cells9 : Tryz.prog.cellsOf 9 = 1 := by kernel_rfl
theorem cells32d : Tryz.prog.cellsOf 29 = 1 := by kernel_rfl
theorem one_cell (cs : List Value) (i : Nat) (h : i < cs.length) : (cs.drop i).take 1 = [cs[i]] := by
 rw [List.drop_eq_getElem_cons h]; rfl
theorem choose_list {α : Type} {p : Nat -> α -> Prop} : ∀ (n : Nat), (∀ i, i < n -> ∃ x, p i x) -> ∃ l : List α, l.length = n /\ ∀ i x, l[i]? = some x -> p i x
 | 0, _ => ⟨[], rfl, fun i x h => by simp at h⟩
 | n + 1, h => by
  obtain ⟨l, h1, h2⟩ := choose_list n (fun i hi => h i (by omega))
  obtain ⟨x, hx⟩ := h n (by omega)
  refine ⟨l ++ [x], by simp [h1], fun i y hy => ?_⟩
  rw [List.getElem?_append] at hy; split at hy
  ·exact h2 i y hy
  ·rename_i hi
   have hi2 := (List.getElem?_eq_some_iff.1 hy).1; simp at hi2
   have e : i = n := by omega
   subst e; simp [h1] at hy; rw [<- hy]; exact hx
end
end Go.Proofs.YtomgijcbekjlaaaGreat
