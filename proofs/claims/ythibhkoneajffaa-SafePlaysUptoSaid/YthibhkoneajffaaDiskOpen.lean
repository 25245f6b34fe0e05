/- What comes in to the laws: rows of structs, slices of bytes, texts. -/
import Derived.Test.YthibhkoneajffaaOpenBytes
import Derived.Test.YthibhkoneajffaaDiskPair
import Derived.Deep.Slices
import Derived.Deep.Fields
namespace Go.Proofs.Ythibhkoneajffaa
open Go.ChangeShapes Go.WideShapes Go.ChangeAt Go.RowKit Go.Deep
/-- A slice of bytes that a cell holds. -/
theorem bytes_cell {H : Type} {enc : TypeId × Value → H} {W : World} {n : Nat} {v : Value} {y : DataW H × List MemPlace} (h : DataW.trod enc Try.prog W 0 (fun _ => true) true n 29 [v] = some y) (hlt : ∀ x ∈ y.2, x.block < W.heap.size) :
    ∃ bs, BytesAt W (fun k => k < W.heap.size) v bs := by
  rcases open_ints Try.underlying29 Try.underlying5 cells5 h with ⟨hcs, hx⟩ | ⟨a, len', cap', zs, hcs, _, hl, hm, hz, hx, hcell, hwz⟩
  · simp at hcs
    subst hcs
    exact ⟨[], none, 0, 0, 0, rfl, src_nil W, fun h => absurd h (by simp)⟩
  · simp at hcs
    subst hcs
    subst hx
    simp only [if_true] at hz
    obtain ⟨bs, hbs⟩ : ∃ bs : List UInt8, bs = (zs.take len').map fun n => UInt8.ofNat n.toNat := ⟨_, rfl⟩
    have hbl : bs.length = len' := by rw [hbs, List.length_map, List.length_take]; omega
    have hat : ∀ j, j < len' → ((bs.getD j 0).toNat : Int) = zs.getD j 0 := fun j hj => by
      have h1 : j < zs.length := by omega
      have h2 := u8_of_wf (hwz zs[j] (List.getElem_mem h1))
      rw [hbs]
      simp only [List.getD, List.getElem?_map, List.getElem?_take, hj, if_true, List.getElem?_eq_getElem h1, Option.map_some, Option.getD_some]
      exact h2
    obtain ⟨b, off, spot⟩ := a
    by_cases hl0 : len' = 0
    · subst hl0
      have hb0 : bs = [] := List.eq_nil_of_length_eq_zero hbl
      exact ⟨[], some ⟨b, off, spot⟩, cap', 0, 0, rfl, ⟨Nat.zero_le _, hm, fun h => absurd h (Nat.lt_irrefl _), (fun h => by cases h), fun h => absurd h (Nat.lt_irrefl _), fun j hj => absurd hj (Nat.not_lt_zero _)⟩, fun h => absurd h (by simp)⟩
    · have hspot : spot = Option.none := by simpa [Addr.add] using World.cell?_spot (hcell 0 (by omega))
      subst hspot
      have hbW : b < W.heap.size := hlt (.cell b off) (MemPlace.mem_row.2 ⟨0, by omega, by simp⟩)
      refine ⟨bs, some ⟨b, off, Option.none⟩, cap', b, off, by rw [hbl], ⟨by omega, hm, fun _ => rfl, (fun h => by cases h), fun _ => hbW, fun j hj => ?_⟩, fun _ => hbW⟩
      have h3 := hcell j (by omega)
      rw [Addr.add_lit] at h3
      rw [h3, hat j (by omega)]
theorem text_of (s : ByteArray) (h : s.size ≤ maxLen) : ∃ b : Bs, s = SL b ∧ b.length ≤ 9223372036854775807 := by
  refine ⟨s.data.toList, (SL_data s).symm, ?_⟩
  have h1 : s.data.toList.length = s.size := rfl
  unfold maxLen at h
  omega
set_option maxRecDepth 100000 in
/-- The rows of a slice of structs that came in. -/
theorem open_rows {H : Type} {enc : TypeId × Value → H} {W : World} {base : Nat} {v : Value} {d : DataW H} {ps : List MemPlace} {t e k : Nat} {fs : Array Field} (ht : Try.prog.underlying t = some (.slice e)) (he : Try.prog.underlying e = some (.struct fs)) (hC : Try.prog.cellsOf e = k) (hk : 0 < k)
    (hval : Value.okWide Try.prog W .any base t v) (h : DataW.Trod enc Try.prog W 0 (fun _ => true) true t v d ps) (hlt : ∀ x ∈ ps, x.block < W.heap.size) :
    ∃ (ao : Option Addr) (len cap g off : Nat), v = .slice ao len cap ∧ len ≤ cap ∧ cap ≤ maxLen ∧ (ao = none → len = 0 ∧ cap = 0) ∧ (0 < len → ao = some ⟨g, off, none⟩ ∧ g < W.heap.size) ∧ ((d = .nil ∧ len = 0) ∨ ∃ els sp, d = .slice els sp ∧ els.length = len ∧ els.length + sp.length = cap) ∧
      ∀ i, i < len → ∃ (cs : List Value) (n : Nat), cs.length = k ∧ (∀ j u, cs[j]? = some u → W.cell? ⟨g, off + i * k + j, none⟩ = some u) ∧
        (∀ (j : Nat) (f : Field), fs[j]? = some f → ∃ y, DataW.trod enc Try.prog W 0 (fun _ => true) true n f.type ((cs.drop f.offset).take (Try.prog.cellsOf f.type)) = some y ∧ ∀ x ∈ y.2, x.block < W.heap.size) := by
  obtain ⟨a0, len, cap, rfl⟩ := okWide_slice ht hval
  obtain ⟨fuel, hf⟩ := h
  rcases open_slice ht hf with ⟨hcs, hx⟩ | ⟨a, len', cap', m, n, D, Pl, hcs, _, hl, hm, hmm, hx, hi⟩
  · simp [Value.cells] at hcs
    obtain ⟨rfl, rfl, rfl⟩ := hcs
    simp only [Prod.mk.injEq] at hx
    exact ⟨none, 0, 0, 0, 0, rfl, Nat.le_refl _, Nat.zero_le _, fun _ => ⟨rfl, rfl⟩, fun h => absurd h (Nat.lt_irrefl _), .inl ⟨hx.1, rfl⟩, fun i hi => absurd hi (Nat.not_lt_zero _)⟩
  · simp [Value.cells] at hcs
    obtain ⟨rfl, rfl, rfl⟩ := hcs
    simp only [Prod.mk.injEq] at hx
    obtain ⟨rfl, rfl⟩ := hx
    simp only [if_true] at hmm
    subst hmm
    obtain ⟨b, off, spot⟩ := a
    by_cases hl0 : len = 0
    · subst hl0
      exact ⟨some ⟨b, off, spot⟩, 0, m, 0, 0, rfl, Nat.zero_le _, hm, (fun h => by cases h), fun h => absurd h (Nat.lt_irrefl _), .inr ⟨_, _, rfl, by simp, by simp⟩, fun i hi => absurd hi (Nat.not_lt_zero _)⟩
    · have hbl : b < W.heap.size := hlt (.cell b off) (List.mem_append_left _ (MemPlace.mem_row.2 ⟨0, by rw [hC]; exact Nat.mul_pos (by omega) hk, by simp⟩))
      have hrow : ∀ i, i < len → ∃ cs', W.cells? 0 ((⟨b, off, spot⟩ : Addr).add (i * k)) k = some cs' ∧ DataW.trod enc Try.prog W 0 (fun _ => true) true n e cs' = some (D i, Pl i) := fun i hil => by
        have := hi i (by omega)
        rwa [hC] at this
      have hspot : spot = Option.none := by
        obtain ⟨cs', h1, _⟩ := hrow 0 (by omega)
        obtain ⟨_, h3, h4⟩ := World.cells?_some h1
        have h5 := h4 0 hk
        rw [List.getElem?_eq_getElem (by omega)] at h5
        simpa [Addr.add] using World.cell?_spot h5
      subst hspot
      refine ⟨some ⟨b, off, none⟩, len, m, b, off, rfl, hl, hm, (fun h => by cases h), fun _ => ⟨rfl, hbl⟩, .inr ⟨_, _, rfl, by simp, by simp; omega⟩, fun i hil => ?_⟩
      obtain ⟨cs', h1, h2⟩ := hrow i hil
      obtain ⟨_, h3, h4⟩ := World.cells?_some h1
      obtain ⟨xs, n', _, h5, _, hxl, h6⟩ := DataW.trod_struct he h2
      simp only [Prod.mk.injEq] at h5
      refine ⟨cs', n', h3, fun j u hu => ?_, fun j f hjf => ?_⟩
      · have hj := (List.getElem?_eq_some_iff.1 hu).1
        have := h4 j (by omega)
        rw [hu, Addr.add_lit, Addr.add_lit] at this
        exact this
      · have hj : j < xs.length := by rw [hxl]; exact (Array.getElem?_eq_some_iff.1 hjf).1
        refine ⟨xs[j], (h6 j f hjf).trans (List.getElem?_eq_getElem hj), fun x hx => hlt x (List.mem_append_right _ (List.mem_flatMap.2 ⟨i, List.mem_range.2 (by omega), ?_⟩))⟩
        rw [h5.2]
        exact List.mem_flatMap.2 ⟨_, List.getElem_mem hj, hx⟩
theorem cells74 : Try.prog.cellsOf 57 = 2 := by kernel_rfl
theorem cells3 : Try.prog.cellsOf 3 = 1 := by kernel_rfl
theorem cells9 : Try.prog.cellsOf 9 = 1 := by kernel_rfl
theorem cells32d : Try.prog.cellsOf 29 = 1 := by kernel_rfl
theorem one_cell (cs : List Value) (i : Nat) (h : i < cs.length) : (cs.drop i).take 1 = [cs[i]] := by
  rw [List.drop_eq_getElem_cons h]
  rfl
theorem choose_list {α : Type} {p : Nat → α → Prop} : ∀ (n : Nat), (∀ i, i < n → ∃ x, p i x) → ∃ l : List α, l.length = n ∧ ∀ i x, l[i]? = some x → p i x
  | 0, _ => ⟨[], rfl, fun i x h => by simp at h⟩
  | n + 1, h => by
    obtain ⟨l, h1, h2⟩ := choose_list n (fun i hi => h i (by omega))
    obtain ⟨x, hx⟩ := h n (by omega)
    refine ⟨l ++ [x], by simp [h1], fun i y hy => ?_⟩
    rw [List.getElem?_append] at hy
    split at hy
    · exact h2 i y hy
    · rename_i hi
      have hi2 := (List.getElem?_eq_some_iff.1 hy).1
      simp at hi2
      have e : i = n := by omega
      subst e
      simp [h1] at hy
      rw [← hy]
      exact hx
set_option maxRecDepth 100000 in
/-- A slice of bytes, as the disk's walks want it. -/
theorem open_row {H : Type} {enc : TypeId × Value → H} {W : World} {base : Nat} {v : Value} {d : DataW H} {ps : List MemPlace} (hval : Value.okWide Try.prog W .any base 29 v)
    (h : DataW.Trod enc Try.prog W 0 (fun _ => true) true 29 v d ps) (hlt : ∀ x ∈ ps, x.block < W.heap.size) : ∃ bs, BytesAt W (fun k => k < W.heap.size) v bs := by
  obtain ⟨a0, len, cap, rfl⟩ := okWide_slice Try.underlying29 hval
  obtain ⟨fuel, hf⟩ := h
  exact bytes_cell hf hlt
end Go.Proofs.Ythibhkoneajffaa
