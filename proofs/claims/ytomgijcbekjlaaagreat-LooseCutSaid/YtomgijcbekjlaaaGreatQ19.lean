/- What the proofs stand on: OpenBytes. -/
import Derived.ProofKit
import Derived.SizedLaws
import Derived.OpenShut
import Derived.Test.YtomgijcbekjlaaaGreatQ0
namespace Go.Proofs.YtomgijcbekjlaaaGreat
open Go.ChangeShapes Go.WideShapes Go.ChangeAt Go.RowKit
theorem u8_of_wf {n : Int} (h : (Lit.int .u8 n).wf = true) : ((UInt8.ofNat n.toNat).toNat : Int) = n := by
  have hx : 0 ≤ n ∧ n ≤ 255 := by simpa [Lit.wf, IntKind.min, IntKind.max, IntKind.signed, IntKind.bits] using h
  rw [UInt8.toNat_ofNat_of_lt' (by show _ < 256; omega)]
  omega
/-- How much a slice takes. -/
def Holds {H : Type} (d : DataW H) (cap : Nat) : Prop := (d = .nil ∧ cap = 0) ∨ ∃ elems spare, d = .slice elems spare ∧ elems.length + spare.length = cap
set_option maxRecDepth 100000 in
/-- A slice of bytes that came in. -/
theorem open_bytes {H : Type} {enc : TypeId × Value → H} {W : World} {base : Nat} {v : Value} {d : DataW H} {ps : List MemPlace} (hval : Value.okWide Tryz.prog W .any base 29 v)
    (h : DataW.Trod enc Tryz.prog W 0 (fun _ => true) true 29 v d ps) (hlt : ∀ x ∈ ps, x.block < W.heap.size) :
    ∃ ao cap bs B off, v = .slice ao bs.length cap ∧ SrcAt W ao cap bs B off ∧ Holds d cap := by
  obtain ⟨a0, len, cap, rfl⟩ := okWide_slice Tryz.underlying29 hval
  obtain ⟨fuel, hf⟩ := h
  rcases open_ints Tryz.underlying29 Tryz.underlying5 cells5 hf with ⟨hcs, hx⟩ | ⟨a, len', cap', zs, hcs, _, hl, hm, hz, hx, hcell, hwz⟩
  · simp [Value.cells] at hcs
    obtain ⟨rfl, rfl, rfl⟩ := hcs
    simp only [Prod.mk.injEq] at hx
    obtain ⟨rfl, rfl⟩ := hx
    exact ⟨none, 0, [], 0, 0, rfl, src_nil W, .inl ⟨rfl, rfl⟩⟩
  · simp [Value.cells] at hcs
    obtain ⟨rfl, rfl, rfl⟩ := hcs
    simp only [Prod.mk.injEq] at hx
    obtain ⟨rfl, rfl⟩ := hx
    simp only [if_true] at hz
    obtain ⟨bs, hbs⟩ : ∃ bs : List UInt8, bs = (zs.take len).map fun n => UInt8.ofNat n.toNat := ⟨_, rfl⟩
    have hbl : bs.length = len := by rw [hbs, List.length_map, List.length_take]; omega
    have hd : DataW.slice (lits (H := H) .u8 (zs.take len)) (lits .u8 (zs.drop len)) = DataW.slice (lits (H := H) .u8 (zs.take len)) (lits .u8 (zs.drop len)) ∧ (lits (H := H) .u8 (zs.take len)).length + (lits (H := H) .u8 (zs.drop len)).length = cap := by
      refine ⟨rfl, ?_⟩
      simp only [lits, List.length_map, List.length_take, List.length_drop]; omega
    have hat : ∀ j, j < len → ((bs.getD j 0).toNat : Int) = zs.getD j 0 := fun j hj => by
      have h1 : j < zs.length := by omega
      have h2 := u8_of_wf (hwz zs[j] (List.getElem_mem h1))
      rw [hbs]
      simp only [List.getD, List.getElem?_map, List.getElem?_take, hj, if_true, List.getElem?_eq_getElem h1, Option.map_some, Option.getD_some]
      exact h2
    obtain ⟨b, off, spot⟩ := a
    by_cases hl0 : len = 0
    · subst hl0
      have hb0 : bs = [] := List.eq_nil_of_length_eq_zero hbl
      refine ⟨some ⟨b, off, spot⟩, cap, [], 0, 0, rfl, ⟨Nat.zero_le _, hm, fun h => absurd h (Nat.lt_irrefl _), (fun h => by cases h), fun h => absurd h (Nat.lt_irrefl _), fun j hj => absurd hj (Nat.not_lt_zero _)⟩, .inr ⟨_, _, hd.1, hd.2⟩⟩
    · have hspot : spot = Option.none := by simpa [Addr.add] using World.cell?_spot (hcell 0 (by omega))
      subst hspot
      have hbW : b < W.heap.size := hlt (.cell b off) (MemPlace.mem_row.2 ⟨0, by omega, by simp⟩)
      refine ⟨some ⟨b, off, Option.none⟩, cap, bs, b, off, by rw [hbl], ⟨by omega, hm, fun _ => rfl, (fun h => by cases h), fun _ => hbW, fun j hj => ?_⟩, .inr ⟨_, _, hd.1, hd.2⟩⟩
      have h3 := hcell j (by omega)
      rw [Addr.add_lit] at h3
      rw [h3, hat j (by omega)]
/-- The reach of a slice of bytes. -/
theorem reach_bytes {H : Type} {ts : List TypeId} {ds : List (DataW H)} (hsz : (DataW.weightsEach Tryz.prog ts ds).all (· ≤ reachBytes) = true) {j : Nat} {d : DataW H} {cap : Nat} (ht : ts[j]? = some 29) (hj : ds[j]? = some d)
    (hd : Holds d cap) : cap ≤ 140737488351232 := by
  rcases hd with ⟨_, rfl⟩ | ⟨elems, spare, rfl, rfl⟩
  · exact Nat.zero_le _
  · have := sized_slice hsz (j := j) (t := 29) (e := 5) ht hj Tryz.underlying29
    rw [bytes5, Nat.mul_one] at this
    exact this
end Go.Proofs.YtomgijcbekjlaaaGreat
