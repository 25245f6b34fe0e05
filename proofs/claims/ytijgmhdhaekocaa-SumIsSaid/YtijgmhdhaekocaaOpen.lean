/- Slices of bytes that came in, as the walks want them; the walks' contracts at such slices. -/
import Derived.Test.YtijgmhdhaekocaaAwake
import Derived.ProofKit
import Derived.SizedLaws
namespace Go.Proofs.Ytijgmhdhaekocaa
open Go.ChangeShapes Go.WideShapes Go.ChangeAt Go.RowKit

/-- A slice with these bytes. -/
structure SrcAt (W : World) (ao : Option Addr) (cap : Nat) (bs : List UInt8) (B off : Nat) : Prop where
  le : bs.length ≤ cap
  top : cap ≤ maxLen
  src : 0 < bs.length → ao = some ⟨B, off, none⟩
  bare : ao = Option.none → bs.length = 0 ∧ cap = 0
  old : 0 < bs.length → B < W.heap.size
  cell : ∀ j, j < bs.length → W.cell? ⟨B, off + j, none⟩ = some (.int .u8 ((bs.getD j 0).toNat : Int))

theorem SrcAt.below {W W' : World} {ao : Option Addr} {cap : Nat} {bs : List UInt8} {B off : Nat} (h : SrcAt W ao cap bs B off) (hb : Below W.heap.size W W') : SrcAt W' ao cap bs B off :=
  ⟨h.le, h.top, h.src, h.bare, fun p => Nat.lt_of_lt_of_le (h.old p) hb.size, fun j hj => (hb.cell (h.old (by omega))).trans (h.cell j hj)⟩

theorem cells5 : Try.prog.cellsOf 5 = 1 := by kernel_rfl
theorem bytes5 : Try.prog.bytesOf 5 = 1 := by kernel_rfl
theorem Try.own : ownKnob Try.prog.godebug = Option.none := by kernel_rfl
theorem Try.laidOut : laidOutB Try.prog = true := by kernel_rfl

theorem u8_of_wf {n : Int} (h : (Lit.int .u8 n).wf = true) : ((UInt8.ofNat n.toNat).toNat : Int) = n := by
  have hx : 0 ≤ n ∧ n ≤ 255 := by simpa [Lit.wf, IntKind.min, IntKind.max, IntKind.signed, IntKind.bits] using h
  rw [UInt8.toNat_ofNat_of_lt' (by show _ < 256; omega)]
  omega

/-- A slice of bytes that came in. -/
theorem open_bytes {H : Type} {enc : TypeId × Value → H} {W : World} {base : Nat} {v : Value} {d : DataW H} {ps : List MemPlace} (hval : Value.okWide Try.prog W .any base 22 v)
    (h : DataW.Trod enc Try.prog W 0 (fun _ => true) true 22 v d ps) (hlt : ∀ x ∈ ps, x.block < W.heap.size) :
    ∃ ao cap bs B off, v = .slice ao bs.length cap ∧ SrcAt W ao cap bs B off ∧ ((d = .nil ∧ cap = 0) ∨ ∃ elems spare, d = .slice elems spare ∧ elems.length + spare.length = cap) := by
  obtain ⟨a0, len, cap, rfl⟩ := okWide_slice Try.underlying22 hval
  obtain ⟨fuel, hf⟩ := h
  rcases open_ints Try.underlying22 Try.underlying5 cells5 hf with ⟨hcs, hx⟩ | ⟨a, len', cap', zs, hcs, _, hl, hm, hz, hx, hcell, hwz⟩
  · simp [Value.cells] at hcs
    obtain ⟨rfl, rfl, rfl⟩ := hcs
    simp only [Prod.mk.injEq] at hx
    obtain ⟨rfl, rfl⟩ := hx
    exact ⟨none, 0, [], 0, 0, rfl, ⟨Nat.le_refl _, Nat.zero_le _, fun h => absurd h (Nat.lt_irrefl _), fun _ => ⟨rfl, rfl⟩, fun h => absurd h (Nat.lt_irrefl _), fun j hj => absurd hj (Nat.not_lt_zero _)⟩, .inl ⟨rfl, rfl⟩⟩
  · simp [Value.cells] at hcs
    obtain ⟨rfl, rfl, rfl⟩ := hcs
    simp only [Prod.mk.injEq] at hx
    obtain ⟨rfl, rfl⟩ := hx
    simp only [if_true] at hz
    obtain ⟨bs, hbs⟩ : ∃ bs : List UInt8, bs = (zs.take len).map fun n => UInt8.ofNat n.toNat := ⟨_, rfl⟩
    have hbl : bs.length = len := by rw [hbs, List.length_map, List.length_take]; omega
    have hd : DataW.slice (lits (H := H) .u8 (zs.take len)) (lits .u8 (zs.drop len)) = DataW.slice (lits (H := H) .u8 (zs.take len)) (lits .u8 (zs.drop len)) ∧ (lits (H := H) .u8 (zs.take len)).length + (lits (H := H) .u8 (zs.drop len)).length = cap := by
      refine ⟨rfl, ?_⟩
      simp only [lits, List.length_map, List.length_take, List.length_drop]; omega
    have hat : ∀ j, j < len → ((bs.getD j 0).toNat : Int) = zs.getD j 0 := fun j hj => by
      have h1 : j < zs.length := by omega
      have h2 := u8_of_wf (hwz zs[j] (List.getElem_mem h1))
      rw [hbs]
      simp only [List.getD, List.getElem?_map, List.getElem?_take, hj, if_true, List.getElem?_eq_getElem h1, Option.map_some, Option.getD_some]
      exact h2
    obtain ⟨b, off, spot⟩ := a
    by_cases hl0 : len = 0
    · subst hl0
      have hb0 : bs = [] := List.eq_nil_of_length_eq_zero hbl
      refine ⟨some ⟨b, off, spot⟩, cap, [], 0, 0, rfl, ⟨Nat.zero_le _, hm, fun h => absurd h (Nat.lt_irrefl _), (fun h => by cases h), fun h => absurd h (Nat.lt_irrefl _), fun j hj => absurd hj (Nat.not_lt_zero _)⟩, .inr ⟨_, _, hd.1, hd.2⟩⟩
    · have hspot : spot = Option.none := by simpa [Addr.add] using World.cell?_spot (hcell 0 (by omega))
      subst hspot
      have hbW : b < W.heap.size := hlt (.cell b off) (MemPlace.mem_row.2 ⟨0, by omega, by simp⟩)
      refine ⟨some ⟨b, off, Option.none⟩, cap, bs, b, off, by rw [hbl], ⟨by omega, hm, fun _ => rfl, (fun h => by cases h), fun _ => hbW, fun j hj => ?_⟩, .inr ⟨_, _, hd.1, hd.2⟩⟩
      have h3 := hcell j (by omega)
      rw [Addr.add_lit] at h3
      rw [h3, hat j (by omega)]

/-- Sum at such a slice. -/
theorem sum_src {ao : Option Addr} {cap : Nat} {bs : List UInt8} {B off : Nat} (w : World) (h : SrcAt w ao cap bs B off) (hlen : bs.length ≤ 281474976710656) :
    Calls Try.prog 10 #[.slice ao bs.length cap] w fun e w' => e = .returned (.string (SL (sumL bs))) ∧ Below w.heap.size w w' :=
  sum_any B off cap ao bs w h.src h.le h.top h.cell hlen
/-- Add at such a slice: the run lies elsewhere. -/
theorem add_src {ao : Option Addr} {cap g : Nat} {l bs : List UInt8} {B off : Nat} (w : World) (hr : RunAt w g l) (h : SrcAt w ao cap bs B off) (hne : 0 < bs.length → B ≠ g) (hlen : l.length + bs.length ≤ 562949953421312) :
    Calls Try.prog 13 #[.pointer (some ⟨g, 0, none⟩), .slice ao bs.length cap] w fun e w' => e = .returned (.tuple #[]) ∧ RunAt w' g (l ++ bs) ∧ w.grownBy w' (some g) :=
  add_any g B off cap ao l bs w hr h.src h.le h.top h.cell hne hlen
theorem SrcAt.grown {W W' : World} {ao : Option Addr} {cap g : Nat} {bs : List UInt8} {B off : Nat} (h : SrcAt W ao cap bs B off) (hg : W.grownBy W' (some g)) (hne : 0 < bs.length → B ≠ g) : SrcAt W' ao cap bs B off :=
  ⟨h.le, h.top, h.src, h.bare, fun p => Nat.lt_of_lt_of_le (h.old p) hg.size, fun j hj => hg.cell (h.cell j hj) (fun e => hne (by omega) (Option.some.inj e))⟩
theorem RunAt.below {w w' : World} {g : Nat} {l : List UInt8} (h : RunAt w g l) (hb : Below w.heap.size w w') : RunAt w' g l :=
  let ⟨st, rest, h1, h2⟩ := h; ⟨st, rest, h1, below_heap hb h2⟩
theorem RunAt.lt {w : World} {g : Nat} {l : List UInt8} (h : RunAt w g l) : g < w.heap.size :=
  let ⟨_, _, _, h2⟩ := h; (Array.getElem?_eq_some_iff.1 h2).1
theorem RunAt.grown {w w' : World} {g k : Nat} {l : List UInt8} (h : RunAt w g l) (hg : w.grownBy w' (some k)) (hne : g ≠ k) : RunAt w' g l :=
  let ⟨st, rest, h1, h2⟩ := h; ⟨st, rest, h1, grown_heap hg h2 hne⟩
theorem getD_map (bs : List UInt8) (i : Nat) (h : i < bs.length) : (bs.map fun x => (x.toNat : Int)).getD i 0 = ((bs.getD i 0).toNat : Int) := by
  simp only [List.getD, List.getElem?_map, List.getElem?_eq_getElem h, Option.map_some, Option.getD_some]
/-- string(v) at such a slice. -/
theorem convert_src {w : World} {ao : Option Addr} {cap : Nat} {bs : List UInt8} {B off : Nat} (h : SrcAt w ao cap bs B off) : (convert 22 9 (.slice ao bs.length cap)).run Try.prog w = .ok (.string (SL bs)) w := by
  cases bs with
  | nil =>
    rw [run_convert_bytes_string w 22 9 5 ao _ cap Try.underlying22 Try.underlying5 Try.underlying9]
    cases ao with
    | none => simp [Conv.bytesToString]; rfl
    | some a =>
      rw [run_bytesToString w a _ cap [] (by simp [loadCells, loadCellsFrom])]
      rfl
  | cons x r =>
    rw [h.src (by simp)]
    rw [run_convert_bytes_arg (P := Try.prog) w 22 5 Try.underlying22 Try.underlying5 B off (x :: r).length cap ((x :: r).map fun x => (x.toNat : Int)) (by simp) (fun i hi => ?_) 9 Try.underlying9, strOfNums_map]
    rw [h.cell i hi, getD_map _ i hi]
end Go.Proofs.Ytijgmhdhaekocaa
