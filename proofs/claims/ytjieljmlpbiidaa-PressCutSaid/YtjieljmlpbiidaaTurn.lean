/- What a call may turn; slices of bytes, to be read. -/
import Derived.Test.YtjieljmlpbiidaaMem
namespace Go.Proofs.Ytjieljmlpbiidaa
open Go.RowKit
abbrev Bs := List UInt8
/-! ### What a call may turn -/
structure Turn (G : Nat → Prop) (w w' : World) : Prop where
  os : w'.os = w.os
  tape : w'.tape = w.tape
  output : w'.output = w.output
  size : w.heap.size ≤ w'.heap.size
  block : ∀ k, k < w.heap.size → ¬ G k → w'.heap[k]? = w.heap[k]?
/-- A footprint, grown by all that is new. -/
def grow (F : Nat → Prop) (w w' : World) : Nat → Prop := fun k => F k ∨ (w.heap.size ≤ k ∧ k < w'.heap.size)
theorem Turn.refl (G : Nat → Prop) (w : World) : Turn G w w := ⟨rfl, rfl, rfl, Nat.le_refl _, fun _ _ _ => rfl⟩
theorem Turn.then {G G' : Nat → Prop} {a b c : World} (h : Turn G a b) (k : Turn G' b c) (hG : ∀ i, i < a.heap.size → G' i → G i) : Turn G a c :=
  ⟨k.os.trans h.os, k.tape.trans h.tape, k.output.trans h.output, Nat.le_trans h.size k.size, fun i hi hn => (k.block i (Nat.lt_of_lt_of_le hi h.size) (fun hg => hn (hG i hi hg))).trans (h.block i hi hn)⟩
theorem Turn.trans {G : Nat → Prop} {a b c : World} (h : Turn G a b) (k : Turn G b c) : Turn G a c := h.then k fun _ _ h => h
theorem Turn.of_below {w w' : World} (G : Nat → Prop) (h : Below w.heap.size w w') : Turn G w w' := ⟨h.os, h.tape, h.output, h.size, fun k hk _ => h.block k hk⟩
theorem Turn.of_grown {w w' : World} {G : Nat → Prop} {r : Option Nat} (h : w.grownBy w' r) (hr : ∀ g, r = some g → G g) : Turn G w w' := ⟨h.os, h.tape, h.output, h.size, fun k hk hn => h.block k hk (fun e => hn (hr k e.symm))⟩
theorem Turn.setCell {G : Nat → Prop} (w : World) (a : Addr) (v : Value) (h : G a.block) : Turn G w (w.setCell a v) :=
  ⟨rfl, rfl, rfl, by simp [World.setCell], fun k _ hn => heap_setCell_other w a k v (fun e => hn (by rw [e]; exact h))⟩
theorem Turn.drew {G : Nat → Prop} (w : World) : Turn G w w.drew := ⟨rfl, rfl, rfl, Nat.le_refl _, fun _ _ _ => rfl⟩
theorem Turn.drewN {G : Nat → Prop} (w : World) (n : Nat) : Turn G w (w.drewN n) := ⟨rfl, rfl, rfl, Nat.le_refl _, fun _ _ _ => rfl⟩
theorem Turn.below {G : Nat → Prop} {w w' : World} {B : Nat} (h : Turn G w w') (hB : B ≤ w.heap.size) (hG : ∀ k, G k → B ≤ k) : Below B w w' :=
  ⟨h.os, h.tape, h.output, h.size, fun k hk => h.block k (by omega) (fun g => by have := hG k g; omega)⟩
/-- What is not turned. -/
theorem Turn.keep {G : Nat → Prop} {w w' : World} (h : Turn G w w') {k : Nat} {o : Obj} (hk : w.heap[k]? = some o) (hn : ¬ G k) : w'.heap[k]? = some o := (h.block k (Array.getElem?_eq_some_iff.1 hk).1 hn).trans hk
theorem Turn.cell {G : Nat → Prop} {w w' : World} (h : Turn G w w') {a : Addr} {v : Value} (hc : w.cell? a = some v) (hn : ¬ G a.block) : w'.cell? a = some v :=
  (World.cell?_of_block (h.block a.block (World.block_lt_of_cell? w a hc) hn)).trans hc
theorem below_turn {w w' : World} (h : Below w.heap.size w w') {k : Nat} {o : Obj} (hk : w.heap[k]? = some o) : w'.heap[k]? = some o := below_heap h hk
/-! ### Slices of bytes, to be read -/
def BytesAt (w : World) (F : Nat → Prop) (v : Value) (b : Bs) : Prop := ∃ ao cap B off, v = .slice ao b.length cap ∧ SrcAt w ao cap b B off ∧ (0 < b.length → F B)
theorem SrcAt.turn {G : Nat → Prop} {w w' : World} {ao : Option Addr} {cap : Nat} {bs : List UInt8} {B off : Nat} (h : SrcAt w ao cap bs B off) (ht : Turn G w w') (hn : 0 < bs.length → ¬ G B) : SrcAt w' ao cap bs B off :=
  ⟨h.le, h.top, h.src, h.bare, fun p => Nat.lt_of_lt_of_le (h.old p) ht.size, fun j hj => ht.cell (h.cell j hj) (hn (by omega))⟩
theorem BytesAt.turn {F G : Nat → Prop} {w w' : World} {v : Value} {b : Bs} (h : BytesAt w F v b) (ht : Turn G w w') (hn : ∀ k, F k → ¬ G k) : BytesAt w' F v b := by
  obtain ⟨ao, cap, B, off, rfl, h1, h2⟩ := h
  exact ⟨ao, cap, B, off, rfl, h1.turn ht (fun p => hn _ (h2 p)), h2⟩
theorem BytesAt.mono {F F' : Nat → Prop} {w : World} {v : Value} {b : Bs} (h : BytesAt w F v b) (hF : ∀ k, k < w.heap.size → F k → F' k) : BytesAt w F' v b := by
  obtain ⟨ao, cap, B, off, rfl, h1, h2⟩ := h
  exact ⟨ao, cap, B, off, rfl, h1, fun p => hF _ (h1.old p) (h2 p)⟩
theorem BytesAt.of_own {w : World} {base : Nat} {v : Value} {b : Bs} {F : Nat → Prop} (h : w.ownsRow base 5 1 v b.length (b.map B8)) (hF : ∀ g, v.ownBlock = some g → F g) : BytesAt w F v b := by
  obtain ⟨ao, cap, B, rfl, h1, _⟩ := src_of_own h
  refine ⟨ao, cap, B, 0, rfl, h1, fun p => hF _ ?_⟩
  rw [h1.src p]
  rfl
theorem BytesAt.text {w : World} {F : Nat → Prop} {v : Value} {b : Bs} (h : BytesAt w F v b) : (convert 22 9 v).run Try.prog w = .ok (.string (SL b)) w := by
  obtain ⟨ao, cap, B, off, rfl, h1, _⟩ := h
  exact convert_src h1
end Go.Proofs.Ytjieljmlpbiidaa
