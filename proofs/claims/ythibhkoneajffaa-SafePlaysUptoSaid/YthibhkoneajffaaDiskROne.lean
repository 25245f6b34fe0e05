/- The document's disk, and a zone of blocks that is kept; both disks, apart. -/
import Derived.Test.YthibhkoneajffaaDiskOne
import Derived.Test.YthibhkoneajffaaDiskRefNames
namespace Go.Proofs.Ythibhkoneajffaa
open Go.RowKit
/-- A disk of the document's; its blocks are none of Z's, and what Z holds has not turned since w0. -/
def ROne (w0 : World) (Z : Nat → Prop) (w : World) (q : Nat) (S : St) : Prop := ∃ F, RefAt w F q S ∧ (∀ k, F k → ¬ Z k ∧ k < w.heap.size) ∧ Turn (fun k => ¬ Z k) w0 w ∧ ∀ k, Z k → k < w0.heap.size
def ROneTo (w0 : World) (Z : Nat → Prop) (q : Nat) (r : Int × St) (e : Ending) (w' : World) : Prop := e = .returned (err r.1) ∧ ROne w0 Z w' q r.2
section
variable {w0 w w' : World} {q : Nat} {Z F : Nat → Prop} {S S' T : St}
theorem rone_acts (hF : ∀ k, F k → ¬ Z k ∧ k < w.heap.size) (hb : Turn (fun k => ¬ Z k) w0 w) (hs : ∀ k, Z k → k < w0.heap.size) (hd : RefAt w' (grow F w w') q S') (ht : Turn F w w') : ROne w0 Z w' q S' := by
  have h1 := ht.size
  have h2 := hb.size
  refine ⟨_, hd, fun k hk => ?_, hb.then ht (fun k _ hk => (hF k hk).1), hs⟩
  rcases hk with hk | hk
  · have := hF k hk; exact ⟨this.1, by omega⟩
  · exact ⟨fun hz => by have := hs k hz; omega, hk.2⟩
theorem ROne.below (h : ROne w0 Z w q S) (hb : Below w.heap.size w w') : ROne w0 Z w' q S := by
  obtain ⟨F, h1, h2, h3, h4⟩ := h
  exact ⟨F, h1.turn (Turn.of_below (fun _ => False) hb) (fun _ _ h => h), fun k hk => ⟨(h2 k hk).1, by have := (h2 k hk).2; have := hb.size; omega⟩, h3.trans (Turn.of_below _ hb), h4⟩
theorem ROne.drewN (h : ROne w0 Z w q S) (m : Nat) : ROne w0 Z (w.drewN m) q S := h.below (below_drewN (Below.refl _ _) m)
theorem ROne.turned (h : ROne w0 Z w q S) : Turn (fun k => ¬ Z k) w0 w := by
  obtain ⟨_, _, _, h, _⟩ := h
  exact h
theorem ROne.bytes (h : ROne w0 Z w q S) (h' : ROne w0 Z w' q T) {v : Value} {b : Bs} (hv : BytesAt w Z v b) : BytesAt w' Z v b := by
  obtain ⟨ao, cap, B, off, rfl, hs, hB⟩ := hv
  have t' := h'.turned
  obtain ⟨_, _, _, t, ho⟩ := h
  refine ⟨ao, cap, B, off, rfl, ⟨hs.le, hs.top, hs.src, hs.bare, fun p => Nat.lt_of_lt_of_le (ho B (hB p)) t'.size, fun j hj => ?_⟩, hB⟩
  have hz := hB (by omega)
  have h1 := t.block B (ho B hz) (fun h => h hz)
  have h2 := t'.block B (ho B hz) (fun h => h hz)
  rw [World.cell?_of_block (w := w) (w' := w') (a := ⟨B, off + j, none⟩) (h2.trans h1.symm)]
  exact hs.cell j hj
theorem ROne.snap {w1 : World} (h : ROne w0 Z w q S) (hb : Below w.heap.size w w1) : ROne w1 (fun k => Z k ∨ (w.heap.size ≤ k ∧ k < w1.heap.size)) w1 q S := by
  have h5 := h.turned.size
  obtain ⟨F, h1, h2, h3, h4⟩ := h
  have hs := hb.size
  refine ⟨F, h1.turn (Turn.of_below (fun _ => False) hb) (fun _ _ h => h), fun k hk => ⟨fun hz => ?_, by have := (h2 k hk).2; omega⟩, Turn.refl _ _, fun k hk => ?_⟩
  · rcases hz with hz | hz
    · exact (h2 k hk).1 hz
    · have := (h2 k hk).2; omega
  · rcases hk with hk | hk
    · have := h4 k hk; omega
    · exact hk.2
theorem ROne.back {w1 w2 w3 : World} {Y : Nat → Prop} (h : ROne w0 Z w1 q S) (hb : Below w1.heap.size w1 w2) (h' : ROne w2 (fun k => Z k ∨ Y k) w3 q T) : ROne w0 Z w3 q T := by
  have t := h.turned
  obtain ⟨_, _, _, _, ho⟩ := h
  obtain ⟨F, h1, h2, h3, h4⟩ := h'
  exact ⟨F, h1, fun k hk => ⟨fun hz => (h2 k hk).1 (.inl hz), (h2 k hk).2⟩, (t.trans (Turn.of_below _ hb)).then h3 (fun k _ hk hz => hk (.inl hz)), ho⟩
theorem ROne.remove (h : ROne w0 Z w q S) (hg : Good S) (hb : S.done ≤ 1000000000000) (n : Bs) (hn : n.length ≤ 9223372036854775807) : Calls Try.prog 14 #[ptr q, .string (SL n)] w (ROneTo w0 Z q (removeS S n)) := by
  obtain ⟨F, h1, h2, h3, h4⟩ := h
  refine (rRemove h1 (fun k hk => (h2 k hk).2) hg hb n hn).mono ?_
  rintro e w' ⟨he, hd, ht⟩
  exact ⟨he, rone_acts h2 h3 h4 hd ht⟩
theorem ROne.rename (h : ROne w0 Z w q S) (hg : Good S) (hb : S.done ≤ 1000000000000) (f t : Bs) (hf : f.length ≤ 9223372036854775807) (ht : t.length ≤ 9223372036854775807) : Calls Try.prog 59 #[ptr q, .string (SL f), .string (SL t)] w (ROneTo w0 Z q (renameS S f t)) := by
  obtain ⟨F, h1, h2, h3, h4⟩ := h
  refine (rRename h1 (fun k hk => (h2 k hk).2) hg hb f t hf ht).mono ?_
  rintro e w' ⟨he, hd, ht⟩
  exact ⟨he, rone_acts h2 h3 h4 hd ht⟩
theorem ROne.sync (h : ROne w0 Z w q S) (hg : Good S) (hb : S.done ≤ 1000000000000) (n : Bs) (hn : n.length ≤ 9223372036854775807) : Calls Try.prog 58 #[ptr q, .string (SL n)] w (ROneTo w0 Z q (syncS S n)) := by
  obtain ⟨F, h1, h2, h3, h4⟩ := h
  refine (rSync h1 hg hb n hn).mono ?_
  rintro e w' ⟨he, hd, ht⟩
  exact ⟨he, rone_acts h2 h3 h4 hd ht⟩
theorem ROne.append (h : ROne w0 Z w q S) (hg : Good S) (hb : S.done ≤ 1000000000000) (n : Bs) (hn : n.length ≤ 9223372036854775807) (v : Value) (b : Bs) (hv : BytesAt w Z v b) : Calls Try.prog 12 #[ptr q, .string (SL n), v] w (ROneTo w0 Z q (appendS S n b)) := by
  obtain ⟨F, h1, h2, h3, h4⟩ := h
  obtain ⟨ao, cap, B, off, rfl, hs, hB⟩ := hv
  refine (rAppend h1 (fun k hk => (h2 k hk).2) hg hb n hn ao cap b B off hs (fun hp hF => (h2 B hF).1 (hB hp))).mono ?_
  rintro e w' ⟨he, hd, ht⟩
  exact ⟨he, rone_acts h2 h3 h4 hd ht⟩
theorem ROne.has (h : ROne w0 Z w q S) (hg : Good S) (n : Bs) : Calls Try.prog 57 #[ptr q, .string (SL n)] w fun e w' => e = .returned (.bool (thereF n S.fs)) ∧ ∃ m, w' = w.drewN m := by
  obtain ⟨F, h, _⟩ := h
  exact rHas h hg n
theorem ROne.free (h : ROne w0 Z w q S) (hg : Good S) : Calls Try.prog 43 #[ptr q] w fun e w' => e = .returned (.int .i64 (wrap64 S.free)) ∧ ∃ m, w' = w.drewN m := by
  obtain ⟨F, h, _⟩ := h
  exact rFree h (by have := hg.many; omega) hg.top
theorem ROne.names (h : ROne w0 Z w q S) (hg : Good S) : Calls Try.prog 52 #[ptr q] w fun e w' => ∃ v, e = .returned v ∧ w'.ownsRow w.heap.size 9 1 v S.fs.length (S.fs.map fun f => .string (SL f.1)) ∧ Below w.heap.size w w' := by
  obtain ⟨F, h, _⟩ := h
  obtain ⟨ao, cap, P, g, off, h⟩ := h.opened
  exact refNames_any (⟨cell_of_row _ _ _ _ _ _ h.head, h.raw, h.has⟩) (by have := hg.many; omega)
/-- The head of the document's disk: the flag of its power. -/
theorem ROne.dark (h : ROne w0 Z w q S) : w.cell? ⟨q, 4, none⟩ = some (.bool S.dark) := by
  obtain ⟨F, ⟨lv, h, _⟩, _⟩ := h
  exact cell_of_row _ _ _ _ _ _ h
theorem ROne.done (h : ROne w0 Z w q S) : w.cell? ⟨q, 2, none⟩ = some (.int .i64 (S.done : Int)) := by
  obtain ⟨F, ⟨lv, h, _⟩, _⟩ := h
  exact cell_of_row _ _ _ _ _ _ h
end
section
variable {w0 w w' : World} {base p q : Nat} {Fd Fr : Nat → Prop} {S T S' : St}
/-- What is below base, and what the other disk has: none of it turns while a call on one of them runs. -/
def beside (base : Nat) (F : Nat → Prop) : Nat → Prop := fun k => k < base ∨ F k
theorem Pair.one (h : Pair w0 base w Fd Fr p q S T) : One w (beside base Fr) w p S :=
  ⟨Fd, h.d, fun k hk => ⟨fun hz => hz.elim (fun hz => by have := (h.fd k hk).1; omega) (fun hz => h.ap k hk hz), (h.fd k hk).2⟩, Turn.refl _ _, fun k hk => hk.elim (fun hk => by have := h.bs; omega) (fun hk => (h.fr k hk).2)⟩
theorem Pair.rone (h : Pair w0 base w Fd Fr p q S T) : ROne w (beside base Fd) w q T :=
  ⟨Fr, h.r, fun k hk => ⟨fun hz => hz.elim (fun hz => by have := (h.fr k hk).1; omega) (fun hz => h.ap k hz hk), (h.fr k hk).2⟩, Turn.refl _ _, fun k hk => hk.elim (fun hk => by have := h.bs; omega) (fun hk => (h.fd k hk).2)⟩
theorem below_beside {w w' : World} {base : Nat} {F : Nat → Prop} (ht : Turn (fun k => ¬ beside base F k) w w') (hb : base ≤ w.heap.size) : Below base w w' :=
  ⟨ht.os, ht.tape, ht.output, ht.size, fun k hk => ht.block k (by omega) (fun hn => hn (.inl hk))⟩
theorem Pair.of_one (h : Pair w0 base w Fd Fr p q S T) (h' : One w (beside base Fr) w' p S') : ∃ Fd', Pair w0 base w' Fd' Fr p q S' T := by
  have ht := h'.turned
  have hs := ht.size
  obtain ⟨F, h1, h2, _, _⟩ := h'
  refine ⟨F, h1, h.r.turn ht (fun k hk hn => hn (.inr hk)), fun k hk => ⟨?_, (h2 k hk).2⟩, fun k hk => ⟨(h.fr k hk).1, by have := (h.fr k hk).2; omega⟩, fun k hk hr => (h2 k hk).1 (.inr hr), h.old.trans (below_beside ht h.bs), by have := h.bs; omega⟩
  have := (h2 k hk).1
  exact Nat.le_of_not_lt fun hl => this (.inl hl)
theorem Pair.of_rone (h : Pair w0 base w Fd Fr p q S T) (h' : ROne w (beside base Fd) w' q S') : ∃ Fr', Pair w0 base w' Fd Fr' p q S S' := by
  have ht := h'.turned
  have hs := ht.size
  obtain ⟨F, h1, h2, _, _⟩ := h'
  refine ⟨F, h.d.turn ht (fun k hk hn => hn (.inr hk)), h1, fun k hk => ⟨(h.fd k hk).1, by have := (h.fd k hk).2; omega⟩, fun k hk => ⟨?_, (h2 k hk).2⟩, fun k hk hr => (h2 k hr).1 (.inr hk), h.old.trans (below_beside ht h.bs), by have := h.bs; omega⟩
  have := (h2 k hk).1
  exact Nat.le_of_not_lt fun hl => this (.inl hl)
theorem BytesAt.beside {v : Value} {b : Bs} {F : Nat → Prop} (h : BytesAt w (fun k => k < base) v b) : BytesAt w (beside base F) v b := h.mono fun _ _ hk => .inl hk
end
end Go.Proofs.Ythibhkoneajffaa
