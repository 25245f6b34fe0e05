/- One disk of the program, and a zone of blocks that is kept. -/
import Derived.Test.YthibhkoneajffaaDiskPair
namespace Go.Proofs.Ythibhkoneajffaa
open Go.RowKit
theorem disk_new (w : World) (c : Nat) (hc : c ≤ 1099511627776) : DiskAt ((w.alloc (.map #[] 0)).alloc (headO w.heap.size (c : Int) 0 (-1) false)) (fun k => w.heap.size ≤ k ∧ k < w.heap.size + 2) (w.heap.size + 1) (newS c) := by
  have h1 : (w.alloc (.map #[] 0)).heap.size = w.heap.size + 1 := by simp
  have hm : DiskMapAt ((w.alloc (.map #[] 0)).alloc (headO w.heap.size (c : Int) 0 (-1) false)) w.heap.size [] := (mapAt_new w).of_block (Below.heap_alloc _ _ _ (by omega))
  have hh := heap_alloc_new (w.alloc (.map #[] 0)) (headO w.heap.size (c : Int) 0 (-1) false)
  rw [h1] at hh
  refine ⟨w.heap.size, fun _ => .slice none 0 0, -1, ⟨?_, fun _ => rfl, ⟨by omega, by omega⟩, hm, ⟨fun _ _ h => (by cases h), fun _ _ h => (by cases h), fun _ _ _ _ h => (by cases h)⟩, ⟨by omega, by omega⟩, ⟨by omega, by omega⟩⟩⟩
  have e : wrap64 (newS c).free = (c : Int) := by
    show wrap64 ((c : Int) - (0 : Nat)) = _
    rw [IntWalk.wrap64_in _ ⟨by omega, by omega⟩]
    simp
  rw [e]
  exact hh
/-- A disk of the program's; its blocks are none of Z's, and what Z holds has not turned since w0. -/
def One (w0 : World) (Z : Nat → Prop) (w : World) (p : Nat) (S : St) : Prop := ∃ F, DiskAt w F p S ∧ (∀ k, F k → ¬ Z k ∧ k < w.heap.size) ∧ Turn (fun k => ¬ Z k) w0 w ∧ ∀ k, Z k → k < w0.heap.size
/-- All that is older than a world. -/
abbrev elder (w : World) : Nat → Prop := fun k => k < w.heap.size
section
variable {w0 w w' : World} {p : Nat} {Z F : Nat → Prop} {S S' : St}
theorem one_acts (hF : ∀ k, F k → ¬ Z k ∧ k < w.heap.size) (hb : Turn (fun k => ¬ Z k) w0 w) (hs : ∀ k, Z k → k < w0.heap.size) (hd : DiskAt w' (grow F w w') p S') (ht : Turn F w w') : One w0 Z w' p S' := by
  have h1 := ht.size
  have h2 := hb.size
  refine ⟨_, hd, fun k hk => ?_, hb.then ht (fun k _ hk => (hF k hk).1), hs⟩
  rcases hk with hk | hk
  · have := hF k hk; exact ⟨this.1, by omega⟩
  · exact ⟨fun hz => by have := hs k hz; omega, hk.2⟩
theorem One.below (h : One w0 Z w p S) (hb : Below w.heap.size w w') : One w0 Z w' p S := by
  obtain ⟨F, h1, h2, h3, h4⟩ := h
  exact ⟨F, h1.turn (Turn.of_below (fun _ => False) hb) (fun _ _ h => h), fun k hk => ⟨(h2 k hk).1, by have := (h2 k hk).2; have := hb.size; omega⟩, h3.trans (Turn.of_below _ hb), h4⟩
theorem One.turned (h : One w0 Z w p S) : Turn (fun k => ¬ Z k) w0 w := by
  obtain ⟨_, _, _, h, _⟩ := h
  exact h
theorem One.old (h : One w0 (elder w0) w p S) : Below w0.heap.size w0 w := by
  have t := h.turned
  exact ⟨t.os, t.tape, t.output, t.size, fun k hk => t.block k hk (fun hn => hn hk)⟩
/-- What has been made since is kept from here on too. -/
theorem One.snap {w1 : World} (h : One w0 Z w p S) (hb : Below w.heap.size w w1) : One w1 (fun k => Z k ∨ (w.heap.size ≤ k ∧ k < w1.heap.size)) w1 p S := by
  have h5 := h.turned.size
  obtain ⟨F, h1, h2, h3, h4⟩ := h
  have hs := hb.size
  refine ⟨F, h1.turn (Turn.of_below (fun _ => False) hb) (fun _ _ h => h), fun k hk => ⟨fun hz => ?_, by have := (h2 k hk).2; omega⟩, Turn.refl _ _, fun k hk => ?_⟩
  · rcases hz with hz | hz
    · exact (h2 k hk).1 hz
    · have := (h2 k hk).2; omega
  · rcases hk with hk | hk
    · have := h4 k hk; omega
    · exact hk.2
theorem One.free (h : One w0 Z w p S) : Calls Try.prog 34 #[ptr p] w fun e w' => e = .returned (.int .i64 (wrap64 S.free)) ∧ w' = w := by
  obtain ⟨F, h, _⟩ := h
  exact dFree h
theorem One.off (h : One w0 Z w p S) : Calls Try.prog 32 #[ptr p] w fun e w' => e = .returned (.bool S.dark) ∧ w' = w := by
  obtain ⟨F, h, _⟩ := h
  exact dOff h
theorem One.ops (h : One w0 Z w p S) : Calls Try.prog 23 #[ptr p] w fun e w' => e = .returned (.int .i64 (S.done : Int)) ∧ w' = w := by
  obtain ⟨F, h, _⟩ := h
  exact dOps h
theorem One.has (h : One w0 Z w p S) (n : Bs) (hn : n.length ≤ maxLen) : Calls Try.prog 33 #[ptr p, .string (SL n)] w fun e w' => e = .returned (.bool (thereF n S.fs)) ∧ w' = w := by
  obtain ⟨F, h, _⟩ := h
  exact dHas h n hn
theorem One.read (h : One w0 Z w p S) (hg : Good S) (n : Bs) : Calls Try.prog 30 #[ptr p, .string (SL n)] w fun e w' => ∃ v, e = .returned (.tuple #[v, err (readS S n).1]) ∧ w'.ownsRow w.heap.size 5 1 v (readS S n).2.length ((readS S n).2.map B8) ∧ Below w.heap.size w w' := by
  obtain ⟨F, h, _⟩ := h
  exact dRead h hg n
/-- What a call on one disk leaves. -/
def OneTo (w0 : World) (Z : Nat → Prop) (p : Nat) (r : Int × St) (e : Ending) (w' : World) : Prop := e = .returned (err r.1) ∧ One w0 Z w' p r.2
theorem One.remove (h : One w0 Z w p S) (hg : Good S) (hb : S.done ≤ 1000000000000) (n : Bs) : Calls Try.prog 13 #[ptr p, .string (SL n)] w (OneTo w0 Z p (removeS S n)) := by
  obtain ⟨F, h1, h2, h3, h4⟩ := h
  refine (dRemove h1 hg hb n).mono ?_
  rintro e w' ⟨he, hd, ht⟩
  exact ⟨he, one_acts h2 h3 h4 hd ht⟩
theorem One.rename (h : One w0 Z w p S) (hg : Good S) (hb : S.done ≤ 1000000000000) (f t : Bs) : Calls Try.prog 56 #[ptr p, .string (SL f), .string (SL t)] w (OneTo w0 Z p (renameS S f t)) := by
  obtain ⟨F, h1, h2, h3, h4⟩ := h
  refine (dRename h1 hg hb f t).mono ?_
  rintro e w' ⟨he, hd, ht⟩
  exact ⟨he, one_acts h2 h3 h4 hd ht⟩
theorem One.sync (h : One w0 Z w p S) (hg : Good S) (hb : S.done ≤ 1000000000000) (n : Bs) : Calls Try.prog 70 #[ptr p, .string (SL n)] w (OneTo w0 Z p (syncS S n)) := by
  obtain ⟨F, h1, h2, h3, h4⟩ := h
  refine (dSync h1 hg hb n).mono ?_
  rintro e w' ⟨he, hd, ht⟩
  exact ⟨he, one_acts h2 h3 h4 hd ht⟩
theorem One.cut (h : One w0 Z w p S) (z : Int) (hz : z ≤ 9223372036854775807) : Calls Try.prog 17 #[ptr p, .int .i64 z] w (OneTo w0 Z p (cutS S z)) := by
  obtain ⟨F, h1, h2, h3, h4⟩ := h
  refine (dCut h1 z hz).mono ?_
  rintro e w' ⟨he, hd, ht⟩
  exact ⟨he, one_acts h2 h3 h4 hd ht⟩
theorem One.on (h : One w0 Z w p S) : Calls Try.prog 19 #[ptr p] w fun e w' => e = .returned (.tuple #[]) ∧ One w0 Z w' p (onS S) := by
  obtain ⟨F, h1, h2, h3, h4⟩ := h
  refine (dOn h1).mono ?_
  rintro e w' ⟨he, hd, ht⟩
  exact ⟨he, one_acts h2 h3 h4 hd ht⟩
theorem One.append (h : One w0 Z w p S) (hg : Good S) (hb : S.done ≤ 1000000000000) (n : Bs) (v : Value) (b : Bs) (hv : BytesAt w Z v b) : Calls Try.prog 11 #[ptr p, .string (SL n), v] w (OneTo w0 Z p (appendS S n b)) := by
  obtain ⟨F, h1, h2, h3, h4⟩ := h
  obtain ⟨ao, cap, B, off, rfl, hs, hB⟩ := hv
  refine (dAppend h1 (fun k hk => (h2 k hk).2) hg hb n ao cap b B off hs (fun hp hF => (h2 B hF).1 (hB hp))).mono ?_
  rintro e w' ⟨he, hd, ht⟩
  exact ⟨he, one_acts h2 h3 h4 hd ht⟩
theorem One.dump (h : One w0 Z w p S) (hr : Rising S.fs) (hb : S.fs.length ≤ 4000000000000) (hs : ∀ n b, findF n S.fs = some b → n.length ≤ 281474976710656 ∧ b.length ≤ 140737488355328) :
    Calls Try.prog 26 #[ptr p] w fun e w' => ∃ v, e = .returned v ∧ FilesAt w' (fresh w w') v S.fs ∧ Below w.heap.size w w' := by
  obtain ⟨F, h, _⟩ := h
  exact dDump h hr hb hs
/-- Append of a constant text. -/
theorem One.appendC (h : One w0 Z w p S) (hg : Good S) (hb : S.done ≤ 1000000000000) (n b : Bs) (hbl : b.length ≤ maxLen) (C : Array Value) (hC : C = cells8 b) :
    Calls Try.prog 11 #[ptr p, .string (SL n), .slice (some ⟨w.heap.size, 0, none⟩) b.length b.length] (w.alloc (.cells C 5 (C.size, C.size + 1))) (OneTo w0 Z p (appendS S n b)) := by
  subst hC
  obtain ⟨F, h1, h2, h3, h4⟩ := h
  have hb1 : Below w.heap.size w (w.alloc (.cells (cells8 b) 5 ((cells8 b).size, (cells8 b).size + 1))) := (Below.refl _ _).alloc (Nat.le_refl _) _
  have hs : SrcAt (w.alloc (.cells (cells8 b) 5 ((cells8 b).size, (cells8 b).size + 1))) (some ⟨w.heap.size, 0, none⟩) b.length b w.heap.size 0 :=
    ⟨Nat.le_refl _, hbl, fun _ => rfl, (fun h => by cases h), fun _ => by simp, fun j hj => by
      rw [Nat.zero_add, cell_of_row _ _ _ _ _ _ (heap_alloc_new w _)]
      simp [cells8, B8, hj]⟩
  refine (dAppend (h1.turn (Turn.of_below (fun _ => False) hb1) (fun _ _ h => h)) (fun k hk => by have := (h2 k hk).2; have := hb1.size; omega) hg hb n _ _ b _ _ hs (fun _ hF => by have := (h2 _ hF).2; omega)).mono ?_
  rintro e w' ⟨he, hd, ht⟩
  exact ⟨he, one_acts (fun k hk => ⟨(h2 k hk).1, by have := (h2 k hk).2; have := hb1.size; omega⟩) (h3.trans (Turn.of_below _ hb1)) h4 hd ht⟩
end
theorem one_new (w : World) (c : Nat) (hc : c ≤ 1099511627776) : Calls Try.prog 35 #[.int .i64 (c : Int)] w fun e w' => ∃ p, e = .returned (.tuple #[ptr p, err 0]) ∧ One w (elder w) w' p (newS c) := by
  refine (new_yes c hc w).mono ?_
  rintro e w' ⟨rfl, rfl⟩
  refine ⟨_, rfl, _, disk_new w c hc, fun k hk => ⟨fun hz => by have := hk.1; have : k < w.heap.size := hz; omega, by simp; omega⟩, Turn.of_below _ (((Below.refl _ _).alloc (Nat.le_refl _) _).alloc (by simp) _), fun _ h => h⟩
end Go.Proofs.Ythibhkoneajffaa
