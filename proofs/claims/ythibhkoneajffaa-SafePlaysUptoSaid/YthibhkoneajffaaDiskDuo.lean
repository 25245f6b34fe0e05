/- Two disks of the program's, apart, and what a cut makes of a script. -/
import Derived.Test.YthibhkoneajffaaDiskOne
namespace Go.Proofs.Ythibhkoneajffaa
open Go.RowKit
/-- Two disks; their blocks are none of Z's, and what Z holds has not turned since w0. -/
def Duo (w0 : World) (Z : Nat → Prop) (w : World) (p q : Nat) (A B : St) : Prop :=
  ∃ F G, DiskAt w F p A ∧ DiskAt w G q B ∧ (∀ k, F k → ¬ Z k ∧ k < w.heap.size) ∧ (∀ k, G k → ¬ Z k ∧ k < w.heap.size) ∧ (∀ k, F k → ¬ G k) ∧ Turn (fun k => ¬ Z k) w0 w ∧ ∀ k, Z k → k < w0.heap.size
section
variable {w0 w w' : World} {p q : Nat} {Z F G : Nat → Prop} {A B A' : St}
theorem Duo.swap (h : Duo w0 Z w p q A B) : Duo w0 Z w q p B A := by
  obtain ⟨F, G, h1, h2, h3, h4, h5, h6, h7⟩ := h
  exact ⟨G, F, h2, h1, h4, h3, fun k hg hf => h5 k hf hg, h6, h7⟩
theorem duo_acts (hB : DiskAt w G q B) (hF : ∀ k, F k → ¬ Z k ∧ k < w.heap.size) (hG : ∀ k, G k → ¬ Z k ∧ k < w.heap.size) (hap : ∀ k, F k → ¬ G k) (hb : Turn (fun k => ¬ Z k) w0 w) (hs : ∀ k, Z k → k < w0.heap.size) (hd : DiskAt w' (grow F w w') p A') (ht : Turn F w w') : Duo w0 Z w' p q A' B := by
  have h1 := ht.size
  have h2 := hb.size
  refine ⟨_, G, hd, hB.turn ht (fun k hg hf => hap k hf hg), fun k hk => ?_, fun k hk => ⟨(hG k hk).1, by have := (hG k hk).2; omega⟩, fun k hk hg => ?_, hb.then ht (fun k _ hk => (hF k hk).1), hs⟩
  · rcases hk with hk | hk
    · have := hF k hk; exact ⟨this.1, by omega⟩
    · exact ⟨fun hz => by have := hs k hz; omega, hk.2⟩
  · rcases hk with hk | hk
    · exact hap k hk hg
    · have := (hG k hg).2; omega
theorem Duo.below (h : Duo w0 Z w p q A B) (hb : Below w.heap.size w w') : Duo w0 Z w' p q A B := by
  obtain ⟨F, G, h1, h2, h3, h4, h5, h6, h7⟩ := h
  have hs := hb.size
  exact ⟨F, G, h1.turn (Turn.of_below (fun _ => False) hb) (fun _ _ h => h), h2.turn (Turn.of_below (fun _ => False) hb) (fun _ _ h => h), fun k hk => ⟨(h3 k hk).1, by have := (h3 k hk).2; omega⟩, fun k hk => ⟨(h4 k hk).1, by have := (h4 k hk).2; omega⟩, h5, h6.trans (Turn.of_below _ hb), h7⟩
theorem Duo.turned (h : Duo w0 Z w p q A B) : Turn (fun k => ¬ Z k) w0 w := by
  obtain ⟨_, _, _, _, _, _, _, h, _⟩ := h
  exact h
theorem Duo.old (h : Duo w0 (elder w0) w p q A B) : Below w0.heap.size w0 w := by
  have t := h.turned
  exact ⟨t.os, t.tape, t.output, t.size, fun k hk => t.block k hk (fun hn => hn hk)⟩
/-- What has been made since is kept from here on too. -/
theorem Duo.snap {w1 : World} (h : Duo w0 Z w p q A B) (hb : Below w.heap.size w w1) : Duo w1 (fun k => Z k ∨ (w.heap.size ≤ k ∧ k < w1.heap.size)) w1 p q A B := by
  have h8 := h.turned.size
  obtain ⟨F, G, h1, h2, h3, h4, h5, h6, h7⟩ := h
  have hs := hb.size
  have hz : ∀ k, k < w.heap.size → ¬ Z k → ¬ (Z k ∨ (w.heap.size ≤ k ∧ k < w1.heap.size)) := fun k hk hn hz => by
    rcases hz with hz | hz
    · exact hn hz
    · omega
  refine ⟨F, G, h1.turn (Turn.of_below (fun _ => False) hb) (fun _ _ h => h), h2.turn (Turn.of_below (fun _ => False) hb) (fun _ _ h => h), fun k hk => ⟨hz k (h3 k hk).2 (h3 k hk).1, by have := (h3 k hk).2; omega⟩, fun k hk => ⟨hz k (h4 k hk).2 (h4 k hk).1, by have := (h4 k hk).2; omega⟩, h5, Turn.refl _ _, fun k hk => ?_⟩
  rcases hk with hk | hk
  · have := h7 k hk; omega
  · exact hk.2
/-- .. and no longer. -/
theorem Duo.back {w1 : World} {Y : Nat → Prop} (h : Duo w1 Y w p q A B) (ht : Turn (fun k => ¬ Z k) w0 w1) (hY : ∀ k, Z k → Y k) (hs : ∀ k, Z k → k < w0.heap.size) : Duo w0 Z w p q A B := by
  obtain ⟨F, G, h1, h2, h3, h4, h5, h6, h7⟩ := h
  exact ⟨F, G, h1, h2, fun k hk => ⟨fun hz => (h3 k hk).1 (hY k hz), (h3 k hk).2⟩, fun k hk => ⟨fun hz => (h4 k hk).1 (hY k hz), (h4 k hk).2⟩, h5, ht.then h6 (fun k _ hn hz => hn (hY k hz)), hs⟩
/-- What a call on the first disk leaves. -/
def DuoTo (w0 : World) (Z : Nat → Prop) (p q : Nat) (B : St) (r : Int × St) (e : Ending) (w' : World) : Prop := e = .returned (err r.1) ∧ Duo w0 Z w' p q r.2 B
/-- .. and on the second. -/
def DuoTo2 (w0 : World) (Z : Nat → Prop) (p q : Nat) (A : St) (r : Int × St) (e : Ending) (w' : World) : Prop := e = .returned (err r.1) ∧ Duo w0 Z w' p q A r.2
theorem DuoTo.two {r : Int × St} {e : Ending} (h : DuoTo w0 Z q p A r e w') : DuoTo2 w0 Z p q A r e w' := ⟨h.1, h.2.swap⟩
theorem Duo.remove (h : Duo w0 Z w p q A B) (hg : Good A) (hb : A.done ≤ 1000000000000) (n : Bs) : Calls Try.prog 13 #[ptr p, .string (SL n)] w (DuoTo w0 Z p q B (removeS A n)) := by
  obtain ⟨F, G, h1, h2, h3, h4, h5, h6, h7⟩ := h
  refine (dRemove h1 hg hb n).mono ?_
  rintro e w' ⟨he, hd, ht⟩
  exact ⟨he, duo_acts h2 h3 h4 h5 h6 h7 hd ht⟩
theorem Duo.rename (h : Duo w0 Z w p q A B) (hg : Good A) (hb : A.done ≤ 1000000000000) (f t : Bs) : Calls Try.prog 56 #[ptr p, .string (SL f), .string (SL t)] w (DuoTo w0 Z p q B (renameS A f t)) := by
  obtain ⟨F, G, h1, h2, h3, h4, h5, h6, h7⟩ := h
  refine (dRename h1 hg hb f t).mono ?_
  rintro e w' ⟨he, hd, ht⟩
  exact ⟨he, duo_acts h2 h3 h4 h5 h6 h7 hd ht⟩
theorem Duo.sync (h : Duo w0 Z w p q A B) (hg : Good A) (hb : A.done ≤ 1000000000000) (n : Bs) : Calls Try.prog 70 #[ptr p, .string (SL n)] w (DuoTo w0 Z p q B (syncS A n)) := by
  obtain ⟨F, G, h1, h2, h3, h4, h5, h6, h7⟩ := h
  refine (dSync h1 hg hb n).mono ?_
  rintro e w' ⟨he, hd, ht⟩
  exact ⟨he, duo_acts h2 h3 h4 h5 h6 h7 hd ht⟩
theorem Duo.append (h : Duo w0 Z w p q A B) (hg : Good A) (hb : A.done ≤ 1000000000000) (n : Bs) (v : Value) (b : Bs) (hv : BytesAt w Z v b) : Calls Try.prog 11 #[ptr p, .string (SL n), v] w (DuoTo w0 Z p q B (appendS A n b)) := by
  obtain ⟨F, G, h1, h2, h3, h4, h5, h6, h7⟩ := h
  obtain ⟨ao, cap, Bk, off, rfl, hs, hB⟩ := hv
  refine (dAppend h1 (fun k hk => (h3 k hk).2) hg hb n ao cap b Bk off hs (fun hp hF => (h3 Bk hF).1 (hB hp))).mono ?_
  rintro e w' ⟨he, hd, ht⟩
  exact ⟨he, duo_acts h2 h3 h4 h5 h6 h7 hd ht⟩
theorem Duo.cut (h : Duo w0 Z w p q A B) (z : Int) (hz : z ≤ 9223372036854775807) : Calls Try.prog 17 #[ptr p, .int .i64 z] w (DuoTo w0 Z p q B (cutS A z)) := by
  obtain ⟨F, G, h1, h2, h3, h4, h5, h6, h7⟩ := h
  refine (dCut h1 z hz).mono ?_
  rintro e w' ⟨he, hd, ht⟩
  exact ⟨he, duo_acts h2 h3 h4 h5 h6 h7 hd ht⟩
theorem Duo.on (h : Duo w0 Z w p q A B) : Calls Try.prog 19 #[ptr p] w fun e w' => e = .returned (.tuple #[]) ∧ Duo w0 Z w' p q (onS A) B := by
  obtain ⟨F, G, h1, h2, h3, h4, h5, h6, h7⟩ := h
  refine (dOn h1).mono ?_
  rintro e w' ⟨he, hd, ht⟩
  exact ⟨he, duo_acts h2 h3 h4 h5 h6 h7 hd ht⟩
theorem Duo.one (h : Duo w0 Z w p q A B) : ∃ F, DiskAt w F p A := by
  obtain ⟨F, _, h, _⟩ := h
  exact ⟨F, h⟩
end
/-- Both disks, new. -/
theorem duo_new {w w1 w2 : World} {p q c : Nat} (h : One w (elder w) w1 p (newS c)) (h2 : One w1 (elder w1) w2 q (newS c)) : Duo w (elder w) w2 p q (newS c) (newS c) := by
  have hold := h2.old
  have hs := hold.size
  have hs1 := h.turned.size
  obtain ⟨F, a1, a2, a3, a4⟩ := h
  obtain ⟨G, b1, b2, b3, b4⟩ := h2
  refine ⟨F, G, a1.turn (Turn.of_below (fun _ => False) hold) (fun _ _ h => h), b1, fun k hk => ⟨(a2 k hk).1, by have := (a2 k hk).2; omega⟩, fun k hk => ⟨fun hz => (b2 k hk).1 (by have : k < w.heap.size := hz; show k < w1.heap.size; omega), (b2 k hk).2⟩, fun k hf hg => (b2 k hg).1 (a2 k hf).2, a3.trans (Turn.of_below _ hold), a4⟩
/-! ### What a cut makes of a script: mathematics -/
/-- Ahead of the cut. -/
structure Ahead (n : Nat) (A B : St) : Prop where
  fs : A.fs = B.fs
  cap : A.cap = B.cap
  done : A.done = B.done
  onA : A.dark = false
  onB : B.dark = false
  leftB : B.left = -1
  leftA : 0 ≤ A.left
  sum : A.left + (A.done : Int) = (n : Int)
/-- At any time: the files are the same, and no more raw writes were done than the cut let by. -/
structure Level (n : Nat) (A B : St) : Prop where
  fs : A.fs = B.fs
  cap : A.cap = B.cap
  done : A.done = B.done
  most : A.done ≤ n
theorem Ahead.level {n : Nat} {A B : St} (h : Ahead n A B) : Level n A B := ⟨h.fs, h.cap, h.done, by have h1 := h.sum; have h2 := h.leftA; omega⟩
/-- What one operation makes of both: the cut comes, or both go on. -/
def Goes (n : Nat) (B : St) (r s : Int × St) : Prop := (r.2.dark = true ∧ Level n r.2 B) ∨ (r.2.dark = false ∧ r.1 = s.1 ∧ Ahead n r.2 s.2)
theorem goes_same {n : Nat} {A B : St} (h : Ahead n A B) (e : Int) : Goes n B (e, A) (e, B) := .inr ⟨h.onA, rfl, h⟩
theorem goes_write {n : Nat} {A B : St} (h : Ahead n A B) (fs : Files) : Goes n B (writeS A fs) (writeS B fs) := by
  obtain ⟨h1, h2, h3, h4, h5, h6, h7, h8⟩ := h
  unfold writeS
  rw [if_neg (by omega : ¬ B.left = 0)]
  by_cases h0 : A.left = 0
  · rw [if_pos h0]
    exact .inl ⟨rfl, h1, h2, h3, by show A.done ≤ n; omega⟩
  · rw [if_neg h0]
    refine .inr ⟨h4, rfl, rfl, h2, by show A.done + 1 = B.done + 1; omega, h4, h5, ?_, ?_, ?_⟩
    · show (if B.left = -1 then -1 else B.left - 1) = (-1 : Int)
      rw [if_pos h6]
    · show 0 ≤ (if A.left = -1 then -1 else A.left - 1)
      rw [if_neg (by omega)]; omega
    · show (if A.left = -1 then -1 else A.left - 1) + ((A.done + 1 : Nat) : Int) = (n : Int)
      rw [if_neg (by omega)]; omega
theorem goes_append {n : Nat} {A B : St} (h : Ahead n A B) (m b : Bs) : Goes n B (appendS A m b) (appendS B m b) := by
  have e1 : readyS A m = readyS B m := by unfold readyS; rw [h.onA, h.onB]
  have e2 : A.free = B.free := by unfold St.free; rw [h.fs, h.cap]
  have e3 : moreS A m b = moreS B m b := by unfold moreS; rw [h.fs]
  unfold appendS
  rw [e1, e2, e3, h.fs]
  repeat' split
  all_goals first | exact goes_same h _ | exact goes_write h _
theorem touch_alike {n : Nat} {A B : St} (h : Ahead n A B) (m : Bs) : touchS A m = touchS B m := by unfold touchS; rw [h.onA, h.onB, h.fs]
theorem goes_remove {n : Nat} {A B : St} (h : Ahead n A B) (m : Bs) : Goes n B (removeS A m) (removeS B m) := by
  unfold removeS
  rw [touch_alike h, h.fs]
  repeat' split
  all_goals first | exact goes_same h _ | exact goes_write h _
theorem goes_sync {n : Nat} {A B : St} (h : Ahead n A B) (m : Bs) : Goes n B (syncS A m) (syncS B m) := by
  unfold syncS
  rw [touch_alike h, h.fs]
  repeat' split
  all_goals first | exact goes_same h _ | exact goes_write h _
theorem goes_rename {n : Nat} {A B : St} (h : Ahead n A B) (f t : Bs) : Goes n B (renameS A f t) (renameS B f t) := by
  have e2 : A.free = B.free := by unfold St.free; rw [h.fs, h.cap]
  have e3 : renamed A f t = renamed B f t := by unfold renamed; rw [h.fs]
  unfold renameS
  rw [touch_alike h, h.fs, e2, e3]
  repeat' split
  all_goals first | exact goes_same h _ | exact goes_write h _
theorem ahead_new (n c : Nat) : Ahead n (cutS (newS c) (n : Int)).2 (newS c) := by
  unfold cutS
  rw [if_neg (by omega)]
  refine ⟨rfl, rfl, rfl, rfl, rfl, rfl, ?_, ?_⟩
  · show (0 : Int) ≤ (n : Int); omega
  · show (n : Int) + ((0 : Nat) : Int) = (n : Int); simp
end Go.Proofs.Ythibhkoneajffaa
