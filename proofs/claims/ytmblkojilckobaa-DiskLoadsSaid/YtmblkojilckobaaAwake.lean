/- awake of the laws: the document's example. -/
import Derived.Test.YtmblkojilckobaaPair
import Derived.Lib.SlBytesConst
namespace Go.Proofs.Ytmblkojilckobaa
open Go.RowKit
theorem disk_new (w : World) (c : Nat) (hc : c ≤ 1099511627776) : DiskAt ((w.alloc (.map #[] 0)).alloc (headO w.heap.size (c : Int) 0 (-1) false)) (fun k => w.heap.size ≤ k ∧ k < w.heap.size + 2) (w.heap.size + 1) (newS c) := by
  have h1 : (w.alloc (.map #[] 0)).heap.size = w.heap.size + 1 := by simp
  have hm : MapAt ((w.alloc (.map #[] 0)).alloc (headO w.heap.size (c : Int) 0 (-1) false)) w.heap.size [] := (mapAt_new w).of_block (Below.heap_alloc _ _ _ (by omega))
  have hh := heap_alloc_new (w.alloc (.map #[] 0)) (headO w.heap.size (c : Int) 0 (-1) false)
  rw [h1] at hh
  refine ⟨w.heap.size, fun _ => .slice none 0 0, -1, ⟨?_, fun _ => rfl, ⟨by omega, by omega⟩, hm, ⟨fun _ _ h => (by cases h), fun _ _ h => (by cases h), fun _ _ _ _ h => (by cases h)⟩, ⟨by omega, by omega⟩, ⟨by omega, by omega⟩⟩⟩
  have e : wrap64 (newS c).free = (c : Int) := by
    show wrap64 ((c : Int) - (0 : Nat)) = _
    rw [IntWalk.wrap64_in _ ⟨by omega, by omega⟩]
    simp
  rw [e]
  exact hh
def d10 : Bs := [48, 49, 50, 51, 52, 53, 54, 55, 56, 57]
def aS1 : St := ⟨[([97], d10)], 100, 1, -1, false⟩
def aS2 : St := ⟨[([97], d10)], 100, 1, 1, false⟩
def aS3 : St := ⟨[([97], d10)], 100, 2, 0, false⟩
def aS4 : St := ⟨[([97], d10)], 100, 2, -1, true⟩
def aS5 : St := ⟨[([97], d10)], 100, 2, -1, false⟩
def aS6 : St := ⟨[([97], d10 ++ [120])], 100, 3, -1, false⟩
theorem a1 : appendS (newS 100) [97] d10 = (0, aS1) := by kernel_rfl
theorem a2 : cutS aS1 1 = (0, aS2) := by kernel_rfl
theorem a3 : appendS aS2 [97] [] = (0, aS3) := by kernel_rfl
theorem a4 : appendS aS3 [97] [120] = (5, aS4) := by kernel_rfl
theorem a5 : onS aS4 = aS5 := rfl
theorem a6 : appendS aS5 [97] [120] = (0, aS6) := by kernel_rfl
theorem a7 : readS aS6 [97] = (0, d10 ++ [120]) := by kernel_rfl
/-- A disk of the program's; its blocks are none of Z's, and what Z holds has not turned since w0. -/
def One (w0 : World) (Z : Nat → Prop) (w : World) (p : Nat) (S : St) : Prop := ∃ F, DiskAt w F p S ∧ (∀ k, F k → ¬ Z k ∧ k < w.heap.size) ∧ Turn (fun k => ¬ Z k) w0 w ∧ ∀ k, Z k → k < w0.heap.size
/-- All that is older than a world. -/
abbrev elder (w : World) : Nat → Prop := fun k => k < w.heap.size
section
variable {w0 w w' : World} {p : Nat} {Z F : Nat → Prop} {S S' : St}
theorem one_acts (hF : ∀ k, F k → ¬ Z k ∧ k < w.heap.size) (hb : Turn (fun k => ¬ Z k) w0 w) (hs : ∀ k, Z k → k < w0.heap.size) (hd : DiskAt w' (grow F w w') p S') (ht : Turn F w w') : One w0 Z w' p S' := by
  have h1 := ht.size
  have h2 := hb.size
  refine ⟨_, hd, fun k hk => ?_, hb.then ht (fun k _ hk => (hF k hk).1), hs⟩
  rcases hk with hk | hk
  · have := hF k hk; exact ⟨this.1, by omega⟩
  · exact ⟨fun hz => by have := hs k hz; omega, hk.2⟩
theorem One.below (h : One w0 Z w p S) (hb : Below w.heap.size w w') : One w0 Z w' p S := by
  obtain ⟨F, h1, h2, h3, h4⟩ := h
  exact ⟨F, h1.turn (Turn.of_below (fun _ => False) hb) (fun _ _ h => h), fun k hk => ⟨(h2 k hk).1, by have := (h2 k hk).2; have := hb.size; omega⟩, h3.trans (Turn.of_below _ hb), h4⟩
theorem One.turned (h : One w0 Z w p S) : Turn (fun k => ¬ Z k) w0 w := by
  obtain ⟨_, _, _, h, _⟩ := h
  exact h
theorem One.old (h : One w0 (elder w0) w p S) : Below w0.heap.size w0 w := by
  have t := h.turned
  exact ⟨t.os, t.tape, t.output, t.size, fun k hk => t.block k hk (fun hn => hn hk)⟩
/-- What has been made since is kept from here on too. -/
theorem One.snap {w1 : World} (h : One w0 Z w p S) (hb : Below w.heap.size w w1) : One w1 (fun k => Z k ∨ (w.heap.size ≤ k ∧ k < w1.heap.size)) w1 p S := by
  have h5 := h.turned.size
  obtain ⟨F, h1, h2, h3, h4⟩ := h
  have hs := hb.size
  refine ⟨F, h1.turn (Turn.of_below (fun _ => False) hb) (fun _ _ h => h), fun k hk => ⟨fun hz => ?_, by have := (h2 k hk).2; omega⟩, Turn.refl _ _, fun k hk => ?_⟩
  · rcases hz with hz | hz
    · exact (h2 k hk).1 hz
    · have := (h2 k hk).2; omega
  · rcases hk with hk | hk
    · have := h4 k hk; omega
    · exact hk.2
theorem One.free (h : One w0 Z w p S) : Calls Try.prog 14 #[ptr p] w fun e w' => e = .returned (.int .i64 (wrap64 S.free)) ∧ w' = w := by
  obtain ⟨F, h, _⟩ := h
  exact dFree h
theorem One.off (h : One w0 Z w p S) : Calls Try.prog 16 #[ptr p] w fun e w' => e = .returned (.bool S.dark) ∧ w' = w := by
  obtain ⟨F, h, _⟩ := h
  exact dOff h
theorem One.ops (h : One w0 Z w p S) : Calls Try.prog 30 #[ptr p] w fun e w' => e = .returned (.int .i64 (S.done : Int)) ∧ w' = w := by
  obtain ⟨F, h, _⟩ := h
  exact dOps h
theorem One.has (h : One w0 Z w p S) (n : Bs) (hn : n.length ≤ maxLen) : Calls Try.prog 29 #[ptr p, .string (SL n)] w fun e w' => e = .returned (.bool (thereF n S.fs)) ∧ w' = w := by
  obtain ⟨F, h, _⟩ := h
  exact dHas h n hn
theorem One.read (h : One w0 Z w p S) (hg : Good S) (n : Bs) : Calls Try.prog 23 #[ptr p, .string (SL n)] w fun e w' => ∃ v, e = .returned (.tuple #[v, err (readS S n).1]) ∧ w'.ownsRow w.heap.size 5 1 v (readS S n).2.length ((readS S n).2.map B8) ∧ Below w.heap.size w w' := by
  obtain ⟨F, h, _⟩ := h
  exact dRead h hg n
/-- What a call on one disk leaves. -/
def OneTo (w0 : World) (Z : Nat → Prop) (p : Nat) (r : Int × St) (e : Ending) (w' : World) : Prop := e = .returned (err r.1) ∧ One w0 Z w' p r.2
theorem One.remove (h : One w0 Z w p S) (hg : Good S) (hb : S.done ≤ 1000000) (n : Bs) : Calls Try.prog 25 #[ptr p, .string (SL n)] w (OneTo w0 Z p (removeS S n)) := by
  obtain ⟨F, h1, h2, h3, h4⟩ := h
  refine (dRemove h1 hg hb n).mono ?_
  rintro e w' ⟨he, hd, ht⟩
  exact ⟨he, one_acts h2 h3 h4 hd ht⟩
theorem One.rename (h : One w0 Z w p S) (hg : Good S) (hb : S.done ≤ 1000000) (f t : Bs) : Calls Try.prog 26 #[ptr p, .string (SL f), .string (SL t)] w (OneTo w0 Z p (renameS S f t)) := by
  obtain ⟨F, h1, h2, h3, h4⟩ := h
  refine (dRename h1 hg hb f t).mono ?_
  rintro e w' ⟨he, hd, ht⟩
  exact ⟨he, one_acts h2 h3 h4 hd ht⟩
theorem One.sync (h : One w0 Z w p S) (hg : Good S) (hb : S.done ≤ 1000000) (n : Bs) : Calls Try.prog 27 #[ptr p, .string (SL n)] w (OneTo w0 Z p (syncS S n)) := by
  obtain ⟨F, h1, h2, h3, h4⟩ := h
  refine (dSync h1 hg hb n).mono ?_
  rintro e w' ⟨he, hd, ht⟩
  exact ⟨he, one_acts h2 h3 h4 hd ht⟩
theorem One.cut (h : One w0 Z w p S) (z : Int) (hz : z ≤ 9223372036854775807) : Calls Try.prog 28 #[ptr p, .int .i64 z] w (OneTo w0 Z p (cutS S z)) := by
  obtain ⟨F, h1, h2, h3, h4⟩ := h
  refine (dCut h1 z hz).mono ?_
  rintro e w' ⟨he, hd, ht⟩
  exact ⟨he, one_acts h2 h3 h4 hd ht⟩
theorem One.on (h : One w0 Z w p S) : Calls Try.prog 22 #[ptr p] w fun e w' => e = .returned (.tuple #[]) ∧ One w0 Z w' p (onS S) := by
  obtain ⟨F, h1, h2, h3, h4⟩ := h
  refine (dOn h1).mono ?_
  rintro e w' ⟨he, hd, ht⟩
  exact ⟨he, one_acts h2 h3 h4 hd ht⟩
theorem One.append (h : One w0 Z w p S) (hg : Good S) (hb : S.done ≤ 1000000) (n : Bs) (v : Value) (b : Bs) (hv : BytesAt w Z v b) : Calls Try.prog 24 #[ptr p, .string (SL n), v] w (OneTo w0 Z p (appendS S n b)) := by
  obtain ⟨F, h1, h2, h3, h4⟩ := h
  obtain ⟨ao, cap, B, off, rfl, hs, hB⟩ := hv
  refine (dAppend h1 (fun k hk => (h2 k hk).2) hg hb n ao cap b B off hs (fun hp hF => (h2 B hF).1 (hB hp))).mono ?_
  rintro e w' ⟨he, hd, ht⟩
  exact ⟨he, one_acts h2 h3 h4 hd ht⟩
theorem One.dump (h : One w0 Z w p S) (hr : Rising S.fs) (hb : S.fs.length ≤ 4000000000000) (hs : ∀ n b, findF n S.fs = some b → n.length ≤ 281474976710656 ∧ b.length ≤ 140737488355328) :
    Calls Try.prog 21 #[ptr p] w fun e w' => ∃ v, e = .returned v ∧ FilesAt w' (fresh w w') v S.fs ∧ Below w.heap.size w w' := by
  obtain ⟨F, h, _⟩ := h
  exact dDump h hr hb hs
/-- Append of a constant text. -/
theorem One.appendC (h : One w0 Z w p S) (hg : Good S) (hb : S.done ≤ 1000000) (n b : Bs) (hbl : b.length ≤ maxLen) (C : Array Value) (hC : C = cells8 b) :
    Calls Try.prog 24 #[ptr p, .string (SL n), .slice (some ⟨w.heap.size, 0, none⟩) b.length b.length] (w.alloc (.cells C 5 (C.size, C.size + 1))) (OneTo w0 Z p (appendS S n b)) := by
  subst hC
  obtain ⟨F, h1, h2, h3, h4⟩ := h
  have hb1 : Below w.heap.size w (w.alloc (.cells (cells8 b) 5 ((cells8 b).size, (cells8 b).size + 1))) := (Below.refl _ _).alloc (Nat.le_refl _) _
  have hs : SrcAt (w.alloc (.cells (cells8 b) 5 ((cells8 b).size, (cells8 b).size + 1))) (some ⟨w.heap.size, 0, none⟩) b.length b w.heap.size 0 :=
    ⟨Nat.le_refl _, hbl, fun _ => rfl, (fun h => by cases h), fun _ => by simp, fun j hj => by
      rw [Nat.zero_add, cell_of_row _ _ _ _ _ _ (heap_alloc_new w _)]
      simp [cells8, B8, hj]⟩
  refine (dAppend (h1.turn (Turn.of_below (fun _ => False) hb1) (fun _ _ h => h)) (fun k hk => by have := (h2 k hk).2; have := hb1.size; omega) hg hb n _ _ b _ _ hs (fun _ hF => by have := (h2 _ hF).2; omega)).mono ?_
  rintro e w' ⟨he, hd, ht⟩
  exact ⟨he, one_acts (fun k hk => ⟨(h2 k hk).1, by have := (h2 k hk).2; have := hb1.size; omega⟩) (h3.trans (Turn.of_below _ hb1)) h4 hd ht⟩
end
theorem one_new (w : World) (c : Nat) (hc : c ≤ 1099511627776) : Calls Try.prog 11 #[.int .i64 (c : Int)] w fun e w' => ∃ p, e = .returned (.tuple #[ptr p, err 0]) ∧ One w (elder w) w' p (newS c) := by
  refine (new_yes c hc w).mono ?_
  rintro e w' ⟨rfl, rfl⟩
  refine ⟨_, rfl, _, disk_new w c hc, fun k hk => ⟨fun hz => by have := hk.1; have : k < w.heap.size := hz; omega, by simp; omega⟩, Turn.of_below _ (((Below.refl _ _).alloc (Nat.le_refl _) _).alloc (by simp) _), fun _ h => h⟩
theorem g1 : Good aS1 := by
  have h := (good_new (cap := 100) (by omega)).append [97] d10
  rw [a1] at h
  exact h
theorem g2 : Good aS2 := by
  have h := g1.cut (z := 1) (by omega)
  rw [a2] at h
  exact h
theorem g3 : Good aS3 := by
  have h := g2.append [97] []
  rw [a3] at h
  exact h
theorem g4 : Good aS4 := by
  have h := g3.append [97] [120]
  rw [a4] at h
  exact h
theorem g5 : Good aS5 := by
  have h := g4.on
  rw [a5] at h
  exact h
theorem g6 : Good aS6 := by
  have h := g5.append [97] [120]
  rw [a6] at h
  exact h
def c10 : Array Value := #[.int .u8 48, .int .u8 49, .int .u8 50, .int .u8 51, .int .u8 52, .int .u8 53, .int .u8 54, .int .u8 55, .int .u8 56, .int .u8 57]
def c1 : Array Value := #[.int .u8 120]
theorem c10_is : c10 = cells8 d10 := by kernel_rfl
theorem c1_is : c1 = cells8 [120] := by kernel_rfl
theorem c10_size : c10.size = 10 := by kernel_rfl
theorem c1_size : c1.size = 1 := by kernel_rfl
theorem d10_len : d10.length = 10 := by kernel_rfl
theorem d11_len : (d10 ++ [120]).length = 11 := by kernel_rfl
theorem sl97 : SL [97] = { data := #[97] } := rfl
theorem awA1 (w : World) : ∀ W p, One w (elder w) W p (newS 100) → Calls Try.prog 24 #[ptr p, .string { data := #[97] }, .slice (some ⟨W.heap.size, 0, none⟩) 10 10] (W.alloc (.cells #[.int .u8 48, .int .u8 49, .int .u8 50, .int .u8 51, .int .u8 52, .int .u8 53, .int .u8 54, .int .u8 55, .int .u8 56, .int .u8 57] 5 (10, 11))) (OneTo w (elder w) p (0, aS1)) := fun W p h => by
  have := h.appendC (good_new (by omega)) (Nat.zero_le _) [97] d10 (by rw [d10_len]; unfold maxLen; omega) c10 c10_is
  rw [a1, c10_size, d10_len, sl97] at this
  exact this
theorem awA2 (w : World) : ∀ W p, One w (elder w) W p aS1 → Calls Try.prog 28 #[ptr p, .int .i64 1] W (OneTo w (elder w) p (0, aS2)) := fun W p h => by
  have := h.cut 1 (by omega)
  rw [a2] at this
  exact this
theorem awA3 (w : World) : ∀ W p, One w (elder w) W p aS2 → Calls Try.prog 24 #[ptr p, .string { data := #[97] }, .slice none 0 0] W (OneTo w (elder w) p (0, aS3)) := fun W p h => by
  have := h.append g2 (by show (1 : Nat) ≤ 1000000; omega) [97] (.slice none 0 0) [] ⟨none, 0, 0, 0, rfl, src_nil W, fun h => absurd h (by simp)⟩
  rw [a3] at this
  exact this
theorem awA4 (w : World) : ∀ W p, One w (elder w) W p aS3 → Calls Try.prog 24 #[ptr p, .string { data := #[97] }, .slice (some ⟨W.heap.size, 0, none⟩) 1 1] (W.alloc (.cells #[.int .u8 120] 5 (1, 2))) (OneTo w (elder w) p (5, aS4)) := fun W p h => by
  have := h.appendC g3 (by show (2 : Nat) ≤ 1000000; omega) [97] [120] (by simp [maxLen]) c1 c1_is
  rw [a4, c1_size, sl97] at this
  exact this
theorem awA6 (w : World) : ∀ W p, One w (elder w) W p aS5 → Calls Try.prog 24 #[ptr p, .string { data := #[97] }, .slice (some ⟨W.heap.size, 0, none⟩) 1 1] (W.alloc (.cells #[.int .u8 120] 5 (1, 2))) (OneTo w (elder w) p (0, aS6)) := fun W p h => by
  have := h.appendC g5 (by show (2 : Nat) ≤ 1000000; omega) [97] [120] (by simp [maxLen]) c1 c1_is
  rw [a6, c1_size, sl97] at this
  exact this
theorem awA7 (w : World) : ∀ W p, One w (elder w) W p aS6 → Calls Try.prog 23 #[ptr p, .string { data := #[97] }] W fun e w' => ∃ ao cap, e = .returned (.tuple #[.slice ao 11 cap, err 0]) ∧ One w (elder w) w' p aS6 ∧ (convert 32 9 (.slice ao 11 cap)).run Try.prog w' = .ok (.string (SL (d10 ++ [120]))) w' := fun W p h => by
  have := h.read g6 [97]
  rw [a7, sl97] at this
  simp only at this
  rw [d11_len] at this
  refine Calls.mono this ?_
  rintro e w' ⟨v, rfl, ho, hb⟩
  rw [← d11_len] at ho
  obtain ⟨ao, cap, B, rfl, hs, _⟩ := src_of_own ho
  have hc := convert_src hs
  rw [d11_len] at hc
  exact ⟨ao, cap, by rw [d11_len], h.below hb, hc⟩
set_option maxRecDepth 100000 in
set_option maxHeartbeats 400000 in
theorem awake_any (w : World) : Calls Try.prog 10 #[] w fun e w' => e = .returned (.bool true) ∧ Below w.heap.size w w' := by
  have kc := fun (w : World) (C : Array Value) (n c : Nat) => Lib.run_convert_bytes_const (P := Try.prog) w 32 5 C n c Try.underlying32 Try.underlying5
  have hN : Calls Try.prog 11 #[.int .i64 100] w fun e w' => ∃ p, e = .returned (.tuple #[ptr p, err 0]) ∧ One w (elder w) w' p (newS 100) := one_new w 100 (by omega)
  have HN := Lib.hid hN
  have H1 := Lib.hid (awA1 w)
  have H2 := Lib.hid (awA2 w)
  have H3 := Lib.hid (awA3 w)
  have H4 := Lib.hid (awA4 w)
  have H6 := Lib.hid (awA6 w)
  have H7 := Lib.hid (awA7 w)
  clear hN
  go_enter Try.func10, Try.ntmps10
  go_wp2_with fail
  refine HN.out.mono ?_
  rintro e w1 ⟨p, rfl, P0⟩
  go_wp2_with fail
  refine (new_no _ (by omega) _).mono ?_
  rintro e w2 ⟨rfl, rfl⟩
  go_wp2_with fail
  refine (H1.out _ _ P0).mono ?_
  rintro e w3 ⟨rfl, P1⟩
  have F1 := P1.free
  rw [show wrap64 aS1.free = 73 by kernel_rfl] at F1
  clear P0 H1
  go_wp2_with fail
  refine F1.mono ?_
  rintro e w4 ⟨rfl, rfl⟩
  clear F1
  go_wp2_with fail
  refine (H2.out _ _ P1).mono ?_
  rintro e w5 ⟨rfl, P2⟩
  clear P1 H2
  go_wp2_with fail
  refine (H3.out _ _ P2).mono ?_
  rintro e w6 ⟨rfl, P3⟩
  clear P2 H3
  go_wp2_with fail
  refine (H4.out _ _ P3).mono ?_
  rintro e w7 ⟨rfl, P4⟩
  have F4 := P4.off
  rw [show aS4.dark = true from rfl] at F4
  clear P3 H4
  go_wp2_with fail
  refine F4.mono ?_
  rintro e w8 ⟨rfl, rfl⟩
  clear F4
  go_wp2_with fail
  refine P4.on.mono ?_
  rintro e w9 ⟨rfl, P5⟩
  rw [a5] at P5
  clear P4
  go_wp2_with fail
  refine (H6.out _ _ P5).mono ?_
  rintro e w10 ⟨rfl, P6⟩
  clear P5 H6
  go_wp2_with fail
  refine (H7.out _ _ P6).mono ?_
  rintro e w11 ⟨ao, cap, rfl, P7, hc⟩
  have F7 := P7.ops
  rw [show (aS6.done : Int) = 3 from rfl] at F7
  have lx : (SL (d10 ++ [120])).toList = [48, 49, 50, 51, 52, 53, 54, 55, 56, 57, 120] := SL_toList _
  clear P6 H7
  go_wp2_with fail
  refine F7.mono ?_
  rintro e w12 ⟨rfl, rfl⟩
  go_wp2
  go_ret
  exact ⟨rfl, P7.old⟩
end Go.Proofs.Ytmblkojilckobaa
