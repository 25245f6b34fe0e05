/- The document's reader: bytes, num, text. The document's reader: bytes, num, text; what is left of the bytes keeps out of given blocks. Reading an object: how far the reader gets, how great what it reads is; the state of the document's Decode in memory. -/
import Derived.Test.YtckbeeadkiiccaaCObjM
import Derived.Test.YtckbeeadkiiccaaCRefCode
import Derived.Test.YtckbeeadkiiccaaCRefC
import Derived.Test.YtckbeeadkiiccaaCBaseD
namespace Go.Proofs.Ytckbeeadkiiccaa
open Go.RowKit
abbrev rdp (p : Nat) : Value := .pointer (some ⟨p, 0, none⟩)
/-- A reader in block p: what is left of the bytes, and was there too little? -/
def RdAt (w : World) (p : Nat) (s : RS) : Prop := ∃ ao cap B off, w.heap[p]? = some (.cells #[.slice ao s.1.length cap, .bool s.2] 72 (0, 0)) ∧ SrcAt w ao cap s.1 B off ∧ (0 < s.1.length → B ≠ p)
theorem RdAt.lt {w : World} {p : Nat} {s : RS} (h : RdAt w p s) : p < w.heap.size := by
  obtain ⟨_, _, _, _, h1, _⟩ := h
  exact (Array.getElem?_eq_some_iff.1 h1).1
theorem RdAt.below {w w' : World} {p : Nat} {s : RS} (h : RdAt w p s) (hb : Below w.heap.size w w') : RdAt w' p s := by
  obtain ⟨ao, cap, B, off, h1, h2, h3⟩ := h
  exact ⟨ao, cap, B, off, below_turn hb h1, h2.below hb, h3⟩
/-- What a reader's call leaves. -/
def RdTo (w : World) (p : Nat) (v : Value) (s : RS) (e : Ending) (w' : World) : Prop := e = .returned v ∧ RdAt w' p s ∧ Turn (fun k => k = p) w w'
theorem rd_cells {w : World} {p : Nat} {v : Value} {x : Bool} (h : w.heap[p]? = some (.cells #[v, .bool x] 72 (0, 0))) :
    w.cell? ⟨p, 0, none⟩ = some v ∧ w.cell? ⟨p, 1, none⟩ = some (.bool x) ∧ (∀ j, w.frozen? ⟨p, j, none⟩ = false) :=
  ⟨cell_of_row _ _ _ _ _ _ h, cell_of_row _ _ _ _ _ _ h, fun j => frozen_of_row _ _ j _ _ h⟩
theorem turn_rd (p i : Nat) (w : World) (v : Value) : Turn (fun k => k = p) w (w.setCell ⟨p, i, none⟩ v) := Turn.setCell w _ v rfl
/-- bad is set. -/
theorem RdAt.spoil {w : World} {p : Nat} {s : RS} (h : RdAt w p s) : RdAt (w.setCell ⟨p, 1, none⟩ (.bool true)) p (s.1, true) := by
  obtain ⟨ao, cap, B, off, h1, h2, h3⟩ := h
  exact ⟨ao, cap, B, off, heap_setCell_same w p 1 _ _ _ h1, h2.turn (turn_rd p 1 w _) h3, h3⟩
set_option maxRecDepth 100000 in
set_option maxHeartbeats 1600000 in
theorem rdBytes_any (p : Nat) (s : RS) (n : Nat) (hn : n ≤ 1000) (w : World) (h : RdAt w p s) (hl : s.1.length ≤ 140737488355328) :
    Calls Try.prog 43 #[rdp p, .int .i64 (n : Int)] w (RdTo w p (.string (SL (rdBytes n s).1)) (rdBytes n s).2) := by
  have hsp := h.spoil
  obtain ⟨ao, cap, B, off, hrow, hs, hne⟩ := h
  obtain ⟨b, bad⟩ := s
  simp only at hrow hs hne hl hsp
  obtain ⟨c0, c1, fr⟩ := rd_cells hrow
  have f0 := fr 0
  have f1 := fr 1
  unfold rdBytes
  simp only
  by_cases hlt : b.length < n
  · rw [if_pos hlt]
    have HS : RdTo w p (.string (SL [])) (b, true) (.returned (.string (SL []))) (w.setCell ⟨p, 1, none⟩ (.bool true)) := ⟨rfl, hsp, turn_rd p 1 w _⟩
    have HH := Lib.hid HS
    obtain ⟨L, hL⟩ : ∃ L, L = b.length := ⟨_, rfl⟩
    rw [← hL] at c0
    have i1 : (L : Int) < (n : Int) := by omega
    clear hlt HS hL hsp hs hrow hne fr hl
    go_enter Try.func43, Try.ntmps43
    go_wp2
    go_ret
    exact HH.out
  · rw [if_neg hlt]
    obtain ⟨ah, hh, sh⟩ := hs.slice_h n (by omega)
    obtain ⟨al, hll, sl⟩ := hs.slice_l n (by omega)
    have htl : (b.take n).length = n := by rw [List.length_take]; omega
    have hcv := convert_src sh
    rw [htl] at hcv
    have hrd : RdAt (w.setCell ⟨p, 0, none⟩ (.slice al (b.length - n) (cap - n))) p (b.drop n, bad) := by
      refine ⟨al, cap - n, B, off + n, ?_, sl.turn (turn_rd p 0 w _) (fun hp => hne (by rw [List.length_drop] at hp; omega)), fun hp => hne (by rw [List.length_drop] at hp; omega)⟩
      rw [List.length_drop]
      exact heap_setCell_same w p 0 _ _ _ hrow
    have HS : RdTo w p (.string (SL (b.take n))) (b.drop n, bad) (.returned (.string (SL (b.take n)))) (w.setCell ⟨p, 0, none⟩ (.slice al (b.length - n) (cap - n))) := ⟨rfl, hrd, turn_rd p 0 w _⟩
    have i0 : (0 : Int) ≤ (n : Int) := by omega
    obtain ⟨L, hL⟩ : ∃ L, L = b.length := ⟨_, rfl⟩
    rw [← hL] at c0 hh hll HS
    have i1 : ¬ (L : Int) < (n : Int) := by omega
    obtain ⟨T, hT⟩ : ∃ T, T = b.take n := ⟨_, rfl⟩
    rw [← hT] at hcv HS
    have HH := Lib.hid HS
    have HT := Lib.hid hT
    clear hlt HS hL hsp hs hrow hne fr hrd hl sh sl htl hT
    go_enter Try.func43, Try.ntmps43
    go_wp2
    go_ret
    rw [← HT.out]
    exact HH.out
/-- A row of bytes is not the reader's block. -/
theorem rd_ne {w : World} {p : Nat} {v : Value} {x : Bool} (h : w.heap[p]? = some (.cells #[v, .bool x] 72 (0, 0))) (hv : ∀ z, v ≠ .int .u8 z) {ao : Option Addr} {cap : Nat} {b : OB} {B off : Nat} (hs : SrcAt w ao cap b B off) (hb : 0 < b.length) : B ≠ p := by
  rintro rfl
  have h1 := hs.cell 0 hb
  rw [Nat.add_zero, cell_of_row _ _ _ _ _ _ h] at h1
  match off, h1 with
  | 0, h1 => exact hv _ (by simpa using h1)
  | 1, h1 => simp at h1
  | k + 2, h1 => simp at h1
set_option maxRecDepth 100000 in
set_option maxHeartbeats 1600000 in
theorem rdNum_any (p : Nat) (s : RS) (w : World) (h : RdAt w p s) (hl : s.1.length ≤ 140737488355328) :
    Calls Try.prog 41 #[rdp p] w (RdTo w p (.int .i64 ((rdNum s).1 : Int)) (rdNum s).2) := by
  have h' := h
  obtain ⟨ao, cap, B, off, hrow, hs, hne⟩ := h
  obtain ⟨b, bad⟩ := s
  simp only at hrow hs hne hl
  obtain ⟨c0, c1, fr⟩ := rd_cells hrow
  rcases parse_cases b with hp | ⟨n, rest, hn, he⟩
  · have hr : rdNum (b, bad) = (0, (b, true)) := by unfold rdNum; simp only [hp]
    rw [hr]
    have hg := refTakeNum_no ao cap b B off w hs hl hp
    have hfin : ∀ w1, Below w.heap.size w w1 → Hid (RdTo w p (.int .i64 ((0 : Nat) : Int)) (b, true) (.returned (.int .i64 ((0 : Nat) : Int))) (w1.setCell ⟨p, 1, none⟩ (.bool true)) ∧ w1.frozen? ⟨p, 1, none⟩ = false ∧ w1.cell? ⟨p, 1, none⟩ = some (.bool bad)) := fun w1 hb =>
      Lib.hid ⟨⟨rfl, (h'.below hb).spoil, (Turn.of_below _ hb).trans (turn_rd p 1 w1 _)⟩, (rd_cells (below_turn hb hrow)).2.2 1, (rd_cells (below_turn hb hrow)).2.1⟩
    have HG := Lib.hid hg
    have HF := Lib.hid hfin
    obtain ⟨L, hL⟩ : ∃ L, L = b.length := ⟨_, rfl⟩
    rw [← hL] at c0 HG
    clear hg hfin hr hp hL hs hrow hne fr hl h'
    go_enter Try.func41, Try.ntmps41
    go_wp2_with (go_at_call 66; refine HG.out.mono ?_; rintro e w1 ⟨rfl, b1⟩; have HH := HF.out w1 b1; have f1 := HH.out.2.1; have k1 := HH.out.2.2; clear b1)
    go_ret
    exact HH.out.1
  · have hr : rdNum (b, bad) = (n, (rest, bad)) := by rw [he]; exact rdNum_app hn rest bad
    rw [hr]
    have hg := refTakeNum_yes ao cap b B off w hs hl n rest hn he
    have hfin : ∀ w1 ao' cap' B', SrcAt w1 ao' cap' rest B' 0 → Below w.heap.size w w1 → Hid (RdTo w p (.int .i64 (n : Int)) (rest, bad) (.returned (.int .i64 (n : Int))) (w1.setCell ⟨p, 0, none⟩ (.slice ao' rest.length cap')) ∧ w1.frozen? ⟨p, 0, none⟩ = false ∧ w1.cell? ⟨p, 0, none⟩ = some (.slice ao b.length cap)) := fun w1 ao' cap' B' hs' hb => by
      have hrow' := below_turn hb hrow
      have hne' : 0 < rest.length → B' ≠ p := fun hq => rd_ne hrow' (fun z e => by cases e) hs' hq
      exact Lib.hid ⟨⟨rfl, ⟨ao', cap', B', 0, heap_setCell_same w1 p 0 _ _ _ hrow', hs'.turn (turn_rd p 0 w1 _) hne', hne'⟩, (Turn.of_below _ hb).trans (turn_rd p 0 w1 _)⟩, (rd_cells hrow').2.2 0, (rd_cells hrow').1⟩
    have HG := Lib.hid hg
    have HF := Lib.hid hfin
    obtain ⟨L, hL⟩ : ∃ L, L = b.length := ⟨_, rfl⟩
    obtain ⟨R, hR⟩ : ∃ R, R = rest.length := ⟨_, rfl⟩
    rw [← hL] at c0
    rw [← hL, ← hR] at HG
    rw [← hL, ← hR] at HF
    clear hg hfin hr he hL hR hs hrow hne fr hl h'
    go_enter Try.func41, Try.ntmps41
    go_wp2_with (go_at_call 66; refine HG.out.mono ?_; rintro e w1 ⟨ao', cap', B', rfl, s1, b1⟩; have HH := HF.out w1 ao' cap' B' s1 b1; have f0 := HH.out.2.1; have k0 := HH.out.2.2; clear b1 s1)
    go_ret
    exact HH.out.1
set_option maxRecDepth 100000 in
set_option maxHeartbeats 1600000 in
theorem rdText_any (p : Nat) (s : RS) (w : World) (h : RdAt w p s) (hl : s.1.length ≤ 140737488355328) :
    Calls Try.prog 42 #[rdp p] w (RdTo w p (.string (SL (rdText s).1)) (rdText s).2) := by
  have h' := h
  obtain ⟨ao, cap, B, off, hrow, hs, hne⟩ := h
  obtain ⟨b, bad⟩ := s
  simp only at hrow hs hne hl
  obtain ⟨c0, c1, fr⟩ := rd_cells hrow
  rcases text_cases b 1048576 with hp | ⟨t, rest, he, hm⟩
  · have hr : rdText (b, bad) = ([], (b, true)) := by
      unfold rdText
      rcases hp with hp | ⟨n, k, hp, hk, hn, hc⟩
      · simp only [hp]
      · simp only [hp]
        rw [if_pos (by omega)]
    rw [hr]
    have hg := refTakeText_no ao cap b B off 1048576 w hs hl hp
    have hfin : ∀ w1, Below w.heap.size w w1 → Hid (RdTo w p (.string (SL [])) (b, true) (.returned (.string (SL []))) (w1.setCell ⟨p, 1, none⟩ (.bool true)) ∧ w1.frozen? ⟨p, 1, none⟩ = false ∧ w1.cell? ⟨p, 1, none⟩ = some (.bool bad)) := fun w1 hb =>
      Lib.hid ⟨⟨rfl, (h'.below hb).spoil, (Turn.of_below _ hb).trans (turn_rd p 1 w1 _)⟩, (rd_cells (below_turn hb hrow)).2.2 1, (rd_cells (below_turn hb hrow)).2.1⟩
    have HG := Lib.hid hg
    have HF := Lib.hid hfin
    obtain ⟨L, hL⟩ : ∃ L, L = b.length := ⟨_, rfl⟩
    rw [← hL] at c0 HG
    clear hg hfin hr hp hL hs hrow hne fr hl h'
    go_enter Try.func42, Try.ntmps42
    go_wp2_with (go_at_call 67; refine HG.out.mono ?_; rintro e w1 ⟨rfl, b1⟩; have HH := HF.out w1 b1; have f1 := HH.out.2.1; have k1 := HH.out.2.2; clear b1)
    go_ret
    exact HH.out.1
  · have hr : rdText (b, bad) = (t, (rest, bad)) := by
      have := rdText_app (t := t) (by omega) rest bad
      unfold txtL at this
      rw [List.append_assoc] at this
      rw [he]; exact this
    rw [hr]
    have hg := refTakeText_yes ao cap b B off 1048576 w hs hl t rest he hm
    have hfin : ∀ w1 ao' cap' B' off', SrcAt w1 ao' cap' rest B' off' → Below w.heap.size w w1 → Hid (RdTo w p (.string (SL t)) (rest, bad) (.returned (.string (SL t))) (w1.setCell ⟨p, 0, none⟩ (.slice ao' rest.length cap')) ∧ w1.frozen? ⟨p, 0, none⟩ = false ∧ w1.cell? ⟨p, 0, none⟩ = some (.slice ao b.length cap)) := fun w1 ao' cap' B' off' hs' hb => by
      have hrow' := below_turn hb hrow
      have hne' : 0 < rest.length → B' ≠ p := fun hq => rd_ne hrow' (fun z e => by cases e) hs' hq
      exact Lib.hid ⟨⟨rfl, ⟨ao', cap', B', off', heap_setCell_same w1 p 0 _ _ _ hrow', hs'.turn (turn_rd p 0 w1 _) hne', hne'⟩, (Turn.of_below _ hb).trans (turn_rd p 0 w1 _)⟩, (rd_cells hrow').2.2 0, (rd_cells hrow').1⟩
    have HG := Lib.hid hg
    have HF := Lib.hid hfin
    obtain ⟨L, hL⟩ : ∃ L, L = b.length := ⟨_, rfl⟩
    obtain ⟨R, hR⟩ : ∃ R, R = rest.length := ⟨_, rfl⟩
    rw [← hL] at c0
    rw [← hL, ← hR] at HG
    rw [← hL, ← hR] at HF
    clear hg hfin hr he hm hL hR hs hrow hne fr hl h'
    go_enter Try.func42, Try.ntmps42
    go_wp2_with (go_at_call 67; refine HG.out.mono ?_; rintro e w1 ⟨ao', cap', B', off', rfl, s1, b1⟩; have HH := HF.out w1 ao' cap' B' off' s1 b1; have f0 := HH.out.2.1; have k0 := HH.out.2.2; clear b1 s1)
    go_ret
    exact HH.out.1
end Go.Proofs.Ytckbeeadkiiccaa
namespace Go.Proofs.Ytckbeeadkiiccaa
open Go.RowKit
set_option maxRecDepth 100000 in
set_option maxHeartbeats 800000 in
theorem refTakeText_new (ao : Option Addr) (cap : Nat) (bs : List UInt8) (B off : Nat) (most : Int) (w : World) (h : SrcAt w ao cap bs B off) (hs : bs.length ≤ 140737488355328) (t rest : List UInt8) (he : bs = numL t.length ++ (t ++ rest)) (hm : (t.length : Int) ≤ most) :
    Calls Try.prog 67 #[.slice ao bs.length cap, .int .i64 most] w fun e w' => ∃ ao' cap' B' off', e = .returned (.tuple #[.string (SL t), .slice ao' rest.length cap', .int .i64 0]) ∧ SrcAt w' ao' cap' rest B' off' ∧ (0 < rest.length → w.heap.size ≤ B') ∧ Below w.heap.size w w' := by
  have hbl : bs.length = (numL t.length).length + (t.length + rest.length) := by rw [he]; simp
  have ht := refTakeNum_new ao cap bs B off w h hs t.length (t ++ rest) (by omega) he
  obtain ⟨n, hn⟩ : ∃ n, n = t.length := ⟨_, rfl⟩
  obtain ⟨r, hr⟩ : ∃ r, r = rest.length := ⟨_, rfl⟩
  obtain ⟨m, hmm⟩ : ∃ m, m = (t ++ rest).length := ⟨_, rfl⟩
  have hmr : m = n + r := by rw [hmm, List.length_append, hn, hr]
  have hmb : m ≤ 140737488355328 := by rw [hmr]; omega
  rw [← hn, ← hmm] at ht
  rw [← hn] at hm
  rw [← hr]
  have HT := Lib.hid ht
  have HM := Lib.hid hmm
  have HR := Lib.hid hmr
  have HN := Lib.hid hn
  have HRR := Lib.hid hr
  have hnm : n ≤ m := by omega
  clear ht hmm hmr hn hr he hbl
  go_enter Try.func67, Try.ntmps67
  go_wp2_with fail
  refine HT.out.mono ?_
  rintro e w1 ⟨ao1, cap1, B1, rfl, s1, new1, b1⟩
  have NEW := Lib.hid (show 0 < r → w.heap.size ≤ B1 from fun hp => new1 (by have := HR.out; omega))
  clear new1
  obtain ⟨ao2, hsl2, hs2⟩ := s1.slice_h n (by rw [← HM.out]; exact hnm)
  obtain ⟨ao3, hsl3, hs3⟩ := s1.slice_l n (by rw [← HM.out]; exact hnm)
  rw [HN.out, List.take_left] at hs2
  rw [HN.out, List.drop_left] at hs3
  rw [← HM.out] at hsl2 hsl3
  have hmn : m - n = r := by have := HR.out; omega
  rw [hmn] at hsl3
  rw [← HN.out] at hs3
  have hcv : ∀ W' : World, Below w1.heap.size w1 W' → (convert 22 9 (.slice ao2 n cap1)).run Try.prog W' = .ok (.string (SL t)) W' := fun W' hb => by
    have h1 := convert_src (hs2.below hb)
    rw [← HN.out] at h1
    exact h1
  have cv0 := hcv w1 (Below.refl _ _)
  have cv1 := hcv w1.drew (Below.refl _ _).drew
  have HS3 := Lib.hid hs3
  clear hs2 hcv hmn hs3
  go_wp2_with fail
  go_region_with (fail)
  all_goals go_wp2
  all_goals go_ret3
  all_goals exact ⟨ao3, _, B1, _, rfl, HS3.out.below (Below.refl _ _).drew, NEW.out, b1.drew⟩
/-- A reader in block p: what is left of the bytes, and was there too little? -/
def RdG (G : Nat → Prop) (w : World) (p : Nat) (s : RS) : Prop := ∃ ao cap B off, w.heap[p]? = some (.cells #[.slice ao s.1.length cap, .bool s.2] 72 (0, 0)) ∧ SrcAt w ao cap s.1 B off ∧ (0 < s.1.length → B ≠ p ∧ ¬ G B)
theorem RdG.lt {G : Nat → Prop} {w : World} {p : Nat} {s : RS} (h : RdG G w p s) : p < w.heap.size := by
  obtain ⟨_, _, _, _, h1, _⟩ := h
  exact (Array.getElem?_eq_some_iff.1 h1).1
theorem RdG.below {G : Nat → Prop} {w w' : World} {p : Nat} {s : RS} (h : RdG G w p s) (hb : Below w.heap.size w w') : RdG G w' p s := by
  obtain ⟨ao, cap, B, off, h1, h2, h3⟩ := h
  exact ⟨ao, cap, B, off, below_turn hb h1, h2.below hb, h3⟩
/-- What a reader's call leaves. -/
def RdToG (G : Nat → Prop) (w : World) (p : Nat) (v : Value) (s : RS) (e : Ending) (w' : World) : Prop := e = .returned v ∧ RdG G w' p s ∧ Turn (fun k => k = p) w w'
/-- bad is set. -/
theorem RdG.spoil {G : Nat → Prop} {w : World} {p : Nat} {s : RS} (h : RdG G w p s) : RdG G (w.setCell ⟨p, 1, none⟩ (.bool true)) p (s.1, true) := by
  obtain ⟨ao, cap, B, off, h1, h2, h3⟩ := h
  exact ⟨ao, cap, B, off, heap_setCell_same w p 1 _ _ _ h1, h2.turn (turn_rd p 1 w _) (fun hp => (h3 hp).1), h3⟩
set_option maxRecDepth 100000 in
set_option maxHeartbeats 1600000 in
theorem rdBytes_g (G : Nat → Prop) (p : Nat) (s : RS) (n : Nat) (hn : n ≤ 1000) (w : World) (h : RdG G w p s) (hl : s.1.length ≤ 140737488355328) :
    Calls Try.prog 43 #[rdp p, .int .i64 (n : Int)] w (RdToG G w p (.string (SL (rdBytes n s).1)) (rdBytes n s).2) := by
  have hsp := h.spoil
  obtain ⟨ao, cap, B, off, hrow, hs, hne⟩ := h
  obtain ⟨b, bad⟩ := s
  simp only at hrow hs hne hl hsp
  obtain ⟨c0, c1, fr⟩ := rd_cells hrow
  have f0 := fr 0
  have f1 := fr 1
  unfold rdBytes
  simp only
  by_cases hlt : b.length < n
  · rw [if_pos hlt]
    have HS : RdToG G w p (.string (SL [])) (b, true) (.returned (.string (SL []))) (w.setCell ⟨p, 1, none⟩ (.bool true)) := ⟨rfl, hsp, turn_rd p 1 w _⟩
    have HH := Lib.hid HS
    obtain ⟨L, hL⟩ : ∃ L, L = b.length := ⟨_, rfl⟩
    rw [← hL] at c0
    have i1 : (L : Int) < (n : Int) := by omega
    clear hlt HS hL hsp hs hrow hne fr hl
    go_enter Try.func43, Try.ntmps43
    go_wp2
    go_ret
    exact HH.out
  · rw [if_neg hlt]
    obtain ⟨ah, hh, sh⟩ := hs.slice_h n (by omega)
    obtain ⟨al, hll, sl⟩ := hs.slice_l n (by omega)
    have htl : (b.take n).length = n := by rw [List.length_take]; omega
    have hcv := convert_src sh
    rw [htl] at hcv
    have hrd : RdG G (w.setCell ⟨p, 0, none⟩ (.slice al (b.length - n) (cap - n))) p (b.drop n, bad) := by
      refine ⟨al, cap - n, B, off + n, ?_, sl.turn (turn_rd p 0 w _) (fun hp => (hne (by rw [List.length_drop] at hp; omega)).1), fun hp => hne (by rw [List.length_drop] at hp; omega)⟩
      rw [List.length_drop]
      exact heap_setCell_same w p 0 _ _ _ hrow
    have HS : RdToG G w p (.string (SL (b.take n))) (b.drop n, bad) (.returned (.string (SL (b.take n)))) (w.setCell ⟨p, 0, none⟩ (.slice al (b.length - n) (cap - n))) := ⟨rfl, hrd, turn_rd p 0 w _⟩
    have i0 : (0 : Int) ≤ (n : Int) := by omega
    obtain ⟨L, hL⟩ : ∃ L, L = b.length := ⟨_, rfl⟩
    rw [← hL] at c0 hh hll HS
    have i1 : ¬ (L : Int) < (n : Int) := by omega
    obtain ⟨T, hT⟩ : ∃ T, T = b.take n := ⟨_, rfl⟩
    rw [← hT] at hcv HS
    have HH := Lib.hid HS
    have HT := Lib.hid hT
    clear hlt HS hL hsp hs hrow hne fr hrd hl sh sl htl hT
    go_enter Try.func43, Try.ntmps43
    go_wp2
    go_ret
    rw [← HT.out]
    exact HH.out
set_option maxRecDepth 100000 in
set_option maxHeartbeats 1600000 in
theorem rdNum_g (G : Nat → Prop) (p : Nat) (s : RS) (w : World) (hG : ∀ k, G k → k < w.heap.size) (h : RdG G w p s) (hl : s.1.length ≤ 140737488355328) :
    Calls Try.prog 41 #[rdp p] w (RdToG G w p (.int .i64 ((rdNum s).1 : Int)) (rdNum s).2) := by
  have h' := h
  obtain ⟨ao, cap, B, off, hrow, hs, hne⟩ := h
  obtain ⟨b, bad⟩ := s
  simp only at hrow hs hne hl
  obtain ⟨c0, c1, fr⟩ := rd_cells hrow
  rcases parse_cases b with hp | ⟨n, rest, hn, he⟩
  · have hr : rdNum (b, bad) = (0, (b, true)) := by unfold rdNum; simp only [hp]
    rw [hr]
    have hg := refTakeNum_no ao cap b B off w hs hl hp
    have hfin : ∀ w1, Below w.heap.size w w1 → Hid (RdToG G w p (.int .i64 ((0 : Nat) : Int)) (b, true) (.returned (.int .i64 ((0 : Nat) : Int))) (w1.setCell ⟨p, 1, none⟩ (.bool true)) ∧ w1.frozen? ⟨p, 1, none⟩ = false ∧ w1.cell? ⟨p, 1, none⟩ = some (.bool bad)) := fun w1 hb =>
      Lib.hid ⟨⟨rfl, (h'.below hb).spoil, (Turn.of_below _ hb).trans (turn_rd p 1 w1 _)⟩, (rd_cells (below_turn hb hrow)).2.2 1, (rd_cells (below_turn hb hrow)).2.1⟩
    have HG := Lib.hid hg
    have HF := Lib.hid hfin
    obtain ⟨L, hL⟩ : ∃ L, L = b.length := ⟨_, rfl⟩
    rw [← hL] at c0 HG
    clear hg hfin hr hp hL hs hrow hne fr hl h' hG
    go_enter Try.func41, Try.ntmps41
    go_wp2_with (go_at_call 66; refine HG.out.mono ?_; rintro e w1 ⟨rfl, b1⟩; have HH := HF.out w1 b1; have f1 := HH.out.2.1; have k1 := HH.out.2.2; clear b1)
    go_ret
    exact HH.out.1
  · have hr : rdNum (b, bad) = (n, (rest, bad)) := by rw [he]; exact rdNum_app hn rest bad
    rw [hr]
    have hg := refTakeNum_new ao cap b B off w hs hl n rest hn he
    have hfin : ∀ w1 ao' cap' B', SrcAt w1 ao' cap' rest B' 0 → (0 < rest.length → w.heap.size ≤ B') → Below w.heap.size w w1 → Hid (RdToG G w p (.int .i64 (n : Int)) (rest, bad) (.returned (.int .i64 (n : Int))) (w1.setCell ⟨p, 0, none⟩ (.slice ao' rest.length cap')) ∧ w1.frozen? ⟨p, 0, none⟩ = false ∧ w1.cell? ⟨p, 0, none⟩ = some (.slice ao b.length cap)) := fun w1 ao' cap' B' hs' hnw hb => by
      have hrow' := below_turn hb hrow
      have hne' : 0 < rest.length → B' ≠ p ∧ ¬ G B' := fun hq => ⟨rd_ne hrow' (fun z e => by cases e) hs' hq, fun hg => by have h1 := hG _ hg; have h2 := hnw hq; omega⟩
      exact Lib.hid ⟨⟨rfl, ⟨ao', cap', B', 0, heap_setCell_same w1 p 0 _ _ _ hrow', hs'.turn (turn_rd p 0 w1 _) (fun hq => (hne' hq).1), hne'⟩, (Turn.of_below _ hb).trans (turn_rd p 0 w1 _)⟩, (rd_cells hrow').2.2 0, (rd_cells hrow').1⟩
    have HG := Lib.hid hg
    have HF := Lib.hid hfin
    obtain ⟨L, hL⟩ : ∃ L, L = b.length := ⟨_, rfl⟩
    obtain ⟨R, hR⟩ : ∃ R, R = rest.length := ⟨_, rfl⟩
    rw [← hL] at c0
    rw [← hL, ← hR] at HG
    rw [← hL, ← hR] at HF
    clear hg hfin hr he hL hR hs hrow hne fr hl h' hG
    go_enter Try.func41, Try.ntmps41
    go_wp2_with (go_at_call 66; refine HG.out.mono ?_; rintro e w1 ⟨ao', cap', B', rfl, s1, n1, b1⟩; have HH := HF.out w1 ao' cap' B' s1 n1 b1; have f0 := HH.out.2.1; have k0 := HH.out.2.2; clear b1 n1 s1)
    go_ret
    exact HH.out.1
set_option maxRecDepth 100000 in
set_option maxHeartbeats 1600000 in
theorem rdText_g (G : Nat → Prop) (p : Nat) (s : RS) (w : World) (hG : ∀ k, G k → k < w.heap.size) (h : RdG G w p s) (hl : s.1.length ≤ 140737488355328) :
    Calls Try.prog 42 #[rdp p] w (RdToG G w p (.string (SL (rdText s).1)) (rdText s).2) := by
  have h' := h
  obtain ⟨ao, cap, B, off, hrow, hs, hne⟩ := h
  obtain ⟨b, bad⟩ := s
  simp only at hrow hs hne hl
  obtain ⟨c0, c1, fr⟩ := rd_cells hrow
  rcases text_cases b 1048576 with hp | ⟨t, rest, he, hm⟩
  · have hr : rdText (b, bad) = ([], (b, true)) := by
      unfold rdText
      rcases hp with hp | ⟨n, k, hp, hk, hn, hc⟩
      · simp only [hp]
      · simp only [hp]
        rw [if_pos (by omega)]
    rw [hr]
    have hg := refTakeText_no ao cap b B off 1048576 w hs hl hp
    have hfin : ∀ w1, Below w.heap.size w w1 → Hid (RdToG G w p (.string (SL [])) (b, true) (.returned (.string (SL []))) (w1.setCell ⟨p, 1, none⟩ (.bool true)) ∧ w1.frozen? ⟨p, 1, none⟩ = false ∧ w1.cell? ⟨p, 1, none⟩ = some (.bool bad)) := fun w1 hb =>
      Lib.hid ⟨⟨rfl, (h'.below hb).spoil, (Turn.of_below _ hb).trans (turn_rd p 1 w1 _)⟩, (rd_cells (below_turn hb hrow)).2.2 1, (rd_cells (below_turn hb hrow)).2.1⟩
    have HG := Lib.hid hg
    have HF := Lib.hid hfin
    obtain ⟨L, hL⟩ : ∃ L, L = b.length := ⟨_, rfl⟩
    rw [← hL] at c0 HG
    clear hg hfin hr hp hL hs hrow hne fr hl h' hG
    go_enter Try.func42, Try.ntmps42
    go_wp2_with (go_at_call 67; refine HG.out.mono ?_; rintro e w1 ⟨rfl, b1⟩; have HH := HF.out w1 b1; have f1 := HH.out.2.1; have k1 := HH.out.2.2; clear b1)
    go_ret
    exact HH.out.1
  · have hr : rdText (b, bad) = (t, (rest, bad)) := by
      have := rdText_app (t := t) (by omega) rest bad
      unfold txtL at this
      rw [List.append_assoc] at this
      rw [he]; exact this
    rw [hr]
    have hg := refTakeText_new ao cap b B off 1048576 w hs hl t rest he hm
    have hfin : ∀ w1 ao' cap' B' off', SrcAt w1 ao' cap' rest B' off' → (0 < rest.length → w.heap.size ≤ B') → Below w.heap.size w w1 → Hid (RdToG G w p (.string (SL t)) (rest, bad) (.returned (.string (SL t))) (w1.setCell ⟨p, 0, none⟩ (.slice ao' rest.length cap')) ∧ w1.frozen? ⟨p, 0, none⟩ = false ∧ w1.cell? ⟨p, 0, none⟩ = some (.slice ao b.length cap)) := fun w1 ao' cap' B' off' hs' hnw hb => by
      have hrow' := below_turn hb hrow
      have hne' : 0 < rest.length → B' ≠ p ∧ ¬ G B' := fun hq => ⟨rd_ne hrow' (fun z e => by cases e) hs' hq, fun hg => by have h1 := hG _ hg; have h2 := hnw hq; omega⟩
      exact Lib.hid ⟨⟨rfl, ⟨ao', cap', B', off', heap_setCell_same w1 p 0 _ _ _ hrow', hs'.turn (turn_rd p 0 w1 _) (fun hq => (hne' hq).1), hne'⟩, (Turn.of_below _ hb).trans (turn_rd p 0 w1 _)⟩, (rd_cells hrow').2.2 0, (rd_cells hrow').1⟩
    have HG := Lib.hid hg
    have HF := Lib.hid hfin
    obtain ⟨L, hL⟩ : ∃ L, L = b.length := ⟨_, rfl⟩
    obtain ⟨R, hR⟩ : ∃ R, R = rest.length := ⟨_, rfl⟩
    rw [← hL] at c0
    rw [← hL, ← hR] at HG
    rw [← hL, ← hR] at HF
    clear hg hfin hr he hm hL hR hs hrow hne fr hl h' hG
    go_enter Try.func42, Try.ntmps42
    go_wp2_with (go_at_call 67; refine HG.out.mono ?_; rintro e w1 ⟨ao', cap', B', off', rfl, s1, n1, b1⟩; have HH := HF.out w1 ao' cap' B' off' s1 n1 b1; have f0 := HH.out.2.1; have k0 := HH.out.2.2; clear b1 n1 s1)
    go_ret
    exact HH.out.1
end Go.Proofs.Ytckbeeadkiiccaa
namespace Go.Proofs.Ytckbeeadkiiccaa
open Go.RowKit
theorem rdBytes_le {n : Nat} {s : RS} : (rdBytes n s).2.1.length ≤ s.1.length := by
  unfold rdBytes
  split
  · exact Nat.le_refl _
  · simp
theorem rdBytes_bad {n : Nat} {s : RS} (h : s.2 = true) : (rdBytes n s).2.2 = true := by
  unfold rdBytes
  split
  · rfl
  · exact h
theorem rdBytes_eat {n : Nat} {s : RS} : (rdBytes n s).2.2 = true ∨ (rdBytes n s).2.1.length + n ≤ s.1.length := by
  unfold rdBytes
  split
  · exact .inl rfl
  · right
    simp
    omega
theorem rdBytes_len {n : Nat} {s : RS} : (rdBytes n s).1.length ≤ n := by
  unfold rdBytes
  split
  · exact Nat.zero_le _
  · simp only [List.length_take]
    exact Nat.min_le_left _ _
theorem rdNum_le {s : RS} : (rdNum s).2.1.length ≤ s.1.length := by
  unfold rdNum
  cases parse s.1 with
  | none => exact Nat.le_refl _
  | some p => simp
theorem rdNum_max {s : RS} : (rdNum s).1 ≤ 4611686018427387903 := by
  unfold rdNum
  rcases parse_cases s.1 with hp | ⟨n, rest, hn, he⟩
  · simp only [hp]
    omega
  · rw [he]
    simp only [parse_numL n rest hn]
    exact hn
theorem rdText_le {s : RS} : (rdText s).2.1.length ≤ s.1.length := by
  unfold rdText
  cases parse s.1 with
  | none => exact Nat.le_refl _
  | some p =>
    simp only
    split
    · exact Nat.le_refl _
    · simp
theorem rdText_len {s : RS} : (rdText s).1.length ≤ 1048576 := by
  unfold rdText
  cases parse s.1 with
  | none => exact Nat.zero_le _
  | some p =>
    simp only
    split
    · exact Nat.zero_le _
    · rename_i h
      simp only [List.length_take]
      omega
theorem rdEnt_le {s : RS} : (rdEnt s).2.1.length ≤ s.1.length := Nat.le_trans rdBytes_le (Nat.le_trans rdBytes_le rdText_le)
theorem rdEnt_eat {s : RS} : (rdEnt s).2.2 = true ∨ (rdEnt s).2.1.length + 33 ≤ s.1.length := by
  show (rdBytes 32 (rdBytes 1 (rdText s).2).2).2.2 = true ∨ (rdBytes 32 (rdBytes 1 (rdText s).2).2).2.1.length + 33 ≤ s.1.length
  have h1 := rdText_le (s := s)
  rcases rdBytes_eat (n := 1) (s := (rdText s).2) with h | h
  · exact .inl (rdBytes_bad h)
  · rcases rdBytes_eat (n := 32) (s := (rdBytes 1 (rdText s).2).2) with k | k
    · exact .inl k
    · right; omega
theorem rdEnts_bad {n : Nat} {s : RS} (h : s.2 = true) : rdEnts n s = ([], s) := by
  cases n with
  | zero => rfl
  | succ n => unfold rdEnts; rw [if_pos h]
theorem rdUps_bad {n : Nat} {s : RS} (h : s.2 = true) : rdUps n s = ([], s) := by
  cases n with
  | zero => rfl
  | succ n => unfold rdUps; rw [if_pos h]
theorem rdEnts_next {n : Nat} {s : RS} (h : ¬ s.2 = true) : rdEnts (n + 1) s = ((rdEnt s).1 :: (rdEnts n (rdEnt s).2).1, (rdEnts n (rdEnt s).2).2) := by
  rw [rdEnts, if_neg h]
theorem rdUps_next {n : Nat} {s : RS} (h : ¬ s.2 = true) : rdUps (n + 1) s = ((rdBytes 32 s).1 :: (rdUps n (rdBytes 32 s).2).1, (rdUps n (rdBytes 32 s).2).2) := by
  rw [rdUps, if_neg h]
theorem rdEnts_fits : ∀ (n : Nat) (s : RS), (rdEnts n s).1.length * 33 ≤ s.1.length + 33 ∧ (rdEnts n s).2.1.length ≤ s.1.length ∧ ∀ e ∈ (rdEnts n s).1, e.nm.length ≤ 9223372036854775807 ∧ e.id.length ≤ 9223372036854775807
  | 0, s => ⟨by simp [rdEnts], Nat.le_refl _, fun e he => by simp [rdEnts] at he⟩
  | n + 1, s => by
    by_cases hb : s.2 = true
    · rw [rdEnts_bad hb]
      exact ⟨by simp, Nat.le_refl _, fun e he => by simp at he⟩
    · rw [rdEnts_next hb]
      have ih := rdEnts_fits n (rdEnt s).2
      refine ⟨?_, Nat.le_trans ih.2.1 rdEnt_le, fun e he => ?_⟩
      · simp only [List.length_cons]
        rcases rdEnt_eat (s := s) with h | h
        · rw [rdEnts_bad h]
          simp
        · have := ih.1
          omega
      · rcases List.mem_cons.1 he with rfl | he
        · have h1 : (rdEnt s).1.nm.length ≤ 1048576 := rdText_len
          have h2 : (rdEnt s).1.id.length ≤ 32 := rdBytes_len
          exact ⟨by omega, by omega⟩
        · exact ih.2.2 e he
theorem rdUps_fits : ∀ (n : Nat) (s : RS), (rdUps n s).1.length * 32 ≤ s.1.length + 32 ∧ (rdUps n s).2.1.length ≤ s.1.length ∧ ∀ t ∈ (rdUps n s).1, t.length ≤ 9223372036854775807
  | 0, s => ⟨by simp [rdUps], Nat.le_refl _, fun e he => by simp [rdUps] at he⟩
  | n + 1, s => by
    by_cases hb : s.2 = true
    · rw [rdUps_bad hb]
      exact ⟨by simp, Nat.le_refl _, fun e he => by simp at he⟩
    · rw [rdUps_next hb]
      have ih := rdUps_fits n (rdBytes 32 s).2
      refine ⟨?_, Nat.le_trans ih.2.1 rdBytes_le, fun t ht => ?_⟩
      · simp only [List.length_cons]
        rcases rdBytes_eat (n := 32) (s := s) with h | h
        · rw [rdUps_bad h]
          simp
        · have := ih.1
          omega
      · rcases List.mem_cons.1 ht with rfl | ht
        · have h2 : (rdBytes 32 s).1.length ≤ 32 := rdBytes_len
          omega
        · exact ih.2.2 t ht
theorem fits_zero (k : Int) : ObjFits (zeroO k) := ⟨Nat.zero_le _, (fun e he => by cases he), Nat.zero_le _, (fun t ht => by cases ht)⟩
theorem rdO_fits (k : Nat) (r : OB) (hr : r.length ≤ 140737488355328) : ObjFits (rdO k r).1 := by
  unfold rdO
  split
  · exact ⟨Nat.zero_le _, (fun e he => by cases he), Nat.zero_le _, (fun t ht => by cases ht)⟩
  · split
    · have h := rdEnts_fits (rdNum (r, false)).1 (rdNum (r, false)).2
      have h2 : (rdNum (r, false)).2.1.length ≤ r.length := rdNum_le (s := (r, false))
      refine ⟨?_, h.2.2, Nat.zero_le _, (fun t ht => by cases ht)⟩
      show (rdEnts (rdNum (r, false)).1 (rdNum (r, false)).2).1.length ≤ _
      have := h.1
      omega
    · split
      · have h := rdUps_fits (rdNum (rdBytes 32 (r, false)).2).1 (rdNum (rdBytes 32 (r, false)).2).2
        have h2 : (rdNum (rdBytes 32 (r, false)).2).2.1.length ≤ r.length := Nat.le_trans rdNum_le (rdBytes_le (s := (r, false)))
        refine ⟨Nat.zero_le _, (fun e he => by cases he), ?_, h.2.2⟩
        show (rdUps (rdNum (rdBytes 32 (r, false)).2).1 (rdNum (rdBytes 32 (r, false)).2).2).1.length ≤ _
        have := h.1
        omega
      · split
        · exact ⟨Nat.zero_le _, (fun e he => by cases he), Nat.zero_le _, (fun t ht => by cases ht)⟩
        · exact fits_zero _
/-! ### In memory -/
def objC (o : ObjR) (dv ev uv : Value) : Array Value := #[.int .i64 o.kind, dv, ev, .string (SL o.tree), uv, .string (SL o.target), .string (SL o.name), .string (SL o.who), .int .i64 o.stamp, .string (SL o.text)]
/-- The state of Decode: the result's block q, the reader's p, the object's x, which what is left of the bytes keeps out of, as of G. -/
structure DecSt (w0 : World) (q p x : Nat) (G : Nat → Prop) (s : RS) (cs : Array Value) (w : World) : Prop where
  res : w.heap[q]? = some (.cells (objC (zeroO 0) (.slice none 0 0) (.slice none 0 0) (.slice none 0 0)) 26 (0, 0))
  rd : RdG G w p s
  obj : w.heap[x]? = some (.cells cs 26 (0, 0))
  below : Below q w0 w
  qp : q < p
  px : p < x
  out : G x
theorem DecSt.lt {w0 w : World} {q p x : Nat} {G : Nat → Prop} {s : RS} {cs : Array Value} (h : DecSt w0 q p x G s cs w) : x < w.heap.size := (Array.getElem?_eq_some_iff.1 h.obj).1
theorem DecSt.step {w0 w w' : World} {q p x : Nat} {G : Nat → Prop} {s s' : RS} {cs : Array Value} (h : DecSt w0 q p x G s cs w) (r : RdG G w' p s') (t : Turn (fun k => k = p) w w') : DecSt w0 q p x G s' cs w' :=
  ⟨t.keep h.res (fun e => by have := h.qp; omega), r, t.keep h.obj (fun e => by have := h.px; omega), h.below.trans (t.below (Nat.le_of_lt (Nat.lt_trans (Nat.lt_trans h.qp h.px) h.lt)) (fun k e => by have := h.qp; omega)), h.qp, h.px, h.out⟩
theorem RdG.turn {G H : Nat → Prop} {w w' : World} {p : Nat} {s : RS} (h : RdG G w p s) (t : Turn H w w') (hp : ¬ H p) (hH : ∀ k, H k → G k) : RdG G w' p s := by
  obtain ⟨ao, cap, B, off, h1, h2, h3⟩ := h
  exact ⟨ao, cap, B, off, t.keep h1 hp, h2.turn t (fun hb hk => (h3 hb).2 (hH _ hk)), h3⟩
theorem DecSt.set {w0 w : World} {q p x : Nat} {G : Nat → Prop} {s : RS} {cs : Array Value} (h : DecSt w0 q p x G s cs w) (i : Nat) (v : Value) : DecSt w0 q p x G s (cs.setIfInBounds i v) (w.setCell ⟨x, i, none⟩ v) := by
  have t : Turn (fun k => k = x) w (w.setCell ⟨x, i, none⟩ v) := Turn.setCell w _ v rfl
  exact ⟨t.keep h.res (fun e => by have := h.qp; have := h.px; omega), h.rd.turn t (fun e => by have := h.px; omega) (fun k e => by rw [e]; exact h.out), heap_setCell_same w x i _ _ _ h.obj, h.below.trans (t.below (Nat.le_of_lt (Nat.lt_trans (Nat.lt_trans h.qp h.px) h.lt)) (fun k e => by have := h.qp; have := h.px; omega)), h.qp, h.px, h.out⟩
/-- What is made behind the object turns nothing. -/
theorem DecSt.low {w0 w w' : World} {q p x : Nat} {G : Nat → Prop} {s : RS} {cs : Array Value} (h : DecSt w0 q p x G s cs w) {H : Nat → Prop} (t : Turn H w w') (hH : ∀ k, H k → x < k ∧ G k) : DecSt w0 q p x G s cs w' :=
  ⟨t.keep h.res (fun e => by have := (hH _ e).1; have := h.qp; have := h.px; omega), h.rd.turn t (fun e => by have := (hH _ e).1; have := h.px; omega) (fun k e => (hH k e).2), t.keep h.obj (fun e => by have := (hH _ e).1; omega), h.below.trans (t.below (Nat.le_of_lt (Nat.lt_trans (Nat.lt_trans h.qp h.px) h.lt)) (fun k e => by have := (hH _ e).1; have := h.qp; have := h.px; omega)), h.qp, h.px, h.out⟩
/-- What is left of the bytes keeps out of one block more: one that is new. -/
theorem DecSt.more {w0 w : World} {q p x : Nat} {G G' : Nat → Prop} {s : RS} {cs : Array Value} (h : DecSt w0 q p x G s cs w) (hG : ∀ k, k < w.heap.size → G' k → G k) (hx : G' x) : DecSt w0 q p x G' s cs w := by
  obtain ⟨ao, cap, B, off, h1, h2, h3⟩ := h.rd
  exact ⟨h.res, ⟨ao, cap, B, off, h1, h2, fun hb => ⟨(h3 hb).1, fun hk => (h3 hb).2 (hG _ (h2.old hb) hk)⟩⟩, h.obj, h.below, h.qp, h.px, hx⟩
/-- Ten cells are stored one by one. -/
theorem ten_set (w : World) (q : Nat) (t : TypeId) (z0 z1 z2 z3 z4 z5 z6 z7 z8 z9 v0 v1 v2 v3 v4 v5 v6 v7 v8 v9 : Value) (h : w.heap[q]? = some (.cells #[z0, z1, z2, z3, z4, z5, z6, z7, z8, z9] t (0, 0))) :
    ((((((((((w.setCell ⟨q, 0, none⟩ v0).setCell ⟨q, 1, none⟩ v1).setCell ⟨q, 2, none⟩ v2).setCell ⟨q, 3, none⟩ v3).setCell ⟨q, 4, none⟩ v4).setCell ⟨q, 5, none⟩ v5).setCell ⟨q, 6, none⟩ v6).setCell ⟨q, 7, none⟩ v7).setCell ⟨q, 8, none⟩ v8).setCell ⟨q, 9, none⟩ v9).heap[q]? = some (.cells #[v0, v1, v2, v3, v4, v5, v6, v7, v8, v9] t (0, 0))
    ∧ Turn (fun k => k = q) w ((((((((((w.setCell ⟨q, 0, none⟩ v0).setCell ⟨q, 1, none⟩ v1).setCell ⟨q, 2, none⟩ v2).setCell ⟨q, 3, none⟩ v3).setCell ⟨q, 4, none⟩ v4).setCell ⟨q, 5, none⟩ v5).setCell ⟨q, 6, none⟩ v6).setCell ⟨q, 7, none⟩ v7).setCell ⟨q, 8, none⟩ v8).setCell ⟨q, 9, none⟩ v9) := by
  have g0 : (World.setCell w ⟨q, 0, none⟩ v0).heap[q]? = some (.cells #[v0, z1, z2, z3, z4, z5, z6, z7, z8, z9] t (0, 0)) := heap_setCell_same _ q 0 _ _ _ h
  have g1 : (World.setCell (World.setCell w ⟨q, 0, none⟩ v0) ⟨q, 1, none⟩ v1).heap[q]? = some (.cells #[v0, v1, z2, z3, z4, z5, z6, z7, z8, z9] t (0, 0)) := heap_setCell_same _ q 1 _ _ _ g0
  have g2 : (World.setCell (World.setCell (World.setCell w ⟨q, 0, none⟩ v0) ⟨q, 1, none⟩ v1) ⟨q, 2, none⟩ v2).heap[q]? = some (.cells #[v0, v1, v2, z3, z4, z5, z6, z7, z8, z9] t (0, 0)) := heap_setCell_same _ q 2 _ _ _ g1
  have g3 : (World.setCell (World.setCell (World.setCell (World.setCell w ⟨q, 0, none⟩ v0) ⟨q, 1, none⟩ v1) ⟨q, 2, none⟩ v2) ⟨q, 3, none⟩ v3).heap[q]? = some (.cells #[v0, v1, v2, v3, z4, z5, z6, z7, z8, z9] t (0, 0)) := heap_setCell_same _ q 3 _ _ _ g2
  have g4 : (World.setCell (World.setCell (World.setCell (World.setCell (World.setCell w ⟨q, 0, none⟩ v0) ⟨q, 1, none⟩ v1) ⟨q, 2, none⟩ v2) ⟨q, 3, none⟩ v3) ⟨q, 4, none⟩ v4).heap[q]? = some (.cells #[v0, v1, v2, v3, v4, z5, z6, z7, z8, z9] t (0, 0)) := heap_setCell_same _ q 4 _ _ _ g3
  have g5 : (World.setCell (World.setCell (World.setCell (World.setCell (World.setCell (World.setCell w ⟨q, 0, none⟩ v0) ⟨q, 1, none⟩ v1) ⟨q, 2, none⟩ v2) ⟨q, 3, none⟩ v3) ⟨q, 4, none⟩ v4) ⟨q, 5, none⟩ v5).heap[q]? = some (.cells #[v0, v1, v2, v3, v4, v5, z6, z7, z8, z9] t (0, 0)) := heap_setCell_same _ q 5 _ _ _ g4
  have g6 : (World.setCell (World.setCell (World.setCell (World.setCell (World.setCell (World.setCell (World.setCell w ⟨q, 0, none⟩ v0) ⟨q, 1, none⟩ v1) ⟨q, 2, none⟩ v2) ⟨q, 3, none⟩ v3) ⟨q, 4, none⟩ v4) ⟨q, 5, none⟩ v5) ⟨q, 6, none⟩ v6).heap[q]? = some (.cells #[v0, v1, v2, v3, v4, v5, v6, z7, z8, z9] t (0, 0)) := heap_setCell_same _ q 6 _ _ _ g5
  have g7 : (World.setCell (World.setCell (World.setCell (World.setCell (World.setCell (World.setCell (World.setCell (World.setCell w ⟨q, 0, none⟩ v0) ⟨q, 1, none⟩ v1) ⟨q, 2, none⟩ v2) ⟨q, 3, none⟩ v3) ⟨q, 4, none⟩ v4) ⟨q, 5, none⟩ v5) ⟨q, 6, none⟩ v6) ⟨q, 7, none⟩ v7).heap[q]? = some (.cells #[v0, v1, v2, v3, v4, v5, v6, v7, z8, z9] t (0, 0)) := heap_setCell_same _ q 7 _ _ _ g6
  have g8 : (World.setCell (World.setCell (World.setCell (World.setCell (World.setCell (World.setCell (World.setCell (World.setCell (World.setCell w ⟨q, 0, none⟩ v0) ⟨q, 1, none⟩ v1) ⟨q, 2, none⟩ v2) ⟨q, 3, none⟩ v3) ⟨q, 4, none⟩ v4) ⟨q, 5, none⟩ v5) ⟨q, 6, none⟩ v6) ⟨q, 7, none⟩ v7) ⟨q, 8, none⟩ v8).heap[q]? = some (.cells #[v0, v1, v2, v3, v4, v5, v6, v7, v8, z9] t (0, 0)) := heap_setCell_same _ q 8 _ _ _ g7
  have g9 : (World.setCell (World.setCell (World.setCell (World.setCell (World.setCell (World.setCell (World.setCell (World.setCell (World.setCell (World.setCell w ⟨q, 0, none⟩ v0) ⟨q, 1, none⟩ v1) ⟨q, 2, none⟩ v2) ⟨q, 3, none⟩ v3) ⟨q, 4, none⟩ v4) ⟨q, 5, none⟩ v5) ⟨q, 6, none⟩ v6) ⟨q, 7, none⟩ v7) ⟨q, 8, none⟩ v8) ⟨q, 9, none⟩ v9).heap[q]? = some (.cells #[v0, v1, v2, v3, v4, v5, v6, v7, v8, v9] t (0, 0)) := heap_setCell_same _ q 9 _ _ _ g8
  refine ⟨g9, ?_⟩
  have s : ∀ (W : World) (i : Nat) (v : Value), Turn (fun k => k = q) W (W.setCell ⟨q, i, none⟩ v) := fun W i v => Turn.setCell W _ v rfl
  exact (((((((((s _ _ _).trans (s _ _ _)).trans (s _ _ _)).trans (s _ _ _)).trans (s _ _ _)).trans (s _ _ _)).trans (s _ _ _)).trans (s _ _ _)).trans (s _ _ _)).trans (s _ _ _)
end Go.Proofs.Ytckbeeadkiiccaa
