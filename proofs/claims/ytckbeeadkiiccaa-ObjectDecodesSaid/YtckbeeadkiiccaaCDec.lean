/- The program's Decode. Written by wip/tools/mk_dec.py. -/
import Derived.Test.YtckbeeadkiiccaaCDecTo
import Derived.Test.YtckbeeadkiiccaaCTake
import Derived.Test.YtckbeeadkiiccaaCMay
namespace Go.Proofs.Ytckbeeadkiiccaa
open Go.RowKit
theorem dec_bad {b : OB} (h : (wO (b, false)).2.2 = true ∨ (wO (b, false)).2.1 ≠ []) : decO b = none := by
  rw [← wDec_eq]
  unfold wDec
  rw [if_pos]
  rcases h with h | h
  · exact .inl h
  · exact .inr (.inl h)
theorem dec_not {b : OB} (h : okO (wO (b, false)).1 = false) : decO b = none := by
  rw [← wDec_eq]
  unfold wDec
  rw [if_pos (.inr (.inr h))]
theorem dec_yes {b : OB} (h1 : ¬ ((wO (b, false)).2.2 = true ∨ (wO (b, false)).2.1 ≠ [])) (h2 : okO (wO (b, false)).1 = true) : decO b = some (wO (b, false)).1 := by
  rw [← wDec_eq]
  unfold wDec
  rw [if_neg]
  rintro (k | k | k)
  · exact h1 (.inl k)
  · exact h1 (.inr k)
  · rw [h2] at k; cases k
set_option maxRecDepth 100000 in
set_option maxHeartbeats 8000000 in
theorem decode_any (ao : Option Addr) (cap B off : Nat) (b : OB) (w : World) (h : SrcAt w ao cap b B off) (hl : b.length ≤ 140737488355328) :
    Calls Try.prog 22 #[.slice ao b.length cap] w (DecTo b w) := by
  obtain ⟨q, hq⟩ : ∃ q, q = w.heap.size := ⟨_, rfl⟩
  obtain ⟨W1, hW1⟩ : ∃ W1, W1 = w.alloc (.cells #[.int .i64 0, .slice none 0 0, .slice none 0 0, .string ⟨#[]⟩, .slice none 0 0, .string ⟨#[]⟩, .string ⟨#[]⟩, .string ⟨#[]⟩, .int .i64 0, .string ⟨#[]⟩] 26) := ⟨_, rfl⟩
  have hbl : Below w.heap.size w W1 := by rw [hW1]; exact (Below.refl _ _).alloc (Nat.le_refl _) _
  have hsz : W1.heap.size = w.heap.size + 1 := by rw [hW1]; simp
  have hrow : W1.heap[q]? = some (.cells #[.int .i64 0, .slice none 0 0, .slice none 0 0, .string ⟨#[]⟩, .slice none 0 0, .string ⟨#[]⟩, .string ⟨#[]⟩, .string ⟨#[]⟩, .int .i64 0, .string ⟨#[]⟩] 26 (0, 0)) := by rw [hW1, hq]; exact heap_alloc_new w _
  have hof := rowOf_any ao cap B off b W1 (h.below hbl)
  have htk := fun W (hr : RwAt W1.heap.size W W1.heap.size (b, false)) => takeBody_any W1.heap.size W1.heap.size (b, false) W hr hl
  obtain ⟨T, hT⟩ : ∃ x, x = wO (b, false) := ⟨_, rfl⟩
  rw [← hT] at htk
  obtain ⟨x, hx⟩ : ∃ x, x = W1.heap.size := ⟨_, rfl⟩
  rw [← hx] at hof htk
  obtain ⟨L, hL⟩ : ∃ n, n = b.length := ⟨_, rfl⟩
  rw [← hL] at hof ⊢
  have HOF := Lib.hid hof
  have HTK := Lib.hid htk
  have HW := Lib.hid hW1
  have HX := Lib.hid hx
  have HT := Lib.hid hT
  have HQ := Lib.hid (show q < x by omega)
  have HQW := Lib.hid hq
  have BL := Lib.hid hbl
  have ROW := Lib.hid hrow
  clear hof htk hW1 hx hT hL hsz hrow hbl h hl hq
  go_enter Try.func22, Try.ntmps22
  go_wp2_with fail
  rw [← HW.out, ← HQW.out]
  refine HOF.out.mono ?_
  rintro e w2 ⟨rfl, r2, b2⟩
  have R2 := Lib.hid r2
  have B2 := Lib.hid b2
  have Q2 := Lib.hid (below_turn (by rw [← HX.out]; exact b2) ROW.out)
  clear r2 b2
  go_wp2_with fail
  refine (HTK.out _ R2.out).mono ?_
  rintro e w3 ⟨a1, c1, a2, c2, a3, c3, rfl, i3, ⟨k1, k2, k3, k4⟩, r3, t3⟩
  have R3 := Lib.hid r3
  have T3 := Lib.hid t3
  have Q3 := Lib.hid (t3.keep Q2.out (fun e => by have := HQ.out; omega))
  have I3 := Lib.hid (i3.mono (F' := fun k => x < k) (fun k _ hk => by have := R2.out.lt; show x < k; omega))
  have hoo := fun W => objectOf_any T.1 a1 T.1.data.length c1 a2 T.1.ents.length c2 a3 T.1.ups.length c3 W
  rw [k1, k2, k3, k4] at hoo
  have hck := fun W (hb : Below w3.heap.size w3 W) => check_any _ T.1 _ _ _ W (i3.turn (Turn.of_below (fun _ => False) hb) (fun _ _ h => h))
  obtain ⟨V, hV⟩ : ∃ V, V = bodyV T.1 (.slice a1 T.1.data.length c1) (.slice a2 T.1.ents.length c2) (.slice a3 T.1.ups.length c3) := ⟨_, rfl⟩
  rw [← hV] at hoo ⊢
  clear r3 t3 i3 k1 k2 k3 k4 hV
  obtain ⟨o, ho⟩ : ∃ o, o = T.1 := ⟨_, rfl⟩
  rw [← ho] at hoo hck I3
  obtain ⟨n1, hn1⟩ : ∃ n, n = o.data.length := ⟨_, rfl⟩
  obtain ⟨n2, hn2⟩ : ∃ n, n = o.ents.length := ⟨_, rfl⟩
  obtain ⟨n3, hn3⟩ : ∃ n, n = o.ups.length := ⟨_, rfl⟩
  rw [← hn1, ← hn2, ← hn3] at hoo hck I3
  unfold objV at hoo hck
  obtain ⟨K, hK⟩ : ∃ k, k = o.kind := ⟨_, rfl⟩
  obtain ⟨z, hz⟩ : ∃ z, z = o.stamp := ⟨_, rfl⟩
  rw [← hK, ← hz] at hoo hck
  have HOO := Lib.hid hoo
  have HCK := Lib.hid hck
  have HO := Lib.hid ho
  have hov : (Value.agg #[.int .i64 K, .slice a1 n1 c1, .slice a2 n2 c2, .string (SL o.tree), .slice a3 n3 c3, .string (SL o.target), .string (SL o.name), .string (SL o.who), .int .i64 z, .string (SL o.text)]) = objV o (.slice a1 n1 c1) (.slice a2 n2 c2) (.slice a3 n3 c3) := by rw [hK, hz]; rfl
  have HOV := Lib.hid hov
  clear hoo hck ho hn1 hn2 hn3 hK hz hov
  go_wp2_with fail
  refine (HOO.out _).mono ?_
  rintro e w4 ⟨rfl, b4⟩
  have B4 := Lib.hid b4
  have R4 := Lib.hid (R3.out.below b4)
  have Q4 := Lib.hid (below_turn b4 Q3.out)
  clear b4
  obtain ⟨W5, hW5⟩ : ∃ W5, W5 = w4.alloc (.cells #[.int .i64 K, .slice a1 n1 c1, .slice a2 n2 c2, .string (SL o.tree), .slice a3 n3 c3, .string (SL o.target), .string (SL o.name), .string (SL o.who), .int .i64 z, .string (SL o.text)] 26) := ⟨_, rfl⟩
  have hb5 : Below w4.heap.size w4 W5 := by rw [hW5]; exact (Below.refl _ _).alloc (Nat.le_refl _) _
  have hr5 : W5.heap[w4.heap.size]? = some (.cells #[.int .i64 K, .slice a1 n1 c1, .slice a2 n2 c2, .string (SL o.tree), .slice a3 n3 c3, .string (SL o.target), .string (SL o.name), .string (SL o.who), .int .i64 z, .string (SL o.text)] 26 (0, 0)) := by rw [hW5]; exact heap_alloc_new w4 _
  have hend := rowEnd_any x x T.2 W5 (R4.out.below hb5)
  have HEND := Lib.hid hend
  have HW5 := Lib.hid hW5
  have Q5 := Lib.hid (below_turn hb5 Q4.out)
  have B35 := Lib.hid (B4.out.trans (hb5.mono B4.out.size))
  have S5 := Lib.hid hr5
  obtain ⟨s0, s1, s2, s3, s4, s5, s6, s7, s8, s9⟩ := obj_cells hr5
  have B05 : Below q w W5 := by
    have u1 : Below q w W1 := BL.out.mono (Nat.le_of_eq HQW.out)
    have u2 : Below q W1 w2 := B2.out.mono (Nat.le_of_lt HQ.out)
    have u3 : Below q w2 w3 := T3.out.below (Nat.le_trans (Nat.le_of_lt HQ.out) (Nat.le_of_lt R2.out.lt)) (fun k e => by have := HQ.out; omega)
    have u4 : Below q w3 W5 := B35.out.mono (Nat.le_trans (Nat.le_of_lt HQ.out) (Nat.le_of_lt R3.out.lt))
    exact u1.trans (u2.trans (u3.trans u4))
  have BQ := Lib.hid B05
  clear hW5 hb5 hr5 hend B05
  go_wp2_with fail
  rw [← HW5.out]
  by_cases hE : T.2.2 = true ∨ T.2.1 ≠ []
  · have hd := dec_bad (b := b) (by rw [← HT.out]; exact hE)
    have HD := Lib.hid hd
    rw [if_pos hE] at HEND
    have qr := Q5.out
    obtain ⟨u0, u1, u2, u3, u4, u5, u6, u7, u8, u9⟩ := obj_cells qr
    have f0 := obj_fz qr
    clear hd hE
    refine HEND.out.mono ?_
    rintro e w6 ⟨rfl, rfl⟩
    go_wp2_with fail
    have g0 : (World.setCell w6 ⟨q, 0, none⟩ (.int .i64 0)).heap[q]? = some (.cells #[.int .i64 0, .slice none 0 0, .slice none 0 0, .string ⟨#[]⟩, .slice none 0 0, .string ⟨#[]⟩, .string ⟨#[]⟩, .string ⟨#[]⟩, .int .i64 0, .string ⟨#[]⟩] 26 (0, 0)) := heap_setCell_same _ q 0 _ _ _ qr
    have g1 : (World.setCell (World.setCell w6 ⟨q, 0, none⟩ (.int .i64 0)) ⟨q, 1, none⟩ (.slice none 0 0)).heap[q]? = some (.cells #[.int .i64 0, .slice none 0 0, .slice none 0 0, .string ⟨#[]⟩, .slice none 0 0, .string ⟨#[]⟩, .string ⟨#[]⟩, .string ⟨#[]⟩, .int .i64 0, .string ⟨#[]⟩] 26 (0, 0)) := heap_setCell_same _ q 1 _ _ _ g0
    have g2 : (World.setCell (World.setCell (World.setCell w6 ⟨q, 0, none⟩ (.int .i64 0)) ⟨q, 1, none⟩ (.slice none 0 0)) ⟨q, 2, none⟩ (.slice none 0 0)).heap[q]? = some (.cells #[.int .i64 0, .slice none 0 0, .slice none 0 0, .string ⟨#[]⟩, .slice none 0 0, .string ⟨#[]⟩, .string ⟨#[]⟩, .string ⟨#[]⟩, .int .i64 0, .string ⟨#[]⟩] 26 (0, 0)) := heap_setCell_same _ q 2 _ _ _ g1
    have g3 : (World.setCell (World.setCell (World.setCell (World.setCell w6 ⟨q, 0, none⟩ (.int .i64 0)) ⟨q, 1, none⟩ (.slice none 0 0)) ⟨q, 2, none⟩ (.slice none 0 0)) ⟨q, 3, none⟩ (.string ⟨#[]⟩)).heap[q]? = some (.cells #[.int .i64 0, .slice none 0 0, .slice none 0 0, .string ⟨#[]⟩, .slice none 0 0, .string ⟨#[]⟩, .string ⟨#[]⟩, .string ⟨#[]⟩, .int .i64 0, .string ⟨#[]⟩] 26 (0, 0)) := heap_setCell_same _ q 3 _ _ _ g2
    have g4 : (World.setCell (World.setCell (World.setCell (World.setCell (World.setCell w6 ⟨q, 0, none⟩ (.int .i64 0)) ⟨q, 1, none⟩ (.slice none 0 0)) ⟨q, 2, none⟩ (.slice none 0 0)) ⟨q, 3, none⟩ (.string ⟨#[]⟩)) ⟨q, 4, none⟩ (.slice none 0 0)).heap[q]? = some (.cells #[.int .i64 0, .slice none 0 0, .slice none 0 0, .string ⟨#[]⟩, .slice none 0 0, .string ⟨#[]⟩, .string ⟨#[]⟩, .string ⟨#[]⟩, .int .i64 0, .string ⟨#[]⟩] 26 (0, 0)) := heap_setCell_same _ q 4 _ _ _ g3
    have g5 : (World.setCell (World.setCell (World.setCell (World.setCell (World.setCell (World.setCell w6 ⟨q, 0, none⟩ (.int .i64 0)) ⟨q, 1, none⟩ (.slice none 0 0)) ⟨q, 2, none⟩ (.slice none 0 0)) ⟨q, 3, none⟩ (.string ⟨#[]⟩)) ⟨q, 4, none⟩ (.slice none 0 0)) ⟨q, 5, none⟩ (.string ⟨#[]⟩)).heap[q]? = some (.cells #[.int .i64 0, .slice none 0 0, .slice none 0 0, .string ⟨#[]⟩, .slice none 0 0, .string ⟨#[]⟩, .string ⟨#[]⟩, .string ⟨#[]⟩, .int .i64 0, .string ⟨#[]⟩] 26 (0, 0)) := heap_setCell_same _ q 5 _ _ _ g4
    have g6 : (World.setCell (World.setCell (World.setCell (World.setCell (World.setCell (World.setCell (World.setCell w6 ⟨q, 0, none⟩ (.int .i64 0)) ⟨q, 1, none⟩ (.slice none 0 0)) ⟨q, 2, none⟩ (.slice none 0 0)) ⟨q, 3, none⟩ (.string ⟨#[]⟩)) ⟨q, 4, none⟩ (.slice none 0 0)) ⟨q, 5, none⟩ (.string ⟨#[]⟩)) ⟨q, 6, none⟩ (.string ⟨#[]⟩)).heap[q]? = some (.cells #[.int .i64 0, .slice none 0 0, .slice none 0 0, .string ⟨#[]⟩, .slice none 0 0, .string ⟨#[]⟩, .string ⟨#[]⟩, .string ⟨#[]⟩, .int .i64 0, .string ⟨#[]⟩] 26 (0, 0)) := heap_setCell_same _ q 6 _ _ _ g5
    have g7 : (World.setCell (World.setCell (World.setCell (World.setCell (World.setCell (World.setCell (World.setCell (World.setCell w6 ⟨q, 0, none⟩ (.int .i64 0)) ⟨q, 1, none⟩ (.slice none 0 0)) ⟨q, 2, none⟩ (.slice none 0 0)) ⟨q, 3, none⟩ (.string ⟨#[]⟩)) ⟨q, 4, none⟩ (.slice none 0 0)) ⟨q, 5, none⟩ (.string ⟨#[]⟩)) ⟨q, 6, none⟩ (.string ⟨#[]⟩)) ⟨q, 7, none⟩ (.string ⟨#[]⟩)).heap[q]? = some (.cells #[.int .i64 0, .slice none 0 0, .slice none 0 0, .string ⟨#[]⟩, .slice none 0 0, .string ⟨#[]⟩, .string ⟨#[]⟩, .string ⟨#[]⟩, .int .i64 0, .string ⟨#[]⟩] 26 (0, 0)) := heap_setCell_same _ q 7 _ _ _ g6
    have g8 : (World.setCell (World.setCell (World.setCell (World.setCell (World.setCell (World.setCell (World.setCell (World.setCell (World.setCell w6 ⟨q, 0, none⟩ (.int .i64 0)) ⟨q, 1, none⟩ (.slice none 0 0)) ⟨q, 2, none⟩ (.slice none 0 0)) ⟨q, 3, none⟩ (.string ⟨#[]⟩)) ⟨q, 4, none⟩ (.slice none 0 0)) ⟨q, 5, none⟩ (.string ⟨#[]⟩)) ⟨q, 6, none⟩ (.string ⟨#[]⟩)) ⟨q, 7, none⟩ (.string ⟨#[]⟩)) ⟨q, 8, none⟩ (.int .i64 0)).heap[q]? = some (.cells #[.int .i64 0, .slice none 0 0, .slice none 0 0, .string ⟨#[]⟩, .slice none 0 0, .string ⟨#[]⟩, .string ⟨#[]⟩, .string ⟨#[]⟩, .int .i64 0, .string ⟨#[]⟩] 26 (0, 0)) := heap_setCell_same _ q 8 _ _ _ g7
    have g9 : (World.setCell (World.setCell (World.setCell (World.setCell (World.setCell (World.setCell (World.setCell (World.setCell (World.setCell (World.setCell w6 ⟨q, 0, none⟩ (.int .i64 0)) ⟨q, 1, none⟩ (.slice none 0 0)) ⟨q, 2, none⟩ (.slice none 0 0)) ⟨q, 3, none⟩ (.string ⟨#[]⟩)) ⟨q, 4, none⟩ (.slice none 0 0)) ⟨q, 5, none⟩ (.string ⟨#[]⟩)) ⟨q, 6, none⟩ (.string ⟨#[]⟩)) ⟨q, 7, none⟩ (.string ⟨#[]⟩)) ⟨q, 8, none⟩ (.int .i64 0)) ⟨q, 9, none⟩ (.string ⟨#[]⟩)).heap[q]? = some (.cells #[.int .i64 0, .slice none 0 0, .slice none 0 0, .string ⟨#[]⟩, .slice none 0 0, .string ⟨#[]⟩, .string ⟨#[]⟩, .string ⟨#[]⟩, .int .i64 0, .string ⟨#[]⟩] 26 (0, 0)) := heap_setCell_same _ q 9 _ _ _ g8
    have gt : Turn (fun k => k = q) w6 (World.setCell (World.setCell (World.setCell (World.setCell (World.setCell (World.setCell (World.setCell (World.setCell (World.setCell (World.setCell w6 ⟨q, 0, none⟩ (.int .i64 0)) ⟨q, 1, none⟩ (.slice none 0 0)) ⟨q, 2, none⟩ (.slice none 0 0)) ⟨q, 3, none⟩ (.string ⟨#[]⟩)) ⟨q, 4, none⟩ (.slice none 0 0)) ⟨q, 5, none⟩ (.string ⟨#[]⟩)) ⟨q, 6, none⟩ (.string ⟨#[]⟩)) ⟨q, 7, none⟩ (.string ⟨#[]⟩)) ⟨q, 8, none⟩ (.int .i64 0)) ⟨q, 9, none⟩ (.string ⟨#[]⟩)) := (((((((((((turn_rw q 0 w6 _)).trans (turn_rw q 1 _ _)).trans (turn_rw q 2 _ _)).trans (turn_rw q 3 _ _)).trans (turn_rw q 4 _ _)).trans (turn_rw q 5 _ _)).trans (turn_rw q 6 _ _)).trans (turn_rw q 7 _ _)).trans (turn_rw q 8 _ _)).trans (turn_rw q 9 _ _))
    have hld := run_loadVar_row (P := Try.prog) _ q 26 26 #[.int .i64 0, .slice none 0 0, .slice none 0 0, .string ⟨#[]⟩, .slice none 0 0, .string ⟨#[]⟩, .string ⟨#[]⟩, .string ⟨#[]⟩, .int .i64 0, .string ⟨#[]⟩] (0, 0) _ g9 Try.underlying26 rfl (by kernel_rfl)
    have BQz := BQ.out.trans (gt.below (Nat.le_of_lt (Array.getElem?_eq_some_iff.1 qr).1) (fun k e => Nat.le_of_eq e.symm))
    refine bodyPost_ret (v := .tuple #[.agg #[.int .i64 0, .slice none 0 0, .slice none 0 0, .string ⟨#[]⟩, .slice none 0 0, .string ⟨#[]⟩, .string ⟨#[]⟩, .string ⟨#[]⟩, .int .i64 0, .string ⟨#[]⟩], .int .i64 2]) ?_ rfl ?_
    · rw [results_cell_tmp rfl]
      simp [asAddr, Result.andThen, hld]
    · refine ⟨by rw [← HQW.out]; exact BQz, ?_⟩
      rw [HD.out]
      rfl
  · have HEQ := Lib.hid hE
    rw [if_neg hE] at HEND
    clear hE
    cases hok : okO o with
    | false =>
      have hd := dec_not (b := b) (by rw [← HT.out, ← HO.out]; exact hok)
      have HD := Lib.hid hd
      have herr : errO o = 1 := by unfold errO; rw [hok]; rfl
      rw [herr] at HCK
      clear hd hok herr
      refine HEND.out.mono ?_
      rintro e w6 ⟨rfl, rfl⟩
      go_wp2_with (go_at_call 18; refine (HCK.out _ B35.out).mono ?_; rintro e w7 ⟨rfl, b7⟩; have B7 := Lib.hid b7; have qr := below_turn b7 Q5.out; obtain ⟨u0, u1, u2, u3, u4, u5, u6, u7, u8, u9⟩ := obj_cells qr; have f0 := obj_fz qr; clear b7)
      have g0 : (World.setCell w7 ⟨q, 0, none⟩ (.int .i64 0)).heap[q]? = some (.cells #[.int .i64 0, .slice none 0 0, .slice none 0 0, .string ⟨#[]⟩, .slice none 0 0, .string ⟨#[]⟩, .string ⟨#[]⟩, .string ⟨#[]⟩, .int .i64 0, .string ⟨#[]⟩] 26 (0, 0)) := heap_setCell_same _ q 0 _ _ _ qr
      have g1 : (World.setCell (World.setCell w7 ⟨q, 0, none⟩ (.int .i64 0)) ⟨q, 1, none⟩ (.slice none 0 0)).heap[q]? = some (.cells #[.int .i64 0, .slice none 0 0, .slice none 0 0, .string ⟨#[]⟩, .slice none 0 0, .string ⟨#[]⟩, .string ⟨#[]⟩, .string ⟨#[]⟩, .int .i64 0, .string ⟨#[]⟩] 26 (0, 0)) := heap_setCell_same _ q 1 _ _ _ g0
      have g2 : (World.setCell (World.setCell (World.setCell w7 ⟨q, 0, none⟩ (.int .i64 0)) ⟨q, 1, none⟩ (.slice none 0 0)) ⟨q, 2, none⟩ (.slice none 0 0)).heap[q]? = some (.cells #[.int .i64 0, .slice none 0 0, .slice none 0 0, .string ⟨#[]⟩, .slice none 0 0, .string ⟨#[]⟩, .string ⟨#[]⟩, .string ⟨#[]⟩, .int .i64 0, .string ⟨#[]⟩] 26 (0, 0)) := heap_setCell_same _ q 2 _ _ _ g1
      have g3 : (World.setCell (World.setCell (World.setCell (World.setCell w7 ⟨q, 0, none⟩ (.int .i64 0)) ⟨q, 1, none⟩ (.slice none 0 0)) ⟨q, 2, none⟩ (.slice none 0 0)) ⟨q, 3, none⟩ (.string ⟨#[]⟩)).heap[q]? = some (.cells #[.int .i64 0, .slice none 0 0, .slice none 0 0, .string ⟨#[]⟩, .slice none 0 0, .string ⟨#[]⟩, .string ⟨#[]⟩, .string ⟨#[]⟩, .int .i64 0, .string ⟨#[]⟩] 26 (0, 0)) := heap_setCell_same _ q 3 _ _ _ g2
      have g4 : (World.setCell (World.setCell (World.setCell (World.setCell (World.setCell w7 ⟨q, 0, none⟩ (.int .i64 0)) ⟨q, 1, none⟩ (.slice none 0 0)) ⟨q, 2, none⟩ (.slice none 0 0)) ⟨q, 3, none⟩ (.string ⟨#[]⟩)) ⟨q, 4, none⟩ (.slice none 0 0)).heap[q]? = some (.cells #[.int .i64 0, .slice none 0 0, .slice none 0 0, .string ⟨#[]⟩, .slice none 0 0, .string ⟨#[]⟩, .string ⟨#[]⟩, .string ⟨#[]⟩, .int .i64 0, .string ⟨#[]⟩] 26 (0, 0)) := heap_setCell_same _ q 4 _ _ _ g3
      have g5 : (World.setCell (World.setCell (World.setCell (World.setCell (World.setCell (World.setCell w7 ⟨q, 0, none⟩ (.int .i64 0)) ⟨q, 1, none⟩ (.slice none 0 0)) ⟨q, 2, none⟩ (.slice none 0 0)) ⟨q, 3, none⟩ (.string ⟨#[]⟩)) ⟨q, 4, none⟩ (.slice none 0 0)) ⟨q, 5, none⟩ (.string ⟨#[]⟩)).heap[q]? = some (.cells #[.int .i64 0, .slice none 0 0, .slice none 0 0, .string ⟨#[]⟩, .slice none 0 0, .string ⟨#[]⟩, .string ⟨#[]⟩, .string ⟨#[]⟩, .int .i64 0, .string ⟨#[]⟩] 26 (0, 0)) := heap_setCell_same _ q 5 _ _ _ g4
      have g6 : (World.setCell (World.setCell (World.setCell (World.setCell (World.setCell (World.setCell (World.setCell w7 ⟨q, 0, none⟩ (.int .i64 0)) ⟨q, 1, none⟩ (.slice none 0 0)) ⟨q, 2, none⟩ (.slice none 0 0)) ⟨q, 3, none⟩ (.string ⟨#[]⟩)) ⟨q, 4, none⟩ (.slice none 0 0)) ⟨q, 5, none⟩ (.string ⟨#[]⟩)) ⟨q, 6, none⟩ (.string ⟨#[]⟩)).heap[q]? = some (.cells #[.int .i64 0, .slice none 0 0, .slice none 0 0, .string ⟨#[]⟩, .slice none 0 0, .string ⟨#[]⟩, .string ⟨#[]⟩, .string ⟨#[]⟩, .int .i64 0, .string ⟨#[]⟩] 26 (0, 0)) := heap_setCell_same _ q 6 _ _ _ g5
      have g7 : (World.setCell (World.setCell (World.setCell (World.setCell (World.setCell (World.setCell (World.setCell (World.setCell w7 ⟨q, 0, none⟩ (.int .i64 0)) ⟨q, 1, none⟩ (.slice none 0 0)) ⟨q, 2, none⟩ (.slice none 0 0)) ⟨q, 3, none⟩ (.string ⟨#[]⟩)) ⟨q, 4, none⟩ (.slice none 0 0)) ⟨q, 5, none⟩ (.string ⟨#[]⟩)) ⟨q, 6, none⟩ (.string ⟨#[]⟩)) ⟨q, 7, none⟩ (.string ⟨#[]⟩)).heap[q]? = some (.cells #[.int .i64 0, .slice none 0 0, .slice none 0 0, .string ⟨#[]⟩, .slice none 0 0, .string ⟨#[]⟩, .string ⟨#[]⟩, .string ⟨#[]⟩, .int .i64 0, .string ⟨#[]⟩] 26 (0, 0)) := heap_setCell_same _ q 7 _ _ _ g6
      have g8 : (World.setCell (World.setCell (World.setCell (World.setCell (World.setCell (World.setCell (World.setCell (World.setCell (World.setCell w7 ⟨q, 0, none⟩ (.int .i64 0)) ⟨q, 1, none⟩ (.slice none 0 0)) ⟨q, 2, none⟩ (.slice none 0 0)) ⟨q, 3, none⟩ (.string ⟨#[]⟩)) ⟨q, 4, none⟩ (.slice none 0 0)) ⟨q, 5, none⟩ (.string ⟨#[]⟩)) ⟨q, 6, none⟩ (.string ⟨#[]⟩)) ⟨q, 7, none⟩ (.string ⟨#[]⟩)) ⟨q, 8, none⟩ (.int .i64 0)).heap[q]? = some (.cells #[.int .i64 0, .slice none 0 0, .slice none 0 0, .string ⟨#[]⟩, .slice none 0 0, .string ⟨#[]⟩, .string ⟨#[]⟩, .string ⟨#[]⟩, .int .i64 0, .string ⟨#[]⟩] 26 (0, 0)) := heap_setCell_same _ q 8 _ _ _ g7
      have g9 : (World.setCell (World.setCell (World.setCell (World.setCell (World.setCell (World.setCell (World.setCell (World.setCell (World.setCell (World.setCell w7 ⟨q, 0, none⟩ (.int .i64 0)) ⟨q, 1, none⟩ (.slice none 0 0)) ⟨q, 2, none⟩ (.slice none 0 0)) ⟨q, 3, none⟩ (.string ⟨#[]⟩)) ⟨q, 4, none⟩ (.slice none 0 0)) ⟨q, 5, none⟩ (.string ⟨#[]⟩)) ⟨q, 6, none⟩ (.string ⟨#[]⟩)) ⟨q, 7, none⟩ (.string ⟨#[]⟩)) ⟨q, 8, none⟩ (.int .i64 0)) ⟨q, 9, none⟩ (.string ⟨#[]⟩)).heap[q]? = some (.cells #[.int .i64 0, .slice none 0 0, .slice none 0 0, .string ⟨#[]⟩, .slice none 0 0, .string ⟨#[]⟩, .string ⟨#[]⟩, .string ⟨#[]⟩, .int .i64 0, .string ⟨#[]⟩] 26 (0, 0)) := heap_setCell_same _ q 9 _ _ _ g8
      have gt : Turn (fun k => k = q) w7 (World.setCell (World.setCell (World.setCell (World.setCell (World.setCell (World.setCell (World.setCell (World.setCell (World.setCell (World.setCell w7 ⟨q, 0, none⟩ (.int .i64 0)) ⟨q, 1, none⟩ (.slice none 0 0)) ⟨q, 2, none⟩ (.slice none 0 0)) ⟨q, 3, none⟩ (.string ⟨#[]⟩)) ⟨q, 4, none⟩ (.slice none 0 0)) ⟨q, 5, none⟩ (.string ⟨#[]⟩)) ⟨q, 6, none⟩ (.string ⟨#[]⟩)) ⟨q, 7, none⟩ (.string ⟨#[]⟩)) ⟨q, 8, none⟩ (.int .i64 0)) ⟨q, 9, none⟩ (.string ⟨#[]⟩)) := (((((((((((turn_rw q 0 w7 _)).trans (turn_rw q 1 _ _)).trans (turn_rw q 2 _ _)).trans (turn_rw q 3 _ _)).trans (turn_rw q 4 _ _)).trans (turn_rw q 5 _ _)).trans (turn_rw q 6 _ _)).trans (turn_rw q 7 _ _)).trans (turn_rw q 8 _ _)).trans (turn_rw q 9 _ _))
      have hld := run_loadVar_row (P := Try.prog) _ q 26 26 #[.int .i64 0, .slice none 0 0, .slice none 0 0, .string ⟨#[]⟩, .slice none 0 0, .string ⟨#[]⟩, .string ⟨#[]⟩, .string ⟨#[]⟩, .int .i64 0, .string ⟨#[]⟩] (0, 0) _ g9 Try.underlying26 rfl (by kernel_rfl)
      have BQz := ((BQ.out.trans (B7.out.mono (Nat.le_of_lt (Array.getElem?_eq_some_iff.1 Q5.out).1))).trans (gt.below (Nat.le_of_lt (Array.getElem?_eq_some_iff.1 qr).1) (fun k e => Nat.le_of_eq e.symm)))
      refine bodyPost_ret (v := .tuple #[.agg #[.int .i64 0, .slice none 0 0, .slice none 0 0, .string ⟨#[]⟩, .slice none 0 0, .string ⟨#[]⟩, .string ⟨#[]⟩, .string ⟨#[]⟩, .int .i64 0, .string ⟨#[]⟩], .int .i64 2]) ?_ rfl ?_
      · rw [results_cell_tmp rfl]
        simp [asAddr, Result.andThen, hld]
      · refine ⟨by rw [← HQW.out]; exact BQz, ?_⟩
        rw [HD.out]
        rfl
    | true =>
      have hd := dec_yes (b := b) (by rw [← HT.out]; exact HEQ.out) (by rw [← HT.out, ← HO.out]; exact hok)
      rw [← HT.out, ← HO.out] at hd
      have HD := Lib.hid hd
      have herr : errO o = 0 := by unfold errO; rw [hok]; rfl
      rw [herr] at HCK
      clear hd hok herr
      refine HEND.out.mono ?_
      rintro e w6 ⟨rfl, rfl⟩
      go_wp2_with (go_at_call 18; refine (HCK.out _ B35.out).mono ?_; rintro e w7 ⟨rfl, b7⟩; have B7 := Lib.hid b7; have qr := below_turn b7 Q5.out; obtain ⟨u0, u1, u2, u3, u4, u5, u6, u7, u8, u9⟩ := obj_cells qr; have f0 := obj_fz qr; obtain ⟨s0, s1, s2, s3, s4, s5, s6, s7, s8, s9⟩ := obj_cells (below_turn b7 S5.out); clear b7)
      have g0 : (World.setCell w7 ⟨q, 0, none⟩ (.int .i64 K)).heap[q]? = some (.cells #[.int .i64 K, .slice none 0 0, .slice none 0 0, .string ⟨#[]⟩, .slice none 0 0, .string ⟨#[]⟩, .string ⟨#[]⟩, .string ⟨#[]⟩, .int .i64 0, .string ⟨#[]⟩] 26 (0, 0)) := heap_setCell_same _ q 0 _ _ _ qr
      have g1 : (World.setCell (World.setCell w7 ⟨q, 0, none⟩ (.int .i64 K)) ⟨q, 1, none⟩ (.slice a1 n1 c1)).heap[q]? = some (.cells #[.int .i64 K, .slice a1 n1 c1, .slice none 0 0, .string ⟨#[]⟩, .slice none 0 0, .string ⟨#[]⟩, .string ⟨#[]⟩, .string ⟨#[]⟩, .int .i64 0, .string ⟨#[]⟩] 26 (0, 0)) := heap_setCell_same _ q 1 _ _ _ g0
      have g2 : (World.setCell (World.setCell (World.setCell w7 ⟨q, 0, none⟩ (.int .i64 K)) ⟨q, 1, none⟩ (.slice a1 n1 c1)) ⟨q, 2, none⟩ (.slice a2 n2 c2)).heap[q]? = some (.cells #[.int .i64 K, .slice a1 n1 c1, .slice a2 n2 c2, .string ⟨#[]⟩, .slice none 0 0, .string ⟨#[]⟩, .string ⟨#[]⟩, .string ⟨#[]⟩, .int .i64 0, .string ⟨#[]⟩] 26 (0, 0)) := heap_setCell_same _ q 2 _ _ _ g1
      have g3 : (World.setCell (World.setCell (World.setCell (World.setCell w7 ⟨q, 0, none⟩ (.int .i64 K)) ⟨q, 1, none⟩ (.slice a1 n1 c1)) ⟨q, 2, none⟩ (.slice a2 n2 c2)) ⟨q, 3, none⟩ (.string (SL o.tree))).heap[q]? = some (.cells #[.int .i64 K, .slice a1 n1 c1, .slice a2 n2 c2, .string (SL o.tree), .slice none 0 0, .string ⟨#[]⟩, .string ⟨#[]⟩, .string ⟨#[]⟩, .int .i64 0, .string ⟨#[]⟩] 26 (0, 0)) := heap_setCell_same _ q 3 _ _ _ g2
      have g4 : (World.setCell (World.setCell (World.setCell (World.setCell (World.setCell w7 ⟨q, 0, none⟩ (.int .i64 K)) ⟨q, 1, none⟩ (.slice a1 n1 c1)) ⟨q, 2, none⟩ (.slice a2 n2 c2)) ⟨q, 3, none⟩ (.string (SL o.tree))) ⟨q, 4, none⟩ (.slice a3 n3 c3)).heap[q]? = some (.cells #[.int .i64 K, .slice a1 n1 c1, .slice a2 n2 c2, .string (SL o.tree), .slice a3 n3 c3, .string ⟨#[]⟩, .string ⟨#[]⟩, .string ⟨#[]⟩, .int .i64 0, .string ⟨#[]⟩] 26 (0, 0)) := heap_setCell_same _ q 4 _ _ _ g3
      have g5 : (World.setCell (World.setCell (World.setCell (World.setCell (World.setCell (World.setCell w7 ⟨q, 0, none⟩ (.int .i64 K)) ⟨q, 1, none⟩ (.slice a1 n1 c1)) ⟨q, 2, none⟩ (.slice a2 n2 c2)) ⟨q, 3, none⟩ (.string (SL o.tree))) ⟨q, 4, none⟩ (.slice a3 n3 c3)) ⟨q, 5, none⟩ (.string (SL o.target))).heap[q]? = some (.cells #[.int .i64 K, .slice a1 n1 c1, .slice a2 n2 c2, .string (SL o.tree), .slice a3 n3 c3, .string (SL o.target), .string ⟨#[]⟩, .string ⟨#[]⟩, .int .i64 0, .string ⟨#[]⟩] 26 (0, 0)) := heap_setCell_same _ q 5 _ _ _ g4
      have g6 : (World.setCell (World.setCell (World.setCell (World.setCell (World.setCell (World.setCell (World.setCell w7 ⟨q, 0, none⟩ (.int .i64 K)) ⟨q, 1, none⟩ (.slice a1 n1 c1)) ⟨q, 2, none⟩ (.slice a2 n2 c2)) ⟨q, 3, none⟩ (.string (SL o.tree))) ⟨q, 4, none⟩ (.slice a3 n3 c3)) ⟨q, 5, none⟩ (.string (SL o.target))) ⟨q, 6, none⟩ (.string (SL o.name))).heap[q]? = some (.cells #[.int .i64 K, .slice a1 n1 c1, .slice a2 n2 c2, .string (SL o.tree), .slice a3 n3 c3, .string (SL o.target), .string (SL o.name), .string ⟨#[]⟩, .int .i64 0, .string ⟨#[]⟩] 26 (0, 0)) := heap_setCell_same _ q 6 _ _ _ g5
      have g7 : (World.setCell (World.setCell (World.setCell (World.setCell (World.setCell (World.setCell (World.setCell (World.setCell w7 ⟨q, 0, none⟩ (.int .i64 K)) ⟨q, 1, none⟩ (.slice a1 n1 c1)) ⟨q, 2, none⟩ (.slice a2 n2 c2)) ⟨q, 3, none⟩ (.string (SL o.tree))) ⟨q, 4, none⟩ (.slice a3 n3 c3)) ⟨q, 5, none⟩ (.string (SL o.target))) ⟨q, 6, none⟩ (.string (SL o.name))) ⟨q, 7, none⟩ (.string (SL o.who))).heap[q]? = some (.cells #[.int .i64 K, .slice a1 n1 c1, .slice a2 n2 c2, .string (SL o.tree), .slice a3 n3 c3, .string (SL o.target), .string (SL o.name), .string (SL o.who), .int .i64 0, .string ⟨#[]⟩] 26 (0, 0)) := heap_setCell_same _ q 7 _ _ _ g6
      have g8 : (World.setCell (World.setCell (World.setCell (World.setCell (World.setCell (World.setCell (World.setCell (World.setCell (World.setCell w7 ⟨q, 0, none⟩ (.int .i64 K)) ⟨q, 1, none⟩ (.slice a1 n1 c1)) ⟨q, 2, none⟩ (.slice a2 n2 c2)) ⟨q, 3, none⟩ (.string (SL o.tree))) ⟨q, 4, none⟩ (.slice a3 n3 c3)) ⟨q, 5, none⟩ (.string (SL o.target))) ⟨q, 6, none⟩ (.string (SL o.name))) ⟨q, 7, none⟩ (.string (SL o.who))) ⟨q, 8, none⟩ (.int .i64 z)).heap[q]? = some (.cells #[.int .i64 K, .slice a1 n1 c1, .slice a2 n2 c2, .string (SL o.tree), .slice a3 n3 c3, .string (SL o.target), .string (SL o.name), .string (SL o.who), .int .i64 z, .string ⟨#[]⟩] 26 (0, 0)) := heap_setCell_same _ q 8 _ _ _ g7
      have g9 : (World.setCell (World.setCell (World.setCell (World.setCell (World.setCell (World.setCell (World.setCell (World.setCell (World.setCell (World.setCell w7 ⟨q, 0, none⟩ (.int .i64 K)) ⟨q, 1, none⟩ (.slice a1 n1 c1)) ⟨q, 2, none⟩ (.slice a2 n2 c2)) ⟨q, 3, none⟩ (.string (SL o.tree))) ⟨q, 4, none⟩ (.slice a3 n3 c3)) ⟨q, 5, none⟩ (.string (SL o.target))) ⟨q, 6, none⟩ (.string (SL o.name))) ⟨q, 7, none⟩ (.string (SL o.who))) ⟨q, 8, none⟩ (.int .i64 z)) ⟨q, 9, none⟩ (.string (SL o.text))).heap[q]? = some (.cells #[.int .i64 K, .slice a1 n1 c1, .slice a2 n2 c2, .string (SL o.tree), .slice a3 n3 c3, .string (SL o.target), .string (SL o.name), .string (SL o.who), .int .i64 z, .string (SL o.text)] 26 (0, 0)) := heap_setCell_same _ q 9 _ _ _ g8
      have gt : Turn (fun k => k = q) w7 (World.setCell (World.setCell (World.setCell (World.setCell (World.setCell (World.setCell (World.setCell (World.setCell (World.setCell (World.setCell w7 ⟨q, 0, none⟩ (.int .i64 K)) ⟨q, 1, none⟩ (.slice a1 n1 c1)) ⟨q, 2, none⟩ (.slice a2 n2 c2)) ⟨q, 3, none⟩ (.string (SL o.tree))) ⟨q, 4, none⟩ (.slice a3 n3 c3)) ⟨q, 5, none⟩ (.string (SL o.target))) ⟨q, 6, none⟩ (.string (SL o.name))) ⟨q, 7, none⟩ (.string (SL o.who))) ⟨q, 8, none⟩ (.int .i64 z)) ⟨q, 9, none⟩ (.string (SL o.text))) := (((((((((((turn_rw q 0 w7 _)).trans (turn_rw q 1 _ _)).trans (turn_rw q 2 _ _)).trans (turn_rw q 3 _ _)).trans (turn_rw q 4 _ _)).trans (turn_rw q 5 _ _)).trans (turn_rw q 6 _ _)).trans (turn_rw q 7 _ _)).trans (turn_rw q 8 _ _)).trans (turn_rw q 9 _ _))
      have hld := run_loadVar_row (P := Try.prog) _ q 26 26 #[.int .i64 K, .slice a1 n1 c1, .slice a2 n2 c2, .string (SL o.tree), .slice a3 n3 c3, .string (SL o.target), .string (SL o.name), .string (SL o.who), .int .i64 z, .string (SL o.text)] (0, 0) _ g9 Try.underlying26 rfl (by kernel_rfl)
      have BQz := ((BQ.out.trans (B7.out.mono (Nat.le_of_lt (Array.getElem?_eq_some_iff.1 Q5.out).1))).trans (gt.below (Nat.le_of_lt (Array.getElem?_eq_some_iff.1 qr).1) (fun k e => Nat.le_of_eq e.symm)))
      refine bodyPost_ret (v := .tuple #[.agg #[.int .i64 K, .slice a1 n1 c1, .slice a2 n2 c2, .string (SL o.tree), .slice a3 n3 c3, .string (SL o.target), .string (SL o.name), .string (SL o.who), .int .i64 z, .string (SL o.text)], .int .i64 0]) ?_ rfl ?_
      · rw [results_cell_tmp rfl]
        simp [asAddr, Result.andThen, hld]
      · refine ⟨by rw [← HQW.out]; exact BQz, ?_⟩
        rw [HD.out]
        exact ⟨_, _, _, by rw [HOV.out], (I3.out.turn ((Turn.of_below (fun k => k = q) B35.out).trans ((Turn.of_below _ B7.out).trans gt)) (fun k hk e => by have h1 := HQ.out; have h2 : x < k := hk; have h3 : k = q := e; omega)).mono (fun k _ hk => by have h1 := HQ.out; have h2 : x < k := hk; have h3 := HQW.out; omega)⟩
end Go.Proofs.Ytckbeeadkiiccaa
