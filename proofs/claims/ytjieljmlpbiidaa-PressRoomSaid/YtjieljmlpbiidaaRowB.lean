/- Package row's reading: Num. -/
import Derived.Test.YtjieljmlpbiidaaRowA
import Derived.Test.YtjieljmlpbiidaaCodeTakeNum
import Derived.Deep.RegionHeld3
namespace Go.Proofs.Ytjieljmlpbiidaa
open Go.RowKit
set_option maxRecDepth 100000 in
set_option maxHeartbeats 4000000 in
theorem rowNum_wide (y p : Nat) (s : RS) (m : Nat) (w : World) (h : RwAt y w p s) (hl : s.1.length ≤ 281474976710656) :
    Calls Try.prog 25 #[rwp p, .int .i64 (m : Int)] w (RwTo y w p (.int .i64 ((wNum m s).1 : Int)) (wNum m s).2) := by
  have h' := h
  obtain ⟨ao, cap, B, off, hrow, hs, hby, hyp⟩ := h
  have hne : 0 < s.1.length → B ≠ p := fun hp => Nat.ne_of_lt (Nat.lt_of_lt_of_le (hby hp) hyp)
  obtain ⟨b, bad⟩ := s
  simp only at hrow hs hne hby hl
  obtain ⟨a1, hs1, r1⟩ := hs.slice_h (min b.length 9) (Nat.min_le_left _ _)
  have e1 : b.take (min b.length 9) = b.take 9 := by rw [Nat.min_comm, ← List.take_take, List.take_length]
  have l1 : (b.take 9).length = min b.length 9 := by rw [List.length_take]; omega
  rw [e1] at r1
  have hmin := row_nine_min b.length
  have hbw : Below w.heap.size w w.drew := (Below.refl _ _).drew
  obtain ⟨c0, c1, fr⟩ := rw_cells hrow
  have d0 : w.drew.cell? ⟨p, 0, none⟩ = some (.slice ao b.length cap) := c0
  rcases parse_cases b with hp | ⟨n, rest, hn, he⟩
  · have hr : wNum m (b, bad) = (0, gone) := by unfold wNum; simp only [hp]
    rw [hr]
    have hg := fun W (hb : Below w.heap.size w W) => takeNum_no a1 cap (b.take 9) B off W (r1.below hb) (by omega) (row_nine_none b hp)
    rw [l1] at hg
    have hbr := fun W (hb : Below w.heap.size w W) => rowBreak_any y p (b, bad) W (h'.below hb)
    obtain ⟨N, hN⟩ : ∃ N, N = b.length := ⟨_, rfl⟩
    rw [← hN] at hs1 hg hmin c0 d0
    obtain ⟨k, hk⟩ : ∃ k, k = min N 9 := ⟨_, rfl⟩
    rw [← hk] at hs1 hg hmin
    have hkN : k ≤ N := by omega
    have HG := Lib.hid hg
    have HBR := Lib.hid hbr
    have BW := Lib.hid hbw
    clear hg hbr hr hp hN hk r1 e1 l1 hs hne hby hyp hrow fr h' hl hbw
    go_enter Try.func25, Try.ntmps25
    go_wp2_with fail
    go_quiet (fail)
    go_wp2_with (first | (go_at_call 36; refine (HG.out _ (below_drewN (Below.refl _ _) _)).mono ?_; rintro e w1 ⟨rfl, rfl⟩) | (go_at_call 37; refine (HBR.out _ (below_drewN (Below.refl _ _) _)).mono ?_; rintro e w2 ⟨⟨v, rfl⟩, r2, t2⟩; have R2 := Lib.hid r2; have T2 := Lib.hid t2; clear r2 t2))
    go_ret
    exact ⟨rfl, R2.out, (Turn.of_below _ (below_drewN (Below.refl _ _) _)).trans T2.out⟩
  · by_cases hm : m < n
    · have hr : wNum m (b, bad) = (0, gone) := by
        unfold wNum
        simp only [he, parse_numL n rest hn]
        rw [if_pos hm]
      rw [hr]
      have hg := fun W (hb : Below w.heap.size w W) => takeNum_yes a1 cap (b.take 9) B off W (r1.below hb) (by omega) n (rest.take (9 - (numL n).length)) hn (by rw [he]; exact row_nine_some n rest)
      have kp := numL_pos n
      have k9 := numL_le n
      have hpl : b.length = (numL n).length + rest.length := by rw [he, List.length_append]
      have hdr : rest = b.drop (numL n).length := by rw [he, List.drop_left]
      have l2 : (rest.take (9 - (numL n).length)).length = min b.length 9 - (numL n).length := by rw [List.length_take]; omega
      rw [l1, l2] at hg
      have hg2 : ∀ W, Below w.heap.size w W → Calls Try.prog 36 #[.slice a1 (min b.length 9) cap] W fun e w' => (∃ ao' cap', e = .returned (.tuple #[.int .i64 (n : Int), .slice ao' (min b.length 9 - (numL n).length) cap', .int .i64 0])) ∧ Below W.heap.size W w' := fun W hb =>
        (hg W hb).mono fun e w' ⟨ao', cap', B', h1, _, h2⟩ => ⟨⟨ao', cap', h1⟩, h2⟩
      have hbr := fun W (hb : Below w.heap.size w W) => rowBreak_any y p (b, bad) W (h'.below hb)
      obtain ⟨k, hk⟩ : ∃ k, k = (numL n).length := ⟨_, rfl⟩
      obtain ⟨N, hN⟩ : ∃ N, N = b.length := ⟨_, rfl⟩
      rw [← hk, ← hN] at hg2
      rw [← hN] at hs1 hmin c0 d0
      obtain ⟨q, hq⟩ : ∃ q, q = min N 9 := ⟨_, rfl⟩
      rw [← hq] at hs1 hg2 hmin
      have hkN : q ≤ N := by omega
      obtain ⟨j, hj⟩ : ∃ j, j = q - k := ⟨_, rfl⟩
      rw [← hj] at hg2
      have HG := Lib.hid hg2
      have HBR := Lib.hid hbr
      have i0 : (n : Int) > (m : Int) := by omega
      clear hg hg2 hbr hr hm he hN hk hq hj hdr hpl l2 r1 e1 l1 hs hne hby hyp hrow fr h' hl hbw kp k9
      go_enter Try.func25, Try.ntmps25
      go_wp2_with fail
      go_quiet (fail)
      go_wp2_with (first | (go_at_call 36; refine (HG.out _ (below_drewN (Below.refl _ _) _)).mono ?_; rintro e w1 ⟨⟨a2, c2, rfl⟩, b1⟩; have B1 := Lib.hid ((below_drewN (Below.refl w.heap.size w) nq).trans b1); clear b1) | (go_at_call 37; refine (HBR.out _ B1.out).mono ?_; rintro e w2 ⟨⟨v, rfl⟩, r2, t2⟩; have R2 := Lib.hid r2; have T2 := Lib.hid t2; clear r2 t2))
      go_ret
      exact ⟨rfl, R2.out, (Turn.of_below _ B1.out).trans T2.out⟩
    · have hr : wNum m (b, bad) = (n, (rest, bad)) := by
        have := wNum_app (m := m) hn (by omega) rest bad
        rw [he]
        exact this
      rw [hr]
      have hg := fun W (hb : Below w.heap.size w W) => takeNum_yes a1 cap (b.take 9) B off W (r1.below hb) (by omega) n (rest.take (9 - (numL n).length)) hn (by rw [he]; exact row_nine_some n rest)
      have kp := numL_pos n
      have k9 := numL_le n
      have hpl : b.length = (numL n).length + rest.length := by rw [he, List.length_append]
      have hdr : rest = b.drop (numL n).length := by rw [he, List.drop_left]
      have l2 : (rest.take (9 - (numL n).length)).length = min b.length 9 - (numL n).length := by rw [List.length_take]; omega
      rw [l1, l2] at hg
      have hg2 : ∀ W, Below w.heap.size w W → Calls Try.prog 36 #[.slice a1 (min b.length 9) cap] W fun e w' => (∃ ao' cap', e = .returned (.tuple #[.int .i64 (n : Int), .slice ao' (min b.length 9 - (numL n).length) cap', .int .i64 0])) ∧ Below W.heap.size W w' := fun W hb =>
        (hg W hb).mono fun e w' ⟨ao', cap', B', h1, _, h2⟩ => ⟨⟨ao', cap', h1⟩, h2⟩
      obtain ⟨a3, hs3, r3⟩ := hs.slice_l (numL n).length (by omega)
      rw [← hdr] at r3
      have hrl : b.length - (numL n).length = rest.length := by omega
      rw [hrl] at hs3
      have hfin : ∀ w1, Below w.heap.size w w1 → Hid (RwTo y w p (.int .i64 (n : Int)) (rest, bad) (.returned (.int .i64 (n : Int))) (w1.setCell ⟨p, 0, none⟩ (.slice a3 rest.length (cap - (numL n).length))) ∧ w1.frozen? ⟨p, 0, none⟩ = false ∧ w1.cell? ⟨p, 0, none⟩ = some (.slice ao b.length cap)) := fun w1 hb => by
        have hrow' := below_turn hb hrow
        refine Lib.hid ⟨⟨rfl, ⟨a3, _, B, off + (numL n).length, heap_setCell_same w1 p 0 _ _ _ hrow', (r3.below hb).turn (turn_rw p 0 w1 _) (fun hp => hne (by omega)), fun hp => hby (by omega), hyp⟩, (Turn.of_below _ hb).trans (turn_rw p 0 w1 _)⟩, (rw_cells hrow').2.2 0, (rw_cells hrow').1⟩
      obtain ⟨k, hk⟩ : ∃ k, k = (numL n).length := ⟨_, rfl⟩
      obtain ⟨N, hN⟩ : ∃ N, N = b.length := ⟨_, rfl⟩
      rw [← hk, ← hN] at hg2 hfin hpl
      rw [← hN, ← hk] at hs3
      rw [← hN] at hs1 hmin c0 d0 hl
      rw [← hk] at kp k9
      obtain ⟨q, hq⟩ : ∃ q, q = min N 9 := ⟨_, rfl⟩
      rw [← hq] at hs1 hg2 hmin
      have hkN : q ≤ N := by omega
      have hkq : k ≤ q := by omega
      obtain ⟨j, hj⟩ : ∃ j, j = q - k := ⟨_, rfl⟩
      rw [← hj] at hg2
      have hmj : (q : Int) - (j : Int) = (k : Int) := by omega
      have hx : IntKind.i64.wrap ((q : Int) - (j : Int)) = (k : Int) := by rw [hmj]; exact IntWalk.i64_in _ (by omega)
      have hk0 : (0 : Int) ≤ (k : Int) := by omega
      have hkn : (k : Int) ≤ (N : Int) := by omega
      obtain ⟨R, hR⟩ : ∃ R, R = rest.length := ⟨_, rfl⟩
      rw [← hR] at hs3 hfin
      have HG := Lib.hid hg2
      have HF := Lib.hid hfin
      have i0 : ¬ (n : Int) > (m : Int) := by omega
      clear hg hg2 hfin hr hm he hN hk hq hj hdr hpl l2 r1 e1 l1 hs hne hby hyp hrow fr h' hl hbw kp k9 hrl hR
      go_enter Try.func25, Try.ntmps25
      go_wp2_with fail
      go_quiet (fail)
      go_wp2_with ((go_at_call 36; refine (HG.out _ (below_drewN (Below.refl _ _) _)).mono ?_; rintro e w1 ⟨⟨a2, c2, rfl⟩, b1⟩; have HH := HF.out w1 ((below_drewN (Below.refl w.heap.size w) nq).trans b1); have f1 := HH.out.2.1; have k1 := HH.out.2.2; clear b1))
      go_ret
      exact HH.out.1
set_option maxRecDepth 100000 in
set_option maxHeartbeats 4000000 in
theorem rowNum_neg (y p : Nat) (s : RS) (m : Int) (hm : m < 0) (w : World) (h : RwAt y w p s) (hl : s.1.length ≤ 281474976710656) :
    Calls Try.prog 25 #[rwp p, .int .i64 m] w (RwTo y w p (.int .i64 0) gone) := by
  have h' := h
  obtain ⟨ao, cap, B, off, hrow, hs, hby, hyp⟩ := h
  have hne : 0 < s.1.length → B ≠ p := fun hp => Nat.ne_of_lt (Nat.lt_of_lt_of_le (hby hp) hyp)
  obtain ⟨b, bad⟩ := s
  simp only at hrow hs hne hby hl
  obtain ⟨a1, hs1, r1⟩ := hs.slice_h (min b.length 9) (Nat.min_le_left _ _)
  have e1 : b.take (min b.length 9) = b.take 9 := by rw [Nat.min_comm, ← List.take_take, List.take_length]
  have l1 : (b.take 9).length = min b.length 9 := by rw [List.length_take]; omega
  rw [e1] at r1
  have hmin := row_nine_min b.length
  have hbw : Below w.heap.size w w.drew := (Below.refl _ _).drew
  obtain ⟨c0, c1, fr⟩ := rw_cells hrow
  have d0 : w.drew.cell? ⟨p, 0, none⟩ = some (.slice ao b.length cap) := c0
  rcases parse_cases b with hp | ⟨n, rest, hn, he⟩
  · have hg := fun W (hb : Below w.heap.size w W) => takeNum_no a1 cap (b.take 9) B off W (r1.below hb) (by omega) (row_nine_none b hp)
    rw [l1] at hg
    have hbr := fun W (hb : Below w.heap.size w W) => rowBreak_any y p (b, bad) W (h'.below hb)
    obtain ⟨N, hN⟩ : ∃ N, N = b.length := ⟨_, rfl⟩
    rw [← hN] at hs1 hg hmin c0 d0
    obtain ⟨k, hk⟩ : ∃ k, k = min N 9 := ⟨_, rfl⟩
    rw [← hk] at hs1 hg hmin
    have hkN : k ≤ N := by omega
    have HG := Lib.hid hg
    have HBR := Lib.hid hbr
    have BW := Lib.hid hbw
    clear hg hbr hp hN hk r1 e1 l1 hs hne hby hyp hrow fr h' hl hbw
    go_enter Try.func25, Try.ntmps25
    go_wp2_with fail
    go_quiet (fail)
    go_wp2_with (first | (go_at_call 36; refine (HG.out _ (below_drewN (Below.refl _ _) _)).mono ?_; rintro e w1 ⟨rfl, rfl⟩) | (go_at_call 37; refine (HBR.out _ (below_drewN (Below.refl _ _) _)).mono ?_; rintro e w2 ⟨⟨v, rfl⟩, r2, t2⟩; have R2 := Lib.hid r2; have T2 := Lib.hid t2; clear r2 t2))
    go_ret
    exact ⟨rfl, R2.out, (Turn.of_below _ (below_drewN (Below.refl _ _) _)).trans T2.out⟩
  · have hg := fun W (hb : Below w.heap.size w W) => takeNum_yes a1 cap (b.take 9) B off W (r1.below hb) (by omega) n (rest.take (9 - (numL n).length)) hn (by rw [he]; exact row_nine_some n rest)
    have kp := numL_pos n
    have k9 := numL_le n
    have hpl : b.length = (numL n).length + rest.length := by rw [he, List.length_append]
    have hdr : rest = b.drop (numL n).length := by rw [he, List.drop_left]
    have l2 : (rest.take (9 - (numL n).length)).length = min b.length 9 - (numL n).length := by rw [List.length_take]; omega
    rw [l1, l2] at hg
    have hg2 : ∀ W, Below w.heap.size w W → Calls Try.prog 36 #[.slice a1 (min b.length 9) cap] W fun e w' => (∃ ao' cap', e = .returned (.tuple #[.int .i64 (n : Int), .slice ao' (min b.length 9 - (numL n).length) cap', .int .i64 0])) ∧ Below W.heap.size W w' := fun W hb =>
      (hg W hb).mono fun e w' ⟨ao', cap', B', h1, _, h2⟩ => ⟨⟨ao', cap', h1⟩, h2⟩
    have hbr := fun W (hb : Below w.heap.size w W) => rowBreak_any y p (b, bad) W (h'.below hb)
    obtain ⟨k, hk⟩ : ∃ k, k = (numL n).length := ⟨_, rfl⟩
    obtain ⟨N, hN⟩ : ∃ N, N = b.length := ⟨_, rfl⟩
    rw [← hk, ← hN] at hg2
    rw [← hN] at hs1 hmin c0 d0
    obtain ⟨q, hq⟩ : ∃ q, q = min N 9 := ⟨_, rfl⟩
    rw [← hq] at hs1 hg2 hmin
    have hkN : q ≤ N := by omega
    obtain ⟨j, hj⟩ : ∃ j, j = q - k := ⟨_, rfl⟩
    rw [← hj] at hg2
    have HG := Lib.hid hg2
    have HBR := Lib.hid hbr
    have i0 : (n : Int) > m := by omega
    clear hg hg2 hbr he hN hk hq hj hdr hpl l2 r1 e1 l1 hs hne hby hyp hrow fr h' hl hbw kp k9
    go_enter Try.func25, Try.ntmps25
    go_wp2_with fail
    go_quiet (fail)
    go_wp2_with (first | (go_at_call 36; refine (HG.out _ (below_drewN (Below.refl _ _) _)).mono ?_; rintro e w1 ⟨⟨a2, c2, rfl⟩, b1⟩; have B1 := Lib.hid ((below_drewN (Below.refl w.heap.size w) nq).trans b1); clear b1) | (go_at_call 37; refine (HBR.out _ B1.out).mono ?_; rintro e w2 ⟨⟨v, rfl⟩, r2, t2⟩; have R2 := Lib.hid r2; have T2 := Lib.hid t2; clear r2 t2))
    go_ret
    exact ⟨rfl, R2.out, (Turn.of_below _ B1.out).trans T2.out⟩
end Go.Proofs.Ytjieljmlpbiidaa
