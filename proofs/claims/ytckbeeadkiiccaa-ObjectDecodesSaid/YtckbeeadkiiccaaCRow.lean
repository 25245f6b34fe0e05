/- Package row's reading: Of, Break, Bytes, Byte, Left, End. Package row's reading: Num, Text. -/
import Derived.Test.YtckbeeadkiiccaaCObjP
import Derived.Test.YtckbeeadkiiccaaCBaseT
import Derived.Handy
import Derived.Test.YtckbeeadkiiccaaCCode
import Derived.Deep.RegionHeld3
namespace Go.Proofs.Ytckbeeadkiiccaa
open Go.RowKit
abbrev rwp (p : Nat) : Value := .pointer (some ⟨p, 0, none⟩)
/-- A row in block p: what is still to be taken; is it broken? -/
def RwAt (y : Nat) (w : World) (p : Nat) (s : RS) : Prop := ∃ ao cap B off, w.heap[p]? = some (.cells #[.slice ao s.1.length cap, .bool s.2] 89 (0, 0)) ∧ SrcAt w ao cap s.1 B off ∧ (0 < s.1.length → B < y) ∧ y ≤ p
theorem RwAt.lt {y : Nat} {w : World} {p : Nat} {s : RS} (h : RwAt y w p s) : p < w.heap.size := by
  obtain ⟨_, _, _, _, h1, _⟩ := h
  exact (Array.getElem?_eq_some_iff.1 h1).1
theorem RwAt.below {y : Nat} {w w' : World} {p : Nat} {s : RS} (h : RwAt y w p s) (hb : Below w.heap.size w w') : RwAt y w' p s := by
  obtain ⟨ao, cap, B, off, h1, h2, h3, h4⟩ := h
  exact ⟨ao, cap, B, off, below_turn hb h1, h2.below hb, h3, h4⟩
/-- What a row's call leaves: of what is old, nothing but the row's own block has turned. -/
def RwTo (y : Nat) (w : World) (p : Nat) (v : Value) (s : RS) (e : Ending) (w' : World) : Prop := e = .returned v ∧ RwAt y w' p s ∧ Turn (fun k => k = p) w w'
/-- What Bytes leaves where there is enough: a piece. -/
def PieceTo (y : Nat) (w : World) (p n : Nat) (b : OB) (s : RS) (e : Ending) (w' : World) : Prop := ∃ ao B off, e = .returned (.slice ao n n) ∧ SrcAt w' ao n b B off ∧ (0 < n → B < y) ∧ RwAt y w' p s ∧ Turn (fun k => k = p) w w'
theorem rw_cells {w : World} {p : Nat} {v : Value} {x : Bool} (h : w.heap[p]? = some (.cells #[v, .bool x] 89 (0, 0))) :
    w.cell? ⟨p, 0, none⟩ = some v ∧ w.cell? ⟨p, 1, none⟩ = some (.bool x) ∧ (∀ j, w.frozen? ⟨p, j, none⟩ = false) :=
  ⟨cell_of_row _ _ _ _ _ _ h, cell_of_row _ _ _ _ _ _ h, fun j => frozen_of_row _ _ j _ _ h⟩
theorem turn_rw (p i : Nat) (w : World) (v : Value) : Turn (fun k => k = p) w (w.setCell ⟨p, i, none⟩ v) := Turn.setCell w _ v rfl
set_option maxRecDepth 100000 in
theorem rowOf_any (ao : Option Addr) (cap B off : Nat) (b : OB) (w : World) (h : SrcAt w ao cap b B off) :
    Calls Try.prog 38 #[.slice ao b.length cap] w fun e w' => e = .returned (rwp w.heap.size) ∧ RwAt w.heap.size w' w.heap.size (b, false) ∧ Below w.heap.size w w' := by
  have hw : Hid (RwAt w.heap.size (w.alloc (.cells #[.slice ao b.length cap, .bool false] 89)) w.heap.size (b, false) ∧ Below w.heap.size w (w.alloc (.cells #[.slice ao b.length cap, .bool false] 89))) :=
    Lib.hid ⟨⟨ao, cap, B, off, heap_alloc_new w _, h.below ((Below.refl _ _).alloc (Nat.le_refl _) _), fun p => h.old p, Nat.le_refl _⟩, (Below.refl _ _).alloc (Nat.le_refl _) _⟩
  obtain ⟨n, hn⟩ : ∃ n, n = b.length := ⟨_, rfl⟩
  rw [← hn] at hw ⊢
  clear hn h
  go_enter Try.func38, Try.ntmps38
  go_wp2
  go_ret
  exact ⟨rfl, hw.out.1, hw.out.2⟩
set_option maxRecDepth 100000 in
theorem rowBreak_any (y p : Nat) (s : RS) (w : World) (h : RwAt y w p s) :
    Calls Try.prog 79 #[rwp p] w fun e w' => (∃ v, e = .returned v) ∧ RwAt y w' p gone ∧ Turn (fun k => k = p) w w' := by
  obtain ⟨ao, cap, B, off, hrow, hs, hby, hyp⟩ := h
  have hne : 0 < s.1.length → B ≠ p := fun hp => Nat.ne_of_lt (Nat.lt_of_lt_of_le (hby hp) hyp)
  obtain ⟨b, bad⟩ := s
  simp only at hrow hs hne hby
  obtain ⟨n, hn⟩ : ∃ n, n = b.length := ⟨_, rfl⟩
  rw [← hn] at hrow
  obtain ⟨c0, c1, fr⟩ := rw_cells hrow
  have f0 := fr 0
  have f1 := fr 1
  have e1 : (w.setCell ⟨p, 0, none⟩ (.slice none 0 0)).heap[p]? = some (.cells #[.slice none 0 0, .bool bad] 89 (0, 0)) := heap_setCell_same w p 0 _ _ _ hrow
  have e2 : ((w.setCell ⟨p, 0, none⟩ (.slice none 0 0)).setCell ⟨p, 1, none⟩ (.bool true)).heap[p]? = some (.cells #[.slice none 0 0, .bool true] 89 (0, 0)) := heap_setCell_same _ p 1 _ _ _ e1
  obtain ⟨d0, d1, gr⟩ := rw_cells e1
  have g1 := gr 1
  have hfin : Hid (RwAt y ((w.setCell ⟨p, 0, none⟩ (.slice none 0 0)).setCell ⟨p, 1, none⟩ (.bool true)) p gone ∧ Turn (fun k => k = p) w ((w.setCell ⟨p, 0, none⟩ (.slice none 0 0)).setCell ⟨p, 1, none⟩ (.bool true))) :=
    Lib.hid ⟨⟨none, 0, 0, 0, e2, src_nil _, fun h => absurd h (Nat.lt_irrefl _), hyp⟩, (turn_rw p 0 w _).trans (turn_rw p 1 _ _)⟩
  clear e1 e2 hs hne hby hyp hn hrow fr gr
  go_enter Try.func79, Try.ntmps79
  go_wp2
  go_end0
  exact ⟨⟨_, rfl⟩, hfin.out.1, hfin.out.2⟩
/-- s[:n:n]. -/
theorem SrcAt.slice_hm {W : World} {ao : Option Addr} {cap : Nat} {bs : List UInt8} {B off : Nat} (h : SrcAt W ao cap bs B off) (n : Nat) (hl : n ≤ bs.length) :
    ∃ ao' : Option Addr, (∀ w : World, (Instr.slice 22 (.slice ao bs.length cap) none (some (.int .i64 (n : Int))) (some (.int .i64 (n : Int)))).run Try.prog w = .ok (.slice ao' n n) w) ∧ SrcAt W ao' n (bs.take n) B off := by
  have hle := h.le
  have htop := h.top
  have hlen : (bs.take n).length = n := by rw [List.length_take]; omega
  refine ⟨if n = 0 then ao else ao.map (·.add (0 * 1)), fun w => ?_, ?_⟩
  · rw [run_slice_hm w 22 ao _ cap (by kernel_rfl) .i64 .i64 (n : Int) (n : Int) (by omega) (by omega) (by omega), sizeOf22]
    simp only [Result.andThen_ok, sliced, Int.toNat_natCast, Nat.sub_zero]
  · refine ⟨by omega, by omega, fun hp => ?_, fun hn => ?_, fun hp => h.old (by omega), fun j hj => ?_⟩
    · rw [if_neg (by omega), h.src (by omega)]
      simp [Addr.add]
    · by_cases hc : n = 0
      · exact ⟨by omega, hc⟩
      · rw [if_neg hc] at hn
        have := h.bare (by cases ao with
          | none => rfl
          | some a => cases hn)
        omega
    · rw [hlen] at hj
      rw [h.cell j (by omega)]
      have e : (bs.take n).getD j 0 = bs.getD j 0 := by simp [List.getD, hj]
      rw [e]
set_option maxRecDepth 100000 in
set_option maxHeartbeats 1600000 in
theorem rowBytes_no (y p : Nat) (s : RS) (n : Nat) (w : World) (h : RwAt y w p s) (hn : s.1.length < n) :
    Calls Try.prog 59 #[rwp p, .int .i64 (n : Int)] w (RwTo y w p (.slice none 0 0) gone) := by
  have hbr := Lib.hid (rowBreak_any y p s w h)
  obtain ⟨ao, cap, B, off, hrow, hs, hby, hyp⟩ := h
  have hne : 0 < s.1.length → B ≠ p := fun hp => Nat.ne_of_lt (Nat.lt_of_lt_of_le (hby hp) hyp)
  obtain ⟨b, bad⟩ := s
  simp only at hrow hs hne hby hn
  obtain ⟨L, hL⟩ : ∃ n, n = b.length := ⟨_, rfl⟩
  rw [← hL] at hrow hn
  obtain ⟨c0, c1, fr⟩ := rw_cells hrow
  have i0 : ¬ (n : Int) < 0 := by omega
  have i1 : (n : Int) > (L : Int) := by omega
  clear hs hne hby hyp hL hrow fr hn
  go_enter Try.func59, Try.ntmps59
  go_wp2_with (go_at_call 79; refine hbr.out.mono ?_; rintro e w1 ⟨⟨v, rfl⟩, r1, t1⟩; have R1 := Lib.hid r1; have T1 := Lib.hid t1; clear r1 t1)
  go_ret
  exact ⟨rfl, R1.out, T1.out⟩
set_option maxRecDepth 100000 in
set_option maxHeartbeats 1600000 in
theorem rowBytes_yes (y p : Nat) (s : RS) (n : Nat) (w : World) (h : RwAt y w p s) (hn : n ≤ s.1.length) (hl : s.1.length ≤ 140737488355328) :
    Calls Try.prog 59 #[rwp p, .int .i64 (n : Int)] w (PieceTo y w p n (s.1.take n) (s.1.drop n, s.2)) := by
  obtain ⟨ao, cap, B, off, hrow, hs, hby, hyp⟩ := h
  have hne : 0 < s.1.length → B ≠ p := fun hp => Nat.ne_of_lt (Nat.lt_of_lt_of_le (hby hp) hyp)
  obtain ⟨b, bad⟩ := s
  dsimp only at hrow hs hne hby hn hl ⊢
  obtain ⟨c0, c1, fr⟩ := rw_cells hrow
  have f0 := fr 0
  have f1 := fr 1
  obtain ⟨ah, hh, sh⟩ := hs.slice_hm n hn
  obtain ⟨al, hll, sl⟩ := hs.slice_l n hn
  have htl : (b.take n).length = n := by rw [List.length_take]; omega
  have hfin : Hid (SrcAt (w.setCell ⟨p, 0, none⟩ (.slice al (b.length - n) (cap - n))) ah n (b.take n) B off ∧ (0 < n → B < y) ∧ RwAt y (w.setCell ⟨p, 0, none⟩ (.slice al (b.length - n) (cap - n))) p (b.drop n, bad) ∧ Turn (fun k => k = p) w (w.setCell ⟨p, 0, none⟩ (.slice al (b.length - n) (cap - n)))) := by
    refine Lib.hid ⟨sh.turn (turn_rw p 0 w _) (fun hp => hne (by rw [htl] at hp; omega)), fun hp => hby (by omega), ⟨al, cap - n, B, off + n, ?_, sl.turn (turn_rw p 0 w _) (fun hp => hne (by rw [List.length_drop] at hp; omega)), fun hp => hby (by rw [List.length_drop] at hp; omega), hyp⟩, turn_rw p 0 w _⟩
    rw [List.length_drop]
    exact heap_setCell_same w p 0 _ _ _ hrow
  obtain ⟨L, hL⟩ : ∃ n, n = b.length := ⟨_, rfl⟩
  rw [← hL] at hfin hh hll c0 hn hl
  have i0 : ¬ (n : Int) < 0 := by omega
  have i1 : ¬ (n : Int) > (L : Int) := by omega
  clear hs hne hby hyp hL hrow fr sh sl htl
  go_enter Try.func59, Try.ntmps59
  go_wp2
  go_ret
  exact ⟨ah, B, off, rfl, hfin.out⟩
theorem row_nine_none (p : List UInt8) (h : parse p = none) : parse (p.take 9) = none := by
  rcases parse_cases (p.take 9) with h1 | ⟨n, r, hn, he⟩
  · exact h1
  · exfalso
    have e : p = numL n ++ (r ++ p.drop 9) := by rw [← List.append_assoc, ← he, List.take_append_drop]
    rw [e, parse_numL n _ hn] at h
    cases h
theorem row_nine_some (n : Nat) (r : List UInt8) : (numL n ++ r).take 9 = numL n ++ r.take (9 - (numL n).length) := by
  have := numL_le n
  rw [List.take_append, List.take_of_length_le this]
theorem row_nine_min (n : Nat) : (if (n : Int) > 9 then (9 : Int) else (n : Int)) = ((min n 9 : Nat) : Int) := by split <;> omega
/-- What Left, End answer: nothing turns. -/
theorem rowLeft_any (y p : Nat) (s : RS) (w : World) (h : RwAt y w p s) : Calls Try.prog 60 #[rwp p] w fun e w' => e = .returned (.int .i64 (s.1.length : Int)) ∧ w' = w := by
  obtain ⟨ao, cap, B, off, hrow, _, _⟩ := h
  obtain ⟨L, hL⟩ : ∃ n, n = s.1.length := ⟨_, rfl⟩
  rw [← hL] at hrow ⊢
  obtain ⟨c0, c1, _⟩ := rw_cells hrow
  clear hL hrow
  go_enter Try.func60, Try.ntmps60
  go_wp2
  go_ret
  exact ⟨rfl, rfl⟩
theorem rowEnd_any (y p : Nat) (s : RS) (w : World) (h : RwAt y w p s) : Calls Try.prog 40 #[rwp p] w fun e w' => e = .returned (.int .i64 (if s.2 = true ∨ s.1 ≠ [] then 2 else 0)) ∧ w' = w := by
  obtain ⟨ao, cap, B, off, hrow, _, _⟩ := h
  obtain ⟨b, bad⟩ := s
  simp only at hrow ⊢
  obtain ⟨L, hL⟩ : ∃ n, n = b.length := ⟨_, rfl⟩
  rw [← hL] at hrow
  obtain ⟨c0, c1, _⟩ := rw_cells hrow
  cases bad with
  | true =>
    rw [if_pos (.inl rfl)]
    clear hL hrow
    go_enter Try.func40, Try.ntmps40
    go_wp2
    go_ret
    exact ⟨rfl, rfl⟩
  | false =>
    by_cases h0 : L = 0
    · have hb : b = [] := List.eq_nil_of_length_eq_zero (by omega)
      rw [if_neg (by rintro (k | k); exact absurd k (by decide); exact k hb)]
      subst h0
      clear hL hrow hb
      go_enter Try.func40, Try.ntmps40
      go_wp2
      go_ret
      exact ⟨rfl, rfl⟩
    · have hb : b ≠ [] := fun e => h0 (by rw [hL, e]; rfl)
      have i0 : (L : Int) > 0 := by omega
      rw [if_pos (.inr hb)]
      clear hL hrow hb h0
      go_enter Try.func40, Try.ntmps40
      go_wp2
      go_ret
      exact ⟨rfl, rfl⟩
set_option maxRecDepth 100000 in
set_option maxHeartbeats 1600000 in
theorem rowByte_any (y p : Nat) (s : RS) (w : World) (h : RwAt y w p s) (hl : s.1.length ≤ 140737488355328) :
    Calls Try.prog 57 #[rwp p] w (RwTo y w p (.int .u8 ((wByte s).1.toNat : Int)) (wByte s).2) := by
  cases hb : s.1 with
  | nil =>
    have e : wByte s = (0, gone) := by unfold wByte; rw [hb]
    rw [e]
    have hn := Lib.hid (rowBytes_no y p s 1 w h (by rw [hb]; decide))
    clear hb e h hl
    go_enter Try.func57, Try.ntmps57
    go_wp2_with (go_at_call 59; refine hn.out.mono ?_; rintro e w1 ⟨rfl, r1, t1⟩; have R1 := Lib.hid r1; have T1 := Lib.hid t1; clear r1 t1)
    go_ret
    exact ⟨rfl, R1.out, T1.out⟩
  | cons c r =>
    have e : wByte s = (c, (r, s.2)) := by unfold wByte; rw [hb]
    rw [e]
    have hn := rowBytes_yes y p s 1 w h (by rw [hb]; simp) hl
    rw [hb] at hn
    have HN := Lib.hid hn
    clear hb e h hl hn
    go_enter Try.func57, Try.ntmps57
    go_wp2_with (go_at_call 59; refine HN.out.mono ?_; rintro e w1 ⟨ao, B, off, rfl, s1, n1, r1, t1⟩; have R1 := Lib.hid r1; have T1 := Lib.hid t1; have ea := s1.src (by simp); have c0 := s1.cell 0 (by simp); simp at c0; subst ea; clear r1 t1 s1 n1)
    go_ret
    exact ⟨rfl, R1.out, T1.out⟩
end Go.Proofs.Ytckbeeadkiiccaa
namespace Go.Proofs.Ytckbeeadkiiccaa
open Go.RowKit
set_option maxRecDepth 100000 in
set_option maxHeartbeats 4000000 in
theorem rowNum_any (y p : Nat) (s : RS) (m : Nat) (w : World) (h : RwAt y w p s) (hl : s.1.length ≤ 140737488355328) :
    Calls Try.prog 80 #[rwp p, .int .i64 (m : Int)] w (RwTo y w p (.int .i64 ((wNum m s).1 : Int)) (wNum m s).2) := by
  have h' := h
  obtain ⟨ao, cap, B, off, hrow, hs, hby, hyp⟩ := h
  have hne : 0 < s.1.length → B ≠ p := fun hp => Nat.ne_of_lt (Nat.lt_of_lt_of_le (hby hp) hyp)
  obtain ⟨b, bad⟩ := s
  simp only at hrow hs hne hby hl
  obtain ⟨a1, hs1, r1⟩ := hs.slice_h (min b.length 9) (Nat.min_le_left _ _)
  have e1 : b.take (min b.length 9) = b.take 9 := by rw [Nat.min_comm, ← List.take_take, List.take_length]
  have l1 : (b.take 9).length = min b.length 9 := by rw [List.length_take]; omega
  rw [e1] at r1
  have hmin := row_nine_min b.length
  have hbw : Below w.heap.size w w.drew := (Below.refl _ _).drew
  obtain ⟨c0, c1, fr⟩ := rw_cells hrow
  have d0 : w.drew.cell? ⟨p, 0, none⟩ = some (.slice ao b.length cap) := c0
  rcases parse_cases b with hp | ⟨n, rest, hn, he⟩
  · have hr : wNum m (b, bad) = (0, gone) := by unfold wNum; simp only [hp]
    rw [hr]
    have hg := fun W (hb : Below w.heap.size w W) => takeNum_no a1 cap (b.take 9) B off W (r1.below hb) (by omega) (row_nine_none b hp)
    rw [l1] at hg
    have hbr := fun W (hb : Below w.heap.size w W) => rowBreak_any y p (b, bad) W (h'.below hb)
    obtain ⟨N, hN⟩ : ∃ N, N = b.length := ⟨_, rfl⟩
    rw [← hN] at hs1 hg hmin c0 d0
    obtain ⟨k, hk⟩ : ∃ k, k = min N 9 := ⟨_, rfl⟩
    rw [← hk] at hs1 hg hmin
    have hkN : k ≤ N := by omega
    have HG := Lib.hid hg
    have HBR := Lib.hid hbr
    have BW := Lib.hid hbw
    clear hg hbr hr hp hN hk r1 e1 l1 hs hne hby hyp hrow fr h' hl hbw
    go_enter Try.func80, Try.ntmps80
    go_wp2_with fail
    go_quiet (fail)
    go_wp2_with (first | (go_at_call 88; refine (HG.out _ (below_drewN (Below.refl _ _) _)).mono ?_; rintro e w1 ⟨rfl, rfl⟩) | (go_at_call 79; refine (HBR.out _ (below_drewN (Below.refl _ _) _)).mono ?_; rintro e w2 ⟨⟨v, rfl⟩, r2, t2⟩; have R2 := Lib.hid r2; have T2 := Lib.hid t2; clear r2 t2))
    go_ret
    exact ⟨rfl, R2.out, (Turn.of_below _ (below_drewN (Below.refl _ _) _)).trans T2.out⟩
  · by_cases hm : m < n
    · have hr : wNum m (b, bad) = (0, gone) := by
        unfold wNum
        simp only [he, parse_numL n rest hn]
        rw [if_pos hm]
      rw [hr]
      have hg := fun W (hb : Below w.heap.size w W) => takeNum_yes a1 cap (b.take 9) B off W (r1.below hb) (by omega) n (rest.take (9 - (numL n).length)) hn (by rw [he]; exact row_nine_some n rest)
      have kp := numL_pos n
      have k9 := numL_le n
      have hpl : b.length = (numL n).length + rest.length := by rw [he, List.length_append]
      have hdr : rest = b.drop (numL n).length := by rw [he, List.drop_left]
      have l2 : (rest.take (9 - (numL n).length)).length = min b.length 9 - (numL n).length := by rw [List.length_take]; omega
      rw [l1, l2] at hg
      have hg2 : ∀ W, Below w.heap.size w W → Calls Try.prog 88 #[.slice a1 (min b.length 9) cap] W fun e w' => (∃ ao' cap', e = .returned (.tuple #[.int .i64 (n : Int), .slice ao' (min b.length 9 - (numL n).length) cap', .int .i64 0])) ∧ Below W.heap.size W w' := fun W hb =>
        (hg W hb).mono fun e w' ⟨ao', cap', B', h1, _, h2⟩ => ⟨⟨ao', cap', h1⟩, h2⟩
      have hbr := fun W (hb : Below w.heap.size w W) => rowBreak_any y p (b, bad) W (h'.below hb)
      obtain ⟨k, hk⟩ : ∃ k, k = (numL n).length := ⟨_, rfl⟩
      obtain ⟨N, hN⟩ : ∃ N, N = b.length := ⟨_, rfl⟩
      rw [← hk, ← hN] at hg2
      rw [← hN] at hs1 hmin c0 d0
      obtain ⟨q, hq⟩ : ∃ q, q = min N 9 := ⟨_, rfl⟩
      rw [← hq] at hs1 hg2 hmin
      have hkN : q ≤ N := by omega
      obtain ⟨j, hj⟩ : ∃ j, j = q - k := ⟨_, rfl⟩
      rw [← hj] at hg2
      have HG := Lib.hid hg2
      have HBR := Lib.hid hbr
      have i0 : (n : Int) > (m : Int) := by omega
      clear hg hg2 hbr hr hm he hN hk hq hj hdr hpl l2 r1 e1 l1 hs hne hby hyp hrow fr h' hl hbw kp k9
      go_enter Try.func80, Try.ntmps80
      go_wp2_with fail
      go_quiet (fail)
      go_wp2_with (first | (go_at_call 88; refine (HG.out _ (below_drewN (Below.refl _ _) _)).mono ?_; rintro e w1 ⟨⟨a2, c2, rfl⟩, b1⟩; have B1 := Lib.hid ((below_drewN (Below.refl w.heap.size w) nq).trans b1); clear b1) | (go_at_call 79; refine (HBR.out _ B1.out).mono ?_; rintro e w2 ⟨⟨v, rfl⟩, r2, t2⟩; have R2 := Lib.hid r2; have T2 := Lib.hid t2; clear r2 t2))
      go_ret
      exact ⟨rfl, R2.out, (Turn.of_below _ B1.out).trans T2.out⟩
    · have hr : wNum m (b, bad) = (n, (rest, bad)) := by
        have := wNum_app (m := m) hn (by omega) rest bad
        rw [he]
        exact this
      rw [hr]
      have hg := fun W (hb : Below w.heap.size w W) => takeNum_yes a1 cap (b.take 9) B off W (r1.below hb) (by omega) n (rest.take (9 - (numL n).length)) hn (by rw [he]; exact row_nine_some n rest)
      have kp := numL_pos n
      have k9 := numL_le n
      have hpl : b.length = (numL n).length + rest.length := by rw [he, List.length_append]
      have hdr : rest = b.drop (numL n).length := by rw [he, List.drop_left]
      have l2 : (rest.take (9 - (numL n).length)).length = min b.length 9 - (numL n).length := by rw [List.length_take]; omega
      rw [l1, l2] at hg
      have hg2 : ∀ W, Below w.heap.size w W → Calls Try.prog 88 #[.slice a1 (min b.length 9) cap] W fun e w' => (∃ ao' cap', e = .returned (.tuple #[.int .i64 (n : Int), .slice ao' (min b.length 9 - (numL n).length) cap', .int .i64 0])) ∧ Below W.heap.size W w' := fun W hb =>
        (hg W hb).mono fun e w' ⟨ao', cap', B', h1, _, h2⟩ => ⟨⟨ao', cap', h1⟩, h2⟩
      obtain ⟨a3, hs3, r3⟩ := hs.slice_l (numL n).length (by omega)
      rw [← hdr] at r3
      have hrl : b.length - (numL n).length = rest.length := by omega
      rw [hrl] at hs3
      have hfin : ∀ w1, Below w.heap.size w w1 → Hid (RwTo y w p (.int .i64 (n : Int)) (rest, bad) (.returned (.int .i64 (n : Int))) (w1.setCell ⟨p, 0, none⟩ (.slice a3 rest.length (cap - (numL n).length))) ∧ w1.frozen? ⟨p, 0, none⟩ = false ∧ w1.cell? ⟨p, 0, none⟩ = some (.slice ao b.length cap)) := fun w1 hb => by
        have hrow' := below_turn hb hrow
        refine Lib.hid ⟨⟨rfl, ⟨a3, _, B, off + (numL n).length, heap_setCell_same w1 p 0 _ _ _ hrow', (r3.below hb).turn (turn_rw p 0 w1 _) (fun hp => hne (by omega)), fun hp => hby (by omega), hyp⟩, (Turn.of_below _ hb).trans (turn_rw p 0 w1 _)⟩, (rw_cells hrow').2.2 0, (rw_cells hrow').1⟩
      obtain ⟨k, hk⟩ : ∃ k, k = (numL n).length := ⟨_, rfl⟩
      obtain ⟨N, hN⟩ : ∃ N, N = b.length := ⟨_, rfl⟩
      rw [← hk, ← hN] at hg2 hfin hpl
      rw [← hN, ← hk] at hs3
      rw [← hN] at hs1 hmin c0 d0 hl
      rw [← hk] at kp k9
      obtain ⟨q, hq⟩ : ∃ q, q = min N 9 := ⟨_, rfl⟩
      rw [← hq] at hs1 hg2 hmin
      have hkN : q ≤ N := by omega
      have hkq : k ≤ q := by omega
      obtain ⟨j, hj⟩ : ∃ j, j = q - k := ⟨_, rfl⟩
      rw [← hj] at hg2
      have hmj : (q : Int) - (j : Int) = (k : Int) := by omega
      have hx : IntKind.i64.wrap ((q : Int) - (j : Int)) = (k : Int) := by rw [hmj]; exact IntWalk.i64_in _ (by omega)
      have hk0 : (0 : Int) ≤ (k : Int) := by omega
      have hkn : (k : Int) ≤ (N : Int) := by omega
      obtain ⟨R, hR⟩ : ∃ R, R = rest.length := ⟨_, rfl⟩
      rw [← hR] at hs3 hfin
      have HG := Lib.hid hg2
      have HF := Lib.hid hfin
      have i0 : ¬ (n : Int) > (m : Int) := by omega
      clear hg hg2 hfin hr hm he hN hk hq hj hdr hpl l2 r1 e1 l1 hs hne hby hyp hrow fr h' hl hbw kp k9 hrl hR
      go_enter Try.func80, Try.ntmps80
      go_wp2_with fail
      go_quiet (fail)
      go_wp2_with ((go_at_call 88; refine (HG.out _ (below_drewN (Below.refl _ _) _)).mono ?_; rintro e w1 ⟨⟨a2, c2, rfl⟩, b1⟩; have HH := HF.out w1 ((below_drewN (Below.refl w.heap.size w) nq).trans b1); have f1 := HH.out.2.1; have k1 := HH.out.2.2; clear b1))
      go_ret
      exact HH.out.1
set_option maxRecDepth 100000 in
theorem wNum_le {m : Nat} {s : RS} {L : Nat} (h : s.1.length ≤ L) : (wNum m s).2.1.length ≤ L := by
  unfold wNum
  cases parse s.1 with
  | none => exact Nat.zero_le _
  | some p =>
    simp only
    split
    · exact Nat.zero_le _
    · simp only [List.length_drop]
      omega

set_option maxRecDepth 100000 in
theorem rowPiece_any (y p : Nat) (s : RS) (n : Nat) (w : World) (h : RwAt y w p s) (hl : s.1.length ≤ 140737488355328) :
    Calls Try.prog 59 #[rwp p, .int .i64 (n : Int)] w fun e w' => ∃ v, e = .returned v ∧ (∀ W, Below w'.heap.size w' W → (convert 22 9 v).run Try.prog W = .ok (.string (SL (wBytes n s).1)) W) ∧ RwAt y w' p (wBytes n s).2 ∧ Turn (fun k => k = p) w w' := by
  unfold wBytes
  by_cases hn : s.1.length < n
  · rw [if_pos hn]
    refine (rowBytes_no y p s n w h hn).mono ?_
    rintro e w' ⟨rfl, h1, h2⟩
    exact ⟨_, rfl, fun W _ => convert_src (src_nil W), h1, h2⟩
  · rw [if_neg hn]
    refine (rowBytes_yes y p s n w h (by omega) hl).mono ?_
    rintro e w' ⟨ao, B, off, rfl, h1, _, h2, h3⟩
    have hlen : (s.1.take n).length = n := by rw [List.length_take]; omega
    refine ⟨_, rfl, fun W hb => ?_, h2, h3⟩
    have := convert_src (h1.below hb)
    rw [hlen] at this
    exact this
set_option maxRecDepth 100000 in
set_option maxHeartbeats 1600000 in
theorem rowText_any (y p : Nat) (s : RS) (m : Nat) (w : World) (h : RwAt y w p s) (hl : s.1.length ≤ 140737488355328) :
    Calls Try.prog 65 #[rwp p, .int .i64 (m : Int)] w (RwTo y w p (.string (SL (wText m s).1)) (wText m s).2) := by
  have hn := Lib.hid (rowNum_any y p s m w h hl)
  have hp := Lib.hid (fun W (hr : RwAt y W p (wNum m s).2) => rowPiece_any y p (wNum m s).2 (wNum m s).1 W hr (wNum_le hl))
  have hT : wText m s = wBytes (wNum m s).1 (wNum m s).2 := rfl
  rw [hT]
  obtain ⟨x, hx⟩ : ∃ x, x = (wNum m s).1 := ⟨_, rfl⟩
  obtain ⟨s1, hs1⟩ : ∃ x, x = (wNum m s).2 := ⟨_, rfl⟩
  rw [← hx, ← hs1] at hn hp ⊢
  clear hx hs1 hT h hl
  go_enter Try.func65, Try.ntmps65
  go_wp2_with (first
    | (go_at_call 80; refine hn.out.mono ?_; rintro e w1 ⟨rfl, r1, t1⟩; have R1 := Lib.hid r1; have T1 := Lib.hid t1; clear r1 t1)
    | (go_at_call 59; refine (hp.out _ R1.out).mono ?_; rintro e w2 ⟨v2, rfl, cv, r2, t2⟩; have R2 := Lib.hid r2; have T2 := Lib.hid t2; have hcv := cv w2 (Below.refl _ _); clear cv r2 t2))
  go_ret
  exact ⟨rfl, R2.out, T1.out.trans T2.out⟩
set_option maxRecDepth 100000 in
theorem takeId_any (y p : Nat) (s : RS) (w : World) (h : RwAt y w p s) (hl : s.1.length ≤ 140737488355328) :
    Calls Try.prog 62 #[rwp p] w (RwTo y w p (.string (SL (wBytes 32 s).1)) (wBytes 32 s).2) := by
  have hp := Lib.hid (rowPiece_any y p s 32 w h hl)
  obtain ⟨R, hR⟩ : ∃ R, R = wBytes 32 s := ⟨_, rfl⟩
  rw [← hR] at hp ⊢
  clear hR h hl
  go_enter Try.func62, Try.ntmps62
  go_wp2_with (go_at_call 59; refine hp.out.mono ?_; rintro e w2 ⟨v2, rfl, cv, r2, t2⟩; have R2 := Lib.hid r2; have T2 := Lib.hid t2; have hcv := cv w2 (Below.refl _ _); clear cv r2 t2)
  go_ret
  exact ⟨rfl, R2.out, T2.out⟩
end Go.Proofs.Ytckbeeadkiiccaa
