/- What the proofs stand on: RowB, PressToken, PressOpen, RowNum. -/
import Derived.Deep.RegionHeld3
import Derived.Test.YtomgijcbekjlaaaGreatP19
import Derived.Test.YtomgijcbekjlaaaGreatP1
import Derived.Test.YtomgijcbekjlaaaGreatP2
import Derived.Test.YtomgijcbekjlaaaGreatP0
import Derived.Test.YtomgijcbekjlaaaGreatPB0
import Derived.Test.YtomgijcbekjlaaaGreatPB1
set_option maxRecDepth 100000
set_option maxHeartbeats 40000000
namespace Go.Proofs.YtomgijcbekjlaaaGreat
section
open Go.RowKit
theorem rowNum_wide (y p : Nat) (s : RS) (m : Nat) (w : World) (h : RwAt y w p s) (hl : s.1.length <= 281474976710656) :
  Calls Tryz.prog 87 #[rwp p, .int .i64 (m : Int)] w (RwTo y w p (.int .i64 ((wNum m s).1 : Int)) (wNum m s).2) := by
 have h' := h; obtain ⟨ao, cap, B, off, hrow, hs, hby, hyp⟩ := h; have hne : 0 < s.1.length -> B ≠ p := fun hp => Nat.ne_of_lt (Nat.lt_of_lt_of_le (hby hp) hyp)
 obtain ⟨b, bad⟩ := s; simp only at hrow hs hne hby hl
 obtain ⟨a1, hs1, r1⟩ := hs.slice_h (min b.length 9) (Nat.min_le_left _ _); have e1 : b.take (min b.length 9) = b.take 9 := by rw [Nat.min_comm, <- List.take_take, List.take_length]
 have l1 : (b.take 9).length = min b.length 9 := by rw [List.length_take]; omega
 rw [e1] at r1; have hmin := row_nine_min b.length; have hbw : Below w.heap.size w w.drew := (Below.refl _ _).drew; obtain ⟨c0, c1, fr⟩ := rw_cells hrow; have d0 : w.drew.cell? ⟨p, 0, none⟩ = some (.slice ao b.length cap) := c0
 rcases parse_cases b with hp | ⟨n, rest, hn, he⟩
 ·have hr : wNum m (b, bad) = (0, gone) := by unfold wNum; simp only [hp]
  rw [hr]; have hg := fun W (hb : Below w.heap.size w W) => takeNum_no a1 cap (b.take 9) B off W (r1.below hb) (by omega) (row_nine_none b hp)
  rw [l1] at hg; have hbr := fun W (hb : Below w.heap.size w W) => rowBreak_any y p (b, bad) W (h'.below hb)
  obtain ⟨N, hN⟩ := nm_ (b.length); rw [<- hN] at hs1 hg hmin c0 d0; obtain ⟨k, hk⟩ := nm_ (min N 9); rw [<- hk] at hs1 hg hmin; have hkN : k <= N := by omega
  have HG := h_ hg; have HBR := h_ hbr; have BW := h_ hbw; clear hg hbr hr hp hN hk r1 e1 l1 hs hne hby hyp hrow fr h' hl hbw; go_enter Tryz.func87, Tryz.ntmps87; go_wp2_with fail; go_quiet (fail)
  go_wp2_with (first | (go_at_call 129; refine (HG.out _ (below_drewN (Below.refl _ _) _)).mono ?_; rintro e w1 ⟨rfl, rfl⟩) | (go_at_call 130; refine (HBR.out _ (below_drewN (Below.refl _ _) _)).mono ?_; rintro e w2 ⟨⟨v, rfl⟩, r2, t2⟩; have R2 := h_ r2; have T2 := h_ t2; clear r2 t2))
  go_ret; exact ⟨rfl, R2.out, (Turn.of_below _ (below_drewN (Below.refl _ _) _)).trans T2.out⟩
 ·by_cases hm : m < n
  ·have hr : wNum m (b, bad) = (0, gone) := by
    unfold wNum; simp only [he, parse_numL n rest hn]; rw [if_pos hm]
   rw [hr]; have hg := fun W (hb : Below w.heap.size w W) => takeNum_yes a1 cap (b.take 9) B off W (r1.below hb) (by omega) n (rest.take (9 - (numL n).length)) hn (by rw [he]; exact row_nine_some n rest)
   have kp := numL_pos n; have k9 := numL_le n; have hpl : b.length = (numL n).length + rest.length := by rw [he, List.length_append]
   have hdr : rest = b.drop (numL n).length := by rw [he, List.drop_left]
   have l2 : (rest.take (9 - (numL n).length)).length = min b.length 9 - (numL n).length := by rw [List.length_take]; omega
   rw [l1, l2] at hg; have hg2 : ∀ W, Below w.heap.size w W -> Calls Tryz.prog 129 #[.slice a1 (min b.length 9) cap] W fun e w' => (∃ ao' cap', e = .returned (.tuple #[.int .i64 (n : Int), .slice ao' (min b.length 9 - (numL n).length) cap', .int .i64 0])) /\ Below W.heap.size W w' := fun W hb =>
    (hg W hb).mono fun e w' ⟨ao', cap', B', h1, _, h2⟩ => ⟨⟨ao', cap', h1⟩, h2⟩
   have hbr := fun W (hb : Below w.heap.size w W) => rowBreak_any y p (b, bad) W (h'.below hb)
   obtain ⟨k, hk⟩ := nm_ ((numL n).length); obtain ⟨N, hN⟩ := nm_ (b.length); rw [<- hk, <- hN] at hg2; rw [<- hN] at hs1 hmin c0 d0; obtain ⟨q, hq⟩ := nm_ (min N 9); rw [<- hq] at hs1 hg2 hmin; have hkN : q <= N := by omega
   obtain ⟨j, hj⟩ := nm_ (q - k); rw [<- hj] at hg2; have HG := h_ hg2; have HBR := h_ hbr; have i0 : (n : Int) > (m : Int) := by omega
   clear hg hg2 hbr hr hm he hN hk hq hj hdr hpl l2 r1 e1 l1 hs hne hby hyp hrow fr h' hl hbw kp k9; go_enter Tryz.func87, Tryz.ntmps87; go_wp2_with fail; go_quiet (fail)
   go_wp2_with (first | (go_at_call 129; refine (HG.out _ (below_drewN (Below.refl _ _) _)).mono ?_; rintro e w1 ⟨⟨a2, c2, rfl⟩, b1⟩; have B1 := h_ ((below_drewN (Below.refl w.heap.size w) nq).trans b1); clear b1) | (go_at_call 130; refine (HBR.out _ B1.out).mono ?_; rintro e w2 ⟨⟨v, rfl⟩, r2, t2⟩; have R2 := h_ r2; have T2 := h_ t2; clear r2 t2))
   go_ret; exact ⟨rfl, R2.out, (Turn.of_below _ B1.out).trans T2.out⟩
  ·have hr : wNum m (b, bad) = (n, (rest, bad)) := by
    have := wNum_app (m := m) hn (by omega) rest bad
    rw [he]; exact this
   rw [hr]; have hg := fun W (hb : Below w.heap.size w W) => takeNum_yes a1 cap (b.take 9) B off W (r1.below hb) (by omega) n (rest.take (9 - (numL n).length)) hn (by rw [he]; exact row_nine_some n rest)
   have kp := numL_pos n; have k9 := numL_le n; have hpl : b.length = (numL n).length + rest.length := by rw [he, List.length_append]
   have hdr : rest = b.drop (numL n).length := by rw [he, List.drop_left]
   have l2 : (rest.take (9 - (numL n).length)).length = min b.length 9 - (numL n).length := by rw [List.length_take]; omega
   rw [l1, l2] at hg; have hg2 : ∀ W, Below w.heap.size w W -> Calls Tryz.prog 129 #[.slice a1 (min b.length 9) cap] W fun e w' => (∃ ao' cap', e = .returned (.tuple #[.int .i64 (n : Int), .slice ao' (min b.length 9 - (numL n).length) cap', .int .i64 0])) /\ Below W.heap.size W w' := fun W hb =>
    (hg W hb).mono fun e w' ⟨ao', cap', B', h1, _, h2⟩ => ⟨⟨ao', cap', h1⟩, h2⟩
   obtain ⟨a3, hs3, r3⟩ := hs.slice_l (numL n).length (by omega)
   rw [<- hdr] at r3; have hrl : b.length - (numL n).length = rest.length := by omega
   rw [hrl] at hs3; have hfin : ∀ w1, Below w.heap.size w w1 -> Hid (RwTo y w p (.int .i64 (n : Int)) (rest, bad) (.returned (.int .i64 (n : Int))) (w1.setCell ⟨p, 0, none⟩ (.slice a3 rest.length (cap - (numL n).length))) /\ w1.frozen? ⟨p, 0, none⟩ = false /\ w1.cell? ⟨p, 0, none⟩ = some (.slice ao b.length cap)) := fun w1 hb => by
    have hrow' := below_turn hb hrow; refine h_ ⟨⟨rfl, ⟨a3, _, B, off + (numL n).length, heap_setCell_same w1 p 0 _ _ _ hrow', (r3.below hb).turn (turn_rw p 0 w1 _) (fun hp => hne (by omega)), fun hp => hby (by omega), hyp⟩, (Turn.of_below _ hb).trans (turn_rw p 0 w1 _)⟩, (rw_cells hrow').2.2 0, (rw_cells hrow').1⟩
   obtain ⟨k, hk⟩ := nm_ ((numL n).length); obtain ⟨N, hN⟩ := nm_ (b.length); rw [<- hk, <- hN] at hg2 hfin hpl; rw [<- hN, <- hk] at hs3; rw [<- hN] at hs1 hmin c0 d0 hl; rw [<- hk] at kp k9; obtain ⟨q, hq⟩ := nm_ (min N 9); rw [<- hq] at hs1 hg2 hmin; have hkN : q <= N := by omega
   have hkq : k <= q := by omega
   obtain ⟨j, hj⟩ := nm_ (q - k); rw [<- hj] at hg2; have hmj : (q : Int) - (j : Int) = (k : Int) := by omega
   have hx : IntKind.i64.wrap ((q : Int) - (j : Int)) = (k : Int) := by rw [hmj]; exact IntWalk.i64_in _ (by omega)
   have hk0 : (0 : Int) <= (k : Int) := by omega
   have hkn : (k : Int) <= (N : Int) := by omega
   obtain ⟨R, hR⟩ := nm_ (rest.length); rw [<- hR] at hs3 hfin; have HG := h_ hg2; have HF := h_ hfin; have i0 : ¬ (n : Int) > (m : Int) := by omega
   clear hg hg2 hfin hr hm he hN hk hq hj hdr hpl l2 r1 e1 l1 hs hne hby hyp hrow fr h' hl hbw kp k9 hrl hR; go_enter Tryz.func87, Tryz.ntmps87; go_wp2_with fail; go_quiet (fail)
   go_wp2_with ((go_at_call 129; refine (HG.out _ (below_drewN (Below.refl _ _) _)).mono ?_; rintro e w1 ⟨⟨a2, c2, rfl⟩, b1⟩; have HH := HF.out w1 ((below_drewN (Below.refl w.heap.size w) nq).trans b1); have f1 := HH.out.2.1; have k1 := HH.out.2.2; clear b1))
   go_ret; exact HH.out.1
theorem rowNum_neg (y p : Nat) (s : RS) (m : Int) (hm : m < 0) (w : World) (h : RwAt y w p s) (hl : s.1.length <= 281474976710656) :
  Calls Tryz.prog 87 #[rwp p, .int .i64 m] w (RwTo y w p (.int .i64 0) gone) := by
 have h' := h; obtain ⟨ao, cap, B, off, hrow, hs, hby, hyp⟩ := h; have hne : 0 < s.1.length -> B ≠ p := fun hp => Nat.ne_of_lt (Nat.lt_of_lt_of_le (hby hp) hyp)
 obtain ⟨b, bad⟩ := s; simp only at hrow hs hne hby hl
 obtain ⟨a1, hs1, r1⟩ := hs.slice_h (min b.length 9) (Nat.min_le_left _ _); have e1 : b.take (min b.length 9) = b.take 9 := by rw [Nat.min_comm, <- List.take_take, List.take_length]
 have l1 : (b.take 9).length = min b.length 9 := by rw [List.length_take]; omega
 rw [e1] at r1; have hmin := row_nine_min b.length; have hbw : Below w.heap.size w w.drew := (Below.refl _ _).drew; obtain ⟨c0, c1, fr⟩ := rw_cells hrow; have d0 : w.drew.cell? ⟨p, 0, none⟩ = some (.slice ao b.length cap) := c0
 rcases parse_cases b with hp | ⟨n, rest, hn, he⟩
 ·have hg := fun W (hb : Below w.heap.size w W) => takeNum_no a1 cap (b.take 9) B off W (r1.below hb) (by omega) (row_nine_none b hp)
  rw [l1] at hg; have hbr := fun W (hb : Below w.heap.size w W) => rowBreak_any y p (b, bad) W (h'.below hb)
  obtain ⟨N, hN⟩ := nm_ (b.length); rw [<- hN] at hs1 hg hmin c0 d0; obtain ⟨k, hk⟩ := nm_ (min N 9); rw [<- hk] at hs1 hg hmin; have hkN : k <= N := by omega
  have HG := h_ hg; have HBR := h_ hbr; have BW := h_ hbw; clear hg hbr hp hN hk r1 e1 l1 hs hne hby hyp hrow fr h' hl hbw; go_enter Tryz.func87, Tryz.ntmps87; go_wp2_with fail; go_quiet (fail)
  go_wp2_with (first | (go_at_call 129; refine (HG.out _ (below_drewN (Below.refl _ _) _)).mono ?_; rintro e w1 ⟨rfl, rfl⟩) | (go_at_call 130; refine (HBR.out _ (below_drewN (Below.refl _ _) _)).mono ?_; rintro e w2 ⟨⟨v, rfl⟩, r2, t2⟩; have R2 := h_ r2; have T2 := h_ t2; clear r2 t2))
  go_ret; exact ⟨rfl, R2.out, (Turn.of_below _ (below_drewN (Below.refl _ _) _)).trans T2.out⟩
 ·have hg := fun W (hb : Below w.heap.size w W) => takeNum_yes a1 cap (b.take 9) B off W (r1.below hb) (by omega) n (rest.take (9 - (numL n).length)) hn (by rw [he]; exact row_nine_some n rest)
  have kp := numL_pos n; have k9 := numL_le n; have hpl : b.length = (numL n).length + rest.length := by rw [he, List.length_append]
  have hdr : rest = b.drop (numL n).length := by rw [he, List.drop_left]
  have l2 : (rest.take (9 - (numL n).length)).length = min b.length 9 - (numL n).length := by rw [List.length_take]; omega
  rw [l1, l2] at hg; have hg2 : ∀ W, Below w.heap.size w W -> Calls Tryz.prog 129 #[.slice a1 (min b.length 9) cap] W fun e w' => (∃ ao' cap', e = .returned (.tuple #[.int .i64 (n : Int), .slice ao' (min b.length 9 - (numL n).length) cap', .int .i64 0])) /\ Below W.heap.size W w' := fun W hb =>
   (hg W hb).mono fun e w' ⟨ao', cap', B', h1, _, h2⟩ => ⟨⟨ao', cap', h1⟩, h2⟩
  have hbr := fun W (hb : Below w.heap.size w W) => rowBreak_any y p (b, bad) W (h'.below hb)
  obtain ⟨k, hk⟩ := nm_ ((numL n).length); obtain ⟨N, hN⟩ := nm_ (b.length); rw [<- hk, <- hN] at hg2; rw [<- hN] at hs1 hmin c0 d0; obtain ⟨q, hq⟩ := nm_ (min N 9); rw [<- hq] at hs1 hg2 hmin; have hkN : q <= N := by omega
  obtain ⟨j, hj⟩ := nm_ (q - k); rw [<- hj] at hg2; have HG := h_ hg2; have HBR := h_ hbr; have i0 : (n : Int) > m := by omega
  clear hg hg2 hbr he hN hk hq hj hdr hpl l2 r1 e1 l1 hs hne hby hyp hrow fr h' hl hbw kp k9; go_enter Tryz.func87, Tryz.ntmps87; go_wp2_with fail; go_quiet (fail)
  go_wp2_with (first | (go_at_call 129; refine (HG.out _ (below_drewN (Below.refl _ _) _)).mono ?_; rintro e w1 ⟨⟨a2, c2, rfl⟩, b1⟩; have B1 := h_ ((below_drewN (Below.refl w.heap.size w) nq).trans b1); clear b1) | (go_at_call 130; refine (HBR.out _ B1.out).mono ?_; rintro e w2 ⟨⟨v, rfl⟩, r2, t2⟩; have R2 := h_ r2; have T2 := h_ t2; clear r2 t2))
  go_ret; exact ⟨rfl, R2.out, (Turn.of_below _ B1.out).trans T2.out⟩
end
section
open Go.RowKit
def TokenTo (y base p : Nat) (w : World) (O : List UInt8) (R : Option (List UInt8 × List UInt8)) (e : Ending) (w' : World) : Prop :=
 ∃ v, e = .returned v /\ Below y w w' /\ match R with
  | none => w'.ownsRow base 5 1 v O.length (O.map B8) /\ RwAt y w' p gone
  | some (O', q') => w'.ownsRow base 5 1 v O'.length (O'.map B8) /\ RwAt y w' p (q', false)
theorem many_min (n : Nat) : (if (n : Int) > 4096 then (4096 : Int) else (n : Int)) = ((min n 4096 : Nat) : Int) := by split <;> omega
theorem room_min (n : Nat) : (if (n : Int) > 259 then (259 : Int) else (n : Int)) = ((min n 259 : Nat) : Int) := by split <;> omega
theorem copy_zero {size n : Nat} {O q : List UInt8} (h : (wNum (min O.length 4096) (q, false)).1 = 0) : copyStep size O q n = none := by
 rcases parse_cases q with hp | ⟨d, r, hd, rfl⟩
 ·exact copyStep_bad hp
 ·rw [copyStep_num hd]
  unfold wNum at h; simp only [parse_numL d r hd] at h; split at h
  ·rename_i hm
   rw [if_pos (.inr (.inl hm))]
  ·rw [if_pos (.inl h)]
theorem copy_some {size n : Nat} {O q : List UInt8} (h : ¬ (wNum (min O.length 4096) (q, false)).1 = 0) :
  ∃ d r, wNum (min O.length 4096) (q, false) = (d, (r, false)) /\ 0 < d /\ d <= min O.length 4096 /\ r.length <= q.length /\ copyStep size O q n = if min (size - O.length) 259 < n then none else some (copyL d n O, r) := by
 rcases parse_cases q with hp | ⟨d, r, hd, rfl⟩
 ·exfalso
  apply h
  unfold wNum; simp only [hp]
 ·by_cases hm : min O.length 4096 < d
  ·exfalso
   apply h
   unfold wNum; simp only [parse_numL d r hd]; rw [if_pos hm]
  ·have hw := wNum_app (m := min O.length 4096) hd (by omega) r false
   rw [hw] at h; have h0 : ¬ d = 0 := h
   refine ⟨d, r, hw, by omega, by omega, by rw [List.length_append]; omega, ?_⟩
   rw [copyStep_num hd]; by_cases h3 : min (size - O.length) 259 < n
   ·rw [if_pos (.inr (.inr h3)), if_pos h3]
   ·rw [if_neg h3, if_neg (by rintro (k | k | k); exact h0 k; exact hm k; exact h3 k)]
theorem takeCopy_any (y base p : Nat) (v : Value) (O q : List UInt8) (n size room : Nat) (w : World) (hb : base <= w.heap.size) (hpb : p < base) (ho : w.ownsRow base 5 1 v O.length (O.map B8))
  (hr : RwAt y w p (q, false)) (hs : q.length <= 281474976710656) (hn4 : 4 <= n) (hn : n <= 4611686018427387903) (hO : O.length <= size) (hsz : size <= 140737488355328) (hroom : room = size - O.length) :
  Calls Tryz.prog 131 #[v, rwp p, .int .i64 (n : Int), .int .i64 (room : Int)] w (TokenTo y base p w O (copyStep size O q n)) := by
 obtain ⟨oa, oc, OB, rfl, so, hOB⟩ := src_of_own ho; have hyp : y <= p := by obtain ⟨_, _, _, _, _, _, _, h⟩ := hr; exact h
 have hpw := hr.lt; have hnum := rowNum_wide y p (q, false) (min O.length 4096) w hr hs; have hm1 := many_min O.length; by_cases h0 : (wNum (min O.length 4096) (q, false)).1 = 0
 ·rw [copy_zero h0]
  rw [h0] at hnum; obtain ⟨s1, hs1⟩ := nm_ ((wNum (min O.length 4096) (q, false)).2); obtain ⟨x1, hx1⟩ := nm_ (min O.length 4096); rw [<- hs1, <- hx1] at hnum; rw [<- hx1] at hm1; obtain ⟨k, hk⟩ := nm_ (O.length); rw [<- hk] at hO hm1 |-; have HN := h_ hnum; have HK := h_ hk; have HO := h_ ho; clear hnum hs1 hx1 hk ho so h0 hr hs hroom; go_enter Tryz.func131, Tryz.ntmps131; go_wp2_with fail; refine HN.out.mono ?_; rintro e w1 ⟨rfl, r1, t1⟩; have hbr := rowBreak_any y p s1 w1 r1; have HB := h_ hbr; have O1 := h_ (own_past HO.out t1 hpb); have T1 := h_ t1; clear hbr r1 t1; go_wp2_with fail; refine HB.out.mono ?_; rintro e w2 ⟨⟨vb, rfl⟩, r2, t2⟩; have T2 := h_ (T1.out.trans t2); have O2 := h_ (own_past O1.out t2 hpb); have R2 := h_ r2; clear r2 t2; go_wp2_with fail; go_ret; have h3 := O2.out; rw [<- HK.out] at h3
  exact ⟨_, rfl, T2.out.below (by omega) (fun k e => by have h4 : k = p := e; omega), by rw [<- HK.out]; exact h3, R2.out⟩
 ·obtain ⟨d, r, hw, hd0, hdm, hrq, hcs⟩ := copy_some (size := size) (n := n) h0
  rw [hcs]; rw [hw] at hnum; have hm2 := room_min room; obtain ⟨x1, hx1⟩ := nm_ (min O.length 4096); obtain ⟨x2, hx2⟩ := nm_ (min room 259); rw [<- hx1] at hm1 hnum hdm; rw [<- hx2] at hm2; rw [show min (size - O.length) 259 = x2 by rw [hx2, hroom]]
  have hx1k : x1 <= O.length := by omega
  have hx259 : x2 <= 259 := by omega
  have hxr : x2 <= room := by omega
  obtain ⟨k, hk⟩ := nm_ (O.length); have hkr : k + room <= 140737488355328 := by omega
  rw [<- hk] at hO hm1 hx1k |-; have hdz : ((d : Int) == 0) = false := by simp; omega
  have HN := h_ hnum; have HK := h_ hk; have HO := h_ ho; clear hnum hx1 hx2 hk ho so h0 hr hs hroom hcs hw hrq; by_cases hbad2 : x2 < n
  ·rw [if_pos hbad2]
   have hgb : decide (x2 < n) = true := by simp; omega
   go_enter Tryz.func131, Tryz.ntmps131; go_wp2_with fail; refine HN.out.mono ?_; rintro e w1 ⟨rfl, r1, t1⟩; have hbr := rowBreak_any y p (r, false) w1 r1; have HB := h_ hbr; have O1 := h_ (own_past HO.out t1 hpb); have T1 := h_ t1; clear hbr r1 t1; go_wp2_with fail; refine HB.out.mono ?_; rintro e w2 ⟨⟨vb, rfl⟩, r2, t2⟩; have T2 := h_ (T1.out.trans t2); have O2 := h_ (own_past O1.out t2 hpb); have R2 := h_ r2; clear r2 t2; go_wp2_with fail; go_ret; have h3 := O2.out; rw [<- HK.out] at h3; exact ⟨_, rfl, T2.out.below (by omega) (fun k e => by have h4 : k = p := e; omega), by rw [<- HK.out]; exact h3, R2.out⟩
  ·rw [if_neg hbad2]
   have hg2 : n <= x2 := by omega
   have hgb2 : decide (x2 < n) = false := by simp; omega
   obtain ⟨i0, hi, hz0, hzz, hz2⟩ := info_parts info5; clear hbad2; go_enter Tryz.func131, Tryz.ntmps131; go_wp2_with fail; refine HN.out.mono ?_; rintro e w1 ⟨rfl, r1, t1⟩; have hown1 := own_past HO.out t1 hpb; have hz1 := t1.size; have hz1' : base <= w1.heap.size := by omega
   have hb1 := t1.below (B := y) (by omega) (fun k e => by have h4 : k = p := e; omega)
   have BY := h_ hb1; clear HO HN t1 hb1; go_wp2_with fail; clear hm1 hm2 hgb2 hdz; go_loopw [0, 27] (fun x c W => ∃ (j k' : Nat) (a' : Option Addr) (oc' : Nat) (O' : List UInt8), x = .slice a' k' oc' /\ k' = O'.length /\ c = .int .i64 (j : Int) /\ j <= n /\ k' = k + j /\ copyL d (n - j) O' = copyL d n O /\ W.ownsRow base 5 1 (.slice a' k' oc') k' (O'.map B8) /\ RwAt y W p (r, false) /\ Below y w1 W /\ base <= W.heap.size) (fun _ c _ => n - (intOf c).toNat)
   case atStart => exact ⟨0, k, oa, oc, O, rfl, HK.out, rfl, Nat.zero_le _, rfl, rfl, by rw [HK.out]; exact hown1, r1, Below.refl _ _, hz1'⟩
   case round =>
    clear hown1 r1; obtain ⟨j, k', a', oc', O', rfl, hk', rfl, hyn, hky, hcl, hown, hrw, hbel, hbw⟩ := hrel; by_cases hlt : j < n
    ·have hown' := hown
     rw [hk'] at hown'; obtain ⟨ga, gc, GB, hv, sg, _⟩ := src_of_own hown'; rw [<- hk'] at hv; simp only [Value.slice.injEq, true_and] at hv; obtain ⟨rfl, rfl⟩ := hv; obtain rfl := sg.src (by omega)
     have c0 := sg.cell (k' - d) (by omega)
     rw [Nat.zero_add] at c0; have hstep : copyL d (n - (j + 1)) (O' ++ [O'.getD (k' - d) 0]) = copyL d n O := by
      rw [<- hcl, show n - j = (n - (j + 1)) + 1 by omega, copyL_step, <- hk']
     obtain ⟨z, hz⟩ := nm_ (O'.getD (k' - d) 0); rw [<- hz] at c0 hstep; have HST := h_ hstep; have HW := h_ hown; have HRW := h_ hrw; have HK' := h_ hk'; have HKY := h_ hky; have hdk : d <= k' := by omega
     have hkb : k' + 1 <= 140737488355328 := by omega
     clear hstep hown hown' hk' hky hcl sg hz hrw; go_wp2_with (at_builtin; refine wpList_append_own _ rfl _ _ 29 rfl base 5 i0 (.int .u8 0) 1 1 Tryz.underlying29 hi hz0 hzz hz2 rfl (by decide) _ k' _ rfl (HW.out.alloc _) ⟨_, 0, none⟩ 1 1 _ rfl rfl (news_one _ _) (by simp [Value.oneCell']) (by unfold maxLen; omega) (by omega) (by simp; omega) ?_; intro v3 w3 hown3 hgrow3 _; have O3 := h_ hown3; have G3 := h_ hgrow3; clear hown3 hgrow3)
     have hb3 : Below y w1 w3 := (hbel.alloc (by omega) _).grown G3.out (by simp; omega) (fun k hk => by have := (HW.out.lt k hk).1; omega)
     have hr3 : RwAt y w3 p (r, false) := (HRW.out.below ((Below.refl _ _).alloc (Nat.le_refl _) _)).past (Turn.of_grown (G := fun k => base <= k) G3.out (fun g hg => (HW.out.lt g hg).1)) (fun k hk => by have h4 : base <= k := hk; omega)
     have hs3 : base <= w3.heap.size := Nat.le_trans (by simp; omega) G3.out.size
     have h3 := O3.out; have e3 : O'.map B8 ++ [(.int .u8 (z.toNat : Int) : Value)] = (O' ++ [z]).map B8 := by rw [List.map_append]; rfl
     have hl3 : k' + 1 = (O' ++ [z]).length := by rw [List.length_append, <- HK'.out]; rfl
     rw [e3, hl3] at h3; obtain ⟨va, vc, VB, rfl, _, _⟩ := src_of_own h3; rw [<- hl3] at h3 |-; have H3 := h_ h3; have HL3 := h_ hl3; have HR3 := h_ hr3; clear h3 hl3 e3 O3 G3 hr3; go_wp2_with fail; go_roundw
     case rel => exact ⟨j + 1, k' + 1, va, vc, O' ++ [z], rfl, HL3.out, by go_num, by omega, by have := HKY.out; omega, HST.out, H3.out, HR3.out, hb3, hs3⟩
     case measure => simp [intOf]; omega
    ·obtain rfl : j = n := by omega
     rw [Nat.sub_self] at hcl; have hcl2 : O' = copyL d j O := hcl
     have HW := h_ hown; have HRW := h_ hrw; have HK' := h_ hk'; have HC := h_ hcl2; clear hown hk' hky hcl hcl2 hrw; go_wp2_with fail; go_ret; have hfin := HW.out; rw [HK'.out, HC.out] at hfin; refine ⟨.slice a' (copyL d j O).length oc', ?_, BY.out.trans hbel, hfin, HRW.out⟩; rw [HK'.out, HC.out]; rfl
theorem OutTurnedBelow {base y n : Nat} {v : Value} {xs : List Value} {w w' : World} (hb : base <= w.heap.size) (hy : y <= base) (h : w.ownsRow base 5 1 v n xs) (hg : w.grownBy w' v.ownBlock) : Below y w w' :=
 ⟨hg.os, hg.tape, hg.output, hg.size, fun k hk => hg.block k (show k < w.heap.size by omega) (fun e => by have := (h.lt k e.symm).1; omega)⟩
theorem takeToken_any (y base p : Nat) (v : Value) (O q : List UInt8) (size room : Nat) (w : World) (hb : base <= w.heap.size) (hpb : p < base) (ho : w.ownsRow base 5 1 v O.length (O.map B8))
  (hr : RwAt y w p (q, false)) (hs : q.length <= 281474976710656) (hO : O.length <= size) (hsz : size <= 140737488355328) (hroom : room = size - O.length) :
  Calls Tryz.prog 89 #[v, rwp p, .int .i64 (room : Int)] w (TokenTo y base p w O (stepT size O q)) := by
 obtain ⟨oa, oc, OB, rfl, so, hOB⟩ := src_of_own ho; have hyp : y <= p := by obtain ⟨_, _, _, _, _, _, _, h⟩ := hr; exact h
 have hpw := hr.lt; have hnum := rowNum_wide y p (q, false) 9223372036854775807 w hr hs; have hrk : O.length + room <= 140737488355328 := by omega
 rcases parse_cases q with hp | ⟨t, q1, ht, he⟩
 ·rw [stepT_bad hp]
  have hw : wNum 9223372036854775807 (q, false) = (0, gone) := by unfold wNum; simp only [hp]
  rw [hw] at hnum; obtain ⟨k, hk⟩ := nm_ (O.length); have HN := h_ hnum; have HK := h_ hk; have HO := h_ ho; have hbr := fun W (h : RwAt y W p gone) => rowBreak_any y p gone W h
  have hby := fun W (h : RwAt y W p gone) => rowBytes_no y p gone 1 W h (by decide)
  have HBR := h_ hbr; have HBY := h_ hby; rw [<- hk] at hrk |-; clear hnum hk ho so hr hs hroom hp hw hbr hby hO; by_cases h1 : room = 0
  ·subst h1
   go_enter Tryz.func89, Tryz.ntmps89; go_wp2_with fail; refine HN.out.mono ?_; rintro e w1 ⟨rfl, r1, t1⟩; have O1 := h_ (own_past HO.out t1 hpb); have T1 := h_ t1; have R1 := h_ r1; clear r1 t1; go_wp2_with fail; refine (HBR.out w1 R1.out).mono ?_; rintro e w2 ⟨⟨vb, rfl⟩, r2, t2⟩; have O2 := h_ (own_past O1.out t2 hpb); have T2 := h_ (T1.out.trans t2); have R2 := h_ r2; clear r2 t2; go_wp2_with fail; refine (HBY.out w2 R2.out).mono ?_; rintro e w3 ⟨rfl, r3, t3⟩; have O3 := own_past O2.out t3 hpb; rw [<- HK.out] at O3; have OW := h_ O3; have T3 := h_ (T2.out.trans t3); have R3 := h_ r3; clear r3 t3 O3; go_wp2_with (at_builtin; refine wpList_append_src rfl _ _ rfl base (.slice oa k oc) k _ rfl OW.out none 0 0 rfl [] rfl (fun _ => ⟨rfl, rfl⟩) (fun ad had => by cases had) (fun u hu => by cases hu) (by omega) (by have := T3.out.size; omega) ?_; intro v4 w4 O4 G4 V4; clear V4)
   go_ret; have hz3 := T3.out.size; have h4 := O4.out; rw [List.append_nil, Nat.add_zero] at h4; exact ⟨v4, rfl, (T3.out.below (by omega) (fun k e => by have h4 : k = p := e; omega)).trans (OutTurnedBelow (base := base) (by omega) (by omega) OW.out G4), by rw [<- HK.out]; exact h4, R3.out.past (Turn.of_grown (G := fun k => base <= k) G4 (fun g hg => (OW.out.lt g hg).1)) (fun k hk => by have h4 : base <= k := hk; omega)⟩
  ·have hr1 : ¬ (1 : Int) > (room : Int) := by omega
   go_enter Tryz.func89, Tryz.ntmps89; go_wp2_with fail; refine HN.out.mono ?_; rintro e w1 ⟨rfl, r1, t1⟩; have O1 := h_ (own_past HO.out t1 hpb); have T1 := h_ t1; have R1 := h_ r1; clear r1 t1; go_wp2_with fail; refine (HBY.out w1 R1.out).mono ?_; rintro e w3 ⟨rfl, r3, t3⟩; have O3 := own_past O1.out t3 hpb; rw [<- HK.out] at O3; have OW := h_ O3; have T3 := h_ (T1.out.trans t3); have R3 := h_ r3; clear r3 t3 O3; go_wp2_with (at_builtin; refine wpList_append_src rfl _ _ rfl base (.slice oa k oc) k _ rfl OW.out none 0 0 rfl [] rfl (fun _ => ⟨rfl, rfl⟩) (fun ad had => by cases had) (fun u hu => by cases hu) (by omega) (by have := T3.out.size; omega) ?_; intro v4 w4 O4 G4 V4; clear V4)
   go_ret; have hz3 := T3.out.size; have h4 := O4.out; rw [List.append_nil, Nat.add_zero] at h4; exact ⟨v4, rfl, (T3.out.below (by omega) (fun k e => by have h4 : k = p := e; omega)).trans (OutTurnedBelow (base := base) (by omega) (by omega) OW.out G4), by rw [<- HK.out]; exact h4, R3.out.past (Turn.of_grown (G := fun k => base <= k) G4 (fun g hg => (OW.out.lt g hg).1)) (fun k hk => by have h4 : base <= k := hk; omega)⟩
 ·have hw : wNum 9223372036854775807 (q, false) = (t, (q1, false)) := by
   rw [he]; exact wNum_app (m := 9223372036854775807) ht (by omega) q1 false
  rw [hw] at hnum; have hqp : q1.length <= q.length := by rw [he, List.length_append]; omega
  have hqs : q1.length <= 281474976710656 := by omega
  by_cases hodd : t % 2 = 1
  ·have hsc := stepT_copy (size := size) (O := O) (q := q1) ht hodd
   rw [<- he] at hsc; rw [hsc]; have b2 : ((t : Int) % 2 == 1) = true := by simp; omega
   obtain ⟨L, hL⟩ := nm_ (t / 2 + 4); have hLi : (t : Int) / 2 + 4 = (L : Int) := by omega
   have hL4 : 4 <= L := by omega
   have hLb : L <= 4611686018427387903 := by omega
   have hti : (t : Int) <= 4611686018427387903 := by omega
   rw [<- hL]; have hcopy := fun W (hz : base <= W.heap.size) (h1 : W.ownsRow base 5 1 (.slice oa O.length oc) O.length (O.map B8)) (h2 : RwAt y W p (q1, false)) => takeCopy_any y base p (.slice oa O.length oc) O q1 L size room W hz hpb h1 h2 hqs hL4 hLb hO hsz hroom
   obtain ⟨k, hk⟩ := nm_ (O.length); have HN := h_ hnum; have HO := h_ ho; have HC := h_ hcopy; have HK := h_ hk; rw [<- hk] at HC HO |-; clear hnum ho so hr hs hroom hw he hsc hL hodd hcopy hk; go_enter Tryz.func89, Tryz.ntmps89; go_wp2_with fail; refine HN.out.mono ?_; rintro e w1 ⟨rfl, r1, t1⟩; have hc := HC.out w1 (by have := t1.size; omega) (own_past HO.out t1 hpb) r1
   have HCC := h_ hc; have T1 := h_ t1; clear hc r1 t1; go_wp2_with fail; refine HCC.out.mono ?_; rintro e w2 ⟨v2, rfl, b2, h2⟩; have H2 := h_ h2; clear h2 hLi; go_wp2_with fail; go_ret; exact ⟨_, rfl, (T1.out.below (by omega) (fun k e => by have h4 : k = p := e; omega)).trans b2, H2.out⟩
  ·have hsc := stepT_run (size := size) (O := O) (q := q1) ht hodd
   rw [<- he] at hsc; rw [hsc, <- hroom]; have b2 : ((t : Int) % 2 == 1) = false := by simp; omega
   obtain ⟨L, hL⟩ := nm_ (t / 2 + 1); have hLi : (t : Int) / 2 + 1 = (L : Int) := by omega
   have hL1 : 1 <= L := by omega
   have hti : (t : Int) <= 4611686018427387903 := by omega
   rw [<- hL]; obtain ⟨k, hk⟩ := nm_ (O.length); have HN := h_ hnum; have HK := h_ hk; have HO := h_ ho; rw [<- hk] at hrk |-; clear hnum hk ho so hr hs hroom hw he hsc hL hodd; by_cases h1 : room < L
   ·rw [if_pos (by omega)]
    have hr1 : (L : Int) > (room : Int) := by omega
    have hbr := fun W (h : RwAt y W p (q1, false)) => rowBreak_any y p (q1, false) W h
    have hby := fun W (h : RwAt y W p gone) => rowBytes_no y p gone L W h (by show 0 < L; omega)
    have HBR := h_ hbr; have HBY := h_ hby; clear hbr hby; go_enter Tryz.func89, Tryz.ntmps89; go_wp2_with fail; refine HN.out.mono ?_; rintro e w1 ⟨rfl, r1, t1⟩; have O1 := h_ (own_past HO.out t1 hpb); have T1 := h_ t1; have R1 := h_ r1; clear r1 t1; go_wp2_with fail; refine (HBR.out w1 R1.out).mono ?_; rintro e w2 ⟨⟨vb, rfl⟩, r2, t2⟩; have O2 := h_ (own_past O1.out t2 hpb); have T2 := h_ (T1.out.trans t2); have R2 := h_ r2; clear r2 t2; go_wp2_with fail; refine (HBY.out w2 R2.out).mono ?_; rintro e w3 ⟨rfl, r3, t3⟩; have O3 := own_past O2.out t3 hpb; rw [<- HK.out] at O3; have OW := h_ O3; have T3 := h_ (T2.out.trans t3); have R3 := h_ r3; clear r3 t3 O3
    go_wp2_with (at_builtin; refine wpList_append_src rfl _ _ rfl base (.slice oa k oc) k _ rfl OW.out none 0 0 rfl [] rfl (fun _ => ⟨rfl, rfl⟩) (fun ad had => by cases had) (fun u hu => by cases hu) (by omega) (by have := T3.out.size; omega) ?_; intro v4 w4 O4 G4 V4; clear V4)
    go_ret; have hz3 := T3.out.size; have h4 := O4.out; rw [List.append_nil, Nat.add_zero] at h4; exact ⟨v4, rfl, (T3.out.below (by omega) (fun k e => by have h4 : k = p := e; omega)).trans (OutTurnedBelow (base := base) (by omega) (by omega) OW.out G4), by rw [<- HK.out]; exact h4, R3.out.past (Turn.of_grown (G := fun k => base <= k) G4 (fun g hg => (OW.out.lt g hg).1)) (fun k hk => by have h4 : base <= k := hk; omega)⟩
   ·have hr1 : ¬ (L : Int) > (room : Int) := by omega
    by_cases h2 : q1.length < L
    ·rw [if_pos (by omega)]
     have hby := fun W (h : RwAt y W p (q1, false)) => rowBytes_no y p (q1, false) L W h h2
     have HBY := h_ hby; clear hby; go_enter Tryz.func89, Tryz.ntmps89; go_wp2_with fail; refine HN.out.mono ?_; rintro e w1 ⟨rfl, r1, t1⟩; have O1 := h_ (own_past HO.out t1 hpb); have T1 := h_ t1; have R1 := h_ r1; clear r1 t1; go_wp2_with fail; refine (HBY.out w1 R1.out).mono ?_; rintro e w3 ⟨rfl, r3, t3⟩; have O3 := own_past O1.out t3 hpb; rw [<- HK.out] at O3; have OW := h_ O3; have T3 := h_ (T1.out.trans t3); have R3 := h_ r3; clear r3 t3 O3; go_wp2_with (at_builtin; refine wpList_append_src rfl _ _ rfl base (.slice oa k oc) k _ rfl OW.out none 0 0 rfl [] rfl (fun _ => ⟨rfl, rfl⟩) (fun ad had => by cases had) (fun u hu => by cases hu) (by omega) (by have := T3.out.size; omega) ?_; intro v4 w4 O4 G4 V4; clear V4)
     go_ret; have hz3 := T3.out.size; have h4 := O4.out; rw [List.append_nil, Nat.add_zero] at h4; exact ⟨v4, rfl, (T3.out.below (by omega) (fun k e => by have h4 : k = p := e; omega)).trans (OutTurnedBelow (base := base) (by omega) (by omega) OW.out G4), by rw [<- HK.out]; exact h4, R3.out.past (Turn.of_grown (G := fun k => base <= k) G4 (fun g hg => (OW.out.lt g hg).1)) (fun k hk => by have h4 : base <= k := hk; omega)⟩
    ·rw [if_neg (by omega)]
     have hby := fun W (h : RwAt y W p (q1, false)) => rowBytes_wide y p (q1, false) L W h (by show L <= q1.length; omega) hqs
     have htl : (q1.take L).length = L := by rw [List.length_take]; omega
     have HBY := h_ hby; have HTL := h_ htl; clear hby htl; go_enter Tryz.func89, Tryz.ntmps89; go_wp2_with fail; refine HN.out.mono ?_; rintro e w1 ⟨rfl, r1, t1⟩; have hby1 := HBY.out w1 r1; have HB1 := h_ hby1; have T1 := h_ t1; clear hby1 r1 t1; go_wp2_with fail; refine HB1.out.mono ?_; rintro e w2 ⟨a2, B2, f2, rfl, s2, _, r2, t2⟩; have T2 := h_ (T1.out.trans t2); have S2 := h_ s2; have R2 := h_ r2; have O2 := own_past (own_past HO.out T1.out hpb) t2 hpb; rw [<- HK.out] at O2; have OW := h_ O2; clear r2 t2 s2 O2 hLi; go_wp2_with (at_builtin; refine wpList_append_src rfl _ _ rfl base (.slice oa k oc) k _ rfl OW.out a2 L L rfl ((q1.take L).map B8) (by rw [List.length_map]; exact HTL.out) (fun hh => by have hz := S2.out.bare hh; rw [HTL.out] at hz; exact hz) S2.out.cells (B8_one _) (by omega) (by have := T2.out.size; omega) ?_; intro v3 w3 O3 G3 V3; clear V3)
     go_ret; have h3 := O3.out; rw [<- List.map_append] at h3; have e3 : k + L = (O ++ q1.take L).length := by rw [List.length_append, HTL.out, HK.out]
     rw [e3] at h3; have hz2 := T2.out.size; have hb3 : Below y w2 w3 := OutTurnedBelow (base := base) (by omega) (by omega) OW.out G3
     exact ⟨v3, rfl, (T2.out.below (by omega) (fun k e => by have h4 : k = p := e; omega)).trans hb3, h3, R2.out.past (Turn.of_grown (G := fun k => base <= k) G3 (fun g hg => (OW.out.lt g hg).1)) (fun k hk => by have h4 : base <= k := hk; omega)⟩
end
section
open Go.RowKit
def lenV (v : Value) : Nat := match v with
 | .slice _ n _ => n
 | _ => 0
def rowLen (p : Nat) (w : World) : Nat := match w.cell? ⟨p, 0, none⟩ with
 | some v => lenV v
 | none => 0
theorem RwAt.len {y p : Nat} {w : World} {s : RS} (h : RwAt y w p s) : rowLen p w = s.1.length := by
 obtain ⟨ao, cap, B, off, h1, _⟩ := h; unfold rowLen; rw [(rw_cells h1).1]; rfl
def Opened (w : World) (R : Option (List UInt8)) (e : Ending) (w' : World) : Prop :=
 match R with
 | none => e = .returned (.tuple #[.slice none 0 0, .int .i64 2]) /\ Below w.heap.size w w'
 | some l => ∃ ao cap B, e = .returned (.tuple #[.slice ao l.length cap, .int .i64 0]) /\ SrcAt w' ao cap l B 0 /\ Below w.heap.size w w'
def OpenedN (w : World) (R : Option (List UInt8)) (e : Ending) (w' : World) : Prop :=
 match R with
 | none => e = .returned (.tuple #[.slice none 0 0, .int .i64 2]) /\ Below w.heap.size w w'
 | some l => ∃ ao cap B, e = .returned (.tuple #[.slice ao l.length cap, .int .i64 0]) /\ SrcAt w' ao cap l B 0 /\ (0 < l.length -> w.heap.size <= B) /\ Below w.heap.size w w'
theorem openL_none {p : List UInt8} {most : Int} (h : parse p = none) : openL p most = none := by unfold openL; rw [h]
theorem openL_num {r : List UInt8} {s : Nat} {most : Int} (hs : s <= 4611686018427387903) : openL (numL s ++ r) most = if most < (s : Int) then none else tok s r.length [] r := by
 unfold openL; rw [parse_numL s r hs]; simp only [List.drop_left]
theorem slice_of_own {w : World} {base e size n : Nat} {v : Value} {xs : List Value} (h : w.ownsRow base e size v n xs) : ∃ ao cap g, v = .slice ao n cap /\ (ao = none -> g = 0) := by
 rcases h.2 with ⟨rfl, rfl⟩ | ⟨g, cap, cur, rfl, _⟩
 ·exact ⟨none, 0, 0, rfl, fun _ => rfl⟩
 ·exact ⟨_, cap, g, rfl, fun h => by cases h⟩
theorem size_any (bs : List UInt8) (most : Int) (hs : bs.length <= 281474976710656) (hsz : ∀ s k, parse bs = some (s, k) -> (s : Int) <= most -> s <= 140737488355328) (y : Nat) :
  ∃ (s : Nat) (st : RS), (∀ W, RwAt y W y (bs, false) -> Calls Tryz.prog 87 #[rwp y, .int .i64 most] W (RwTo y W y (.int .i64 (s : Int)) st)) /\ s <= 140737488355328 /\ st.1.length <= 281474976710656 /\ ((st.2 = false /\ tok s st.1.length [] st.1 = openL bs most) \/ (st.2 = true /\ st.1 = [] /\ openL bs most = none)) := by
 by_cases hneg : most < 0
 ·refine ⟨0, gone, fun W h => rowNum_neg y y (bs, false) most hneg W h hs, by omega, Nat.zero_le _, .inr ⟨rfl, rfl, ?_⟩⟩
  rcases parse_cases bs with hp | ⟨s, r, hs62, rfl⟩
  ·exact openL_none hp
  ·rw [openL_num hs62, if_pos (by omega)]
 ·obtain ⟨m, rfl⟩ : ∃ m : Nat, most = (m : Int) := ⟨most.toNat, by omega⟩
  have hn := fun W (h : RwAt y W y (bs, false)) => rowNum_wide y y (bs, false) m W h hs
  rcases parse_cases bs with hp | ⟨s, r, hs62, he⟩
  ·have hw : wNum m (bs, false) = (0, gone) := by unfold wNum; simp only [hp]
   rw [hw] at hn; exact ⟨0, gone, hn, by omega, Nat.zero_le _, .inr ⟨rfl, rfl, openL_none hp⟩⟩
  ·have ho : openL bs (m : Int) = if (m : Int) < (s : Int) then none else tok s r.length [] r := by rw [he]; exact openL_num hs62
   by_cases hm : m < s
   ·have hw : wNum m (bs, false) = (0, gone) := by
     unfold wNum; simp only [he, parse_numL s r hs62]; rw [if_pos hm]
    rw [hw] at hn; exact ⟨0, gone, hn, by omega, Nat.zero_le _, .inr ⟨rfl, rfl, by rw [ho, if_pos (by omega)]⟩⟩
   ·have hw : wNum m (bs, false) = (s, (r, false)) := by
     rw [he]; exact wNum_app hs62 (by omega) r false
    rw [hw] at hn; have h47 := hsz s (numL s).length (by rw [he]; exact parse_numL s r hs62) (by omega)
    have hrl : r.length <= bs.length := by rw [he, List.length_append]; omega
    exact ⟨s, (r, false), hn, h47, by show r.length <= _; omega, .inl ⟨rfl, by rw [ho, if_neg (by omega)]⟩⟩
theorem open_new (ao : Option Addr) (cap : Nat) (bs : List UInt8) (B off : Nat) (most : Int) (w : World) (h : SrcAt w ao cap bs B off) (hs : bs.length <= 281474976710656) (hsz : ∀ s k, parse bs = some (s, k) -> (s : Int) <= most -> s <= 140737488355328) :
  Calls Tryz.prog 46 #[.slice ao bs.length cap, .int .i64 most] w (OpenedN w (openL bs most)) := by
 have hof := rowOf_any ao cap B off bs w h; obtain ⟨s, st, hnum, hsm, hsl, hst⟩ := size_any bs most hs hsz w.heap.size; obtain ⟨y, hy⟩ := nm_ (w.heap.size); have hyw : y <= w.heap.size := by omega
 have hwy : w.heap.size <= y := by omega
 rw [<- hy] at hof hnum; obtain ⟨R, hR⟩ := nm_ (openL bs most); rw [<- hR] at hst |-; obtain ⟨n, hn⟩ := nm_ (bs.length); rw [<- hn] at hof |-; have HOF := h_ hof; have HNU := h_ hnum; have HST := h_ hst; have HSL := h_ hsl; clear hof hnum hst hsl hR hn hy h hs hsz; go_enter Tryz.func46, Tryz.ntmps46; go_wp2_with fail; refine HOF.out.mono ?_; rintro e w1 ⟨rfl, r1, b1⟩; have hn1 := HNU.out w1 r1; have HN1 := h_ hn1; have YW := h_ r1.lt; have B1 := h_ b1; clear hn1 r1 b1; go_wp2_with fail; refine HN1.out.mono ?_; rintro e w2 ⟨rfl, r2, t2⟩; have hb2 : Below y w w2 := B1.out.trans (t2.below (by have := YW.out; omega) (fun k e => by have h4 : k = y := e; omega))
 have hz2 := r2.lt; have B2 := h_ hb2; have R2 := h_ r2; clear hb2 r2 t2; go_wp2_with fail; go_loopw [8] (fun out W => ∃ (O q : List UInt8) (bad : Bool) (f k : Nat) (oa : Option Addr) (oc : Nat), out = .slice oa k oc /\ k = O.length /\ k <= s /\ Hid ((bad = false /\ q.length <= f /\ tok s f O q = R) \/ (bad = true /\ q = [] /\ R = none)) /\ Hid (q.length <= 281474976710656) /\ Hid (W.ownsRow (y + 1) 5 1 (.slice oa k oc) k (O.map B8)) /\ Hid (RwAt y W y (q, bad)) /\ Hid (Below y w W)) (fun _ W => rowLen y W)
 case atStart =>
  exact ⟨[], st.1, st.2, st.1.length, 0, none, 0, rfl, rfl, Nat.zero_le _, h_ (HST.out.imp (fun h => ⟨h.1, Nat.le_refl _, h.2⟩) id), HSL, h_ (World.ownsRow_nil _ _ _ _), R2, B2⟩
 case round =>
  clear B2 R2 hz2 HST HSL B1 YW; obtain ⟨O, q, bad, f, k, oa, oc, rfl, hk, hks, HS, HQ, OW, RW, BW⟩ := hrel; have hyl := RW.out.lt; have hleft := rowLeft_any y y (q, bad) wr RW.out; have HK := h_ hk; clear hk; by_cases hlt : 0 < q.length
  ·have hok : bad = false /\ q.length <= f /\ tok s f O q = R := HS.out.elim id (fun h => by rw [h.2.1] at hlt; exact absurd hlt (Nat.lt_irrefl _))
   obtain ⟨rfl, hf, htok⟩ := hok; obtain ⟨f, rfl⟩ : ∃ f', f = f' + 1 := ⟨f - 1, by omega⟩
   rw [tok_stepT hlt] at htok; obtain ⟨room, hroom⟩ := nm_ (s - O.length); have hri : (s : Int) - (k : Int) = (room : Int) := by rw [hroom, <- HK.out]; omega
   have hto := takeToken_any y (y + 1) y (.slice oa k oc) O q s room wr (by omega) (by omega) (by rw [<- HK.out]; exact OW.out) RW.out HQ.out (by rw [<- HK.out]; exact hks) hsm hroom
   have hle := fun O' q' hh => stepT_le (size := s) (O := O) (p := q) (O' := O') (p' := q') hh (by rw [<- HK.out]; exact hks)
   obtain ⟨ql, hql⟩ := nm_ (q.length); rw [<- hql] at hleft hlt hf; have q0 : (0 : Int) < (ql : Int) := by omega
   have HL := h_ hleft; have HTO := h_ hto; have HLE := h_ hle; have HTK := h_ htok; have HQL := h_ hql; have HF := h_ hf; have LEN := h_ RW.out.len; clear hleft hto hle htok hql hf hroom HS; go_wp2_with fail; refine HL.out.mono ?_; rintro e w3 ⟨rfl, hw3⟩; have hw3 := hw3.symm; subst hw3; go_wp2_with fail; refine HTO.out.mono ?_; rintro e w4 ⟨v2, rfl, b2, h2⟩; have B4 := h_ (BW.out.trans b2); clear b2 HTO
   cases hst : stepT s O q with
   | none =>
    rw [hst] at h2; obtain ⟨o2, r2⟩ := h2; have hRn : R = none := by rw [<- HTK.out, hst]; rfl
    have HRn := h_ hRn; rw [<- HK.out] at o2; obtain ⟨oa2, oc2, g2, rfl, _⟩ := slice_of_own o2; have O2 := h_ o2; have R2 := h_ r2; clear hst hRn o2 r2 hri; go_wp2_with fail; go_roundw
    case rel => exact ⟨O, [], true, f, k, oa2, oc2, rfl, HK.out, hks, h_ (.inr ⟨rfl, rfl, HRn.out⟩), h_ (Nat.zero_le _), O2, R2, B4⟩
    case measure =>
     have g1 := R2.out.len; have g2 := LEN.out; have g3 := HQL.out; rw [g1, g2]; show 0 < q.length
     omega
   | some x =>
    obtain ⟨O2, q2⟩ := x; rw [hst] at h2; obtain ⟨o2, r2⟩ := h2; have hl2 := HLE.out O2 q2 hst; have ht2 : tok s f O2 q2 = R := by rw [<- HTK.out, hst]; rfl
    obtain ⟨k2, hk2⟩ := nm_ (O2.length); rw [<- hk2] at o2 hl2; obtain ⟨oa2, oc2, g2, rfl, _⟩ := slice_of_own o2; have HT2 := h_ ht2; have HK2 := h_ hk2; have HL2 := h_ hl2; have OO2 := h_ o2; have R2 := h_ r2; clear hst hl2 ht2 hk2 o2 r2 hri; go_wp2_with fail; go_roundw
    case rel =>
     have g1 := HL2.out; have g2 := HF.out; have g3 := HQL.out; have g4 := HQ.out; exact ⟨O2, q2, false, f, k2, oa2, oc2, rfl, HK2.out, g1.2, h_ (.inl ⟨rfl, by omega, HT2.out⟩), h_ (by omega), OO2, R2, B4⟩
    case measure =>
     have g1 := R2.out.len; have g2 := LEN.out; have g3 := HL2.out; rw [g1, g2]; exact g3.1
  ·obtain rfl : q = [] := List.eq_nil_of_length_eq_zero (by omega)
   have hend := rowEnd_any y y ([], bad) wr RW.out
   cases bad with
   | true =>
    have hRn : R = none := HS.out.elim (fun h => by cases h.1) (fun h => h.2.2)
    rw [if_pos (.inl rfl)] at hend; have HL := h_ hleft; have HE := h_ hend; have HRn := h_ hRn; clear hleft hend hRn HS hlt; go_wp2_with fail; refine HL.out.mono ?_; rintro e w3 ⟨rfl, hw3⟩; have hw3 := hw3.symm; subst hw3; go_wp2_with fail; refine HE.out.mono ?_; rintro e w3 ⟨rfl, hw3⟩; have hw3 := hw3.symm; subst hw3; go_wp2_with fail; go_ret2; rw [HRn.out]; exact ⟨rfl, BW.out.mono hwy⟩
   | false =>
    have htok : tok s f O [] = R := HS.out.elim (fun h => h.2.2) (fun h => by cases h.1)
    rw [tok_end, <- HK.out] at htok; rw [if_neg (by rintro (k | k); exact absurd k (by decide); exact k rfl)] at hend
    have HL := h_ hleft; have HE := h_ hend; clear hleft hend HS hlt; by_cases hfew : k < s
    ·rw [if_neg (by omega)] at htok
     have HTK := h_ htok; clear htok; go_wp2_with fail; refine HL.out.mono ?_; rintro e w3 ⟨rfl, hw3⟩; have hw3 := hw3.symm; subst hw3; go_wp2_with fail; refine HE.out.mono ?_; rintro e w3 ⟨rfl, hw3⟩; have hw3 := hw3.symm; subst hw3; go_wp2_with fail; go_ret2; rw [<- HTK.out]; exact ⟨rfl, BW.out.mono hwy⟩
    ·obtain rfl : k = s := by omega
     rw [if_pos rfl] at htok; have hown2 := OW.out; rw [HK.out] at hown2; obtain ⟨ga, gc, GB, hv, sg, gn⟩ := src_of_own hown2; rw [<- HK.out] at hv; simp only [Value.slice.injEq, true_and] at hv; obtain ⟨rfl, rfl⟩ := hv; have HTK := h_ htok; have SG := h_ sg; have GN := h_ gn; clear htok hown2 sg gn; go_wp2_with fail; refine HL.out.mono ?_; rintro e w3 ⟨rfl, hw3⟩; have hw3 := hw3.symm; subst hw3; go_wp2_with fail; refine HE.out.mono ?_; rintro e w3 ⟨rfl, hw3⟩; have hw3 := hw3.symm; subst hw3; go_wp2_with fail; go_ret2; rw [<- HTK.out]; exact ⟨oa, oc, GB, by rw [<- HK.out]; rfl, SG.out, fun hp => by have := GN.out hp; omega, BW.out.mono hwy⟩
end
section
open Go.RowKit
theorem rowNum_any (y p : Nat) (s : RS) (m : Nat) (w : World) (h : RwAt y w p s) (hl : s.1.length <= 140737488355328) :
  Calls Tryz.prog 87 #[rwp p, .int .i64 (m : Int)] w (RwTo y w p (.int .i64 ((wNum m s).1 : Int)) (wNum m s).2) := rowNum_wide y p s m w h (Nat.le_trans hl (by decide))
theorem wNum_le {m : Nat} {s : RS} {L : Nat} (h : s.1.length <= L) : (wNum m s).2.1.length <= L := by
 unfold wNum
 cases parse s.1 with
 | none => exact Nat.zero_le _
 | some p =>
  simp only
  split
  ·exact Nat.zero_le _
  ·simp only [List.length_drop]
   omega

theorem rowPiece_any (y p : Nat) (s : RS) (n : Nat) (w : World) (h : RwAt y w p s) (hl : s.1.length <= 140737488355328) :
  Calls Tryz.prog 132 #[rwp p, .int .i64 (n : Int)] w fun e w' => ∃ v, e = .returned v /\ (∀ W, Below w'.heap.size w' W -> (convert 29 9 v).run Tryz.prog W = .ok (.string (SL (wBytes n s).1)) W) /\ RwAt y w' p (wBytes n s).2 /\ Turn (fun k => k = p) w w' := by
 unfold wBytes; by_cases hn : s.1.length < n
 ·rw [if_pos hn]
  refine (rowBytes_no y p s n w h hn).mono ?_; rintro e w' ⟨rfl, h1, h2⟩; exact ⟨_, rfl, fun W _ => convert_src (src_nil W), h1, h2⟩
 ·rw [if_neg hn]
  refine (rowBytes_yes y p s n w h (by omega) hl).mono ?_
  rintro e w' ⟨ao, B, off, rfl, h1, _, h2, h3⟩; have hlen : (s.1.take n).length = n := by rw [List.length_take]; omega
  refine ⟨_, rfl, fun W hb => ?_, h2, h3⟩
  have := convert_src (h1.below hb)
  rw [hlen] at this; exact this
theorem rowText_any (y p : Nat) (s : RS) (m : Nat) (w : World) (h : RwAt y w p s) (hl : s.1.length <= 140737488355328) :
  Calls Tryz.prog 138 #[rwp p, .int .i64 (m : Int)] w (RwTo y w p (.string (SL (wText m s).1)) (wText m s).2) := by
 have hn := h_ (rowNum_any y p s m w h hl); have hp := h_ (fun W (hr : RwAt y W p (wNum m s).2) => rowPiece_any y p (wNum m s).2 (wNum m s).1 W hr (wNum_le hl))
 have hT : wText m s = wBytes (wNum m s).1 (wNum m s).2 := rfl
 rw [hT]; obtain ⟨x, hx⟩ := nm_ ((wNum m s).1); obtain ⟨s1, hs1⟩ := nm_ ((wNum m s).2); rw [<- hx, <- hs1] at hn hp |-; clear hx hs1 hT h hl; go_enter Tryz.func138, Tryz.ntmps138; go_wp2_with (first
  | (go_at_call 87; refine hn.out.mono ?_; rintro e w1 ⟨rfl, r1, t1⟩; have R1 := h_ r1; have T1 := h_ t1; clear r1 t1)
  | (go_at_call 132; refine (hp.out _ R1.out).mono ?_; rintro e w2 ⟨v2, rfl, cv, r2, t2⟩; have R2 := h_ r2; have T2 := h_ t2; have hcv := cv w2 (Below.refl _ _); clear cv r2 t2))
 go_ret; exact ⟨rfl, R2.out, T1.out.trans T2.out⟩
theorem takeId_any (y p : Nat) (s : RS) (w : World) (h : RwAt y w p s) (hl : s.1.length <= 140737488355328) :
  Calls Tryz.prog 135 #[rwp p] w (RwTo y w p (.string (SL (wBytes 32 s).1)) (wBytes 32 s).2) := by
 have hp := h_ (rowPiece_any y p s 32 w h hl); obtain ⟨R, hR⟩ := nm_ (wBytes 32 s); rw [<- hR] at hp |-; clear hR h hl; go_enter Tryz.func135, Tryz.ntmps135; go_wp2_with (go_at_call 132; refine hp.out.mono ?_; rintro e w2 ⟨v2, rfl, cv, r2, t2⟩; have R2 := h_ r2; have T2 := h_ t2; have hcv := cv w2 (Below.refl _ _); clear cv r2 t2)
 go_ret; exact ⟨rfl, R2.out, T2.out⟩
end
end Go.Proofs.YtomgijcbekjlaaaGreat
