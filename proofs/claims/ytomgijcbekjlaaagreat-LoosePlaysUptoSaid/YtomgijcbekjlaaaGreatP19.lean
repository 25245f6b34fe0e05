/- What the proofs stand on: RowA, RowRd. -/
import Derived.Handy
import Derived.Test.YtomgijcbekjlaaaGreatP2
import Derived.Test.YtomgijcbekjlaaaGreatP0
import Derived.Test.YtomgijcbekjlaaaGreatPB0
import Derived.Test.YtomgijcbekjlaaaGreatPB1
set_option maxRecDepth 100000
set_option maxHeartbeats 40000000
namespace Go.Proofs.YtomgijcbekjlaaaGreat
section
open Go.RowKit
abbrev rwp (p : Nat) : Value := .pointer (some ⟨p, 0, none⟩)
def RwAt (y : Nat) (w : World) (p : Nat) (s : RS) : Prop := ∃ ao cap B off, w.heap[p]? = some (.cells #[.slice ao s.1.length cap, .bool s.2] 178 (0, 0)) /\ SrcAt w ao cap s.1 B off /\ (0 < s.1.length -> B < y) /\ y <= p
theorem RwAt.lt {y : Nat} {w : World} {p : Nat} {s : RS} (h : RwAt y w p s) : p < w.heap.size := by
 obtain ⟨_, _, _, _, h1, _⟩ := h; exact (ge_ h1).1
theorem RwAt.below {y : Nat} {w w' : World} {p : Nat} {s : RS} (h : RwAt y w p s) (hb : Below w.heap.size w w') : RwAt y w' p s := by
 obtain ⟨ao, cap, B, off, h1, h2, h3, h4⟩ := h; exact ⟨ao, cap, B, off, below_turn hb h1, h2.below hb, h3, h4⟩
theorem own_past {w w' : World} {base p e s n : Nat} {v : Value} {xs : List Value} (h : w.ownsRow base e s v n xs) (ht : Turn (fun k => k = p) w w') (hp : p < base) : w'.ownsRow base e s v n xs := by
 rcases h with ⟨h1, h2 | ⟨g, cap, cur, rfl, h3, h4, h5⟩⟩
 ·exact ⟨h1, .inl h2⟩
 ·exact ⟨h1, .inr ⟨g, cap, cur, rfl, h3, ht.keep h4 (by omega), h5⟩⟩
theorem RwAt.past {y : Nat} {w w' : World} {p : Nat} {s : RS} {G : Nat -> Prop} (h : RwAt y w p s) (t : Turn G w w') (hG : ∀ k, G k -> p < k) : RwAt y w' p s := by
 obtain ⟨ao, cap, B, off, h1, h2, h3, h4⟩ := h; exact ⟨ao, cap, B, off, t.keep h1 (fun g => Nat.lt_irrefl _ (hG _ g)), h2.turn t (fun hb g => by have := hG _ g; have := h3 hb; omega), h3, h4⟩
def RwTo (y : Nat) (w : World) (p : Nat) (v : Value) (s : RS) (e : Ending) (w' : World) : Prop := e = .returned v /\ RwAt y w' p s /\ Turn (fun k => k = p) w w'
def PieceTo (y : Nat) (w : World) (p n : Nat) (b : OB) (s : RS) (e : Ending) (w' : World) : Prop := ∃ ao B off, e = .returned (.slice ao n n) /\ SrcAt w' ao n b B off /\ (0 < n -> B < y) /\ RwAt y w' p s /\ Turn (fun k => k = p) w w'
theorem rw_cells {w : World} {p : Nat} {v : Value} {x : Bool} (h : w.heap[p]? = some (.cells #[v, .bool x] 178 (0, 0))) :
  w.cell? ⟨p, 0, none⟩ = some v /\ w.cell? ⟨p, 1, none⟩ = some (.bool x) /\ (∀ j, w.frozen? ⟨p, j, none⟩ = false) :=
 ⟨cell_of_row _ _ _ _ _ _ h, cell_of_row _ _ _ _ _ _ h, fun j => frozen_of_row _ _ j _ _ h⟩
theorem turn_rw (p i : Nat) (w : World) (v : Value) : Turn (fun k => k = p) w (w.setCell ⟨p, i, none⟩ v) := Turn.setCell w _ v rfl
theorem rowOf_any (ao : Option Addr) (cap B off : Nat) (b : OB) (w : World) (h : SrcAt w ao cap b B off) :
  Calls Tryz.prog 86 #[.slice ao b.length cap] w fun e w' => e = .returned (rwp w.heap.size) /\ RwAt w.heap.size w' w.heap.size (b, false) /\ Below w.heap.size w w' := by
 have hw : Hid (RwAt w.heap.size (w.alloc (.cells #[.slice ao b.length cap, .bool false] 178)) w.heap.size (b, false) /\ Below w.heap.size w (w.alloc (.cells #[.slice ao b.length cap, .bool false] 178))) :=
  h_ ⟨⟨ao, cap, B, off, heap_alloc_new w _, h.below ((Below.refl _ _).alloc (Nat.le_refl _) _), fun p => h.old p, Nat.le_refl _⟩, (Below.refl _ _).alloc (Nat.le_refl _) _⟩
 obtain ⟨n, hn⟩ := nm_ (b.length); rw [<- hn] at hw |-; clear hn h; go_enter Tryz.func86, Tryz.ntmps86; go_wp2; go_ret; exact ⟨rfl, hw.out.1, hw.out.2⟩
theorem rowBreak_any (y p : Nat) (s : RS) (w : World) (h : RwAt y w p s) :
  Calls Tryz.prog 130 #[rwp p] w fun e w' => (∃ v, e = .returned v) /\ RwAt y w' p gone /\ Turn (fun k => k = p) w w' := by
 obtain ⟨ao, cap, B, off, hrow, hs, hby, hyp⟩ := h; have hne : 0 < s.1.length -> B ≠ p := fun hp => Nat.ne_of_lt (Nat.lt_of_lt_of_le (hby hp) hyp)
 obtain ⟨b, bad⟩ := s; simp only at hrow hs hne hby
 obtain ⟨n, hn⟩ := nm_ (b.length); rw [<- hn] at hrow; obtain ⟨c0, c1, fr⟩ := rw_cells hrow; have f0 := fr 0; have f1 := fr 1; have e1 : (w.setCell ⟨p, 0, none⟩ (.slice none 0 0)).heap[p]? = some (.cells #[.slice none 0 0, .bool bad] 178 (0, 0)) := heap_setCell_same w p 0 _ _ _ hrow
 have e2 : ((w.setCell ⟨p, 0, none⟩ (.slice none 0 0)).setCell ⟨p, 1, none⟩ (.bool true)).heap[p]? = some (.cells #[.slice none 0 0, .bool true] 178 (0, 0)) := heap_setCell_same _ p 1 _ _ _ e1
 obtain ⟨d0, d1, gr⟩ := rw_cells e1; have g1 := gr 1; have hfin : Hid (RwAt y ((w.setCell ⟨p, 0, none⟩ (.slice none 0 0)).setCell ⟨p, 1, none⟩ (.bool true)) p gone /\ Turn (fun k => k = p) w ((w.setCell ⟨p, 0, none⟩ (.slice none 0 0)).setCell ⟨p, 1, none⟩ (.bool true))) :=
  h_ ⟨⟨none, 0, 0, 0, e2, src_nil _, fun h => absurd h (Nat.lt_irrefl _), hyp⟩, (turn_rw p 0 w _).trans (turn_rw p 1 _ _)⟩
 clear e1 e2 hs hne hby hyp hn hrow fr gr; go_enter Tryz.func130, Tryz.ntmps130; go_wp2; go_end0
 exact ⟨⟨_, rfl⟩, hfin.out.1, hfin.out.2⟩
theorem SrcAt.slice_hm {W : World} {ao : Option Addr} {cap : Nat} {bs : List UInt8} {B off : Nat} (h : SrcAt W ao cap bs B off) (n : Nat) (hl : n <= bs.length) :
  ∃ ao' : Option Addr, (∀ w : World, (Instr.slice 29 (.slice ao bs.length cap) none (some (.int .i64 (n : Int))) (some (.int .i64 (n : Int)))).run Tryz.prog w = .ok (.slice ao' n n) w) /\ SrcAt W ao' n (bs.take n) B off := by
 have hle := h.le; have htop := h.top; have hlen : (bs.take n).length = n := by rw [List.length_take]; omega
 refine ⟨if n = 0 then ao else ao.map (·.add (0 * 1)), fun w => ?_, ?_⟩
 ·rw [run_slice_hm w 29 ao _ cap (by kernel_rfl) .i64 .i64 (n : Int) (n : Int) (by omega) (by omega) (by omega), sizeOf22]
  simp only [Result.andThen_ok, sliced, Int.toNat_natCast, Nat.sub_zero]
 ·refine ⟨by omega, by omega, fun hp => ?_, fun hn => ?_, fun hp => h.old (by omega), fun j hj => ?_⟩
  ·rw [if_neg (by omega), h.src (by omega)]
   simp [Addr.add]
  ·by_cases hc : n = 0
   ·exact ⟨by omega, hc⟩
   ·rw [if_neg hc] at hn
    have := h.bare (by cases ao with
     | none => rfl
     | some a => cases hn)
    omega
  ·rw [hlen] at hj
   rw [h.cell j (by omega)]
   have e : (bs.take n).getD j 0 = bs.getD j 0 := by simp [List.getD, hj]
   rw [e]
theorem rowBytes_no (y p : Nat) (s : RS) (n : Nat) (w : World) (h : RwAt y w p s) (hn : s.1.length < n) :
  Calls Tryz.prog 132 #[rwp p, .int .i64 (n : Int)] w (RwTo y w p (.slice none 0 0) gone) := by
 have hbr := h_ (rowBreak_any y p s w h); obtain ⟨ao, cap, B, off, hrow, hs, hby, hyp⟩ := h; have hne : 0 < s.1.length -> B ≠ p := fun hp => Nat.ne_of_lt (Nat.lt_of_lt_of_le (hby hp) hyp)
 obtain ⟨b, bad⟩ := s; simp only at hrow hs hne hby hn
 obtain ⟨L, hL⟩ := nm_ (b.length); rw [<- hL] at hrow hn; obtain ⟨c0, c1, fr⟩ := rw_cells hrow; have i0 : ¬ (n : Int) < 0 := by omega
 have i1 : (n : Int) > (L : Int) := by omega
 clear hs hne hby hyp hL hrow fr hn; go_enter Tryz.func132, Tryz.ntmps132; go_wp2_with (go_at_call 130; refine hbr.out.mono ?_; rintro e w1 ⟨⟨v, rfl⟩, r1, t1⟩; have R1 := h_ r1; have T1 := h_ t1; clear r1 t1)
 go_ret; exact ⟨rfl, R1.out, T1.out⟩
theorem rowBytes_wide (y p : Nat) (s : RS) (n : Nat) (w : World) (h : RwAt y w p s) (hn : n <= s.1.length) (hl : s.1.length <= 281474976710656) :
  Calls Tryz.prog 132 #[rwp p, .int .i64 (n : Int)] w (PieceTo y w p n (s.1.take n) (s.1.drop n, s.2)) := by
 obtain ⟨ao, cap, B, off, hrow, hs, hby, hyp⟩ := h; have hne : 0 < s.1.length -> B ≠ p := fun hp => Nat.ne_of_lt (Nat.lt_of_lt_of_le (hby hp) hyp)
 obtain ⟨b, bad⟩ := s; dsimp only at hrow hs hne hby hn hl |-
 obtain ⟨c0, c1, fr⟩ := rw_cells hrow; have f0 := fr 0; have f1 := fr 1; obtain ⟨ah, hh, sh⟩ := hs.slice_hm n hn; obtain ⟨al, hll, sl⟩ := hs.slice_l n hn; have htl : (b.take n).length = n := by rw [List.length_take]; omega
 have hfin : Hid (SrcAt (w.setCell ⟨p, 0, none⟩ (.slice al (b.length - n) (cap - n))) ah n (b.take n) B off /\ (0 < n -> B < y) /\ RwAt y (w.setCell ⟨p, 0, none⟩ (.slice al (b.length - n) (cap - n))) p (b.drop n, bad) /\ Turn (fun k => k = p) w (w.setCell ⟨p, 0, none⟩ (.slice al (b.length - n) (cap - n)))) := by
  refine h_ ⟨sh.turn (turn_rw p 0 w _) (fun hp => hne (by rw [htl] at hp; omega)), fun hp => hby (by omega), ⟨al, cap - n, B, off + n, ?_, sl.turn (turn_rw p 0 w _) (fun hp => hne (by rw [List.length_drop] at hp; omega)), fun hp => hby (by rw [List.length_drop] at hp; omega), hyp⟩, turn_rw p 0 w _⟩
  rw [List.length_drop]; exact heap_setCell_same w p 0 _ _ _ hrow
 obtain ⟨L, hL⟩ := nm_ (b.length); rw [<- hL] at hfin hh hll c0 hn hl; have i0 : ¬ (n : Int) < 0 := by omega
 have i1 : ¬ (n : Int) > (L : Int) := by omega
 clear hs hne hby hyp hL hrow fr sh sl htl; go_enter Tryz.func132, Tryz.ntmps132; go_wp2; go_ret; exact ⟨ah, B, off, rfl, hfin.out⟩
theorem row_nine_none (p : List UInt8) (h : parse p = none) : parse (p.take 9) = none := by
 rcases parse_cases (p.take 9) with h1 | ⟨n, r, hn, he⟩
 ·exact h1
 ·exfalso
  have e : p = numL n ++ (r ++ p.drop 9) := by rw [<- List.append_assoc, <- he, List.take_append_drop]
  rw [e, parse_numL n _ hn] at h
  cases h
theorem row_nine_some (n : Nat) (r : List UInt8) : (numL n ++ r).take 9 = numL n ++ r.take (9 - (numL n).length) := by
 have := numL_le n
 rw [List.take_append, List.take_of_length_le this]
theorem row_nine_min (n : Nat) : (if (n : Int) > 9 then (9 : Int) else (n : Int)) = ((min n 9 : Nat) : Int) := by split <;> omega
theorem rowLeft_any (y p : Nat) (s : RS) (w : World) (h : RwAt y w p s) : Calls Tryz.prog 88 #[rwp p] w fun e w' => e = .returned (.int .i64 (s.1.length : Int)) /\ w' = w := by
 obtain ⟨ao, cap, B, off, hrow, _, _⟩ := h; obtain ⟨L, hL⟩ := nm_ (s.1.length); rw [<- hL] at hrow |-; obtain ⟨c0, c1, _⟩ := rw_cells hrow; clear hL hrow; go_enter Tryz.func88, Tryz.ntmps88; go_wp2; go_ret; exact ⟨rfl, rfl⟩
theorem rowEnd_any (y p : Nat) (s : RS) (w : World) (h : RwAt y w p s) : Calls Tryz.prog 90 #[rwp p] w fun e w' => e = .returned (.int .i64 (if s.2 = true \/ s.1 ≠ [] then 2 else 0)) /\ w' = w := by
 obtain ⟨ao, cap, B, off, hrow, _, _⟩ := h; obtain ⟨b, bad⟩ := s; simp only at hrow |-
 obtain ⟨L, hL⟩ := nm_ (b.length); rw [<- hL] at hrow; obtain ⟨c0, c1, _⟩ := rw_cells hrow
 cases bad with
 | true =>
  rw [if_pos (.inl rfl)]; clear hL hrow; go_enter Tryz.func90, Tryz.ntmps90; go_wp2; go_ret; exact ⟨rfl, rfl⟩
 | false =>
  by_cases h0 : L = 0
  ·have hb : b = [] := List.eq_nil_of_length_eq_zero (by omega)
   rw [if_neg (by rintro (k | k); exact absurd k (by decide); exact k hb)]
   subst h0; clear hL hrow hb; go_enter Tryz.func90, Tryz.ntmps90; go_wp2; go_ret; exact ⟨rfl, rfl⟩
  ·have hb : b ≠ [] := fun e => h0 (by rw [hL, e]; rfl)
   have i0 : (L : Int) > 0 := by omega
   rw [if_pos (.inr hb)]; clear hL hrow hb h0; go_enter Tryz.func90, Tryz.ntmps90; go_wp2; go_ret; exact ⟨rfl, rfl⟩
end
section
open Go.RowKit
theorem rowBytes_yes (y p : Nat) (s : RS) (n : Nat) (w : World) (h : RwAt y w p s) (hn : n <= s.1.length) (hl : s.1.length <= 140737488355328) :
  Calls Tryz.prog 132 #[rwp p, .int .i64 (n : Int)] w (PieceTo y w p n (s.1.take n) (s.1.drop n, s.2)) := rowBytes_wide y p s n w h hn (Nat.le_trans hl (by decide))
theorem rowByte_any (y p : Nat) (s : RS) (w : World) (h : RwAt y w p s) (hl : s.1.length <= 140737488355328) :
  Calls Tryz.prog 133 #[rwp p] w (RwTo y w p (.int .u8 ((wByte s).1.toNat : Int)) (wByte s).2) := by
 cases hb : s.1 with
 | nil =>
  have e : wByte s = (0, gone) := by unfold wByte; rw [hb]
  rw [e]; have hn := h_ (rowBytes_no y p s 1 w h (by rw [hb]; decide))
  clear hb e h hl; go_enter Tryz.func133, Tryz.ntmps133; go_wp2_with (go_at_call 132; refine hn.out.mono ?_; rintro e w1 ⟨rfl, r1, t1⟩; have R1 := h_ r1; have T1 := h_ t1; clear r1 t1)
  go_ret; exact ⟨rfl, R1.out, T1.out⟩
 | cons c r =>
  have e : wByte s = (c, (r, s.2)) := by unfold wByte; rw [hb]
  rw [e]; have hn := rowBytes_yes y p s 1 w h (by rw [hb]; simp) hl
  rw [hb] at hn; have HN := h_ hn; clear hb e h hl hn; go_enter Tryz.func133, Tryz.ntmps133; go_wp2_with (go_at_call 132; refine HN.out.mono ?_; rintro e w1 ⟨ao, B, off, rfl, s1, n1, r1, t1⟩; have R1 := h_ r1; have T1 := h_ t1; have ea := s1.src (by simp); have c0 := s1.cell 0 (by simp); simp at c0; subst ea; clear r1 t1 s1 n1)
  go_ret; exact ⟨rfl, R1.out, T1.out⟩
end
end Go.Proofs.YtomgijcbekjlaaaGreat
