/- The walk of SumTail. -/
import Derived.Test.YtijgmhdhaekocaaApp
namespace Go.Proofs.Ytijgmhdhaekocaa
open Go.RowKit
theorem src_nil (w : World) : SrcAt w none 0 [] 0 0 :=
  ⟨Nat.le_refl _, Nat.zero_le _, fun h => absurd h (Nat.lt_irrefl _), fun _ => ⟨rfl, rfl⟩, fun h => absurd h (Nat.lt_irrefl _), fun _ hj => absurd hj (Nat.not_lt_zero _)⟩
theorem add_none {g : Nat} {l : List UInt8} (w : World) (hr : RunAt w g l) (hlen : l.length ≤ 562949953421312) :
    Calls Try.prog 13 #[.pointer (some ⟨g, 0, none⟩), .slice none 0 0] w fun e w' => e = .returned (.tuple #[]) ∧ RunAt w' g l ∧ w.grownBy w' (some g) :=
  (add_src w hr (src_nil w) (fun h => absurd h (Nat.lt_irrefl _)) (by simpa using hlen)).mono fun _ _ h => ⟨h.1, by simpa using h.2.1, h.2.2⟩
/-- A slice of the call's own, as a source. -/
theorem src_of_own {w : World} {base : Nat} {v : Value} {bs : List UInt8} (h : w.ownsRow base 5 1 v bs.length (bs.map B8)) : ∃ ao cap B, v = .slice ao bs.length cap ∧ SrcAt w ao cap bs B 0 := by
  rcases h.2 with ⟨rfl, h0⟩ | ⟨g, cap, cur, rfl, _, h3, h4, h5, h6, h7⟩
  · obtain rfl : bs = [] := List.eq_nil_of_length_eq_zero h0
    exact ⟨none, 0, 0, rfl, src_nil w⟩
  · refine ⟨_, cap, g, rfl, h4, h5, fun _ => rfl, fun h => by (cases h), fun _ => (Array.getElem?_eq_some_iff.1 h3).1, fun j hj => ?_⟩
    rw [Nat.zero_add, cell_of_row _ _ _ _ _ _ h3]
    have e : (cur.toList.take (bs.length * 1))[j]? = (bs.map B8)[j]? := by rw [h7]
    rw [Nat.mul_one, List.getElem?_take, if_pos hj, Array.getElem?_toList] at e
    rw [e]
    simp [B8, hj]
set_option maxHeartbeats 800000 in
theorem tail_law (ao bo : Option Addr) (capa capb : Nat) (xs bs : List UInt8) (A offa B offb : Nat) (w : World) (ha : SrcAt w ao capa xs A offa) (hb : SrcAt w bo capb bs B offb) (hs : xs.length + bs.length ≤ 140737488355328) :
    Calls Try.prog 7 #[.slice ao xs.length capa, .slice bo bs.length capb] w fun e w' => e = .returned (.bool true) ∧ Below w.heap.size w w' := by
  go_enter Try.func7, Try.ntmps7
  go_wp2_with fail
  refine (awake_any _).mono ?_
  rintro e w1 ⟨rfl, b1⟩
  go_wp2_with fail
  refine (new_any _).mono ?_
  rintro e w2 ⟨rfl, r2, b2⟩
  obtain ⟨g, hg⟩ : ∃ g, g = w1.heap.size := ⟨_, rfl⟩
  rw [← hg] at r2 ⊢
  have hge : w.heap.size ≤ g := by rw [hg]; exact b1.size
  have c2 : Below w.heap.size w w2 := b1.trans (b2.mono b1.size)
  clear hg b2
  go_wp2_with fail
  refine (add_none _ r2 (by simp)).mono ?_
  rintro e w3 ⟨rfl, r3, g3⟩
  have c3 : Below w.heap.size w w3 := c2.grown g3 c2.size (fun k hk => by cases hk; exact hge)
  go_wp2_with fail
  refine (add_src _ r3 (ha.below c3) (fun h => by have := ha.old h; omega) (by simp; omega)).mono ?_
  rintro e w4 ⟨rfl, r4, g4⟩
  have c4 : Below w.heap.size w w4 := c3.grown g4 c3.size (fun k hk => by cases hk; exact hge)
  rw [List.nil_append] at r4
  go_wp2_with fail
  refine (add_none _ r4 (by omega)).mono ?_
  rintro e w5 ⟨rfl, r5, g5⟩
  have c5 : Below w.heap.size w w5 := c4.grown g5 c4.size (fun k hk => by cases hk; exact hge)
  go_wp2_with fail
  refine (end_any g xs _ r5 (by omega)).mono ?_
  rintro e w6 ⟨rfl, b6⟩
  have c6 := c5.trans (b6.mono c5.size)
  have r6 := r5.below b6
  go_wp2_with fail
  refine (end_any g xs _ r6 (by omega)).mono ?_
  rintro e w7 ⟨rfl, b7⟩
  have c7 := c6.trans (b7.mono c6.size)
  have r7 := r6.below b7
  go_wp2_with fail
  refine (add_src _ r7 (hb.below c7) (fun h => by have := hb.old h; omega) (by omega)).mono ?_
  rintro e w8 ⟨rfl, r8, g8⟩
  have c8 : Below w.heap.size w w8 := c7.grown g8 c7.size (fun k hk => by cases hk; exact hge)
  have hgl := r8.lt
  clear r2 r3 r4 r5 r6 r7 g3 g4 g5 g8
  have fin9 : ∀ (v9 : Value) (w9 : World), Hid (w9.ownsRow w8.heap.size 5 1 v9 (0 + xs.length) ([] ++ xs.map B8)) → w8.grownBy w9 (Value.ownBlock (.slice none 0 0)) →
      Hid (w9.ownsRow w8.heap.size 5 1 v9 xs.length (xs.map B8)) ∧ Below w8.heap.size w8 w9 := fun v9 w9 h1 h2 =>
    ⟨by have := h1.out; rw [Nat.zero_add, List.nil_append] at this; exact this, ⟨h2.os, h2.tape, h2.output, h2.size, fun k hk => h2.block k hk (fun e => by cases e)⟩⟩
  go_wp2_with (first
    | (at_builtin; refine wpList_append_src rfl _ _ rfl w8.heap.size v9 xs.length (xs.map B8) rfl O9.out bo bs.length capb rfl (bs.map B8) (by rw [List.length_map]) (fun hh => (hb.below c9).bare hh) (hb.below c9).cells (B8_one _) hs q9.size ?_; intro v10 w10 hown10 hg10 hv10)
    | (at_builtin; refine wpList_append_src rfl _ _ rfl w8.heap.size (.slice none 0 0) 0 [] rfl (World.ownsRow_nil _ _ _ _) ao xs.length capa rfl (xs.map B8) (by rw [List.length_map]) (fun hh => (ha.below c8).bare hh) (ha.below c8).cells (B8_one _) (by omega) (Nat.le_refl _) ?_; intro v9 w9 hown9 hg9 hv9; obtain ⟨O9, q9⟩ := fin9 v9 w9 hown9 hg9; have c9 := c8.trans (q9.mono c8.size); have R9 := r8.below q9; clear hown9 hg9 hv9))
  have hblk : ∀ k, v9.ownBlock = some k → w8.heap.size ≤ k := fun k hk => (O9.out.lt k hk).1
  have r10 : RunAt w10 g (xs ++ bs) := by
    obtain ⟨st, rest, q1, q2⟩ := R9
    refine ⟨st, rest, q1, (hg10.block g (Array.getElem?_eq_some_iff.1 q2).1 (fun e => ?_)).trans q2⟩
    have := hblk g e.symm
    omega
  have c10 : Below w.heap.size w w10 := c9.grown hg10 c9.size (fun k hk => Nat.le_trans c8.size (hblk k hk))
  have o10 : w10.ownsRow w8.heap.size 5 1 v10 (xs ++ bs).length ((xs ++ bs).map B8) := by
    rw [List.length_append, List.map_append]
    exact hown10.out
  obtain ⟨L, hL⟩ : ∃ L, L = xs ++ bs := ⟨_, rfl⟩
  have hLl : L.length ≤ 140737488355328 := by rw [hL, List.length_append]; exact hs
  rw [← hL] at o10 r10
  obtain ⟨ao2, cap2, B2, rfl, hs10⟩ := src_of_own o10
  have HS10 := Lib.hid hs10
  clear o10 hown10 hv10 hg10 O9 R9 fin9 hL hblk r8
  go_wp2_with fail
  refine (sum_src _ (ha.below c10) (by omega)).mono ?_
  rintro e w11 ⟨rfl, b11⟩
  have c11 := c10.trans (b11.mono c10.size)
  have r11 := r10.below b11
  go_wp2_with fail
  refine (end_any g L _ r11 (by omega)).mono ?_
  rintro e w12 ⟨rfl, b12⟩
  have c12 := c11.trans (b12.mono c11.size)
  go_wp2_with fail
  refine (sum_src _ ((HS10.out.below b11).below b12) (by omega)).mono ?_
  rintro e w13 ⟨rfl, b13⟩
  go_wp2_with fail
  go_ret
  exact ⟨rfl, c12.trans (b13.mono c12.size)⟩
end Go.Proofs.Ytijgmhdhaekocaa
