/- The walk of add: a place is taken in, the one that goes is forgotten. -/
import Derived.Test.YtjieljmlpbiidaaPressLongest

import Derived.StillTailTactics
namespace Go.Proofs.Ytjieljmlpbiidaa
open Go.RowKit
open Go.Maps (has)
/-- Nothing but the blocks p and q has turned. -/
structure But2 (w w' : World) (p q : Nat) : Prop where
  os : w'.os = w.os
  tape : w'.tape = w.tape
  output : w'.output = w.output
  size : w.heap.size ≤ w'.heap.size
  block : ∀ k, k < w.heap.size → k ≠ p → k ≠ q → w'.heap[k]? = w.heap[k]?
theorem But2.refl (w : World) (p q : Nat) : But2 w w p q := ⟨rfl, rfl, rfl, Nat.le_refl _, fun _ _ _ _ => rfl⟩
theorem But2.trans {a b c : World} {p q : Nat} (h : But2 a b p q) (k : But2 b c p q) : But2 a c p q :=
  ⟨k.os.trans h.os, k.tape.trans h.tape, k.output.trans h.output, Nat.le_trans h.size k.size, fun i hi h1 h2 => (k.block i (Nat.lt_of_lt_of_le hi h.size) h1 h2).trans (h.block i hi h1 h2)⟩
theorem But2.of_below {w w' : World} (h : Below w.heap.size w w') (p q : Nat) : But2 w w' p q := ⟨h.os, h.tape, h.output, h.size, fun k hk _ _ => h.block k hk⟩
theorem But2.set (w : World) (p q j : Nat) (v : Value) : But2 w (w.setCell ⟨p, j, none⟩ v) p q :=
  ⟨rfl, rfl, rfl, by simp [World.setCell], fun k _ h _ => heap_setCell_other w _ k v h⟩
theorem But2.grown {w w' : World} {q : Nat} (h : w.grownBy w' (some q)) (p : Nat) : But2 w w' p q :=
  ⟨h.os, h.tape, h.output, h.size, fun k hk _ h2 => h.block k hk (fun e => h2 (Option.some.inj e))⟩
theorem SrcAt.but2 {w w' : World} {ao : Option Addr} {cap : Nat} {bs : List UInt8} {B off p q : Nat} (h : SrcAt w ao cap bs B off) (hb : But2 w w' p q) (h1 : B ≠ p) (h2 : B ≠ q) : SrcAt w' ao cap bs B off := by
  refine ⟨h.le, h.top, h.src, h.bare, fun hp => Nat.lt_of_lt_of_le (h.old hp) hb.size, fun j hj => ?_⟩
  rw [← h.cell j hj]
  unfold World.cell?
  rw [hb.block B (h.old (by omega)) h1 h2]
theorem But2.below {w w' : World} {p q base : Nat} (h : But2 w w' p q) (hs : base ≤ w.heap.size) (hp : base ≤ p) (hq : base ≤ q) : Below base w w' :=
  ⟨h.os, h.tape, h.output, h.size, fun k hk => h.block k (by omega) (by omega) (by omega)⟩
theorem below_grown {w w' : World} (h : Below w.heap.size w w') : w.grownBy w' none := ⟨h.os, h.tape, h.output, h.size, fun k hk _ => h.block k hk⟩
theorem wp_still_drew {P : Program} {id : Nat} {Q : Exit → Act → World → Prop} {a : Act} {w w1 : World} {l : List Oper} (hw : w1 = w.drew) (n : Nat) (hm : P.follows .mixedOrders = true) (hB : Region.lexTailB .any l.toArray n = true)
    (h : wpStill P l.toArray w1 (fun a' => wpList P l.toArray Q (l.drop n) a' w1) (l.take n) a) : (Code.region id l.toArray true).wp P Q a w := by
  subst hw
  exact wp_region_still_tail n hm hB h
theorem fourAt_x (ao : Option Addr) (cap : Nat) (bs : List UInt8) (B off : Nat) (k : Nat) (x0 x1 x2 x3 : UInt8) (w : World) (h : SrcAt w ao cap bs B off) (hk : k + 4 ≤ bs.length) (hs : bs.length ≤ 281474976710656) (hx : four bs k = [x0, x1, x2, x3]) :
    Calls Try.prog 31 #[.slice ao bs.length cap, .int .i64 (k : Int)] w fun e w' => e = .returned (.agg #[.int .u8 (x0.toNat : Int), .int .u8 (x1.toNat : Int), .int .u8 (x2.toNat : Int), .int .u8 (x3.toNat : Int)]) ∧ Below w.heap.size w w' := by
  have h1 := fourAt_any ao cap bs B off k w h hk hs
  rw [hx] at h1
  exact h1
theorem look_x {w : World} {mb n : Nat} {D : DataW Unit} {f : List UInt8} {x0 x1 x2 x3 : UInt8} (hown : MapAt w mb n D) (hx : f = [x0, x1, x2, x3]) :
    ∃ (c : Int), D.atKey (fourK f) (.lit (.int .i64 0)) = .lit (.int .i64 c) ∧
      (∀ m, (Instr.lookup 35 (.map (some mb)) (.agg #[.int .u8 (x0.toNat : Int), .int .u8 (x1.toNat : Int), .int .u8 (x2.toNat : Int), .int .u8 (x3.toNat : Int)]) true).run Try.prog (w.drewN m) = .ok (.tuple #[.int .i64 c, .bool (has D (fourK f))]) (w.drewN m)) ∧
      (∀ m, (Instr.lookup 35 (.map (some mb)) (.agg #[.int .u8 (x0.toNat : Int), .int .u8 (x1.toNat : Int), .int .u8 (x2.toNat : Int), .int .u8 (x3.toNat : Int)]) false).run Try.prog (w.drewN m) = .ok (.int .i64 c) (w.drewN m)) := by
  obtain ⟨c, O, h1, _, h2, h3, h4⟩ := look_run hown (f := f) (by rw [hx]; rfl)
  subst hx
  exact ⟨c, h1, fun m => h3 _ h2, fun m => h4 _ h2⟩
/-- What add leaves. -/
def Added (w : World) (bs : List UInt8) (i pb mb n : Nat) (w' : World) : Prop :=
  ∃ (D : DataW Unit) (tab : Nat → Int), TabAt w' pb mb tab ∧ MapAt w' mb (n + 1) D ∧ NearIs D bs (i + 1) ∧ BackIs tab bs (i + 1) ∧ But2 w w' pb mb
/-- What stands ahead of the second half of add. -/
structure Half (w : World) (bs : List UInt8) (i pb mb n : Nat) (w' : World) (D : DataW Unit) (tab : Nat → Int) : Prop where
  t : TabAt w' pb mb tab
  m : MapAt w' mb n D
  near : NearGone D bs i
  back : BackIs tab bs i
  but : But2 w w' pb mb
theorem row_cells {w : World} {g : Nat} {x0 x1 x2 x3 : UInt8} (h : w.heap[g]? = some (.cells #[.int .u8 (x0.toNat : Int), .int .u8 (x1.toNat : Int), .int .u8 (x2.toNat : Int), .int .u8 (x3.toNat : Int)] 55 (0, 0))) :
    w.cell? ⟨g, 0, none⟩ = some (.int .u8 (x0.toNat : Int)) ∧ w.cell? ⟨g, 1, none⟩ = some (.int .u8 (x1.toNat : Int)) ∧ w.cell? ⟨g, 2, none⟩ = some (.int .u8 (x2.toNat : Int)) ∧ w.cell? ⟨g, 3, none⟩ = some (.int .u8 (x3.toNat : Int)) :=
  ⟨cell_of_row _ _ _ _ _ _ h, cell_of_row _ _ _ _ _ _ h, cell_of_row _ _ _ _ _ _ h, cell_of_row _ _ _ _ _ _ h⟩
theorem tab_map_ne {w : World} {pb mb n : Nat} {tab : Nat → Int} {D : DataW Unit} (h : TabAt w pb mb tab) (hm : MapAt w mb n D) : pb ≠ mb := by
  obtain ⟨C, h1, _⟩ := h
  obtain ⟨es, clock, h2, _⟩ := hm
  intro e
  rw [e, h2] at h1
  cases h1
set_option maxRecDepth 100000 in
set_option maxHeartbeats 3200000 in
theorem add_any (ao : Option Addr) (cap : Nat) (bs : List UInt8) (B off : Nat) (i pb mb n : Nat) (D : DataW Unit) (tab : Nat → Int) (w : World) (h : SrcAt w ao cap bs B off) (hs : bs.length ≤ 281474976710656) (hi : i + 4 ≤ bs.length)
    (ht : TabAt w pb mb tab) (hm : MapAt w mb n D) (hn : NearIs D bs i) (hb : BackIs tab bs i) (hB : B ≠ pb) (hB2 : B ≠ mb) (hnl : n + 1 < maxLen) :
    Calls Try.prog 21 #[.pointer (some ⟨pb, 0, none⟩), .slice ao bs.length cap, .int .i64 (i : Int)] w fun e w' => e = .returned (.tuple #[]) ∧ Added w bs i pb mb n w' := by
  have hpm := tab_map_ne ht hm
  have hml := hm.lt
  have hi0 : i % 4096 < 4096 := Nat.mod_lt _ (by omega)
  obtain ⟨y0, y1, y2, y3, hy⟩ : ∃ x0 x1 x2 x3, four bs i = [x0, x1, x2, x3] := ⟨_, _, _, _, rfl⟩
  have hfour2 := fun (W : World) (hW : SrcAt W ao cap bs B off) => fourAt_x ao cap bs B off i y0 y1 y2 y3 W hW (by omega) hs hy
  have hfour1 : 4096 ≤ i → ∃ x0 x1 x2 x3, four bs (i - 4096) = [x0, x1, x2, x3] ∧ ∀ (W : World), SrcAt W ao cap bs B off → Calls Try.prog 31 #[.slice ao bs.length cap, .int .i64 ((i : Int) - 4096)] W fun e w' => e = .returned (.agg #[.int .u8 (x0.toNat : Int), .int .u8 (x1.toNat : Int), .int .u8 (x2.toNat : Int), .int .u8 (x3.toNat : Int)]) ∧ Below W.heap.size W w' := fun hf => by
    have e1 : ((i - 4096 : Nat) : Int) = (i : Int) - 4096 := by omega
    have hh := fun (W : World) (hW : SrcAt W ao cap bs B off) => fourAt_x ao cap bs B off (i - 4096) _ _ _ _ W hW (by omega) hs rfl
    rw [e1] at hh
    exact ⟨_, _, _, _, rfl, hh⟩
  obtain ⟨N, hN⟩ : ∃ N, N = bs.length := ⟨_, rfl⟩
  rw [← hN] at hs hi hfour1 hfour2 ⊢
  have HY := Lib.hid hy
  have HF1 := Lib.hid hfour1
  have HF2 := Lib.hid hfour2
  clear hy hN hfour1 hfour2
  have hcI : ∀ (W : World) (tb : Nat → Int), TabAt W pb mb tb → W.cell? ⟨pb, 1 + i % 4096, none⟩ = some (.int .i64 (tb (i % 4096))) ∧ W.frozen? ⟨pb, 1 + i % 4096, none⟩ = false := fun _ _ hh => ⟨hh.cell _ hi0, hh.frozen _⟩
  have HCI := Lib.hid hcI
  clear hcI
  by_cases hf : 4096 ≤ i
  · obtain ⟨x0, x1, x2, x3, hx, h4⟩ := HF1.out hf
    have HX := Lib.hid hx
    have H4 := Lib.hid h4
    clear HF1 hx h4
    go_enter Try.func21, Try.ntmps21
    go_wp2_with fail
    refine (H4.out _ h).mono ?_
    rintro e w1 ⟨rfl, b1⟩
    go_wp2_with fail
    have hz1 : w.heap.size ≤ w1.heap.size := b1.size
    obtain ⟨w2, hw2⟩ : ∃ w2, w2 = w1.alloc (.cells #[.int .u8 (x0.toNat : Int), .int .u8 (x1.toNat : Int), .int .u8 (x2.toNat : Int), .int .u8 (x3.toNat : Int)] 55) := ⟨_, rfl⟩
    have b2 : Below w.heap.size w w2 := by rw [hw2]; exact b1.alloc hz1 _
    have hrow : w2.heap[w1.heap.size]? = some (.cells #[.int .u8 (x0.toNat : Int), .int .u8 (x1.toNat : Int), .int .u8 (x2.toNat : Int), .int .u8 (x3.toNat : Int)] 55 (0, 0)) := by rw [hw2]; exact heap_alloc_new _ _
    rw [← hw2]
    obtain ⟨g, hg⟩ : ∃ g, g = w1.heap.size := ⟨_, rfl⟩
    rw [← hg] at hrow ⊢
    clear hw2 hg hz1 b1 H4
    have t2 := ht.below b2
    have m2 : MapAt w2 mb n D := hm.kept (below_grown b2) (by simp)
    have u2 := But2.of_below b2 pb mb
    have n1 := t2.cell0
    obtain ⟨c0, c1, c2, c3⟩ := row_cells hrow
    obtain ⟨c, hc, _, hl⟩ := look_x m2 HX.out
    obtain ⟨k, rfl, hk1, hk2⟩ := near_look hn hf hc
    have HK := Lib.hid hk1
    clear hc hk1 hrow b2
    obtain ⟨q1, q2⟩ := HCI.out _ _ t2
    by_cases hgone : k = i - 4096
    · have hq : ((k : Int) == (i : Int) - 4096) = true := by simp; omega
      have hdel := near_del hn hf (by rw [HK.out, hgone])
      rw [HX.out] at hdel
      have HG := Lib.hid hdel
      clear hdel hgone
      go_quiet (fail)
      go_wp2
      obtain ⟨w3, hw3⟩ : ∃ w3, w3 = w2.drewN nq := ⟨_, rfl⟩
      rw [← hw3]
      obtain ⟨w4, hw4⟩ : ∃ w4, w4 = w3.drew := ⟨_, rfl⟩
      rw [show w2.cell? = w4.cell? by rw [hw4, hw3]; rfl] at n1 c0 c1 c2 c3
      have b4 : Below w2.heap.size w2 w4 := by rw [hw4, hw3]; exact (below_drewN (Below.refl _ _) nq).drew
      have m4 : MapAt w4 mb n D := m2.kept (below_grown b4) (by simp)
      have t4 := t2.below b4
      have u4 := u2.trans (But2.of_below b4 pb mb)
      refine wp_still_drew hw4 5 (by kernel_rfl) (by kernel_rfl) ?_
      clear hw4 hw3 b4 t2 m2 u2 hl q1 q2
      simp only [List.take_succ_cons, List.take_zero, List.drop_succ_cons, List.drop_zero]
      repeat still_step
      refine wpStill_nil ?_
      go_wp2_with (at_delete; refine wpList_delete_own _ rfl _ _ 35 55 rfl 3 K53 Try.underlying35 _ mb n D rfl m4 (fourV [x0, x1, x2, x3]) (fourK [x0, x1, x2, x3]) rfl (fourK_is (f := [x0, x1, x2, x3]) rfl) ?_; intro w5 m5 hturn; have t5 := t4.of_heap (hturn.grown.block pb t4.lt (fun e => hpm (Option.some.inj e))); have u5 := u4.trans (But2.grown hturn.grown pb); obtain ⟨q1, q2⟩ := HCI.out _ _ t5; clear hturn m4 t4 u4 n1 c0 c1 c2 c3)
      have hhalf : Half w bs i pb mb n w5 _ tab := ⟨t5, m5, HG.out, hb, u5⟩
      clear t5 m5 u5 HG HK HX
      obtain ⟨W, hW⟩ : ∃ W, W = w5 := ⟨_, rfl⟩
      obtain ⟨Da, hh⟩ : ∃ Da, Half w bs i pb mb n W Da tab := ⟨_, by rw [hW]; exact hhalf⟩
      rw [← hW]
      clear hhalf hW
      obtain ⟨tA, mA, nA, bA, uA⟩ := hh
      obtain ⟨w6, hw6⟩ : ∃ w6, w6 = W.setCell ⟨pb, 1 + i % 4096, none⟩ (.int .i64 0) := ⟨_, rfl⟩
      have t6 := tA.set (i % 4096) hi0 0
      have u6 := uA.trans (But2.set W pb mb (1 + i % 4096) (.int .i64 0))
      have m6 : MapAt w6 mb n Da := by rw [hw6]; exact mA.setCell (fun e => hpm e.symm) _
      rw [← hw6] at t6 u6 ⊢
      clear hw6 tA mA uA
      refine (HF2.out _ (h.but2 u6 hB hB2)).mono ?_
      rintro e w7 ⟨rfl, b7⟩
      go_wp2_with fail
      have hz7 : w6.heap.size ≤ w7.heap.size := b7.size
      have hp6 := t6.lt
      obtain ⟨w8, hw8⟩ : ∃ w8, w8 = w7.alloc (.cells #[.int .u8 (y0.toNat : Int), .int .u8 (y1.toNat : Int), .int .u8 (y2.toNat : Int), .int .u8 (y3.toNat : Int)] 55) := ⟨_, rfl⟩
      have b8 : Below w6.heap.size w6 w8 := by rw [hw8]; exact b7.alloc hz7 _
      have hrow8 : w8.heap[w7.heap.size]? = some (.cells #[.int .u8 (y0.toNat : Int), .int .u8 (y1.toNat : Int), .int .u8 (y2.toNat : Int), .int .u8 (y3.toNat : Int)] 55 (0, 0)) := by rw [hw8]; exact heap_alloc_new _ _
      rw [← hw8]
      obtain ⟨g8, hg8⟩ : ∃ g, g = w7.heap.size := ⟨_, rfl⟩
      have hgp : g8 ≠ pb := by omega
      rw [← hg8] at hrow8 ⊢
      have t8 := t6.below b8
      have m8 : MapAt w8 mb n Da := m6.kept (below_grown b8) (by simp)
      have u8 := u6.trans (But2.of_below b8 pb mb)
      clear hw8 hg8 hz7 b7 hp6 t6 m6 u6 b8
      have n8 := t8.cell0
      obtain ⟨d0, d1, d2, d3⟩ := row_cells hrow8
      obtain ⟨c8, hc8, hl8, _⟩ := look_x m8 HY.out
      obtain ⟨q3, q4⟩ := HCI.out _ _ t8
      have hsay := nA.says (four bs i) rfl
      have hput := near_put nA
      rw [HY.out] at hput
      have HP := Lib.hid hput
      have hwf : (Lit.int .i64 (i : Int)).wf = true := WalkArith.wf_i64 (by omega)
      have HW := Lib.hid hwf
      have HR := Lib.hid hrow8
      clear hput hwf hrow8 nA
      rcases reach_cases bs (four bs i) i (i + 1) with ⟨hr, _⟩ | ⟨j, hr, hji, _, _, _⟩
      · rw [hr] at hsay
        have hs0 : Go.Maps.has Da (fourK (four bs i)) = false := hsay
        rw [hs0] at hl8
        have hbk : backOf bs i = 0 := by unfold backOf; rw [hr]; rfl
        have HBK := Lib.hid hbk
        clear hs0 hsay hr hbk hc8
        go_quiet (fail)
        go_wp2_with fail
        obtain ⟨w9, hw9⟩ : ∃ w9, w9 = w8.drewN nq := ⟨_, rfl⟩
        rw [← hw9]
        have b9 : Below w8.heap.size w8 w9 := by rw [hw9]; exact below_drewN (Below.refl _ _) nq
        have hr9 : w9.heap[g8]? = _ := below_heap b9 HR.out
        obtain ⟨tab9, t9, back9⟩ : ∃ tab9, TabAt w9 pb mb tab9 ∧ BackIs tab9 bs (i + 1) := ⟨_, t8.below b9, back_put bA (by simp only [if_true]; rw [HBK.out]; rfl) (fun x _ hx => by simp only [if_neg hx])⟩
        have m9 : MapAt w9 mb n Da := m8.kept (below_grown b9) (by simp)
        have u9 := u8.trans (But2.of_below b9 pb mb)
        clear hw9 b9 t8 m8 u8 bA HR HBK n8 d0 d1 d2 d3 hl8 q3 q4
        obtain ⟨w10, hw10⟩ : ∃ w10, w10 = w9.drew := ⟨_, rfl⟩
        have b10 : Below w9.heap.size w9 w10 := by rw [hw10]; exact (Below.refl _ _).drew
        have n10 := (t9.below b10).cell0
        obtain ⟨f0, f1, f2, f3⟩ := row_cells (below_heap b10 hr9)
        have m10 : MapAt w10 mb n Da := m9.kept (below_grown b10) (by simp)
        have t10 := t9.below b10
        have u10 := u9.trans (But2.of_below b10 pb mb)
        refine wp_still_drew hw10 6 (by kernel_rfl) (by kernel_rfl) ?_
        clear hw10 b10 t9 m9 u9 hr9
        simp only [List.take_succ_cons, List.take_zero, List.drop_succ_cons, List.drop_zero]
        repeat still_step
        refine wpStill_nil ?_
        go_wp2_with (at_mapUpdate; refine wpList_mapUpdate_own _ rfl _ _ _ 35 rfl 55 3 K53 Try.underlying35 _ mb n Da rfl m10 (by omega) (fourV [y0, y1, y2, y3]) (.int .i64 (i : Int)) (fourK [y0, y1, y2, y3]) rfl rfl (fourK_is (f := [y0, y1, y2, y3]) rfl) (.lit (.int .i64 (i : Int))) [] (plainElem_int Try.underlying3 HW.out) ?_; intro w11 m11 hg11; have G11 := Lib.hid hg11; clear hg11)
        go_end0
        exact ⟨rfl, _, tab9, t10.of_heap (G11.out.block pb t10.lt (fun e => hpm (Option.some.inj e))), m11, HP.out, back9, u10.trans (But2.grown G11.out pb)⟩
      · rw [hr] at hsay
        have hs0 := hsay.1
        have hs1 := hsay.2
        rw [hs0] at hl8
        rw [hc8] at hs1
        simp only [DataW.lit.injEq, Lit.int.injEq, true_and] at hs1
        subst hs1
        have hbk : backOf bs i = i - j := by unfold backOf; rw [hr]; rfl
        have HBK := Lib.hid hbk
        clear hs0 hsay hr hbk hc8
        go_quiet (fail)
        go_wp2_with fail
        obtain ⟨w9, hw9⟩ : ∃ w9, w9 = (w8.drewN nq).setCell ⟨pb, 1 + i % 4096, none⟩ (.int .i64 ((i : Int) - (j : Int))) := ⟨_, rfl⟩
        rw [← hw9]
        have b9 : Below w8.heap.size w8 (w8.drewN nq) := below_drewN (Below.refl _ _) nq
        have hr9 : w9.heap[g8]? = some (.cells #[.int .u8 (y0.toNat : Int), .int .u8 (y1.toNat : Int), .int .u8 (y2.toNat : Int), .int .u8 (y3.toNat : Int)] 55 (0, 0)) := by rw [hw9, heap_setCell_other _ _ _ _ hgp]; exact below_heap b9 HR.out
        obtain ⟨tab9, t9, back9⟩ : ∃ tab9, TabAt w9 pb mb tab9 ∧ BackIs tab9 bs (i + 1) := by
          refine ⟨_, by rw [hw9]; exact (t8.below b9).set (i % 4096) hi0 _, back_put bA (by simp only [if_true]; rw [HBK.out]; omega) (fun x _ hx => by simp only [if_neg hx])⟩
        have m9 : MapAt w9 mb n Da := by
          rw [hw9]
          exact (m8.kept (below_grown b9) (by simp)).setCell (fun e => hpm e.symm) _
        have u9 : But2 w w9 pb mb := by
          rw [hw9]
          exact (u8.trans (But2.of_below b9 pb mb)).trans (But2.set _ _ _ _ _)
        clear hw9 b9 t8 m8 u8 bA HR HBK n8 d0 d1 d2 d3 hl8 q3 q4
        obtain ⟨w10, hw10⟩ : ∃ w10, w10 = w9.drew := ⟨_, rfl⟩
        have b10 : Below w9.heap.size w9 w10 := by rw [hw10]; exact (Below.refl _ _).drew
        have n10 := (t9.below b10).cell0
        obtain ⟨f0, f1, f2, f3⟩ := row_cells (below_heap b10 hr9)
        have m10 : MapAt w10 mb n Da := m9.kept (below_grown b10) (by simp)
        have t10 := t9.below b10
        have u10 := u9.trans (But2.of_below b10 pb mb)
        refine wp_still_drew hw10 6 (by kernel_rfl) (by kernel_rfl) ?_
        clear hw10 b10 t9 m9 u9 hr9
        simp only [List.take_succ_cons, List.take_zero, List.drop_succ_cons, List.drop_zero]
        repeat still_step
        refine wpStill_nil ?_
        go_wp2_with (at_mapUpdate; refine wpList_mapUpdate_own _ rfl _ _ _ 35 rfl 55 3 K53 Try.underlying35 _ mb n Da rfl m10 (by omega) (fourV [y0, y1, y2, y3]) (.int .i64 (i : Int)) (fourK [y0, y1, y2, y3]) rfl rfl (fourK_is (f := [y0, y1, y2, y3]) rfl) (.lit (.int .i64 (i : Int))) [] (plainElem_int Try.underlying3 HW.out) ?_; intro w11 m11 hg11; have G11 := Lib.hid hg11; clear hg11)
        go_end0
        exact ⟨rfl, _, tab9, t10.of_heap (G11.out.block pb t10.lt (fun e => hpm (Option.some.inj e))), m11, HP.out, back9, u10.trans (But2.grown G11.out pb)⟩
    · have hq : ((k : Int) == (i : Int) - 4096) = false := by simp; omega
      have hhalf : ∀ m, Half w bs i pb mb n (w2.drewN m) D tab := fun m => ⟨t2.below (below_drewN (Below.refl _ _) m), m2.kept (below_grown (below_drewN (Below.refl _ _) m)) (by simp), near_keep hn hf HK.out hgone, hb, u2.trans (But2.of_below (below_drewN (Below.refl _ _) m) _ _)⟩
      have HH := Lib.hid hhalf
      clear hgone hhalf
      go_quiet (fail)
      go_wp2_with fail
      have hhalf := HH.out nq
      clear HH HK HX t2 m2 u2 n1 c0 c1 c2 c3 hl q1 q2
      obtain ⟨W, hW⟩ : ∃ W, W = w2.drewN nq := ⟨_, rfl⟩
      obtain ⟨Da, hh⟩ : ∃ Da, Half w bs i pb mb n W Da tab := ⟨_, by rw [hW]; exact hhalf⟩
      rw [← hW]
      clear hhalf hW
      obtain ⟨tA, mA, nA, bA, uA⟩ := hh
      obtain ⟨w6, hw6⟩ : ∃ w6, w6 = W.setCell ⟨pb, 1 + i % 4096, none⟩ (.int .i64 0) := ⟨_, rfl⟩
      have t6 := tA.set (i % 4096) hi0 0
      have u6 := uA.trans (But2.set W pb mb (1 + i % 4096) (.int .i64 0))
      have m6 : MapAt w6 mb n Da := by rw [hw6]; exact mA.setCell (fun e => hpm e.symm) _
      rw [← hw6] at t6 u6 ⊢
      clear hw6 tA mA uA
      refine (HF2.out _ (h.but2 u6 hB hB2)).mono ?_
      rintro e w7 ⟨rfl, b7⟩
      go_wp2_with fail
      have hz7 : w6.heap.size ≤ w7.heap.size := b7.size
      have hp6 := t6.lt
      obtain ⟨w8, hw8⟩ : ∃ w8, w8 = w7.alloc (.cells #[.int .u8 (y0.toNat : Int), .int .u8 (y1.toNat : Int), .int .u8 (y2.toNat : Int), .int .u8 (y3.toNat : Int)] 55) := ⟨_, rfl⟩
      have b8 : Below w6.heap.size w6 w8 := by rw [hw8]; exact b7.alloc hz7 _
      have hrow8 : w8.heap[w7.heap.size]? = some (.cells #[.int .u8 (y0.toNat : Int), .int .u8 (y1.toNat : Int), .int .u8 (y2.toNat : Int), .int .u8 (y3.toNat : Int)] 55 (0, 0)) := by rw [hw8]; exact heap_alloc_new _ _
      rw [← hw8]
      obtain ⟨g8, hg8⟩ : ∃ g, g = w7.heap.size := ⟨_, rfl⟩
      have hgp : g8 ≠ pb := by omega
      rw [← hg8] at hrow8 ⊢
      have t8 := t6.below b8
      have m8 : MapAt w8 mb n Da := m6.kept (below_grown b8) (by simp)
      have u8 := u6.trans (But2.of_below b8 pb mb)
      clear hw8 hg8 hz7 b7 hp6 t6 m6 u6 b8
      have n8 := t8.cell0
      obtain ⟨d0, d1, d2, d3⟩ := row_cells hrow8
      obtain ⟨c8, hc8, hl8, _⟩ := look_x m8 HY.out
      obtain ⟨q3, q4⟩ := HCI.out _ _ t8
      have hsay := nA.says (four bs i) rfl
      have hput := near_put nA
      rw [HY.out] at hput
      have HP := Lib.hid hput
      have hwf : (Lit.int .i64 (i : Int)).wf = true := WalkArith.wf_i64 (by omega)
      have HW := Lib.hid hwf
      have HR := Lib.hid hrow8
      clear hput hwf hrow8 nA
      rcases reach_cases bs (four bs i) i (i + 1) with ⟨hr, _⟩ | ⟨j, hr, hji, _, _, _⟩
      · rw [hr] at hsay
        have hs0 : Go.Maps.has Da (fourK (four bs i)) = false := hsay
        rw [hs0] at hl8
        have hbk : backOf bs i = 0 := by unfold backOf; rw [hr]; rfl
        have HBK := Lib.hid hbk
        clear hs0 hsay hr hbk hc8
        go_quiet (fail)
        go_wp2_with fail
        obtain ⟨w9, hw9⟩ : ∃ w9, w9 = w8.drewN nq := ⟨_, rfl⟩
        rw [← hw9]
        have b9 : Below w8.heap.size w8 w9 := by rw [hw9]; exact below_drewN (Below.refl _ _) nq
        have hr9 : w9.heap[g8]? = _ := below_heap b9 HR.out
        obtain ⟨tab9, t9, back9⟩ : ∃ tab9, TabAt w9 pb mb tab9 ∧ BackIs tab9 bs (i + 1) := ⟨_, t8.below b9, back_put bA (by simp only [if_true]; rw [HBK.out]; rfl) (fun x _ hx => by simp only [if_neg hx])⟩
        have m9 : MapAt w9 mb n Da := m8.kept (below_grown b9) (by simp)
        have u9 := u8.trans (But2.of_below b9 pb mb)
        clear hw9 b9 t8 m8 u8 bA HR HBK n8 d0 d1 d2 d3 hl8 q3 q4
        obtain ⟨w10, hw10⟩ : ∃ w10, w10 = w9.drew := ⟨_, rfl⟩
        have b10 : Below w9.heap.size w9 w10 := by rw [hw10]; exact (Below.refl _ _).drew
        have n10 := (t9.below b10).cell0
        obtain ⟨f0, f1, f2, f3⟩ := row_cells (below_heap b10 hr9)
        have m10 : MapAt w10 mb n Da := m9.kept (below_grown b10) (by simp)
        have t10 := t9.below b10
        have u10 := u9.trans (But2.of_below b10 pb mb)
        refine wp_still_drew hw10 6 (by kernel_rfl) (by kernel_rfl) ?_
        clear hw10 b10 t9 m9 u9 hr9
        simp only [List.take_succ_cons, List.take_zero, List.drop_succ_cons, List.drop_zero]
        repeat still_step
        refine wpStill_nil ?_
        go_wp2_with (at_mapUpdate; refine wpList_mapUpdate_own _ rfl _ _ _ 35 rfl 55 3 K53 Try.underlying35 _ mb n Da rfl m10 (by omega) (fourV [y0, y1, y2, y3]) (.int .i64 (i : Int)) (fourK [y0, y1, y2, y3]) rfl rfl (fourK_is (f := [y0, y1, y2, y3]) rfl) (.lit (.int .i64 (i : Int))) [] (plainElem_int Try.underlying3 HW.out) ?_; intro w11 m11 hg11; have G11 := Lib.hid hg11; clear hg11)
        go_end0
        exact ⟨rfl, _, tab9, t10.of_heap (G11.out.block pb t10.lt (fun e => hpm (Option.some.inj e))), m11, HP.out, back9, u10.trans (But2.grown G11.out pb)⟩
      · rw [hr] at hsay
        have hs0 := hsay.1
        have hs1 := hsay.2
        rw [hs0] at hl8
        rw [hc8] at hs1
        simp only [DataW.lit.injEq, Lit.int.injEq, true_and] at hs1
        subst hs1
        have hbk : backOf bs i = i - j := by unfold backOf; rw [hr]; rfl
        have HBK := Lib.hid hbk
        clear hs0 hsay hr hbk hc8
        go_quiet (fail)
        go_wp2_with fail
        obtain ⟨w9, hw9⟩ : ∃ w9, w9 = (w8.drewN nq).setCell ⟨pb, 1 + i % 4096, none⟩ (.int .i64 ((i : Int) - (j : Int))) := ⟨_, rfl⟩
        rw [← hw9]
        have b9 : Below w8.heap.size w8 (w8.drewN nq) := below_drewN (Below.refl _ _) nq
        have hr9 : w9.heap[g8]? = some (.cells #[.int .u8 (y0.toNat : Int), .int .u8 (y1.toNat : Int), .int .u8 (y2.toNat : Int), .int .u8 (y3.toNat : Int)] 55 (0, 0)) := by rw [hw9, heap_setCell_other _ _ _ _ hgp]; exact below_heap b9 HR.out
        obtain ⟨tab9, t9, back9⟩ : ∃ tab9, TabAt w9 pb mb tab9 ∧ BackIs tab9 bs (i + 1) := by
          refine ⟨_, by rw [hw9]; exact (t8.below b9).set (i % 4096) hi0 _, back_put bA (by simp only [if_true]; rw [HBK.out]; omega) (fun x _ hx => by simp only [if_neg hx])⟩
        have m9 : MapAt w9 mb n Da := by
          rw [hw9]
          exact (m8.kept (below_grown b9) (by simp)).setCell (fun e => hpm e.symm) _
        have u9 : But2 w w9 pb mb := by
          rw [hw9]
          exact (u8.trans (But2.of_below b9 pb mb)).trans (But2.set _ _ _ _ _)
        clear hw9 b9 t8 m8 u8 bA HR HBK n8 d0 d1 d2 d3 hl8 q3 q4
        obtain ⟨w10, hw10⟩ : ∃ w10, w10 = w9.drew := ⟨_, rfl⟩
        have b10 : Below w9.heap.size w9 w10 := by rw [hw10]; exact (Below.refl _ _).drew
        have n10 := (t9.below b10).cell0
        obtain ⟨f0, f1, f2, f3⟩ := row_cells (below_heap b10 hr9)
        have m10 : MapAt w10 mb n Da := m9.kept (below_grown b10) (by simp)
        have t10 := t9.below b10
        have u10 := u9.trans (But2.of_below b10 pb mb)
        refine wp_still_drew hw10 6 (by kernel_rfl) (by kernel_rfl) ?_
        clear hw10 b10 t9 m9 u9 hr9
        simp only [List.take_succ_cons, List.take_zero, List.drop_succ_cons, List.drop_zero]
        repeat still_step
        refine wpStill_nil ?_
        go_wp2_with (at_mapUpdate; refine wpList_mapUpdate_own _ rfl _ _ _ 35 rfl 55 3 K53 Try.underlying35 _ mb n Da rfl m10 (by omega) (fourV [y0, y1, y2, y3]) (.int .i64 (i : Int)) (fourK [y0, y1, y2, y3]) rfl rfl (fourK_is (f := [y0, y1, y2, y3]) rfl) (.lit (.int .i64 (i : Int))) [] (plainElem_int Try.underlying3 HW.out) ?_; intro w11 m11 hg11; have G11 := Lib.hid hg11; clear hg11)
        go_end0
        exact ⟨rfl, _, tab9, t10.of_heap (G11.out.block pb t10.lt (fun e => hpm (Option.some.inj e))), m11, HP.out, back9, u10.trans (But2.grown G11.out pb)⟩
  · have hhalf : Half w bs i pb mb n w D tab := ⟨ht, hm, near_few hn (by omega), hb, But2.refl _ _ _⟩
    obtain ⟨q1, q2⟩ := HCI.out _ _ ht
    go_enter Try.func21, Try.ntmps21
    go_wp2_with fail
    obtain ⟨W, hW⟩ : ∃ W, W = w := ⟨_, rfl⟩
    obtain ⟨Da, hh⟩ : ∃ Da, Half w bs i pb mb n W Da tab := ⟨_, by rw [hW]; exact hhalf⟩
    rw [← hW]
    clear hhalf hW
    obtain ⟨tA, mA, nA, bA, uA⟩ := hh
    obtain ⟨w6, hw6⟩ : ∃ w6, w6 = W.setCell ⟨pb, 1 + i % 4096, none⟩ (.int .i64 0) := ⟨_, rfl⟩
    have t6 := tA.set (i % 4096) hi0 0
    have u6 := uA.trans (But2.set W pb mb (1 + i % 4096) (.int .i64 0))
    have m6 : MapAt w6 mb n Da := by rw [hw6]; exact mA.setCell (fun e => hpm e.symm) _
    rw [← hw6] at t6 u6 ⊢
    clear hw6 tA mA uA
    refine (HF2.out _ (h.but2 u6 hB hB2)).mono ?_
    rintro e w7 ⟨rfl, b7⟩
    go_wp2_with fail
    have hz7 : w6.heap.size ≤ w7.heap.size := b7.size
    have hp6 := t6.lt
    obtain ⟨w8, hw8⟩ : ∃ w8, w8 = w7.alloc (.cells #[.int .u8 (y0.toNat : Int), .int .u8 (y1.toNat : Int), .int .u8 (y2.toNat : Int), .int .u8 (y3.toNat : Int)] 55) := ⟨_, rfl⟩
    have b8 : Below w6.heap.size w6 w8 := by rw [hw8]; exact b7.alloc hz7 _
    have hrow8 : w8.heap[w7.heap.size]? = some (.cells #[.int .u8 (y0.toNat : Int), .int .u8 (y1.toNat : Int), .int .u8 (y2.toNat : Int), .int .u8 (y3.toNat : Int)] 55 (0, 0)) := by rw [hw8]; exact heap_alloc_new _ _
    rw [← hw8]
    obtain ⟨g8, hg8⟩ : ∃ g, g = w7.heap.size := ⟨_, rfl⟩
    have hgp : g8 ≠ pb := by omega
    rw [← hg8] at hrow8 ⊢
    have t8 := t6.below b8
    have m8 : MapAt w8 mb n Da := m6.kept (below_grown b8) (by simp)
    have u8 := u6.trans (But2.of_below b8 pb mb)
    clear hw8 hg8 hz7 b7 hp6 t6 m6 u6 b8
    have n8 := t8.cell0
    obtain ⟨d0, d1, d2, d3⟩ := row_cells hrow8
    obtain ⟨c8, hc8, hl8, _⟩ := look_x m8 HY.out
    obtain ⟨q3, q4⟩ := HCI.out _ _ t8
    have hsay := nA.says (four bs i) rfl
    have hput := near_put nA
    rw [HY.out] at hput
    have HP := Lib.hid hput
    have hwf : (Lit.int .i64 (i : Int)).wf = true := WalkArith.wf_i64 (by omega)
    have HW := Lib.hid hwf
    have HR := Lib.hid hrow8
    clear hput hwf hrow8 nA
    rcases reach_cases bs (four bs i) i (i + 1) with ⟨hr, _⟩ | ⟨j, hr, hji, _, _, _⟩
    · rw [hr] at hsay
      have hs0 : Go.Maps.has Da (fourK (four bs i)) = false := hsay
      rw [hs0] at hl8
      have hbk : backOf bs i = 0 := by unfold backOf; rw [hr]; rfl
      have HBK := Lib.hid hbk
      clear hs0 hsay hr hbk hc8
      go_quiet (fail)
      go_wp2_with fail
      obtain ⟨w9, hw9⟩ : ∃ w9, w9 = w8.drewN nq := ⟨_, rfl⟩
      rw [← hw9]
      have b9 : Below w8.heap.size w8 w9 := by rw [hw9]; exact below_drewN (Below.refl _ _) nq
      have hr9 : w9.heap[g8]? = _ := below_heap b9 HR.out
      obtain ⟨tab9, t9, back9⟩ : ∃ tab9, TabAt w9 pb mb tab9 ∧ BackIs tab9 bs (i + 1) := ⟨_, t8.below b9, back_put bA (by simp only [if_true]; rw [HBK.out]; rfl) (fun x _ hx => by simp only [if_neg hx])⟩
      have m9 : MapAt w9 mb n Da := m8.kept (below_grown b9) (by simp)
      have u9 := u8.trans (But2.of_below b9 pb mb)
      clear hw9 b9 t8 m8 u8 bA HR HBK n8 d0 d1 d2 d3 hl8 q3 q4
      obtain ⟨w10, hw10⟩ : ∃ w10, w10 = w9.drew := ⟨_, rfl⟩
      have b10 : Below w9.heap.size w9 w10 := by rw [hw10]; exact (Below.refl _ _).drew
      have n10 := (t9.below b10).cell0
      obtain ⟨f0, f1, f2, f3⟩ := row_cells (below_heap b10 hr9)
      have m10 : MapAt w10 mb n Da := m9.kept (below_grown b10) (by simp)
      have t10 := t9.below b10
      have u10 := u9.trans (But2.of_below b10 pb mb)
      refine wp_still_drew hw10 6 (by kernel_rfl) (by kernel_rfl) ?_
      clear hw10 b10 t9 m9 u9 hr9
      simp only [List.take_succ_cons, List.take_zero, List.drop_succ_cons, List.drop_zero]
      repeat still_step
      refine wpStill_nil ?_
      go_wp2_with (at_mapUpdate; refine wpList_mapUpdate_own _ rfl _ _ _ 35 rfl 55 3 K53 Try.underlying35 _ mb n Da rfl m10 (by omega) (fourV [y0, y1, y2, y3]) (.int .i64 (i : Int)) (fourK [y0, y1, y2, y3]) rfl rfl (fourK_is (f := [y0, y1, y2, y3]) rfl) (.lit (.int .i64 (i : Int))) [] (plainElem_int Try.underlying3 HW.out) ?_; intro w11 m11 hg11; have G11 := Lib.hid hg11; clear hg11)
      go_end0
      exact ⟨rfl, _, tab9, t10.of_heap (G11.out.block pb t10.lt (fun e => hpm (Option.some.inj e))), m11, HP.out, back9, u10.trans (But2.grown G11.out pb)⟩
    · rw [hr] at hsay
      have hs0 := hsay.1
      have hs1 := hsay.2
      rw [hs0] at hl8
      rw [hc8] at hs1
      simp only [DataW.lit.injEq, Lit.int.injEq, true_and] at hs1
      subst hs1
      have hbk : backOf bs i = i - j := by unfold backOf; rw [hr]; rfl
      have HBK := Lib.hid hbk
      clear hs0 hsay hr hbk hc8
      go_quiet (fail)
      go_wp2_with fail
      obtain ⟨w9, hw9⟩ : ∃ w9, w9 = (w8.drewN nq).setCell ⟨pb, 1 + i % 4096, none⟩ (.int .i64 ((i : Int) - (j : Int))) := ⟨_, rfl⟩
      rw [← hw9]
      have b9 : Below w8.heap.size w8 (w8.drewN nq) := below_drewN (Below.refl _ _) nq
      have hr9 : w9.heap[g8]? = some (.cells #[.int .u8 (y0.toNat : Int), .int .u8 (y1.toNat : Int), .int .u8 (y2.toNat : Int), .int .u8 (y3.toNat : Int)] 55 (0, 0)) := by rw [hw9, heap_setCell_other _ _ _ _ hgp]; exact below_heap b9 HR.out
      obtain ⟨tab9, t9, back9⟩ : ∃ tab9, TabAt w9 pb mb tab9 ∧ BackIs tab9 bs (i + 1) := by
        refine ⟨_, by rw [hw9]; exact (t8.below b9).set (i % 4096) hi0 _, back_put bA (by simp only [if_true]; rw [HBK.out]; omega) (fun x _ hx => by simp only [if_neg hx])⟩
      have m9 : MapAt w9 mb n Da := by
        rw [hw9]
        exact (m8.kept (below_grown b9) (by simp)).setCell (fun e => hpm e.symm) _
      have u9 : But2 w w9 pb mb := by
        rw [hw9]
        exact (u8.trans (But2.of_below b9 pb mb)).trans (But2.set _ _ _ _ _)
      clear hw9 b9 t8 m8 u8 bA HR HBK n8 d0 d1 d2 d3 hl8 q3 q4
      obtain ⟨w10, hw10⟩ : ∃ w10, w10 = w9.drew := ⟨_, rfl⟩
      have b10 : Below w9.heap.size w9 w10 := by rw [hw10]; exact (Below.refl _ _).drew
      have n10 := (t9.below b10).cell0
      obtain ⟨f0, f1, f2, f3⟩ := row_cells (below_heap b10 hr9)
      have m10 : MapAt w10 mb n Da := m9.kept (below_grown b10) (by simp)
      have t10 := t9.below b10
      have u10 := u9.trans (But2.of_below b10 pb mb)
      refine wp_still_drew hw10 6 (by kernel_rfl) (by kernel_rfl) ?_
      clear hw10 b10 t9 m9 u9 hr9
      simp only [List.take_succ_cons, List.take_zero, List.drop_succ_cons, List.drop_zero]
      repeat still_step
      refine wpStill_nil ?_
      go_wp2_with (at_mapUpdate; refine wpList_mapUpdate_own _ rfl _ _ _ 35 rfl 55 3 K53 Try.underlying35 _ mb n Da rfl m10 (by omega) (fourV [y0, y1, y2, y3]) (.int .i64 (i : Int)) (fourK [y0, y1, y2, y3]) rfl rfl (fourK_is (f := [y0, y1, y2, y3]) rfl) (.lit (.int .i64 (i : Int))) [] (plainElem_int Try.underlying3 HW.out) ?_; intro w11 m11 hg11; have G11 := Lib.hid hg11; clear hg11)
      go_end0
      exact ⟨rfl, _, tab9, t10.of_heap (G11.out.block pb t10.lt (fun e => hpm (Option.some.inj e))), m11, HP.out, back9, u10.trans (But2.grown G11.out pb)⟩
end Go.Proofs.Ytjieljmlpbiidaa
