/- What the proofs stand on: PressAdd, PressZero, PressPlaced, Press. -/
import Derived.StillTailTactics
import Derived.Test.YtomgijcbekjlaaaGreatP39
import Derived.Test.YtomgijcbekjlaaaGreatP1
import Derived.Test.YtomgijcbekjlaaaGreatPB0
import Derived.Test.YtomgijcbekjlaaaGreatPB1
set_option maxRecDepth 100000
set_option maxHeartbeats 40000000
namespace Go.Proofs.YtomgijcbekjlaaaGreat
section
open Go.RowKit
open Go.Maps (has)
structure But2 (w w' : World) (p q : Nat) : Prop where
 os : w'.os = w.os
 tape : w'.tape = w.tape
 output : w'.output = w.output
 size : w.heap.size <= w'.heap.size
 block : ∀ k, k < w.heap.size -> k ≠ p -> k ≠ q -> w'.heap[k]? = w.heap[k]?
theorem But2.refl (w : World) (p q : Nat) : But2 w w p q := ⟨rfl, rfl, rfl, Nat.le_refl _, fun _ _ _ _ => rfl⟩
theorem But2.trans {a b c : World} {p q : Nat} (h : But2 a b p q) (k : But2 b c p q) : But2 a c p q :=
 ⟨k.os.trans h.os, k.tape.trans h.tape, k.output.trans h.output, Nat.le_trans h.size k.size, fun i hi h1 h2 => (k.block i (Nat.lt_of_lt_of_le hi h.size) h1 h2).trans (h.block i hi h1 h2)⟩
theorem But2.of_below {w w' : World} (h : Below w.heap.size w w') (p q : Nat) : But2 w w' p q := ⟨h.os, h.tape, h.output, h.size, fun k hk _ _ => h.block k hk⟩
theorem But2.set (w : World) (p q j : Nat) (v : Value) : But2 w (w.setCell ⟨p, j, none⟩ v) p q :=
 ⟨rfl, rfl, rfl, by simp [World.setCell], fun k _ h _ => heap_setCell_other w _ k v h⟩
theorem But2.grown {w w' : World} {q : Nat} (h : w.grownBy w' (some q)) (p : Nat) : But2 w w' p q :=
 ⟨h.os, h.tape, h.output, h.size, fun k hk _ h2 => h.block k hk (fun e => h2 (Option.some.inj e))⟩
theorem SrcAt.but2 {w w' : World} {ao : Option Addr} {cap : Nat} {bs : List UInt8} {B off p q : Nat} (h : SrcAt w ao cap bs B off) (hb : But2 w w' p q) (h1 : B ≠ p) (h2 : B ≠ q) : SrcAt w' ao cap bs B off := by
 refine ⟨h.le, h.top, h.src, h.bare, fun hp => Nat.lt_of_lt_of_le (h.old hp) hb.size, fun j hj => ?_⟩
 rw [<- h.cell j hj]; unfold World.cell?
 rw [hb.block B (h.old (by omega)) h1 h2]
theorem But2.below {w w' : World} {p q base : Nat} (h : But2 w w' p q) (hs : base <= w.heap.size) (hp : base <= p) (hq : base <= q) : Below base w w' :=
 ⟨h.os, h.tape, h.output, h.size, fun k hk => h.block k (by omega) (by omega) (by omega)⟩
theorem below_grown {w w' : World} (h : Below w.heap.size w w') : w.grownBy w' none := ⟨h.os, h.tape, h.output, h.size, fun k hk _ => h.block k hk⟩
theorem wp_still_drew {P : Program} {id : Nat} {Q : Exit -> Act -> World -> Prop} {a : Act} {w w1 : World} {l : List Oper} (hw : w1 = w.drew) (n : Nat) (hm : P.follows .mixedOrders = true) (hB : Region.lexTailB .any l.toArray n = true)
  (h : wpStill P l.toArray w1 (fun a' => wpList P l.toArray Q (l.drop n) a' w1) (l.take n) a) : (Code.region id l.toArray true).wp P Q a w := by
 subst hw; exact wp_region_still_tail n hm hB h
theorem fourAt_x (ao : Option Addr) (cap : Nat) (bs : List UInt8) (B off : Nat) (k : Nat) (x0 x1 x2 x3 : UInt8) (w : World) (h : SrcAt w ao cap bs B off) (hk : k + 4 <= bs.length) (hs : bs.length <= 281474976710656) (hx : four bs k = [x0, x1, x2, x3]) :
  Calls Tryz.prog 170 #[.slice ao bs.length cap, .int .i64 (k : Int)] w fun e w' => e = .returned (.agg #[.int .u8 (x0.toNat : Int), .int .u8 (x1.toNat : Int), .int .u8 (x2.toNat : Int), .int .u8 (x3.toNat : Int)]) /\ Below w.heap.size w w' := by
 have h1 := fourAt_any ao cap bs B off k w h hk hs; rw [hx] at h1; exact h1
theorem look_x {w : World} {mb n : Nat} {D : DataW Unit} {f : List UInt8} {x0 x1 x2 x3 : UInt8} (hown : MapAt w mb n D) (hx : f = [x0, x1, x2, x3]) :
  ∃ (c : Int), D.atKey (fourK f) (.lit (.int .i64 0)) = .lit (.int .i64 c) /\
   (∀ m, (Instr.lookup 189 (.map (some mb)) (.agg #[.int .u8 (x0.toNat : Int), .int .u8 (x1.toNat : Int), .int .u8 (x2.toNat : Int), .int .u8 (x3.toNat : Int)]) true).run Tryz.prog (w.drewN m) = .ok (.tuple #[.int .i64 c, .bool (has D (fourK f))]) (w.drewN m)) /\
   (∀ m, (Instr.lookup 189 (.map (some mb)) (.agg #[.int .u8 (x0.toNat : Int), .int .u8 (x1.toNat : Int), .int .u8 (x2.toNat : Int), .int .u8 (x3.toNat : Int)]) false).run Tryz.prog (w.drewN m) = .ok (.int .i64 c) (w.drewN m)) := by
 obtain ⟨c, O, h1, _, h2, h3, h4⟩ := look_run hown (f := f) (by rw [hx]; rfl)
 subst hx; exact ⟨c, h1, fun m => h3 _ h2, fun m => h4 _ h2⟩
def Added (w : World) (bs : List UInt8) (i pb mb n : Nat) (w' : World) : Prop :=
 ∃ (D : DataW Unit) (tab : Nat -> Int), TabAt w' pb mb tab /\ MapAt w' mb (n + 1) D /\ NearIs D bs (i + 1) /\ BackIs tab bs (i + 1) /\ But2 w w' pb mb
structure Half (w : World) (bs : List UInt8) (i pb mb n : Nat) (w' : World) (D : DataW Unit) (tab : Nat -> Int) : Prop where
 t : TabAt w' pb mb tab
 m : MapAt w' mb n D
 near : NearGone D bs i
 back : BackIs tab bs i
 but : But2 w w' pb mb
theorem row_cells {w : World} {g : Nat} {x0 x1 x2 x3 : UInt8} (h : w.heap[g]? = some (.cells #[.int .u8 (x0.toNat : Int), .int .u8 (x1.toNat : Int), .int .u8 (x2.toNat : Int), .int .u8 (x3.toNat : Int)] 208 (0, 0))) :
  w.cell? ⟨g, 0, none⟩ = some (.int .u8 (x0.toNat : Int)) /\ w.cell? ⟨g, 1, none⟩ = some (.int .u8 (x1.toNat : Int)) /\ w.cell? ⟨g, 2, none⟩ = some (.int .u8 (x2.toNat : Int)) /\ w.cell? ⟨g, 3, none⟩ = some (.int .u8 (x3.toNat : Int)) :=
 ⟨cell_of_row _ _ _ _ _ _ h, cell_of_row _ _ _ _ _ _ h, cell_of_row _ _ _ _ _ _ h, cell_of_row _ _ _ _ _ _ h⟩
theorem tab_map_ne {w : World} {pb mb n : Nat} {tab : Nat -> Int} {D : DataW Unit} (h : TabAt w pb mb tab) (hm : MapAt w mb n D) : pb ≠ mb := by
 obtain ⟨C, h1, _⟩ := h; obtain ⟨es, clock, h2, _⟩ := hm; intro e
 rw [e, h2] at h1
 cases h1
theorem add_any (ao : Option Addr) (cap : Nat) (bs : List UInt8) (B off : Nat) (i pb mb n : Nat) (D : DataW Unit) (tab : Nat -> Int) (w : World) (h : SrcAt w ao cap bs B off) (hs : bs.length <= 281474976710656) (hi : i + 4 <= bs.length)
  (ht : TabAt w pb mb tab) (hm : MapAt w mb n D) (hn : NearIs D bs i) (hb : BackIs tab bs i) (hB : B ≠ pb) (hB2 : B ≠ mb) (hnl : n + 1 < maxLen) :
  Calls Tryz.prog 149 #[.pointer (some ⟨pb, 0, none⟩), .slice ao bs.length cap, .int .i64 (i : Int)] w fun e w' => e = .returned (.tuple #[]) /\ Added w bs i pb mb n w' := by
 have hpm := tab_map_ne ht hm; have hml := hm.lt; have hi0 : i % 4096 < 4096 := Nat.mod_lt _ (by omega)
 obtain ⟨y0, y1, y2, y3, hy⟩ : ∃ x0 x1 x2 x3, four bs i = [x0, x1, x2, x3] := ⟨_, _, _, _, rfl⟩
 have hfour2 := fun (W : World) (hW : SrcAt W ao cap bs B off) => fourAt_x ao cap bs B off i y0 y1 y2 y3 W hW (by omega) hs hy
 have hfour1 : 4096 <= i -> ∃ x0 x1 x2 x3, four bs (i - 4096) = [x0, x1, x2, x3] /\ ∀ (W : World), SrcAt W ao cap bs B off -> Calls Tryz.prog 170 #[.slice ao bs.length cap, .int .i64 ((i : Int) - 4096)] W fun e w' => e = .returned (.agg #[.int .u8 (x0.toNat : Int), .int .u8 (x1.toNat : Int), .int .u8 (x2.toNat : Int), .int .u8 (x3.toNat : Int)]) /\ Below W.heap.size W w' := fun hf => by
  have e1 : ((i - 4096 : Nat) : Int) = (i : Int) - 4096 := by omega
  have hh := fun (W : World) (hW : SrcAt W ao cap bs B off) => fourAt_x ao cap bs B off (i - 4096) _ _ _ _ W hW (by omega) hs rfl
  rw [e1] at hh; exact ⟨_, _, _, _, rfl, hh⟩
 obtain ⟨N, hN⟩ := nm_ (bs.length); rw [<- hN] at hs hi hfour1 hfour2 |-; have HY := h_ hy; have HF1 := h_ hfour1; have HF2 := h_ hfour2; clear hy hN hfour1 hfour2; have hcI : ∀ (W : World) (tb : Nat -> Int), TabAt W pb mb tb -> W.cell? ⟨pb, 1 + i % 4096, none⟩ = some (.int .i64 (tb (i % 4096))) /\ W.frozen? ⟨pb, 1 + i % 4096, none⟩ = false := fun _ _ hh => ⟨hh.cell _ hi0, hh.frozen _⟩
 have HCI := h_ hcI; clear hcI; by_cases hf : 4096 <= i
 ·obtain ⟨x0, x1, x2, x3, hx, h4⟩ := HF1.out hf
  have HX := h_ hx; have H4 := h_ h4; clear HF1 hx h4; go_enter Tryz.func149, Tryz.ntmps149; go_wp2_with fail; refine (H4.out _ h).mono ?_; rintro e w1 ⟨rfl, b1⟩; go_wp2_with fail; have hz1 : w.heap.size <= w1.heap.size := b1.size
  obtain ⟨w2, hw2⟩ : ∃ w2, w2 = w1.alloc (.cells #[.int .u8 (x0.toNat : Int), .int .u8 (x1.toNat : Int), .int .u8 (x2.toNat : Int), .int .u8 (x3.toNat : Int)] 208) := ⟨_, rfl⟩
  have b2 : Below w.heap.size w w2 := by rw [hw2]; exact b1.alloc hz1 _
  have hrow : w2.heap[w1.heap.size]? = some (.cells #[.int .u8 (x0.toNat : Int), .int .u8 (x1.toNat : Int), .int .u8 (x2.toNat : Int), .int .u8 (x3.toNat : Int)] 208 (0, 0)) := by rw [hw2]; exact heap_alloc_new _ _
  rw [<- hw2]; obtain ⟨g, hg⟩ := nm_ (w1.heap.size); rw [<- hg] at hrow |-; clear hw2 hg hz1 b1 H4; have t2 := ht.below b2; have m2 : MapAt w2 mb n D := hm.kept (below_grown b2) (by simp)
  have u2 := But2.of_below b2 pb mb; have n1 := t2.cell0; obtain ⟨c0, c1, c2, c3⟩ := row_cells hrow; obtain ⟨c, hc, _, hl⟩ := look_x m2 HX.out; obtain ⟨k, rfl, hk1, hk2⟩ := near_look hn hf hc; have HK := h_ hk1; clear hc hk1 hrow b2; obtain ⟨q1, q2⟩ := HCI.out _ _ t2; by_cases hgone : k = i - 4096
  ·have hq : ((k : Int) == (i : Int) - 4096) = true := by simp; omega
   have hdel := near_del hn hf (by rw [HK.out, hgone])
   rw [HX.out] at hdel; have HG := h_ hdel; clear hdel hgone; go_quiet (fail)
   go_wp2; obtain ⟨w3, hw3⟩ := nm_ (w2.drewN nq); rw [<- hw3]; obtain ⟨w4, hw4⟩ := nm_ (w3.drew); rw [show w2.cell? = w4.cell? by rw [hw4, hw3]; rfl] at n1 c0 c1 c2 c3
   have b4 : Below w2.heap.size w2 w4 := by rw [hw4, hw3]; exact (below_drewN (Below.refl _ _) nq).drew
   have m4 : MapAt w4 mb n D := m2.kept (below_grown b4) (by simp)
   have t4 := t2.below b4; have u4 := u2.trans (But2.of_below b4 pb mb); refine wp_still_drew hw4 5 (by kernel_rfl) (by kernel_rfl) ?_
   clear hw4 hw3 b4 t2 m2 u2 hl q1 q2; simp only [List.take_succ_cons, List.take_zero, List.drop_succ_cons, List.drop_zero]
   repeat still_step
   refine wpStill_nil ?_; go_wp2_with (at_delete; refine wpList_delete_own _ rfl _ _ 189 208 rfl 3 K53 Tryz.underlying189 _ mb n D rfl m4 (fourV [x0, x1, x2, x3]) (fourK [x0, x1, x2, x3]) rfl (fourK_is (f := [x0, x1, x2, x3]) rfl) ?_; intro w5 m5 hturn; have t5 := t4.of_heap (hturn.grown.block pb t4.lt (fun e => hpm (Option.some.inj e))); have u5 := u4.trans (But2.grown hturn.grown pb); obtain ⟨q1, q2⟩ := HCI.out _ _ t5; clear hturn m4 t4 u4 n1 c0 c1 c2 c3)
   have hhalf : Half w bs i pb mb n w5 _ tab := ⟨t5, m5, HG.out, hb, u5⟩; clear t5 m5 u5 HG HK HX; obtain ⟨W, hW⟩ := nm_ (w5); obtain ⟨Da, hh⟩ : ∃ Da, Half w bs i pb mb n W Da tab := ⟨_, by rw [hW]; exact hhalf⟩
   rw [<- hW]; clear hhalf hW; obtain ⟨tA, mA, nA, bA, uA⟩ := hh; obtain ⟨w6, hw6⟩ := nm_ (W.setCell ⟨pb, 1 + i % 4096, none⟩ (.int .i64 0)); have t6 := tA.set (i % 4096) hi0 0; have u6 := uA.trans (But2.set W pb mb (1 + i % 4096) (.int .i64 0)); have m6 : MapAt w6 mb n Da := by rw [hw6]; exact mA.setCell (fun e => hpm e.symm) _
   rw [<- hw6] at t6 u6 |-; clear hw6 tA mA uA; refine (HF2.out _ (h.but2 u6 hB hB2)).mono ?_; rintro e w7 ⟨rfl, b7⟩; go_wp2_with fail; have hz7 : w6.heap.size <= w7.heap.size := b7.size
   have hp6 := t6.lt; obtain ⟨w8, hw8⟩ : ∃ w8, w8 = w7.alloc (.cells #[.int .u8 (y0.toNat : Int), .int .u8 (y1.toNat : Int), .int .u8 (y2.toNat : Int), .int .u8 (y3.toNat : Int)] 208) := ⟨_, rfl⟩
   have b8 : Below w6.heap.size w6 w8 := by rw [hw8]; exact b7.alloc hz7 _
   have hrow8 : w8.heap[w7.heap.size]? = some (.cells #[.int .u8 (y0.toNat : Int), .int .u8 (y1.toNat : Int), .int .u8 (y2.toNat : Int), .int .u8 (y3.toNat : Int)] 208 (0, 0)) := by rw [hw8]; exact heap_alloc_new _ _
   rw [<- hw8]; obtain ⟨g8, hg8⟩ := nm_ (w7.heap.size); have hgp : g8 ≠ pb := by omega
   rw [<- hg8] at hrow8 |-; have t8 := t6.below b8; have m8 : MapAt w8 mb n Da := m6.kept (below_grown b8) (by simp)
   have u8 := u6.trans (But2.of_below b8 pb mb); clear hw8 hg8 hz7 b7 hp6 t6 m6 u6 b8; have n8 := t8.cell0; obtain ⟨d0, d1, d2, d3⟩ := row_cells hrow8; obtain ⟨c8, hc8, hl8, _⟩ := look_x m8 HY.out; obtain ⟨q3, q4⟩ := HCI.out _ _ t8; have hsay := nA.says (four bs i) rfl; have hput := near_put nA; rw [HY.out] at hput; have HP := h_ hput; have hwf : (Lit.int .i64 (i : Int)).wf = true := WalkArith.wf_i64 (by omega)
   have HW := h_ hwf; have HR := h_ hrow8; clear hput hwf hrow8 nA; rcases reach_cases bs (four bs i) i (i + 1) with ⟨hr, _⟩ | ⟨j, hr, hji, _, _, _⟩
   ·rw [hr] at hsay
    have hs0 : Go.Maps.has Da (fourK (four bs i)) = false := hsay
    rw [hs0] at hl8; have hbk : backOf bs i = 0 := by unfold backOf; rw [hr]; rfl
    have HBK := h_ hbk; clear hs0 hsay hr hbk hc8; go_quiet (fail)
    go_wp2_with fail; obtain ⟨w9, hw9⟩ := nm_ (w8.drewN nq); rw [<- hw9]; have b9 : Below w8.heap.size w8 w9 := by rw [hw9]; exact below_drewN (Below.refl _ _) nq
    have hr9 : w9.heap[g8]? = _ := below_heap b9 HR.out
    obtain ⟨tab9, t9, back9⟩ : ∃ tab9, TabAt w9 pb mb tab9 /\ BackIs tab9 bs (i + 1) := ⟨_, t8.below b9, back_put bA (by simp only [if_true]; rw [HBK.out]; rfl) (fun x _ hx => by simp only [if_neg hx])⟩
    have m9 : MapAt w9 mb n Da := m8.kept (below_grown b9) (by simp)
    have u9 := u8.trans (But2.of_below b9 pb mb); clear hw9 b9 t8 m8 u8 bA HR HBK n8 d0 d1 d2 d3 hl8 q3 q4; obtain ⟨w10, hw10⟩ := nm_ (w9.drew); have b10 : Below w9.heap.size w9 w10 := by rw [hw10]; exact (Below.refl _ _).drew
    have n10 := (t9.below b10).cell0; obtain ⟨f0, f1, f2, f3⟩ := row_cells (below_heap b10 hr9); have m10 : MapAt w10 mb n Da := m9.kept (below_grown b10) (by simp)
    have t10 := t9.below b10; have u10 := u9.trans (But2.of_below b10 pb mb); refine wp_still_drew hw10 6 (by kernel_rfl) (by kernel_rfl) ?_
    clear hw10 b10 t9 m9 u9 hr9; simp only [List.take_succ_cons, List.take_zero, List.drop_succ_cons, List.drop_zero]
    repeat still_step
    refine wpStill_nil ?_; go_wp2_with (at_mapUpdate; refine wpList_mapUpdate_own _ rfl _ _ _ 189 rfl 208 3 K53 Tryz.underlying189 _ mb n Da rfl m10 (by omega) (fourV [y0, y1, y2, y3]) (.int .i64 (i : Int)) (fourK [y0, y1, y2, y3]) rfl rfl (fourK_is (f := [y0, y1, y2, y3]) rfl) (.lit (.int .i64 (i : Int))) [] (plainElem_int Tryz.underlying3 HW.out) ?_; intro w11 m11 hg11; have G11 := h_ hg11; clear hg11)
    go_end0
    exact ⟨rfl, _, tab9, t10.of_heap (G11.out.block pb t10.lt (fun e => hpm (Option.some.inj e))), m11, HP.out, back9, u10.trans (But2.grown G11.out pb)⟩
   ·rw [hr] at hsay
    have hs0 := hsay.1; have hs1 := hsay.2; rw [hs0] at hl8; rw [hc8] at hs1; simp only [DataW.lit.injEq, Lit.int.injEq, true_and] at hs1; subst hs1; have hbk : backOf bs i = i - j := by unfold backOf; rw [hr]; rfl
    have HBK := h_ hbk; clear hs0 hsay hr hbk hc8; go_quiet (fail)
    go_wp2_with fail; obtain ⟨w9, hw9⟩ : ∃ w9, w9 = (w8.drewN nq).setCell ⟨pb, 1 + i % 4096, none⟩ (.int .i64 ((i : Int) - (j : Int))) := ⟨_, rfl⟩
    rw [<- hw9]; have b9 : Below w8.heap.size w8 (w8.drewN nq) := below_drewN (Below.refl _ _) nq; have hr9 : w9.heap[g8]? = some (.cells #[.int .u8 (y0.toNat : Int), .int .u8 (y1.toNat : Int), .int .u8 (y2.toNat : Int), .int .u8 (y3.toNat : Int)] 208 (0, 0)) := by rw [hw9, heap_setCell_other _ _ _ _ hgp]; exact below_heap b9 HR.out
    obtain ⟨tab9, t9, back9⟩ : ∃ tab9, TabAt w9 pb mb tab9 /\ BackIs tab9 bs (i + 1) := by
     refine ⟨_, by rw [hw9]; exact (t8.below b9).set (i % 4096) hi0 _, back_put bA (by simp only [if_true]; rw [HBK.out]; omega) (fun x _ hx => by simp only [if_neg hx])⟩
    have m9 : MapAt w9 mb n Da := by
     rw [hw9]; exact (m8.kept (below_grown b9) (by simp)).setCell (fun e => hpm e.symm) _
    have u9 : But2 w w9 pb mb := by
     rw [hw9]; exact (u8.trans (But2.of_below b9 pb mb)).trans (But2.set _ _ _ _ _)
    clear hw9 b9 t8 m8 u8 bA HR HBK n8 d0 d1 d2 d3 hl8 q3 q4; obtain ⟨w10, hw10⟩ := nm_ (w9.drew); have b10 : Below w9.heap.size w9 w10 := by rw [hw10]; exact (Below.refl _ _).drew
    have n10 := (t9.below b10).cell0; obtain ⟨f0, f1, f2, f3⟩ := row_cells (below_heap b10 hr9); have m10 : MapAt w10 mb n Da := m9.kept (below_grown b10) (by simp)
    have t10 := t9.below b10; have u10 := u9.trans (But2.of_below b10 pb mb); refine wp_still_drew hw10 6 (by kernel_rfl) (by kernel_rfl) ?_
    clear hw10 b10 t9 m9 u9 hr9; simp only [List.take_succ_cons, List.take_zero, List.drop_succ_cons, List.drop_zero]
    repeat still_step
    refine wpStill_nil ?_; go_wp2_with (at_mapUpdate; refine wpList_mapUpdate_own _ rfl _ _ _ 189 rfl 208 3 K53 Tryz.underlying189 _ mb n Da rfl m10 (by omega) (fourV [y0, y1, y2, y3]) (.int .i64 (i : Int)) (fourK [y0, y1, y2, y3]) rfl rfl (fourK_is (f := [y0, y1, y2, y3]) rfl) (.lit (.int .i64 (i : Int))) [] (plainElem_int Tryz.underlying3 HW.out) ?_; intro w11 m11 hg11; have G11 := h_ hg11; clear hg11)
    go_end0
    exact ⟨rfl, _, tab9, t10.of_heap (G11.out.block pb t10.lt (fun e => hpm (Option.some.inj e))), m11, HP.out, back9, u10.trans (But2.grown G11.out pb)⟩
  ·have hq : ((k : Int) == (i : Int) - 4096) = false := by simp; omega
   have hhalf : ∀ m, Half w bs i pb mb n (w2.drewN m) D tab := fun m => ⟨t2.below (below_drewN (Below.refl _ _) m), m2.kept (below_grown (below_drewN (Below.refl _ _) m)) (by simp), near_keep hn hf HK.out hgone, hb, u2.trans (But2.of_below (below_drewN (Below.refl _ _) m) _ _)⟩
   have HH := h_ hhalf; clear hgone hhalf; go_quiet (fail)
   go_wp2_with fail; have hhalf := HH.out nq; clear HH HK HX t2 m2 u2 n1 c0 c1 c2 c3 hl q1 q2; obtain ⟨W, hW⟩ := nm_ (w2.drewN nq); obtain ⟨Da, hh⟩ : ∃ Da, Half w bs i pb mb n W Da tab := ⟨_, by rw [hW]; exact hhalf⟩
   rw [<- hW]; clear hhalf hW; obtain ⟨tA, mA, nA, bA, uA⟩ := hh; obtain ⟨w6, hw6⟩ := nm_ (W.setCell ⟨pb, 1 + i % 4096, none⟩ (.int .i64 0)); have t6 := tA.set (i % 4096) hi0 0; have u6 := uA.trans (But2.set W pb mb (1 + i % 4096) (.int .i64 0)); have m6 : MapAt w6 mb n Da := by rw [hw6]; exact mA.setCell (fun e => hpm e.symm) _
   rw [<- hw6] at t6 u6 |-; clear hw6 tA mA uA; refine (HF2.out _ (h.but2 u6 hB hB2)).mono ?_; rintro e w7 ⟨rfl, b7⟩; go_wp2_with fail; have hz7 : w6.heap.size <= w7.heap.size := b7.size
   have hp6 := t6.lt; obtain ⟨w8, hw8⟩ : ∃ w8, w8 = w7.alloc (.cells #[.int .u8 (y0.toNat : Int), .int .u8 (y1.toNat : Int), .int .u8 (y2.toNat : Int), .int .u8 (y3.toNat : Int)] 208) := ⟨_, rfl⟩
   have b8 : Below w6.heap.size w6 w8 := by rw [hw8]; exact b7.alloc hz7 _
   have hrow8 : w8.heap[w7.heap.size]? = some (.cells #[.int .u8 (y0.toNat : Int), .int .u8 (y1.toNat : Int), .int .u8 (y2.toNat : Int), .int .u8 (y3.toNat : Int)] 208 (0, 0)) := by rw [hw8]; exact heap_alloc_new _ _
   rw [<- hw8]; obtain ⟨g8, hg8⟩ := nm_ (w7.heap.size); have hgp : g8 ≠ pb := by omega
   rw [<- hg8] at hrow8 |-; have t8 := t6.below b8; have m8 : MapAt w8 mb n Da := m6.kept (below_grown b8) (by simp)
   have u8 := u6.trans (But2.of_below b8 pb mb); clear hw8 hg8 hz7 b7 hp6 t6 m6 u6 b8; have n8 := t8.cell0; obtain ⟨d0, d1, d2, d3⟩ := row_cells hrow8; obtain ⟨c8, hc8, hl8, _⟩ := look_x m8 HY.out; obtain ⟨q3, q4⟩ := HCI.out _ _ t8; have hsay := nA.says (four bs i) rfl; have hput := near_put nA; rw [HY.out] at hput; have HP := h_ hput; have hwf : (Lit.int .i64 (i : Int)).wf = true := WalkArith.wf_i64 (by omega)
   have HW := h_ hwf; have HR := h_ hrow8; clear hput hwf hrow8 nA; rcases reach_cases bs (four bs i) i (i + 1) with ⟨hr, _⟩ | ⟨j, hr, hji, _, _, _⟩
   ·rw [hr] at hsay
    have hs0 : Go.Maps.has Da (fourK (four bs i)) = false := hsay
    rw [hs0] at hl8; have hbk : backOf bs i = 0 := by unfold backOf; rw [hr]; rfl
    have HBK := h_ hbk; clear hs0 hsay hr hbk hc8; go_quiet (fail)
    go_wp2_with fail; obtain ⟨w9, hw9⟩ := nm_ (w8.drewN nq); rw [<- hw9]; have b9 : Below w8.heap.size w8 w9 := by rw [hw9]; exact below_drewN (Below.refl _ _) nq
    have hr9 : w9.heap[g8]? = _ := below_heap b9 HR.out
    obtain ⟨tab9, t9, back9⟩ : ∃ tab9, TabAt w9 pb mb tab9 /\ BackIs tab9 bs (i + 1) := ⟨_, t8.below b9, back_put bA (by simp only [if_true]; rw [HBK.out]; rfl) (fun x _ hx => by simp only [if_neg hx])⟩
    have m9 : MapAt w9 mb n Da := m8.kept (below_grown b9) (by simp)
    have u9 := u8.trans (But2.of_below b9 pb mb); clear hw9 b9 t8 m8 u8 bA HR HBK n8 d0 d1 d2 d3 hl8 q3 q4; obtain ⟨w10, hw10⟩ := nm_ (w9.drew); have b10 : Below w9.heap.size w9 w10 := by rw [hw10]; exact (Below.refl _ _).drew
    have n10 := (t9.below b10).cell0; obtain ⟨f0, f1, f2, f3⟩ := row_cells (below_heap b10 hr9); have m10 : MapAt w10 mb n Da := m9.kept (below_grown b10) (by simp)
    have t10 := t9.below b10; have u10 := u9.trans (But2.of_below b10 pb mb); refine wp_still_drew hw10 6 (by kernel_rfl) (by kernel_rfl) ?_
    clear hw10 b10 t9 m9 u9 hr9; simp only [List.take_succ_cons, List.take_zero, List.drop_succ_cons, List.drop_zero]
    repeat still_step
    refine wpStill_nil ?_; go_wp2_with (at_mapUpdate; refine wpList_mapUpdate_own _ rfl _ _ _ 189 rfl 208 3 K53 Tryz.underlying189 _ mb n Da rfl m10 (by omega) (fourV [y0, y1, y2, y3]) (.int .i64 (i : Int)) (fourK [y0, y1, y2, y3]) rfl rfl (fourK_is (f := [y0, y1, y2, y3]) rfl) (.lit (.int .i64 (i : Int))) [] (plainElem_int Tryz.underlying3 HW.out) ?_; intro w11 m11 hg11; have G11 := h_ hg11; clear hg11)
    go_end0
    exact ⟨rfl, _, tab9, t10.of_heap (G11.out.block pb t10.lt (fun e => hpm (Option.some.inj e))), m11, HP.out, back9, u10.trans (But2.grown G11.out pb)⟩
   ·rw [hr] at hsay
    have hs0 := hsay.1; have hs1 := hsay.2; rw [hs0] at hl8; rw [hc8] at hs1; simp only [DataW.lit.injEq, Lit.int.injEq, true_and] at hs1; subst hs1; have hbk : backOf bs i = i - j := by unfold backOf; rw [hr]; rfl
    have HBK := h_ hbk; clear hs0 hsay hr hbk hc8; go_quiet (fail)
    go_wp2_with fail; obtain ⟨w9, hw9⟩ : ∃ w9, w9 = (w8.drewN nq).setCell ⟨pb, 1 + i % 4096, none⟩ (.int .i64 ((i : Int) - (j : Int))) := ⟨_, rfl⟩
    rw [<- hw9]; have b9 : Below w8.heap.size w8 (w8.drewN nq) := below_drewN (Below.refl _ _) nq; have hr9 : w9.heap[g8]? = some (.cells #[.int .u8 (y0.toNat : Int), .int .u8 (y1.toNat : Int), .int .u8 (y2.toNat : Int), .int .u8 (y3.toNat : Int)] 208 (0, 0)) := by rw [hw9, heap_setCell_other _ _ _ _ hgp]; exact below_heap b9 HR.out
    obtain ⟨tab9, t9, back9⟩ : ∃ tab9, TabAt w9 pb mb tab9 /\ BackIs tab9 bs (i + 1) := by
     refine ⟨_, by rw [hw9]; exact (t8.below b9).set (i % 4096) hi0 _, back_put bA (by simp only [if_true]; rw [HBK.out]; omega) (fun x _ hx => by simp only [if_neg hx])⟩
    have m9 : MapAt w9 mb n Da := by
     rw [hw9]; exact (m8.kept (below_grown b9) (by simp)).setCell (fun e => hpm e.symm) _
    have u9 : But2 w w9 pb mb := by
     rw [hw9]; exact (u8.trans (But2.of_below b9 pb mb)).trans (But2.set _ _ _ _ _)
    clear hw9 b9 t8 m8 u8 bA HR HBK n8 d0 d1 d2 d3 hl8 q3 q4; obtain ⟨w10, hw10⟩ := nm_ (w9.drew); have b10 : Below w9.heap.size w9 w10 := by rw [hw10]; exact (Below.refl _ _).drew
    have n10 := (t9.below b10).cell0; obtain ⟨f0, f1, f2, f3⟩ := row_cells (below_heap b10 hr9); have m10 : MapAt w10 mb n Da := m9.kept (below_grown b10) (by simp)
    have t10 := t9.below b10; have u10 := u9.trans (But2.of_below b10 pb mb); refine wp_still_drew hw10 6 (by kernel_rfl) (by kernel_rfl) ?_
    clear hw10 b10 t9 m9 u9 hr9; simp only [List.take_succ_cons, List.take_zero, List.drop_succ_cons, List.drop_zero]
    repeat still_step
    refine wpStill_nil ?_; go_wp2_with (at_mapUpdate; refine wpList_mapUpdate_own _ rfl _ _ _ 189 rfl 208 3 K53 Tryz.underlying189 _ mb n Da rfl m10 (by omega) (fourV [y0, y1, y2, y3]) (.int .i64 (i : Int)) (fourK [y0, y1, y2, y3]) rfl rfl (fourK_is (f := [y0, y1, y2, y3]) rfl) (.lit (.int .i64 (i : Int))) [] (plainElem_int Tryz.underlying3 HW.out) ?_; intro w11 m11 hg11; have G11 := h_ hg11; clear hg11)
    go_end0
    exact ⟨rfl, _, tab9, t10.of_heap (G11.out.block pb t10.lt (fun e => hpm (Option.some.inj e))), m11, HP.out, back9, u10.trans (But2.grown G11.out pb)⟩
 ·have hhalf : Half w bs i pb mb n w D tab := ⟨ht, hm, near_few hn (by omega), hb, But2.refl _ _ _⟩
  obtain ⟨q1, q2⟩ := HCI.out _ _ ht; go_enter Tryz.func149, Tryz.ntmps149; go_wp2_with fail; obtain ⟨W, hW⟩ := nm_ (w); obtain ⟨Da, hh⟩ : ∃ Da, Half w bs i pb mb n W Da tab := ⟨_, by rw [hW]; exact hhalf⟩
  rw [<- hW]; clear hhalf hW; obtain ⟨tA, mA, nA, bA, uA⟩ := hh; obtain ⟨w6, hw6⟩ := nm_ (W.setCell ⟨pb, 1 + i % 4096, none⟩ (.int .i64 0)); have t6 := tA.set (i % 4096) hi0 0; have u6 := uA.trans (But2.set W pb mb (1 + i % 4096) (.int .i64 0)); have m6 : MapAt w6 mb n Da := by rw [hw6]; exact mA.setCell (fun e => hpm e.symm) _
  rw [<- hw6] at t6 u6 |-; clear hw6 tA mA uA; refine (HF2.out _ (h.but2 u6 hB hB2)).mono ?_; rintro e w7 ⟨rfl, b7⟩; go_wp2_with fail; have hz7 : w6.heap.size <= w7.heap.size := b7.size
  have hp6 := t6.lt; obtain ⟨w8, hw8⟩ : ∃ w8, w8 = w7.alloc (.cells #[.int .u8 (y0.toNat : Int), .int .u8 (y1.toNat : Int), .int .u8 (y2.toNat : Int), .int .u8 (y3.toNat : Int)] 208) := ⟨_, rfl⟩
  have b8 : Below w6.heap.size w6 w8 := by rw [hw8]; exact b7.alloc hz7 _
  have hrow8 : w8.heap[w7.heap.size]? = some (.cells #[.int .u8 (y0.toNat : Int), .int .u8 (y1.toNat : Int), .int .u8 (y2.toNat : Int), .int .u8 (y3.toNat : Int)] 208 (0, 0)) := by rw [hw8]; exact heap_alloc_new _ _
  rw [<- hw8]; obtain ⟨g8, hg8⟩ := nm_ (w7.heap.size); have hgp : g8 ≠ pb := by omega
  rw [<- hg8] at hrow8 |-; have t8 := t6.below b8; have m8 : MapAt w8 mb n Da := m6.kept (below_grown b8) (by simp)
  have u8 := u6.trans (But2.of_below b8 pb mb); clear hw8 hg8 hz7 b7 hp6 t6 m6 u6 b8; have n8 := t8.cell0; obtain ⟨d0, d1, d2, d3⟩ := row_cells hrow8; obtain ⟨c8, hc8, hl8, _⟩ := look_x m8 HY.out; obtain ⟨q3, q4⟩ := HCI.out _ _ t8; have hsay := nA.says (four bs i) rfl; have hput := near_put nA; rw [HY.out] at hput; have HP := h_ hput; have hwf : (Lit.int .i64 (i : Int)).wf = true := WalkArith.wf_i64 (by omega)
  have HW := h_ hwf; have HR := h_ hrow8; clear hput hwf hrow8 nA; rcases reach_cases bs (four bs i) i (i + 1) with ⟨hr, _⟩ | ⟨j, hr, hji, _, _, _⟩
  ·rw [hr] at hsay
   have hs0 : Go.Maps.has Da (fourK (four bs i)) = false := hsay
   rw [hs0] at hl8; have hbk : backOf bs i = 0 := by unfold backOf; rw [hr]; rfl
   have HBK := h_ hbk; clear hs0 hsay hr hbk hc8; go_quiet (fail)
   go_wp2_with fail; obtain ⟨w9, hw9⟩ := nm_ (w8.drewN nq); rw [<- hw9]; have b9 : Below w8.heap.size w8 w9 := by rw [hw9]; exact below_drewN (Below.refl _ _) nq
   have hr9 : w9.heap[g8]? = _ := below_heap b9 HR.out
   obtain ⟨tab9, t9, back9⟩ : ∃ tab9, TabAt w9 pb mb tab9 /\ BackIs tab9 bs (i + 1) := ⟨_, t8.below b9, back_put bA (by simp only [if_true]; rw [HBK.out]; rfl) (fun x _ hx => by simp only [if_neg hx])⟩
   have m9 : MapAt w9 mb n Da := m8.kept (below_grown b9) (by simp)
   have u9 := u8.trans (But2.of_below b9 pb mb); clear hw9 b9 t8 m8 u8 bA HR HBK n8 d0 d1 d2 d3 hl8 q3 q4; obtain ⟨w10, hw10⟩ := nm_ (w9.drew); have b10 : Below w9.heap.size w9 w10 := by rw [hw10]; exact (Below.refl _ _).drew
   have n10 := (t9.below b10).cell0; obtain ⟨f0, f1, f2, f3⟩ := row_cells (below_heap b10 hr9); have m10 : MapAt w10 mb n Da := m9.kept (below_grown b10) (by simp)
   have t10 := t9.below b10; have u10 := u9.trans (But2.of_below b10 pb mb); refine wp_still_drew hw10 6 (by kernel_rfl) (by kernel_rfl) ?_
   clear hw10 b10 t9 m9 u9 hr9; simp only [List.take_succ_cons, List.take_zero, List.drop_succ_cons, List.drop_zero]
   repeat still_step
   refine wpStill_nil ?_; go_wp2_with (at_mapUpdate; refine wpList_mapUpdate_own _ rfl _ _ _ 189 rfl 208 3 K53 Tryz.underlying189 _ mb n Da rfl m10 (by omega) (fourV [y0, y1, y2, y3]) (.int .i64 (i : Int)) (fourK [y0, y1, y2, y3]) rfl rfl (fourK_is (f := [y0, y1, y2, y3]) rfl) (.lit (.int .i64 (i : Int))) [] (plainElem_int Tryz.underlying3 HW.out) ?_; intro w11 m11 hg11; have G11 := h_ hg11; clear hg11)
   go_end0
   exact ⟨rfl, _, tab9, t10.of_heap (G11.out.block pb t10.lt (fun e => hpm (Option.some.inj e))), m11, HP.out, back9, u10.trans (But2.grown G11.out pb)⟩
  ·rw [hr] at hsay
   have hs0 := hsay.1; have hs1 := hsay.2; rw [hs0] at hl8; rw [hc8] at hs1; simp only [DataW.lit.injEq, Lit.int.injEq, true_and] at hs1; subst hs1; have hbk : backOf bs i = i - j := by unfold backOf; rw [hr]; rfl
   have HBK := h_ hbk; clear hs0 hsay hr hbk hc8; go_quiet (fail)
   go_wp2_with fail; obtain ⟨w9, hw9⟩ : ∃ w9, w9 = (w8.drewN nq).setCell ⟨pb, 1 + i % 4096, none⟩ (.int .i64 ((i : Int) - (j : Int))) := ⟨_, rfl⟩
   rw [<- hw9]; have b9 : Below w8.heap.size w8 (w8.drewN nq) := below_drewN (Below.refl _ _) nq; have hr9 : w9.heap[g8]? = some (.cells #[.int .u8 (y0.toNat : Int), .int .u8 (y1.toNat : Int), .int .u8 (y2.toNat : Int), .int .u8 (y3.toNat : Int)] 208 (0, 0)) := by rw [hw9, heap_setCell_other _ _ _ _ hgp]; exact below_heap b9 HR.out
   obtain ⟨tab9, t9, back9⟩ : ∃ tab9, TabAt w9 pb mb tab9 /\ BackIs tab9 bs (i + 1) := by
    refine ⟨_, by rw [hw9]; exact (t8.below b9).set (i % 4096) hi0 _, back_put bA (by simp only [if_true]; rw [HBK.out]; omega) (fun x _ hx => by simp only [if_neg hx])⟩
   have m9 : MapAt w9 mb n Da := by
    rw [hw9]; exact (m8.kept (below_grown b9) (by simp)).setCell (fun e => hpm e.symm) _
   have u9 : But2 w w9 pb mb := by
    rw [hw9]; exact (u8.trans (But2.of_below b9 pb mb)).trans (But2.set _ _ _ _ _)
   clear hw9 b9 t8 m8 u8 bA HR HBK n8 d0 d1 d2 d3 hl8 q3 q4; obtain ⟨w10, hw10⟩ := nm_ (w9.drew); have b10 : Below w9.heap.size w9 w10 := by rw [hw10]; exact (Below.refl _ _).drew
   have n10 := (t9.below b10).cell0; obtain ⟨f0, f1, f2, f3⟩ := row_cells (below_heap b10 hr9); have m10 : MapAt w10 mb n Da := m9.kept (below_grown b10) (by simp)
   have t10 := t9.below b10; have u10 := u9.trans (But2.of_below b10 pb mb); refine wp_still_drew hw10 6 (by kernel_rfl) (by kernel_rfl) ?_
   clear hw10 b10 t9 m9 u9 hr9; simp only [List.take_succ_cons, List.take_zero, List.drop_succ_cons, List.drop_zero]
   repeat still_step
   refine wpStill_nil ?_; go_wp2_with (at_mapUpdate; refine wpList_mapUpdate_own _ rfl _ _ _ 189 rfl 208 3 K53 Tryz.underlying189 _ mb n Da rfl m10 (by omega) (fourV [y0, y1, y2, y3]) (.int .i64 (i : Int)) (fourK [y0, y1, y2, y3]) rfl rfl (fourK_is (f := [y0, y1, y2, y3]) rfl) (.lit (.int .i64 (i : Int))) [] (plainElem_int Tryz.underlying3 HW.out) ?_; intro w11 m11 hg11; have G11 := h_ hg11; clear hg11)
   go_end0
   exact ⟨rfl, _, tab9, t10.of_heap (G11.out.block pb t10.lt (fun e => hpm (Option.some.inj e))), m11, HP.out, back9, u10.trans (But2.grown G11.out pb)⟩
end
section
open Go.RowKit
def zeros38 (v : Value) : List Value := v :: List.replicate 4096 (.int .i64 0)
theorem zero38 : (Tryz.prog.info? 192).bind (·.zero) = some (.agg (zeros38 (.map none)).toArray) := by kernel_rfl
theorem size38 : (Tryz.prog.info? 192).map (·.size) = some 4097 := by kernel_rfl
theorem size35 : (Tryz.prog.info? 189).map (·.size) = some 1 := by kernel_rfl
theorem size36 : (Tryz.prog.info? 190).map (·.size) = some 4096 := by kernel_rfl
theorem built38 (m : Nat) : Tryz.prog.built 192 [(0, .map (some m))] = some (zeros38 (.map (some m))).toArray := by
 unfold Program.built; have h0 := zero38; have h1 := size35; have h2 := size36
 cases hq : Tryz.prog.info? 192 with
 | none => rw [hq] at h0; cases h0
 | some it =>
  rw [hq] at h0; have h0' : it.zero = some (.agg (zeros38 (.map none)).toArray) := h0
  cases hq1 : Tryz.prog.info? 189 with
  | none => rw [hq1] at h1; cases h1
  | some i1 =>
   cases hq2 : Tryz.prog.info? 190 with
   | none => rw [hq2] at h2; cases h2
   | some i2 =>
    rw [hq1] at h1; rw [hq2] at h2; have h1' : i1.size = 1 := by simpa using h1
    have h2' : i2.size = 4096 := by simpa using h2
    simp only [Tryz.underlying192, h0', hq1, hq2, h1', h2', List.mapM_cons, List.mapM_nil, Option.map_some]; clear h0 h0' h1 h2 hq hq1 hq2 h1' h2'; unfold zeros38; generalize List.replicate 4096 (Value.int .i64 0) = R
    simp [Instr.fill, Value.cells]
def placesV (m : Nat) : Value := .agg (zeros38 (.map (some m))).toArray
def zeroObj : Obj := .cells (zeros38 (.map none)).toArray 192
theorem zeros38_length (v : Value) : (zeros38 v).length = 4097 := by
 unfold zeros38; rw [List.length_cons, List.length_replicate]
theorem zeros38_one (m : Nat) : ∀ v ∈ zeros38 (.map (some m)), v.oneCell' = true := by
 intro v hv
 unfold zeros38 at hv; rcases List.mem_cons.1 hv with rfl | hv
 ·rfl
 ·rw [(List.mem_replicate.1 hv).2]; rfl
theorem run_zero38 (w : World) : (zeroValue 192).run Tryz.prog w = .ok (.agg (zeros38 (.map none)).toArray) w := by
 have h0 := zero38
 cases hq : Tryz.prog.info? 192 with
 | none => rw [hq] at h0; cases h0
 | some it =>
  rw [hq] at h0; have h0' : it.zero = some (.agg (zeros38 (.map none)).toArray) := h0
  simp only [zeroValue, typeInfo, Sem.run_bind]; generalize (zeros38 (.map none)).toArray = Z at *
  simp [hq, h0']
theorem run_alloc38 (w : World) : (Instr.alloc 192 true (.tuple #[])).run Tryz.prog w = .ok (.pointer (some ⟨w.heap.size, 0, none⟩)) (w.alloc zeroObj) := by
 unfold zeroObj Instr.alloc; rw [Sem.run_bind, run_zero38]; generalize (zeros38 (.map none)).toArray = Z
 rfl
theorem wpList_alloc38 {ops : Array Oper} {rest : List Oper} {o : Oper} {a : Act} {w : World} {Q : Exit -> Act -> World -> Prop} (hg : o.guard = none) (ho : o.op = .alloc 192)
  (h : wpList Tryz.prog ops Q rest (a.put o.dst (.pointer (some ⟨w.heap.size, 0, none⟩))) (w.alloc zeroObj)) : wpList Tryz.prog ops Q (o :: rest) a w :=
 wpList_plain hg fun K hK => by
  unfold Oper.wp execOp; simp only [ho, Sem.run_bind, run_alloc38, Result.andThen_ok]; exact hK _ _ h
theorem wpList_build38 {ops : Array Oper} {rest : List Oper} {o : Oper} {a : Act} {w : World} {Q : Exit -> Act -> World -> Prop} (hg : o.guard = none) (x : Operand) (ho : o.op = .build 192 #[(0, x)]) (m : Nat) (hx : a.eval x = .map (some m))
  (h : wpList Tryz.prog ops Q rest (a.put o.dst (placesV m)) w) : wpList Tryz.prog ops Q (o :: rest) a w :=
 wpList_plain hg fun K hK => by
  have hb : Tryz.prog.built 192 (#[((0 : Nat), x)].map fun (i, x) => (i, a.eval x)).toList = some (zeros38 (.map (some m))).toArray := by
   have e : (#[((0 : Nat), x)].map fun (i, x) => (i, a.eval x)).toList = [(0, a.eval x)] := by simp
   rw [e, hx, built38]
  refine wp_build 192 #[(0, x)] ho (by rw [hb]; rfl) ?_
  rw [hb]; exact hK _ _ h
def placesW (w : World) : World := ((w.alloc (.map #[] 0)).alloc zeroObj).setRow (w.heap.size + 1) (zeros38 (.map (some w.heap.size))).toArray
theorem zeroObj_eq : zeroObj = .cells (zeros38 (.map none)).toArray 192 (0, 0) := rfl
theorem placesV_eq (m : Nat) : placesV m = .agg (zeros38 (.map (some m))).toArray := rfl
theorem wpList_store38 {ops : Array Oper} {rest : List Oper} {o : Oper} {a : Act} {w : World} {Q : Exit -> Act -> World -> Prop} (hg : o.guard = none) (x y : Operand) (ho : o.op = .store 192 x y)
  (hx : a.eval x = .pointer (some ⟨(w.alloc (.map #[] 0)).heap.size, 0, none⟩)) (hy : a.eval y = placesV w.heap.size)
  (h : wpList Tryz.prog ops Q rest (a.put o.dst undef) (placesW w)) : wpList Tryz.prog ops Q (o :: rest) a ((w.alloc (.map #[] 0)).alloc zeroObj) := by
 rw [placesV_eq] at hy; have hz : (w.alloc (.map #[] 0)).heap.size = w.heap.size + 1 := by simp
 rw [hz] at hx; refine wpList_store_row hg 192 x y ho (w.heap.size + 1) (zeros38 (.map (some w.heap.size))).toArray hx hy 192 (zeros38 (.map none)).toArray ?_ ?_ ?_ (all_oneCell_toArray (zeros38_one _)) h
 ·rw [heap_alloc2_new, zeroObj_eq]
 ·rw [size38, List.size_toArray, zeros38_length]
 ·rw [List.size_toArray, List.size_toArray, zeros38_length, zeros38_length]
theorem heap_zero38 (w : World) : (placesW w).heap[w.heap.size + 1]? = some (.cells (zeros38 (.map (some w.heap.size))).toArray 192 (0, 0)) /\ (placesW w).heap[w.heap.size]? = some (.map #[] 0) /\ Below w.heap.size w (placesW w) := by
 unfold placesW; refine ⟨?_, ?_, ?_⟩
 ·exact setRow_heap _ _ _ _ _ _ (by rw [heap_alloc2_new, zeroObj_eq])
 ·rw [setRow_other _ _ _ _ (by omega)]
  exact heap_alloc2_old w _ _
 ·exact below_setRow (((Below.refl _ _).alloc (Nat.le_refl _) _).alloc (by simp) _) (by omega) _
theorem tab_zero {w : World} {pb mb : Nat} (h : w.heap[pb]? = some (.cells (zeros38 (.map (some mb))).toArray 192 (0, 0))) : TabAt w pb mb (fun _ => 0) := by
 refine ⟨_, h, by rw [List.size_toArray, zeros38_length], by rw [List.getElem?_toArray]; unfold zeros38; rw [List.getElem?_cons_zero], fun j hj => ?_⟩
 rw [List.getElem?_toArray, Nat.add_comm]; unfold zeros38; rw [List.getElem?_cons_succ, List.getElem?_replicate, if_pos hj]
end
section
open Go.RowKit
def Placed (w : World) (bs : List UInt8) (pb mb j : Nat) : Prop :=
 ∃ (D : DataW Unit) (tab : Nat -> Int) (n : Nat), TabAt w pb mb tab /\ MapAt w mb n D /\ n <= j /\ (j + 4 <= bs.length -> NearIs D bs j /\ BackIs tab bs j)
theorem Placed.out {w w' : World} {bs : List UInt8} {pb mb j base : Nat} (h : Placed w bs pb mb j) (ho : OutTurned base w w') : Placed w' bs pb mb j := by
 obtain ⟨D, tab, n, ⟨C, h1, h1'⟩, ⟨es, clock, h2, h2'⟩, h3, h4⟩ := h; exact ⟨D, tab, n, ⟨C, ho.other _ _ h1 (fun cs fr e => by cases e), h1'⟩, ⟨es, clock, ho.other _ _ h2 (fun cs fr e => by cases e), h2'⟩, h3, h4⟩
theorem Placed.below {w w' : World} {bs : List UInt8} {pb mb j : Nat} (h : Placed w bs pb mb j) (hb : Below w.heap.size w w') : Placed w' bs pb mb j := h.out (OutTurned.of_below (Nat.le_refl _) hb)
theorem own_but2 {w w' : World} {bs : List UInt8} {pb mb j base n : Nat} {v : Value} {xs : List Value} (h : w.ownsRow base 5 1 v n xs) (hp : Placed w bs pb mb j) (hb : But2 w w' pb mb) : w'.ownsRow base 5 1 v n xs := by
 obtain ⟨D, tab, n', ⟨C, h1, _⟩, ⟨es, clock, h2, _⟩, _, _⟩ := hp; refine ⟨h.1, ?_⟩; rcases h.2 with h4 | ⟨g, cap, cur, h4, h6, h7, h5⟩
 ·exact .inl h4
 ·refine .inr ⟨g, cap, cur, h4, h6, (hb.block g (ge_ h7).1 (fun e => ?_) (fun e => ?_)).trans h7, h5⟩
  ·rw [e, h1] at h7; cases h7
  ·rw [e, h2] at h7; cases h7
def Stepped (w : World) (bs : List UInt8) (pb mb j : Nat) (w' : World) : Prop := Placed w' bs pb mb (j + 1) /\ But2 w w' pb mb
theorem add_step (ao : Option Addr) (cap : Nat) (bs : List UInt8) (B off : Nat) (j pb mb : Nat) (w : World) (h : SrcAt w ao cap bs B off) (hs : bs.length <= 281474976710656) (hj : j < bs.length) (hp : Placed w bs pb mb j) (hB : B < pb) (hB2 : B < mb) (hm : j + 1 < maxLen) :
  Calls Tryz.prog 149 #[.pointer (some ⟨pb, 0, none⟩), .slice ao bs.length cap, .int .i64 (j : Int)] w fun e w' => e = .returned (.tuple #[]) /\ Stepped w bs pb mb j w' := by
 obtain ⟨D, tab, n, t1, m1, hn, h4⟩ := hp; by_cases hi : j + 4 <= bs.length
 ·obtain ⟨h5, h6⟩ := h4 hi
  refine (add_any ao cap bs B off j pb mb n D tab w h hs hi t1 m1 h5 h6 (by omega) (by omega) (by omega)).mono fun e w' ⟨he, D', tab', t2, m2, n2, b2, u2⟩ => ?_
  exact ⟨he, ⟨D', tab', n + 1, t2, m2, by omega, fun _ => ⟨n2, b2⟩⟩, u2⟩
 ·have hpost : Stepped w bs pb mb j w := ⟨⟨D, tab, n, t1, m1, by omega, fun hh => absurd hh (by omega)⟩, But2.refl _ _ _⟩
  have HP := h_ hpost; obtain ⟨N, hN⟩ := nm_ (bs.length); rw [<- hN] at hs hj hi |-; have hlt : decide ((N : Int) < (j : Int) + 4) = true := by simp; omega
  clear h4 hN hpost; go_enter Tryz.func149, Tryz.ntmps149; go_wp2; refine bodyPost_ret (results_none Tryz.results149 _ _ _) rfl ?_; exact ⟨rfl, HP.out⟩
end
section
open Go.RowKit
theorem toks_all (b : List UInt8) (hb : b.length <= 140737488355328) {O : List UInt8} {s i : Nat} (h : O ++ toks b s i = pressL b) : O.length <= 143000000000000 := by
 have h1 := congrArg List.length h; rw [List.length_append] at h1; have h2 := press_wide b; omega
theorem press_any (ao : Option Addr) (cap : Nat) (bs : List UInt8) (B off : Nat) (w : World) (h : SrcAt w ao cap bs B off) (hs : bs.length <= 140737488355328) :
  Calls Tryz.prog 104 #[.slice ao bs.length cap] w fun e w' => ∃ v, e = .returned v /\ w'.ownsRow w.heap.size 5 1 v (pressL bs).length ((pressL bs).map B8) /\ Below w.heap.size w w' := by
 have hput : Calls Tryz.prog 145 #[.slice none 0 0, .int .i64 (bs.length : Int)] w fun e w' => ∃ v, e = .returned v /\ w'.ownsRow w.heap.size 5 1 v (numL bs.length).length ((numL bs.length).map B8) /\ Below w.heap.size w w' := by
  have h1 := rowPutNumTo w.heap.size (.slice none 0 0) [] (bs.length : Int) w (Nat.le_refl _) (World.ownsRow_nil _ _ _ _) (by simp)
  rw [List.nil_append, clampN_nat _ (by omega)] at h1
  exact h1.mono fun e w' ⟨v, he, ho, ht⟩ => ⟨v, he, ho, ht.below⟩
 have hstart : numL bs.length ++ toks bs 0 0 = pressL bs := rfl
 have hsb : bs.length <= 281474976710656 := by omega
 obtain ⟨N, hN⟩ := nm_ (bs.length); obtain ⟨L, hL⟩ := nm_ (numL bs.length); have hBw : 0 < bs.length -> B < w.heap.size := h.old; rw [<- hL] at hput hstart; rw [<- hN] at hs hput |-; have hNl : N <= bs.length := by omega
 have hNg : bs.length <= N := by omega
 have HP := h_ hput; have HN := h_ hN; have HS := h_ hstart; clear hput hN hL hstart; have hmm := @run_makeMap Tryz.prog; go_enter Tryz.func104, Tryz.ntmps104; go_wp2_with fail; refine HP.out.mono ?_; rintro e w1 ⟨v1, rfl, o1, b1⟩; go_wp2_with (first | (refine wpList_build38 rfl _ rfl w1.heap.size rfl ?_) | (refine wpList_alloc38 rfl rfl ?_) | (refine wpList_store38 rfl _ _ rfl rfl rfl ?_))
 clear hmm HP; obtain ⟨g1, g2, g3⟩ := heap_zero38 w1; obtain ⟨mb, hmb⟩ := nm_ (w1.heap.size); have hmw : w.heap.size <= mb := by rw [hmb]; exact b1.size
 have p0 : Placed (placesW w1) bs (mb + 1) mb 0 := by
  rw [hmb]; refine ⟨.map [], fun _ => 0, 0, tab_zero g1, ?_, Nat.zero_le _, fun _ => ⟨nearIs_new bs, fun k hk => absurd hk (Nat.not_lt_zero k)⟩⟩
  exact ⟨#[], 0, g2, ⟨by simp, MapKept.stamped_empty 0, by simp⟩, Nat.le_refl _, rfl⟩
 obtain ⟨base, hbase⟩ := nm_ (w.heap.size); have o0 : (placesW w1).ownsRow base 5 1 v1 L.length (L.map B8) := by rw [hbase]; exact own_below o1 g3
 have b0 : Below base w (placesW w1) := by rw [hbase]; exact b1.trans (g3.mono b1.size)
 have hbw : w.heap.size <= base := by omega
 have hwb : base <= w.heap.size := by omega
 have hmw' : base <= mb := by omega
 obtain ⟨w0, hw0⟩ := nm_ (placesW w1); rw [<- hmb, <- hw0]; rw [<- hw0] at p0 o0 b0; rw [<- hbase] at hBw; have HBA := h_ hbase; clear hw0 g1 g2 g3 hmb b1 o1 hbase; go_loopw [3, 5, 6] (fun x s i W => ∃ (O : List UInt8) (S I : Nat) (v : Value), v = x /\ s = .int .i64 (S : Int) /\ i = .int .i64 (I : Int) /\ S <= I /\ I <= N /\ O ++ toks bs S I = pressL bs /\ Placed W bs (mb + 1) mb I /\ W.ownsRow base 5 1 v O.length (O.map B8) /\ Below base w W) (fun _ _ i _ => N - (intOf i).toNat)
 case atStart => exact ⟨L, 0, 0, v1, rfl, rfl, rfl, Nat.le_refl _, Nat.zero_le _, HS.out, p0, o0, b0⟩
 case round =>
  clear p0 o0 b0 HS; obtain ⟨O, S, i, v, rfl, rfl, rfl, hSi, hiN, hO, pi, oi, bi⟩ := hrel; have hOl := toks_all bs (by omega) hO
  have hsi := h.below (bi.mono hbw); have hBb : 0 < bs.length -> B < base := hBw; by_cases hlt : i < N
  ·have hB0 := hBb (by omega)
   obtain ⟨D, tab, n, t1, m1, hn, h4⟩ := pi; have hlong := longest_any ao cap bs B off i (mb + 1) mb n D tab _ hsi hsb (by omega) t1 m1 (fun hh => (h4 hh).1) (fun hh => (h4 hh).2)
   have pi : Placed _ bs (mb + 1) mb i := ⟨D, tab, n, t1, m1, hn, h4⟩; rw [<- HN.out] at hlong; obtain ⟨ln, hln⟩ := nm_ ((longest4 bs i).1); obtain ⟨d, hd⟩ := nm_ ((longest4 bs i).2); rw [<- hln, <- hd] at hlong; have HLo := h_ hlong; have hstep : O ++ toks bs S i = pressL bs := hO
   have PI := h_ pi; have OI := h_ oi; clear hlong t1 m1 hn h4 D tab n pi oi hO; by_cases hc : 4 <= ln
   ·have hcp := longest4_copies (b := bs) (i := i) (by omega) (by omega)
    rw [<- hln, <- hd] at hcp; rw [toks_copy (by omega) (by omega), <- hln, <- hd] at hstep
    have k1 := hcp.most; have k2 := hcp.len; have k3 := hcp.win; obtain ⟨ao2, hsl, hs2⟩ := hsi.slice_lh S (i - S) (by omega)
    have er : ((bs.drop S).take (i - S)).length = i - S := by rw [List.length_take, List.length_drop]; omega
    have e1 : (S : Int) + ((i - S : Nat) : Int) = (i : Int) := by omega
    have hS0 : (0 : Int) <= (S : Int) := by omega
    rw [<- HN.out, e1] at hsl; obtain ⟨r, hr⟩ := nm_ ((bs.drop S).take (i - S)); rw [<- hr] at hs2 er hstep; have HR := h_ er; have hst2 : (O ++ runT r ++ (numL (2 * (ln - 4) + 1) ++ numL d)) ++ toks bs (i + ln) (i + ln) = pressL bs := by
     rw [<- hstep]; simp only [List.append_assoc]
    have HT := h_ hst2; have hl2 := toks_all bs (by omega) hst2
    have hrl : r.length <= N := by omega
    have hrB : 0 < r.length -> B < base := fun _ => hB0
    have hq : decide ((ln : Int) > 0) = true := by simp; omega
    have hlnpos : (0 : Int) < (ln : Int) := by omega
    have hr1 : (O ++ runT r).length <= 143000000000000 := by
     have := hl2
     rw [List.length_append] at this; omega
    have hOr : O.length + r.length <= 143000000000000 := by
     have h1 := hr1; rw [List.length_append] at h1; have h2 := runT_ge r; omega
    clear hln hd hr er e1 hstep hst2 hcp; go_wp2_with fail; refine HLo.out.mono ?_; rintro e w2 ⟨rfl, b2⟩; have bX := bi.trans (b2.mono (Nat.le_trans hwb bi.size)); have oX := own_below OI.out b2; have pX := PI.out.below b2; have sX := hs2.below b2; have hz2 := b2.size; have hz3 := (Nat.le_trans hwb bi.size); go_wp2_with fail; have hrun := putRunTo base v O ao2 (cap - S) r B (off + S) w2 (by omega) oX sX hrB (by omega)
    rw [HR.out] at hrun; refine hrun.mono ?_; rintro e w3 ⟨v3, rfl, o3, t3⟩; have hz4 := t3.below.size; have bX := bX.trans t3.below; have pX := pX.out t3; clear hrun sX oX; go_wp2_with fail; refine (putCopyTo base v3 (O ++ runT r) ln d w3 (by omega) o3 hc k1 k3 (by omega)).mono ?_
    rintro e w4 ⟨v2, rfl, oX, t4⟩; have bX := bX.trans t4.below; have pX := pX.out t4; obtain ⟨O2, hO2⟩ := nm_ (O ++ runT r ++ (numL (2 * (ln - 4) + 1) ++ numL d)); rw [<- hO2] at oX HT; obtain ⟨E, hE⟩ := nm_ (i + ln); have hEI : (i : Int) + (ln : Int) = (E : Int) := by omega
    obtain ⟨i1, hi1⟩ := nm_ (i + 1); have hI1 : (i : Int) + 1 = (i1 : Int) := by omega
    have hmax : (if (i1 : Int) > (E : Int) then (i1 : Int) else (E : Int)) = (E : Int) := by rw [if_neg (by omega)]
    clear hi1; have hEN : E <= N := by omega
    have hiE : i <= E := by omega
    have hilt : i < E := by omega
    rw [<- hE] at HT; clear o3 t3 t4 hE hO2 b2 OI PI HLo; go_wp2_with fail; clear hI1 hEI hmax; obtain ⟨wo, hwo⟩ := nm_ (w4); rw [<- hwo] at pX oX bX |-; clear hwo; have PX := h_ pX; have OX := h_ oX; clear pX oX; go_loopw [6] (fun x W => ∃ j : Nat, x = .int .i64 (j : Int) /\ i <= j /\ j <= E /\ Placed W bs (mb + 1) mb j /\ W.ownsRow base 5 1 v2 O2.length (O2.map B8) /\ Below base w W) (fun x _ => E - (intOf x).toNat)
    case atStart => exact ⟨i, rfl, Nat.le_refl _, hiE, PX.out, OX.out, bX⟩
    case round =>
     clear PX OX bX; obtain ⟨j, rfl, hij, hjE, pj, oj, bj⟩ := hrel; have OJ := h_ oj; by_cases hjl : j < E
     ·have hadd := add_step ao cap bs B off j (mb + 1) mb _ (h.below (bj.mono hbw)) hsb (by omega) pj (by omega) (by omega) (by unfold maxLen; omega)
      rw [<- HN.out] at hadd; have HA := h_ hadd; have PJ := h_ pj; clear hadd oj pj; go_wp2_with fail; refine HA.out.mono ?_; rintro e W2 ⟨rfl, p2, u2⟩; have o2 := own_but2 OJ.out PJ.out u2; have P2 := h_ p2; have O2' := h_ o2; have b2 := bj.trans (u2.below (Nat.le_trans hwb bj.size) (by omega) (by omega))
      clear p2 u2 o2; go_wp2_with fail; go_roundw
      case rel => exact ⟨j + 1, by go_num, by omega, by omega, P2.out, O2'.out, b2⟩
      case measure => simp [intOf]; omega
     ·obtain rfl : j = E := by omega
      have PJ := h_ pj; clear oj pj; go_wp2_with fail; go_roundw
      case rel => exact ⟨O2, _, j, v2, rfl, rfl, rfl, by omega, by omega, HT.out, PJ.out, OJ.out, bj⟩
      case measure => simp [intOf]; omega
   ·have hz : ln = 0 := by
     rcases lng4_ge (b := bs) (i := i) (d := min 4096 i) with hg | hg
     ·rw [hln]; exact hg
     ·exfalso; apply hc; rw [hln]; exact hg
    rw [toks_step (by omega) (by omega)] at hstep
    have HT := h_ hstep; obtain ⟨E, hE⟩ := nm_ (i + 1); have hEI : (i : Int) + 1 = (E : Int) := by omega
    have hEN : E <= N := by omega
    have hiE : i <= E := by omega
    have hilt : i < E := by omega
    rw [<- hE] at HT; have hmax : (if (E : Int) > (S : Int) then (E : Int) else (S : Int)) = (E : Int) := by rw [if_pos (by omega)]
    have hq : decide ((ln : Int) > 0) = false := by simp; omega
    have hln0 : (ln : Int) <= 0 := by omega
    have hq2 : decide (0 < ln) = false := by simp; omega
    clear hln hd hstep hz hE; go_wp2_with fail; refine HLo.out.mono ?_; rintro e w2 ⟨rfl, b2⟩; have bX := bi.trans (b2.mono (Nat.le_trans hwb bi.size)); have oX := own_below OI.out b2; have pX := PI.out.below b2; clear OI PI HLo b2; go_wp2_with fail; obtain ⟨O2, rfl⟩ := nm_ (O); obtain ⟨v2, rfl⟩ := nm_ (v); clear hEI hmax hq2; obtain ⟨wo, hwo⟩ := nm_ (w2); rw [<- hwo] at pX oX bX |-; clear hwo; have PX := h_ pX; have OX := h_ oX; clear pX oX; go_loopw [6] (fun x W => ∃ j : Nat, x = .int .i64 (j : Int) /\ i <= j /\ j <= E /\ Placed W bs (mb + 1) mb j /\ W.ownsRow base 5 1 v2 O2.length (O2.map B8) /\ Below base w W) (fun x _ => E - (intOf x).toNat)
    case atStart => exact ⟨i, rfl, Nat.le_refl _, hiE, PX.out, OX.out, bX⟩
    case round =>
     clear PX OX bX; obtain ⟨j, rfl, hij, hjE, pj, oj, bj⟩ := hrel; have OJ := h_ oj; by_cases hjl : j < E
     ·have hadd := add_step ao cap bs B off j (mb + 1) mb _ (h.below (bj.mono hbw)) hsb (by omega) pj (by omega) (by omega) (by unfold maxLen; omega)
      rw [<- HN.out] at hadd; have HA := h_ hadd; have PJ := h_ pj; clear hadd oj pj; go_wp2_with fail; refine HA.out.mono ?_; rintro e W2 ⟨rfl, p2, u2⟩; have o2 := own_but2 OJ.out PJ.out u2; have P2 := h_ p2; have O2' := h_ o2; have b2 := bj.trans (u2.below (Nat.le_trans hwb bj.size) (by omega) (by omega))
      clear p2 u2 o2; go_wp2_with fail; go_roundw
      case rel => exact ⟨j + 1, by go_num, by omega, by omega, P2.out, O2'.out, b2⟩
      case measure => simp [intOf]; omega
     ·obtain rfl : j = E := by omega
      have PJ := h_ pj; clear oj pj; go_wp2_with fail; go_roundw
      case rel => exact ⟨O2, _, j, v2, rfl, rfl, rfl, by omega, by omega, HT.out, PJ.out, OJ.out, bj⟩
      case measure => simp [intOf]; omega
  ·obtain rfl : i = N := by omega
   rw [toks_end (by omega)] at hO
   obtain ⟨ao2, hsl, hs2⟩ := hsi.slice_l S (by omega)
   rw [<- HN.out] at hsl; have hS0 : (0 : Int) <= (S : Int) := by omega
   obtain ⟨r, hr⟩ := nm_ (bs.drop S); have er : r.length = i - S := by rw [hr, List.length_drop]; omega
   rw [<- hr] at hs2 hO; have hOr : O.length + r.length <= 143000000000000 := by
    have h1 := congrArg List.length hO; rw [List.length_append] at h1; have h2 := runT_ge r; have h3 := press_wide bs; omega
   have hz3 := (Nat.le_trans hwb bi.size); have hrun := putRunTo base v O ao2 (cap - S) r B (off + S) _ (by omega) oi hs2 (fun hh => hBb (by omega)) (by omega)
   rw [er] at hrun; rw [hO] at hrun; have HRun := h_ hrun; clear hr er hO hrun; go_wp2_with fail; refine HRun.out.mono ?_; rintro e w3 ⟨v3, rfl, o3, t3⟩; go_wp2_with fail; go_ret; have bZ := bi.trans t3.below; rw [HBA.out] at o3 bZ; exact ⟨_, rfl, o3, bZ⟩
end
end Go.Proofs.YtomgijcbekjlaaaGreat
