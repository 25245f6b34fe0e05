/- What the proofs stand on: SumOpen, RefSumTake, SumApp, RefSum. -/
import Derived.ProofKit
import Derived.SizedLaws
import Derived.Test.YtomgijcbekjlaaaGreatP5
import Derived.Test.YtomgijcbekjlaaaGreatP17
import Derived.Deep.RegionHeld3
import Derived.Test.YtomgijcbekjlaaaGreatP0
import Derived.Laws.OwnMore
import Derived.Test.YtomgijcbekjlaaaGreatPB0
import Derived.Test.YtomgijcbekjlaaaGreatPB1
set_option maxRecDepth 100000
set_option maxHeartbeats 40000000
namespace Go.Proofs.YtomgijcbekjlaaaGreat
section
open Go.ChangeShapes Go.WideShapes Go.ChangeAt Go.RowKit
theorem sum_src {ao : Option Addr} {cap : Nat} {bs : List UInt8} {B off : Nat} (w : World) (h : SrcAt w ao cap bs B off) (hlen : bs.length <= 281474976710656) :
  Calls Tryz.prog 31 #[.slice ao bs.length cap] w fun e w' => e = .returned (.string (SL (sumL bs))) /\ Below w.heap.size w w' :=
 sum_any B off cap ao bs w h.src h.le h.top h.cell hlen
end
section
open Go.RowKit
theorem turned_any (x : Nat) (hx : x < 4294967296) (n : Int) (h5 : 5 <= n) (h26 : n <= 26) (w : World) :
  Calls Tryz.prog 139 #[.int .u32 (x : Int), .int .i64 n] w fun e w' => e = .returned (.int .u32 ((rotl (UInt32.ofNat x) n.toNat).toNat : Int)) /\ ∃ k, w' = w.drewN k := by
 obtain ⟨n, rfl⟩ := Int.eq_ofNat_of_zero_le (show 0 <= n by omega)
 rw [Int.toNat_natCast]; have hr := rotl_val (UInt32.ofNat x) n; rw [UInt32.toNat_ofNat_of_lt' hx] at hr; go_enter Tryz.func139, Tryz.ntmps139; go_wp2; go_quiet (fail)
 go_wp2; go_ret; exact ⟨rfl, _, rfl⟩
theorem info32 : (Tryz.prog.info? 135).map (fun i => (i.zero, i.size, i.bytes)) = some (some (.int .u32 0), 1, 4) := by kernel_rfl
def wordsTo (p : List UInt8) (k : Nat) : List UInt32 := (List.range k).map (wordAt p)
theorem wordsTo_succ (p : List UInt8) (k : Nat) : wordsTo p (k + 1) = wordsTo p k ++ [wordAt p k] := by simp [wordsTo, List.range_succ]
theorem wordsTo_end (p : List UInt8) : wordsTo p 8 = blockL p := rfl
theorem sum4_val (x0 x1 x2 x3 : UInt8) : ((x0.toNat : Int) + 256 * (x1.toNat : Int) + 65536 * (x2.toNat : Int) + 16777216 * (x3.toNat : Int)) = ((UInt32.ofNat (x0.toNat + 256 * x1.toNat + 65536 * x2.toNat + 16777216 * x3.toNat)).toNat : Int) := by
 have h0 : x0.toNat < 256 := x0.toNat_lt; have h1 : x1.toNat < 256 := x1.toNat_lt; have h2 : x2.toNat < 256 := x2.toNat_lt; have h3 : x3.toNat < 256 := x3.toNat_lt; rw [UInt32.toNat_ofNat_of_lt' (by show _ < 4294967296; omega)]
 omega
theorem keep_cell {w : World} {a : Addr} {v : Value} (X : Obj) (h : w.cell? a = some v) : ((w.alloc X).drew).cell? a = some v := by
 have hlt := World.block_lt_of_cell? _ _ h; have e : (w.alloc X).cell? a = w.cell? a := World.cell?_alloc_lt _ _ _ hlt
 exact e.trans h
theorem own_cell32 {w : World} {base g cap : Nat} {S : List UInt32} (h : w.ownsRow base 135 1 (.slice (some ⟨g, 0, none⟩) 8 cap) 8 (S.map W32)) (j : Nat) (hj : j < 8) (hS : S.length = 8) : w.cell? ⟨g, j, none⟩ = some (.int .u32 ((S.getD j 0).toNat : Int)) := by
 rw [h.cellAt j (by omega)]
 simp [W32, hS, hj]
theorem own_set32 {w : World} {base g cap : Nat} {S : List UInt32} (h : w.ownsRow base 135 1 (.slice (some ⟨g, 0, none⟩) 8 cap) 8 (S.map W32)) (j : Nat) (x : UInt32) :
  (w.setCell ⟨g, j, none⟩ (.int .u32 (x.toNat : Int))).ownsRow base 135 1 (.slice (some ⟨g, 0, none⟩) 8 cap) 8 ((S.set j x).map W32) := by
 have := (h.stored j (.int .u32 (x.toNat : Int))).1
 rw [List.map_set]; exact this
theorem refTake_any (gs capS : Nat) (S : List UInt32) (hS : S.length = 8) (B ob capb : Nat) (p : List UInt8) (w : World)
  (hs : w.ownsRow 0 135 1 (.slice (some ⟨gs, 0, none⟩) 8 capS) 8 (S.map W32)) (hb : ∀ j, j < 32 -> w.cell? ⟨B, ob + j, none⟩ = some (.int .u8 ((p.getD j 0).toNat : Int))) :
  Calls Tryz.prog 95 #[.slice (some ⟨gs, 0, none⟩) 8 capS, .slice (some ⟨B, ob, none⟩) 32 capb] w fun e w' => e = .returned (.tuple #[]) /\
   w'.ownsRow 0 135 1 (.slice (some ⟨gs, 0, none⟩) 8 capS) 8 ((roundsTo (blockL p) S 8).map W32) /\ w.grownBy w' (some gs) := by
 obtain ⟨i0, hi, hz0, hz1, hz2⟩ := info_parts info32; have hBw : B < w.heap.size := World.block_lt_of_cell? _ _ (hb 0 (by decide))
 have HB := h_ hb; have HS0 := h_ hs; clear hb hs; go_enter Tryz.func95, Tryz.ntmps95; go_wp2; go_loopw [4, 5] (fun v i wr => ∃ k : Nat, k <= 8 /\ i = .int .i64 k /\ wr.ownsRow w.heap.size 135 1 v k ((wordsTo p k).map W32) /\ Below w.heap.size w wr) (fun _ i _ => 8 - (intOf i).toNat)
 case atStart => exact ⟨0, by omega, rfl, World.ownsRow_nil _ _ _ _, Below.refl _ _⟩
 case round =>
  obtain ⟨k, hk, rfl, hown, hbel⟩ := hrel; have HO := h_ hown; clear hown; by_cases hlt : k < 8
  ·have c0 : wr.cell? ⟨B, ob + 4 * k, none⟩ = some (.int .u8 ((p.getD (4 * k) 0).toNat : Int)) := (hbel.cell hBw).trans (HB.out _ (by omega))
   have c1 : wr.cell? ⟨B, ob + (4 * k + 1), none⟩ = some (.int .u8 ((p.getD (4 * k + 1) 0).toNat : Int)) := (hbel.cell hBw).trans (HB.out _ (by omega))
   have c2 : wr.cell? ⟨B, ob + (4 * k + 2), none⟩ = some (.int .u8 ((p.getD (4 * k + 2) 0).toNat : Int)) := (hbel.cell hBw).trans (HB.out _ (by omega))
   have c3 : wr.cell? ⟨B, ob + (4 * k + 3), none⟩ = some (.int .u8 ((p.getD (4 * k + 3) 0).toNat : Int)) := (hbel.cell hBw).trans (HB.out _ (by omega))
   generalize hx0 : p.getD (4 * k) 0 = x0 at *
   generalize hx1 : p.getD (4 * k + 1) 0 = x1 at *
   generalize hx2 : p.getD (4 * k + 2) 0 = x2 at *
   generalize hx3 : p.getD (4 * k + 3) 0 = x3 at *
   have hfin : UInt32.ofNat (x0.toNat + 256 * x1.toNat + 65536 * x2.toNat + 16777216 * x3.toNat) = wordAt p k := by
    unfold wordAt; rw [hx0, hx1, hx2, hx3]
   have HF := h_ hfin; clear hx0 hx1 hx2 hx3 hfin; have bx0 : x0.toNat < 256 := x0.toNat_lt; have bx1 : x1.toNat < 256 := x1.toNat_lt; have bx2 : x2.toNat < 256 := x2.toNat_lt; have bx3 : x3.toNat < 256 := x3.toNat_lt; have hBwr : B < wr.heap.size := Nat.lt_of_lt_of_le hBw hbel.size; go_wp2; have i0a : (0 : Int) <= 4 * (k : Int) := by omega
   have i0b : 4 * (k : Int) < 32 := by omega
   have i1a : (0 : Int) <= 4 * (k : Int) + 1 := by omega
   have i1b : 4 * (k : Int) + 1 < 32 := by omega
   have i2a : (0 : Int) <= 4 * (k : Int) + 2 := by omega
   have i2b : 4 * (k : Int) + 2 < 32 := by omega
   have i3a : (0 : Int) <= 4 * (k : Int) + 3 := by omega
   have i3b : 4 * (k : Int) + 3 < 32 := by omega
   have n0 : (4 * (k : Int)).toNat = 4 * k := by omega
   have n1 : (4 * (k : Int) + 1).toNat = 4 * k + 1 := by omega
   have n2 : (4 * (k : Int) + 2).toNat = 4 * k + 2 := by omega
   have n3 : (4 * (k : Int) + 3).toNat = 4 * k + 3 := by omega
   have e0 : IntKind.i64.wrap (4 * (k : Int)) = 4 * (k : Int) := IntWalk.i64_in _ (by omega)
   have e1 : IntKind.i64.wrap (4 * (k : Int) + 1) = 4 * (k : Int) + 1 := IntWalk.i64_in _ (by omega)
   have e2 : IntKind.i64.wrap (4 * (k : Int) + 2) = 4 * (k : Int) + 2 := IntWalk.i64_in _ (by omega)
   have e3 : IntKind.i64.wrap (4 * (k : Int) + 3) = 4 * (k : Int) + 3 := IntWalk.i64_in _ (by omega)
   have hwr : ∀ x : UInt8, IntKind.u32.wrap (x.toNat : Int) = (x.toNat : Int) := fun x => IntWalk.u32_in _ (by have := x.toNat_lt; omega)
   have hw0 := hwr x0; have hw1 := hwr x1; have hw2 := hwr x2; have hw3 := hwr x3; clear hwr; have m1 : IntKind.u32.wrap (256 * (x1.toNat : Int)) = 256 * (x1.toNat : Int) := IntWalk.u32_in _ (by omega)
   have m2 : IntKind.u32.wrap (65536 * (x2.toNat : Int)) = 65536 * (x2.toNat : Int) := IntWalk.u32_in _ (by omega)
   have m3 : IntKind.u32.wrap (16777216 * (x3.toNat : Int)) = 16777216 * (x3.toNat : Int) := IntWalk.u32_in _ (by omega)
   have a1 : IntKind.u32.wrap ((x0.toNat : Int) + 256 * (x1.toNat : Int)) = (x0.toNat : Int) + 256 * (x1.toNat : Int) := IntWalk.u32_in _ (by omega)
   have a2 : IntKind.u32.wrap ((x0.toNat : Int) + 256 * (x1.toNat : Int) + 65536 * (x2.toNat : Int)) = (x0.toNat : Int) + 256 * (x1.toNat : Int) + 65536 * (x2.toNat : Int) := IntWalk.u32_in _ (by omega)
   have a3 : IntKind.u32.wrap ((x0.toNat : Int) + 256 * (x1.toNat : Int) + 65536 * (x2.toNat : Int) + 16777216 * (x3.toNat : Int)) = (x0.toNat : Int) + 256 * (x1.toNat : Int) + 65536 * (x2.toNat : Int) + 16777216 * (x3.toNat : Int) := IntWalk.u32_in _ (by omega)
   go_region_held3 (fun w' => w'.cell? ⟨B, ob + 4 * k, none⟩ = some (.int .u8 (x0.toNat : Int)) /\ w'.cell? ⟨B, ob + (4 * k + 1), none⟩ = some (.int .u8 (x1.toNat : Int)) /\ w'.cell? ⟨B, ob + (4 * k + 2), none⟩ = some (.int .u8 (x2.toNat : Int)) /\ w'.cell? ⟨B, ob + (4 * k + 3), none⟩ = some (.int .u8 (x3.toNat : Int)))
    (first | go_keep | exact ⟨hgrow1.cell (keep_cell _ c0) (fun e => absurd (HO.out.lt B e.symm).1 (by omega)), hgrow1.cell (keep_cell _ c1) (fun e => absurd (HO.out.lt B e.symm).1 (by omega)), hgrow1.cell (keep_cell _ c2) (fun e => absurd (HO.out.lt B e.symm).1 (by omega)), hgrow1.cell (keep_cell _ c3) (fun e => absurd (HO.out.lt B e.symm).1 (by omega))⟩)
    ((refine step_append_own rfl _ _ 134 rfl w.heap.size 135 i0 (.int .u32 0) 1 4 Tryz.underlying134 hi hz0 hz1 hz2 rfl (by decide) _ k _ rfl (HO.out.alloc _) ⟨wr.heap.size, 0, none⟩ 1 1 _ rfl rfl (cells_new _ _ _) (by simp [Value.oneCell']) (by unfold maxLen; omega) (by omega) (by have := hbel.size; simp; omega) ?_; intro v1 w1 HO1 hgrow1))
   go_wp2; go_roundw
   case rel =>
    refine ⟨k + 1, by omega, by go_num, ?_, ?_⟩
    ·have h := HO1.out
     have e : wordsTo p (k + 1) = wordsTo p k ++ [wordAt p k] := wordsTo_succ p k
     rw [e, List.map_append, <- HF.out]; have e2 : [W32 (UInt32.ofNat (x0.toNat + 256 * x1.toNat + 65536 * x2.toNat + 16777216 * x3.toNat))] = ([.int .u32 ((x0.toNat : Int) + 256 * (x1.toNat : Int) + 65536 * (x2.toNat : Int) + 16777216 * (x3.toNat : Int))] : List Value) := by
      rw [sum4_val]; rfl
     rw [List.map_cons, List.map_nil, e2]; exact h
    ·exact (hbel.alloc hbel.size _).drew.grown hgrow1 (by have := hbel.size; simp; omega) (fun k hk => (HO.out.lt k hk).1)
   case measure => simp [intOf]; omega
  ·obtain rfl : k = 8 := by omega
   rw [wordsTo_end] at HO; obtain ⟨gw, cw, rfl, hgw, hgwl⟩ := own_some HO.out (by decide)
   have hgs : gs < w.heap.size := by
    obtain ⟨g', c', e', _, hl⟩ := own_some HS0.out (by decide)
    cases e'
    exact hl
   have hne : gw ≠ gs := by omega
   have hrow : wr.ownsRow 0 135 1 (.slice (some ⟨gs, 0, none⟩) 8 capS) 8 ((roundsTo (blockL p) S 0).map W32) :=
    HS0.out.kept (grown_of_below hbel none) (.inr (by simp [Value.ownBlock]))
   have HR := h_ hrow; have hgr : w.grownBy wr (some gs) := grown_of_below hbel _; clear hrow hbel; go_wp2; go_loopw [6] (fun i wq => ∃ r : Nat, r <= 8 /\ i = .int .i64 r /\ wq.ownsRow 0 135 1 (.slice (some ⟨gs, 0, none⟩) 8 capS) 8 ((roundsTo (blockL p) S r).map W32) /\ wq.ownsRow w.heap.size 135 1 (.slice (some ⟨gw, 0, none⟩) 8 cw) 8 ((blockL p).map W32) /\ w.grownBy wq (some gs)) (fun i _ => 8 - (intOf i).toNat)
   case atStart => exact ⟨0, by omega, rfl, HR.out, HO.out, hgr⟩
   case round =>
    clear HR HO hgr; obtain ⟨r, hr, rfl, hrow, hwrd, hgr⟩ := hrel; have HR := h_ hrow; have HW := h_ hwrd; clear hrow hwrd; by_cases hlt : r < 8
    ·obtain ⟨wo, rfl⟩ : ∃ wo : World, wo = wr := ⟨_, rfl⟩
     go_wp2; go_loopw [7, 8] (fun i _ wq => ∃ k : Nat, k <= 8 /\ i = .int .i64 k /\ wq.ownsRow 0 135 1 (.slice (some ⟨gs, 0, none⟩) 8 capS) 8 ((stepsTo (blockL p) r (roundsTo (blockL p) S r) k).map W32) /\ wq.ownsRow w.heap.size 135 1 (.slice (some ⟨gw, 0, none⟩) 8 cw) 8 ((blockL p).map W32) /\ w.grownBy wq (some gs)) (fun i _ _ => 8 - (intOf i).toNat)
     case atStart => exact ⟨0, by omega, rfl, HR.out, HW.out, hgr⟩
     case round =>
      clear HR HW hgr; obtain ⟨k, hk, rfl, hrow, hwrd, hgr⟩ := hrel; by_cases hlt2 : k < 8
      ·generalize hT : stepsTo (blockL p) r (roundsTo (blockL p) S r) k = T at *
       have lT : T.length = 8 := by rw [<- hT, stepsTo_length, roundsTo_length, hS]
       have c1 := own_cell32 hrow k hlt2 lT; have hm1 : (k + r) % 8 < 8 := Nat.mod_lt _ (by decide)
       have hm2 : (k + 1) % 8 < 8 := Nat.mod_lt _ (by decide)
       have c2 := own_cell32 hwrd ((k + r) % 8) hm1 (blockL_length _); have c3 := own_cell32 hrow ((k + 1) % 8) hm2 lT; have f1 := hrow.frozenAt k; have e4 : ((k : Int) + r).tmod 8 = ((((k + r) % 8 : Nat)) : Int) := by rw [Int.tmod_eq_emod_of_nonneg (by omega)]; omega
       have e4' : ((k : Int) + r) % 8 = ((((k + r) % 8 : Nat)) : Int) := by omega
       have e5 : ((k : Int) + 1).tmod 8 = ((((k + 1) % 8 : Nat)) : Int) := by rw [Int.tmod_eq_emod_of_nonneg (by omega)]; omega
       have e6 : ((k : Int) + 1) % 8 = ((((k + 1) % 8 : Nat)) : Int) := by omega
       have e1 : IntKind.i64.wrap ((k : Int) + r) = (k : Int) + r := IntWalk.i64_in _ (by omega)
       have e2 : IntKind.i64.wrap (3 * (k : Int)) = 3 * (k : Int) := IntWalk.i64_in _ (by omega)
       have e3 : IntKind.i64.wrap (5 + 3 * (k : Int)) = 5 + 3 * (k : Int) := IntWalk.i64_in _ (by omega)
       have xv := xor_val (T.getD k 0) ((blockL p).getD ((k + r) % 8) 0); have HR := h_ hrow; have HW := h_ hwrd; have HT := h_ hT; have LT := h_ lT; clear hrow hwrd hT lT; generalize hX1 : T.getD k 0 = x1 at *
       generalize hX2 : (blockL p).getD ((k + r) % 8) 0 = x2 at *
       generalize hX3 : T.getD ((k + 1) % 8) 0 = x3 at *
       have hfin : T.set k (rotl (x1 ^^^ x2) (5 + 3 * k) + x3 * 2246822507 + UInt32.ofNat (k + r)) = stepI (blockL p) r T k := by
        unfold stepI; rw [hX1, hX2, hX3]
       have HF := h_ hfin; clear hfin hX1 hX2 hX3; generalize hM1 : (k + r) % 8 = m1 at *
       generalize hM2 : (k + 1) % 8 = m2 at *
       have HM1 := h_ hM1; have HM2 := h_ hM2; clear hM1 hM2; go_wp2; go_quiet ((go_at_call 139; exact Calls.quiet_of ((turned_any (x1 ^^^ x2).toNat (x1 ^^^ x2).toNat_lt _ (by omega) (by omega) _))))
       rw [UInt32.ofNat_toNat]; go_wp2; go_roundw
       case rel =>
        refine ⟨k + 1, by omega, by go_num, ?_, ?_, ?_⟩
        ·rw [step_val, stepsTo_succ, HT.out, <- HF.out]
         exact own_set32 (w := World.drewN _ _) HR.out k _
        ·exact HW.out.kept (grown_trans (grown_drewN _ _ _) (grown_setCell _ _ _ _)) (.inr (by simp [Value.ownBlock]; omega))
        ·exact grown_trans (grown_trans hgr (grown_drewN _ _ _)) (grown_setCell _ _ _ _)
       case measure => simp [intOf]; omega
      ·obtain rfl : k = 8 := by omega
       have HR := h_ hrow; have HW := h_ hwrd; clear hrow hwrd; go_wp2; go_roundw
       case rel => exact ⟨r + 1, by omega, by go_num, by rw [roundsTo_succ]; exact HR.out, HW.out, hgr⟩
       case measure => simp [intOf]; omega
    ·obtain rfl : r = 8 := by omega
     go_wp2; refine bodyPost_end (v := .tuple #[]) (by simp [results, Tryz.results95]) rfl ⟨rfl, HR.out, hgr⟩
end
section
open Go.RowKit
end
section
open Go.RowKit
theorem noughts_more (n j : Nat) (h : j < noughts n) : (n + 1 + j) % 32 ≠ 24 := by unfold noughts at h; omega
theorem noughts_done (n : Nat) : (n + 1 + noughts n) % 32 = 24 := by unfold noughts; omega
theorem zeros8_snoc (j : Nat) : zeros8 (j + 1) = zeros8 j ++ [0] := zeros8_add j 1
def lenS : Value -> Nat
 | .slice _ n _ => n
 | _ => 0
theorem startL_snoc (k : Nat) (h : k < 8) : startL.take (k + 1) = startL.take k ++ [startW k] := by
 have hl : k < startL.length := by rw [startL_length]; exact h
 rw [List.take_succ_eq_append_getElem hl]; simp [startL]
theorem own_ne {w : World} {b1 e1 s1 n b2 e2 s2 g m c : Nat} {v : Value} {xs ys : List Value} (h1 : w.ownsRow b1 e1 s1 v n xs) (h2 : w.ownsRow b2 e2 s2 (.slice (some ⟨g, 0, none⟩) m c) m ys) (he : e1 ≠ e2) : v.ownBlock ≠ some g := by
 rcases h1.2 with ⟨rfl, _⟩ | ⟨g1, c1, cur1, rfl, _, h3, _⟩
 ·simp [Value.ownBlock]
 ·rcases h2.2 with ⟨h4, _⟩ | ⟨g2, c2, cur2, h4, _, h5, _⟩
  ·cases h4
  ·cases h4
   intro e
   have e' : g1 = g := by simpa [Value.ownBlock] using e
   rw [e', h5] at h3
   cases h3
   exact he rfl
theorem own_cap {w : World} {b e s m g c : Nat} {xs : List Value} (h : w.ownsRow b e s (.slice (some ⟨g, 0, none⟩) m c) m xs) : m <= c := by
 rcases h.2 with ⟨h4, _⟩ | ⟨g2, c2, cur2, h4, _, _, h5, _⟩
 ·cases h4
 ·cases h4
  exact h5
theorem sizeOf22' (w : World) : (sizeOf (Tryz.prog.elem 29)).run Tryz.prog w = .ok 1 w := by kernel_rfl
theorem slice_32 (g m cap p : Nat) (h : p + 32 <= cap) (W : World) : (Instr.slice 29 (.slice (some ⟨g, 0, none⟩) m cap) (some (.int .i64 (p : Int))) (some (.int .i64 ((p : Int) + 32))) none).run Tryz.prog W = .ok (.slice (some ⟨g, p, none⟩) 32 (cap - p)) W := by
 rw [run_slice_lh W 29 (some ⟨g, 0, none⟩) m cap (by kernel_rfl) .i64 .i64 (p : Int) ((p : Int) + 32) (by omega) (by omega) (by omega), sizeOf22']
 have e1 : ((p : Int) + 32).toNat = p + 32 := by omega
 have e2 : cap ≠ p := by omega
 simp only [Result.andThen_ok, sliced, Int.toNat_natCast, e1, Nat.add_sub_cancel_left, if_neg e2, Option.map_some, Addr.add_lit, Nat.mul_one, Nat.zero_add]
theorem own_cell8 {w : World} {b m g c : Nat} {A : List UInt8} (h : w.ownsRow b 5 1 (.slice (some ⟨g, 0, none⟩) m c) m (A.map B8)) (j : Nat) (hj : j < m) (hA : A.length = m) : w.cell? ⟨g, j, none⟩ = some (.int .u8 ((A.getD j 0).toNat : Int)) := by
 rw [h.cellAt j (by omega)]
 simp [B8, hA, hj]
theorem getD_piece (A : List UInt8) (p j : Nat) (hj : j < 32) : ((A.drop p).take 32).getD j 0 = A.getD (p + j) 0 := by
 simp [List.getD, hj]
theorem refSum_any (ao : Option Addr) (cap : Nat) (bs : List UInt8) (B off : Nat) (w : World) (h : SrcAt w ao cap bs B off) (hs : bs.length <= 140737488351232) :
  Calls Tryz.prog 50 #[.slice ao bs.length cap] w fun e w' => e = .returned (.string (SL (sumL bs))) /\ Below w.heap.size w w' := by
 obtain ⟨i0, hi, hz0, hz1, hz2⟩ := info_parts info5; obtain ⟨i2, hy, hy0, hy1, hy2⟩ := info_parts info32; obtain ⟨n, hn⟩ := nm_ (bs.length); have hbl : bs.length <= 140737488351232 := hs
 rw [<- hn] at hs |-; have HN := h_ hn; clear hn; have fin1 : ∀ (v1 : Value) (w1 : World), Hid (w1.ownsRow w.heap.size 5 1 v1 (0 + n) ([] ++ bs.map B8)) -> w.grownBy w1 (Value.ownBlock (.slice none 0 0)) ->
   Hid (w1.ownsRow w.heap.size 5 1 v1 n (bs.map B8)) /\ Below w.heap.size w w1 := fun v1 w1 h1 h2 =>
  ⟨by have := h1.out; rw [Nat.zero_add, List.nil_append] at this; exact this, ⟨h2.os, h2.tape, h2.output, h2.size, fun k hk => h2.block k hk (fun e => by cases e)⟩⟩
 go_enter Tryz.func50, Tryz.ntmps50; go_wp2_with (first
  | (at_builtin; refine wpList_append_own _ rfl _ _ 29 rfl w.heap.size 5 i0 (.int .u8 0) 1 1 Tryz.underlying29 hi hz0 hz1 hz2 rfl (by decide) v1 n _ rfl (O1.out.alloc _) ⟨_, 0, none⟩ 1 1 _ rfl rfl (news_one _ _) (by simp [Value.oneCell']) (by unfold maxLen; omega) (by omega) (by have := q1.size; simp; omega) ?_; intro v2 w2 hown2 hgrow2 _; have O2 := h_ hown2; have G2 := h_ hgrow2; clear hown2 hgrow2)
  | (at_builtin; refine wpList_append_src rfl _ _ rfl w.heap.size (.slice none 0 0) 0 [] rfl (World.ownsRow_nil _ _ _ _) ao n cap rfl (bs.map B8) (by rw [List.length_map]; exact HN.out.symm) (fun hh => by rw [HN.out]; exact h.bare hh) h.cells (B8_one _) (by omega) (Nat.le_refl _) ?_; intro v1 w1 hown1 hg1 hv1; obtain ⟨O1, q1⟩ := fin1 v1 w1 hown1 hg1; clear hown1 hg1 hv1))
 have hw2 : w2.ownsRow w.heap.size 5 1 v2 (n + 1 + 0) ((bs ++ 1 :: zeros8 0).map B8) /\ Below w.heap.size w w2 := ⟨by
  have h1 := O2.out; have e : (bs ++ 1 :: zeros8 0).map B8 = bs.map B8 ++ [.int .u8 1] := by simp [zeros8]; rfl
  rw [e]; exact h1, (q1.alloc q1.size _).grown G2.out (by have := q1.size; simp; omega) (fun k hk => (O1.out.lt k hk).1)⟩
 obtain ⟨O2', q2⟩ := hw2; have O2 := h_ O2'; clear O2' G2 O1 q1 fin1; go_loopw [3] (fun v wr => ∃ j : Nat, j <= noughts n /\ wr.ownsRow w.heap.size 5 1 v (n + 1 + j) ((bs ++ 1 :: zeros8 j).map B8) /\ Below w.heap.size w wr) (fun v _ => n + 33 - lenS v)
 case atStart => exact ⟨0, by omega, O2.out, q2⟩
 case round =>
  clear O2 q2; obtain ⟨j, hj, hown, hbel⟩ := hrel; obtain ⟨g, c, rfl, hg, hgl⟩ := own_some hown (by omega)
  have HO := h_ hown; clear hown; have hjb := noughts_lt n; have ew : IntKind.i64.wrap ((n + 1 + j : Nat) : Int) = ((n + 1 + j : Nat) : Int) := IntWalk.i64_in _ (by omega)
  have em : (((n + 1 + j : Nat)) : Int).tmod 32 = (((n + 1 + j) % 32 : Nat) : Int) := by rw [Int.tmod_eq_emod_of_nonneg (by omega)]; omega
  have em' : (((n + 1 + j : Nat)) : Int) % 32 = (((n + 1 + j) % 32 : Nat) : Int) := by omega
  by_cases hlt : j < noughts n
  ·have hne := noughts_more n j hlt
   have hb : ((((n + 1 + j) % 32 : Nat) : Int) == 24) = false := by rw [beq_eq_false_iff_ne]; omega
   go_wp2_with (first
    | (at_builtin; refine wpList_append_own _ rfl _ _ 29 rfl w.heap.size 5 i0 (.int .u8 0) 1 1 Tryz.underlying29 hi hz0 hz1 hz2 rfl (by decide) _ (n + 1 + j) _ rfl (HO.out.alloc _) ⟨_, 0, none⟩ 1 1 _ rfl rfl (news_one _ _) (by simp [Value.oneCell']) (by unfold maxLen; omega) (by omega) (by have := hbel.size; simp; omega) ?_; intro v3 w3 hown3 hgrow3 _; have O3 := h_ hown3; have G3 := h_ hgrow3; clear hown3 hgrow3))
   go_roundw
   case rel =>
    refine ⟨j + 1, by omega, ?_, (hbel.alloc hbel.size _).grown G3.out (by have := hbel.size; simp; omega) (fun k hk => (HO.out.lt k hk).1)⟩
    have h1 := O3.out; have e : (bs ++ 1 :: zeros8 (j + 1)).map B8 = (bs ++ 1 :: zeros8 j).map B8 ++ [.int .u8 0] := by rw [zeros8_snoc]; simp; rfl
    rw [e]; exact h1
   case measure =>
    obtain ⟨g', c', e', _⟩ := own_some O3.out (by omega)
    rw [e']; simp [lenS]; omega
  ·obtain rfl : j = noughts n := by omega
   have hne := noughts_done n; rw [hne] at em em'; go_wp2; generalize Value.bool (((n : Int) + 1 + (noughts n : Int)) % 32 != 24) = y21
   clear em em' ew hne hjb hj; have hL : ∃ L, L = n + 1 + noughts n := ⟨_, rfl⟩
   obtain ⟨L, hL⟩ := hL; have hjb := noughts_lt n; have hLb : L <= 140737488351232 + 33 := by omega
   have hL0 : 0 < L := by omega
   have e0 : bs ++ 1 :: zeros8 (noughts n) = bs ++ tailTo n 0 := by simp [tailTo, numBytes]
   rw [<- hL] at HO |-; rw [e0] at HO; have HL := h_ hL; clear hL e0 hjb; go_loopw [3, 4, 5] (fun v x i wq => ∃ k : Nat, k <= 8 /\ i = .int .i64 k /\ x = .int .u64 ((n / 2 ^ (8 * k) : Nat) : Int) /\ wq.ownsRow w.heap.size 5 1 v (L + k) ((bs ++ tailTo n k).map B8) /\ Below w.heap.size w wq) (fun _ _ i _ => 8 - (intOf i).toNat)
   case atStart => exact ⟨0, by omega, rfl, by simp, HO.out, hbel⟩
   case round =>
    clear HO hbel; obtain ⟨k, hk, rfl, rfl, hown, hbel⟩ := hrel; obtain ⟨g2, c2, rfl, hg2, hgl2⟩ := own_some hown (by omega)
    have HO := h_ hown; clear hown; by_cases hlt : k < 8
    ·obtain ⟨q, hq⟩ := nm_ (n / 2 ^ (8 * k))
     rw [<- hq]; have hqn : q <= n := by rw [hq]; exact Nat.div_le_self _ _
     have HQ := h_ hq; clear hq; go_wp2_with (first
      | (at_builtin; refine wpList_append_own _ rfl _ _ 29 rfl w.heap.size 5 i0 (.int .u8 0) 1 1 Tryz.underlying29 hi hz0 hz1 hz2 rfl (by decide) _ (L + k) _ rfl (HO.out.alloc _) ⟨_, 0, none⟩ 1 1 _ rfl rfl (news_one _ _) (by simp [Value.oneCell']) (by unfold maxLen; omega) (by omega) (by have := hbel.size; simp; omega) ?_; intro v3 w3 hown3 hgrow3 _; have O3 := h_ hown3; have G3 := h_ hgrow3; clear hown3 hgrow3))
     go_roundw
     case rel =>
      refine ⟨k + 1, by omega, by go_num, ?_, ?_, (hbel.alloc hbel.size _).grown G3.out (by have := hbel.size; simp; omega) (fun k hk => (HO.out.lt k hk).1)⟩
      ·have e : n / 2 ^ (8 * (k + 1)) = q / 256 := by rw [HQ.out, Nat.div_div_eq_div_mul, Nat.mul_add, Nat.pow_add]
       rw [e]; simp
      ·have h1 := O3.out
       have e : (bs ++ tailTo n (k + 1)).map B8 = (bs ++ tailTo n k).map B8 ++ [.int .u8 ((q : Int) % 256)] := by
        rw [tailTo, numBytes_succ, <- HQ.out, tailTo]; simp [B8, UInt8.toNat_ofNat']
       rw [e]; exact h1
     case measure => simp [intOf]; omega
    ·obtain rfl : k = 8 := by omega
     go_wp2; generalize Value.int IntKind.u64 ((n / 2 ^ (8 * 8) : Nat) : Int) = y4
     generalize Value.int IntKind.i64 ((8 : Nat) : Int) = y8
     clear hlt hk hgl2 hg2 hL0; go_loopw [3, 6] (fun v i wq => ∃ k : Nat, k <= 32 /\ i = .int .i64 k /\ wq.ownsRow w.heap.size 5 1 v (L + 8 + k) ((bs ++ (tailTo n 8 ++ zeros8 k)).map B8) /\ Below w.heap.size w wq) (fun _ i _ => 32 - (intOf i).toNat)
     case atStart => exact ⟨0, by omega, rfl, by rw [show zeros8 0 = [] from rfl, List.append_nil]; exact HO.out, hbel⟩
     case round =>
      clear HO hbel; obtain ⟨k, hk, rfl, hown, hbel⟩ := hrel; obtain ⟨g3, c3, rfl, hg3, hgl3⟩ := own_some hown (by omega)
      have HO := h_ hown; clear hown; by_cases hlt : k < 32
      ·go_wp2_with (first
        | (at_builtin; refine wpList_append_own _ rfl _ _ 29 rfl w.heap.size 5 i0 (.int .u8 0) 1 1 Tryz.underlying29 hi hz0 hz1 hz2 rfl (by decide) _ (L + 8 + k) _ rfl (HO.out.alloc _) ⟨_, 0, none⟩ 1 1 _ rfl rfl (news_one _ _) (by simp [Value.oneCell']) (by unfold maxLen; omega) (by omega) (by have := hbel.size; simp; omega) ?_; intro v3 w3 hown3 hgrow3 _; have O3 := h_ hown3; have G3 := h_ hgrow3; clear hown3 hgrow3))
       go_roundw
       case rel =>
        refine ⟨k + 1, by omega, by go_num, ?_, (hbel.alloc hbel.size _).grown G3.out (by have := hbel.size; simp; omega) (fun k hk => (HO.out.lt k hk).1)⟩
        have h1 := O3.out; have e : (bs ++ (tailTo n 8 ++ zeros8 (k + 1))).map B8 = (bs ++ (tailTo n 8 ++ zeros8 k)).map B8 ++ [.int .u8 0] := by
         rw [zeros8_snoc]; simp [B8]
        rw [e]; exact h1
       case measure => simp [intOf]; omega
      ·obtain rfl : k = 32 := by omega
       go_wp2; generalize Value.int IntKind.i64 ((32 : Nat) : Int) = y32
       clear hlt hk hgl3 hg3; obtain ⟨A, hA⟩ := nm_ (bs ++ tailL n); obtain ⟨ln, hln⟩ := nm_ (L + 8 + 32); have hAl : A.length = ln := by
        have := HL.out
        have := HN.out
        rw [hA, hln, tailL]; simp [tailTo, zeros8_length, numBytes_length]; omega
       have hm32 : ln % 32 = 0 := by
        have := HL.out
        have := noughts_done n
        omega
       have hlb : ln <= 140737488351232 + 33 + 40 := by omega
       have eA : bs ++ (tailTo n 8 ++ zeros8 32) = A := by rw [hA]; rfl
       rw [eA, <- hln] at HO; rw [<- hln]; have HA := h_ hA; have HAL := h_ hAl; have HM := h_ hm32; clear hA hAl hm32 eA hln; go_loopw [7, 8] (fun v i wq => ∃ k : Nat, k <= 8 /\ i = .int .i64 k /\ wq.ownsRow w.heap.size 135 1 v k ((startL.take k).map W32) /\ wq.ownsRow w.heap.size 5 1 (.slice (some ⟨g3, 0, none⟩) ln c3) ln (A.map B8) /\ Below w.heap.size w wq) (fun _ i _ => 8 - (intOf i).toNat)
       case atStart => exact ⟨0, by omega, rfl, World.ownsRow_nil _ _ _ _, HO.out, hbel⟩
       case round =>
        clear HO hbel; obtain ⟨k, hk, rfl, hown, hall, hbel⟩ := hrel; have hne := own_ne hown hall (by decide)
        have HO := h_ hown; have HB := h_ hall; clear hown hall; by_cases hlt : k < 8
        ·have hv := startW_val k
         go_wp2_with (first
          | (at_builtin; refine wpList_append_own _ rfl _ _ 134 rfl w.heap.size 135 i2 (.int .u32 0) 1 4 Tryz.underlying134 hy hy0 hy1 hy2 rfl (by decide) _ k _ rfl (HO.out.alloc _) ⟨_, 0, none⟩ 1 1 _ rfl rfl (cells_new _ _ _) (by simp [Value.oneCell']) (by unfold maxLen; omega) (by omega) (by have := hbel.size; simp; omega) ?_; intro v3 w3 hown3 hgrow3 _; have O3 := h_ hown3; have G3 := h_ hgrow3; clear hown3 hgrow3))
         go_roundw
         case rel =>
          refine ⟨k + 1, by omega, by go_num, ?_, (HB.out.alloc _).kept G3.out (.inr (fun e => hne e.symm)), (hbel.alloc hbel.size _).grown G3.out (by have := hbel.size; simp; omega) (fun k hk => (HO.out.lt k hk).1)⟩
          have h1 := O3.out; have e : (startL.take (k + 1)).map W32 = (startL.take k).map W32 ++ [.int .u32 ((startW k).toNat : Int)] := by
           rw [startL_snoc k hlt]; simp [W32]
          rw [e]; exact h1
         case measure => simp [intOf]; omega
        ·obtain rfl : k = 8 := by omega
         go_wp2; rw [List.take_of_length_le (by rw [startL_length]; omega)] at HO
         obtain ⟨gs, cs, rfl, hgs, hgsl⟩ := own_some HO.out (by decide)
         have hne3 : gs ≠ g3 := fun e => hne (by rw [e]; rfl)
         have hcap := own_cap HB.out; have HS : Hid (wr.ownsRow 0 135 1 (.slice (some ⟨gs, 0, none⟩) 8 cs) 8 ((absorbTo A 0).map W32)) := h_ (own_base HO.out (Nat.zero_le _)); generalize Value.int IntKind.i64 ((8 : Nat) : Int) = z8
         clear HO hne hk hlt hgsl; go_loopw [9] (fun i wq => ∃ p k : Nat, p = 32 * k /\ p <= ln /\ i = .int .i64 p /\ wq.ownsRow 0 135 1 (.slice (some ⟨gs, 0, none⟩) 8 cs) 8 ((absorbTo A k).map W32) /\ wq.ownsRow w.heap.size 5 1 (.slice (some ⟨g3, 0, none⟩) ln c3) ln (A.map B8) /\ Below w.heap.size w wq) (fun i _ => ln - (intOf i).toNat)
         case atStart => exact ⟨0, 0, rfl, by omega, rfl, HS.out, HB.out, hbel⟩
         case round =>
          clear HS HB hbel; obtain ⟨p, k, hpk, hp, rfl, hs1, hb1, hbel⟩ := hrel; have HS := h_ hs1; have HB := h_ hb1; clear hs1 hb1; by_cases hlt : p < ln
          ·have hm := HM.out
           have hal := HAL.out; have hp32 : p + 32 <= ln := by omega
           have hsl := slice_32 g3 ln c3 p (by omega)
           have HPK := h_ hpk; clear hpk hm hal; go_wp2_with fail; have hcells : ∀ j, j < 32 -> wr.cell? ⟨g3, p + j, none⟩ = some (.int .u8 ((((A.drop p).take 32).getD j 0).toNat : Int)) := fun j hj => by
            rw [own_cell8 HB.out (p + j) (by omega) HAL.out, <- getD_piece A p j hj]
           refine (refTake_any gs cs (absorbTo A k) (absorbTo_length A k) g3 p (c3 - p) ((A.drop p).take 32) wr HS.out hcells).mono ?_; rintro e w3 ⟨rfl, hs3, hg3'⟩; clear hcells; go_wp2; go_roundw
           case rel =>
            refine ⟨p + 32, k + 1, by have := HPK.out; omega, by omega, by go_num, ?_, HB.out.kept hg3' (.inr (fun e => hne3 (by simpa [Value.ownBlock] using e.symm))), hbel.grown hg3' hbel.size (fun k hk => by cases hk; exact hgs)⟩
            rw [absorbTo_succ, <- HPK.out]; exact hs3
           case measure => simp [intOf]; omega
          ·obtain rfl : p = ln := by omega
           have ek : absorbTo A k = absorb A := by
            unfold absorb; rw [HAL.out]; have : k = p / 32 := by omega
            rw [this]
           rw [ek] at HS; clear ek hlt hp HB hpk hcap; go_wp2; go_loopw [10, 11] (fun v i wq => ∃ k : Nat, k <= 8 /\ i = .int .i64 k /\ wq.ownsRow w.heap.size 5 1 v (4 * k) ((wordsBytes ((absorb A).take k)).map B8) /\ wq.ownsRow 0 135 1 (.slice (some ⟨gs, 0, none⟩) 8 cs) 8 ((absorb A).map W32) /\ Below w.heap.size w wq) (fun _ i _ => 8 - (intOf i).toNat)
           case atStart => exact ⟨0, by omega, rfl, World.ownsRow_nil _ _ _ _, HS.out, hbel⟩
           case round =>
            clear HS hbel; obtain ⟨k, hk, rfl, ho1, hs1, hbel⟩ := hrel; have hneo := own_ne ho1 hs1 (by decide)
            have hneo' : some gs ≠ u10.ownBlock := fun e => hneo e.symm
            have c1 : k < 8 -> wr.cell? ⟨gs, k, none⟩ = some (.int .u32 (((absorb A).getD k 0).toNat : Int)) := fun h => own_cell32 hs1 k h (absorb_length A)
            have HO := h_ ho1; have HS := h_ hs1; clear ho1 hs1; by_cases hlt : k < 8
            ·have c0 := c1 hlt
             obtain ⟨x, hx⟩ := nm_ ((absorb A).getD k 0); rw [<- hx] at c0; have hxl : x.toNat < 4294967296 := x.toNat_lt; have HX := h_ hx; clear hx c1; go_wp2; have r1 : (x.toNat : Int).tmod 256 = (x.toNat : Int) % 256 := Int.tmod_eq_emod_of_nonneg (by omega)
             have r2 : ((x.toNat : Int) / 256).tmod 256 = (x.toNat : Int) / 256 % 256 := Int.tmod_eq_emod_of_nonneg (by omega)
             have r3 : ((x.toNat : Int) / 65536).tmod 256 = (x.toNat : Int) / 65536 % 256 := Int.tmod_eq_emod_of_nonneg (by omega)
             have s1 : (x.toNat : Int).tdiv 256 = (x.toNat : Int) / 256 := Int.tdiv_eq_ediv_of_nonneg (by omega)
             have s2 : (x.toNat : Int).tdiv 65536 = (x.toNat : Int) / 65536 := Int.tdiv_eq_ediv_of_nonneg (by omega)
             have s3 : (x.toNat : Int).tdiv 16777216 = (x.toNat : Int) / 16777216 := Int.tdiv_eq_ediv_of_nonneg (by omega)
             have q1 : IntKind.u32.wrap ((x.toNat : Int) % 256) = (x.toNat : Int) % 256 := IntWalk.u32_in _ (by omega)
             have q2 : IntKind.u32.wrap ((x.toNat : Int) / 256 % 256) = (x.toNat : Int) / 256 % 256 := IntWalk.u32_in _ (by omega)
             have q3 : IntKind.u32.wrap ((x.toNat : Int) / 65536 % 256) = (x.toNat : Int) / 65536 % 256 := IntWalk.u32_in _ (by omega)
             have q4 : IntKind.u32.wrap ((x.toNat : Int) / 16777216) = (x.toNat : Int) / 16777216 := IntWalk.u32_in _ (by omega)
             have q5 : IntKind.u32.wrap ((x.toNat : Int) / 256) = (x.toNat : Int) / 256 := IntWalk.u32_in _ (by omega)
             have q6 : IntKind.u32.wrap ((x.toNat : Int) / 65536) = (x.toNat : Int) / 65536 := IntWalk.u32_in _ (by omega)
             have t1 : IntKind.u8.wrap ((x.toNat : Int) % 256) = (x.toNat : Int) % 256 := IntWalk.u8_in _ (by omega)
             have t2 : IntKind.u8.wrap ((x.toNat : Int) / 256 % 256) = (x.toNat : Int) / 256 % 256 := IntWalk.u8_in _ (by omega)
             have t3 : IntKind.u8.wrap ((x.toNat : Int) / 65536 % 256) = (x.toNat : Int) / 65536 % 256 := IntWalk.u8_in _ (by omega)
             have t4 : IntKind.u8.wrap ((x.toNat : Int) / 16777216) = (x.toNat : Int) / 16777216 := IntWalk.u8_in _ (by omega)
             have k0 : (0 : Int) <= (k : Int) := by omega
             have k1 : (k : Int) < 8 := by omega
             go_region_held3 (fun w' => w'.cell? ⟨gs, k, none⟩ = some (.int .u32 (x.toNat : Int)))
              (first | go_keep | exact hgrow1.cell (keep_cell _ c0) hneo')
              ((refine step_append_own rfl _ _ 29 rfl w.heap.size 5 i0 (.int .u8 0) 1 1 Tryz.underlying29 hi hz0 hz1 hz2 rfl (by decide) _ (4 * k) _ rfl (HO.out.alloc _) ⟨wr.heap.size, 0, none⟩ 4 4 _ rfl rfl (cells_new _ _ _) (by simp [Value.oneCell']) (by unfold maxLen; omega) (by omega) (by have := hbel.size; simp; omega) ?_; intro v1 w1 HO1 hgrow1))
             go_wp2; go_roundw
             case rel =>
              refine ⟨k + 1, by omega, by go_num, ?_, ((HS.out.alloc _).drew).kept hgrow1 (.inr hneo'), (hbel.alloc hbel.size _).drew.grown hgrow1 (by have := hbel.size; simp; omega) (fun k hk => (HO.out.lt k hk).1)⟩
              have h1 := HO1.out; rw [wordsBytes_succ (absorb A) k (by rw [absorb_length]; exact hlt), <- HX.out, List.map_append, <- wordBytes_val]
              have e : (x.toNat : Int) / 16777216 % 256 = (x.toNat : Int) / 16777216 := by omega
              rw [e]; exact h1
             case measure => simp [intOf]; omega
            ·obtain rfl : k = 8 := by omega
             have h1 := HO.out; rw [List.take_of_length_le (by rw [absorb_length]; omega)] at h1
             have hl : (wordsBytes (absorb A)).length = 4 * 8 := by rw [wordsBytes_length, absorb_length]
             rw [<- hl] at h1; have hcv := convert_own h1; have hfin : SL (wordsBytes (absorb A)) = SL (sumL bs) := by rw [HA.out, sumL, HN.out]
             rw [hfin] at hcv; clear h1 hl hfin c1; go_wp2; go_ret; exact ⟨rfl, hbel⟩
end
end Go.Proofs.YtomgijcbekjlaaaGreat
