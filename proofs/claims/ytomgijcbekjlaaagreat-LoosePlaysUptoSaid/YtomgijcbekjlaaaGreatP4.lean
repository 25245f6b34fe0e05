/- What the proofs stand on: SumLeaf. -/
import Derived.StillTailTactics
import Derived.Test.YtomgijcbekjlaaaGreatP0
import Derived.Test.YtomgijcbekjlaaaGreatP3
import Derived.Test.YtomgijcbekjlaaaGreatPB0
import Derived.Test.YtomgijcbekjlaaaGreatPB1
set_option maxRecDepth 100000
set_option maxHeartbeats 40000000
namespace Go.Proofs.YtomgijcbekjlaaaGreat
section
open Go.RowKit
theorem size34 : (Tryz.prog.info? 156).map (·.size) = some 8 := by kernel_rfl
theorem size50 : (Tryz.prog.info? 162).map (·.size) = some 8 := by kernel_rfl
theorem rot_any (x : Nat) (hx : x < 4294967296) (n : Int) (h5 : 5 <= n) (h26 : n <= 26) (w : World) :
  Calls Tryz.prog 156 #[.int .u32 (x : Int), .int .i64 n] w fun e w' => e = .returned (.int .u32 ((rotl (UInt32.ofNat x) n.toNat).toNat : Int)) /\ w' = w := by
 obtain ⟨n, rfl⟩ := Int.eq_ofNat_of_zero_le (show 0 <= n by omega)
 rw [Int.toNat_natCast]; have hv := and31 n (by omega)
 have hr := rotl_val (UInt32.ofNat x) n; rw [UInt32.toNat_ofNat_of_lt' hx] at hr; go_enter Tryz.func156, Tryz.ntmps156; go_wp2; go_ret; exact ⟨rfl, rfl⟩
theorem start_any (w : World) :
  Calls Tryz.prog 118 #[] w fun e w' => e = .returned (.agg (cells32 startL)) /\ Below w.heap.size w w' := by
 go_enter Tryz.func118, Tryz.ntmps118; go_wp2; rw [<- zero_cells]; go_loopw [2,3] (fun s i wr => ∃ k : Nat, k <= 8 /\ i = .int .i64 k /\ wr = (w.alloc (.cells (cells32 (startTo 0)) 156)).alloc (.cells (cells32 (startTo k)) 156)) (fun _ i _ => 8 - (intOf i).toNat)
 case atStart => exact ⟨0, by decide, rfl, rfl⟩
 case round =>
  obtain ⟨k, hk, rfl, rfl⟩ := hrel; by_cases h : k < 8
  ·have hc := cells32_at (startTo k) k (by rw [startTo_length]; exact h)
   go_wp2; go_roundw
   case rel => exact ⟨k + 1, by omega, by go_num, by rw [startW_val, cells32_set, startTo_set]⟩
   case measure => simp [intOf]; omega
  ·obtain rfl : k = 8 := by omega
   obtain ⟨wx, hwx⟩ := nm_ ((w.alloc (.cells (cells32 (startTo 0)) 156)).alloc (.cells (cells32 (startTo 8)) 156)); have h0 : wx.heap[w.heap.size]? = some (.cells (cells32 (startTo 0)) 156 (0, 0)) := by rw [hwx]; exact heap_alloc2_old _ _ _
   have h1 : wx.heap[w.heap.size + 1]? = some (.cells (cells32 startL) 156 (0, 0)) := by rw [hwx, <- startTo_end]; exact heap_alloc2_new _ _ _
   have hb : Below w.heap.size w wx := by rw [hwx]; exact ((Below.refl _ _).alloc (Nat.le_refl _) _).alloc (by simp) _
   have s8 : (Tryz.prog.info? 156).map (·.size) = some (cells32 startL).size := by rw [cells32_size, startL_length]; exact size34
   rw [<- hwx]; clear hwx; have H0 := h_ h0; have H1 := h_ h1; have S8 := h_ s8; clear h0 h1 s8; go_wp2_with (first | (refine wpList_load_row rfl 156 _ rfl _ rfl _ _ _ _ H1.out Tryz.underlying156 rfl S8.out ?_) | (refine wpList_store_row rfl 156 _ _ rfl _ _ rfl rfl _ _ H0.out S8.out (by rw [cells32_size, cells32_size, startTo_length, startL_length]) (cells32_one _) ?_))
   try simp only [Exit.inBlock, Exit.then]
   refine bodyPost_ret (results_cell_row Tryz.results118 _ _ w.heap.size 156 (cells32 startL) (0,0) _ rfl (setRow_heap _ _ _ _ _ _ H0.out) Tryz.underlying156 rfl S8.out) rfl ?_; exact ⟨rfl, below_setRow hb (Nat.le_refl _) _⟩
theorem take_any (s b : List UInt32) (hs : s.length = 8) (hb : b.length = 8) (w : World) :
  Calls Tryz.prog 119 #[.agg (cells32 s), .agg (cells32 b)] w fun e w' => e = .returned (.agg (cells32 (roundsTo b s 8))) /\ Below w.heap.size w w' := by
 go_enter Tryz.func119, Tryz.ntmps119; go_wp2; obtain ⟨wx, hwx⟩ := nm_ (((w.alloc (.cells (cells32 s) 156)).alloc (.cells (cells32 b) 162)).alloc (.cells #[.int .u32 0, .int .u32 0, .int .u32 0, .int .u32 0, .int .u32 0, .int .u32 0, .int .u32 0, .int .u32 0] 156)); have h0 : wx.heap[w.heap.size]? = some (.cells (cells32 (roundsTo b s 0)) 156 (0, 0)) := by
  rw [hwx, heap_alloc_old _ _ (by simp; omega), heap_alloc2_old]; rfl
 have h1 : wx.heap[w.heap.size + 1]? = some (.cells (cells32 b) 162 (0, 0)) := by
  rw [hwx, heap_alloc_old _ _ (by simp), heap_alloc2_new]
 have h2 : ∃ C, C.size = 8 /\ wx.heap[w.heap.size + 2]? = some (.cells C 156 (0, 0)) := by
  rw [hwx]; exact ⟨_, rfl, by simpa using heap_alloc_new ((w.alloc (.cells (cells32 s) 156)).alloc (.cells (cells32 b) 162)) _⟩
 have hbel : Below w.heap.size w wx := by rw [hwx]; exact (((Below.refl _ _).alloc (Nat.le_refl _) _).alloc (by simp) _).alloc (by simp; omega) _
 rw [<- hwx]; clear hwx; go_loopw [8] (fun i wr => ∃ r : Nat, r <= 8 /\ i = .int .i64 r /\ wr.heap[w.heap.size]? = some (.cells (cells32 (roundsTo b s r)) 156 (0, 0)) /\ wr.heap[w.heap.size + 1]? = some (.cells (cells32 b) 162 (0, 0)) /\ (∃ C, C.size = 8 /\ wr.heap[w.heap.size + 2]? = some (.cells C 156 (0, 0))) /\ Below w.heap.size w wr) (fun i _ => 8 - (intOf i).toNat)
 case atStart => exact ⟨0, by omega, rfl, h0, h1, h2, hbel⟩
 case round =>
  clear h0 h1 h2 hbel; obtain ⟨r, hr, rfl, h0, h1, h2, hbel⟩ := hrel; by_cases hlt : r < 8
  ·have H0 := h_ h0
   have H1 := h_ h1; have H2 := h_ h2; clear h0 h1 h2; obtain ⟨wo, rfl⟩ : ∃ wo : World, wo = wr := ⟨_, rfl⟩
   go_wp2; go_loopw [6, 7, 11] (fun _ _ i wr => ∃ k : Nat, k <= 8 /\ i = .int .i64 k /\ wr.heap[w.heap.size]? = some (.cells (cells32 (stepsTo b r (roundsTo b s r) k)) 156 (0, 0)) /\ wr.heap[w.heap.size + 1]? = some (.cells (cells32 b) 162 (0, 0)) /\ (∃ C, C.size = 8 /\ wr.heap[w.heap.size + 2]? = some (.cells C 156 (0, 0))) /\ Below w.heap.size w wr) (fun _ _ i _ => 8 - (intOf i).toNat)
   case atStart => exact ⟨0, by omega, rfl, H0.out, H1.out, H2.out, hbel⟩
   case round =>
    clear H0 H1 H2 hbel; obtain ⟨k, hk, rfl, h0, h1, h2, hbel⟩ := hrel; by_cases hlt2 : k < 8
    ·generalize hS : stepsTo b r (roundsTo b s r) k = S at *
     have lS : S.length = 8 := by rw [<- hS, stepsTo_length, roundsTo_length, hs]
     have c1 : wr.cell? ⟨w.heap.size, k, none⟩ = some (.int .u32 ((S.getD k 0).toNat : Int)) := by
      rw [cell_of_row _ _ _ _ _ _ h0]; exact cells32_at _ _ (by omega)
     have c2 : wr.cell? ⟨w.heap.size + 1, (k + r) % 8, none⟩ = some (.int .u32 ((b.getD ((k + r) % 8) 0).toNat : Int)) := by
      rw [cell_of_row _ _ _ _ _ _ h1]; exact cells32_at _ _ (by omega)
     have c3 : wr.cell? ⟨w.heap.size, (k + 1) % 8, none⟩ = some (.int .u32 ((S.getD ((k + 1) % 8) 0).toNat : Int)) := by
      rw [cell_of_row _ _ _ _ _ _ h0]; exact cells32_at _ _ (by omega)
     have f1 : wr.frozen? ⟨w.heap.size, k, none⟩ = false := frozen_of_row _ _ _ _ _ h0
     have xv := xor_val (S.getD k 0) (b.getD ((k + r) % 8) 0); have hm1 : ((k + r) % 8 : Nat) < 8 := Nat.mod_lt _ (by decide)
     have hm2 : ((k + 1) % 8 : Nat) < 8 := Nat.mod_lt _ (by decide)
     have e4 : ((k : Int) + r).tmod 8 = ((((k + r) % 8 : Nat)) : Int) := by rw [Int.tmod_eq_emod_of_nonneg (by omega)]; omega
     have e5 : ((k : Int) + 1).tmod 8 = ((((k + 1) % 8 : Nat)) : Int) := by rw [Int.tmod_eq_emod_of_nonneg (by omega)]; omega
     have e6 : ((k : Int) + 1) % 8 = ((((k + 1) % 8 : Nat)) : Int) := by omega
     have e1 : IntKind.i64.wrap ((k : Int) + r) = (k : Int) + r := IntWalk.i64_in _ (by omega)
     have e2 : IntKind.i64.wrap (3 * (k : Int)) = 3 * (k : Int) := IntWalk.i64_in _ (by omega)
     have e3 : IntKind.i64.wrap (5 + 3 * (k : Int)) = 5 + 3 * (k : Int) := IntWalk.i64_in _ (by omega)
     have H0 := h_ h0; have H1 := h_ h1; have H2 := h_ h2; have HS := h_ hS; have LS := h_ lS; clear h0 h1 h2 hS lS; generalize hX1 : S.getD k 0 = x1 at *
     generalize hX2 : b.getD ((k + r) % 8) 0 = x2 at *
     generalize hX3 : S.getD ((k + 1) % 8) 0 = x3 at *
     have hfin : S.set k (rotl (x1 ^^^ x2) (5 + 3 * k) + x3 * 2246822507 + UInt32.ofNat (k + r)) = stepI b r S k := by
      unfold stepI; rw [hX1, hX2, hX3]
     have HF := h_ hfin; clear hfin hX1 hX2 hX3; generalize hM1 : (k + r) % 8 = m1 at *
     generalize hM2 : (k + 1) % 8 = m2 at *
     have HM1 := h_ hM1; have HM2 := h_ hM2; clear hM1 hM2; go_wp2; go_quiet ((go_at_call 156; exact Calls.quiet_of_same (rot_any (x1 ^^^ x2).toNat (x1 ^^^ x2).toNat_lt _ (by omega) (by omega) _)))
     rw [UInt32.ofNat_toNat]; go_wp2; go_roundw
     case rel =>
      refine ⟨k + 1, by omega, by go_num, ?_, ?_, ?_, ?_⟩
      ·rw [step_val, heap_setCell_same _ _ _ _ _ _ (by rw [heap_drewN]; exact H0.out), cells32_set, stepsTo_succ, HS.out, HF.out]
      ·rw [heap_setCell_other _ _ _ _ (by simp), heap_drewN]; exact H1.out
      ·obtain ⟨C, hC, h2⟩ := H2.out
       exact ⟨C, hC, by rw [heap_setCell_other _ _ _ _ (by simp), heap_drewN]; exact h2⟩
      ·exact (below_drewN hbel _).setCell (Nat.le_refl _) _
     case measure => simp [intOf]; omega
    ·obtain rfl : k = 8 := by omega
     have H0 := h_ h0; have H1 := h_ h1; have H2 := h_ h2; clear h0 h1 h2; go_wp2; go_roundw
     case rel => exact ⟨r + 1, by omega, by go_num, by rw [roundsTo_succ]; exact H0.out, H1.out, H2.out, hbel⟩
     case measure => simp [intOf]; omega
  ·obtain rfl : r = 8 := by omega
   obtain ⟨C, hC, h2⟩ := h2; have H0 := h_ h0; have H2 := h_ h2; have hC' := h_ hC; have s8 : (Tryz.prog.info? 156).map (·.size) = some (cells32 (roundsTo b s 8)).size := by rw [cells32_size, roundsTo_length, hs]; exact size34
   have S8 := h_ s8; have s9 : C.size = (cells32 (roundsTo b s 8)).size := by rw [cells32_size, roundsTo_length, hs, hC]
   have S9 := h_ s9; clear h0 h1 h2 s8 hC s9; go_wp2_with (first | (refine wpList_load_row rfl 156 _ rfl _ rfl _ _ _ _ H0.out Tryz.underlying156 rfl S8.out ?_) | (refine wpList_store_row rfl 156 _ _ rfl _ _ rfl rfl _ _ H2.out S8.out S9.out (cells32_one _) ?_))
   try simp only [Exit.inBlock, Exit.then]
   refine bodyPost_ret (results_cell_row Tryz.results119 _ _ (w.heap.size + 2) 156 (cells32 (roundsTo b s 8)) (0,0) _ rfl (setRow_heap _ _ _ _ _ _ H2.out) Tryz.underlying156 rfl S8.out) rfl ?_; exact ⟨rfl, below_setRow hbel (by omega) _⟩
theorem arrayLen35 : Tryz.prog.arrayLen 157 = 32 := by kernel_rfl
theorem slice32_any (ki : IntKind) (a : Addr) (l : Nat) (hl : l < 32) (W : World) : (Instr.sliceAt 157 (.pointer (some a)) (some (.int ki (l : Int))) none none).run Tryz.prog W = .ok (.slice (some (a.add l)) (32 - l) (32 - l)) W := by
 rw [run_sliceAt_array_l W 157 a (by kernel_rfl) ki (l : Int) (by omega) (by rw [arrayLen35]; omega)]
 have e : sizeOf (Tryz.prog.elem 157) = sizeOf 5 := by congr 1
 have h1 : ∀ w, (sizeOf 5).run Tryz.prog w = .ok 1 w := fun w => by kernel_rfl
 rw [e, arrayLen35, h1]; simp only [Result.andThen_ok, slicedAt, Int.toNat_natCast, Nat.mul_one]; rw [if_neg (by omega)]
theorem blockOf_any (p : List UInt8) (hp : p.length = 32) (w : World) :
  Calls Tryz.prog 120 #[.agg (cells8 p)] w fun e w' => e = .returned (.agg (cells32 (blockL p))) /\ Below w.heap.size w w' := by
 go_enter Tryz.func120, Tryz.ntmps120; go_wp2; obtain ⟨wx, hwx⟩ := nm_ (((w.alloc (.cells (cells8 p) 157)).alloc (.cells #[.int .u32 0, .int .u32 0, .int .u32 0, .int .u32 0, .int .u32 0, .int .u32 0, .int .u32 0, .int .u32 0] 162)).alloc (.cells #[.int .u32 0, .int .u32 0, .int .u32 0, .int .u32 0, .int .u32 0, .int .u32 0, .int .u32 0, .int .u32 0] 162)); have h0 : wx.heap[w.heap.size]? = some (.cells (cells8 p) 157 (0, 0)) := by rw [hwx]; exact (heap_alloc3 _ _ _ _).1
 have h1 : ∃ C, C.size = 8 /\ wx.heap[w.heap.size + 1]? = some (.cells C 162 (0, 0)) := by rw [hwx]; exact ⟨_, rfl, (heap_alloc3 _ _ _ _).2.1⟩
 have h2 : wx.heap[w.heap.size + 2]? = some (.cells (cells32 (blockTo p 0)) 162 (0, 0)) := by rw [hwx, blockTo_zero]; exact (heap_alloc3 _ _ _ _).2.2
 have hbel : Below w.heap.size w wx := by rw [hwx]; exact (((Below.refl _ _).alloc (Nat.le_refl _) _).alloc (by simp) _).alloc (by simp; omega) _
 rw [<- hwx]; clear hwx; go_loopw [6] (fun i wr => ∃ k : Nat, k <= 8 /\ i = .int .i64 k /\ wr.heap[w.heap.size]? = some (.cells (cells8 p) 157 (0, 0)) /\ (∃ C, C.size = 8 /\ wr.heap[w.heap.size + 1]? = some (.cells C 162 (0, 0))) /\ wr.heap[w.heap.size + 2]? = some (.cells (cells32 (blockTo p k)) 162 (0, 0)) /\ Below w.heap.size w wr) (fun i _ => 8 - (intOf i).toNat)
 case atStart => exact ⟨0, by omega, rfl, h0, h1, h2, hbel⟩
 case round =>
  clear h0 h1 h2 hbel; obtain ⟨k, hk, rfl, h0, h1, h2, hbel⟩ := hrel; by_cases hlt : k < 8
  ·have c0 : wr.cell? ⟨w.heap.size, 4 * k, none⟩ = some (.int .u8 ((p.getD (4 * k) 0).toNat : Int)) := by
    rw [cell_of_row _ _ _ _ _ _ h0]; exact cells8_at _ _ (by omega)
   have c1 : wr.cell? ⟨w.heap.size, 4 * k + 1, none⟩ = some (.int .u8 ((p.getD (4 * k + 1) 0).toNat : Int)) := by
    rw [cell_of_row _ _ _ _ _ _ h0]; exact cells8_at _ _ (by omega)
   have c2 : wr.cell? ⟨w.heap.size, 4 * k + 2, none⟩ = some (.int .u8 ((p.getD (4 * k + 2) 0).toNat : Int)) := by
    rw [cell_of_row _ _ _ _ _ _ h0]; exact cells8_at _ _ (by omega)
   have c3 : wr.cell? ⟨w.heap.size, 4 * k + 3, none⟩ = some (.int .u8 ((p.getD (4 * k + 3) 0).toNat : Int)) := by
    rw [cell_of_row _ _ _ _ _ _ h0]; exact cells8_at _ _ (by omega)
   have c4 : wr.cell? ⟨w.heap.size + 2, k, none⟩ = some (.int .u32 (((blockTo p k).getD k 0).toNat : Int)) := by
    rw [cell_of_row _ _ _ _ _ _ h2]; exact cells32_at _ _ (by rw [blockTo_length]; exact hlt)
   have f4 : wr.frozen? ⟨w.heap.size + 2, k, none⟩ = false := frozen_of_row _ _ _ _ _ h2
   have hsl : ∀ W, (Instr.sliceAt 157 (.pointer (some ⟨w.heap.size, 0, none⟩)) (some (.int .i64 (4 * (k : Int)))) none none).run Tryz.prog W = .ok (.slice (some ⟨w.heap.size, 4 * k, none⟩) (32 - 4 * k) (32 - 4 * k)) W := fun W => by
    have h := slice32_any .i64 ⟨w.heap.size, 0, none⟩ (4 * k) (by omega) W
    rw [Addr.add_lit] at h; simpa using h
   obtain ⟨L, hL⟩ := nm_ (32 - 4 * k); rw [<- hL] at hsl; have l0 : 0 < L := by omega
   have l1 : 1 < L := by omega
   have l2 : 2 < L := by omega
   have l3 : 3 < L := by omega
   have l0i : (0 : Int) < (L : Int) := by omega
   have l1i : (1 : Int) < (L : Int) := by omega
   have l2i : (2 : Int) < (L : Int) := by omega
   have l3i : (3 : Int) < (L : Int) := by omega
   have HL := h_ hL; clear hL; have e0 : (4 * k : Nat) < 32 := by omega
   generalize hx0 : p.getD (4 * k) 0 = x0 at *
   generalize hx1 : p.getD (4 * k + 1) 0 = x1 at *
   generalize hx2 : p.getD (4 * k + 2) 0 = x2 at *
   generalize hx3 : p.getD (4 * k + 3) 0 = x3 at *
   have hwr : ∀ x : UInt8, IntKind.u32.wrap (x.toNat : Int) = (x.toNat : Int) := fun x => IntWalk.u32_in _ (by have := x.toNat_lt; omega)
   have hw0 := hwr x0; have hw1 := hwr x1; have hw2 := hwr x2; have hw3 := hwr x3; clear hwr; have hfin : UInt32.ofNat (x0.toNat + 256 * x1.toNat + 65536 * x2.toNat + 16777216 * x3.toNat) = wordAt p k := by
    unfold wordAt; rw [hx0, hx1, hx2, hx3]
   have HF := h_ hfin; clear hx0 hx1 hx2 hx3 hfin; have H0 := h_ h0; have H1 := h_ h1; have H2 := h_ h2; clear h0 h1 h2; go_wp2; refine wp_region_still_tail 24 (by kernel_rfl) (by kernel_rfl) ?_
   simp only [List.take_succ_cons, List.take_zero, List.drop_succ_cons, List.drop_zero]; change wpStill _ _ wr.drew (fun a' => wpList _ _ _ _ a' wr.drew) _ _
   repeat still_step
   refine wpStill_nil ?_; go_wp2; go_roundw
   case rel =>
    refine ⟨k + 1, by omega, by go_num, ?_, ?_, ?_, ?_⟩
    ·show (World.setCell _ _ _).heap[_]? = _
     rw [heap_setCell_other _ _ _ _ (by simp; omega)]; exact H0.out
    ·obtain ⟨C, hC, h1⟩ := H1.out
     refine ⟨C, hC, ?_⟩; show (World.setCell _ _ _).heap[_]? = _
     rw [heap_setCell_other _ _ _ _ (by simp)]; exact h1
    ·show (World.setCell _ _ _).heap[_]? = _
     rw [or4_val, heap_setCell_same _ _ _ _ _ _ H2.out, cells32_set, HF.out, blockTo_set]
    ·exact (hbel.setCell (by simp; omega) _).drew
   case measure => simp [intOf]; omega
  ·obtain rfl : k = 8 := by omega
   obtain ⟨C, hC, h1⟩ := h1; rw [blockTo_end] at h2; have H1 := h_ h1; have H2 := h_ h2; have s8 : (Tryz.prog.info? 162).map (·.size) = some (cells32 (blockL p)).size := by rw [cells32_size, blockL_length]; exact size50
   have S8 := h_ s8; have s9 : C.size = (cells32 (blockL p)).size := by rw [cells32_size, blockL_length, hC]
   have S9 := h_ s9; clear h0 h1 h2 s8 hC s9; go_wp2_with (first | (refine wpList_load_row rfl 162 _ rfl _ rfl _ _ _ _ H2.out Tryz.underlying162 rfl S8.out ?_) | (refine wpList_store_row rfl 162 _ _ rfl _ _ rfl rfl _ _ H1.out S8.out S9.out (cells32_one _) ?_))
   try simp only [Exit.inBlock, Exit.then]
   refine bodyPost_ret (results_cell_row Tryz.results120 _ _ (w.heap.size + 1) 162 (cells32 (blockL p)) (0,0) _ rfl (setRow_heap _ _ _ _ _ _ H1.out) Tryz.underlying162 rfl S8.out) rfl ?_; exact ⟨rfl, below_setRow hbel (by omega) _⟩
theorem tail_any (n : Nat) (hn : n <= 562949953421312) (w : World) :
  Calls Tryz.prog 121 #[.int .u64 (n : Int)] w fun e w' => ∃ v, e = .returned v /\ w'.ownsRow w.heap.size 5 1 v (tailL n).length ((tailL n).map B8) /\ Below w.heap.size w w' := by
 obtain ⟨i0, hi, hz0, hz1, hz2⟩ := info_parts info5; have hN := noughts_val n; have hN2 := noughts_lt n; have hz := zeros8_length (41 + noughts n); have hc0 : (cells8 (zeros8 (41 + noughts n)))[0]? = some (.int .u8 (((zeros8 (41 + noughts n)).getD 0 0).toNat : Int)) := cells8_at _ _ (by rw [hz]; omega)
 have hset : (cells8 (zeros8 (41 + noughts n))).setIfInBounds 0 (.int .u8 1) = cells8 ((1 :: zeros8 (noughts n)) ++ zeros8 40) := by
  rw [show (.int .u8 1 : Value) = .int .u8 ((1 : UInt8).toNat : Int) from rfl, cells8_set]
  congr 1
  rw [show 41 + noughts n = (noughts n + 40) + 1 by omega, zeros8_succ, zeros8_add]
  rfl
 generalize hN3 : noughts n = N at *
 have HN3 := h_ hN3; have HZ := h_ hz; have HS := h_ hset; clear hN3 hz hset; have hmk : ∀ u : World, (Instr.makeSlice 29 (.int .u64 (1 + (N : Int))) (.int .u64 (1 + (N : Int) + 8 + 32))).run Tryz.prog u =
   .ok (.slice (some ⟨u.heap.size, 0, none⟩) (1 + N) (41 + N)) (u.alloc (.cells (cells8 (zeros8 (41 + N))) 5)) := fun u => by
  have h := run_make (P := Tryz.prog) u 29 5 i0 (.int .u8 0) Tryz.underlying29 hi hz0 .u64 .u64 (1 + (N : Int)) (1 + (N : Int) + 8 + 32) (by omega) (by omega) (by rw [hz2]; omega) (by omega)
  have e1 : (1 + (N : Int)).toNat = 1 + N := by omega
  have e2 : (1 + (N : Int) + 8 + 32).toNat = 41 + N := by omega
  rw [e1, e2] at h; simpa [hz1, Value.cells, made8] using h
 go_enter Tryz.func121, Tryz.ntmps121; go_wp2; rw [HS.out]; obtain ⟨wx, hwx⟩ := nm_ (w.alloc (.cells (cells8 ((1 :: zeros8 N) ++ zeros8 40)) 5)); have hown : wx.ownsRow w.heap.size 5 1 (.slice (some ⟨w.heap.size, 0, none⟩) (1 + N) (41 + N)) (1 + N) ((tailTo n 0).map B8) := by
  rw [hwx]; refine owns_of_row (heap_alloc_new _ _) (Nat.le_refl _) (by omega) (by unfold maxLen; omega) (by simp [cells8_size, zeros8_length]; omega) (by simp [tailTo, HN3.out, zeros8_length, numBytes_length]; omega) ?_
  rw [cells8_toList, <- List.map_take, List.take_left' (by simp [zeros8_length]; omega)]
  simp [tailTo, HN3.out, numBytes]
 have hbel : Below w.heap.size w wx := by rw [hwx]; exact (Below.refl _ _).alloc (Nat.le_refl _) _
 rw [<- hwx]; clear hwx; have HO := h_ hown; clear hown; rw [hN]; clear hN; go_loopw [4, 5, 21] (fun v _ i wr => ∃ k : Nat, k <= 8 /\ i = .int .i64 k /\ v = .slice (some ⟨w.heap.size, 0, none⟩) (1 + N + k) (41 + N) /\ wr.ownsRow w.heap.size 5 1 (.slice (some ⟨w.heap.size, 0, none⟩) (1 + N + k) (41 + N)) (1 + N + k) ((tailTo n k).map B8) /\ Below w.heap.size w wr) (fun _ _ i _ => 8 - (intOf i).toNat)
 case atStart => exact ⟨0, by omega, rfl, rfl, HO.out, hbel⟩
 case round =>
  clear HO hbel; obtain ⟨k, hk, rfl, rfl, hown, hbel⟩ := hrel; have HO := h_ hown; clear hown; by_cases hlt : k < 8
  ·go_wp2_with (at_builtin; refine wpList_append_fits _ rfl _ _ 29 rfl w.heap.size 5 i0 1 Tryz.underlying29 hi hz1 w.heap.size (1 + N + k) (41 + N) _ rfl (HO.out.alloc _) ⟨wr.heap.size, 0, none⟩ 1 1 [.int .u8 ((n : Int) / 2 ^ (8 * k) % 256)] rfl rfl (cell_one_new _ _ _) (by simp [Value.oneCell']) (by omega) ?_; intro w1 hown1 hgrow1; have HO1 := h_ hown1; have HG1 := h_ hgrow1; clear hown1 hgrow1)
   go_roundw
   case rel =>
    refine ⟨k + 1, by omega, by go_num, by rw [Nat.add_assoc], ?_, ?_⟩
    ·have h := HO1.out
     have e : (.int .u8 ((n : Int) / 2 ^ (8 * k) % 256) : Value) = B8 (UInt8.ofNat (n / 2 ^ (8 * k))) := by
      unfold B8; congr 1
     rw [e] at h; rw [Nat.add_assoc] at h; simpa [tailTo, numBytes_succ] using h
    ·exact (hbel.alloc hbel.size _).grown HG1.out (by have := hbel.size; simp; omega) (fun k hk => by cases hk; exact Nat.le_refl _)
   case measure => simp [intOf]; omega
  ·obtain rfl : k = 8 := by omega
   go_wp2_with (refine wpList_append_zeros _ rfl _ _ 29 3 rfl w.heap.size 5 .i64 i0 _ Tryz.underlying29 Tryz.underlying3 hi hz0 rfl hz1 hz2 w.heap.size (1 + N + 8) (41 + N) 32 _ rfl rfl HO.out (by decide) (by decide) rfl (by omega) ?_; intro w1 hown1 hgrow1; have HO1 := h_ hown1; have HG1 := h_ hgrow1; clear hown1 hgrow1)
   go_ret; refine ⟨_, rfl, ?_, ?_⟩
   ·have h := HO1.out
    have e : (tailL n).length = 1 + N + 8 + 32 := by simp [tailL, tailTo, zeros8_length, numBytes_length, HN3.out]; omega
    rw [e]; simpa [tailL, zeros8, B8] using h
   ·exact hbel.grown HG1.out (by have := hbel.size; omega) (fun k hk => by cases hk; exact Nat.le_refl _)
theorem convert_own {w : World} {base : Nat} {v : Value} {bs : List UInt8} (h : w.ownsRow base 5 1 v bs.length (bs.map B8)) : (convert 29 9 v).run Tryz.prog w = .ok (.string (SL bs)) w := by
 rcases h.2 with ⟨rfl, hn⟩ | ⟨g, cap, cur, rfl, _, hg, hnc, _, hcs, htake⟩
 ·have : bs = [] := List.eq_nil_of_length_eq_zero hn
  subst this; rw [run_convert_bytes_nil (P := Tryz.prog) w 29 5 Tryz.underlying29 Tryz.underlying5 0 0 9 Tryz.underlying9]
  rfl
 ·rw [run_convert_bytes_arg (P := Tryz.prog) w 29 5 Tryz.underlying29 Tryz.underlying5 g 0 bs.length cap (bs.map fun x => (x.toNat : Int)) (by simp) (fun i hi => ?_) 9 Tryz.underlying9, strOfNums_map]
  rw [Nat.zero_add, h.cellAt i (by simpa using hi)]
  simp [B8, hi]
theorem index34 (cs : Array Value) (k : Nat) (v : Value) (hk : k < 8) (hv : cs[k]? = some v) (W : World) : (Instr.index 156 (.agg cs) (.int .i64 (k : Int))).run Tryz.prog W = .ok v W := by
 have h1 : (isAgg 135).run Tryz.prog W = .ok false W := by kernel_rfl
 have h2 : (sizeOf 135).run Tryz.prog W = .ok 1 W := by kernel_rfl
 have h3 : (0 <= (k : Int) /\ (k : Int) < (8 : Nat)) := by omega
 simp only [Instr.index, asIntOf, Sem.run_bind, Sem.run_pure, Result.andThen_ok, run_underlying Tryz.underlying156, if_pos h3, h2, part, h1]; simp [hv]
theorem text_any (s : List UInt32) (hs : s.length = 8) (w : World) :
  Calls Tryz.prog 122 #[.agg (cells32 s)] w fun e w' => e = .returned (.string (SL (wordsBytes s))) /\ Below w.heap.size w w' := by
 obtain ⟨i0, hi, hz0, hz1, hz2⟩ := info_parts info5; have hmk : ∀ u : World, (Instr.makeSlice 29 (.int .i64 0) (.int .i64 32)).run Tryz.prog u =
   .ok (.slice (some ⟨u.heap.size, 0, none⟩) 0 32) (u.alloc (.cells (cells8 (zeros8 32)) 5)) := fun u => by
  have h := run_make (P := Tryz.prog) u 29 5 i0 (.int .u8 0) Tryz.underlying29 hi hz0 .i64 .i64 0 32 (by omega) (by omega) (by rw [hz2]; omega) (by omega)
  simpa [hz1, Value.cells, made8] using h
 have s8 : (Tryz.prog.info? 156).map (·.size) = some (cells32 s).size := by rw [cells32_size, hs]; exact size34
 have S8 := h_ s8; clear s8; go_enter Tryz.func122, Tryz.ntmps122; go_wp2_with (refine wpList_load_row rfl 156 _ rfl _ rfl _ _ _ _ (heap_alloc2_old _ _ _) Tryz.underlying156 rfl S8.out ?_)
 obtain ⟨wx, hwx⟩ := nm_ ((w.alloc (.cells (cells32 s) 156)).alloc (.cells (cells8 (zeros8 32)) 5)); have hown : wx.ownsRow w.heap.size 5 1 (.slice (some ⟨w.heap.size + 1, 0, none⟩) 0 32) 0 ((wordsBytes (s.take 0)).map B8) := by
  rw [hwx]; exact owns_of_row (heap_alloc2_new _ _ _) (by omega) (by omega) (by unfold maxLen; omega) (by simp [cells8_size, zeros8_length]) (by simp [wordsBytes]) (by simp [wordsBytes])
 have hbel : Below w.heap.size w wx := by rw [hwx]; exact ((Below.refl _ _).alloc (Nat.le_refl _) _).alloc (by simp) _
 rw [<- hwx]; clear hwx; have HO := h_ hown; clear hown; have HS := h_ hs; clear hs; go_loopw [3, 8] (fun v i wr => ∃ k : Nat, k <= 8 /\ i = .int .i64 k /\ v = .slice (some ⟨w.heap.size + 1, 0, none⟩) (4 * k) 32 /\ wr.ownsRow w.heap.size 5 1 (.slice (some ⟨w.heap.size + 1, 0, none⟩) (4 * k) 32) (4 * k) ((wordsBytes (s.take k)).map B8) /\ Below w.heap.size w wr) (fun _ i _ => 8 - (intOf i).toNat)
 case atStart => exact ⟨0, by omega, rfl, rfl, HO.out, hbel⟩
 case round =>
  clear HO hbel; obtain ⟨k, hk, rfl, rfl, hown, hbel⟩ := hrel; have HO := h_ hown; clear hown; by_cases hlt : k < 8
  ·have hix := index34 (cells32 s) k _ hlt (cells32_at s k (by rw [HS.out]; exact hlt))
   generalize hX : s.getD k 0 = x at *
   have HX := h_ hX; clear hX; go_wp2_with (at_builtin; refine wpList_append_fits _ rfl _ _ 29 rfl w.heap.size 5 i0 1 Tryz.underlying29 hi hz1 (w.heap.size + 1) (4 * k) 32 _ rfl (HO.out.alloc _) ⟨wr.heap.size, 0, none⟩ 4 4 _ rfl rfl (cells_new _ _ _) (by simp [Value.oneCell']) (by omega) ?_; intro w1 hown1 hgrow1; have HO1 := h_ hown1; have HG1 := h_ hgrow1; clear hown1 hgrow1)
   go_roundw
   case rel =>
    refine ⟨k + 1, by omega, by go_num, rfl, ?_, ?_⟩
    ·have h := HO1.out
     rw [wordBytes_val, <- List.map_append, <- HX.out, <- wordsBytes_succ _ _ (by rw [HS.out]; exact hlt)] at h
     exact h
    ·exact (hbel.alloc hbel.size _).grown HG1.out (by have := hbel.size; simp; omega) (fun k hk => by cases hk; omega)
   case measure => simp [intOf]; omega
  ·obtain rfl : k = 8 := by omega
   have h := HO.out; rw [List.take_of_length_le (by rw [HS.out]; exact Nat.le_refl _)] at h
   have hl := wordsBytes_length s; rw [HS.out] at hl; have hcv := convert_own (w := wr) (base := w.heap.size) (v := .slice (some ⟨w.heap.size + 1, 0, none⟩) 32 32) (bs := wordsBytes s) (by rw [hl]; exact h)
   clear h hl; go_wp2; go_ret; exact ⟨rfl, hbel⟩
end
end Go.Proofs.YtomgijcbekjlaaaGreat
