/- The walk of the document's answer for a block that is taken. -/
import Derived.Test.YtijgmhdhaekocaaOpen
import Derived.Test.YtijgmhdhaekocaaStep
import Derived.Deep.RegionHeld3
namespace Go.Proofs.Ytijgmhdhaekocaa
open Go.RowKit
set_option maxHeartbeats 400000 in
theorem turned_any (x : Nat) (hx : x < 4294967296) (n : Int) (h5 : 5 ≤ n) (h26 : n ≤ 26) (w : World) :
    Calls Try.prog 27 #[.int .u32 (x : Int), .int .i64 n] w fun e w' => e = .returned (.int .u32 ((rotl (UInt32.ofNat x) n.toNat).toNat : Int)) ∧ ∃ k, w' = w.drewN k := by
  obtain ⟨n, rfl⟩ := Int.eq_ofNat_of_zero_le (show 0 ≤ n by omega)
  rw [Int.toNat_natCast]
  have hr := rotl_val (UInt32.ofNat x) n
  rw [UInt32.toNat_ofNat_of_lt' hx] at hr
  go_enter Try.func27, Try.ntmps27
  go_wp2
  go_quiet (fail)
  go_wp2
  go_ret
  exact ⟨rfl, _, rfl⟩
theorem info32 : (Try.prog.info? 32).map (fun i => (i.zero, i.size, i.bytes)) = some (some (.int .u32 0), 1, 4) := by kernel_rfl
def wordsTo (p : List UInt8) (k : Nat) : List UInt32 := (List.range k).map (wordAt p)
theorem wordsTo_succ (p : List UInt8) (k : Nat) : wordsTo p (k + 1) = wordsTo p k ++ [wordAt p k] := by simp [wordsTo, List.range_succ]
theorem wordsTo_end (p : List UInt8) : wordsTo p 8 = blockL p := rfl
theorem sum4_val (x0 x1 x2 x3 : UInt8) : ((x0.toNat : Int) + 256 * (x1.toNat : Int) + 65536 * (x2.toNat : Int) + 16777216 * (x3.toNat : Int)) = ((UInt32.ofNat (x0.toNat + 256 * x1.toNat + 65536 * x2.toNat + 16777216 * x3.toNat)).toNat : Int) := by
  have h0 : x0.toNat < 256 := x0.toNat_lt
  have h1 : x1.toNat < 256 := x1.toNat_lt
  have h2 : x2.toNat < 256 := x2.toNat_lt
  have h3 : x3.toNat < 256 := x3.toNat_lt
  rw [UInt32.toNat_ofNat_of_lt' (by show _ < 4294967296; omega)]
  omega
theorem keep_cell {w : World} {a : Addr} {v : Value} (X : Obj) (h : w.cell? a = some v) : ((w.alloc X).drew).cell? a = some v := by
  have hlt := World.block_lt_of_cell? _ _ h
  have e : (w.alloc X).cell? a = w.cell? a := World.cell?_alloc_lt _ _ _ hlt
  exact e.trans h
theorem own_some {w : World} {base e n : Nat} {v : Value} {xs : List Value} (h : w.ownsRow base e 1 v n xs) (hn : 0 < n) : ∃ g cap, v = .slice (some ⟨g, 0, none⟩) n cap ∧ base ≤ g ∧ g < w.heap.size := by
  rcases h.2 with ⟨_, h0⟩ | ⟨g, cap, cur, h1, h2, h3, _⟩
  · omega
  · exact ⟨g, cap, h1, h2, (Array.getElem?_eq_some_iff.1 h3).1⟩
theorem own_cell32 {w : World} {base g cap : Nat} {S : List UInt32} (h : w.ownsRow base 32 1 (.slice (some ⟨g, 0, none⟩) 8 cap) 8 (S.map W32)) (j : Nat) (hj : j < 8) (hS : S.length = 8) : w.cell? ⟨g, j, none⟩ = some (.int .u32 ((S.getD j 0).toNat : Int)) := by
  rw [h.cellAt j (by omega)]
  simp [W32, hS, hj]
theorem own_set32 {w : World} {base g cap : Nat} {S : List UInt32} (h : w.ownsRow base 32 1 (.slice (some ⟨g, 0, none⟩) 8 cap) 8 (S.map W32)) (j : Nat) (x : UInt32) :
    (w.setCell ⟨g, j, none⟩ (.int .u32 (x.toNat : Int))).ownsRow base 32 1 (.slice (some ⟨g, 0, none⟩) 8 cap) 8 ((S.set j x).map W32) := by
  have := (h.stored j (.int .u32 (x.toNat : Int))).1
  rw [List.map_set]
  exact this
set_option maxHeartbeats 1600000 in
theorem refTake_any (gs capS : Nat) (S : List UInt32) (hS : S.length = 8) (B ob capb : Nat) (p : List UInt8) (w : World)
    (hs : w.ownsRow 0 32 1 (.slice (some ⟨gs, 0, none⟩) 8 capS) 8 (S.map W32)) (hb : ∀ j, j < 32 → w.cell? ⟨B, ob + j, none⟩ = some (.int .u8 ((p.getD j 0).toNat : Int))) :
    Calls Try.prog 19 #[.slice (some ⟨gs, 0, none⟩) 8 capS, .slice (some ⟨B, ob, none⟩) 32 capb] w fun e w' => e = .returned (.tuple #[]) ∧
      w'.ownsRow 0 32 1 (.slice (some ⟨gs, 0, none⟩) 8 capS) 8 ((roundsTo (blockL p) S 8).map W32) ∧ w.grownBy w' (some gs) := by
  obtain ⟨i0, hi, hz0, hz1, hz2⟩ := info_parts info32
  have hBw : B < w.heap.size := World.block_lt_of_cell? _ _ (hb 0 (by decide))
  have HB := Lib.hid hb
  have HS0 := Lib.hid hs
  clear hb hs
  go_enter Try.func19, Try.ntmps19
  go_wp2
  go_loopw [4, 5] (fun v i wr => ∃ k : Nat, k ≤ 8 ∧ i = .int .i64 k ∧ wr.ownsRow w.heap.size 32 1 v k ((wordsTo p k).map W32) ∧ Below w.heap.size w wr) (fun _ i _ => 8 - (intOf i).toNat)
  case atStart => exact ⟨0, by omega, rfl, World.ownsRow_nil _ _ _ _, Below.refl _ _⟩
  case round =>
    obtain ⟨k, hk, rfl, hown, hbel⟩ := hrel
    have HO := Lib.hid hown
    clear hown
    by_cases hlt : k < 8
    · have c0 : wr.cell? ⟨B, ob + 4 * k, none⟩ = some (.int .u8 ((p.getD (4 * k) 0).toNat : Int)) := (hbel.cell hBw).trans (HB.out _ (by omega))
      have c1 : wr.cell? ⟨B, ob + (4 * k + 1), none⟩ = some (.int .u8 ((p.getD (4 * k + 1) 0).toNat : Int)) := (hbel.cell hBw).trans (HB.out _ (by omega))
      have c2 : wr.cell? ⟨B, ob + (4 * k + 2), none⟩ = some (.int .u8 ((p.getD (4 * k + 2) 0).toNat : Int)) := (hbel.cell hBw).trans (HB.out _ (by omega))
      have c3 : wr.cell? ⟨B, ob + (4 * k + 3), none⟩ = some (.int .u8 ((p.getD (4 * k + 3) 0).toNat : Int)) := (hbel.cell hBw).trans (HB.out _ (by omega))
      generalize hx0 : p.getD (4 * k) 0 = x0 at *
      generalize hx1 : p.getD (4 * k + 1) 0 = x1 at *
      generalize hx2 : p.getD (4 * k + 2) 0 = x2 at *
      generalize hx3 : p.getD (4 * k + 3) 0 = x3 at *
      have hfin : UInt32.ofNat (x0.toNat + 256 * x1.toNat + 65536 * x2.toNat + 16777216 * x3.toNat) = wordAt p k := by
        unfold wordAt; rw [hx0, hx1, hx2, hx3]
      have HF := Lib.hid hfin
      clear hx0 hx1 hx2 hx3 hfin
      have bx0 : x0.toNat < 256 := x0.toNat_lt
      have bx1 : x1.toNat < 256 := x1.toNat_lt
      have bx2 : x2.toNat < 256 := x2.toNat_lt
      have bx3 : x3.toNat < 256 := x3.toNat_lt
      have hBwr : B < wr.heap.size := Nat.lt_of_lt_of_le hBw hbel.size
      go_wp2
      have i0a : (0 : Int) ≤ 4 * (k : Int) := by omega
      have i0b : 4 * (k : Int) < 32 := by omega
      have i1a : (0 : Int) ≤ 4 * (k : Int) + 1 := by omega
      have i1b : 4 * (k : Int) + 1 < 32 := by omega
      have i2a : (0 : Int) ≤ 4 * (k : Int) + 2 := by omega
      have i2b : 4 * (k : Int) + 2 < 32 := by omega
      have i3a : (0 : Int) ≤ 4 * (k : Int) + 3 := by omega
      have i3b : 4 * (k : Int) + 3 < 32 := by omega
      have n0 : (4 * (k : Int)).toNat = 4 * k := by omega
      have n1 : (4 * (k : Int) + 1).toNat = 4 * k + 1 := by omega
      have n2 : (4 * (k : Int) + 2).toNat = 4 * k + 2 := by omega
      have n3 : (4 * (k : Int) + 3).toNat = 4 * k + 3 := by omega
      have e0 : IntKind.i64.wrap (4 * (k : Int)) = 4 * (k : Int) := IntWalk.i64_in _ (by omega)
      have e1 : IntKind.i64.wrap (4 * (k : Int) + 1) = 4 * (k : Int) + 1 := IntWalk.i64_in _ (by omega)
      have e2 : IntKind.i64.wrap (4 * (k : Int) + 2) = 4 * (k : Int) + 2 := IntWalk.i64_in _ (by omega)
      have e3 : IntKind.i64.wrap (4 * (k : Int) + 3) = 4 * (k : Int) + 3 := IntWalk.i64_in _ (by omega)
      have hwr : ∀ x : UInt8, IntKind.u32.wrap (x.toNat : Int) = (x.toNat : Int) := fun x => IntWalk.u32_in _ (by have := x.toNat_lt; omega)
      have hw0 := hwr x0
      have hw1 := hwr x1
      have hw2 := hwr x2
      have hw3 := hwr x3
      clear hwr
      have m1 : IntKind.u32.wrap (256 * (x1.toNat : Int)) = 256 * (x1.toNat : Int) := IntWalk.u32_in _ (by omega)
      have m2 : IntKind.u32.wrap (65536 * (x2.toNat : Int)) = 65536 * (x2.toNat : Int) := IntWalk.u32_in _ (by omega)
      have m3 : IntKind.u32.wrap (16777216 * (x3.toNat : Int)) = 16777216 * (x3.toNat : Int) := IntWalk.u32_in _ (by omega)
      have a1 : IntKind.u32.wrap ((x0.toNat : Int) + 256 * (x1.toNat : Int)) = (x0.toNat : Int) + 256 * (x1.toNat : Int) := IntWalk.u32_in _ (by omega)
      have a2 : IntKind.u32.wrap ((x0.toNat : Int) + 256 * (x1.toNat : Int) + 65536 * (x2.toNat : Int)) = (x0.toNat : Int) + 256 * (x1.toNat : Int) + 65536 * (x2.toNat : Int) := IntWalk.u32_in _ (by omega)
      have a3 : IntKind.u32.wrap ((x0.toNat : Int) + 256 * (x1.toNat : Int) + 65536 * (x2.toNat : Int) + 16777216 * (x3.toNat : Int)) = (x0.toNat : Int) + 256 * (x1.toNat : Int) + 65536 * (x2.toNat : Int) + 16777216 * (x3.toNat : Int) := IntWalk.u32_in _ (by omega)
      go_region_held3 (fun w' => w'.cell? ⟨B, ob + 4 * k, none⟩ = some (.int .u8 (x0.toNat : Int)) ∧ w'.cell? ⟨B, ob + (4 * k + 1), none⟩ = some (.int .u8 (x1.toNat : Int)) ∧ w'.cell? ⟨B, ob + (4 * k + 2), none⟩ = some (.int .u8 (x2.toNat : Int)) ∧ w'.cell? ⟨B, ob + (4 * k + 3), none⟩ = some (.int .u8 (x3.toNat : Int)))
        (first | go_keep | exact ⟨hgrow1.cell (keep_cell _ c0) (fun e => absurd (HO.out.lt B e.symm).1 (by omega)), hgrow1.cell (keep_cell _ c1) (fun e => absurd (HO.out.lt B e.symm).1 (by omega)), hgrow1.cell (keep_cell _ c2) (fun e => absurd (HO.out.lt B e.symm).1 (by omega)), hgrow1.cell (keep_cell _ c3) (fun e => absurd (HO.out.lt B e.symm).1 (by omega))⟩)
        ((refine step_append_own rfl _ _ 46 rfl w.heap.size 32 i0 (.int .u32 0) 1 4 Try.underlying46 hi hz0 hz1 hz2 rfl (by decide) _ k _ rfl (HO.out.alloc _) ⟨wr.heap.size, 0, none⟩ 1 1 _ rfl rfl (cells_new _ _ _) (by simp [Value.oneCell']) (by unfold maxLen; omega) (by omega) (by have := hbel.size; simp; omega) ?_; intro v1 w1 HO1 hgrow1))
      go_wp2
      go_roundw
      case rel =>
        refine ⟨k + 1, by omega, by go_num, ?_, ?_⟩
        · have h := HO1.out
          have e : wordsTo p (k + 1) = wordsTo p k ++ [wordAt p k] := wordsTo_succ p k
          rw [e, List.map_append, ← HF.out]
          have e2 : [W32 (UInt32.ofNat (x0.toNat + 256 * x1.toNat + 65536 * x2.toNat + 16777216 * x3.toNat))] = ([.int .u32 ((x0.toNat : Int) + 256 * (x1.toNat : Int) + 65536 * (x2.toNat : Int) + 16777216 * (x3.toNat : Int))] : List Value) := by
            rw [sum4_val]; rfl
          rw [List.map_cons, List.map_nil, e2]
          exact h
        · exact (hbel.alloc hbel.size _).drew.grown hgrow1 (by have := hbel.size; simp; omega) (fun k hk => (HO.out.lt k hk).1)
      case measure => simp [intOf]; omega
    · obtain rfl : k = 8 := by omega
      rw [wordsTo_end] at HO
      obtain ⟨gw, cw, rfl, hgw, hgwl⟩ := own_some HO.out (by decide)
      have hgs : gs < w.heap.size := by
        obtain ⟨g', c', e', _, hl⟩ := own_some HS0.out (by decide)
        cases e'
        exact hl
      have hne : gw ≠ gs := by omega
      have hrow : wr.ownsRow 0 32 1 (.slice (some ⟨gs, 0, none⟩) 8 capS) 8 ((roundsTo (blockL p) S 0).map W32) :=
        HS0.out.kept (grown_of_below hbel none) (.inr (by simp [Value.ownBlock]))
      have HR := Lib.hid hrow
      have hgr : w.grownBy wr (some gs) := grown_of_below hbel _
      clear hrow hbel
      go_wp2
      go_loopw [6] (fun i wq => ∃ r : Nat, r ≤ 8 ∧ i = .int .i64 r ∧ wq.ownsRow 0 32 1 (.slice (some ⟨gs, 0, none⟩) 8 capS) 8 ((roundsTo (blockL p) S r).map W32) ∧ wq.ownsRow w.heap.size 32 1 (.slice (some ⟨gw, 0, none⟩) 8 cw) 8 ((blockL p).map W32) ∧ w.grownBy wq (some gs)) (fun i _ => 8 - (intOf i).toNat)
      case atStart => exact ⟨0, by omega, rfl, HR.out, HO.out, hgr⟩
      case round =>
        clear HR HO hgr
        obtain ⟨r, hr, rfl, hrow, hwrd, hgr⟩ := hrel
        have HR := Lib.hid hrow
        have HW := Lib.hid hwrd
        clear hrow hwrd
        by_cases hlt : r < 8
        · obtain ⟨wo, rfl⟩ : ∃ wo : World, wo = wr := ⟨_, rfl⟩
          go_wp2
          go_loopw [7, 8] (fun i _ wq => ∃ k : Nat, k ≤ 8 ∧ i = .int .i64 k ∧ wq.ownsRow 0 32 1 (.slice (some ⟨gs, 0, none⟩) 8 capS) 8 ((stepsTo (blockL p) r (roundsTo (blockL p) S r) k).map W32) ∧ wq.ownsRow w.heap.size 32 1 (.slice (some ⟨gw, 0, none⟩) 8 cw) 8 ((blockL p).map W32) ∧ w.grownBy wq (some gs)) (fun i _ _ => 8 - (intOf i).toNat)
          case atStart => exact ⟨0, by omega, rfl, HR.out, HW.out, hgr⟩
          case round =>
            clear HR HW hgr
            obtain ⟨k, hk, rfl, hrow, hwrd, hgr⟩ := hrel
            by_cases hlt2 : k < 8
            · generalize hT : stepsTo (blockL p) r (roundsTo (blockL p) S r) k = T at *
              have lT : T.length = 8 := by rw [← hT, stepsTo_length, roundsTo_length, hS]
              have c1 := own_cell32 hrow k hlt2 lT
              have hm1 : (k + r) % 8 < 8 := Nat.mod_lt _ (by decide)
              have hm2 : (k + 1) % 8 < 8 := Nat.mod_lt _ (by decide)
              have c2 := own_cell32 hwrd ((k + r) % 8) hm1 (blockL_length _)
              have c3 := own_cell32 hrow ((k + 1) % 8) hm2 lT
              have f1 := hrow.frozenAt k
              have e4 : ((k : Int) + r).tmod 8 = ((((k + r) % 8 : Nat)) : Int) := by rw [Int.tmod_eq_emod_of_nonneg (by omega)]; omega
              have e4' : ((k : Int) + r) % 8 = ((((k + r) % 8 : Nat)) : Int) := by omega
              have e5 : ((k : Int) + 1).tmod 8 = ((((k + 1) % 8 : Nat)) : Int) := by rw [Int.tmod_eq_emod_of_nonneg (by omega)]; omega
              have e6 : ((k : Int) + 1) % 8 = ((((k + 1) % 8 : Nat)) : Int) := by omega
              have e1 : IntKind.i64.wrap ((k : Int) + r) = (k : Int) + r := IntWalk.i64_in _ (by omega)
              have e2 : IntKind.i64.wrap (3 * (k : Int)) = 3 * (k : Int) := IntWalk.i64_in _ (by omega)
              have e3 : IntKind.i64.wrap (5 + 3 * (k : Int)) = 5 + 3 * (k : Int) := IntWalk.i64_in _ (by omega)
              have xv := xor_val (T.getD k 0) ((blockL p).getD ((k + r) % 8) 0)
              have HR := Lib.hid hrow
              have HW := Lib.hid hwrd
              have HT := Lib.hid hT
              have LT := Lib.hid lT
              clear hrow hwrd hT lT
              generalize hX1 : T.getD k 0 = x1 at *
              generalize hX2 : (blockL p).getD ((k + r) % 8) 0 = x2 at *
              generalize hX3 : T.getD ((k + 1) % 8) 0 = x3 at *
              have hfin : T.set k (rotl (x1 ^^^ x2) (5 + 3 * k) + x3 * 2246822507 + UInt32.ofNat (k + r)) = stepI (blockL p) r T k := by
                unfold stepI; rw [hX1, hX2, hX3]
              have HF := Lib.hid hfin
              clear hfin hX1 hX2 hX3
              generalize hM1 : (k + r) % 8 = m1 at *
              generalize hM2 : (k + 1) % 8 = m2 at *
              have HM1 := Lib.hid hM1
              have HM2 := Lib.hid hM2
              clear hM1 hM2
              go_wp2
              go_quiet ((go_at_call 27; exact Calls.quiet_of ((turned_any (x1 ^^^ x2).toNat (x1 ^^^ x2).toNat_lt _ (by omega) (by omega) _))))
              rw [UInt32.ofNat_toNat]
              go_wp2
              go_roundw
              case rel =>
                refine ⟨k + 1, by omega, by go_num, ?_, ?_, ?_⟩
                · rw [step_val, stepsTo_succ, HT.out, ← HF.out]
                  exact own_set32 (w := World.drewN _ _) HR.out k _
                · exact HW.out.kept (grown_trans (grown_drewN _ _ _) (grown_setCell _ _ _ _)) (.inr (by simp [Value.ownBlock]; omega))
                · exact grown_trans (grown_trans hgr (grown_drewN _ _ _)) (grown_setCell _ _ _ _)
              case measure => simp [intOf]; omega
            · obtain rfl : k = 8 := by omega
              have HR := Lib.hid hrow
              have HW := Lib.hid hwrd
              clear hrow hwrd
              go_wp2
              go_roundw
              case rel => exact ⟨r + 1, by omega, by go_num, by rw [roundsTo_succ]; exact HR.out, HW.out, hgr⟩
              case measure => simp [intOf]; omega
        · obtain rfl : r = 8 := by omega
          go_wp2
          refine bodyPost_end (v := .tuple #[]) (by simp [results, Try.results19]) rfl ⟨rfl, HR.out, hgr⟩
end Go.Proofs.Ytijgmhdhaekocaa
