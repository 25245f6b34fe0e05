/- The walks of New, End, Sum. -/
import Derived.Test.YtijgmhdhaekocaaAdd
namespace Go.Proofs.Ytijgmhdhaekocaa
open Go.RowKit
theorem loadRow37 (p : Value) : Instr.loadAt 37 p = loadRow 37 p := rfl
theorem storeRow37 (p v : Value) : Instr.storeAt 37 p v = storeRow 37 p v := rfl
attribute [local go_sem ↓] loadRow34 loadRow37 storeRow37
theorem size37 : (Try.prog.info? 37).map (·.size) = some 41 := by kernel_rfl
theorem zero_run : (runCells 0 [0, 0, 0, 0, 0, 0, 0, 0] (zeros8 32)) = [.int .u64 0, .int .u32 0, .int .u32 0, .int .u32 0, .int .u32 0, .int .u32 0, .int .u32 0, .int .u32 0, .int .u32 0,
    .int .u8 0, .int .u8 0, .int .u8 0, .int .u8 0, .int .u8 0, .int .u8 0, .int .u8 0, .int .u8 0, .int .u8 0, .int .u8 0, .int .u8 0, .int .u8 0, .int .u8 0, .int .u8 0, .int .u8 0, .int .u8 0,
    .int .u8 0, .int .u8 0, .int .u8 0, .int .u8 0, .int .u8 0, .int .u8 0, .int .u8 0, .int .u8 0, .int .u8 0, .int .u8 0, .int .u8 0, .int .u8 0, .int .u8 0, .int .u8 0, .int .u8 0, .int .u8 0] := rfl
theorem new_any (w : World) : Calls Try.prog 12 #[] w fun e w' => e = .returned (.pointer (some ⟨w.heap.size, 0, none⟩)) ∧ RunAt w' w.heap.size [] ∧ Below w.heap.size w w' := by
  go_enter Try.func12, Try.ntmps12
  go_wp2
  go_ret
  refine ⟨rfl, ⟨_, _, RunIs.zero, ?_⟩, (Below.refl _ _).alloc (Nat.le_refl _) _⟩
  rw [List.length_nil, zero_run]
  exact heap_alloc_new _ _
theorem load37 {w : World} {g : Nat} {cs : List Value} (hl : cs.length = 41) (h : w.heap[g]? = some (.cells cs.toArray 37 (0, 0))) :
    (loadRow 37 (.pointer (some ⟨g, 0, none⟩))).run Try.prog w = .ok (.agg cs.toArray) w :=
  run_loadAt_part w g 0 37 37 [] cs [] (0, 0) _ (by rw [List.append_nil]; exact h) rfl Try.underlying37 rfl (by rw [hl]; exact size37)
theorem store37 {w : World} {g : Nat} {cs new : List Value} (hl : cs.length = 41) (hn : new.length = 41) (h1 : ∀ v ∈ new, v.oneCell' = true) (h : w.heap[g]? = some (.cells cs.toArray 37 (0, 0))) :
    (storeRow 37 (.pointer (some ⟨g, 0, none⟩)) (.agg new.toArray)).run Try.prog w = .ok () (w.setRow g new.toArray) := by
  have := run_storeAt_part (P := Try.prog) w g 0 37 37 [] cs [] new (by rw [List.append_nil]; exact h) rfl (by rw [hl, hn]) (by rw [hl]; exact size37) h1
  rw [List.append_nil] at this
  exact this
theorem runCells_one (n : Nat) (st : List UInt32) (rest : List UInt8) : ∀ v ∈ runCells n st rest, v.oneCell' = true := by
  intro v hv
  simp only [runCells, List.mem_cons, List.mem_append] at hv
  rcases hv with rfl | hv | hv
  · rfl
  · exact W32_one _ v hv
  · exact B8_one _ v hv
theorem tailL_length (n : Nat) : (tailL n).length = 41 + noughts n := by simp [tailL, tailTo, zeros8_length, numBytes_length]; omega
/-- A slice of bytes that the call owns, as Add wants its source. -/
theorem own_src {w : World} {base : Nat} {v : Value} {bs : List UInt8} (h : w.ownsRow base 5 1 v bs.length (bs.map B8)) :
    ∃ ao B cap, v = .slice ao bs.length cap ∧ bs.length ≤ cap ∧ cap ≤ maxLen ∧ (0 < bs.length → ao = some ⟨B, 0, none⟩) ∧ (0 < bs.length → base ≤ B ∧ B < w.heap.size) ∧
      ∀ j, j < bs.length → w.cell? ⟨B, 0 + j, none⟩ = some (.int .u8 ((bs.getD j 0).toNat : Int)) := by
  rcases h.2 with ⟨rfl, hn⟩ | ⟨g, cap, cur, rfl, hb, hg, hnc, hcm, hcs, htake⟩
  · exact ⟨none, 0, 0, by rw [hn], by omega, Nat.zero_le _, fun h => by omega, fun h => by omega, fun j hj => by omega⟩
  · refine ⟨_, g, cap, rfl, hnc, hcm, fun _ => rfl, fun _ => ⟨hb, (Array.getElem?_eq_some_iff.1 hg).1⟩, fun j hj => ?_⟩
    rw [Nat.zero_add, h.cellAt j (by simpa using hj)]
    simp [B8, hj]
set_option maxHeartbeats 800000 in
theorem end_any (g : Nat) (l : List UInt8) (w : World) (h : RunAt w g l) (hlen : l.length ≤ 281474976710656) :
    Calls Try.prog 14 #[.pointer (some ⟨g, 0, none⟩)] w fun e w' => e = .returned (.string (SL (sumL l))) ∧ Below w.heap.size w w' := by
  obtain ⟨st, rest, hrun, hg⟩ := h
  have hl41 : (runCells l.length st rest).length = 41 := by rw [runCells_length, hrun.st8, hrun.rest32]
  have ld := load37 hl41 hg
  obtain ⟨Z, hZ⟩ : ∃ Z, Z = (runCells 0 [0, 0, 0, 0, 0, 0, 0, 0] (zeros8 32)) := ⟨_, rfl⟩
  have zl : Z.length = 41 := by rw [hZ]; rfl
  obtain ⟨wx, hwx⟩ : ∃ wx, wx = (w.alloc (.cells Z.toArray 37)).setRow w.heap.size (runCells l.length st rest).toArray := ⟨_, rfl⟩
  have hsx : (storeRow 37 (.pointer (some ⟨w.heap.size, 0, none⟩)) (.agg (runCells l.length st rest).toArray)).run Try.prog (w.alloc (.cells Z.toArray 37)) = .ok () wx := by
    rw [hwx]; exact store37 zl hl41 (runCells_one _ _ _) (heap_alloc_new _ _)
  have hgx : wx.heap[w.heap.size]? = some (.cells (runCells l.length st rest).toArray 37 (0, 0)) := by rw [hwx]; exact setRow_heap _ _ _ _ _ _ (heap_alloc_new _ _)
  have hbx : Below w.heap.size w wx := by rw [hwx]; exact below_setRow ((Below.refl _ _).alloc (Nat.le_refl _) _) (Nat.le_refl _) _
  have c0 : wx.cell? ⟨w.heap.size, 0, none⟩ = some (.int .u64 (l.length : Int)) := (cell_of_row _ _ _ _ _ _ hgx).trans rfl
  rw [hZ, zero_run] at hsx
  have HGX := Lib.hid hgx
  clear hwx zl hZ hgx hg hl41
  have tl : (tailL l.length).length ≤ 72 := by rw [tailL_length]; have := noughts_lt l.length; omega
  have tpos : 0 < (tailL l.length).length := by rw [tailL_length]; omega
  go_enter Try.func14, Try.ntmps14
  go_wp2_with fail
  refine (tail_any l.length (by omega) _).mono ?_
  rintro e w2 ⟨v, rfl, hown, hb2⟩
  obtain ⟨ao, B, cap, rfl, hcap, hmax, hao, hB, hcell⟩ := own_src hown
  obtain rfl : ao = some ⟨B, 0, none⟩ := hao tpos
  have hB1 := (hB tpos).1
  have HCELL := Lib.hid hcell
  clear hown hcell hao hB
  have hgs := (Array.getElem?_eq_some_iff.1 HGX.out).1
  go_wp2_with fail
  refine (add_any w.heap.size B 0 cap (some ⟨B, 0, none⟩) l (tailL l.length) _ ⟨st, rest, hrun, below_heap hb2 HGX.out⟩ (fun _ => rfl) hcap hmax HCELL.out (fun _ => by omega) (by omega)).mono ?_
  rintro e w3 ⟨rfl, ⟨st3, rest3, hrun3, hg3⟩, hgr3⟩
  have ld3 := load34 hrun3.st8 hg3
  clear hg3
  go_wp2_with fail
  refine (text_any st3 hrun3.st8 _).mono ?_
  rintro e w4 ⟨rfl, hb4⟩
  go_wp2_with fail
  go_ret
  have hne : l ++ tailL l.length ≠ [] := fun h => by have := congrArg List.length h; rw [List.length_append, List.length_nil] at this; omega
  have hfin : sumL l = wordsBytes st3 := by rw [sumL, ← hrun3.state hne]
  refine ⟨by rw [hfin]; rfl, ?_⟩
  have hbb : Below w.heap.size w w2 := hbx.trans (hb2.mono hbx.size)
  have hbc : Below w.heap.size w w3 := hbb.grown hgr3 hbb.size (fun k hk => by cases hk; exact Nat.le_refl _)
  exact hbc.trans (hb4.mono hbc.size)
set_option maxHeartbeats 400000 in
theorem sum_any (B off cap : Nat) (ao : Option Addr) (bs : List UInt8) (w : World) (hsrc : 0 < bs.length → ao = some ⟨B, off, none⟩) (hcap : bs.length ≤ cap) (hmax : cap ≤ maxLen)
    (hcell : ∀ j, j < bs.length → w.cell? ⟨B, off + j, none⟩ = some (.int .u8 ((bs.getD j 0).toNat : Int))) (hlen : bs.length ≤ 281474976710656) :
    Calls Try.prog 10 #[.slice ao bs.length cap] w fun e w' => e = .returned (.string (SL (sumL bs))) ∧ Below w.heap.size w w' := by
  have HCELL := Lib.hid hcell
  have HS := Lib.hid hsrc
  clear hcell hsrc
  go_enter Try.func10, Try.ntmps10
  go_wp2_with fail
  refine (new_any _).mono ?_
  rintro e w2 ⟨rfl, hr2, hb2⟩
  go_wp2_with fail
  refine (add_any w.heap.size B off cap ao [] bs _ hr2 HS.out hcap hmax (fun j hj => (hb2.cell (World.block_lt_of_cell? _ _ (HCELL.out j hj))).trans (HCELL.out j hj)) (fun h => by have := World.block_lt_of_cell? _ _ (HCELL.out 0 h); simp at this; omega) (by simp; omega)).mono ?_
  rintro e w3 ⟨rfl, hr3, hgr3⟩
  go_wp2_with fail
  refine (end_any w.heap.size bs _ hr3 hlen).mono ?_
  rintro e w4 ⟨rfl, hb4⟩
  go_wp2_with fail
  go_ret
  have hbc : Below w.heap.size w w3 := hb2.grown hgr3 hb2.size (fun k hk => by cases hk; exact Nat.le_refl _)
  exact ⟨rfl, hbc.trans (hb4.mono hbc.size)⟩
/-- Sum of no bytes. -/
theorem sum_nil (w : World) : Calls Try.prog 10 #[.slice none 0 0] w fun e w' => e = .returned (.string (SL (sumL []))) ∧ Below w.heap.size w w' :=
  sum_any 0 0 0 none [] w (fun h => absurd h (by decide)) (Nat.le_refl _) (Nat.zero_le _) (fun j hj => absurd hj (Nat.not_lt_zero _)) (Nat.zero_le _)
set_option maxHeartbeats 400000 in
theorem end_nil (w : World) : Calls Try.prog 14 #[.pointer none] w fun e w' => e = .returned (.string (SL (sumL []))) ∧ Below w.heap.size w w' := by
  go_enter Try.func14, Try.ntmps14
  go_wp2_with fail
  refine (sum_nil _).mono ?_
  rintro e w4 ⟨rfl, hb4⟩
  go_wp2_with fail
  go_ret
  exact ⟨rfl, hb4⟩
end Go.Proofs.Ytijgmhdhaekocaa
