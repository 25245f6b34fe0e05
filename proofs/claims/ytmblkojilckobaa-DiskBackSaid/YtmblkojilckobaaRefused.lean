/- The walk of DiskRefused. -/
import Derived.Test.YtmblkojilckobaaRoom
namespace Go.Proofs.Ytmblkojilckobaa
open Go.RowKit
def op4 (y : Int) (S : St) (o : OpV) : Int × St := if y = 0 then appendS S o.a o.l else if y = 1 then removeS S o.a else if y = 2 then renameS S o.a o.b else syncS S o.a
/-- What a raw write leaves: refused, nothing has turned; done, it is one more. -/
def Told (S : St) (r : Int × St) : Prop := (r.1 ≠ 0 ∧ r.2.fs = S.fs ∧ r.2.done = S.done ∧ r.2.cap = S.cap ∧ (r.1 = 5 → r.2.dark = true)) ∨ (r.1 = 0 ∧ r.2.done = S.done + 1 ∧ r.2.dark = false)
theorem told_write (S : St) (hd : S.dark = false) (fs : Files) : Told S (writeS S fs) := by
  unfold writeS
  split
  · exact .inl ⟨(by show (5 : Int) ≠ 0; omega), rfl, rfl, rfl, fun _ => rfl⟩
  · exact .inr ⟨rfl, rfl, hd⟩
theorem told_touch (S : St) (n : Bs) (h : touchS S n ≠ 0) : Told S (touchS S n, S) := by
  refine .inl ⟨h, rfl, rfl, rfl, fun h5 => ?_⟩
  unfold touchS at h5
  simp only at h5
  split at h5
  · omega
  · split at h5
    · assumption
    · split at h5 <;> omega
theorem told_append (S : St) (n b : Bs) : Told S (appendS S n b) := by
  unfold appendS
  split
  · exact .inl ⟨Ne.symm (by show (0 : Int) ≠ _; simp only; omega), rfl, rfl, rfl, fun h => by simp only at h; omega⟩
  · split
    · rename_i h
      refine .inl ⟨h, rfl, rfl, rfl, fun h5 => ?_⟩
      unfold readyS at h5
      simp only at h5
      split at h5
      · omega
      · split at h5
        · assumption
        · omega
    · rename_i h
      split
      · exact .inl ⟨Ne.symm (by show (0 : Int) ≠ _; simp only; omega), rfl, rfl, rfl, fun h => by simp only at h; omega⟩
      · refine told_write S ?_ _
        unfold readyS at h
        cases hd : S.dark with
        | false => rfl
        | true =>
          rw [hd] at h
          exact absurd (by split <;> simp) h
theorem told_remove (S : St) (n : Bs) : Told S (removeS S n) := by
  unfold removeS
  split
  · rename_i h; exact told_touch S n h
  · rename_i h
    exact told_write S (touch_there (Classical.not_not.1 h)).2.1 _
theorem told_sync (S : St) (n : Bs) : Told S (syncS S n) := by
  unfold syncS
  split
  · rename_i h; exact told_touch S n h
  · rename_i h
    exact told_write S (touch_there (Classical.not_not.1 h)).2.1 _
theorem told_rename (S : St) (f t : Bs) : Told S (renameS S f t) := by
  unfold renameS
  split
  · exact .inl ⟨Ne.symm (by show (0 : Int) ≠ _; simp only; omega), rfl, rfl, rfl, fun h => by simp only at h; omega⟩
  · split
    · rename_i h; exact told_touch S f h
    · rename_i h
      split
      · exact .inl ⟨Ne.symm (by show (0 : Int) ≠ _; simp only; omega), rfl, rfl, rfl, fun h => by simp only at h; omega⟩
      · exact told_write S (touch_there (Classical.not_not.1 h)).2.1 _
theorem told4 (y : Int) (S : St) (o : OpV) : Told S (op4 y S o) := by
  unfold op4
  repeat' split
  all_goals first | exact told_append _ _ _ | exact told_remove _ _ | exact told_rename _ _ _ | exact told_sync _ _
theorem Good.op4 {S : St} (h : Good S) (y : Int) (o : OpV) : Good (op4 y S o).2 := by
  unfold Go.Proofs.Ytmblkojilckobaa.op4
  repeat' split
  all_goals first | exact h.append _ _ | exact h.remove _ | exact h.rename _ _ | exact h.sync _
theorem FilesAt.zone {w0 w : World} {Z F : Nat → Prop} {p : Nat} {S : St} {v : Value} {L : Files} (h : FilesAt w0 F v L) (ho : One w0 Z w p S) (hF : ∀ k, F k → Z k) : FilesAt w F v L := h.turn ho.turned (fun k hk hn => hn (hF k hk))
/-- A dump as the other package's files: what both calls leave. -/
structure Snap (w : World) (v : Value) (L : Files) (w' : World) : Prop where
  files : FilesAt w' (fun k => w.heap.size ≤ k ∧ k < w'.heap.size) v L
  below : Below w.heap.size w w'
theorem snap_of {w w1 w2 : World} {v' : Value} {L : Files} (b1 : Below w.heap.size w w1) (h2 : FilesAt w2 (fun k => fresh w w1 k ∨ (w1.heap.size ≤ k ∧ k < w2.heap.size)) v' L) (b2 : Below w1.heap.size w1 w2) : Snap w v' L w2 := by
  have z1 := b1.size
  have z2 := b2.size
  refine ⟨h2.mono fun k _ hk => ?_, b1.trans (b2.mono z1)⟩
  rcases hk with ⟨h, h'⟩ | ⟨h, h'⟩
  · exact ⟨h, by omega⟩
  · exact ⟨by omega, h'⟩
set_option maxRecDepth 100000 in
set_option maxHeartbeats 1600000 in
theorem refused_append (c : Int) (v : Value) (sc : List OpR) (z : Int) (o : OpV) (bv : Value) (w : World) (hsc : ScriptAt w (elder w) v sc) (hbv : BytesAt w (elder w) bv o.l) (hy : bits BinOp.and IntKind.i64 z 3 = 0) :
    Calls Try.prog 6 #[.int .i64 c, v, .agg #[.int .i64 z, .string (SL o.a), .string (SL o.b), bv, .int .i64 o.n]] w fun e w' => e = .returned (.bool true) ∧ Below w.heap.size w w' := by
  obtain ⟨wa, hwa⟩ : ∃ wa, wa = w.alloc (opO z o.a o.b bv o.n) := ⟨_, rfl⟩
  have ba : Below w.heap.size w wa := by rw [hwa]; exact (Below.refl _ _).alloc (Nat.le_refl _) _
  have xa : wa.heap[w.heap.size]? = some (opO z o.a o.b bv o.n) := by rw [hwa]; exact heap_alloc_new _ _
  have hwa' : w.alloc (Obj.cells #[Value.int IntKind.i64 z, Value.string (SL o.a), Value.string (SL o.b), bv, Value.int IntKind.i64 o.n] 34) = wa := hwa.symm
  have hA := awake_any wa
  have SA := Lib.hid (hsc.later ba)
  have VA := Lib.hid (hbv.turn (Turn.of_below (fun _ => False) ba) (fun _ _ h => h))
  have XA := Lib.hid xa
  have HW := Lib.hid hwa'
  have hxl : w.heap.size < wa.heap.size := (Array.getElem?_eq_some_iff.1 xa).1
  clear hwa hwa' xa hsc hbv
  go_enter Try.func6, Try.ntmps6
  go_wp2_with (first
    | (go_at_call 10; rw [HW.out]; refine hA.mono ?_; rintro e w1 ⟨rfl, b1⟩; have S1 := Lib.hid (SA.out.below (b1.mono (Nat.le_of_lt hxl))); have z1 := b1.size; have bw1 := ba.trans (b1.mono (Nat.le_of_lt hxl)))
    | (go_at_call 32; refine (played_any c v sc w1 w.heap.size (by omega) S1.out).mono ?_; rintro e w2 ⟨p, S, rfl, P2, hG, hD, hcap⟩; have b2 := P2.old; have z2 := b2.size; have bw2 := bw1.trans (b2.mono (by omega)); have hP := Lib.hid P2; have HDU := Lib.hid (P2.dump hG.rise hG.dump.1 hG.dump.2); have X2 := Lib.hid (below_heap b2 (below_heap b1 XA.out)); have V2 := Lib.hid (VA.out.turn (Turn.of_below (fun _ => False) (b1.trans (b2.mono z1))) (fun _ _ h => h)); clear P2 b1 b2 hA hcap S1 SA)
    | (go_at_call 21; refine HDU.out.mono ?_; rintro e w3 ⟨v3, rfl, hF3, b3⟩; have F3 := Lib.hid hF3; clear hF3 HDU)
    | (go_at_call 33; refine (theirs_any _ v3 S.fs w3 F3.out (fun k hk => hk.2) hG.dump.1).mono ?_; rintro e w4 ⟨v4, rfl, hF4, b4⟩; have sn := snap_of b3 hF4 b4; have SN := Lib.hid sn; have P4 := Lib.hid (hP.out.snap sn.below); have X4 := Lib.hid (below_heap sn.below X2.out); have V4 := Lib.hid (V2.out.turn (Turn.of_below (fun _ => False) sn.below) (fun _ _ h => h)); have z4 := sn.below.size; have bw4 := bw2.trans (sn.below.mono (by omega)); clear hF4 b3 b4 F3 hP sn)
    | (go_at_call 30; refine P4.out.ops.mono ?_; rintro e w5 ⟨rfl, rfl⟩)
    | (go_at_call 14; refine P4.out.free.mono ?_; rintro e w5 ⟨rfl, rfl⟩; obtain ⟨k0, k1, k2, k3, k4⟩ := op_cells X4.out)
    | (go_at_call 24; fail))
  obtain ⟨r, hr⟩ : ∃ r, r = appendS S o.a o.l := ⟨_, rfl⟩
  have htold : Told S r := by rw [hr]; exact told_append _ _ _
  have hGr : Good r.2 := by rw [hr]; exact hG.append _ _
  have hcall := P4.out.append hG (by omega) o.a bv o.l (V4.out.mono (fun k _ hk => .inl (by show k < _; omega)))
  rw [← hr] at hcall
  have hz := hG.free_in
  obtain ⟨f, hf⟩ : ∃ f, f = S.free := ⟨_, rfl⟩
  rw [hz.2.2, ← hf]
  have HC := Lib.hid hcall
  clear hr hcall k0 k1 k2 k3 k4 X2 X4 XA V2 V4 VA HW
  rcases htold with ⟨h1, h2, h3, h4, h5⟩ | ⟨h1, h3, h6⟩
  · obtain ⟨rc, hrc⟩ : ∃ rc, rc = r.1 := ⟨_, rfl⟩
    unfold OneTo at HC
    rw [← hrc] at HC h1 h5
    refine HC.out.mono ?_
    rintro e w6 ⟨rfl, P6⟩
    have hT := P6.turned
    have bz := hT.size
    have hdump := P6.dump hGr.rise hGr.dump.1 hGr.dump.2
    have e6 : r.2.free = f := by rw [hf]; unfold St.free; rw [h2, h4]
    have hf6 := fun W (hb : Below w6.heap.size w6 W) => (P6.below hb).free
    have ho6 := fun W (hb : Below w6.heap.size w6 W) => (P6.below hb).ops
    have hd6 := fun W (hb : Below w6.heap.size w6 W) => (P6.below hb).off
    rw [hGr.free_in.2.2, e6] at hf6
    rw [h3] at ho6
    rw [h2] at hdump
    have HDU := Lib.hid hdump
    have HF6 := Lib.hid hf6
    have HO6 := Lib.hid ho6
    have HD6 := Lib.hid hd6
    have bw6 : Below w.heap.size w w6 := bw4.trans ⟨hT.os, hT.tape, hT.output, hT.size, fun k hk => hT.block k (by omega) (fun hn => hn (.inl (by show k < _; omega)))⟩
    have SN6 := Lib.hid (SN.out.files.zone P6 (fun k hk => .inr hk))
    have H5 := Lib.hid h5
    have h1b : ¬ rc = 0 := h1
    clear hrc hdump hf6 ho6 hd6 e6 hf h2 h4 h5 hT HC SN P4 h1 P6
    by_cases h55 : rc = 5
    · have hd := H5.out h55
      rw [hd] at HD6
      subst h55
      clear hd H5 h1b
      go_wp2_with (first
        | (go_at_call 21; refine HDU.out.mono ?_; rintro e w7 ⟨v7, rfl, hF7, b7⟩; have F7 := Lib.hid hF7; clear hF7 HDU)
        | (go_at_call 33; refine (theirs_any _ v7 S.fs w7 F7.out (fun k hk => hk.2) hG.dump.1).mono ?_; rintro e w8 ⟨v8, rfl, hF8, b8⟩; have sn8 := snap_of b7 hF8 b8; have SN8 := Lib.hid sn8; have A8 := Lib.hid (SN6.out.turn (Turn.of_below (fun _ => False) sn8.below) (fun _ _ h => h)); clear hF8 b7 b8 F7 sn8)
        | (go_at_call 34; refine (sameFiles_any _ _ v4 v8 S.fs S.fs w8 A8.out SN8.out.files (by have := hG.dump.1; omega)).mono ?_; rintro e w9 ⟨rfl, b9⟩; have b69 := SN8.out.below.trans (b9.mono SN8.out.below.size); rw [decide_eq_true rfl])
        | (go_at_call 30; refine (HO6.out _ b69).mono ?_; rintro e w10 ⟨rfl, rfl⟩)
        | (go_at_call 14; refine (HF6.out _ b69).mono ?_; rintro e w10 ⟨rfl, rfl⟩)
        | (go_at_call 16; refine (HD6.out _ b69).mono ?_; rintro e w10 ⟨rfl, rfl⟩))
      go_ret
      exact ⟨rfl, bw6.trans (b69.mono bw6.size)⟩
    · clear H5
      go_wp2_with (first
        | (go_at_call 21; refine HDU.out.mono ?_; rintro e w7 ⟨v7, rfl, hF7, b7⟩; have F7 := Lib.hid hF7; clear hF7 HDU)
        | (go_at_call 33; refine (theirs_any _ v7 S.fs w7 F7.out (fun k hk => hk.2) hG.dump.1).mono ?_; rintro e w8 ⟨v8, rfl, hF8, b8⟩; have sn8 := snap_of b7 hF8 b8; have SN8 := Lib.hid sn8; have A8 := Lib.hid (SN6.out.turn (Turn.of_below (fun _ => False) sn8.below) (fun _ _ h => h)); clear hF8 b7 b8 F7 sn8)
        | (go_at_call 34; refine (sameFiles_any _ _ v4 v8 S.fs S.fs w8 A8.out SN8.out.files (by have := hG.dump.1; omega)).mono ?_; rintro e w9 ⟨rfl, b9⟩; have b69 := SN8.out.below.trans (b9.mono SN8.out.below.size); rw [decide_eq_true rfl])
        | (go_at_call 30; refine (HO6.out _ b69).mono ?_; rintro e w10 ⟨rfl, rfl⟩)
        | (go_at_call 14; refine (HF6.out _ b69).mono ?_; rintro e w10 ⟨rfl, rfl⟩)
        | (go_at_call 16; fail))
      go_ret
      exact ⟨rfl, bw6.trans (b69.mono bw6.size)⟩
  · unfold OneTo at HC
    rw [h1] at HC
    refine HC.out.mono ?_
    rintro e w6 ⟨rfl, P6⟩
    have hT := P6.turned
    have bz := hT.size
    have hf6 := P6.free
    have ho6 := P6.ops
    have hd6 := P6.off
    have hz6 := hGr.free_in
    obtain ⟨f6, hf6e⟩ : ∃ f6, f6 = r.2.free := ⟨_, rfl⟩
    rw [hz6.2.2, ← hf6e] at hf6
    rw [h3] at ho6
    rw [h6] at hd6
    have hge : f6 ≥ 0 := by rw [hf6e]; exact hz6.1
    have bw6 : Below w.heap.size w w6 := bw4.trans ⟨hT.os, hT.tape, hT.output, hT.size, fun k hk => hT.block k (by omega) (fun hn => hn (.inl (by show k < _; omega)))⟩
    have hdn : ((S.done + 1 : Nat) : Int) = (S.done : Int) + 1 := by omega
    rw [hdn] at ho6
    clear hz6 hf6e hf hT HC h1 h3 h6 hdn
    go_wp2_with (first
      | (go_at_call 30; refine ho6.mono ?_; rintro e w10 ⟨rfl, rfl⟩)
      | (go_at_call 14; refine hf6.mono ?_; rintro e w10 ⟨rfl, rfl⟩)
      | (go_at_call 16; refine hd6.mono ?_; rintro e w10 ⟨rfl, rfl⟩))
    go_ret
    exact ⟨by simp, bw6⟩
set_option maxRecDepth 100000 in
set_option maxHeartbeats 1600000 in
theorem refused_remove (c : Int) (v : Value) (sc : List OpR) (z : Int) (o : OpV) (bv : Value) (w : World) (hsc : ScriptAt w (elder w) v sc) (hbv : BytesAt w (elder w) bv o.l) (hy : bits BinOp.and IntKind.i64 z 3 = 1) :
    Calls Try.prog 6 #[.int .i64 c, v, .agg #[.int .i64 z, .string (SL o.a), .string (SL o.b), bv, .int .i64 o.n]] w fun e w' => e = .returned (.bool true) ∧ Below w.heap.size w w' := by
  obtain ⟨wa, hwa⟩ : ∃ wa, wa = w.alloc (opO z o.a o.b bv o.n) := ⟨_, rfl⟩
  have ba : Below w.heap.size w wa := by rw [hwa]; exact (Below.refl _ _).alloc (Nat.le_refl _) _
  have xa : wa.heap[w.heap.size]? = some (opO z o.a o.b bv o.n) := by rw [hwa]; exact heap_alloc_new _ _
  have hwa' : w.alloc (Obj.cells #[Value.int IntKind.i64 z, Value.string (SL o.a), Value.string (SL o.b), bv, Value.int IntKind.i64 o.n] 34) = wa := hwa.symm
  have hA := awake_any wa
  have SA := Lib.hid (hsc.later ba)
  have VA := Lib.hid (hbv.turn (Turn.of_below (fun _ => False) ba) (fun _ _ h => h))
  have XA := Lib.hid xa
  have HW := Lib.hid hwa'
  have hxl : w.heap.size < wa.heap.size := (Array.getElem?_eq_some_iff.1 xa).1
  clear hwa hwa' xa hsc hbv
  go_enter Try.func6, Try.ntmps6
  go_wp2_with (first
    | (go_at_call 10; rw [HW.out]; refine hA.mono ?_; rintro e w1 ⟨rfl, b1⟩; have S1 := Lib.hid (SA.out.below (b1.mono (Nat.le_of_lt hxl))); have z1 := b1.size; have bw1 := ba.trans (b1.mono (Nat.le_of_lt hxl)))
    | (go_at_call 32; refine (played_any c v sc w1 w.heap.size (by omega) S1.out).mono ?_; rintro e w2 ⟨p, S, rfl, P2, hG, hD, hcap⟩; have b2 := P2.old; have z2 := b2.size; have bw2 := bw1.trans (b2.mono (by omega)); have hP := Lib.hid P2; have HDU := Lib.hid (P2.dump hG.rise hG.dump.1 hG.dump.2); have X2 := Lib.hid (below_heap b2 (below_heap b1 XA.out)); have V2 := Lib.hid (VA.out.turn (Turn.of_below (fun _ => False) (b1.trans (b2.mono z1))) (fun _ _ h => h)); clear P2 b1 b2 hA hcap S1 SA)
    | (go_at_call 21; refine HDU.out.mono ?_; rintro e w3 ⟨v3, rfl, hF3, b3⟩; have F3 := Lib.hid hF3; clear hF3 HDU)
    | (go_at_call 33; refine (theirs_any _ v3 S.fs w3 F3.out (fun k hk => hk.2) hG.dump.1).mono ?_; rintro e w4 ⟨v4, rfl, hF4, b4⟩; have sn := snap_of b3 hF4 b4; have SN := Lib.hid sn; have P4 := Lib.hid (hP.out.snap sn.below); have X4 := Lib.hid (below_heap sn.below X2.out); have V4 := Lib.hid (V2.out.turn (Turn.of_below (fun _ => False) sn.below) (fun _ _ h => h)); have z4 := sn.below.size; have bw4 := bw2.trans (sn.below.mono (by omega)); clear hF4 b3 b4 F3 hP sn)
    | (go_at_call 30; refine P4.out.ops.mono ?_; rintro e w5 ⟨rfl, rfl⟩)
    | (go_at_call 14; refine P4.out.free.mono ?_; rintro e w5 ⟨rfl, rfl⟩; obtain ⟨k0, k1, k2, k3, k4⟩ := op_cells X4.out)
    | (go_at_call 25; fail))
  obtain ⟨r, hr⟩ : ∃ r, r = removeS S o.a := ⟨_, rfl⟩
  have htold : Told S r := by rw [hr]; exact told_remove _ _
  have hGr : Good r.2 := by rw [hr]; exact hG.remove _
  have hcall := P4.out.remove hG (by omega) o.a
  rw [← hr] at hcall
  have hz := hG.free_in
  obtain ⟨f, hf⟩ : ∃ f, f = S.free := ⟨_, rfl⟩
  rw [hz.2.2, ← hf]
  have HC := Lib.hid hcall
  clear hr hcall k0 k1 k2 k3 k4 X2 X4 XA V2 V4 VA HW
  rcases htold with ⟨h1, h2, h3, h4, h5⟩ | ⟨h1, h3, h6⟩
  · obtain ⟨rc, hrc⟩ : ∃ rc, rc = r.1 := ⟨_, rfl⟩
    unfold OneTo at HC
    rw [← hrc] at HC h1 h5
    refine HC.out.mono ?_
    rintro e w6 ⟨rfl, P6⟩
    have hT := P6.turned
    have bz := hT.size
    have hdump := P6.dump hGr.rise hGr.dump.1 hGr.dump.2
    have e6 : r.2.free = f := by rw [hf]; unfold St.free; rw [h2, h4]
    have hf6 := fun W (hb : Below w6.heap.size w6 W) => (P6.below hb).free
    have ho6 := fun W (hb : Below w6.heap.size w6 W) => (P6.below hb).ops
    have hd6 := fun W (hb : Below w6.heap.size w6 W) => (P6.below hb).off
    rw [hGr.free_in.2.2, e6] at hf6
    rw [h3] at ho6
    rw [h2] at hdump
    have HDU := Lib.hid hdump
    have HF6 := Lib.hid hf6
    have HO6 := Lib.hid ho6
    have HD6 := Lib.hid hd6
    have bw6 : Below w.heap.size w w6 := bw4.trans ⟨hT.os, hT.tape, hT.output, hT.size, fun k hk => hT.block k (by omega) (fun hn => hn (.inl (by show k < _; omega)))⟩
    have SN6 := Lib.hid (SN.out.files.zone P6 (fun k hk => .inr hk))
    have H5 := Lib.hid h5
    have h1b : ¬ rc = 0 := h1
    clear hrc hdump hf6 ho6 hd6 e6 hf h2 h4 h5 hT HC SN P4 h1 P6
    by_cases h55 : rc = 5
    · have hd := H5.out h55
      rw [hd] at HD6
      subst h55
      clear hd H5 h1b
      go_wp2_with (first
        | (go_at_call 21; refine HDU.out.mono ?_; rintro e w7 ⟨v7, rfl, hF7, b7⟩; have F7 := Lib.hid hF7; clear hF7 HDU)
        | (go_at_call 33; refine (theirs_any _ v7 S.fs w7 F7.out (fun k hk => hk.2) hG.dump.1).mono ?_; rintro e w8 ⟨v8, rfl, hF8, b8⟩; have sn8 := snap_of b7 hF8 b8; have SN8 := Lib.hid sn8; have A8 := Lib.hid (SN6.out.turn (Turn.of_below (fun _ => False) sn8.below) (fun _ _ h => h)); clear hF8 b7 b8 F7 sn8)
        | (go_at_call 34; refine (sameFiles_any _ _ v4 v8 S.fs S.fs w8 A8.out SN8.out.files (by have := hG.dump.1; omega)).mono ?_; rintro e w9 ⟨rfl, b9⟩; have b69 := SN8.out.below.trans (b9.mono SN8.out.below.size); rw [decide_eq_true rfl])
        | (go_at_call 30; refine (HO6.out _ b69).mono ?_; rintro e w10 ⟨rfl, rfl⟩)
        | (go_at_call 14; refine (HF6.out _ b69).mono ?_; rintro e w10 ⟨rfl, rfl⟩)
        | (go_at_call 16; refine (HD6.out _ b69).mono ?_; rintro e w10 ⟨rfl, rfl⟩))
      go_ret
      exact ⟨rfl, bw6.trans (b69.mono bw6.size)⟩
    · clear H5
      go_wp2_with (first
        | (go_at_call 21; refine HDU.out.mono ?_; rintro e w7 ⟨v7, rfl, hF7, b7⟩; have F7 := Lib.hid hF7; clear hF7 HDU)
        | (go_at_call 33; refine (theirs_any _ v7 S.fs w7 F7.out (fun k hk => hk.2) hG.dump.1).mono ?_; rintro e w8 ⟨v8, rfl, hF8, b8⟩; have sn8 := snap_of b7 hF8 b8; have SN8 := Lib.hid sn8; have A8 := Lib.hid (SN6.out.turn (Turn.of_below (fun _ => False) sn8.below) (fun _ _ h => h)); clear hF8 b7 b8 F7 sn8)
        | (go_at_call 34; refine (sameFiles_any _ _ v4 v8 S.fs S.fs w8 A8.out SN8.out.files (by have := hG.dump.1; omega)).mono ?_; rintro e w9 ⟨rfl, b9⟩; have b69 := SN8.out.below.trans (b9.mono SN8.out.below.size); rw [decide_eq_true rfl])
        | (go_at_call 30; refine (HO6.out _ b69).mono ?_; rintro e w10 ⟨rfl, rfl⟩)
        | (go_at_call 14; refine (HF6.out _ b69).mono ?_; rintro e w10 ⟨rfl, rfl⟩)
        | (go_at_call 16; fail))
      go_ret
      exact ⟨rfl, bw6.trans (b69.mono bw6.size)⟩
  · unfold OneTo at HC
    rw [h1] at HC
    refine HC.out.mono ?_
    rintro e w6 ⟨rfl, P6⟩
    have hT := P6.turned
    have bz := hT.size
    have hf6 := P6.free
    have ho6 := P6.ops
    have hd6 := P6.off
    have hz6 := hGr.free_in
    obtain ⟨f6, hf6e⟩ : ∃ f6, f6 = r.2.free := ⟨_, rfl⟩
    rw [hz6.2.2, ← hf6e] at hf6
    rw [h3] at ho6
    rw [h6] at hd6
    have hge : f6 ≥ 0 := by rw [hf6e]; exact hz6.1
    have bw6 : Below w.heap.size w w6 := bw4.trans ⟨hT.os, hT.tape, hT.output, hT.size, fun k hk => hT.block k (by omega) (fun hn => hn (.inl (by show k < _; omega)))⟩
    have hdn : ((S.done + 1 : Nat) : Int) = (S.done : Int) + 1 := by omega
    rw [hdn] at ho6
    clear hz6 hf6e hf hT HC h1 h3 h6 hdn
    go_wp2_with (first
      | (go_at_call 30; refine ho6.mono ?_; rintro e w10 ⟨rfl, rfl⟩)
      | (go_at_call 14; refine hf6.mono ?_; rintro e w10 ⟨rfl, rfl⟩)
      | (go_at_call 16; refine hd6.mono ?_; rintro e w10 ⟨rfl, rfl⟩))
    go_ret
    exact ⟨by simp, bw6⟩
set_option maxRecDepth 100000 in
set_option maxHeartbeats 1600000 in
theorem refused_rename (c : Int) (v : Value) (sc : List OpR) (z : Int) (o : OpV) (bv : Value) (w : World) (hsc : ScriptAt w (elder w) v sc) (hbv : BytesAt w (elder w) bv o.l) (hy : bits BinOp.and IntKind.i64 z 3 = 2) :
    Calls Try.prog 6 #[.int .i64 c, v, .agg #[.int .i64 z, .string (SL o.a), .string (SL o.b), bv, .int .i64 o.n]] w fun e w' => e = .returned (.bool true) ∧ Below w.heap.size w w' := by
  obtain ⟨wa, hwa⟩ : ∃ wa, wa = w.alloc (opO z o.a o.b bv o.n) := ⟨_, rfl⟩
  have ba : Below w.heap.size w wa := by rw [hwa]; exact (Below.refl _ _).alloc (Nat.le_refl _) _
  have xa : wa.heap[w.heap.size]? = some (opO z o.a o.b bv o.n) := by rw [hwa]; exact heap_alloc_new _ _
  have hwa' : w.alloc (Obj.cells #[Value.int IntKind.i64 z, Value.string (SL o.a), Value.string (SL o.b), bv, Value.int IntKind.i64 o.n] 34) = wa := hwa.symm
  have hA := awake_any wa
  have SA := Lib.hid (hsc.later ba)
  have VA := Lib.hid (hbv.turn (Turn.of_below (fun _ => False) ba) (fun _ _ h => h))
  have XA := Lib.hid xa
  have HW := Lib.hid hwa'
  have hxl : w.heap.size < wa.heap.size := (Array.getElem?_eq_some_iff.1 xa).1
  clear hwa hwa' xa hsc hbv
  go_enter Try.func6, Try.ntmps6
  go_wp2_with (first
    | (go_at_call 10; rw [HW.out]; refine hA.mono ?_; rintro e w1 ⟨rfl, b1⟩; have S1 := Lib.hid (SA.out.below (b1.mono (Nat.le_of_lt hxl))); have z1 := b1.size; have bw1 := ba.trans (b1.mono (Nat.le_of_lt hxl)))
    | (go_at_call 32; refine (played_any c v sc w1 w.heap.size (by omega) S1.out).mono ?_; rintro e w2 ⟨p, S, rfl, P2, hG, hD, hcap⟩; have b2 := P2.old; have z2 := b2.size; have bw2 := bw1.trans (b2.mono (by omega)); have hP := Lib.hid P2; have HDU := Lib.hid (P2.dump hG.rise hG.dump.1 hG.dump.2); have X2 := Lib.hid (below_heap b2 (below_heap b1 XA.out)); have V2 := Lib.hid (VA.out.turn (Turn.of_below (fun _ => False) (b1.trans (b2.mono z1))) (fun _ _ h => h)); clear P2 b1 b2 hA hcap S1 SA)
    | (go_at_call 21; refine HDU.out.mono ?_; rintro e w3 ⟨v3, rfl, hF3, b3⟩; have F3 := Lib.hid hF3; clear hF3 HDU)
    | (go_at_call 33; refine (theirs_any _ v3 S.fs w3 F3.out (fun k hk => hk.2) hG.dump.1).mono ?_; rintro e w4 ⟨v4, rfl, hF4, b4⟩; have sn := snap_of b3 hF4 b4; have SN := Lib.hid sn; have P4 := Lib.hid (hP.out.snap sn.below); have X4 := Lib.hid (below_heap sn.below X2.out); have V4 := Lib.hid (V2.out.turn (Turn.of_below (fun _ => False) sn.below) (fun _ _ h => h)); have z4 := sn.below.size; have bw4 := bw2.trans (sn.below.mono (by omega)); clear hF4 b3 b4 F3 hP sn)
    | (go_at_call 30; refine P4.out.ops.mono ?_; rintro e w5 ⟨rfl, rfl⟩)
    | (go_at_call 14; refine P4.out.free.mono ?_; rintro e w5 ⟨rfl, rfl⟩; obtain ⟨k0, k1, k2, k3, k4⟩ := op_cells X4.out)
    | (go_at_call 26; fail))
  obtain ⟨r, hr⟩ : ∃ r, r = renameS S o.a o.b := ⟨_, rfl⟩
  have htold : Told S r := by rw [hr]; exact told_rename _ _ _
  have hGr : Good r.2 := by rw [hr]; exact hG.rename _ _
  have hcall := P4.out.rename hG (by omega) o.a o.b
  rw [← hr] at hcall
  have hz := hG.free_in
  obtain ⟨f, hf⟩ : ∃ f, f = S.free := ⟨_, rfl⟩
  rw [hz.2.2, ← hf]
  have HC := Lib.hid hcall
  clear hr hcall k0 k1 k2 k3 k4 X2 X4 XA V2 V4 VA HW
  rcases htold with ⟨h1, h2, h3, h4, h5⟩ | ⟨h1, h3, h6⟩
  · obtain ⟨rc, hrc⟩ : ∃ rc, rc = r.1 := ⟨_, rfl⟩
    unfold OneTo at HC
    rw [← hrc] at HC h1 h5
    refine HC.out.mono ?_
    rintro e w6 ⟨rfl, P6⟩
    have hT := P6.turned
    have bz := hT.size
    have hdump := P6.dump hGr.rise hGr.dump.1 hGr.dump.2
    have e6 : r.2.free = f := by rw [hf]; unfold St.free; rw [h2, h4]
    have hf6 := fun W (hb : Below w6.heap.size w6 W) => (P6.below hb).free
    have ho6 := fun W (hb : Below w6.heap.size w6 W) => (P6.below hb).ops
    have hd6 := fun W (hb : Below w6.heap.size w6 W) => (P6.below hb).off
    rw [hGr.free_in.2.2, e6] at hf6
    rw [h3] at ho6
    rw [h2] at hdump
    have HDU := Lib.hid hdump
    have HF6 := Lib.hid hf6
    have HO6 := Lib.hid ho6
    have HD6 := Lib.hid hd6
    have bw6 : Below w.heap.size w w6 := bw4.trans ⟨hT.os, hT.tape, hT.output, hT.size, fun k hk => hT.block k (by omega) (fun hn => hn (.inl (by show k < _; omega)))⟩
    have SN6 := Lib.hid (SN.out.files.zone P6 (fun k hk => .inr hk))
    have H5 := Lib.hid h5
    have h1b : ¬ rc = 0 := h1
    clear hrc hdump hf6 ho6 hd6 e6 hf h2 h4 h5 hT HC SN P4 h1 P6
    by_cases h55 : rc = 5
    · have hd := H5.out h55
      rw [hd] at HD6
      subst h55
      clear hd H5 h1b
      go_wp2_with (first
        | (go_at_call 21; refine HDU.out.mono ?_; rintro e w7 ⟨v7, rfl, hF7, b7⟩; have F7 := Lib.hid hF7; clear hF7 HDU)
        | (go_at_call 33; refine (theirs_any _ v7 S.fs w7 F7.out (fun k hk => hk.2) hG.dump.1).mono ?_; rintro e w8 ⟨v8, rfl, hF8, b8⟩; have sn8 := snap_of b7 hF8 b8; have SN8 := Lib.hid sn8; have A8 := Lib.hid (SN6.out.turn (Turn.of_below (fun _ => False) sn8.below) (fun _ _ h => h)); clear hF8 b7 b8 F7 sn8)
        | (go_at_call 34; refine (sameFiles_any _ _ v4 v8 S.fs S.fs w8 A8.out SN8.out.files (by have := hG.dump.1; omega)).mono ?_; rintro e w9 ⟨rfl, b9⟩; have b69 := SN8.out.below.trans (b9.mono SN8.out.below.size); rw [decide_eq_true rfl])
        | (go_at_call 30; refine (HO6.out _ b69).mono ?_; rintro e w10 ⟨rfl, rfl⟩)
        | (go_at_call 14; refine (HF6.out _ b69).mono ?_; rintro e w10 ⟨rfl, rfl⟩)
        | (go_at_call 16; refine (HD6.out _ b69).mono ?_; rintro e w10 ⟨rfl, rfl⟩))
      go_ret
      exact ⟨rfl, bw6.trans (b69.mono bw6.size)⟩
    · clear H5
      go_wp2_with (first
        | (go_at_call 21; refine HDU.out.mono ?_; rintro e w7 ⟨v7, rfl, hF7, b7⟩; have F7 := Lib.hid hF7; clear hF7 HDU)
        | (go_at_call 33; refine (theirs_any _ v7 S.fs w7 F7.out (fun k hk => hk.2) hG.dump.1).mono ?_; rintro e w8 ⟨v8, rfl, hF8, b8⟩; have sn8 := snap_of b7 hF8 b8; have SN8 := Lib.hid sn8; have A8 := Lib.hid (SN6.out.turn (Turn.of_below (fun _ => False) sn8.below) (fun _ _ h => h)); clear hF8 b7 b8 F7 sn8)
        | (go_at_call 34; refine (sameFiles_any _ _ v4 v8 S.fs S.fs w8 A8.out SN8.out.files (by have := hG.dump.1; omega)).mono ?_; rintro e w9 ⟨rfl, b9⟩; have b69 := SN8.out.below.trans (b9.mono SN8.out.below.size); rw [decide_eq_true rfl])
        | (go_at_call 30; refine (HO6.out _ b69).mono ?_; rintro e w10 ⟨rfl, rfl⟩)
        | (go_at_call 14; refine (HF6.out _ b69).mono ?_; rintro e w10 ⟨rfl, rfl⟩)
        | (go_at_call 16; fail))
      go_ret
      exact ⟨rfl, bw6.trans (b69.mono bw6.size)⟩
  · unfold OneTo at HC
    rw [h1] at HC
    refine HC.out.mono ?_
    rintro e w6 ⟨rfl, P6⟩
    have hT := P6.turned
    have bz := hT.size
    have hf6 := P6.free
    have ho6 := P6.ops
    have hd6 := P6.off
    have hz6 := hGr.free_in
    obtain ⟨f6, hf6e⟩ : ∃ f6, f6 = r.2.free := ⟨_, rfl⟩
    rw [hz6.2.2, ← hf6e] at hf6
    rw [h3] at ho6
    rw [h6] at hd6
    have hge : f6 ≥ 0 := by rw [hf6e]; exact hz6.1
    have bw6 : Below w.heap.size w w6 := bw4.trans ⟨hT.os, hT.tape, hT.output, hT.size, fun k hk => hT.block k (by omega) (fun hn => hn (.inl (by show k < _; omega)))⟩
    have hdn : ((S.done + 1 : Nat) : Int) = (S.done : Int) + 1 := by omega
    rw [hdn] at ho6
    clear hz6 hf6e hf hT HC h1 h3 h6 hdn
    go_wp2_with (first
      | (go_at_call 30; refine ho6.mono ?_; rintro e w10 ⟨rfl, rfl⟩)
      | (go_at_call 14; refine hf6.mono ?_; rintro e w10 ⟨rfl, rfl⟩)
      | (go_at_call 16; refine hd6.mono ?_; rintro e w10 ⟨rfl, rfl⟩))
    go_ret
    exact ⟨by simp, bw6⟩
set_option maxRecDepth 100000 in
set_option maxHeartbeats 1600000 in
theorem refused_sync (c : Int) (v : Value) (sc : List OpR) (z : Int) (o : OpV) (bv : Value) (w : World) (hsc : ScriptAt w (elder w) v sc) (hbv : BytesAt w (elder w) bv o.l) (h0 : ¬ bits BinOp.and IntKind.i64 z 3 = 0) (h01 : ¬ bits BinOp.and IntKind.i64 z 3 = 1) (h02 : ¬ bits BinOp.and IntKind.i64 z 3 = 2) :
    Calls Try.prog 6 #[.int .i64 c, v, .agg #[.int .i64 z, .string (SL o.a), .string (SL o.b), bv, .int .i64 o.n]] w fun e w' => e = .returned (.bool true) ∧ Below w.heap.size w w' := by
  obtain ⟨wa, hwa⟩ : ∃ wa, wa = w.alloc (opO z o.a o.b bv o.n) := ⟨_, rfl⟩
  have ba : Below w.heap.size w wa := by rw [hwa]; exact (Below.refl _ _).alloc (Nat.le_refl _) _
  have xa : wa.heap[w.heap.size]? = some (opO z o.a o.b bv o.n) := by rw [hwa]; exact heap_alloc_new _ _
  have hwa' : w.alloc (Obj.cells #[Value.int IntKind.i64 z, Value.string (SL o.a), Value.string (SL o.b), bv, Value.int IntKind.i64 o.n] 34) = wa := hwa.symm
  have hA := awake_any wa
  have SA := Lib.hid (hsc.later ba)
  have VA := Lib.hid (hbv.turn (Turn.of_below (fun _ => False) ba) (fun _ _ h => h))
  have XA := Lib.hid xa
  have HW := Lib.hid hwa'
  have hxl : w.heap.size < wa.heap.size := (Array.getElem?_eq_some_iff.1 xa).1
  clear hwa hwa' xa hsc hbv
  go_enter Try.func6, Try.ntmps6
  go_wp2_with (first
    | (go_at_call 10; rw [HW.out]; refine hA.mono ?_; rintro e w1 ⟨rfl, b1⟩; have S1 := Lib.hid (SA.out.below (b1.mono (Nat.le_of_lt hxl))); have z1 := b1.size; have bw1 := ba.trans (b1.mono (Nat.le_of_lt hxl)))
    | (go_at_call 32; refine (played_any c v sc w1 w.heap.size (by omega) S1.out).mono ?_; rintro e w2 ⟨p, S, rfl, P2, hG, hD, hcap⟩; have b2 := P2.old; have z2 := b2.size; have bw2 := bw1.trans (b2.mono (by omega)); have hP := Lib.hid P2; have HDU := Lib.hid (P2.dump hG.rise hG.dump.1 hG.dump.2); have X2 := Lib.hid (below_heap b2 (below_heap b1 XA.out)); have V2 := Lib.hid (VA.out.turn (Turn.of_below (fun _ => False) (b1.trans (b2.mono z1))) (fun _ _ h => h)); clear P2 b1 b2 hA hcap S1 SA)
    | (go_at_call 21; refine HDU.out.mono ?_; rintro e w3 ⟨v3, rfl, hF3, b3⟩; have F3 := Lib.hid hF3; clear hF3 HDU)
    | (go_at_call 33; refine (theirs_any _ v3 S.fs w3 F3.out (fun k hk => hk.2) hG.dump.1).mono ?_; rintro e w4 ⟨v4, rfl, hF4, b4⟩; have sn := snap_of b3 hF4 b4; have SN := Lib.hid sn; have P4 := Lib.hid (hP.out.snap sn.below); have X4 := Lib.hid (below_heap sn.below X2.out); have V4 := Lib.hid (V2.out.turn (Turn.of_below (fun _ => False) sn.below) (fun _ _ h => h)); have z4 := sn.below.size; have bw4 := bw2.trans (sn.below.mono (by omega)); clear hF4 b3 b4 F3 hP sn)
    | (go_at_call 30; refine P4.out.ops.mono ?_; rintro e w5 ⟨rfl, rfl⟩)
    | (go_at_call 14; refine P4.out.free.mono ?_; rintro e w5 ⟨rfl, rfl⟩; obtain ⟨k0, k1, k2, k3, k4⟩ := op_cells X4.out)
    | (go_at_call 27; fail))
  obtain ⟨r, hr⟩ : ∃ r, r = syncS S o.a := ⟨_, rfl⟩
  have htold : Told S r := by rw [hr]; exact told_sync _ _
  have hGr : Good r.2 := by rw [hr]; exact hG.sync _
  have hcall := P4.out.sync hG (by omega) o.a
  rw [← hr] at hcall
  have hz := hG.free_in
  obtain ⟨f, hf⟩ : ∃ f, f = S.free := ⟨_, rfl⟩
  rw [hz.2.2, ← hf]
  have HC := Lib.hid hcall
  clear hr hcall k0 k1 k2 k3 k4 X2 X4 XA V2 V4 VA HW
  rcases htold with ⟨h1, h2, h3, h4, h5⟩ | ⟨h1, h3, h6⟩
  · obtain ⟨rc, hrc⟩ : ∃ rc, rc = r.1 := ⟨_, rfl⟩
    unfold OneTo at HC
    rw [← hrc] at HC h1 h5
    refine HC.out.mono ?_
    rintro e w6 ⟨rfl, P6⟩
    have hT := P6.turned
    have bz := hT.size
    have hdump := P6.dump hGr.rise hGr.dump.1 hGr.dump.2
    have e6 : r.2.free = f := by rw [hf]; unfold St.free; rw [h2, h4]
    have hf6 := fun W (hb : Below w6.heap.size w6 W) => (P6.below hb).free
    have ho6 := fun W (hb : Below w6.heap.size w6 W) => (P6.below hb).ops
    have hd6 := fun W (hb : Below w6.heap.size w6 W) => (P6.below hb).off
    rw [hGr.free_in.2.2, e6] at hf6
    rw [h3] at ho6
    rw [h2] at hdump
    have HDU := Lib.hid hdump
    have HF6 := Lib.hid hf6
    have HO6 := Lib.hid ho6
    have HD6 := Lib.hid hd6
    have bw6 : Below w.heap.size w w6 := bw4.trans ⟨hT.os, hT.tape, hT.output, hT.size, fun k hk => hT.block k (by omega) (fun hn => hn (.inl (by show k < _; omega)))⟩
    have SN6 := Lib.hid (SN.out.files.zone P6 (fun k hk => .inr hk))
    have H5 := Lib.hid h5
    have h1b : ¬ rc = 0 := h1
    clear hrc hdump hf6 ho6 hd6 e6 hf h2 h4 h5 hT HC SN P4 h1 P6
    by_cases h55 : rc = 5
    · have hd := H5.out h55
      rw [hd] at HD6
      subst h55
      clear hd H5 h1b
      go_wp2_with (first
        | (go_at_call 21; refine HDU.out.mono ?_; rintro e w7 ⟨v7, rfl, hF7, b7⟩; have F7 := Lib.hid hF7; clear hF7 HDU)
        | (go_at_call 33; refine (theirs_any _ v7 S.fs w7 F7.out (fun k hk => hk.2) hG.dump.1).mono ?_; rintro e w8 ⟨v8, rfl, hF8, b8⟩; have sn8 := snap_of b7 hF8 b8; have SN8 := Lib.hid sn8; have A8 := Lib.hid (SN6.out.turn (Turn.of_below (fun _ => False) sn8.below) (fun _ _ h => h)); clear hF8 b7 b8 F7 sn8)
        | (go_at_call 34; refine (sameFiles_any _ _ v4 v8 S.fs S.fs w8 A8.out SN8.out.files (by have := hG.dump.1; omega)).mono ?_; rintro e w9 ⟨rfl, b9⟩; have b69 := SN8.out.below.trans (b9.mono SN8.out.below.size); rw [decide_eq_true rfl])
        | (go_at_call 30; refine (HO6.out _ b69).mono ?_; rintro e w10 ⟨rfl, rfl⟩)
        | (go_at_call 14; refine (HF6.out _ b69).mono ?_; rintro e w10 ⟨rfl, rfl⟩)
        | (go_at_call 16; refine (HD6.out _ b69).mono ?_; rintro e w10 ⟨rfl, rfl⟩))
      go_ret
      exact ⟨rfl, bw6.trans (b69.mono bw6.size)⟩
    · clear H5
      go_wp2_with (first
        | (go_at_call 21; refine HDU.out.mono ?_; rintro e w7 ⟨v7, rfl, hF7, b7⟩; have F7 := Lib.hid hF7; clear hF7 HDU)
        | (go_at_call 33; refine (theirs_any _ v7 S.fs w7 F7.out (fun k hk => hk.2) hG.dump.1).mono ?_; rintro e w8 ⟨v8, rfl, hF8, b8⟩; have sn8 := snap_of b7 hF8 b8; have SN8 := Lib.hid sn8; have A8 := Lib.hid (SN6.out.turn (Turn.of_below (fun _ => False) sn8.below) (fun _ _ h => h)); clear hF8 b7 b8 F7 sn8)
        | (go_at_call 34; refine (sameFiles_any _ _ v4 v8 S.fs S.fs w8 A8.out SN8.out.files (by have := hG.dump.1; omega)).mono ?_; rintro e w9 ⟨rfl, b9⟩; have b69 := SN8.out.below.trans (b9.mono SN8.out.below.size); rw [decide_eq_true rfl])
        | (go_at_call 30; refine (HO6.out _ b69).mono ?_; rintro e w10 ⟨rfl, rfl⟩)
        | (go_at_call 14; refine (HF6.out _ b69).mono ?_; rintro e w10 ⟨rfl, rfl⟩)
        | (go_at_call 16; fail))
      go_ret
      exact ⟨rfl, bw6.trans (b69.mono bw6.size)⟩
  · unfold OneTo at HC
    rw [h1] at HC
    refine HC.out.mono ?_
    rintro e w6 ⟨rfl, P6⟩
    have hT := P6.turned
    have bz := hT.size
    have hf6 := P6.free
    have ho6 := P6.ops
    have hd6 := P6.off
    have hz6 := hGr.free_in
    obtain ⟨f6, hf6e⟩ : ∃ f6, f6 = r.2.free := ⟨_, rfl⟩
    rw [hz6.2.2, ← hf6e] at hf6
    rw [h3] at ho6
    rw [h6] at hd6
    have hge : f6 ≥ 0 := by rw [hf6e]; exact hz6.1
    have bw6 : Below w.heap.size w w6 := bw4.trans ⟨hT.os, hT.tape, hT.output, hT.size, fun k hk => hT.block k (by omega) (fun hn => hn (.inl (by show k < _; omega)))⟩
    have hdn : ((S.done + 1 : Nat) : Int) = (S.done : Int) + 1 := by omega
    rw [hdn] at ho6
    clear hz6 hf6e hf hT HC h1 h3 h6 hdn
    go_wp2_with (first
      | (go_at_call 30; refine ho6.mono ?_; rintro e w10 ⟨rfl, rfl⟩)
      | (go_at_call 14; refine hf6.mono ?_; rintro e w10 ⟨rfl, rfl⟩)
      | (go_at_call 16; refine hd6.mono ?_; rintro e w10 ⟨rfl, rfl⟩))
    go_ret
    exact ⟨by simp, bw6⟩
theorem refused_any (c : Int) (v : Value) (sc : List OpR) (z : Int) (o : OpV) (bv : Value) (w : World) (hsc : ScriptAt w (elder w) v sc) (hbv : BytesAt w (elder w) bv o.l) :
    Calls Try.prog 6 #[.int .i64 c, v, .agg #[.int .i64 z, .string (SL o.a), .string (SL o.b), bv, .int .i64 o.n]] w fun e w' => e = .returned (.bool true) ∧ Below w.heap.size w w' := by
  by_cases h0 : bits BinOp.and IntKind.i64 z 3 = 0
  · exact refused_append c v sc z o bv w hsc hbv h0
  by_cases h1 : bits BinOp.and IntKind.i64 z 3 = 1
  · exact refused_remove c v sc z o bv w hsc hbv h1
  by_cases h2 : bits BinOp.and IntKind.i64 z 3 = 2
  · exact refused_rename c v sc z o bv w hsc hbv h2
  exact refused_sync c v sc z o bv w hsc hbv h0 h1 h2
end Go.Proofs.Ytmblkojilckobaa
