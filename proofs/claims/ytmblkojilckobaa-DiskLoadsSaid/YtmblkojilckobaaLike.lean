/- alike of the laws: both disks answer alike. -/
import Derived.Test.YtmblkojilckobaaPair
import Derived.Test.YtmblkojilckobaaTheirs
import Derived.Test.YtmblkojilckobaaSameFiles
import Derived.Deep.RegionHeld3
namespace Go.Proofs.Ytmblkojilckobaa
open Go.RowKit
/-- A list of files that lies in what there is. -/
def Got (w : World) (v : Value) (L : Files) : Prop := FilesAt w (fun k => k < w.heap.size) v L
theorem Got.later {w w' : World} {v : Value} {L : Files} (h : Got w v L) (hb : Below w.heap.size w w') : Got w' v L := by
  have h1 : FilesAt w' (fun k => k < w.heap.size) v L := h.turn (G := fun _ => False) (Turn.of_below (fun _ => False) hb) (fun _ _ h => h)
  exact h1.mono (fun k _ hk => Nat.lt_of_lt_of_le hk hb.size)
theorem Good.dumps {S : St} (h : Good S) : S.fs.length ≤ 4000000000000 ∧ ∀ n b, findF n S.fs = some b → n.length ≤ 281474976710656 ∧ b.length ≤ 140737488355328 := by
  have h1 := h.many
  refine ⟨by omega, fun n b hb => ?_⟩
  have := h.file_le hb
  unfold costF at this
  omega
section
variable {w0 w : World} {base p q : Nat} {Fd Fr : Nat → Prop} {S : St}
set_option maxRecDepth 100000 in
set_option maxHeartbeats 1600000 in
theorem alike_pair (h : Pair w0 base w Fd Fr p q S S) (hg : Good S) : Calls Try.prog 17 #[ptr p, ptr q] w fun e w' => e = .returned (.bool true) ∧ Below w.heap.size w w' := by
  obtain ⟨f, hf⟩ : ∃ f, f = S.free := ⟨_, rfl⟩
  have hfr := hg.free_in.2.2
  have hdp := hg.dumps
  have hcap : S.cap ≤ 1099511627776 := by have := hg.top; omega
  have H14 := Lib.hid (fun (W : World) (hb : Below w.heap.size w W) => (show Calls Try.prog 14 #[ptr p] W fun e w' => e = .returned (.int .i64 f) ∧ w' = W from by
    have := dFree (h.below hb).d
    rw [hfr, ← hf] at this
    exact this))
  have H15 := Lib.hid (fun (W : World) (hb : Below w.heap.size w W) => (show Calls Try.prog 15 #[ptr q] W fun e w' => e = .returned (.int .i64 f) ∧ Below w.heap.size w w' from by
    have := rFree (h.below hb).r hdp.1 hcap
    rw [hfr, ← hf] at this
    refine this.mono ?_
    rintro e w' ⟨he, m, rfl⟩
    exact ⟨he, below_drewN hb m⟩))
  obtain ⟨n, hn⟩ : ∃ n, n = S.done := ⟨_, rfl⟩
  obtain ⟨b, hbk⟩ : ∃ b, b = S.dark := ⟨_, rfl⟩
  obtain ⟨L, hL⟩ : ∃ L, L = S.fs := ⟨_, rfl⟩
  have H30 := Lib.hid (fun (W : World) (hb : Below w.heap.size w W) => (show Calls Try.prog 30 #[ptr p] W fun e w' => e = .returned (.int .i64 (n : Int)) ∧ w' = W from by
    rw [hn]; exact dOps (h.below hb).d))
  have H16 := Lib.hid (fun (W : World) (hb : Below w.heap.size w W) => (show Calls Try.prog 16 #[ptr p] W fun e w' => e = .returned (.bool b) ∧ w' = W from by
    rw [hbk]; exact dOff (h.below hb).d))
  have H21 := Lib.hid (fun (W : World) (hb : Below w.heap.size w W) => (show Calls Try.prog 21 #[ptr p] W fun e w' => ∃ v, e = .returned v ∧ Got w' v L ∧ Below W.heap.size W w' from by
    refine (dDump (h.below hb).d hg.rise hdp.1 hdp.2).mono ?_
    rintro e w' ⟨v, he, hF, hb'⟩
    exact ⟨v, he, by rw [hL]; exact hF.mono (fun k _ hk => hk.2), hb'⟩))
  have H33 := Lib.hid (fun (W : World) (v : Value) (hv : Got W v L) => (show Calls Try.prog 33 #[v] W fun e w' => ∃ v, e = .returned v ∧ Got w' v L ∧ Below W.heap.size W w' from by
    refine (theirs_any _ v L W hv (fun _ h => h) (by rw [hL]; exact hdp.1)).mono ?_
    rintro e w' ⟨v, he, hF, hb'⟩
    exact ⟨v, he, hF.mono (fun k _ hk => by have := hb'.size; rcases hk with hk | hk <;> omega), hb'⟩))
  have H44 := Lib.hid (fun (W : World) (hb : Below w.heap.size w W) => (show Calls Try.prog 44 #[ptr q] W fun e w' => ∃ v, e = .returned v ∧ Got w' v L ∧ Below W.heap.size W w' from by
    obtain ⟨ao, cap, P, g, off, hr⟩ := (h.below hb).r.opened
    refine (refDump_any hr.list hdp.1 (fun i n b hi => (hdp.2 n b (findF_of_mem hg.rise (List.mem_of_getElem? hi))).2)).mono ?_
    rintro e w' ⟨v, he, hF, hb'⟩
    exact ⟨v, he, by rw [hL]; exact hF.mono (fun k _ hk => hk.2), hb'⟩))
  have H34 := Lib.hid (fun (W : World) (a c : Value) (ha : Got W a L) (hc : Got W c L) => (show Calls Try.prog 34 #[a, c] W fun e w' => e = .returned (.bool true) ∧ Below W.heap.size W w' from by
    refine (sameFiles_any _ _ a c L L W ha hc (by rw [hL]; have := hdp.1; omega)).mono ?_
    rintro e w' ⟨he, hb'⟩
    exact ⟨by rw [he]; simp, hb'⟩))
  have c2 : w.cell? ⟨q, 2, none⟩ = some (.int .i64 (n : Int)) := by
    obtain ⟨ao, cap, P, g, off, hr⟩ := h.r.opened
    rw [hn]
    exact (ref_cells hr.head).2.2.1
  have c4 : w.cell? ⟨q, 4, none⟩ = some (.bool b) := by
    obtain ⟨ao, cap, P, g, off, hr⟩ := h.r.opened
    rw [hbk]
    exact (ref_cells hr.head).2.2.2.2.1
  have hqw : q < w.heap.size := World.block_lt_of_cell? w _ c2
  have KEEP := Lib.hid (fun (W : World) (hb : Below w.heap.size w W) => (show W.cell? ⟨q, 2, none⟩ = some (.int .i64 (n : Int)) ∧ W.cell? ⟨q, 4, none⟩ = some (.bool b) from
    ⟨(hb.cell (p := ⟨q, 2, none⟩) hqw).trans c2, (hb.cell (p := ⟨q, 4, none⟩) hqw).trans c4⟩))
  have B := Lib.hid ((Below.refl w.heap.size w).drew)
  clear hf hfr hdp hcap hn hbk hL h hg hqw
  go_enter Try.func17, Try.ntmps17
  go_wp2_with fail
  go_region_held3 (fun W => W.cell? ⟨q, 2, none⟩ = some (.int .i64 (n : Int)) ∧ W.cell? ⟨q, 4, none⟩ = some (.bool b)) (first | exact KEEP.out _ B.out)
    ((first
      | (go_at_call 14; refine (H14.out _ B.out).mono ?_; rintro e _ ⟨rfl, rfl⟩)
      | (go_at_call 15; refine (H15.out _ B.out).mono ?_; rintro e wf ⟨rfl, bf⟩; have B := Lib.hid bf; clear bf)
      | (go_at_call 30; refine (H30.out _ B.out).mono ?_; rintro e _ ⟨rfl, rfl⟩)
      | (go_at_call 16; refine (H16.out _ B.out).mono ?_; rintro e _ ⟨rfl, rfl⟩)
      | (go_at_call 21; refine (H21.out _ B.out).mono ?_; rintro e wd ⟨vd, rfl, gd, bd⟩; have B := Lib.hid (B.out.trans (bd.mono B.out.size)); have V := Lib.hid gd; (try have U := Lib.hid (U.out.later bd)); clear gd bd)
      | (go_at_call 33; refine (H33.out _ vd V.out).mono ?_; rintro e wt ⟨vt, rfl, gt, bt⟩; have B := Lib.hid (B.out.trans (bt.mono B.out.size)); have T := Lib.hid gt; (try have U := Lib.hid (U.out.later bt)); clear gt bt)
      | (go_at_call 44; refine (H44.out _ B.out).mono ?_; rintro e wr ⟨vr, rfl, gr, br⟩; have B := Lib.hid (B.out.trans (br.mono B.out.size)); have U := Lib.hid gr; (try have V := Lib.hid (V.out.later br)); (try have T := Lib.hid (T.out.later br)); clear gr br)
      | (go_at_call 34; refine (H34.out _ vt vr T.out U.out).mono ?_; rintro e ws ⟨rfl, bs⟩; have B := Lib.hid (B.out.trans (bs.mono B.out.size)); clear bs)))
  all_goals (go_wp2; go_ret; exact ⟨by simp, B.out⟩)
end
end Go.Proofs.Ytmblkojilckobaa
