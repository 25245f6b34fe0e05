/- The walk of DiskPlays. -/
import Derived.Test.YtmblkojilckobaaPlayed
import Derived.Test.YtmblkojilckobaaLike
namespace Go.Proofs.Ytmblkojilckobaa
open Go.RowKit
theorem Two.below {w0 w w' : World} {base p q : Nat} {S : St} (h : Two w0 base w p q S) (hb : Below w.heap.size w w') : Two w0 base w' p q S := by
  obtain ⟨Fd, Fr, h⟩ := h
  exact ⟨Fd, Fr, h.below hb⟩
theorem Two.free {w0 w : World} {base p q : Nat} {S : St} (h : Two w0 base w p q S) (hg : Good S) {f : Int} (hf : f = S.free) :
    (∀ m, Calls Try.prog 14 #[ptr p] (w.drewN m) fun e w' => e = .returned (.int .i64 f) ∧ w' = w.drewN m) ∧ (∀ m, Calls Try.prog 15 #[ptr q] (w.drewN m) fun e w' => e = .returned (.int .i64 f) ∧ ∃ k, w' = w.drewN k) := by
  obtain ⟨Fd, Fr, h⟩ := h
  have hfr := hg.free_in.2.2
  have hdp := hg.dumps
  have hcap : S.cap ≤ 1099511627776 := by have := hg.top; omega
  refine ⟨fun m => ?_, fun m => ?_⟩
  · have := dFree (h.below (below_drewN (Below.refl _ _) m)).d
    rw [hfr, ← hf] at this
    exact this
  · have := rFree (h.below (below_drewN (Below.refl _ _) m)).r hdp.1 hcap
    rw [hfr, ← hf] at this
    refine this.mono ?_
    rintro e w' ⟨he, n, rfl⟩
    exact ⟨he, m + n, by rw [World.drewN_drewN]⟩
theorem Two.dark {w0 w : World} {base p q : Nat} {S : St} (h : Two w0 base w p q S) {b : Bool} (hb : b = S.dark) :
    (∀ m, Calls Try.prog 16 #[ptr p] (w.drewN m) fun e w' => e = .returned (.bool b) ∧ w' = w.drewN m) ∧ w.cell? ⟨q, 4, none⟩ = some (.bool b) := by
  obtain ⟨Fd, Fr, h⟩ := h
  refine ⟨fun m => ?_, ?_⟩
  · rw [hb]
    exact dOff (h.below (below_drewN (Below.refl _ _) m)).d
  · obtain ⟨ao, cap, P, g, off, hr⟩ := h.r.opened
    rw [hb]
    exact (ref_cells hr.head).2.2.2.2.1
set_option maxRecDepth 100000 in
set_option maxHeartbeats 1600000 in
theorem plays_yes (C : Nat) (hC : C ≤ 1099511627776) (v : Value) (sc : List OpR) (w : World) (hsc : ScriptAt w (elder w) v sc) : Calls Try.prog 3 #[.int .i64 (C : Int), v] w fun e w' => e = .returned (.bool true) ∧ Below w.heap.size w w' := by
  have hA := awake_any w
  obtain ⟨ao, cap, g, off, rfl, hg, hcell⟩ := hsc
  obtain ⟨N, hN⟩ : ∃ N, N = sc.length := ⟨_, rfl⟩
  rw [← hN] at hg ⊢
  have HN1 := Lib.hid (fun W => one_new W C hC)
  have HC := Lib.hid hcell
  have HN := Lib.hid hN
  clear hcell hN
  go_enter Try.func3, Try.ntmps3
  go_wp2_with (first
    | (go_at_call 10; refine hA.mono ?_; rintro e w1 ⟨rfl, b1⟩; have B1 := Lib.hid b1)
    | (go_at_call 11; refine (HN1.out _).mono ?_; rintro e w2 ⟨p, rfl, P0⟩; have Q0 := Lib.hid (two_new P0); clear P0)
    | (go_at_call 12; refine (refNew_yes C (by omega) _).mono ?_; rintro e w3 ⟨rfl, hw3⟩; have Q1 := Q0.out; rw [← hw3] at Q1; clear hw3 Q0))
  obtain ⟨q, hq⟩ : ∃ q, q = w2.heap.size := ⟨_, rfl⟩
  rw [← hq] at Q1 ⊢
  have z1 := b1.size
  clear hq b1 HN1 hA
  go_loopw [10] (fun i W => ∃ (k : Nat) (S : St), i = .int .i64 (k : Int) ∧ k ≤ N ∧ k ≤ 300 ∧ Two w1 w1.heap.size W p q S ∧ Good S ∧ S.done ≤ k) (fun i _ => N - (intOf i).toNat)
  case atStart => exact ⟨0, newS C, rfl, Nat.zero_le _, by omega, Q1, good_new (by omega), Nat.le_refl _⟩
  case round =>
    clear Q1
    obtain ⟨k, S, rfl, hk, hk2, hT, hGd, hD⟩ := hrel
    have i0 : (0 : Int) ≤ (k : Int) := by omega
    by_cases hlt : k < N ∧ k < 300
    · obtain ⟨hlt, h300⟩ := hlt
      have i1 : (k : Int) < (N : Int) := by omega
      have i2 : (k : Int) < 300 := by omega
      obtain ⟨r, hr⟩ : ∃ r, sc[k]? = some r := ⟨_, List.getElem?_eq_getElem (by rw [← HN.out]; exact hlt)⟩
      obtain ⟨rfl, hgB⟩ := hg (by omega)
      have hWo := hT.one.old
      have hop0 := (HC.out k r hr).turn (G := fun j => w.heap.size ≤ j) hgB (by have hb := B1.out; exact ⟨hb.os, hb.tape, hb.output, hb.size, fun j _ hn => hb.block j (by omega)⟩) (fun j hj h => by have : j < w.heap.size := hj; omega)
      have hop := hop0.turn (G := fun j => w1.heap.size ≤ j) hgB (by exact ⟨hWo.os, hWo.tape, hWo.output, hWo.size, fun j _ hn => hWo.block j (by omega)⟩) (fun j hj h => by have : j < w.heap.size := hj; omega)
      obtain ⟨c0, c1, c2, c3, c4, hby, la, lb, ln⟩ := hop
      have hst := step_any (hT.below ((Below.refl _ _).drew)) hGd (by omega) r.z r.o r.v ((hby.mono (fun j _ hj => Nat.lt_of_lt_of_le hj z1)).turn (Turn.of_below (fun _ => False) ((Below.refl wr.heap.size wr).drew)) (fun _ _ h => h)) la lb ln
      have hg2 := hGd.step (bits BinOp.and IntKind.i64 r.z 15) r.o ln
      have hd2 := step_done (bits BinOp.and IntKind.i64 r.z 15) S r.o
      obtain ⟨S', hS'⟩ : ∃ S', S' = stepS (bits BinOp.and IntKind.i64 r.z 15) S r.o := ⟨_, rfl⟩
      rw [← hS'] at hst hg2 hd2
      obtain ⟨f, hf⟩ : ∃ f, f = S'.free := ⟨_, rfl⟩
      obtain ⟨b, hb⟩ : ∃ b, b = S'.dark := ⟨_, rfl⟩
      have HF := Lib.hid hf
      have HB := Lib.hid hb
      have HST := Lib.hid hst
      clear hst hS' hby hT hr hop0 hf hb
      go_wp2_with fail
      go_region_with (first
        | (go_at_call 13; refine HST.out.mono ?_; rintro e w4 ⟨rfl, T4⟩; have hfr := T4.free hg2 HF.out; have hdk := T4.dark HB.out; have HF14 := Lib.hid hfr.1; have HF15 := Lib.hid hfr.2; have HF16 := Lib.hid hdk.1; have d4 := hdk.2; have HT4 := Lib.hid T4; clear hfr hdk T4)
        | (go_at_call 14; refine (HF14.out _).mono ?_; rintro e _ ⟨rfl, rfl⟩)
        | (go_at_call 14; refine (HF14.out 0).mono ?_; rintro e _ ⟨rfl, rfl⟩)
        | (go_at_call 15; refine (HF15.out _).mono ?_; rintro e _ ⟨rfl, m, rfl⟩)
        | (go_at_call 15; refine (HF15.out 0).mono ?_; rintro e _ ⟨rfl, m, rfl⟩)
        | (go_at_call 16; refine (HF16.out _).mono ?_; rintro e _ ⟨rfl, rfl⟩))
      all_goals (go_wp2; go_roundw; (case rel => exact ⟨k + 1, S', by go_num, by omega, by omega, HT4.out.below (below_drewN (Below.refl _ _) _), hg2, by omega⟩); (case measure => simp [intOf]; omega))
    · have hlast : Calls Try.prog 17 #[ptr p, ptr q] wr fun e w' => e = .returned (.bool true) ∧ Below wr.heap.size wr w' := by
        obtain ⟨Fd, Fr, h⟩ := hT
        exact alike_pair h hGd
      have hWo := hT.one.old
      have HL := Lib.hid hlast
      have HW := Lib.hid hWo
      clear hlast hT hGd hWo
      by_cases h1 : k < N
      · have i1 : (k : Int) < (N : Int) := by omega
        have i2 : ¬ ((k : Int) < 300) := by omega
        go_wp2_with (go_at_call 17; refine HL.out.mono ?_; rintro e w5 ⟨rfl, b5⟩)
        go_ret
        exact ⟨rfl, B1.out.trans ((HW.out.trans (b5.mono HW.out.size)).mono z1)⟩
      · have i1 : ¬ ((k : Int) < (N : Int)) := by omega
        go_wp2_with (go_at_call 17; refine HL.out.mono ?_; rintro e w5 ⟨rfl, b5⟩)
        go_ret
        exact ⟨rfl, B1.out.trans ((HW.out.trans (b5.mono HW.out.size)).mono z1)⟩
end Go.Proofs.Ytmblkojilckobaa
