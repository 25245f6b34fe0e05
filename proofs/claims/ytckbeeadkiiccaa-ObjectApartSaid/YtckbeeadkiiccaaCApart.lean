/- ObjectApart, for every object and every object: the call returns true, and the arguments read as they did. No condition. -/
import Derived.Test.YtckbeeadkiiccaaCAwake
import Derived.Test.YtckbeeadkiiccaaCEnc
import Derived.Test.YtckbeeadkiiccaaCSameC
import Derived.Test.YtckbeeadkiiccaaCBaseD
import Derived.Deep.RegionHeld3
import Derived.Test.YtckbeeadkiiccaaCOpen
import Derived.ChangeMaps5
namespace Go.Proofs.Ytckbeeadkiiccaa
open Go.RowKit
set_option maxRecDepth 100000 in
set_option maxHeartbeats 16000000 in
theorem apart_any (F : Nat → Prop) (o : ObjR) (dv ev uv : Value) (G : Nat → Prop) (p : ObjR) (dv' ev' uv' : Value) (w : World) (h : ObjIn w F o dv ev uv) (hf : ObjFits o) (h' : ObjIn w G p dv' ev' uv') (_ : ObjFits p) :
    Calls Try.prog 6 #[objV o dv ev uv, objV p dv' ev' uv'] w fun e w' => e = .returned (.bool true) ∧ Below w.heap.size w w' := by
  have heo := fun (W : World) (hb : Below w.heap.size w W) => encode_any F o dv ev uv W (h.turn (Turn.of_below (fun _ => False) hb) (fun _ _ h => h))
  have hep := fun (W : World) (hb : Below w.heap.size w W) => encode_any G p dv' ev' uv' W (h'.turn (Turn.of_below (fun _ => False) hb) (fun _ _ h => h))
  have hsm := fun (W : World) (hb : Below w.heap.size w W) => refSame_any F G o p dv ev uv dv' ev' uv' W (h.turn (Turn.of_below (fun _ => False) hb) (fun _ _ h => h)) (h'.turn (Turn.of_below (fun _ => False) hb) (fun _ _ h => h)) hf.ents hf.ups
  obtain ⟨a1, ac1, _, _, rfl, _, _⟩ := h.data
  obtain ⟨a2, ac2, _, _, rfl, _⟩ := h.ents
  obtain ⟨a3, ac3, _, _, rfl, _⟩ := h.ups
  obtain ⟨b1, bc1, _, _, rfl, _, _⟩ := h'.data
  obtain ⟨b2, bc2, _, _, rfl, _⟩ := h'.ents
  obtain ⟨b3, bc3, _, _, rfl, _⟩ := h'.ups
  unfold objV at heo hep hsm ⊢
  obtain ⟨n1, hn1⟩ : ∃ n, n = o.data.length := ⟨_, rfl⟩
  obtain ⟨n2, hn2⟩ : ∃ n, n = o.ents.length := ⟨_, rfl⟩
  obtain ⟨n3, hn3⟩ : ∃ n, n = o.ups.length := ⟨_, rfl⟩
  obtain ⟨m1, hm1⟩ : ∃ n, n = p.data.length := ⟨_, rfl⟩
  obtain ⟨m2, hm2⟩ : ∃ n, n = p.ents.length := ⟨_, rfl⟩
  obtain ⟨m3, hm3⟩ : ∃ n, n = p.ups.length := ⟨_, rfl⟩
  obtain ⟨K, hK⟩ : ∃ k, k = o.kind := ⟨_, rfl⟩
  obtain ⟨M, hM⟩ : ∃ k, k = p.kind := ⟨_, rfl⟩
  rw [← hn1, ← hn2, ← hn3, ← hK] at heo
  rw [← hm1, ← hm2, ← hm3, ← hM] at hep
  rw [← hn1, ← hn2, ← hn3, ← hK, ← hm1, ← hm2, ← hm3, ← hM] at hsm ⊢
  clear hn1 hn2 hn3 hm1 hm2 hm3 hK hM h h' hf
  obtain ⟨W1, hW1⟩ : ∃ W1, W1 = (w.alloc (.cells #[.int .i64 K, .slice a1 n1 ac1, .slice a2 n2 ac2, .string (SL o.tree), .slice a3 n3 ac3, .string (SL o.target), .string (SL o.name), .string (SL o.who), .int .i64 o.stamp, .string (SL o.text)] 26)).alloc (.cells #[.int .i64 M, .slice b1 m1 bc1, .slice b2 m2 bc2, .string (SL p.tree), .slice b3 m3 bc3, .string (SL p.target), .string (SL p.name), .string (SL p.who), .int .i64 p.stamp, .string (SL p.text)] 26) := ⟨_, rfl⟩
  have hbl : Below w.heap.size w W1 := by rw [hW1]; exact ((Below.refl w.heap.size w).alloc (Nat.le_refl _) _).alloc (by simp) _
  have hr1 : W1.heap[w.heap.size]? = some (.cells #[.int .i64 K, .slice a1 n1 ac1, .slice a2 n2 ac2, .string (SL o.tree), .slice a3 n3 ac3, .string (SL o.target), .string (SL o.name), .string (SL o.who), .int .i64 o.stamp, .string (SL o.text)] 26 (0, 0)) := by
    rw [hW1, Below.heap_alloc _ _ _ (by simp)]
    exact heap_alloc_new w _
  have hr2 : W1.heap[w.heap.size + 1]? = some (.cells #[.int .i64 M, .slice b1 m1 bc1, .slice b2 m2 bc2, .string (SL p.tree), .slice b3 m3 bc3, .string (SL p.target), .string (SL p.name), .string (SL p.who), .int .i64 p.stamp, .string (SL p.text)] 26 (0, 0)) := by
    have := heap_alloc_new (w.alloc (.cells #[.int .i64 K, .slice a1 n1 ac1, .slice a2 n2 ac2, .string (SL o.tree), .slice a3 n3 ac3, .string (SL o.target), .string (SL o.name), .string (SL o.who), .int .i64 o.stamp, .string (SL o.text)] 26)) (.cells #[.int .i64 M, .slice b1 m1 bc1, .slice b2 m2 bc2, .string (SL p.tree), .slice b3 m3 bc3, .string (SL p.target), .string (SL p.name), .string (SL p.who), .int .i64 p.stamp, .string (SL p.text)] 26)
    rw [World.size_alloc, ← hW1] at this
    exact this
  have hrow : ∀ W, Below W1.heap.size W1 W → W.cell? ⟨w.heap.size, 0, none⟩ = some (.int .i64 K) ∧ W.cell? ⟨w.heap.size, 1, none⟩ = some (.slice a1 n1 ac1) ∧ W.cell? ⟨w.heap.size, 2, none⟩ = some (.slice a2 n2 ac2) ∧ W.cell? ⟨w.heap.size, 3, none⟩ = some (.string (SL o.tree)) ∧ W.cell? ⟨w.heap.size, 4, none⟩ = some (.slice a3 n3 ac3) ∧ W.cell? ⟨w.heap.size, 5, none⟩ = some (.string (SL o.target)) ∧ W.cell? ⟨w.heap.size, 6, none⟩ = some (.string (SL o.name)) ∧ W.cell? ⟨w.heap.size, 7, none⟩ = some (.string (SL o.who)) ∧ W.cell? ⟨w.heap.size, 8, none⟩ = some (.int .i64 o.stamp) ∧ W.cell? ⟨w.heap.size, 9, none⟩ = some (.string (SL o.text)) ∧ W.cell? ⟨w.heap.size + 1, 0, none⟩ = some (.int .i64 M) ∧ W.cell? ⟨w.heap.size + 1, 1, none⟩ = some (.slice b1 m1 bc1) ∧ W.cell? ⟨w.heap.size + 1, 2, none⟩ = some (.slice b2 m2 bc2) ∧ W.cell? ⟨w.heap.size + 1, 3, none⟩ = some (.string (SL p.tree)) ∧ W.cell? ⟨w.heap.size + 1, 4, none⟩ = some (.slice b3 m3 bc3) ∧ W.cell? ⟨w.heap.size + 1, 5, none⟩ = some (.string (SL p.target)) ∧ W.cell? ⟨w.heap.size + 1, 6, none⟩ = some (.string (SL p.name)) ∧ W.cell? ⟨w.heap.size + 1, 7, none⟩ = some (.string (SL p.who)) ∧ W.cell? ⟨w.heap.size + 1, 8, none⟩ = some (.int .i64 p.stamp) ∧ W.cell? ⟨w.heap.size + 1, 9, none⟩ = some (.string (SL p.text)) := fun W hb => by
    obtain ⟨r0, r1, r2, r3, r4, r5, r6, r7, r8, r9⟩ := obj_cells (below_turn hb hr1)
    obtain ⟨q0, q1, q2, q3, q4, q5, q6, q7, q8, q9⟩ := obj_cells (below_turn hb hr2)
    exact ⟨r0, r1, r2, r3, r4, r5, r6, r7, r8, r9, q0, q1, q2, q3, q4, q5, q6, q7, q8, q9⟩
  have HAW := Lib.hid awake_any
  have ROW := Lib.hid hrow
  have HW := Lib.hid hW1
  have BL := Lib.hid hbl
  have UP := Lib.hid (fun W (hb : Below W1.heap.size W1 W) => hbl.trans (hb.mono hbl.size))
  clear hrow hW1 hbl hr1 hr2
  cases ho : okO o with
  | false =>
    have e1 : errO o = 1 := by unfold errO; rw [ho]; rfl
    rw [e1] at heo
    have HO := Lib.hid heo
    have HP := Lib.hid hep
    clear heo hep hsm ho e1
    go_enter Try.func6, Try.ntmps6
    go_wp2_with fail
    rw [← HW.out]
    refine (HAW.out _).mono ?_
    rintro e w2 ⟨rfl, b2⟩
    have BB := Lib.hid b2
    obtain ⟨r0, r1, r2, r3, r4, r5, r6, r7, r8, r9, q0, q1, q2, q3, q4, q5, q6, q7, q8, q9⟩ := ROW.out w2 BB.out
    clear b2
    go_wp2_with fail
    refine (HO.out _ (UP.out _ BB.out)).mono ?_
    rintro e w3 ⟨v3, rfl, o3, b3⟩
    obtain ⟨ae, ce, B3, rfl, s3, _⟩ := OutAt.src o3
    have BB := Lib.hid (BB.out.trans (b3.mono BB.out.size))
    have S3 := Lib.hid s3
    obtain ⟨r0, r1, r2, r3, r4, r5, r6, r7, r8, r9, q0, q1, q2, q3, q4, q5, q6, q7, q8, q9⟩ := ROW.out w3 BB.out
    clear b3 o3 s3
    go_wp2_with fail
    refine (HP.out _ (UP.out _ BB.out)).mono ?_
    rintro e w4 ⟨v4, rfl, o4, b4⟩
    obtain ⟨af, cf, B4, rfl, s4, _⟩ := OutAt.src o4
    have BB := Lib.hid (BB.out.trans (b4.mono BB.out.size))
    have S3 := Lib.hid (S3.out.below b4)
    have S4 := Lib.hid s4
    obtain ⟨r0, r1, r2, r3, r4, r5, r6, r7, r8, r9, q0, q1, q2, q3, q4, q5, q6, q7, q8, q9⟩ := ROW.out w4 BB.out
    clear b4 o4 s4
    go_wp2
    go_ret
    exact ⟨rfl, UP.out _ BB.out⟩
  | true =>
    cases hp : okO p with
    | false =>
      have e1 : errO o = 0 := by unfold errO; rw [ho]; rfl
      have e2 : errO p = 1 := by unfold errO; rw [hp]; rfl
      rw [e1] at heo
      rw [e2] at hep
      have HO := Lib.hid heo
      have HP := Lib.hid hep
      clear heo hep hsm ho hp e1 e2
      go_enter Try.func6, Try.ntmps6
      go_wp2_with fail
      rw [← HW.out]
      refine (HAW.out _).mono ?_
      rintro e w2 ⟨rfl, b2⟩
      have BB := Lib.hid b2
      obtain ⟨r0, r1, r2, r3, r4, r5, r6, r7, r8, r9, q0, q1, q2, q3, q4, q5, q6, q7, q8, q9⟩ := ROW.out w2 BB.out
      clear b2
      go_wp2_with fail
      refine (HO.out _ (UP.out _ BB.out)).mono ?_
      rintro e w3 ⟨v3, rfl, o3, b3⟩
      obtain ⟨ae, ce, B3, rfl, s3, _⟩ := OutAt.src o3
      have BB := Lib.hid (BB.out.trans (b3.mono BB.out.size))
      have S3 := Lib.hid s3
      obtain ⟨r0, r1, r2, r3, r4, r5, r6, r7, r8, r9, q0, q1, q2, q3, q4, q5, q6, q7, q8, q9⟩ := ROW.out w3 BB.out
      clear b3 o3 s3
      go_wp2_with fail
      refine (HP.out _ (UP.out _ BB.out)).mono ?_
      rintro e w4 ⟨v4, rfl, o4, b4⟩
      obtain ⟨af, cf, B4, rfl, s4, _⟩ := OutAt.src o4
      have BB := Lib.hid (BB.out.trans (b4.mono BB.out.size))
      have S3 := Lib.hid (S3.out.below b4)
      have S4 := Lib.hid s4
      obtain ⟨r0, r1, r2, r3, r4, r5, r6, r7, r8, r9, q0, q1, q2, q3, q4, q5, q6, q7, q8, q9⟩ := ROW.out w4 BB.out
      clear b4 o4 s4
      go_wp2
      go_ret
      exact ⟨rfl, UP.out _ BB.out⟩
    | true =>
      have e1 : errO o = 0 := by unfold errO; rw [ho]; rfl
      have e2 : errO p = 0 := by unfold errO; rw [hp]; rfl
      have e3 : bytesO o = encO o := by unfold bytesO; rw [ho]; rfl
      have e4 : bytesO p = encO p := by unfold bytesO; rw [hp]; rfl
      rw [e1, e3] at heo
      rw [e2, e4] at hep
      have hiff : encO o = encO p ↔ o = p := ⟨fun h => enc_inj ho hp h, fun h => by rw [h]⟩
      have HI := Lib.hid hiff
      have HO := Lib.hid heo
      have HP := Lib.hid hep
      have HSM := Lib.hid hsm
      clear heo hep hsm ho hp e1 e2 e3 e4 hiff
      go_enter Try.func6, Try.ntmps6
      go_wp2_with fail
      rw [← HW.out]
      refine (HAW.out _).mono ?_
      rintro e w2 ⟨rfl, b2⟩
      have BB := Lib.hid b2
      obtain ⟨r0, r1, r2, r3, r4, r5, r6, r7, r8, r9, q0, q1, q2, q3, q4, q5, q6, q7, q8, q9⟩ := ROW.out w2 BB.out
      clear b2
      go_wp2_with fail
      refine (HO.out _ (UP.out _ BB.out)).mono ?_
      rintro e w3 ⟨v3, rfl, o3, b3⟩
      obtain ⟨ae, ce, B3, rfl, s3, _⟩ := OutAt.src o3
      have BB := Lib.hid (BB.out.trans (b3.mono BB.out.size))
      have S3 := Lib.hid s3
      obtain ⟨r0, r1, r2, r3, r4, r5, r6, r7, r8, r9, q0, q1, q2, q3, q4, q5, q6, q7, q8, q9⟩ := ROW.out w3 BB.out
      clear b3 o3 s3
      go_wp2_with fail
      refine (HP.out _ (UP.out _ BB.out)).mono ?_
      rintro e w4 ⟨v4, rfl, o4, b4⟩
      obtain ⟨af, cf, B4, rfl, s4, _⟩ := OutAt.src o4
      have BB := Lib.hid (BB.out.trans (b4.mono BB.out.size))
      have S3 := Lib.hid (S3.out.below b4)
      have S4 := Lib.hid s4
      obtain ⟨r0, r1, r2, r3, r4, r5, r6, r7, r8, r9, q0, q1, q2, q3, q4, q5, q6, q7, q8, q9⟩ := ROW.out w4 BB.out
      clear b4 o4 s4
      have hs := same_any w4 S3.out S4.out
      have hs2 := fun (W : World) (hb : Below W1.heap.size W1 W) => HSM.out W (UP.out W hb)
      by_cases hop : o = p
      · have hb : decide (encO o = encO p) = true := decide_eq_true (HI.out.2 hop)
        rw [hb] at hs
        have hs3 := fun (W : World) (hb : Below W1.heap.size W1 W) => (hs2 W hb).mono (R' := fun e w' => e = .returned (.bool true) ∧ Below W.heap.size W w') (by rintro e w' ⟨x, he, hx, hbw⟩; refine ⟨?_, hbw⟩; rw [he]; cases x with | true => rfl | false => exact absurd (hx.2 hop) (by simp))
        have hs := fun (W : World) (b : Below w4.heap.size w4 W) => same_any W (S3.out.below b) (S4.out.below b)
        simp only [hb] at hs
        have HS := Lib.hid hs
        have HS3 := Lib.hid hs3
        have B4 := Lib.hid (Below.refl w4.heap.size w4)
        clear hs hs2 hs3 hb hop
        go_wp2_with fail
        have BB := Lib.hid BB.out.drew
        have B4 := Lib.hid B4.out.drew
        first
          | go_region_held3 (fun W => W.cell? ⟨w.heap.size, 0, none⟩ = some (.int .i64 K) ∧ W.cell? ⟨w.heap.size, 1, none⟩ = some (.slice a1 n1 ac1) ∧ W.cell? ⟨w.heap.size, 2, none⟩ = some (.slice a2 n2 ac2) ∧ W.cell? ⟨w.heap.size, 3, none⟩ = some (.string (SL o.tree)) ∧ W.cell? ⟨w.heap.size, 4, none⟩ = some (.slice a3 n3 ac3) ∧ W.cell? ⟨w.heap.size, 5, none⟩ = some (.string (SL o.target)) ∧ W.cell? ⟨w.heap.size, 6, none⟩ = some (.string (SL o.name)) ∧ W.cell? ⟨w.heap.size, 7, none⟩ = some (.string (SL o.who)) ∧ W.cell? ⟨w.heap.size, 8, none⟩ = some (.int .i64 o.stamp) ∧ W.cell? ⟨w.heap.size, 9, none⟩ = some (.string (SL o.text)) ∧ W.cell? ⟨w.heap.size + 1, 0, none⟩ = some (.int .i64 M) ∧ W.cell? ⟨w.heap.size + 1, 1, none⟩ = some (.slice b1 m1 bc1) ∧ W.cell? ⟨w.heap.size + 1, 2, none⟩ = some (.slice b2 m2 bc2) ∧ W.cell? ⟨w.heap.size + 1, 3, none⟩ = some (.string (SL p.tree)) ∧ W.cell? ⟨w.heap.size + 1, 4, none⟩ = some (.slice b3 m3 bc3) ∧ W.cell? ⟨w.heap.size + 1, 5, none⟩ = some (.string (SL p.target)) ∧ W.cell? ⟨w.heap.size + 1, 6, none⟩ = some (.string (SL p.name)) ∧ W.cell? ⟨w.heap.size + 1, 7, none⟩ = some (.string (SL p.who)) ∧ W.cell? ⟨w.heap.size + 1, 8, none⟩ = some (.int .i64 p.stamp) ∧ W.cell? ⟨w.heap.size + 1, 9, none⟩ = some (.string (SL p.text))) (first | exact ROW.out _ BB.out) ((first
            | (go_at_call 17; refine (HS.out _ B4.out).mono ?_; rintro e w7 ⟨rfl, rfl⟩)
            | (go_at_call 24; refine (HS3.out _ BB.out).mono ?_; rintro e w8 ⟨rfl, b8⟩; have B4 := Lib.hid (B4.out.trans (b8.mono B4.out.size)); have BB := Lib.hid (BB.out.trans (b8.mono BB.out.size)); clear b8)))
          | fail "held"
        all_goals (go_wp2; go_ret; exact ⟨by simp, UP.out _ BB.out⟩)
      · have hb : decide (encO o = encO p) = false := decide_eq_false (fun h => hop (HI.out.1 h))
        rw [hb] at hs
        have hs3 := fun (W : World) (hb : Below W1.heap.size W1 W) => (hs2 W hb).mono (R' := fun e w' => e = .returned (.bool false) ∧ Below W.heap.size W w') (by rintro e w' ⟨x, he, hx, hbw⟩; refine ⟨?_, hbw⟩; rw [he]; cases x with | true => exact absurd (hx.1 rfl) hop | false => rfl)
        have hs := fun (W : World) (b : Below w4.heap.size w4 W) => same_any W (S3.out.below b) (S4.out.below b)
        simp only [hb] at hs
        have HS := Lib.hid hs
        have HS3 := Lib.hid hs3
        have B4 := Lib.hid (Below.refl w4.heap.size w4)
        clear hs hs2 hs3 hb hop
        go_wp2_with fail
        have BB := Lib.hid BB.out.drew
        have B4 := Lib.hid B4.out.drew
        first
          | go_region_held3 (fun W => W.cell? ⟨w.heap.size, 0, none⟩ = some (.int .i64 K) ∧ W.cell? ⟨w.heap.size, 1, none⟩ = some (.slice a1 n1 ac1) ∧ W.cell? ⟨w.heap.size, 2, none⟩ = some (.slice a2 n2 ac2) ∧ W.cell? ⟨w.heap.size, 3, none⟩ = some (.string (SL o.tree)) ∧ W.cell? ⟨w.heap.size, 4, none⟩ = some (.slice a3 n3 ac3) ∧ W.cell? ⟨w.heap.size, 5, none⟩ = some (.string (SL o.target)) ∧ W.cell? ⟨w.heap.size, 6, none⟩ = some (.string (SL o.name)) ∧ W.cell? ⟨w.heap.size, 7, none⟩ = some (.string (SL o.who)) ∧ W.cell? ⟨w.heap.size, 8, none⟩ = some (.int .i64 o.stamp) ∧ W.cell? ⟨w.heap.size, 9, none⟩ = some (.string (SL o.text)) ∧ W.cell? ⟨w.heap.size + 1, 0, none⟩ = some (.int .i64 M) ∧ W.cell? ⟨w.heap.size + 1, 1, none⟩ = some (.slice b1 m1 bc1) ∧ W.cell? ⟨w.heap.size + 1, 2, none⟩ = some (.slice b2 m2 bc2) ∧ W.cell? ⟨w.heap.size + 1, 3, none⟩ = some (.string (SL p.tree)) ∧ W.cell? ⟨w.heap.size + 1, 4, none⟩ = some (.slice b3 m3 bc3) ∧ W.cell? ⟨w.heap.size + 1, 5, none⟩ = some (.string (SL p.target)) ∧ W.cell? ⟨w.heap.size + 1, 6, none⟩ = some (.string (SL p.name)) ∧ W.cell? ⟨w.heap.size + 1, 7, none⟩ = some (.string (SL p.who)) ∧ W.cell? ⟨w.heap.size + 1, 8, none⟩ = some (.int .i64 p.stamp) ∧ W.cell? ⟨w.heap.size + 1, 9, none⟩ = some (.string (SL p.text))) (first | exact ROW.out _ BB.out) ((first
            | (go_at_call 17; refine (HS.out _ B4.out).mono ?_; rintro e w7 ⟨rfl, rfl⟩)
            | (go_at_call 24; refine (HS3.out _ BB.out).mono ?_; rintro e w8 ⟨rfl, b8⟩; have B4 := Lib.hid (B4.out.trans (b8.mono B4.out.size)); have BB := Lib.hid (BB.out.trans (b8.mono BB.out.size)); clear b8)))
          | fail "held"
        all_goals (go_wp2; go_ret; exact ⟨by simp, UP.out _ BB.out⟩)
end Go.Proofs.Ytckbeeadkiiccaa
namespace Go.Proofs.Ytckbeeadkiiccaa
open Go.ChangeShapes Go.WideShapes Go.ChangeAt Go.RowKit
set_option maxRecDepth 100000 in
theorem objectApart_lifted (os : Os) (started : os.Started) (H : Type) (enc : TypeId × Value → H) :
    ReturnsInHanded {} Try.checked os 6 .any (Rows.objectApartSpec.pre6 enc Try.prog Try.f6 Rows.objectApartRow.domain false) (Rows.objectApartSpec.post enc Try.prog Try.f6 false true false false) := by
  refine returnsInHanded_of_change_sized (C := Try.checked) Try.own started (by kernel_rfl) Try.func6
    (ChangeSpec.witness6 (enc := enc) (C := Try.checked) false ⟨#[], #[.agg #[.int .i64 0, .slice none 0 0, .slice none 0 0, .string .empty, .slice none 0 0, .string .empty, .string .empty, .string .empty, .int .i64 0, .string .empty], .agg #[.int .i64 0, .slice none 0 0, .slice none 0 0, .string .empty, .slice none 0 0, .string .empty, .string .empty, .string .empty, .int .i64 0, .string .empty]], []⟩ 8 (by kernel_rfl) (by kernel_rfl) (by kernel_rfl) (by kernel_rfl)) ?_
  intro W base args ds gs before hval0 hW hcnd hsz0 _
  clear hsz0
  have hval : ∀ (j : Nat) t v, Try.f6.params[j]? = some t → args[j]? = some v → Value.okWide Try.prog W .any base t v := hval0
  have hW' := hW
  obtain ⟨p, q, hA0, hV, rfl, hfz, hnd⟩ := hW
  have hA : DataW.TrodAll enc Try.prog W 0 (fun _ => true) true Try.f6.params.toList args.toList ds p := hA0
  rw [Try.params6] at hA hval
  obtain ⟨v0, v1, d0, d1, p0, p1, hargs0, rfl, rfl, h0, h1⟩ := trodAll_two hA
  obtain rfl : args = #[v0, v1] := by cases args; simp_all
  obtain ⟨rfl, rfl⟩ := trodVars_none hV
  simp only [List.append_nil] at hW'
  have hlt0 : ∀ x ∈ p0, x.block < W.heap.size := fun x hx => by simpa using hW'.lt x (by simp [hx])
  have a0 : ∀ (W' : World), Below W.heap.size W W' → DataW.Trod enc Try.prog W' 0 (fun b => decide (b < W.heap.size)) true 26 v0 d0 p0 :=
    fun W' hn => Below.trod Try.laidOut (by kernel_rfl) (of_decide_eq_true (by kernel_rfl)) h0 hn hlt0
  obtain ⟨o0, dv0, ev0, uv0, rfl, hin0, hft0⟩ := open_object (hval 0 26 v0 rfl rfl) h0 hlt0
  have hlt1 : ∀ x ∈ p1, x.block < W.heap.size := fun x hx => by simpa using hW'.lt x (by simp [hx])
  have a1 : ∀ (W' : World), Below W.heap.size W W' → DataW.Trod enc Try.prog W' 0 (fun b => decide (b < W.heap.size)) true 26 v1 d1 p1 :=
    fun W' hn => Below.trod Try.laidOut (by kernel_rfl) (of_decide_eq_true (by kernel_rfl)) h1 hn hlt1
  obtain ⟨o1, dv1, ev1, uv1, rfl, hin1, hft1⟩ := open_object (hval 1 26 v1 rfl rfl) h1 hlt1
  clear hA0 hval0
  have hlaw := apart_any (fun k => k < W.heap.size) o0 dv0 ev0 uv0 (fun k => k < W.heap.size) o1 dv1 ev1 uv1 W hin0 hft0 hin1 hft1
  refine hlaw.mono fun e W' ⟨he, hb⟩ => ?_
  subst he
  exact ⟨_, rfl, _, _, _, [], _, [], hW', trodAll_mk1 (shut_bool Try.underlying4 _), trodAll_mk2 (a0 _ hb) (a1 _ hb), rfl, hb.frame _, fun h => by cases h⟩

theorem objectApart_holds : Rows.ObjectApartSaid :=
  OpenClaim.holds_of_wide 6 Try.f6 rfl rfl rfl rfl rfl rfl rfl ⟨rfl, rfl, rfl, rfl, rfl⟩ rfl rfl rfl rfl rfl (by kernel_rfl) Try.func6 (by kernel_rfl)
    (of_decide_eq_true (by kernel_rfl)) (by unfold Func.isWrapper; first | (rw [if_pos (by decide +kernel)]; kernel_rfl) | (rw [if_neg (by decide +kernel)]; exact ⟨rfl, rfl⟩))
    (fun os started H enc _ => objectApart_lifted os started H enc)
#print axioms objectApart_holds
end Go.Proofs.Ytckbeeadkiiccaa
