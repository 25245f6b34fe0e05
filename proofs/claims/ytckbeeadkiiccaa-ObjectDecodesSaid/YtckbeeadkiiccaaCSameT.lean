/- The document's Same of two objects that are one. Written by wip/tools/mk_same2.py. -/
import Derived.Test.YtckbeeadkiiccaaCRefA
import Derived.Test.YtckbeeadkiiccaaCRefB
namespace Go.Proofs.Ytckbeeadkiiccaa
open Go.RowKit
set_option maxRecDepth 100000 in
set_option maxHeartbeats 8000000 in
theorem refSame_eq (F G : Nat → Prop) (o : ObjR) (dv ev uv dv' ev' uv' : Value) (w : World) (h : ObjIn w F o dv ev uv) (h' : ObjIn w G o dv' ev' uv') (hl2 : o.ents.length ≤ 9223372036854775807) (hl3 : o.ups.length ≤ 9223372036854775807) :
    Calls Try.prog 24 #[objV o dv ev uv, objV o dv' ev' uv'] w fun e w' => e = .returned (.bool true) ∧ Below w.heap.size w w' := by
  have hups := fun (W : World) (hb : Below w.heap.size w W) => refSameTexts_any F G uv uv' o.ups o.ups W (h.ups.turn (Turn.of_below (fun _ => False) hb) (fun _ _ h => h)) (h'.ups.turn (Turn.of_below (fun _ => False) hb) (fun _ _ h => h)) hl3
  rw [show decide (o.ups = o.ups) = true from decide_eq_true rfl] at hups
  have hd1 := fun (W : World) (hb : Below w.heap.size w W) => (h.data.turn (Turn.of_below (fun _ => False) hb) (fun _ _ h => h)).text
  have hd2 := fun (W : World) (hb : Below w.heap.size w W) => (h'.data.turn (Turn.of_below (fun _ => False) hb) (fun _ _ h => h)).text
  obtain ⟨a1, c1, B1, o1, rfl, _, _⟩ := h.data
  obtain ⟨a2, c2, g2, o2, rfl, hs2⟩ := h.ents
  obtain ⟨a3, c3, g3, o3, rfl, _⟩ := h.ups
  obtain ⟨b1, d1, B1', p1, rfl, _, _⟩ := h'.data
  obtain ⟨b2, d2, g2', p2, rfl, hs2'⟩ := h'.ents
  obtain ⟨b3, d3, g3', p3, rfl, _⟩ := h'.ups
  unfold objV
  obtain ⟨D, hD⟩ : ∃ t, t = o.data := ⟨_, rfl⟩
  obtain ⟨T1, hT1⟩ : ∃ t, t = o.tree := ⟨_, rfl⟩
  obtain ⟨T2, hT2⟩ : ∃ t, t = o.target := ⟨_, rfl⟩
  obtain ⟨T3, hT3⟩ : ∃ t, t = o.name := ⟨_, rfl⟩
  obtain ⟨T4, hT4⟩ : ∃ t, t = o.who := ⟨_, rfl⟩
  obtain ⟨T5, hT5⟩ : ∃ t, t = o.text := ⟨_, rfl⟩
  obtain ⟨K, hK⟩ : ∃ t, t = o.kind := ⟨_, rfl⟩
  obtain ⟨z, hz⟩ : ∃ t, t = o.stamp := ⟨_, rfl⟩
  obtain ⟨L, hL⟩ : ∃ t, t = o.ents := ⟨_, rfl⟩
  obtain ⟨n1, hn1⟩ : ∃ t, t = o.data.length := ⟨_, rfl⟩
  obtain ⟨n2, hn2⟩ : ∃ t, t = o.ents.length := ⟨_, rfl⟩
  obtain ⟨n3, hn3⟩ : ∃ t, t = o.ups.length := ⟨_, rfl⟩
  rw [← hn3] at hups
  rw [← hn1, ← hD] at hd1 hd2
  rw [← hn2, ← hL] at hs2 hs2'
  rw [← hn2] at hl2
  rw [← hn1, ← hn2, ← hn3, ← hT1, ← hT2, ← hT3, ← hT4, ← hT5, ← hK, ← hz]
  obtain ⟨W1, hW1⟩ : ∃ W1, W1 = (w.alloc (.cells #[.int .i64 K, .slice a1 n1 c1, .slice a2 n2 c2, .string (SL T1), .slice a3 n3 c3, .string (SL T2), .string (SL T3), .string (SL T4), .int .i64 z, .string (SL T5)] 26)).alloc (.cells #[.int .i64 K, .slice b1 n1 d1, .slice b2 n2 d2, .string (SL T1), .slice b3 n3 d3, .string (SL T2), .string (SL T3), .string (SL T4), .int .i64 z, .string (SL T5)] 26) := ⟨_, rfl⟩
  have hbl : Below w.heap.size w W1 := by rw [hW1]; exact ((Below.refl w.heap.size w).alloc (Nat.le_refl _) _).alloc (by simp) _
  have hr1 : W1.heap[w.heap.size]? = some (.cells #[.int .i64 K, .slice a1 n1 c1, .slice a2 n2 c2, .string (SL T1), .slice a3 n3 c3, .string (SL T2), .string (SL T3), .string (SL T4), .int .i64 z, .string (SL T5)] 26 (0, 0)) := by
    rw [hW1, Below.heap_alloc _ _ _ (by simp)]
    exact heap_alloc_new w _
  have hr2 : W1.heap[w.heap.size + 1]? = some (.cells #[.int .i64 K, .slice b1 n1 d1, .slice b2 n2 d2, .string (SL T1), .slice b3 n3 d3, .string (SL T2), .string (SL T3), .string (SL T4), .int .i64 z, .string (SL T5)] 26 (0, 0)) := by
    have := heap_alloc_new (w.alloc (.cells #[.int .i64 K, .slice a1 n1 c1, .slice a2 n2 c2, .string (SL T1), .slice a3 n3 c3, .string (SL T2), .string (SL T3), .string (SL T4), .int .i64 z, .string (SL T5)] 26)) (.cells #[.int .i64 K, .slice b1 n1 d1, .slice b2 n2 d2, .string (SL T1), .slice b3 n3 d3, .string (SL T2), .string (SL T3), .string (SL T4), .int .i64 z, .string (SL T5)] 26)
    rw [World.size_alloc, ← hW1] at this
    exact this
  have hlen : n2 = L.length := by rw [hn2, hL]
  obtain ⟨r0, r1, r2, r3, r4, r5, r6, r7, r8, r9⟩ := obj_cells hr1
  obtain ⟨q0, q1, q2, q3, q4, q5, q6, q7, q8, q9⟩ := obj_cells hr2
  have hcv1 := hd1 W1 hbl
  have hcv2 := hd2 W1 hbl
  have E1 := Lib.hid (hs2.turn (Turn.of_below (fun _ => False) hbl) (fun _ _ h => h))
  have E2 := Lib.hid (hs2'.turn (Turn.of_below (fun _ => False) hbl) (fun _ _ h => h))
  have HU := Lib.hid (hups W1 hbl)
  have HW := Lib.hid hW1
  have BL := Lib.hid hbl
  have HL := Lib.hid hlen
  have L1 := SL_toList D
  have M1 := SL_toList T1
  have M2 := SL_toList T2
  have M3 := SL_toList T3
  have M4 := SL_toList T4
  have M5 := SL_toList T5
  clear hups hd1 hd2 hs2 hs2' hr1 hr2 hbl hW1 h h' hD hT1 hT2 hT3 hT4 hT5 hK hz hL hn1 hn2 hn3 hlen hl3
  go_enter Try.func24, Try.ntmps24
  go_wp2_with fail
  rw [← HW.out, hcv1]
  go_wp2_with (go_at_call 19; refine HU.out.mono ?_; rintro e _ ⟨rfl, m1, rfl⟩)
  go_loopw [5] (fun i W => ∃ (k j : Nat), i = .int .i64 (k : Int) ∧ k ≤ n2 ∧ W = W1.drewN j) (fun i _ => n2 - (intOf i).toNat)
  case atStart => exact ⟨0, m1, rfl, Nat.zero_le _, rfl⟩
  case round =>
    obtain ⟨k, j, rfl, hk, rfl⟩ := hrel
    by_cases hlt : k < n2
    · have i0 : (0 : Int) ≤ (k : Int) := by omega
      have i1 : (k : Int) < (n2 : Int) := by omega
      obtain ⟨e, he⟩ : ∃ e, L[k]? = some e := ⟨_, List.getElem?_eq_getElem (by rw [← HL.out]; exact hlt)⟩
      obtain ⟨rfl, x0, x1, x2⟩ := E1.out.entry he hlt
      obtain ⟨rfl, y0, y1, y2⟩ := E2.out.entry he hlt
      have ln := SL_toList e.nm
      have li := SL_toList e.id
      clear he hcv1 hcv2 L1 M1 M2 M3 M4 M5
      go_wp2
      go_quiet (fail)
      go_wp2
      go_roundw
      case rel => exact ⟨k + 1, _, by go_num, by omega, rfl⟩
      case measure => simp [intOf]; omega
    · obtain rfl : k = n2 := by omega
      have i1 : ¬ (k : Int) < (k : Int) := by omega
      go_wp2
      go_ret
      exact ⟨rfl, below_drewN BL.out _⟩
end Go.Proofs.Ytckbeeadkiiccaa
