/- The document's Same of two objects that are not one: its kind, its data, its ents. Written by wip/tools/mk_same3.py. The document's Same of two objects that are not one: its tree, its ups, its target. Written by wip/tools/mk_same3.py. -/
import Derived.Test.YtckbeeadkiiccaaCRefA
import Derived.Test.YtckbeeadkiiccaaCRefB
namespace Go.Proofs.Ytckbeeadkiiccaa
open Go.RowKit
set_option maxRecDepth 100000 in
set_option maxHeartbeats 8000000 in
theorem refSame_0 (F G : Nat → Prop) (o p : ObjR) (dv ev uv dv' ev' uv' : Value) (w : World) (h : ObjIn w F o dv ev uv) (h' : ObjIn w G p dv' ev' uv')  (hne : ¬ o.kind = p.kind) :
    Calls Try.prog 24 #[objV o dv ev uv, objV p dv' ev' uv'] w fun e w' => e = .returned (.bool false) ∧ Below w.heap.size w w' := by
  obtain ⟨K, D, L, T1, U, T2, T3, T4, z, T5⟩ := o
  obtain ⟨K', D', L', T1', U', T2', T3', T4', z', T5'⟩ := p
  simp only at hne
  have hd : BytesAt w F dv D := h.data
  have hd' : BytesAt w G dv' D' := h'.data
  have he : EntsAt w F ev L := h.ents
  have he' : EntsAt w G ev' L' := h'.ents
  have hu : TextsAt w F uv U := h.ups
  have hu' : TextsAt w G uv' U' := h'.ups
  obtain ⟨a1, ac1, _, _, rfl, _, _⟩ := hd
  obtain ⟨a2, ac2, g2, o2, rfl, hs2⟩ := he
  obtain ⟨a3, ac3, _, _, rfl, _⟩ := hu
  obtain ⟨b1, bc1, _, _, rfl, _, _⟩ := hd'
  obtain ⟨b2, bc2, g2', p2, rfl, hs2'⟩ := he'
  obtain ⟨b3, bc3, _, _, rfl, _⟩ := hu'
  unfold objV
  clear h h'
  obtain ⟨n1, hn1⟩ : ∃ t, t = D.length := ⟨_, rfl⟩
  obtain ⟨n2, hn2⟩ : ∃ t, t = L.length := ⟨_, rfl⟩
  obtain ⟨n3, hn3⟩ : ∃ t, t = U.length := ⟨_, rfl⟩
  obtain ⟨m1, hm1⟩ : ∃ t, t = D'.length := ⟨_, rfl⟩
  obtain ⟨m2, hm2⟩ : ∃ t, t = L'.length := ⟨_, rfl⟩
  obtain ⟨m3, hm3⟩ : ∃ t, t = U'.length := ⟨_, rfl⟩
  rw [← hn1, ← hn2, ← hn3, ← hm1, ← hm2, ← hm3]
  obtain ⟨W1, hW1⟩ : ∃ W1, W1 = (w.alloc (.cells #[.int .i64 K, .slice a1 n1 ac1, .slice a2 n2 ac2, .string (SL T1), .slice a3 n3 ac3, .string (SL T2), .string (SL T3), .string (SL T4), .int .i64 z, .string (SL T5)] 26)).alloc (.cells #[.int .i64 K', .slice b1 m1 bc1, .slice b2 m2 bc2, .string (SL T1'), .slice b3 m3 bc3, .string (SL T2'), .string (SL T3'), .string (SL T4'), .int .i64 z', .string (SL T5')] 26) := ⟨_, rfl⟩
  have hbl : Below w.heap.size w W1 := by rw [hW1]; exact ((Below.refl w.heap.size w).alloc (Nat.le_refl _) _).alloc (by simp) _
  have HW := Lib.hid hW1
  have BL := Lib.hid hbl
  have hq : (K == K') = false := by simpa using hne
  have hq2 : (K != K') = true := by simpa using hne
  clear hW1 hbl hn1 hn2 hn3 hs2 hs2' hm1 hm2 hm3 hne
  go_enter Try.func24, Try.ntmps24
  go_wp2
  go_ret
  exact ⟨rfl, by rw [← HW.out]; exact BL.out⟩
set_option maxRecDepth 100000 in
set_option maxHeartbeats 8000000 in
theorem refSame_1 (F G : Nat → Prop) (o p : ObjR) (dv ev uv dv' ev' uv' : Value) (w : World) (h : ObjIn w F o dv ev uv) (h' : ObjIn w G p dv' ev' uv') (e0 : o.kind = p.kind) (hne : ¬ o.data = p.data) :
    Calls Try.prog 24 #[objV o dv ev uv, objV p dv' ev' uv'] w fun e w' => e = .returned (.bool false) ∧ Below w.heap.size w w' := by
  obtain ⟨K, D, L, T1, U, T2, T3, T4, z, T5⟩ := o
  obtain ⟨K', D', L', T1', U', T2', T3', T4', z', T5'⟩ := p
  simp only at hne e0
  subst e0
  have hd : BytesAt w F dv D := h.data
  have hd' : BytesAt w G dv' D' := h'.data
  have he : EntsAt w F ev L := h.ents
  have he' : EntsAt w G ev' L' := h'.ents
  have hu : TextsAt w F uv U := h.ups
  have hu' : TextsAt w G uv' U' := h'.ups
  have hd1 := fun (W : World) (hb : Below w.heap.size w W) => (hd.turn (Turn.of_below (fun _ => False) hb) (fun _ _ h => h)).text
  have hd2 := fun (W : World) (hb : Below w.heap.size w W) => (hd'.turn (Turn.of_below (fun _ => False) hb) (fun _ _ h => h)).text
  obtain ⟨a1, ac1, _, _, rfl, _, _⟩ := hd
  obtain ⟨a2, ac2, g2, o2, rfl, hs2⟩ := he
  obtain ⟨a3, ac3, _, _, rfl, _⟩ := hu
  obtain ⟨b1, bc1, _, _, rfl, _, _⟩ := hd'
  obtain ⟨b2, bc2, g2', p2, rfl, hs2'⟩ := he'
  obtain ⟨b3, bc3, _, _, rfl, _⟩ := hu'
  unfold objV
  clear h h'
  obtain ⟨n1, hn1⟩ : ∃ t, t = D.length := ⟨_, rfl⟩
  obtain ⟨n2, hn2⟩ : ∃ t, t = L.length := ⟨_, rfl⟩
  obtain ⟨n3, hn3⟩ : ∃ t, t = U.length := ⟨_, rfl⟩
  obtain ⟨m1, hm1⟩ : ∃ t, t = D'.length := ⟨_, rfl⟩
  obtain ⟨m2, hm2⟩ : ∃ t, t = L'.length := ⟨_, rfl⟩
  obtain ⟨m3, hm3⟩ : ∃ t, t = U'.length := ⟨_, rfl⟩
  rw [← hn1] at hd1
  rw [← hm1] at hd2
  rw [← hn1, ← hn2, ← hn3, ← hm1, ← hm2, ← hm3]
  obtain ⟨W1, hW1⟩ : ∃ W1, W1 = (w.alloc (.cells #[.int .i64 K, .slice a1 n1 ac1, .slice a2 n2 ac2, .string (SL T1), .slice a3 n3 ac3, .string (SL T2), .string (SL T3), .string (SL T4), .int .i64 z, .string (SL T5)] 26)).alloc (.cells #[.int .i64 K, .slice b1 m1 bc1, .slice b2 m2 bc2, .string (SL T1'), .slice b3 m3 bc3, .string (SL T2'), .string (SL T3'), .string (SL T4'), .int .i64 z', .string (SL T5')] 26) := ⟨_, rfl⟩
  have hbl : Below w.heap.size w W1 := by rw [hW1]; exact ((Below.refl w.heap.size w).alloc (Nat.le_refl _) _).alloc (by simp) _
  have hr1 : W1.heap[w.heap.size]? = some (.cells #[.int .i64 K, .slice a1 n1 ac1, .slice a2 n2 ac2, .string (SL T1), .slice a3 n3 ac3, .string (SL T2), .string (SL T3), .string (SL T4), .int .i64 z, .string (SL T5)] 26 (0, 0)) := by
    rw [hW1, Below.heap_alloc _ _ _ (by simp)]
    exact heap_alloc_new w _
  have hr2 : W1.heap[w.heap.size + 1]? = some (.cells #[.int .i64 K, .slice b1 m1 bc1, .slice b2 m2 bc2, .string (SL T1'), .slice b3 m3 bc3, .string (SL T2'), .string (SL T3'), .string (SL T4'), .int .i64 z', .string (SL T5')] 26 (0, 0)) := by
    have := heap_alloc_new (w.alloc (.cells #[.int .i64 K, .slice a1 n1 ac1, .slice a2 n2 ac2, .string (SL T1), .slice a3 n3 ac3, .string (SL T2), .string (SL T3), .string (SL T4), .int .i64 z, .string (SL T5)] 26)) (.cells #[.int .i64 K, .slice b1 m1 bc1, .slice b2 m2 bc2, .string (SL T1'), .slice b3 m3 bc3, .string (SL T2'), .string (SL T3'), .string (SL T4'), .int .i64 z', .string (SL T5')] 26)
    rw [World.size_alloc, ← hW1] at this
    exact this
  obtain ⟨r0, r1, r2, r3, r4, r5, r6, r7, r8, r9⟩ := obj_cells hr1
  obtain ⟨q0, q1, q2, q3, q4, q5, q6, q7, q8, q9⟩ := obj_cells hr2
  have hcv1 := hd1 W1 hbl
  have hcv2 := hd2 W1 hbl
  have HW := Lib.hid hW1
  have BL := Lib.hid hbl
  have x1 := SL_toList D
  have y1 := SL_toList D'
  have hq : (D == D') = false := by simpa using hne
  clear hW1 hbl hn1 hn2 hn3 hs2 hs2' hm1 hm2 hm3 hd1 hd2 hr1 hr2 hne
  go_enter Try.func24, Try.ntmps24
  go_wp2_with fail
  rw [← HW.out, hcv1]
  go_wp2
  go_ret
  exact ⟨rfl, BL.out⟩
set_option maxRecDepth 100000 in
set_option maxHeartbeats 8000000 in
theorem refSame_2 (F G : Nat → Prop) (o p : ObjR) (dv ev uv dv' ev' uv' : Value) (w : World) (h : ObjIn w F o dv ev uv) (h' : ObjIn w G p dv' ev' uv') (e0 : o.kind = p.kind) (e1 : o.data = p.data) (hne : ¬ o.ents.length = p.ents.length) :
    Calls Try.prog 24 #[objV o dv ev uv, objV p dv' ev' uv'] w fun e w' => e = .returned (.bool false) ∧ Below w.heap.size w w' := by
  obtain ⟨K, D, L, T1, U, T2, T3, T4, z, T5⟩ := o
  obtain ⟨K', D', L', T1', U', T2', T3', T4', z', T5'⟩ := p
  simp only at hne e0 e1
  subst e0
  subst e1
  have hd : BytesAt w F dv D := h.data
  have hd' : BytesAt w G dv' D := h'.data
  have he : EntsAt w F ev L := h.ents
  have he' : EntsAt w G ev' L' := h'.ents
  have hu : TextsAt w F uv U := h.ups
  have hu' : TextsAt w G uv' U' := h'.ups
  have hd1 := fun (W : World) (hb : Below w.heap.size w W) => (hd.turn (Turn.of_below (fun _ => False) hb) (fun _ _ h => h)).text
  have hd2 := fun (W : World) (hb : Below w.heap.size w W) => (hd'.turn (Turn.of_below (fun _ => False) hb) (fun _ _ h => h)).text
  obtain ⟨a1, ac1, _, _, rfl, _, _⟩ := hd
  obtain ⟨a2, ac2, g2, o2, rfl, hs2⟩ := he
  obtain ⟨a3, ac3, _, _, rfl, _⟩ := hu
  obtain ⟨b1, bc1, _, _, rfl, _, _⟩ := hd'
  obtain ⟨b2, bc2, g2', p2, rfl, hs2'⟩ := he'
  obtain ⟨b3, bc3, _, _, rfl, _⟩ := hu'
  unfold objV
  clear h h'
  obtain ⟨n1, hn1⟩ : ∃ t, t = D.length := ⟨_, rfl⟩
  obtain ⟨n2, hn2⟩ : ∃ t, t = L.length := ⟨_, rfl⟩
  obtain ⟨n3, hn3⟩ : ∃ t, t = U.length := ⟨_, rfl⟩
  obtain ⟨m2, hm2⟩ : ∃ t, t = L'.length := ⟨_, rfl⟩
  obtain ⟨m3, hm3⟩ : ∃ t, t = U'.length := ⟨_, rfl⟩
  rw [← hn1] at hd1
  rw [← hn1] at hd2
  rw [← hn1, ← hn2, ← hn3, ← hm2, ← hm3]
  obtain ⟨W1, hW1⟩ : ∃ W1, W1 = (w.alloc (.cells #[.int .i64 K, .slice a1 n1 ac1, .slice a2 n2 ac2, .string (SL T1), .slice a3 n3 ac3, .string (SL T2), .string (SL T3), .string (SL T4), .int .i64 z, .string (SL T5)] 26)).alloc (.cells #[.int .i64 K, .slice b1 n1 bc1, .slice b2 m2 bc2, .string (SL T1'), .slice b3 m3 bc3, .string (SL T2'), .string (SL T3'), .string (SL T4'), .int .i64 z', .string (SL T5')] 26) := ⟨_, rfl⟩
  have hbl : Below w.heap.size w W1 := by rw [hW1]; exact ((Below.refl w.heap.size w).alloc (Nat.le_refl _) _).alloc (by simp) _
  have hr1 : W1.heap[w.heap.size]? = some (.cells #[.int .i64 K, .slice a1 n1 ac1, .slice a2 n2 ac2, .string (SL T1), .slice a3 n3 ac3, .string (SL T2), .string (SL T3), .string (SL T4), .int .i64 z, .string (SL T5)] 26 (0, 0)) := by
    rw [hW1, Below.heap_alloc _ _ _ (by simp)]
    exact heap_alloc_new w _
  have hr2 : W1.heap[w.heap.size + 1]? = some (.cells #[.int .i64 K, .slice b1 n1 bc1, .slice b2 m2 bc2, .string (SL T1'), .slice b3 m3 bc3, .string (SL T2'), .string (SL T3'), .string (SL T4'), .int .i64 z', .string (SL T5')] 26 (0, 0)) := by
    have := heap_alloc_new (w.alloc (.cells #[.int .i64 K, .slice a1 n1 ac1, .slice a2 n2 ac2, .string (SL T1), .slice a3 n3 ac3, .string (SL T2), .string (SL T3), .string (SL T4), .int .i64 z, .string (SL T5)] 26)) (.cells #[.int .i64 K, .slice b1 n1 bc1, .slice b2 m2 bc2, .string (SL T1'), .slice b3 m3 bc3, .string (SL T2'), .string (SL T3'), .string (SL T4'), .int .i64 z', .string (SL T5')] 26)
    rw [World.size_alloc, ← hW1] at this
    exact this
  obtain ⟨r0, r1, r2, r3, r4, r5, r6, r7, r8, r9⟩ := obj_cells hr1
  obtain ⟨q0, q1, q2, q3, q4, q5, q6, q7, q8, q9⟩ := obj_cells hr2
  have hcv1 := hd1 W1 hbl
  have hcv2 := hd2 W1 hbl
  have HW := Lib.hid hW1
  have BL := Lib.hid hbl
  have x1 := SL_toList D
  have hz : ¬ (n2 : Int) = (m2 : Int) := by omega
  have hq : ((n2 : Int) == (m2 : Int)) = false := by simpa using hz
  have hq2 : ((n2 : Int) != (m2 : Int)) = true := by simpa using hz
  clear hW1 hbl hn1 hn2 hn3 hs2 hs2' hm2 hm3 hd1 hd2 hr1 hr2 hne
  go_enter Try.func24, Try.ntmps24
  go_wp2_with fail
  rw [← HW.out, hcv1]
  go_wp2
  go_ret
  exact ⟨rfl, BL.out⟩
end Go.Proofs.Ytckbeeadkiiccaa
namespace Go.Proofs.Ytckbeeadkiiccaa
open Go.RowKit
set_option maxRecDepth 100000 in
set_option maxHeartbeats 8000000 in
theorem refSame_3 (F G : Nat → Prop) (o p : ObjR) (dv ev uv dv' ev' uv' : Value) (w : World) (h : ObjIn w F o dv ev uv) (h' : ObjIn w G p dv' ev' uv') (e0 : o.kind = p.kind) (e1 : o.data = p.data) (e2 : o.ents.length = p.ents.length) (hne : ¬ o.tree = p.tree) :
    Calls Try.prog 24 #[objV o dv ev uv, objV p dv' ev' uv'] w fun e w' => e = .returned (.bool false) ∧ Below w.heap.size w w' := by
  obtain ⟨K, D, L, T1, U, T2, T3, T4, z, T5⟩ := o
  obtain ⟨K', D', L', T1', U', T2', T3', T4', z', T5'⟩ := p
  simp only at hne e0 e1 e2
  subst e0
  subst e1
  have hd : BytesAt w F dv D := h.data
  have hd' : BytesAt w G dv' D := h'.data
  have he : EntsAt w F ev L := h.ents
  have he' : EntsAt w G ev' L' := h'.ents
  have hu : TextsAt w F uv U := h.ups
  have hu' : TextsAt w G uv' U' := h'.ups
  have hd1 := fun (W : World) (hb : Below w.heap.size w W) => (hd.turn (Turn.of_below (fun _ => False) hb) (fun _ _ h => h)).text
  have hd2 := fun (W : World) (hb : Below w.heap.size w W) => (hd'.turn (Turn.of_below (fun _ => False) hb) (fun _ _ h => h)).text
  obtain ⟨a1, ac1, _, _, rfl, _, _⟩ := hd
  obtain ⟨a2, ac2, g2, o2, rfl, hs2⟩ := he
  obtain ⟨a3, ac3, _, _, rfl, _⟩ := hu
  obtain ⟨b1, bc1, _, _, rfl, _, _⟩ := hd'
  obtain ⟨b2, bc2, g2', p2, rfl, hs2'⟩ := he'
  obtain ⟨b3, bc3, _, _, rfl, _⟩ := hu'
  unfold objV
  clear h h'
  obtain ⟨n1, hn1⟩ : ∃ t, t = D.length := ⟨_, rfl⟩
  obtain ⟨n2, hn2⟩ : ∃ t, t = L.length := ⟨_, rfl⟩
  obtain ⟨n3, hn3⟩ : ∃ t, t = U.length := ⟨_, rfl⟩
  obtain ⟨m3, hm3⟩ : ∃ t, t = U'.length := ⟨_, rfl⟩
  rw [← e2] at hs2' ⊢
  rw [← hn1] at hd1
  rw [← hn1] at hd2
  rw [← hn1, ← hn2, ← hn3, ← hm3]
  obtain ⟨W1, hW1⟩ : ∃ W1, W1 = (w.alloc (.cells #[.int .i64 K, .slice a1 n1 ac1, .slice a2 n2 ac2, .string (SL T1), .slice a3 n3 ac3, .string (SL T2), .string (SL T3), .string (SL T4), .int .i64 z, .string (SL T5)] 26)).alloc (.cells #[.int .i64 K, .slice b1 n1 bc1, .slice b2 n2 bc2, .string (SL T1'), .slice b3 m3 bc3, .string (SL T2'), .string (SL T3'), .string (SL T4'), .int .i64 z', .string (SL T5')] 26) := ⟨_, rfl⟩
  have hbl : Below w.heap.size w W1 := by rw [hW1]; exact ((Below.refl w.heap.size w).alloc (Nat.le_refl _) _).alloc (by simp) _
  have hr1 : W1.heap[w.heap.size]? = some (.cells #[.int .i64 K, .slice a1 n1 ac1, .slice a2 n2 ac2, .string (SL T1), .slice a3 n3 ac3, .string (SL T2), .string (SL T3), .string (SL T4), .int .i64 z, .string (SL T5)] 26 (0, 0)) := by
    rw [hW1, Below.heap_alloc _ _ _ (by simp)]
    exact heap_alloc_new w _
  have hr2 : W1.heap[w.heap.size + 1]? = some (.cells #[.int .i64 K, .slice b1 n1 bc1, .slice b2 n2 bc2, .string (SL T1'), .slice b3 m3 bc3, .string (SL T2'), .string (SL T3'), .string (SL T4'), .int .i64 z', .string (SL T5')] 26 (0, 0)) := by
    have := heap_alloc_new (w.alloc (.cells #[.int .i64 K, .slice a1 n1 ac1, .slice a2 n2 ac2, .string (SL T1), .slice a3 n3 ac3, .string (SL T2), .string (SL T3), .string (SL T4), .int .i64 z, .string (SL T5)] 26)) (.cells #[.int .i64 K, .slice b1 n1 bc1, .slice b2 n2 bc2, .string (SL T1'), .slice b3 m3 bc3, .string (SL T2'), .string (SL T3'), .string (SL T4'), .int .i64 z', .string (SL T5')] 26)
    rw [World.size_alloc, ← hW1] at this
    exact this
  obtain ⟨r0, r1, r2, r3, r4, r5, r6, r7, r8, r9⟩ := obj_cells hr1
  obtain ⟨q0, q1, q2, q3, q4, q5, q6, q7, q8, q9⟩ := obj_cells hr2
  have hcv1 := hd1 W1 hbl
  have hcv2 := hd2 W1 hbl
  have HW := Lib.hid hW1
  have BL := Lib.hid hbl
  have x1 := SL_toList D
  have x3 := SL_toList T1
  have y3 := SL_toList T1'
  have hq : (T1 == T1') = false := by simpa using hne
  clear hW1 hbl hn1 hn2 hn3 hs2 hs2' hm3 hd1 hd2 hr1 hr2 e2 hne
  go_enter Try.func24, Try.ntmps24
  go_wp2_with fail
  rw [← HW.out, hcv1]
  go_wp2
  go_ret
  exact ⟨rfl, BL.out⟩
set_option maxRecDepth 100000 in
set_option maxHeartbeats 8000000 in
theorem refSame_4 (F G : Nat → Prop) (o p : ObjR) (dv ev uv dv' ev' uv' : Value) (w : World) (h : ObjIn w F o dv ev uv) (h' : ObjIn w G p dv' ev' uv') (hl3 : o.ups.length ≤ 9223372036854775807) (e0 : o.kind = p.kind) (e1 : o.data = p.data) (e3 : o.tree = p.tree) (e2 : o.ents.length = p.ents.length) (hne : ¬ o.ups = p.ups) :
    Calls Try.prog 24 #[objV o dv ev uv, objV p dv' ev' uv'] w fun e w' => e = .returned (.bool false) ∧ Below w.heap.size w w' := by
  obtain ⟨K, D, L, T1, U, T2, T3, T4, z, T5⟩ := o
  obtain ⟨K', D', L', T1', U', T2', T3', T4', z', T5'⟩ := p
  simp only at hne e0 e1 e3 e2
  subst e0
  subst e1
  subst e3
  have hd : BytesAt w F dv D := h.data
  have hd' : BytesAt w G dv' D := h'.data
  have he : EntsAt w F ev L := h.ents
  have he' : EntsAt w G ev' L' := h'.ents
  have hu : TextsAt w F uv U := h.ups
  have hu' : TextsAt w G uv' U' := h'.ups
  have hl3 : U.length ≤ 9223372036854775807 := hl3
  have hups := fun (W : World) (hb : Below w.heap.size w W) => refSameTexts_any F G uv uv' U U' W (hu.turn (Turn.of_below (fun _ => False) hb) (fun _ _ h => h)) (hu'.turn (Turn.of_below (fun _ => False) hb) (fun _ _ h => h)) hl3
  rw [show decide (U = U') = false from decide_eq_false hne] at hups
  have hd1 := fun (W : World) (hb : Below w.heap.size w W) => (hd.turn (Turn.of_below (fun _ => False) hb) (fun _ _ h => h)).text
  have hd2 := fun (W : World) (hb : Below w.heap.size w W) => (hd'.turn (Turn.of_below (fun _ => False) hb) (fun _ _ h => h)).text
  obtain ⟨a1, ac1, _, _, rfl, _, _⟩ := hd
  obtain ⟨a2, ac2, g2, o2, rfl, hs2⟩ := he
  obtain ⟨a3, ac3, _, _, rfl, _⟩ := hu
  obtain ⟨b1, bc1, _, _, rfl, _, _⟩ := hd'
  obtain ⟨b2, bc2, g2', p2, rfl, hs2'⟩ := he'
  obtain ⟨b3, bc3, _, _, rfl, _⟩ := hu'
  unfold objV
  clear h h'
  obtain ⟨n1, hn1⟩ : ∃ t, t = D.length := ⟨_, rfl⟩
  obtain ⟨n2, hn2⟩ : ∃ t, t = L.length := ⟨_, rfl⟩
  obtain ⟨n3, hn3⟩ : ∃ t, t = U.length := ⟨_, rfl⟩
  obtain ⟨m3, hm3⟩ : ∃ t, t = U'.length := ⟨_, rfl⟩
  rw [← e2] at hs2' ⊢
  rw [← hn3, ← hm3] at hups
  rw [← hn1] at hd1
  rw [← hn1] at hd2
  rw [← hn1, ← hn2, ← hn3, ← hm3]
  obtain ⟨W1, hW1⟩ : ∃ W1, W1 = (w.alloc (.cells #[.int .i64 K, .slice a1 n1 ac1, .slice a2 n2 ac2, .string (SL T1), .slice a3 n3 ac3, .string (SL T2), .string (SL T3), .string (SL T4), .int .i64 z, .string (SL T5)] 26)).alloc (.cells #[.int .i64 K, .slice b1 n1 bc1, .slice b2 n2 bc2, .string (SL T1), .slice b3 m3 bc3, .string (SL T2'), .string (SL T3'), .string (SL T4'), .int .i64 z', .string (SL T5')] 26) := ⟨_, rfl⟩
  have hbl : Below w.heap.size w W1 := by rw [hW1]; exact ((Below.refl w.heap.size w).alloc (Nat.le_refl _) _).alloc (by simp) _
  have hr1 : W1.heap[w.heap.size]? = some (.cells #[.int .i64 K, .slice a1 n1 ac1, .slice a2 n2 ac2, .string (SL T1), .slice a3 n3 ac3, .string (SL T2), .string (SL T3), .string (SL T4), .int .i64 z, .string (SL T5)] 26 (0, 0)) := by
    rw [hW1, Below.heap_alloc _ _ _ (by simp)]
    exact heap_alloc_new w _
  have hr2 : W1.heap[w.heap.size + 1]? = some (.cells #[.int .i64 K, .slice b1 n1 bc1, .slice b2 n2 bc2, .string (SL T1), .slice b3 m3 bc3, .string (SL T2'), .string (SL T3'), .string (SL T4'), .int .i64 z', .string (SL T5')] 26 (0, 0)) := by
    have := heap_alloc_new (w.alloc (.cells #[.int .i64 K, .slice a1 n1 ac1, .slice a2 n2 ac2, .string (SL T1), .slice a3 n3 ac3, .string (SL T2), .string (SL T3), .string (SL T4), .int .i64 z, .string (SL T5)] 26)) (.cells #[.int .i64 K, .slice b1 n1 bc1, .slice b2 n2 bc2, .string (SL T1), .slice b3 m3 bc3, .string (SL T2'), .string (SL T3'), .string (SL T4'), .int .i64 z', .string (SL T5')] 26)
    rw [World.size_alloc, ← hW1] at this
    exact this
  obtain ⟨r0, r1, r2, r3, r4, r5, r6, r7, r8, r9⟩ := obj_cells hr1
  obtain ⟨q0, q1, q2, q3, q4, q5, q6, q7, q8, q9⟩ := obj_cells hr2
  have hcv1 := hd1 W1 hbl
  have hcv2 := hd2 W1 hbl
  have HU := Lib.hid (hups W1 hbl)
  have HW := Lib.hid hW1
  have BL := Lib.hid hbl
  have x1 := SL_toList D
  have x3 := SL_toList T1
  clear hW1 hbl hn1 hn2 hn3 hs2 hs2' hm3 hups hl3 hd1 hd2 hr1 hr2 e2 hne
  go_enter Try.func24, Try.ntmps24
  go_wp2_with fail
  rw [← HW.out, hcv1]
  go_wp2_with (go_at_call 19; refine HU.out.mono ?_; rintro e _ ⟨rfl, k1, rfl⟩)
  go_ret
  exact ⟨rfl, below_drewN BL.out _⟩
set_option maxRecDepth 100000 in
set_option maxHeartbeats 8000000 in
theorem refSame_5 (F G : Nat → Prop) (o p : ObjR) (dv ev uv dv' ev' uv' : Value) (w : World) (h : ObjIn w F o dv ev uv) (h' : ObjIn w G p dv' ev' uv') (hl3 : o.ups.length ≤ 9223372036854775807) (e0 : o.kind = p.kind) (e1 : o.data = p.data) (e3 : o.tree = p.tree) (e4 : o.ups = p.ups) (e2 : o.ents.length = p.ents.length) (hne : ¬ o.target = p.target) :
    Calls Try.prog 24 #[objV o dv ev uv, objV p dv' ev' uv'] w fun e w' => e = .returned (.bool false) ∧ Below w.heap.size w w' := by
  obtain ⟨K, D, L, T1, U, T2, T3, T4, z, T5⟩ := o
  obtain ⟨K', D', L', T1', U', T2', T3', T4', z', T5'⟩ := p
  simp only at hne e0 e1 e3 e4 e2
  subst e0
  subst e1
  subst e3
  subst e4
  have hd : BytesAt w F dv D := h.data
  have hd' : BytesAt w G dv' D := h'.data
  have he : EntsAt w F ev L := h.ents
  have he' : EntsAt w G ev' L' := h'.ents
  have hu : TextsAt w F uv U := h.ups
  have hu' : TextsAt w G uv' U := h'.ups
  have hl3 : U.length ≤ 9223372036854775807 := hl3
  have hups := fun (W : World) (hb : Below w.heap.size w W) => refSameTexts_any F G uv uv' U U W (hu.turn (Turn.of_below (fun _ => False) hb) (fun _ _ h => h)) (hu'.turn (Turn.of_below (fun _ => False) hb) (fun _ _ h => h)) hl3
  rw [show decide (U = U) = true from decide_eq_true rfl] at hups
  have hd1 := fun (W : World) (hb : Below w.heap.size w W) => (hd.turn (Turn.of_below (fun _ => False) hb) (fun _ _ h => h)).text
  have hd2 := fun (W : World) (hb : Below w.heap.size w W) => (hd'.turn (Turn.of_below (fun _ => False) hb) (fun _ _ h => h)).text
  obtain ⟨a1, ac1, _, _, rfl, _, _⟩ := hd
  obtain ⟨a2, ac2, g2, o2, rfl, hs2⟩ := he
  obtain ⟨a3, ac3, _, _, rfl, _⟩ := hu
  obtain ⟨b1, bc1, _, _, rfl, _, _⟩ := hd'
  obtain ⟨b2, bc2, g2', p2, rfl, hs2'⟩ := he'
  obtain ⟨b3, bc3, _, _, rfl, _⟩ := hu'
  unfold objV
  clear h h'
  obtain ⟨n1, hn1⟩ : ∃ t, t = D.length := ⟨_, rfl⟩
  obtain ⟨n2, hn2⟩ : ∃ t, t = L.length := ⟨_, rfl⟩
  obtain ⟨n3, hn3⟩ : ∃ t, t = U.length := ⟨_, rfl⟩
  rw [← e2] at hs2' ⊢
  rw [← hn3] at hups
  rw [← hn1] at hd1
  rw [← hn1] at hd2
  rw [← hn1, ← hn2, ← hn3]
  obtain ⟨W1, hW1⟩ : ∃ W1, W1 = (w.alloc (.cells #[.int .i64 K, .slice a1 n1 ac1, .slice a2 n2 ac2, .string (SL T1), .slice a3 n3 ac3, .string (SL T2), .string (SL T3), .string (SL T4), .int .i64 z, .string (SL T5)] 26)).alloc (.cells #[.int .i64 K, .slice b1 n1 bc1, .slice b2 n2 bc2, .string (SL T1), .slice b3 n3 bc3, .string (SL T2'), .string (SL T3'), .string (SL T4'), .int .i64 z', .string (SL T5')] 26) := ⟨_, rfl⟩
  have hbl : Below w.heap.size w W1 := by rw [hW1]; exact ((Below.refl w.heap.size w).alloc (Nat.le_refl _) _).alloc (by simp) _
  have hr1 : W1.heap[w.heap.size]? = some (.cells #[.int .i64 K, .slice a1 n1 ac1, .slice a2 n2 ac2, .string (SL T1), .slice a3 n3 ac3, .string (SL T2), .string (SL T3), .string (SL T4), .int .i64 z, .string (SL T5)] 26 (0, 0)) := by
    rw [hW1, Below.heap_alloc _ _ _ (by simp)]
    exact heap_alloc_new w _
  have hr2 : W1.heap[w.heap.size + 1]? = some (.cells #[.int .i64 K, .slice b1 n1 bc1, .slice b2 n2 bc2, .string (SL T1), .slice b3 n3 bc3, .string (SL T2'), .string (SL T3'), .string (SL T4'), .int .i64 z', .string (SL T5')] 26 (0, 0)) := by
    have := heap_alloc_new (w.alloc (.cells #[.int .i64 K, .slice a1 n1 ac1, .slice a2 n2 ac2, .string (SL T1), .slice a3 n3 ac3, .string (SL T2), .string (SL T3), .string (SL T4), .int .i64 z, .string (SL T5)] 26)) (.cells #[.int .i64 K, .slice b1 n1 bc1, .slice b2 n2 bc2, .string (SL T1), .slice b3 n3 bc3, .string (SL T2'), .string (SL T3'), .string (SL T4'), .int .i64 z', .string (SL T5')] 26)
    rw [World.size_alloc, ← hW1] at this
    exact this
  obtain ⟨r0, r1, r2, r3, r4, r5, r6, r7, r8, r9⟩ := obj_cells hr1
  obtain ⟨q0, q1, q2, q3, q4, q5, q6, q7, q8, q9⟩ := obj_cells hr2
  have hcv1 := hd1 W1 hbl
  have hcv2 := hd2 W1 hbl
  have HU := Lib.hid (hups W1 hbl)
  have HW := Lib.hid hW1
  have BL := Lib.hid hbl
  have x1 := SL_toList D
  have x3 := SL_toList T1
  have x5 := SL_toList T2
  have y5 := SL_toList T2'
  have hq : (T2 == T2') = false := by simpa using hne
  clear hW1 hbl hn1 hn2 hn3 hs2 hs2' hups hl3 hd1 hd2 hr1 hr2 e2 hne
  go_enter Try.func24, Try.ntmps24
  go_wp2_with fail
  rw [← HW.out, hcv1]
  go_wp2_with (go_at_call 19; refine HU.out.mono ?_; rintro e _ ⟨rfl, k1, rfl⟩)
  go_ret
  exact ⟨rfl, below_drewN BL.out _⟩
end Go.Proofs.Ytckbeeadkiiccaa
