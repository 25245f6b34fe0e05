/- The document's Same of two objects that are not one: its name, its who. Written by wip/tools/mk_same3.py. The document's Same of two objects that are not one: its stamp, its text. Written by wip/tools/mk_same3.py. The document's Same of two objects that are not one: its entries' contents. Written by wip/tools/mk_same3.py. -/
import Derived.Test.YtckbeeadkiiccaaCRefA
import Derived.Test.YtckbeeadkiiccaaCRefB
namespace Go.Proofs.Ytckbeeadkiiccaa
open Go.RowKit
set_option maxRecDepth 100000 in
set_option maxHeartbeats 8000000 in
theorem refSame_6 (F G : Nat → Prop) (o p : ObjR) (dv ev uv dv' ev' uv' : Value) (w : World) (h : ObjIn w F o dv ev uv) (h' : ObjIn w G p dv' ev' uv') (hl3 : o.ups.length ≤ 9223372036854775807) (e0 : o.kind = p.kind) (e1 : o.data = p.data) (e3 : o.tree = p.tree) (e4 : o.ups = p.ups) (e5 : o.target = p.target) (e2 : o.ents.length = p.ents.length) (hne : ¬ o.name = p.name) :
    Calls Try.prog 24 #[objV o dv ev uv, objV p dv' ev' uv'] w fun e w' => e = .returned (.bool false) ∧ Below w.heap.size w w' := by
  obtain ⟨K, D, L, T1, U, T2, T3, T4, z, T5⟩ := o
  obtain ⟨K', D', L', T1', U', T2', T3', T4', z', T5'⟩ := p
  simp only at hne e0 e1 e3 e4 e5 e2
  subst e0
  subst e1
  subst e3
  subst e4
  subst e5
  have hd : BytesAt w F dv D := h.data
  have hd' : BytesAt w G dv' D := h'.data
  have he : EntsAt w F ev L := h.ents
  have he' : EntsAt w G ev' L' := h'.ents
  have hu : TextsAt w F uv U := h.ups
  have hu' : TextsAt w G uv' U := h'.ups
  have hl3 : U.length ≤ 9223372036854775807 := hl3
  have hups := fun (W : World) (hb : Below w.heap.size w W) => refSameTexts_any F G uv uv' U U W (hu.turn (Turn.of_below (fun _ => False) hb) (fun _ _ h => h)) (hu'.turn (Turn.of_below (fun _ => False) hb) (fun _ _ h => h)) hl3
  rw [show decide (U = U) = true from decide_eq_true rfl] at hups
  have hd1 := fun (W : World) (hb : Below w.heap.size w W) => (hd.turn (Turn.of_below (fun _ => False) hb) (fun _ _ h => h)).text
  have hd2 := fun (W : World) (hb : Below w.heap.size w W) => (hd'.turn (Turn.of_below (fun _ => False) hb) (fun _ _ h => h)).text
  obtain ⟨a1, ac1, _, _, rfl, _, _⟩ := hd
  obtain ⟨a2, ac2, g2, o2, rfl, hs2⟩ := he
  obtain ⟨a3, ac3, _, _, rfl, _⟩ := hu
  obtain ⟨b1, bc1, _, _, rfl, _, _⟩ := hd'
  obtain ⟨b2, bc2, g2', p2, rfl, hs2'⟩ := he'
  obtain ⟨b3, bc3, _, _, rfl, _⟩ := hu'
  unfold objV
  clear h h'
  obtain ⟨n1, hn1⟩ : ∃ t, t = D.length := ⟨_, rfl⟩
  obtain ⟨n2, hn2⟩ : ∃ t, t = L.length := ⟨_, rfl⟩
  obtain ⟨n3, hn3⟩ : ∃ t, t = U.length := ⟨_, rfl⟩
  rw [← e2] at hs2' ⊢
  rw [← hn3] at hups
  rw [← hn1] at hd1
  rw [← hn1] at hd2
  rw [← hn1, ← hn2, ← hn3]
  obtain ⟨W1, hW1⟩ : ∃ W1, W1 = (w.alloc (.cells #[.int .i64 K, .slice a1 n1 ac1, .slice a2 n2 ac2, .string (SL T1), .slice a3 n3 ac3, .string (SL T2), .string (SL T3), .string (SL T4), .int .i64 z, .string (SL T5)] 26)).alloc (.cells #[.int .i64 K, .slice b1 n1 bc1, .slice b2 n2 bc2, .string (SL T1), .slice b3 n3 bc3, .string (SL T2), .string (SL T3'), .string (SL T4'), .int .i64 z', .string (SL T5')] 26) := ⟨_, rfl⟩
  have hbl : Below w.heap.size w W1 := by rw [hW1]; exact ((Below.refl w.heap.size w).alloc (Nat.le_refl _) _).alloc (by simp) _
  have hr1 : W1.heap[w.heap.size]? = some (.cells #[.int .i64 K, .slice a1 n1 ac1, .slice a2 n2 ac2, .string (SL T1), .slice a3 n3 ac3, .string (SL T2), .string (SL T3), .string (SL T4), .int .i64 z, .string (SL T5)] 26 (0, 0)) := by
    rw [hW1, Below.heap_alloc _ _ _ (by simp)]
    exact heap_alloc_new w _
  have hr2 : W1.heap[w.heap.size + 1]? = some (.cells #[.int .i64 K, .slice b1 n1 bc1, .slice b2 n2 bc2, .string (SL T1), .slice b3 n3 bc3, .string (SL T2), .string (SL T3'), .string (SL T4'), .int .i64 z', .string (SL T5')] 26 (0, 0)) := by
    have := heap_alloc_new (w.alloc (.cells #[.int .i64 K, .slice a1 n1 ac1, .slice a2 n2 ac2, .string (SL T1), .slice a3 n3 ac3, .string (SL T2), .string (SL T3), .string (SL T4), .int .i64 z, .string (SL T5)] 26)) (.cells #[.int .i64 K, .slice b1 n1 bc1, .slice b2 n2 bc2, .string (SL T1), .slice b3 n3 bc3, .string (SL T2), .string (SL T3'), .string (SL T4'), .int .i64 z', .string (SL T5')] 26)
    rw [World.size_alloc, ← hW1] at this
    exact this
  obtain ⟨r0, r1, r2, r3, r4, r5, r6, r7, r8, r9⟩ := obj_cells hr1
  obtain ⟨q0, q1, q2, q3, q4, q5, q6, q7, q8, q9⟩ := obj_cells hr2
  have hcv1 := hd1 W1 hbl
  have hcv2 := hd2 W1 hbl
  have HU := Lib.hid (hups W1 hbl)
  have HW := Lib.hid hW1
  have BL := Lib.hid hbl
  have x1 := SL_toList D
  have x3 := SL_toList T1
  have x5 := SL_toList T2
  have x6 := SL_toList T3
  have y6 := SL_toList T3'
  have hq : (T3 == T3') = false := by simpa using hne
  clear hW1 hbl hn1 hn2 hn3 hs2 hs2' hups hl3 hd1 hd2 hr1 hr2 e2 hne
  go_enter Try.func24, Try.ntmps24
  go_wp2_with fail
  rw [← HW.out, hcv1]
  go_wp2_with (go_at_call 19; refine HU.out.mono ?_; rintro e _ ⟨rfl, k1, rfl⟩)
  go_ret
  exact ⟨rfl, below_drewN BL.out _⟩
set_option maxRecDepth 100000 in
set_option maxHeartbeats 8000000 in
theorem refSame_7 (F G : Nat → Prop) (o p : ObjR) (dv ev uv dv' ev' uv' : Value) (w : World) (h : ObjIn w F o dv ev uv) (h' : ObjIn w G p dv' ev' uv') (hl3 : o.ups.length ≤ 9223372036854775807) (e0 : o.kind = p.kind) (e1 : o.data = p.data) (e3 : o.tree = p.tree) (e4 : o.ups = p.ups) (e5 : o.target = p.target) (e6 : o.name = p.name) (e2 : o.ents.length = p.ents.length) (hne : ¬ o.who = p.who) :
    Calls Try.prog 24 #[objV o dv ev uv, objV p dv' ev' uv'] w fun e w' => e = .returned (.bool false) ∧ Below w.heap.size w w' := by
  obtain ⟨K, D, L, T1, U, T2, T3, T4, z, T5⟩ := o
  obtain ⟨K', D', L', T1', U', T2', T3', T4', z', T5'⟩ := p
  simp only at hne e0 e1 e3 e4 e5 e6 e2
  subst e0
  subst e1
  subst e3
  subst e4
  subst e5
  subst e6
  have hd : BytesAt w F dv D := h.data
  have hd' : BytesAt w G dv' D := h'.data
  have he : EntsAt w F ev L := h.ents
  have he' : EntsAt w G ev' L' := h'.ents
  have hu : TextsAt w F uv U := h.ups
  have hu' : TextsAt w G uv' U := h'.ups
  have hl3 : U.length ≤ 9223372036854775807 := hl3
  have hups := fun (W : World) (hb : Below w.heap.size w W) => refSameTexts_any F G uv uv' U U W (hu.turn (Turn.of_below (fun _ => False) hb) (fun _ _ h => h)) (hu'.turn (Turn.of_below (fun _ => False) hb) (fun _ _ h => h)) hl3
  rw [show decide (U = U) = true from decide_eq_true rfl] at hups
  have hd1 := fun (W : World) (hb : Below w.heap.size w W) => (hd.turn (Turn.of_below (fun _ => False) hb) (fun _ _ h => h)).text
  have hd2 := fun (W : World) (hb : Below w.heap.size w W) => (hd'.turn (Turn.of_below (fun _ => False) hb) (fun _ _ h => h)).text
  obtain ⟨a1, ac1, _, _, rfl, _, _⟩ := hd
  obtain ⟨a2, ac2, g2, o2, rfl, hs2⟩ := he
  obtain ⟨a3, ac3, _, _, rfl, _⟩ := hu
  obtain ⟨b1, bc1, _, _, rfl, _, _⟩ := hd'
  obtain ⟨b2, bc2, g2', p2, rfl, hs2'⟩ := he'
  obtain ⟨b3, bc3, _, _, rfl, _⟩ := hu'
  unfold objV
  clear h h'
  obtain ⟨n1, hn1⟩ : ∃ t, t = D.length := ⟨_, rfl⟩
  obtain ⟨n2, hn2⟩ : ∃ t, t = L.length := ⟨_, rfl⟩
  obtain ⟨n3, hn3⟩ : ∃ t, t = U.length := ⟨_, rfl⟩
  rw [← e2] at hs2' ⊢
  rw [← hn3] at hups
  rw [← hn1] at hd1
  rw [← hn1] at hd2
  rw [← hn1, ← hn2, ← hn3]
  obtain ⟨W1, hW1⟩ : ∃ W1, W1 = (w.alloc (.cells #[.int .i64 K, .slice a1 n1 ac1, .slice a2 n2 ac2, .string (SL T1), .slice a3 n3 ac3, .string (SL T2), .string (SL T3), .string (SL T4), .int .i64 z, .string (SL T5)] 26)).alloc (.cells #[.int .i64 K, .slice b1 n1 bc1, .slice b2 n2 bc2, .string (SL T1), .slice b3 n3 bc3, .string (SL T2), .string (SL T3), .string (SL T4'), .int .i64 z', .string (SL T5')] 26) := ⟨_, rfl⟩
  have hbl : Below w.heap.size w W1 := by rw [hW1]; exact ((Below.refl w.heap.size w).alloc (Nat.le_refl _) _).alloc (by simp) _
  have hr1 : W1.heap[w.heap.size]? = some (.cells #[.int .i64 K, .slice a1 n1 ac1, .slice a2 n2 ac2, .string (SL T1), .slice a3 n3 ac3, .string (SL T2), .string (SL T3), .string (SL T4), .int .i64 z, .string (SL T5)] 26 (0, 0)) := by
    rw [hW1, Below.heap_alloc _ _ _ (by simp)]
    exact heap_alloc_new w _
  have hr2 : W1.heap[w.heap.size + 1]? = some (.cells #[.int .i64 K, .slice b1 n1 bc1, .slice b2 n2 bc2, .string (SL T1), .slice b3 n3 bc3, .string (SL T2), .string (SL T3), .string (SL T4'), .int .i64 z', .string (SL T5')] 26 (0, 0)) := by
    have := heap_alloc_new (w.alloc (.cells #[.int .i64 K, .slice a1 n1 ac1, .slice a2 n2 ac2, .string (SL T1), .slice a3 n3 ac3, .string (SL T2), .string (SL T3), .string (SL T4), .int .i64 z, .string (SL T5)] 26)) (.cells #[.int .i64 K, .slice b1 n1 bc1, .slice b2 n2 bc2, .string (SL T1), .slice b3 n3 bc3, .string (SL T2), .string (SL T3), .string (SL T4'), .int .i64 z', .string (SL T5')] 26)
    rw [World.size_alloc, ← hW1] at this
    exact this
  obtain ⟨r0, r1, r2, r3, r4, r5, r6, r7, r8, r9⟩ := obj_cells hr1
  obtain ⟨q0, q1, q2, q3, q4, q5, q6, q7, q8, q9⟩ := obj_cells hr2
  have hcv1 := hd1 W1 hbl
  have hcv2 := hd2 W1 hbl
  have HU := Lib.hid (hups W1 hbl)
  have HW := Lib.hid hW1
  have BL := Lib.hid hbl
  have x1 := SL_toList D
  have x3 := SL_toList T1
  have x5 := SL_toList T2
  have x6 := SL_toList T3
  have x7 := SL_toList T4
  have y7 := SL_toList T4'
  have hq : (T4 == T4') = false := by simpa using hne
  clear hW1 hbl hn1 hn2 hn3 hs2 hs2' hups hl3 hd1 hd2 hr1 hr2 e2 hne
  go_enter Try.func24, Try.ntmps24
  go_wp2_with fail
  rw [← HW.out, hcv1]
  go_wp2_with (go_at_call 19; refine HU.out.mono ?_; rintro e _ ⟨rfl, k1, rfl⟩)
  go_ret
  exact ⟨rfl, below_drewN BL.out _⟩
end Go.Proofs.Ytckbeeadkiiccaa
namespace Go.Proofs.Ytckbeeadkiiccaa
open Go.RowKit
set_option maxRecDepth 100000 in
set_option maxHeartbeats 8000000 in
theorem refSame_8 (F G : Nat → Prop) (o p : ObjR) (dv ev uv dv' ev' uv' : Value) (w : World) (h : ObjIn w F o dv ev uv) (h' : ObjIn w G p dv' ev' uv') (hl3 : o.ups.length ≤ 9223372036854775807) (e0 : o.kind = p.kind) (e1 : o.data = p.data) (e3 : o.tree = p.tree) (e4 : o.ups = p.ups) (e5 : o.target = p.target) (e6 : o.name = p.name) (e7 : o.who = p.who) (e2 : o.ents.length = p.ents.length) (hne : ¬ o.stamp = p.stamp) :
    Calls Try.prog 24 #[objV o dv ev uv, objV p dv' ev' uv'] w fun e w' => e = .returned (.bool false) ∧ Below w.heap.size w w' := by
  obtain ⟨K, D, L, T1, U, T2, T3, T4, z, T5⟩ := o
  obtain ⟨K', D', L', T1', U', T2', T3', T4', z', T5'⟩ := p
  simp only at hne e0 e1 e3 e4 e5 e6 e7 e2
  subst e0
  subst e1
  subst e3
  subst e4
  subst e5
  subst e6
  subst e7
  have hd : BytesAt w F dv D := h.data
  have hd' : BytesAt w G dv' D := h'.data
  have he : EntsAt w F ev L := h.ents
  have he' : EntsAt w G ev' L' := h'.ents
  have hu : TextsAt w F uv U := h.ups
  have hu' : TextsAt w G uv' U := h'.ups
  have hl3 : U.length ≤ 9223372036854775807 := hl3
  have hups := fun (W : World) (hb : Below w.heap.size w W) => refSameTexts_any F G uv uv' U U W (hu.turn (Turn.of_below (fun _ => False) hb) (fun _ _ h => h)) (hu'.turn (Turn.of_below (fun _ => False) hb) (fun _ _ h => h)) hl3
  rw [show decide (U = U) = true from decide_eq_true rfl] at hups
  have hd1 := fun (W : World) (hb : Below w.heap.size w W) => (hd.turn (Turn.of_below (fun _ => False) hb) (fun _ _ h => h)).text
  have hd2 := fun (W : World) (hb : Below w.heap.size w W) => (hd'.turn (Turn.of_below (fun _ => False) hb) (fun _ _ h => h)).text
  obtain ⟨a1, ac1, _, _, rfl, _, _⟩ := hd
  obtain ⟨a2, ac2, g2, o2, rfl, hs2⟩ := he
  obtain ⟨a3, ac3, _, _, rfl, _⟩ := hu
  obtain ⟨b1, bc1, _, _, rfl, _, _⟩ := hd'
  obtain ⟨b2, bc2, g2', p2, rfl, hs2'⟩ := he'
  obtain ⟨b3, bc3, _, _, rfl, _⟩ := hu'
  unfold objV
  clear h h'
  obtain ⟨n1, hn1⟩ : ∃ t, t = D.length := ⟨_, rfl⟩
  obtain ⟨n2, hn2⟩ : ∃ t, t = L.length := ⟨_, rfl⟩
  obtain ⟨n3, hn3⟩ : ∃ t, t = U.length := ⟨_, rfl⟩
  rw [← e2] at hs2' ⊢
  rw [← hn3] at hups
  rw [← hn1] at hd1
  rw [← hn1] at hd2
  rw [← hn1, ← hn2, ← hn3]
  obtain ⟨W1, hW1⟩ : ∃ W1, W1 = (w.alloc (.cells #[.int .i64 K, .slice a1 n1 ac1, .slice a2 n2 ac2, .string (SL T1), .slice a3 n3 ac3, .string (SL T2), .string (SL T3), .string (SL T4), .int .i64 z, .string (SL T5)] 26)).alloc (.cells #[.int .i64 K, .slice b1 n1 bc1, .slice b2 n2 bc2, .string (SL T1), .slice b3 n3 bc3, .string (SL T2), .string (SL T3), .string (SL T4), .int .i64 z', .string (SL T5')] 26) := ⟨_, rfl⟩
  have hbl : Below w.heap.size w W1 := by rw [hW1]; exact ((Below.refl w.heap.size w).alloc (Nat.le_refl _) _).alloc (by simp) _
  have hr1 : W1.heap[w.heap.size]? = some (.cells #[.int .i64 K, .slice a1 n1 ac1, .slice a2 n2 ac2, .string (SL T1), .slice a3 n3 ac3, .string (SL T2), .string (SL T3), .string (SL T4), .int .i64 z, .string (SL T5)] 26 (0, 0)) := by
    rw [hW1, Below.heap_alloc _ _ _ (by simp)]
    exact heap_alloc_new w _
  have hr2 : W1.heap[w.heap.size + 1]? = some (.cells #[.int .i64 K, .slice b1 n1 bc1, .slice b2 n2 bc2, .string (SL T1), .slice b3 n3 bc3, .string (SL T2), .string (SL T3), .string (SL T4), .int .i64 z', .string (SL T5')] 26 (0, 0)) := by
    have := heap_alloc_new (w.alloc (.cells #[.int .i64 K, .slice a1 n1 ac1, .slice a2 n2 ac2, .string (SL T1), .slice a3 n3 ac3, .string (SL T2), .string (SL T3), .string (SL T4), .int .i64 z, .string (SL T5)] 26)) (.cells #[.int .i64 K, .slice b1 n1 bc1, .slice b2 n2 bc2, .string (SL T1), .slice b3 n3 bc3, .string (SL T2), .string (SL T3), .string (SL T4), .int .i64 z', .string (SL T5')] 26)
    rw [World.size_alloc, ← hW1] at this
    exact this
  obtain ⟨r0, r1, r2, r3, r4, r5, r6, r7, r8, r9⟩ := obj_cells hr1
  obtain ⟨q0, q1, q2, q3, q4, q5, q6, q7, q8, q9⟩ := obj_cells hr2
  have hcv1 := hd1 W1 hbl
  have hcv2 := hd2 W1 hbl
  have HU := Lib.hid (hups W1 hbl)
  have HW := Lib.hid hW1
  have BL := Lib.hid hbl
  have x1 := SL_toList D
  have x3 := SL_toList T1
  have x5 := SL_toList T2
  have x6 := SL_toList T3
  have x7 := SL_toList T4
  have hq : (z == z') = false := by simpa using hne
  have hq2 : (z != z') = true := by simpa using hne
  clear hW1 hbl hn1 hn2 hn3 hs2 hs2' hups hl3 hd1 hd2 hr1 hr2 e2 hne
  go_enter Try.func24, Try.ntmps24
  go_wp2_with fail
  rw [← HW.out, hcv1]
  go_wp2_with (go_at_call 19; refine HU.out.mono ?_; rintro e _ ⟨rfl, k1, rfl⟩)
  go_ret
  exact ⟨rfl, below_drewN BL.out _⟩
set_option maxRecDepth 100000 in
set_option maxHeartbeats 8000000 in
theorem refSame_9 (F G : Nat → Prop) (o p : ObjR) (dv ev uv dv' ev' uv' : Value) (w : World) (h : ObjIn w F o dv ev uv) (h' : ObjIn w G p dv' ev' uv') (hl3 : o.ups.length ≤ 9223372036854775807) (e0 : o.kind = p.kind) (e1 : o.data = p.data) (e3 : o.tree = p.tree) (e4 : o.ups = p.ups) (e5 : o.target = p.target) (e6 : o.name = p.name) (e7 : o.who = p.who) (e8 : o.stamp = p.stamp) (e2 : o.ents.length = p.ents.length) (hne : ¬ o.text = p.text) :
    Calls Try.prog 24 #[objV o dv ev uv, objV p dv' ev' uv'] w fun e w' => e = .returned (.bool false) ∧ Below w.heap.size w w' := by
  obtain ⟨K, D, L, T1, U, T2, T3, T4, z, T5⟩ := o
  obtain ⟨K', D', L', T1', U', T2', T3', T4', z', T5'⟩ := p
  simp only at hne e0 e1 e3 e4 e5 e6 e7 e8 e2
  subst e0
  subst e1
  subst e3
  subst e4
  subst e5
  subst e6
  subst e7
  subst e8
  have hd : BytesAt w F dv D := h.data
  have hd' : BytesAt w G dv' D := h'.data
  have he : EntsAt w F ev L := h.ents
  have he' : EntsAt w G ev' L' := h'.ents
  have hu : TextsAt w F uv U := h.ups
  have hu' : TextsAt w G uv' U := h'.ups
  have hl3 : U.length ≤ 9223372036854775807 := hl3
  have hups := fun (W : World) (hb : Below w.heap.size w W) => refSameTexts_any F G uv uv' U U W (hu.turn (Turn.of_below (fun _ => False) hb) (fun _ _ h => h)) (hu'.turn (Turn.of_below (fun _ => False) hb) (fun _ _ h => h)) hl3
  rw [show decide (U = U) = true from decide_eq_true rfl] at hups
  have hd1 := fun (W : World) (hb : Below w.heap.size w W) => (hd.turn (Turn.of_below (fun _ => False) hb) (fun _ _ h => h)).text
  have hd2 := fun (W : World) (hb : Below w.heap.size w W) => (hd'.turn (Turn.of_below (fun _ => False) hb) (fun _ _ h => h)).text
  obtain ⟨a1, ac1, _, _, rfl, _, _⟩ := hd
  obtain ⟨a2, ac2, g2, o2, rfl, hs2⟩ := he
  obtain ⟨a3, ac3, _, _, rfl, _⟩ := hu
  obtain ⟨b1, bc1, _, _, rfl, _, _⟩ := hd'
  obtain ⟨b2, bc2, g2', p2, rfl, hs2'⟩ := he'
  obtain ⟨b3, bc3, _, _, rfl, _⟩ := hu'
  unfold objV
  clear h h'
  obtain ⟨n1, hn1⟩ : ∃ t, t = D.length := ⟨_, rfl⟩
  obtain ⟨n2, hn2⟩ : ∃ t, t = L.length := ⟨_, rfl⟩
  obtain ⟨n3, hn3⟩ : ∃ t, t = U.length := ⟨_, rfl⟩
  rw [← e2] at hs2' ⊢
  rw [← hn3] at hups
  rw [← hn1] at hd1
  rw [← hn1] at hd2
  rw [← hn1, ← hn2, ← hn3]
  obtain ⟨W1, hW1⟩ : ∃ W1, W1 = (w.alloc (.cells #[.int .i64 K, .slice a1 n1 ac1, .slice a2 n2 ac2, .string (SL T1), .slice a3 n3 ac3, .string (SL T2), .string (SL T3), .string (SL T4), .int .i64 z, .string (SL T5)] 26)).alloc (.cells #[.int .i64 K, .slice b1 n1 bc1, .slice b2 n2 bc2, .string (SL T1), .slice b3 n3 bc3, .string (SL T2), .string (SL T3), .string (SL T4), .int .i64 z, .string (SL T5')] 26) := ⟨_, rfl⟩
  have hbl : Below w.heap.size w W1 := by rw [hW1]; exact ((Below.refl w.heap.size w).alloc (Nat.le_refl _) _).alloc (by simp) _
  have hr1 : W1.heap[w.heap.size]? = some (.cells #[.int .i64 K, .slice a1 n1 ac1, .slice a2 n2 ac2, .string (SL T1), .slice a3 n3 ac3, .string (SL T2), .string (SL T3), .string (SL T4), .int .i64 z, .string (SL T5)] 26 (0, 0)) := by
    rw [hW1, Below.heap_alloc _ _ _ (by simp)]
    exact heap_alloc_new w _
  have hr2 : W1.heap[w.heap.size + 1]? = some (.cells #[.int .i64 K, .slice b1 n1 bc1, .slice b2 n2 bc2, .string (SL T1), .slice b3 n3 bc3, .string (SL T2), .string (SL T3), .string (SL T4), .int .i64 z, .string (SL T5')] 26 (0, 0)) := by
    have := heap_alloc_new (w.alloc (.cells #[.int .i64 K, .slice a1 n1 ac1, .slice a2 n2 ac2, .string (SL T1), .slice a3 n3 ac3, .string (SL T2), .string (SL T3), .string (SL T4), .int .i64 z, .string (SL T5)] 26)) (.cells #[.int .i64 K, .slice b1 n1 bc1, .slice b2 n2 bc2, .string (SL T1), .slice b3 n3 bc3, .string (SL T2), .string (SL T3), .string (SL T4), .int .i64 z, .string (SL T5')] 26)
    rw [World.size_alloc, ← hW1] at this
    exact this
  obtain ⟨r0, r1, r2, r3, r4, r5, r6, r7, r8, r9⟩ := obj_cells hr1
  obtain ⟨q0, q1, q2, q3, q4, q5, q6, q7, q8, q9⟩ := obj_cells hr2
  have hcv1 := hd1 W1 hbl
  have hcv2 := hd2 W1 hbl
  have HU := Lib.hid (hups W1 hbl)
  have HW := Lib.hid hW1
  have BL := Lib.hid hbl
  have x1 := SL_toList D
  have x3 := SL_toList T1
  have x5 := SL_toList T2
  have x6 := SL_toList T3
  have x7 := SL_toList T4
  have x9 := SL_toList T5
  have y9 := SL_toList T5'
  have hq : (T5 == T5') = false := by simpa using hne
  clear hW1 hbl hn1 hn2 hn3 hs2 hs2' hups hl3 hd1 hd2 hr1 hr2 e2 hne
  go_enter Try.func24, Try.ntmps24
  go_wp2_with fail
  rw [← HW.out, hcv1]
  go_wp2_with (go_at_call 19; refine HU.out.mono ?_; rintro e _ ⟨rfl, k1, rfl⟩)
  go_ret
  exact ⟨rfl, below_drewN BL.out _⟩
end Go.Proofs.Ytckbeeadkiiccaa
namespace Go.Proofs.Ytckbeeadkiiccaa
open Go.RowKit
set_option maxRecDepth 100000 in
set_option maxHeartbeats 8000000 in
theorem refSame_10 (F G : Nat → Prop) (o p : ObjR) (dv ev uv dv' ev' uv' : Value) (w : World) (h : ObjIn w F o dv ev uv) (h' : ObjIn w G p dv' ev' uv') (hl2 : o.ents.length ≤ 9223372036854775807) (hl3 : o.ups.length ≤ 9223372036854775807) (e0 : o.kind = p.kind) (e1 : o.data = p.data) (e3 : o.tree = p.tree) (e4 : o.ups = p.ups) (e5 : o.target = p.target) (e6 : o.name = p.name) (e7 : o.who = p.who) (e8 : o.stamp = p.stamp) (e9 : o.text = p.text) (e2 : o.ents.length = p.ents.length) (hne : ¬ o.ents = p.ents) :
    Calls Try.prog 24 #[objV o dv ev uv, objV p dv' ev' uv'] w fun e w' => e = .returned (.bool false) ∧ Below w.heap.size w w' := by
  obtain ⟨K, D, L, T1, U, T2, T3, T4, z, T5⟩ := o
  obtain ⟨K', D', L', T1', U', T2', T3', T4', z', T5'⟩ := p
  simp only at hne e0 e1 e3 e4 e5 e6 e7 e8 e9 e2
  subst e0
  subst e1
  subst e3
  subst e4
  subst e5
  subst e6
  subst e7
  subst e8
  subst e9
  have hd : BytesAt w F dv D := h.data
  have hd' : BytesAt w G dv' D := h'.data
  have he : EntsAt w F ev L := h.ents
  have he' : EntsAt w G ev' L' := h'.ents
  have hu : TextsAt w F uv U := h.ups
  have hu' : TextsAt w G uv' U := h'.ups
  have hl3 : U.length ≤ 9223372036854775807 := hl3
  have hups := fun (W : World) (hb : Below w.heap.size w W) => refSameTexts_any F G uv uv' U U W (hu.turn (Turn.of_below (fun _ => False) hb) (fun _ _ h => h)) (hu'.turn (Turn.of_below (fun _ => False) hb) (fun _ _ h => h)) hl3
  rw [show decide (U = U) = true from decide_eq_true rfl] at hups
  have hl2 : L.length ≤ 9223372036854775807 := hl2
  have hd1 := fun (W : World) (hb : Below w.heap.size w W) => (hd.turn (Turn.of_below (fun _ => False) hb) (fun _ _ h => h)).text
  have hd2 := fun (W : World) (hb : Below w.heap.size w W) => (hd'.turn (Turn.of_below (fun _ => False) hb) (fun _ _ h => h)).text
  obtain ⟨a1, ac1, _, _, rfl, _, _⟩ := hd
  obtain ⟨a2, ac2, g2, o2, rfl, hs2⟩ := he
  obtain ⟨a3, ac3, _, _, rfl, _⟩ := hu
  obtain ⟨b1, bc1, _, _, rfl, _, _⟩ := hd'
  obtain ⟨b2, bc2, g2', p2, rfl, hs2'⟩ := he'
  obtain ⟨b3, bc3, _, _, rfl, _⟩ := hu'
  unfold objV
  clear h h'
  obtain ⟨n1, hn1⟩ : ∃ t, t = D.length := ⟨_, rfl⟩
  obtain ⟨n2, hn2⟩ : ∃ t, t = L.length := ⟨_, rfl⟩
  obtain ⟨n3, hn3⟩ : ∃ t, t = U.length := ⟨_, rfl⟩
  rw [← e2] at hs2' ⊢
  rw [← hn3] at hups
  rw [← hn1] at hd1
  rw [← hn1] at hd2
  rw [← hn2] at hs2 hs2' hl2
  rw [← hn1, ← hn2, ← hn3]
  obtain ⟨W1, hW1⟩ : ∃ W1, W1 = (w.alloc (.cells #[.int .i64 K, .slice a1 n1 ac1, .slice a2 n2 ac2, .string (SL T1), .slice a3 n3 ac3, .string (SL T2), .string (SL T3), .string (SL T4), .int .i64 z, .string (SL T5)] 26)).alloc (.cells #[.int .i64 K, .slice b1 n1 bc1, .slice b2 n2 bc2, .string (SL T1), .slice b3 n3 bc3, .string (SL T2), .string (SL T3), .string (SL T4), .int .i64 z, .string (SL T5)] 26) := ⟨_, rfl⟩
  have hbl : Below w.heap.size w W1 := by rw [hW1]; exact ((Below.refl w.heap.size w).alloc (Nat.le_refl _) _).alloc (by simp) _
  have hr1 : W1.heap[w.heap.size]? = some (.cells #[.int .i64 K, .slice a1 n1 ac1, .slice a2 n2 ac2, .string (SL T1), .slice a3 n3 ac3, .string (SL T2), .string (SL T3), .string (SL T4), .int .i64 z, .string (SL T5)] 26 (0, 0)) := by
    rw [hW1, Below.heap_alloc _ _ _ (by simp)]
    exact heap_alloc_new w _
  have hr2 : W1.heap[w.heap.size + 1]? = some (.cells #[.int .i64 K, .slice b1 n1 bc1, .slice b2 n2 bc2, .string (SL T1), .slice b3 n3 bc3, .string (SL T2), .string (SL T3), .string (SL T4), .int .i64 z, .string (SL T5)] 26 (0, 0)) := by
    have := heap_alloc_new (w.alloc (.cells #[.int .i64 K, .slice a1 n1 ac1, .slice a2 n2 ac2, .string (SL T1), .slice a3 n3 ac3, .string (SL T2), .string (SL T3), .string (SL T4), .int .i64 z, .string (SL T5)] 26)) (.cells #[.int .i64 K, .slice b1 n1 bc1, .slice b2 n2 bc2, .string (SL T1), .slice b3 n3 bc3, .string (SL T2), .string (SL T3), .string (SL T4), .int .i64 z, .string (SL T5)] 26)
    rw [World.size_alloc, ← hW1] at this
    exact this
  obtain ⟨r0, r1, r2, r3, r4, r5, r6, r7, r8, r9⟩ := obj_cells hr1
  obtain ⟨q0, q1, q2, q3, q4, q5, q6, q7, q8, q9⟩ := obj_cells hr2
  have hcv1 := hd1 W1 hbl
  have hcv2 := hd2 W1 hbl
  have E1 := Lib.hid (hs2.turn (Turn.of_below (fun _ => False) hbl) (fun _ _ h => h))
  have E2 := Lib.hid (hs2'.turn (Turn.of_below (fun _ => False) hbl) (fun _ _ h => h))
  have HL := Lib.hid hn2
  have HL' := Lib.hid (show n2 = L'.length from hn2.trans e2)
  have HNE := Lib.hid hne
  have HU := Lib.hid (hups W1 hbl)
  have HW := Lib.hid hW1
  have BL := Lib.hid hbl
  have x1 := SL_toList D
  have x3 := SL_toList T1
  have x5 := SL_toList T2
  have x6 := SL_toList T3
  have x7 := SL_toList T4
  have x9 := SL_toList T5
  clear hW1 hbl hn1 hn2 hn3 hs2 hs2' hups hl3 hd1 hd2 hr1 hr2 e2 hne
  go_enter Try.func24, Try.ntmps24
  go_wp2_with fail
  rw [← HW.out, hcv1]
  go_wp2_with (go_at_call 19; refine HU.out.mono ?_; rintro e _ ⟨rfl, k1, rfl⟩)
  go_loopw [5] (fun i W => ∃ (k j : Nat), i = .int .i64 (k : Int) ∧ k ≤ n2 ∧ (∀ x, x < k → L[x]? = L'[x]?) ∧ W = W1.drewN j) (fun i _ => n2 - (intOf i).toNat)
  case atStart => exact ⟨0, k1, rfl, Nat.zero_le _, fun x hx => absurd hx (Nat.not_lt_zero _), rfl⟩
  case round =>
    obtain ⟨k, j, rfl, hk, hall, rfl⟩ := hrel
    have HALL := Lib.hid hall
    clear hall
    by_cases hlt : k < n2
    · have i0 : (0 : Int) ≤ (k : Int) := by omega
      have i1 : (k : Int) < (n2 : Int) := by omega
      obtain ⟨e, he⟩ : ∃ e, L[k]? = some e := ⟨_, List.getElem?_eq_getElem (by rw [← HL.out]; exact hlt)⟩
      obtain ⟨e', he'⟩ : ∃ e, L'[k]? = some e := ⟨_, List.getElem?_eq_getElem (by rw [← HL'.out]; exact hlt)⟩
      obtain ⟨rfl, c0, c1, c2⟩ := E1.out.entry he hlt
      obtain ⟨rfl, d0, d1, d2⟩ := E2.out.entry he' hlt
      have HE := Lib.hid he
      have HE' := Lib.hid he'
      clear he he' hcv1 hcv2 x1 x3 x5 x6 x7 x9 r0 r1 r3 r4 r5 r6 r7 r8 r9 q0 q1 q3 q4 q5 q6 q7 q8 q9
      obtain ⟨N, X, I⟩ := e
      obtain ⟨N', X', I'⟩ := e'
      simp only at c0 c1 c2 d0 d1 d2
      have ln := SL_toList N
      have li := SL_toList I
      have ln' := SL_toList N'
      have li' := SL_toList I'
      by_cases h1 : N = N'
      · subst h1
        by_cases h2 : X = X'
        · subst h2
          by_cases h3 : I = I'
          · subst h3
            clear ln' li'
            go_wp2
            go_quiet (fail)
            go_wp2
            go_roundw
            case rel =>
              refine ⟨k + 1, _, by go_num, by omega, fun x hx => ?_, rfl⟩
              by_cases hxk : x = k
              · rw [hxk, HE.out, HE'.out]
              · exact HALL.out x (by omega)
            case measure => simp [intOf]; omega
          · have hq : (I == I') = false := by simpa using h3
            clear h3
            go_wp2
            go_quiet (fail)
            go_wp2
            go_ret
            exact ⟨rfl, below_drewN (below_drewN BL.out _) _⟩
        · have hq : (X == X') = false := by simpa using h2
          clear h2
          go_wp2
          go_quiet (fail)
          go_wp2
          go_ret
          exact ⟨rfl, below_drewN (below_drewN BL.out _) _⟩
      · have hq : (N == N') = false := by simpa using h1
        clear h1
        go_wp2
        go_quiet (fail)
        go_wp2
        go_ret
        exact ⟨rfl, below_drewN (below_drewN BL.out _) _⟩
    · exfalso
      refine HNE.out (List.ext_getElem? fun x => ?_)
      by_cases hx : x < k
      · exact HALL.out x hx
      · have a := HL.out
        have b := HL'.out
        rw [List.getElem?_eq_none (by omega), List.getElem?_eq_none (by omega)]
end Go.Proofs.Ytckbeeadkiiccaa
