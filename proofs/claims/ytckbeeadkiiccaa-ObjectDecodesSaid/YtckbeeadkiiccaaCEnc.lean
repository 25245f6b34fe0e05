/- The program's Encode where the object may not be. The program's Encode of a blob. Written by wip/tools/mk_encp.py. The program's Encode of a tree. Written by wip/tools/mk_encp.py. The program's Encode of a commit. Written by wip/tools/mk_encp.py. The program's Encode of a tag. Written by wip/tools/mk_encp.py. The program's Encode at whatever object, and its Id. -/
import Derived.Test.YtckbeeadkiiccaaCLay
import Derived.Test.YtckbeeadkiiccaaCRefC
import Derived.Deep.RegionHeld3
import Derived.Test.YtckbeeadkiiccaaCSumB
namespace Go.Proofs.Ytckbeeadkiiccaa
open Go.RowKit
set_option maxRecDepth 100000 in
set_option maxHeartbeats 4000000 in
theorem encode_no (F : Nat → Prop) (o : ObjR) (dv ev uv : Value) (w : World) (h : ObjIn w F o dv ev uv) (hok : okO o = false) :
    Calls Try.prog 13 #[objV o dv ev uv] w fun e w' => e = .returned (.tuple #[.slice none 0 0, .int .i64 1]) ∧ Below w.heap.size w w' := by
  have hck := fun (W : World) (hb : Below w.heap.size w W) => check_any F o dv ev uv W (h.turn (Turn.of_below (fun _ => False) hb) (fun _ _ h => h))
  have herr : errO o = 1 := by unfold errO; rw [hok]; rfl
  rw [herr] at hck
  obtain ⟨a1, c1, B1, o1, rfl, _, _⟩ := h.data
  obtain ⟨a2, c2, g2, o2, rfl, _⟩ := h.ents
  obtain ⟨a3, c3, g3, o3, rfl, _⟩ := h.ups
  unfold objV at hck ⊢
  obtain ⟨n1, hn1⟩ : ∃ n, n = o.data.length := ⟨_, rfl⟩
  obtain ⟨n2, hn2⟩ : ∃ n, n = o.ents.length := ⟨_, rfl⟩
  obtain ⟨n3, hn3⟩ : ∃ n, n = o.ups.length := ⟨_, rfl⟩
  rw [← hn1, ← hn2, ← hn3] at hck ⊢
  have hbl := (Below.refl w.heap.size w).alloc (Nat.le_refl _) (.cells #[.int .i64 o.kind, .slice a1 n1 c1, .slice a2 n2 c2, .string (SL o.tree), .slice a3 n3 c3, .string (SL o.target), .string (SL o.name), .string (SL o.who), .int .i64 o.stamp, .string (SL o.text)] 26)
  have CK := Lib.hid (hck _ hbl)
  have BL := Lib.hid hbl
  clear hck hbl hn1 hn2 hn3 h hok herr
  go_enter Try.func13, Try.ntmps13
  go_wp2_with (go_at_call 18; refine CK.out.mono ?_; rintro e w2 ⟨rfl, b2⟩; have B2 := Lib.hid (BL.out.trans (b2.mono BL.out.size)); clear b2)
  go_ret2
  exact ⟨rfl, B2.out⟩
end Go.Proofs.Ytckbeeadkiiccaa
namespace Go.Proofs.Ytckbeeadkiiccaa
open Go.RowKit
set_option maxRecDepth 100000 in
set_option maxHeartbeats 8000000 in
theorem encode_1 (o : ObjR) (dv ev uv : Value) (w : World) (h : ObjIn w (fun k => k < w.heap.size + 1) o dv ev uv) (hok : okO o = true) (hkind : o.kind = 1) :
    Calls Try.prog 13 #[objV o dv ev uv] w fun e w' => ∃ v, e = .returned (.tuple #[v, .int .i64 0]) ∧ OutAt w.heap.size w' v (encO o) ∧ Below w.heap.size w w' := by
  have hck := fun (W : World) (hb : Below w.heap.size w W) => check_any _ o dv ev uv W (h.turn (Turn.of_below (fun _ => False) hb) (fun _ _ h => h))
  have herr : errO o = 0 := by unfold errO; rw [hok]; rfl
  rw [herr] at hck
  obtain ⟨a1, c1, B1, o1, rfl, hs1, _⟩ := h.data
  obtain ⟨a2, c2, g2, o2, rfl, hs2⟩ := h.ents
  obtain ⟨a3, c3, g3, o3, rfl, hs3⟩ := h.ups
  have hbody := fun W => bodyOf_any o a1 o.data.length c1 a2 o.ents.length c2 a3 o.ups.length c3 W
  have hV : bodyV o (.slice a1 o.data.length c1) (.slice a2 o.ents.length c2) (.slice a3 o.ups.length c3) = .iface 80 (.slice a1 o.data.length c1) := by unfold bodyV; rw [if_pos hkind]
  rw [hV] at hbody
  have hd : o.data.length ≤ 1048576 := by
    have h1 := ok_one hkind
    rw [hok] at h1
    have h2 := h1.symm
    rw [Bool.and_eq_true, decide_eq_true_eq] at h2
    exact h2.1
  have henc : encO o = [1] ++ bodyL o := by unfold encO; rw [hkind]; rfl
  have hbd : bodyL o = o.data := by unfold bodyL; rw [if_pos hkind]
  unfold objV at hck hbody ⊢
  have hlay := fun (W : World) (v : Value) (hb : w.heap.size + 1 ≤ W.heap.size) (hv : W.ownsRow (w.heap.size + 1) 5 1 v ([1] : OB).length (([1] : OB).map B8)) (hB : Below w.heap.size w W) => blobLay_any (w.heap.size + 1) v [1] a1 c1 B1 o1 o.data W hb hv (hs1.below hB) (by simp; omega)
  rw [hbd] at henc
  rw [← henc] at hlay
  obtain ⟨n1, hn1⟩ : ∃ n, n = o.data.length := ⟨_, rfl⟩
  obtain ⟨n2, hn2⟩ : ∃ n, n = o.ents.length := ⟨_, rfl⟩
  obtain ⟨n3, hn3⟩ : ∃ n, n = o.ups.length := ⟨_, rfl⟩
  rw [← hn1, ← hn2, ← hn3, hkind] at hck hbody ⊢
  rw [← hn1] at hlay
  obtain ⟨z, hz⟩ : ∃ z, z = o.stamp := ⟨_, rfl⟩
  rw [← hz] at hck hbody ⊢
  have hbl := (Below.refl w.heap.size w).alloc (Nat.le_refl _) (.cells #[.int .i64 1, .slice a1 n1 c1, .slice a2 n2 c2, .string (SL o.tree), .slice a3 n3 c3, .string (SL o.target), .string (SL o.name), .string (SL o.who), .int .i64 z, .string (SL o.text)] 26)
  obtain ⟨W1, hW1⟩ : ∃ W1, W1 = w.alloc (.cells #[.int .i64 1, .slice a1 n1 c1, .slice a2 n2 c2, .string (SL o.tree), .slice a3 n3 c3, .string (SL o.target), .string (SL o.name), .string (SL o.who), .int .i64 z, .string (SL o.text)] 26) := ⟨_, rfl⟩
  have hs1 : W1.heap.size = w.heap.size + 1 := by rw [hW1]; simp
  rw [← hW1] at hbl
  obtain ⟨x, hx⟩ : ∃ x, x = w.heap.size + 1 := ⟨_, rfl⟩
  have hxs : x = W1.heap.size := by omega
  have hrow : ∀ W, Below x W1 W → _ := fun W hb => obj_cells (below_turn (show Below W1.heap.size W1 W by rw [← hxs]; exact hb) (by rw [hW1]; exact heap_alloc_new w _))
  rw [← hx] at hlay
  have CK := Lib.hid (hck W1 hbl)
  have HBODY := Lib.hid hbody
  have HLAY := Lib.hid hlay
  have ROW := Lib.hid hrow
  have HW := Lib.hid hW1
  have BL := Lib.hid hbl
  have HX := Lib.hid hx
  have HXS := Lib.hid hxs
  obtain ⟨r0, r1, r2, r3, r4, r5, r6, r7, r8, r9⟩ := hrow W1 (Below.refl _ _)
  clear hck hbody hlay hrow hW1 hbl hx hxs hs1 hs2 hs3 hV hd henc hbd hn1 hn2 hn3 h hok herr hkind hz
  go_enter Try.func13, Try.ntmps13
  go_wp2_with fail
  rw [← HW.out]
  go_wp2_with (go_at_call 18; refine CK.out.mono ?_; rintro e w2 ⟨rfl, b2⟩; have BB := Lib.hid (b2.mono (Nat.le_of_eq HXS.out)); obtain ⟨r0, r1, r2, r3, r4, r5, r6, r7, r8, r9⟩ := ROW.out w2 BB.out; clear b2)
  have BB := Lib.hid BB.out.drew
  have XB := Lib.hid (show x ≤ w2.heap.size from (by have h1 : W1.heap.size ≤ w2.heap.size := BB.out.size; have := HXS.out; omega))
  have XB2 := Lib.hid (show x ≤ w2.drew.heap.size from XB.out)
  first
    | go_region_held3 (fun W => W.cell? ⟨w.heap.size, 0, none⟩ = some (.int .i64 1) ∧ W.cell? ⟨w.heap.size, 1, none⟩ = some (.slice a1 n1 c1) ∧ W.cell? ⟨w.heap.size, 2, none⟩ = some (.slice a2 n2 c2) ∧ W.cell? ⟨w.heap.size, 3, none⟩ = some (.string (SL o.tree)) ∧ W.cell? ⟨w.heap.size, 4, none⟩ = some (.slice a3 n3 c3) ∧ W.cell? ⟨w.heap.size, 5, none⟩ = some (.string (SL o.target)) ∧ W.cell? ⟨w.heap.size, 6, none⟩ = some (.string (SL o.name)) ∧ W.cell? ⟨w.heap.size, 7, none⟩ = some (.string (SL o.who)) ∧ W.cell? ⟨w.heap.size, 8, none⟩ = some (.int .i64 z) ∧ W.cell? ⟨w.heap.size, 9, none⟩ = some (.string (SL o.text))) (first | exact ROW.out _ BB.out | exact ROW.out _ (BB.out.alloc XB.out _)) ((first
      | (go_at_call 29; refine (HBODY.out _).mono ?_; rintro e w3 ⟨rfl, b3⟩; have BB3 := Lib.hid b3; have BB := Lib.hid (show Below x W1 w3 by first | exact BB.out.trans (b3.mono XB.out) | exact (BB.out.alloc XB.out _).trans (b3.mono (by have h1 := XB.out; simp; omega))); have XB := Lib.hid (show x ≤ w3.heap.size by have := BB.out.size; have := HXS.out; omega); obtain ⟨r0, r1, r2, r3, r4, r5, r6, r7, r8, r9⟩ := ROW.out w3 BB.out; clear b3)
      | (go_at_call 118; refine (HLAY.out _ _ (by have := XB.out; first | omega | (simp; omega)) (by first | exact out_lit _ x 1 XB.out | exact own_below (out_lit w2.drew x 1 XB2.out) BB3.out) (by first | exact BL.out.trans ((BB.out.alloc XB.out _).mono (by have := HX.out; omega)) | exact BL.out.trans (BB.out.mono (by have := HX.out; omega)))).mono ?_; rintro e w4 ⟨v4, rfl, o4, t4⟩; have O4 := Lib.hid o4; have BB := Lib.hid (show Below x W1 w4 by first | exact (BB.out.alloc XB.out _).trans t4.below | exact BB.out.trans t4.below); clear o4 t4)))
    | fail "held"
  all_goals (go_wp2; go_ret2; exact ⟨_, rfl, own_down O4.out (by have := HX.out; omega), BL.out.trans (BB.out.mono (by have := HX.out; omega))⟩)
end Go.Proofs.Ytckbeeadkiiccaa
namespace Go.Proofs.Ytckbeeadkiiccaa
open Go.RowKit
set_option maxRecDepth 100000 in
set_option maxHeartbeats 8000000 in
theorem encode_2 (o : ObjR) (dv ev uv : Value) (w : World) (h : ObjIn w (fun k => k < w.heap.size + 1) o dv ev uv) (hok : okO o = true) (hkind : o.kind = 2) :
    Calls Try.prog 13 #[objV o dv ev uv] w fun e w' => ∃ v, e = .returned (.tuple #[v, .int .i64 0]) ∧ OutAt w.heap.size w' v (encO o) ∧ Below w.heap.size w w' := by
  have hck := fun (W : World) (hb : Below w.heap.size w W) => check_any _ o dv ev uv W (h.turn (Turn.of_below (fun _ => False) hb) (fun _ _ h => h))
  have herr : errO o = 0 := by unfold errO; rw [hok]; rfl
  rw [herr] at hck
  obtain ⟨a1, c1, B1, o1, rfl, hs1, _⟩ := h.data
  obtain ⟨a2, c2, g2, o2, rfl, hs2⟩ := h.ents
  obtain ⟨a3, c3, g3, o3, rfl, hs3⟩ := h.ups
  have hbody := fun W => bodyOf_any o a1 o.data.length c1 a2 o.ents.length c2 a3 o.ups.length c3 W
  have hV : bodyV o (.slice a1 o.data.length c1) (.slice a2 o.ents.length c2) (.slice a3 o.ups.length c3) = .iface 58 (.slice a2 o.ents.length c2) := by unfold bodyV; rw [if_neg (by omega), if_pos hkind]
  rw [hV] at hbody
  have hd : entsB o.ents = true := by
    have h1 := ok_two hkind
    rw [hok] at h1
    have h2 := h1.symm
    rw [Bool.and_eq_true] at h2
    exact h2.1
  have henc : encO o = [2] ++ bodyL o := by unfold encO; rw [hkind]; rfl
  have hbd : bodyL o = numL o.ents.length ++ (o.ents.map entL).flatten := by unfold bodyL; rw [if_neg (by omega), if_pos hkind]
  unfold objV at hck hbody ⊢
  have hlay := fun (W : World) (v : Value) (hb : w.heap.size + 1 ≤ W.heap.size) (hv : W.ownsRow (w.heap.size + 1) 5 1 v ([2] : OB).length (([2] : OB).map B8)) (hB : Below w.heap.size w W) => treeLay_any (w.heap.size + 1) v [2] a2 c2 g2 o2 o.ents W hb hv ((hs2.turn (Turn.of_below (fun _ => False) hB) (fun _ _ h => h)).turn (Turn.refl (fun _ => False) W) (fun _ _ h => h) |>.mono (fun k _ hk => hk)) hd (by simp)
  rw [hbd] at henc
  rw [← henc] at hlay
  obtain ⟨n1, hn1⟩ : ∃ n, n = o.data.length := ⟨_, rfl⟩
  obtain ⟨n2, hn2⟩ : ∃ n, n = o.ents.length := ⟨_, rfl⟩
  obtain ⟨n3, hn3⟩ : ∃ n, n = o.ups.length := ⟨_, rfl⟩
  rw [← hn1, ← hn2, ← hn3, hkind] at hck hbody ⊢
  rw [← hn2] at hlay
  obtain ⟨z, hz⟩ : ∃ z, z = o.stamp := ⟨_, rfl⟩
  rw [← hz] at hck hbody ⊢
  have hbl := (Below.refl w.heap.size w).alloc (Nat.le_refl _) (.cells #[.int .i64 2, .slice a1 n1 c1, .slice a2 n2 c2, .string (SL o.tree), .slice a3 n3 c3, .string (SL o.target), .string (SL o.name), .string (SL o.who), .int .i64 z, .string (SL o.text)] 26)
  obtain ⟨W1, hW1⟩ : ∃ W1, W1 = w.alloc (.cells #[.int .i64 2, .slice a1 n1 c1, .slice a2 n2 c2, .string (SL o.tree), .slice a3 n3 c3, .string (SL o.target), .string (SL o.name), .string (SL o.who), .int .i64 z, .string (SL o.text)] 26) := ⟨_, rfl⟩
  have hs1 : W1.heap.size = w.heap.size + 1 := by rw [hW1]; simp
  rw [← hW1] at hbl
  obtain ⟨x, hx⟩ : ∃ x, x = w.heap.size + 1 := ⟨_, rfl⟩
  have hxs : x = W1.heap.size := by omega
  have hrow : ∀ W, Below x W1 W → _ := fun W hb => obj_cells (below_turn (show Below W1.heap.size W1 W by rw [← hxs]; exact hb) (by rw [hW1]; exact heap_alloc_new w _))
  rw [← hx] at hlay
  have CK := Lib.hid (hck W1 hbl)
  have HBODY := Lib.hid hbody
  have HLAY := Lib.hid hlay
  have ROW := Lib.hid hrow
  have HW := Lib.hid hW1
  have BL := Lib.hid hbl
  have HX := Lib.hid hx
  have HXS := Lib.hid hxs
  obtain ⟨r0, r1, r2, r3, r4, r5, r6, r7, r8, r9⟩ := hrow W1 (Below.refl _ _)
  clear hck hbody hlay hrow hW1 hbl hx hxs hs1 hs2 hs3 hV hd henc hbd hn1 hn2 hn3 h hok herr hkind hz
  go_enter Try.func13, Try.ntmps13
  go_wp2_with fail
  rw [← HW.out]
  go_wp2_with (go_at_call 18; refine CK.out.mono ?_; rintro e w2 ⟨rfl, b2⟩; have BB := Lib.hid (b2.mono (Nat.le_of_eq HXS.out)); obtain ⟨r0, r1, r2, r3, r4, r5, r6, r7, r8, r9⟩ := ROW.out w2 BB.out; clear b2)
  have BB := Lib.hid BB.out.drew
  have XB := Lib.hid (show x ≤ w2.heap.size from (by have h1 : W1.heap.size ≤ w2.heap.size := BB.out.size; have := HXS.out; omega))
  have XB2 := Lib.hid (show x ≤ w2.drew.heap.size from XB.out)
  first
    | go_region_held3 (fun W => W.cell? ⟨w.heap.size, 0, none⟩ = some (.int .i64 2) ∧ W.cell? ⟨w.heap.size, 1, none⟩ = some (.slice a1 n1 c1) ∧ W.cell? ⟨w.heap.size, 2, none⟩ = some (.slice a2 n2 c2) ∧ W.cell? ⟨w.heap.size, 3, none⟩ = some (.string (SL o.tree)) ∧ W.cell? ⟨w.heap.size, 4, none⟩ = some (.slice a3 n3 c3) ∧ W.cell? ⟨w.heap.size, 5, none⟩ = some (.string (SL o.target)) ∧ W.cell? ⟨w.heap.size, 6, none⟩ = some (.string (SL o.name)) ∧ W.cell? ⟨w.heap.size, 7, none⟩ = some (.string (SL o.who)) ∧ W.cell? ⟨w.heap.size, 8, none⟩ = some (.int .i64 z) ∧ W.cell? ⟨w.heap.size, 9, none⟩ = some (.string (SL o.text))) (first | exact ROW.out _ BB.out | exact ROW.out _ (BB.out.alloc XB.out _)) ((first
      | (go_at_call 29; refine (HBODY.out _).mono ?_; rintro e w3 ⟨rfl, b3⟩; have BB3 := Lib.hid b3; have BB := Lib.hid (show Below x W1 w3 by first | exact BB.out.trans (b3.mono XB.out) | exact (BB.out.alloc XB.out _).trans (b3.mono (by have h1 := XB.out; simp; omega))); have XB := Lib.hid (show x ≤ w3.heap.size by have := BB.out.size; have := HXS.out; omega); obtain ⟨r0, r1, r2, r3, r4, r5, r6, r7, r8, r9⟩ := ROW.out w3 BB.out; clear b3)
      | (go_at_call 108; refine (HLAY.out _ _ (by have := XB.out; first | omega | (simp; omega)) (by first | exact out_lit _ x 2 XB.out | exact own_below (out_lit w2.drew x 2 XB2.out) BB3.out) (by first | exact BL.out.trans ((BB.out.alloc XB.out _).mono (by have := HX.out; omega)) | exact BL.out.trans (BB.out.mono (by have := HX.out; omega)))).mono ?_; rintro e w4 ⟨v4, rfl, o4, t4⟩; have O4 := Lib.hid o4; have BB := Lib.hid (show Below x W1 w4 by first | exact (BB.out.alloc XB.out _).trans t4.below | exact BB.out.trans t4.below); clear o4 t4)))
    | fail "held"
  all_goals (go_wp2; go_ret2; exact ⟨_, rfl, own_down O4.out (by have := HX.out; omega), BL.out.trans (BB.out.mono (by have := HX.out; omega))⟩)
end Go.Proofs.Ytckbeeadkiiccaa
namespace Go.Proofs.Ytckbeeadkiiccaa
open Go.RowKit
set_option maxRecDepth 100000 in
set_option maxHeartbeats 8000000 in
theorem encode_3 (o : ObjR) (dv ev uv : Value) (w : World) (h : ObjIn w (fun k => k < w.heap.size + 1) o dv ev uv) (hok : okO o = true) (hkind : o.kind = 3) :
    Calls Try.prog 13 #[objV o dv ev uv] w fun e w' => ∃ v, e = .returned (.tuple #[v, .int .i64 0]) ∧ OutAt w.heap.size w' v (encO o) ∧ Below w.heap.size w w' := by
  have hck := fun (W : World) (hb : Below w.heap.size w W) => check_any _ o dv ev uv W (h.turn (Turn.of_below (fun _ => False) hb) (fun _ _ h => h))
  have herr : errO o = 0 := by unfold errO; rw [hok]; rfl
  rw [herr] at hck
  obtain ⟨a1, c1, B1, o1, rfl, hs1, _⟩ := h.data
  obtain ⟨a2, c2, g2, o2, rfl, hs2⟩ := h.ents
  obtain ⟨a3, c3, g3, o3, rfl, hs3⟩ := h.ups
  have hbody := fun W => bodyOf_any o a1 o.data.length c1 a2 o.ents.length c2 a3 o.ups.length c3 W
  have hV : bodyV o (.slice a1 o.data.length c1) (.slice a2 o.ents.length c2) (.slice a3 o.ups.length c3) = .iface 63 (.agg #[.string (SL o.tree), .slice a3 o.ups.length c3, .string (SL o.who), .int .i64 o.stamp, .string (SL o.text)]) := by unfold bodyV; rw [if_neg (by omega), if_neg (by omega), if_pos hkind]
  rw [hV] at hbody
  have hd : (o.tree.length = 32 ∧ upsB o.ups = true) ∧ toldB o = true := by
    have h1 := ok_three hkind
    rw [hok] at h1
    have h2 := h1.symm
    simp only [Bool.and_eq_true, decide_eq_true_eq] at h2
    exact h2.1
  have henc : encO o = [3] ++ bodyL o := by unfold encO; rw [hkind]; rfl
  have hbd : bodyL o = o.tree ++ (numL o.ups.length ++ (o.ups.flatten ++ tailO o)) := by unfold bodyL; rw [if_neg (by omega), if_neg (by omega), if_pos hkind]
  unfold objV at hck hbody ⊢
  have hlay := fun (W : World) (v : Value) (hb : w.heap.size + 1 ≤ W.heap.size) (hv : W.ownsRow (w.heap.size + 1) 5 1 v ([3] : OB).length (([3] : OB).map B8)) (hB : Below w.heap.size w W) => commitLay_any (w.heap.size + 1) v [3] a3 c3 g3 o3 o W hb hv (hs3.turn (Turn.of_below (fun _ => False) hB) (fun _ _ h => h)) hd.1.1 hd.1.2 hd.2 (by simp)
  rw [hbd] at henc
  rw [← henc] at hlay
  obtain ⟨n1, hn1⟩ : ∃ n, n = o.data.length := ⟨_, rfl⟩
  obtain ⟨n2, hn2⟩ : ∃ n, n = o.ents.length := ⟨_, rfl⟩
  obtain ⟨n3, hn3⟩ : ∃ n, n = o.ups.length := ⟨_, rfl⟩
  rw [← hn1, ← hn2, ← hn3, hkind] at hck hbody ⊢
  rw [← hn3] at hlay
  obtain ⟨z, hz⟩ : ∃ z, z = o.stamp := ⟨_, rfl⟩
  rw [← hz] at hck hbody ⊢
  rw [← hz] at hlay
  have hbl := (Below.refl w.heap.size w).alloc (Nat.le_refl _) (.cells #[.int .i64 3, .slice a1 n1 c1, .slice a2 n2 c2, .string (SL o.tree), .slice a3 n3 c3, .string (SL o.target), .string (SL o.name), .string (SL o.who), .int .i64 z, .string (SL o.text)] 26)
  obtain ⟨W1, hW1⟩ : ∃ W1, W1 = w.alloc (.cells #[.int .i64 3, .slice a1 n1 c1, .slice a2 n2 c2, .string (SL o.tree), .slice a3 n3 c3, .string (SL o.target), .string (SL o.name), .string (SL o.who), .int .i64 z, .string (SL o.text)] 26) := ⟨_, rfl⟩
  have hs1 : W1.heap.size = w.heap.size + 1 := by rw [hW1]; simp
  rw [← hW1] at hbl
  obtain ⟨x, hx⟩ : ∃ x, x = w.heap.size + 1 := ⟨_, rfl⟩
  have hxs : x = W1.heap.size := by omega
  have hrow : ∀ W, Below x W1 W → _ := fun W hb => obj_cells (below_turn (show Below W1.heap.size W1 W by rw [← hxs]; exact hb) (by rw [hW1]; exact heap_alloc_new w _))
  rw [← hx] at hlay
  have CK := Lib.hid (hck W1 hbl)
  have HBODY := Lib.hid hbody
  have HLAY := Lib.hid hlay
  have ROW := Lib.hid hrow
  have HW := Lib.hid hW1
  have BL := Lib.hid hbl
  have HX := Lib.hid hx
  have HXS := Lib.hid hxs
  obtain ⟨r0, r1, r2, r3, r4, r5, r6, r7, r8, r9⟩ := hrow W1 (Below.refl _ _)
  clear hck hbody hlay hrow hW1 hbl hx hxs hs1 hs2 hs3 hV hd henc hbd hn1 hn2 hn3 h hok herr hkind hz
  go_enter Try.func13, Try.ntmps13
  go_wp2_with fail
  rw [← HW.out]
  go_wp2_with (go_at_call 18; refine CK.out.mono ?_; rintro e w2 ⟨rfl, b2⟩; have BB := Lib.hid (b2.mono (Nat.le_of_eq HXS.out)); obtain ⟨r0, r1, r2, r3, r4, r5, r6, r7, r8, r9⟩ := ROW.out w2 BB.out; clear b2)
  have BB := Lib.hid BB.out.drew
  have XB := Lib.hid (show x ≤ w2.heap.size from (by have h1 : W1.heap.size ≤ w2.heap.size := BB.out.size; have := HXS.out; omega))
  have XB2 := Lib.hid (show x ≤ w2.drew.heap.size from XB.out)
  first
    | go_region_held3 (fun W => W.cell? ⟨w.heap.size, 0, none⟩ = some (.int .i64 3) ∧ W.cell? ⟨w.heap.size, 1, none⟩ = some (.slice a1 n1 c1) ∧ W.cell? ⟨w.heap.size, 2, none⟩ = some (.slice a2 n2 c2) ∧ W.cell? ⟨w.heap.size, 3, none⟩ = some (.string (SL o.tree)) ∧ W.cell? ⟨w.heap.size, 4, none⟩ = some (.slice a3 n3 c3) ∧ W.cell? ⟨w.heap.size, 5, none⟩ = some (.string (SL o.target)) ∧ W.cell? ⟨w.heap.size, 6, none⟩ = some (.string (SL o.name)) ∧ W.cell? ⟨w.heap.size, 7, none⟩ = some (.string (SL o.who)) ∧ W.cell? ⟨w.heap.size, 8, none⟩ = some (.int .i64 z) ∧ W.cell? ⟨w.heap.size, 9, none⟩ = some (.string (SL o.text))) (first | exact ROW.out _ BB.out | exact ROW.out _ (BB.out.alloc XB.out _)) ((first
      | (go_at_call 29; refine (HBODY.out _).mono ?_; rintro e w3 ⟨rfl, b3⟩; have BB3 := Lib.hid b3; have BB := Lib.hid (show Below x W1 w3 by first | exact BB.out.trans (b3.mono XB.out) | exact (BB.out.alloc XB.out _).trans (b3.mono (by have h1 := XB.out; simp; omega))); have XB := Lib.hid (show x ≤ w3.heap.size by have := BB.out.size; have := HXS.out; omega); obtain ⟨r0, r1, r2, r3, r4, r5, r6, r7, r8, r9⟩ := ROW.out w3 BB.out; clear b3)
      | (go_at_call 116; refine (HLAY.out _ _ (by have := XB.out; first | omega | (simp; omega)) (by first | exact out_lit _ x 3 XB.out | exact own_below (out_lit w2.drew x 3 XB2.out) BB3.out) (by first | exact BL.out.trans ((BB.out.alloc XB.out _).mono (by have := HX.out; omega)) | exact BL.out.trans (BB.out.mono (by have := HX.out; omega)))).mono ?_; rintro e w4 ⟨v4, rfl, o4, t4⟩; have O4 := Lib.hid o4; have BB := Lib.hid (show Below x W1 w4 by first | exact (BB.out.alloc XB.out _).trans t4.below | exact BB.out.trans t4.below); clear o4 t4)))
    | fail "held"
  all_goals (go_wp2; go_ret2; exact ⟨_, rfl, own_down O4.out (by have := HX.out; omega), BL.out.trans (BB.out.mono (by have := HX.out; omega))⟩)
end Go.Proofs.Ytckbeeadkiiccaa
namespace Go.Proofs.Ytckbeeadkiiccaa
open Go.RowKit
set_option maxRecDepth 100000 in
set_option maxHeartbeats 8000000 in
theorem encode_4 (o : ObjR) (dv ev uv : Value) (w : World) (h : ObjIn w (fun k => k < w.heap.size + 1) o dv ev uv) (hok : okO o = true) (hkind : o.kind = 4) :
    Calls Try.prog 13 #[objV o dv ev uv] w fun e w' => ∃ v, e = .returned (.tuple #[v, .int .i64 0]) ∧ OutAt w.heap.size w' v (encO o) ∧ Below w.heap.size w w' := by
  have hck := fun (W : World) (hb : Below w.heap.size w W) => check_any _ o dv ev uv W (h.turn (Turn.of_below (fun _ => False) hb) (fun _ _ h => h))
  have herr : errO o = 0 := by unfold errO; rw [hok]; rfl
  rw [herr] at hck
  obtain ⟨a1, c1, B1, o1, rfl, hs1, _⟩ := h.data
  obtain ⟨a2, c2, g2, o2, rfl, hs2⟩ := h.ents
  obtain ⟨a3, c3, g3, o3, rfl, hs3⟩ := h.ups
  have hbody := fun W => bodyOf_any o a1 o.data.length c1 a2 o.ents.length c2 a3 o.ups.length c3 W
  have hV : bodyV o (.slice a1 o.data.length c1) (.slice a2 o.ents.length c2) (.slice a3 o.ups.length c3) = .iface 65 (.agg #[.string (SL o.target), .string (SL o.name), .string (SL o.who), .int .i64 o.stamp, .string (SL o.text)]) := by unfold bodyV; rw [if_neg (by omega), if_neg (by omega), if_neg (by omega), if_pos hkind]
  rw [hV] at hbody
  have hd : (o.target.length = 32 ∧ 1 ≤ o.name.length ∧ o.name.length ≤ 200) ∧ toldB o = true := by
    have h1 := ok_four hkind
    rw [hok] at h1
    have h2 := h1.symm
    simp only [Bool.and_eq_true, decide_eq_true_eq] at h2
    exact h2.1
  have henc : encO o = [4] ++ bodyL o := by unfold encO; rw [hkind]; rfl
  have hbd : bodyL o = o.target ++ (txtL o.name ++ tailO o) := by unfold bodyL; rw [if_neg (by omega), if_neg (by omega), if_neg (by omega)]
  unfold objV at hck hbody ⊢
  have hlay := fun (W : World) (v : Value) (hb : w.heap.size + 1 ≤ W.heap.size) (hv : W.ownsRow (w.heap.size + 1) 5 1 v ([4] : OB).length (([4] : OB).map B8)) (hB : Below w.heap.size w W) => tagLay_any (w.heap.size + 1) v [4] o W hb hv hd.1.1 hd.1.2.2 hd.2 (by simp)
  rw [hbd] at henc
  rw [← henc] at hlay
  obtain ⟨n1, hn1⟩ : ∃ n, n = o.data.length := ⟨_, rfl⟩
  obtain ⟨n2, hn2⟩ : ∃ n, n = o.ents.length := ⟨_, rfl⟩
  obtain ⟨n3, hn3⟩ : ∃ n, n = o.ups.length := ⟨_, rfl⟩
  rw [← hn1, ← hn2, ← hn3, hkind] at hck hbody ⊢
  obtain ⟨z, hz⟩ : ∃ z, z = o.stamp := ⟨_, rfl⟩
  rw [← hz] at hck hbody ⊢
  rw [← hz] at hlay
  have hbl := (Below.refl w.heap.size w).alloc (Nat.le_refl _) (.cells #[.int .i64 4, .slice a1 n1 c1, .slice a2 n2 c2, .string (SL o.tree), .slice a3 n3 c3, .string (SL o.target), .string (SL o.name), .string (SL o.who), .int .i64 z, .string (SL o.text)] 26)
  obtain ⟨W1, hW1⟩ : ∃ W1, W1 = w.alloc (.cells #[.int .i64 4, .slice a1 n1 c1, .slice a2 n2 c2, .string (SL o.tree), .slice a3 n3 c3, .string (SL o.target), .string (SL o.name), .string (SL o.who), .int .i64 z, .string (SL o.text)] 26) := ⟨_, rfl⟩
  have hs1 : W1.heap.size = w.heap.size + 1 := by rw [hW1]; simp
  rw [← hW1] at hbl
  obtain ⟨x, hx⟩ : ∃ x, x = w.heap.size + 1 := ⟨_, rfl⟩
  have hxs : x = W1.heap.size := by omega
  have hrow : ∀ W, Below x W1 W → _ := fun W hb => obj_cells (below_turn (show Below W1.heap.size W1 W by rw [← hxs]; exact hb) (by rw [hW1]; exact heap_alloc_new w _))
  rw [← hx] at hlay
  have CK := Lib.hid (hck W1 hbl)
  have HBODY := Lib.hid hbody
  have HLAY := Lib.hid hlay
  have ROW := Lib.hid hrow
  have HW := Lib.hid hW1
  have BL := Lib.hid hbl
  have HX := Lib.hid hx
  have HXS := Lib.hid hxs
  obtain ⟨r0, r1, r2, r3, r4, r5, r6, r7, r8, r9⟩ := hrow W1 (Below.refl _ _)
  clear hck hbody hlay hrow hW1 hbl hx hxs hs1 hs2 hs3 hV hd henc hbd hn1 hn2 hn3 h hok herr hkind hz
  go_enter Try.func13, Try.ntmps13
  go_wp2_with fail
  rw [← HW.out]
  go_wp2_with (go_at_call 18; refine CK.out.mono ?_; rintro e w2 ⟨rfl, b2⟩; have BB := Lib.hid (b2.mono (Nat.le_of_eq HXS.out)); obtain ⟨r0, r1, r2, r3, r4, r5, r6, r7, r8, r9⟩ := ROW.out w2 BB.out; clear b2)
  have BB := Lib.hid BB.out.drew
  have XB := Lib.hid (show x ≤ w2.heap.size from (by have h1 : W1.heap.size ≤ w2.heap.size := BB.out.size; have := HXS.out; omega))
  have XB2 := Lib.hid (show x ≤ w2.drew.heap.size from XB.out)
  first
    | go_region_held3 (fun W => W.cell? ⟨w.heap.size, 0, none⟩ = some (.int .i64 4) ∧ W.cell? ⟨w.heap.size, 1, none⟩ = some (.slice a1 n1 c1) ∧ W.cell? ⟨w.heap.size, 2, none⟩ = some (.slice a2 n2 c2) ∧ W.cell? ⟨w.heap.size, 3, none⟩ = some (.string (SL o.tree)) ∧ W.cell? ⟨w.heap.size, 4, none⟩ = some (.slice a3 n3 c3) ∧ W.cell? ⟨w.heap.size, 5, none⟩ = some (.string (SL o.target)) ∧ W.cell? ⟨w.heap.size, 6, none⟩ = some (.string (SL o.name)) ∧ W.cell? ⟨w.heap.size, 7, none⟩ = some (.string (SL o.who)) ∧ W.cell? ⟨w.heap.size, 8, none⟩ = some (.int .i64 z) ∧ W.cell? ⟨w.heap.size, 9, none⟩ = some (.string (SL o.text))) (first | exact ROW.out _ BB.out | exact ROW.out _ (BB.out.alloc XB.out _)) ((first
      | (go_at_call 29; refine (HBODY.out _).mono ?_; rintro e w3 ⟨rfl, b3⟩; have BB3 := Lib.hid b3; have BB := Lib.hid (show Below x W1 w3 by first | exact BB.out.trans (b3.mono XB.out) | exact (BB.out.alloc XB.out _).trans (b3.mono (by have h1 := XB.out; simp; omega))); have XB := Lib.hid (show x ≤ w3.heap.size by have := BB.out.size; have := HXS.out; omega); obtain ⟨r0, r1, r2, r3, r4, r5, r6, r7, r8, r9⟩ := ROW.out w3 BB.out; clear b3)
      | (go_at_call 117; refine (HLAY.out _ _ (by have := XB.out; first | omega | (simp; omega)) (by first | exact out_lit _ x 4 XB.out | exact own_below (out_lit w2.drew x 4 XB2.out) BB3.out) (by first | exact BL.out.trans ((BB.out.alloc XB.out _).mono (by have := HX.out; omega)) | exact BL.out.trans (BB.out.mono (by have := HX.out; omega)))).mono ?_; rintro e w4 ⟨v4, rfl, o4, t4⟩; have O4 := Lib.hid o4; have BB := Lib.hid (show Below x W1 w4 by first | exact (BB.out.alloc XB.out _).trans t4.below | exact BB.out.trans t4.below); clear o4 t4)))
    | fail "held"
  all_goals (go_wp2; go_ret2; exact ⟨_, rfl, own_down O4.out (by have := HX.out; omega), BL.out.trans (BB.out.mono (by have := HX.out; omega))⟩)
end Go.Proofs.Ytckbeeadkiiccaa
namespace Go.Proofs.Ytckbeeadkiiccaa
open Go.RowKit
theorem encode_any (F : Nat → Prop) (o : ObjR) (dv ev uv : Value) (w : World) (h : ObjIn w F o dv ev uv) :
    Calls Try.prog 13 #[objV o dv ev uv] w fun e w' => ∃ v, e = .returned (.tuple #[v, .int .i64 (errO o)]) ∧ OutAt w.heap.size w' v (bytesO o) ∧ Below w.heap.size w w' := by
  have h2 : ObjIn w (fun k => k < w.heap.size + 1) o dv ev uv := h.mono (fun k hk _ => by omega)
  cases hok : okO o with
  | false =>
    have e1 : errO o = 1 := by unfold errO; rw [hok]; rfl
    have e2 : bytesO o = [] := by unfold bytesO; rw [hok]; rfl
    rw [e1, e2]
    refine (encode_no F o dv ev uv w h hok).mono ?_
    rintro e w' ⟨he, hb⟩
    exact ⟨_, he, World.ownsRow_nil _ _ _ _, hb⟩
  | true =>
    have e1 : errO o = 0 := by unfold errO; rw [hok]; rfl
    have e2 : bytesO o = encO o := by unfold bytesO; rw [hok]; rfl
    rw [e1, e2]
    rcases kind_of_ok hok with hk | hk | hk | hk
    · exact encode_1 o dv ev uv w h2 hok hk
    · exact encode_2 o dv ev uv w h2 hok hk
    · exact encode_3 o dv ev uv w h2 hok hk
    · exact encode_4 o dv ev uv w h2 hok hk
set_option maxRecDepth 100000 in
set_option maxHeartbeats 1600000 in
theorem id_any (F : Nat → Prop) (o : ObjR) (dv ev uv : Value) (w : World) (h : ObjIn w F o dv ev uv) :
    Calls Try.prog 15 #[objV o dv ev uv] w fun e w' => e = .returned (.tuple #[.string (SL (idO o)), .int .i64 (errO o)]) ∧ Below w.heap.size w w' := by
  have hen := fun (W : World) (hb : Below w.heap.size w W) => encode_any F o dv ev uv W (h.turn (Turn.of_below (fun _ => False) hb) (fun _ _ h => h))
  obtain ⟨a1, c1, B1, o1, rfl, _, _⟩ := h.data
  obtain ⟨a2, c2, g2, o2, rfl, _⟩ := h.ents
  obtain ⟨a3, c3, g3, o3, rfl, _⟩ := h.ups
  unfold objV at hen ⊢
  obtain ⟨n1, hn1⟩ : ∃ n, n = o.data.length := ⟨_, rfl⟩
  obtain ⟨n2, hn2⟩ : ∃ n, n = o.ents.length := ⟨_, rfl⟩
  obtain ⟨n3, hn3⟩ : ∃ n, n = o.ups.length := ⟨_, rfl⟩
  rw [← hn1, ← hn2, ← hn3] at hen ⊢
  have hbl := (Below.refl w.heap.size w).alloc (Nat.le_refl _) (.cells #[.int .i64 o.kind, .slice a1 n1 c1, .slice a2 n2 c2, .string (SL o.tree), .slice a3 n3 c3, .string (SL o.target), .string (SL o.name), .string (SL o.who), .int .i64 o.stamp, .string (SL o.text)] 26)
  have BL := Lib.hid hbl
  cases hok : okO o with
  | false =>
    have e1 : errO o = 1 := by unfold errO; rw [hok]; rfl
    have e3 : idO o = [] := by unfold idO; rw [hok]; rfl
    rw [e1] at hen
    have HE := Lib.hid hen
    rw [e1, e3]
    clear hen hn1 hn2 hn3 hbl h hok e1 e3
    go_enter Try.func15, Try.ntmps15
    go_wp2_with (go_at_call 13; refine (HE.out _ BL.out).mono ?_; rintro e wn ⟨vn, rfl, _, bn⟩; have BL := Lib.hid (BL.out.trans (bn.mono BL.out.size)); clear bn)
    go_ret2
    exact ⟨rfl, BL.out⟩
  | true =>
    have e1 : errO o = 0 := by unfold errO; rw [hok]; rfl
    have e2 : bytesO o = encO o := by unfold bytesO; rw [hok]; rfl
    have e3 : idO o = sumL (encO o) := by unfold idO; rw [hok]; rfl
    have hlen := enc_length hok
    rw [e1, e2] at hen
    have HE := Lib.hid hen
    rw [e1, e3]
    obtain ⟨E, hE⟩ : ∃ E, E = encO o := ⟨_, rfl⟩
    rw [← hE] at HE hlen ⊢
    clear hen hn1 hn2 hn3 hbl h hok e1 e2 e3 hE
    go_enter Try.func15, Try.ntmps15
    go_wp2_with (first
      | (go_at_call 13; refine (HE.out _ BL.out).mono ?_; rintro e wn ⟨vn, rfl, on, bn⟩; obtain ⟨ao, cap, B, rfl, sn, _⟩ := OutAt.src on; have BL := Lib.hid (BL.out.trans (bn.mono BL.out.size)); have SN := Lib.hid sn; clear bn on sn)
      | (go_at_call 25; refine (sum_src _ SN.out (by omega)).mono ?_; rintro e wm ⟨rfl, bm⟩; have BL := Lib.hid (BL.out.trans (bm.mono BL.out.size)); clear bm))
    go_ret2
    exact ⟨rfl, BL.out⟩
end Go.Proofs.Ytckbeeadkiiccaa
