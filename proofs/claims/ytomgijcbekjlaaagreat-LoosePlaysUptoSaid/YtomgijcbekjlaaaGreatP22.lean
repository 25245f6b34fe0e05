/- What the proofs stand on: RefEncode. -/
import Derived.Deep.RegionHeld3
import Derived.Test.YtomgijcbekjlaaaGreatP9
import Derived.Test.YtomgijcbekjlaaaGreatPB0
import Derived.Test.YtomgijcbekjlaaaGreatPB1
set_option maxRecDepth 100000
set_option maxHeartbeats 40000000
namespace Go.Proofs.YtomgijcbekjlaaaGreat
section
open Go.RowKit
theorem refEncode_no (F : Nat -> Prop) (o : ObjR) (dv ev uv : Value) (w : World) (h : ObjIn w F o dv ev uv) (hf : ObjFits o) (hok : okO o = false) :
  Calls Tryz.prog 11 #[objV o dv ev uv] w fun e w' => e = .returned (.tuple #[.slice none 0 0, .int .i64 1]) /\ Below w.heap.size w w' := by
 have hck := fun (W : World) (hb : Below w.heap.size w W) => refCheck_any F o dv ev uv W (h.turn (Turn.of_below (fun _ => False) hb) (fun _ _ h => h)) hf
 have hin := fun (W : World) (hb : Below w.heap.size w W) => h.turn (Turn.of_below (fun _ => False) hb) (fun _ _ h => h)
 have herr : errO o = 1 := by unfold errO; rw [hok]; rfl
 rw [herr] at hck; obtain ⟨a1, c1, B1, o1, rfl, _, _⟩ := h.data; obtain ⟨a2, c2, g2, o2, rfl, _⟩ := h.ents; obtain ⟨a3, c3, g3, o3, rfl, _⟩ := h.ups; unfold objV at hck |-
 obtain ⟨n1, hn1⟩ := nm_ (o.data.length); obtain ⟨n2, hn2⟩ := nm_ (o.ents.length); obtain ⟨n3, hn3⟩ := nm_ (o.ups.length); obtain ⟨z, hz⟩ := nm_ (o.stamp); rw [<- hn1, <- hn2, <- hn3, <- hz] at hck |-; rw [<- hn1, <- hn2, <- hn3] at hin; have HIN := h_ hin; have HCK := h_ hck; have H1 := h_ hn1; have H2 := h_ hn2; have H3 := h_ hn3; have HZ := h_ hz; have hbl := (Below.refl w.heap.size w).alloc (Nat.le_refl _) (.cells #[.int .i64 o.kind, .slice a1 n1 c1, .slice a2 n2 c2, .string (SL o.tree), .slice a3 n3 c3, .string (SL o.target), .string (SL o.name), .string (SL o.who), .int .i64 z, .string (SL o.text)] 33); have BL := h_ hbl; clear hck hin hn1 hn2 hn3 hz hbl h hok herr; go_enter Tryz.func11, Tryz.ntmps11; go_wp2_with (go_at_call 42; refine (HCK.out _ BL.out).mono ?_; rintro e wn ⟨rfl, bn⟩; have BL := h_ (BL.out.trans (bn.mono BL.out.size)); clear bn)
 go_ret2; exact ⟨rfl, BL.out⟩
theorem lit_bytes (w : World) (c : UInt8) : BytesAt (w.alloc (.cells #[B8 c] 5)) (fun _ => True) (.slice (some ⟨w.heap.size, 0, none⟩) 1 1) [c] := by
 have h := OutAt.src (out_lit w 0 c (Nat.zero_le _)); obtain ⟨ao, cap, B, e, hs, _⟩ := h; exact ⟨ao, cap, B, 0, e, hs, fun _ => trivial⟩
theorem refEncode_1 (F : Nat -> Prop) (o : ObjR) (dv ev uv : Value) (w : World) (h : ObjIn w F o dv ev uv) (hf : ObjFits o) (hok : okO o = true) (hkind : o.kind = 1) :
  Calls Tryz.prog 11 #[objV o dv ev uv] w fun e w' => ∃ v, e = .returned (.tuple #[v, .int .i64 0]) /\ OutAt w.heap.size w' v (encO o) /\ Below w.heap.size w w' := by
 have hck := fun (W : World) (hb : Below w.heap.size w W) => refCheck_any F o dv ev uv W (h.turn (Turn.of_below (fun _ => False) hb) (fun _ _ h => h)) hf
 have hin := fun (W : World) (hb : Below w.heap.size w W) => h.turn (Turn.of_below (fun _ => False) hb) (fun _ _ h => h)
 have herr : errO o = 0 := by unfold errO; rw [hok]; rfl
 rw [herr] at hck; obtain ⟨a1, c1, B1, o1, rfl, _, _⟩ := h.data; obtain ⟨a2, c2, g2, o2, rfl, _⟩ := h.ents; obtain ⟨a3, c3, g3, o3, rfl, _⟩ := h.ups; unfold objV at hck |-
 obtain ⟨n1, hn1⟩ := nm_ (o.data.length); obtain ⟨n2, hn2⟩ := nm_ (o.ents.length); obtain ⟨n3, hn3⟩ := nm_ (o.ups.length); obtain ⟨z, hz⟩ := nm_ (o.stamp); rw [<- hn1, <- hn2, <- hn3, <- hz] at hck |-; rw [<- hn1, <- hn2, <- hn3] at hin; have HIN := h_ hin; have HCK := h_ hck; have H1 := h_ hn1; have H2 := h_ hn2; have H3 := h_ hn3; have HZ := h_ hz; rw [hkind] at hck HCK |-; obtain ⟨W1, hW1⟩ : ∃ W1, w.alloc (.cells #[.int .i64 1, .slice a1 n1 c1, .slice a2 n2 c2, .string (SL o.tree), .slice a3 n3 c3, .string (SL o.target), .string (SL o.name), .string (SL o.who), .int .i64 z, .string (SL o.text)] 33) = W1 := ⟨_, rfl⟩
 have hs1 : W1.heap.size = w.heap.size + 1 := by rw [<- hW1]; simp
 have hbl : Below w.heap.size w W1 := by rw [<- hW1]; exact (Below.refl w.heap.size w).alloc (Nat.le_refl _) _
 have hrow : ∀ W : World, Below W1.heap.size W1 W -> W.heap[w.heap.size]? = some (.cells #[.int .i64 1, .slice a1 n1 c1, .slice a2 n2 c2, .string (SL o.tree), .slice a3 n3 c3, .string (SL o.target), .string (SL o.name), .string (SL o.who), .int .i64 z, .string (SL o.text)] 33 (0, 0)) := fun W hb => by
  rw [hb.block w.heap.size (by omega), <- hW1]
  exact heap_alloc_new w _
 obtain ⟨x, hx⟩ := nm_ (w.heap.size + 1); have hxs : x = W1.heap.size := by omega
 have r := obj_cells (hrow W1 (Below.refl _ _)); obtain ⟨r0, r1, r2, r3, r4, r5, r6, r7, r8, r9⟩ := r; have ROW := h_ (fun (W : World) (hb : Below x W1 W) => obj_cells (hrow W (by rw [<- hxs]; exact hb)))
 have LIT := h_ (fun (W : World) (hb : Below x W1 W) => (show OutAt x (W.alloc (.cells #[.int .u8 1] 5)) (.slice (some ⟨W.heap.size, 0, none⟩) 1 1) [1] from out_lit W x 1 (by have := hb.size; omega)))
 have CK := h_ (hck W1 hbl); have BL := h_ hbl; have HX := h_ hx; have HXS := h_ hxs; have HW := h_ hW1; have QQ : Hid (o.data.length <= 1048576) := h_ (by
  have h1 := ok_one hkind; rw [hok] at h1; have h2 := h1.symm; rw [Bool.and_eq_true, decide_eq_true_eq] at h2; exact h2.1)
 have henc : encO o = [1] ++ o.data := by
  unfold encO bodyL; rw [hkind]; rfl
 have HENC := h_ henc; clear hck hin hn1 hn2 hn3 hz hbl h hok herr hkind hrow hxs hx hW1 hs1 henc HCK; go_enter Tryz.func11, Tryz.ntmps11; go_wp2_with fail; rw [HW.out]
 go_wp2_with (first | (go_at_call 42; refine CK.out.mono ?_; rintro e w2 ⟨rfl, b2⟩; have BB := h_ (b2.mono (Nat.le_of_eq HXS.out)); obtain ⟨r0, r1, r2, r3, r4, r5, r6, r7, r8, r9⟩ := ROW.out w2 BB.out; have O := h_ (LIT.out w2 BB.out); have BB := h_ (BB.out.alloc (by have := BB.out.size; have := HXS.out; omega) (.cells #[.int .u8 1] 5)); obtain ⟨s0, s1, s2, s3, s4, s5, s6, s7, s8, s9⟩ := ROW.out _ BB.out; clear b2) | (at_builtin; refine wpList_out_bytes rfl _ _ rfl x _ _ rfl O F _ _ ((HIN.out _ (BL.out.trans (BB.out.mono (by have := HX.out; omega)))).data) rfl (by simp; have := QQ.out; omega) (by have := BB.out.size; have := HXS.out; omega) ?_; intro vi wi oi bi; have BB := h_ (BB.out.trans bi.out); obtain ⟨r0, r1, r2, r3, r4, r5, r6, r7, r8, r9⟩ := ROW.out wi BB.out; have O := oi; clear bi oi))
 go_ret2; refine ⟨_, rfl, ?_, BL.out.trans (BB.out.mono (by have := HX.out; omega))⟩
 rw [HENC.out]; exact own_down O.out (by have := HX.out; omega)
theorem refEncode_2 (F : Nat -> Prop) (o : ObjR) (dv ev uv : Value) (w : World) (h : ObjIn w F o dv ev uv) (hf : ObjFits o) (hok : okO o = true) (hkind : o.kind = 2) :
  Calls Tryz.prog 11 #[objV o dv ev uv] w fun e w' => ∃ v, e = .returned (.tuple #[v, .int .i64 0]) /\ OutAt w.heap.size w' v (encO o) /\ Below w.heap.size w w' := by
 have hck := fun (W : World) (hb : Below w.heap.size w W) => refCheck_any F o dv ev uv W (h.turn (Turn.of_below (fun _ => False) hb) (fun _ _ h => h)) hf
 have hin := fun (W : World) (hb : Below w.heap.size w W) => h.turn (Turn.of_below (fun _ => False) hb) (fun _ _ h => h)
 have herr : errO o = 0 := by unfold errO; rw [hok]; rfl
 rw [herr] at hck; obtain ⟨a1, c1, B1, o1, rfl, _, _⟩ := h.data; obtain ⟨a2, c2, g2, o2, rfl, hs2⟩ := h.ents; obtain ⟨a3, c3, g3, o3, rfl, _⟩ := h.ups; unfold objV at hck |-
 obtain ⟨n1, hn1⟩ := nm_ (o.data.length); obtain ⟨n2, hn2⟩ := nm_ (o.ents.length); obtain ⟨n3, hn3⟩ := nm_ (o.ups.length); obtain ⟨z, hz⟩ := nm_ (o.stamp); rw [<- hn1, <- hn2, <- hn3, <- hz] at hck |-; rw [<- hn1, <- hn2, <- hn3] at hin; have HIN := h_ hin; have HCK := h_ hck; have H1 := h_ hn1; have H2 := h_ hn2; have H3 := h_ hn3; have HZ := h_ hz; rw [hkind] at hck HCK |-; obtain ⟨W1, hW1⟩ : ∃ W1, w.alloc (.cells #[.int .i64 2, .slice a1 n1 c1, .slice a2 n2 c2, .string (SL o.tree), .slice a3 n3 c3, .string (SL o.target), .string (SL o.name), .string (SL o.who), .int .i64 z, .string (SL o.text)] 33) = W1 := ⟨_, rfl⟩
 have hs1 : W1.heap.size = w.heap.size + 1 := by rw [<- hW1]; simp
 have hbl : Below w.heap.size w W1 := by rw [<- hW1]; exact (Below.refl w.heap.size w).alloc (Nat.le_refl _) _
 have hrow : ∀ W : World, Below W1.heap.size W1 W -> W.heap[w.heap.size]? = some (.cells #[.int .i64 2, .slice a1 n1 c1, .slice a2 n2 c2, .string (SL o.tree), .slice a3 n3 c3, .string (SL o.target), .string (SL o.name), .string (SL o.who), .int .i64 z, .string (SL o.text)] 33 (0, 0)) := fun W hb => by
  rw [hb.block w.heap.size (by omega), <- hW1]
  exact heap_alloc_new w _
 obtain ⟨x, hx⟩ := nm_ (w.heap.size + 1); have hxs : x = W1.heap.size := by omega
 have r := obj_cells (hrow W1 (Below.refl _ _)); obtain ⟨r0, r1, r2, r3, r4, r5, r6, r7, r8, r9⟩ := r; have ROW := h_ (fun (W : World) (hb : Below x W1 W) => obj_cells (hrow W (by rw [<- hxs]; exact hb)))
 have LIT := h_ (fun (W : World) (hb : Below x W1 W) => (show OutAt x (W.alloc (.cells #[.int .u8 2] 5)) (.slice (some ⟨W.heap.size, 0, none⟩) 1 1) [2] from out_lit W x 2 (by have := hb.size; omega)))
 have CK := h_ (hck W1 hbl); have BL := h_ hbl; have HX := h_ hx; have HXS := h_ hxs; have HW := h_ hW1; have hq : entsB o.ents = true := by
  have h1 := ok_two hkind; rw [hok] at h1; have h2 := h1.symm; rw [Bool.and_eq_true] at h2; exact h2.1
 obtain ⟨he1, he2⟩ := ents_is hq; have hel : ∀ e ∈ o.ents, e.nm.length <= 100 /\ e.id.length = 32 := fun e he => by
  have h1 := List.all_eq_true.1 he1 e he; unfold entB partB at h1; simp only [Bool.and_eq_true, decide_eq_true_eq] at h1; omega
 have QQ : Hid (n2 <= 4096 /\ ∀ e ∈ o.ents, e.nm.length <= 100 /\ e.id.length = 32) := h_ ⟨by omega, hel⟩
 have FL : Hid (∀ k, (((o.ents.take k).map entL).flatten).length <= 1000000) := h_ (fun k => by
  have h2 : ∀ l : List EntR, (∀ e ∈ l, e.nm.length <= 100 /\ e.id.length = 32) -> ((l.map entL).flatten).length <= 142 * l.length := fun l => by
   induction l with
   | nil => intro _; simp
   | cons a r ih =>
    intro h
    have h3 := ih fun e he => h e (List.mem_cons_of_mem _ he)
    have h4 := h a List.mem_cons_self; have h5 := numL_le a.nm.length; have h6 : (entL a).length = (numL a.nm.length).length + a.nm.length + (1 + a.id.length) := by
     unfold entL txtL; simp only [List.length_append, List.length_cons]; omega
    rw [List.map_cons, List.flatten_cons, List.length_append, List.length_cons, h6]; omega
  have h3 := h2 (o.ents.take k) (fun e he => hel e (List.mem_of_mem_take he))
  have h4 : (o.ents.take k).length <= 4096 := by rw [List.length_take]; omega
  omega)
 have ENC : Hid (∀ W : World, Below w.heap.size w W -> ∀ k e, o.ents[k]? = some e -> k < n2 -> a2 = some ⟨g2, o2, none⟩ /\ W.cell? ⟨g2, o2 + k * 3, none⟩ = some (.string (SL e.nm)) /\ W.cell? ⟨g2, o2 + k * 3 + 1, none⟩ = some (.bool e.dir) /\ W.cell? ⟨g2, o2 + k * 3 + 2, none⟩ = some (.string (SL e.id))) := h_ (fun W hb k e he hk =>
  (hs2.turn (Turn.of_below (fun _ => False) hb) (fun _ _ h => h)).entry he (by omega))
 have henc : encO o = [2] ++ numL n2 ++ (o.ents.map entL).flatten := by
  unfold encO bodyL; rw [hkind, <- hn2]; rfl
 have HENC := h_ henc; have hn24 : n2 <= 4096 := QQ.out.1
 clear hck hin hn1 hn2 hn3 hz hbl h hok herr hkind hrow hxs hx hW1 hs1 henc HCK HIN hq he1 he2 hel hs2 H1 H3; go_enter Tryz.func11, Tryz.ntmps11; go_wp2_with fail; rw [HW.out]
 go_wp2_with (first | (go_at_call 42; refine CK.out.mono ?_; rintro e w2 ⟨rfl, b2⟩; have BB := h_ (b2.mono (Nat.le_of_eq HXS.out)); obtain ⟨r0, r1, r2, r3, r4, r5, r6, r7, r8, r9⟩ := ROW.out w2 BB.out; have O := h_ (LIT.out w2 BB.out); have BB := h_ (BB.out.alloc (by have := BB.out.size; have := HXS.out; omega) (.cells #[.int .u8 2] 5)); obtain ⟨s0, s1, s2, s3, s4, s5, s6, s7, s8, s9⟩ := ROW.out _ BB.out; clear b2) | (go_at_call 43; refine (putNum_out O (by have := BB.out.size; have := HXS.out; omega) (by simp) _ (by omega)).mono ?_; rintro e wi ⟨vi, rfl, oi, bi⟩; have BB := h_ (BB.out.trans (bi.out.mono (by have := BB.out.size; have := HXS.out; omega))); obtain ⟨r0, r1, r2, r3, r4, r5, r6, r7, r8, r9⟩ := ROW.out wi BB.out; have O := oi; clear bi oi))
 go_loopw [4, 5, 6] (fun ov i dd W => ∃ (k : Nat), i = .int .i64 (k : Int) /\ k <= n2 /\ dd = dd /\ Hid (OutAt x W ov ([2] ++ numL n2 ++ ((o.ents.take k).map entL).flatten)) /\ Below x W1 W) (fun _ i _ _ => n2 - (intOf i).toNat)
 case atStart => exact ⟨0, rfl, Nat.zero_le _, rfl, by simpa using O, BB.out⟩
 case round =>
  clear O BB r0 r1 r2 r3 r4 r5 r6 r7 r8 r9; obtain ⟨k, rfl, hk, _, hO, hB⟩ := hrel; have O := hO; have BB := h_ hB; have BW := h_ (BL.out.trans (hB.mono (by have := HX.out; omega)))
  obtain ⟨r0, r1, r2, r3, r4, r5, r6, r7, r8, r9⟩ := ROW.out wr hB; clear hO hB; by_cases hlt : k < n2
  ·have i0 : (0 : Int) <= (k : Int) := by omega
   have i1 : (k : Int) < (n2 : Int) := by omega
   obtain ⟨e, he⟩ : ∃ e, o.ents[k]? = some e := ⟨_, List.getElem?_eq_getElem (by rw [<- H2.out]; exact hlt)⟩
   have NB := h_ (QQ.out.2 e (List.mem_of_getElem? he)); have HEE := h_ he; obtain ⟨rfl, c0, c1', c2'⟩ := ENC.out wr BW.out k e he hlt; have ENK := h_ (fun (W : World) (hb : Below w.heap.size w W) => (ENC.out W hb k e he hlt).2)
   have htk : ∀ d : UInt8, (if e.dir = true then (1 : UInt8) else 0) = d -> [2] ++ numL n2 ++ ((o.ents.take k).map entL).flatten ++ txtL e.nm ++ [d] ++ e.id = [2] ++ numL n2 ++ ((o.ents.take (k + 1)).map entL).flatten := fun d hd => by
    rw [List.take_add_one, he]; unfold entL; simp [hd]
   have HTK := h_ htk; clear he htk; obtain ⟨dr, hdr⟩ := nm_ (e.dir); rw [<- hdr] at c1' ENK HTK; clear hdr
   cases dr with
   | true =>
    go_wp2_with (first | (go_at_call 44; refine (putText_out O (by have := BB.out.size; have := HXS.out; omega) _ (by simp; have q1 := numL_le n2; have q5 := FL.out k; have q6 := NB.out; simp at q5; omega)).mono ?_; rintro e wi ⟨vi, rfl, oi, bi⟩; have BB := h_ (BB.out.trans (bi.out.mono (by have := BB.out.size; have := HXS.out; omega))); obtain ⟨r0, r1, r2, r3, r4, r5, r6, r7, r8, r9⟩ := ROW.out wi BB.out; have O := oi; obtain ⟨c0, c1', c2'⟩ := ENK.out wi (BL.out.trans (BB.out.mono (by have := HX.out; omega))); clear bi oi) | (at_builtin; refine wpList_out_bytes rfl _ _ rfl x _ _ rfl (h_ (O.out.below ((Below.refl _ _).alloc (Nat.le_refl _) _))) (fun _ => True) _ [1] (lit_bytes _ 1) rfl (by simp [txtL]; have q1 := numL_le n2; have q2 := numL_le e.nm.length; have q5 := FL.out k; have q6 := NB.out; simp at q5; omega) (by have := BB.out.size; have := HXS.out; simp; omega) ?_; intro vi wi oi bi; have BB := h_ ((BB.out.alloc (by have := BB.out.size; have := HXS.out; omega) _).trans bi.out); obtain ⟨r0, r1, r2, r3, r4, r5, r6, r7, r8, r9⟩ := ROW.out wi BB.out; obtain ⟨c0, c1', c2'⟩ := ENK.out wi (BL.out.trans (BB.out.mono (by have := HX.out; omega))); have O := oi; clear bi oi) | (at_builtin; refine wpList_out_string rfl _ _ rfl x _ _ rfl O _ rfl (by simp [txtL]; have q1 := numL_le n2; have q2 := numL_le e.nm.length; have q5 := FL.out k; have q6 := NB.out; simp at q5; omega) (by have := BB.out.size; have := HXS.out; omega) ?_; intro vi wi oi bi; have BB := h_ (BB.out.trans bi.out); obtain ⟨r0, r1, r2, r3, r4, r5, r6, r7, r8, r9⟩ := ROW.out wi BB.out; have O := oi; clear bi oi))
    go_roundw
    case rel => exact ⟨k + 1, by go_num, by omega, trivial, by rw [<- HTK.out 1 rfl]; exact O, BB.out⟩
    case measure => simp [intOf]; omega
   | false =>
    go_wp2_with (first | (go_at_call 44; refine (putText_out O (by have := BB.out.size; have := HXS.out; omega) _ (by simp; have q1 := numL_le n2; have q5 := FL.out k; have q6 := NB.out; simp at q5; omega)).mono ?_; rintro e wi ⟨vi, rfl, oi, bi⟩; have BB := h_ (BB.out.trans (bi.out.mono (by have := BB.out.size; have := HXS.out; omega))); obtain ⟨r0, r1, r2, r3, r4, r5, r6, r7, r8, r9⟩ := ROW.out wi BB.out; have O := oi; obtain ⟨c0, c1', c2'⟩ := ENK.out wi (BL.out.trans (BB.out.mono (by have := HX.out; omega))); clear bi oi) | (at_builtin; refine wpList_out_bytes rfl _ _ rfl x _ _ rfl (h_ (O.out.below ((Below.refl _ _).alloc (Nat.le_refl _) _))) (fun _ => True) _ [0] (lit_bytes _ 0) rfl (by simp [txtL]; have q1 := numL_le n2; have q2 := numL_le e.nm.length; have q5 := FL.out k; have q6 := NB.out; simp at q5; omega) (by have := BB.out.size; have := HXS.out; simp; omega) ?_; intro vi wi oi bi; have BB := h_ ((BB.out.alloc (by have := BB.out.size; have := HXS.out; omega) _).trans bi.out); obtain ⟨r0, r1, r2, r3, r4, r5, r6, r7, r8, r9⟩ := ROW.out wi BB.out; obtain ⟨c0, c1', c2'⟩ := ENK.out wi (BL.out.trans (BB.out.mono (by have := HX.out; omega))); have O := oi; clear bi oi) | (at_builtin; refine wpList_out_string rfl _ _ rfl x _ _ rfl O _ rfl (by simp [txtL]; have q1 := numL_le n2; have q2 := numL_le e.nm.length; have q5 := FL.out k; have q6 := NB.out; simp at q5; omega) (by have := BB.out.size; have := HXS.out; omega) ?_; intro vi wi oi bi; have BB := h_ (BB.out.trans bi.out); obtain ⟨r0, r1, r2, r3, r4, r5, r6, r7, r8, r9⟩ := ROW.out wi BB.out; have O := oi; clear bi oi))
    go_roundw
    case rel => exact ⟨k + 1, by go_num, by omega, trivial, by rw [<- HTK.out 0 rfl]; exact O, BB.out⟩
    case measure => simp [intOf]; omega
  ·obtain rfl : k = n2 := by omega
   have i1 : ¬ (k : Int) < (k : Int) := by omega
   rw [List.take_of_length_le (by rw [H2.out]; exact Nat.le_refl _)] at O
   go_wp2; go_ret2; refine ⟨_, rfl, ?_, BL.out.trans (BB.out.mono (by have := HX.out; omega))⟩
   rw [HENC.out]; exact own_down O.out (by have := HX.out; omega)
theorem refEncode_3 (F : Nat -> Prop) (o : ObjR) (dv ev uv : Value) (w : World) (h : ObjIn w F o dv ev uv) (hf : ObjFits o) (hok : okO o = true) (hkind : o.kind = 3) :
  Calls Tryz.prog 11 #[objV o dv ev uv] w fun e w' => ∃ v, e = .returned (.tuple #[v, .int .i64 0]) /\ OutAt w.heap.size w' v (encO o) /\ Below w.heap.size w w' := by
 have hck := fun (W : World) (hb : Below w.heap.size w W) => refCheck_any F o dv ev uv W (h.turn (Turn.of_below (fun _ => False) hb) (fun _ _ h => h)) hf
 have hin := fun (W : World) (hb : Below w.heap.size w W) => h.turn (Turn.of_below (fun _ => False) hb) (fun _ _ h => h)
 have herr : errO o = 0 := by unfold errO; rw [hok]; rfl
 rw [herr] at hck; obtain ⟨a1, c1, B1, o1, rfl, _, _⟩ := h.data; obtain ⟨a2, c2, g2, o2, rfl, _⟩ := h.ents; obtain ⟨a3, c3, g3, o3, rfl, hs3⟩ := h.ups; unfold objV at hck |-
 obtain ⟨n1, hn1⟩ := nm_ (o.data.length); obtain ⟨n2, hn2⟩ := nm_ (o.ents.length); obtain ⟨n3, hn3⟩ := nm_ (o.ups.length); obtain ⟨z, hz⟩ := nm_ (o.stamp); rw [<- hn1, <- hn2, <- hn3, <- hz] at hck |-; rw [<- hn1, <- hn2, <- hn3] at hin; have HIN := h_ hin; have HCK := h_ hck; have H1 := h_ hn1; have H2 := h_ hn2; have H3 := h_ hn3; have HZ := h_ hz; rw [hkind] at hck HCK |-; obtain ⟨W1, hW1⟩ : ∃ W1, w.alloc (.cells #[.int .i64 3, .slice a1 n1 c1, .slice a2 n2 c2, .string (SL o.tree), .slice a3 n3 c3, .string (SL o.target), .string (SL o.name), .string (SL o.who), .int .i64 z, .string (SL o.text)] 33) = W1 := ⟨_, rfl⟩
 have hs1 : W1.heap.size = w.heap.size + 1 := by rw [<- hW1]; simp
 have hbl : Below w.heap.size w W1 := by rw [<- hW1]; exact (Below.refl w.heap.size w).alloc (Nat.le_refl _) _
 have hrow : ∀ W : World, Below W1.heap.size W1 W -> W.heap[w.heap.size]? = some (.cells #[.int .i64 3, .slice a1 n1 c1, .slice a2 n2 c2, .string (SL o.tree), .slice a3 n3 c3, .string (SL o.target), .string (SL o.name), .string (SL o.who), .int .i64 z, .string (SL o.text)] 33 (0, 0)) := fun W hb => by
  rw [hb.block w.heap.size (by omega), <- hW1]
  exact heap_alloc_new w _
 obtain ⟨x, hx⟩ := nm_ (w.heap.size + 1); have hxs : x = W1.heap.size := by omega
 have r := obj_cells (hrow W1 (Below.refl _ _)); obtain ⟨r0, r1, r2, r3, r4, r5, r6, r7, r8, r9⟩ := r; have ROW := h_ (fun (W : World) (hb : Below x W1 W) => obj_cells (hrow W (by rw [<- hxs]; exact hb)))
 have LIT := h_ (fun (W : World) (hb : Below x W1 W) => (show OutAt x (W.alloc (.cells #[.int .u8 3] 5)) (.slice (some ⟨W.heap.size, 0, none⟩) 1 1) [3] from out_lit W x 3 (by have := hb.size; omega)))
 have CK := h_ (hck W1 hbl); have BL := h_ hbl; have HX := h_ hx; have HXS := h_ hxs; have HW := h_ hW1; obtain ⟨m, hm⟩ : ∃ m : Nat, z = (m : Int) := ⟨z.toNat, by
  rcases ok_cases hok with ⟨d, hd, e⟩ | ⟨l, hl, e⟩ | ⟨e, h1, h2, h3⟩ | ⟨e, h1, h2, h2', h3⟩
  ·rw [e] at hkind; cases hkind
  ·rw [e] at hkind; cases hkind
  ·have := (told_is h3).2.2.1; omega
  ·rw [e] at hkind; cases hkind⟩
 have hq : o.tree.length = 32 /\ upsB o.ups = true /\ o.who.length <= 1000 /\ o.text.length <= 1000 /\ m <= 1099511627776 := by
  rcases ok_cases hok with ⟨d, hd, e⟩ | ⟨l, hl, e⟩ | ⟨e, h1, h2, h3⟩ | ⟨e, h1, h2, h2', h3⟩
  ·rw [e] at hkind; cases hkind
  ·rw [e] at hkind; cases hkind
  ·have := told_is h3; exact ⟨h1, h2, this.1, this.2.1, by omega⟩
  ·rw [e] at hkind; cases hkind
 obtain ⟨hu1, hu2⟩ := ups_is hq.2.1; have QQ : Hid (o.tree.length = 32 /\ n3 <= 4 /\ o.who.length <= 1000 /\ o.text.length <= 1000 /\ m <= 1099511627776 /\ ∀ t ∈ o.ups, t.length = 32) := h_ ⟨hq.1, by omega, hq.2.2.1, hq.2.2.2.1, hq.2.2.2.2, fun t ht => by simpa using List.all_eq_true.1 hu1 t ht⟩
 have FL : Hid (∀ k, ((o.ups.take k).flatten).length <= 128) := h_ (fun k => by
  have h1 := flat_take_le o.ups k; have h2 : ∀ l : List OB, l.all (fun u => decide (u.length = 32)) = true -> l.flatten.length = 32 * l.length := fun l => by
   induction l with
   | nil => intro _; rfl
   | cons a r ih =>
    intro h
    rw [List.all_cons, Bool.and_eq_true, decide_eq_true_eq] at h; rw [List.flatten_cons, List.length_append, ih h.2, h.1, List.length_cons]; omega
  have h3 := h2 o.ups hu1; omega)
 have UPC : Hid (∀ W : World, Below w.heap.size w W -> ∀ k t, o.ups[k]? = some t -> k < n3 -> a3 = some ⟨g3, o3, none⟩ /\ W.cell? ⟨g3, o3 + k, none⟩ = some (.string (SL t))) := h_ (fun W hb k t ht hk => by
  have h1 := (hs3.turn (Turn.of_below (fun _ => False) hb) (fun _ _ h => h)).text ht (by omega)
  exact h1)
 have henc : encO o = [3] ++ o.tree ++ numL n3 ++ o.ups.flatten ++ txtL o.who ++ numL m ++ txtL o.text := by
  have hmz : o.stamp.toNat = m := by omega
  unfold encO bodyL tailO; rw [hkind, hmz, <- hn3]; simp [txtL]
 rw [hm] at r8 ROW HW HCK CK |-; have HENC := h_ henc; clear hck hin hn1 hn2 hn3 hz hbl h hok herr hkind hrow hxs hx hW1 hs1 hm henc HCK HIN hq hu1 hu2 hs3 H1 H2; go_enter Tryz.func11, Tryz.ntmps11; go_wp2_with fail; rw [HW.out]
 go_wp2_with (first | (go_at_call 42; refine CK.out.mono ?_; rintro e w2 ⟨rfl, b2⟩; have BB := h_ (b2.mono (Nat.le_of_eq HXS.out)); obtain ⟨r0, r1, r2, r3, r4, r5, r6, r7, r8, r9⟩ := ROW.out w2 BB.out; have O := h_ (LIT.out w2 BB.out); have BB := h_ (BB.out.alloc (by have := BB.out.size; have := HXS.out; omega) (.cells #[.int .u8 3] 5)); obtain ⟨s0, s1, s2, s3, s4, s5, s6, s7, s8, s9⟩ := ROW.out _ BB.out; clear b2) | (at_builtin; refine wpList_out_string rfl _ _ rfl x _ _ rfl O _ rfl (by simp; have q1 := numL_le n3; have q4 := QQ.out; omega) (by have := BB.out.size; have := HXS.out; omega) ?_; intro vi wi oi bi; have BB := h_ (BB.out.trans bi.out); obtain ⟨r0, r1, r2, r3, r4, r5, r6, r7, r8, r9⟩ := ROW.out wi BB.out; have O := oi; clear bi oi) | (go_at_call 43; refine (putNum_out O (by have := BB.out.size; have := HXS.out; omega) (by simp; have q1 := numL_le n3; have q4 := QQ.out; omega) _ (by have := QQ.out; omega)).mono ?_; rintro e wi ⟨vi, rfl, oi, bi⟩; have BB := h_ (BB.out.trans (bi.out.mono (by have := BB.out.size; have := HXS.out; omega))); obtain ⟨r0, r1, r2, r3, r4, r5, r6, r7, r8, r9⟩ := ROW.out wi BB.out; have O := oi; clear bi oi))
 have hn34 : n3 <= 4 := QQ.out.2.1
 go_loopw [4, 7] (fun ov i W => ∃ (k : Nat), i = .int .i64 (k : Int) /\ k <= n3 /\ Hid (OutAt x W ov ([3] ++ o.tree ++ numL n3 ++ (o.ups.take k).flatten)) /\ Below x W1 W) (fun _ i _ => n3 - (intOf i).toNat)
 case atStart => exact ⟨0, rfl, Nat.zero_le _, by simpa using O, BB.out⟩
 case round =>
  clear O BB r0 r1 r2 r3 r4 r5 r6 r7 r8 r9; obtain ⟨k, rfl, hk, hO, hB⟩ := hrel; have O := hO; have BB := h_ hB; have BW := h_ (BL.out.trans (hB.mono (by have := HX.out; omega)))
  obtain ⟨r0, r1, r2, r3, r4, r5, r6, r7, r8, r9⟩ := ROW.out wr hB; clear hO hB; by_cases hlt : k < n3
  ·have i0 : (0 : Int) <= (k : Int) := by omega
   have i1 : (k : Int) < (n3 : Int) := by omega
   obtain ⟨t, ht⟩ : ∃ t, o.ups[k]? = some t := ⟨_, List.getElem?_eq_getElem (by rw [<- H3.out]; exact hlt)⟩
   have ht32 := QQ.out.2.2.2.2.2 t (List.mem_of_getElem? ht); obtain ⟨rfl, cc⟩ := UPC.out wr BW.out k t ht hlt; have htk : [3] ++ o.tree ++ numL n3 ++ (o.ups.take k).flatten ++ t = [3] ++ o.tree ++ numL n3 ++ (o.ups.take (k + 1)).flatten := by
    rw [List.take_add_one, ht]; simp
   have HTK := h_ htk; have T32 := h_ ht32; clear ht htk ht32; go_wp2_with (first | (at_builtin; refine wpList_out_string rfl _ _ rfl x _ _ rfl O _ rfl (by simp; have q1 := numL_le n3; have q4 := QQ.out; have q5 := FL.out k; have q6 := T32.out; simp at q5; omega) (by have := BB.out.size; have := HXS.out; omega) ?_; intro vi wi oi bi; have BB := h_ (BB.out.trans bi.out); obtain ⟨r0, r1, r2, r3, r4, r5, r6, r7, r8, r9⟩ := ROW.out wi BB.out; have O := oi; clear bi oi))
   go_roundw
   case rel => exact ⟨k + 1, by go_num, by omega, by rw [<- HTK.out]; exact O, BB.out⟩
   case measure => simp [intOf]; omega
  ·obtain rfl : k = n3 := by omega
   have i1 : ¬ (k : Int) < (k : Int) := by omega
   rw [List.take_of_length_le (by rw [H3.out]; exact Nat.le_refl _)] at O
   have FL2 := h_ (show o.ups.flatten.length <= 128 from by have := FL.out o.ups.length; rw [List.take_length] at this; exact this)
   go_wp2_with (first | (go_at_call 44; refine (putText_out O (by have := BB.out.size; have := HXS.out; omega) _ (by simp; have q1 := numL_le k; have q2 := numL_le o.who.length; have q3 := numL_le m; have q4 := QQ.out; have q5 := FL2.out; simp at q5; omega)).mono ?_; rintro e wi ⟨vi, rfl, oi, bi⟩; have BB := h_ (BB.out.trans (bi.out.mono (by have := BB.out.size; have := HXS.out; omega))); obtain ⟨r0, r1, r2, r3, r4, r5, r6, r7, r8, r9⟩ := ROW.out wi BB.out; have O := oi; clear bi oi))
   have KEEP := h_ (fun (W : World) (hb : Below x W1 W) => (show W.cell? ⟨w.heap.size, 6, none⟩ = some (.string (SL o.name)) /\ W.cell? ⟨w.heap.size, 7, none⟩ = some (.string (SL o.who)) /\ W.cell? ⟨w.heap.size, 8, none⟩ = some (.int .i64 (m : Int)) /\ W.cell? ⟨w.heap.size, 9, none⟩ = some (.string (SL o.text)) from ⟨(ROW.out W hb).2.2.2.2.2.2.1, (ROW.out W hb).2.2.2.2.2.2.2.1, (ROW.out W hb).2.2.2.2.2.2.2.2.1, (ROW.out W hb).2.2.2.2.2.2.2.2.2⟩))
   have BB := h_ BB.out.drew; have O := h_ (O.out.below ((Below.refl _ _).drew))
   first
   | go_region_held3 (fun W => W.cell? ⟨w.heap.size, 6, none⟩ = some (.string (SL o.name)) /\ W.cell? ⟨w.heap.size, 7, none⟩ = some (.string (SL o.who)) /\ W.cell? ⟨w.heap.size, 8, none⟩ = some (.int .i64 (m : Int)) /\ W.cell? ⟨w.heap.size, 9, none⟩ = some (.string (SL o.text))) (first | exact KEEP.out _ BB.out) ((first | (go_at_call 43; refine (putNum_out O (by have := BB.out.size; have := HXS.out; omega) (by simp [txtL]; have q1 := numL_le k; have q2 := numL_le o.who.length; have q3 := numL_le m; have q4 := QQ.out; have q5 := FL2.out; simp at q5; omega) _ (by have := QQ.out; omega)).mono ?_; rintro e wi ⟨vi, rfl, oi, bi⟩; have BB := h_ (BB.out.trans (bi.out.mono (by have := BB.out.size; have := HXS.out; omega))); obtain ⟨r0, r1, r2, r3, r4, r5, r6, r7, r8, r9⟩ := ROW.out wi BB.out; have O := oi; clear bi oi) | (go_at_call 44; refine (putText_out O (by have := BB.out.size; have := HXS.out; omega) _ (by simp [txtL]; have q1 := numL_le k; have q2 := numL_le o.who.length; have q3 := numL_le m; have q4 := QQ.out; have q5 := FL2.out; simp at q5; omega)).mono ?_; rintro e wi ⟨vi, rfl, oi, bi⟩; have BB := h_ (BB.out.trans (bi.out.mono (by have := BB.out.size; have := HXS.out; omega))); obtain ⟨r0, r1, r2, r3, r4, r5, r6, r7, r8, r9⟩ := ROW.out wi BB.out; have O := oi; clear bi oi)))
   | fail "held3 (2)"
   go_wp2_with fail; go_ret2; refine ⟨_, rfl, ?_, BL.out.trans (BB.out.mono (by have := HX.out; omega))⟩
   rw [HENC.out]; exact own_down O.out (by have := HX.out; omega)
theorem refEncode_4 (F : Nat -> Prop) (o : ObjR) (dv ev uv : Value) (w : World) (h : ObjIn w F o dv ev uv) (hf : ObjFits o) (hok : okO o = true) (hkind : o.kind = 4) :
  Calls Tryz.prog 11 #[objV o dv ev uv] w fun e w' => ∃ v, e = .returned (.tuple #[v, .int .i64 0]) /\ OutAt w.heap.size w' v (encO o) /\ Below w.heap.size w w' := by
 have hck := fun (W : World) (hb : Below w.heap.size w W) => refCheck_any F o dv ev uv W (h.turn (Turn.of_below (fun _ => False) hb) (fun _ _ h => h)) hf
 have hin := fun (W : World) (hb : Below w.heap.size w W) => h.turn (Turn.of_below (fun _ => False) hb) (fun _ _ h => h)
 have herr : errO o = 0 := by unfold errO; rw [hok]; rfl
 rw [herr] at hck; obtain ⟨a1, c1, B1, o1, rfl, _, _⟩ := h.data; obtain ⟨a2, c2, g2, o2, rfl, _⟩ := h.ents; obtain ⟨a3, c3, g3, o3, rfl, _⟩ := h.ups; unfold objV at hck |-
 obtain ⟨n1, hn1⟩ := nm_ (o.data.length); obtain ⟨n2, hn2⟩ := nm_ (o.ents.length); obtain ⟨n3, hn3⟩ := nm_ (o.ups.length); obtain ⟨z, hz⟩ := nm_ (o.stamp); rw [<- hn1, <- hn2, <- hn3, <- hz] at hck |-; rw [<- hn1, <- hn2, <- hn3] at hin; have HIN := h_ hin; have HCK := h_ hck; have H1 := h_ hn1; have H2 := h_ hn2; have H3 := h_ hn3; have HZ := h_ hz; rw [hkind] at hck HCK |-; obtain ⟨W1, hW1⟩ : ∃ W1, w.alloc (.cells #[.int .i64 4, .slice a1 n1 c1, .slice a2 n2 c2, .string (SL o.tree), .slice a3 n3 c3, .string (SL o.target), .string (SL o.name), .string (SL o.who), .int .i64 z, .string (SL o.text)] 33) = W1 := ⟨_, rfl⟩
 have hs1 : W1.heap.size = w.heap.size + 1 := by rw [<- hW1]; simp
 have hbl : Below w.heap.size w W1 := by rw [<- hW1]; exact (Below.refl w.heap.size w).alloc (Nat.le_refl _) _
 have hrow : ∀ W : World, Below W1.heap.size W1 W -> W.heap[w.heap.size]? = some (.cells #[.int .i64 4, .slice a1 n1 c1, .slice a2 n2 c2, .string (SL o.tree), .slice a3 n3 c3, .string (SL o.target), .string (SL o.name), .string (SL o.who), .int .i64 z, .string (SL o.text)] 33 (0, 0)) := fun W hb => by
  rw [hb.block w.heap.size (by omega), <- hW1]
  exact heap_alloc_new w _
 obtain ⟨x, hx⟩ := nm_ (w.heap.size + 1); have hxs : x = W1.heap.size := by omega
 have r := obj_cells (hrow W1 (Below.refl _ _)); obtain ⟨r0, r1, r2, r3, r4, r5, r6, r7, r8, r9⟩ := r; have ROW := h_ (fun (W : World) (hb : Below x W1 W) => obj_cells (hrow W (by rw [<- hxs]; exact hb)))
 have LIT := h_ (fun (W : World) (hb : Below x W1 W) => (show OutAt x (W.alloc (.cells #[.int .u8 4] 5)) (.slice (some ⟨W.heap.size, 0, none⟩) 1 1) [4] from out_lit W x 4 (by have := hb.size; omega)))
 have CK := h_ (hck W1 hbl); have BL := h_ hbl; have HX := h_ hx; have HXS := h_ hxs; have HW := h_ hW1; obtain ⟨m, hm⟩ : ∃ m : Nat, z = (m : Int) := ⟨z.toNat, by
  rcases ok_cases hok with ⟨d, hd, e⟩ | ⟨l, hl, e⟩ | ⟨e, h1, h2, h3⟩ | ⟨e, h1, h2, h2', h3⟩
  ·rw [e] at hkind; cases hkind
  ·rw [e] at hkind; cases hkind
  ·rw [e] at hkind; cases hkind
  ·have := (told_is h3).2.2.1; omega⟩
 have QQ : Hid (o.target.length = 32 /\ o.name.length <= 200 /\ o.who.length <= 1000 /\ o.text.length <= 1000 /\ m <= 1099511627776) := h_ (by
  rcases ok_cases hok with ⟨d, hd, e⟩ | ⟨l, hl, e⟩ | ⟨e, h1, h2, h3⟩ | ⟨e, h1, h2, h2', h3⟩
  ·rw [e] at hkind; cases hkind
  ·rw [e] at hkind; cases hkind
  ·rw [e] at hkind; cases hkind
  ·have := told_is h3; exact ⟨h1, h2', this.1, this.2.1, by omega⟩)
 have henc : encO o = [4] ++ o.target ++ txtL o.name ++ txtL o.who ++ numL m ++ txtL o.text := by
  have hmz : o.stamp.toNat = m := by omega
  unfold encO bodyL tailO; rw [hkind, hmz]; simp [txtL]
 rw [hm] at r8 ROW HW HCK CK |-; have HENC := h_ henc; clear hck hin hn1 hn2 hn3 hz hbl h hok herr hkind hrow hxs hx hW1 hs1 hm henc HCK; go_enter Tryz.func11, Tryz.ntmps11; go_wp2_with fail; rw [HW.out]
 go_wp2_with (first | (go_at_call 42; refine CK.out.mono ?_; rintro e w2 ⟨rfl, b2⟩; have BB := h_ (b2.mono (Nat.le_of_eq HXS.out)); obtain ⟨r0, r1, r2, r3, r4, r5, r6, r7, r8, r9⟩ := ROW.out w2 BB.out; have O := h_ (LIT.out w2 BB.out); have BB := h_ (BB.out.alloc (by have := BB.out.size; have := HXS.out; omega) (.cells #[.int .u8 4] 5)); obtain ⟨s0, s1, s2, s3, s4, s5, s6, s7, s8, s9⟩ := ROW.out _ BB.out; clear b2) | (at_builtin; refine wpList_out_string rfl _ _ rfl x _ _ rfl O _ rfl (by simp; have q1 := numL_le o.name.length; have q2 := numL_le o.who.length; have q3 := numL_le m; have q4 := QQ.out; omega) (by have := BB.out.size; have := HXS.out; omega) ?_; intro vi wi oi bi; have BB := h_ (BB.out.trans bi.out); obtain ⟨r0, r1, r2, r3, r4, r5, r6, r7, r8, r9⟩ := ROW.out wi BB.out; have O := oi; clear bi oi))
 have KEEP := h_ (fun (W : World) (hb : Below x W1 W) => (show W.cell? ⟨w.heap.size, 6, none⟩ = some (.string (SL o.name)) /\ W.cell? ⟨w.heap.size, 7, none⟩ = some (.string (SL o.who)) /\ W.cell? ⟨w.heap.size, 8, none⟩ = some (.int .i64 (m : Int)) /\ W.cell? ⟨w.heap.size, 9, none⟩ = some (.string (SL o.text)) from ⟨(ROW.out W hb).2.2.2.2.2.2.1, (ROW.out W hb).2.2.2.2.2.2.2.1, (ROW.out W hb).2.2.2.2.2.2.2.2.1, (ROW.out W hb).2.2.2.2.2.2.2.2.2⟩))
 have BB := h_ BB.out.drew; have O := h_ (O.out.below ((Below.refl _ _).drew))
 first
 | go_region_held3 (fun W => W.cell? ⟨w.heap.size, 6, none⟩ = some (.string (SL o.name)) /\ W.cell? ⟨w.heap.size, 7, none⟩ = some (.string (SL o.who)) /\ W.cell? ⟨w.heap.size, 8, none⟩ = some (.int .i64 (m : Int)) /\ W.cell? ⟨w.heap.size, 9, none⟩ = some (.string (SL o.text))) (first | exact KEEP.out _ BB.out) ((first | (go_at_call 44; refine (putText_out O (by have := BB.out.size; have := HXS.out; omega) _ (by simp [txtL]; have q1 := numL_le o.name.length; have q2 := numL_le o.who.length; have q3 := numL_le m; have q4 := QQ.out; omega)).mono ?_; rintro e wi ⟨vi, rfl, oi, bi⟩; have BB := h_ (BB.out.trans (bi.out.mono (by have := BB.out.size; have := HXS.out; omega))); obtain ⟨r0, r1, r2, r3, r4, r5, r6, r7, r8, r9⟩ := ROW.out wi BB.out; have O := oi; clear bi oi)))
 | fail "held3 (1)"
 go_wp2_with fail; have BB := h_ BB.out.drew; have O := h_ (O.out.below ((Below.refl _ _).drew))
 first
 | go_region_held3 (fun W => W.cell? ⟨w.heap.size, 6, none⟩ = some (.string (SL o.name)) /\ W.cell? ⟨w.heap.size, 7, none⟩ = some (.string (SL o.who)) /\ W.cell? ⟨w.heap.size, 8, none⟩ = some (.int .i64 (m : Int)) /\ W.cell? ⟨w.heap.size, 9, none⟩ = some (.string (SL o.text))) (first | exact KEEP.out _ BB.out) ((first | (go_at_call 43; refine (putNum_out O (by have := BB.out.size; have := HXS.out; omega) (by simp [txtL]; have q1 := numL_le o.name.length; have q2 := numL_le o.who.length; have q3 := numL_le m; have q4 := QQ.out; omega) _ (by have := QQ.out; omega)).mono ?_; rintro e wi ⟨vi, rfl, oi, bi⟩; have BB := h_ (BB.out.trans (bi.out.mono (by have := BB.out.size; have := HXS.out; omega))); obtain ⟨r0, r1, r2, r3, r4, r5, r6, r7, r8, r9⟩ := ROW.out wi BB.out; have O := oi; clear bi oi) | (go_at_call 44; refine (putText_out O (by have := BB.out.size; have := HXS.out; omega) _ (by simp [txtL]; have q1 := numL_le o.name.length; have q2 := numL_le o.who.length; have q3 := numL_le m; have q4 := QQ.out; omega)).mono ?_; rintro e wi ⟨vi, rfl, oi, bi⟩; have BB := h_ (BB.out.trans (bi.out.mono (by have := BB.out.size; have := HXS.out; omega))); obtain ⟨r0, r1, r2, r3, r4, r5, r6, r7, r8, r9⟩ := ROW.out wi BB.out; have O := oi; clear bi oi)))
 | fail "held3 (2)"
 go_wp2_with fail; go_ret2; refine ⟨_, rfl, ?_, BL.out.trans (BB.out.mono (by have := HX.out; omega))⟩
 rw [HENC.out]; exact own_down O.out (by have := HX.out; omega)
end
end Go.Proofs.YtomgijcbekjlaaaGreat
