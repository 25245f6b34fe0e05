/- The program's ids and Links. -/
import Derived.Test.YtckbeeadkiiccaaCLay
import Derived.Test.YtckbeeadkiiccaaCRefC
namespace Go.Proofs.Ytckbeeadkiiccaa
open Go.RowKit
attribute [local go_sem] as_blob as_blob_tree as_blob_commit as_blob_tag as_blob_nil as_tree as_tree_blob as_tree_commit as_tree_tag as_tree_nil as_commit as_commit_blob as_commit_tree as_commit_tag as_commit_nil as_tag as_tag_blob as_tag_tree as_tag_commit as_tag_nil
set_option maxRecDepth 100000 in
set_option maxHeartbeats 4000000 in
theorem ids_any (ao : Option Addr) (cap g off : Nat) (l : List EntR) (w : World) (hs : SlAt w (fun k => k < w.heap.size) ao l.length cap g off (ecells l)) (hl : l.length ≤ 4096) :
    Calls Try.prog 37 #[.slice ao l.length cap] w fun e w' => ∃ v, e = .returned v ∧ TxtsOwn w.heap.size w' v (l.map (fun e => e.id)) ∧ Below w.heap.size w w' := by
  obtain ⟨N, hN⟩ : ∃ N, N = l.length := ⟨_, rfl⟩
  rw [← hN] at hs hl ⊢
  obtain ⟨x, hx⟩ : ∃ x, x = w.heap.size := ⟨_, rfl⟩
  rw [← hx] at hs ⊢
  have HX := Lib.hid hx
  have HN := Lib.hid hN
  have HS := Lib.hid (fun (W : World) (hb : Below x w W) => hs.turn (Below.over hb) (fun k hk hn => hn hk))
  obtain ⟨i0, hi, hz0, hz1, hz2⟩ := info_parts info_text
  clear hN hs hx
  go_enter Try.func37, Try.ntmps37
  go_wp2_with (at_make; refine wpList_make_own _ rfl _ _ 24 rfl x 9 i0 (.string ByteArray.empty) 1 Try.underlying24 hi hz0 hz1 _ _ _ N rfl rfl (by omega) (by rw [hz2]; omega) (by unfold maxLen; omega) (by have := HX.out; omega) ?_; intro w1 hown1 hgrow1; have O1 := Lib.hid hown1; have B1 := Lib.hid (below_of_none hgrow1); clear hown1 hgrow1)
  go_loopw [3, 11] (fun ov i W => ∃ k : Nat, i = .int .i64 (k : Int) ∧ k ≤ N ∧ Hid (TxtsOwn x W ov ((l.take k).map (fun e => e.id))) ∧ Below x w W) (fun _ i _ => N - (intOf i).toNat)
  case atStart => exact ⟨0, rfl, Nat.zero_le _, by simpa [TxtsOwn, tcells] using O1, B1.out.mono (by have := HX.out; omega)⟩
  case round =>
    clear O1 B1
    obtain ⟨k, rfl, hk, O, hB⟩ := hrel
    have BB := Lib.hid hB
    have XB : x ≤ wr.heap.size := by have := hB.size; have := HX.out; omega
    clear hB
    by_cases hlt : k < N
    · have j0 : (0 : Int) ≤ (k : Int) := by omega
      have j1 : (k : Int) < (N : Int) := by omega
      obtain ⟨e, he⟩ : ∃ e, l[k]? = some e := ⟨_, List.getElem?_eq_getElem (by rw [← HN.out]; exact hlt)⟩
      obtain ⟨rfl, c0, c1, cc⟩ := (HS.out wr BB.out).entry he hlt
      have htk : (l.take k).map (fun e => e.id) ++ [e.id] = (l.take (k + 1)).map (fun e => e.id) := by
        rw [List.take_add_one, he]
        simp
      have hlen : ((l.take k).map (fun e => e.id)).length ≤ 4096 := by rw [List.length_map, List.length_take]; omega
      have HTK := Lib.hid htk
      have HLN := Lib.hid hlen
      have hlit : ∀ ad, some (⟨wr.heap.size + 1, 0, none⟩ : Addr) = some ad → ∀ j u, (tcells [e.id])[j]? = some u → ((wr.alloc (.cells #[.string (SL e.nm), .bool e.dir, .string (SL e.id)] 30)).alloc (.cells #[.string (SL e.id)] 9)).cell? (ad.add j) = some u := by
        have h0 := lit_text (wr.alloc (.cells #[.string (SL e.nm), .bool e.dir, .string (SL e.id)] 30)) e.id
        have h1 : (wr.alloc (.cells #[.string (SL e.nm), .bool e.dir, .string (SL e.id)] 30)).heap.size = wr.heap.size + 1 := by simp
        rw [h1] at h0
        exact h0
      have HLIT := Lib.hid hlit
      clear he htk hlen hlit
      go_wp2_with (at_builtin; refine wpList_own_texts rfl _ _ rfl x _ _ rfl (Lib.hid ((O.out.below ((Below.refl _ _).alloc (Nat.le_refl _) _)).below ((Below.refl _ _).alloc (Nat.le_refl _) _))) _ 1 1 [e.id] rfl rfl (fun hh => by cases hh) HLIT.out (by have := HLN.out; simp only [List.length_cons, List.length_nil]; omega) (by simp; omega) ?_; intro vi wi oi bi; have BB := Lib.hid (((BB.out.alloc XB _).alloc (by simp; omega) _).trans bi.out); have O := oi; clear bi oi)
      go_roundw
      case rel => exact ⟨k + 1, by go_num, by omega, by rw [← HTK.out]; exact O, BB.out⟩
      case measure => simp [intOf]; omega
    · obtain rfl : k = N := by omega
      have j1 : ¬ (k : Int) < (k : Int) := by omega
      rw [HN.out, List.take_length] at O
      go_wp2
      go_ret
      exact ⟨_, rfl, O.out, BB.out⟩
set_option maxRecDepth 100000 in
set_option maxHeartbeats 4000000 in
theorem links_0 (F : Nat → Prop) (o : ObjR) (dv ev uv : Value) (w : World) (h : ObjIn w F o dv ev uv) (hok : okO o = false) :
    Calls Try.prog 20 #[objV o dv ev uv] w fun e w' => ∃ v, e = .returned v ∧ TxtsOwn w.heap.size w' v ([]) ∧ Below w.heap.size w w' := by
  have hck := fun (W : World) (hb : Below w.heap.size w W) => check_any F o dv ev uv W (h.turn (Turn.of_below (fun _ => False) hb) (fun _ _ h => h))
  have herr : errO o = 1 := by unfold errO; rw [hok]; rfl
  rw [herr] at hck
  obtain ⟨a1, c1, B1, o1, rfl, _, _⟩ := h.data
  obtain ⟨a2, c2, g2, o2, rfl, hs2⟩ := h.ents
  obtain ⟨a3, c3, g3, o3, rfl, hs3⟩ := h.ups
  unfold objV at hck ⊢
  obtain ⟨n1, hn1⟩ : ∃ n, n = o.data.length := ⟨_, rfl⟩
  obtain ⟨n2, hn2⟩ : ∃ n, n = o.ents.length := ⟨_, rfl⟩
  obtain ⟨n3, hn3⟩ : ∃ n, n = o.ups.length := ⟨_, rfl⟩
  rw [← hn1, ← hn2, ← hn3] at hck ⊢
  have hbl := (Below.refl w.heap.size w).alloc (Nat.le_refl _) (.cells #[.int .i64 o.kind, .slice a1 n1 c1, .slice a2 n2 c2, .string (SL o.tree), .slice a3 n3 c3, .string (SL o.target), .string (SL o.name), .string (SL o.who), .int .i64 o.stamp, .string (SL o.text)] 26)
  obtain ⟨W1, hW1⟩ : ∃ W1, W1 = w.alloc (.cells #[.int .i64 o.kind, .slice a1 n1 c1, .slice a2 n2 c2, .string (SL o.tree), .slice a3 n3 c3, .string (SL o.target), .string (SL o.name), .string (SL o.who), .int .i64 o.stamp, .string (SL o.text)] 26) := ⟨_, rfl⟩
  rw [← hW1] at hbl
  have hrow : ∀ W, Below W1.heap.size W1 W → _ := fun W hb => obj_cells (below_turn hb (by rw [hW1]; exact heap_alloc_new w _))
  obtain ⟨r0, r1, r2, r3, r4, r5, r6, r7, r8, r9⟩ := hrow W1 (Below.refl _ _)
  have CK := Lib.hid (hck W1 hbl)
  have ROW := Lib.hid hrow
  have HW := Lib.hid hW1
  have BL := Lib.hid hbl
  have BB := Lib.hid (Below.refl W1.heap.size W1)
  clear hck hrow hW1 hbl hn1 hn2 hn3 h hok herr hs2 hs3
  go_enter Try.func20, Try.ntmps20
  go_wp2_with fail
  rw [← HW.out]
  go_wp2_with (go_at_call 18; refine CK.out.mono ?_; rintro e w2 ⟨rfl, b2⟩; have BB := Lib.hid b2; obtain ⟨r0, r1, r2, r3, r4, r5, r6, r7, r8, r9⟩ := ROW.out w2 b2; clear b2)
  go_ret
  exact ⟨_, rfl, World.ownsRow_nil _ _ _ _, BL.out.trans (BB.out.mono BL.out.size)⟩
set_option maxRecDepth 100000 in
set_option maxHeartbeats 4000000 in
theorem links_1 (F : Nat → Prop) (o : ObjR) (dv ev uv : Value) (w : World) (h : ObjIn w F o dv ev uv) (hok : okO o = true) (hkind : o.kind = 1) :
    Calls Try.prog 20 #[objV o dv ev uv] w fun e w' => ∃ v, e = .returned v ∧ TxtsOwn w.heap.size w' v ([]) ∧ Below w.heap.size w w' := by
  have hck := fun (W : World) (hb : Below w.heap.size w W) => check_any F o dv ev uv W (h.turn (Turn.of_below (fun _ => False) hb) (fun _ _ h => h))
  have herr : errO o = 0 := by unfold errO; rw [hok]; rfl
  rw [herr] at hck
  obtain ⟨a1, c1, B1, o1, rfl, _, _⟩ := h.data
  obtain ⟨a2, c2, g2, o2, rfl, hs2⟩ := h.ents
  obtain ⟨a3, c3, g3, o3, rfl, hs3⟩ := h.ups
  have hbody := fun W => bodyOf_any o a1 o.data.length c1 a2 o.ents.length c2 a3 o.ups.length c3 W
  have hV : bodyV o (.slice a1 o.data.length c1) (.slice a2 o.ents.length c2) (.slice a3 o.ups.length c3) = .iface 80 (.slice a1 o.data.length c1) := by unfold bodyV; rw [if_pos hkind]
  rw [hV] at hbody
  unfold objV at hck hbody ⊢
  obtain ⟨n1, hn1⟩ : ∃ n, n = o.data.length := ⟨_, rfl⟩
  obtain ⟨n2, hn2⟩ : ∃ n, n = o.ents.length := ⟨_, rfl⟩
  obtain ⟨n3, hn3⟩ : ∃ n, n = o.ups.length := ⟨_, rfl⟩
  rw [← hn1, ← hn2, ← hn3, hkind] at hck hbody ⊢
  have hbl := (Below.refl w.heap.size w).alloc (Nat.le_refl _) (.cells #[.int .i64 1, .slice a1 n1 c1, .slice a2 n2 c2, .string (SL o.tree), .slice a3 n3 c3, .string (SL o.target), .string (SL o.name), .string (SL o.who), .int .i64 o.stamp, .string (SL o.text)] 26)
  obtain ⟨W1, hW1⟩ : ∃ W1, W1 = w.alloc (.cells #[.int .i64 1, .slice a1 n1 c1, .slice a2 n2 c2, .string (SL o.tree), .slice a3 n3 c3, .string (SL o.target), .string (SL o.name), .string (SL o.who), .int .i64 o.stamp, .string (SL o.text)] 26) := ⟨_, rfl⟩
  rw [← hW1] at hbl
  have hrow : ∀ W, Below W1.heap.size W1 W → _ := fun W hb => obj_cells (below_turn hb (by rw [hW1]; exact heap_alloc_new w _))
  obtain ⟨r0, r1, r2, r3, r4, r5, r6, r7, r8, r9⟩ := hrow W1 (Below.refl _ _)
  have CK := Lib.hid (hck W1 hbl)
  have ROW := Lib.hid hrow
  have HW := Lib.hid hW1
  have BL := Lib.hid hbl
  have BB := Lib.hid (Below.refl W1.heap.size W1)
  have HBODY := Lib.hid hbody
  clear hck hrow hW1 hbl hn1 hn2 hn3 h hok herr hbody hV hkind hs2 hs3
  go_enter Try.func20, Try.ntmps20
  go_wp2_with fail
  rw [← HW.out]
  go_wp2_with (first | (go_at_call 18; refine CK.out.mono ?_; rintro e w2 ⟨rfl, b2⟩; have BB := Lib.hid b2; obtain ⟨r0, r1, r2, r3, r4, r5, r6, r7, r8, r9⟩ := ROW.out w2 b2; clear b2) | (go_at_call 29; refine (HBODY.out _).mono ?_; rintro e w3 ⟨rfl, b3⟩; have BB := Lib.hid (BB.out.trans (b3.mono BB.out.size)); clear b3))
  go_ret
  exact ⟨_, rfl, World.ownsRow_nil _ _ _ _, BL.out.trans (BB.out.mono BL.out.size)⟩
set_option maxRecDepth 100000 in
set_option maxHeartbeats 4000000 in
theorem links_2 (F : Nat → Prop) (o : ObjR) (dv ev uv : Value) (w : World) (h : ObjIn w F o dv ev uv) (hok : okO o = true) (hkind : o.kind = 2) :
    Calls Try.prog 20 #[objV o dv ev uv] w fun e w' => ∃ v, e = .returned v ∧ TxtsOwn w.heap.size w' v (o.ents.map (fun e => e.id)) ∧ Below w.heap.size w w' := by
  have hck := fun (W : World) (hb : Below w.heap.size w W) => check_any F o dv ev uv W (h.turn (Turn.of_below (fun _ => False) hb) (fun _ _ h => h))
  have herr : errO o = 0 := by unfold errO; rw [hok]; rfl
  rw [herr] at hck
  obtain ⟨a1, c1, B1, o1, rfl, _, _⟩ := h.data
  obtain ⟨a2, c2, g2, o2, rfl, hs2⟩ := h.ents
  obtain ⟨a3, c3, g3, o3, rfl, hs3⟩ := h.ups
  have hbody := fun W => bodyOf_any o a1 o.data.length c1 a2 o.ents.length c2 a3 o.ups.length c3 W
  have hV : bodyV o (.slice a1 o.data.length c1) (.slice a2 o.ents.length c2) (.slice a3 o.ups.length c3) = .iface 58 (.slice a2 o.ents.length c2) := by unfold bodyV; rw [if_neg (by omega), if_pos hkind]
  rw [hV] at hbody
  unfold objV at hck hbody ⊢
  obtain ⟨n1, hn1⟩ : ∃ n, n = o.data.length := ⟨_, rfl⟩
  obtain ⟨n2, hn2⟩ : ∃ n, n = o.ents.length := ⟨_, rfl⟩
  obtain ⟨n3, hn3⟩ : ∃ n, n = o.ups.length := ⟨_, rfl⟩
  rw [← hn1, ← hn2, ← hn3, hkind] at hck hbody ⊢
  have hbl := (Below.refl w.heap.size w).alloc (Nat.le_refl _) (.cells #[.int .i64 2, .slice a1 n1 c1, .slice a2 n2 c2, .string (SL o.tree), .slice a3 n3 c3, .string (SL o.target), .string (SL o.name), .string (SL o.who), .int .i64 o.stamp, .string (SL o.text)] 26)
  obtain ⟨W1, hW1⟩ : ∃ W1, W1 = w.alloc (.cells #[.int .i64 2, .slice a1 n1 c1, .slice a2 n2 c2, .string (SL o.tree), .slice a3 n3 c3, .string (SL o.target), .string (SL o.name), .string (SL o.who), .int .i64 o.stamp, .string (SL o.text)] 26) := ⟨_, rfl⟩
  rw [← hW1] at hbl
  have hrow : ∀ W, Below W1.heap.size W1 W → _ := fun W hb => obj_cells (below_turn hb (by rw [hW1]; exact heap_alloc_new w _))
  obtain ⟨r0, r1, r2, r3, r4, r5, r6, r7, r8, r9⟩ := hrow W1 (Below.refl _ _)
  have CK := Lib.hid (hck W1 hbl)
  have ROW := Lib.hid hrow
  have HW := Lib.hid hW1
  have BL := Lib.hid hbl
  have BB := Lib.hid (Below.refl W1.heap.size W1)
  have HBODY := Lib.hid hbody
  have hn24 : o.ents.length ≤ 4096 := (ok_sizes hok).1
  have hids := fun (W : World) (hb : Below w.heap.size w W) => ids_any a2 c2 g2 o2 o.ents W ((hs2.turn (Turn.of_below (fun _ => False) hb) (fun _ _ h => h)).mono (fun k hk _ => hk)) hn24
  rw [← hn2] at hids
  have HIDS := Lib.hid hids
  clear hids hn24
  clear hck hrow hW1 hbl hn1 hn2 hn3 h hok herr hbody hV hkind hs2 hs3
  go_enter Try.func20, Try.ntmps20
  go_wp2_with fail
  rw [← HW.out]
  go_wp2_with (first | (go_at_call 18; refine CK.out.mono ?_; rintro e w2 ⟨rfl, b2⟩; have BB := Lib.hid b2; obtain ⟨r0, r1, r2, r3, r4, r5, r6, r7, r8, r9⟩ := ROW.out w2 b2; clear b2) | (go_at_call 29; refine (HBODY.out _).mono ?_; rintro e w3 ⟨rfl, b3⟩; have BB := Lib.hid (BB.out.trans (b3.mono BB.out.size)); clear b3) | (go_at_call 37; refine (HIDS.out _ (BL.out.trans (BB.out.mono BL.out.size))).mono ?_; rintro e w4 ⟨v4, rfl, o4, b4⟩; have O4 := Lib.hid o4; have B4 := Lib.hid b4; clear o4 b4))
  go_ret
  exact ⟨_, rfl, own_down O4.out (by have h1 := BL.out.size; have h2 := BB.out.size; omega), BL.out.trans (BB.out.trans (B4.out.mono BB.out.size) |>.mono BL.out.size)⟩
set_option maxRecDepth 100000 in
set_option maxHeartbeats 4000000 in
theorem links_3 (F : Nat → Prop) (o : ObjR) (dv ev uv : Value) (w : World) (h : ObjIn w F o dv ev uv) (hok : okO o = true) (hkind : o.kind = 3) :
    Calls Try.prog 20 #[objV o dv ev uv] w fun e w' => ∃ v, e = .returned v ∧ TxtsOwn w.heap.size w' v (o.tree :: o.ups) ∧ Below w.heap.size w w' := by
  have hck := fun (W : World) (hb : Below w.heap.size w W) => check_any F o dv ev uv W (h.turn (Turn.of_below (fun _ => False) hb) (fun _ _ h => h))
  have herr : errO o = 0 := by unfold errO; rw [hok]; rfl
  rw [herr] at hck
  obtain ⟨a1, c1, B1, o1, rfl, _, _⟩ := h.data
  obtain ⟨a2, c2, g2, o2, rfl, hs2⟩ := h.ents
  obtain ⟨a3, c3, g3, o3, rfl, hs3⟩ := h.ups
  have hbody := fun W => bodyOf_any o a1 o.data.length c1 a2 o.ents.length c2 a3 o.ups.length c3 W
  have hV : bodyV o (.slice a1 o.data.length c1) (.slice a2 o.ents.length c2) (.slice a3 o.ups.length c3) = .iface 63 (.agg #[.string (SL o.tree), .slice a3 o.ups.length c3, .string (SL o.who), .int .i64 o.stamp, .string (SL o.text)]) := by unfold bodyV; rw [if_neg (by omega), if_neg (by omega), if_pos hkind]
  rw [hV] at hbody
  unfold objV at hck hbody ⊢
  obtain ⟨n1, hn1⟩ : ∃ n, n = o.data.length := ⟨_, rfl⟩
  obtain ⟨n2, hn2⟩ : ∃ n, n = o.ents.length := ⟨_, rfl⟩
  obtain ⟨n3, hn3⟩ : ∃ n, n = o.ups.length := ⟨_, rfl⟩
  rw [← hn1, ← hn2, ← hn3, hkind] at hck hbody ⊢
  have hbl := (Below.refl w.heap.size w).alloc (Nat.le_refl _) (.cells #[.int .i64 3, .slice a1 n1 c1, .slice a2 n2 c2, .string (SL o.tree), .slice a3 n3 c3, .string (SL o.target), .string (SL o.name), .string (SL o.who), .int .i64 o.stamp, .string (SL o.text)] 26)
  obtain ⟨W1, hW1⟩ : ∃ W1, W1 = w.alloc (.cells #[.int .i64 3, .slice a1 n1 c1, .slice a2 n2 c2, .string (SL o.tree), .slice a3 n3 c3, .string (SL o.target), .string (SL o.name), .string (SL o.who), .int .i64 o.stamp, .string (SL o.text)] 26) := ⟨_, rfl⟩
  rw [← hW1] at hbl
  have hrow : ∀ W, Below W1.heap.size W1 W → _ := fun W hb => obj_cells (below_turn hb (by rw [hW1]; exact heap_alloc_new w _))
  obtain ⟨r0, r1, r2, r3, r4, r5, r6, r7, r8, r9⟩ := hrow W1 (Below.refl _ _)
  have CK := Lib.hid (hck W1 hbl)
  have ROW := Lib.hid hrow
  have HW := Lib.hid hW1
  have BL := Lib.hid hbl
  have BB := Lib.hid (Below.refl W1.heap.size W1)
  have HBODY := Lib.hid hbody
  have hn34 : o.ups.length ≤ 4 := (ok_sizes hok).2
  have hlit : ∀ W : World, w.heap.size ≤ W.heap.size → TxtsOwn w.heap.size ((W.alloc (.cells #[.string (SL o.tree), .slice a3 n3 c3, .string (SL o.who), .int .i64 o.stamp, .string (SL o.text)] 63)).alloc (.cells #[.string (SL o.tree)] 9)) (.slice (some ⟨W.heap.size + 1, 0, none⟩) 1 1) [o.tree] := fun W hx => by
    have h1 : (W.alloc (.cells #[.string (SL o.tree), .slice a3 n3 c3, .string (SL o.who), .int .i64 o.stamp, .string (SL o.text)] 63)).heap.size = W.heap.size + 1 := by simp
    have h0 : TxtsOwn w.heap.size ((W.alloc (.cells #[.string (SL o.tree), .slice a3 n3 c3, .string (SL o.who), .int .i64 o.stamp, .string (SL o.text)] 63)).alloc (.cells #[.string (SL o.tree)] 9)) (.slice (some ⟨(W.alloc (.cells #[.string (SL o.tree), .slice a3 n3 c3, .string (SL o.who), .int .i64 o.stamp, .string (SL o.text)] 63)).heap.size, 0, none⟩) 1 1) [o.tree] := World.ownsRow_lit _ #[.string (SL o.tree)] 1 (by rw [h1]; omega) (by unfold maxLen; omega) rfl
    rw [h1] at h0
    exact h0
  have hrd := fun (W : World) (hb : Below w.heap.size w W) => (hs3.turn (Turn.of_below (fun _ => False) hb) (fun _ _ h => h))
  rw [← hn3] at hrd hn34
  have HLIT := Lib.hid hlit
  have HRD := Lib.hid hrd
  have HN3 := Lib.hid hn3
  clear hlit hrd
  clear hck hrow hW1 hbl hn1 hn2 hn3 h hok herr hbody hV hkind hs2 hs3
  go_enter Try.func20, Try.ntmps20
  go_wp2_with fail
  rw [← HW.out]
  go_wp2_with (first | (go_at_call 18; refine CK.out.mono ?_; rintro e w2 ⟨rfl, b2⟩; have BB := Lib.hid b2; obtain ⟨r0, r1, r2, r3, r4, r5, r6, r7, r8, r9⟩ := ROW.out w2 b2; clear b2) | (go_at_call 29; refine (HBODY.out _).mono ?_; rintro e w3 ⟨rfl, b3⟩; have BB := Lib.hid (BB.out.trans (b3.mono BB.out.size)); clear b3; have SZ := Lib.hid (show w.heap.size ≤ w3.heap.size from by have h1 := BL.out.size; have h2 := BB.out.size; omega); have B5 := Lib.hid (((BL.out.trans (BB.out.mono BL.out.size)).alloc SZ.out (.cells #[.string (SL o.tree), .slice a3 n3 c3, .string (SL o.who), .int .i64 o.stamp, .string (SL o.text)] 63)).alloc (by have h3 := SZ.out; simp; omega) (.cells #[.string (SL o.tree)] 9))) | (at_builtin; refine wpList_own_texts rfl _ _ rfl w.heap.size _ [o.tree] rfl (Lib.hid (HLIT.out _ SZ.out)) a3 n3 c3 o.ups rfl HN3.out (fun hh => by have h1 := (HRD.out _ (Below.refl _ _)).bare hh; rw [HN3.out] at h1; exact h1) ((HRD.out _ B5.out).reads) (by simp; have := HN3.out; omega) B5.out.size ?_; intro v4 w4 o4 b4; have O4 := o4; have B4 := b4; clear o4 b4))
  go_ret
  exact ⟨_, rfl, O4.out, B5.out.trans B4.out⟩
set_option maxRecDepth 100000 in
set_option maxHeartbeats 4000000 in
theorem links_4 (F : Nat → Prop) (o : ObjR) (dv ev uv : Value) (w : World) (h : ObjIn w F o dv ev uv) (hok : okO o = true) (hkind : o.kind = 4) :
    Calls Try.prog 20 #[objV o dv ev uv] w fun e w' => ∃ v, e = .returned v ∧ TxtsOwn w.heap.size w' v ([o.target]) ∧ Below w.heap.size w w' := by
  have hck := fun (W : World) (hb : Below w.heap.size w W) => check_any F o dv ev uv W (h.turn (Turn.of_below (fun _ => False) hb) (fun _ _ h => h))
  have herr : errO o = 0 := by unfold errO; rw [hok]; rfl
  rw [herr] at hck
  obtain ⟨a1, c1, B1, o1, rfl, _, _⟩ := h.data
  obtain ⟨a2, c2, g2, o2, rfl, hs2⟩ := h.ents
  obtain ⟨a3, c3, g3, o3, rfl, hs3⟩ := h.ups
  have hbody := fun W => bodyOf_any o a1 o.data.length c1 a2 o.ents.length c2 a3 o.ups.length c3 W
  have hV : bodyV o (.slice a1 o.data.length c1) (.slice a2 o.ents.length c2) (.slice a3 o.ups.length c3) = .iface 65 (.agg #[.string (SL o.target), .string (SL o.name), .string (SL o.who), .int .i64 o.stamp, .string (SL o.text)]) := by unfold bodyV; rw [if_neg (by omega), if_neg (by omega), if_neg (by omega), if_pos hkind]
  rw [hV] at hbody
  unfold objV at hck hbody ⊢
  obtain ⟨n1, hn1⟩ : ∃ n, n = o.data.length := ⟨_, rfl⟩
  obtain ⟨n2, hn2⟩ : ∃ n, n = o.ents.length := ⟨_, rfl⟩
  obtain ⟨n3, hn3⟩ : ∃ n, n = o.ups.length := ⟨_, rfl⟩
  rw [← hn1, ← hn2, ← hn3, hkind] at hck hbody ⊢
  have hbl := (Below.refl w.heap.size w).alloc (Nat.le_refl _) (.cells #[.int .i64 4, .slice a1 n1 c1, .slice a2 n2 c2, .string (SL o.tree), .slice a3 n3 c3, .string (SL o.target), .string (SL o.name), .string (SL o.who), .int .i64 o.stamp, .string (SL o.text)] 26)
  obtain ⟨W1, hW1⟩ : ∃ W1, W1 = w.alloc (.cells #[.int .i64 4, .slice a1 n1 c1, .slice a2 n2 c2, .string (SL o.tree), .slice a3 n3 c3, .string (SL o.target), .string (SL o.name), .string (SL o.who), .int .i64 o.stamp, .string (SL o.text)] 26) := ⟨_, rfl⟩
  rw [← hW1] at hbl
  have hrow : ∀ W, Below W1.heap.size W1 W → _ := fun W hb => obj_cells (below_turn hb (by rw [hW1]; exact heap_alloc_new w _))
  obtain ⟨r0, r1, r2, r3, r4, r5, r6, r7, r8, r9⟩ := hrow W1 (Below.refl _ _)
  have CK := Lib.hid (hck W1 hbl)
  have ROW := Lib.hid hrow
  have HW := Lib.hid hW1
  have BL := Lib.hid hbl
  have BB := Lib.hid (Below.refl W1.heap.size W1)
  have HBODY := Lib.hid hbody
  have hlit : ∀ W : World, w.heap.size ≤ W.heap.size → TxtsOwn w.heap.size ((W.alloc (.cells #[.string (SL o.target), .string (SL o.name), .string (SL o.who), .int .i64 o.stamp, .string (SL o.text)] 65)).alloc (.cells #[.string (SL o.target)] 9)) (.slice (some ⟨W.heap.size + 1, 0, none⟩) 1 1) [o.target] := fun W hx => by
    have h1 : (W.alloc (.cells #[.string (SL o.target), .string (SL o.name), .string (SL o.who), .int .i64 o.stamp, .string (SL o.text)] 65)).heap.size = W.heap.size + 1 := by simp
    have h0 : TxtsOwn w.heap.size ((W.alloc (.cells #[.string (SL o.target), .string (SL o.name), .string (SL o.who), .int .i64 o.stamp, .string (SL o.text)] 65)).alloc (.cells #[.string (SL o.target)] 9)) (.slice (some ⟨(W.alloc (.cells #[.string (SL o.target), .string (SL o.name), .string (SL o.who), .int .i64 o.stamp, .string (SL o.text)] 65)).heap.size, 0, none⟩) 1 1) [o.target] := World.ownsRow_lit _ #[.string (SL o.target)] 1 (by rw [h1]; omega) (by unfold maxLen; omega) rfl
    rw [h1] at h0
    exact h0
  have HLIT := Lib.hid hlit
  clear hlit
  clear hck hrow hW1 hbl hn1 hn2 hn3 h hok herr hbody hV hkind hs2 hs3
  go_enter Try.func20, Try.ntmps20
  go_wp2_with fail
  rw [← HW.out]
  go_wp2_with (first | (go_at_call 18; refine CK.out.mono ?_; rintro e w2 ⟨rfl, b2⟩; have BB := Lib.hid b2; obtain ⟨r0, r1, r2, r3, r4, r5, r6, r7, r8, r9⟩ := ROW.out w2 b2; clear b2) | (go_at_call 29; refine (HBODY.out _).mono ?_; rintro e w3 ⟨rfl, b3⟩; have BB := Lib.hid (BB.out.trans (b3.mono BB.out.size)); clear b3; have SZ := Lib.hid (show w.heap.size ≤ w3.heap.size from by have h1 := BL.out.size; have h2 := BB.out.size; omega); have B5 := Lib.hid (((BL.out.trans (BB.out.mono BL.out.size)).alloc SZ.out (.cells #[.string (SL o.target), .string (SL o.name), .string (SL o.who), .int .i64 o.stamp, .string (SL o.text)] 65)).alloc (by have h3 := SZ.out; simp; omega) (.cells #[.string (SL o.target)] 9))))
  go_ret
  exact ⟨_, rfl, HLIT.out _ SZ.out, B5.out⟩
theorem links_any (F : Nat → Prop) (o : ObjR) (dv ev uv : Value) (w : World) (h : ObjIn w F o dv ev uv) :
    Calls Try.prog 20 #[objV o dv ev uv] w fun e w' => ∃ v, e = .returned v ∧ TxtsOwn w.heap.size w' v (linksO o) ∧ Below w.heap.size w w' := by
  cases hok : okO o with
  | false =>
    have e2 : linksO o = [] := by unfold linksO; rw [if_pos hok]
    rw [e2]
    exact links_0 F o dv ev uv w h hok
  | true =>
    have hl : linksO o = o.ents.map (fun e => e.id) ++ ((if o.kind = 3 then o.tree :: o.ups else []) ++ (if o.kind = 4 then [o.target] else [])) := by unfold linksO; rw [if_neg (by rw [hok]; decide)]
    rcases ok_cases hok with ⟨d, hd, e⟩ | ⟨l, hl2, e⟩ | ⟨e, h1, h2, h3⟩ | ⟨e, h1, h2, h2', h3⟩
    · have e2 : linksO o = [] := by rw [hl, e]; rfl
      rw [e2]
      exact links_1 F o dv ev uv w h hok (by rw [e]; rfl)
    · have e2 : linksO o = o.ents.map (fun e => e.id) := by rw [hl, e]; simp [zeroO]
      rw [e2]
      exact links_2 F o dv ev uv w h hok (by rw [e]; rfl)
    · have e2 : linksO o = o.tree :: o.ups := by rw [hl, e]; simp [zeroO]
      rw [e2]
      exact links_3 F o dv ev uv w h hok (by rw [e]; rfl)
    · have e2 : linksO o = [o.target] := by rw [hl, e]; simp [zeroO]
      rw [e2]
      exact links_4 F o dv ev uv w h hok (by rw [e]; rfl)
end Go.Proofs.Ytckbeeadkiiccaa
