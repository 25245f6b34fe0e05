/- What is laid behind a row of bytes of the call's own: numbers, texts, strings, slices. The document's Encode. Written by wip/tools/mk_enc.py. The document's Encode at whatever object, and its Id. The law's id: thirty-two bytes of one number. Rows of texts and of entries of the call's own, and append to them. The document's Links. Written by wip/tools/mk_links.py. -/
import Derived.Test.YtckbeeadkiiccaaCRefB
import Derived.Test.YtckbeeadkiiccaaCRefCode
import Derived.Laws.OwnMore
import Derived.Deep.RegionHeld3
import Derived.Test.YtckbeeadkiiccaaCSumC
import Derived.Deep.DeepAppendWide
namespace Go.Proofs.Ytckbeeadkiiccaa
open Go.RowKit
theorem own_down {w : World} {base base' : Nat} {e s : Nat} {v : Value} {n : Nat} {xs : List Value} (h : w.ownsRow base e s v n xs) (hb : base' ≤ base) : w.ownsRow base' e s v n xs := by
  refine ⟨h.1, ?_⟩
  rcases h.2 with h4 | ⟨g2, c2, cur2, h5, h6, h7⟩
  · exact .inl h4
  · exact .inr ⟨g2, c2, cur2, h5, Nat.le_trans hb h6, h7⟩
/-- A row of bytes of the call's own. -/
def OutAt (x : Nat) (w : World) (v : Value) (L : OB) : Prop := w.ownsRow x 5 1 v L.length (L.map B8)
theorem OutAt.src {x : Nat} {w : World} {v : Value} {L : OB} (h : OutAt x w v L) : ∃ ao cap B, v = .slice ao L.length cap ∧ SrcAt w ao cap L B 0 ∧ (0 < L.length → x ≤ B) := src_of_own h
theorem OutAt.below {x : Nat} {w w' : World} {v : Value} {L : OB} (h : OutAt x w v L) (hb : Below w.heap.size w w') : OutAt x w' v L := own_below h hb
theorem putNum_out {x : Nat} {w : World} {v : Value} {L : OB} (h : Hid (OutAt x w v L)) (hx : x ≤ w.heap.size) (hL : L.length + 9 ≤ 140737488355328) (n : Nat) (hn : n ≤ 4611686018427387903) :
    Calls Try.prog 31 #[v, .int .i64 (n : Int)] w fun e w' => ∃ v', e = .returned v' ∧ Hid (OutAt x w' v' (L ++ numL n)) ∧ Hid (Below w.heap.size w w') := by
  obtain ⟨ao, cap, B, rfl, hs, _⟩ := h.out.src
  have h1 := refPutNum_any ao cap L B 0 (n : Int) w hs (by omega)
  rw [clampN_nat n hn] at h1
  refine h1.mono ?_
  rintro e w' ⟨v', rfl, ho, hb⟩
  exact ⟨v', rfl, Lib.hid (own_down ho hx), Lib.hid hb⟩
theorem putText_out {x : Nat} {w : World} {v : Value} {L : OB} (h : Hid (OutAt x w v L)) (hx : x ≤ w.heap.size) (t : OB) (hL : L.length + 9 + t.length ≤ 140737488355328) :
    Calls Try.prog 32 #[v, .string (SL t)] w fun e w' => ∃ v', e = .returned v' ∧ Hid (OutAt x w' v' (L ++ txtL t)) ∧ Hid (Below w.heap.size w w') := by
  obtain ⟨ao, cap, B, rfl, hs, _⟩ := h.out.src
  have h1 := refPutText_any ao cap L B 0 (SL t) w hs (by rw [SL_size]; exact hL)
  have e1 : (SL t).data.toList = t := rfl
  rw [e1, SL_size] at h1
  refine h1.mono ?_
  rintro e w' ⟨v', rfl, ho, hb⟩
  exact ⟨v', rfl, Lib.hid (own_down ho hx), Lib.hid hb⟩
/-- append of a string's bytes. -/
theorem wpList_out_string {ops : Array Oper} {rest : List Oper} {o : Oper} {a : Act} {w : World} {Q : Exit → Act → World → Prop}
    (hgd : o.guard = none) (s y : Operand) (hop : o.op = Op.call { callee := Callee.builtin Builtin.append, args := #[s, y], argTypes := #[22, 9] })
    (x : Nat) (v : Value) (L : OB) (hS : a.eval s = v) (h : Hid (OutAt x w v L)) (t : OB) (hX : a.eval y = .string (SL t)) (hb : L.length + t.length ≤ 140737488355328) (hx : x ≤ w.heap.size)
    (hK : ∀ v' w', Hid (OutAt x w' v' (L ++ t)) → Hid (Below x w w') → wpList Try.prog ops Q rest (a.put o.dst v') w') : wpList Try.prog ops Q (o :: rest) a w := by
  obtain ⟨i0, hi, hz0, hz1, hz2⟩ := info_parts info5
  have hz := SL_size t
  refine Lib.wpList_append_own_string w hgd s y 22 9 hop x 5 i0 Try.underlying22 Try.underlying9 hi hz0 hz1 hz2 v L.length _ hS h.out (SL t) hX (by rw [hz]; unfold maxLen; omega) (by rw [hz]; exact hb) hx ?_
  intro v' w' ho hg _
  refine hK v' w' (Lib.hid ?_) (Lib.hid ((Below.refl x w).grown hg hx (fun k hk => (h.out.lt k hk).1)))
  rw [strCells_B8, hz] at ho
  have e1 : (SL t).data.toList = t := rfl
  rw [e1, ← List.map_append, ← List.length_append] at ho
  exact ho
/-- append of a slice's bytes. -/
theorem wpList_out_bytes {ops : Array Oper} {rest : List Oper} {o : Oper} {a : Act} {w : World} {Q : Exit → Act → World → Prop}
    (hgd : o.guard = none) (s y : Operand) (hop : o.op = Op.call { callee := Callee.builtin Builtin.append, args := #[s, y], argTypes := #[22, 22] })
    (x : Nat) (v : Value) (L : OB) (hS : a.eval s = v) (h : Hid (OutAt x w v L)) (F : Nat → Prop) (u : Value) (t : OB) (hu : BytesAt w F u t) (hX : a.eval y = u) (hb : L.length + t.length ≤ 225000000000000) (hx : x ≤ w.heap.size)
    (hK : ∀ v' w', Hid (OutAt x w' v' (L ++ t)) → Hid (Below x w w') → wpList Try.prog ops Q rest (a.put o.dst v') w') : wpList Try.prog ops Q (o :: rest) a w := by
  obtain ⟨ao, cap, B, off, rfl, hs, _⟩ := hu
  refine wpList_append_src hgd s y hop x v L.length _ hS h.out ao t.length cap hX (t.map B8) (by simp) hs.bare hs.cells (B8_one _) hb hx ?_
  intro v' w' ho hg _
  refine hK v' w' (Lib.hid ?_) (Lib.hid ((Below.refl x w).grown hg hx (fun k hk => (h.out.lt k hk).1)))
  have := ho.out
  rw [← List.map_append, ← List.length_append] at this
  exact this
/-- One byte, built as a slice. -/
theorem out_lit (w : World) (x : Nat) (c : UInt8) (hx : x ≤ w.heap.size) : OutAt x (w.alloc (.cells #[B8 c] 5)) (.slice (some ⟨w.heap.size, 0, none⟩) 1 1) [c] := World.ownsRow_lit w #[B8 c] 1 hx (by unfold maxLen; omega) rfl
end Go.Proofs.Ytckbeeadkiiccaa
namespace Go.Proofs.Ytckbeeadkiiccaa
open Go.RowKit
set_option maxRecDepth 100000 in
set_option maxHeartbeats 4000000 in
theorem refEncode_no (F : Nat → Prop) (o : ObjR) (dv ev uv : Value) (w : World) (h : ObjIn w F o dv ev uv) (hf : ObjFits o) (hok : okO o = false) :
    Calls Try.prog 14 #[objV o dv ev uv] w fun e w' => e = .returned (.tuple #[.slice none 0 0, .int .i64 1]) ∧ Below w.heap.size w w' := by
  have hck := fun (W : World) (hb : Below w.heap.size w W) => refCheck_any F o dv ev uv W (h.turn (Turn.of_below (fun _ => False) hb) (fun _ _ h => h)) hf
  have hin := fun (W : World) (hb : Below w.heap.size w W) => h.turn (Turn.of_below (fun _ => False) hb) (fun _ _ h => h)
  have herr : errO o = 1 := by unfold errO; rw [hok]; rfl
  rw [herr] at hck
  obtain ⟨a1, c1, B1, o1, rfl, _, _⟩ := h.data
  obtain ⟨a2, c2, g2, o2, rfl, _⟩ := h.ents
  obtain ⟨a3, c3, g3, o3, rfl, _⟩ := h.ups
  unfold objV at hck ⊢
  obtain ⟨n1, hn1⟩ : ∃ n, n = o.data.length := ⟨_, rfl⟩
  obtain ⟨n2, hn2⟩ : ∃ n, n = o.ents.length := ⟨_, rfl⟩
  obtain ⟨n3, hn3⟩ : ∃ n, n = o.ups.length := ⟨_, rfl⟩
  obtain ⟨z, hz⟩ : ∃ z, z = o.stamp := ⟨_, rfl⟩
  rw [← hn1, ← hn2, ← hn3, ← hz] at hck ⊢
  rw [← hn1, ← hn2, ← hn3] at hin
  have HIN := Lib.hid hin
  have HCK := Lib.hid hck
  have H1 := Lib.hid hn1
  have H2 := Lib.hid hn2
  have H3 := Lib.hid hn3
  have HZ := Lib.hid hz
  have hbl := (Below.refl w.heap.size w).alloc (Nat.le_refl _) (.cells #[.int .i64 o.kind, .slice a1 n1 c1, .slice a2 n2 c2, .string (SL o.tree), .slice a3 n3 c3, .string (SL o.target), .string (SL o.name), .string (SL o.who), .int .i64 z, .string (SL o.text)] 26)
  have BL := Lib.hid hbl
  clear hck hin hn1 hn2 hn3 hz hbl h hok herr
  go_enter Try.func14, Try.ntmps14
  go_wp2_with (go_at_call 30; refine (HCK.out _ BL.out).mono ?_; rintro e wn ⟨rfl, bn⟩; have BL := Lib.hid (BL.out.trans (bn.mono BL.out.size)); clear bn)
  go_ret2
  exact ⟨rfl, BL.out⟩
theorem lit_bytes (w : World) (c : UInt8) : BytesAt (w.alloc (.cells #[B8 c] 5)) (fun _ => True) (.slice (some ⟨w.heap.size, 0, none⟩) 1 1) [c] := by
  have h := OutAt.src (out_lit w 0 c (Nat.zero_le _))
  obtain ⟨ao, cap, B, e, hs, _⟩ := h
  exact ⟨ao, cap, B, 0, e, hs, fun _ => trivial⟩
set_option maxRecDepth 100000 in
set_option maxHeartbeats 8000000 in
theorem refEncode_1 (F : Nat → Prop) (o : ObjR) (dv ev uv : Value) (w : World) (h : ObjIn w F o dv ev uv) (hf : ObjFits o) (hok : okO o = true) (hkind : o.kind = 1) :
    Calls Try.prog 14 #[objV o dv ev uv] w fun e w' => ∃ v, e = .returned (.tuple #[v, .int .i64 0]) ∧ OutAt w.heap.size w' v (encO o) ∧ Below w.heap.size w w' := by
  have hck := fun (W : World) (hb : Below w.heap.size w W) => refCheck_any F o dv ev uv W (h.turn (Turn.of_below (fun _ => False) hb) (fun _ _ h => h)) hf
  have hin := fun (W : World) (hb : Below w.heap.size w W) => h.turn (Turn.of_below (fun _ => False) hb) (fun _ _ h => h)
  have herr : errO o = 0 := by unfold errO; rw [hok]; rfl
  rw [herr] at hck
  obtain ⟨a1, c1, B1, o1, rfl, _, _⟩ := h.data
  obtain ⟨a2, c2, g2, o2, rfl, _⟩ := h.ents
  obtain ⟨a3, c3, g3, o3, rfl, _⟩ := h.ups
  unfold objV at hck ⊢
  obtain ⟨n1, hn1⟩ : ∃ n, n = o.data.length := ⟨_, rfl⟩
  obtain ⟨n2, hn2⟩ : ∃ n, n = o.ents.length := ⟨_, rfl⟩
  obtain ⟨n3, hn3⟩ : ∃ n, n = o.ups.length := ⟨_, rfl⟩
  obtain ⟨z, hz⟩ : ∃ z, z = o.stamp := ⟨_, rfl⟩
  rw [← hn1, ← hn2, ← hn3, ← hz] at hck ⊢
  rw [← hn1, ← hn2, ← hn3] at hin
  have HIN := Lib.hid hin
  have HCK := Lib.hid hck
  have H1 := Lib.hid hn1
  have H2 := Lib.hid hn2
  have H3 := Lib.hid hn3
  have HZ := Lib.hid hz
  rw [hkind] at hck HCK ⊢
  obtain ⟨W1, hW1⟩ : ∃ W1, w.alloc (.cells #[.int .i64 1, .slice a1 n1 c1, .slice a2 n2 c2, .string (SL o.tree), .slice a3 n3 c3, .string (SL o.target), .string (SL o.name), .string (SL o.who), .int .i64 z, .string (SL o.text)] 26) = W1 := ⟨_, rfl⟩
  have hs1 : W1.heap.size = w.heap.size + 1 := by rw [← hW1]; simp
  have hbl : Below w.heap.size w W1 := by rw [← hW1]; exact (Below.refl w.heap.size w).alloc (Nat.le_refl _) _
  have hrow : ∀ W : World, Below W1.heap.size W1 W → W.heap[w.heap.size]? = some (.cells #[.int .i64 1, .slice a1 n1 c1, .slice a2 n2 c2, .string (SL o.tree), .slice a3 n3 c3, .string (SL o.target), .string (SL o.name), .string (SL o.who), .int .i64 z, .string (SL o.text)] 26 (0, 0)) := fun W hb => by
    rw [hb.block w.heap.size (by omega), ← hW1]
    exact heap_alloc_new w _
  obtain ⟨x, hx⟩ : ∃ x, x = w.heap.size + 1 := ⟨_, rfl⟩
  have hxs : x = W1.heap.size := by omega
  have r := obj_cells (hrow W1 (Below.refl _ _))
  obtain ⟨r0, r1, r2, r3, r4, r5, r6, r7, r8, r9⟩ := r
  have ROW := Lib.hid (fun (W : World) (hb : Below x W1 W) => obj_cells (hrow W (by rw [← hxs]; exact hb)))
  have LIT := Lib.hid (fun (W : World) (hb : Below x W1 W) => (show OutAt x (W.alloc (.cells #[.int .u8 1] 5)) (.slice (some ⟨W.heap.size, 0, none⟩) 1 1) [1] from out_lit W x 1 (by have := hb.size; omega)))
  have CK := Lib.hid (hck W1 hbl)
  have BL := Lib.hid hbl
  have HX := Lib.hid hx
  have HXS := Lib.hid hxs
  have HW := Lib.hid hW1
  have QQ : Hid (o.data.length ≤ 1048576) := Lib.hid (by
    have h1 := ok_one hkind
    rw [hok] at h1
    have h2 := h1.symm
    rw [Bool.and_eq_true, decide_eq_true_eq] at h2
    exact h2.1)
  have henc : encO o = [1] ++ o.data := by
    unfold encO bodyL
    rw [hkind]
    rfl
  have HENC := Lib.hid henc
  clear hck hin hn1 hn2 hn3 hz hbl h hok herr hkind hrow hxs hx hW1 hs1 henc HCK
  go_enter Try.func14, Try.ntmps14
  go_wp2_with fail
  rw [HW.out]
  go_wp2_with (first | (go_at_call 30; refine CK.out.mono ?_; rintro e w2 ⟨rfl, b2⟩; have BB := Lib.hid (b2.mono (Nat.le_of_eq HXS.out)); obtain ⟨r0, r1, r2, r3, r4, r5, r6, r7, r8, r9⟩ := ROW.out w2 BB.out; have O := Lib.hid (LIT.out w2 BB.out); have BB := Lib.hid (BB.out.alloc (by have := BB.out.size; have := HXS.out; omega) (.cells #[.int .u8 1] 5)); obtain ⟨s0, s1, s2, s3, s4, s5, s6, s7, s8, s9⟩ := ROW.out _ BB.out; clear b2) | (at_builtin; refine wpList_out_bytes rfl _ _ rfl x _ _ rfl O F _ _ ((HIN.out _ (BL.out.trans (BB.out.mono (by have := HX.out; omega)))).data) rfl (by simp; have := QQ.out; omega) (by have := BB.out.size; have := HXS.out; omega) ?_; intro vi wi oi bi; have BB := Lib.hid (BB.out.trans bi.out); obtain ⟨r0, r1, r2, r3, r4, r5, r6, r7, r8, r9⟩ := ROW.out wi BB.out; have O := oi; clear bi oi))
  go_ret2
  refine ⟨_, rfl, ?_, BL.out.trans (BB.out.mono (by have := HX.out; omega))⟩
  rw [HENC.out]
  exact own_down O.out (by have := HX.out; omega)
set_option maxRecDepth 100000 in
set_option maxHeartbeats 8000000 in
theorem refEncode_2 (F : Nat → Prop) (o : ObjR) (dv ev uv : Value) (w : World) (h : ObjIn w F o dv ev uv) (hf : ObjFits o) (hok : okO o = true) (hkind : o.kind = 2) :
    Calls Try.prog 14 #[objV o dv ev uv] w fun e w' => ∃ v, e = .returned (.tuple #[v, .int .i64 0]) ∧ OutAt w.heap.size w' v (encO o) ∧ Below w.heap.size w w' := by
  have hck := fun (W : World) (hb : Below w.heap.size w W) => refCheck_any F o dv ev uv W (h.turn (Turn.of_below (fun _ => False) hb) (fun _ _ h => h)) hf
  have hin := fun (W : World) (hb : Below w.heap.size w W) => h.turn (Turn.of_below (fun _ => False) hb) (fun _ _ h => h)
  have herr : errO o = 0 := by unfold errO; rw [hok]; rfl
  rw [herr] at hck
  obtain ⟨a1, c1, B1, o1, rfl, _, _⟩ := h.data
  obtain ⟨a2, c2, g2, o2, rfl, hs2⟩ := h.ents
  obtain ⟨a3, c3, g3, o3, rfl, _⟩ := h.ups
  unfold objV at hck ⊢
  obtain ⟨n1, hn1⟩ : ∃ n, n = o.data.length := ⟨_, rfl⟩
  obtain ⟨n2, hn2⟩ : ∃ n, n = o.ents.length := ⟨_, rfl⟩
  obtain ⟨n3, hn3⟩ : ∃ n, n = o.ups.length := ⟨_, rfl⟩
  obtain ⟨z, hz⟩ : ∃ z, z = o.stamp := ⟨_, rfl⟩
  rw [← hn1, ← hn2, ← hn3, ← hz] at hck ⊢
  rw [← hn1, ← hn2, ← hn3] at hin
  have HIN := Lib.hid hin
  have HCK := Lib.hid hck
  have H1 := Lib.hid hn1
  have H2 := Lib.hid hn2
  have H3 := Lib.hid hn3
  have HZ := Lib.hid hz
  rw [hkind] at hck HCK ⊢
  obtain ⟨W1, hW1⟩ : ∃ W1, w.alloc (.cells #[.int .i64 2, .slice a1 n1 c1, .slice a2 n2 c2, .string (SL o.tree), .slice a3 n3 c3, .string (SL o.target), .string (SL o.name), .string (SL o.who), .int .i64 z, .string (SL o.text)] 26) = W1 := ⟨_, rfl⟩
  have hs1 : W1.heap.size = w.heap.size + 1 := by rw [← hW1]; simp
  have hbl : Below w.heap.size w W1 := by rw [← hW1]; exact (Below.refl w.heap.size w).alloc (Nat.le_refl _) _
  have hrow : ∀ W : World, Below W1.heap.size W1 W → W.heap[w.heap.size]? = some (.cells #[.int .i64 2, .slice a1 n1 c1, .slice a2 n2 c2, .string (SL o.tree), .slice a3 n3 c3, .string (SL o.target), .string (SL o.name), .string (SL o.who), .int .i64 z, .string (SL o.text)] 26 (0, 0)) := fun W hb => by
    rw [hb.block w.heap.size (by omega), ← hW1]
    exact heap_alloc_new w _
  obtain ⟨x, hx⟩ : ∃ x, x = w.heap.size + 1 := ⟨_, rfl⟩
  have hxs : x = W1.heap.size := by omega
  have r := obj_cells (hrow W1 (Below.refl _ _))
  obtain ⟨r0, r1, r2, r3, r4, r5, r6, r7, r8, r9⟩ := r
  have ROW := Lib.hid (fun (W : World) (hb : Below x W1 W) => obj_cells (hrow W (by rw [← hxs]; exact hb)))
  have LIT := Lib.hid (fun (W : World) (hb : Below x W1 W) => (show OutAt x (W.alloc (.cells #[.int .u8 2] 5)) (.slice (some ⟨W.heap.size, 0, none⟩) 1 1) [2] from out_lit W x 2 (by have := hb.size; omega)))
  have CK := Lib.hid (hck W1 hbl)
  have BL := Lib.hid hbl
  have HX := Lib.hid hx
  have HXS := Lib.hid hxs
  have HW := Lib.hid hW1
  have hq : entsB o.ents = true := by
    have h1 := ok_two hkind
    rw [hok] at h1
    have h2 := h1.symm
    rw [Bool.and_eq_true] at h2
    exact h2.1
  obtain ⟨he1, he2⟩ := ents_is hq
  have hel : ∀ e ∈ o.ents, e.nm.length ≤ 100 ∧ e.id.length = 32 := fun e he => by
    have h1 := List.all_eq_true.1 he1 e he
    unfold entB partB at h1
    simp only [Bool.and_eq_true, decide_eq_true_eq] at h1
    omega
  have QQ : Hid (n2 ≤ 4096 ∧ ∀ e ∈ o.ents, e.nm.length ≤ 100 ∧ e.id.length = 32) := Lib.hid ⟨by omega, hel⟩
  have FL : Hid (∀ k, (((o.ents.take k).map entL).flatten).length ≤ 1000000) := Lib.hid (fun k => by
    have h2 : ∀ l : List EntR, (∀ e ∈ l, e.nm.length ≤ 100 ∧ e.id.length = 32) → ((l.map entL).flatten).length ≤ 142 * l.length := fun l => by
      induction l with
      | nil => intro _; simp
      | cons a r ih =>
        intro h
        have h3 := ih fun e he => h e (List.mem_cons_of_mem _ he)
        have h4 := h a List.mem_cons_self
        have h5 := numL_le a.nm.length
        have h6 : (entL a).length = (numL a.nm.length).length + a.nm.length + (1 + a.id.length) := by
          unfold entL txtL
          simp only [List.length_append, List.length_cons]
          omega
        rw [List.map_cons, List.flatten_cons, List.length_append, List.length_cons, h6]
        omega
    have h3 := h2 (o.ents.take k) (fun e he => hel e (List.mem_of_mem_take he))
    have h4 : (o.ents.take k).length ≤ 4096 := by rw [List.length_take]; omega
    omega)
  have ENC : Hid (∀ W : World, Below w.heap.size w W → ∀ k e, o.ents[k]? = some e → k < n2 → a2 = some ⟨g2, o2, none⟩ ∧ W.cell? ⟨g2, o2 + k * 3, none⟩ = some (.string (SL e.nm)) ∧ W.cell? ⟨g2, o2 + k * 3 + 1, none⟩ = some (.bool e.dir) ∧ W.cell? ⟨g2, o2 + k * 3 + 2, none⟩ = some (.string (SL e.id))) := Lib.hid (fun W hb k e he hk =>
    (hs2.turn (Turn.of_below (fun _ => False) hb) (fun _ _ h => h)).entry he (by omega))
  have henc : encO o = [2] ++ numL n2 ++ (o.ents.map entL).flatten := by
    unfold encO bodyL
    rw [hkind, ← hn2]
    rfl
  have HENC := Lib.hid henc
  have hn24 : n2 ≤ 4096 := QQ.out.1
  clear hck hin hn1 hn2 hn3 hz hbl h hok herr hkind hrow hxs hx hW1 hs1 henc HCK HIN hq he1 he2 hel hs2 H1 H3
  go_enter Try.func14, Try.ntmps14
  go_wp2_with fail
  rw [HW.out]
  go_wp2_with (first | (go_at_call 30; refine CK.out.mono ?_; rintro e w2 ⟨rfl, b2⟩; have BB := Lib.hid (b2.mono (Nat.le_of_eq HXS.out)); obtain ⟨r0, r1, r2, r3, r4, r5, r6, r7, r8, r9⟩ := ROW.out w2 BB.out; have O := Lib.hid (LIT.out w2 BB.out); have BB := Lib.hid (BB.out.alloc (by have := BB.out.size; have := HXS.out; omega) (.cells #[.int .u8 2] 5)); obtain ⟨s0, s1, s2, s3, s4, s5, s6, s7, s8, s9⟩ := ROW.out _ BB.out; clear b2) | (go_at_call 31; refine (putNum_out O (by have := BB.out.size; have := HXS.out; omega) (by simp) _ (by omega)).mono ?_; rintro e wi ⟨vi, rfl, oi, bi⟩; have BB := Lib.hid (BB.out.trans (bi.out.mono (by have := BB.out.size; have := HXS.out; omega))); obtain ⟨r0, r1, r2, r3, r4, r5, r6, r7, r8, r9⟩ := ROW.out wi BB.out; have O := oi; clear bi oi))
  go_loopw [4, 5, 6] (fun ov i dd W => ∃ (k : Nat), i = .int .i64 (k : Int) ∧ k ≤ n2 ∧ dd = dd ∧ Hid (OutAt x W ov ([2] ++ numL n2 ++ ((o.ents.take k).map entL).flatten)) ∧ Below x W1 W) (fun _ i _ _ => n2 - (intOf i).toNat)
  case atStart => exact ⟨0, rfl, Nat.zero_le _, rfl, by simpa using O, BB.out⟩
  case round =>
    clear O BB r0 r1 r2 r3 r4 r5 r6 r7 r8 r9
    obtain ⟨k, rfl, hk, _, hO, hB⟩ := hrel
    have O := hO
    have BB := Lib.hid hB
    have BW := Lib.hid (BL.out.trans (hB.mono (by have := HX.out; omega)))
    obtain ⟨r0, r1, r2, r3, r4, r5, r6, r7, r8, r9⟩ := ROW.out wr hB
    clear hO hB
    by_cases hlt : k < n2
    · have i0 : (0 : Int) ≤ (k : Int) := by omega
      have i1 : (k : Int) < (n2 : Int) := by omega
      obtain ⟨e, he⟩ : ∃ e, o.ents[k]? = some e := ⟨_, List.getElem?_eq_getElem (by rw [← H2.out]; exact hlt)⟩
      have NB := Lib.hid (QQ.out.2 e (List.mem_of_getElem? he))
      have HEE := Lib.hid he
      obtain ⟨rfl, c0, c1', c2'⟩ := ENC.out wr BW.out k e he hlt
      have ENK := Lib.hid (fun (W : World) (hb : Below w.heap.size w W) => (ENC.out W hb k e he hlt).2)
      have htk : ∀ d : UInt8, (if e.dir = true then (1 : UInt8) else 0) = d → [2] ++ numL n2 ++ ((o.ents.take k).map entL).flatten ++ txtL e.nm ++ [d] ++ e.id = [2] ++ numL n2 ++ ((o.ents.take (k + 1)).map entL).flatten := fun d hd => by
        rw [List.take_add_one, he]
        unfold entL
        simp [hd]
      have HTK := Lib.hid htk
      clear he htk
      obtain ⟨dr, hdr⟩ : ∃ d, d = e.dir := ⟨_, rfl⟩
      rw [← hdr] at c1' ENK HTK
      clear hdr
      cases dr with
      | true =>
        go_wp2_with (first | (go_at_call 32; refine (putText_out O (by have := BB.out.size; have := HXS.out; omega) _ (by simp; have q1 := numL_le n2; have q5 := FL.out k; have q6 := NB.out; simp at q5; omega)).mono ?_; rintro e wi ⟨vi, rfl, oi, bi⟩; have BB := Lib.hid (BB.out.trans (bi.out.mono (by have := BB.out.size; have := HXS.out; omega))); obtain ⟨r0, r1, r2, r3, r4, r5, r6, r7, r8, r9⟩ := ROW.out wi BB.out; have O := oi; obtain ⟨c0, c1', c2'⟩ := ENK.out wi (BL.out.trans (BB.out.mono (by have := HX.out; omega))); clear bi oi) | (at_builtin; refine wpList_out_bytes rfl _ _ rfl x _ _ rfl (Lib.hid (O.out.below ((Below.refl _ _).alloc (Nat.le_refl _) _))) (fun _ => True) _ [1] (lit_bytes _ 1) rfl (by simp [txtL]; have q1 := numL_le n2; have q2 := numL_le e.nm.length; have q5 := FL.out k; have q6 := NB.out; simp at q5; omega) (by have := BB.out.size; have := HXS.out; simp; omega) ?_; intro vi wi oi bi; have BB := Lib.hid ((BB.out.alloc (by have := BB.out.size; have := HXS.out; omega) _).trans bi.out); obtain ⟨r0, r1, r2, r3, r4, r5, r6, r7, r8, r9⟩ := ROW.out wi BB.out; obtain ⟨c0, c1', c2'⟩ := ENK.out wi (BL.out.trans (BB.out.mono (by have := HX.out; omega))); have O := oi; clear bi oi) | (at_builtin; refine wpList_out_string rfl _ _ rfl x _ _ rfl O _ rfl (by simp [txtL]; have q1 := numL_le n2; have q2 := numL_le e.nm.length; have q5 := FL.out k; have q6 := NB.out; simp at q5; omega) (by have := BB.out.size; have := HXS.out; omega) ?_; intro vi wi oi bi; have BB := Lib.hid (BB.out.trans bi.out); obtain ⟨r0, r1, r2, r3, r4, r5, r6, r7, r8, r9⟩ := ROW.out wi BB.out; have O := oi; clear bi oi))
        go_roundw
        case rel => exact ⟨k + 1, by go_num, by omega, trivial, by rw [← HTK.out 1 rfl]; exact O, BB.out⟩
        case measure => simp [intOf]; omega
      | false =>
        go_wp2_with (first | (go_at_call 32; refine (putText_out O (by have := BB.out.size; have := HXS.out; omega) _ (by simp; have q1 := numL_le n2; have q5 := FL.out k; have q6 := NB.out; simp at q5; omega)).mono ?_; rintro e wi ⟨vi, rfl, oi, bi⟩; have BB := Lib.hid (BB.out.trans (bi.out.mono (by have := BB.out.size; have := HXS.out; omega))); obtain ⟨r0, r1, r2, r3, r4, r5, r6, r7, r8, r9⟩ := ROW.out wi BB.out; have O := oi; obtain ⟨c0, c1', c2'⟩ := ENK.out wi (BL.out.trans (BB.out.mono (by have := HX.out; omega))); clear bi oi) | (at_builtin; refine wpList_out_bytes rfl _ _ rfl x _ _ rfl (Lib.hid (O.out.below ((Below.refl _ _).alloc (Nat.le_refl _) _))) (fun _ => True) _ [0] (lit_bytes _ 0) rfl (by simp [txtL]; have q1 := numL_le n2; have q2 := numL_le e.nm.length; have q5 := FL.out k; have q6 := NB.out; simp at q5; omega) (by have := BB.out.size; have := HXS.out; simp; omega) ?_; intro vi wi oi bi; have BB := Lib.hid ((BB.out.alloc (by have := BB.out.size; have := HXS.out; omega) _).trans bi.out); obtain ⟨r0, r1, r2, r3, r4, r5, r6, r7, r8, r9⟩ := ROW.out wi BB.out; obtain ⟨c0, c1', c2'⟩ := ENK.out wi (BL.out.trans (BB.out.mono (by have := HX.out; omega))); have O := oi; clear bi oi) | (at_builtin; refine wpList_out_string rfl _ _ rfl x _ _ rfl O _ rfl (by simp [txtL]; have q1 := numL_le n2; have q2 := numL_le e.nm.length; have q5 := FL.out k; have q6 := NB.out; simp at q5; omega) (by have := BB.out.size; have := HXS.out; omega) ?_; intro vi wi oi bi; have BB := Lib.hid (BB.out.trans bi.out); obtain ⟨r0, r1, r2, r3, r4, r5, r6, r7, r8, r9⟩ := ROW.out wi BB.out; have O := oi; clear bi oi))
        go_roundw
        case rel => exact ⟨k + 1, by go_num, by omega, trivial, by rw [← HTK.out 0 rfl]; exact O, BB.out⟩
        case measure => simp [intOf]; omega
    · obtain rfl : k = n2 := by omega
      have i1 : ¬ (k : Int) < (k : Int) := by omega
      rw [List.take_of_length_le (by rw [H2.out]; exact Nat.le_refl _)] at O
      go_wp2
      go_ret2
      refine ⟨_, rfl, ?_, BL.out.trans (BB.out.mono (by have := HX.out; omega))⟩
      rw [HENC.out]
      exact own_down O.out (by have := HX.out; omega)
set_option maxRecDepth 100000 in
set_option maxHeartbeats 8000000 in
theorem refEncode_3 (F : Nat → Prop) (o : ObjR) (dv ev uv : Value) (w : World) (h : ObjIn w F o dv ev uv) (hf : ObjFits o) (hok : okO o = true) (hkind : o.kind = 3) :
    Calls Try.prog 14 #[objV o dv ev uv] w fun e w' => ∃ v, e = .returned (.tuple #[v, .int .i64 0]) ∧ OutAt w.heap.size w' v (encO o) ∧ Below w.heap.size w w' := by
  have hck := fun (W : World) (hb : Below w.heap.size w W) => refCheck_any F o dv ev uv W (h.turn (Turn.of_below (fun _ => False) hb) (fun _ _ h => h)) hf
  have hin := fun (W : World) (hb : Below w.heap.size w W) => h.turn (Turn.of_below (fun _ => False) hb) (fun _ _ h => h)
  have herr : errO o = 0 := by unfold errO; rw [hok]; rfl
  rw [herr] at hck
  obtain ⟨a1, c1, B1, o1, rfl, _, _⟩ := h.data
  obtain ⟨a2, c2, g2, o2, rfl, _⟩ := h.ents
  obtain ⟨a3, c3, g3, o3, rfl, hs3⟩ := h.ups
  unfold objV at hck ⊢
  obtain ⟨n1, hn1⟩ : ∃ n, n = o.data.length := ⟨_, rfl⟩
  obtain ⟨n2, hn2⟩ : ∃ n, n = o.ents.length := ⟨_, rfl⟩
  obtain ⟨n3, hn3⟩ : ∃ n, n = o.ups.length := ⟨_, rfl⟩
  obtain ⟨z, hz⟩ : ∃ z, z = o.stamp := ⟨_, rfl⟩
  rw [← hn1, ← hn2, ← hn3, ← hz] at hck ⊢
  rw [← hn1, ← hn2, ← hn3] at hin
  have HIN := Lib.hid hin
  have HCK := Lib.hid hck
  have H1 := Lib.hid hn1
  have H2 := Lib.hid hn2
  have H3 := Lib.hid hn3
  have HZ := Lib.hid hz
  rw [hkind] at hck HCK ⊢
  obtain ⟨W1, hW1⟩ : ∃ W1, w.alloc (.cells #[.int .i64 3, .slice a1 n1 c1, .slice a2 n2 c2, .string (SL o.tree), .slice a3 n3 c3, .string (SL o.target), .string (SL o.name), .string (SL o.who), .int .i64 z, .string (SL o.text)] 26) = W1 := ⟨_, rfl⟩
  have hs1 : W1.heap.size = w.heap.size + 1 := by rw [← hW1]; simp
  have hbl : Below w.heap.size w W1 := by rw [← hW1]; exact (Below.refl w.heap.size w).alloc (Nat.le_refl _) _
  have hrow : ∀ W : World, Below W1.heap.size W1 W → W.heap[w.heap.size]? = some (.cells #[.int .i64 3, .slice a1 n1 c1, .slice a2 n2 c2, .string (SL o.tree), .slice a3 n3 c3, .string (SL o.target), .string (SL o.name), .string (SL o.who), .int .i64 z, .string (SL o.text)] 26 (0, 0)) := fun W hb => by
    rw [hb.block w.heap.size (by omega), ← hW1]
    exact heap_alloc_new w _
  obtain ⟨x, hx⟩ : ∃ x, x = w.heap.size + 1 := ⟨_, rfl⟩
  have hxs : x = W1.heap.size := by omega
  have r := obj_cells (hrow W1 (Below.refl _ _))
  obtain ⟨r0, r1, r2, r3, r4, r5, r6, r7, r8, r9⟩ := r
  have ROW := Lib.hid (fun (W : World) (hb : Below x W1 W) => obj_cells (hrow W (by rw [← hxs]; exact hb)))
  have LIT := Lib.hid (fun (W : World) (hb : Below x W1 W) => (show OutAt x (W.alloc (.cells #[.int .u8 3] 5)) (.slice (some ⟨W.heap.size, 0, none⟩) 1 1) [3] from out_lit W x 3 (by have := hb.size; omega)))
  have CK := Lib.hid (hck W1 hbl)
  have BL := Lib.hid hbl
  have HX := Lib.hid hx
  have HXS := Lib.hid hxs
  have HW := Lib.hid hW1
  obtain ⟨m, hm⟩ : ∃ m : Nat, z = (m : Int) := ⟨z.toNat, by
    rcases ok_cases hok with ⟨d, hd, e⟩ | ⟨l, hl, e⟩ | ⟨e, h1, h2, h3⟩ | ⟨e, h1, h2, h2', h3⟩
    · rw [e] at hkind; cases hkind
    · rw [e] at hkind; cases hkind
    · have := (told_is h3).2.2.1; omega
    · rw [e] at hkind; cases hkind⟩
  have hq : o.tree.length = 32 ∧ upsB o.ups = true ∧ o.who.length ≤ 1000 ∧ o.text.length ≤ 1000 ∧ m ≤ 1099511627776 := by
    rcases ok_cases hok with ⟨d, hd, e⟩ | ⟨l, hl, e⟩ | ⟨e, h1, h2, h3⟩ | ⟨e, h1, h2, h2', h3⟩
    · rw [e] at hkind; cases hkind
    · rw [e] at hkind; cases hkind
    · have := told_is h3; exact ⟨h1, h2, this.1, this.2.1, by omega⟩
    · rw [e] at hkind; cases hkind
  obtain ⟨hu1, hu2⟩ := ups_is hq.2.1
  have QQ : Hid (o.tree.length = 32 ∧ n3 ≤ 4 ∧ o.who.length ≤ 1000 ∧ o.text.length ≤ 1000 ∧ m ≤ 1099511627776 ∧ ∀ t ∈ o.ups, t.length = 32) := Lib.hid ⟨hq.1, by omega, hq.2.2.1, hq.2.2.2.1, hq.2.2.2.2, fun t ht => by simpa using List.all_eq_true.1 hu1 t ht⟩
  have FL : Hid (∀ k, ((o.ups.take k).flatten).length ≤ 128) := Lib.hid (fun k => by
    have h1 := flat_take_le o.ups k
    have h2 : ∀ l : List OB, l.all (fun u => decide (u.length = 32)) = true → l.flatten.length = 32 * l.length := fun l => by
      induction l with
      | nil => intro _; rfl
      | cons a r ih =>
        intro h
        rw [List.all_cons, Bool.and_eq_true, decide_eq_true_eq] at h
        rw [List.flatten_cons, List.length_append, ih h.2, h.1, List.length_cons]
        omega
    have h3 := h2 o.ups hu1
    omega)
  have UPC : Hid (∀ W : World, Below w.heap.size w W → ∀ k t, o.ups[k]? = some t → k < n3 → a3 = some ⟨g3, o3, none⟩ ∧ W.cell? ⟨g3, o3 + k, none⟩ = some (.string (SL t))) := Lib.hid (fun W hb k t ht hk => by
    have h1 := (hs3.turn (Turn.of_below (fun _ => False) hb) (fun _ _ h => h)).text ht (by omega)
    exact h1)
  have henc : encO o = [3] ++ o.tree ++ numL n3 ++ o.ups.flatten ++ txtL o.who ++ numL m ++ txtL o.text := by
    have hmz : o.stamp.toNat = m := by omega
    unfold encO bodyL tailO
    rw [hkind, hmz, ← hn3]
    simp [txtL]
  rw [hm] at r8 ROW HW HCK CK ⊢
  have HENC := Lib.hid henc
  clear hck hin hn1 hn2 hn3 hz hbl h hok herr hkind hrow hxs hx hW1 hs1 hm henc HCK HIN hq hu1 hu2 hs3 H1 H2
  go_enter Try.func14, Try.ntmps14
  go_wp2_with fail
  rw [HW.out]
  go_wp2_with (first | (go_at_call 30; refine CK.out.mono ?_; rintro e w2 ⟨rfl, b2⟩; have BB := Lib.hid (b2.mono (Nat.le_of_eq HXS.out)); obtain ⟨r0, r1, r2, r3, r4, r5, r6, r7, r8, r9⟩ := ROW.out w2 BB.out; have O := Lib.hid (LIT.out w2 BB.out); have BB := Lib.hid (BB.out.alloc (by have := BB.out.size; have := HXS.out; omega) (.cells #[.int .u8 3] 5)); obtain ⟨s0, s1, s2, s3, s4, s5, s6, s7, s8, s9⟩ := ROW.out _ BB.out; clear b2) | (at_builtin; refine wpList_out_string rfl _ _ rfl x _ _ rfl O _ rfl (by simp; have q1 := numL_le n3; have q4 := QQ.out; omega) (by have := BB.out.size; have := HXS.out; omega) ?_; intro vi wi oi bi; have BB := Lib.hid (BB.out.trans bi.out); obtain ⟨r0, r1, r2, r3, r4, r5, r6, r7, r8, r9⟩ := ROW.out wi BB.out; have O := oi; clear bi oi) | (go_at_call 31; refine (putNum_out O (by have := BB.out.size; have := HXS.out; omega) (by simp; have q1 := numL_le n3; have q4 := QQ.out; omega) _ (by have := QQ.out; omega)).mono ?_; rintro e wi ⟨vi, rfl, oi, bi⟩; have BB := Lib.hid (BB.out.trans (bi.out.mono (by have := BB.out.size; have := HXS.out; omega))); obtain ⟨r0, r1, r2, r3, r4, r5, r6, r7, r8, r9⟩ := ROW.out wi BB.out; have O := oi; clear bi oi))
  have hn34 : n3 ≤ 4 := QQ.out.2.1
  go_loopw [4, 7] (fun ov i W => ∃ (k : Nat), i = .int .i64 (k : Int) ∧ k ≤ n3 ∧ Hid (OutAt x W ov ([3] ++ o.tree ++ numL n3 ++ (o.ups.take k).flatten)) ∧ Below x W1 W) (fun _ i _ => n3 - (intOf i).toNat)
  case atStart => exact ⟨0, rfl, Nat.zero_le _, by simpa using O, BB.out⟩
  case round =>
    clear O BB r0 r1 r2 r3 r4 r5 r6 r7 r8 r9
    obtain ⟨k, rfl, hk, hO, hB⟩ := hrel
    have O := hO
    have BB := Lib.hid hB
    have BW := Lib.hid (BL.out.trans (hB.mono (by have := HX.out; omega)))
    obtain ⟨r0, r1, r2, r3, r4, r5, r6, r7, r8, r9⟩ := ROW.out wr hB
    clear hO hB
    by_cases hlt : k < n3
    · have i0 : (0 : Int) ≤ (k : Int) := by omega
      have i1 : (k : Int) < (n3 : Int) := by omega
      obtain ⟨t, ht⟩ : ∃ t, o.ups[k]? = some t := ⟨_, List.getElem?_eq_getElem (by rw [← H3.out]; exact hlt)⟩
      have ht32 := QQ.out.2.2.2.2.2 t (List.mem_of_getElem? ht)
      obtain ⟨rfl, cc⟩ := UPC.out wr BW.out k t ht hlt
      have htk : [3] ++ o.tree ++ numL n3 ++ (o.ups.take k).flatten ++ t = [3] ++ o.tree ++ numL n3 ++ (o.ups.take (k + 1)).flatten := by
        rw [List.take_add_one, ht]
        simp
      have HTK := Lib.hid htk
      have T32 := Lib.hid ht32
      clear ht htk ht32
      go_wp2_with (first | (at_builtin; refine wpList_out_string rfl _ _ rfl x _ _ rfl O _ rfl (by simp; have q1 := numL_le n3; have q4 := QQ.out; have q5 := FL.out k; have q6 := T32.out; simp at q5; omega) (by have := BB.out.size; have := HXS.out; omega) ?_; intro vi wi oi bi; have BB := Lib.hid (BB.out.trans bi.out); obtain ⟨r0, r1, r2, r3, r4, r5, r6, r7, r8, r9⟩ := ROW.out wi BB.out; have O := oi; clear bi oi))
      go_roundw
      case rel => exact ⟨k + 1, by go_num, by omega, by rw [← HTK.out]; exact O, BB.out⟩
      case measure => simp [intOf]; omega
    · obtain rfl : k = n3 := by omega
      have i1 : ¬ (k : Int) < (k : Int) := by omega
      rw [List.take_of_length_le (by rw [H3.out]; exact Nat.le_refl _)] at O
      have FL2 := Lib.hid (show o.ups.flatten.length ≤ 128 from by have := FL.out o.ups.length; rw [List.take_length] at this; exact this)
      go_wp2_with (first | (go_at_call 32; refine (putText_out O (by have := BB.out.size; have := HXS.out; omega) _ (by simp; have q1 := numL_le k; have q2 := numL_le o.who.length; have q3 := numL_le m; have q4 := QQ.out; have q5 := FL2.out; simp at q5; omega)).mono ?_; rintro e wi ⟨vi, rfl, oi, bi⟩; have BB := Lib.hid (BB.out.trans (bi.out.mono (by have := BB.out.size; have := HXS.out; omega))); obtain ⟨r0, r1, r2, r3, r4, r5, r6, r7, r8, r9⟩ := ROW.out wi BB.out; have O := oi; clear bi oi))
      have KEEP := Lib.hid (fun (W : World) (hb : Below x W1 W) => (show W.cell? ⟨w.heap.size, 6, none⟩ = some (.string (SL o.name)) ∧ W.cell? ⟨w.heap.size, 7, none⟩ = some (.string (SL o.who)) ∧ W.cell? ⟨w.heap.size, 8, none⟩ = some (.int .i64 (m : Int)) ∧ W.cell? ⟨w.heap.size, 9, none⟩ = some (.string (SL o.text)) from ⟨(ROW.out W hb).2.2.2.2.2.2.1, (ROW.out W hb).2.2.2.2.2.2.2.1, (ROW.out W hb).2.2.2.2.2.2.2.2.1, (ROW.out W hb).2.2.2.2.2.2.2.2.2⟩))
      have BB := Lib.hid BB.out.drew
      have O := Lib.hid (O.out.below ((Below.refl _ _).drew))
      first
      | go_region_held3 (fun W => W.cell? ⟨w.heap.size, 6, none⟩ = some (.string (SL o.name)) ∧ W.cell? ⟨w.heap.size, 7, none⟩ = some (.string (SL o.who)) ∧ W.cell? ⟨w.heap.size, 8, none⟩ = some (.int .i64 (m : Int)) ∧ W.cell? ⟨w.heap.size, 9, none⟩ = some (.string (SL o.text))) (first | exact KEEP.out _ BB.out) ((first | (go_at_call 31; refine (putNum_out O (by have := BB.out.size; have := HXS.out; omega) (by simp [txtL]; have q1 := numL_le k; have q2 := numL_le o.who.length; have q3 := numL_le m; have q4 := QQ.out; have q5 := FL2.out; simp at q5; omega) _ (by have := QQ.out; omega)).mono ?_; rintro e wi ⟨vi, rfl, oi, bi⟩; have BB := Lib.hid (BB.out.trans (bi.out.mono (by have := BB.out.size; have := HXS.out; omega))); obtain ⟨r0, r1, r2, r3, r4, r5, r6, r7, r8, r9⟩ := ROW.out wi BB.out; have O := oi; clear bi oi) | (go_at_call 32; refine (putText_out O (by have := BB.out.size; have := HXS.out; omega) _ (by simp [txtL]; have q1 := numL_le k; have q2 := numL_le o.who.length; have q3 := numL_le m; have q4 := QQ.out; have q5 := FL2.out; simp at q5; omega)).mono ?_; rintro e wi ⟨vi, rfl, oi, bi⟩; have BB := Lib.hid (BB.out.trans (bi.out.mono (by have := BB.out.size; have := HXS.out; omega))); obtain ⟨r0, r1, r2, r3, r4, r5, r6, r7, r8, r9⟩ := ROW.out wi BB.out; have O := oi; clear bi oi)))
      | fail "held3 (2)"
      go_wp2_with fail
      go_ret2
      refine ⟨_, rfl, ?_, BL.out.trans (BB.out.mono (by have := HX.out; omega))⟩
      rw [HENC.out]
      exact own_down O.out (by have := HX.out; omega)
set_option maxRecDepth 100000 in
set_option maxHeartbeats 8000000 in
theorem refEncode_4 (F : Nat → Prop) (o : ObjR) (dv ev uv : Value) (w : World) (h : ObjIn w F o dv ev uv) (hf : ObjFits o) (hok : okO o = true) (hkind : o.kind = 4) :
    Calls Try.prog 14 #[objV o dv ev uv] w fun e w' => ∃ v, e = .returned (.tuple #[v, .int .i64 0]) ∧ OutAt w.heap.size w' v (encO o) ∧ Below w.heap.size w w' := by
  have hck := fun (W : World) (hb : Below w.heap.size w W) => refCheck_any F o dv ev uv W (h.turn (Turn.of_below (fun _ => False) hb) (fun _ _ h => h)) hf
  have hin := fun (W : World) (hb : Below w.heap.size w W) => h.turn (Turn.of_below (fun _ => False) hb) (fun _ _ h => h)
  have herr : errO o = 0 := by unfold errO; rw [hok]; rfl
  rw [herr] at hck
  obtain ⟨a1, c1, B1, o1, rfl, _, _⟩ := h.data
  obtain ⟨a2, c2, g2, o2, rfl, _⟩ := h.ents
  obtain ⟨a3, c3, g3, o3, rfl, _⟩ := h.ups
  unfold objV at hck ⊢
  obtain ⟨n1, hn1⟩ : ∃ n, n = o.data.length := ⟨_, rfl⟩
  obtain ⟨n2, hn2⟩ : ∃ n, n = o.ents.length := ⟨_, rfl⟩
  obtain ⟨n3, hn3⟩ : ∃ n, n = o.ups.length := ⟨_, rfl⟩
  obtain ⟨z, hz⟩ : ∃ z, z = o.stamp := ⟨_, rfl⟩
  rw [← hn1, ← hn2, ← hn3, ← hz] at hck ⊢
  rw [← hn1, ← hn2, ← hn3] at hin
  have HIN := Lib.hid hin
  have HCK := Lib.hid hck
  have H1 := Lib.hid hn1
  have H2 := Lib.hid hn2
  have H3 := Lib.hid hn3
  have HZ := Lib.hid hz
  rw [hkind] at hck HCK ⊢
  obtain ⟨W1, hW1⟩ : ∃ W1, w.alloc (.cells #[.int .i64 4, .slice a1 n1 c1, .slice a2 n2 c2, .string (SL o.tree), .slice a3 n3 c3, .string (SL o.target), .string (SL o.name), .string (SL o.who), .int .i64 z, .string (SL o.text)] 26) = W1 := ⟨_, rfl⟩
  have hs1 : W1.heap.size = w.heap.size + 1 := by rw [← hW1]; simp
  have hbl : Below w.heap.size w W1 := by rw [← hW1]; exact (Below.refl w.heap.size w).alloc (Nat.le_refl _) _
  have hrow : ∀ W : World, Below W1.heap.size W1 W → W.heap[w.heap.size]? = some (.cells #[.int .i64 4, .slice a1 n1 c1, .slice a2 n2 c2, .string (SL o.tree), .slice a3 n3 c3, .string (SL o.target), .string (SL o.name), .string (SL o.who), .int .i64 z, .string (SL o.text)] 26 (0, 0)) := fun W hb => by
    rw [hb.block w.heap.size (by omega), ← hW1]
    exact heap_alloc_new w _
  obtain ⟨x, hx⟩ : ∃ x, x = w.heap.size + 1 := ⟨_, rfl⟩
  have hxs : x = W1.heap.size := by omega
  have r := obj_cells (hrow W1 (Below.refl _ _))
  obtain ⟨r0, r1, r2, r3, r4, r5, r6, r7, r8, r9⟩ := r
  have ROW := Lib.hid (fun (W : World) (hb : Below x W1 W) => obj_cells (hrow W (by rw [← hxs]; exact hb)))
  have LIT := Lib.hid (fun (W : World) (hb : Below x W1 W) => (show OutAt x (W.alloc (.cells #[.int .u8 4] 5)) (.slice (some ⟨W.heap.size, 0, none⟩) 1 1) [4] from out_lit W x 4 (by have := hb.size; omega)))
  have CK := Lib.hid (hck W1 hbl)
  have BL := Lib.hid hbl
  have HX := Lib.hid hx
  have HXS := Lib.hid hxs
  have HW := Lib.hid hW1
  obtain ⟨m, hm⟩ : ∃ m : Nat, z = (m : Int) := ⟨z.toNat, by
    rcases ok_cases hok with ⟨d, hd, e⟩ | ⟨l, hl, e⟩ | ⟨e, h1, h2, h3⟩ | ⟨e, h1, h2, h2', h3⟩
    · rw [e] at hkind; cases hkind
    · rw [e] at hkind; cases hkind
    · rw [e] at hkind; cases hkind
    · have := (told_is h3).2.2.1; omega⟩
  have QQ : Hid (o.target.length = 32 ∧ o.name.length ≤ 200 ∧ o.who.length ≤ 1000 ∧ o.text.length ≤ 1000 ∧ m ≤ 1099511627776) := Lib.hid (by
    rcases ok_cases hok with ⟨d, hd, e⟩ | ⟨l, hl, e⟩ | ⟨e, h1, h2, h3⟩ | ⟨e, h1, h2, h2', h3⟩
    · rw [e] at hkind; cases hkind
    · rw [e] at hkind; cases hkind
    · rw [e] at hkind; cases hkind
    · have := told_is h3; exact ⟨h1, h2', this.1, this.2.1, by omega⟩)
  have henc : encO o = [4] ++ o.target ++ txtL o.name ++ txtL o.who ++ numL m ++ txtL o.text := by
    have hmz : o.stamp.toNat = m := by omega
    unfold encO bodyL tailO
    rw [hkind, hmz]
    simp [txtL]
  rw [hm] at r8 ROW HW HCK CK ⊢
  have HENC := Lib.hid henc
  clear hck hin hn1 hn2 hn3 hz hbl h hok herr hkind hrow hxs hx hW1 hs1 hm henc HCK
  go_enter Try.func14, Try.ntmps14
  go_wp2_with fail
  rw [HW.out]
  go_wp2_with (first | (go_at_call 30; refine CK.out.mono ?_; rintro e w2 ⟨rfl, b2⟩; have BB := Lib.hid (b2.mono (Nat.le_of_eq HXS.out)); obtain ⟨r0, r1, r2, r3, r4, r5, r6, r7, r8, r9⟩ := ROW.out w2 BB.out; have O := Lib.hid (LIT.out w2 BB.out); have BB := Lib.hid (BB.out.alloc (by have := BB.out.size; have := HXS.out; omega) (.cells #[.int .u8 4] 5)); obtain ⟨s0, s1, s2, s3, s4, s5, s6, s7, s8, s9⟩ := ROW.out _ BB.out; clear b2) | (at_builtin; refine wpList_out_string rfl _ _ rfl x _ _ rfl O _ rfl (by simp; have q1 := numL_le o.name.length; have q2 := numL_le o.who.length; have q3 := numL_le m; have q4 := QQ.out; omega) (by have := BB.out.size; have := HXS.out; omega) ?_; intro vi wi oi bi; have BB := Lib.hid (BB.out.trans bi.out); obtain ⟨r0, r1, r2, r3, r4, r5, r6, r7, r8, r9⟩ := ROW.out wi BB.out; have O := oi; clear bi oi))
  have KEEP := Lib.hid (fun (W : World) (hb : Below x W1 W) => (show W.cell? ⟨w.heap.size, 6, none⟩ = some (.string (SL o.name)) ∧ W.cell? ⟨w.heap.size, 7, none⟩ = some (.string (SL o.who)) ∧ W.cell? ⟨w.heap.size, 8, none⟩ = some (.int .i64 (m : Int)) ∧ W.cell? ⟨w.heap.size, 9, none⟩ = some (.string (SL o.text)) from ⟨(ROW.out W hb).2.2.2.2.2.2.1, (ROW.out W hb).2.2.2.2.2.2.2.1, (ROW.out W hb).2.2.2.2.2.2.2.2.1, (ROW.out W hb).2.2.2.2.2.2.2.2.2⟩))
  have BB := Lib.hid BB.out.drew
  have O := Lib.hid (O.out.below ((Below.refl _ _).drew))
  first
  | go_region_held3 (fun W => W.cell? ⟨w.heap.size, 6, none⟩ = some (.string (SL o.name)) ∧ W.cell? ⟨w.heap.size, 7, none⟩ = some (.string (SL o.who)) ∧ W.cell? ⟨w.heap.size, 8, none⟩ = some (.int .i64 (m : Int)) ∧ W.cell? ⟨w.heap.size, 9, none⟩ = some (.string (SL o.text))) (first | exact KEEP.out _ BB.out) ((first | (go_at_call 32; refine (putText_out O (by have := BB.out.size; have := HXS.out; omega) _ (by simp [txtL]; have q1 := numL_le o.name.length; have q2 := numL_le o.who.length; have q3 := numL_le m; have q4 := QQ.out; omega)).mono ?_; rintro e wi ⟨vi, rfl, oi, bi⟩; have BB := Lib.hid (BB.out.trans (bi.out.mono (by have := BB.out.size; have := HXS.out; omega))); obtain ⟨r0, r1, r2, r3, r4, r5, r6, r7, r8, r9⟩ := ROW.out wi BB.out; have O := oi; clear bi oi)))
  | fail "held3 (1)"
  go_wp2_with fail
  have BB := Lib.hid BB.out.drew
  have O := Lib.hid (O.out.below ((Below.refl _ _).drew))
  first
  | go_region_held3 (fun W => W.cell? ⟨w.heap.size, 6, none⟩ = some (.string (SL o.name)) ∧ W.cell? ⟨w.heap.size, 7, none⟩ = some (.string (SL o.who)) ∧ W.cell? ⟨w.heap.size, 8, none⟩ = some (.int .i64 (m : Int)) ∧ W.cell? ⟨w.heap.size, 9, none⟩ = some (.string (SL o.text))) (first | exact KEEP.out _ BB.out) ((first | (go_at_call 31; refine (putNum_out O (by have := BB.out.size; have := HXS.out; omega) (by simp [txtL]; have q1 := numL_le o.name.length; have q2 := numL_le o.who.length; have q3 := numL_le m; have q4 := QQ.out; omega) _ (by have := QQ.out; omega)).mono ?_; rintro e wi ⟨vi, rfl, oi, bi⟩; have BB := Lib.hid (BB.out.trans (bi.out.mono (by have := BB.out.size; have := HXS.out; omega))); obtain ⟨r0, r1, r2, r3, r4, r5, r6, r7, r8, r9⟩ := ROW.out wi BB.out; have O := oi; clear bi oi) | (go_at_call 32; refine (putText_out O (by have := BB.out.size; have := HXS.out; omega) _ (by simp [txtL]; have q1 := numL_le o.name.length; have q2 := numL_le o.who.length; have q3 := numL_le m; have q4 := QQ.out; omega)).mono ?_; rintro e wi ⟨vi, rfl, oi, bi⟩; have BB := Lib.hid (BB.out.trans (bi.out.mono (by have := BB.out.size; have := HXS.out; omega))); obtain ⟨r0, r1, r2, r3, r4, r5, r6, r7, r8, r9⟩ := ROW.out wi BB.out; have O := oi; clear bi oi)))
  | fail "held3 (2)"
  go_wp2_with fail
  go_ret2
  refine ⟨_, rfl, ?_, BL.out.trans (BB.out.mono (by have := HX.out; omega))⟩
  rw [HENC.out]
  exact own_down O.out (by have := HX.out; omega)
end Go.Proofs.Ytckbeeadkiiccaa
namespace Go.Proofs.Ytckbeeadkiiccaa
open Go.RowKit
/-- What Encode answers. -/
def bytesO (o : ObjR) : OB := if okO o = true then encO o else []
def idO (o : ObjR) : OB := if okO o = true then sumL (encO o) else []
theorem kind_of_ok {o : ObjR} (h : okO o = true) : o.kind = 1 ∨ o.kind = 2 ∨ o.kind = 3 ∨ o.kind = 4 := by
  by_cases h1 : o.kind = 1
  · exact .inl h1
  by_cases h2 : o.kind = 2
  · exact .inr (.inl h2)
  by_cases h3 : o.kind = 3
  · exact .inr (.inr (.inl h3))
  by_cases h4 : o.kind = 4
  · exact .inr (.inr (.inr h4))
  rw [ok_kind h1 h2 h3 h4] at h
  cases h
theorem refEncode_any (F : Nat → Prop) (o : ObjR) (dv ev uv : Value) (w : World) (h : ObjIn w F o dv ev uv) (hf : ObjFits o) :
    Calls Try.prog 14 #[objV o dv ev uv] w fun e w' => ∃ v, e = .returned (.tuple #[v, .int .i64 (errO o)]) ∧ OutAt w.heap.size w' v (bytesO o) ∧ Below w.heap.size w w' := by
  cases hok : okO o with
  | false =>
    have e1 : errO o = 1 := by unfold errO; rw [hok]; rfl
    have e2 : bytesO o = [] := by unfold bytesO; rw [hok]; rfl
    rw [e1, e2]
    refine (refEncode_no F o dv ev uv w h hf hok).mono ?_
    rintro e w' ⟨he, hb⟩
    exact ⟨_, he, World.ownsRow_nil _ _ _ _, hb⟩
  | true =>
    have e1 : errO o = 0 := by unfold errO; rw [hok]; rfl
    have e2 : bytesO o = encO o := by unfold bytesO; rw [hok]; rfl
    rw [e1, e2]
    rcases kind_of_ok hok with hk | hk | hk | hk
    · exact refEncode_1 F o dv ev uv w h hf hok hk
    · exact refEncode_2 F o dv ev uv w h hf hok hk
    · exact refEncode_3 F o dv ev uv w h hf hok hk
    · exact refEncode_4 F o dv ev uv w h hf hok hk
theorem enc_length {o : ObjR} (h : okO o = true) : (encO o).length ≤ 1100000 := by
  rcases ok_cases h with ⟨d, hd, rfl⟩ | ⟨l, hl, rfl⟩ | ⟨e, h1, h2, h3⟩ | ⟨e, h1, h2, h2', h3⟩
  · show (UInt8.ofNat 1 :: d).length ≤ _
    rw [List.length_cons]
    omega
  · obtain ⟨k1, k2⟩ := ents_is hl
    have h2 : ∀ l : List EntR, l.all entB = true → ((l.map entL).flatten).length ≤ 142 * l.length := fun l => by
      induction l with
      | nil => intro _; simp
      | cons a r ih =>
        intro h
        rw [List.all_cons, Bool.and_eq_true] at h
        have h3 := ih h.2
        have h4 := h.1
        unfold entB partB at h4
        simp only [Bool.and_eq_true, decide_eq_true_eq] at h4
        have h5 := numL_le a.nm.length
        have h6 : (entL a).length = (numL a.nm.length).length + a.nm.length + (1 + a.id.length) := by
          unfold entL txtL
          simp only [List.length_append, List.length_cons]
          omega
        rw [List.map_cons, List.flatten_cons, List.length_append, List.length_cons, h6]
        omega
    have h3 := h2 l k1
    have h4 := numL_le l.length
    show (UInt8.ofNat 2 :: (numL l.length ++ (l.map entL).flatten)).length ≤ _
    rw [List.length_cons, List.length_append]
    omega
  · obtain ⟨k1, k2⟩ := ups_is h2
    have h4 : ∀ l : List OB, l.all (fun u => decide (u.length = 32)) = true → l.flatten.length = 32 * l.length := fun l => by
      induction l with
      | nil => intro _; rfl
      | cons a r ih =>
        intro h
        rw [List.all_cons, Bool.and_eq_true, decide_eq_true_eq] at h
        rw [List.flatten_cons, List.length_append, ih h.2, h.1, List.length_cons]
        omega
    have h5 := h4 o.ups k1
    obtain ⟨t1, t2, t3, t4⟩ := told_is h3
    have q1 := numL_le o.ups.length
    have q2 := numL_le o.who.length
    have q3 := numL_le o.stamp.toNat
    have q4 := numL_le o.text.length
    have hk : o.kind = 3 := by rw [e]; rfl
    have hb : bodyL o = o.tree ++ (numL o.ups.length ++ (o.ups.flatten ++ tailO o)) := by unfold bodyL; rw [hk]; rfl
    unfold encO
    rw [hb, List.length_cons]
    unfold tailO txtL
    simp only [List.length_append]
    omega
  · obtain ⟨t1, t2, t3, t4⟩ := told_is h3
    have q1 := numL_le o.name.length
    have q2 := numL_le o.who.length
    have q3 := numL_le o.stamp.toNat
    have q4 := numL_le o.text.length
    have hk : o.kind = 4 := by rw [e]; rfl
    have hb : bodyL o = o.target ++ (txtL o.name ++ tailO o) := by unfold bodyL; rw [hk]; rfl
    unfold encO
    rw [hb, List.length_cons]
    unfold tailO txtL
    simp only [List.length_append]
    omega
set_option maxRecDepth 100000 in
set_option maxHeartbeats 1600000 in
theorem refId_any (F : Nat → Prop) (o : ObjR) (dv ev uv : Value) (w : World) (h : ObjIn w F o dv ev uv) (hf : ObjFits o) :
    Calls Try.prog 16 #[objV o dv ev uv] w fun e w' => e = .returned (.tuple #[.string (SL (idO o)), .int .i64 (errO o)]) ∧ Below w.heap.size w w' := by
  have hen := fun (W : World) (hb : Below w.heap.size w W) => refEncode_any F o dv ev uv W (h.turn (Turn.of_below (fun _ => False) hb) (fun _ _ h => h)) hf
  obtain ⟨a1, c1, B1, o1, rfl, _, _⟩ := h.data
  obtain ⟨a2, c2, g2, o2, rfl, _⟩ := h.ents
  obtain ⟨a3, c3, g3, o3, rfl, _⟩ := h.ups
  unfold objV at hen ⊢
  obtain ⟨n1, hn1⟩ : ∃ n, n = o.data.length := ⟨_, rfl⟩
  obtain ⟨n2, hn2⟩ : ∃ n, n = o.ents.length := ⟨_, rfl⟩
  obtain ⟨n3, hn3⟩ : ∃ n, n = o.ups.length := ⟨_, rfl⟩
  rw [← hn1, ← hn2, ← hn3] at hen ⊢
  have hbl := (Below.refl w.heap.size w).alloc (Nat.le_refl _) (.cells #[.int .i64 o.kind, .slice a1 n1 c1, .slice a2 n2 c2, .string (SL o.tree), .slice a3 n3 c3, .string (SL o.target), .string (SL o.name), .string (SL o.who), .int .i64 o.stamp, .string (SL o.text)] 26)
  have BL := Lib.hid hbl
  cases hok : okO o with
  | false =>
    have e1 : errO o = 1 := by unfold errO; rw [hok]; rfl
    have e3 : idO o = [] := by unfold idO; rw [hok]; rfl
    rw [e1] at hen
    have HE := Lib.hid hen
    rw [e1, e3]
    clear hen hn1 hn2 hn3 hbl h hok e1 e3 hf
    go_enter Try.func16, Try.ntmps16
    go_wp2_with (go_at_call 14; refine (HE.out _ BL.out).mono ?_; rintro e wn ⟨vn, rfl, _, bn⟩; have BL := Lib.hid (BL.out.trans (bn.mono BL.out.size)); clear bn)
    go_ret2
    exact ⟨rfl, BL.out⟩
  | true =>
    have e1 : errO o = 0 := by unfold errO; rw [hok]; rfl
    have e2 : bytesO o = encO o := by unfold bytesO; rw [hok]; rfl
    have e3 : idO o = sumL (encO o) := by unfold idO; rw [hok]; rfl
    have hlen := enc_length hok
    rw [e1, e2] at hen
    have HE := Lib.hid hen
    rw [e1, e3]
    obtain ⟨E, hE⟩ : ∃ E, E = encO o := ⟨_, rfl⟩
    rw [← hE] at HE hlen ⊢
    clear hen hn1 hn2 hn3 hbl h hok e1 e2 e3 hf hE
    go_enter Try.func16, Try.ntmps16
    go_wp2_with (first
      | (go_at_call 14; refine (HE.out _ BL.out).mono ?_; rintro e wn ⟨vn, rfl, on, bn⟩; obtain ⟨ao, cap, B, rfl, sn, _⟩ := OutAt.src on; have BL := Lib.hid (BL.out.trans (bn.mono BL.out.size)); have SN := Lib.hid sn; clear bn on sn)
      | (go_at_call 33; refine (refSum_any ao cap E B 0 _ SN.out (by omega)).mono ?_; rintro e wm ⟨rfl, bm⟩; have BL := Lib.hid (BL.out.trans (bm.mono BL.out.size)); clear bm))
    go_ret2
    exact ⟨rfl, BL.out⟩
end Go.Proofs.Ytckbeeadkiiccaa
namespace Go.Proofs.Ytckbeeadkiiccaa
open Go.RowKit
set_option maxRecDepth 100000 in
set_option maxHeartbeats 1600000 in
theorem lawId_any (c : UInt8) (w : World) : Calls Try.prog 26 #[.int .u8 (c.toNat : Int)] w fun e w' => e = .returned (.string (SL (List.replicate 32 c))) ∧ Below w.heap.size w w' := by
  obtain ⟨x, hx⟩ : ∃ x, x = w.heap.size := ⟨_, rfl⟩
  have hxw : x ≤ w.heap.size := by omega
  have HX := Lib.hid hx
  rw [← hx]
  obtain ⟨R, hR⟩ : ∃ R, R = List.replicate 32 c := ⟨_, rfl⟩
  rw [← hR]
  have HR := Lib.hid hR
  clear hx hR
  go_enter Try.func26, Try.ntmps26
  go_wp2
  go_loopw [3, 4] (fun ov i W => ∃ (k : Nat), i = .int .i64 (k : Int) ∧ k ≤ 32 ∧ Hid (OutAt x W ov (List.replicate k c)) ∧ Below x w W) (fun _ i _ => 32 - (intOf i).toNat)
  case atStart => exact ⟨0, rfl, by omega, Lib.hid (World.ownsRow_nil _ _ _ _), Below.refl _ _⟩
  case round =>
    obtain ⟨k, rfl, hk, O, hB⟩ := hrel
    have BB := Lib.hid hB
    clear hB
    have i0 : (0 : Int) ≤ (k : Int) := by omega
    by_cases hlt : k < 32
    · have i1 : (k : Int) < 32 := by omega
      go_wp2_with (at_builtin; refine wpList_out_bytes rfl _ _ rfl x _ _ rfl (Lib.hid (O.out.below ((Below.refl _ _).alloc (Nat.le_refl _) _))) (fun _ => True) _ [c] (lit_bytes _ c) rfl (by simp; omega) (by have := BB.out.size; simp; omega) ?_; intro vi wi oi bi; have BB := Lib.hid ((BB.out.alloc (by have := BB.out.size; omega) _).trans bi.out); have O := oi; clear bi oi)
      go_roundw
      all_goals first | exact ⟨k + 1, by go_num, by omega, by rw [List.replicate_succ']; exact O, BB.out⟩ | (simp [intOf]; omega)
    · obtain rfl : k = 32 := by omega
      have i1 : ¬ (((32 : Nat) : Int) < 32) := by omega
      obtain ⟨ao, cap, B, rfl, s, _⟩ := OutAt.src O.out
      have hcv := convert_src s
      have hl : (List.replicate 32 c).length = 32 := List.length_replicate
      rw [hl, ← HR.out] at hcv
      rw [hl]
      go_wp2
      go_ret
      exact ⟨rfl, BB.out⟩
end Go.Proofs.Ytckbeeadkiiccaa
namespace Go.Proofs.Ytckbeeadkiiccaa
open Go.RowKit
theorem info_text : (Try.prog.info? 9).map (fun i => (i.zero, i.size, i.bytes)) = some (some (.string ByteArray.empty), 1, 16) := by kernel_rfl
theorem info_entry : (Try.prog.info? 30).map (fun i => (i.zero, i.size, i.bytes)) = some (some (.agg #[.string ByteArray.empty, .bool false, .string ByteArray.empty]), 3, 40) := by kernel_rfl
def TxtsOwn (x : Nat) (w : World) (v : Value) (l : List OB) : Prop := w.ownsRow x 9 1 v l.length (tcells l)
def EntsOwn (x : Nat) (w : World) (v : Value) (l : List EntR) : Prop := w.ownsRow x 30 3 v l.length (ecells l)
theorem tcells_app (a b : List OB) : tcells (a ++ b) = tcells a ++ tcells b := by simp [tcells]
theorem txts_nil (x : Nat) (w : World) : TxtsOwn x w (.slice none 0 0) [] := World.ownsRow_nil _ _ _ _
theorem ents_nil (x : Nat) (w : World) : EntsOwn x w (.slice none 0 0) [] := World.ownsRow_nil _ _ _ _
theorem TxtsOwn.below {x : Nat} {w w' : World} {v : Value} {l : List OB} (h : TxtsOwn x w v l) (hb : Below w.heap.size w w') : TxtsOwn x w' v l := own_below h hb
theorem EntsOwn.below {x : Nat} {w w' : World} {v : Value} {l : List EntR} (h : EntsOwn x w v l) (hb : Below w.heap.size w w') : EntsOwn x w' v l := own_below h hb
theorem run_own_texts (w : World) (ty : TypeId) (x : Nat) (v : Value) (l : List OB) (h : TxtsOwn x w v l) (ao : Option Addr) (c : Nat) (m : List OB) (hbare : ao = none → m.length = 0 ∧ c = 0) (hc : ∀ ad, ao = some ad → ∀ j u, (tcells m)[j]? = some u → w.cell? (ad.add j) = some u) (hb : l.length + m.length ≤ 8000000000000) (hx : x ≤ w.heap.size) :
    ∃ v' w', (Builtin.append_ #[24, 24] ty #[v, .slice ao m.length c]).run Try.prog w = .ok v' w' ∧ TxtsOwn x w' v' (l ++ m) ∧ w.grownBy w' v.ownBlock := by
  obtain ⟨i0, hi, hz0, hz1, hz2⟩ := info_parts info_text
  cases ao with
  | none =>
    obtain ⟨h0, rfl⟩ := hbare rfl
    obtain rfl : m = [] := List.eq_nil_of_length_eq_zero h0
    exact ⟨v, w, run_append_owned_none (P := Try.prog) w x 24 ty 9 i0 1 Try.underlying24 hi v l.length _ h, by rw [List.append_nil]; exact h, World.grownBy.refl _ _⟩
  | some ad =>
    obtain ⟨v', w', hrun, r1, r2, _⟩ := run_append_own_wide (P := Try.prog) w x 24 ty 9 i0 (.string ByteArray.empty) 1 16 Try.underlying24 hi hz0 hz1 hz2 rfl (by decide) v l.length _ h ad m.length c (tcells m) (by simp [tcells]) (hc ad rfl) (fun u hu => by obtain ⟨t, _, rfl⟩ := List.mem_map.1 hu; rfl) (by unfold maxLen; omega) (by omega) hx
    refine ⟨v', w', hrun, ?_, r2⟩
    unfold TxtsOwn
    rw [List.length_append, tcells_app]
    exact r1
theorem wpList_own_texts {ops : Array Oper} {rest : List Oper} {o : Oper} {a : Act} {w : World} {Q : Exit → Act → World → Prop}
    (hgd : o.guard = none) (s y : Operand) (hop : o.op = Op.call { callee := Callee.builtin Builtin.append, args := #[s, y], argTypes := #[24, 24] })
    (x : Nat) (v : Value) (l : List OB) (hS : a.eval s = v) (h : Hid (TxtsOwn x w v l)) (ao : Option Addr) (n c : Nat) (m : List OB) (hX : a.eval y = .slice ao n c) (hn : n = m.length) (hbare : ao = none → m.length = 0 ∧ c = 0) (hc : ∀ ad, ao = some ad → ∀ j u, (tcells m)[j]? = some u → w.cell? (ad.add j) = some u) (hb : l.length + m.length ≤ 8000000000000) (hx : x ≤ w.heap.size)
    (hK : ∀ v' w', Hid (TxtsOwn x w' v' (l ++ m)) → Hid (Below x w w') → wpList Try.prog ops Q rest (a.put o.dst v') w') : wpList Try.prog ops Q (o :: rest) a w := by
  refine wpList_plain hgd fun K hK' => ?_
  subst hn
  obtain ⟨v', w', hrun, r1, r2⟩ := run_own_texts w o.type x v l h.out ao c m hbare hc hb hx
  unfold Oper.wp
  simp [execOp, hop, resolve, invoke, builtin, hS, hX, hrun, Result.andThen]
  exact hK' _ _ (hK v' w' (Lib.hid r1) (Lib.hid ((Below.refl x w).grown r2 hx (fun k hk => (h.out.lt k hk).1))))
/-- One text, built as a slice. -/
theorem lit_text (w : World) (t : OB) : ∀ ad, some (⟨w.heap.size, 0, none⟩ : Addr) = some ad → ∀ j u, (tcells [t])[j]? = some u → (w.alloc (.cells #[.string (SL t)] 9)).cell? (ad.add j) = some u := by
  intro ad had j u hu
  cases had
  rw [Addr.add_lit]
  match j, hu with
  | 0, hu =>
    rw [cell_of_row _ _ _ _ _ _ (heap_alloc_new w _)]
    simpa [tcells] using hu
  | j + 1, hu => simp [tcells] at hu
theorem run_own_entry (w : World) (ty : TypeId) (x : Nat) (v : Value) (l : List EntR) (h : EntsOwn x w v l) (ad : Addr) (c : Nat) (e : EntR) (hc : ∀ j u, (ecells [e])[j]? = some u → w.cell? (ad.add j) = some u) (hb : l.length + 1 ≤ 5000000000000) (hx : x ≤ w.heap.size) :
    ∃ v' w', (Builtin.append_ #[23, 23] ty #[v, .slice (some ad) 1 c]).run Try.prog w = .ok v' w' ∧ EntsOwn x w' v' (l ++ [e]) ∧ w.grownBy w' v.ownBlock := by
  obtain ⟨i0, hi, hz0, hz1, hz2⟩ := info_parts info_entry
  obtain ⟨v', w', hrun, r1, r2, _⟩ := run_append_own_wide (P := Try.prog) w x 23 ty 30 i0 _ 3 40 Try.underlying23 hi hz0 hz1 hz2 rfl (by decide) v l.length _ h ad 1 c (ecells [e]) rfl hc (fun u hu => by simp [ecells] at hu; rcases hu with rfl | rfl | rfl <;> rfl) (by unfold maxLen; omega) (by omega) hx
  refine ⟨v', w', hrun, ?_, r2⟩
  unfold EntsOwn
  rw [List.length_append, ecells_append]
  exact r1
end Go.Proofs.Ytckbeeadkiiccaa
namespace Go.Proofs.Ytckbeeadkiiccaa
open Go.RowKit
theorem ok_sizes {o : ObjR} (h : okO o = true) : o.ents.length ≤ 4096 ∧ o.ups.length ≤ 4 := by
  rcases ok_cases h with ⟨d, hd, rfl⟩ | ⟨l, hl, rfl⟩ | ⟨e, h1, h2, h3⟩ | ⟨e, h1, h2, h2', h3⟩
  · exact ⟨Nat.zero_le _, Nat.zero_le _⟩
  · exact ⟨(ents_is hl).2, Nat.zero_le _⟩
  · exact ⟨by rw [e]; exact Nat.zero_le _, (ups_is h2).2⟩
  · exact ⟨by rw [e]; exact Nat.zero_le _, by rw [e]; exact Nat.zero_le _⟩
theorem SlAt.reads {w : World} {F : Nat → Prop} {ao : Option Addr} {n cap g off : Nat} {cs : List Value} (h : SlAt w F ao n cap g off cs) : ∀ ad, ao = some ad → ∀ j u, cs[j]? = some u → w.cell? (ad.add j) = some u := by
  intro ad had j u hu
  have p : 0 < n := Nat.pos_of_ne_zero fun e => by rw [h.zero e] at hu; simp at hu
  have e := (h.src p).1
  rw [had] at e
  cases e
  rw [Addr.add_lit]
  exact h.cell j u hu
set_option maxRecDepth 100000 in
set_option maxHeartbeats 8000000 in
theorem refLinks_any (F : Nat → Prop) (o : ObjR) (dv ev uv : Value) (w : World) (h : ObjIn w F o dv ev uv) (hf : ObjFits o) :
    Calls Try.prog 21 #[objV o dv ev uv] w fun e w' => ∃ v, e = .returned v ∧ TxtsOwn w.heap.size w' v (linksO o) ∧ Below w.heap.size w w' := by
  have hck := fun (W : World) (hb : Below w.heap.size w W) => refCheck_any F o dv ev uv W (h.turn (Turn.of_below (fun _ => False) hb) (fun _ _ h => h)) hf
  obtain ⟨a1, c1, B1, o1, rfl, _, _⟩ := h.data
  obtain ⟨a2, c2, g2, o2, rfl, hs2⟩ := h.ents
  obtain ⟨a3, c3, g3, o3, rfl, hs3⟩ := h.ups
  unfold objV at hck ⊢
  obtain ⟨n1, hn1⟩ : ∃ n, n = o.data.length := ⟨_, rfl⟩
  obtain ⟨n2, hn2⟩ : ∃ n, n = o.ents.length := ⟨_, rfl⟩
  obtain ⟨n3, hn3⟩ : ∃ n, n = o.ups.length := ⟨_, rfl⟩
  obtain ⟨K, hK⟩ : ∃ k, k = o.kind := ⟨_, rfl⟩
  rw [← hn1, ← hn2, ← hn3, ← hK] at hck ⊢
  rw [← hn2] at hs2
  rw [← hn3] at hs3
  obtain ⟨W1, hW1⟩ : ∃ W1, w.alloc (.cells #[.int .i64 K, .slice a1 n1 c1, .slice a2 n2 c2, .string (SL o.tree), .slice a3 n3 c3, .string (SL o.target), .string (SL o.name), .string (SL o.who), .int .i64 o.stamp, .string (SL o.text)] 26) = W1 := ⟨_, rfl⟩
  have hs1 : W1.heap.size = w.heap.size + 1 := by rw [← hW1]; simp
  have hbl : Below w.heap.size w W1 := by rw [← hW1]; exact (Below.refl w.heap.size w).alloc (Nat.le_refl _) _
  have hrow : ∀ W : World, Below W1.heap.size W1 W → W.heap[w.heap.size]? = some (.cells #[.int .i64 K, .slice a1 n1 c1, .slice a2 n2 c2, .string (SL o.tree), .slice a3 n3 c3, .string (SL o.target), .string (SL o.name), .string (SL o.who), .int .i64 o.stamp, .string (SL o.text)] 26 (0, 0)) := fun W hb => by
    rw [hb.block w.heap.size (by omega), ← hW1]
    exact heap_alloc_new w _
  obtain ⟨x, hx⟩ : ∃ x, x = w.heap.size + 1 := ⟨_, rfl⟩
  have hxs : x = W1.heap.size := by omega
  obtain ⟨r0, r1, r2, r3, r4, r5, r6, r7, r8, r9⟩ := obj_cells (hrow W1 (Below.refl _ _))
  have ROW := Lib.hid (fun (W : World) (hb : Below x W1 W) => obj_cells (hrow W (by rw [← hxs]; exact hb)))
  have CK := Lib.hid (hck W1 hbl)
  have BL := Lib.hid hbl
  have HX := Lib.hid hx
  have HXS := Lib.hid hxs
  have HW := Lib.hid hW1
  have H2 := Lib.hid hn2
  have H3 := Lib.hid hn3
  have HK := Lib.hid hK
  have ENC := Lib.hid (fun (W : World) (hb : Below w.heap.size w W) => hs2.turn (Turn.of_below (fun _ => False) hb) (fun _ _ h => h))
  have UPC := Lib.hid (fun (W : World) (hb : Below w.heap.size w W) => hs3.turn (Turn.of_below (fun _ => False) hb) (fun _ _ h => h))
  cases hok : okO o with
  | false =>
    have e1 : errO o = 1 := by unfold errO; rw [hok]; rfl
    have e2 : linksO o = [] := by unfold linksO; rw [hok]; rfl
    have hE2 := Lib.hid e2
    rw [e1] at CK
    clear hck hn1 hn2 hn3 hbl h hok e1 e2 hf hrow hxs hx hW1 hs1 hK hs2 hs3 ENC UPC
    go_enter Try.func21, Try.ntmps21
    go_wp2_with fail
    rw [HW.out]
    go_wp2_with (go_at_call 30; refine CK.out.mono ?_; rintro e w2 ⟨rfl, b2⟩; have BB := Lib.hid (BL.out.trans (b2.mono (by have := HX.out; have := HXS.out; omega))); clear b2)
    go_ret
    refine ⟨_, rfl, ?_, BB.out⟩
    rw [hE2.out]
    exact txts_nil _ _
  | true =>
    have e1 : errO o = 0 := by unfold errO; rw [hok]; rfl
    obtain ⟨z1, z2⟩ := ok_sizes hok
    have hlk : linksO o = o.ents.map (fun e => e.id) ++ ((if o.kind = 3 then o.tree :: o.ups else []) ++ (if o.kind = 4 then [o.target] else [])) := by unfold linksO; rw [hok]; rfl
    rw [← hn2] at z1
    rw [← hn3] at z2
    rw [← hK] at hlk
    have HL := Lib.hid hlk
    rw [e1] at CK
    clear hck hn1 hn2 hn3 hbl h hok e1 hf hrow hxs hx hW1 hs1 hK hs2 hs3 hlk
    go_enter Try.func21, Try.ntmps21
    go_wp2_with fail
    rw [HW.out]
    go_wp2_with (go_at_call 30; refine CK.out.mono ?_; rintro e w2 ⟨rfl, b2⟩; have BB := Lib.hid (b2.mono (Nat.le_of_eq HXS.out)); clear b2)
    go_loopw [3, 4] (fun ov i W => ∃ (k : Nat), i = .int .i64 (k : Int) ∧ k ≤ n2 ∧ Hid (TxtsOwn x W ov ((o.ents.take k).map (fun e => e.id))) ∧ Below x W1 W) (fun _ i _ => n2 - (intOf i).toNat)
    case atStart => exact ⟨0, rfl, Nat.zero_le _, Lib.hid (txts_nil _ _), BB.out⟩
    case round =>
      clear BB r0 r1 r2 r3 r4 r5 r6 r7 r8 r9
      obtain ⟨k, rfl, hk, hO, hB⟩ := hrel
      have O := hO
      have BB := Lib.hid hB
      have BW := Lib.hid (BL.out.trans (hB.mono (by have := HX.out; omega)))
      obtain ⟨r0, r1, r2, r3, r4, r5, r6, r7, r8, r9⟩ := ROW.out wr hB
      clear hO hB
      by_cases hlt : k < n2
      · have i0 : (0 : Int) ≤ (k : Int) := by omega
        have i1 : (k : Int) < (n2 : Int) := by omega
        obtain ⟨e, he⟩ : ∃ e, o.ents[k]? = some e := ⟨_, List.getElem?_eq_getElem (by rw [← H2.out]; exact hlt)⟩
        obtain ⟨rfl, _, _, cc⟩ := (ENC.out wr BW.out).entry he hlt
        have htk : (o.ents.take k).map (fun e => e.id) ++ [e.id] = (o.ents.take (k + 1)).map (fun e => e.id) := by
          rw [List.take_add_one, he]
          simp
        have hlen : ((o.ents.take k).map (fun e => e.id)).length ≤ 4096 := by rw [List.length_map, List.length_take]; omega
        have HTK := Lib.hid htk
        have HLN := Lib.hid hlen
        clear he htk hlen
        go_wp2_with (at_builtin; refine wpList_own_texts rfl _ _ rfl x _ _ rfl (Lib.hid (O.out.below ((Below.refl _ _).alloc (Nat.le_refl _) _))) _ 1 1 [e.id] rfl rfl (fun hh => by cases hh) (lit_text _ e.id) (by have := HLN.out; simp only [List.length_cons, List.length_nil]; omega) (by have := BB.out.size; have := HXS.out; simp; omega) ?_; intro vi wi oi bi; have BB := Lib.hid ((BB.out.alloc (by have := BB.out.size; have := HXS.out; omega) _).trans bi.out); have O := oi; clear bi oi)
        go_roundw
        case rel => exact ⟨k + 1, by go_num, by omega, by rw [← HTK.out]; exact O, BB.out⟩
        case measure => simp [intOf]; omega
      · obtain rfl : k = n2 := by omega
        have i1 : ¬ (k : Int) < (k : Int) := by omega
        rw [List.take_of_length_le (by rw [H2.out]; exact Nat.le_refl _)] at O
        have HLN := Lib.hid (show (o.ents.map (fun e => e.id)).length ≤ 4096 from by rw [List.length_map, ← H2.out]; exact z1)
        by_cases k3 : K = 3
        · have hL2 : linksO o = o.ents.map (fun e => e.id) ++ ([o.tree] ++ o.ups) := by rw [HL.out, if_pos k3, if_neg (by omega)]; simp
          have HL2 := Lib.hid hL2
          clear hL2 HL
          subst k3
          go_wp2_with (first | (at_builtin; refine wpList_own_texts rfl _ _ rfl x _ _ rfl (Lib.hid (O.out.below ((Below.refl _ _).alloc (Nat.le_refl _) _))) _ 1 1 [o.tree] rfl rfl (fun hh => by cases hh) (lit_text _ o.tree) (by have := HLN.out; simp only [List.length_cons, List.length_nil]; omega) (by have := BB.out.size; have := HXS.out; simp; omega) ?_; intro vi wi oi bi; have BB := Lib.hid ((BB.out.alloc (by have := BB.out.size; have := HXS.out; omega) _).trans bi.out); obtain ⟨r0, r1, r2, r3, r4, r5, r6, r7, r8, r9⟩ := ROW.out wi BB.out; have O := oi; clear bi oi) | (at_builtin; refine wpList_own_texts rfl _ _ rfl x _ (o.ents.map (fun e => e.id) ++ [o.tree]) rfl O _ n3 c3 o.ups rfl H3.out (fun hh => by rw [← H3.out]; exact (UPC.out wr BW.out).bare hh) (UPC.out _ (BL.out.trans (BB.out.mono (by have := HX.out; omega)))).reads (by have q1 := HLN.out; have q2 := H3.out; have q3 : ([o.tree] : List OB).length = 1 := rfl; rw [List.length_append]; omega) (by have := BB.out.size; have := HXS.out; omega) ?_; intro vi wi oi bi; have BB := Lib.hid (BB.out.trans bi.out); obtain ⟨r0, r1, r2, r3, r4, r5, r6, r7, r8, r9⟩ := ROW.out wi BB.out; have O := oi; clear bi oi))
          go_ret
          refine ⟨_, rfl, ?_, BL.out.trans (BB.out.mono (by have := HX.out; omega))⟩
          rw [HL2.out]
          have := O.out
          rw [List.append_assoc] at this
          exact own_down this (by have := HX.out; omega)
        · by_cases k4 : K = 4
          · have hL2 : linksO o = o.ents.map (fun e => e.id) ++ [o.target] := by rw [HL.out, if_neg k3, if_pos k4]; rfl
            have HL2 := Lib.hid hL2
            clear hL2 HL k3
            subst k4
            go_wp2_with (first | (at_builtin; refine wpList_own_texts rfl _ _ rfl x _ _ rfl (Lib.hid (O.out.below ((Below.refl _ _).alloc (Nat.le_refl _) _))) _ 1 1 [o.target] rfl rfl (fun hh => by cases hh) (lit_text _ o.target) (by have := HLN.out; simp only [List.length_cons, List.length_nil]; omega) (by have := BB.out.size; have := HXS.out; simp; omega) ?_; intro vi wi oi bi; have BB := Lib.hid ((BB.out.alloc (by have := BB.out.size; have := HXS.out; omega) _).trans bi.out); obtain ⟨r0, r1, r2, r3, r4, r5, r6, r7, r8, r9⟩ := ROW.out wi BB.out; have O := oi; clear bi oi))
            go_ret
            refine ⟨_, rfl, ?_, BL.out.trans (BB.out.mono (by have := HX.out; omega))⟩
            rw [HL2.out]
            exact own_down O.out (by have := HX.out; omega)
          · have hL2 : linksO o = o.ents.map (fun e => e.id) := by rw [HL.out, if_neg k3, if_neg k4]; simp
            have HL2 := Lib.hid hL2
            clear hL2 HL
            go_wp2
            go_ret
            refine ⟨_, rfl, ?_, BL.out.trans (BB.out.mono (by have := HX.out; omega))⟩
            rw [HL2.out]
            exact own_down O.out (by have := HX.out; omega)
end Go.Proofs.Ytckbeeadkiiccaa
