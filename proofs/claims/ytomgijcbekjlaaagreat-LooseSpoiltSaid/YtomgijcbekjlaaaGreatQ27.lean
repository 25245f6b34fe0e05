/- What the proofs stand on: ObjCheck, ObjLay, ObjLay2, ObjLay3, ObjEnc0, ObjEnc1, ObjEnc2, ObjEnc3, ObjEnc4, ObjId, ObjDec. -/
import Derived.Deep.RegionHeld3
import Derived.Test.YtomgijcbekjlaaaGreatQ25
import Derived.Test.YtomgijcbekjlaaaGreatQ26
import Derived.Test.YtomgijcbekjlaaaGreatQ1
import Derived.Test.YtomgijcbekjlaaaGreatQ18
import Derived.Test.YtomgijcbekjlaaaGreatQ21
import Derived.Test.YtomgijcbekjlaaaGreatQ20
import Derived.Test.YtomgijcbekjlaaaGreatQ9
import Derived.Test.YtomgijcbekjlaaaGreatQ31
namespace Go.Proofs.YtomgijcbekjlaaaGreat
open Go.RowKit
theorem core_data (o : ObjR) (F : Nat → Prop) (dv ev uv : Value) (w : World) (h : ObjIn w F o dv ev uv) : ObjIn w F (coreO o) (coreD o dv) (coreE o ev) (coreU o uv) := by
  unfold coreD coreE coreU
  by_cases h1 : o.kind = 1
  · rw [core_one h1, if_pos h1, if_neg (by omega), if_neg (by omega)]
    exact ⟨h.data, entsAt_nil _ _, textsAt_nil _ _⟩
  · by_cases h2 : o.kind = 2
    · rw [core_two h2, if_neg h1, if_pos h2, if_neg (by omega)]
      exact ⟨bytesAt_nil _ _, h.ents, textsAt_nil _ _⟩
    · by_cases h3 : o.kind = 3
      · rw [core_three h3, if_neg h1, if_neg h2, if_pos h3]
        exact ⟨bytesAt_nil _ _, entsAt_nil _ _, h.ups⟩
      · by_cases h4 : o.kind = 4
        · rw [core_four h4, if_neg h1, if_neg h2, if_neg h3]
          exact ⟨bytesAt_nil _ _, entsAt_nil _ _, textsAt_nil _ _⟩
        · rw [core_none h1 h2 h3 h4, if_neg h1, if_neg h2, if_neg h3]
          exact ⟨bytesAt_nil _ _, entsAt_nil _ _, textsAt_nil _ _⟩
set_option maxRecDepth 100000 in
set_option maxHeartbeats 4000000 in
theorem check_any (F : Nat → Prop) (o : ObjR) (dv ev uv : Value) (w : World) (h : ObjIn w F o dv ev uv) :
    Calls Tryz.prog 67 #[objV o dv ev uv] w fun e w' => e = .returned (.int .i64 (errO o)) ∧ Below w.heap.size w w' := by
  have hcore := core_data o F dv ev uv w h
  obtain ⟨x1, k1, g1, q1, e1, _, _⟩ := hcore.data
  obtain ⟨x2, k2, g2, q2, e2, _⟩ := hcore.ents
  obtain ⟨x3, k3, g3, q3, e3, _⟩ := hcore.ups
  have hh := h
  obtain ⟨a1, c1, B1, o1, rfl, _, _⟩ := h.data
  obtain ⟨a2, c2, G2, o2, rfl, _⟩ := h.ents
  obtain ⟨a3, c3, G3, o3, rfl, _⟩ := h.ups
  have hbody := fun W => bodyOf_any o a1 o.data.length c1 a2 o.ents.length c2 a3 o.ups.length c3 W
  have hobj := fun W => objectOf_any o a1 o.data.length c1 a2 o.ents.length c2 a3 o.ups.length c3 W
  have hmay := fun W (hb : Below w.heap.size w W) => mayObj_any F o a1 c1 a2 c2 a3 c3 W (hh.turn (Turn.of_below (fun _ => False) hb) (fun _ _ h => h))
  have hall := fun W => isAll_any o (coreO o) a1 c1 a2 c2 a3 c3 x1 k1 x2 k2 x3 k3 W
  rw [← e1, ← e2, ← e3] at hall
  have hv : errO o = if (mayO o && allB o (coreO o)) = true then 0 else 1 := by unfold errO; rw [ok_split]
  rw [hv]
  obtain ⟨V, hV⟩ : ∃ V, V = bodyV o (.slice a1 o.data.length c1) (.slice a2 o.ents.length c2) (.slice a3 o.ups.length c3) := ⟨_, rfl⟩
  obtain ⟨OV, hOV⟩ : ∃ V, V = objV (coreO o) (coreD o (.slice a1 o.data.length c1)) (coreE o (.slice a2 o.ents.length c2)) (coreU o (.slice a3 o.ups.length c3)) := ⟨_, rfl⟩
  obtain ⟨bm, hbm⟩ : ∃ b, b = mayO o := ⟨_, rfl⟩
  obtain ⟨ba, hba⟩ : ∃ b, b = allB o (coreO o) := ⟨_, rfl⟩
  rw [← hV] at hbody hobj hmay
  rw [← hOV] at hobj hall
  rw [← hbm] at hmay
  rw [← hba] at hall
  rw [← hbm, ← hba]
  unfold objV at hbody hall ⊢
  obtain ⟨n1, hn1⟩ : ∃ n, n = o.data.length := ⟨_, rfl⟩
  obtain ⟨n2, hn2⟩ : ∃ n, n = o.ents.length := ⟨_, rfl⟩
  obtain ⟨n3, hn3⟩ : ∃ n, n = o.ups.length := ⟨_, rfl⟩
  rw [← hn1, ← hn2, ← hn3] at hbody hall ⊢
  obtain ⟨W1, hW1⟩ : ∃ W1, W1 = w.alloc (.cells #[.int .i64 o.kind, .slice a1 n1 c1, .slice a2 n2 c2, .string (SL o.tree), .slice a3 n3 c3, .string (SL o.target), .string (SL o.name), .string (SL o.who), .int .i64 o.stamp, .string (SL o.text)] 33) := ⟨_, rfl⟩
  obtain ⟨x, hx⟩ : ∃ x, x = w.heap.size := ⟨_, rfl⟩
  have hbl : Below x w W1 := by rw [hW1, hx]; exact (Below.refl _ _).alloc (Nat.le_refl _) _
  have hrow : ∀ W, Below W1.heap.size W1 W → _ := fun W hb => obj_cells (below_turn hb (by rw [hW1]; exact heap_alloc_new w _))
  rw [← hx] at hmay ⊢
  have HBODY := Lib.hid hbody
  have HOBJ := Lib.hid hobj
  have HMAY := Lib.hid hmay
  have HALL := Lib.hid hall
  have HW := Lib.hid hW1
  have BB := Lib.hid hbl
  have ROW := Lib.hid hrow
  have HX := Lib.hid hx
  obtain ⟨r0, r1, r2, r3, r4, r5, r6, r7, r8, r9⟩ := hrow W1 (Below.refl _ _)
  have BW := Lib.hid (Below.refl W1.heap.size W1)
  clear hbody hobj hmay hall hW1 hbl hrow hv hcore hh h e1 e2 e3 hV hOV hbm hba hn1 hn2 hn3 hx
  cases bm with
  | false =>
    go_enter Tryz.func67, Tryz.ntmps67
    go_wp2_with fail
    rw [← HW.out]
    go_wp2_with (go_at_call 68; refine (HBODY.out _).mono ?_; rintro e w2 ⟨rfl, b2⟩; have BW := Lib.hid (BW.out.trans (b2.mono BW.out.size)); obtain ⟨r0, r1, r2, r3, r4, r5, r6, r7, r8, r9⟩ := ROW.out w2 BW.out; clear b2)
    have BW := Lib.hid BW.out.drew
    first
      | go_region_with (first | (go_at_call 123; refine (HMAY.out _ (BB.out.trans (BW.out.mono (by have := BB.out.size; have := HX.out; omega)))).mono ?_; rintro e w3 ⟨rfl, b2⟩; have BW := Lib.hid (BW.out.trans (b2.mono BW.out.size)); obtain ⟨r0, r1, r2, r3, r4, r5, r6, r7, r8, r9⟩ := ROW.out w3 BW.out; clear b2))
      | fail "with"
    all_goals (go_wp2; go_ret; exact ⟨rfl, BB.out.trans (BW.out.mono (by have := BB.out.size; have := HX.out; omega))⟩)
  | true =>
    cases ba with
    | false =>
      go_enter Tryz.func67, Tryz.ntmps67
      go_wp2_with fail
      rw [← HW.out]
      go_wp2_with (go_at_call 68; refine (HBODY.out _).mono ?_; rintro e w2 ⟨rfl, b2⟩; have BW := Lib.hid (BW.out.trans (b2.mono BW.out.size)); obtain ⟨r0, r1, r2, r3, r4, r5, r6, r7, r8, r9⟩ := ROW.out w2 BW.out; clear b2)
      have BW := Lib.hid BW.out.drew
      first
        | go_region_held3 (fun W => W.cell? ⟨w.heap.size, 0, none⟩ = some (.int .i64 o.kind) ∧ W.cell? ⟨w.heap.size, 1, none⟩ = some (.slice a1 n1 c1) ∧ W.cell? ⟨w.heap.size, 2, none⟩ = some (.slice a2 n2 c2) ∧ W.cell? ⟨w.heap.size, 3, none⟩ = some (.string (SL o.tree)) ∧ W.cell? ⟨w.heap.size, 4, none⟩ = some (.slice a3 n3 c3) ∧ W.cell? ⟨w.heap.size, 5, none⟩ = some (.string (SL o.target)) ∧ W.cell? ⟨w.heap.size, 6, none⟩ = some (.string (SL o.name)) ∧ W.cell? ⟨w.heap.size, 7, none⟩ = some (.string (SL o.who)) ∧ W.cell? ⟨w.heap.size, 8, none⟩ = some (.int .i64 o.stamp) ∧ W.cell? ⟨w.heap.size, 9, none⟩ = some (.string (SL o.text))) (first | exact ROW.out _ BW.out) ((first | (go_at_call 123; refine (HMAY.out _ (BB.out.trans (BW.out.mono (by have := BB.out.size; have := HX.out; omega)))).mono ?_; rintro e w3 ⟨rfl, b2⟩; have BW := Lib.hid (BW.out.trans (b2.mono BW.out.size)); obtain ⟨r0, r1, r2, r3, r4, r5, r6, r7, r8, r9⟩ := ROW.out w3 BW.out; clear b2) | (go_at_call 91; refine (HOBJ.out _).mono ?_; rintro e w4 ⟨rfl, b2⟩; have BW := Lib.hid (BW.out.trans (b2.mono BW.out.size)); obtain ⟨r0, r1, r2, r3, r4, r5, r6, r7, r8, r9⟩ := ROW.out w4 BW.out; clear b2) | (go_at_call 124; refine (HALL.out _).mono ?_; rintro e w5 ⟨rfl, b2⟩; have BW := Lib.hid (BW.out.trans (b2.mono BW.out.size)); obtain ⟨r0, r1, r2, r3, r4, r5, r6, r7, r8, r9⟩ := ROW.out w5 BW.out; clear b2)))
        | fail "held3"
      go_wp2
      go_ret
      exact ⟨rfl, BB.out.trans (BW.out.mono (by have := BB.out.size; have := HX.out; omega))⟩
    | true =>
      go_enter Tryz.func67, Tryz.ntmps67
      go_wp2_with fail
      rw [← HW.out]
      go_wp2_with (go_at_call 68; refine (HBODY.out _).mono ?_; rintro e w2 ⟨rfl, b2⟩; have BW := Lib.hid (BW.out.trans (b2.mono BW.out.size)); obtain ⟨r0, r1, r2, r3, r4, r5, r6, r7, r8, r9⟩ := ROW.out w2 BW.out; clear b2)
      have BW := Lib.hid BW.out.drew
      first
        | go_region_held3 (fun W => W.cell? ⟨w.heap.size, 0, none⟩ = some (.int .i64 o.kind) ∧ W.cell? ⟨w.heap.size, 1, none⟩ = some (.slice a1 n1 c1) ∧ W.cell? ⟨w.heap.size, 2, none⟩ = some (.slice a2 n2 c2) ∧ W.cell? ⟨w.heap.size, 3, none⟩ = some (.string (SL o.tree)) ∧ W.cell? ⟨w.heap.size, 4, none⟩ = some (.slice a3 n3 c3) ∧ W.cell? ⟨w.heap.size, 5, none⟩ = some (.string (SL o.target)) ∧ W.cell? ⟨w.heap.size, 6, none⟩ = some (.string (SL o.name)) ∧ W.cell? ⟨w.heap.size, 7, none⟩ = some (.string (SL o.who)) ∧ W.cell? ⟨w.heap.size, 8, none⟩ = some (.int .i64 o.stamp) ∧ W.cell? ⟨w.heap.size, 9, none⟩ = some (.string (SL o.text))) (first | exact ROW.out _ BW.out) ((first | (go_at_call 123; refine (HMAY.out _ (BB.out.trans (BW.out.mono (by have := BB.out.size; have := HX.out; omega)))).mono ?_; rintro e w3 ⟨rfl, b2⟩; have BW := Lib.hid (BW.out.trans (b2.mono BW.out.size)); obtain ⟨r0, r1, r2, r3, r4, r5, r6, r7, r8, r9⟩ := ROW.out w3 BW.out; clear b2) | (go_at_call 91; refine (HOBJ.out _).mono ?_; rintro e w4 ⟨rfl, b2⟩; have BW := Lib.hid (BW.out.trans (b2.mono BW.out.size)); obtain ⟨r0, r1, r2, r3, r4, r5, r6, r7, r8, r9⟩ := ROW.out w4 BW.out; clear b2) | (go_at_call 124; refine (HALL.out _).mono ?_; rintro e w5 ⟨rfl, b2⟩; have BW := Lib.hid (BW.out.trans (b2.mono BW.out.size)); obtain ⟨r0, r1, r2, r3, r4, r5, r6, r7, r8, r9⟩ := ROW.out w5 BW.out; clear b2)))
        | fail "held3"
      go_wp2
      go_ret
      exact ⟨rfl, BB.out.trans (BW.out.mono (by have := BB.out.size; have := HX.out; omega))⟩
end Go.Proofs.YtomgijcbekjlaaaGreat
namespace Go.Proofs.YtomgijcbekjlaaaGreat
open Go.RowKit
theorem OutTurned.row {base : Nat} {w w' : World} {y : Nat} {cs : Array Value} {T : TypeId} {fz : Nat × Nat} (h : OutTurned base w w') (hr : w.heap[y]? = some (.cells cs T fz)) (hT : T ≠ 5) : w'.heap[y]? = some (.cells cs T fz) :=
  h.other _ _ hr (fun cs' fr e => by injection e with _ e2 _; exact hT e2)
theorem append_blob_run (ty : TypeId) (s x : Value) (w : World) : (Builtin.append_ #[29, 169] ty #[s, x]).run Tryz.prog w = (Builtin.append_ #[29, 29] ty #[s, x]).run Tryz.prog w := by
  have h1 : (underlying 169).run Tryz.prog = (underlying 29).run Tryz.prog := by
    funext w
    rw [run_underlying Tryz.underlying169, run_underlying Tryz.underlying29]
  have h2 : (underlying 29).run Tryz.prog = fun w => .ok (.slice 5) w := by funext w; rw [run_underlying Tryz.underlying29]
  unfold Builtin.append_
  cases s with
  | slice b l c => simp only [Sem.run_bind, h1, h2, Result.andThen, List.getElem?_toArray, List.getElem?_cons_zero, List.getElem?_cons_succ, Sem.run_pure]
  | _ => simp [Sem.run_bind, Result.andThen]
/-- append of a blob's bytes. -/
theorem wpList_to_blob {ops : Array Oper} {rest : List Oper} {o : Oper} {a : Act} {w : World} {Q : Exit → Act → World → Prop}
    (hgd : o.guard = none) (s y : Operand) (hop : o.op = Op.call { callee := Callee.builtin Builtin.append, args := #[s, y], argTypes := #[29, 169] })
    (base : Nat) (v : Value) (O : List UInt8) (hS : a.eval s = v) (h : w.ownsRow base 5 1 v O.length (O.map B8)) (ao : Option Addr) (cap B off : Nat) (t : List UInt8) (hu : SrcAt w ao cap t B off) (hX : a.eval y = .slice ao t.length cap) (hb : O.length + t.length ≤ 225000000000000) (hx : base ≤ w.heap.size)
    (hK : ∀ v' w', Hid (w'.ownsRow base 5 1 v' (O ++ t).length ((O ++ t).map B8)) → Hid (OutTurned base w w') → wpList Tryz.prog ops Q rest (a.put o.dst v') w') : wpList Tryz.prog ops Q (o :: rest) a w := by
  refine wpList_plain hgd fun K hK' => ?_
  obtain ⟨v', w', hrun, r1, r2, _⟩ := run_append_src w o.type base v O.length (O.map B8) h ao t.length cap (t.map B8) (by simp) hu.bare hu.cells (B8_one _) hb hx
  have hrun2 := (append_blob_run o.type v (.slice ao t.length cap) w).trans hrun
  unfold Oper.wp
  simp [execOp, hop, resolve, invoke, builtin, hS, hX, hrun2, Result.andThen]
  refine hK' _ _ (hK v' w' (Lib.hid ?_) (Lib.hid (OutTurned.of_grown hx h r2)))
  rw [← List.map_append, ← List.length_append] at r1
  exact r1
set_option maxRecDepth 100000 in
theorem blobLay_any (base : Nat) (v : Value) (O : List UInt8) (ao : Option Addr) (cap B off : Nat) (t : List UInt8) (w : World) (hb : base ≤ w.heap.size) (h : w.ownsRow base 5 1 v O.length (O.map B8)) (hu : SrcAt w ao cap t B off) (hs : O.length + t.length ≤ 225000000000000) :
    Calls Tryz.prog 230 #[.slice ao t.length cap, v] w (PutTo base w (O ++ t)) := by
  obtain ⟨n, hn⟩ : ∃ n, n = t.length := ⟨_, rfl⟩
  have HH := Lib.hid h
  have HU := Lib.hid hu
  have HN := Lib.hid hn
  rw [← hn]
  clear h hu hn
  go_enter Tryz.func230, Tryz.ntmps230
  go_wp2_with (at_builtin; refine wpList_to_blob rfl _ _ rfl base _ O rfl HH.out ao cap B off t HU.out (by rw [← HN.out]; rfl) hs hb ?_; intro v2 w2 o2 t2)
  go_ret
  exact ⟨_, rfl, o2.out, t2.out⟩
theorem note_cells {w : World} {x : Nat} {v0 v1 v2 : Value} (h : w.heap[x]? = some (.cells #[v0, v1, v2] 168 (0, 0))) : w.cell? ⟨x, 0, none⟩ = some v0 ∧ w.cell? ⟨x, 1, none⟩ = some v1 ∧ w.cell? ⟨x, 2, none⟩ = some v2 :=
  ⟨cell_of_row _ _ _ _ _ _ h, cell_of_row _ _ _ _ _ _ h, cell_of_row _ _ _ _ _ _ h⟩
set_option maxRecDepth 100000 in
set_option maxHeartbeats 1600000 in
theorem noteLay_any (base : Nat) (v : Value) (O : List UInt8) (o : ObjR) (w : World) (hb : base ≤ w.heap.size) (h : w.ownsRow base 5 1 v O.length (O.map B8)) (ht : toldB o = true) (hs : O.length ≤ 2000000) :
    Calls Tryz.prog 228 #[.agg #[.string (SL o.who), .int .i64 o.stamp, .string (SL o.text)], v] w (PutTo base w (O ++ tailO o)) := by
  obtain ⟨t1, t2, t3, t4⟩ := told_is ht
  obtain ⟨m, hm⟩ : ∃ m : Nat, o.stamp = (m : Int) := ⟨o.stamp.toNat, by omega⟩
  have q1 := numL_le o.who.length
  have q2 := numL_le m
  have e0 : O ++ tailO o = ((O ++ (numL o.who.length ++ o.who)) ++ numL m) ++ (numL o.text.length ++ o.text) := by
    unfold tailO txtL
    rw [show o.stamp.toNat = m from by omega]
    simp only [List.append_assoc]
  rw [e0, hm]
  obtain ⟨O1, hO1⟩ : ∃ O1, O1 = O ++ (numL o.who.length ++ o.who) := ⟨_, rfl⟩
  obtain ⟨O2, hO2⟩ : ∃ O2, O2 = O1 ++ numL m := ⟨_, rfl⟩
  have l1 : O1.length ≤ 2001100 := by rw [hO1]; simp only [List.length_append]; omega
  have l2 : O2.length ≤ 2001200 := by rw [hO2, List.length_append]; omega
  have hp1 := fun (W : World) (hb : base ≤ W.heap.size) (hv : W.ownsRow base 5 1 v O.length (O.map B8)) => rowPutTextTo base v O o.who W hb hv (by omega)
  have hp2 := fun (W : World) (u : Value) (hb : base ≤ W.heap.size) (hv : W.ownsRow base 5 1 u O1.length (O1.map B8)) => rowPutNumTo base u O1 (m : Int) W hb hv (by omega)
  have hp3 := fun (W : World) (u : Value) (hb : base ≤ W.heap.size) (hv : W.ownsRow base 5 1 u O2.length (O2.map B8)) => rowPutTextTo base u O2 o.text W hb hv (by omega)
  rw [clampN_nat _ (by omega)] at hp2
  rw [← hO1] at hp1
  rw [← hO2] at hp2
  rw [← hO1, ← hO2]
  have P1 := Lib.hid hp1
  have P2 := Lib.hid hp2
  have P3 := Lib.hid hp3
  have hw0 : OutTurned base w (w.alloc (.cells #[.string (SL o.who), .int .i64 (m : Int), .string (SL o.text)] 168)) := OutTurned.of_below hb ((Below.refl _ _).alloc (Nat.le_refl _) _)
  have hv0 : (w.alloc (.cells #[.string (SL o.who), .int .i64 (m : Int), .string (SL o.text)] 168)).ownsRow base 5 1 v O.length (O.map B8) := own_below h ((Below.refl _ _).alloc (Nat.le_refl _) _)
  obtain ⟨W1, hW1⟩ : ∃ W1, W1 = w.alloc (.cells #[.string (SL o.who), .int .i64 (m : Int), .string (SL o.text)] 168) := ⟨_, rfl⟩
  have hrow : ∀ W, OutTurned base W1 W → _ := fun W hb => note_cells (OutTurned.row hb (by rw [hW1]; exact heap_alloc_new w _) (by decide))
  rw [← hW1] at hw0 hv0
  have ROW := Lib.hid hrow
  have HW := Lib.hid hW1
  have TT := Lib.hid hw0
  have VV := Lib.hid hv0
  have T0 := Lib.hid (OutTurned.refl base W1)
  obtain ⟨r0, r1, r2⟩ := hrow W1 (OutTurned.refl _ _)
  clear hp1 hp2 hp3 hrow hW1 hw0 hv0 h hO1 hO2 l1 l2 q1 q2 t1 t2 t3 t4 hm e0 ht hs
  go_enter Tryz.func228, Tryz.ntmps228
  go_wp2_with fail
  rw [← HW.out]
  go_wp2_with (first
    | (go_at_call_of 229 (SL o.who); refine (P1.out _ (by have := TT.out.below.size; omega) VV.out).mono ?_; rintro e w2 ⟨v2, rfl, o2, t2⟩; have T0 := Lib.hid (T0.out.trans t2); obtain ⟨r0, r1, r2⟩ := ROW.out w2 T0.out; have V2 := Lib.hid o2; clear o2 t2)
    | (go_at_call 145; refine (P2.out _ v2 (by have := TT.out.below.size; have := T0.out.below.size; omega) V2.out).mono ?_; rintro e w3 ⟨v3, rfl, o3, t3⟩; have T0 := Lib.hid (T0.out.trans t3); obtain ⟨r0, r1, r2⟩ := ROW.out w3 T0.out; have V3 := Lib.hid o3; clear o3 t3)
    | (go_at_call_of 229 (SL o.text); refine (P3.out _ v3 (by have := TT.out.below.size; have := T0.out.below.size; omega) V3.out).mono ?_; rintro e w4 ⟨v4, rfl, o4, t4⟩; have T0 := Lib.hid (T0.out.trans t4); have V4 := Lib.hid o4; clear o4 t4))
  go_ret
  exact ⟨_, rfl, V4.out, TT.out.trans T0.out⟩
end Go.Proofs.YtomgijcbekjlaaaGreat
namespace Go.Proofs.YtomgijcbekjlaaaGreat
open Go.RowKit
theorem Below.over {base : Nat} {w w' : World} (h : Below base w w') : Turn (fun k => ¬ k < base) w w' := ⟨h.os, h.tape, h.output, h.size, fun k _ hn => h.block k (Classical.not_not.1 hn)⟩
theorem entry_cells {w : World} {x : Nat} {v0 v1 v2 : Value} (h : w.heap[x]? = some (.cells #[v0, v1, v2] 84 (0, 0))) : w.cell? ⟨x, 0, none⟩ = some v0 ∧ w.cell? ⟨x, 1, none⟩ = some v1 ∧ w.cell? ⟨x, 2, none⟩ = some v2 :=
  ⟨cell_of_row _ _ _ _ _ _ h, cell_of_row _ _ _ _ _ _ h, cell_of_row _ _ _ _ _ _ h⟩
theorem ents_small {l : List EntR} (h : entsB l = true) : l.length ≤ 4096 ∧ (∀ e ∈ l, e.nm.length ≤ 100 ∧ e.id.length = 32) ∧ ∀ k, (((l.take k).map entL).flatten).length ≤ 1000000 := by
  obtain ⟨he1, he2⟩ := ents_is h
  have hel : ∀ e ∈ l, e.nm.length ≤ 100 ∧ e.id.length = 32 := fun e he => by
    have h1 := List.all_eq_true.1 he1 e he
    unfold entB partB at h1
    simp only [Bool.and_eq_true, decide_eq_true_eq] at h1
    omega
  refine ⟨he2, hel, fun k => ?_⟩
  have h2 : ∀ l : List EntR, (∀ e ∈ l, e.nm.length ≤ 100 ∧ e.id.length = 32) → ((l.map entL).flatten).length ≤ 142 * l.length := fun l => by
    induction l with
    | nil => intro _; simp
    | cons a r ih =>
      intro h
      have h3 := ih fun e he => h e (List.mem_cons_of_mem _ he)
      have h4 := h a List.mem_cons_self
      have h5 := numL_le a.nm.length
      have h6 : (entL a).length = (numL a.nm.length).length + a.nm.length + (1 + a.id.length) := by
        unfold entL txtL
        simp only [List.length_append, List.length_cons]
        omega
      rw [List.map_cons, List.flatten_cons, List.length_append, List.length_cons, h6]
      omega
  have h3 := h2 (l.take k) (fun e he => hel e (List.mem_of_mem_take he))
  have h4 : (l.take k).length ≤ 4096 := by rw [List.length_take]; omega
  omega
theorem src_lit (w : World) (c : UInt8) : SrcAt (w.alloc (.cells #[B8 c] 5)) (some ⟨w.heap.size, 0, none⟩) 1 [c] w.heap.size 0 := src_new w [c] (by simp [maxLen])
set_option maxRecDepth 100000 in
set_option maxHeartbeats 4000000 in
theorem treeLay_any (base : Nat) (v : Value) (O : List UInt8) (ao : Option Addr) (cap g off : Nat) (l : List EntR) (w : World) (hb : base ≤ w.heap.size) (h : w.ownsRow base 5 1 v O.length (O.map B8)) (hs : SlAt w (fun k => k < base) ao l.length cap g off (ecells l)) (he : entsB l = true) (hO : O.length ≤ 1000) :
    Calls Tryz.prog 231 #[.slice ao l.length cap, v] w (PutTo base w (O ++ (numL l.length ++ (l.map entL).flatten))) := by
  obtain ⟨hl1, hl2, hl3⟩ := ents_small he
  have hp0 := fun (W : World) (hb : base ≤ W.heap.size) (hv : W.ownsRow base 5 1 v O.length (O.map B8)) => rowPutNumTo base v O (l.length : Int) W hb hv (by omega)
  rw [clampN_nat _ (by omega)] at hp0
  have q0 := numL_le l.length
  obtain ⟨N, hN⟩ : ∃ N, N = l.length := ⟨_, rfl⟩
  rw [← hN] at hs hp0 hl1 q0 ⊢
  obtain ⟨H, hH⟩ : ∃ H, H = O ++ numL N := ⟨_, rfl⟩
  have hHl : H.length ≤ 2000 := by rw [hH, List.length_append]; omega
  rw [← List.append_assoc]
  rw [← hH] at hp0 ⊢
  have P0 := Lib.hid (hp0 w hb h)
  have HN := Lib.hid hN
  have HS := Lib.hid (fun (W : World) (hb : Below base w W) => hs.turn (Below.over hb) (fun k hk hn => hn hk))
  have HL2 := Lib.hid hl2
  have HL3 := Lib.hid hl3
  clear hN hs hp0 hl2 hl3 hH he h
  go_enter Tryz.func231, Tryz.ntmps231
  go_wp2_with (go_at_call 145; refine P0.out.mono ?_; rintro e w1 ⟨v1, rfl, o1, t1⟩; have O1 := Lib.hid o1; have T1 := Lib.hid t1; clear o1 t1)
  go_loopw [1, 13] (fun ov i W => ∃ k : Nat, i = .int .i64 (k : Int) ∧ k ≤ N ∧ Hid (W.ownsRow base 5 1 ov (H ++ ((l.take k).map entL).flatten).length ((H ++ ((l.take k).map entL).flatten).map B8)) ∧ OutTurned base w W) (fun _ i _ => N - (intOf i).toNat)
  case atStart => exact ⟨0, rfl, Nat.zero_le _, by simpa using O1, T1.out⟩
  case round =>
    clear O1 T1
    obtain ⟨k, rfl, hk, O1, hT⟩ := hrel
    have TT := Lib.hid hT
    have BW : base ≤ wr.heap.size := by have := hT.below.size; omega
    clear hT
    by_cases hlt : k < N
    · have i0 : (0 : Int) ≤ (k : Int) := by omega
      have i1 : (k : Int) < (N : Int) := by omega
      obtain ⟨e, hee⟩ : ∃ e, l[k]? = some e := ⟨_, List.getElem?_eq_getElem (by rw [← HN.out]; exact hlt)⟩
      obtain ⟨rfl, c0, c1, c2⟩ := (HS.out wr TT.out.below).entry hee hlt
      obtain ⟨nb1, nb2⟩ := HL2.out e (List.mem_of_getElem? hee)
      have q1 := numL_le e.nm.length
      have q2 := HL3.out k
      obtain ⟨dr, hdr⟩ : ∃ d, d = e.dir := ⟨_, rfl⟩
      have htk : ∀ d : UInt8, (if dr = true then (1 : UInt8) else 0) = d → H ++ ((l.take k).map entL).flatten ++ (numL e.nm.length ++ e.nm) ++ [d] ++ e.id = H ++ ((l.take (k + 1)).map entL).flatten := fun d hd => by
        rw [List.take_add_one, hee]
        unfold entL txtL
        rw [hdr] at hd
        simp [hd]
      obtain ⟨A0, hA0⟩ : ∃ A, A = H ++ ((l.take k).map entL).flatten := ⟨_, rfl⟩
      have la : A0.length ≤ 1002000 := by rw [hA0, List.length_append]; omega
      rw [← hA0] at O1 htk
      rw [← hdr] at c1
      obtain ⟨A1, hA1⟩ : ∃ A, A = A0 ++ (numL e.nm.length ++ e.nm) := ⟨_, rfl⟩
      have lb : A1.length ≤ 1003000 := by rw [hA1]; simp only [List.length_append]; omega
      rw [← hA1] at htk
      have hp1 := fun (W : World) (u : Value) (hb : base ≤ W.heap.size) (hv : W.ownsRow base 5 1 u A0.length (A0.map B8)) => rowPutTextTo base u A0 e.nm W hb hv (by omega)
      rw [← hA1] at hp1
      have P1 := Lib.hid hp1
      have HTK := Lib.hid htk
      have hbl := (Below.refl wr.heap.size wr).alloc (Nat.le_refl _) (.cells #[.string (SL e.nm), .bool dr, .string (SL e.id)] 84)
      obtain ⟨W1, hW1⟩ : ∃ W1, W1 = wr.alloc (.cells #[.string (SL e.nm), .bool dr, .string (SL e.id)] 84) := ⟨_, rfl⟩
      rw [← hW1] at hbl
      have V0 := Lib.hid (own_below O1.out hbl)
      have TW := Lib.hid (OutTurned.of_below BW hbl)
      have T0 := Lib.hid (OutTurned.refl base W1)
      have hrow : ∀ W, OutTurned base W1 W → _ := fun W hb => entry_cells (OutTurned.row hb (by rw [hW1]; exact heap_alloc_new wr _) (by decide))
      have ROW := Lib.hid hrow
      obtain ⟨r0, r1, r2⟩ := hrow W1 (OutTurned.refl _ _)
      have HW := Lib.hid hW1
      have BW1 : base ≤ W1.heap.size := by have := hbl.size; omega
      clear hp1 htk hrow hW1 hbl hA0 hA1 hee hdr O1 hHl
      cases dr with
      | true =>
        go_wp2_with fail
        rw [← HW.out]
        go_wp2_with (first
          | (go_at_call 229; refine (P1.out _ _ (by have := T0.out.below.size; omega) V0.out).mono ?_; rintro e w2 ⟨v2, rfl, o2, t2⟩; have T0 := Lib.hid (T0.out.trans t2); obtain ⟨r0, r1, r2⟩ := ROW.out w2 T0.out; have V1 := Lib.hid o2; clear o2 t2)
          | (at_builtin; refine wpList_to_bytes rfl _ _ rfl base _ A1 rfl (own_below V1.out ((Below.refl _ _).alloc (Nat.le_refl _) _)) _ _ _ _ [1] (src_lit _ 1) rfl (by simp; omega) (by have := T0.out.below.size; simp; omega) ?_; intro v3 w3 o3 t3; have T0 := Lib.hid ((T0.out.trans (OutTurned.of_below (by have := T0.out.below.size; omega) ((Below.refl _ _).alloc (Nat.le_refl _) _))).trans t3.out); obtain ⟨r0, r1, r2⟩ := ROW.out w3 T0.out; have V2 := o3; clear o3 t3)
          | (at_builtin; refine wpList_to_string rfl _ _ rfl base _ (A1 ++ [1]) rfl V2.out e.id rfl (by simp; omega) (by have := T0.out.below.size; omega) ?_; intro v4 w4 o4 t4; have T0 := Lib.hid (T0.out.trans t4.out); have V3 := o4; clear o4 t4)
          | go_in)
        go_roundw
        case rel => exact ⟨k + 1, by go_num, by omega, by rw [← HTK.out 1 rfl]; exact V3, TT.out.trans (TW.out.trans T0.out)⟩
        case measure => simp [intOf]; omega
      | false =>
        go_wp2_with fail
        rw [← HW.out]
        go_wp2_with (first
          | (go_at_call 229; refine (P1.out _ _ (by have := T0.out.below.size; omega) V0.out).mono ?_; rintro e w2 ⟨v2, rfl, o2, t2⟩; have T0 := Lib.hid (T0.out.trans t2); obtain ⟨r0, r1, r2⟩ := ROW.out w2 T0.out; have V1 := Lib.hid o2; clear o2 t2)
          | (at_builtin; refine wpList_to_bytes rfl _ _ rfl base _ A1 rfl (own_below V1.out ((Below.refl _ _).alloc (Nat.le_refl _) _)) _ _ _ _ [0] (src_lit _ 0) rfl (by simp; omega) (by have := T0.out.below.size; simp; omega) ?_; intro v3 w3 o3 t3; have T0 := Lib.hid ((T0.out.trans (OutTurned.of_below (by have := T0.out.below.size; omega) ((Below.refl _ _).alloc (Nat.le_refl _) _))).trans t3.out); obtain ⟨r0, r1, r2⟩ := ROW.out w3 T0.out; have V2 := o3; clear o3 t3)
          | (at_builtin; refine wpList_to_string rfl _ _ rfl base _ (A1 ++ [0]) rfl V2.out e.id rfl (by simp; omega) (by have := T0.out.below.size; omega) ?_; intro v4 w4 o4 t4; have T0 := Lib.hid (T0.out.trans t4.out); have V3 := o4; clear o4 t4)
          | go_in)
        go_roundw
        case rel => exact ⟨k + 1, by go_num, by omega, by rw [← HTK.out 0 rfl]; exact V3, TT.out.trans (TW.out.trans T0.out)⟩
        case measure => simp [intOf]; omega
    · obtain rfl : k = N := by omega
      have j1 : ¬ (k : Int) < (k : Int) := by omega
      rw [HN.out, List.take_length] at O1
      go_wp2
      go_ret
      exact ⟨_, rfl, O1.out, TT.out⟩
end Go.Proofs.YtomgijcbekjlaaaGreat
namespace Go.Proofs.YtomgijcbekjlaaaGreat
open Go.RowKit
theorem five_cells {w : World} {x : Nat} {T : TypeId} {v0 v1 v2 v3 v4 : Value} (h : w.heap[x]? = some (.cells #[v0, v1, v2, v3, v4] T (0, 0))) : w.cell? ⟨x, 0, none⟩ = some v0 ∧ w.cell? ⟨x, 1, none⟩ = some v1 ∧ w.cell? ⟨x, 2, none⟩ = some v2 ∧ w.cell? ⟨x, 3, none⟩ = some v3 ∧ w.cell? ⟨x, 4, none⟩ = some v4 :=
  ⟨cell_of_row _ _ _ _ _ _ h, cell_of_row _ _ _ _ _ _ h, cell_of_row _ _ _ _ _ _ h, cell_of_row _ _ _ _ _ _ h, cell_of_row _ _ _ _ _ _ h⟩
theorem ups_small {l : List OB} (h : upsB l = true) : l.length ≤ 4 ∧ (∀ e ∈ l, e.length = 32) ∧ ∀ k, (l.take k).flatten.length ≤ 128 := by
  obtain ⟨h1, h2⟩ := ups_is h
  have hel : ∀ e ∈ l, e.length = 32 := fun e he => by simpa using List.all_eq_true.1 h1 e he
  refine ⟨h2, hel, fun k => ?_⟩
  have h4 : ∀ l : List OB, (∀ e ∈ l, e.length = 32) → l.flatten.length = 32 * l.length := fun l => by
    induction l with
    | nil => intro _; rfl
    | cons a r ih =>
      intro h
      rw [List.flatten_cons, List.length_append, ih (fun e he => h e (List.mem_cons_of_mem _ he)), h a List.mem_cons_self, List.length_cons]
      omega
  have h5 := h4 (l.take k) (fun e he => hel e (List.mem_of_mem_take he))
  have h6 : (l.take k).length ≤ 4 := by rw [List.length_take]; omega
  omega
set_option maxRecDepth 100000 in
set_option maxHeartbeats 4000000 in
theorem commitLay_any (base : Nat) (v : Value) (O : List UInt8) (ao : Option Addr) (cap g off : Nat) (o : ObjR) (w : World) (hb : base ≤ w.heap.size) (h : w.ownsRow base 5 1 v O.length (O.map B8)) (hs : SlAt w (fun k => k < base) ao o.ups.length cap g off (tcells o.ups)) (h1 : o.tree.length = 32) (h2 : upsB o.ups = true) (h3 : toldB o = true) (hO : O.length ≤ 1000) :
    Calls Tryz.prog 233 #[.agg #[.string (SL o.tree), .slice ao o.ups.length cap, .string (SL o.who), .int .i64 o.stamp, .string (SL o.text)], v] w (PutTo base w (O ++ (o.tree ++ (numL o.ups.length ++ (o.ups.flatten ++ tailO o))))) := by
  obtain ⟨u1, u2, u3⟩ := ups_small h2
  have hp0 := fun (W : World) (u : Value) (hb : base ≤ W.heap.size) (hv : W.ownsRow base 5 1 u (O ++ o.tree).length ((O ++ o.tree).map B8)) => rowPutNumTo base u (O ++ o.tree) (o.ups.length : Int) W hb hv (by rw [List.length_append]; omega)
  rw [clampN_nat _ (by omega)] at hp0
  have q0 := numL_le o.ups.length
  have e0 : O ++ (o.tree ++ (numL o.ups.length ++ (o.ups.flatten ++ tailO o))) = ((O ++ o.tree) ++ numL o.ups.length) ++ o.ups.flatten ++ tailO o := by simp only [List.append_assoc]
  rw [e0]
  obtain ⟨N, hN⟩ : ∃ N, N = o.ups.length := ⟨_, rfl⟩
  rw [← hN] at hs hp0 u1 q0 ⊢
  obtain ⟨H, hH⟩ : ∃ H, H = (O ++ o.tree) ++ numL N := ⟨_, rfl⟩
  have hHl : H.length ≤ 2000 := by rw [hH]; simp only [List.length_append]; omega
  have hot : O.length + o.tree.length ≤ 140737488355328 := by omega
  rw [← hH] at hp0 ⊢
  have P0 := Lib.hid hp0
  have P1 := Lib.hid (fun (W : World) (u : Value) (hb : base ≤ W.heap.size) (hv : W.ownsRow base 5 1 u (H ++ o.ups.flatten).length ((H ++ o.ups.flatten).map B8)) => noteLay_any base u (H ++ o.ups.flatten) o W hb hv h3 (by have := u3 N; rw [hN, List.take_length] at this; rw [List.length_append]; omega))
  have HN := Lib.hid hN
  have HS := Lib.hid (fun (W : World) (hb : Below base w W) => hs.turn (Below.over hb) (fun k hk hn => hn hk))
  have HU2 := Lib.hid u2
  have HU3 := Lib.hid u3
  obtain ⟨z, hz⟩ : ∃ z, z = o.stamp := ⟨_, rfl⟩
  rw [← hz]
  rw [← hz] at P1
  have hbl := (Below.refl w.heap.size w).alloc (Nat.le_refl _) (.cells #[.string (SL o.tree), .slice ao N cap, .string (SL o.who), .int .i64 z, .string (SL o.text)] 172)
  obtain ⟨W1, hW1⟩ : ∃ W1, W1 = w.alloc (.cells #[.string (SL o.tree), .slice ao N cap, .string (SL o.who), .int .i64 z, .string (SL o.text)] 172) := ⟨_, rfl⟩
  rw [← hW1] at hbl
  have V0 := Lib.hid (own_below h hbl)
  have TW := Lib.hid (OutTurned.of_below hb hbl)
  have T0 := Lib.hid (OutTurned.refl base W1)
  have hrow : ∀ W, OutTurned base W1 W → _ := fun W hb => five_cells (OutTurned.row hb (by rw [hW1]; exact heap_alloc_new w _) (by decide))
  have ROW := Lib.hid hrow
  obtain ⟨r0, r1, r2, r3, r4⟩ := hrow W1 (OutTurned.refl _ _)
  have HW := Lib.hid hW1
  have BW1 : base ≤ W1.heap.size := by have := hbl.size; omega
  clear hp0 hrow hW1 hbl hN hs hH h u2 u3 h1 h2 h3 hz e0 q0
  go_enter Tryz.func233, Tryz.ntmps233
  go_wp2_with (first
    | (at_builtin; rw [← HW.out]; refine wpList_to_string rfl _ _ rfl base _ O rfl V0.out o.tree rfl hot BW1 ?_; intro v1 w1 o1 t1; have T0 := Lib.hid (T0.out.trans t1.out); obtain ⟨r0, r1, r2, r3, r4⟩ := ROW.out w1 T0.out; have V1 := o1; clear o1 t1)
    | (go_at_call 145; refine (P0.out _ _ (by have := T0.out.below.size; omega) V1.out).mono ?_; rintro e w2 ⟨v2, rfl, o2, t2⟩; have T0 := Lib.hid (T0.out.trans t2); obtain ⟨r0, r1, r2, r3, r4⟩ := ROW.out w2 T0.out; have V2 := Lib.hid o2; clear o2 t2))
  go_loopw [1, 19] (fun ov i W => ∃ k : Nat, i = .int .i64 (k : Int) ∧ k ≤ N ∧ Hid (W.ownsRow base 5 1 ov (H ++ (o.ups.take k).flatten).length ((H ++ (o.ups.take k).flatten).map B8)) ∧ OutTurned base W1 W) (fun _ i _ => N - (intOf i).toNat)
  case atStart => exact ⟨0, rfl, Nat.zero_le _, by simpa using V2, T0.out⟩
  case round =>
    clear V0 V1 V2 T0 r0 r1 r2 r3 r4
    obtain ⟨k, rfl, hk, O1, hT⟩ := hrel
    obtain ⟨r0, r1, r2, r3, r4⟩ := ROW.out wr hT
    have BW : base ≤ wr.heap.size := by have := hT.below.size; omega
    have TT := Lib.hid hT
    clear hT
    by_cases hlt : k < N
    · have i0 : (0 : Int) ≤ (k : Int) := by omega
      have i1 : (k : Int) < (N : Int) := by omega
      obtain ⟨e, hee⟩ : ∃ e, o.ups[k]? = some e := ⟨_, List.getElem?_eq_getElem (by rw [← HN.out]; exact hlt)⟩
      obtain ⟨rfl, c0⟩ := (HS.out wr (TW.out.trans TT.out).below).text hee hlt
      have nb := HU2.out e (List.mem_of_getElem? hee)
      have q2 := HU3.out k
      have htk : H ++ (o.ups.take k).flatten ++ e = H ++ (o.ups.take (k + 1)).flatten := by
        rw [List.take_add_one, hee]
        simp
      obtain ⟨A0, hA0⟩ : ∃ A, A = H ++ (o.ups.take k).flatten := ⟨_, rfl⟩
      have la : A0.length + e.length ≤ 140737488355328 := by rw [hA0, List.length_append]; omega
      rw [← hA0] at O1 htk
      have HTK := Lib.hid htk
      clear htk hee hA0 nb q2
      go_wp2_with (at_builtin; refine wpList_to_string rfl _ _ rfl base _ A0 rfl O1.out e rfl la BW ?_; intro v3 w3 o3 t3; have TT := Lib.hid (TT.out.trans t3.out); have V3 := o3; clear o3 t3)
      go_roundw
      case rel => exact ⟨k + 1, by go_num, by omega, by rw [← HTK.out]; exact V3, TT.out⟩
      case measure => simp [intOf]; omega
    · obtain rfl : k = N := by omega
      have j1 : ¬ (k : Int) < (k : Int) := by omega
      rw [HN.out, List.take_length] at O1
      go_wp2_with (go_at_call 228; refine (P1.out _ _ BW O1.out).mono ?_; rintro e w4 ⟨v4, rfl, o4, t4⟩; have V4 := Lib.hid o4; have T4 := Lib.hid t4; clear o4 t4)
      go_ret
      exact ⟨_, rfl, V4.out, TW.out.trans (TT.out.trans T4.out)⟩
set_option maxRecDepth 100000 in
set_option maxHeartbeats 4000000 in
theorem tagLay_any (base : Nat) (v : Value) (O : List UInt8) (o : ObjR) (w : World) (hb : base ≤ w.heap.size) (h : w.ownsRow base 5 1 v O.length (O.map B8)) (h1 : o.target.length = 32) (h2 : o.name.length ≤ 200) (h3 : toldB o = true) (hO : O.length ≤ 1000) :
    Calls Tryz.prog 234 #[.agg #[.string (SL o.target), .string (SL o.name), .string (SL o.who), .int .i64 o.stamp, .string (SL o.text)], v] w (PutTo base w (O ++ (o.target ++ (txtL o.name ++ tailO o)))) := by
  have q0 := numL_le o.name.length
  have e0 : O ++ (o.target ++ (txtL o.name ++ tailO o)) = ((O ++ o.target) ++ (numL o.name.length ++ o.name)) ++ tailO o := by unfold txtL; simp only [List.append_assoc]
  rw [e0]
  obtain ⟨H, hH⟩ : ∃ H, H = O ++ o.target := ⟨_, rfl⟩
  have hHl : H.length ≤ 2000 := by rw [hH]; simp only [List.length_append]; omega
  have hot : O.length + o.target.length ≤ 140737488355328 := by omega
  rw [← hH]
  obtain ⟨K, hK⟩ : ∃ K, K = H ++ (numL o.name.length ++ o.name) := ⟨_, rfl⟩
  have hKl : K.length ≤ 3000 := by rw [hK]; simp only [List.length_append]; omega
  have hp0 := fun (W : World) (u : Value) (hb : base ≤ W.heap.size) (hv : W.ownsRow base 5 1 u H.length (H.map B8)) => rowPutTextTo base u H o.name W hb hv (by omega)
  rw [← hK] at hp0 ⊢
  have P0 := Lib.hid hp0
  have HH := Lib.hid hH
  have hp1 := fun (W : World) (u : Value) (hb : base ≤ W.heap.size) (hv : W.ownsRow base 5 1 u K.length (K.map B8)) => noteLay_any base u K o W hb hv h3 (by omega)
  obtain ⟨z, hz⟩ : ∃ z, z = o.stamp := ⟨_, rfl⟩
  rw [← hz] at hp1 ⊢
  have P1 := Lib.hid hp1
  have hbl := (Below.refl w.heap.size w).alloc (Nat.le_refl _) (.cells #[.string (SL o.target), .string (SL o.name), .string (SL o.who), .int .i64 z, .string (SL o.text)] 174)
  obtain ⟨W1, hW1⟩ : ∃ W1, W1 = w.alloc (.cells #[.string (SL o.target), .string (SL o.name), .string (SL o.who), .int .i64 z, .string (SL o.text)] 174) := ⟨_, rfl⟩
  rw [← hW1] at hbl
  have V0 := Lib.hid (own_below h hbl)
  have TW := Lib.hid (OutTurned.of_below hb hbl)
  have T0 := Lib.hid (OutTurned.refl base W1)
  have hrow : ∀ W, OutTurned base W1 W → _ := fun W hb => five_cells (OutTurned.row hb (by rw [hW1]; exact heap_alloc_new w _) (by decide))
  have ROW := Lib.hid hrow
  obtain ⟨r0, r1, r2, r3, r4⟩ := hrow W1 (OutTurned.refl _ _)
  have HW := Lib.hid hW1
  have BW1 : base ≤ W1.heap.size := by have := hbl.size; omega
  clear hp0 hp1 hrow hW1 hbl hH hK h h1 h2 h3 hz e0 q0
  go_enter Tryz.func234, Tryz.ntmps234
  go_wp2_with (at_builtin; rw [← HW.out]; refine wpList_to_string rfl _ _ rfl base _ O rfl V0.out o.target rfl hot BW1 ?_; intro v1 w1 o1 t1; have T0 := Lib.hid (T0.out.trans t1.out); obtain ⟨r0, r1, r2, r3, r4⟩ := ROW.out w1 T0.out; have V1 := o1; rw [← HH.out] at V1; clear o1 t1)
  have T0 := Lib.hid (T0.out.trans (OutTurned.of_below (by have := T0.out.below.size; omega) ((Below.refl w1.heap.size w1).drew)))
  have V1 := Lib.hid (own_below V1.out ((Below.refl w1.heap.size w1).drew))
  first
    | go_region_held3 (fun W => W.cell? ⟨w.heap.size, 0, none⟩ = some (.string (SL o.target)) ∧ W.cell? ⟨w.heap.size, 1, none⟩ = some (.string (SL o.name)) ∧ W.cell? ⟨w.heap.size, 2, none⟩ = some (.string (SL o.who)) ∧ W.cell? ⟨w.heap.size, 3, none⟩ = some (.int .i64 z) ∧ W.cell? ⟨w.heap.size, 4, none⟩ = some (.string (SL o.text))) (first | exact ROW.out _ T0.out) ((first
      | (go_at_call 229; refine (P0.out _ _ (by have := T0.out.below.size; omega) V1.out).mono ?_; rintro e w2 ⟨v2, rfl, o2, t2⟩; have T0 := Lib.hid (T0.out.trans t2); obtain ⟨r0, r1, r2, r3, r4⟩ := ROW.out w2 T0.out; have V2 := Lib.hid o2; clear o2 t2)
      | (go_at_call 228; refine (P1.out _ _ (by have := T0.out.below.size; omega) V2.out).mono ?_; rintro e w4 ⟨v4, rfl, o4, t4⟩; have T0 := Lib.hid (T0.out.trans t4); have V4 := Lib.hid o4; clear o4 t4)))
    | fail "held"
  go_wp2
  go_ret
  exact ⟨_, rfl, V4.out, TW.out.trans T0.out⟩
end Go.Proofs.YtomgijcbekjlaaaGreat
namespace Go.Proofs.YtomgijcbekjlaaaGreat
open Go.RowKit
set_option maxRecDepth 100000 in
set_option maxHeartbeats 4000000 in
theorem encode_no (F : Nat → Prop) (o : ObjR) (dv ev uv : Value) (w : World) (h : ObjIn w F o dv ev uv) (hok : okO o = false) :
    Calls Tryz.prog 33 #[objV o dv ev uv] w fun e w' => e = .returned (.tuple #[.slice none 0 0, .int .i64 1]) ∧ Below w.heap.size w w' := by
  have hck := fun (W : World) (hb : Below w.heap.size w W) => check_any F o dv ev uv W (h.turn (Turn.of_below (fun _ => False) hb) (fun _ _ h => h))
  have herr : errO o = 1 := by unfold errO; rw [hok]; rfl
  rw [herr] at hck
  obtain ⟨a1, c1, B1, o1, rfl, _, _⟩ := h.data
  obtain ⟨a2, c2, g2, o2, rfl, _⟩ := h.ents
  obtain ⟨a3, c3, g3, o3, rfl, _⟩ := h.ups
  unfold objV at hck ⊢
  obtain ⟨n1, hn1⟩ : ∃ n, n = o.data.length := ⟨_, rfl⟩
  obtain ⟨n2, hn2⟩ : ∃ n, n = o.ents.length := ⟨_, rfl⟩
  obtain ⟨n3, hn3⟩ : ∃ n, n = o.ups.length := ⟨_, rfl⟩
  rw [← hn1, ← hn2, ← hn3] at hck ⊢
  have hbl := (Below.refl w.heap.size w).alloc (Nat.le_refl _) (.cells #[.int .i64 o.kind, .slice a1 n1 c1, .slice a2 n2 c2, .string (SL o.tree), .slice a3 n3 c3, .string (SL o.target), .string (SL o.name), .string (SL o.who), .int .i64 o.stamp, .string (SL o.text)] 33)
  have CK := Lib.hid (hck _ hbl)
  have BL := Lib.hid hbl
  clear hck hbl hn1 hn2 hn3 h hok herr
  go_enter Tryz.func33, Tryz.ntmps33
  go_wp2_with (go_at_call 67; refine CK.out.mono ?_; rintro e w2 ⟨rfl, b2⟩; have B2 := Lib.hid (BL.out.trans (b2.mono BL.out.size)); clear b2)
  go_ret2
  exact ⟨rfl, B2.out⟩
end Go.Proofs.YtomgijcbekjlaaaGreat
namespace Go.Proofs.YtomgijcbekjlaaaGreat
open Go.RowKit
set_option maxRecDepth 100000 in
set_option maxHeartbeats 8000000 in
theorem encode_1 (o : ObjR) (dv ev uv : Value) (w : World) (h : ObjIn w (fun k => k < w.heap.size + 1) o dv ev uv) (hok : okO o = true) (hkind : o.kind = 1) :
    Calls Tryz.prog 33 #[objV o dv ev uv] w fun e w' => ∃ v, e = .returned (.tuple #[v, .int .i64 0]) ∧ OutAt w.heap.size w' v (encO o) ∧ Below w.heap.size w w' := by
  have hck := fun (W : World) (hb : Below w.heap.size w W) => check_any _ o dv ev uv W (h.turn (Turn.of_below (fun _ => False) hb) (fun _ _ h => h))
  have herr : errO o = 0 := by unfold errO; rw [hok]; rfl
  rw [herr] at hck
  obtain ⟨a1, c1, B1, o1, rfl, hs1, _⟩ := h.data
  obtain ⟨a2, c2, g2, o2, rfl, hs2⟩ := h.ents
  obtain ⟨a3, c3, g3, o3, rfl, hs3⟩ := h.ups
  have hbody := fun W => bodyOf_any o a1 o.data.length c1 a2 o.ents.length c2 a3 o.ups.length c3 W
  have hV : bodyV o (.slice a1 o.data.length c1) (.slice a2 o.ents.length c2) (.slice a3 o.ups.length c3) = .iface 169 (.slice a1 o.data.length c1) := by unfold bodyV; rw [if_pos hkind]
  rw [hV] at hbody
  have hd : o.data.length ≤ 1048576 := by
    have h1 := ok_one hkind
    rw [hok] at h1
    have h2 := h1.symm
    rw [Bool.and_eq_true, decide_eq_true_eq] at h2
    exact h2.1
  have henc : encO o = [1] ++ bodyL o := by unfold encO; rw [hkind]; rfl
  have hbd : bodyL o = o.data := by unfold bodyL; rw [if_pos hkind]
  unfold objV at hck hbody ⊢
  have hlay := fun (W : World) (v : Value) (hb : w.heap.size + 1 ≤ W.heap.size) (hv : W.ownsRow (w.heap.size + 1) 5 1 v ([1] : OB).length (([1] : OB).map B8)) (hB : Below w.heap.size w W) => blobLay_any (w.heap.size + 1) v [1] a1 c1 B1 o1 o.data W hb hv (hs1.below hB) (by simp; omega)
  rw [hbd] at henc
  rw [← henc] at hlay
  obtain ⟨n1, hn1⟩ : ∃ n, n = o.data.length := ⟨_, rfl⟩
  obtain ⟨n2, hn2⟩ : ∃ n, n = o.ents.length := ⟨_, rfl⟩
  obtain ⟨n3, hn3⟩ : ∃ n, n = o.ups.length := ⟨_, rfl⟩
  rw [← hn1, ← hn2, ← hn3, hkind] at hck hbody ⊢
  rw [← hn1] at hlay
  obtain ⟨z, hz⟩ : ∃ z, z = o.stamp := ⟨_, rfl⟩
  rw [← hz] at hck hbody ⊢
  have hbl := (Below.refl w.heap.size w).alloc (Nat.le_refl _) (.cells #[.int .i64 1, .slice a1 n1 c1, .slice a2 n2 c2, .string (SL o.tree), .slice a3 n3 c3, .string (SL o.target), .string (SL o.name), .string (SL o.who), .int .i64 z, .string (SL o.text)] 33)
  obtain ⟨W1, hW1⟩ : ∃ W1, W1 = w.alloc (.cells #[.int .i64 1, .slice a1 n1 c1, .slice a2 n2 c2, .string (SL o.tree), .slice a3 n3 c3, .string (SL o.target), .string (SL o.name), .string (SL o.who), .int .i64 z, .string (SL o.text)] 33) := ⟨_, rfl⟩
  have hs1 : W1.heap.size = w.heap.size + 1 := by rw [hW1]; simp
  rw [← hW1] at hbl
  obtain ⟨x, hx⟩ : ∃ x, x = w.heap.size + 1 := ⟨_, rfl⟩
  have hxs : x = W1.heap.size := by omega
  have hrow : ∀ W, Below x W1 W → _ := fun W hb => obj_cells (below_turn (show Below W1.heap.size W1 W by rw [← hxs]; exact hb) (by rw [hW1]; exact heap_alloc_new w _))
  rw [← hx] at hlay
  have CK := Lib.hid (hck W1 hbl)
  have HBODY := Lib.hid hbody
  have HLAY := Lib.hid hlay
  have ROW := Lib.hid hrow
  have HW := Lib.hid hW1
  have BL := Lib.hid hbl
  have HX := Lib.hid hx
  have HXS := Lib.hid hxs
  obtain ⟨r0, r1, r2, r3, r4, r5, r6, r7, r8, r9⟩ := hrow W1 (Below.refl _ _)
  clear hck hbody hlay hrow hW1 hbl hx hxs hs1 hs2 hs3 hV hd henc hbd hn1 hn2 hn3 h hok herr hkind hz
  go_enter Tryz.func33, Tryz.ntmps33
  go_wp2_with fail
  rw [← HW.out]
  go_wp2_with (go_at_call 67; refine CK.out.mono ?_; rintro e w2 ⟨rfl, b2⟩; have BB := Lib.hid (b2.mono (Nat.le_of_eq HXS.out)); obtain ⟨r0, r1, r2, r3, r4, r5, r6, r7, r8, r9⟩ := ROW.out w2 BB.out; clear b2)
  have BB := Lib.hid BB.out.drew
  have XB := Lib.hid (show x ≤ w2.heap.size from (by have h1 : W1.heap.size ≤ w2.heap.size := BB.out.size; have := HXS.out; omega))
  have XB2 := Lib.hid (show x ≤ w2.drew.heap.size from XB.out)
  first
    | go_region_held3 (fun W => W.cell? ⟨w.heap.size, 0, none⟩ = some (.int .i64 1) ∧ W.cell? ⟨w.heap.size, 1, none⟩ = some (.slice a1 n1 c1) ∧ W.cell? ⟨w.heap.size, 2, none⟩ = some (.slice a2 n2 c2) ∧ W.cell? ⟨w.heap.size, 3, none⟩ = some (.string (SL o.tree)) ∧ W.cell? ⟨w.heap.size, 4, none⟩ = some (.slice a3 n3 c3) ∧ W.cell? ⟨w.heap.size, 5, none⟩ = some (.string (SL o.target)) ∧ W.cell? ⟨w.heap.size, 6, none⟩ = some (.string (SL o.name)) ∧ W.cell? ⟨w.heap.size, 7, none⟩ = some (.string (SL o.who)) ∧ W.cell? ⟨w.heap.size, 8, none⟩ = some (.int .i64 z) ∧ W.cell? ⟨w.heap.size, 9, none⟩ = some (.string (SL o.text))) (first | exact ROW.out _ BB.out | exact ROW.out _ (BB.out.alloc XB.out _)) ((first
      | (go_at_call 68; refine (HBODY.out _).mono ?_; rintro e w3 ⟨rfl, b3⟩; have BB3 := Lib.hid b3; have BB := Lib.hid (show Below x W1 w3 by first | exact BB.out.trans (b3.mono XB.out) | exact (BB.out.alloc XB.out _).trans (b3.mono (by have h1 := XB.out; simp; omega))); have XB := Lib.hid (show x ≤ w3.heap.size by have := BB.out.size; have := HXS.out; omega); obtain ⟨r0, r1, r2, r3, r4, r5, r6, r7, r8, r9⟩ := ROW.out w3 BB.out; clear b3)
      | (go_at_call 230; refine (HLAY.out _ _ (by have := XB.out; first | omega | (simp; omega)) (by first | exact out_lit _ x 1 XB.out | exact own_below (out_lit w2.drew x 1 XB2.out) BB3.out) (by first | exact BL.out.trans ((BB.out.alloc XB.out _).mono (by have := HX.out; omega)) | exact BL.out.trans (BB.out.mono (by have := HX.out; omega)))).mono ?_; rintro e w4 ⟨v4, rfl, o4, t4⟩; have O4 := Lib.hid o4; have BB := Lib.hid (show Below x W1 w4 by first | exact (BB.out.alloc XB.out _).trans t4.below | exact BB.out.trans t4.below); clear o4 t4)))
    | fail "held"
  all_goals (go_wp2; go_ret2; exact ⟨_, rfl, own_down O4.out (by have := HX.out; omega), BL.out.trans (BB.out.mono (by have := HX.out; omega))⟩)
end Go.Proofs.YtomgijcbekjlaaaGreat
namespace Go.Proofs.YtomgijcbekjlaaaGreat
open Go.RowKit
set_option maxRecDepth 100000 in
set_option maxHeartbeats 8000000 in
theorem encode_2 (o : ObjR) (dv ev uv : Value) (w : World) (h : ObjIn w (fun k => k < w.heap.size + 1) o dv ev uv) (hok : okO o = true) (hkind : o.kind = 2) :
    Calls Tryz.prog 33 #[objV o dv ev uv] w fun e w' => ∃ v, e = .returned (.tuple #[v, .int .i64 0]) ∧ OutAt w.heap.size w' v (encO o) ∧ Below w.heap.size w w' := by
  have hck := fun (W : World) (hb : Below w.heap.size w W) => check_any _ o dv ev uv W (h.turn (Turn.of_below (fun _ => False) hb) (fun _ _ h => h))
  have herr : errO o = 0 := by unfold errO; rw [hok]; rfl
  rw [herr] at hck
  obtain ⟨a1, c1, B1, o1, rfl, hs1, _⟩ := h.data
  obtain ⟨a2, c2, g2, o2, rfl, hs2⟩ := h.ents
  obtain ⟨a3, c3, g3, o3, rfl, hs3⟩ := h.ups
  have hbody := fun W => bodyOf_any o a1 o.data.length c1 a2 o.ents.length c2 a3 o.ups.length c3 W
  have hV : bodyV o (.slice a1 o.data.length c1) (.slice a2 o.ents.length c2) (.slice a3 o.ups.length c3) = .iface 170 (.slice a2 o.ents.length c2) := by unfold bodyV; rw [if_neg (by omega), if_pos hkind]
  rw [hV] at hbody
  have hd : entsB o.ents = true := by
    have h1 := ok_two hkind
    rw [hok] at h1
    have h2 := h1.symm
    rw [Bool.and_eq_true] at h2
    exact h2.1
  have henc : encO o = [2] ++ bodyL o := by unfold encO; rw [hkind]; rfl
  have hbd : bodyL o = numL o.ents.length ++ (o.ents.map entL).flatten := by unfold bodyL; rw [if_neg (by omega), if_pos hkind]
  unfold objV at hck hbody ⊢
  have hlay := fun (W : World) (v : Value) (hb : w.heap.size + 1 ≤ W.heap.size) (hv : W.ownsRow (w.heap.size + 1) 5 1 v ([2] : OB).length (([2] : OB).map B8)) (hB : Below w.heap.size w W) => treeLay_any (w.heap.size + 1) v [2] a2 c2 g2 o2 o.ents W hb hv ((hs2.turn (Turn.of_below (fun _ => False) hB) (fun _ _ h => h)).turn (Turn.refl (fun _ => False) W) (fun _ _ h => h) |>.mono (fun k _ hk => hk)) hd (by simp)
  rw [hbd] at henc
  rw [← henc] at hlay
  obtain ⟨n1, hn1⟩ : ∃ n, n = o.data.length := ⟨_, rfl⟩
  obtain ⟨n2, hn2⟩ : ∃ n, n = o.ents.length := ⟨_, rfl⟩
  obtain ⟨n3, hn3⟩ : ∃ n, n = o.ups.length := ⟨_, rfl⟩
  rw [← hn1, ← hn2, ← hn3, hkind] at hck hbody ⊢
  rw [← hn2] at hlay
  obtain ⟨z, hz⟩ : ∃ z, z = o.stamp := ⟨_, rfl⟩
  rw [← hz] at hck hbody ⊢
  have hbl := (Below.refl w.heap.size w).alloc (Nat.le_refl _) (.cells #[.int .i64 2, .slice a1 n1 c1, .slice a2 n2 c2, .string (SL o.tree), .slice a3 n3 c3, .string (SL o.target), .string (SL o.name), .string (SL o.who), .int .i64 z, .string (SL o.text)] 33)
  obtain ⟨W1, hW1⟩ : ∃ W1, W1 = w.alloc (.cells #[.int .i64 2, .slice a1 n1 c1, .slice a2 n2 c2, .string (SL o.tree), .slice a3 n3 c3, .string (SL o.target), .string (SL o.name), .string (SL o.who), .int .i64 z, .string (SL o.text)] 33) := ⟨_, rfl⟩
  have hs1 : W1.heap.size = w.heap.size + 1 := by rw [hW1]; simp
  rw [← hW1] at hbl
  obtain ⟨x, hx⟩ : ∃ x, x = w.heap.size + 1 := ⟨_, rfl⟩
  have hxs : x = W1.heap.size := by omega
  have hrow : ∀ W, Below x W1 W → _ := fun W hb => obj_cells (below_turn (show Below W1.heap.size W1 W by rw [← hxs]; exact hb) (by rw [hW1]; exact heap_alloc_new w _))
  rw [← hx] at hlay
  have CK := Lib.hid (hck W1 hbl)
  have HBODY := Lib.hid hbody
  have HLAY := Lib.hid hlay
  have ROW := Lib.hid hrow
  have HW := Lib.hid hW1
  have BL := Lib.hid hbl
  have HX := Lib.hid hx
  have HXS := Lib.hid hxs
  obtain ⟨r0, r1, r2, r3, r4, r5, r6, r7, r8, r9⟩ := hrow W1 (Below.refl _ _)
  clear hck hbody hlay hrow hW1 hbl hx hxs hs1 hs2 hs3 hV hd henc hbd hn1 hn2 hn3 h hok herr hkind hz
  go_enter Tryz.func33, Tryz.ntmps33
  go_wp2_with fail
  rw [← HW.out]
  go_wp2_with (go_at_call 67; refine CK.out.mono ?_; rintro e w2 ⟨rfl, b2⟩; have BB := Lib.hid (b2.mono (Nat.le_of_eq HXS.out)); obtain ⟨r0, r1, r2, r3, r4, r5, r6, r7, r8, r9⟩ := ROW.out w2 BB.out; clear b2)
  have BB := Lib.hid BB.out.drew
  have XB := Lib.hid (show x ≤ w2.heap.size from (by have h1 : W1.heap.size ≤ w2.heap.size := BB.out.size; have := HXS.out; omega))
  have XB2 := Lib.hid (show x ≤ w2.drew.heap.size from XB.out)
  first
    | go_region_held3 (fun W => W.cell? ⟨w.heap.size, 0, none⟩ = some (.int .i64 2) ∧ W.cell? ⟨w.heap.size, 1, none⟩ = some (.slice a1 n1 c1) ∧ W.cell? ⟨w.heap.size, 2, none⟩ = some (.slice a2 n2 c2) ∧ W.cell? ⟨w.heap.size, 3, none⟩ = some (.string (SL o.tree)) ∧ W.cell? ⟨w.heap.size, 4, none⟩ = some (.slice a3 n3 c3) ∧ W.cell? ⟨w.heap.size, 5, none⟩ = some (.string (SL o.target)) ∧ W.cell? ⟨w.heap.size, 6, none⟩ = some (.string (SL o.name)) ∧ W.cell? ⟨w.heap.size, 7, none⟩ = some (.string (SL o.who)) ∧ W.cell? ⟨w.heap.size, 8, none⟩ = some (.int .i64 z) ∧ W.cell? ⟨w.heap.size, 9, none⟩ = some (.string (SL o.text))) (first | exact ROW.out _ BB.out | exact ROW.out _ (BB.out.alloc XB.out _)) ((first
      | (go_at_call 68; refine (HBODY.out _).mono ?_; rintro e w3 ⟨rfl, b3⟩; have BB3 := Lib.hid b3; have BB := Lib.hid (show Below x W1 w3 by first | exact BB.out.trans (b3.mono XB.out) | exact (BB.out.alloc XB.out _).trans (b3.mono (by have h1 := XB.out; simp; omega))); have XB := Lib.hid (show x ≤ w3.heap.size by have := BB.out.size; have := HXS.out; omega); obtain ⟨r0, r1, r2, r3, r4, r5, r6, r7, r8, r9⟩ := ROW.out w3 BB.out; clear b3)
      | (go_at_call 231; refine (HLAY.out _ _ (by have := XB.out; first | omega | (simp; omega)) (by first | exact out_lit _ x 2 XB.out | exact own_below (out_lit w2.drew x 2 XB2.out) BB3.out) (by first | exact BL.out.trans ((BB.out.alloc XB.out _).mono (by have := HX.out; omega)) | exact BL.out.trans (BB.out.mono (by have := HX.out; omega)))).mono ?_; rintro e w4 ⟨v4, rfl, o4, t4⟩; have O4 := Lib.hid o4; have BB := Lib.hid (show Below x W1 w4 by first | exact (BB.out.alloc XB.out _).trans t4.below | exact BB.out.trans t4.below); clear o4 t4)))
    | fail "held"
  all_goals (go_wp2; go_ret2; exact ⟨_, rfl, own_down O4.out (by have := HX.out; omega), BL.out.trans (BB.out.mono (by have := HX.out; omega))⟩)
end Go.Proofs.YtomgijcbekjlaaaGreat
namespace Go.Proofs.YtomgijcbekjlaaaGreat
open Go.RowKit
set_option maxRecDepth 100000 in
set_option maxHeartbeats 8000000 in
theorem encode_3 (o : ObjR) (dv ev uv : Value) (w : World) (h : ObjIn w (fun k => k < w.heap.size + 1) o dv ev uv) (hok : okO o = true) (hkind : o.kind = 3) :
    Calls Tryz.prog 33 #[objV o dv ev uv] w fun e w' => ∃ v, e = .returned (.tuple #[v, .int .i64 0]) ∧ OutAt w.heap.size w' v (encO o) ∧ Below w.heap.size w w' := by
  have hck := fun (W : World) (hb : Below w.heap.size w W) => check_any _ o dv ev uv W (h.turn (Turn.of_below (fun _ => False) hb) (fun _ _ h => h))
  have herr : errO o = 0 := by unfold errO; rw [hok]; rfl
  rw [herr] at hck
  obtain ⟨a1, c1, B1, o1, rfl, hs1, _⟩ := h.data
  obtain ⟨a2, c2, g2, o2, rfl, hs2⟩ := h.ents
  obtain ⟨a3, c3, g3, o3, rfl, hs3⟩ := h.ups
  have hbody := fun W => bodyOf_any o a1 o.data.length c1 a2 o.ents.length c2 a3 o.ups.length c3 W
  have hV : bodyV o (.slice a1 o.data.length c1) (.slice a2 o.ents.length c2) (.slice a3 o.ups.length c3) = .iface 172 (.agg #[.string (SL o.tree), .slice a3 o.ups.length c3, .string (SL o.who), .int .i64 o.stamp, .string (SL o.text)]) := by unfold bodyV; rw [if_neg (by omega), if_neg (by omega), if_pos hkind]
  rw [hV] at hbody
  have hd : (o.tree.length = 32 ∧ upsB o.ups = true) ∧ toldB o = true := by
    have h1 := ok_three hkind
    rw [hok] at h1
    have h2 := h1.symm
    simp only [Bool.and_eq_true, decide_eq_true_eq] at h2
    exact h2.1
  have henc : encO o = [3] ++ bodyL o := by unfold encO; rw [hkind]; rfl
  have hbd : bodyL o = o.tree ++ (numL o.ups.length ++ (o.ups.flatten ++ tailO o)) := by unfold bodyL; rw [if_neg (by omega), if_neg (by omega), if_pos hkind]
  unfold objV at hck hbody ⊢
  have hlay := fun (W : World) (v : Value) (hb : w.heap.size + 1 ≤ W.heap.size) (hv : W.ownsRow (w.heap.size + 1) 5 1 v ([3] : OB).length (([3] : OB).map B8)) (hB : Below w.heap.size w W) => commitLay_any (w.heap.size + 1) v [3] a3 c3 g3 o3 o W hb hv (hs3.turn (Turn.of_below (fun _ => False) hB) (fun _ _ h => h)) hd.1.1 hd.1.2 hd.2 (by simp)
  rw [hbd] at henc
  rw [← henc] at hlay
  obtain ⟨n1, hn1⟩ : ∃ n, n = o.data.length := ⟨_, rfl⟩
  obtain ⟨n2, hn2⟩ : ∃ n, n = o.ents.length := ⟨_, rfl⟩
  obtain ⟨n3, hn3⟩ : ∃ n, n = o.ups.length := ⟨_, rfl⟩
  rw [← hn1, ← hn2, ← hn3, hkind] at hck hbody ⊢
  rw [← hn3] at hlay
  obtain ⟨z, hz⟩ : ∃ z, z = o.stamp := ⟨_, rfl⟩
  rw [← hz] at hck hbody ⊢
  rw [← hz] at hlay
  have hbl := (Below.refl w.heap.size w).alloc (Nat.le_refl _) (.cells #[.int .i64 3, .slice a1 n1 c1, .slice a2 n2 c2, .string (SL o.tree), .slice a3 n3 c3, .string (SL o.target), .string (SL o.name), .string (SL o.who), .int .i64 z, .string (SL o.text)] 33)
  obtain ⟨W1, hW1⟩ : ∃ W1, W1 = w.alloc (.cells #[.int .i64 3, .slice a1 n1 c1, .slice a2 n2 c2, .string (SL o.tree), .slice a3 n3 c3, .string (SL o.target), .string (SL o.name), .string (SL o.who), .int .i64 z, .string (SL o.text)] 33) := ⟨_, rfl⟩
  have hs1 : W1.heap.size = w.heap.size + 1 := by rw [hW1]; simp
  rw [← hW1] at hbl
  obtain ⟨x, hx⟩ : ∃ x, x = w.heap.size + 1 := ⟨_, rfl⟩
  have hxs : x = W1.heap.size := by omega
  have hrow : ∀ W, Below x W1 W → _ := fun W hb => obj_cells (below_turn (show Below W1.heap.size W1 W by rw [← hxs]; exact hb) (by rw [hW1]; exact heap_alloc_new w _))
  rw [← hx] at hlay
  have CK := Lib.hid (hck W1 hbl)
  have HBODY := Lib.hid hbody
  have HLAY := Lib.hid hlay
  have ROW := Lib.hid hrow
  have HW := Lib.hid hW1
  have BL := Lib.hid hbl
  have HX := Lib.hid hx
  have HXS := Lib.hid hxs
  obtain ⟨r0, r1, r2, r3, r4, r5, r6, r7, r8, r9⟩ := hrow W1 (Below.refl _ _)
  clear hck hbody hlay hrow hW1 hbl hx hxs hs1 hs2 hs3 hV hd henc hbd hn1 hn2 hn3 h hok herr hkind hz
  go_enter Tryz.func33, Tryz.ntmps33
  go_wp2_with fail
  rw [← HW.out]
  go_wp2_with (go_at_call 67; refine CK.out.mono ?_; rintro e w2 ⟨rfl, b2⟩; have BB := Lib.hid (b2.mono (Nat.le_of_eq HXS.out)); obtain ⟨r0, r1, r2, r3, r4, r5, r6, r7, r8, r9⟩ := ROW.out w2 BB.out; clear b2)
  have BB := Lib.hid BB.out.drew
  have XB := Lib.hid (show x ≤ w2.heap.size from (by have h1 : W1.heap.size ≤ w2.heap.size := BB.out.size; have := HXS.out; omega))
  have XB2 := Lib.hid (show x ≤ w2.drew.heap.size from XB.out)
  first
    | go_region_held3 (fun W => W.cell? ⟨w.heap.size, 0, none⟩ = some (.int .i64 3) ∧ W.cell? ⟨w.heap.size, 1, none⟩ = some (.slice a1 n1 c1) ∧ W.cell? ⟨w.heap.size, 2, none⟩ = some (.slice a2 n2 c2) ∧ W.cell? ⟨w.heap.size, 3, none⟩ = some (.string (SL o.tree)) ∧ W.cell? ⟨w.heap.size, 4, none⟩ = some (.slice a3 n3 c3) ∧ W.cell? ⟨w.heap.size, 5, none⟩ = some (.string (SL o.target)) ∧ W.cell? ⟨w.heap.size, 6, none⟩ = some (.string (SL o.name)) ∧ W.cell? ⟨w.heap.size, 7, none⟩ = some (.string (SL o.who)) ∧ W.cell? ⟨w.heap.size, 8, none⟩ = some (.int .i64 z) ∧ W.cell? ⟨w.heap.size, 9, none⟩ = some (.string (SL o.text))) (first | exact ROW.out _ BB.out | exact ROW.out _ (BB.out.alloc XB.out _)) ((first
      | (go_at_call 68; refine (HBODY.out _).mono ?_; rintro e w3 ⟨rfl, b3⟩; have BB3 := Lib.hid b3; have BB := Lib.hid (show Below x W1 w3 by first | exact BB.out.trans (b3.mono XB.out) | exact (BB.out.alloc XB.out _).trans (b3.mono (by have h1 := XB.out; simp; omega))); have XB := Lib.hid (show x ≤ w3.heap.size by have := BB.out.size; have := HXS.out; omega); obtain ⟨r0, r1, r2, r3, r4, r5, r6, r7, r8, r9⟩ := ROW.out w3 BB.out; clear b3)
      | (go_at_call 233; refine (HLAY.out _ _ (by have := XB.out; first | omega | (simp; omega)) (by first | exact out_lit _ x 3 XB.out | exact own_below (out_lit w2.drew x 3 XB2.out) BB3.out) (by first | exact BL.out.trans ((BB.out.alloc XB.out _).mono (by have := HX.out; omega)) | exact BL.out.trans (BB.out.mono (by have := HX.out; omega)))).mono ?_; rintro e w4 ⟨v4, rfl, o4, t4⟩; have O4 := Lib.hid o4; have BB := Lib.hid (show Below x W1 w4 by first | exact (BB.out.alloc XB.out _).trans t4.below | exact BB.out.trans t4.below); clear o4 t4)))
    | fail "held"
  all_goals (go_wp2; go_ret2; exact ⟨_, rfl, own_down O4.out (by have := HX.out; omega), BL.out.trans (BB.out.mono (by have := HX.out; omega))⟩)
end Go.Proofs.YtomgijcbekjlaaaGreat
namespace Go.Proofs.YtomgijcbekjlaaaGreat
open Go.RowKit
set_option maxRecDepth 100000 in
set_option maxHeartbeats 8000000 in
theorem encode_4 (o : ObjR) (dv ev uv : Value) (w : World) (h : ObjIn w (fun k => k < w.heap.size + 1) o dv ev uv) (hok : okO o = true) (hkind : o.kind = 4) :
    Calls Tryz.prog 33 #[objV o dv ev uv] w fun e w' => ∃ v, e = .returned (.tuple #[v, .int .i64 0]) ∧ OutAt w.heap.size w' v (encO o) ∧ Below w.heap.size w w' := by
  have hck := fun (W : World) (hb : Below w.heap.size w W) => check_any _ o dv ev uv W (h.turn (Turn.of_below (fun _ => False) hb) (fun _ _ h => h))
  have herr : errO o = 0 := by unfold errO; rw [hok]; rfl
  rw [herr] at hck
  obtain ⟨a1, c1, B1, o1, rfl, hs1, _⟩ := h.data
  obtain ⟨a2, c2, g2, o2, rfl, hs2⟩ := h.ents
  obtain ⟨a3, c3, g3, o3, rfl, hs3⟩ := h.ups
  have hbody := fun W => bodyOf_any o a1 o.data.length c1 a2 o.ents.length c2 a3 o.ups.length c3 W
  have hV : bodyV o (.slice a1 o.data.length c1) (.slice a2 o.ents.length c2) (.slice a3 o.ups.length c3) = .iface 174 (.agg #[.string (SL o.target), .string (SL o.name), .string (SL o.who), .int .i64 o.stamp, .string (SL o.text)]) := by unfold bodyV; rw [if_neg (by omega), if_neg (by omega), if_neg (by omega), if_pos hkind]
  rw [hV] at hbody
  have hd : (o.target.length = 32 ∧ 1 ≤ o.name.length ∧ o.name.length ≤ 200) ∧ toldB o = true := by
    have h1 := ok_four hkind
    rw [hok] at h1
    have h2 := h1.symm
    simp only [Bool.and_eq_true, decide_eq_true_eq] at h2
    exact h2.1
  have henc : encO o = [4] ++ bodyL o := by unfold encO; rw [hkind]; rfl
  have hbd : bodyL o = o.target ++ (txtL o.name ++ tailO o) := by unfold bodyL; rw [if_neg (by omega), if_neg (by omega), if_neg (by omega)]
  unfold objV at hck hbody ⊢
  have hlay := fun (W : World) (v : Value) (hb : w.heap.size + 1 ≤ W.heap.size) (hv : W.ownsRow (w.heap.size + 1) 5 1 v ([4] : OB).length (([4] : OB).map B8)) (hB : Below w.heap.size w W) => tagLay_any (w.heap.size + 1) v [4] o W hb hv hd.1.1 hd.1.2.2 hd.2 (by simp)
  rw [hbd] at henc
  rw [← henc] at hlay
  obtain ⟨n1, hn1⟩ : ∃ n, n = o.data.length := ⟨_, rfl⟩
  obtain ⟨n2, hn2⟩ : ∃ n, n = o.ents.length := ⟨_, rfl⟩
  obtain ⟨n3, hn3⟩ : ∃ n, n = o.ups.length := ⟨_, rfl⟩
  rw [← hn1, ← hn2, ← hn3, hkind] at hck hbody ⊢
  obtain ⟨z, hz⟩ : ∃ z, z = o.stamp := ⟨_, rfl⟩
  rw [← hz] at hck hbody ⊢
  rw [← hz] at hlay
  have hbl := (Below.refl w.heap.size w).alloc (Nat.le_refl _) (.cells #[.int .i64 4, .slice a1 n1 c1, .slice a2 n2 c2, .string (SL o.tree), .slice a3 n3 c3, .string (SL o.target), .string (SL o.name), .string (SL o.who), .int .i64 z, .string (SL o.text)] 33)
  obtain ⟨W1, hW1⟩ : ∃ W1, W1 = w.alloc (.cells #[.int .i64 4, .slice a1 n1 c1, .slice a2 n2 c2, .string (SL o.tree), .slice a3 n3 c3, .string (SL o.target), .string (SL o.name), .string (SL o.who), .int .i64 z, .string (SL o.text)] 33) := ⟨_, rfl⟩
  have hs1 : W1.heap.size = w.heap.size + 1 := by rw [hW1]; simp
  rw [← hW1] at hbl
  obtain ⟨x, hx⟩ : ∃ x, x = w.heap.size + 1 := ⟨_, rfl⟩
  have hxs : x = W1.heap.size := by omega
  have hrow : ∀ W, Below x W1 W → _ := fun W hb => obj_cells (below_turn (show Below W1.heap.size W1 W by rw [← hxs]; exact hb) (by rw [hW1]; exact heap_alloc_new w _))
  rw [← hx] at hlay
  have CK := Lib.hid (hck W1 hbl)
  have HBODY := Lib.hid hbody
  have HLAY := Lib.hid hlay
  have ROW := Lib.hid hrow
  have HW := Lib.hid hW1
  have BL := Lib.hid hbl
  have HX := Lib.hid hx
  have HXS := Lib.hid hxs
  obtain ⟨r0, r1, r2, r3, r4, r5, r6, r7, r8, r9⟩ := hrow W1 (Below.refl _ _)
  clear hck hbody hlay hrow hW1 hbl hx hxs hs1 hs2 hs3 hV hd henc hbd hn1 hn2 hn3 h hok herr hkind hz
  go_enter Tryz.func33, Tryz.ntmps33
  go_wp2_with fail
  rw [← HW.out]
  go_wp2_with (go_at_call 67; refine CK.out.mono ?_; rintro e w2 ⟨rfl, b2⟩; have BB := Lib.hid (b2.mono (Nat.le_of_eq HXS.out)); obtain ⟨r0, r1, r2, r3, r4, r5, r6, r7, r8, r9⟩ := ROW.out w2 BB.out; clear b2)
  have BB := Lib.hid BB.out.drew
  have XB := Lib.hid (show x ≤ w2.heap.size from (by have h1 : W1.heap.size ≤ w2.heap.size := BB.out.size; have := HXS.out; omega))
  have XB2 := Lib.hid (show x ≤ w2.drew.heap.size from XB.out)
  first
    | go_region_held3 (fun W => W.cell? ⟨w.heap.size, 0, none⟩ = some (.int .i64 4) ∧ W.cell? ⟨w.heap.size, 1, none⟩ = some (.slice a1 n1 c1) ∧ W.cell? ⟨w.heap.size, 2, none⟩ = some (.slice a2 n2 c2) ∧ W.cell? ⟨w.heap.size, 3, none⟩ = some (.string (SL o.tree)) ∧ W.cell? ⟨w.heap.size, 4, none⟩ = some (.slice a3 n3 c3) ∧ W.cell? ⟨w.heap.size, 5, none⟩ = some (.string (SL o.target)) ∧ W.cell? ⟨w.heap.size, 6, none⟩ = some (.string (SL o.name)) ∧ W.cell? ⟨w.heap.size, 7, none⟩ = some (.string (SL o.who)) ∧ W.cell? ⟨w.heap.size, 8, none⟩ = some (.int .i64 z) ∧ W.cell? ⟨w.heap.size, 9, none⟩ = some (.string (SL o.text))) (first | exact ROW.out _ BB.out | exact ROW.out _ (BB.out.alloc XB.out _)) ((first
      | (go_at_call 68; refine (HBODY.out _).mono ?_; rintro e w3 ⟨rfl, b3⟩; have BB3 := Lib.hid b3; have BB := Lib.hid (show Below x W1 w3 by first | exact BB.out.trans (b3.mono XB.out) | exact (BB.out.alloc XB.out _).trans (b3.mono (by have h1 := XB.out; simp; omega))); have XB := Lib.hid (show x ≤ w3.heap.size by have := BB.out.size; have := HXS.out; omega); obtain ⟨r0, r1, r2, r3, r4, r5, r6, r7, r8, r9⟩ := ROW.out w3 BB.out; clear b3)
      | (go_at_call 234; refine (HLAY.out _ _ (by have := XB.out; first | omega | (simp; omega)) (by first | exact out_lit _ x 4 XB.out | exact own_below (out_lit w2.drew x 4 XB2.out) BB3.out) (by first | exact BL.out.trans ((BB.out.alloc XB.out _).mono (by have := HX.out; omega)) | exact BL.out.trans (BB.out.mono (by have := HX.out; omega)))).mono ?_; rintro e w4 ⟨v4, rfl, o4, t4⟩; have O4 := Lib.hid o4; have BB := Lib.hid (show Below x W1 w4 by first | exact (BB.out.alloc XB.out _).trans t4.below | exact BB.out.trans t4.below); clear o4 t4)))
    | fail "held"
  all_goals (go_wp2; go_ret2; exact ⟨_, rfl, own_down O4.out (by have := HX.out; omega), BL.out.trans (BB.out.mono (by have := HX.out; omega))⟩)
end Go.Proofs.YtomgijcbekjlaaaGreat
namespace Go.Proofs.YtomgijcbekjlaaaGreat
open Go.RowKit
theorem encode_any (F : Nat → Prop) (o : ObjR) (dv ev uv : Value) (w : World) (h : ObjIn w F o dv ev uv) :
    Calls Tryz.prog 33 #[objV o dv ev uv] w fun e w' => ∃ v, e = .returned (.tuple #[v, .int .i64 (errO o)]) ∧ OutAt w.heap.size w' v (bytesO o) ∧ Below w.heap.size w w' := by
  have h2 : ObjIn w (fun k => k < w.heap.size + 1) o dv ev uv := h.mono (fun k hk _ => by omega)
  cases hok : okO o with
  | false =>
    have e1 : errO o = 1 := by unfold errO; rw [hok]; rfl
    have e2 : bytesO o = [] := by unfold bytesO; rw [hok]; rfl
    rw [e1, e2]
    refine (encode_no F o dv ev uv w h hok).mono ?_
    rintro e w' ⟨he, hb⟩
    exact ⟨_, he, World.ownsRow_nil _ _ _ _, hb⟩
  | true =>
    have e1 : errO o = 0 := by unfold errO; rw [hok]; rfl
    have e2 : bytesO o = encO o := by unfold bytesO; rw [hok]; rfl
    rw [e1, e2]
    rcases kind_of_ok hok with hk | hk | hk | hk
    · exact encode_1 o dv ev uv w h2 hok hk
    · exact encode_2 o dv ev uv w h2 hok hk
    · exact encode_3 o dv ev uv w h2 hok hk
    · exact encode_4 o dv ev uv w h2 hok hk
end Go.Proofs.YtomgijcbekjlaaaGreat
namespace Go.Proofs.YtomgijcbekjlaaaGreat
open Go.RowKit
theorem dec_bad {b : OB} (h : (wO (b, false)).2.2 = true ∨ (wO (b, false)).2.1 ≠ []) : decO b = none := by
  rw [← wDec_eq]
  unfold wDec
  rw [if_pos]
  rcases h with h | h
  · exact .inl h
  · exact .inr (.inl h)
theorem dec_not {b : OB} (h : okO (wO (b, false)).1 = false) : decO b = none := by
  rw [← wDec_eq]
  unfold wDec
  rw [if_pos (.inr (.inr h))]
theorem dec_yes {b : OB} (h1 : ¬ ((wO (b, false)).2.2 = true ∨ (wO (b, false)).2.1 ≠ [])) (h2 : okO (wO (b, false)).1 = true) : decO b = some (wO (b, false)).1 := by
  rw [← wDec_eq]
  unfold wDec
  rw [if_neg]
  rintro (k | k | k)
  · exact h1 (.inl k)
  · exact h1 (.inr k)
  · rw [h2] at k; cases k
set_option maxRecDepth 100000 in
set_option maxHeartbeats 8000000 in
theorem decode_any (ao : Option Addr) (cap B off : Nat) (b : OB) (w : World) (h : SrcAt w ao cap b B off) (hl : b.length ≤ 140737488355328) :
    Calls Tryz.prog 47 #[.slice ao b.length cap] w (DecTo b w) := by
  obtain ⟨q, hq⟩ : ∃ q, q = w.heap.size := ⟨_, rfl⟩
  obtain ⟨W1, hW1⟩ : ∃ W1, W1 = w.alloc (.cells #[.int .i64 0, .slice none 0 0, .slice none 0 0, .string ⟨#[]⟩, .slice none 0 0, .string ⟨#[]⟩, .string ⟨#[]⟩, .string ⟨#[]⟩, .int .i64 0, .string ⟨#[]⟩] 33) := ⟨_, rfl⟩
  have hbl : Below w.heap.size w W1 := by rw [hW1]; exact (Below.refl _ _).alloc (Nat.le_refl _) _
  have hsz : W1.heap.size = w.heap.size + 1 := by rw [hW1]; simp
  have hrow : W1.heap[q]? = some (.cells #[.int .i64 0, .slice none 0 0, .slice none 0 0, .string ⟨#[]⟩, .slice none 0 0, .string ⟨#[]⟩, .string ⟨#[]⟩, .string ⟨#[]⟩, .int .i64 0, .string ⟨#[]⟩] 33 (0, 0)) := by rw [hW1, hq]; exact heap_alloc_new w _
  have hof := rowOf_any ao cap B off b W1 (h.below hbl)
  have htk := fun W (hr : RwAt W1.heap.size W W1.heap.size (b, false)) => takeBody_any W1.heap.size W1.heap.size (b, false) W hr hl
  obtain ⟨T, hT⟩ : ∃ x, x = wO (b, false) := ⟨_, rfl⟩
  rw [← hT] at htk
  obtain ⟨x, hx⟩ : ∃ x, x = W1.heap.size := ⟨_, rfl⟩
  rw [← hx] at hof htk
  obtain ⟨L, hL⟩ : ∃ n, n = b.length := ⟨_, rfl⟩
  rw [← hL] at hof ⊢
  have HOF := Lib.hid hof
  have HTK := Lib.hid htk
  have HW := Lib.hid hW1
  have HX := Lib.hid hx
  have HT := Lib.hid hT
  have HQ := Lib.hid (show q < x by omega)
  have HQW := Lib.hid hq
  have BL := Lib.hid hbl
  have ROW := Lib.hid hrow
  clear hof htk hW1 hx hT hL hsz hrow hbl h hl hq
  go_enter Tryz.func47, Tryz.ntmps47
  go_wp2_with fail
  rw [← HW.out, ← HQW.out]
  refine HOF.out.mono ?_
  rintro e w2 ⟨rfl, r2, b2⟩
  have R2 := Lib.hid r2
  have B2 := Lib.hid b2
  have Q2 := Lib.hid (below_turn (by rw [← HX.out]; exact b2) ROW.out)
  clear r2 b2
  go_wp2_with fail
  refine (HTK.out _ R2.out).mono ?_
  rintro e w3 ⟨a1, c1, a2, c2, a3, c3, rfl, i3, ⟨k1, k2, k3, k4⟩, r3, t3⟩
  have R3 := Lib.hid r3
  have T3 := Lib.hid t3
  have Q3 := Lib.hid (t3.keep Q2.out (fun e => by have := HQ.out; omega))
  have I3 := Lib.hid (i3.mono (F' := fun k => x < k) (fun k _ hk => by have := R2.out.lt; show x < k; omega))
  have hoo := fun W => objectOf_any T.1 a1 T.1.data.length c1 a2 T.1.ents.length c2 a3 T.1.ups.length c3 W
  rw [k1, k2, k3, k4] at hoo
  have hck := fun W (hb : Below w3.heap.size w3 W) => check_any _ T.1 _ _ _ W (i3.turn (Turn.of_below (fun _ => False) hb) (fun _ _ h => h))
  obtain ⟨V, hV⟩ : ∃ V, V = bodyV T.1 (.slice a1 T.1.data.length c1) (.slice a2 T.1.ents.length c2) (.slice a3 T.1.ups.length c3) := ⟨_, rfl⟩
  rw [← hV] at hoo ⊢
  clear r3 t3 i3 k1 k2 k3 k4 hV
  obtain ⟨o, ho⟩ : ∃ o, o = T.1 := ⟨_, rfl⟩
  rw [← ho] at hoo hck I3
  obtain ⟨n1, hn1⟩ : ∃ n, n = o.data.length := ⟨_, rfl⟩
  obtain ⟨n2, hn2⟩ : ∃ n, n = o.ents.length := ⟨_, rfl⟩
  obtain ⟨n3, hn3⟩ : ∃ n, n = o.ups.length := ⟨_, rfl⟩
  rw [← hn1, ← hn2, ← hn3] at hoo hck I3
  unfold objV at hoo hck
  obtain ⟨K, hK⟩ : ∃ k, k = o.kind := ⟨_, rfl⟩
  obtain ⟨z, hz⟩ : ∃ z, z = o.stamp := ⟨_, rfl⟩
  rw [← hK, ← hz] at hoo hck
  have HOO := Lib.hid hoo
  have HCK := Lib.hid hck
  have HO := Lib.hid ho
  have hov : (Value.agg #[.int .i64 K, .slice a1 n1 c1, .slice a2 n2 c2, .string (SL o.tree), .slice a3 n3 c3, .string (SL o.target), .string (SL o.name), .string (SL o.who), .int .i64 z, .string (SL o.text)]) = objV o (.slice a1 n1 c1) (.slice a2 n2 c2) (.slice a3 n3 c3) := by rw [hK, hz]; rfl
  have HOV := Lib.hid hov
  clear hoo hck ho hn1 hn2 hn3 hK hz hov
  go_wp2_with fail
  refine (HOO.out _).mono ?_
  rintro e w4 ⟨rfl, b4⟩
  have B4 := Lib.hid b4
  have R4 := Lib.hid (R3.out.below b4)
  have Q4 := Lib.hid (below_turn b4 Q3.out)
  clear b4
  obtain ⟨W5, hW5⟩ : ∃ W5, W5 = w4.alloc (.cells #[.int .i64 K, .slice a1 n1 c1, .slice a2 n2 c2, .string (SL o.tree), .slice a3 n3 c3, .string (SL o.target), .string (SL o.name), .string (SL o.who), .int .i64 z, .string (SL o.text)] 33) := ⟨_, rfl⟩
  have hb5 : Below w4.heap.size w4 W5 := by rw [hW5]; exact (Below.refl _ _).alloc (Nat.le_refl _) _
  have hr5 : W5.heap[w4.heap.size]? = some (.cells #[.int .i64 K, .slice a1 n1 c1, .slice a2 n2 c2, .string (SL o.tree), .slice a3 n3 c3, .string (SL o.target), .string (SL o.name), .string (SL o.who), .int .i64 z, .string (SL o.text)] 33 (0, 0)) := by rw [hW5]; exact heap_alloc_new w4 _
  have hend := rowEnd_any x x T.2 W5 (R4.out.below hb5)
  have HEND := Lib.hid hend
  have HW5 := Lib.hid hW5
  have Q5 := Lib.hid (below_turn hb5 Q4.out)
  have B35 := Lib.hid (B4.out.trans (hb5.mono B4.out.size))
  have S5 := Lib.hid hr5
  obtain ⟨s0, s1, s2, s3, s4, s5, s6, s7, s8, s9⟩ := obj_cells hr5
  have B05 : Below q w W5 := by
    have u1 : Below q w W1 := BL.out.mono (Nat.le_of_eq HQW.out)
    have u2 : Below q W1 w2 := B2.out.mono (Nat.le_of_lt HQ.out)
    have u3 : Below q w2 w3 := T3.out.below (Nat.le_trans (Nat.le_of_lt HQ.out) (Nat.le_of_lt R2.out.lt)) (fun k e => by have := HQ.out; omega)
    have u4 : Below q w3 W5 := B35.out.mono (Nat.le_trans (Nat.le_of_lt HQ.out) (Nat.le_of_lt R3.out.lt))
    exact u1.trans (u2.trans (u3.trans u4))
  have BQ := Lib.hid B05
  clear hW5 hb5 hr5 hend B05
  go_wp2_with fail
  rw [← HW5.out]
  by_cases hE : T.2.2 = true ∨ T.2.1 ≠ []
  · have hd := dec_bad (b := b) (by rw [← HT.out]; exact hE)
    have HD := Lib.hid hd
    rw [if_pos hE] at HEND
    have qr := Q5.out
    obtain ⟨u0, u1, u2, u3, u4, u5, u6, u7, u8, u9⟩ := obj_cells qr
    have f0 := obj_fz qr
    clear hd hE
    refine HEND.out.mono ?_
    rintro e w6 ⟨rfl, rfl⟩
    go_wp2_with fail
    have g0 : (World.setCell w6 ⟨q, 0, none⟩ (.int .i64 0)).heap[q]? = some (.cells #[.int .i64 0, .slice none 0 0, .slice none 0 0, .string ⟨#[]⟩, .slice none 0 0, .string ⟨#[]⟩, .string ⟨#[]⟩, .string ⟨#[]⟩, .int .i64 0, .string ⟨#[]⟩] 33 (0, 0)) := heap_setCell_same _ q 0 _ _ _ qr
    have g1 : (World.setCell (World.setCell w6 ⟨q, 0, none⟩ (.int .i64 0)) ⟨q, 1, none⟩ (.slice none 0 0)).heap[q]? = some (.cells #[.int .i64 0, .slice none 0 0, .slice none 0 0, .string ⟨#[]⟩, .slice none 0 0, .string ⟨#[]⟩, .string ⟨#[]⟩, .string ⟨#[]⟩, .int .i64 0, .string ⟨#[]⟩] 33 (0, 0)) := heap_setCell_same _ q 1 _ _ _ g0
    have g2 : (World.setCell (World.setCell (World.setCell w6 ⟨q, 0, none⟩ (.int .i64 0)) ⟨q, 1, none⟩ (.slice none 0 0)) ⟨q, 2, none⟩ (.slice none 0 0)).heap[q]? = some (.cells #[.int .i64 0, .slice none 0 0, .slice none 0 0, .string ⟨#[]⟩, .slice none 0 0, .string ⟨#[]⟩, .string ⟨#[]⟩, .string ⟨#[]⟩, .int .i64 0, .string ⟨#[]⟩] 33 (0, 0)) := heap_setCell_same _ q 2 _ _ _ g1
    have g3 : (World.setCell (World.setCell (World.setCell (World.setCell w6 ⟨q, 0, none⟩ (.int .i64 0)) ⟨q, 1, none⟩ (.slice none 0 0)) ⟨q, 2, none⟩ (.slice none 0 0)) ⟨q, 3, none⟩ (.string ⟨#[]⟩)).heap[q]? = some (.cells #[.int .i64 0, .slice none 0 0, .slice none 0 0, .string ⟨#[]⟩, .slice none 0 0, .string ⟨#[]⟩, .string ⟨#[]⟩, .string ⟨#[]⟩, .int .i64 0, .string ⟨#[]⟩] 33 (0, 0)) := heap_setCell_same _ q 3 _ _ _ g2
    have g4 : (World.setCell (World.setCell (World.setCell (World.setCell (World.setCell w6 ⟨q, 0, none⟩ (.int .i64 0)) ⟨q, 1, none⟩ (.slice none 0 0)) ⟨q, 2, none⟩ (.slice none 0 0)) ⟨q, 3, none⟩ (.string ⟨#[]⟩)) ⟨q, 4, none⟩ (.slice none 0 0)).heap[q]? = some (.cells #[.int .i64 0, .slice none 0 0, .slice none 0 0, .string ⟨#[]⟩, .slice none 0 0, .string ⟨#[]⟩, .string ⟨#[]⟩, .string ⟨#[]⟩, .int .i64 0, .string ⟨#[]⟩] 33 (0, 0)) := heap_setCell_same _ q 4 _ _ _ g3
    have g5 : (World.setCell (World.setCell (World.setCell (World.setCell (World.setCell (World.setCell w6 ⟨q, 0, none⟩ (.int .i64 0)) ⟨q, 1, none⟩ (.slice none 0 0)) ⟨q, 2, none⟩ (.slice none 0 0)) ⟨q, 3, none⟩ (.string ⟨#[]⟩)) ⟨q, 4, none⟩ (.slice none 0 0)) ⟨q, 5, none⟩ (.string ⟨#[]⟩)).heap[q]? = some (.cells #[.int .i64 0, .slice none 0 0, .slice none 0 0, .string ⟨#[]⟩, .slice none 0 0, .string ⟨#[]⟩, .string ⟨#[]⟩, .string ⟨#[]⟩, .int .i64 0, .string ⟨#[]⟩] 33 (0, 0)) := heap_setCell_same _ q 5 _ _ _ g4
    have g6 : (World.setCell (World.setCell (World.setCell (World.setCell (World.setCell (World.setCell (World.setCell w6 ⟨q, 0, none⟩ (.int .i64 0)) ⟨q, 1, none⟩ (.slice none 0 0)) ⟨q, 2, none⟩ (.slice none 0 0)) ⟨q, 3, none⟩ (.string ⟨#[]⟩)) ⟨q, 4, none⟩ (.slice none 0 0)) ⟨q, 5, none⟩ (.string ⟨#[]⟩)) ⟨q, 6, none⟩ (.string ⟨#[]⟩)).heap[q]? = some (.cells #[.int .i64 0, .slice none 0 0, .slice none 0 0, .string ⟨#[]⟩, .slice none 0 0, .string ⟨#[]⟩, .string ⟨#[]⟩, .string ⟨#[]⟩, .int .i64 0, .string ⟨#[]⟩] 33 (0, 0)) := heap_setCell_same _ q 6 _ _ _ g5
    have g7 : (World.setCell (World.setCell (World.setCell (World.setCell (World.setCell (World.setCell (World.setCell (World.setCell w6 ⟨q, 0, none⟩ (.int .i64 0)) ⟨q, 1, none⟩ (.slice none 0 0)) ⟨q, 2, none⟩ (.slice none 0 0)) ⟨q, 3, none⟩ (.string ⟨#[]⟩)) ⟨q, 4, none⟩ (.slice none 0 0)) ⟨q, 5, none⟩ (.string ⟨#[]⟩)) ⟨q, 6, none⟩ (.string ⟨#[]⟩)) ⟨q, 7, none⟩ (.string ⟨#[]⟩)).heap[q]? = some (.cells #[.int .i64 0, .slice none 0 0, .slice none 0 0, .string ⟨#[]⟩, .slice none 0 0, .string ⟨#[]⟩, .string ⟨#[]⟩, .string ⟨#[]⟩, .int .i64 0, .string ⟨#[]⟩] 33 (0, 0)) := heap_setCell_same _ q 7 _ _ _ g6
    have g8 : (World.setCell (World.setCell (World.setCell (World.setCell (World.setCell (World.setCell (World.setCell (World.setCell (World.setCell w6 ⟨q, 0, none⟩ (.int .i64 0)) ⟨q, 1, none⟩ (.slice none 0 0)) ⟨q, 2, none⟩ (.slice none 0 0)) ⟨q, 3, none⟩ (.string ⟨#[]⟩)) ⟨q, 4, none⟩ (.slice none 0 0)) ⟨q, 5, none⟩ (.string ⟨#[]⟩)) ⟨q, 6, none⟩ (.string ⟨#[]⟩)) ⟨q, 7, none⟩ (.string ⟨#[]⟩)) ⟨q, 8, none⟩ (.int .i64 0)).heap[q]? = some (.cells #[.int .i64 0, .slice none 0 0, .slice none 0 0, .string ⟨#[]⟩, .slice none 0 0, .string ⟨#[]⟩, .string ⟨#[]⟩, .string ⟨#[]⟩, .int .i64 0, .string ⟨#[]⟩] 33 (0, 0)) := heap_setCell_same _ q 8 _ _ _ g7
    have g9 : (World.setCell (World.setCell (World.setCell (World.setCell (World.setCell (World.setCell (World.setCell (World.setCell (World.setCell (World.setCell w6 ⟨q, 0, none⟩ (.int .i64 0)) ⟨q, 1, none⟩ (.slice none 0 0)) ⟨q, 2, none⟩ (.slice none 0 0)) ⟨q, 3, none⟩ (.string ⟨#[]⟩)) ⟨q, 4, none⟩ (.slice none 0 0)) ⟨q, 5, none⟩ (.string ⟨#[]⟩)) ⟨q, 6, none⟩ (.string ⟨#[]⟩)) ⟨q, 7, none⟩ (.string ⟨#[]⟩)) ⟨q, 8, none⟩ (.int .i64 0)) ⟨q, 9, none⟩ (.string ⟨#[]⟩)).heap[q]? = some (.cells #[.int .i64 0, .slice none 0 0, .slice none 0 0, .string ⟨#[]⟩, .slice none 0 0, .string ⟨#[]⟩, .string ⟨#[]⟩, .string ⟨#[]⟩, .int .i64 0, .string ⟨#[]⟩] 33 (0, 0)) := heap_setCell_same _ q 9 _ _ _ g8
    have gt : Turn (fun k => k = q) w6 (World.setCell (World.setCell (World.setCell (World.setCell (World.setCell (World.setCell (World.setCell (World.setCell (World.setCell (World.setCell w6 ⟨q, 0, none⟩ (.int .i64 0)) ⟨q, 1, none⟩ (.slice none 0 0)) ⟨q, 2, none⟩ (.slice none 0 0)) ⟨q, 3, none⟩ (.string ⟨#[]⟩)) ⟨q, 4, none⟩ (.slice none 0 0)) ⟨q, 5, none⟩ (.string ⟨#[]⟩)) ⟨q, 6, none⟩ (.string ⟨#[]⟩)) ⟨q, 7, none⟩ (.string ⟨#[]⟩)) ⟨q, 8, none⟩ (.int .i64 0)) ⟨q, 9, none⟩ (.string ⟨#[]⟩)) := (((((((((((turn_rw q 0 w6 _)).trans (turn_rw q 1 _ _)).trans (turn_rw q 2 _ _)).trans (turn_rw q 3 _ _)).trans (turn_rw q 4 _ _)).trans (turn_rw q 5 _ _)).trans (turn_rw q 6 _ _)).trans (turn_rw q 7 _ _)).trans (turn_rw q 8 _ _)).trans (turn_rw q 9 _ _))
    have hld := run_loadVar_row (P := Tryz.prog) _ q 33 33 #[.int .i64 0, .slice none 0 0, .slice none 0 0, .string ⟨#[]⟩, .slice none 0 0, .string ⟨#[]⟩, .string ⟨#[]⟩, .string ⟨#[]⟩, .int .i64 0, .string ⟨#[]⟩] (0, 0) _ g9 Tryz.underlying33 rfl (by kernel_rfl)
    have BQz := BQ.out.trans (gt.below (Nat.le_of_lt (Array.getElem?_eq_some_iff.1 qr).1) (fun k e => Nat.le_of_eq e.symm))
    refine bodyPost_ret (v := .tuple #[.agg #[.int .i64 0, .slice none 0 0, .slice none 0 0, .string ⟨#[]⟩, .slice none 0 0, .string ⟨#[]⟩, .string ⟨#[]⟩, .string ⟨#[]⟩, .int .i64 0, .string ⟨#[]⟩], .int .i64 2]) ?_ rfl ?_
    · rw [results_cell_tmp rfl]
      simp [asAddr, Result.andThen, hld]
    · refine ⟨by rw [← HQW.out]; exact BQz, ?_⟩
      rw [HD.out]
      rfl
  · have HEQ := Lib.hid hE
    rw [if_neg hE] at HEND
    clear hE
    cases hok : okO o with
    | false =>
      have hd := dec_not (b := b) (by rw [← HT.out, ← HO.out]; exact hok)
      have HD := Lib.hid hd
      have herr : errO o = 1 := by unfold errO; rw [hok]; rfl
      rw [herr] at HCK
      clear hd hok herr
      refine HEND.out.mono ?_
      rintro e w6 ⟨rfl, rfl⟩
      go_wp2_with (go_at_call 67; refine (HCK.out _ B35.out).mono ?_; rintro e w7 ⟨rfl, b7⟩; have B7 := Lib.hid b7; have qr := below_turn b7 Q5.out; obtain ⟨u0, u1, u2, u3, u4, u5, u6, u7, u8, u9⟩ := obj_cells qr; have f0 := obj_fz qr; clear b7)
      have g0 : (World.setCell w7 ⟨q, 0, none⟩ (.int .i64 0)).heap[q]? = some (.cells #[.int .i64 0, .slice none 0 0, .slice none 0 0, .string ⟨#[]⟩, .slice none 0 0, .string ⟨#[]⟩, .string ⟨#[]⟩, .string ⟨#[]⟩, .int .i64 0, .string ⟨#[]⟩] 33 (0, 0)) := heap_setCell_same _ q 0 _ _ _ qr
      have g1 : (World.setCell (World.setCell w7 ⟨q, 0, none⟩ (.int .i64 0)) ⟨q, 1, none⟩ (.slice none 0 0)).heap[q]? = some (.cells #[.int .i64 0, .slice none 0 0, .slice none 0 0, .string ⟨#[]⟩, .slice none 0 0, .string ⟨#[]⟩, .string ⟨#[]⟩, .string ⟨#[]⟩, .int .i64 0, .string ⟨#[]⟩] 33 (0, 0)) := heap_setCell_same _ q 1 _ _ _ g0
      have g2 : (World.setCell (World.setCell (World.setCell w7 ⟨q, 0, none⟩ (.int .i64 0)) ⟨q, 1, none⟩ (.slice none 0 0)) ⟨q, 2, none⟩ (.slice none 0 0)).heap[q]? = some (.cells #[.int .i64 0, .slice none 0 0, .slice none 0 0, .string ⟨#[]⟩, .slice none 0 0, .string ⟨#[]⟩, .string ⟨#[]⟩, .string ⟨#[]⟩, .int .i64 0, .string ⟨#[]⟩] 33 (0, 0)) := heap_setCell_same _ q 2 _ _ _ g1
      have g3 : (World.setCell (World.setCell (World.setCell (World.setCell w7 ⟨q, 0, none⟩ (.int .i64 0)) ⟨q, 1, none⟩ (.slice none 0 0)) ⟨q, 2, none⟩ (.slice none 0 0)) ⟨q, 3, none⟩ (.string ⟨#[]⟩)).heap[q]? = some (.cells #[.int .i64 0, .slice none 0 0, .slice none 0 0, .string ⟨#[]⟩, .slice none 0 0, .string ⟨#[]⟩, .string ⟨#[]⟩, .string ⟨#[]⟩, .int .i64 0, .string ⟨#[]⟩] 33 (0, 0)) := heap_setCell_same _ q 3 _ _ _ g2
      have g4 : (World.setCell (World.setCell (World.setCell (World.setCell (World.setCell w7 ⟨q, 0, none⟩ (.int .i64 0)) ⟨q, 1, none⟩ (.slice none 0 0)) ⟨q, 2, none⟩ (.slice none 0 0)) ⟨q, 3, none⟩ (.string ⟨#[]⟩)) ⟨q, 4, none⟩ (.slice none 0 0)).heap[q]? = some (.cells #[.int .i64 0, .slice none 0 0, .slice none 0 0, .string ⟨#[]⟩, .slice none 0 0, .string ⟨#[]⟩, .string ⟨#[]⟩, .string ⟨#[]⟩, .int .i64 0, .string ⟨#[]⟩] 33 (0, 0)) := heap_setCell_same _ q 4 _ _ _ g3
      have g5 : (World.setCell (World.setCell (World.setCell (World.setCell (World.setCell (World.setCell w7 ⟨q, 0, none⟩ (.int .i64 0)) ⟨q, 1, none⟩ (.slice none 0 0)) ⟨q, 2, none⟩ (.slice none 0 0)) ⟨q, 3, none⟩ (.string ⟨#[]⟩)) ⟨q, 4, none⟩ (.slice none 0 0)) ⟨q, 5, none⟩ (.string ⟨#[]⟩)).heap[q]? = some (.cells #[.int .i64 0, .slice none 0 0, .slice none 0 0, .string ⟨#[]⟩, .slice none 0 0, .string ⟨#[]⟩, .string ⟨#[]⟩, .string ⟨#[]⟩, .int .i64 0, .string ⟨#[]⟩] 33 (0, 0)) := heap_setCell_same _ q 5 _ _ _ g4
      have g6 : (World.setCell (World.setCell (World.setCell (World.setCell (World.setCell (World.setCell (World.setCell w7 ⟨q, 0, none⟩ (.int .i64 0)) ⟨q, 1, none⟩ (.slice none 0 0)) ⟨q, 2, none⟩ (.slice none 0 0)) ⟨q, 3, none⟩ (.string ⟨#[]⟩)) ⟨q, 4, none⟩ (.slice none 0 0)) ⟨q, 5, none⟩ (.string ⟨#[]⟩)) ⟨q, 6, none⟩ (.string ⟨#[]⟩)).heap[q]? = some (.cells #[.int .i64 0, .slice none 0 0, .slice none 0 0, .string ⟨#[]⟩, .slice none 0 0, .string ⟨#[]⟩, .string ⟨#[]⟩, .string ⟨#[]⟩, .int .i64 0, .string ⟨#[]⟩] 33 (0, 0)) := heap_setCell_same _ q 6 _ _ _ g5
      have g7 : (World.setCell (World.setCell (World.setCell (World.setCell (World.setCell (World.setCell (World.setCell (World.setCell w7 ⟨q, 0, none⟩ (.int .i64 0)) ⟨q, 1, none⟩ (.slice none 0 0)) ⟨q, 2, none⟩ (.slice none 0 0)) ⟨q, 3, none⟩ (.string ⟨#[]⟩)) ⟨q, 4, none⟩ (.slice none 0 0)) ⟨q, 5, none⟩ (.string ⟨#[]⟩)) ⟨q, 6, none⟩ (.string ⟨#[]⟩)) ⟨q, 7, none⟩ (.string ⟨#[]⟩)).heap[q]? = some (.cells #[.int .i64 0, .slice none 0 0, .slice none 0 0, .string ⟨#[]⟩, .slice none 0 0, .string ⟨#[]⟩, .string ⟨#[]⟩, .string ⟨#[]⟩, .int .i64 0, .string ⟨#[]⟩] 33 (0, 0)) := heap_setCell_same _ q 7 _ _ _ g6
      have g8 : (World.setCell (World.setCell (World.setCell (World.setCell (World.setCell (World.setCell (World.setCell (World.setCell (World.setCell w7 ⟨q, 0, none⟩ (.int .i64 0)) ⟨q, 1, none⟩ (.slice none 0 0)) ⟨q, 2, none⟩ (.slice none 0 0)) ⟨q, 3, none⟩ (.string ⟨#[]⟩)) ⟨q, 4, none⟩ (.slice none 0 0)) ⟨q, 5, none⟩ (.string ⟨#[]⟩)) ⟨q, 6, none⟩ (.string ⟨#[]⟩)) ⟨q, 7, none⟩ (.string ⟨#[]⟩)) ⟨q, 8, none⟩ (.int .i64 0)).heap[q]? = some (.cells #[.int .i64 0, .slice none 0 0, .slice none 0 0, .string ⟨#[]⟩, .slice none 0 0, .string ⟨#[]⟩, .string ⟨#[]⟩, .string ⟨#[]⟩, .int .i64 0, .string ⟨#[]⟩] 33 (0, 0)) := heap_setCell_same _ q 8 _ _ _ g7
      have g9 : (World.setCell (World.setCell (World.setCell (World.setCell (World.setCell (World.setCell (World.setCell (World.setCell (World.setCell (World.setCell w7 ⟨q, 0, none⟩ (.int .i64 0)) ⟨q, 1, none⟩ (.slice none 0 0)) ⟨q, 2, none⟩ (.slice none 0 0)) ⟨q, 3, none⟩ (.string ⟨#[]⟩)) ⟨q, 4, none⟩ (.slice none 0 0)) ⟨q, 5, none⟩ (.string ⟨#[]⟩)) ⟨q, 6, none⟩ (.string ⟨#[]⟩)) ⟨q, 7, none⟩ (.string ⟨#[]⟩)) ⟨q, 8, none⟩ (.int .i64 0)) ⟨q, 9, none⟩ (.string ⟨#[]⟩)).heap[q]? = some (.cells #[.int .i64 0, .slice none 0 0, .slice none 0 0, .string ⟨#[]⟩, .slice none 0 0, .string ⟨#[]⟩, .string ⟨#[]⟩, .string ⟨#[]⟩, .int .i64 0, .string ⟨#[]⟩] 33 (0, 0)) := heap_setCell_same _ q 9 _ _ _ g8
      have gt : Turn (fun k => k = q) w7 (World.setCell (World.setCell (World.setCell (World.setCell (World.setCell (World.setCell (World.setCell (World.setCell (World.setCell (World.setCell w7 ⟨q, 0, none⟩ (.int .i64 0)) ⟨q, 1, none⟩ (.slice none 0 0)) ⟨q, 2, none⟩ (.slice none 0 0)) ⟨q, 3, none⟩ (.string ⟨#[]⟩)) ⟨q, 4, none⟩ (.slice none 0 0)) ⟨q, 5, none⟩ (.string ⟨#[]⟩)) ⟨q, 6, none⟩ (.string ⟨#[]⟩)) ⟨q, 7, none⟩ (.string ⟨#[]⟩)) ⟨q, 8, none⟩ (.int .i64 0)) ⟨q, 9, none⟩ (.string ⟨#[]⟩)) := (((((((((((turn_rw q 0 w7 _)).trans (turn_rw q 1 _ _)).trans (turn_rw q 2 _ _)).trans (turn_rw q 3 _ _)).trans (turn_rw q 4 _ _)).trans (turn_rw q 5 _ _)).trans (turn_rw q 6 _ _)).trans (turn_rw q 7 _ _)).trans (turn_rw q 8 _ _)).trans (turn_rw q 9 _ _))
      have hld := run_loadVar_row (P := Tryz.prog) _ q 33 33 #[.int .i64 0, .slice none 0 0, .slice none 0 0, .string ⟨#[]⟩, .slice none 0 0, .string ⟨#[]⟩, .string ⟨#[]⟩, .string ⟨#[]⟩, .int .i64 0, .string ⟨#[]⟩] (0, 0) _ g9 Tryz.underlying33 rfl (by kernel_rfl)
      have BQz := ((BQ.out.trans (B7.out.mono (Nat.le_of_lt (Array.getElem?_eq_some_iff.1 Q5.out).1))).trans (gt.below (Nat.le_of_lt (Array.getElem?_eq_some_iff.1 qr).1) (fun k e => Nat.le_of_eq e.symm)))
      refine bodyPost_ret (v := .tuple #[.agg #[.int .i64 0, .slice none 0 0, .slice none 0 0, .string ⟨#[]⟩, .slice none 0 0, .string ⟨#[]⟩, .string ⟨#[]⟩, .string ⟨#[]⟩, .int .i64 0, .string ⟨#[]⟩], .int .i64 2]) ?_ rfl ?_
      · rw [results_cell_tmp rfl]
        simp [asAddr, Result.andThen, hld]
      · refine ⟨by rw [← HQW.out]; exact BQz, ?_⟩
        rw [HD.out]
        rfl
    | true =>
      have hd := dec_yes (b := b) (by rw [← HT.out]; exact HEQ.out) (by rw [← HT.out, ← HO.out]; exact hok)
      rw [← HT.out, ← HO.out] at hd
      have HD := Lib.hid hd
      have herr : errO o = 0 := by unfold errO; rw [hok]; rfl
      rw [herr] at HCK
      clear hd hok herr
      refine HEND.out.mono ?_
      rintro e w6 ⟨rfl, rfl⟩
      go_wp2_with (go_at_call 67; refine (HCK.out _ B35.out).mono ?_; rintro e w7 ⟨rfl, b7⟩; have B7 := Lib.hid b7; have qr := below_turn b7 Q5.out; obtain ⟨u0, u1, u2, u3, u4, u5, u6, u7, u8, u9⟩ := obj_cells qr; have f0 := obj_fz qr; obtain ⟨s0, s1, s2, s3, s4, s5, s6, s7, s8, s9⟩ := obj_cells (below_turn b7 S5.out); clear b7)
      have g0 : (World.setCell w7 ⟨q, 0, none⟩ (.int .i64 K)).heap[q]? = some (.cells #[.int .i64 K, .slice none 0 0, .slice none 0 0, .string ⟨#[]⟩, .slice none 0 0, .string ⟨#[]⟩, .string ⟨#[]⟩, .string ⟨#[]⟩, .int .i64 0, .string ⟨#[]⟩] 33 (0, 0)) := heap_setCell_same _ q 0 _ _ _ qr
      have g1 : (World.setCell (World.setCell w7 ⟨q, 0, none⟩ (.int .i64 K)) ⟨q, 1, none⟩ (.slice a1 n1 c1)).heap[q]? = some (.cells #[.int .i64 K, .slice a1 n1 c1, .slice none 0 0, .string ⟨#[]⟩, .slice none 0 0, .string ⟨#[]⟩, .string ⟨#[]⟩, .string ⟨#[]⟩, .int .i64 0, .string ⟨#[]⟩] 33 (0, 0)) := heap_setCell_same _ q 1 _ _ _ g0
      have g2 : (World.setCell (World.setCell (World.setCell w7 ⟨q, 0, none⟩ (.int .i64 K)) ⟨q, 1, none⟩ (.slice a1 n1 c1)) ⟨q, 2, none⟩ (.slice a2 n2 c2)).heap[q]? = some (.cells #[.int .i64 K, .slice a1 n1 c1, .slice a2 n2 c2, .string ⟨#[]⟩, .slice none 0 0, .string ⟨#[]⟩, .string ⟨#[]⟩, .string ⟨#[]⟩, .int .i64 0, .string ⟨#[]⟩] 33 (0, 0)) := heap_setCell_same _ q 2 _ _ _ g1
      have g3 : (World.setCell (World.setCell (World.setCell (World.setCell w7 ⟨q, 0, none⟩ (.int .i64 K)) ⟨q, 1, none⟩ (.slice a1 n1 c1)) ⟨q, 2, none⟩ (.slice a2 n2 c2)) ⟨q, 3, none⟩ (.string (SL o.tree))).heap[q]? = some (.cells #[.int .i64 K, .slice a1 n1 c1, .slice a2 n2 c2, .string (SL o.tree), .slice none 0 0, .string ⟨#[]⟩, .string ⟨#[]⟩, .string ⟨#[]⟩, .int .i64 0, .string ⟨#[]⟩] 33 (0, 0)) := heap_setCell_same _ q 3 _ _ _ g2
      have g4 : (World.setCell (World.setCell (World.setCell (World.setCell (World.setCell w7 ⟨q, 0, none⟩ (.int .i64 K)) ⟨q, 1, none⟩ (.slice a1 n1 c1)) ⟨q, 2, none⟩ (.slice a2 n2 c2)) ⟨q, 3, none⟩ (.string (SL o.tree))) ⟨q, 4, none⟩ (.slice a3 n3 c3)).heap[q]? = some (.cells #[.int .i64 K, .slice a1 n1 c1, .slice a2 n2 c2, .string (SL o.tree), .slice a3 n3 c3, .string ⟨#[]⟩, .string ⟨#[]⟩, .string ⟨#[]⟩, .int .i64 0, .string ⟨#[]⟩] 33 (0, 0)) := heap_setCell_same _ q 4 _ _ _ g3
      have g5 : (World.setCell (World.setCell (World.setCell (World.setCell (World.setCell (World.setCell w7 ⟨q, 0, none⟩ (.int .i64 K)) ⟨q, 1, none⟩ (.slice a1 n1 c1)) ⟨q, 2, none⟩ (.slice a2 n2 c2)) ⟨q, 3, none⟩ (.string (SL o.tree))) ⟨q, 4, none⟩ (.slice a3 n3 c3)) ⟨q, 5, none⟩ (.string (SL o.target))).heap[q]? = some (.cells #[.int .i64 K, .slice a1 n1 c1, .slice a2 n2 c2, .string (SL o.tree), .slice a3 n3 c3, .string (SL o.target), .string ⟨#[]⟩, .string ⟨#[]⟩, .int .i64 0, .string ⟨#[]⟩] 33 (0, 0)) := heap_setCell_same _ q 5 _ _ _ g4
      have g6 : (World.setCell (World.setCell (World.setCell (World.setCell (World.setCell (World.setCell (World.setCell w7 ⟨q, 0, none⟩ (.int .i64 K)) ⟨q, 1, none⟩ (.slice a1 n1 c1)) ⟨q, 2, none⟩ (.slice a2 n2 c2)) ⟨q, 3, none⟩ (.string (SL o.tree))) ⟨q, 4, none⟩ (.slice a3 n3 c3)) ⟨q, 5, none⟩ (.string (SL o.target))) ⟨q, 6, none⟩ (.string (SL o.name))).heap[q]? = some (.cells #[.int .i64 K, .slice a1 n1 c1, .slice a2 n2 c2, .string (SL o.tree), .slice a3 n3 c3, .string (SL o.target), .string (SL o.name), .string ⟨#[]⟩, .int .i64 0, .string ⟨#[]⟩] 33 (0, 0)) := heap_setCell_same _ q 6 _ _ _ g5
      have g7 : (World.setCell (World.setCell (World.setCell (World.setCell (World.setCell (World.setCell (World.setCell (World.setCell w7 ⟨q, 0, none⟩ (.int .i64 K)) ⟨q, 1, none⟩ (.slice a1 n1 c1)) ⟨q, 2, none⟩ (.slice a2 n2 c2)) ⟨q, 3, none⟩ (.string (SL o.tree))) ⟨q, 4, none⟩ (.slice a3 n3 c3)) ⟨q, 5, none⟩ (.string (SL o.target))) ⟨q, 6, none⟩ (.string (SL o.name))) ⟨q, 7, none⟩ (.string (SL o.who))).heap[q]? = some (.cells #[.int .i64 K, .slice a1 n1 c1, .slice a2 n2 c2, .string (SL o.tree), .slice a3 n3 c3, .string (SL o.target), .string (SL o.name), .string (SL o.who), .int .i64 0, .string ⟨#[]⟩] 33 (0, 0)) := heap_setCell_same _ q 7 _ _ _ g6
      have g8 : (World.setCell (World.setCell (World.setCell (World.setCell (World.setCell (World.setCell (World.setCell (World.setCell (World.setCell w7 ⟨q, 0, none⟩ (.int .i64 K)) ⟨q, 1, none⟩ (.slice a1 n1 c1)) ⟨q, 2, none⟩ (.slice a2 n2 c2)) ⟨q, 3, none⟩ (.string (SL o.tree))) ⟨q, 4, none⟩ (.slice a3 n3 c3)) ⟨q, 5, none⟩ (.string (SL o.target))) ⟨q, 6, none⟩ (.string (SL o.name))) ⟨q, 7, none⟩ (.string (SL o.who))) ⟨q, 8, none⟩ (.int .i64 z)).heap[q]? = some (.cells #[.int .i64 K, .slice a1 n1 c1, .slice a2 n2 c2, .string (SL o.tree), .slice a3 n3 c3, .string (SL o.target), .string (SL o.name), .string (SL o.who), .int .i64 z, .string ⟨#[]⟩] 33 (0, 0)) := heap_setCell_same _ q 8 _ _ _ g7
      have g9 : (World.setCell (World.setCell (World.setCell (World.setCell (World.setCell (World.setCell (World.setCell (World.setCell (World.setCell (World.setCell w7 ⟨q, 0, none⟩ (.int .i64 K)) ⟨q, 1, none⟩ (.slice a1 n1 c1)) ⟨q, 2, none⟩ (.slice a2 n2 c2)) ⟨q, 3, none⟩ (.string (SL o.tree))) ⟨q, 4, none⟩ (.slice a3 n3 c3)) ⟨q, 5, none⟩ (.string (SL o.target))) ⟨q, 6, none⟩ (.string (SL o.name))) ⟨q, 7, none⟩ (.string (SL o.who))) ⟨q, 8, none⟩ (.int .i64 z)) ⟨q, 9, none⟩ (.string (SL o.text))).heap[q]? = some (.cells #[.int .i64 K, .slice a1 n1 c1, .slice a2 n2 c2, .string (SL o.tree), .slice a3 n3 c3, .string (SL o.target), .string (SL o.name), .string (SL o.who), .int .i64 z, .string (SL o.text)] 33 (0, 0)) := heap_setCell_same _ q 9 _ _ _ g8
      have gt : Turn (fun k => k = q) w7 (World.setCell (World.setCell (World.setCell (World.setCell (World.setCell (World.setCell (World.setCell (World.setCell (World.setCell (World.setCell w7 ⟨q, 0, none⟩ (.int .i64 K)) ⟨q, 1, none⟩ (.slice a1 n1 c1)) ⟨q, 2, none⟩ (.slice a2 n2 c2)) ⟨q, 3, none⟩ (.string (SL o.tree))) ⟨q, 4, none⟩ (.slice a3 n3 c3)) ⟨q, 5, none⟩ (.string (SL o.target))) ⟨q, 6, none⟩ (.string (SL o.name))) ⟨q, 7, none⟩ (.string (SL o.who))) ⟨q, 8, none⟩ (.int .i64 z)) ⟨q, 9, none⟩ (.string (SL o.text))) := (((((((((((turn_rw q 0 w7 _)).trans (turn_rw q 1 _ _)).trans (turn_rw q 2 _ _)).trans (turn_rw q 3 _ _)).trans (turn_rw q 4 _ _)).trans (turn_rw q 5 _ _)).trans (turn_rw q 6 _ _)).trans (turn_rw q 7 _ _)).trans (turn_rw q 8 _ _)).trans (turn_rw q 9 _ _))
      have hld := run_loadVar_row (P := Tryz.prog) _ q 33 33 #[.int .i64 K, .slice a1 n1 c1, .slice a2 n2 c2, .string (SL o.tree), .slice a3 n3 c3, .string (SL o.target), .string (SL o.name), .string (SL o.who), .int .i64 z, .string (SL o.text)] (0, 0) _ g9 Tryz.underlying33 rfl (by kernel_rfl)
      have BQz := ((BQ.out.trans (B7.out.mono (Nat.le_of_lt (Array.getElem?_eq_some_iff.1 Q5.out).1))).trans (gt.below (Nat.le_of_lt (Array.getElem?_eq_some_iff.1 qr).1) (fun k e => Nat.le_of_eq e.symm)))
      refine bodyPost_ret (v := .tuple #[.agg #[.int .i64 K, .slice a1 n1 c1, .slice a2 n2 c2, .string (SL o.tree), .slice a3 n3 c3, .string (SL o.target), .string (SL o.name), .string (SL o.who), .int .i64 z, .string (SL o.text)], .int .i64 0]) ?_ rfl ?_
      · rw [results_cell_tmp rfl]
        simp [asAddr, Result.andThen, hld]
      · refine ⟨by rw [← HQW.out]; exact BQz, ?_⟩
        rw [HD.out]
        exact ⟨_, _, _, by rw [HOV.out], (I3.out.turn ((Turn.of_below (fun k => k = q) B35.out).trans ((Turn.of_below _ B7.out).trans gt)) (fun k hk e => by have h1 := HQ.out; have h2 : x < k := hk; have h3 : k = q := e; omega)).mono (fun k _ hk => by have h1 := HQ.out; have h2 : x < k := hk; have h3 := HQW.out; omega)⟩
end Go.Proofs.YtomgijcbekjlaaaGreat
