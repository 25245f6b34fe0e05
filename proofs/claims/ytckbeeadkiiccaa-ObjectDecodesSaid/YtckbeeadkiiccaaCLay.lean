/- package row: a number and a text laid behind a row of bytes of the call's own, in place. The program's lay of a blob's, a note's, a tag's body. The program's lay of a tree's, a commit's, a tag's body. The program's lay of a commit's, a tag's body. -/
import Derived.Test.YtckbeeadkiiccaaCCode
import Derived.Test.YtckbeeadkiiccaaCMay
import Derived.Test.YtckbeeadkiiccaaCRefC
import Derived.Deep.RegionHeld3
namespace Go.Proofs.Ytckbeeadkiiccaa
open Go.RowKit
/-- Below base nothing has turned, and above it nothing but rows of bytes. -/
structure OutTurned (base : Nat) (w w' : World) : Prop where
  below : Below base w w'
  other : ∀ (k : Nat) (o : Obj), w.heap[k]? = some o → (∀ cs fr, o ≠ Obj.cells cs 5 fr) → w'.heap[k]? = some o
theorem OutTurned.refl (base : Nat) (w : World) : OutTurned base w w := ⟨Below.refl _ _, fun _ _ h _ => h⟩
theorem OutTurned.trans {base : Nat} {a b c : World} (h : OutTurned base a b) (k : OutTurned base b c) : OutTurned base a c :=
  ⟨h.below.trans k.below, fun i o h1 h2 => k.other i o (h.other i o h1 h2) h2⟩
theorem OutTurned.of_below {base : Nat} {w w' : World} (hb : base ≤ w.heap.size) (h : Below w.heap.size w w') : OutTurned base w w' :=
  ⟨h.mono hb, fun _ _ h1 _ => below_heap h h1⟩
theorem OutTurned.of_grown {base n : Nat} {v : Value} {xs : List Value} {w w' : World} (hb : base ≤ w.heap.size) (h : w.ownsRow base 5 1 v n xs) (hg : w.grownBy w' v.ownBlock) : OutTurned base w w' := by
  rcases h.2 with ⟨rfl, _⟩ | ⟨g, cap, cur, rfl, h2, h3, _⟩
  · exact ⟨⟨hg.os, hg.tape, hg.output, hg.size, fun k hk => hg.block k (by omega) (fun e => by cases e)⟩, fun k o h1 _ => (hg.block k (Array.getElem?_eq_some_iff.1 h1).1 (fun e => by cases e)).trans h1⟩
  · refine ⟨⟨hg.os, hg.tape, hg.output, hg.size, fun k hk => hg.block k (by omega) (fun e => ?_)⟩, fun k o h1 h4 => (hg.block k (Array.getElem?_eq_some_iff.1 h1).1 (fun e => ?_)).trans h1⟩
    · have e2 : k = g := Option.some.inj e
      omega
    · have e2 : k = g := Option.some.inj e
      rw [e2, h3] at h1
      exact h4 _ _ (Option.some.inj h1).symm
/-- A slice of old is what it was. -/
theorem SrcAt.keep {w w' : World} {ao : Option Addr} {cap : Nat} {bs : List UInt8} {B off base : Nat} (h : SrcAt w ao cap bs B off) (hB : 0 < bs.length → B < base) (hb : Below base w w') : SrcAt w' ao cap bs B off :=
  ⟨h.le, h.top, h.src, h.bare, fun hp => Nat.lt_of_lt_of_le (h.old hp) hb.size, fun j hj => (hb.cell (hB (by omega))).trans (h.cell j hj)⟩
/-- What the three leave: a slice of the call's own with these bytes. -/
def PutTo (base : Nat) (w : World) (l : List UInt8) (e : Ending) (w' : World) : Prop :=
  ∃ v, e = .returned v ∧ w'.ownsRow base 5 1 v l.length (l.map B8) ∧ OutTurned base w w'
set_option maxRecDepth 100000 in
set_option maxHeartbeats 800000 in
theorem rowPutNumTo (base : Nat) (v : Value) (O : List UInt8) (z : Int) (w : World) (hb : base ≤ w.heap.size) (h : w.ownsRow base 5 1 v O.length (O.map B8)) (hs : O.length + 9 ≤ 225000000000000) :
    Calls Try.prog 109 #[v, .int .i64 z] w (PutTo base w (O ++ numL (clampN z))) := by
  have hl := numL_le (clampN z)
  obtain ⟨L, hL⟩ : ∃ L, L = numL (clampN z) := ⟨_, rfl⟩
  have hg : Calls Try.prog 112 #[.slice none 0 0, .int .i64 z] w fun e w' => ∃ v, e = .returned v ∧ w'.ownsRow w.heap.size 5 1 v L.length (L.map B8) ∧ Below w.heap.size w w' := by
    have h1 := putNum_any none 0 [] 0 0 z w (src_nil w) (by simp)
    rw [List.nil_append, ← hL] at h1
    exact h1
  rw [← hL] at hl ⊢
  obtain ⟨n, hn⟩ : ∃ n, n = O.length := ⟨_, rfl⟩
  rw [← hn] at h hs
  have HN := Lib.hid hn
  have HG := Lib.hid hg
  clear hL hg hn
  go_enter Try.func109, Try.ntmps109
  go_wp2_with fail
  refine HG.out.mono ?_
  rintro e w1 ⟨v1, rfl, o1, b1⟩
  obtain ⟨ao2, cap2, B2, rfl, s2, _⟩ := src_of_own o1
  have h1 := own_below h b1
  have hz := b1.size
  go_wp2_with (at_builtin; refine wpList_append_src rfl _ _ rfl base v n _ rfl h1 ao2 L.length cap2 rfl (L.map B8) (by simp) s2.bare s2.cells (B8_one _) (by omega) (by omega) ?_; intro v3 w3 hown3 hg3 hv3; clear hv3)
  go_ret
  refine ⟨_, rfl, ?_, (OutTurned.of_below hb b1).trans (OutTurned.of_grown (by omega) h1 hg3)⟩
  have h3 := hown3.out
  rw [← List.map_append, HN.out] at h3
  rw [List.length_append]
  exact h3
/-- append of a string's bytes to a row of the call's own. -/
theorem wpList_to_string {ops : Array Oper} {rest : List Oper} {o : Oper} {a : Act} {w : World} {Q : Exit → Act → World → Prop}
    (hgd : o.guard = none) (s y : Operand) (hop : o.op = Op.call { callee := Callee.builtin Builtin.append, args := #[s, y], argTypes := #[22, 9] })
    (base : Nat) (v : Value) (O : List UInt8) (hS : a.eval s = v) (h : w.ownsRow base 5 1 v O.length (O.map B8)) (t : List UInt8) (hX : a.eval y = .string (SL t)) (hb : O.length + t.length ≤ 140737488355328) (hx : base ≤ w.heap.size)
    (hK : ∀ v' w', Hid (w'.ownsRow base 5 1 v' (O ++ t).length ((O ++ t).map B8)) → Hid (OutTurned base w w') → wpList Try.prog ops Q rest (a.put o.dst v') w') : wpList Try.prog ops Q (o :: rest) a w := by
  obtain ⟨i0, hi, hz0, hz1, hz2⟩ := info_parts info5
  have hz := SL_size t
  refine Lib.wpList_append_own_string w hgd s y 22 9 hop base 5 i0 Try.underlying22 Try.underlying9 hi hz0 hz1 hz2 v O.length _ hS h (SL t) hX (by rw [hz]; unfold maxLen; omega) (by rw [hz]; exact hb) hx ?_
  intro v' w' ho hg _
  refine hK v' w' (Lib.hid ?_) (Lib.hid (OutTurned.of_grown hx h hg))
  rw [strCells_B8, hz] at ho
  have e1 : (SL t).data.toList = t := rfl
  rw [e1, ← List.map_append, ← List.length_append] at ho
  exact ho
/-- append of a slice's bytes. -/
theorem wpList_to_bytes {ops : Array Oper} {rest : List Oper} {o : Oper} {a : Act} {w : World} {Q : Exit → Act → World → Prop}
    (hgd : o.guard = none) (s y : Operand) (hop : o.op = Op.call { callee := Callee.builtin Builtin.append, args := #[s, y], argTypes := #[22, 22] })
    (base : Nat) (v : Value) (O : List UInt8) (hS : a.eval s = v) (h : w.ownsRow base 5 1 v O.length (O.map B8)) (ao : Option Addr) (cap B off : Nat) (t : List UInt8) (hu : SrcAt w ao cap t B off) (hX : a.eval y = .slice ao t.length cap) (hb : O.length + t.length ≤ 225000000000000) (hx : base ≤ w.heap.size)
    (hK : ∀ v' w', Hid (w'.ownsRow base 5 1 v' (O ++ t).length ((O ++ t).map B8)) → Hid (OutTurned base w w') → wpList Try.prog ops Q rest (a.put o.dst v') w') : wpList Try.prog ops Q (o :: rest) a w := by
  refine wpList_append_src hgd s y hop base v O.length _ hS h ao t.length cap hX (t.map B8) (by simp) hu.bare hu.cells (B8_one _) hb hx ?_
  intro v' w' ho hg _
  refine hK v' w' (Lib.hid ?_) (Lib.hid (OutTurned.of_grown hx h hg))
  have := ho.out
  rw [← List.map_append, ← List.length_append] at this
  exact this
set_option maxRecDepth 100000 in
set_option maxHeartbeats 800000 in
theorem rowPutTextTo (base : Nat) (v : Value) (O t : List UInt8) (w : World) (hb : base ≤ w.heap.size) (h : w.ownsRow base 5 1 v O.length (O.map B8)) (hs : O.length + 9 + t.length ≤ 140737488355328) :
    Calls Try.prog 110 #[v, .string (SL t)] w (PutTo base w (O ++ (numL t.length ++ t))) := by
  have hsz := SL_size t
  have hl := numL_le t.length
  have hp := rowPutNumTo base v O (t.length : Int) w hb h (by omega)
  rw [clampN_nat _ (by omega)] at hp
  have e0 : O ++ (numL t.length ++ t) = (O ++ numL t.length) ++ t := by rw [List.append_assoc]
  rw [e0]
  have hq : (O ++ numL t.length).length + t.length ≤ 140737488355328 := by rw [List.length_append]; omega
  obtain ⟨n, hn⟩ : ∃ n, n = t.length := ⟨_, rfl⟩
  rw [← hn] at hsz hp hq ⊢
  obtain ⟨O2, hO2⟩ : ∃ O2, O2 = O ++ numL n := ⟨_, rfl⟩
  rw [← hO2] at hp hq ⊢
  have HP := Lib.hid hp
  have HN := Lib.hid hn
  clear hp hn hO2 hl hs h
  go_enter Try.func110, Try.ntmps110
  go_wp2_with (first
    | (go_at_call 109; refine HP.out.mono ?_; rintro e w1 ⟨v1, rfl, o1, t1⟩; have O1 := Lib.hid o1; have T1 := Lib.hid t1; clear o1 t1)
    | (at_builtin; refine wpList_to_string rfl _ _ rfl base _ O2 rfl O1.out t rfl (by rw [← HN.out]; exact hq) (by have := T1.out.below.size; omega) ?_; intro v2 w2 o2 t2))
  go_ret
  exact ⟨_, rfl, o2.out, T1.out.trans t2.out⟩
end Go.Proofs.Ytckbeeadkiiccaa
namespace Go.Proofs.Ytckbeeadkiiccaa
open Go.RowKit
theorem OutTurned.row {base : Nat} {w w' : World} {y : Nat} {cs : Array Value} {T : TypeId} {fz : Nat × Nat} (h : OutTurned base w w') (hr : w.heap[y]? = some (.cells cs T fz)) (hT : T ≠ 5) : w'.heap[y]? = some (.cells cs T fz) :=
  h.other _ _ hr (fun cs' fr e => by injection e with _ e2 _; exact hT e2)
theorem append_blob_run (ty : TypeId) (s x : Value) (w : World) : (Builtin.append_ #[22, 80] ty #[s, x]).run Try.prog w = (Builtin.append_ #[22, 22] ty #[s, x]).run Try.prog w := by
  have h1 : (underlying 80).run Try.prog = (underlying 22).run Try.prog := by
    funext w
    rw [run_underlying Try.underlying80, run_underlying Try.underlying22]
  have h2 : (underlying 22).run Try.prog = fun w => .ok (.slice 5) w := by funext w; rw [run_underlying Try.underlying22]
  unfold Builtin.append_
  cases s with
  | slice b l c => simp only [Sem.run_bind, h1, h2, Result.andThen, List.getElem?_toArray, List.getElem?_cons_zero, List.getElem?_cons_succ, Sem.run_pure]
  | _ => simp [Sem.run_bind, Result.andThen]
/-- append of a blob's bytes. -/
theorem wpList_to_blob {ops : Array Oper} {rest : List Oper} {o : Oper} {a : Act} {w : World} {Q : Exit → Act → World → Prop}
    (hgd : o.guard = none) (s y : Operand) (hop : o.op = Op.call { callee := Callee.builtin Builtin.append, args := #[s, y], argTypes := #[22, 80] })
    (base : Nat) (v : Value) (O : List UInt8) (hS : a.eval s = v) (h : w.ownsRow base 5 1 v O.length (O.map B8)) (ao : Option Addr) (cap B off : Nat) (t : List UInt8) (hu : SrcAt w ao cap t B off) (hX : a.eval y = .slice ao t.length cap) (hb : O.length + t.length ≤ 225000000000000) (hx : base ≤ w.heap.size)
    (hK : ∀ v' w', Hid (w'.ownsRow base 5 1 v' (O ++ t).length ((O ++ t).map B8)) → Hid (OutTurned base w w') → wpList Try.prog ops Q rest (a.put o.dst v') w') : wpList Try.prog ops Q (o :: rest) a w := by
  refine wpList_plain hgd fun K hK' => ?_
  obtain ⟨v', w', hrun, r1, r2, _⟩ := run_append_src w o.type base v O.length (O.map B8) h ao t.length cap (t.map B8) (by simp) hu.bare hu.cells (B8_one _) hb hx
  have hrun2 := (append_blob_run o.type v (.slice ao t.length cap) w).trans hrun
  unfold Oper.wp
  simp [execOp, hop, resolve, invoke, builtin, hS, hX, hrun2, Result.andThen]
  refine hK' _ _ (hK v' w' (Lib.hid ?_) (Lib.hid (OutTurned.of_grown hx h r2)))
  rw [← List.map_append, ← List.length_append] at r1
  exact r1
set_option maxRecDepth 100000 in
theorem blobLay_any (base : Nat) (v : Value) (O : List UInt8) (ao : Option Addr) (cap B off : Nat) (t : List UInt8) (w : World) (hb : base ≤ w.heap.size) (h : w.ownsRow base 5 1 v O.length (O.map B8)) (hu : SrcAt w ao cap t B off) (hs : O.length + t.length ≤ 225000000000000) :
    Calls Try.prog 118 #[.slice ao t.length cap, v] w (PutTo base w (O ++ t)) := by
  obtain ⟨n, hn⟩ : ∃ n, n = t.length := ⟨_, rfl⟩
  have HH := Lib.hid h
  have HU := Lib.hid hu
  have HN := Lib.hid hn
  rw [← hn]
  clear h hu hn
  go_enter Try.func118, Try.ntmps118
  go_wp2_with (at_builtin; refine wpList_to_blob rfl _ _ rfl base _ O rfl HH.out ao cap B off t HU.out (by rw [← HN.out]; rfl) hs hb ?_; intro v2 w2 o2 t2)
  go_ret
  exact ⟨_, rfl, o2.out, t2.out⟩
theorem note_cells {w : World} {x : Nat} {v0 v1 v2 : Value} (h : w.heap[x]? = some (.cells #[v0, v1, v2] 61 (0, 0))) : w.cell? ⟨x, 0, none⟩ = some v0 ∧ w.cell? ⟨x, 1, none⟩ = some v1 ∧ w.cell? ⟨x, 2, none⟩ = some v2 :=
  ⟨cell_of_row _ _ _ _ _ _ h, cell_of_row _ _ _ _ _ _ h, cell_of_row _ _ _ _ _ _ h⟩
set_option maxRecDepth 100000 in
set_option maxHeartbeats 1600000 in
theorem noteLay_any (base : Nat) (v : Value) (O : List UInt8) (o : ObjR) (w : World) (hb : base ≤ w.heap.size) (h : w.ownsRow base 5 1 v O.length (O.map B8)) (ht : toldB o = true) (hs : O.length ≤ 2000000) :
    Calls Try.prog 115 #[.agg #[.string (SL o.who), .int .i64 o.stamp, .string (SL o.text)], v] w (PutTo base w (O ++ tailO o)) := by
  obtain ⟨t1, t2, t3, t4⟩ := told_is ht
  obtain ⟨m, hm⟩ : ∃ m : Nat, o.stamp = (m : Int) := ⟨o.stamp.toNat, by omega⟩
  have q1 := numL_le o.who.length
  have q2 := numL_le m
  have e0 : O ++ tailO o = ((O ++ (numL o.who.length ++ o.who)) ++ numL m) ++ (numL o.text.length ++ o.text) := by
    unfold tailO txtL
    rw [show o.stamp.toNat = m from by omega]
    simp only [List.append_assoc]
  rw [e0, hm]
  obtain ⟨O1, hO1⟩ : ∃ O1, O1 = O ++ (numL o.who.length ++ o.who) := ⟨_, rfl⟩
  obtain ⟨O2, hO2⟩ : ∃ O2, O2 = O1 ++ numL m := ⟨_, rfl⟩
  have l1 : O1.length ≤ 2001100 := by rw [hO1]; simp only [List.length_append]; omega
  have l2 : O2.length ≤ 2001200 := by rw [hO2, List.length_append]; omega
  have hp1 := fun (W : World) (hb : base ≤ W.heap.size) (hv : W.ownsRow base 5 1 v O.length (O.map B8)) => rowPutTextTo base v O o.who W hb hv (by omega)
  have hp2 := fun (W : World) (u : Value) (hb : base ≤ W.heap.size) (hv : W.ownsRow base 5 1 u O1.length (O1.map B8)) => rowPutNumTo base u O1 (m : Int) W hb hv (by omega)
  have hp3 := fun (W : World) (u : Value) (hb : base ≤ W.heap.size) (hv : W.ownsRow base 5 1 u O2.length (O2.map B8)) => rowPutTextTo base u O2 o.text W hb hv (by omega)
  rw [clampN_nat _ (by omega)] at hp2
  rw [← hO1] at hp1
  rw [← hO2] at hp2
  rw [← hO1, ← hO2]
  have P1 := Lib.hid hp1
  have P2 := Lib.hid hp2
  have P3 := Lib.hid hp3
  have hw0 : OutTurned base w (w.alloc (.cells #[.string (SL o.who), .int .i64 (m : Int), .string (SL o.text)] 61)) := OutTurned.of_below hb ((Below.refl _ _).alloc (Nat.le_refl _) _)
  have hv0 : (w.alloc (.cells #[.string (SL o.who), .int .i64 (m : Int), .string (SL o.text)] 61)).ownsRow base 5 1 v O.length (O.map B8) := own_below h ((Below.refl _ _).alloc (Nat.le_refl _) _)
  obtain ⟨W1, hW1⟩ : ∃ W1, W1 = w.alloc (.cells #[.string (SL o.who), .int .i64 (m : Int), .string (SL o.text)] 61) := ⟨_, rfl⟩
  have hrow : ∀ W, OutTurned base W1 W → _ := fun W hb => note_cells (OutTurned.row hb (by rw [hW1]; exact heap_alloc_new w _) (by decide))
  rw [← hW1] at hw0 hv0
  have ROW := Lib.hid hrow
  have HW := Lib.hid hW1
  have TT := Lib.hid hw0
  have VV := Lib.hid hv0
  have T0 := Lib.hid (OutTurned.refl base W1)
  obtain ⟨r0, r1, r2⟩ := hrow W1 (OutTurned.refl _ _)
  clear hp1 hp2 hp3 hrow hW1 hw0 hv0 h hO1 hO2 l1 l2 q1 q2 t1 t2 t3 t4 hm e0 ht hs
  go_enter Try.func115, Try.ntmps115
  go_wp2_with fail
  rw [← HW.out]
  go_wp2_with (first
    | (go_at_call_of 110 (SL o.who); refine (P1.out _ (by have := TT.out.below.size; omega) VV.out).mono ?_; rintro e w2 ⟨v2, rfl, o2, t2⟩; have T0 := Lib.hid (T0.out.trans t2); obtain ⟨r0, r1, r2⟩ := ROW.out w2 T0.out; have V2 := Lib.hid o2; clear o2 t2)
    | (go_at_call 109; refine (P2.out _ v2 (by have := TT.out.below.size; have := T0.out.below.size; omega) V2.out).mono ?_; rintro e w3 ⟨v3, rfl, o3, t3⟩; have T0 := Lib.hid (T0.out.trans t3); obtain ⟨r0, r1, r2⟩ := ROW.out w3 T0.out; have V3 := Lib.hid o3; clear o3 t3)
    | (go_at_call_of 110 (SL o.text); refine (P3.out _ v3 (by have := TT.out.below.size; have := T0.out.below.size; omega) V3.out).mono ?_; rintro e w4 ⟨v4, rfl, o4, t4⟩; have T0 := Lib.hid (T0.out.trans t4); have V4 := Lib.hid o4; clear o4 t4))
  go_ret
  exact ⟨_, rfl, V4.out, TT.out.trans T0.out⟩
end Go.Proofs.Ytckbeeadkiiccaa
namespace Go.Proofs.Ytckbeeadkiiccaa
open Go.RowKit
theorem Below.over {base : Nat} {w w' : World} (h : Below base w w') : Turn (fun k => ¬ k < base) w w' := ⟨h.os, h.tape, h.output, h.size, fun k _ hn => h.block k (Classical.not_not.1 hn)⟩
theorem entry_cells {w : World} {x : Nat} {v0 v1 v2 : Value} (h : w.heap[x]? = some (.cells #[v0, v1, v2] 30 (0, 0))) : w.cell? ⟨x, 0, none⟩ = some v0 ∧ w.cell? ⟨x, 1, none⟩ = some v1 ∧ w.cell? ⟨x, 2, none⟩ = some v2 :=
  ⟨cell_of_row _ _ _ _ _ _ h, cell_of_row _ _ _ _ _ _ h, cell_of_row _ _ _ _ _ _ h⟩
theorem ents_small {l : List EntR} (h : entsB l = true) : l.length ≤ 4096 ∧ (∀ e ∈ l, e.nm.length ≤ 100 ∧ e.id.length = 32) ∧ ∀ k, (((l.take k).map entL).flatten).length ≤ 1000000 := by
  obtain ⟨he1, he2⟩ := ents_is h
  have hel : ∀ e ∈ l, e.nm.length ≤ 100 ∧ e.id.length = 32 := fun e he => by
    have h1 := List.all_eq_true.1 he1 e he
    unfold entB partB at h1
    simp only [Bool.and_eq_true, decide_eq_true_eq] at h1
    omega
  refine ⟨he2, hel, fun k => ?_⟩
  have h2 : ∀ l : List EntR, (∀ e ∈ l, e.nm.length ≤ 100 ∧ e.id.length = 32) → ((l.map entL).flatten).length ≤ 142 * l.length := fun l => by
    induction l with
    | nil => intro _; simp
    | cons a r ih =>
      intro h
      have h3 := ih fun e he => h e (List.mem_cons_of_mem _ he)
      have h4 := h a List.mem_cons_self
      have h5 := numL_le a.nm.length
      have h6 : (entL a).length = (numL a.nm.length).length + a.nm.length + (1 + a.id.length) := by
        unfold entL txtL
        simp only [List.length_append, List.length_cons]
        omega
      rw [List.map_cons, List.flatten_cons, List.length_append, List.length_cons, h6]
      omega
  have h3 := h2 (l.take k) (fun e he => hel e (List.mem_of_mem_take he))
  have h4 : (l.take k).length ≤ 4096 := by rw [List.length_take]; omega
  omega
theorem src_lit (w : World) (c : UInt8) : SrcAt (w.alloc (.cells #[B8 c] 5)) (some ⟨w.heap.size, 0, none⟩) 1 [c] w.heap.size 0 := src_new w [c] (by simp [maxLen])
set_option maxRecDepth 100000 in
set_option maxHeartbeats 4000000 in
theorem treeLay_any (base : Nat) (v : Value) (O : List UInt8) (ao : Option Addr) (cap g off : Nat) (l : List EntR) (w : World) (hb : base ≤ w.heap.size) (h : w.ownsRow base 5 1 v O.length (O.map B8)) (hs : SlAt w (fun k => k < base) ao l.length cap g off (ecells l)) (he : entsB l = true) (hO : O.length ≤ 1000) :
    Calls Try.prog 108 #[.slice ao l.length cap, v] w (PutTo base w (O ++ (numL l.length ++ (l.map entL).flatten))) := by
  obtain ⟨hl1, hl2, hl3⟩ := ents_small he
  have hp0 := fun (W : World) (hb : base ≤ W.heap.size) (hv : W.ownsRow base 5 1 v O.length (O.map B8)) => rowPutNumTo base v O (l.length : Int) W hb hv (by omega)
  rw [clampN_nat _ (by omega)] at hp0
  have q0 := numL_le l.length
  obtain ⟨N, hN⟩ : ∃ N, N = l.length := ⟨_, rfl⟩
  rw [← hN] at hs hp0 hl1 q0 ⊢
  obtain ⟨H, hH⟩ : ∃ H, H = O ++ numL N := ⟨_, rfl⟩
  have hHl : H.length ≤ 2000 := by rw [hH, List.length_append]; omega
  rw [← List.append_assoc]
  rw [← hH] at hp0 ⊢
  have P0 := Lib.hid (hp0 w hb h)
  have HN := Lib.hid hN
  have HS := Lib.hid (fun (W : World) (hb : Below base w W) => hs.turn (Below.over hb) (fun k hk hn => hn hk))
  have HL2 := Lib.hid hl2
  have HL3 := Lib.hid hl3
  clear hN hs hp0 hl2 hl3 hH he h
  go_enter Try.func108, Try.ntmps108
  go_wp2_with (go_at_call 109; refine P0.out.mono ?_; rintro e w1 ⟨v1, rfl, o1, t1⟩; have O1 := Lib.hid o1; have T1 := Lib.hid t1; clear o1 t1)
  go_loopw [1, 13] (fun ov i W => ∃ k : Nat, i = .int .i64 (k : Int) ∧ k ≤ N ∧ Hid (W.ownsRow base 5 1 ov (H ++ ((l.take k).map entL).flatten).length ((H ++ ((l.take k).map entL).flatten).map B8)) ∧ OutTurned base w W) (fun _ i _ => N - (intOf i).toNat)
  case atStart => exact ⟨0, rfl, Nat.zero_le _, by simpa using O1, T1.out⟩
  case round =>
    clear O1 T1
    obtain ⟨k, rfl, hk, O1, hT⟩ := hrel
    have TT := Lib.hid hT
    have BW : base ≤ wr.heap.size := by have := hT.below.size; omega
    clear hT
    by_cases hlt : k < N
    · have i0 : (0 : Int) ≤ (k : Int) := by omega
      have i1 : (k : Int) < (N : Int) := by omega
      obtain ⟨e, hee⟩ : ∃ e, l[k]? = some e := ⟨_, List.getElem?_eq_getElem (by rw [← HN.out]; exact hlt)⟩
      obtain ⟨rfl, c0, c1, c2⟩ := (HS.out wr TT.out.below).entry hee hlt
      obtain ⟨nb1, nb2⟩ := HL2.out e (List.mem_of_getElem? hee)
      have q1 := numL_le e.nm.length
      have q2 := HL3.out k
      obtain ⟨dr, hdr⟩ : ∃ d, d = e.dir := ⟨_, rfl⟩
      have htk : ∀ d : UInt8, (if dr = true then (1 : UInt8) else 0) = d → H ++ ((l.take k).map entL).flatten ++ (numL e.nm.length ++ e.nm) ++ [d] ++ e.id = H ++ ((l.take (k + 1)).map entL).flatten := fun d hd => by
        rw [List.take_add_one, hee]
        unfold entL txtL
        rw [hdr] at hd
        simp [hd]
      obtain ⟨A0, hA0⟩ : ∃ A, A = H ++ ((l.take k).map entL).flatten := ⟨_, rfl⟩
      have la : A0.length ≤ 1002000 := by rw [hA0, List.length_append]; omega
      rw [← hA0] at O1 htk
      rw [← hdr] at c1
      obtain ⟨A1, hA1⟩ : ∃ A, A = A0 ++ (numL e.nm.length ++ e.nm) := ⟨_, rfl⟩
      have lb : A1.length ≤ 1003000 := by rw [hA1]; simp only [List.length_append]; omega
      rw [← hA1] at htk
      have hp1 := fun (W : World) (u : Value) (hb : base ≤ W.heap.size) (hv : W.ownsRow base 5 1 u A0.length (A0.map B8)) => rowPutTextTo base u A0 e.nm W hb hv (by omega)
      rw [← hA1] at hp1
      have P1 := Lib.hid hp1
      have HTK := Lib.hid htk
      have hbl := (Below.refl wr.heap.size wr).alloc (Nat.le_refl _) (.cells #[.string (SL e.nm), .bool dr, .string (SL e.id)] 30)
      obtain ⟨W1, hW1⟩ : ∃ W1, W1 = wr.alloc (.cells #[.string (SL e.nm), .bool dr, .string (SL e.id)] 30) := ⟨_, rfl⟩
      rw [← hW1] at hbl
      have V0 := Lib.hid (own_below O1.out hbl)
      have TW := Lib.hid (OutTurned.of_below BW hbl)
      have T0 := Lib.hid (OutTurned.refl base W1)
      have hrow : ∀ W, OutTurned base W1 W → _ := fun W hb => entry_cells (OutTurned.row hb (by rw [hW1]; exact heap_alloc_new wr _) (by decide))
      have ROW := Lib.hid hrow
      obtain ⟨r0, r1, r2⟩ := hrow W1 (OutTurned.refl _ _)
      have HW := Lib.hid hW1
      have BW1 : base ≤ W1.heap.size := by have := hbl.size; omega
      clear hp1 htk hrow hW1 hbl hA0 hA1 hee hdr O1 hHl
      cases dr with
      | true =>
        go_wp2_with fail
        rw [← HW.out]
        go_wp2_with (first
          | (go_at_call 110; refine (P1.out _ _ (by have := T0.out.below.size; omega) V0.out).mono ?_; rintro e w2 ⟨v2, rfl, o2, t2⟩; have T0 := Lib.hid (T0.out.trans t2); obtain ⟨r0, r1, r2⟩ := ROW.out w2 T0.out; have V1 := Lib.hid o2; clear o2 t2)
          | (at_builtin; refine wpList_to_bytes rfl _ _ rfl base _ A1 rfl (own_below V1.out ((Below.refl _ _).alloc (Nat.le_refl _) _)) _ _ _ _ [1] (src_lit _ 1) rfl (by simp; omega) (by have := T0.out.below.size; simp; omega) ?_; intro v3 w3 o3 t3; have T0 := Lib.hid ((T0.out.trans (OutTurned.of_below (by have := T0.out.below.size; omega) ((Below.refl _ _).alloc (Nat.le_refl _) _))).trans t3.out); obtain ⟨r0, r1, r2⟩ := ROW.out w3 T0.out; have V2 := o3; clear o3 t3)
          | (at_builtin; refine wpList_to_string rfl _ _ rfl base _ (A1 ++ [1]) rfl V2.out e.id rfl (by simp; omega) (by have := T0.out.below.size; omega) ?_; intro v4 w4 o4 t4; have T0 := Lib.hid (T0.out.trans t4.out); have V3 := o4; clear o4 t4)
          | go_in)
        go_roundw
        case rel => exact ⟨k + 1, by go_num, by omega, by rw [← HTK.out 1 rfl]; exact V3, TT.out.trans (TW.out.trans T0.out)⟩
        case measure => simp [intOf]; omega
      | false =>
        go_wp2_with fail
        rw [← HW.out]
        go_wp2_with (first
          | (go_at_call 110; refine (P1.out _ _ (by have := T0.out.below.size; omega) V0.out).mono ?_; rintro e w2 ⟨v2, rfl, o2, t2⟩; have T0 := Lib.hid (T0.out.trans t2); obtain ⟨r0, r1, r2⟩ := ROW.out w2 T0.out; have V1 := Lib.hid o2; clear o2 t2)
          | (at_builtin; refine wpList_to_bytes rfl _ _ rfl base _ A1 rfl (own_below V1.out ((Below.refl _ _).alloc (Nat.le_refl _) _)) _ _ _ _ [0] (src_lit _ 0) rfl (by simp; omega) (by have := T0.out.below.size; simp; omega) ?_; intro v3 w3 o3 t3; have T0 := Lib.hid ((T0.out.trans (OutTurned.of_below (by have := T0.out.below.size; omega) ((Below.refl _ _).alloc (Nat.le_refl _) _))).trans t3.out); obtain ⟨r0, r1, r2⟩ := ROW.out w3 T0.out; have V2 := o3; clear o3 t3)
          | (at_builtin; refine wpList_to_string rfl _ _ rfl base _ (A1 ++ [0]) rfl V2.out e.id rfl (by simp; omega) (by have := T0.out.below.size; omega) ?_; intro v4 w4 o4 t4; have T0 := Lib.hid (T0.out.trans t4.out); have V3 := o4; clear o4 t4)
          | go_in)
        go_roundw
        case rel => exact ⟨k + 1, by go_num, by omega, by rw [← HTK.out 0 rfl]; exact V3, TT.out.trans (TW.out.trans T0.out)⟩
        case measure => simp [intOf]; omega
    · obtain rfl : k = N := by omega
      have j1 : ¬ (k : Int) < (k : Int) := by omega
      rw [HN.out, List.take_length] at O1
      go_wp2
      go_ret
      exact ⟨_, rfl, O1.out, TT.out⟩
end Go.Proofs.Ytckbeeadkiiccaa
namespace Go.Proofs.Ytckbeeadkiiccaa
open Go.RowKit
theorem five_cells {w : World} {x : Nat} {T : TypeId} {v0 v1 v2 v3 v4 : Value} (h : w.heap[x]? = some (.cells #[v0, v1, v2, v3, v4] T (0, 0))) : w.cell? ⟨x, 0, none⟩ = some v0 ∧ w.cell? ⟨x, 1, none⟩ = some v1 ∧ w.cell? ⟨x, 2, none⟩ = some v2 ∧ w.cell? ⟨x, 3, none⟩ = some v3 ∧ w.cell? ⟨x, 4, none⟩ = some v4 :=
  ⟨cell_of_row _ _ _ _ _ _ h, cell_of_row _ _ _ _ _ _ h, cell_of_row _ _ _ _ _ _ h, cell_of_row _ _ _ _ _ _ h, cell_of_row _ _ _ _ _ _ h⟩
theorem ups_small {l : List OB} (h : upsB l = true) : l.length ≤ 4 ∧ (∀ e ∈ l, e.length = 32) ∧ ∀ k, (l.take k).flatten.length ≤ 128 := by
  obtain ⟨h1, h2⟩ := ups_is h
  have hel : ∀ e ∈ l, e.length = 32 := fun e he => by simpa using List.all_eq_true.1 h1 e he
  refine ⟨h2, hel, fun k => ?_⟩
  have h4 : ∀ l : List OB, (∀ e ∈ l, e.length = 32) → l.flatten.length = 32 * l.length := fun l => by
    induction l with
    | nil => intro _; rfl
    | cons a r ih =>
      intro h
      rw [List.flatten_cons, List.length_append, ih (fun e he => h e (List.mem_cons_of_mem _ he)), h a List.mem_cons_self, List.length_cons]
      omega
  have h5 := h4 (l.take k) (fun e he => hel e (List.mem_of_mem_take he))
  have h6 : (l.take k).length ≤ 4 := by rw [List.length_take]; omega
  omega
set_option maxRecDepth 100000 in
set_option maxHeartbeats 4000000 in
theorem commitLay_any (base : Nat) (v : Value) (O : List UInt8) (ao : Option Addr) (cap g off : Nat) (o : ObjR) (w : World) (hb : base ≤ w.heap.size) (h : w.ownsRow base 5 1 v O.length (O.map B8)) (hs : SlAt w (fun k => k < base) ao o.ups.length cap g off (tcells o.ups)) (h1 : o.tree.length = 32) (h2 : upsB o.ups = true) (h3 : toldB o = true) (hO : O.length ≤ 1000) :
    Calls Try.prog 116 #[.agg #[.string (SL o.tree), .slice ao o.ups.length cap, .string (SL o.who), .int .i64 o.stamp, .string (SL o.text)], v] w (PutTo base w (O ++ (o.tree ++ (numL o.ups.length ++ (o.ups.flatten ++ tailO o))))) := by
  obtain ⟨u1, u2, u3⟩ := ups_small h2
  have hp0 := fun (W : World) (u : Value) (hb : base ≤ W.heap.size) (hv : W.ownsRow base 5 1 u (O ++ o.tree).length ((O ++ o.tree).map B8)) => rowPutNumTo base u (O ++ o.tree) (o.ups.length : Int) W hb hv (by rw [List.length_append]; omega)
  rw [clampN_nat _ (by omega)] at hp0
  have q0 := numL_le o.ups.length
  have e0 : O ++ (o.tree ++ (numL o.ups.length ++ (o.ups.flatten ++ tailO o))) = ((O ++ o.tree) ++ numL o.ups.length) ++ o.ups.flatten ++ tailO o := by simp only [List.append_assoc]
  rw [e0]
  obtain ⟨N, hN⟩ : ∃ N, N = o.ups.length := ⟨_, rfl⟩
  rw [← hN] at hs hp0 u1 q0 ⊢
  obtain ⟨H, hH⟩ : ∃ H, H = (O ++ o.tree) ++ numL N := ⟨_, rfl⟩
  have hHl : H.length ≤ 2000 := by rw [hH]; simp only [List.length_append]; omega
  have hot : O.length + o.tree.length ≤ 140737488355328 := by omega
  rw [← hH] at hp0 ⊢
  have P0 := Lib.hid hp0
  have P1 := Lib.hid (fun (W : World) (u : Value) (hb : base ≤ W.heap.size) (hv : W.ownsRow base 5 1 u (H ++ o.ups.flatten).length ((H ++ o.ups.flatten).map B8)) => noteLay_any base u (H ++ o.ups.flatten) o W hb hv h3 (by have := u3 N; rw [hN, List.take_length] at this; rw [List.length_append]; omega))
  have HN := Lib.hid hN
  have HS := Lib.hid (fun (W : World) (hb : Below base w W) => hs.turn (Below.over hb) (fun k hk hn => hn hk))
  have HU2 := Lib.hid u2
  have HU3 := Lib.hid u3
  obtain ⟨z, hz⟩ : ∃ z, z = o.stamp := ⟨_, rfl⟩
  rw [← hz]
  rw [← hz] at P1
  have hbl := (Below.refl w.heap.size w).alloc (Nat.le_refl _) (.cells #[.string (SL o.tree), .slice ao N cap, .string (SL o.who), .int .i64 z, .string (SL o.text)] 63)
  obtain ⟨W1, hW1⟩ : ∃ W1, W1 = w.alloc (.cells #[.string (SL o.tree), .slice ao N cap, .string (SL o.who), .int .i64 z, .string (SL o.text)] 63) := ⟨_, rfl⟩
  rw [← hW1] at hbl
  have V0 := Lib.hid (own_below h hbl)
  have TW := Lib.hid (OutTurned.of_below hb hbl)
  have T0 := Lib.hid (OutTurned.refl base W1)
  have hrow : ∀ W, OutTurned base W1 W → _ := fun W hb => five_cells (OutTurned.row hb (by rw [hW1]; exact heap_alloc_new w _) (by decide))
  have ROW := Lib.hid hrow
  obtain ⟨r0, r1, r2, r3, r4⟩ := hrow W1 (OutTurned.refl _ _)
  have HW := Lib.hid hW1
  have BW1 : base ≤ W1.heap.size := by have := hbl.size; omega
  clear hp0 hrow hW1 hbl hN hs hH h u2 u3 h1 h2 h3 hz e0 q0
  go_enter Try.func116, Try.ntmps116
  go_wp2_with (first
    | (at_builtin; rw [← HW.out]; refine wpList_to_string rfl _ _ rfl base _ O rfl V0.out o.tree rfl hot BW1 ?_; intro v1 w1 o1 t1; have T0 := Lib.hid (T0.out.trans t1.out); obtain ⟨r0, r1, r2, r3, r4⟩ := ROW.out w1 T0.out; have V1 := o1; clear o1 t1)
    | (go_at_call 109; refine (P0.out _ _ (by have := T0.out.below.size; omega) V1.out).mono ?_; rintro e w2 ⟨v2, rfl, o2, t2⟩; have T0 := Lib.hid (T0.out.trans t2); obtain ⟨r0, r1, r2, r3, r4⟩ := ROW.out w2 T0.out; have V2 := Lib.hid o2; clear o2 t2))
  go_loopw [1, 19] (fun ov i W => ∃ k : Nat, i = .int .i64 (k : Int) ∧ k ≤ N ∧ Hid (W.ownsRow base 5 1 ov (H ++ (o.ups.take k).flatten).length ((H ++ (o.ups.take k).flatten).map B8)) ∧ OutTurned base W1 W) (fun _ i _ => N - (intOf i).toNat)
  case atStart => exact ⟨0, rfl, Nat.zero_le _, by simpa using V2, T0.out⟩
  case round =>
    clear V0 V1 V2 T0 r0 r1 r2 r3 r4
    obtain ⟨k, rfl, hk, O1, hT⟩ := hrel
    obtain ⟨r0, r1, r2, r3, r4⟩ := ROW.out wr hT
    have BW : base ≤ wr.heap.size := by have := hT.below.size; omega
    have TT := Lib.hid hT
    clear hT
    by_cases hlt : k < N
    · have i0 : (0 : Int) ≤ (k : Int) := by omega
      have i1 : (k : Int) < (N : Int) := by omega
      obtain ⟨e, hee⟩ : ∃ e, o.ups[k]? = some e := ⟨_, List.getElem?_eq_getElem (by rw [← HN.out]; exact hlt)⟩
      obtain ⟨rfl, c0⟩ := (HS.out wr (TW.out.trans TT.out).below).text hee hlt
      have nb := HU2.out e (List.mem_of_getElem? hee)
      have q2 := HU3.out k
      have htk : H ++ (o.ups.take k).flatten ++ e = H ++ (o.ups.take (k + 1)).flatten := by
        rw [List.take_add_one, hee]
        simp
      obtain ⟨A0, hA0⟩ : ∃ A, A = H ++ (o.ups.take k).flatten := ⟨_, rfl⟩
      have la : A0.length + e.length ≤ 140737488355328 := by rw [hA0, List.length_append]; omega
      rw [← hA0] at O1 htk
      have HTK := Lib.hid htk
      clear htk hee hA0 nb q2
      go_wp2_with (at_builtin; refine wpList_to_string rfl _ _ rfl base _ A0 rfl O1.out e rfl la BW ?_; intro v3 w3 o3 t3; have TT := Lib.hid (TT.out.trans t3.out); have V3 := o3; clear o3 t3)
      go_roundw
      case rel => exact ⟨k + 1, by go_num, by omega, by rw [← HTK.out]; exact V3, TT.out⟩
      case measure => simp [intOf]; omega
    · obtain rfl : k = N := by omega
      have j1 : ¬ (k : Int) < (k : Int) := by omega
      rw [HN.out, List.take_length] at O1
      go_wp2_with (go_at_call 115; refine (P1.out _ _ BW O1.out).mono ?_; rintro e w4 ⟨v4, rfl, o4, t4⟩; have V4 := Lib.hid o4; have T4 := Lib.hid t4; clear o4 t4)
      go_ret
      exact ⟨_, rfl, V4.out, TW.out.trans (TT.out.trans T4.out)⟩
set_option maxRecDepth 100000 in
set_option maxHeartbeats 4000000 in
theorem tagLay_any (base : Nat) (v : Value) (O : List UInt8) (o : ObjR) (w : World) (hb : base ≤ w.heap.size) (h : w.ownsRow base 5 1 v O.length (O.map B8)) (h1 : o.target.length = 32) (h2 : o.name.length ≤ 200) (h3 : toldB o = true) (hO : O.length ≤ 1000) :
    Calls Try.prog 117 #[.agg #[.string (SL o.target), .string (SL o.name), .string (SL o.who), .int .i64 o.stamp, .string (SL o.text)], v] w (PutTo base w (O ++ (o.target ++ (txtL o.name ++ tailO o)))) := by
  have q0 := numL_le o.name.length
  have e0 : O ++ (o.target ++ (txtL o.name ++ tailO o)) = ((O ++ o.target) ++ (numL o.name.length ++ o.name)) ++ tailO o := by unfold txtL; simp only [List.append_assoc]
  rw [e0]
  obtain ⟨H, hH⟩ : ∃ H, H = O ++ o.target := ⟨_, rfl⟩
  have hHl : H.length ≤ 2000 := by rw [hH]; simp only [List.length_append]; omega
  have hot : O.length + o.target.length ≤ 140737488355328 := by omega
  rw [← hH]
  obtain ⟨K, hK⟩ : ∃ K, K = H ++ (numL o.name.length ++ o.name) := ⟨_, rfl⟩
  have hKl : K.length ≤ 3000 := by rw [hK]; simp only [List.length_append]; omega
  have hp0 := fun (W : World) (u : Value) (hb : base ≤ W.heap.size) (hv : W.ownsRow base 5 1 u H.length (H.map B8)) => rowPutTextTo base u H o.name W hb hv (by omega)
  rw [← hK] at hp0 ⊢
  have P0 := Lib.hid hp0
  have HH := Lib.hid hH
  have hp1 := fun (W : World) (u : Value) (hb : base ≤ W.heap.size) (hv : W.ownsRow base 5 1 u K.length (K.map B8)) => noteLay_any base u K o W hb hv h3 (by omega)
  obtain ⟨z, hz⟩ : ∃ z, z = o.stamp := ⟨_, rfl⟩
  rw [← hz] at hp1 ⊢
  have P1 := Lib.hid hp1
  have hbl := (Below.refl w.heap.size w).alloc (Nat.le_refl _) (.cells #[.string (SL o.target), .string (SL o.name), .string (SL o.who), .int .i64 z, .string (SL o.text)] 65)
  obtain ⟨W1, hW1⟩ : ∃ W1, W1 = w.alloc (.cells #[.string (SL o.target), .string (SL o.name), .string (SL o.who), .int .i64 z, .string (SL o.text)] 65) := ⟨_, rfl⟩
  rw [← hW1] at hbl
  have V0 := Lib.hid (own_below h hbl)
  have TW := Lib.hid (OutTurned.of_below hb hbl)
  have T0 := Lib.hid (OutTurned.refl base W1)
  have hrow : ∀ W, OutTurned base W1 W → _ := fun W hb => five_cells (OutTurned.row hb (by rw [hW1]; exact heap_alloc_new w _) (by decide))
  have ROW := Lib.hid hrow
  obtain ⟨r0, r1, r2, r3, r4⟩ := hrow W1 (OutTurned.refl _ _)
  have HW := Lib.hid hW1
  have BW1 : base ≤ W1.heap.size := by have := hbl.size; omega
  clear hp0 hp1 hrow hW1 hbl hH hK h h1 h2 h3 hz e0 q0
  go_enter Try.func117, Try.ntmps117
  go_wp2_with (at_builtin; rw [← HW.out]; refine wpList_to_string rfl _ _ rfl base _ O rfl V0.out o.target rfl hot BW1 ?_; intro v1 w1 o1 t1; have T0 := Lib.hid (T0.out.trans t1.out); obtain ⟨r0, r1, r2, r3, r4⟩ := ROW.out w1 T0.out; have V1 := o1; rw [← HH.out] at V1; clear o1 t1)
  have T0 := Lib.hid (T0.out.trans (OutTurned.of_below (by have := T0.out.below.size; omega) ((Below.refl w1.heap.size w1).drew)))
  have V1 := Lib.hid (own_below V1.out ((Below.refl w1.heap.size w1).drew))
  first
    | go_region_held3 (fun W => W.cell? ⟨w.heap.size, 0, none⟩ = some (.string (SL o.target)) ∧ W.cell? ⟨w.heap.size, 1, none⟩ = some (.string (SL o.name)) ∧ W.cell? ⟨w.heap.size, 2, none⟩ = some (.string (SL o.who)) ∧ W.cell? ⟨w.heap.size, 3, none⟩ = some (.int .i64 z) ∧ W.cell? ⟨w.heap.size, 4, none⟩ = some (.string (SL o.text))) (first | exact ROW.out _ T0.out) ((first
      | (go_at_call 110; refine (P0.out _ _ (by have := T0.out.below.size; omega) V1.out).mono ?_; rintro e w2 ⟨v2, rfl, o2, t2⟩; have T0 := Lib.hid (T0.out.trans t2); obtain ⟨r0, r1, r2, r3, r4⟩ := ROW.out w2 T0.out; have V2 := Lib.hid o2; clear o2 t2)
      | (go_at_call 115; refine (P1.out _ _ (by have := T0.out.below.size; omega) V2.out).mono ?_; rintro e w4 ⟨v4, rfl, o4, t4⟩; have T0 := Lib.hid (T0.out.trans t4); have V4 := Lib.hid o4; clear o4 t4)))
    | fail "held"
  go_wp2
  go_ret
  exact ⟨_, rfl, V4.out, TW.out.trans T0.out⟩
end Go.Proofs.Ytckbeeadkiiccaa
