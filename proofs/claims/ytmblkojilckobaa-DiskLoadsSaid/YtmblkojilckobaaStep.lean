/- step of the laws: one operation on both disks. -/
import Derived.Test.YtmblkojilckobaaPair
import Derived.Deep.RegionHeld3
namespace Go.Proofs.Ytmblkojilckobaa
open Go.RowKit
/-- A block that holds an operation. -/
def opO (z : Int) (a b : Bs) (v : Value) (n : Int) : Obj := .cells #[.int .i64 z, .string (SL a), .string (SL b), v, .int .i64 n] 34 (0, 0)
theorem op_cells {w : World} {x : Nat} {z n : Int} {a b : Bs} {v : Value} (h : w.heap[x]? = some (opO z a b v n)) :
    w.cell? ⟨x, 0, none⟩ = some (.int .i64 z) ∧ w.cell? ⟨x, 1, none⟩ = some (.string (SL a)) ∧ w.cell? ⟨x, 2, none⟩ = some (.string (SL b)) ∧ w.cell? ⟨x, 3, none⟩ = some v ∧ w.cell? ⟨x, 4, none⟩ = some (.int .i64 n) :=
  ⟨cell_of_row _ _ _ _ _ _ h, cell_of_row _ _ _ _ _ _ h, cell_of_row _ _ _ _ _ _ h, cell_of_row _ _ _ _ _ _ h, cell_of_row _ _ _ _ _ _ h⟩
def StepTo (w0 : World) (base p q : Nat) (S : St) (e : Ending) (w' : World) : Prop := e = .returned (.bool true) ∧ Two w0 base w' p q S
theorem Turn.kept {G : Nat → Prop} {w w' : World} {x : Nat} {o : Obj} (h : w.heap[x]? = some o) (ht : Turn G w w') (hn : ¬ G x) : w'.heap[x]? = some o := ht.keep h hn
section
variable {w0 w : World} {base p q : Nat} {Fd Fr : Nat → Prop} {S : St}
set_option maxRecDepth 100000 in
set_option maxHeartbeats 1600000 in
theorem stepRemove (h : Pair w0 base w Fd Fr p q S S) (hg : Good S) (hb : S.done ≤ 1000000) (z : Int) (o : OpV) (hy : bits BinOp.and IntKind.i64 z 15 = 4) (v : Value) (ha : o.a.length ≤ 9223372036854775807) :
    Calls Try.prog 13 #[ptr p, ptr q, .agg #[.int .i64 z, .string (SL o.a), .string (SL o.b), v, .int .i64 o.n]] w (StepTo w0 base p q (removeS S o.a).2) := by
  obtain ⟨r, hr0⟩ : ∃ r, r = removeS S o.a := ⟨_, rfl⟩
  rw [← hr0]
  obtain ⟨w1, hw1⟩ : ∃ w1, w1 = w.alloc (opO z o.a o.b (v) o.n) := ⟨_, rfl⟩
  have b1 : Below w.heap.size w w1 := by rw [hw1]; exact (Below.refl _ _).alloc (Nat.le_refl _) _
  have x1 : w1.heap[w.heap.size]? = some (opO z o.a o.b (v) o.n) := by rw [hw1]; exact heap_alloc_new _ _
  have P0 := Lib.hid ((h.below b1).below ((Below.refl w1.heap.size w1).drew))
  have X0 := Lib.hid (show w1.drew.heap[w.heap.size]? = _ from x1)
  have hwb := h.bs
  have hdl := h.dlt
  have hrl := h.rlt
  obtain ⟨k0, k1, k2, k3, k4⟩ := op_cells x1
  have HR := Lib.hid hr0
  clear h x1 b1
  have hw1' : w.alloc (Obj.cells #[Value.int IntKind.i64 z, Value.string (SL o.a), Value.string (SL o.b), v, Value.int IntKind.i64 o.n] 34) = w1 := hw1.symm
  have HW := Lib.hid hw1'
  clear hw1 hw1' hr0
  go_enter Try.func13, Try.ntmps13
  go_wp2_with fail
  rw [HW.out]

  clear HW k0 k1 k2 k3 k4
  go_region_held3 (fun W => W.cell? ⟨w.heap.size, 1, none⟩ = some (.string (SL o.a))) (first | exact (op_cells X0.out).2.1 | exact (op_cells Xd.out).2.1 | exact (op_cells Xr.out).2.1 | exact (op_cells X2.out).2.1) ((first | (go_at_call 25; refine (dRemove Pr.out.d hg hb o.a).mono ?_; rintro e wd ⟨he, hd, ht⟩; rw [← HR.out] at he hd; subst he; have X2 := Lib.hid (Turn.kept Xr.out ht (fun hF => Nat.lt_irrefl _ (hdl _ hF))); have P2 := Lib.hid (Pr.out.acts hd ht); clear hd ht) | (go_at_call 25; refine (dRemove P0.out.d hg hb o.a).mono ?_; rintro e wd ⟨he, hd, ht⟩; rw [← HR.out] at he hd; subst he; have Xd := Lib.hid (Turn.kept X0.out ht (fun hF => Nat.lt_irrefl _ (hdl _ hF))); have Pd := Lib.hid (P0.out.acts hd ht); clear hd ht) | (go_at_call 35; refine (rRemove Pd.out.r Pd.out.rlt hg hb o.a ha).mono ?_; rintro e wr ⟨he, hd, ht⟩; rw [← HR.out] at he hd; subst he; have X2 := Lib.hid (Turn.kept Xd.out ht (fun hF => Nat.lt_irrefl _ (hrl _ hF))); have P2 := Lib.hid (Pd.out.racts hd ht); clear hd ht) | (go_at_call 35; refine (rRemove P0.out.r P0.out.rlt hg hb o.a ha).mono ?_; rintro e wr ⟨he, hd, ht⟩; rw [← HR.out] at he hd; subst he; have Xr := Lib.hid (Turn.kept X0.out ht (fun hF => Nat.lt_irrefl _ (hrl _ hF))); have Pr := Lib.hid (P0.out.racts hd ht); clear hd ht)))
  all_goals (go_wp2; go_ret; exact ⟨rfl, _, _, P2.out⟩)
set_option maxRecDepth 100000 in
set_option maxHeartbeats 1600000 in
theorem stepRename (h : Pair w0 base w Fd Fr p q S S) (hg : Good S) (hb : S.done ≤ 1000000) (z : Int) (o : OpV) (hy : bits BinOp.and IntKind.i64 z 15 = 5) (v : Value) (ha : o.a.length ≤ 9223372036854775807) (hbb : o.b.length ≤ 9223372036854775807) :
    Calls Try.prog 13 #[ptr p, ptr q, .agg #[.int .i64 z, .string (SL o.a), .string (SL o.b), v, .int .i64 o.n]] w (StepTo w0 base p q (renameS S o.a o.b).2) := by
  obtain ⟨r, hr0⟩ : ∃ r, r = renameS S o.a o.b := ⟨_, rfl⟩
  rw [← hr0]
  obtain ⟨w1, hw1⟩ : ∃ w1, w1 = w.alloc (opO z o.a o.b (v) o.n) := ⟨_, rfl⟩
  have b1 : Below w.heap.size w w1 := by rw [hw1]; exact (Below.refl _ _).alloc (Nat.le_refl _) _
  have x1 : w1.heap[w.heap.size]? = some (opO z o.a o.b (v) o.n) := by rw [hw1]; exact heap_alloc_new _ _
  have P0 := Lib.hid ((h.below b1).below ((Below.refl w1.heap.size w1).drew))
  have X0 := Lib.hid (show w1.drew.heap[w.heap.size]? = _ from x1)
  have hwb := h.bs
  have hdl := h.dlt
  have hrl := h.rlt
  obtain ⟨k0, k1, k2, k3, k4⟩ := op_cells x1
  have HR := Lib.hid hr0
  clear h x1 b1
  have hw1' : w.alloc (Obj.cells #[Value.int IntKind.i64 z, Value.string (SL o.a), Value.string (SL o.b), v, Value.int IntKind.i64 o.n] 34) = w1 := hw1.symm
  have HW := Lib.hid hw1'
  clear hw1 hw1' hr0
  go_enter Try.func13, Try.ntmps13
  go_wp2_with fail
  rw [HW.out]

  clear HW k0 k1 k2 k3 k4
  go_region_held3 (fun W => W.cell? ⟨w.heap.size, 1, none⟩ = some (.string (SL o.a)) ∧ W.cell? ⟨w.heap.size, 2, none⟩ = some (.string (SL o.b))) (first | exact ⟨(op_cells X0.out).2.1, (op_cells X0.out).2.2.1⟩ | exact ⟨(op_cells Xd.out).2.1, (op_cells Xd.out).2.2.1⟩ | exact ⟨(op_cells Xr.out).2.1, (op_cells Xr.out).2.2.1⟩ | exact ⟨(op_cells X2.out).2.1, (op_cells X2.out).2.2.1⟩) ((first | (go_at_call 26; refine (dRename Pr.out.d hg hb o.a o.b).mono ?_; rintro e wd ⟨he, hd, ht⟩; rw [← HR.out] at he hd; subst he; have X2 := Lib.hid (Turn.kept Xr.out ht (fun hF => Nat.lt_irrefl _ (hdl _ hF))); have P2 := Lib.hid (Pr.out.acts hd ht); clear hd ht) | (go_at_call 26; refine (dRename P0.out.d hg hb o.a o.b).mono ?_; rintro e wd ⟨he, hd, ht⟩; rw [← HR.out] at he hd; subst he; have Xd := Lib.hid (Turn.kept X0.out ht (fun hF => Nat.lt_irrefl _ (hdl _ hF))); have Pd := Lib.hid (P0.out.acts hd ht); clear hd ht) | (go_at_call 36; refine (rRename Pd.out.r Pd.out.rlt hg hb o.a o.b ha hbb).mono ?_; rintro e wr ⟨he, hd, ht⟩; rw [← HR.out] at he hd; subst he; have X2 := Lib.hid (Turn.kept Xd.out ht (fun hF => Nat.lt_irrefl _ (hrl _ hF))); have P2 := Lib.hid (Pd.out.racts hd ht); clear hd ht) | (go_at_call 36; refine (rRename P0.out.r P0.out.rlt hg hb o.a o.b ha hbb).mono ?_; rintro e wr ⟨he, hd, ht⟩; rw [← HR.out] at he hd; subst he; have Xr := Lib.hid (Turn.kept X0.out ht (fun hF => Nat.lt_irrefl _ (hrl _ hF))); have Pr := Lib.hid (P0.out.racts hd ht); clear hd ht)))
  all_goals (go_wp2; go_ret; exact ⟨rfl, _, _, P2.out⟩)
set_option maxRecDepth 100000 in
set_option maxHeartbeats 1600000 in
theorem stepSync (h : Pair w0 base w Fd Fr p q S S) (hg : Good S) (hb : S.done ≤ 1000000) (z : Int) (o : OpV) (hy : bits BinOp.and IntKind.i64 z 15 = 6) (v : Value) (ha : o.a.length ≤ 9223372036854775807) :
    Calls Try.prog 13 #[ptr p, ptr q, .agg #[.int .i64 z, .string (SL o.a), .string (SL o.b), v, .int .i64 o.n]] w (StepTo w0 base p q (syncS S o.a).2) := by
  obtain ⟨r, hr0⟩ : ∃ r, r = syncS S o.a := ⟨_, rfl⟩
  rw [← hr0]
  obtain ⟨w1, hw1⟩ : ∃ w1, w1 = w.alloc (opO z o.a o.b (v) o.n) := ⟨_, rfl⟩
  have b1 : Below w.heap.size w w1 := by rw [hw1]; exact (Below.refl _ _).alloc (Nat.le_refl _) _
  have x1 : w1.heap[w.heap.size]? = some (opO z o.a o.b (v) o.n) := by rw [hw1]; exact heap_alloc_new _ _
  have P0 := Lib.hid ((h.below b1).below ((Below.refl w1.heap.size w1).drew))
  have X0 := Lib.hid (show w1.drew.heap[w.heap.size]? = _ from x1)
  have hwb := h.bs
  have hdl := h.dlt
  have hrl := h.rlt
  obtain ⟨k0, k1, k2, k3, k4⟩ := op_cells x1
  have HR := Lib.hid hr0
  clear h x1 b1
  have hw1' : w.alloc (Obj.cells #[Value.int IntKind.i64 z, Value.string (SL o.a), Value.string (SL o.b), v, Value.int IntKind.i64 o.n] 34) = w1 := hw1.symm
  have HW := Lib.hid hw1'
  clear hw1 hw1' hr0
  go_enter Try.func13, Try.ntmps13
  go_wp2_with fail
  rw [HW.out]

  clear HW k0 k1 k2 k3 k4
  go_region_held3 (fun W => W.cell? ⟨w.heap.size, 1, none⟩ = some (.string (SL o.a))) (first | exact (op_cells X0.out).2.1 | exact (op_cells Xd.out).2.1 | exact (op_cells Xr.out).2.1 | exact (op_cells X2.out).2.1) ((first | (go_at_call 27; refine (dSync Pr.out.d hg hb o.a).mono ?_; rintro e wd ⟨he, hd, ht⟩; rw [← HR.out] at he hd; subst he; have X2 := Lib.hid (Turn.kept Xr.out ht (fun hF => Nat.lt_irrefl _ (hdl _ hF))); have P2 := Lib.hid (Pr.out.acts hd ht); clear hd ht) | (go_at_call 27; refine (dSync P0.out.d hg hb o.a).mono ?_; rintro e wd ⟨he, hd, ht⟩; rw [← HR.out] at he hd; subst he; have Xd := Lib.hid (Turn.kept X0.out ht (fun hF => Nat.lt_irrefl _ (hdl _ hF))); have Pd := Lib.hid (P0.out.acts hd ht); clear hd ht) | (go_at_call 37; refine (rSync Pd.out.r hg hb o.a ha).mono ?_; rintro e wr ⟨he, hd, ht⟩; rw [← HR.out] at he hd; subst he; have X2 := Lib.hid (Turn.kept Xd.out ht (fun hF => Nat.lt_irrefl _ (hrl _ hF))); have P2 := Lib.hid (Pd.out.racts hd ht); clear hd ht) | (go_at_call 37; refine (rSync P0.out.r hg hb o.a ha).mono ?_; rintro e wr ⟨he, hd, ht⟩; rw [← HR.out] at he hd; subst he; have Xr := Lib.hid (Turn.kept X0.out ht (fun hF => Nat.lt_irrefl _ (hrl _ hF))); have Pr := Lib.hid (P0.out.racts hd ht); clear hd ht)))
  all_goals (go_wp2; go_ret; exact ⟨rfl, _, _, P2.out⟩)
set_option maxRecDepth 100000 in
set_option maxHeartbeats 1600000 in
theorem stepCut (h : Pair w0 base w Fd Fr p q S S) (z : Int) (o : OpV) (hy : bits BinOp.and IntKind.i64 z 15 = 8) (v : Value) (hn : o.n ≤ 9223372036854775807) :
    Calls Try.prog 13 #[ptr p, ptr q, .agg #[.int .i64 z, .string (SL o.a), .string (SL o.b), v, .int .i64 o.n]] w (StepTo w0 base p q (cutS S o.n).2) := by
  obtain ⟨r, hr0⟩ : ∃ r, r = cutS S o.n := ⟨_, rfl⟩
  rw [← hr0]
  obtain ⟨w1, hw1⟩ : ∃ w1, w1 = w.alloc (opO z o.a o.b (v) o.n) := ⟨_, rfl⟩
  have b1 : Below w.heap.size w w1 := by rw [hw1]; exact (Below.refl _ _).alloc (Nat.le_refl _) _
  have x1 : w1.heap[w.heap.size]? = some (opO z o.a o.b (v) o.n) := by rw [hw1]; exact heap_alloc_new _ _
  have P0 := Lib.hid ((h.below b1).below ((Below.refl w1.heap.size w1).drew))
  have X0 := Lib.hid (show w1.drew.heap[w.heap.size]? = _ from x1)
  have hwb := h.bs
  have hdl := h.dlt
  have hrl := h.rlt
  obtain ⟨k0, k1, k2, k3, k4⟩ := op_cells x1
  have HR := Lib.hid hr0
  clear h x1 b1
  have hw1' : w.alloc (Obj.cells #[Value.int IntKind.i64 z, Value.string (SL o.a), Value.string (SL o.b), v, Value.int IntKind.i64 o.n] 34) = w1 := hw1.symm
  have HW := Lib.hid hw1'
  clear hw1 hw1' hr0
  go_enter Try.func13, Try.ntmps13
  go_wp2_with fail
  rw [HW.out]

  clear HW k0 k1 k2 k3 k4
  go_region_held3 (fun W => W.cell? ⟨w.heap.size, 4, none⟩ = some (.int .i64 o.n)) (first | exact (op_cells X0.out).2.2.2.2 | exact (op_cells Xd.out).2.2.2.2 | exact (op_cells Xr.out).2.2.2.2 | exact (op_cells X2.out).2.2.2.2) ((first | (go_at_call 28; refine (dCut Pr.out.d o.n hn).mono ?_; rintro e wd ⟨he, hd, ht⟩; rw [← HR.out] at he hd; subst he; have X2 := Lib.hid (Turn.kept Xr.out ht (fun hF => Nat.lt_irrefl _ (hdl _ hF))); have P2 := Lib.hid (Pr.out.acts hd ht); clear hd ht) | (go_at_call 28; refine (dCut P0.out.d o.n hn).mono ?_; rintro e wd ⟨he, hd, ht⟩; rw [← HR.out] at he hd; subst he; have Xd := Lib.hid (Turn.kept X0.out ht (fun hF => Nat.lt_irrefl _ (hdl _ hF))); have Pd := Lib.hid (P0.out.acts hd ht); clear hd ht) | (go_at_call 40; refine (rCut Pd.out.r o.n).mono ?_; rintro e wr ⟨he, hd, ht⟩; rw [← HR.out] at he hd; subst he; have X2 := Lib.hid (Turn.kept Xd.out ht (fun hF => Nat.lt_irrefl _ (hrl _ hF))); have P2 := Lib.hid (Pd.out.racts hd ht); clear hd ht) | (go_at_call 40; refine (rCut P0.out.r o.n).mono ?_; rintro e wr ⟨he, hd, ht⟩; rw [← HR.out] at he hd; subst he; have Xr := Lib.hid (Turn.kept X0.out ht (fun hF => Nat.lt_irrefl _ (hrl _ hF))); have Pr := Lib.hid (P0.out.racts hd ht); clear hd ht)))
  all_goals (go_wp2; go_ret; exact ⟨rfl, _, _, P2.out⟩)
set_option maxRecDepth 100000 in
set_option maxHeartbeats 1600000 in
theorem stepAppend (h : Pair w0 base w Fd Fr p q S S) (hg : Good S) (hb : S.done ≤ 1000000) (z : Int) (o : OpV) (h4 : ¬ bits BinOp.and IntKind.i64 z 15 = 4) (h5 : ¬ bits BinOp.and IntKind.i64 z 15 = 5) (h6 : ¬ bits BinOp.and IntKind.i64 z 15 = 6) (h7 : ¬ bits BinOp.and IntKind.i64 z 15 = 7) (h8 : ¬ bits BinOp.and IntKind.i64 z 15 = 8) (h9 : ¬ bits BinOp.and IntKind.i64 z 15 = 9) (ao : Option Addr) (cap B off : Nat) (hs : SrcAt w ao cap o.l B off) (hB : 0 < o.l.length → B < base) (ha : o.a.length ≤ 9223372036854775807) :
    Calls Try.prog 13 #[ptr p, ptr q, .agg #[.int .i64 z, .string (SL o.a), .string (SL o.b), .slice ao o.l.length cap, .int .i64 o.n]] w (StepTo w0 base p q (appendS S o.a o.l).2) := by
  obtain ⟨r, hr0⟩ : ∃ r, r = appendS S o.a o.l := ⟨_, rfl⟩
  rw [← hr0]
  obtain ⟨w1, hw1⟩ : ∃ w1, w1 = w.alloc (opO z o.a o.b (.slice ao o.l.length cap) o.n) := ⟨_, rfl⟩
  have b1 : Below w.heap.size w w1 := by rw [hw1]; exact (Below.refl _ _).alloc (Nat.le_refl _) _
  have x1 : w1.heap[w.heap.size]? = some (opO z o.a o.b (.slice ao o.l.length cap) o.n) := by rw [hw1]; exact heap_alloc_new _ _
  have P0 := Lib.hid ((h.below b1).below ((Below.refl w1.heap.size w1).drew))
  have X0 := Lib.hid (show w1.drew.heap[w.heap.size]? = _ from x1)
  have hwb := h.bs
  have hdl := h.dlt
  have hrl := h.rlt
  obtain ⟨K, hK⟩ : ∃ K, K = o.l.length := ⟨_, rfl⟩
  have S0 := Lib.hid (((hs.below b1).below ((Below.refl w1.heap.size w1).drew)))
  have HK := Lib.hid hK
  rw [← hK] at hw1 X0 x1 ⊢
  clear hK hs
  obtain ⟨k0, k1, k2, k3, k4⟩ := op_cells x1
  have HR := Lib.hid hr0
  clear h x1 b1
  have hw1' : w.alloc (Obj.cells #[Value.int IntKind.i64 z, Value.string (SL o.a), Value.string (SL o.b), .slice ao K cap, Value.int IntKind.i64 o.n] 34) = w1 := hw1.symm
  have HW := Lib.hid hw1'
  clear hw1 hw1' hr0
  go_enter Try.func13, Try.ntmps13
  go_wp2_with fail
  rw [HW.out]

  clear HW k0 k1 k2 k3 k4
  go_region_held3 (fun W => W.cell? ⟨w.heap.size, 1, none⟩ = some (.string (SL o.a)) ∧ W.cell? ⟨w.heap.size, 3, none⟩ = some (.slice ao K cap)) (first | exact ⟨(op_cells X0.out).2.1, (op_cells X0.out).2.2.2.1⟩ | exact ⟨(op_cells Xd.out).2.1, (op_cells Xd.out).2.2.2.1⟩ | exact ⟨(op_cells Xr.out).2.1, (op_cells Xr.out).2.2.2.1⟩ | exact ⟨(op_cells X2.out).2.1, (op_cells X2.out).2.2.2.1⟩) ((first | (go_at_call 24; rw [HK.out]; refine (dAppend Pr.out.d Pr.out.dlt hg hb o.a ao cap o.l B off Sr.out (fun hp hF => by have h1 := Pr.out.fd B hF; have h2 := hB hp; omega)).mono ?_; rintro e wd ⟨he, hd, ht⟩; rw [← HR.out] at he hd; subst he; have X2 := Lib.hid (Turn.kept Xr.out ht (fun hF => Nat.lt_irrefl _ (hdl _ hF))); have P2 := Lib.hid (Pr.out.acts hd ht); clear hd ht; rw [← HK.out]) | (go_at_call 24; rw [HK.out]; refine (dAppend P0.out.d P0.out.dlt hg hb o.a ao cap o.l B off S0.out (fun hp hF => by have h1 := P0.out.fd B hF; have h2 := hB hp; omega)).mono ?_; rintro e wd ⟨he, hd, ht⟩; rw [← HR.out] at he hd; subst he; have Xd := Lib.hid (Turn.kept X0.out ht (fun hF => Nat.lt_irrefl _ (hdl _ hF))); have Pd := Lib.hid (P0.out.acts hd ht); have Sd := Lib.hid (S0.out.turn ht (fun hp hF => by have h1 := P0.out.fd B hF; have h2 := hB hp; omega)); clear hd ht; rw [← HK.out]) | (go_at_call 42; rw [HK.out]; refine (rAppend Pd.out.r Pd.out.rlt hg hb o.a ha ao cap o.l B off Sd.out (fun hp hF => by have h1 := Pd.out.fr B hF; have h2 := hB hp; omega)).mono ?_; rintro e wr ⟨he, hd, ht⟩; rw [← HR.out] at he hd; subst he; have X2 := Lib.hid (Turn.kept Xd.out ht (fun hF => Nat.lt_irrefl _ (hrl _ hF))); have P2 := Lib.hid (Pd.out.racts hd ht); clear hd ht; rw [← HK.out]) | (go_at_call 42; rw [HK.out]; refine (rAppend P0.out.r P0.out.rlt hg hb o.a ha ao cap o.l B off S0.out (fun hp hF => by have h1 := P0.out.fr B hF; have h2 := hB hp; omega)).mono ?_; rintro e wr ⟨he, hd, ht⟩; rw [← HR.out] at he hd; subst he; have Xr := Lib.hid (Turn.kept X0.out ht (fun hF => Nat.lt_irrefl _ (hrl _ hF))); have Pr := Lib.hid (P0.out.racts hd ht); have Sr := Lib.hid (S0.out.turn ht (fun hp hF => by have h1 := P0.out.fr B hF; have h2 := hB hp; omega)); clear hd ht; rw [← HK.out])))
  all_goals (go_wp2; go_ret; exact ⟨rfl, _, _, P2.out⟩)
set_option maxRecDepth 100000 in
set_option maxHeartbeats 800000 in
theorem stepOn (h : Pair w0 base w Fd Fr p q S S) (z : Int) (o : OpV) (hy : bits BinOp.and IntKind.i64 z 15 = 9) (v : Value) :
    Calls Try.prog 13 #[ptr p, ptr q, .agg #[.int .i64 z, .string (SL o.a), .string (SL o.b), v, .int .i64 o.n]] w (StepTo w0 base p q (onS S)) := by
  have b1 : ∀ ob : Obj, Below w.heap.size w (w.alloc ob) := fun ob => (Below.refl _ _).alloc (Nat.le_refl _) ob
  go_enter Try.func13, Try.ntmps13
  go_wp2_with (first | (go_at_call 22; refine (dOn (h.below (b1 _)).d).mono ?_; rintro e wd ⟨rfl, hd, ht⟩; have P1 := (h.below (b1 _)).acts hd ht; clear hd ht) | (go_at_call 41; refine (rOn P1.r).mono ?_; rintro e wr ⟨rfl, hd, ht⟩; have P2 := P1.racts hd ht; clear hd ht))
  go_ret
  exact ⟨rfl, _, _, P2⟩
set_option maxRecDepth 100000 in
set_option maxHeartbeats 1600000 in
theorem stepRead (h : Pair w0 base w Fd Fr p q S S) (hg : Good S) (z : Int) (o : OpV) (hy : bits BinOp.and IntKind.i64 z 15 = 7) (v : Value) (ha : o.a.length ≤ 9223372036854775807) :
    Calls Try.prog 13 #[ptr p, ptr q, .agg #[.int .i64 z, .string (SL o.a), .string (SL o.b), v, .int .i64 o.n]] w (StepTo w0 base p q S) := by
  obtain ⟨w1, hw1⟩ : ∃ w1, w1 = w.alloc (opO z o.a o.b v o.n) := ⟨_, rfl⟩
  have b1 : Below w.heap.size w w1 := by rw [hw1]; exact (Below.refl _ _).alloc (Nat.le_refl _) _
  have x1 : w1.heap[w.heap.size]? = some (opO z o.a o.b v o.n) := by rw [hw1]; exact heap_alloc_new _ _
  have P0 := Lib.hid (h.below b1)
  have hw1' : w.alloc (Obj.cells #[Value.int IntKind.i64 z, Value.string (SL o.a), Value.string (SL o.b), v, Value.int IntKind.i64 o.n] 34) = w1 := hw1.symm
  have hxl : w.heap.size < w1.heap.size := (Array.getElem?_eq_some_iff.1 x1).1
  obtain ⟨c, hc⟩ : ∃ c, c = (readS S o.a).1 := ⟨_, rfl⟩
  obtain ⟨t, ht⟩ : ∃ t, t = (readS S o.a).2 := ⟨_, rfl⟩
  obtain ⟨th, hth⟩ : ∃ th, th = thereF o.a S.fs := ⟨_, rfl⟩
  have hR := fun W (P : Pair w0 base W Fd Fr p q S S) => dRead P.d hg o.a
  have hR2 := fun W (P : Pair w0 base W Fd Fr p q S S) => rRead P.r hg o.a ha
  have hH := fun W (P : Pair w0 base W Fd Fr p q S S) => dHas P.d o.a (by unfold maxLen; omega)
  have hH2 := fun W (P : Pair w0 base W Fd Fr p q S S) => rHas P.r hg o.a
  rw [← hc, ← ht] at hR hR2
  rw [← hth] at hH hH2
  have X1 := Lib.hid x1
  obtain ⟨k0, k1, k2, k3, k4⟩ := op_cells x1
  have HW := Lib.hid hw1'
  have HR := Lib.hid hR
  have HR2 := Lib.hid hR2
  have HH := Lib.hid hH
  have HH2 := Lib.hid hH2
  rw [hw1] at k1
  clear hw1 hw1' hc ht hth hR hR2 hH hH2 h x1
  have lt := SL_toList t
  go_enter Try.func13, Try.ntmps13
  go_wp2_with (first
    | (go_at_call 23; rw [HW.out]; refine (HR.out _ P0.out).mono ?_; rintro e w2 ⟨v2, rfl, o2, b2⟩; have P2 := Lib.hid (P0.out.below b2); have X2 := Lib.hid (below_heap b2 X1.out); have m1 := (op_cells X2.out).2.1; obtain ⟨ao2, cap2, B2, rfl, s2, hB2⟩ := src_of_own o2; have O2 := Lib.hid o2; have z2 := b2.size; clear s2 hB2 o2)
    | (go_at_call 38; refine (HR2.out _ P2.out).mono ?_; rintro e w3 ⟨v3, rfl, o3, b3⟩; have P3 := Lib.hid (P2.out.below b3); have X3 := Lib.hid (below_heap b3 X2.out); have m2 := (op_cells X3.out).2.1; have o2' := own_below O2.out b3; obtain ⟨ao3, cap3, B3, rfl, s3, hB3⟩ := src_of_own o3; have O3 := Lib.hid o3; clear s3 hB3 o3))
  have t2 : ∀ n, (convert 32 9 (.slice ao2 t.length cap2)).run Try.prog (w3.drewN n) = .ok (.string (SL t)) (w3.drewN n) := fun n => (BytesAt.of_own (F := fun _ => True) (own_below o2' (below_drewN (Below.refl _ _) n)) (fun _ _ => trivial)).text
  have t3 : ∀ n, (convert 32 9 (.slice ao3 t.length cap3)).run Try.prog (w3.drewN n) = .ok (.string (SL t)) (w3.drewN n) := fun n => (BytesAt.of_own (F := fun _ => True) (own_below O3.out (below_drewN (Below.refl _ _) n)) (fun _ _ => trivial)).text
  have PN := Lib.hid (fun n => P3.out.below (below_drewN (Below.refl _ w3) n))
  clear o2' k0 k1 k2 k3 k4 m1
  go_quiet (first | (go_at_call 29; exact Calls.quiet_of_same (HH.out _ (PN.out _))) | (go_at_call 39; exact Calls.quiet_of (HH2.out _ (PN.out _))))
  go_wp2
  go_ret
  exact ⟨rfl, _, _, PN.out nq⟩
theorem step_any (h : Two w0 base w p q S) (hg : Good S) (hb : S.done ≤ 1000000) (z : Int) (o : OpV) (v : Value) (hv : BytesAt w (fun k => k < base) v o.l) (ha : o.a.length ≤ 9223372036854775807) (hbb : o.b.length ≤ 9223372036854775807) (hn : o.n ≤ 9223372036854775807) :
    Calls Try.prog 13 #[ptr p, ptr q, .agg #[.int .i64 z, .string (SL o.a), .string (SL o.b), v, .int .i64 o.n]] w (StepTo w0 base p q (stepS (bits BinOp.and IntKind.i64 z 15) S o)) := by
  obtain ⟨Fd, Fr, h⟩ := h
  unfold stepS
  by_cases h4 : bits BinOp.and IntKind.i64 z 15 = 4
  · rw [if_pos h4]; exact stepRemove h hg hb z o h4 v ha
  rw [if_neg h4]
  by_cases h5 : bits BinOp.and IntKind.i64 z 15 = 5
  · rw [if_pos h5]; exact stepRename h hg hb z o h5 v ha hbb
  rw [if_neg h5]
  by_cases h6 : bits BinOp.and IntKind.i64 z 15 = 6
  · rw [if_pos h6]; exact stepSync h hg hb z o h6 v ha
  rw [if_neg h6]
  by_cases h7 : bits BinOp.and IntKind.i64 z 15 = 7
  · rw [if_pos h7]; exact stepRead h hg z o h7 v ha
  rw [if_neg h7]
  by_cases h8 : bits BinOp.and IntKind.i64 z 15 = 8
  · rw [if_pos h8]; exact stepCut h z o h8 v hn
  rw [if_neg h8]
  by_cases h9 : bits BinOp.and IntKind.i64 z 15 = 9
  · rw [if_pos h9]; exact stepOn h z o h9 v
  rw [if_neg h9]
  obtain ⟨ao, cap, B, off, rfl, hs, hB⟩ := hv
  exact stepAppend h hg hb z o h4 h5 h6 h7 h8 h9 ao cap B off hs hB ha
end
end Go.Proofs.Ytmblkojilckobaa
