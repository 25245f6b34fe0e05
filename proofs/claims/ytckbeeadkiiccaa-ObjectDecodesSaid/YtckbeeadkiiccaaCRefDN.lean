/- The document's Decode where the first byte is no kind. Written by wip/tools/mk_refdec.py. -/
import Derived.Test.YtckbeeadkiiccaaCRefD
import Derived.Test.YtckbeeadkiiccaaCDecTo
import Derived.Deep.RegionHeld3
namespace Go.Proofs.Ytckbeeadkiiccaa
open Go.RowKit
set_option maxRecDepth 100000 in
set_option maxHeartbeats 16000000 in
theorem refDec_N (ao : Option Addr) (cap B off : Nat) (c : UInt8) (r : OB) (w : World) (h : SrcAt w ao cap (c :: r) B off) (hl : (c :: r).length ≤ 140737488355328) (k1 : ¬ c.toNat = 1) (k2 : ¬ c.toNat = 2) (k3 : ¬ c.toNat = 3) (k4 : ¬ c.toNat = 4) :
    Calls Try.prog 23 #[.slice ao (c :: r).length cap] w (DecTo (c :: r) w) := by
  have hrl : r.length ≤ 140737488355328 := by rw [List.length_cons] at hl; omega
  have hfit := rdO_fits c.toNat r hrl
  have hdd := decO_cons c r
  rw [show rdO c.toNat r = (zeroO (c.toNat : Int), (r, false)) by unfold rdO; rw [if_neg k1, if_neg k2, if_neg k3, if_neg k4]] at hfit hdd
  obtain ⟨K, hK⟩ : ∃ K : Int, K = (c.toNat : Int) := ⟨_, rfl⟩
  rw [← hK] at hfit hdd
  have q1 : (K == 1) = false := by simp; omega
  have p1 : ¬ K = 1 := by omega
  have q2 : (K == 2) = false := by simp; omega
  have p2 : ¬ K = 2 := by omega
  have q3 : (K == 3) = false := by simp; omega
  have p3 : ¬ K = 3 := by omega
  have q4 : (K == 4) = false := by simp; omega
  have p4 : ¬ K = 4 := by omega
  have q0 : wrap64 K = K := IntWalk.wrap64_in _ ⟨by omega, by have := c.toNat_lt; omega⟩
  replace hdd : decO (c :: r) = if (r, false).2 = true ∨ okO (zeroO K : ObjR) = false ∨ encO (zeroO K : ObjR) ≠ c :: r then none else some (zeroO K : ObjR) := by
    exact hdd
  replace hfit : ObjFits (zeroO K : ObjR) := by
    exact hfit
  obtain ⟨o, ho⟩ : ∃ o, o = (zeroO K : ObjR) := ⟨_, rfl⟩
  rw [← ho] at hdd
  have HO := Lib.hid ho
  clear ho 
  obtain ⟨al, hsl, sl⟩ := h.slice_l 1 (by simp)
  have hsrc := h.src (by simp)
  have hold := h.old (by simp)
  have hc0 := h.cell 0 (by simp)
  simp only [List.getD_cons_zero, Nat.add_zero] at hc0
  rw [List.drop_succ_cons, List.drop_zero] at sl
  rw [← hK] at hc0
  subst hsrc
  have hsb := fun (W : World) (hb : Below w.heap.size w W) => h.below hb
  obtain ⟨m, hm⟩ : ∃ m, m = r.length := ⟨_, rfl⟩
  obtain ⟨n, hn⟩ : ∃ n, n = (c :: r).length := ⟨_, rfl⟩
  have hnm : n - 1 = m := by rw [hn, hm]; simp
  have hn0 : 0 < n := by rw [hn]; simp
  rw [← hn, hnm] at hsl
  rw [← hn]
  have i0 : ((n : Int) == 0) = false := by simp; omega
  have i1 : (0 : Int) < (n : Int) := by omega
  have hsl : ∀ W : World, (Instr.slice 22 (.slice (some ⟨B, off, none⟩) n cap) (some (.int .i64 1)) none none).run Try.prog W = .ok (.slice al m (cap - 1)) W := hsl
  have b1 : Below w.heap.size w (w.alloc (.cells #[.int .i64 0, .slice none 0 0, .slice none 0 0, .string ⟨#[]⟩, .slice none 0 0, .string ⟨#[]⟩, .string ⟨#[]⟩, .string ⟨#[]⟩, .int .i64 0, .string ⟨#[]⟩] 26)) := (Below.refl _ _).alloc (Nat.le_refl _) _
  have b2 : Below w.heap.size w ((w.alloc (.cells #[.int .i64 0, .slice none 0 0, .slice none 0 0, .string ⟨#[]⟩, .slice none 0 0, .string ⟨#[]⟩, .string ⟨#[]⟩, .string ⟨#[]⟩, .int .i64 0, .string ⟨#[]⟩] 26)).alloc (.cells #[.slice al m (cap - 1), .bool false] 72)) := b1.alloc b1.size _
  have c0 : ((w.alloc (.cells #[.int .i64 0, .slice none 0 0, .slice none 0 0, .string ⟨#[]⟩, .slice none 0 0, .string ⟨#[]⟩, .string ⟨#[]⟩, .string ⟨#[]⟩, .int .i64 0, .string ⟨#[]⟩] 26)).alloc (.cells #[.slice al m (cap - 1), .bool false] 72)).cell? ⟨B, off, none⟩ = some (.int .u8 K) := (b2.cell (p := ⟨B, off, none⟩) hold).trans hc0
  obtain ⟨W3, hW3⟩ : ∃ W, W = ((w.alloc (.cells #[.int .i64 0, .slice none 0 0, .slice none 0 0, .string ⟨#[]⟩, .slice none 0 0, .string ⟨#[]⟩, .string ⟨#[]⟩, .string ⟨#[]⟩, .int .i64 0, .string ⟨#[]⟩] 26)).alloc (.cells #[.slice al m (cap - 1), .bool false] 72)).alloc (.cells #[.int .i64 K, .slice none 0 0, .slice none 0 0, .string ⟨#[]⟩, .slice none 0 0, .string ⟨#[]⟩, .string ⟨#[]⟩, .string ⟨#[]⟩, .int .i64 0, .string ⟨#[]⟩] 26) := ⟨_, rfl⟩
  have hst : DecSt w w.heap.size (w.heap.size + 1) (w.heap.size + 1 + 1) (fun k => k = w.heap.size + 1 + 1) (r, false) (objC (zeroO K) (.slice none 0 0) (.slice none 0 0) (.slice none 0 0)) W3 := by
    have s1 : (w.alloc (.cells #[.int .i64 0, .slice none 0 0, .slice none 0 0, .string ⟨#[]⟩, .slice none 0 0, .string ⟨#[]⟩, .string ⟨#[]⟩, .string ⟨#[]⟩, .int .i64 0, .string ⟨#[]⟩] 26)).heap.size = w.heap.size + 1 := by simp
    have s2 : ((w.alloc (.cells #[.int .i64 0, .slice none 0 0, .slice none 0 0, .string ⟨#[]⟩, .slice none 0 0, .string ⟨#[]⟩, .string ⟨#[]⟩, .string ⟨#[]⟩, .int .i64 0, .string ⟨#[]⟩] 26)).alloc (.cells #[.slice al m (cap - 1), .bool false] 72)).heap.size = w.heap.size + 1 + 1 := by simp
    have d2 : Below (w.heap.size + 1) (w.alloc (.cells #[.int .i64 0, .slice none 0 0, .slice none 0 0, .string ⟨#[]⟩, .slice none 0 0, .string ⟨#[]⟩, .string ⟨#[]⟩, .string ⟨#[]⟩, .int .i64 0, .string ⟨#[]⟩] 26)) ((w.alloc (.cells #[.int .i64 0, .slice none 0 0, .slice none 0 0, .string ⟨#[]⟩, .slice none 0 0, .string ⟨#[]⟩, .string ⟨#[]⟩, .string ⟨#[]⟩, .int .i64 0, .string ⟨#[]⟩] 26)).alloc (.cells #[.slice al m (cap - 1), .bool false] 72)) := (Below.refl _ _).alloc (by simp) _
    have d3 : Below (w.heap.size + 1 + 1) ((w.alloc (.cells #[.int .i64 0, .slice none 0 0, .slice none 0 0, .string ⟨#[]⟩, .slice none 0 0, .string ⟨#[]⟩, .string ⟨#[]⟩, .string ⟨#[]⟩, .int .i64 0, .string ⟨#[]⟩] 26)).alloc (.cells #[.slice al m (cap - 1), .bool false] 72)) W3 := by rw [hW3]; exact (Below.refl _ _).alloc (by simp) _
    have x1 : (w.alloc (.cells #[.int .i64 0, .slice none 0 0, .slice none 0 0, .string ⟨#[]⟩, .slice none 0 0, .string ⟨#[]⟩, .string ⟨#[]⟩, .string ⟨#[]⟩, .int .i64 0, .string ⟨#[]⟩] 26)).heap[w.heap.size]? = some (.cells #[.int .i64 0, .slice none 0 0, .slice none 0 0, .string ⟨#[]⟩, .slice none 0 0, .string ⟨#[]⟩, .string ⟨#[]⟩, .string ⟨#[]⟩, .int .i64 0, .string ⟨#[]⟩] 26 (0, 0)) := heap_alloc_new w _
    have x2 : ((w.alloc (.cells #[.int .i64 0, .slice none 0 0, .slice none 0 0, .string ⟨#[]⟩, .slice none 0 0, .string ⟨#[]⟩, .string ⟨#[]⟩, .string ⟨#[]⟩, .int .i64 0, .string ⟨#[]⟩] 26)).alloc (.cells #[.slice al m (cap - 1), .bool false] 72)).heap[w.heap.size + 1]? = some (.cells #[.slice al m (cap - 1), .bool false] 72 (0, 0)) := by
      have := heap_alloc_new (w.alloc (.cells #[.int .i64 0, .slice none 0 0, .slice none 0 0, .string ⟨#[]⟩, .slice none 0 0, .string ⟨#[]⟩, .string ⟨#[]⟩, .string ⟨#[]⟩, .int .i64 0, .string ⟨#[]⟩] 26)) (.cells #[.slice al m (cap - 1), .bool false] 72)
      rw [s1] at this
      exact this
    have x3 : W3.heap[w.heap.size + 1 + 1]? = some (.cells #[.int .i64 K, .slice none 0 0, .slice none 0 0, .string ⟨#[]⟩, .slice none 0 0, .string ⟨#[]⟩, .string ⟨#[]⟩, .string ⟨#[]⟩, .int .i64 0, .string ⟨#[]⟩] 26 (0, 0)) := by
      have := heap_alloc_new ((w.alloc (.cells #[.int .i64 0, .slice none 0 0, .slice none 0 0, .string ⟨#[]⟩, .slice none 0 0, .string ⟨#[]⟩, .string ⟨#[]⟩, .string ⟨#[]⟩, .int .i64 0, .string ⟨#[]⟩] 26)).alloc (.cells #[.slice al m (cap - 1), .bool false] 72)) (.cells #[.int .i64 K, .slice none 0 0, .slice none 0 0, .string ⟨#[]⟩, .slice none 0 0, .string ⟨#[]⟩, .string ⟨#[]⟩, .string ⟨#[]⟩, .int .i64 0, .string ⟨#[]⟩] 26)
      rw [s2, ← hW3] at this
      exact this
    rw [← s2] at d3
    rw [← s1] at d2
    have bb : Below w.heap.size w W3 := b2.trans (d3.mono (by rw [s2]; omega))
    refine ⟨below_turn d3 (below_turn d2 x1), ⟨al, cap - 1, B, off + 1, by rw [← hm]; exact below_turn d3 x2, sl.below bb, fun _ => ⟨by omega, by omega⟩⟩, x3, bb, by omega, by omega, rfl⟩
  have SB := Lib.hid hsb
  have HW := Lib.hid hW3
  have ST := Lib.hid hst
  have FIT := Lib.hid hfit
  have DD := Lib.hid hdd
  have HN := Lib.hid hn
  have HL := Lib.hid hrl
  have HM := Lib.hid hm
  clear hsb hW3 hst hfit hdd b1 b2 hc0 h sl hl hn hrl hold hnm hm k1 k2 k3 k4 hK
  go_enter Try.func23, Try.ntmps23
  go_wp2_with fail
  rw [← HW.out]
  have I0 : Hid (ObjIn W3 (fun k => w.heap.size + 1 + 1 < k) (zeroO K : ObjR) (.slice none 0 0) (.slice none 0 0) (.slice none 0 0)) := Lib.hid ⟨bytesAt_nil _ _, entsAt_nil _ _, textsAt_nil _ _⟩
  have hrow := ST.out.obj
  have hrow : W3.heap[w.heap.size + 1 + 1]? = some (.cells #[.int .i64 K, .slice none 0 0, .slice none 0 0, .string ⟨#[]⟩, .slice none 0 0, .string ⟨#[]⟩, .string ⟨#[]⟩, .string ⟨#[]⟩, .int .i64 0, .string ⟨#[]⟩] 26 (0, 0)) := hrow
  have henc : Calls Try.prog 14 #[.agg #[.int .i64 K, .slice none 0 0, .slice none 0 0, .string ⟨#[]⟩, .slice none 0 0, .string ⟨#[]⟩, .string ⟨#[]⟩, .string ⟨#[]⟩, .int .i64 0, .string ⟨#[]⟩]] W3 fun e w' => ∃ v, e = .returned (.tuple #[v, .int .i64 (errO o)]) ∧ OutAt W3.heap.size w' v (bytesO o) ∧ Below W3.heap.size W3 w' := by
    rw [HO.out]
    exact refEncode_any (fun k => w.heap.size + 1 + 1 < k) (zeroO K : ObjR) (.slice none 0 0) (.slice none 0 0) (.slice none 0 0) W3 I0.out FIT.out
  obtain ⟨s0, s1, s2, s3, s4, s5, s6, s7, s8, s9⟩ := obj_cells hrow
  obtain ⟨bad, hbad⟩ : ∃ x, x = (r, false).2 := ⟨_, rfl⟩
  have HBAD := Lib.hid hbad
  have DD : Hid (decO (c :: r) = if bad = true ∨ okO o = false ∨ encO o ≠ c :: r then none else some o) := Lib.hid (by subst hbad; exact DD.out)
  clear hrow hbad
  cases hb : bad with
  | true =>
    have HENC := Lib.hid henc
    clear henc
    go_wp2_with fail
    refine HENC.out.mono ?_
    rintro e y1 ⟨v1, rfl, o1, b1⟩
    obtain ⟨ay, cy, By, rfl, sy, _⟩ := OutAt.src o1
    have S7 := Lib.hid (ST.out.low (Turn.of_below (fun _ => False) b1) (fun k hk => hk.elim))
    have B7 := Lib.hid b1
    obtain ⟨_, _, _, _, hrd, _, _⟩ := S7.out.rd
    obtain ⟨_, p1, _⟩ := rd_cells hrd
    rw [← HBAD.out, hb] at p1
    have qr : y1.heap[w.heap.size]? = some (.cells #[.int .i64 0, .slice none 0 0, .slice none 0 0, .string ⟨#[]⟩, .slice none 0 0, .string ⟨#[]⟩, .string ⟨#[]⟩, .string ⟨#[]⟩, .int .i64 0, .string ⟨#[]⟩] 26 (0, 0)) := S7.out.res
    obtain ⟨u0, u1, u2, u3, u4, u5, u6, u7, u8, u9⟩ := obj_cells qr
    have f0 := obj_fz qr
    clear b1 o1 sy hrd
    go_wp2_with fail
    obtain ⟨g9, gt⟩ := ten_set y1 w.heap.size 26 (.int .i64 0) (.slice none 0 0) (.slice none 0 0) (.string ⟨#[]⟩) (.slice none 0 0) (.string ⟨#[]⟩) (.string ⟨#[]⟩) (.string ⟨#[]⟩) (.int .i64 0) (.string ⟨#[]⟩) (.int .i64 0) (.slice none 0 0) (.slice none 0 0) (.string ⟨#[]⟩) (.slice none 0 0) (.string ⟨#[]⟩) (.string ⟨#[]⟩) (.string ⟨#[]⟩) (.int .i64 0) (.string ⟨#[]⟩) qr
    have hld := run_loadVar_row (P := Try.prog) _ w.heap.size 26 26 #[.int .i64 0, .slice none 0 0, .slice none 0 0, .string ⟨#[]⟩, .slice none 0 0, .string ⟨#[]⟩, .string ⟨#[]⟩, .string ⟨#[]⟩, .int .i64 0, .string ⟨#[]⟩] (0, 0) _ g9 Try.underlying26 rfl (by kernel_rfl)
    have BQz := S7.out.below.trans (gt.below (Nat.le_of_lt (Array.getElem?_eq_some_iff.1 qr).1) (fun k e => Nat.le_of_eq e.symm))
    refine bodyPost_ret (v := .tuple #[.agg #[.int .i64 0, .slice none 0 0, .slice none 0 0, .string ⟨#[]⟩, .slice none 0 0, .string ⟨#[]⟩, .string ⟨#[]⟩, .string ⟨#[]⟩, .int .i64 0, .string ⟨#[]⟩], .int .i64 2]) ?_ rfl ?_
    · rw [results_cell_tmp rfl]
      simp [asAddr, Result.andThen, hld]
    · refine ⟨BQz, ?_⟩
      rw [DD.out, if_pos (.inl hb)]
      rfl
  | false =>
    cases hok : okO o with
    | false =>
      have e1 : errO o = 1 := by unfold errO; rw [hok]; rfl
      rw [e1] at henc
      have HENC := Lib.hid henc
      clear henc
      go_wp2_with fail
      refine HENC.out.mono ?_
      rintro e y1 ⟨v1, rfl, o1, b1⟩
      obtain ⟨ay, cy, By, rfl, sy, _⟩ := OutAt.src o1
      have S7 := Lib.hid (ST.out.low (Turn.of_below (fun _ => False) b1) (fun k hk => hk.elim))
      have B7 := Lib.hid b1
      obtain ⟨_, _, _, _, hrd, _, _⟩ := S7.out.rd
      obtain ⟨_, p1, _⟩ := rd_cells hrd
      rw [← HBAD.out, hb] at p1
      have qr : y1.heap[w.heap.size]? = some (.cells #[.int .i64 0, .slice none 0 0, .slice none 0 0, .string ⟨#[]⟩, .slice none 0 0, .string ⟨#[]⟩, .string ⟨#[]⟩, .string ⟨#[]⟩, .int .i64 0, .string ⟨#[]⟩] 26 (0, 0)) := S7.out.res
      obtain ⟨u0, u1, u2, u3, u4, u5, u6, u7, u8, u9⟩ := obj_cells qr
      have f0 := obj_fz qr
      clear b1 o1 sy hrd
      go_wp2_with fail
      obtain ⟨g9, gt⟩ := ten_set y1 w.heap.size 26 (.int .i64 0) (.slice none 0 0) (.slice none 0 0) (.string ⟨#[]⟩) (.slice none 0 0) (.string ⟨#[]⟩) (.string ⟨#[]⟩) (.string ⟨#[]⟩) (.int .i64 0) (.string ⟨#[]⟩) (.int .i64 0) (.slice none 0 0) (.slice none 0 0) (.string ⟨#[]⟩) (.slice none 0 0) (.string ⟨#[]⟩) (.string ⟨#[]⟩) (.string ⟨#[]⟩) (.int .i64 0) (.string ⟨#[]⟩) qr
      have hld := run_loadVar_row (P := Try.prog) _ w.heap.size 26 26 #[.int .i64 0, .slice none 0 0, .slice none 0 0, .string ⟨#[]⟩, .slice none 0 0, .string ⟨#[]⟩, .string ⟨#[]⟩, .string ⟨#[]⟩, .int .i64 0, .string ⟨#[]⟩] (0, 0) _ g9 Try.underlying26 rfl (by kernel_rfl)
      have BQz := S7.out.below.trans (gt.below (Nat.le_of_lt (Array.getElem?_eq_some_iff.1 qr).1) (fun k e => Nat.le_of_eq e.symm))
      refine bodyPost_ret (v := .tuple #[.agg #[.int .i64 0, .slice none 0 0, .slice none 0 0, .string ⟨#[]⟩, .slice none 0 0, .string ⟨#[]⟩, .string ⟨#[]⟩, .string ⟨#[]⟩, .int .i64 0, .string ⟨#[]⟩], .int .i64 2]) ?_ rfl ?_
      · rw [results_cell_tmp rfl]
        simp [asAddr, Result.andThen, hld]
      · refine ⟨BQz, ?_⟩
        rw [DD.out, if_pos (.inr (.inl hok))]
        rfl
    | true =>
      have e1 : errO o = 0 := by unfold errO; rw [hok]; rfl
      have e2 : bytesO o = encO o := by unfold bytesO; rw [hok]; rfl
      rw [e1, e2] at henc
      by_cases heq : encO o = c :: r
      · have HEQ := Lib.hid heq
        have HENC := Lib.hid henc
        clear henc
        go_wp2_with fail
        refine HENC.out.mono ?_
        rintro e y1 ⟨v1, rfl, o1, b1⟩
        obtain ⟨ay, cy, By, rfl, sy, _⟩ := OutAt.src o1
        have S7 := Lib.hid (ST.out.low (Turn.of_below (fun _ => False) b1) (fun k hk => hk.elim))
        have B7 := Lib.hid b1
        obtain ⟨_, _, _, _, hrd, _, _⟩ := S7.out.rd
        obtain ⟨_, p1, _⟩ := rd_cells hrd
        rw [← HBAD.out, hb] at p1
        have hsame := same_any y1 sy (SB.out y1 S7.out.below)
        rw [decide_eq_true heq, ← HN.out] at hsame
        have HS := Lib.hid hsame
        clear hsame heq
        have qr : y1.heap[w.heap.size]? = some (.cells #[.int .i64 0, .slice none 0 0, .slice none 0 0, .string ⟨#[]⟩, .slice none 0 0, .string ⟨#[]⟩, .string ⟨#[]⟩, .string ⟨#[]⟩, .int .i64 0, .string ⟨#[]⟩] 26 (0, 0)) := S7.out.res
        obtain ⟨u0, u1, u2, u3, u4, u5, u6, u7, u8, u9⟩ := obj_cells qr
        have f0 := obj_fz qr
        have hrow : y1.heap[w.heap.size + 1 + 1]? = some (.cells #[.int .i64 K, .slice none 0 0, .slice none 0 0, .string ⟨#[]⟩, .slice none 0 0, .string ⟨#[]⟩, .string ⟨#[]⟩, .string ⟨#[]⟩, .int .i64 0, .string ⟨#[]⟩] 26 (0, 0)) := S7.out.obj
        obtain ⟨s0, s1, s2, s3, s4, s5, s6, s7, s8, s9⟩ := obj_cells hrow
        clear b1 o1 sy hrd hrow
        go_wp2_with (go_at_call 17; refine HS.out.mono ?_; rintro e y2 ⟨rfl, hy⟩; have hy := hy.symm; subst hy)
        obtain ⟨g9, gt⟩ := ten_set y1 w.heap.size 26 (.int .i64 0) (.slice none 0 0) (.slice none 0 0) (.string ⟨#[]⟩) (.slice none 0 0) (.string ⟨#[]⟩) (.string ⟨#[]⟩) (.string ⟨#[]⟩) (.int .i64 0) (.string ⟨#[]⟩) (.int .i64 K) (.slice none 0 0) (.slice none 0 0) (.string ⟨#[]⟩) (.slice none 0 0) (.string ⟨#[]⟩) (.string ⟨#[]⟩) (.string ⟨#[]⟩) (.int .i64 0) (.string ⟨#[]⟩) qr
        have hld := run_loadVar_row (P := Try.prog) _ w.heap.size 26 26 #[.int .i64 K, .slice none 0 0, .slice none 0 0, .string ⟨#[]⟩, .slice none 0 0, .string ⟨#[]⟩, .string ⟨#[]⟩, .string ⟨#[]⟩, .int .i64 0, .string ⟨#[]⟩] (0, 0) _ g9 Try.underlying26 rfl (by kernel_rfl)
        have BQz := S7.out.below.trans (gt.below (Nat.le_of_lt (Array.getElem?_eq_some_iff.1 qr).1) (fun k e => Nat.le_of_eq e.symm))
        refine bodyPost_ret (v := .tuple #[.agg #[.int .i64 K, .slice none 0 0, .slice none 0 0, .string ⟨#[]⟩, .slice none 0 0, .string ⟨#[]⟩, .string ⟨#[]⟩, .string ⟨#[]⟩, .int .i64 0, .string ⟨#[]⟩], .int .i64 0]) ?_ rfl ?_
        · rw [results_cell_tmp rfl]
          simp [asAddr, Result.andThen, hld]
        · refine ⟨BQz, ?_⟩
          rw [DD.out, if_neg (by rw [hb, hok]; rintro (h | h | h) <;> first | exact Bool.noConfusion h | exact h HEQ.out)]
          refine ⟨.slice none 0 0, .slice none 0 0, .slice none 0 0, ?_, ?_⟩
          · rw [HO.out]; rfl
          · rw [HO.out]
            exact (I0.out.turn ((Turn.of_below (fun k => k = w.heap.size) B7.out).trans gt) (fun k hk e => by have h1 : w.heap.size + 1 + 1 < k := hk; have h2 : k = w.heap.size := e; omega)).mono (fun k _ hk => by have h1 : w.heap.size + 1 + 1 < k := hk; show w.heap.size ≤ k; omega)
      · have hne := heq
        have HNE := Lib.hid hne
        have HENC := Lib.hid henc
        clear henc
        go_wp2_with fail
        refine HENC.out.mono ?_
        rintro e y1 ⟨v1, rfl, o1, b1⟩
        obtain ⟨ay, cy, By, rfl, sy, _⟩ := OutAt.src o1
        have S7 := Lib.hid (ST.out.low (Turn.of_below (fun _ => False) b1) (fun k hk => hk.elim))
        have B7 := Lib.hid b1
        obtain ⟨_, _, _, _, hrd, _, _⟩ := S7.out.rd
        obtain ⟨_, p1, _⟩ := rd_cells hrd
        rw [← HBAD.out, hb] at p1
        have hsame := same_any y1 sy (SB.out y1 S7.out.below)
        rw [decide_eq_false hne, ← HN.out] at hsame
        have HS := Lib.hid hsame
        clear hsame hne heq
        have qr : y1.heap[w.heap.size]? = some (.cells #[.int .i64 0, .slice none 0 0, .slice none 0 0, .string ⟨#[]⟩, .slice none 0 0, .string ⟨#[]⟩, .string ⟨#[]⟩, .string ⟨#[]⟩, .int .i64 0, .string ⟨#[]⟩] 26 (0, 0)) := S7.out.res
        obtain ⟨u0, u1, u2, u3, u4, u5, u6, u7, u8, u9⟩ := obj_cells qr
        have f0 := obj_fz qr
        clear b1 o1 sy hrd
        go_wp2_with (go_at_call 17; refine HS.out.mono ?_; rintro e y2 ⟨rfl, hy⟩; have hy := hy.symm; subst hy)
        obtain ⟨g9, gt⟩ := ten_set y1 w.heap.size 26 (.int .i64 0) (.slice none 0 0) (.slice none 0 0) (.string ⟨#[]⟩) (.slice none 0 0) (.string ⟨#[]⟩) (.string ⟨#[]⟩) (.string ⟨#[]⟩) (.int .i64 0) (.string ⟨#[]⟩) (.int .i64 0) (.slice none 0 0) (.slice none 0 0) (.string ⟨#[]⟩) (.slice none 0 0) (.string ⟨#[]⟩) (.string ⟨#[]⟩) (.string ⟨#[]⟩) (.int .i64 0) (.string ⟨#[]⟩) qr
        have hld := run_loadVar_row (P := Try.prog) _ w.heap.size 26 26 #[.int .i64 0, .slice none 0 0, .slice none 0 0, .string ⟨#[]⟩, .slice none 0 0, .string ⟨#[]⟩, .string ⟨#[]⟩, .string ⟨#[]⟩, .int .i64 0, .string ⟨#[]⟩] (0, 0) _ g9 Try.underlying26 rfl (by kernel_rfl)
        have BQz := S7.out.below.trans (gt.below (Nat.le_of_lt (Array.getElem?_eq_some_iff.1 qr).1) (fun k e => Nat.le_of_eq e.symm))
        refine bodyPost_ret (v := .tuple #[.agg #[.int .i64 0, .slice none 0 0, .slice none 0 0, .string ⟨#[]⟩, .slice none 0 0, .string ⟨#[]⟩, .string ⟨#[]⟩, .string ⟨#[]⟩, .int .i64 0, .string ⟨#[]⟩], .int .i64 2]) ?_ rfl ?_
        · rw [results_cell_tmp rfl]
          simp [asAddr, Result.andThen, hld]
        · refine ⟨BQz, ?_⟩
          rw [DD.out, if_pos (.inr (.inr HNE.out))]
          rfl
end Go.Proofs.Ytckbeeadkiiccaa
