/- The document's Decode where the first byte is 1. Written by wip/tools/mk_refdec.py. -/
import Derived.Test.YtckbeeadkiiccaaCRefD
import Derived.Test.YtckbeeadkiiccaaCDecTo
import Derived.Test.YtckbeeadkiiccaaCRefDS
import Derived.Deep.RegionHeld3
import Derived.Deep.RegionLaw
import Derived.Deep.CutBlock
import Derived.Deep.Cut
namespace Go.Proofs.Ytckbeeadkiiccaa
open Go.RowKit
set_option maxRecDepth 100000 in
set_option maxHeartbeats 16000000 in
theorem refDec_1 (ao : Option Addr) (cap B off : Nat) (c : UInt8) (r : OB) (w : World) (h : SrcAt w ao cap (c :: r) B off) (hl : (c :: r).length ≤ 140737488355328) (hk : c.toNat = 1) :
    Calls Try.prog 23 #[.slice ao (c :: r).length cap] w (DecTo (c :: r) w) := by
  have hrl : r.length ≤ 140737488355328 := by rw [List.length_cons] at hl; omega
  have hfit := rdO_fits c.toNat r hrl
  have hdd := decO_cons c r
  rw [hk, show rdO 1 r = ({ zeroO 1 with data := r }, (r, false)) from rfl] at hfit hdd
  replace hdd : decO (c :: r) = if (r, false).2 = true ∨ okO ({ zeroO 1 with data := r } : ObjR) = false ∨ encO ({ zeroO 1 with data := r } : ObjR) ≠ c :: r then none else some ({ zeroO 1 with data := r } : ObjR) := by
    exact hdd
  replace hfit : ObjFits ({ zeroO 1 with data := r } : ObjR) := by
    exact hfit
  obtain ⟨o, ho⟩ : ∃ o, o = ({ zeroO 1 with data := r } : ObjR) := ⟨_, rfl⟩
  rw [← ho] at hdd
  have HO := Lib.hid ho
  clear ho 
  obtain ⟨al, hsl, sl⟩ := h.slice_l 1 (by simp)
  have hsrc := h.src (by simp)
  have hold := h.old (by simp)
  have hc0 := h.cell 0 (by simp)
  simp only [List.getD_cons_zero, Nat.add_zero] at hc0
  rw [List.drop_succ_cons, List.drop_zero] at sl
  rw [hk] at hc0
  have hc0 : w.cell? ⟨B, off, none⟩ = some (.int .u8 1) := hc0
  subst hsrc
  have hsb := fun (W : World) (hb : Below w.heap.size w W) => h.below hb
  obtain ⟨m, hm⟩ : ∃ m, m = r.length := ⟨_, rfl⟩
  obtain ⟨n, hn⟩ : ∃ n, n = (c :: r).length := ⟨_, rfl⟩
  have hnm : n - 1 = m := by rw [hn, hm]; simp
  have hn0 : 0 < n := by rw [hn]; simp
  rw [← hn, hnm] at hsl
  rw [← hn]
  have i0 : ((n : Int) == 0) = false := by simp; omega
  have i1 : (0 : Int) < (n : Int) := by omega
  have hsl : ∀ W : World, (Instr.slice 22 (.slice (some ⟨B, off, none⟩) n cap) (some (.int .i64 1)) none none).run Try.prog W = .ok (.slice al m (cap - 1)) W := hsl
  have b1 : Below w.heap.size w (w.alloc (.cells #[.int .i64 0, .slice none 0 0, .slice none 0 0, .string ⟨#[]⟩, .slice none 0 0, .string ⟨#[]⟩, .string ⟨#[]⟩, .string ⟨#[]⟩, .int .i64 0, .string ⟨#[]⟩] 26)) := (Below.refl _ _).alloc (Nat.le_refl _) _
  have b2 : Below w.heap.size w ((w.alloc (.cells #[.int .i64 0, .slice none 0 0, .slice none 0 0, .string ⟨#[]⟩, .slice none 0 0, .string ⟨#[]⟩, .string ⟨#[]⟩, .string ⟨#[]⟩, .int .i64 0, .string ⟨#[]⟩] 26)).alloc (.cells #[.slice al m (cap - 1), .bool false] 72)) := b1.alloc b1.size _
  have c0 : ((w.alloc (.cells #[.int .i64 0, .slice none 0 0, .slice none 0 0, .string ⟨#[]⟩, .slice none 0 0, .string ⟨#[]⟩, .string ⟨#[]⟩, .string ⟨#[]⟩, .int .i64 0, .string ⟨#[]⟩] 26)).alloc (.cells #[.slice al m (cap - 1), .bool false] 72)).cell? ⟨B, off, none⟩ = some (.int .u8 1) := (b2.cell (p := ⟨B, off, none⟩) hold).trans hc0
  obtain ⟨W3, hW3⟩ : ∃ W, W = ((w.alloc (.cells #[.int .i64 0, .slice none 0 0, .slice none 0 0, .string ⟨#[]⟩, .slice none 0 0, .string ⟨#[]⟩, .string ⟨#[]⟩, .string ⟨#[]⟩, .int .i64 0, .string ⟨#[]⟩] 26)).alloc (.cells #[.slice al m (cap - 1), .bool false] 72)).alloc (.cells #[.int .i64 1, .slice none 0 0, .slice none 0 0, .string ⟨#[]⟩, .slice none 0 0, .string ⟨#[]⟩, .string ⟨#[]⟩, .string ⟨#[]⟩, .int .i64 0, .string ⟨#[]⟩] 26) := ⟨_, rfl⟩
  have hst : DecSt w w.heap.size (w.heap.size + 1) (w.heap.size + 1 + 1) (fun k => k = w.heap.size + 1 + 1) (r, false) (objC (zeroO 1) (.slice none 0 0) (.slice none 0 0) (.slice none 0 0)) W3 := by
    have s1 : (w.alloc (.cells #[.int .i64 0, .slice none 0 0, .slice none 0 0, .string ⟨#[]⟩, .slice none 0 0, .string ⟨#[]⟩, .string ⟨#[]⟩, .string ⟨#[]⟩, .int .i64 0, .string ⟨#[]⟩] 26)).heap.size = w.heap.size + 1 := by simp
    have s2 : ((w.alloc (.cells #[.int .i64 0, .slice none 0 0, .slice none 0 0, .string ⟨#[]⟩, .slice none 0 0, .string ⟨#[]⟩, .string ⟨#[]⟩, .string ⟨#[]⟩, .int .i64 0, .string ⟨#[]⟩] 26)).alloc (.cells #[.slice al m (cap - 1), .bool false] 72)).heap.size = w.heap.size + 1 + 1 := by simp
    have d2 : Below (w.heap.size + 1) (w.alloc (.cells #[.int .i64 0, .slice none 0 0, .slice none 0 0, .string ⟨#[]⟩, .slice none 0 0, .string ⟨#[]⟩, .string ⟨#[]⟩, .string ⟨#[]⟩, .int .i64 0, .string ⟨#[]⟩] 26)) ((w.alloc (.cells #[.int .i64 0, .slice none 0 0, .slice none 0 0, .string ⟨#[]⟩, .slice none 0 0, .string ⟨#[]⟩, .string ⟨#[]⟩, .string ⟨#[]⟩, .int .i64 0, .string ⟨#[]⟩] 26)).alloc (.cells #[.slice al m (cap - 1), .bool false] 72)) := (Below.refl _ _).alloc (by simp) _
    have d3 : Below (w.heap.size + 1 + 1) ((w.alloc (.cells #[.int .i64 0, .slice none 0 0, .slice none 0 0, .string ⟨#[]⟩, .slice none 0 0, .string ⟨#[]⟩, .string ⟨#[]⟩, .string ⟨#[]⟩, .int .i64 0, .string ⟨#[]⟩] 26)).alloc (.cells #[.slice al m (cap - 1), .bool false] 72)) W3 := by rw [hW3]; exact (Below.refl _ _).alloc (by simp) _
    have x1 : (w.alloc (.cells #[.int .i64 0, .slice none 0 0, .slice none 0 0, .string ⟨#[]⟩, .slice none 0 0, .string ⟨#[]⟩, .string ⟨#[]⟩, .string ⟨#[]⟩, .int .i64 0, .string ⟨#[]⟩] 26)).heap[w.heap.size]? = some (.cells #[.int .i64 0, .slice none 0 0, .slice none 0 0, .string ⟨#[]⟩, .slice none 0 0, .string ⟨#[]⟩, .string ⟨#[]⟩, .string ⟨#[]⟩, .int .i64 0, .string ⟨#[]⟩] 26 (0, 0)) := heap_alloc_new w _
    have x2 : ((w.alloc (.cells #[.int .i64 0, .slice none 0 0, .slice none 0 0, .string ⟨#[]⟩, .slice none 0 0, .string ⟨#[]⟩, .string ⟨#[]⟩, .string ⟨#[]⟩, .int .i64 0, .string ⟨#[]⟩] 26)).alloc (.cells #[.slice al m (cap - 1), .bool false] 72)).heap[w.heap.size + 1]? = some (.cells #[.slice al m (cap - 1), .bool false] 72 (0, 0)) := by
      have := heap_alloc_new (w.alloc (.cells #[.int .i64 0, .slice none 0 0, .slice none 0 0, .string ⟨#[]⟩, .slice none 0 0, .string ⟨#[]⟩, .string ⟨#[]⟩, .string ⟨#[]⟩, .int .i64 0, .string ⟨#[]⟩] 26)) (.cells #[.slice al m (cap - 1), .bool false] 72)
      rw [s1] at this
      exact this
    have x3 : W3.heap[w.heap.size + 1 + 1]? = some (.cells #[.int .i64 1, .slice none 0 0, .slice none 0 0, .string ⟨#[]⟩, .slice none 0 0, .string ⟨#[]⟩, .string ⟨#[]⟩, .string ⟨#[]⟩, .int .i64 0, .string ⟨#[]⟩] 26 (0, 0)) := by
      have := heap_alloc_new ((w.alloc (.cells #[.int .i64 0, .slice none 0 0, .slice none 0 0, .string ⟨#[]⟩, .slice none 0 0, .string ⟨#[]⟩, .string ⟨#[]⟩, .string ⟨#[]⟩, .int .i64 0, .string ⟨#[]⟩] 26)).alloc (.cells #[.slice al m (cap - 1), .bool false] 72)) (.cells #[.int .i64 1, .slice none 0 0, .slice none 0 0, .string ⟨#[]⟩, .slice none 0 0, .string ⟨#[]⟩, .string ⟨#[]⟩, .string ⟨#[]⟩, .int .i64 0, .string ⟨#[]⟩] 26)
      rw [s2, ← hW3] at this
      exact this
    rw [← s2] at d3
    rw [← s1] at d2
    have bb : Below w.heap.size w W3 := b2.trans (d3.mono (by rw [s2]; omega))
    refine ⟨below_turn d3 (below_turn d2 x1), ⟨al, cap - 1, B, off + 1, by rw [← hm]; exact below_turn d3 x2, sl.below bb, fun _ => ⟨by omega, by omega⟩⟩, x3, bb, by omega, by omega, rfl⟩
  have SB := Lib.hid hsb
  have HW := Lib.hid hW3
  have ST := Lib.hid hst
  have FIT := Lib.hid hfit
  have DD := Lib.hid hdd
  have HN := Lib.hid hn
  have HL := Lib.hid hrl
  have HM := Lib.hid hm
  clear hsb hW3 hst hfit hdd b1 b2 hc0 h sl hl hn hrl hold hnm hm hk
  go_enter Try.func23, Try.ntmps23
  go_upto_block 0 with fail
  rw [← HW.out]
  go_cut [5] from 6 (fun s5 wx => s5 = Value.pointer (some ⟨w.heap.size + 1 + 1, 0, none⟩) ∧ ∃ a4 c4, Hid (BytesAt wx (fun k => w.heap.size + 1 + 1 < k) (.slice a4 m c4) r) ∧ Hid (DecSt w w.heap.size (w.heap.size + 1) (w.heap.size + 1 + 1) (fun k => k = w.heap.size + 1 + 1) (r, false) #[.int .i64 1, .slice a4 m c4, .slice none 0 0, .string ⟨#[]⟩, .slice none 0 0, .string ⟨#[]⟩, .string ⟨#[]⟩, .string ⟨#[]⟩, .int .i64 0, .string ⟨#[]⟩] wx))
  case first =>
    obtain ⟨ao', cp', B', off', hrd, hsr, _⟩ := ST.out.rd
    have hrd : W3.heap[w.heap.size + 1]? = some (.cells #[.slice ao' r.length cp', .bool false] 72 (0, 0)) := hrd
    have hsr : SrcAt W3 ao' cp' r B' off' := hsr
    rw [← HM.out] at hrd
    have bd : Below W3.heap.size W3 W3.drew := (Below.refl _ _).drew
    have sd := hsr.below bd
    have rdd := below_turn bd hrd
    have obd : W3.drew.heap[w.heap.size + 1 + 1]? = some (.cells #[.int .i64 1, .slice none 0 0, .slice none 0 0, .string ⟨#[]⟩, .slice none 0 0, .string ⟨#[]⟩, .string ⟨#[]⟩, .string ⟨#[]⟩, .int .i64 0, .string ⟨#[]⟩] 26 (0, 0)) := below_turn bd ST.out.obj
    have hxl : w.heap.size + 1 + 1 < W3.heap.size := ST.out.lt
    have d0 : W3.drew.cell? ⟨w.heap.size + 1 + 1, 1, none⟩ = some (.slice none 0 0) := cell_of_row _ _ _ _ _ _ obd
    have e0 : W3.drew.cell? ⟨w.heap.size + 1, 0, none⟩ = some (.slice ao' m cp') := cell_of_row _ _ _ _ _ _ rdd
    have hst3 : ∀ w3, Below W3.heap.size W3.drew w3 → Hid (DecSt w w.heap.size (w.heap.size + 1) (w.heap.size + 1 + 1) (fun k => k = w.heap.size + 1 + 1) (r, false) #[.int .i64 1, .slice none 0 0, .slice none 0 0, .string ⟨#[]⟩, .slice none 0 0, .string ⟨#[]⟩, .string ⟨#[]⟩, .string ⟨#[]⟩, .int .i64 0, .string ⟨#[]⟩] w3) := fun w3 hb => Lib.hid (ST.out.low (Turn.of_below (fun _ => False) (bd.trans hb)) (fun k hk => hk.elim))
    have STW := Lib.hid hst3
    have SD := Lib.hid sd
    have XL := Lib.hid hxl
    clear hrd hsr bd sd rdd obd hst3 hxl
    go_wp2_with fail
    go_region_law (refine step_clone rfl _ _ rfl rfl ao' cp' B' off' m r HM.out rfl SD.out HL.out ?_; intro a4 c4 w3 by3 bl3; have st3 := STW.out w3 bl3.out; have k0 := cell_of_row _ _ 1 _ _ _ st3.out.obj; have k1 := frozen_of_row _ _ 1 _ _ st3.out.obj)
    all_goals (go_wp2_with fail; go_meet; exact ⟨rfl, a4, c4, Lib.hid ((by3.out.turn (Turn.setCell (G := fun k => k = w.heap.size + 1 + 1) w3 ⟨w.heap.size + 1 + 1, 1, none⟩ (.slice a4 m c4) rfl) (fun k hk e => by have h1 : W3.heap.size ≤ k := hk; have h2 := XL.out; have h3 : k = w.heap.size + 1 + 1 := e; omega)).mono (fun k _ hk => by have h1 : W3.heap.size ≤ k := hk; have h2 := XL.out; show w.heap.size + 1 + 1 < k; omega)), Lib.hid (st3.out.set 1 (.slice a4 m c4))⟩)
  case rest =>
    obtain ⟨rfl, a4, c4, by4, ST⟩ := hcut
    have I0 : Hid (ObjIn wc (fun k => w.heap.size + 1 + 1 < k) ({ zeroO 1 with data := r } : ObjR) (.slice a4 m c4) (.slice none 0 0) (.slice none 0 0)) := Lib.hid ⟨by4.out, entsAt_nil _ _, textsAt_nil _ _⟩
    have hrow := ST.out.obj
    have hrow : wc.heap[w.heap.size + 1 + 1]? = some (.cells #[.int .i64 1, .slice a4 m c4, .slice none 0 0, .string ⟨#[]⟩, .slice none 0 0, .string ⟨#[]⟩, .string ⟨#[]⟩, .string ⟨#[]⟩, .int .i64 0, .string ⟨#[]⟩] 26 (0, 0)) := hrow
    have henc : Calls Try.prog 14 #[.agg #[.int .i64 1, .slice a4 m c4, .slice none 0 0, .string ⟨#[]⟩, .slice none 0 0, .string ⟨#[]⟩, .string ⟨#[]⟩, .string ⟨#[]⟩, .int .i64 0, .string ⟨#[]⟩]] wc fun e w' => ∃ v, e = .returned (.tuple #[v, .int .i64 (errO o)]) ∧ OutAt wc.heap.size w' v (bytesO o) ∧ Below wc.heap.size wc w' := by
      rw [HO.out]
      exact refEncode_any (fun k => w.heap.size + 1 + 1 < k) ({ zeroO 1 with data := r } : ObjR) (.slice a4 m c4) (.slice none 0 0) (.slice none 0 0) wc I0.out FIT.out
    obtain ⟨s0, s1, s2, s3, s4, s5, s6, s7, s8, s9⟩ := obj_cells hrow
    obtain ⟨bad, hbad⟩ : ∃ x, x = (r, false).2 := ⟨_, rfl⟩
    have HBAD := Lib.hid hbad
    have DD : Hid (decO (c :: r) = if bad = true ∨ okO o = false ∨ encO o ≠ c :: r then none else some o) := Lib.hid (by subst hbad; exact DD.out)
    clear hrow hbad
    cases hb : bad with
    | true =>
      have HENC := Lib.hid henc
      clear henc
      go_wp2_with fail
      refine HENC.out.mono ?_
      rintro e y1 ⟨v1, rfl, o1, b1⟩
      obtain ⟨ay, cy, By, rfl, sy, _⟩ := OutAt.src o1
      have S7 := Lib.hid (ST.out.low (Turn.of_below (fun _ => False) b1) (fun k hk => hk.elim))
      have B7 := Lib.hid b1
      obtain ⟨_, _, _, _, hrd, _, _⟩ := S7.out.rd
      obtain ⟨_, p1, _⟩ := rd_cells hrd
      rw [← HBAD.out, hb] at p1
      have qr : y1.heap[w.heap.size]? = some (.cells #[.int .i64 0, .slice none 0 0, .slice none 0 0, .string ⟨#[]⟩, .slice none 0 0, .string ⟨#[]⟩, .string ⟨#[]⟩, .string ⟨#[]⟩, .int .i64 0, .string ⟨#[]⟩] 26 (0, 0)) := S7.out.res
      obtain ⟨u0, u1, u2, u3, u4, u5, u6, u7, u8, u9⟩ := obj_cells qr
      have f0 := obj_fz qr
      clear b1 o1 sy hrd
      go_wp2_with fail
      obtain ⟨g9, gt⟩ := ten_set y1 w.heap.size 26 (.int .i64 0) (.slice none 0 0) (.slice none 0 0) (.string ⟨#[]⟩) (.slice none 0 0) (.string ⟨#[]⟩) (.string ⟨#[]⟩) (.string ⟨#[]⟩) (.int .i64 0) (.string ⟨#[]⟩) (.int .i64 0) (.slice none 0 0) (.slice none 0 0) (.string ⟨#[]⟩) (.slice none 0 0) (.string ⟨#[]⟩) (.string ⟨#[]⟩) (.string ⟨#[]⟩) (.int .i64 0) (.string ⟨#[]⟩) qr
      have hld := run_loadVar_row (P := Try.prog) _ w.heap.size 26 26 #[.int .i64 0, .slice none 0 0, .slice none 0 0, .string ⟨#[]⟩, .slice none 0 0, .string ⟨#[]⟩, .string ⟨#[]⟩, .string ⟨#[]⟩, .int .i64 0, .string ⟨#[]⟩] (0, 0) _ g9 Try.underlying26 rfl (by kernel_rfl)
      have BQz := S7.out.below.trans (gt.below (Nat.le_of_lt (Array.getElem?_eq_some_iff.1 qr).1) (fun k e => Nat.le_of_eq e.symm))
      refine bodyPost_ret (v := .tuple #[.agg #[.int .i64 0, .slice none 0 0, .slice none 0 0, .string ⟨#[]⟩, .slice none 0 0, .string ⟨#[]⟩, .string ⟨#[]⟩, .string ⟨#[]⟩, .int .i64 0, .string ⟨#[]⟩], .int .i64 2]) ?_ rfl ?_
      · rw [results_cell_tmp rfl]
        simp [asAddr, Result.andThen, hld]
      · refine ⟨BQz, ?_⟩
        rw [DD.out, if_pos (.inl hb)]
        rfl
    | false =>
      cases hok : okO o with
      | false =>
        have e1 : errO o = 1 := by unfold errO; rw [hok]; rfl
        rw [e1] at henc
        have HENC := Lib.hid henc
        clear henc
        go_wp2_with fail
        refine HENC.out.mono ?_
        rintro e y1 ⟨v1, rfl, o1, b1⟩
        obtain ⟨ay, cy, By, rfl, sy, _⟩ := OutAt.src o1
        have S7 := Lib.hid (ST.out.low (Turn.of_below (fun _ => False) b1) (fun k hk => hk.elim))
        have B7 := Lib.hid b1
        obtain ⟨_, _, _, _, hrd, _, _⟩ := S7.out.rd
        obtain ⟨_, p1, _⟩ := rd_cells hrd
        rw [← HBAD.out, hb] at p1
        have qr : y1.heap[w.heap.size]? = some (.cells #[.int .i64 0, .slice none 0 0, .slice none 0 0, .string ⟨#[]⟩, .slice none 0 0, .string ⟨#[]⟩, .string ⟨#[]⟩, .string ⟨#[]⟩, .int .i64 0, .string ⟨#[]⟩] 26 (0, 0)) := S7.out.res
        obtain ⟨u0, u1, u2, u3, u4, u5, u6, u7, u8, u9⟩ := obj_cells qr
        have f0 := obj_fz qr
        clear b1 o1 sy hrd
        go_wp2_with fail
        obtain ⟨g9, gt⟩ := ten_set y1 w.heap.size 26 (.int .i64 0) (.slice none 0 0) (.slice none 0 0) (.string ⟨#[]⟩) (.slice none 0 0) (.string ⟨#[]⟩) (.string ⟨#[]⟩) (.string ⟨#[]⟩) (.int .i64 0) (.string ⟨#[]⟩) (.int .i64 0) (.slice none 0 0) (.slice none 0 0) (.string ⟨#[]⟩) (.slice none 0 0) (.string ⟨#[]⟩) (.string ⟨#[]⟩) (.string ⟨#[]⟩) (.int .i64 0) (.string ⟨#[]⟩) qr
        have hld := run_loadVar_row (P := Try.prog) _ w.heap.size 26 26 #[.int .i64 0, .slice none 0 0, .slice none 0 0, .string ⟨#[]⟩, .slice none 0 0, .string ⟨#[]⟩, .string ⟨#[]⟩, .string ⟨#[]⟩, .int .i64 0, .string ⟨#[]⟩] (0, 0) _ g9 Try.underlying26 rfl (by kernel_rfl)
        have BQz := S7.out.below.trans (gt.below (Nat.le_of_lt (Array.getElem?_eq_some_iff.1 qr).1) (fun k e => Nat.le_of_eq e.symm))
        refine bodyPost_ret (v := .tuple #[.agg #[.int .i64 0, .slice none 0 0, .slice none 0 0, .string ⟨#[]⟩, .slice none 0 0, .string ⟨#[]⟩, .string ⟨#[]⟩, .string ⟨#[]⟩, .int .i64 0, .string ⟨#[]⟩], .int .i64 2]) ?_ rfl ?_
        · rw [results_cell_tmp rfl]
          simp [asAddr, Result.andThen, hld]
        · refine ⟨BQz, ?_⟩
          rw [DD.out, if_pos (.inr (.inl hok))]
          rfl
      | true =>
        have e1 : errO o = 0 := by unfold errO; rw [hok]; rfl
        have e2 : bytesO o = encO o := by unfold bytesO; rw [hok]; rfl
        rw [e1, e2] at henc
        by_cases heq : encO o = c :: r
        · have HEQ := Lib.hid heq
          have HENC := Lib.hid henc
          clear henc
          go_wp2_with fail
          refine HENC.out.mono ?_
          rintro e y1 ⟨v1, rfl, o1, b1⟩
          obtain ⟨ay, cy, By, rfl, sy, _⟩ := OutAt.src o1
          have S7 := Lib.hid (ST.out.low (Turn.of_below (fun _ => False) b1) (fun k hk => hk.elim))
          have B7 := Lib.hid b1
          obtain ⟨_, _, _, _, hrd, _, _⟩ := S7.out.rd
          obtain ⟨_, p1, _⟩ := rd_cells hrd
          rw [← HBAD.out, hb] at p1
          have hsame := same_any y1 sy (SB.out y1 S7.out.below)
          rw [decide_eq_true heq, ← HN.out] at hsame
          have HS := Lib.hid hsame
          clear hsame heq
          have qr : y1.heap[w.heap.size]? = some (.cells #[.int .i64 0, .slice none 0 0, .slice none 0 0, .string ⟨#[]⟩, .slice none 0 0, .string ⟨#[]⟩, .string ⟨#[]⟩, .string ⟨#[]⟩, .int .i64 0, .string ⟨#[]⟩] 26 (0, 0)) := S7.out.res
          obtain ⟨u0, u1, u2, u3, u4, u5, u6, u7, u8, u9⟩ := obj_cells qr
          have f0 := obj_fz qr
          have hrow : y1.heap[w.heap.size + 1 + 1]? = some (.cells #[.int .i64 1, .slice a4 m c4, .slice none 0 0, .string ⟨#[]⟩, .slice none 0 0, .string ⟨#[]⟩, .string ⟨#[]⟩, .string ⟨#[]⟩, .int .i64 0, .string ⟨#[]⟩] 26 (0, 0)) := S7.out.obj
          obtain ⟨s0, s1, s2, s3, s4, s5, s6, s7, s8, s9⟩ := obj_cells hrow
          clear b1 o1 sy hrd hrow
          go_wp2_with (go_at_call 17; refine HS.out.mono ?_; rintro e y2 ⟨rfl, hy⟩; have hy := hy.symm; subst hy)
          obtain ⟨g9, gt⟩ := ten_set y1 w.heap.size 26 (.int .i64 0) (.slice none 0 0) (.slice none 0 0) (.string ⟨#[]⟩) (.slice none 0 0) (.string ⟨#[]⟩) (.string ⟨#[]⟩) (.string ⟨#[]⟩) (.int .i64 0) (.string ⟨#[]⟩) (.int .i64 1) (.slice a4 m c4) (.slice none 0 0) (.string ⟨#[]⟩) (.slice none 0 0) (.string ⟨#[]⟩) (.string ⟨#[]⟩) (.string ⟨#[]⟩) (.int .i64 0) (.string ⟨#[]⟩) qr
          have hld := run_loadVar_row (P := Try.prog) _ w.heap.size 26 26 #[.int .i64 1, .slice a4 m c4, .slice none 0 0, .string ⟨#[]⟩, .slice none 0 0, .string ⟨#[]⟩, .string ⟨#[]⟩, .string ⟨#[]⟩, .int .i64 0, .string ⟨#[]⟩] (0, 0) _ g9 Try.underlying26 rfl (by kernel_rfl)
          have BQz := S7.out.below.trans (gt.below (Nat.le_of_lt (Array.getElem?_eq_some_iff.1 qr).1) (fun k e => Nat.le_of_eq e.symm))
          refine bodyPost_ret (v := .tuple #[.agg #[.int .i64 1, .slice a4 m c4, .slice none 0 0, .string ⟨#[]⟩, .slice none 0 0, .string ⟨#[]⟩, .string ⟨#[]⟩, .string ⟨#[]⟩, .int .i64 0, .string ⟨#[]⟩], .int .i64 0]) ?_ rfl ?_
          · rw [results_cell_tmp rfl]
            simp [asAddr, Result.andThen, hld]
          · refine ⟨BQz, ?_⟩
            rw [DD.out, if_neg (by rw [hb, hok]; rintro (h | h | h) <;> first | exact Bool.noConfusion h | exact h HEQ.out)]
            refine ⟨.slice a4 m c4, .slice none 0 0, .slice none 0 0, ?_, ?_⟩
            · rw [HO.out]; rfl
            · rw [HO.out]
              exact (I0.out.turn ((Turn.of_below (fun k => k = w.heap.size) B7.out).trans gt) (fun k hk e => by have h1 : w.heap.size + 1 + 1 < k := hk; have h2 : k = w.heap.size := e; omega)).mono (fun k _ hk => by have h1 : w.heap.size + 1 + 1 < k := hk; show w.heap.size ≤ k; omega)
        · have hne := heq
          have HNE := Lib.hid hne
          have HENC := Lib.hid henc
          clear henc
          go_wp2_with fail
          refine HENC.out.mono ?_
          rintro e y1 ⟨v1, rfl, o1, b1⟩
          obtain ⟨ay, cy, By, rfl, sy, _⟩ := OutAt.src o1
          have S7 := Lib.hid (ST.out.low (Turn.of_below (fun _ => False) b1) (fun k hk => hk.elim))
          have B7 := Lib.hid b1
          obtain ⟨_, _, _, _, hrd, _, _⟩ := S7.out.rd
          obtain ⟨_, p1, _⟩ := rd_cells hrd
          rw [← HBAD.out, hb] at p1
          have hsame := same_any y1 sy (SB.out y1 S7.out.below)
          rw [decide_eq_false hne, ← HN.out] at hsame
          have HS := Lib.hid hsame
          clear hsame hne heq
          have qr : y1.heap[w.heap.size]? = some (.cells #[.int .i64 0, .slice none 0 0, .slice none 0 0, .string ⟨#[]⟩, .slice none 0 0, .string ⟨#[]⟩, .string ⟨#[]⟩, .string ⟨#[]⟩, .int .i64 0, .string ⟨#[]⟩] 26 (0, 0)) := S7.out.res
          obtain ⟨u0, u1, u2, u3, u4, u5, u6, u7, u8, u9⟩ := obj_cells qr
          have f0 := obj_fz qr
          clear b1 o1 sy hrd
          go_wp2_with (go_at_call 17; refine HS.out.mono ?_; rintro e y2 ⟨rfl, hy⟩; have hy := hy.symm; subst hy)
          obtain ⟨g9, gt⟩ := ten_set y1 w.heap.size 26 (.int .i64 0) (.slice none 0 0) (.slice none 0 0) (.string ⟨#[]⟩) (.slice none 0 0) (.string ⟨#[]⟩) (.string ⟨#[]⟩) (.string ⟨#[]⟩) (.int .i64 0) (.string ⟨#[]⟩) (.int .i64 0) (.slice none 0 0) (.slice none 0 0) (.string ⟨#[]⟩) (.slice none 0 0) (.string ⟨#[]⟩) (.string ⟨#[]⟩) (.string ⟨#[]⟩) (.int .i64 0) (.string ⟨#[]⟩) qr
          have hld := run_loadVar_row (P := Try.prog) _ w.heap.size 26 26 #[.int .i64 0, .slice none 0 0, .slice none 0 0, .string ⟨#[]⟩, .slice none 0 0, .string ⟨#[]⟩, .string ⟨#[]⟩, .string ⟨#[]⟩, .int .i64 0, .string ⟨#[]⟩] (0, 0) _ g9 Try.underlying26 rfl (by kernel_rfl)
          have BQz := S7.out.below.trans (gt.below (Nat.le_of_lt (Array.getElem?_eq_some_iff.1 qr).1) (fun k e => Nat.le_of_eq e.symm))
          refine bodyPost_ret (v := .tuple #[.agg #[.int .i64 0, .slice none 0 0, .slice none 0 0, .string ⟨#[]⟩, .slice none 0 0, .string ⟨#[]⟩, .string ⟨#[]⟩, .string ⟨#[]⟩, .int .i64 0, .string ⟨#[]⟩], .int .i64 2]) ?_ rfl ?_
          · rw [results_cell_tmp rfl]
            simp [asAddr, Result.andThen, hld]
          · refine ⟨BQz, ?_⟩
            rw [DD.out, if_pos (.inr (.inr HNE.out))]
            rfl
end Go.Proofs.Ytckbeeadkiiccaa
