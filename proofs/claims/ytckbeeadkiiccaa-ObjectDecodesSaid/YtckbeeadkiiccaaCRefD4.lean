/- The document's Decode where the first byte is 4. Written by wip/tools/mk_refdec.py. -/
import Derived.Test.YtckbeeadkiiccaaCRefD
import Derived.Test.YtckbeeadkiiccaaCDecTo
import Derived.Deep.RegionHeld3
namespace Go.Proofs.Ytckbeeadkiiccaa
open Go.RowKit
set_option maxRecDepth 100000 in
set_option maxHeartbeats 16000000 in
theorem refDec_4 (ao : Option Addr) (cap B off : Nat) (c : UInt8) (r : OB) (w : World) (h : SrcAt w ao cap (c :: r) B off) (hl : (c :: r).length ≤ 140737488355328) (hk : c.toNat = 4) :
    Calls Try.prog 23 #[.slice ao (c :: r).length cap] w (DecTo (c :: r) w) := by
  have hrl : r.length ≤ 140737488355328 := by rw [List.length_cons] at hl; omega
  have hfit := rdO_fits c.toNat r hrl
  have hdd := decO_cons c r
  rw [hk, show rdO 4 r = rdTag (r, false) from rfl] at hfit hdd
  obtain ⟨P1, eP1⟩ : ∃ x, x = rdBytes 32 (r, false) := ⟨_, rfl⟩
  obtain ⟨P2, eP2⟩ : ∃ x, x = rdText P1.2 := ⟨_, rfl⟩
  obtain ⟨P3, eP3⟩ : ∃ x, x = rdText P2.2 := ⟨_, rfl⟩
  obtain ⟨P4, eP4⟩ : ∃ x, x = rdNum P3.2 := ⟨_, rfl⟩
  obtain ⟨P5, eP5⟩ : ∃ x, x = rdText P4.2 := ⟨_, rfl⟩
  replace hdd : decO (c :: r) = if P5.2.2 = true ∨ okO ({ zeroO 4 with target := P1.1, name := P2.1, who := P3.1, stamp := (P4.1 : Int), text := P5.1 } : ObjR) = false ∨ encO ({ zeroO 4 with target := P1.1, name := P2.1, who := P3.1, stamp := (P4.1 : Int), text := P5.1 } : ObjR) ≠ c :: r then none else some ({ zeroO 4 with target := P1.1, name := P2.1, who := P3.1, stamp := (P4.1 : Int), text := P5.1 } : ObjR) := by
    subst eP1
    subst eP2
    subst eP3
    subst eP4
    subst eP5
    exact hdd
  replace hfit : ObjFits ({ zeroO 4 with target := P1.1, name := P2.1, who := P3.1, stamp := (P4.1 : Int), text := P5.1 } : ObjR) := by
    subst eP1
    subst eP2
    subst eP3
    subst eP4
    subst eP5
    exact hfit
  have lP1 : P1.2.1.length ≤ 140737488355328 := by rw [eP1]; exact Nat.le_trans rdBytes_le hrl
  have lP2 : P2.2.1.length ≤ 140737488355328 := by rw [eP2]; exact Nat.le_trans rdText_le lP1
  have lP3 : P3.2.1.length ≤ 140737488355328 := by rw [eP3]; exact Nat.le_trans rdText_le lP2
  have lP4 : P4.2.1.length ≤ 140737488355328 := by rw [eP4]; exact Nat.le_trans rdNum_le lP3
  have lP5 : P5.2.1.length ≤ 140737488355328 := by rw [eP5]; exact Nat.le_trans rdText_le lP4
  obtain ⟨o, ho⟩ : ∃ o, o = ({ zeroO 4 with target := P1.1, name := P2.1, who := P3.1, stamp := (P4.1 : Int), text := P5.1 } : ObjR) := ⟨_, rfl⟩
  rw [← ho] at hdd
  have HO := Lib.hid ho
  have EP1 := Lib.hid eP1
  have HP1 := Lib.hid lP1
  have EP2 := Lib.hid eP2
  have HP2 := Lib.hid lP2
  have EP3 := Lib.hid eP3
  have HP3 := Lib.hid lP3
  have EP4 := Lib.hid eP4
  have HP4 := Lib.hid lP4
  have EP5 := Lib.hid eP5
  have HP5 := Lib.hid lP5
  clear ho eP1 lP1 eP2 lP2 eP3 lP3 eP4 lP4 eP5 lP5
  obtain ⟨al, hsl, sl⟩ := h.slice_l 1 (by simp)
  have hsrc := h.src (by simp)
  have hold := h.old (by simp)
  have hc0 := h.cell 0 (by simp)
  simp only [List.getD_cons_zero, Nat.add_zero] at hc0
  rw [List.drop_succ_cons, List.drop_zero] at sl
  rw [hk] at hc0
  have hc0 : w.cell? ⟨B, off, none⟩ = some (.int .u8 4) := hc0
  subst hsrc
  have hsb := fun (W : World) (hb : Below w.heap.size w W) => h.below hb
  obtain ⟨m, hm⟩ : ∃ m, m = r.length := ⟨_, rfl⟩
  obtain ⟨n, hn⟩ : ∃ n, n = (c :: r).length := ⟨_, rfl⟩
  have hnm : n - 1 = m := by rw [hn, hm]; simp
  have hn0 : 0 < n := by rw [hn]; simp
  rw [← hn, hnm] at hsl
  rw [← hn]
  have i0 : ((n : Int) == 0) = false := by simp; omega
  have i1 : (0 : Int) < (n : Int) := by omega
  have hsl : ∀ W : World, (Instr.slice 22 (.slice (some ⟨B, off, none⟩) n cap) (some (.int .i64 1)) none none).run Try.prog W = .ok (.slice al m (cap - 1)) W := hsl
  have b1 : Below w.heap.size w (w.alloc (.cells #[.int .i64 0, .slice none 0 0, .slice none 0 0, .string ⟨#[]⟩, .slice none 0 0, .string ⟨#[]⟩, .string ⟨#[]⟩, .string ⟨#[]⟩, .int .i64 0, .string ⟨#[]⟩] 26)) := (Below.refl _ _).alloc (Nat.le_refl _) _
  have b2 : Below w.heap.size w ((w.alloc (.cells #[.int .i64 0, .slice none 0 0, .slice none 0 0, .string ⟨#[]⟩, .slice none 0 0, .string ⟨#[]⟩, .string ⟨#[]⟩, .string ⟨#[]⟩, .int .i64 0, .string ⟨#[]⟩] 26)).alloc (.cells #[.slice al m (cap - 1), .bool false] 72)) := b1.alloc b1.size _
  have c0 : ((w.alloc (.cells #[.int .i64 0, .slice none 0 0, .slice none 0 0, .string ⟨#[]⟩, .slice none 0 0, .string ⟨#[]⟩, .string ⟨#[]⟩, .string ⟨#[]⟩, .int .i64 0, .string ⟨#[]⟩] 26)).alloc (.cells #[.slice al m (cap - 1), .bool false] 72)).cell? ⟨B, off, none⟩ = some (.int .u8 4) := (b2.cell (p := ⟨B, off, none⟩) hold).trans hc0
  obtain ⟨W3, hW3⟩ : ∃ W, W = ((w.alloc (.cells #[.int .i64 0, .slice none 0 0, .slice none 0 0, .string ⟨#[]⟩, .slice none 0 0, .string ⟨#[]⟩, .string ⟨#[]⟩, .string ⟨#[]⟩, .int .i64 0, .string ⟨#[]⟩] 26)).alloc (.cells #[.slice al m (cap - 1), .bool false] 72)).alloc (.cells #[.int .i64 4, .slice none 0 0, .slice none 0 0, .string ⟨#[]⟩, .slice none 0 0, .string ⟨#[]⟩, .string ⟨#[]⟩, .string ⟨#[]⟩, .int .i64 0, .string ⟨#[]⟩] 26) := ⟨_, rfl⟩
  have hst : DecSt w w.heap.size (w.heap.size + 1) (w.heap.size + 1 + 1) (fun k => k = w.heap.size + 1 + 1) (r, false) (objC (zeroO 4) (.slice none 0 0) (.slice none 0 0) (.slice none 0 0)) W3 := by
    have s1 : (w.alloc (.cells #[.int .i64 0, .slice none 0 0, .slice none 0 0, .string ⟨#[]⟩, .slice none 0 0, .string ⟨#[]⟩, .string ⟨#[]⟩, .string ⟨#[]⟩, .int .i64 0, .string ⟨#[]⟩] 26)).heap.size = w.heap.size + 1 := by simp
    have s2 : ((w.alloc (.cells #[.int .i64 0, .slice none 0 0, .slice none 0 0, .string ⟨#[]⟩, .slice none 0 0, .string ⟨#[]⟩, .string ⟨#[]⟩, .string ⟨#[]⟩, .int .i64 0, .string ⟨#[]⟩] 26)).alloc (.cells #[.slice al m (cap - 1), .bool false] 72)).heap.size = w.heap.size + 1 + 1 := by simp
    have d2 : Below (w.heap.size + 1) (w.alloc (.cells #[.int .i64 0, .slice none 0 0, .slice none 0 0, .string ⟨#[]⟩, .slice none 0 0, .string ⟨#[]⟩, .string ⟨#[]⟩, .string ⟨#[]⟩, .int .i64 0, .string ⟨#[]⟩] 26)) ((w.alloc (.cells #[.int .i64 0, .slice none 0 0, .slice none 0 0, .string ⟨#[]⟩, .slice none 0 0, .string ⟨#[]⟩, .string ⟨#[]⟩, .string ⟨#[]⟩, .int .i64 0, .string ⟨#[]⟩] 26)).alloc (.cells #[.slice al m (cap - 1), .bool false] 72)) := (Below.refl _ _).alloc (by simp) _
    have d3 : Below (w.heap.size + 1 + 1) ((w.alloc (.cells #[.int .i64 0, .slice none 0 0, .slice none 0 0, .string ⟨#[]⟩, .slice none 0 0, .string ⟨#[]⟩, .string ⟨#[]⟩, .string ⟨#[]⟩, .int .i64 0, .string ⟨#[]⟩] 26)).alloc (.cells #[.slice al m (cap - 1), .bool false] 72)) W3 := by rw [hW3]; exact (Below.refl _ _).alloc (by simp) _
    have x1 : (w.alloc (.cells #[.int .i64 0, .slice none 0 0, .slice none 0 0, .string ⟨#[]⟩, .slice none 0 0, .string ⟨#[]⟩, .string ⟨#[]⟩, .string ⟨#[]⟩, .int .i64 0, .string ⟨#[]⟩] 26)).heap[w.heap.size]? = some (.cells #[.int .i64 0, .slice none 0 0, .slice none 0 0, .string ⟨#[]⟩, .slice none 0 0, .string ⟨#[]⟩, .string ⟨#[]⟩, .string ⟨#[]⟩, .int .i64 0, .string ⟨#[]⟩] 26 (0, 0)) := heap_alloc_new w _
    have x2 : ((w.alloc (.cells #[.int .i64 0, .slice none 0 0, .slice none 0 0, .string ⟨#[]⟩, .slice none 0 0, .string ⟨#[]⟩, .string ⟨#[]⟩, .string ⟨#[]⟩, .int .i64 0, .string ⟨#[]⟩] 26)).alloc (.cells #[.slice al m (cap - 1), .bool false] 72)).heap[w.heap.size + 1]? = some (.cells #[.slice al m (cap - 1), .bool false] 72 (0, 0)) := by
      have := heap_alloc_new (w.alloc (.cells #[.int .i64 0, .slice none 0 0, .slice none 0 0, .string ⟨#[]⟩, .slice none 0 0, .string ⟨#[]⟩, .string ⟨#[]⟩, .string ⟨#[]⟩, .int .i64 0, .string ⟨#[]⟩] 26)) (.cells #[.slice al m (cap - 1), .bool false] 72)
      rw [s1] at this
      exact this
    have x3 : W3.heap[w.heap.size + 1 + 1]? = some (.cells #[.int .i64 4, .slice none 0 0, .slice none 0 0, .string ⟨#[]⟩, .slice none 0 0, .string ⟨#[]⟩, .string ⟨#[]⟩, .string ⟨#[]⟩, .int .i64 0, .string ⟨#[]⟩] 26 (0, 0)) := by
      have := heap_alloc_new ((w.alloc (.cells #[.int .i64 0, .slice none 0 0, .slice none 0 0, .string ⟨#[]⟩, .slice none 0 0, .string ⟨#[]⟩, .string ⟨#[]⟩, .string ⟨#[]⟩, .int .i64 0, .string ⟨#[]⟩] 26)).alloc (.cells #[.slice al m (cap - 1), .bool false] 72)) (.cells #[.int .i64 4, .slice none 0 0, .slice none 0 0, .string ⟨#[]⟩, .slice none 0 0, .string ⟨#[]⟩, .string ⟨#[]⟩, .string ⟨#[]⟩, .int .i64 0, .string ⟨#[]⟩] 26)
      rw [s2, ← hW3] at this
      exact this
    rw [← s2] at d3
    rw [← s1] at d2
    have bb : Below w.heap.size w W3 := b2.trans (d3.mono (by rw [s2]; omega))
    refine ⟨below_turn d3 (below_turn d2 x1), ⟨al, cap - 1, B, off + 1, by rw [← hm]; exact below_turn d3 x2, sl.below bb, fun _ => ⟨by omega, by omega⟩⟩, x3, bb, by omega, by omega, rfl⟩
  have SB := Lib.hid hsb
  have HW := Lib.hid hW3
  have ST := Lib.hid hst
  have FIT := Lib.hid hfit
  have DD := Lib.hid hdd
  have HN := Lib.hid hn
  have HL := Lib.hid hrl
  have HM := Lib.hid hm
  clear hsb hW3 hst hfit hdd b1 b2 hc0 h sl hl hn hrl hold hnm hm hk
  go_enter Try.func23, Try.ntmps23
  go_wp2_with fail
  rw [← HW.out]
  have g := rdBytes_g (fun k => k = w.heap.size + 1 + 1) (w.heap.size + 1) (r, false) 32 (by omega) W3 ST.out.rd HL.out
  rw [← EP1.out] at g
  have GG := Lib.hid g
  clear g
  refine GG.out.mono ?_
  rintro e w4 ⟨rfl, r1, t1⟩
  have ST : Hid (DecSt w w.heap.size (w.heap.size + 1) (w.heap.size + 1 + 1) (fun k => k = w.heap.size + 1 + 1) P1.2 #[.int .i64 4, .slice none 0 0, .slice none 0 0, .string ⟨#[]⟩, .slice none 0 0, .string ⟨#[]⟩, .string ⟨#[]⟩, .string ⟨#[]⟩, .int .i64 0, .string ⟨#[]⟩] w4) := Lib.hid (ST.out.step r1 t1)
  clear r1 t1 GG
  have d0 : w4.cell? ⟨w.heap.size + 1 + 1, 5, none⟩ = some (.string ⟨#[]⟩) := cell_of_row _ _ _ _ _ _ ST.out.obj
  have d1 : w4.frozen? ⟨w.heap.size + 1 + 1, 5, none⟩ = false := frozen_of_row _ _ _ _ _ ST.out.obj
  go_wp2_with fail
  obtain ⟨V1, hV⟩ : ∃ V, V = World.setCell w4 ⟨w.heap.size + 1 + 1, 5, none⟩ (.string (SL P1.1)) := ⟨_, rfl⟩
  rw [← hV]
  have ST : Hid (DecSt w w.heap.size (w.heap.size + 1) (w.heap.size + 1 + 1) (fun k => k = w.heap.size + 1 + 1) P1.2 #[.int .i64 4, .slice none 0 0, .slice none 0 0, .string ⟨#[]⟩, .slice none 0 0, .string (SL P1.1), .string ⟨#[]⟩, .string ⟨#[]⟩, .int .i64 0, .string ⟨#[]⟩] V1) := Lib.hid (by rw [hV]; exact ST.out.set 5 (.string (SL P1.1)))
  clear hV d0 d1
  have g := rdText_g (fun k => k = w.heap.size + 1 + 1) (w.heap.size + 1) P1.2 V1 (fun k e => by rw [e]; exact ST.out.lt) ST.out.rd HP1.out
  rw [← EP2.out] at g
  have GG := Lib.hid g
  clear g
  refine GG.out.mono ?_
  rintro e w5 ⟨rfl, r1, t1⟩
  have ST : Hid (DecSt w w.heap.size (w.heap.size + 1) (w.heap.size + 1 + 1) (fun k => k = w.heap.size + 1 + 1) P2.2 #[.int .i64 4, .slice none 0 0, .slice none 0 0, .string ⟨#[]⟩, .slice none 0 0, .string (SL P1.1), .string ⟨#[]⟩, .string ⟨#[]⟩, .int .i64 0, .string ⟨#[]⟩] w5) := Lib.hid (ST.out.step r1 t1)
  clear r1 t1 GG
  have d0 : w5.cell? ⟨w.heap.size + 1 + 1, 6, none⟩ = some (.string ⟨#[]⟩) := cell_of_row _ _ _ _ _ _ ST.out.obj
  have d1 : w5.frozen? ⟨w.heap.size + 1 + 1, 6, none⟩ = false := frozen_of_row _ _ _ _ _ ST.out.obj
  go_wp2_with fail
  obtain ⟨V2, hV⟩ : ∃ V, V = World.setCell w5 ⟨w.heap.size + 1 + 1, 6, none⟩ (.string (SL P2.1)) := ⟨_, rfl⟩
  rw [← hV]
  have ST : Hid (DecSt w w.heap.size (w.heap.size + 1) (w.heap.size + 1 + 1) (fun k => k = w.heap.size + 1 + 1) P2.2 #[.int .i64 4, .slice none 0 0, .slice none 0 0, .string ⟨#[]⟩, .slice none 0 0, .string (SL P1.1), .string (SL P2.1), .string ⟨#[]⟩, .int .i64 0, .string ⟨#[]⟩] V2) := Lib.hid (by rw [hV]; exact ST.out.set 6 (.string (SL P2.1)))
  clear hV d0 d1
  have g := rdText_g (fun k => k = w.heap.size + 1 + 1) (w.heap.size + 1) P2.2 V2 (fun k e => by rw [e]; exact ST.out.lt) ST.out.rd HP2.out
  rw [← EP3.out] at g
  have GG := Lib.hid g
  clear g
  refine GG.out.mono ?_
  rintro e w6 ⟨rfl, r1, t1⟩
  have ST : Hid (DecSt w w.heap.size (w.heap.size + 1) (w.heap.size + 1 + 1) (fun k => k = w.heap.size + 1 + 1) P3.2 #[.int .i64 4, .slice none 0 0, .slice none 0 0, .string ⟨#[]⟩, .slice none 0 0, .string (SL P1.1), .string (SL P2.1), .string ⟨#[]⟩, .int .i64 0, .string ⟨#[]⟩] w6) := Lib.hid (ST.out.step r1 t1)
  clear r1 t1 GG
  have d0 : w6.cell? ⟨w.heap.size + 1 + 1, 7, none⟩ = some (.string ⟨#[]⟩) := cell_of_row _ _ _ _ _ _ ST.out.obj
  have d1 : w6.frozen? ⟨w.heap.size + 1 + 1, 7, none⟩ = false := frozen_of_row _ _ _ _ _ ST.out.obj
  go_wp2_with fail
  obtain ⟨V3, hV⟩ : ∃ V, V = World.setCell w6 ⟨w.heap.size + 1 + 1, 7, none⟩ (.string (SL P3.1)) := ⟨_, rfl⟩
  rw [← hV]
  have ST : Hid (DecSt w w.heap.size (w.heap.size + 1) (w.heap.size + 1 + 1) (fun k => k = w.heap.size + 1 + 1) P3.2 #[.int .i64 4, .slice none 0 0, .slice none 0 0, .string ⟨#[]⟩, .slice none 0 0, .string (SL P1.1), .string (SL P2.1), .string (SL P3.1), .int .i64 0, .string ⟨#[]⟩] V3) := Lib.hid (by rw [hV]; exact ST.out.set 7 (.string (SL P3.1)))
  clear hV d0 d1
  have g := rdNum_g (fun k => k = w.heap.size + 1 + 1) (w.heap.size + 1) P3.2 V3 (fun k e => by rw [e]; exact ST.out.lt) ST.out.rd HP3.out
  rw [← EP4.out] at g
  have GG := Lib.hid g
  clear g
  refine GG.out.mono ?_
  rintro e w7 ⟨rfl, r1, t1⟩
  have ST : Hid (DecSt w w.heap.size (w.heap.size + 1) (w.heap.size + 1 + 1) (fun k => k = w.heap.size + 1 + 1) P4.2 #[.int .i64 4, .slice none 0 0, .slice none 0 0, .string ⟨#[]⟩, .slice none 0 0, .string (SL P1.1), .string (SL P2.1), .string (SL P3.1), .int .i64 0, .string ⟨#[]⟩] w7) := Lib.hid (ST.out.step r1 t1)
  clear r1 t1 GG
  have d0 : w7.cell? ⟨w.heap.size + 1 + 1, 8, none⟩ = some (.int .i64 0) := cell_of_row _ _ _ _ _ _ ST.out.obj
  have d1 : w7.frozen? ⟨w.heap.size + 1 + 1, 8, none⟩ = false := frozen_of_row _ _ _ _ _ ST.out.obj
  go_wp2_with fail
  obtain ⟨V4, hV⟩ : ∃ V, V = World.setCell w7 ⟨w.heap.size + 1 + 1, 8, none⟩ (.int .i64 (P4.1 : Int)) := ⟨_, rfl⟩
  rw [← hV]
  have ST : Hid (DecSt w w.heap.size (w.heap.size + 1) (w.heap.size + 1 + 1) (fun k => k = w.heap.size + 1 + 1) P4.2 #[.int .i64 4, .slice none 0 0, .slice none 0 0, .string ⟨#[]⟩, .slice none 0 0, .string (SL P1.1), .string (SL P2.1), .string (SL P3.1), .int .i64 (P4.1 : Int), .string ⟨#[]⟩] V4) := Lib.hid (by rw [hV]; exact ST.out.set 8 (.int .i64 (P4.1 : Int)))
  clear hV d0 d1
  have g := rdText_g (fun k => k = w.heap.size + 1 + 1) (w.heap.size + 1) P4.2 V4 (fun k e => by rw [e]; exact ST.out.lt) ST.out.rd HP4.out
  rw [← EP5.out] at g
  have GG := Lib.hid g
  clear g
  refine GG.out.mono ?_
  rintro e w8 ⟨rfl, r1, t1⟩
  have ST : Hid (DecSt w w.heap.size (w.heap.size + 1) (w.heap.size + 1 + 1) (fun k => k = w.heap.size + 1 + 1) P5.2 #[.int .i64 4, .slice none 0 0, .slice none 0 0, .string ⟨#[]⟩, .slice none 0 0, .string (SL P1.1), .string (SL P2.1), .string (SL P3.1), .int .i64 (P4.1 : Int), .string ⟨#[]⟩] w8) := Lib.hid (ST.out.step r1 t1)
  clear r1 t1 GG
  have d0 : w8.cell? ⟨w.heap.size + 1 + 1, 9, none⟩ = some (.string ⟨#[]⟩) := cell_of_row _ _ _ _ _ _ ST.out.obj
  have d1 : w8.frozen? ⟨w.heap.size + 1 + 1, 9, none⟩ = false := frozen_of_row _ _ _ _ _ ST.out.obj
  obtain ⟨V5, hV⟩ : ∃ V, V = World.setCell w8 ⟨w.heap.size + 1 + 1, 9, none⟩ (.string (SL P5.1)) := ⟨_, rfl⟩
  have ST : Hid (DecSt w w.heap.size (w.heap.size + 1) (w.heap.size + 1 + 1) (fun k => k = w.heap.size + 1 + 1) P5.2 #[.int .i64 4, .slice none 0 0, .slice none 0 0, .string ⟨#[]⟩, .slice none 0 0, .string (SL P1.1), .string (SL P2.1), .string (SL P3.1), .int .i64 (P4.1 : Int), .string (SL P5.1)] V5) := Lib.hid (by rw [hV]; exact ST.out.set 9 (.string (SL P5.1)))
  have I0 : Hid (ObjIn V5 (fun k => w.heap.size + 1 + 1 < k) ({ zeroO 4 with target := P1.1, name := P2.1, who := P3.1, stamp := (P4.1 : Int), text := P5.1 } : ObjR) (.slice none 0 0) (.slice none 0 0) (.slice none 0 0)) := Lib.hid ⟨bytesAt_nil _ _, entsAt_nil _ _, textsAt_nil _ _⟩
  have HV := Lib.hid hV
  have hrow := ST.out.obj
  have hrow : V5.heap[w.heap.size + 1 + 1]? = some (.cells #[.int .i64 4, .slice none 0 0, .slice none 0 0, .string ⟨#[]⟩, .slice none 0 0, .string (SL P1.1), .string (SL P2.1), .string (SL P3.1), .int .i64 (P4.1 : Int), .string (SL P5.1)] 26 (0, 0)) := hrow
  have henc : Calls Try.prog 14 #[.agg #[.int .i64 4, .slice none 0 0, .slice none 0 0, .string ⟨#[]⟩, .slice none 0 0, .string (SL P1.1), .string (SL P2.1), .string (SL P3.1), .int .i64 (P4.1 : Int), .string (SL P5.1)]] V5 fun e w' => ∃ v, e = .returned (.tuple #[v, .int .i64 (errO o)]) ∧ OutAt V5.heap.size w' v (bytesO o) ∧ Below V5.heap.size V5 w' := by
    rw [HO.out]
    exact refEncode_any (fun k => w.heap.size + 1 + 1 < k) ({ zeroO 4 with target := P1.1, name := P2.1, who := P3.1, stamp := (P4.1 : Int), text := P5.1 } : ObjR) (.slice none 0 0) (.slice none 0 0) (.slice none 0 0) V5 I0.out FIT.out
  rw [hV] at hrow
  obtain ⟨s0, s1, s2, s3, s4, s5, s6, s7, s8, s9⟩ := obj_cells hrow
  clear hV
  obtain ⟨bad, hbad⟩ : ∃ x, x = P5.2.2 := ⟨_, rfl⟩
  have HBAD := Lib.hid hbad
  rw [← hbad] at DD
  clear hrow hbad
  cases hb : bad with
  | true =>
    have HENC := Lib.hid henc
    clear henc
    go_wp2_with fail
    rw [← HV.out]
    refine HENC.out.mono ?_
    rintro e y1 ⟨v1, rfl, o1, b1⟩
    obtain ⟨ay, cy, By, rfl, sy, _⟩ := OutAt.src o1
    have S7 := Lib.hid (ST.out.low (Turn.of_below (fun _ => False) b1) (fun k hk => hk.elim))
    have B7 := Lib.hid b1
    obtain ⟨_, _, _, _, hrd, _, _⟩ := S7.out.rd
    obtain ⟨_, p1, _⟩ := rd_cells hrd
    rw [← HBAD.out, hb] at p1
    have qr : y1.heap[w.heap.size]? = some (.cells #[.int .i64 0, .slice none 0 0, .slice none 0 0, .string ⟨#[]⟩, .slice none 0 0, .string ⟨#[]⟩, .string ⟨#[]⟩, .string ⟨#[]⟩, .int .i64 0, .string ⟨#[]⟩] 26 (0, 0)) := S7.out.res
    obtain ⟨u0, u1, u2, u3, u4, u5, u6, u7, u8, u9⟩ := obj_cells qr
    have f0 := obj_fz qr
    clear b1 o1 sy hrd
    go_wp2_with fail
    obtain ⟨g9, gt⟩ := ten_set y1 w.heap.size 26 (.int .i64 0) (.slice none 0 0) (.slice none 0 0) (.string ⟨#[]⟩) (.slice none 0 0) (.string ⟨#[]⟩) (.string ⟨#[]⟩) (.string ⟨#[]⟩) (.int .i64 0) (.string ⟨#[]⟩) (.int .i64 0) (.slice none 0 0) (.slice none 0 0) (.string ⟨#[]⟩) (.slice none 0 0) (.string ⟨#[]⟩) (.string ⟨#[]⟩) (.string ⟨#[]⟩) (.int .i64 0) (.string ⟨#[]⟩) qr
    have hld := run_loadVar_row (P := Try.prog) _ w.heap.size 26 26 #[.int .i64 0, .slice none 0 0, .slice none 0 0, .string ⟨#[]⟩, .slice none 0 0, .string ⟨#[]⟩, .string ⟨#[]⟩, .string ⟨#[]⟩, .int .i64 0, .string ⟨#[]⟩] (0, 0) _ g9 Try.underlying26 rfl (by kernel_rfl)
    have BQz := S7.out.below.trans (gt.below (Nat.le_of_lt (Array.getElem?_eq_some_iff.1 qr).1) (fun k e => Nat.le_of_eq e.symm))
    refine bodyPost_ret (v := .tuple #[.agg #[.int .i64 0, .slice none 0 0, .slice none 0 0, .string ⟨#[]⟩, .slice none 0 0, .string ⟨#[]⟩, .string ⟨#[]⟩, .string ⟨#[]⟩, .int .i64 0, .string ⟨#[]⟩], .int .i64 2]) ?_ rfl ?_
    · rw [results_cell_tmp rfl]
      simp [asAddr, Result.andThen, hld]
    · refine ⟨BQz, ?_⟩
      rw [DD.out, if_pos (.inl hb)]
      rfl
  | false =>
    cases hok : okO o with
    | false =>
      have e1 : errO o = 1 := by unfold errO; rw [hok]; rfl
      rw [e1] at henc
      have HENC := Lib.hid henc
      clear henc
      go_wp2_with fail
      rw [← HV.out]
      refine HENC.out.mono ?_
      rintro e y1 ⟨v1, rfl, o1, b1⟩
      obtain ⟨ay, cy, By, rfl, sy, _⟩ := OutAt.src o1
      have S7 := Lib.hid (ST.out.low (Turn.of_below (fun _ => False) b1) (fun k hk => hk.elim))
      have B7 := Lib.hid b1
      obtain ⟨_, _, _, _, hrd, _, _⟩ := S7.out.rd
      obtain ⟨_, p1, _⟩ := rd_cells hrd
      rw [← HBAD.out, hb] at p1
      have qr : y1.heap[w.heap.size]? = some (.cells #[.int .i64 0, .slice none 0 0, .slice none 0 0, .string ⟨#[]⟩, .slice none 0 0, .string ⟨#[]⟩, .string ⟨#[]⟩, .string ⟨#[]⟩, .int .i64 0, .string ⟨#[]⟩] 26 (0, 0)) := S7.out.res
      obtain ⟨u0, u1, u2, u3, u4, u5, u6, u7, u8, u9⟩ := obj_cells qr
      have f0 := obj_fz qr
      clear b1 o1 sy hrd
      go_wp2_with fail
      obtain ⟨g9, gt⟩ := ten_set y1 w.heap.size 26 (.int .i64 0) (.slice none 0 0) (.slice none 0 0) (.string ⟨#[]⟩) (.slice none 0 0) (.string ⟨#[]⟩) (.string ⟨#[]⟩) (.string ⟨#[]⟩) (.int .i64 0) (.string ⟨#[]⟩) (.int .i64 0) (.slice none 0 0) (.slice none 0 0) (.string ⟨#[]⟩) (.slice none 0 0) (.string ⟨#[]⟩) (.string ⟨#[]⟩) (.string ⟨#[]⟩) (.int .i64 0) (.string ⟨#[]⟩) qr
      have hld := run_loadVar_row (P := Try.prog) _ w.heap.size 26 26 #[.int .i64 0, .slice none 0 0, .slice none 0 0, .string ⟨#[]⟩, .slice none 0 0, .string ⟨#[]⟩, .string ⟨#[]⟩, .string ⟨#[]⟩, .int .i64 0, .string ⟨#[]⟩] (0, 0) _ g9 Try.underlying26 rfl (by kernel_rfl)
      have BQz := S7.out.below.trans (gt.below (Nat.le_of_lt (Array.getElem?_eq_some_iff.1 qr).1) (fun k e => Nat.le_of_eq e.symm))
      refine bodyPost_ret (v := .tuple #[.agg #[.int .i64 0, .slice none 0 0, .slice none 0 0, .string ⟨#[]⟩, .slice none 0 0, .string ⟨#[]⟩, .string ⟨#[]⟩, .string ⟨#[]⟩, .int .i64 0, .string ⟨#[]⟩], .int .i64 2]) ?_ rfl ?_
      · rw [results_cell_tmp rfl]
        simp [asAddr, Result.andThen, hld]
      · refine ⟨BQz, ?_⟩
        rw [DD.out, if_pos (.inr (.inl hok))]
        rfl
    | true =>
      have e1 : errO o = 0 := by unfold errO; rw [hok]; rfl
      have e2 : bytesO o = encO o := by unfold bytesO; rw [hok]; rfl
      rw [e1, e2] at henc
      by_cases heq : encO o = c :: r
      · have HEQ := Lib.hid heq
        have HENC := Lib.hid henc
        clear henc
        go_wp2_with fail
        rw [← HV.out]
        refine HENC.out.mono ?_
        rintro e y1 ⟨v1, rfl, o1, b1⟩
        obtain ⟨ay, cy, By, rfl, sy, _⟩ := OutAt.src o1
        have S7 := Lib.hid (ST.out.low (Turn.of_below (fun _ => False) b1) (fun k hk => hk.elim))
        have B7 := Lib.hid b1
        obtain ⟨_, _, _, _, hrd, _, _⟩ := S7.out.rd
        obtain ⟨_, p1, _⟩ := rd_cells hrd
        rw [← HBAD.out, hb] at p1
        have hsame := same_any y1 sy (SB.out y1 S7.out.below)
        rw [decide_eq_true heq, ← HN.out] at hsame
        have HS := Lib.hid hsame
        clear hsame heq
        have qr : y1.heap[w.heap.size]? = some (.cells #[.int .i64 0, .slice none 0 0, .slice none 0 0, .string ⟨#[]⟩, .slice none 0 0, .string ⟨#[]⟩, .string ⟨#[]⟩, .string ⟨#[]⟩, .int .i64 0, .string ⟨#[]⟩] 26 (0, 0)) := S7.out.res
        obtain ⟨u0, u1, u2, u3, u4, u5, u6, u7, u8, u9⟩ := obj_cells qr
        have f0 := obj_fz qr
        have hrow : y1.heap[w.heap.size + 1 + 1]? = some (.cells #[.int .i64 4, .slice none 0 0, .slice none 0 0, .string ⟨#[]⟩, .slice none 0 0, .string (SL P1.1), .string (SL P2.1), .string (SL P3.1), .int .i64 (P4.1 : Int), .string (SL P5.1)] 26 (0, 0)) := S7.out.obj
        obtain ⟨s0, s1, s2, s3, s4, s5, s6, s7, s8, s9⟩ := obj_cells hrow
        clear b1 o1 sy hrd hrow
        go_wp2_with (go_at_call 17; refine HS.out.mono ?_; rintro e y2 ⟨rfl, hy⟩; have hy := hy.symm; subst hy)
        obtain ⟨g9, gt⟩ := ten_set y1 w.heap.size 26 (.int .i64 0) (.slice none 0 0) (.slice none 0 0) (.string ⟨#[]⟩) (.slice none 0 0) (.string ⟨#[]⟩) (.string ⟨#[]⟩) (.string ⟨#[]⟩) (.int .i64 0) (.string ⟨#[]⟩) (.int .i64 4) (.slice none 0 0) (.slice none 0 0) (.string ⟨#[]⟩) (.slice none 0 0) (.string (SL P1.1)) (.string (SL P2.1)) (.string (SL P3.1)) (.int .i64 (P4.1 : Int)) (.string (SL P5.1)) qr
        have hld := run_loadVar_row (P := Try.prog) _ w.heap.size 26 26 #[.int .i64 4, .slice none 0 0, .slice none 0 0, .string ⟨#[]⟩, .slice none 0 0, .string (SL P1.1), .string (SL P2.1), .string (SL P3.1), .int .i64 (P4.1 : Int), .string (SL P5.1)] (0, 0) _ g9 Try.underlying26 rfl (by kernel_rfl)
        have BQz := S7.out.below.trans (gt.below (Nat.le_of_lt (Array.getElem?_eq_some_iff.1 qr).1) (fun k e => Nat.le_of_eq e.symm))
        refine bodyPost_ret (v := .tuple #[.agg #[.int .i64 4, .slice none 0 0, .slice none 0 0, .string ⟨#[]⟩, .slice none 0 0, .string (SL P1.1), .string (SL P2.1), .string (SL P3.1), .int .i64 (P4.1 : Int), .string (SL P5.1)], .int .i64 0]) ?_ rfl ?_
        · rw [results_cell_tmp rfl]
          simp [asAddr, Result.andThen, hld]
        · refine ⟨BQz, ?_⟩
          rw [DD.out, if_neg (by rw [hb, hok]; rintro (h | h | h) <;> first | exact Bool.noConfusion h | exact h HEQ.out)]
          refine ⟨.slice none 0 0, .slice none 0 0, .slice none 0 0, ?_, ?_⟩
          · rw [HO.out]; rfl
          · rw [HO.out]
            exact (I0.out.turn ((Turn.of_below (fun k => k = w.heap.size) B7.out).trans gt) (fun k hk e => by have h1 : w.heap.size + 1 + 1 < k := hk; have h2 : k = w.heap.size := e; omega)).mono (fun k _ hk => by have h1 : w.heap.size + 1 + 1 < k := hk; show w.heap.size ≤ k; omega)
      · have hne := heq
        have HNE := Lib.hid hne
        have HENC := Lib.hid henc
        clear henc
        go_wp2_with fail
        rw [← HV.out]
        refine HENC.out.mono ?_
        rintro e y1 ⟨v1, rfl, o1, b1⟩
        obtain ⟨ay, cy, By, rfl, sy, _⟩ := OutAt.src o1
        have S7 := Lib.hid (ST.out.low (Turn.of_below (fun _ => False) b1) (fun k hk => hk.elim))
        have B7 := Lib.hid b1
        obtain ⟨_, _, _, _, hrd, _, _⟩ := S7.out.rd
        obtain ⟨_, p1, _⟩ := rd_cells hrd
        rw [← HBAD.out, hb] at p1
        have hsame := same_any y1 sy (SB.out y1 S7.out.below)
        rw [decide_eq_false hne, ← HN.out] at hsame
        have HS := Lib.hid hsame
        clear hsame hne heq
        have qr : y1.heap[w.heap.size]? = some (.cells #[.int .i64 0, .slice none 0 0, .slice none 0 0, .string ⟨#[]⟩, .slice none 0 0, .string ⟨#[]⟩, .string ⟨#[]⟩, .string ⟨#[]⟩, .int .i64 0, .string ⟨#[]⟩] 26 (0, 0)) := S7.out.res
        obtain ⟨u0, u1, u2, u3, u4, u5, u6, u7, u8, u9⟩ := obj_cells qr
        have f0 := obj_fz qr
        clear b1 o1 sy hrd
        go_wp2_with (go_at_call 17; refine HS.out.mono ?_; rintro e y2 ⟨rfl, hy⟩; have hy := hy.symm; subst hy)
        obtain ⟨g9, gt⟩ := ten_set y1 w.heap.size 26 (.int .i64 0) (.slice none 0 0) (.slice none 0 0) (.string ⟨#[]⟩) (.slice none 0 0) (.string ⟨#[]⟩) (.string ⟨#[]⟩) (.string ⟨#[]⟩) (.int .i64 0) (.string ⟨#[]⟩) (.int .i64 0) (.slice none 0 0) (.slice none 0 0) (.string ⟨#[]⟩) (.slice none 0 0) (.string ⟨#[]⟩) (.string ⟨#[]⟩) (.string ⟨#[]⟩) (.int .i64 0) (.string ⟨#[]⟩) qr
        have hld := run_loadVar_row (P := Try.prog) _ w.heap.size 26 26 #[.int .i64 0, .slice none 0 0, .slice none 0 0, .string ⟨#[]⟩, .slice none 0 0, .string ⟨#[]⟩, .string ⟨#[]⟩, .string ⟨#[]⟩, .int .i64 0, .string ⟨#[]⟩] (0, 0) _ g9 Try.underlying26 rfl (by kernel_rfl)
        have BQz := S7.out.below.trans (gt.below (Nat.le_of_lt (Array.getElem?_eq_some_iff.1 qr).1) (fun k e => Nat.le_of_eq e.symm))
        refine bodyPost_ret (v := .tuple #[.agg #[.int .i64 0, .slice none 0 0, .slice none 0 0, .string ⟨#[]⟩, .slice none 0 0, .string ⟨#[]⟩, .string ⟨#[]⟩, .string ⟨#[]⟩, .int .i64 0, .string ⟨#[]⟩], .int .i64 2]) ?_ rfl ?_
        · rw [results_cell_tmp rfl]
          simp [asAddr, Result.andThen, hld]
        · refine ⟨BQz, ?_⟩
          rw [DD.out, if_pos (.inr (.inr HNE.out))]
          rfl
end Go.Proofs.Ytckbeeadkiiccaa
