/- The document's Decode where the first byte is 2. Written by wip/tools/mk_refdec.py. -/
import Derived.Test.YtckbeeadkiiccaaCRefD
import Derived.Test.YtckbeeadkiiccaaCDecTo
import Derived.Test.YtckbeeadkiiccaaCRefDS
import Derived.Deep.RegionHeld3
import Derived.Deep.RegionLaw
import Derived.Deep.CutBlock
import Derived.Deep.Cut
namespace Go.Proofs.Ytckbeeadkiiccaa
open Go.RowKit
set_option maxRecDepth 100000 in
set_option maxHeartbeats 16000000 in
theorem refDec_2 (ao : Option Addr) (cap B off : Nat) (c : UInt8) (r : OB) (w : World) (h : SrcAt w ao cap (c :: r) B off) (hl : (c :: r).length ≤ 140737488355328) (hk : c.toNat = 2) :
    Calls Try.prog 23 #[.slice ao (c :: r).length cap] w (DecTo (c :: r) w) := by
  have hrl : r.length ≤ 140737488355328 := by rw [List.length_cons] at hl; omega
  have hfit := rdO_fits c.toNat r hrl
  have hdd := decO_cons c r
  rw [hk, show rdO 2 r = rdTree (r, false) from rfl] at hfit hdd
  obtain ⟨P1, eP1⟩ : ∃ x, x = rdNum (r, false) := ⟨_, rfl⟩
  obtain ⟨R, eR⟩ : ∃ x, x = rdEnts P1.1 P1.2 := ⟨_, rfl⟩
  replace hdd : decO (c :: r) = if R.2.2 = true ∨ okO ({ zeroO 2 with ents := R.1 } : ObjR) = false ∨ encO ({ zeroO 2 with ents := R.1 } : ObjR) ≠ c :: r then none else some ({ zeroO 2 with ents := R.1 } : ObjR) := by
    subst eP1
    subst eR
    exact hdd
  replace hfit : ObjFits ({ zeroO 2 with ents := R.1 } : ObjR) := by
    subst eP1
    subst eR
    exact hfit
  have lP1 : P1.2.1.length ≤ 140737488355328 := by rw [eP1]; exact Nat.le_trans rdNum_le hrl
  have lR : R.2.1.length ≤ 140737488355328 := by rw [eR]; exact Nat.le_trans (rdEnts_fits _ _).2.1 lP1
  obtain ⟨o, ho⟩ : ∃ o, o = ({ zeroO 2 with ents := R.1 } : ObjR) := ⟨_, rfl⟩
  rw [← ho] at hdd
  have HO := Lib.hid ho
  have EP1 := Lib.hid eP1
  have HP1 := Lib.hid lP1
  have ER := Lib.hid eR
  have HR := Lib.hid lR
  clear ho eP1 lP1 eR lR
  obtain ⟨al, hsl, sl⟩ := h.slice_l 1 (by simp)
  have hsrc := h.src (by simp)
  have hold := h.old (by simp)
  have hc0 := h.cell 0 (by simp)
  simp only [List.getD_cons_zero, Nat.add_zero] at hc0
  rw [List.drop_succ_cons, List.drop_zero] at sl
  rw [hk] at hc0
  have hc0 : w.cell? ⟨B, off, none⟩ = some (.int .u8 2) := hc0
  subst hsrc
  have hsb := fun (W : World) (hb : Below w.heap.size w W) => h.below hb
  obtain ⟨m, hm⟩ : ∃ m, m = r.length := ⟨_, rfl⟩
  obtain ⟨n, hn⟩ : ∃ n, n = (c :: r).length := ⟨_, rfl⟩
  have hnm : n - 1 = m := by rw [hn, hm]; simp
  have hn0 : 0 < n := by rw [hn]; simp
  rw [← hn, hnm] at hsl
  rw [← hn]
  have i0 : ((n : Int) == 0) = false := by simp; omega
  have i1 : (0 : Int) < (n : Int) := by omega
  have hsl : ∀ W : World, (Instr.slice 22 (.slice (some ⟨B, off, none⟩) n cap) (some (.int .i64 1)) none none).run Try.prog W = .ok (.slice al m (cap - 1)) W := hsl
  have b1 : Below w.heap.size w (w.alloc (.cells #[.int .i64 0, .slice none 0 0, .slice none 0 0, .string ⟨#[]⟩, .slice none 0 0, .string ⟨#[]⟩, .string ⟨#[]⟩, .string ⟨#[]⟩, .int .i64 0, .string ⟨#[]⟩] 26)) := (Below.refl _ _).alloc (Nat.le_refl _) _
  have b2 : Below w.heap.size w ((w.alloc (.cells #[.int .i64 0, .slice none 0 0, .slice none 0 0, .string ⟨#[]⟩, .slice none 0 0, .string ⟨#[]⟩, .string ⟨#[]⟩, .string ⟨#[]⟩, .int .i64 0, .string ⟨#[]⟩] 26)).alloc (.cells #[.slice al m (cap - 1), .bool false] 72)) := b1.alloc b1.size _
  have c0 : ((w.alloc (.cells #[.int .i64 0, .slice none 0 0, .slice none 0 0, .string ⟨#[]⟩, .slice none 0 0, .string ⟨#[]⟩, .string ⟨#[]⟩, .string ⟨#[]⟩, .int .i64 0, .string ⟨#[]⟩] 26)).alloc (.cells #[.slice al m (cap - 1), .bool false] 72)).cell? ⟨B, off, none⟩ = some (.int .u8 2) := (b2.cell (p := ⟨B, off, none⟩) hold).trans hc0
  obtain ⟨W3, hW3⟩ : ∃ W, W = ((w.alloc (.cells #[.int .i64 0, .slice none 0 0, .slice none 0 0, .string ⟨#[]⟩, .slice none 0 0, .string ⟨#[]⟩, .string ⟨#[]⟩, .string ⟨#[]⟩, .int .i64 0, .string ⟨#[]⟩] 26)).alloc (.cells #[.slice al m (cap - 1), .bool false] 72)).alloc (.cells #[.int .i64 2, .slice none 0 0, .slice none 0 0, .string ⟨#[]⟩, .slice none 0 0, .string ⟨#[]⟩, .string ⟨#[]⟩, .string ⟨#[]⟩, .int .i64 0, .string ⟨#[]⟩] 26) := ⟨_, rfl⟩
  have hst : DecSt w w.heap.size (w.heap.size + 1) (w.heap.size + 1 + 1) (fun k => k = w.heap.size + 1 + 1) (r, false) (objC (zeroO 2) (.slice none 0 0) (.slice none 0 0) (.slice none 0 0)) W3 := by
    have s1 : (w.alloc (.cells #[.int .i64 0, .slice none 0 0, .slice none 0 0, .string ⟨#[]⟩, .slice none 0 0, .string ⟨#[]⟩, .string ⟨#[]⟩, .string ⟨#[]⟩, .int .i64 0, .string ⟨#[]⟩] 26)).heap.size = w.heap.size + 1 := by simp
    have s2 : ((w.alloc (.cells #[.int .i64 0, .slice none 0 0, .slice none 0 0, .string ⟨#[]⟩, .slice none 0 0, .string ⟨#[]⟩, .string ⟨#[]⟩, .string ⟨#[]⟩, .int .i64 0, .string ⟨#[]⟩] 26)).alloc (.cells #[.slice al m (cap - 1), .bool false] 72)).heap.size = w.heap.size + 1 + 1 := by simp
    have d2 : Below (w.heap.size + 1) (w.alloc (.cells #[.int .i64 0, .slice none 0 0, .slice none 0 0, .string ⟨#[]⟩, .slice none 0 0, .string ⟨#[]⟩, .string ⟨#[]⟩, .string ⟨#[]⟩, .int .i64 0, .string ⟨#[]⟩] 26)) ((w.alloc (.cells #[.int .i64 0, .slice none 0 0, .slice none 0 0, .string ⟨#[]⟩, .slice none 0 0, .string ⟨#[]⟩, .string ⟨#[]⟩, .string ⟨#[]⟩, .int .i64 0, .string ⟨#[]⟩] 26)).alloc (.cells #[.slice al m (cap - 1), .bool false] 72)) := (Below.refl _ _).alloc (by simp) _
    have d3 : Below (w.heap.size + 1 + 1) ((w.alloc (.cells #[.int .i64 0, .slice none 0 0, .slice none 0 0, .string ⟨#[]⟩, .slice none 0 0, .string ⟨#[]⟩, .string ⟨#[]⟩, .string ⟨#[]⟩, .int .i64 0, .string ⟨#[]⟩] 26)).alloc (.cells #[.slice al m (cap - 1), .bool false] 72)) W3 := by rw [hW3]; exact (Below.refl _ _).alloc (by simp) _
    have x1 : (w.alloc (.cells #[.int .i64 0, .slice none 0 0, .slice none 0 0, .string ⟨#[]⟩, .slice none 0 0, .string ⟨#[]⟩, .string ⟨#[]⟩, .string ⟨#[]⟩, .int .i64 0, .string ⟨#[]⟩] 26)).heap[w.heap.size]? = some (.cells #[.int .i64 0, .slice none 0 0, .slice none 0 0, .string ⟨#[]⟩, .slice none 0 0, .string ⟨#[]⟩, .string ⟨#[]⟩, .string ⟨#[]⟩, .int .i64 0, .string ⟨#[]⟩] 26 (0, 0)) := heap_alloc_new w _
    have x2 : ((w.alloc (.cells #[.int .i64 0, .slice none 0 0, .slice none 0 0, .string ⟨#[]⟩, .slice none 0 0, .string ⟨#[]⟩, .string ⟨#[]⟩, .string ⟨#[]⟩, .int .i64 0, .string ⟨#[]⟩] 26)).alloc (.cells #[.slice al m (cap - 1), .bool false] 72)).heap[w.heap.size + 1]? = some (.cells #[.slice al m (cap - 1), .bool false] 72 (0, 0)) := by
      have := heap_alloc_new (w.alloc (.cells #[.int .i64 0, .slice none 0 0, .slice none 0 0, .string ⟨#[]⟩, .slice none 0 0, .string ⟨#[]⟩, .string ⟨#[]⟩, .string ⟨#[]⟩, .int .i64 0, .string ⟨#[]⟩] 26)) (.cells #[.slice al m (cap - 1), .bool false] 72)
      rw [s1] at this
      exact this
    have x3 : W3.heap[w.heap.size + 1 + 1]? = some (.cells #[.int .i64 2, .slice none 0 0, .slice none 0 0, .string ⟨#[]⟩, .slice none 0 0, .string ⟨#[]⟩, .string ⟨#[]⟩, .string ⟨#[]⟩, .int .i64 0, .string ⟨#[]⟩] 26 (0, 0)) := by
      have := heap_alloc_new ((w.alloc (.cells #[.int .i64 0, .slice none 0 0, .slice none 0 0, .string ⟨#[]⟩, .slice none 0 0, .string ⟨#[]⟩, .string ⟨#[]⟩, .string ⟨#[]⟩, .int .i64 0, .string ⟨#[]⟩] 26)).alloc (.cells #[.slice al m (cap - 1), .bool false] 72)) (.cells #[.int .i64 2, .slice none 0 0, .slice none 0 0, .string ⟨#[]⟩, .slice none 0 0, .string ⟨#[]⟩, .string ⟨#[]⟩, .string ⟨#[]⟩, .int .i64 0, .string ⟨#[]⟩] 26)
      rw [s2, ← hW3] at this
      exact this
    rw [← s2] at d3
    rw [← s1] at d2
    have bb : Below w.heap.size w W3 := b2.trans (d3.mono (by rw [s2]; omega))
    refine ⟨below_turn d3 (below_turn d2 x1), ⟨al, cap - 1, B, off + 1, by rw [← hm]; exact below_turn d3 x2, sl.below bb, fun _ => ⟨by omega, by omega⟩⟩, x3, bb, by omega, by omega, rfl⟩
  have SB := Lib.hid hsb
  have HW := Lib.hid hW3
  have ST := Lib.hid hst
  have FIT := Lib.hid hfit
  have DD := Lib.hid hdd
  have HN := Lib.hid hn
  have HL := Lib.hid hrl
  have HM := Lib.hid hm
  clear hsb hW3 hst hfit hdd b1 b2 hc0 h sl hl hn hrl hold hnm hm hk
  go_enter Try.func23, Try.ntmps23
  go_upto_block 0 with fail
  rw [← HW.out]
  go_cut [5] from 6 (fun s5 wx => s5 = Value.pointer (some ⟨w.heap.size + 1 + 1, 0, none⟩) ∧ ∃ a4 n4 c4, Hid (EntsAt wx (fun k => w.heap.size + 1 + 1 < k) (.slice a4 n4 c4) R.1) ∧ Hid (DecSt w w.heap.size (w.heap.size + 1) (w.heap.size + 1 + 1) (fun k => k = w.heap.size + 1 + 1) R.2 #[.int .i64 2, .slice none 0 0, .slice a4 n4 c4, .string ⟨#[]⟩, .slice none 0 0, .string ⟨#[]⟩, .string ⟨#[]⟩, .string ⟨#[]⟩, .int .i64 0, .string ⟨#[]⟩] wx))
  case first =>
    go_wp2_with fail
    have g := rdNum_g (fun k => k = w.heap.size + 1 + 1) (w.heap.size + 1) (r, false) W3 (fun k e => by rw [e]; exact ST.out.lt) ST.out.rd HL.out
    rw [← EP1.out] at g
    have GG := Lib.hid g
    clear g
    refine GG.out.mono ?_
    rintro e w4 ⟨rfl, r1, t1⟩
    have ST : Hid (DecSt w w.heap.size (w.heap.size + 1) (w.heap.size + 1 + 1) (fun k => k = w.heap.size + 1 + 1) P1.2 #[.int .i64 2, .slice none 0 0, .slice none 0 0, .string ⟨#[]⟩, .slice none 0 0, .string ⟨#[]⟩, .string ⟨#[]⟩, .string ⟨#[]⟩, .int .i64 0, .string ⟨#[]⟩] w4) := Lib.hid (ST.out.step r1 t1)
    clear r1 t1 GG
    have RLEN := Lib.hid (show R.1.length ≤ 5000000000000 from by have h1 := (rdEnts_fits P1.1 P1.2).1; rw [← ER.out] at h1; have h2 := HP1.out; omega)
    have hN : P1.1 ≤ 4611686018427387903 := by rw [EP1.out]; exact rdNum_max
    go_wp2_with fail
    go_loopw [7, 8] (fun i _ W => ∃ (k : Nat) (l : List EntR) (s' : RS) (a : Option Addr) (cc : Nat), i = .int .i64 (k : Int) ∧ k ≤ P1.1 ∧ k = l.length ∧ Hid (R = (l ++ (rdEnts (P1.1 - k) s').1, (rdEnts (P1.1 - k) s').2)) ∧ Hid (s'.1.length ≤ 140737488355328) ∧ Hid (EntsOwn (w.heap.size + 1 + 1 + 1) W (.slice a k cc) l) ∧ Hid (DecSt w w.heap.size (w.heap.size + 1) (w.heap.size + 1 + 1) (fun g => g = w.heap.size + 1 + 1 ∨ (Value.slice a k cc).ownBlock = some g) s' #[.int .i64 2, .slice none 0 0, .slice a k cc, .string ⟨#[]⟩, .slice none 0 0, .string ⟨#[]⟩, .string ⟨#[]⟩, .string ⟨#[]⟩, .int .i64 0, .string ⟨#[]⟩] W)) (fun i _ _ => P1.1 - (intOf i).toNat)
    case atStart => exact ⟨0, [], P1.2, none, 0, rfl, Nat.zero_le _, rfl, Lib.hid (by rw [Nat.sub_zero, List.nil_append]; exact ER.out), HP1, Lib.hid (ents_nil _ _), Lib.hid (ST.out.more (fun k _ hk => hk.elim id (fun e => by cases e)) (.inl rfl))⟩
    case round =>
      clear ST
      obtain ⟨k, l, s', a, cc, rfl, hk, hkl, HRE, HSL, O, ST⟩ := hrel
      obtain ⟨_, _, _, _, hrd, _, _⟩ := ST.out.rd
      obtain ⟨_, p1, _⟩ := rd_cells hrd
      clear hrd
      have KL := Lib.hid hkl
      clear hkl
      by_cases hlt : k < P1.1
      · have i0 : (0 : Int) ≤ (k : Int) := by omega
        have i1 : (k : Int) < (P1.1 : Int) := by omega
        cases hb : s'.2 with
        | false =>
          rw [hb] at p1
          obtain ⟨A1, hA1⟩ : ∃ q, q = rdText s' := ⟨_, rfl⟩
          obtain ⟨A2, hA2⟩ : ∃ q, q = rdBytes 1 A1.2 := ⟨_, rfl⟩
          obtain ⟨A3, hA3⟩ : ∃ q, q = rdBytes 32 A2.2 := ⟨_, rfl⟩
          obtain ⟨D, hD⟩ : ∃ d, d = (A2.1 == [1]) := ⟨_, rfl⟩
          have hE : rdEnt s' = (⟨A1.1, D, A3.1⟩, A3.2) := by rw [hD, hA3, hA2, hA1]; rfl
          have hR := HRE.out
          rw [show P1.1 - k = (P1.1 - (k + 1)) + 1 by omega, rdEnts_next (by rw [hb]; simp), hE] at hR
          have hlen : k + 1 ≤ 5000000000000 := by
            have h1 := RLEN.out
            have h2 := KL.out
            rw [hR] at h1
            simp only [List.length_append, List.length_cons] at h1
            omega
          have hl1 : A1.2.1.length ≤ 140737488355328 := by rw [hA1]; exact Nat.le_trans rdText_le HSL.out
          have hl2 : A2.2.1.length ≤ 140737488355328 := by rw [hA2]; exact Nat.le_trans rdBytes_le hl1
          have hl3 : A3.2.1.length ≤ 140737488355328 := by rw [hA3]; exact Nat.le_trans rdBytes_le hl2
          have hc1 := rdText_g (fun g => g = w.heap.size + 1 + 1 ∨ (Value.slice a k cc).ownBlock = some g) (w.heap.size + 1) s' wr (fun g hg => hg.elim (fun e => by rw [e]; exact ST.out.lt) (fun e => (O.out.lt g e).2)) ST.out.rd HSL.out
          rw [← hA1] at hc1
          have C1 := Lib.hid hc1
          have HRN := Lib.hid hR
          have HLN := Lib.hid hlen
          have L1 := Lib.hid hl1
          have L2 := Lib.hid hl2
          have L3 := Lib.hid hl3
          have HA2 := Lib.hid hA2
          have HA3 := Lib.hid hA3
          have HD := Lib.hid hD
          clear hR hlen hl1 hl2 hl3 hc1 hb hA1 hA2 hA3 hD hE HRE
          go_wp2_with fail
          refine C1.out.mono ?_
          rintro e w4 ⟨rfl, r4, t4⟩
          have ST4 := Lib.hid (ST.out.step r4 t4)
          have O4 : Hid (EntsOwn (w.heap.size + 1 + 1 + 1) w4 (.slice a k cc) l) := Lib.hid (row_turn O.out t4 (fun g hg e => by have h1 := (O.out.lt g hg).1; have h2 : g = w.heap.size + 1 := e; omega))
          clear r4 t4 C1 p1
          obtain ⟨W5, hW5⟩ : ∃ W, W = w4.alloc (.cells #[.string (SL A1.1), .bool false, .string ⟨#[]⟩] 30) := ⟨_, rfl⟩
          have b5 : Below w4.heap.size w4 W5 := by rw [hW5]; exact (Below.refl _ _).alloc (Nat.le_refl _) _
          have row5 : W5.heap[w4.heap.size]? = some (.cells #[.string (SL A1.1), .bool false, .string ⟨#[]⟩] 30 (0, 0)) := by rw [hW5]; exact heap_alloc_new w4 _
          have ST5 : Hid (DecSt w w.heap.size (w.heap.size + 1) (w.heap.size + 1 + 1) (fun g => (g = w.heap.size + 1 + 1 ∨ (Value.slice a k cc).ownBlock = some g) ∨ g = w4.heap.size) A1.2 #[.int .i64 2, .slice none 0 0, .slice a k cc, .string ⟨#[]⟩, .slice none 0 0, .string ⟨#[]⟩, .string ⟨#[]⟩, .string ⟨#[]⟩, .int .i64 0, .string ⟨#[]⟩] W5) := Lib.hid ((ST4.out.more (fun k hk hg => hg.elim id (fun e => by omega)) (.inl (.inl rfl))).low (Turn.of_below (fun _ => False) b5) (fun k hk => hk.elim))
          have O5 : Hid (EntsOwn (w.heap.size + 1 + 1 + 1) W5 (.slice a k cc) l) := Lib.hid (O4.out.below b5)
          have HW5 := Lib.hid hW5
          have ROW5 := Lib.hid row5
          have hc2 := rdBytes_g (fun g => (g = w.heap.size + 1 + 1 ∨ (Value.slice a k cc).ownBlock = some g) ∨ g = w4.heap.size) (w.heap.size + 1) A1.2 1 (by omega) W5 ST5.out.rd L1.out
          rw [← HA2.out] at hc2
          have C2 := Lib.hid hc2
          have XY := Lib.hid (show w.heap.size + 1 + 1 < w4.heap.size from ST4.out.lt)
          clear hW5 b5 row5 hc2
          go_wp2_with fail
          rw [← HW5.out]
          refine C2.out.mono ?_
          rintro e w6 ⟨rfl, r6, t6⟩
          have ST6 := Lib.hid (ST5.out.step r6 t6)
          have O6 : Hid (EntsOwn (w.heap.size + 1 + 1 + 1) w6 (.slice a k cc) l) := Lib.hid (row_turn O5.out t6 (fun g hg e => by have h1 := (O5.out.lt g hg).1; have h2 : g = w.heap.size + 1 := e; omega))
          have row6 := t6.keep ROW5.out (fun e => by have h1 := XY.out; have h2 : w4.heap.size = w.heap.size + 1 := e; omega)
          have f0 := cell_of_row _ _ 1 _ _ _ row6
          have f1 := frozen_of_row _ _ 1 _ _ row6
          have ROW6 := Lib.hid row6
          clear r6 t6 C2 row6
          go_wp2_with fail
          have hq : ((SL A2.1).toList == [1]) = D := by rw [HD.out, SL_toList]
          rw [hq]
          obtain ⟨V6, hV⟩ : ∃ V, V = World.setCell w6 ⟨w4.heap.size, 1, none⟩ (.bool D) := ⟨_, rfl⟩
          rw [← hV]
          have tv : Turn (fun k => k = w4.heap.size) w6 V6 := by rw [hV]; exact Turn.setCell _ _ _ rfl
          have rv : V6.heap[w4.heap.size]? = some (.cells #[.string (SL A1.1), .bool D, .string ⟨#[]⟩] 30 (0, 0)) := by rw [hV]; exact heap_setCell_same _ _ 1 _ _ _ ROW6.out
          have SV := Lib.hid (ST6.out.low tv (fun k hk => by have e : k = w4.heap.size := hk; exact ⟨by rw [e]; exact XY.out, .inr e⟩))
          have OV : Hid (EntsOwn (w.heap.size + 1 + 1 + 1) V6 (.slice a k cc) l) := Lib.hid (row_turn O6.out tv (fun g hg e => by have h1 := (O4.out.lt g hg).2; have h2 : g = w4.heap.size := e; omega))
          have RV := Lib.hid rv
          have hc3 := rdBytes_g (fun g => (g = w.heap.size + 1 + 1 ∨ (Value.slice a k cc).ownBlock = some g) ∨ g = w4.heap.size) (w.heap.size + 1) A2.2 32 (by omega) V6 SV.out.rd L2.out
          rw [← HA3.out] at hc3
          have C3 := Lib.hid hc3
          clear hV tv rv hc3 f0 f1 hq ROW6 O6 ST6 ROW5 O5 ST5
          refine C3.out.mono ?_
          rintro e w7 ⟨rfl, r7, t7⟩
          have ST7 := Lib.hid (SV.out.step r7 t7)
          have O7 : Hid (EntsOwn (w.heap.size + 1 + 1 + 1) w7 (.slice a k cc) l) := Lib.hid (row_turn OV.out t7 (fun g hg e => by have h1 := (OV.out.lt g hg).1; have h2 : g = w.heap.size + 1 := e; omega))
          have row7 := t7.keep RV.out (fun e => by have h1 := XY.out; have h2 : w4.heap.size = w.heap.size + 1 := e; omega)
          have f0 := cell_of_row _ _ 2 _ _ _ row7
          have f1 := frozen_of_row _ _ 2 _ _ row7
          have ROW7 := Lib.hid row7
          clear r7 t7 C3 row7 SV OV RV
          go_upto_region 16 with fail
          obtain ⟨V7, hV⟩ : ∃ V, V = World.setCell w7 ⟨w4.heap.size, 2, none⟩ (.string (SL A3.1)) := ⟨_, rfl⟩
          rw [← hV]
          have tv : Turn (fun k => k = w4.heap.size) w7 V7 := by rw [hV]; exact Turn.setCell _ _ _ rfl
          have rv : V7.heap[w4.heap.size]? = some (.cells #[.string (SL A1.1), .bool D, .string (SL A3.1)] 30 (0, 0)) := by rw [hV]; exact heap_setCell_same _ _ 2 _ _ _ ROW7.out
          have SV : Hid (DecSt w w.heap.size (w.heap.size + 1) (w.heap.size + 1 + 1) (fun g => g = w.heap.size + 1 + 1 ∨ (Value.slice a k cc).ownBlock = some g) A3.2 #[.int .i64 2, .slice none 0 0, .slice a k cc, .string ⟨#[]⟩, .slice none 0 0, .string ⟨#[]⟩, .string ⟨#[]⟩, .string ⟨#[]⟩, .int .i64 0, .string ⟨#[]⟩] V7) := Lib.hid ((ST7.out.low tv (fun k hk => by have e : k = w4.heap.size := hk; exact ⟨by rw [e]; exact XY.out, .inr e⟩)).more (fun k _ h => .inl h) (.inl rfl))
          have OV : Hid (EntsOwn (w.heap.size + 1 + 1 + 1) V7 (.slice a k cc) l) := Lib.hid (row_turn O7.out tv (fun g hg e => by have h1 := (O4.out.lt g hg).2; have h2 : g = w4.heap.size := e; omega))
          have d2 : V7.cell? ⟨w.heap.size + 1 + 1, 2, none⟩ = some (.slice a k cc) := cell_of_row _ _ _ _ _ _ SV.out.obj
          have e0 : V7.cell? ⟨w4.heap.size, 0, none⟩ = some (.string (SL A1.1)) := cell_of_row _ _ _ _ _ _ rv
          have e1 : V7.cell? ⟨w4.heap.size, 1, none⟩ = some (.bool D) := cell_of_row _ _ _ _ _ _ rv
          have e2 : V7.cell? ⟨w4.heap.size, 2, none⟩ = some (.string (SL A3.1)) := cell_of_row _ _ _ _ _ _ rv
          clear hV tv rv f0 f1 ROW7 O7 ST7
          go_wp2_with (at_builtin; refine wpList_dec_entry rfl _ _ rfl (w.heap.size + 1 + 1 + 1) (.slice a k cc) l rfl (OV.out.below ((Below.refl _ _).alloc (Nat.le_refl _) _)) ⟨V7.heap.size, 0, none⟩ 1 ⟨A1.1, D, A3.1⟩ rfl (lit_ent _ _) (by rw [← KL.out]; exact HLN.out) (by have := SV.out.lt; simp; omega) (k + 1) (by rw [← KL.out]) ?_; intro a6 c6 w8 o8 t8; have st8 := Lib.hid ((SV.out.low (Turn.of_below (fun _ => False) ((Below.refl _ _).alloc (Nat.le_refl _) _)) (fun k hk => hk.elim)).own t8.out); have k0 := cell_of_row _ _ 2 _ _ _ st8.out.obj; have k1 := frozen_of_row _ _ 2 _ _ st8.out.obj)
          go_roundw
          case rel => exact ⟨k + 1, l ++ [(⟨A1.1, D, A3.1⟩ : EntR)], A3.2, a6, c6, by go_num, by omega, by have := KL.out; simp; omega, Lib.hid (by rw [List.append_assoc]; exact HRN.out), L3, Lib.hid (row_turn o8.out (Turn.setCell (G := fun k => k = w.heap.size + 1 + 1) _ _ _ rfl) (fun g hg e => by have h1 := (o8.out.lt g hg).1; have h2 : g = w.heap.size + 1 + 1 := e; omega)), Lib.hid (st8.out.set 2 (.slice a6 (k + 1) c6))⟩
          case measure => simp [intOf]; omega
        | true =>
          rw [hb] at p1
          have hR := HRE.out
          rw [rdEnts_bad hb] at hR
          simp only [List.append_nil] at hR
          have HRN := Lib.hid hR
          clear hR hb HRE
          go_wp2_with fail
          go_meet
          exact ⟨rfl, a, k, cc, Lib.hid (by rw [HRN.out]; exact EntsAt.of_own O.out (fun g hg => (O.out.lt g hg).1)), Lib.hid (by rw [HRN.out]; exact ST.out.more (fun k _ e => .inl e) rfl)⟩
      · have i1 : ¬ (k : Int) < (P1.1 : Int) := by omega
        have hR := HRE.out
        rw [show P1.1 - k = 0 by omega] at hR
        have hR : R = (l ++ [], s') := hR
        rw [List.append_nil] at hR
        have HRN := Lib.hid hR
        clear hR HRE
        go_wp2_with fail
        go_meet
        exact ⟨rfl, a, k, cc, Lib.hid (by rw [HRN.out]; exact EntsAt.of_own O.out (fun g hg => (O.out.lt g hg).1)), Lib.hid (by rw [HRN.out]; exact ST.out.more (fun k _ e => .inl e) rfl)⟩
  case rest =>
    obtain ⟨rfl, a4, n4, c4, UP, ST⟩ := hcut
    have I0 : Hid (ObjIn wc (fun k => w.heap.size + 1 + 1 < k) ({ zeroO 2 with ents := R.1 } : ObjR) (.slice none 0 0) (.slice a4 n4 c4) (.slice none 0 0)) := Lib.hid ⟨bytesAt_nil _ _, UP.out, textsAt_nil _ _⟩
    have hrow := ST.out.obj
    have hrow : wc.heap[w.heap.size + 1 + 1]? = some (.cells #[.int .i64 2, .slice none 0 0, .slice a4 n4 c4, .string ⟨#[]⟩, .slice none 0 0, .string ⟨#[]⟩, .string ⟨#[]⟩, .string ⟨#[]⟩, .int .i64 0, .string ⟨#[]⟩] 26 (0, 0)) := hrow
    have henc : Calls Try.prog 14 #[.agg #[.int .i64 2, .slice none 0 0, .slice a4 n4 c4, .string ⟨#[]⟩, .slice none 0 0, .string ⟨#[]⟩, .string ⟨#[]⟩, .string ⟨#[]⟩, .int .i64 0, .string ⟨#[]⟩]] wc fun e w' => ∃ v, e = .returned (.tuple #[v, .int .i64 (errO o)]) ∧ OutAt wc.heap.size w' v (bytesO o) ∧ Below wc.heap.size wc w' := by
      rw [HO.out]
      exact refEncode_any (fun k => w.heap.size + 1 + 1 < k) ({ zeroO 2 with ents := R.1 } : ObjR) (.slice none 0 0) (.slice a4 n4 c4) (.slice none 0 0) wc I0.out FIT.out
    obtain ⟨s0, s1, s2, s3, s4, s5, s6, s7, s8, s9⟩ := obj_cells hrow
    obtain ⟨bad, hbad⟩ : ∃ x, x = R.2.2 := ⟨_, rfl⟩
    have HBAD := Lib.hid hbad
    rw [← hbad] at DD
    clear hrow hbad
    cases hb : bad with
    | true =>
      have HENC := Lib.hid henc
      clear henc
      go_wp2_with fail
      refine HENC.out.mono ?_
      rintro e y1 ⟨v1, rfl, o1, b1⟩
      obtain ⟨ay, cy, By, rfl, sy, _⟩ := OutAt.src o1
      have S7 := Lib.hid (ST.out.low (Turn.of_below (fun _ => False) b1) (fun k hk => hk.elim))
      have B7 := Lib.hid b1
      obtain ⟨_, _, _, _, hrd, _, _⟩ := S7.out.rd
      obtain ⟨_, p1, _⟩ := rd_cells hrd
      rw [← HBAD.out, hb] at p1
      have qr : y1.heap[w.heap.size]? = some (.cells #[.int .i64 0, .slice none 0 0, .slice none 0 0, .string ⟨#[]⟩, .slice none 0 0, .string ⟨#[]⟩, .string ⟨#[]⟩, .string ⟨#[]⟩, .int .i64 0, .string ⟨#[]⟩] 26 (0, 0)) := S7.out.res
      obtain ⟨u0, u1, u2, u3, u4, u5, u6, u7, u8, u9⟩ := obj_cells qr
      have f0 := obj_fz qr
      clear b1 o1 sy hrd
      go_wp2_with fail
      obtain ⟨g9, gt⟩ := ten_set y1 w.heap.size 26 (.int .i64 0) (.slice none 0 0) (.slice none 0 0) (.string ⟨#[]⟩) (.slice none 0 0) (.string ⟨#[]⟩) (.string ⟨#[]⟩) (.string ⟨#[]⟩) (.int .i64 0) (.string ⟨#[]⟩) (.int .i64 0) (.slice none 0 0) (.slice none 0 0) (.string ⟨#[]⟩) (.slice none 0 0) (.string ⟨#[]⟩) (.string ⟨#[]⟩) (.string ⟨#[]⟩) (.int .i64 0) (.string ⟨#[]⟩) qr
      have hld := run_loadVar_row (P := Try.prog) _ w.heap.size 26 26 #[.int .i64 0, .slice none 0 0, .slice none 0 0, .string ⟨#[]⟩, .slice none 0 0, .string ⟨#[]⟩, .string ⟨#[]⟩, .string ⟨#[]⟩, .int .i64 0, .string ⟨#[]⟩] (0, 0) _ g9 Try.underlying26 rfl (by kernel_rfl)
      have BQz := S7.out.below.trans (gt.below (Nat.le_of_lt (Array.getElem?_eq_some_iff.1 qr).1) (fun k e => Nat.le_of_eq e.symm))
      refine bodyPost_ret (v := .tuple #[.agg #[.int .i64 0, .slice none 0 0, .slice none 0 0, .string ⟨#[]⟩, .slice none 0 0, .string ⟨#[]⟩, .string ⟨#[]⟩, .string ⟨#[]⟩, .int .i64 0, .string ⟨#[]⟩], .int .i64 2]) ?_ rfl ?_
      · rw [results_cell_tmp rfl]
        simp [asAddr, Result.andThen, hld]
      · refine ⟨BQz, ?_⟩
        rw [DD.out, if_pos (.inl hb)]
        rfl
    | false =>
      cases hok : okO o with
      | false =>
        have e1 : errO o = 1 := by unfold errO; rw [hok]; rfl
        rw [e1] at henc
        have HENC := Lib.hid henc
        clear henc
        go_wp2_with fail
        refine HENC.out.mono ?_
        rintro e y1 ⟨v1, rfl, o1, b1⟩
        obtain ⟨ay, cy, By, rfl, sy, _⟩ := OutAt.src o1
        have S7 := Lib.hid (ST.out.low (Turn.of_below (fun _ => False) b1) (fun k hk => hk.elim))
        have B7 := Lib.hid b1
        obtain ⟨_, _, _, _, hrd, _, _⟩ := S7.out.rd
        obtain ⟨_, p1, _⟩ := rd_cells hrd
        rw [← HBAD.out, hb] at p1
        have qr : y1.heap[w.heap.size]? = some (.cells #[.int .i64 0, .slice none 0 0, .slice none 0 0, .string ⟨#[]⟩, .slice none 0 0, .string ⟨#[]⟩, .string ⟨#[]⟩, .string ⟨#[]⟩, .int .i64 0, .string ⟨#[]⟩] 26 (0, 0)) := S7.out.res
        obtain ⟨u0, u1, u2, u3, u4, u5, u6, u7, u8, u9⟩ := obj_cells qr
        have f0 := obj_fz qr
        clear b1 o1 sy hrd
        go_wp2_with fail
        obtain ⟨g9, gt⟩ := ten_set y1 w.heap.size 26 (.int .i64 0) (.slice none 0 0) (.slice none 0 0) (.string ⟨#[]⟩) (.slice none 0 0) (.string ⟨#[]⟩) (.string ⟨#[]⟩) (.string ⟨#[]⟩) (.int .i64 0) (.string ⟨#[]⟩) (.int .i64 0) (.slice none 0 0) (.slice none 0 0) (.string ⟨#[]⟩) (.slice none 0 0) (.string ⟨#[]⟩) (.string ⟨#[]⟩) (.string ⟨#[]⟩) (.int .i64 0) (.string ⟨#[]⟩) qr
        have hld := run_loadVar_row (P := Try.prog) _ w.heap.size 26 26 #[.int .i64 0, .slice none 0 0, .slice none 0 0, .string ⟨#[]⟩, .slice none 0 0, .string ⟨#[]⟩, .string ⟨#[]⟩, .string ⟨#[]⟩, .int .i64 0, .string ⟨#[]⟩] (0, 0) _ g9 Try.underlying26 rfl (by kernel_rfl)
        have BQz := S7.out.below.trans (gt.below (Nat.le_of_lt (Array.getElem?_eq_some_iff.1 qr).1) (fun k e => Nat.le_of_eq e.symm))
        refine bodyPost_ret (v := .tuple #[.agg #[.int .i64 0, .slice none 0 0, .slice none 0 0, .string ⟨#[]⟩, .slice none 0 0, .string ⟨#[]⟩, .string ⟨#[]⟩, .string ⟨#[]⟩, .int .i64 0, .string ⟨#[]⟩], .int .i64 2]) ?_ rfl ?_
        · rw [results_cell_tmp rfl]
          simp [asAddr, Result.andThen, hld]
        · refine ⟨BQz, ?_⟩
          rw [DD.out, if_pos (.inr (.inl hok))]
          rfl
      | true =>
        have e1 : errO o = 0 := by unfold errO; rw [hok]; rfl
        have e2 : bytesO o = encO o := by unfold bytesO; rw [hok]; rfl
        rw [e1, e2] at henc
        by_cases heq : encO o = c :: r
        · have HEQ := Lib.hid heq
          have HENC := Lib.hid henc
          clear henc
          go_wp2_with fail
          refine HENC.out.mono ?_
          rintro e y1 ⟨v1, rfl, o1, b1⟩
          obtain ⟨ay, cy, By, rfl, sy, _⟩ := OutAt.src o1
          have S7 := Lib.hid (ST.out.low (Turn.of_below (fun _ => False) b1) (fun k hk => hk.elim))
          have B7 := Lib.hid b1
          obtain ⟨_, _, _, _, hrd, _, _⟩ := S7.out.rd
          obtain ⟨_, p1, _⟩ := rd_cells hrd
          rw [← HBAD.out, hb] at p1
          have hsame := same_any y1 sy (SB.out y1 S7.out.below)
          rw [decide_eq_true heq, ← HN.out] at hsame
          have HS := Lib.hid hsame
          clear hsame heq
          have qr : y1.heap[w.heap.size]? = some (.cells #[.int .i64 0, .slice none 0 0, .slice none 0 0, .string ⟨#[]⟩, .slice none 0 0, .string ⟨#[]⟩, .string ⟨#[]⟩, .string ⟨#[]⟩, .int .i64 0, .string ⟨#[]⟩] 26 (0, 0)) := S7.out.res
          obtain ⟨u0, u1, u2, u3, u4, u5, u6, u7, u8, u9⟩ := obj_cells qr
          have f0 := obj_fz qr
          have hrow : y1.heap[w.heap.size + 1 + 1]? = some (.cells #[.int .i64 2, .slice none 0 0, .slice a4 n4 c4, .string ⟨#[]⟩, .slice none 0 0, .string ⟨#[]⟩, .string ⟨#[]⟩, .string ⟨#[]⟩, .int .i64 0, .string ⟨#[]⟩] 26 (0, 0)) := S7.out.obj
          obtain ⟨s0, s1, s2, s3, s4, s5, s6, s7, s8, s9⟩ := obj_cells hrow
          clear b1 o1 sy hrd hrow
          go_wp2_with (go_at_call 17; refine HS.out.mono ?_; rintro e y2 ⟨rfl, hy⟩; have hy := hy.symm; subst hy)
          obtain ⟨g9, gt⟩ := ten_set y1 w.heap.size 26 (.int .i64 0) (.slice none 0 0) (.slice none 0 0) (.string ⟨#[]⟩) (.slice none 0 0) (.string ⟨#[]⟩) (.string ⟨#[]⟩) (.string ⟨#[]⟩) (.int .i64 0) (.string ⟨#[]⟩) (.int .i64 2) (.slice none 0 0) (.slice a4 n4 c4) (.string ⟨#[]⟩) (.slice none 0 0) (.string ⟨#[]⟩) (.string ⟨#[]⟩) (.string ⟨#[]⟩) (.int .i64 0) (.string ⟨#[]⟩) qr
          have hld := run_loadVar_row (P := Try.prog) _ w.heap.size 26 26 #[.int .i64 2, .slice none 0 0, .slice a4 n4 c4, .string ⟨#[]⟩, .slice none 0 0, .string ⟨#[]⟩, .string ⟨#[]⟩, .string ⟨#[]⟩, .int .i64 0, .string ⟨#[]⟩] (0, 0) _ g9 Try.underlying26 rfl (by kernel_rfl)
          have BQz := S7.out.below.trans (gt.below (Nat.le_of_lt (Array.getElem?_eq_some_iff.1 qr).1) (fun k e => Nat.le_of_eq e.symm))
          refine bodyPost_ret (v := .tuple #[.agg #[.int .i64 2, .slice none 0 0, .slice a4 n4 c4, .string ⟨#[]⟩, .slice none 0 0, .string ⟨#[]⟩, .string ⟨#[]⟩, .string ⟨#[]⟩, .int .i64 0, .string ⟨#[]⟩], .int .i64 0]) ?_ rfl ?_
          · rw [results_cell_tmp rfl]
            simp [asAddr, Result.andThen, hld]
          · refine ⟨BQz, ?_⟩
            rw [DD.out, if_neg (by rw [hb, hok]; rintro (h | h | h) <;> first | exact Bool.noConfusion h | exact h HEQ.out)]
            refine ⟨.slice none 0 0, .slice a4 n4 c4, .slice none 0 0, ?_, ?_⟩
            · rw [HO.out]; rfl
            · rw [HO.out]
              exact (I0.out.turn ((Turn.of_below (fun k => k = w.heap.size) B7.out).trans gt) (fun k hk e => by have h1 : w.heap.size + 1 + 1 < k := hk; have h2 : k = w.heap.size := e; omega)).mono (fun k _ hk => by have h1 : w.heap.size + 1 + 1 < k := hk; show w.heap.size ≤ k; omega)
        · have hne := heq
          have HNE := Lib.hid hne
          have HENC := Lib.hid henc
          clear henc
          go_wp2_with fail
          refine HENC.out.mono ?_
          rintro e y1 ⟨v1, rfl, o1, b1⟩
          obtain ⟨ay, cy, By, rfl, sy, _⟩ := OutAt.src o1
          have S7 := Lib.hid (ST.out.low (Turn.of_below (fun _ => False) b1) (fun k hk => hk.elim))
          have B7 := Lib.hid b1
          obtain ⟨_, _, _, _, hrd, _, _⟩ := S7.out.rd
          obtain ⟨_, p1, _⟩ := rd_cells hrd
          rw [← HBAD.out, hb] at p1
          have hsame := same_any y1 sy (SB.out y1 S7.out.below)
          rw [decide_eq_false hne, ← HN.out] at hsame
          have HS := Lib.hid hsame
          clear hsame hne heq
          have qr : y1.heap[w.heap.size]? = some (.cells #[.int .i64 0, .slice none 0 0, .slice none 0 0, .string ⟨#[]⟩, .slice none 0 0, .string ⟨#[]⟩, .string ⟨#[]⟩, .string ⟨#[]⟩, .int .i64 0, .string ⟨#[]⟩] 26 (0, 0)) := S7.out.res
          obtain ⟨u0, u1, u2, u3, u4, u5, u6, u7, u8, u9⟩ := obj_cells qr
          have f0 := obj_fz qr
          clear b1 o1 sy hrd
          go_wp2_with (go_at_call 17; refine HS.out.mono ?_; rintro e y2 ⟨rfl, hy⟩; have hy := hy.symm; subst hy)
          obtain ⟨g9, gt⟩ := ten_set y1 w.heap.size 26 (.int .i64 0) (.slice none 0 0) (.slice none 0 0) (.string ⟨#[]⟩) (.slice none 0 0) (.string ⟨#[]⟩) (.string ⟨#[]⟩) (.string ⟨#[]⟩) (.int .i64 0) (.string ⟨#[]⟩) (.int .i64 0) (.slice none 0 0) (.slice none 0 0) (.string ⟨#[]⟩) (.slice none 0 0) (.string ⟨#[]⟩) (.string ⟨#[]⟩) (.string ⟨#[]⟩) (.int .i64 0) (.string ⟨#[]⟩) qr
          have hld := run_loadVar_row (P := Try.prog) _ w.heap.size 26 26 #[.int .i64 0, .slice none 0 0, .slice none 0 0, .string ⟨#[]⟩, .slice none 0 0, .string ⟨#[]⟩, .string ⟨#[]⟩, .string ⟨#[]⟩, .int .i64 0, .string ⟨#[]⟩] (0, 0) _ g9 Try.underlying26 rfl (by kernel_rfl)
          have BQz := S7.out.below.trans (gt.below (Nat.le_of_lt (Array.getElem?_eq_some_iff.1 qr).1) (fun k e => Nat.le_of_eq e.symm))
          refine bodyPost_ret (v := .tuple #[.agg #[.int .i64 0, .slice none 0 0, .slice none 0 0, .string ⟨#[]⟩, .slice none 0 0, .string ⟨#[]⟩, .string ⟨#[]⟩, .string ⟨#[]⟩, .int .i64 0, .string ⟨#[]⟩], .int .i64 2]) ?_ rfl ?_
          · rw [results_cell_tmp rfl]
            simp [asAddr, Result.andThen, hld]
          · refine ⟨BQz, ?_⟩
            rw [DD.out, if_pos (.inr (.inr HNE.out))]
            rfl
end Go.Proofs.Ytckbeeadkiiccaa
