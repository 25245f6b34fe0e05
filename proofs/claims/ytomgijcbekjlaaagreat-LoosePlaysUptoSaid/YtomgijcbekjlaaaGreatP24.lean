/- What the proofs stand on: RefDec1, RefDec2, RefDec3, RefDecode. -/
import Derived.Deep.RegionHeld3
import Derived.Deep.RegionLaw
import Derived.Deep.CutBlock
import Derived.Deep.Cut
import Derived.Test.YtomgijcbekjlaaaGreatP23
import Derived.Test.YtomgijcbekjlaaaGreatP9
import Derived.Test.YtomgijcbekjlaaaGreatPB0
import Derived.Test.YtomgijcbekjlaaaGreatPB1
set_option maxRecDepth 100000
set_option maxHeartbeats 40000000
namespace Go.Proofs.YtomgijcbekjlaaaGreat
section
open Go.RowKit
theorem refDec_1 (ao : Option Addr) (cap B off : Nat) (c : UInt8) (r : OB) (w : World) (h : SrcAt w ao cap (c :: r) B off) (hl : (c :: r).length <= 140737488355328) (hk : c.toNat = 1) :
  Calls Tryz.prog 51 #[.slice ao (c :: r).length cap] w (DecTo (c :: r) w) := by
 have hrl : r.length <= 140737488355328 := by rw [List.length_cons] at hl; omega
 have hfit := rdO_fits c.toNat r hrl; have hdd := decO_cons c r; rw [hk, show rdO 1 r = ({ zeroO 1 with data := r }, (r, false)) from rfl] at hfit hdd
 replace hdd : decO (c :: r) = if (r, false).2 = true \/ okO ({ zeroO 1 with data := r } : ObjR) = false \/ encO ({ zeroO 1 with data := r } : ObjR) ≠ c :: r then none else some ({ zeroO 1 with data := r } : ObjR) := by
  exact hdd
 replace hfit : ObjFits ({ zeroO 1 with data := r } : ObjR) := by
  exact hfit
 obtain ⟨o, ho⟩ : ∃ o, o = ({ zeroO 1 with data := r } : ObjR) := ⟨_, rfl⟩
 rw [<- ho] at hdd; have HO := h_ ho; clear ho; obtain ⟨al, hsl, sl⟩ := h.slice_l 1 (by simp)
 have hsrc := h.src (by simp)
 have hold := h.old (by simp)
 have hc0 := h.cell 0 (by simp)
 simp only [List.getD_cons_zero, Nat.add_zero] at hc0; rw [List.drop_succ_cons, List.drop_zero] at sl; rw [hk] at hc0; have hc0 : w.cell? ⟨B, off, none⟩ = some (.int .u8 1) := hc0
 subst hsrc; have hsb := fun (W : World) (hb : Below w.heap.size w W) => h.below hb
 obtain ⟨m, hm⟩ := nm_ (r.length); obtain ⟨n, hn⟩ := nm_ ((c :: r).length); have hnm : n - 1 = m := by rw [hn, hm]; simp
 have hn0 : 0 < n := by rw [hn]; simp
 rw [<- hn, hnm] at hsl; rw [<- hn]; have i0 : ((n : Int) == 0) = false := by simp; omega
 have i1 : (0 : Int) < (n : Int) := by omega
 have hsl : ∀ W : World, (Instr.slice 29 (.slice (some ⟨B, off, none⟩) n cap) (some (.int .i64 1)) none none).run Tryz.prog W = .ok (.slice al m (cap - 1)) W := hsl
 have c0 := dec_c0 al m cap hold hc0; obtain ⟨W3, hW3⟩ := nm_ (((w.alloc (.cells #[.int .i64 0, .slice none 0 0, .slice none 0 0, .string ⟨#[]⟩, .slice none 0 0, .string ⟨#[]⟩, .string ⟨#[]⟩, .string ⟨#[]⟩, .int .i64 0, .string ⟨#[]⟩] 33)).alloc (.cells #[.slice al m (cap - 1), .bool false] 139)).alloc (.cells #[.int .i64 1, .slice none 0 0, .slice none 0 0, .string ⟨#[]⟩, .slice none 0 0, .string ⟨#[]⟩, .string ⟨#[]⟩, .string ⟨#[]⟩, .int .i64 0, .string ⟨#[]⟩] 33)); have hst := dec_st w 1 al m cap B off r hm sl hold W3 hW3; have SB := h_ hsb; have HW := h_ hW3; have ST := h_ hst; have FIT := h_ hfit; have DD := h_ hdd; have HN := h_ hn; have HL := h_ hrl; have HM := h_ hm; clear hsb hW3 hst hfit hdd hc0 h sl hl hn hrl hold hnm hm hk; go_enter Tryz.func51, Tryz.ntmps51; go_upto_block 0 with fail
 rw [<- HW.out]; go_cut [5] from 6 (fun s5 wx => s5 = Value.pointer (some ⟨w.heap.size + 1 + 1, 0, none⟩) /\ ∃ a4 c4, Hid (BytesAt wx (fun k => w.heap.size + 1 + 1 < k) (.slice a4 m c4) r) /\ Hid (DecSt w w.heap.size (w.heap.size + 1) (w.heap.size + 1 + 1) (fun k => k = w.heap.size + 1 + 1) (r, false) #[.int .i64 1, .slice a4 m c4, .slice none 0 0, .string ⟨#[]⟩, .slice none 0 0, .string ⟨#[]⟩, .string ⟨#[]⟩, .string ⟨#[]⟩, .int .i64 0, .string ⟨#[]⟩] wx))
 case first =>
  obtain ⟨ao', cp', B', off', hrd, hsr, _⟩ := ST.out.rd; have hrd : W3.heap[w.heap.size + 1]? = some (.cells #[.slice ao' r.length cp', .bool false] 139 (0, 0)) := hrd
  have hsr : SrcAt W3 ao' cp' r B' off' := hsr; rw [<- HM.out] at hrd; have bd : Below W3.heap.size W3 W3.drew := (Below.refl _ _).drew; have sd := hsr.below bd; have rdd := below_turn bd hrd; have obd : W3.drew.heap[w.heap.size + 1 + 1]? = some (.cells #[.int .i64 1, .slice none 0 0, .slice none 0 0, .string ⟨#[]⟩, .slice none 0 0, .string ⟨#[]⟩, .string ⟨#[]⟩, .string ⟨#[]⟩, .int .i64 0, .string ⟨#[]⟩] 33 (0, 0)) := below_turn bd ST.out.obj
  have hxl : w.heap.size + 1 + 1 < W3.heap.size := ST.out.lt; have d0 : W3.drew.cell? ⟨w.heap.size + 1 + 1, 1, none⟩ = some (.slice none 0 0) := cell_of_row _ _ _ _ _ _ obd
  have e0 : W3.drew.cell? ⟨w.heap.size + 1, 0, none⟩ = some (.slice ao' m cp') := cell_of_row _ _ _ _ _ _ rdd
  have hst3 : ∀ w3, Below W3.heap.size W3.drew w3 -> Hid (DecSt w w.heap.size (w.heap.size + 1) (w.heap.size + 1 + 1) (fun k => k = w.heap.size + 1 + 1) (r, false) #[.int .i64 1, .slice none 0 0, .slice none 0 0, .string ⟨#[]⟩, .slice none 0 0, .string ⟨#[]⟩, .string ⟨#[]⟩, .string ⟨#[]⟩, .int .i64 0, .string ⟨#[]⟩] w3) := fun w3 hb => h_ (ST.out.low (Turn.of_below (fun _ => False) (bd.trans hb)) (fun k hk => hk.elim))
  have STW := h_ hst3; have SD := h_ sd; have XL := h_ hxl; clear hrd hsr bd sd rdd obd hst3 hxl; go_wp2_with fail; go_region_law (refine step_clone rfl _ _ rfl rfl ao' cp' B' off' m r HM.out rfl SD.out HL.out ?_; intro a4 c4 w3 by3 bl3; have st3 := STW.out w3 bl3.out; have k0 := cell_of_row _ _ 1 _ _ _ st3.out.obj; have k1 := frozen_of_row _ _ 1 _ _ st3.out.obj)
  all_goals (go_wp2_with fail; go_meet; exact ⟨rfl, a4, c4, h_ ((by3.out.turn (Turn.setCell (G := fun k => k = w.heap.size + 1 + 1) w3 ⟨w.heap.size + 1 + 1, 1, none⟩ (.slice a4 m c4) rfl) (fun k hk e => by have h1 : W3.heap.size <= k := hk; have h2 := XL.out; have h3 : k = w.heap.size + 1 + 1 := e; omega)).mono (fun k _ hk => by have h1 : W3.heap.size <= k := hk; have h2 := XL.out; show w.heap.size + 1 + 1 < k; omega)), h_ (st3.out.set 1 (.slice a4 m c4))⟩)
 case rest =>
  obtain ⟨rfl, a4, c4, by4, ST⟩ := hcut; have I0 : Hid (ObjIn wc (fun k => w.heap.size + 1 + 1 < k) ({ zeroO 1 with data := r } : ObjR) (.slice a4 m c4) (.slice none 0 0) (.slice none 0 0)) := h_ ⟨by4.out, entsAt_nil _ _, textsAt_nil _ _⟩
  have hrow := ST.out.obj; have hrow : wc.heap[w.heap.size + 1 + 1]? = some (.cells #[.int .i64 1, .slice a4 m c4, .slice none 0 0, .string ⟨#[]⟩, .slice none 0 0, .string ⟨#[]⟩, .string ⟨#[]⟩, .string ⟨#[]⟩, .int .i64 0, .string ⟨#[]⟩] 33 (0, 0)) := hrow
  have henc : Calls Tryz.prog 11 #[.agg #[.int .i64 1, .slice a4 m c4, .slice none 0 0, .string ⟨#[]⟩, .slice none 0 0, .string ⟨#[]⟩, .string ⟨#[]⟩, .string ⟨#[]⟩, .int .i64 0, .string ⟨#[]⟩]] wc fun e w' => ∃ v, e = .returned (.tuple #[v, .int .i64 (errO o)]) /\ OutAt wc.heap.size w' v (bytesO o) /\ Below wc.heap.size wc w' := by
   rw [HO.out]; exact refEncode_any (fun k => w.heap.size + 1 + 1 < k) ({ zeroO 1 with data := r } : ObjR) (.slice a4 m c4) (.slice none 0 0) (.slice none 0 0) wc I0.out FIT.out
  obtain ⟨s0, s1, s2, s3, s4, s5, s6, s7, s8, s9⟩ := obj_cells hrow; obtain ⟨bad, hbad⟩ := nm_ ((r, false).2); have HBAD := h_ hbad; have DD : Hid (decO (c :: r) = if bad = true \/ okO o = false \/ encO o ≠ c :: r then none else some o) := h_ (by subst hbad; exact DD.out)
  clear hrow hbad
  cases hb : bad with
  | true =>
   have HENC := h_ henc; clear henc; go_wp2_with fail; refine HENC.out.mono ?_; rintro e y1 ⟨v1, rfl, o1, b1⟩; obtain ⟨ay, cy, By, rfl, sy, _⟩ := OutAt.src o1; have S7 := h_ (ST.out.low (Turn.of_below (fun _ => False) b1) (fun k hk => hk.elim))
   have B7 := h_ b1; obtain ⟨_, _, _, _, hrd, _, _⟩ := S7.out.rd; obtain ⟨_, p1, _⟩ := rd_cells hrd; rw [<- HBAD.out, hb] at p1; have qr := S7.out.zrow; obtain ⟨u0, u1, u2, u3, u4, u5, u6, u7, u8, u9⟩ := obj_cells qr; have f0 := obj_fz qr; clear b1 o1 sy hrd; go_wp2_with fail; obtain ⟨hld, gt⟩ := zero_load qr; have BQz := S7.out.below.trans (gt.below (Nat.le_of_lt (ge_ qr).1) (fun k e => Nat.le_of_eq e.symm))
   refine bodyPost_ret (v := decBad) ?_ rfl ?_
   ·rw [results_cell_tmp rfl]
    simp [asAddr, Result.andThen, hld, decBad]
   ·refine ⟨BQz, ?_⟩
    rw [DD.out, if_pos (.inl hb)]; rfl
  | false =>
   cases hok : okO o with
   | false =>
    have e1 : errO o = 1 := by unfold errO; rw [hok]; rfl
    rw [e1] at henc; have HENC := h_ henc; clear henc; go_wp2_with fail; refine HENC.out.mono ?_; rintro e y1 ⟨v1, rfl, o1, b1⟩; obtain ⟨ay, cy, By, rfl, sy, _⟩ := OutAt.src o1; have S7 := h_ (ST.out.low (Turn.of_below (fun _ => False) b1) (fun k hk => hk.elim))
    have B7 := h_ b1; obtain ⟨_, _, _, _, hrd, _, _⟩ := S7.out.rd; obtain ⟨_, p1, _⟩ := rd_cells hrd; rw [<- HBAD.out, hb] at p1; have qr := S7.out.zrow; obtain ⟨u0, u1, u2, u3, u4, u5, u6, u7, u8, u9⟩ := obj_cells qr; have f0 := obj_fz qr; clear b1 o1 sy hrd; go_wp2_with fail; obtain ⟨hld, gt⟩ := zero_load qr; have BQz := S7.out.below.trans (gt.below (Nat.le_of_lt (ge_ qr).1) (fun k e => Nat.le_of_eq e.symm))
    refine bodyPost_ret (v := decBad) ?_ rfl ?_
    ·rw [results_cell_tmp rfl]
     simp [asAddr, Result.andThen, hld, decBad]
    ·refine ⟨BQz, ?_⟩
     rw [DD.out, if_pos (.inr (.inl hok))]; rfl
   | true =>
    have e1 : errO o = 0 := by unfold errO; rw [hok]; rfl
    have e2 : bytesO o = encO o := by unfold bytesO; rw [hok]; rfl
    rw [e1, e2] at henc; by_cases heq : encO o = c :: r
    ·have HEQ := h_ heq
     have HENC := h_ henc; clear henc; go_wp2_with fail; refine HENC.out.mono ?_; rintro e y1 ⟨v1, rfl, o1, b1⟩; obtain ⟨ay, cy, By, rfl, sy, _⟩ := OutAt.src o1; have S7 := h_ (ST.out.low (Turn.of_below (fun _ => False) b1) (fun k hk => hk.elim))
     have B7 := h_ b1; obtain ⟨_, _, _, _, hrd, _, _⟩ := S7.out.rd; obtain ⟨_, p1, _⟩ := rd_cells hrd; rw [<- HBAD.out, hb] at p1; have hsame := same_any y1 sy (SB.out y1 S7.out.below); rw [decide_eq_true heq, <- HN.out] at hsame; have HS := h_ hsame; clear hsame heq; have qr := S7.out.zrow; obtain ⟨u0, u1, u2, u3, u4, u5, u6, u7, u8, u9⟩ := obj_cells qr; have f0 := obj_fz qr; have hrow : y1.heap[w.heap.size + 1 + 1]? = some (.cells #[.int .i64 1, .slice a4 m c4, .slice none 0 0, .string ⟨#[]⟩, .slice none 0 0, .string ⟨#[]⟩, .string ⟨#[]⟩, .string ⟨#[]⟩, .int .i64 0, .string ⟨#[]⟩] 33 (0, 0)) := S7.out.obj
     obtain ⟨s0, s1, s2, s3, s4, s5, s6, s7, s8, s9⟩ := obj_cells hrow; clear b1 o1 sy hrd hrow; go_wp2_with (go_at_call 99; refine HS.out.mono ?_; rintro e y2 ⟨rfl, hy⟩; have hy := hy.symm; subst hy)
     obtain ⟨hld, gt⟩ := zero_set y1 w.heap.size (.int .i64 1) (.slice a4 m c4) (.slice none 0 0) (.string ⟨#[]⟩) (.slice none 0 0) (.string ⟨#[]⟩) (.string ⟨#[]⟩) (.string ⟨#[]⟩) (.int .i64 0) (.string ⟨#[]⟩) qr; have BQz := S7.out.below.trans (gt.below (Nat.le_of_lt (ge_ qr).1) (fun k e => Nat.le_of_eq e.symm))
     refine bodyPost_ret (v := .tuple #[.agg #[.int .i64 1, .slice a4 m c4, .slice none 0 0, .string ⟨#[]⟩, .slice none 0 0, .string ⟨#[]⟩, .string ⟨#[]⟩, .string ⟨#[]⟩, .int .i64 0, .string ⟨#[]⟩], .int .i64 0]) ?_ rfl ?_
     ·rw [results_cell_tmp rfl]
      simp [asAddr, Result.andThen, hld]
     ·refine ⟨BQz, ?_⟩
      rw [DD.out, if_neg (by rw [hb, hok]; rintro (h | h | h) <;> first | exact Bool.noConfusion h | exact h HEQ.out)]
      refine ⟨.slice a4 m c4, .slice none 0 0, .slice none 0 0, ?_, ?_⟩
      ·rw [HO.out]; rfl
      ·rw [HO.out]
       exact (I0.out.turn ((Turn.of_below (fun k => k = w.heap.size) B7.out).trans gt) (fun k hk e => by have h1 : w.heap.size + 1 + 1 < k := hk; have h2 : k = w.heap.size := e; omega)).mono (fun k _ hk => by have h1 : w.heap.size + 1 + 1 < k := hk; show w.heap.size <= k; omega)
    ·have hne := heq
     have HNE := h_ hne; have HENC := h_ henc; clear henc; go_wp2_with fail; refine HENC.out.mono ?_; rintro e y1 ⟨v1, rfl, o1, b1⟩; obtain ⟨ay, cy, By, rfl, sy, _⟩ := OutAt.src o1; have S7 := h_ (ST.out.low (Turn.of_below (fun _ => False) b1) (fun k hk => hk.elim))
     have B7 := h_ b1; obtain ⟨_, _, _, _, hrd, _, _⟩ := S7.out.rd; obtain ⟨_, p1, _⟩ := rd_cells hrd; rw [<- HBAD.out, hb] at p1; have hsame := same_any y1 sy (SB.out y1 S7.out.below); rw [decide_eq_false hne, <- HN.out] at hsame; have HS := h_ hsame; clear hsame hne heq; have qr := S7.out.zrow; obtain ⟨u0, u1, u2, u3, u4, u5, u6, u7, u8, u9⟩ := obj_cells qr; have f0 := obj_fz qr; clear b1 o1 sy hrd; go_wp2_with (go_at_call 99; refine HS.out.mono ?_; rintro e y2 ⟨rfl, hy⟩; have hy := hy.symm; subst hy)
     obtain ⟨hld, gt⟩ := zero_load qr; have BQz := S7.out.below.trans (gt.below (Nat.le_of_lt (ge_ qr).1) (fun k e => Nat.le_of_eq e.symm))
     refine bodyPost_ret (v := decBad) ?_ rfl ?_
     ·rw [results_cell_tmp rfl]
      simp [asAddr, Result.andThen, hld, decBad]
     ·refine ⟨BQz, ?_⟩
      rw [DD.out, if_pos (.inr (.inr HNE.out))]; rfl
end
section
open Go.RowKit
theorem refDec_2 (ao : Option Addr) (cap B off : Nat) (c : UInt8) (r : OB) (w : World) (h : SrcAt w ao cap (c :: r) B off) (hl : (c :: r).length <= 140737488355328) (hk : c.toNat = 2) :
  Calls Tryz.prog 51 #[.slice ao (c :: r).length cap] w (DecTo (c :: r) w) := by
 have hrl : r.length <= 140737488355328 := by rw [List.length_cons] at hl; omega
 have hfit := rdO_fits c.toNat r hrl; have hdd := decO_cons c r; rw [hk, show rdO 2 r = rdTree (r, false) from rfl] at hfit hdd
 obtain ⟨P1, eP1⟩ := nm_ (rdNum (r, false)); obtain ⟨R, eR⟩ := nm_ (rdEnts P1.1 P1.2); replace hdd : decO (c :: r) = if R.2.2 = true \/ okO ({ zeroO 2 with ents := R.1 } : ObjR) = false \/ encO ({ zeroO 2 with ents := R.1 } : ObjR) ≠ c :: r then none else some ({ zeroO 2 with ents := R.1 } : ObjR) := by
  subst eP1; subst eR; exact hdd
 replace hfit : ObjFits ({ zeroO 2 with ents := R.1 } : ObjR) := by
  subst eP1; subst eR; exact hfit
 have lP1 : P1.2.1.length <= 140737488355328 := by rw [eP1]; exact Nat.le_trans rdNum_le hrl
 have lR : R.2.1.length <= 140737488355328 := by rw [eR]; exact Nat.le_trans (rdEnts_fits _ _).2.1 lP1
 obtain ⟨o, ho⟩ : ∃ o, o = ({ zeroO 2 with ents := R.1 } : ObjR) := ⟨_, rfl⟩
 rw [<- ho] at hdd; have HO := h_ ho; have EP1 := h_ eP1; have HP1 := h_ lP1; have ER := h_ eR; have HR := h_ lR; clear ho eP1 lP1 eR lR; obtain ⟨al, hsl, sl⟩ := h.slice_l 1 (by simp)
 have hsrc := h.src (by simp)
 have hold := h.old (by simp)
 have hc0 := h.cell 0 (by simp)
 simp only [List.getD_cons_zero, Nat.add_zero] at hc0; rw [List.drop_succ_cons, List.drop_zero] at sl; rw [hk] at hc0; have hc0 : w.cell? ⟨B, off, none⟩ = some (.int .u8 2) := hc0
 subst hsrc; have hsb := fun (W : World) (hb : Below w.heap.size w W) => h.below hb
 obtain ⟨m, hm⟩ := nm_ (r.length); obtain ⟨n, hn⟩ := nm_ ((c :: r).length); have hnm : n - 1 = m := by rw [hn, hm]; simp
 have hn0 : 0 < n := by rw [hn]; simp
 rw [<- hn, hnm] at hsl; rw [<- hn]; have i0 : ((n : Int) == 0) = false := by simp; omega
 have i1 : (0 : Int) < (n : Int) := by omega
 have hsl : ∀ W : World, (Instr.slice 29 (.slice (some ⟨B, off, none⟩) n cap) (some (.int .i64 1)) none none).run Tryz.prog W = .ok (.slice al m (cap - 1)) W := hsl
 have c0 := dec_c0 al m cap hold hc0; obtain ⟨W3, hW3⟩ := nm_ (((w.alloc (.cells #[.int .i64 0, .slice none 0 0, .slice none 0 0, .string ⟨#[]⟩, .slice none 0 0, .string ⟨#[]⟩, .string ⟨#[]⟩, .string ⟨#[]⟩, .int .i64 0, .string ⟨#[]⟩] 33)).alloc (.cells #[.slice al m (cap - 1), .bool false] 139)).alloc (.cells #[.int .i64 2, .slice none 0 0, .slice none 0 0, .string ⟨#[]⟩, .slice none 0 0, .string ⟨#[]⟩, .string ⟨#[]⟩, .string ⟨#[]⟩, .int .i64 0, .string ⟨#[]⟩] 33)); have hst := dec_st w 2 al m cap B off r hm sl hold W3 hW3; have SB := h_ hsb; have HW := h_ hW3; have ST := h_ hst; have FIT := h_ hfit; have DD := h_ hdd; have HN := h_ hn; have HL := h_ hrl; have HM := h_ hm; clear hsb hW3 hst hfit hdd hc0 h sl hl hn hrl hold hnm hm hk; go_enter Tryz.func51, Tryz.ntmps51; go_upto_block 0 with fail
 rw [<- HW.out]; go_cut [5] from 6 (fun s5 wx => s5 = Value.pointer (some ⟨w.heap.size + 1 + 1, 0, none⟩) /\ ∃ a4 n4 c4, Hid (EntsAt wx (fun k => w.heap.size + 1 + 1 < k) (.slice a4 n4 c4) R.1) /\ Hid (DecSt w w.heap.size (w.heap.size + 1) (w.heap.size + 1 + 1) (fun k => k = w.heap.size + 1 + 1) R.2 #[.int .i64 2, .slice none 0 0, .slice a4 n4 c4, .string ⟨#[]⟩, .slice none 0 0, .string ⟨#[]⟩, .string ⟨#[]⟩, .string ⟨#[]⟩, .int .i64 0, .string ⟨#[]⟩] wx))
 case first =>
  go_wp2_with fail; have g := rdNum_g (fun k => k = w.heap.size + 1 + 1) (w.heap.size + 1) (r, false) W3 (fun k e => by rw [e]; exact ST.out.lt) ST.out.rd HL.out
  rw [<- EP1.out] at g; have GG := h_ g; clear g; refine GG.out.mono ?_; rintro e w4 ⟨rfl, r1, t1⟩; have ST : Hid (DecSt w w.heap.size (w.heap.size + 1) (w.heap.size + 1 + 1) (fun k => k = w.heap.size + 1 + 1) P1.2 #[.int .i64 2, .slice none 0 0, .slice none 0 0, .string ⟨#[]⟩, .slice none 0 0, .string ⟨#[]⟩, .string ⟨#[]⟩, .string ⟨#[]⟩, .int .i64 0, .string ⟨#[]⟩] w4) := h_ (ST.out.step r1 t1)
  clear r1 t1 GG; have RLEN := h_ (show R.1.length <= 5000000000000 from by have h1 := (rdEnts_fits P1.1 P1.2).1; rw [<- ER.out] at h1; have h2 := HP1.out; omega)
  have hN : P1.1 <= 4611686018427387903 := by rw [EP1.out]; exact rdNum_max
  go_wp2_with fail; go_loopw [7, 8] (fun i _ W => ∃ (k : Nat) (l : List EntR) (s' : RS) (a : Option Addr) (cc : Nat), i = .int .i64 (k : Int) /\ k <= P1.1 /\ k = l.length /\ Hid (R = (l ++ (rdEnts (P1.1 - k) s').1, (rdEnts (P1.1 - k) s').2)) /\ Hid (s'.1.length <= 140737488355328) /\ Hid (EntsOwn (w.heap.size + 1 + 1 + 1) W (.slice a k cc) l) /\ Hid (DecSt w w.heap.size (w.heap.size + 1) (w.heap.size + 1 + 1) (fun g => g = w.heap.size + 1 + 1 \/ (Value.slice a k cc).ownBlock = some g) s' #[.int .i64 2, .slice none 0 0, .slice a k cc, .string ⟨#[]⟩, .slice none 0 0, .string ⟨#[]⟩, .string ⟨#[]⟩, .string ⟨#[]⟩, .int .i64 0, .string ⟨#[]⟩] W)) (fun i _ _ => P1.1 - (intOf i).toNat)
  case atStart => exact ⟨0, [], P1.2, none, 0, rfl, Nat.zero_le _, rfl, h_ (by rw [Nat.sub_zero, List.nil_append]; exact ER.out), HP1, h_ (ents_nil _ _), h_ (ST.out.more (fun k _ hk => hk.elim id (fun e => by cases e)) (.inl rfl))⟩
  case round =>
   clear ST; obtain ⟨k, l, s', a, cc, rfl, hk, hkl, HRE, HSL, O, ST⟩ := hrel; obtain ⟨_, _, _, _, hrd, _, _⟩ := ST.out.rd; obtain ⟨_, p1, _⟩ := rd_cells hrd; clear hrd; have KL := h_ hkl; clear hkl; by_cases hlt : k < P1.1
   ·have i0 : (0 : Int) <= (k : Int) := by omega
    have i1 : (k : Int) < (P1.1 : Int) := by omega
    cases hb : s'.2 with
    | false =>
     rw [hb] at p1; obtain ⟨A1, hA1⟩ := nm_ (rdText s'); obtain ⟨A2, hA2⟩ := nm_ (rdBytes 1 A1.2); obtain ⟨A3, hA3⟩ := nm_ (rdBytes 32 A2.2); obtain ⟨D, hD⟩ := nm_ ((A2.1 == [1]))
     have hE : rdEnt s' = (⟨A1.1, D, A3.1⟩, A3.2) := by rw [hD, hA3, hA2, hA1]; rfl
     have hR := HRE.out; rw [show P1.1 - k = (P1.1 - (k + 1)) + 1 by omega, rdEnts_next (by rw [hb]; simp), hE] at hR
     have hlen : k + 1 <= 5000000000000 := by
      have h1 := RLEN.out; have h2 := KL.out; rw [hR] at h1; simp only [List.length_append, List.length_cons] at h1; omega
     have hl1 : A1.2.1.length <= 140737488355328 := by rw [hA1]; exact Nat.le_trans rdText_le HSL.out
     have hl2 : A2.2.1.length <= 140737488355328 := by rw [hA2]; exact Nat.le_trans rdBytes_le hl1
     have hl3 : A3.2.1.length <= 140737488355328 := by rw [hA3]; exact Nat.le_trans rdBytes_le hl2
     have hc1 := rdText_g (fun g => g = w.heap.size + 1 + 1 \/ (Value.slice a k cc).ownBlock = some g) (w.heap.size + 1) s' wr (fun g hg => hg.elim (fun e => by rw [e]; exact ST.out.lt) (fun e => (O.out.lt g e).2)) ST.out.rd HSL.out
     rw [<- hA1] at hc1; have C1 := h_ hc1; have HRN := h_ hR; have HLN := h_ hlen; have L1 := h_ hl1; have L2 := h_ hl2; have L3 := h_ hl3; have HA2 := h_ hA2; have HA3 := h_ hA3; have HD := h_ hD; clear hR hlen hl1 hl2 hl3 hc1 hb hA1 hA2 hA3 hD hE HRE; go_wp2_with fail; refine C1.out.mono ?_; rintro e w4 ⟨rfl, r4, t4⟩; have ST4 := h_ (ST.out.step r4 t4); have O4 : Hid (EntsOwn (w.heap.size + 1 + 1 + 1) w4 (.slice a k cc) l) := h_ (row_turn O.out t4 (fun g hg e => by have h1 := (O.out.lt g hg).1; have h2 : g = w.heap.size + 1 := e; omega))
     clear r4 t4 C1 p1; obtain ⟨W5, hW5⟩ := nm_ (w4.alloc (.cells #[.string (SL A1.1), .bool false, .string ⟨#[]⟩] 84)); have b5 : Below w4.heap.size w4 W5 := by rw [hW5]; exact (Below.refl _ _).alloc (Nat.le_refl _) _
     have row5 : W5.heap[w4.heap.size]? = some (.cells #[.string (SL A1.1), .bool false, .string ⟨#[]⟩] 84 (0, 0)) := by rw [hW5]; exact heap_alloc_new w4 _
     have ST5 : Hid (DecSt w w.heap.size (w.heap.size + 1) (w.heap.size + 1 + 1) (fun g => (g = w.heap.size + 1 + 1 \/ (Value.slice a k cc).ownBlock = some g) \/ g = w4.heap.size) A1.2 #[.int .i64 2, .slice none 0 0, .slice a k cc, .string ⟨#[]⟩, .slice none 0 0, .string ⟨#[]⟩, .string ⟨#[]⟩, .string ⟨#[]⟩, .int .i64 0, .string ⟨#[]⟩] W5) := h_ ((ST4.out.more (fun k hk hg => hg.elim id (fun e => by omega)) (.inl (.inl rfl))).low (Turn.of_below (fun _ => False) b5) (fun k hk => hk.elim))
     have O5 : Hid (EntsOwn (w.heap.size + 1 + 1 + 1) W5 (.slice a k cc) l) := h_ (O4.out.below b5); have HW5 := h_ hW5; have ROW5 := h_ row5; have hc2 := rdBytes_g (fun g => (g = w.heap.size + 1 + 1 \/ (Value.slice a k cc).ownBlock = some g) \/ g = w4.heap.size) (w.heap.size + 1) A1.2 1 (by omega) W5 ST5.out.rd L1.out
     rw [<- HA2.out] at hc2; have C2 := h_ hc2; have XY := h_ (show w.heap.size + 1 + 1 < w4.heap.size from ST4.out.lt)
     clear hW5 b5 row5 hc2; go_wp2_with fail; rw [<- HW5.out]; refine C2.out.mono ?_; rintro e w6 ⟨rfl, r6, t6⟩; have ST6 := h_ (ST5.out.step r6 t6); have O6 : Hid (EntsOwn (w.heap.size + 1 + 1 + 1) w6 (.slice a k cc) l) := h_ (row_turn O5.out t6 (fun g hg e => by have h1 := (O5.out.lt g hg).1; have h2 : g = w.heap.size + 1 := e; omega))
     have row6 := t6.keep ROW5.out (fun e => by have h1 := XY.out; have h2 : w4.heap.size = w.heap.size + 1 := e; omega)
     have f0 := cell_of_row _ _ 1 _ _ _ row6; have f1 := frozen_of_row _ _ 1 _ _ row6; have ROW6 := h_ row6; clear r6 t6 C2 row6; go_wp2_with fail; have hq : ((SL A2.1).toList == [1]) = D := by rw [HD.out, SL_toList]
     rw [hq]; obtain ⟨V6, hV⟩ := nm_ (World.setCell w6 ⟨w4.heap.size, 1, none⟩ (.bool D)); rw [<- hV]; have tv : Turn (fun k => k = w4.heap.size) w6 V6 := by rw [hV]; exact Turn.setCell _ _ _ rfl
     have rv : V6.heap[w4.heap.size]? = some (.cells #[.string (SL A1.1), .bool D, .string ⟨#[]⟩] 84 (0, 0)) := by rw [hV]; exact heap_setCell_same _ _ 1 _ _ _ ROW6.out
     have SV := h_ (ST6.out.low tv (fun k hk => by have e : k = w4.heap.size := hk; exact ⟨by rw [e]; exact XY.out, .inr e⟩))
     have OV : Hid (EntsOwn (w.heap.size + 1 + 1 + 1) V6 (.slice a k cc) l) := h_ (row_turn O6.out tv (fun g hg e => by have h1 := (O4.out.lt g hg).2; have h2 : g = w4.heap.size := e; omega))
     have RV := h_ rv; have hc3 := rdBytes_g (fun g => (g = w.heap.size + 1 + 1 \/ (Value.slice a k cc).ownBlock = some g) \/ g = w4.heap.size) (w.heap.size + 1) A2.2 32 (by omega) V6 SV.out.rd L2.out
     rw [<- HA3.out] at hc3; have C3 := h_ hc3; clear hV tv rv hc3 f0 f1 hq ROW6 O6 ST6 ROW5 O5 ST5; refine C3.out.mono ?_; rintro e w7 ⟨rfl, r7, t7⟩; have ST7 := h_ (SV.out.step r7 t7); have O7 : Hid (EntsOwn (w.heap.size + 1 + 1 + 1) w7 (.slice a k cc) l) := h_ (row_turn OV.out t7 (fun g hg e => by have h1 := (OV.out.lt g hg).1; have h2 : g = w.heap.size + 1 := e; omega))
     have row7 := t7.keep RV.out (fun e => by have h1 := XY.out; have h2 : w4.heap.size = w.heap.size + 1 := e; omega)
     have f0 := cell_of_row _ _ 2 _ _ _ row7; have f1 := frozen_of_row _ _ 2 _ _ row7; have ROW7 := h_ row7; clear r7 t7 C3 row7 SV OV RV; go_upto_region 16 with fail
     obtain ⟨V7, hV⟩ := nm_ (World.setCell w7 ⟨w4.heap.size, 2, none⟩ (.string (SL A3.1))); rw [<- hV]; have tv : Turn (fun k => k = w4.heap.size) w7 V7 := by rw [hV]; exact Turn.setCell _ _ _ rfl
     have rv : V7.heap[w4.heap.size]? = some (.cells #[.string (SL A1.1), .bool D, .string (SL A3.1)] 84 (0, 0)) := by rw [hV]; exact heap_setCell_same _ _ 2 _ _ _ ROW7.out
     have SV : Hid (DecSt w w.heap.size (w.heap.size + 1) (w.heap.size + 1 + 1) (fun g => g = w.heap.size + 1 + 1 \/ (Value.slice a k cc).ownBlock = some g) A3.2 #[.int .i64 2, .slice none 0 0, .slice a k cc, .string ⟨#[]⟩, .slice none 0 0, .string ⟨#[]⟩, .string ⟨#[]⟩, .string ⟨#[]⟩, .int .i64 0, .string ⟨#[]⟩] V7) := h_ ((ST7.out.low tv (fun k hk => by have e : k = w4.heap.size := hk; exact ⟨by rw [e]; exact XY.out, .inr e⟩)).more (fun k _ h => .inl h) (.inl rfl))
     have OV : Hid (EntsOwn (w.heap.size + 1 + 1 + 1) V7 (.slice a k cc) l) := h_ (row_turn O7.out tv (fun g hg e => by have h1 := (O4.out.lt g hg).2; have h2 : g = w4.heap.size := e; omega))
     have d2 : V7.cell? ⟨w.heap.size + 1 + 1, 2, none⟩ = some (.slice a k cc) := cell_of_row _ _ _ _ _ _ SV.out.obj
     have e0 : V7.cell? ⟨w4.heap.size, 0, none⟩ = some (.string (SL A1.1)) := cell_of_row _ _ _ _ _ _ rv
     have e1 : V7.cell? ⟨w4.heap.size, 1, none⟩ = some (.bool D) := cell_of_row _ _ _ _ _ _ rv
     have e2 : V7.cell? ⟨w4.heap.size, 2, none⟩ = some (.string (SL A3.1)) := cell_of_row _ _ _ _ _ _ rv
     clear hV tv rv f0 f1 ROW7 O7 ST7; go_wp2_with (at_builtin; refine wpList_dec_entry rfl _ _ rfl (w.heap.size + 1 + 1 + 1) (.slice a k cc) l rfl (OV.out.below ((Below.refl _ _).alloc (Nat.le_refl _) _)) ⟨V7.heap.size, 0, none⟩ 1 ⟨A1.1, D, A3.1⟩ rfl (lit_ent _ _) (by rw [<- KL.out]; exact HLN.out) (by have := SV.out.lt; simp; omega) (k + 1) (by rw [<- KL.out]) ?_; intro a6 c6 w8 o8 t8; have st8 := h_ ((SV.out.low (Turn.of_below (fun _ => False) ((Below.refl _ _).alloc (Nat.le_refl _) _)) (fun k hk => hk.elim)).own t8.out); have k0 := cell_of_row _ _ 2 _ _ _ st8.out.obj; have k1 := frozen_of_row _ _ 2 _ _ st8.out.obj)
     go_roundw
     case rel => exact ⟨k + 1, l ++ [(⟨A1.1, D, A3.1⟩ : EntR)], A3.2, a6, c6, by go_num, by omega, by have := KL.out; simp; omega, h_ (by rw [List.append_assoc]; exact HRN.out), L3, h_ (row_turn o8.out (Turn.setCell (G := fun k => k = w.heap.size + 1 + 1) _ _ _ rfl) (fun g hg e => by have h1 := (o8.out.lt g hg).1; have h2 : g = w.heap.size + 1 + 1 := e; omega)), h_ (st8.out.set 2 (.slice a6 (k + 1) c6))⟩
     case measure => simp [intOf]; omega
    | true =>
     rw [hb] at p1; have hR := HRE.out; rw [rdEnts_bad hb] at hR; simp only [List.append_nil] at hR; have HRN := h_ hR; clear hR hb HRE; go_wp2_with fail; go_meet; exact ⟨rfl, a, k, cc, h_ (by rw [HRN.out]; exact EntsAt.of_own O.out (fun g hg => (O.out.lt g hg).1)), h_ (by rw [HRN.out]; exact ST.out.more (fun k _ e => .inl e) rfl)⟩
   ·have i1 : ¬ (k : Int) < (P1.1 : Int) := by omega
    have hR := HRE.out; rw [show P1.1 - k = 0 by omega] at hR
    have hR : R = (l ++ [], s') := hR
    rw [List.append_nil] at hR; have HRN := h_ hR; clear hR HRE; go_wp2_with fail; go_meet; exact ⟨rfl, a, k, cc, h_ (by rw [HRN.out]; exact EntsAt.of_own O.out (fun g hg => (O.out.lt g hg).1)), h_ (by rw [HRN.out]; exact ST.out.more (fun k _ e => .inl e) rfl)⟩
 case rest =>
  obtain ⟨rfl, a4, n4, c4, UP, ST⟩ := hcut; have I0 : Hid (ObjIn wc (fun k => w.heap.size + 1 + 1 < k) ({ zeroO 2 with ents := R.1 } : ObjR) (.slice none 0 0) (.slice a4 n4 c4) (.slice none 0 0)) := h_ ⟨bytesAt_nil _ _, UP.out, textsAt_nil _ _⟩
  have hrow := ST.out.obj; have hrow : wc.heap[w.heap.size + 1 + 1]? = some (.cells #[.int .i64 2, .slice none 0 0, .slice a4 n4 c4, .string ⟨#[]⟩, .slice none 0 0, .string ⟨#[]⟩, .string ⟨#[]⟩, .string ⟨#[]⟩, .int .i64 0, .string ⟨#[]⟩] 33 (0, 0)) := hrow
  have henc : Calls Tryz.prog 11 #[.agg #[.int .i64 2, .slice none 0 0, .slice a4 n4 c4, .string ⟨#[]⟩, .slice none 0 0, .string ⟨#[]⟩, .string ⟨#[]⟩, .string ⟨#[]⟩, .int .i64 0, .string ⟨#[]⟩]] wc fun e w' => ∃ v, e = .returned (.tuple #[v, .int .i64 (errO o)]) /\ OutAt wc.heap.size w' v (bytesO o) /\ Below wc.heap.size wc w' := by
   rw [HO.out]; exact refEncode_any (fun k => w.heap.size + 1 + 1 < k) ({ zeroO 2 with ents := R.1 } : ObjR) (.slice none 0 0) (.slice a4 n4 c4) (.slice none 0 0) wc I0.out FIT.out
  obtain ⟨s0, s1, s2, s3, s4, s5, s6, s7, s8, s9⟩ := obj_cells hrow; obtain ⟨bad, hbad⟩ := nm_ (R.2.2); have HBAD := h_ hbad; rw [<- hbad] at DD; clear hrow hbad
  cases hb : bad with
  | true =>
   have HENC := h_ henc; clear henc; go_wp2_with fail; refine HENC.out.mono ?_; rintro e y1 ⟨v1, rfl, o1, b1⟩; obtain ⟨ay, cy, By, rfl, sy, _⟩ := OutAt.src o1; have S7 := h_ (ST.out.low (Turn.of_below (fun _ => False) b1) (fun k hk => hk.elim))
   have B7 := h_ b1; obtain ⟨_, _, _, _, hrd, _, _⟩ := S7.out.rd; obtain ⟨_, p1, _⟩ := rd_cells hrd; rw [<- HBAD.out, hb] at p1; have qr := S7.out.zrow; obtain ⟨u0, u1, u2, u3, u4, u5, u6, u7, u8, u9⟩ := obj_cells qr; have f0 := obj_fz qr; clear b1 o1 sy hrd; go_wp2_with fail; obtain ⟨hld, gt⟩ := zero_load qr; have BQz := S7.out.below.trans (gt.below (Nat.le_of_lt (ge_ qr).1) (fun k e => Nat.le_of_eq e.symm))
   refine bodyPost_ret (v := decBad) ?_ rfl ?_
   ·rw [results_cell_tmp rfl]
    simp [asAddr, Result.andThen, hld, decBad]
   ·refine ⟨BQz, ?_⟩
    rw [DD.out, if_pos (.inl hb)]; rfl
  | false =>
   cases hok : okO o with
   | false =>
    have e1 : errO o = 1 := by unfold errO; rw [hok]; rfl
    rw [e1] at henc; have HENC := h_ henc; clear henc; go_wp2_with fail; refine HENC.out.mono ?_; rintro e y1 ⟨v1, rfl, o1, b1⟩; obtain ⟨ay, cy, By, rfl, sy, _⟩ := OutAt.src o1; have S7 := h_ (ST.out.low (Turn.of_below (fun _ => False) b1) (fun k hk => hk.elim))
    have B7 := h_ b1; obtain ⟨_, _, _, _, hrd, _, _⟩ := S7.out.rd; obtain ⟨_, p1, _⟩ := rd_cells hrd; rw [<- HBAD.out, hb] at p1; have qr := S7.out.zrow; obtain ⟨u0, u1, u2, u3, u4, u5, u6, u7, u8, u9⟩ := obj_cells qr; have f0 := obj_fz qr; clear b1 o1 sy hrd; go_wp2_with fail; obtain ⟨hld, gt⟩ := zero_load qr; have BQz := S7.out.below.trans (gt.below (Nat.le_of_lt (ge_ qr).1) (fun k e => Nat.le_of_eq e.symm))
    refine bodyPost_ret (v := decBad) ?_ rfl ?_
    ·rw [results_cell_tmp rfl]
     simp [asAddr, Result.andThen, hld, decBad]
    ·refine ⟨BQz, ?_⟩
     rw [DD.out, if_pos (.inr (.inl hok))]; rfl
   | true =>
    have e1 : errO o = 0 := by unfold errO; rw [hok]; rfl
    have e2 : bytesO o = encO o := by unfold bytesO; rw [hok]; rfl
    rw [e1, e2] at henc; by_cases heq : encO o = c :: r
    ·have HEQ := h_ heq
     have HENC := h_ henc; clear henc; go_wp2_with fail; refine HENC.out.mono ?_; rintro e y1 ⟨v1, rfl, o1, b1⟩; obtain ⟨ay, cy, By, rfl, sy, _⟩ := OutAt.src o1; have S7 := h_ (ST.out.low (Turn.of_below (fun _ => False) b1) (fun k hk => hk.elim))
     have B7 := h_ b1; obtain ⟨_, _, _, _, hrd, _, _⟩ := S7.out.rd; obtain ⟨_, p1, _⟩ := rd_cells hrd; rw [<- HBAD.out, hb] at p1; have hsame := same_any y1 sy (SB.out y1 S7.out.below); rw [decide_eq_true heq, <- HN.out] at hsame; have HS := h_ hsame; clear hsame heq; have qr := S7.out.zrow; obtain ⟨u0, u1, u2, u3, u4, u5, u6, u7, u8, u9⟩ := obj_cells qr; have f0 := obj_fz qr; have hrow : y1.heap[w.heap.size + 1 + 1]? = some (.cells #[.int .i64 2, .slice none 0 0, .slice a4 n4 c4, .string ⟨#[]⟩, .slice none 0 0, .string ⟨#[]⟩, .string ⟨#[]⟩, .string ⟨#[]⟩, .int .i64 0, .string ⟨#[]⟩] 33 (0, 0)) := S7.out.obj
     obtain ⟨s0, s1, s2, s3, s4, s5, s6, s7, s8, s9⟩ := obj_cells hrow; clear b1 o1 sy hrd hrow; go_wp2_with (go_at_call 99; refine HS.out.mono ?_; rintro e y2 ⟨rfl, hy⟩; have hy := hy.symm; subst hy)
     obtain ⟨hld, gt⟩ := zero_set y1 w.heap.size (.int .i64 2) (.slice none 0 0) (.slice a4 n4 c4) (.string ⟨#[]⟩) (.slice none 0 0) (.string ⟨#[]⟩) (.string ⟨#[]⟩) (.string ⟨#[]⟩) (.int .i64 0) (.string ⟨#[]⟩) qr; have BQz := S7.out.below.trans (gt.below (Nat.le_of_lt (ge_ qr).1) (fun k e => Nat.le_of_eq e.symm))
     refine bodyPost_ret (v := .tuple #[.agg #[.int .i64 2, .slice none 0 0, .slice a4 n4 c4, .string ⟨#[]⟩, .slice none 0 0, .string ⟨#[]⟩, .string ⟨#[]⟩, .string ⟨#[]⟩, .int .i64 0, .string ⟨#[]⟩], .int .i64 0]) ?_ rfl ?_
     ·rw [results_cell_tmp rfl]
      simp [asAddr, Result.andThen, hld]
     ·refine ⟨BQz, ?_⟩
      rw [DD.out, if_neg (by rw [hb, hok]; rintro (h | h | h) <;> first | exact Bool.noConfusion h | exact h HEQ.out)]
      refine ⟨.slice none 0 0, .slice a4 n4 c4, .slice none 0 0, ?_, ?_⟩
      ·rw [HO.out]; rfl
      ·rw [HO.out]
       exact (I0.out.turn ((Turn.of_below (fun k => k = w.heap.size) B7.out).trans gt) (fun k hk e => by have h1 : w.heap.size + 1 + 1 < k := hk; have h2 : k = w.heap.size := e; omega)).mono (fun k _ hk => by have h1 : w.heap.size + 1 + 1 < k := hk; show w.heap.size <= k; omega)
    ·have hne := heq
     have HNE := h_ hne; have HENC := h_ henc; clear henc; go_wp2_with fail; refine HENC.out.mono ?_; rintro e y1 ⟨v1, rfl, o1, b1⟩; obtain ⟨ay, cy, By, rfl, sy, _⟩ := OutAt.src o1; have S7 := h_ (ST.out.low (Turn.of_below (fun _ => False) b1) (fun k hk => hk.elim))
     have B7 := h_ b1; obtain ⟨_, _, _, _, hrd, _, _⟩ := S7.out.rd; obtain ⟨_, p1, _⟩ := rd_cells hrd; rw [<- HBAD.out, hb] at p1; have hsame := same_any y1 sy (SB.out y1 S7.out.below); rw [decide_eq_false hne, <- HN.out] at hsame; have HS := h_ hsame; clear hsame hne heq; have qr := S7.out.zrow; obtain ⟨u0, u1, u2, u3, u4, u5, u6, u7, u8, u9⟩ := obj_cells qr; have f0 := obj_fz qr; clear b1 o1 sy hrd; go_wp2_with (go_at_call 99; refine HS.out.mono ?_; rintro e y2 ⟨rfl, hy⟩; have hy := hy.symm; subst hy)
     obtain ⟨hld, gt⟩ := zero_load qr; have BQz := S7.out.below.trans (gt.below (Nat.le_of_lt (ge_ qr).1) (fun k e => Nat.le_of_eq e.symm))
     refine bodyPost_ret (v := decBad) ?_ rfl ?_
     ·rw [results_cell_tmp rfl]
      simp [asAddr, Result.andThen, hld, decBad]
     ·refine ⟨BQz, ?_⟩
      rw [DD.out, if_pos (.inr (.inr HNE.out))]; rfl
end
section
open Go.RowKit
theorem refDec_3 (ao : Option Addr) (cap B off : Nat) (c : UInt8) (r : OB) (w : World) (h : SrcAt w ao cap (c :: r) B off) (hl : (c :: r).length <= 140737488355328) (hk : c.toNat = 3) :
  Calls Tryz.prog 51 #[.slice ao (c :: r).length cap] w (DecTo (c :: r) w) := by
 have hrl : r.length <= 140737488355328 := by rw [List.length_cons] at hl; omega
 have hfit := rdO_fits c.toNat r hrl; have hdd := decO_cons c r; rw [hk, show rdO 3 r = rdCommit (r, false) from rfl] at hfit hdd
 obtain ⟨P1, eP1⟩ := nm_ (rdBytes 32 (r, false)); obtain ⟨P2, eP2⟩ := nm_ (rdNum P1.2); obtain ⟨R, eR⟩ := nm_ (rdUps P2.1 P2.2); obtain ⟨P3, eP3⟩ := nm_ (rdText R.2); obtain ⟨P4, eP4⟩ := nm_ (rdNum P3.2); obtain ⟨P5, eP5⟩ := nm_ (rdText P4.2); replace hdd : decO (c :: r) = if P5.2.2 = true \/ okO ({ zeroO 3 with tree := P1.1, ups := R.1, who := P3.1, stamp := (P4.1 : Int), text := P5.1 } : ObjR) = false \/ encO ({ zeroO 3 with tree := P1.1, ups := R.1, who := P3.1, stamp := (P4.1 : Int), text := P5.1 } : ObjR) ≠ c :: r then none else some ({ zeroO 3 with tree := P1.1, ups := R.1, who := P3.1, stamp := (P4.1 : Int), text := P5.1 } : ObjR) := by
  subst eP1; subst eP2; subst eR; subst eP3; subst eP4; subst eP5; exact hdd
 replace hfit : ObjFits ({ zeroO 3 with tree := P1.1, ups := R.1, who := P3.1, stamp := (P4.1 : Int), text := P5.1 } : ObjR) := by
  subst eP1; subst eP2; subst eR; subst eP3; subst eP4; subst eP5; exact hfit
 have lP1 : P1.2.1.length <= 140737488355328 := by rw [eP1]; exact Nat.le_trans rdBytes_le hrl
 have lP2 : P2.2.1.length <= 140737488355328 := by rw [eP2]; exact Nat.le_trans rdNum_le lP1
 have lR : R.2.1.length <= 140737488355328 := by rw [eR]; exact Nat.le_trans (rdUps_fits _ _).2.1 lP2
 have lP3 : P3.2.1.length <= 140737488355328 := by rw [eP3]; exact Nat.le_trans rdText_le lR
 have lP4 : P4.2.1.length <= 140737488355328 := by rw [eP4]; exact Nat.le_trans rdNum_le lP3
 have lP5 : P5.2.1.length <= 140737488355328 := by rw [eP5]; exact Nat.le_trans rdText_le lP4
 obtain ⟨o, ho⟩ : ∃ o, o = ({ zeroO 3 with tree := P1.1, ups := R.1, who := P3.1, stamp := (P4.1 : Int), text := P5.1 } : ObjR) := ⟨_, rfl⟩
 rw [<- ho] at hdd; have HO := h_ ho; have EP1 := h_ eP1; have HP1 := h_ lP1; have EP2 := h_ eP2; have HP2 := h_ lP2; have ER := h_ eR; have HR := h_ lR; have EP3 := h_ eP3; have HP3 := h_ lP3; have EP4 := h_ eP4; have HP4 := h_ lP4; have EP5 := h_ eP5; have HP5 := h_ lP5; clear ho eP1 lP1 eP2 lP2 eR lR eP3 lP3 eP4 lP4 eP5 lP5; obtain ⟨al, hsl, sl⟩ := h.slice_l 1 (by simp)
 have hsrc := h.src (by simp)
 have hold := h.old (by simp)
 have hc0 := h.cell 0 (by simp)
 simp only [List.getD_cons_zero, Nat.add_zero] at hc0; rw [List.drop_succ_cons, List.drop_zero] at sl; rw [hk] at hc0; have hc0 : w.cell? ⟨B, off, none⟩ = some (.int .u8 3) := hc0
 subst hsrc; have hsb := fun (W : World) (hb : Below w.heap.size w W) => h.below hb
 obtain ⟨m, hm⟩ := nm_ (r.length); obtain ⟨n, hn⟩ := nm_ ((c :: r).length); have hnm : n - 1 = m := by rw [hn, hm]; simp
 have hn0 : 0 < n := by rw [hn]; simp
 rw [<- hn, hnm] at hsl; rw [<- hn]; have i0 : ((n : Int) == 0) = false := by simp; omega
 have i1 : (0 : Int) < (n : Int) := by omega
 have hsl : ∀ W : World, (Instr.slice 29 (.slice (some ⟨B, off, none⟩) n cap) (some (.int .i64 1)) none none).run Tryz.prog W = .ok (.slice al m (cap - 1)) W := hsl
 have c0 := dec_c0 al m cap hold hc0; obtain ⟨W3, hW3⟩ := nm_ (((w.alloc (.cells #[.int .i64 0, .slice none 0 0, .slice none 0 0, .string ⟨#[]⟩, .slice none 0 0, .string ⟨#[]⟩, .string ⟨#[]⟩, .string ⟨#[]⟩, .int .i64 0, .string ⟨#[]⟩] 33)).alloc (.cells #[.slice al m (cap - 1), .bool false] 139)).alloc (.cells #[.int .i64 3, .slice none 0 0, .slice none 0 0, .string ⟨#[]⟩, .slice none 0 0, .string ⟨#[]⟩, .string ⟨#[]⟩, .string ⟨#[]⟩, .int .i64 0, .string ⟨#[]⟩] 33)); have hst := dec_st w 3 al m cap B off r hm sl hold W3 hW3; have SB := h_ hsb; have HW := h_ hW3; have ST := h_ hst; have FIT := h_ hfit; have DD := h_ hdd; have HN := h_ hn; have HL := h_ hrl; have HM := h_ hm; clear hsb hW3 hst hfit hdd hc0 h sl hl hn hrl hold hnm hm hk; go_enter Tryz.func51, Tryz.ntmps51; go_wp2_with fail; rw [<- HW.out]
 have g := rdBytes_g (fun k => k = w.heap.size + 1 + 1) (w.heap.size + 1) (r, false) 32 (by omega) W3 ST.out.rd HL.out
 rw [<- EP1.out] at g; have GG := h_ g; clear g; refine GG.out.mono ?_; rintro e w4 ⟨rfl, r1, t1⟩; have ST : Hid (DecSt w w.heap.size (w.heap.size + 1) (w.heap.size + 1 + 1) (fun k => k = w.heap.size + 1 + 1) P1.2 #[.int .i64 3, .slice none 0 0, .slice none 0 0, .string ⟨#[]⟩, .slice none 0 0, .string ⟨#[]⟩, .string ⟨#[]⟩, .string ⟨#[]⟩, .int .i64 0, .string ⟨#[]⟩] w4) := h_ (ST.out.step r1 t1)
 clear r1 t1 GG; have d0 : w4.cell? ⟨w.heap.size + 1 + 1, 3, none⟩ = some (.string ⟨#[]⟩) := cell_of_row _ _ _ _ _ _ ST.out.obj
 have d1 : w4.frozen? ⟨w.heap.size + 1 + 1, 3, none⟩ = false := frozen_of_row _ _ _ _ _ ST.out.obj
 go_wp2_with fail; obtain ⟨V1, hV⟩ := nm_ (World.setCell w4 ⟨w.heap.size + 1 + 1, 3, none⟩ (.string (SL P1.1))); rw [<- hV]; have ST : Hid (DecSt w w.heap.size (w.heap.size + 1) (w.heap.size + 1 + 1) (fun k => k = w.heap.size + 1 + 1) P1.2 #[.int .i64 3, .slice none 0 0, .slice none 0 0, .string (SL P1.1), .slice none 0 0, .string ⟨#[]⟩, .string ⟨#[]⟩, .string ⟨#[]⟩, .int .i64 0, .string ⟨#[]⟩] V1) := h_ (by rw [hV]; exact ST.out.set 3 (.string (SL P1.1)))
 clear hV d0 d1; have g := rdNum_g (fun k => k = w.heap.size + 1 + 1) (w.heap.size + 1) P1.2 V1 (fun k e => by rw [e]; exact ST.out.lt) ST.out.rd HP1.out
 rw [<- EP2.out] at g; have GG := h_ g; clear g; refine GG.out.mono ?_; rintro e w5 ⟨rfl, r1, t1⟩; have ST : Hid (DecSt w w.heap.size (w.heap.size + 1) (w.heap.size + 1 + 1) (fun k => k = w.heap.size + 1 + 1) P2.2 #[.int .i64 3, .slice none 0 0, .slice none 0 0, .string (SL P1.1), .slice none 0 0, .string ⟨#[]⟩, .string ⟨#[]⟩, .string ⟨#[]⟩, .int .i64 0, .string ⟨#[]⟩] w5) := h_ (ST.out.step r1 t1)
 clear r1 t1 GG; have RLEN := h_ (show R.1.length <= 8000000000000 from by have h1 := (rdUps_fits P2.1 P2.2).1; rw [<- ER.out] at h1; have h2 := HP2.out; omega)
 have hN : P2.1 <= 4611686018427387903 := by rw [EP2.out]; exact rdNum_max
 go_upto_block 3 with fail
 go_cut [10] from 77 to 95 (fun s10 wx => ∃ a4 n4 c4, s10 = s10 /\ Hid (TextsAt wx (fun k => w.heap.size + 1 + 1 < k) (.slice a4 n4 c4) R.1) /\ Hid (DecSt w w.heap.size (w.heap.size + 1) (w.heap.size + 1 + 1) (fun k => k = w.heap.size + 1 + 1) R.2 #[.int .i64 3, .slice none 0 0, .slice none 0 0, .string (SL P1.1), .slice a4 n4 c4, .string ⟨#[]⟩, .string ⟨#[]⟩, .string ⟨#[]⟩, .int .i64 0, .string ⟨#[]⟩] wx))
 case first =>
  go_wp2_with fail; go_loopw [10] (fun i W => ∃ (k : Nat) (l : List OB) (s' : RS) (a : Option Addr) (cc : Nat), i = .int .i64 (k : Int) /\ k <= P2.1 /\ k = l.length /\ Hid (R = (l ++ (rdUps (P2.1 - k) s').1, (rdUps (P2.1 - k) s').2)) /\ Hid (s'.1.length <= 140737488355328) /\ Hid (TxtsOwn (w.heap.size + 1 + 1 + 1) W (.slice a k cc) l) /\ Hid (DecSt w w.heap.size (w.heap.size + 1) (w.heap.size + 1 + 1) (fun g => g = w.heap.size + 1 + 1 \/ (Value.slice a k cc).ownBlock = some g) s' #[.int .i64 3, .slice none 0 0, .slice none 0 0, .string (SL P1.1), .slice a k cc, .string ⟨#[]⟩, .string ⟨#[]⟩, .string ⟨#[]⟩, .int .i64 0, .string ⟨#[]⟩] W)) (fun i _ => P2.1 - (intOf i).toNat)
  case atStart => exact ⟨0, [], P2.2, none, 0, rfl, Nat.zero_le _, rfl, h_ (by rw [Nat.sub_zero, List.nil_append]; exact ER.out), HP2, h_ (txts_nil _ _), h_ (ST.out.more (fun k _ hk => hk.elim id (fun e => by cases e)) (.inl rfl))⟩
  case round =>
   clear ST; obtain ⟨k, l, s', a, cc, rfl, hk, hkl, HRE, HSL, O, ST⟩ := hrel; obtain ⟨_, _, _, _, hrd, _, _⟩ := ST.out.rd; obtain ⟨_, p1, _⟩ := rd_cells hrd; clear hrd; have KL := h_ hkl; clear hkl; by_cases hlt : k < P2.1
   ·have i0 : (0 : Int) <= (k : Int) := by omega
    have i1 : (k : Int) < (P2.1 : Int) := by omega
    cases hb : s'.2 with
    | false =>
     rw [hb] at p1; obtain ⟨Q, hQ⟩ := nm_ (rdBytes 32 s'); have hR := HRE.out; rw [show P2.1 - k = (P2.1 - (k + 1)) + 1 by omega, rdUps_next (by rw [hb]; simp), <- hQ] at hR
     have hlen : k + 1 <= 8000000000000 := by
      have h1 := RLEN.out; have h2 := KL.out; rw [hR] at h1; simp only [List.length_append, List.length_cons] at h1; omega
     have hql : Q.2.1.length <= 140737488355328 := by rw [hQ]; exact Nat.le_trans rdBytes_le HSL.out
     have hstd := ST.out.low (Turn.of_below (fun _ => False) (Below.refl wr.heap.size wr).drew) (fun k hk => hk.elim)
     have hcall := rdBytes_g (fun g => g = w.heap.size + 1 + 1 \/ (Value.slice a k cc).ownBlock = some g) (w.heap.size + 1) s' 32 (by omega) wr.drew hstd.rd HSL.out
     rw [<- hQ] at hcall; have d4 : wr.drew.cell? ⟨w.heap.size + 1 + 1, 4, none⟩ = some (.slice a k cc) := cell_of_row _ _ _ _ _ _ hstd.obj
     have HRN := h_ hR; have HLN := h_ hlen; have HQL := h_ hql; have STD := h_ hstd; have CALL := h_ hcall; have OD := h_ (O.out.below (Below.refl wr.heap.size wr).drew); clear hR hlen hql hstd hcall hb hQ HRE; go_upto_region 23 with fail
     go_region_law (first | (go_simp; go_at_call 98; refine CALL.out.mono ?_; rintro e w4 ⟨rfl, r4, t4⟩; have ST4 := h_ (STD.out.step r4 t4); have O4 : Hid (TxtsOwn (w.heap.size + 1 + 1 + 1) w4 (.slice a k cc) l) := h_ (row_turn OD.out t4 (fun g hg e => by have h1 := (OD.out.lt g hg).1; have h2 : g = w.heap.size + 1 := e; omega)); have d5 := cell_of_row _ _ 4 _ _ _ ST4.out.obj; have d6 : (w4.alloc (.cells #[.string (SL Q.1)] 9)).cell? ⟨w.heap.size + 1 + 1, 4, none⟩ = some (.slice a k cc) := cell_of_row _ _ 4 _ _ _ (below_turn ((Below.refl w4.heap.size w4).alloc (Nat.le_refl _) _) ST4.out.obj); clear r4 t4) | (refine step_own_text rfl _ _ rfl (w.heap.size + 1 + 1 + 1) (.slice a k cc) l rfl (O4.out.below ((Below.refl _ _).alloc (Nat.le_refl _) _)) ⟨w4.heap.size, 0, none⟩ 1 Q.1 rfl (lit_text _ _ _ rfl) (by rw [<- KL.out]; exact HLN.out) (by have := ST4.out.lt; simp; omega) (k + 1) (by rw [<- KL.out]) ?_; intro a6 c6 w6 o6 t6; have st6 := h_ ((ST4.out.low (Turn.of_below (fun _ => False) ((Below.refl _ _).alloc (Nat.le_refl _) _)) (fun k hk => hk.elim)).own t6.out); have k0 := cell_of_row _ _ 4 _ _ _ st6.out.obj; have k1 := frozen_of_row _ _ 4 _ _ st6.out.obj))
     all_goals (
      go_wp2_with fail; go_roundw
      case rel => exact ⟨k + 1, l ++ [Q.1], Q.2, a6, c6, by go_num, by omega, by have := KL.out; simp; omega, h_ (by rw [List.append_assoc]; exact HRN.out), HQL, h_ (row_turn o6.out (Turn.setCell (G := fun k => k = w.heap.size + 1 + 1) _ _ _ rfl) (fun g hg e => by have h1 := (o6.out.lt g hg).1; have h2 : g = w.heap.size + 1 + 1 := e; omega)), h_ (st6.out.set 4 (.slice a6 (k + 1) c6))⟩
      case measure => simp [intOf]; omega)
    | true =>
     rw [hb] at p1; have hR := HRE.out; rw [rdUps_bad hb] at hR; simp only [List.append_nil] at hR; have HRN := h_ hR; clear hR hb HRE; go_wp2_with fail; go_meet; exact ⟨a, k, cc, trivial, h_ (by rw [HRN.out]; exact TextsAt.of_own O.out (fun g hg => (O.out.lt g hg).1)), h_ (by rw [HRN.out]; exact ST.out.more (fun k _ e => .inl e) rfl)⟩
   ·have i1 : ¬ (k : Int) < (P2.1 : Int) := by omega
    have hR := HRE.out; rw [show P2.1 - k = 0 by omega] at hR
    have hR : R = (l ++ [], s') := hR
    rw [List.append_nil] at hR; have HRN := h_ hR; clear hR HRE; go_wp2_with fail; go_meet; exact ⟨a, k, cc, trivial, h_ (by rw [HRN.out]; exact TextsAt.of_own O.out (fun g hg => (O.out.lt g hg).1)), h_ (by rw [HRN.out]; exact ST.out.more (fun k _ e => .inl e) rfl)⟩
 case rest =>
  obtain ⟨a4, n4, c4, -, UP, ST⟩ := hcut; go_wp2_with fail; have g := rdText_g (fun k => k = w.heap.size + 1 + 1) (w.heap.size + 1) R.2 wc (fun k e => by rw [e]; exact ST.out.lt) ST.out.rd HR.out
  rw [<- EP3.out] at g; have GG := h_ g; clear g; refine GG.out.mono ?_; rintro e w6 ⟨rfl, r1, t1⟩; have ST : Hid (DecSt w w.heap.size (w.heap.size + 1) (w.heap.size + 1 + 1) (fun k => k = w.heap.size + 1 + 1) P3.2 #[.int .i64 3, .slice none 0 0, .slice none 0 0, .string (SL P1.1), .slice a4 n4 c4, .string ⟨#[]⟩, .string ⟨#[]⟩, .string ⟨#[]⟩, .int .i64 0, .string ⟨#[]⟩] w6) := h_ (ST.out.step r1 t1)
  have UP : Hid (TextsAt w6 (fun k => w.heap.size + 1 + 1 < k) (.slice a4 n4 c4) R.1) := h_ (UP.out.turn t1 (fun k hk e => by have h1 : w.heap.size + 1 + 1 < k := hk; have h2 : k = w.heap.size + 1 := e; omega))
  clear r1 t1 GG; have d0 : w6.cell? ⟨w.heap.size + 1 + 1, 7, none⟩ = some (.string ⟨#[]⟩) := cell_of_row _ _ _ _ _ _ ST.out.obj
  have d1 : w6.frozen? ⟨w.heap.size + 1 + 1, 7, none⟩ = false := frozen_of_row _ _ _ _ _ ST.out.obj
  go_wp2_with fail; obtain ⟨V3, hV⟩ := nm_ (World.setCell w6 ⟨w.heap.size + 1 + 1, 7, none⟩ (.string (SL P3.1))); rw [<- hV]; have ST : Hid (DecSt w w.heap.size (w.heap.size + 1) (w.heap.size + 1 + 1) (fun k => k = w.heap.size + 1 + 1) P3.2 #[.int .i64 3, .slice none 0 0, .slice none 0 0, .string (SL P1.1), .slice a4 n4 c4, .string ⟨#[]⟩, .string ⟨#[]⟩, .string (SL P3.1), .int .i64 0, .string ⟨#[]⟩] V3) := h_ (by rw [hV]; exact ST.out.set 7 (.string (SL P3.1)))
  have UP : Hid (TextsAt V3 (fun k => w.heap.size + 1 + 1 < k) (.slice a4 n4 c4) R.1) := h_ (by rw [hV]; exact UP.out.turn (Turn.setCell (G := fun k => k = w.heap.size + 1 + 1) _ ⟨w.heap.size + 1 + 1, 7, none⟩ (.string (SL P3.1)) rfl) (fun k hk e => by have h1 : w.heap.size + 1 + 1 < k := hk; have h2 : k = w.heap.size + 1 + 1 := e; omega))
  clear hV d0 d1; have g := rdNum_g (fun k => k = w.heap.size + 1 + 1) (w.heap.size + 1) P3.2 V3 (fun k e => by rw [e]; exact ST.out.lt) ST.out.rd HP3.out
  rw [<- EP4.out] at g; have GG := h_ g; clear g; refine GG.out.mono ?_; rintro e w7 ⟨rfl, r1, t1⟩; have ST : Hid (DecSt w w.heap.size (w.heap.size + 1) (w.heap.size + 1 + 1) (fun k => k = w.heap.size + 1 + 1) P4.2 #[.int .i64 3, .slice none 0 0, .slice none 0 0, .string (SL P1.1), .slice a4 n4 c4, .string ⟨#[]⟩, .string ⟨#[]⟩, .string (SL P3.1), .int .i64 0, .string ⟨#[]⟩] w7) := h_ (ST.out.step r1 t1)
  have UP : Hid (TextsAt w7 (fun k => w.heap.size + 1 + 1 < k) (.slice a4 n4 c4) R.1) := h_ (UP.out.turn t1 (fun k hk e => by have h1 : w.heap.size + 1 + 1 < k := hk; have h2 : k = w.heap.size + 1 := e; omega))
  clear r1 t1 GG; have d0 : w7.cell? ⟨w.heap.size + 1 + 1, 8, none⟩ = some (.int .i64 0) := cell_of_row _ _ _ _ _ _ ST.out.obj
  have d1 : w7.frozen? ⟨w.heap.size + 1 + 1, 8, none⟩ = false := frozen_of_row _ _ _ _ _ ST.out.obj
  go_wp2_with fail; obtain ⟨V4, hV⟩ : ∃ V, V = World.setCell w7 ⟨w.heap.size + 1 + 1, 8, none⟩ (.int .i64 (P4.1 : Int)) := ⟨_, rfl⟩
  rw [<- hV]; have ST : Hid (DecSt w w.heap.size (w.heap.size + 1) (w.heap.size + 1 + 1) (fun k => k = w.heap.size + 1 + 1) P4.2 #[.int .i64 3, .slice none 0 0, .slice none 0 0, .string (SL P1.1), .slice a4 n4 c4, .string ⟨#[]⟩, .string ⟨#[]⟩, .string (SL P3.1), .int .i64 (P4.1 : Int), .string ⟨#[]⟩] V4) := h_ (by rw [hV]; exact ST.out.set 8 (.int .i64 (P4.1 : Int)))
  have UP : Hid (TextsAt V4 (fun k => w.heap.size + 1 + 1 < k) (.slice a4 n4 c4) R.1) := h_ (by rw [hV]; exact UP.out.turn (Turn.setCell (G := fun k => k = w.heap.size + 1 + 1) _ ⟨w.heap.size + 1 + 1, 8, none⟩ (.int .i64 (P4.1 : Int)) rfl) (fun k hk e => by have h1 : w.heap.size + 1 + 1 < k := hk; have h2 : k = w.heap.size + 1 + 1 := e; omega))
  clear hV d0 d1; have g := rdText_g (fun k => k = w.heap.size + 1 + 1) (w.heap.size + 1) P4.2 V4 (fun k e => by rw [e]; exact ST.out.lt) ST.out.rd HP4.out
  rw [<- EP5.out] at g; have GG := h_ g; clear g; refine GG.out.mono ?_; rintro e w8 ⟨rfl, r1, t1⟩; have ST : Hid (DecSt w w.heap.size (w.heap.size + 1) (w.heap.size + 1 + 1) (fun k => k = w.heap.size + 1 + 1) P5.2 #[.int .i64 3, .slice none 0 0, .slice none 0 0, .string (SL P1.1), .slice a4 n4 c4, .string ⟨#[]⟩, .string ⟨#[]⟩, .string (SL P3.1), .int .i64 (P4.1 : Int), .string ⟨#[]⟩] w8) := h_ (ST.out.step r1 t1)
  have UP : Hid (TextsAt w8 (fun k => w.heap.size + 1 + 1 < k) (.slice a4 n4 c4) R.1) := h_ (UP.out.turn t1 (fun k hk e => by have h1 : w.heap.size + 1 + 1 < k := hk; have h2 : k = w.heap.size + 1 := e; omega))
  clear r1 t1 GG; have d0 : w8.cell? ⟨w.heap.size + 1 + 1, 9, none⟩ = some (.string ⟨#[]⟩) := cell_of_row _ _ _ _ _ _ ST.out.obj
  have d1 : w8.frozen? ⟨w.heap.size + 1 + 1, 9, none⟩ = false := frozen_of_row _ _ _ _ _ ST.out.obj
  obtain ⟨V5, hV⟩ := nm_ (World.setCell w8 ⟨w.heap.size + 1 + 1, 9, none⟩ (.string (SL P5.1))); have ST : Hid (DecSt w w.heap.size (w.heap.size + 1) (w.heap.size + 1 + 1) (fun k => k = w.heap.size + 1 + 1) P5.2 #[.int .i64 3, .slice none 0 0, .slice none 0 0, .string (SL P1.1), .slice a4 n4 c4, .string ⟨#[]⟩, .string ⟨#[]⟩, .string (SL P3.1), .int .i64 (P4.1 : Int), .string (SL P5.1)] V5) := h_ (by rw [hV]; exact ST.out.set 9 (.string (SL P5.1)))
  have UP : Hid (TextsAt V5 (fun k => w.heap.size + 1 + 1 < k) (.slice a4 n4 c4) R.1) := h_ (by rw [hV]; exact UP.out.turn (Turn.setCell (G := fun k => k = w.heap.size + 1 + 1) _ ⟨w.heap.size + 1 + 1, 9, none⟩ (.string (SL P5.1)) rfl) (fun k hk e => by have h1 : w.heap.size + 1 + 1 < k := hk; have h2 : k = w.heap.size + 1 + 1 := e; omega))
  have I0 : Hid (ObjIn V5 (fun k => w.heap.size + 1 + 1 < k) ({ zeroO 3 with tree := P1.1, ups := R.1, who := P3.1, stamp := (P4.1 : Int), text := P5.1 } : ObjR) (.slice none 0 0) (.slice none 0 0) (.slice a4 n4 c4)) := h_ ⟨bytesAt_nil _ _, entsAt_nil _ _, UP.out⟩
  have HV := h_ hV; have hrow := ST.out.obj; have hrow : V5.heap[w.heap.size + 1 + 1]? = some (.cells #[.int .i64 3, .slice none 0 0, .slice none 0 0, .string (SL P1.1), .slice a4 n4 c4, .string ⟨#[]⟩, .string ⟨#[]⟩, .string (SL P3.1), .int .i64 (P4.1 : Int), .string (SL P5.1)] 33 (0, 0)) := hrow
  have henc : Calls Tryz.prog 11 #[.agg #[.int .i64 3, .slice none 0 0, .slice none 0 0, .string (SL P1.1), .slice a4 n4 c4, .string ⟨#[]⟩, .string ⟨#[]⟩, .string (SL P3.1), .int .i64 (P4.1 : Int), .string (SL P5.1)]] V5 fun e w' => ∃ v, e = .returned (.tuple #[v, .int .i64 (errO o)]) /\ OutAt V5.heap.size w' v (bytesO o) /\ Below V5.heap.size V5 w' := by
   rw [HO.out]; exact refEncode_any (fun k => w.heap.size + 1 + 1 < k) ({ zeroO 3 with tree := P1.1, ups := R.1, who := P3.1, stamp := (P4.1 : Int), text := P5.1 } : ObjR) (.slice none 0 0) (.slice none 0 0) (.slice a4 n4 c4) V5 I0.out FIT.out
  rw [hV] at hrow; obtain ⟨s0, s1, s2, s3, s4, s5, s6, s7, s8, s9⟩ := obj_cells hrow; clear hV; obtain ⟨bad, hbad⟩ := nm_ (P5.2.2); have HBAD := h_ hbad; rw [<- hbad] at DD; clear hrow hbad
  cases hb : bad with
  | true =>
   have HENC := h_ henc; clear henc; go_wp2_with fail; rw [<- HV.out]; refine HENC.out.mono ?_; rintro e y1 ⟨v1, rfl, o1, b1⟩; obtain ⟨ay, cy, By, rfl, sy, _⟩ := OutAt.src o1; have S7 := h_ (ST.out.low (Turn.of_below (fun _ => False) b1) (fun k hk => hk.elim))
   have B7 := h_ b1; obtain ⟨_, _, _, _, hrd, _, _⟩ := S7.out.rd; obtain ⟨_, p1, _⟩ := rd_cells hrd; rw [<- HBAD.out, hb] at p1; have qr := S7.out.zrow; obtain ⟨u0, u1, u2, u3, u4, u5, u6, u7, u8, u9⟩ := obj_cells qr; have f0 := obj_fz qr; clear b1 o1 sy hrd; go_wp2_with fail; obtain ⟨hld, gt⟩ := zero_load qr; have BQz := S7.out.below.trans (gt.below (Nat.le_of_lt (ge_ qr).1) (fun k e => Nat.le_of_eq e.symm))
   refine bodyPost_ret (v := decBad) ?_ rfl ?_
   ·rw [results_cell_tmp rfl]
    simp [asAddr, Result.andThen, hld, decBad]
   ·refine ⟨BQz, ?_⟩
    rw [DD.out, if_pos (.inl hb)]; rfl
  | false =>
   cases hok : okO o with
   | false =>
    have e1 : errO o = 1 := by unfold errO; rw [hok]; rfl
    rw [e1] at henc; have HENC := h_ henc; clear henc; go_wp2_with fail; rw [<- HV.out]; refine HENC.out.mono ?_; rintro e y1 ⟨v1, rfl, o1, b1⟩; obtain ⟨ay, cy, By, rfl, sy, _⟩ := OutAt.src o1; have S7 := h_ (ST.out.low (Turn.of_below (fun _ => False) b1) (fun k hk => hk.elim))
    have B7 := h_ b1; obtain ⟨_, _, _, _, hrd, _, _⟩ := S7.out.rd; obtain ⟨_, p1, _⟩ := rd_cells hrd; rw [<- HBAD.out, hb] at p1; have qr := S7.out.zrow; obtain ⟨u0, u1, u2, u3, u4, u5, u6, u7, u8, u9⟩ := obj_cells qr; have f0 := obj_fz qr; clear b1 o1 sy hrd; go_wp2_with fail; obtain ⟨hld, gt⟩ := zero_load qr; have BQz := S7.out.below.trans (gt.below (Nat.le_of_lt (ge_ qr).1) (fun k e => Nat.le_of_eq e.symm))
    refine bodyPost_ret (v := decBad) ?_ rfl ?_
    ·rw [results_cell_tmp rfl]
     simp [asAddr, Result.andThen, hld, decBad]
    ·refine ⟨BQz, ?_⟩
     rw [DD.out, if_pos (.inr (.inl hok))]; rfl
   | true =>
    have e1 : errO o = 0 := by unfold errO; rw [hok]; rfl
    have e2 : bytesO o = encO o := by unfold bytesO; rw [hok]; rfl
    rw [e1, e2] at henc; by_cases heq : encO o = c :: r
    ·have HEQ := h_ heq
     have HENC := h_ henc; clear henc; go_wp2_with fail; rw [<- HV.out]; refine HENC.out.mono ?_; rintro e y1 ⟨v1, rfl, o1, b1⟩; obtain ⟨ay, cy, By, rfl, sy, _⟩ := OutAt.src o1; have S7 := h_ (ST.out.low (Turn.of_below (fun _ => False) b1) (fun k hk => hk.elim))
     have B7 := h_ b1; obtain ⟨_, _, _, _, hrd, _, _⟩ := S7.out.rd; obtain ⟨_, p1, _⟩ := rd_cells hrd; rw [<- HBAD.out, hb] at p1; have hsame := same_any y1 sy (SB.out y1 S7.out.below); rw [decide_eq_true heq, <- HN.out] at hsame; have HS := h_ hsame; clear hsame heq; have qr := S7.out.zrow; obtain ⟨u0, u1, u2, u3, u4, u5, u6, u7, u8, u9⟩ := obj_cells qr; have f0 := obj_fz qr; have hrow : y1.heap[w.heap.size + 1 + 1]? = some (.cells #[.int .i64 3, .slice none 0 0, .slice none 0 0, .string (SL P1.1), .slice a4 n4 c4, .string ⟨#[]⟩, .string ⟨#[]⟩, .string (SL P3.1), .int .i64 (P4.1 : Int), .string (SL P5.1)] 33 (0, 0)) := S7.out.obj
     obtain ⟨s0, s1, s2, s3, s4, s5, s6, s7, s8, s9⟩ := obj_cells hrow; clear b1 o1 sy hrd hrow; go_wp2_with (go_at_call 99; refine HS.out.mono ?_; rintro e y2 ⟨rfl, hy⟩; have hy := hy.symm; subst hy)
     obtain ⟨hld, gt⟩ := zero_set y1 w.heap.size (.int .i64 3) (.slice none 0 0) (.slice none 0 0) (.string (SL P1.1)) (.slice a4 n4 c4) (.string ⟨#[]⟩) (.string ⟨#[]⟩) (.string (SL P3.1)) (.int .i64 (P4.1 : Int)) (.string (SL P5.1)) qr; have BQz := S7.out.below.trans (gt.below (Nat.le_of_lt (ge_ qr).1) (fun k e => Nat.le_of_eq e.symm))
     refine bodyPost_ret (v := .tuple #[.agg #[.int .i64 3, .slice none 0 0, .slice none 0 0, .string (SL P1.1), .slice a4 n4 c4, .string ⟨#[]⟩, .string ⟨#[]⟩, .string (SL P3.1), .int .i64 (P4.1 : Int), .string (SL P5.1)], .int .i64 0]) ?_ rfl ?_
     ·rw [results_cell_tmp rfl]
      simp [asAddr, Result.andThen, hld]
     ·refine ⟨BQz, ?_⟩
      rw [DD.out, if_neg (by rw [hb, hok]; rintro (h | h | h) <;> first | exact Bool.noConfusion h | exact h HEQ.out)]
      refine ⟨.slice none 0 0, .slice none 0 0, .slice a4 n4 c4, ?_, ?_⟩
      ·rw [HO.out]; rfl
      ·rw [HO.out]
       exact (I0.out.turn ((Turn.of_below (fun k => k = w.heap.size) B7.out).trans gt) (fun k hk e => by have h1 : w.heap.size + 1 + 1 < k := hk; have h2 : k = w.heap.size := e; omega)).mono (fun k _ hk => by have h1 : w.heap.size + 1 + 1 < k := hk; show w.heap.size <= k; omega)
    ·have hne := heq
     have HNE := h_ hne; have HENC := h_ henc; clear henc; go_wp2_with fail; rw [<- HV.out]; refine HENC.out.mono ?_; rintro e y1 ⟨v1, rfl, o1, b1⟩; obtain ⟨ay, cy, By, rfl, sy, _⟩ := OutAt.src o1; have S7 := h_ (ST.out.low (Turn.of_below (fun _ => False) b1) (fun k hk => hk.elim))
     have B7 := h_ b1; obtain ⟨_, _, _, _, hrd, _, _⟩ := S7.out.rd; obtain ⟨_, p1, _⟩ := rd_cells hrd; rw [<- HBAD.out, hb] at p1; have hsame := same_any y1 sy (SB.out y1 S7.out.below); rw [decide_eq_false hne, <- HN.out] at hsame; have HS := h_ hsame; clear hsame hne heq; have qr := S7.out.zrow; obtain ⟨u0, u1, u2, u3, u4, u5, u6, u7, u8, u9⟩ := obj_cells qr; have f0 := obj_fz qr; clear b1 o1 sy hrd; go_wp2_with (go_at_call 99; refine HS.out.mono ?_; rintro e y2 ⟨rfl, hy⟩; have hy := hy.symm; subst hy)
     obtain ⟨hld, gt⟩ := zero_load qr; have BQz := S7.out.below.trans (gt.below (Nat.le_of_lt (ge_ qr).1) (fun k e => Nat.le_of_eq e.symm))
     refine bodyPost_ret (v := decBad) ?_ rfl ?_
     ·rw [results_cell_tmp rfl]
      simp [asAddr, Result.andThen, hld, decBad]
     ·refine ⟨BQz, ?_⟩
      rw [DD.out, if_pos (.inr (.inr HNE.out))]; rfl
end
section
open Go.RowKit
theorem refDec_nil (ao : Option Addr) (cap : Nat) (w : World) : Calls Tryz.prog 51 #[.slice ao 0 cap] w (DecTo [] w) := by
 obtain ⟨W1, hW1⟩ := nm_ (w.alloc (.cells #[.int .i64 0, .slice none 0 0, .slice none 0 0, .string ⟨#[]⟩, .slice none 0 0, .string ⟨#[]⟩, .string ⟨#[]⟩, .string ⟨#[]⟩, .int .i64 0, .string ⟨#[]⟩] 33)); have qr : W1.heap[w.heap.size]? = some (.cells #[.int .i64 0, .slice none 0 0, .slice none 0 0, .string ⟨#[]⟩, .slice none 0 0, .string ⟨#[]⟩, .string ⟨#[]⟩, .string ⟨#[]⟩, .int .i64 0, .string ⟨#[]⟩] 33 (0, 0)) := by rw [hW1]; exact heap_alloc_new w _
 have b1 : Below w.heap.size w W1 := by rw [hW1]; exact (Below.refl _ _).alloc (Nat.le_refl _) _
 obtain ⟨u0, u1, u2, u3, u4, u5, u6, u7, u8, u9⟩ := obj_cells qr; have f0 := obj_fz qr; have HW := h_ hW1; have BL := h_ b1; have QR := h_ qr; rw [hW1] at u0 u1 u2 u3 u4 u5 u6 u7 u8 u9 f0; clear hW1 b1 qr; go_enter Tryz.func51, Tryz.ntmps51; go_wp2_with fail; rw [<- HW.out]; have hld := run_loadVar_row (P := Tryz.prog) _ w.heap.size 33 33 #[.int .i64 0, .slice none 0 0, .slice none 0 0, .string ⟨#[]⟩, .slice none 0 0, .string ⟨#[]⟩, .string ⟨#[]⟩, .string ⟨#[]⟩, .int .i64 0, .string ⟨#[]⟩] (0, 0) _ QR.out Tryz.underlying33 rfl (by kernel_rfl)
 refine bodyPost_ret (v := .tuple #[.agg #[.int .i64 0, .slice none 0 0, .slice none 0 0, .string ⟨#[]⟩, .slice none 0 0, .string ⟨#[]⟩, .string ⟨#[]⟩, .string ⟨#[]⟩, .int .i64 0, .string ⟨#[]⟩], .int .i64 2]) ?_ rfl ?_
 ·rw [results_cell_tmp rfl]
  simp [asAddr, Result.andThen, hld]
 ·exact ⟨BL.out, rfl⟩
theorem refDecode_any (ao : Option Addr) (cap B off : Nat) (b : OB) (w : World) (h : SrcAt w ao cap b B off) (hl : b.length <= 140737488355328) : Calls Tryz.prog 51 #[.slice ao b.length cap] w (DecTo b w) := by
 cases b with
 | nil => exact refDec_nil ao cap w
 | cons c r =>
  by_cases k1 : c.toNat = 1
  ·exact refDec_1 ao cap B off c r w h hl k1
  ·by_cases k2 : c.toNat = 2
   ·exact refDec_2 ao cap B off c r w h hl k2
   ·by_cases k3 : c.toNat = 3
    ·exact refDec_3 ao cap B off c r w h hl k3
    ·by_cases k4 : c.toNat = 4
     ·exact refDec_4 ao cap B off c r w h hl k4
     ·exact refDec_N ao cap B off c r w h hl k1 k2 k3 k4
end
end Go.Proofs.YtomgijcbekjlaaaGreat
