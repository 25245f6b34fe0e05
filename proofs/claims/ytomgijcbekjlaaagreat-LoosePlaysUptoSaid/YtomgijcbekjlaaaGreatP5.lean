/- What the proofs stand on: SumAdd, Sum. -/
import Derived.Deep.RegionHeld3
import Derived.Test.YtomgijcbekjlaaaGreatP4
import Derived.Test.YtomgijcbekjlaaaGreatP0
import Derived.Test.YtomgijcbekjlaaaGreatPB0
import Derived.Test.YtomgijcbekjlaaaGreatPB1
set_option maxRecDepth 100000
set_option maxHeartbeats 40000000
namespace Go.Proofs.YtomgijcbekjlaaaGreat
section
open Go.RowKit
theorem sumSize35 : (Tryz.prog.info? 157).map (·.size) = some 32 := by kernel_rfl
theorem W32_one (l : List UInt32) : ∀ v ∈ l.map W32, v.oneCell' = true := fun v hv => by
 obtain ⟨x, _, rfl⟩ := List.mem_map.1 hv; rfl
def loadRow (ty : TypeId) (p : Value) : Sem Value := Instr.loadAt ty p
def storeRow (ty : TypeId) (p v : Value) : Sem Unit := Instr.storeAt ty p v
theorem loadRow34 (p : Value) : Instr.loadAt 156 p = loadRow 156 p := rfl
theorem loadRow35 (p : Value) : Instr.loadAt 157 p = loadRow 157 p := rfl
theorem storeRow34 (p v : Value) : Instr.storeAt 156 p v = storeRow 156 p v := rfl
attribute [local go_sem ↓] loadRow34 loadRow35 storeRow34
theorem runCells_eq1 (n : Nat) (st : List UInt32) (rest : List UInt8) : runCells n st rest = [.int .u64 (n : Int)] ++ (st.map W32 ++ rest.map B8) := rfl
theorem runCells_eq9 (n : Nat) (st : List UInt32) (rest : List UInt8) : runCells n st rest = (.int .u64 (n : Int) :: st.map W32) ++ (rest.map B8 ++ []) := by simp [runCells]
theorem load34 {w : World} {g n : Nat} {st : List UInt32} {rest : List UInt8} (hst : st.length = 8) (h : w.heap[g]? = some (.cells (runCells n st rest).toArray 159 (0, 0))) :
  (loadRow 156 (.pointer (some ⟨g, 1, none⟩))).run Tryz.prog w = .ok (.agg (cells32 st)) w := by
 rw [runCells_eq1] at h; exact run_loadAt_part w g 1 159 156 _ _ _ (0, 0) _ h rfl Tryz.underlying156 rfl (by rw [List.length_map, hst]; exact size34)
theorem load35 {w : World} {g n : Nat} {st : List UInt32} {rest : List UInt8} (hst : st.length = 8) (hr : rest.length = 32) (h : w.heap[g]? = some (.cells (runCells n st rest).toArray 159 (0, 0))) :
  (loadRow 157 (.pointer (some ⟨g, 9, none⟩))).run Tryz.prog w = .ok (.agg (cells8 rest)) w := by
 rw [runCells_eq9] at h; exact run_loadAt_part w g 9 159 157 _ _ _ (0, 0) _ h (by rw [List.length_cons, List.length_map, hst]) Tryz.underlying157 rfl (by rw [List.length_map, hr]; exact sumSize35)
theorem store34 {w : World} {g n : Nat} {st st' : List UInt32} {rest : List UInt8} (hst : st.length = 8) (hst' : st'.length = 8) (h : w.heap[g]? = some (.cells (runCells n st rest).toArray 159 (0, 0))) :
  (storeRow 156 (.pointer (some ⟨g, 1, none⟩)) (.agg (cells32 st'))).run Tryz.prog w = .ok () (w.setRow g (runCells n st' rest).toArray) := by
 rw [runCells_eq1] at h; rw [runCells_eq1]; exact run_storeAt_part w g 1 159 156 _ _ _ (st'.map W32) h rfl (by rw [List.length_map, List.length_map, hst, hst']) (by rw [List.length_map, hst]; exact size34) (W32_one _)
def sliceLen : Value -> Nat | .slice _ n _ => n | _ => 0
theorem round_out {B off k n m cap' : Nat} {l bs : List UInt8} {ao2 : Option Addr} {w wf : World} {g : Nat} (hm : m = bs.length - k) (hk : k <= bs.length) (hcap' : bs.length - k <= cap') (hmax' : cap' <= maxLen) (hnm : n <= m)
  (hao2 : ao2 = if cap' = n then some ⟨B, off + k, none⟩ else some ⟨B, off + k + n, none⟩) (hr : Ready wf g (l ++ bs.take k ++ (bs.drop k).take n)) (hg : w.grownBy wf (some g)) :
  ∃ k2 ao' cap2, k2 <= bs.length /\ Value.slice ao2 (m - n) (cap' - n) = .slice ao' (bs.length - k2) cap2 /\ bs.length - k2 <= cap2 /\ cap2 <= maxLen /\ (k2 < bs.length -> ao' = some ⟨B, off + k2, none⟩) /\ Ready wf g (l ++ bs.take k2) /\ w.grownBy wf (some g) := by
 refine ⟨k + n, ao2, cap' - n, by omega, by rw [hm, Nat.sub_sub], by omega, by omega, fun h => ?_, by rw [take_next, <- List.append_assoc]; exact hr, hg⟩
 rw [hao2, if_neg (by omega), Nat.add_assoc]
theorem sumAdd_any (g B off cap : Nat) (ao : Option Addr) (l bs : List UInt8) (w : World) (hr : RunAt w g l) (hsrc : 0 < bs.length -> ao = some ⟨B, off, none⟩) (hcap : bs.length <= cap) (hmax : cap <= maxLen)
  (hcell : ∀ j, j < bs.length -> w.cell? ⟨B, off + j, none⟩ = some (.int .u8 ((bs.getD j 0).toNat : Int))) (hne : 0 < bs.length -> B ≠ g) (hlen : l.length + bs.length <= 562949953421312) :
  Calls Tryz.prog 65 #[.pointer (some ⟨g, 0, none⟩), .slice ao bs.length cap] w fun e w' => e = .returned (.tuple #[]) /\ RunAt w' g (l ++ bs) /\ w.grownBy w' (some g) := by
 obtain ⟨st, rest, hrun, hg⟩ := hr; have c0 : w.cell? ⟨g, 0, none⟩ = some (.int .u64 (l.length : Int)) := by rw [cell_of_row _ _ _ _ _ _ hg]; rfl
 have HG := h_ hg; clear hg; by_cases hl : l = []
 case' pos =>
  have c0' : w.cell? ⟨g, 0, none⟩ = some (.int .u64 0) := by rw [hl] at c0; exact c0
  have L1 : (startL.map W32).length = (st.map W32).length := by rw [List.length_map, List.length_map, hrun.st8, startL_length]
  have L2 : (Tryz.prog.info? 156).map (·.size) = some (st.map W32).length := by rw [List.length_map, hrun.st8]; exact size34
  have HL1 := h_ L1; have HL2 := h_ L2; have HL := h_ hl; clear L1 L2 c0 hl; go_enter Tryz.func65, Tryz.ntmps65; go_wp2_with (first | (go_at_call 118; refine (start_any _).mono ?_; rintro e w1 ⟨rfl, hb1⟩) | (refine wpList_store_part rfl 156 _ _ rfl g 1 (startL.map W32) rfl rfl 159 [.int .u64 (l.length : Int)] (st.map W32) (rest.map B8) (below_heap hb1 HG.out) rfl HL1.out HL2.out (W32_one _) ?_))
  obtain ⟨wx, hwx⟩ : ∃ wx, wx = w1.setRow g ([Value.int .u64 (l.length : Int)] ++ (startL.map W32 ++ rest.map B8)).toArray := ⟨_, rfl⟩
  have hgx : wx.heap[g]? = some (.cells (runCells l.length startL rest).toArray 159 (0, 0)) := by rw [hwx]; exact setRow_heap _ _ _ _ _ _ (below_heap hb1 HG.out)
  have hgr : w.grownBy wx (some g) := by rw [hwx]; exact grown_trans (grown_of_below hb1 _) (grown_setRow _ _ _)
  rw [<- hwx]; have hready : Ready wx g l := ⟨startL, rest, ⟨startL_length, hrun.rest32, fun h => absurd HL.out h, hrun.tail⟩, by rw [HL.out, absorb_nil], hgx⟩
  clear hwx hgx c0'
 case' neg =>
  have hne0 : l.length ≠ 0 := fun h => hl (List.eq_nil_of_length_eq_zero h)
  have hbe : ((l.length : Int) == 0) = false := by simpa using hne0
  go_enter Tryz.func65, Tryz.ntmps65; go_wp2; have hready : Ready w g l := ⟨st, rest, hrun, hrun.state hl, HG.out⟩; have hgr : w.grownBy w (some g) := World.grownBy.refl _ _; clear hl hne0 hbe c0
 all_goals
  have HR := h_ hready; have HGR := h_ hgr; clear hready hgr
  try go_frame
  go_loopw [1, 4] (fun v _ wr => ∃ k ao' cap', k <= bs.length /\ v = .slice ao' (bs.length - k) cap' /\ bs.length - k <= cap' /\ cap' <= maxLen /\ (k < bs.length -> ao' = some ⟨B, off + k, none⟩) /\ Ready wr g (l ++ bs.take k) /\ w.grownBy wr (some g)) (fun v _ _ => sliceLen v)
  case atStart => exact ⟨0, ao, cap, Nat.zero_le _, rfl, hcap, hmax, hsrc, by rw [List.take_zero, List.append_nil]; exact HR.out, HGR.out⟩
  case round =>
   clear HR HGR; obtain ⟨k, ao', cap', hk, rfl, hcap', hmax', hao', ⟨st', rest', hrun', hst', hg'⟩, hgr⟩ := hrel; have HST := h_ hst'; clear hst'; by_cases hlt : k < bs.length
   ·obtain rfl : ao' = some ⟨B, off + k, none⟩ := hao' hlt
    obtain ⟨m, hm⟩ := nm_ (bs.length - k); obtain ⟨cnt, hcnt⟩ := nm_ ((l ++ bs.take k).length); obtain ⟨o, ho⟩ := nm_ (cnt % 32); obtain ⟨n, hn⟩ := nm_ (Nat.min m (32 - o)); have hcnt2 : cnt = l.length + k := by rw [hcnt]; simp; omega
    have ho32 : o < 32 := by rw [ho]; exact Nat.mod_lt _ (by decide)
    have hn1 : 0 < n := by rw [hn]; exact Nat.lt_min.2 ⟨by omega, by omega⟩
    have hnm : n <= m := by rw [hn]; exact Nat.min_le_left _ _
    have hno : n <= 32 - o := by rw [hn]; exact Nat.min_le_right _ _
    rw [<- hm]; rw [<- hcnt] at hg'; obtain ⟨c, hc⟩ := nm_ ((bs.drop k).take n); have hcl : c.length = n := by rw [hc, List.length_take, List.length_drop]; omega
    have hsrcW : ∀ j v, (c.map B8)[j]? = some v -> wr.cell? ((⟨B, off + k, none⟩ : Addr).add j) = some v := by
     intro j v hv
     rw [Addr.add_lit]; have hj : j < n := by have := (List.getElem?_eq_some_iff.1 hv).1; rw [List.length_map, hcl] at this; exact this
     have h1 := hcell (k + j) (by omega)
     have h2 := hgr.cell h1 (fun e => hne (by omega) (Option.some.inj e))
     rw [Nat.add_assoc, h2, <- hv, hc]; simp [B8, hj, List.getElem?_eq_getElem (show k + j < bs.length by omega)]
    have c0 : wr.cell? ⟨g, 0, none⟩ = some (.int .u64 (cnt : Int)) := by rw [cell_of_row _ _ _ _ _ _ hg']; rfl
    have e1 : (cnt : Int) % 32 = (o : Int) := by omega
    have e2 : (cnt : Int).tmod 32 = (o : Int) := by rw [Int.tmod_eq_emod_of_nonneg (by omega)]; exact e1
    have e3 : IntKind.u64.wrap (o : Int) = (o : Int) := IntWalk.u64_in _ (by omega)
    have hsl35 : ∀ W, (Instr.sliceAt 157 (.pointer (some ⟨g, 9, none⟩)) (some (.int .u64 (o : Int))) none none).run Tryz.prog W = .ok (.slice (some ⟨g, 9 + o, none⟩) (32 - o) (32 - o)) W := fun W => by
     have h := slice32_any .u64 ⟨g, 9, none⟩ o ho32 W; rw [Addr.add_lit] at h; exact h
    obtain ⟨ao2, hao2⟩ : ∃ ao2 : Option Addr, ao2 = (if cap' = n then some ⟨B, off + k, none⟩ else some ⟨B, off + k + n, none⟩) := ⟨_, rfl⟩
    have hsl22 : ∀ W, (Instr.slice 29 (.slice (some ⟨B, off + k, none⟩) m cap') (some (.int .i64 (n : Int))) none none).run Tryz.prog W = .ok (.slice ao2 (m - n) (cap' - n)) W := fun W => by
     have h1 : ∀ w, (sizeOf (Tryz.prog.elem 29)).run Tryz.prog w = .ok 1 w := fun w => by kernel_rfl
     rw [run_slice_l W 29 _ m cap' (by kernel_rfl) .i64 (n : Int) (by omega) (by omega), h1]
     simp only [Result.andThen_ok, sliced, Int.toNat_natCast, Nat.mul_one, Option.map_some, Addr.add_lit, hao2]
    have hfit : 9 + o + n <= (runCells cnt st' rest').length := by rw [runCells_length, hrun'.st8, hrun'.rest32]; omega
    have hcb : cnt + n <= 562949953421312 := by omega
    have hmi : (0 : Int) < (m : Int) := by omega
    have hm0 : 0 < m := by omega
    have size5 : (Tryz.prog.info? 5).map (·.size) = some 1 := by kernel_rfl
    have HC := h_ hcl; have HSRC := h_ hsrcW; have HG' := h_ hg'; have HF := h_ hfit; have H5 := h_ size5; have HM := h_ hm; have HCNT := h_ hcnt; have HO := h_ ho; have HN := h_ hn; have HCNT2 := h_ hcnt2; have HCC := h_ hc; have HA2 := h_ hao2; clear hcl hsrcW hg' hfit size5 hm hcnt ho hn hcnt2 hc hao2 hcell; by_cases hfull : o + n = 32
    ·have ef : ((((cnt : Int) + (n : Int)) % 32 == 0)) = true := by have := HO.out; rw [beq_iff_eq]; omega
     go_wp2; refine wp_region_still_tail 10 (by kernel_rfl) (by kernel_rfl) ?_
     simp only [List.take_succ_cons, List.take_zero, List.drop_succ_cons, List.drop_zero]; change wpStill _ _ wr.drew (fun a' => wpList _ _ _ _ a' wr.drew) _ _
     repeat still_step
     refine wpStill_nil ?_; go_wp2_with (refine wpList_copy_grown rfl _ _ 29 29 rfl 5 Tryz.underlying29 H5.out g (9 + o) (32 - o) (32 - o) ⟨B, off + k, none⟩ m cap' rfl rfl (runCells cnt st' rest') 159 HG'.out (c.map B8) n (by rw [List.length_map]; exact HC.out) HN.out (fun j v hv => HSRC.out j v hv) HF.out (B8_one _) ?_; intro w2 HG2 hgr2; rw [runCells_laid _ _ _ _ _ hrun'.st8] at HG2; have c2 : w2.cell? ⟨g, 0, none⟩ = some (.int .u64 (cnt : Int)) := (cell_of_row _ _ _ _ _ _ HG2.out).trans rfl; have f2 : w2.frozen? ⟨g, 0, none⟩ = false := frozen_of_row _ _ _ _ _ HG2.out)
     obtain ⟨w3, hw3⟩ : ∃ w3, w3 = w2.setCell ⟨g, 0, none⟩ (.int .u64 ((cnt : Int) + (n : Int))) := ⟨_, rfl⟩
     obtain ⟨rs, hrs⟩ := nm_ (laid rest' o c); rw [<- hw3]; rw [<- hrs] at HG2; have hg3 : w3.heap[g]? = some (.cells (runCells (cnt + n) st' rs).toArray 159 (0, 0)) := by rw [hw3, heap_setCell_same _ _ _ _ _ _ HG2.out, runCells_count]
     have hgr3 : wr.grownBy w3 (some g) := by rw [hw3]; exact grown_trans (grown_trans (grown_drew _ _) hgr2) (grown_setCell _ _ _ _)
     have rs32 : rs.length = 32 := by rw [hrs, laid_length _ _ _ (by rw [HC.out, hrun'.rest32]; omega), hrun'.rest32]
     have hL34 : ∀ w' : World, w'.heap[g]? = some (.cells (runCells (cnt + n) st' rs).toArray 159 (0, 0)) -> (loadRow 156 (.pointer (some ⟨g, 1, none⟩))).run Tryz.prog w' = .ok (.agg (cells32 st')) w' := fun w' h => load34 hrun'.st8 h
     have hL35 : ∀ w' : World, w'.heap[g]? = some (.cells (runCells (cnt + n) st' rs).toArray 159 (0, 0)) -> (loadRow 157 (.pointer (some ⟨g, 9, none⟩))).run Tryz.prog w' = .ok (.agg (cells8 rs)) w' := fun w' h => load35 hrun'.st8 rs32 h
     have hS34 : ∀ w' : World, w'.heap[g]? = some (.cells (runCells (cnt + n) st' rs).toArray 159 (0, 0)) -> (storeRow 156 (.pointer (some ⟨g, 1, none⟩)) (.agg (cells32 (roundsTo (blockL rs) st' 8)))).run Tryz.prog w' = .ok () (w'.setRow g (runCells (cnt + n) (roundsTo (blockL rs) st' 8) rs).toArray) := fun w' h => store34 hrun'.st8 (by rw [roundsTo_length]; exact hrun'.st8) h
     have HRS := h_ hrs; have HG3 := h_ hg3; clear hw3 hrs hg3; have a34 := hL34 w3.drew HG3.out; have a35 := hL35 w3.drew HG3.out; have HL34 := h_ hL34; have HL35 := h_ hL35; have HS34 := h_ hS34; clear hL34 hL35 hS34; go_region_with (first
      | (go_at_call 120; refine (blockOf_any rs rs32 _).mono ?_; rintro e w4 ⟨rfl, hb4⟩; have hg4 := below_heap hb4 HG3.out; have b34 := HL34.out w4 hg4; have HB4 := h_ hg4; clear hg4)
      | (go_at_call 119; refine (take_any st' (blockL rs) hrun'.st8 (blockL_length _) _).mono ?_; rintro e w5 ⟨rfl, hb5⟩; have hg5 := below_heap hb5 HB4.out; have s34 := HS34.out w5 hg5; have HB5 := h_ hg5; clear hg5))
     all_goals go_wp2
     all_goals go_roundw
     all_goals
      have eG : (l ++ bs.take k).length = cnt := HCNT.out.symm
      have eC : ((bs.drop k).take n).length = n := by rw [<- HCC.out]; exact HC.out
      have hready : ∀ X : Array Value, X = (runCells (cnt + n) (roundsTo (blockL rs) st' 8) rs).toArray -> Ready (w5.setRow g X) g (l ++ bs.take k ++ (bs.drop k).take n) := fun X hX => by
       refine ready_full hrun' HST.out (by rw [eG, eC, <- HO.out]; exact hfull) ?_
       rw [eG, eC, <- HO.out, <- HCC.out, <- HRS.out, setRow_heap _ _ _ _ _ _ HB5.out, hX]
      have hgrf : ∀ X : Array Value, w.grownBy (w5.setRow g X) (some g) := fun X =>
       grown_trans (grown_trans (grown_trans (grown_trans (grown_trans hgr hgr3) (grown_drew _ _)) (grown_of_below hb4 _)) (grown_of_below hb5 _)) (grown_setRow _ _ _)
     all_goals first
      | exact round_out HM.out hk hcap' hmax' hnm HA2.out (hready _ rfl) (hgrf _)
      | (simp [sliceLen]; omega)
    ·have hlt32 : o + n < 32 := by omega
     have ef : ((((cnt : Int) + (n : Int)) % 32 == 0)) = false := by have := HO.out; rw [beq_eq_false_iff_ne]; omega
     go_wp2; refine wp_region_still_tail 10 (by kernel_rfl) (by kernel_rfl) ?_
     simp only [List.take_succ_cons, List.take_zero, List.drop_succ_cons, List.drop_zero]; change wpStill _ _ wr.drew (fun a' => wpList _ _ _ _ a' wr.drew) _ _
     repeat still_step
     refine wpStill_nil ?_; go_wp2_with (refine wpList_copy_grown rfl _ _ 29 29 rfl 5 Tryz.underlying29 H5.out g (9 + o) (32 - o) (32 - o) ⟨B, off + k, none⟩ m cap' rfl rfl (runCells cnt st' rest') 159 HG'.out (c.map B8) n (by rw [List.length_map]; exact HC.out) HN.out (fun j v hv => HSRC.out j v hv) HF.out (B8_one _) ?_; intro w2 HG2 hgr2; rw [runCells_laid _ _ _ _ _ hrun'.st8] at HG2; have c2 : w2.cell? ⟨g, 0, none⟩ = some (.int .u64 (cnt : Int)) := (cell_of_row _ _ _ _ _ _ HG2.out).trans rfl; have f2 : w2.frozen? ⟨g, 0, none⟩ = false := frozen_of_row _ _ _ _ _ HG2.out)
     go_roundw
     all_goals
      have eG : (l ++ bs.take k).length = cnt := HCNT.out.symm
      have eC : ((bs.drop k).take n).length = n := by rw [<- HCC.out]; exact HC.out
     case rel =>
      refine round_out HM.out hk hcap' hmax' hnm HA2.out ?_ (grown_trans (grown_trans (grown_trans hgr (grown_drew _ _)) hgr2) (grown_setCell _ _ _ _)); refine ready_less hrun' HST.out (by rw [eG, eC, <- HO.out]; exact hlt32) ?_
      rw [eG, eC, <- HO.out, <- HCC.out, heap_setCell_same _ _ _ _ _ _ HG2.out, runCells_count]
     case measure => simp [sliceLen]; omega
   ·obtain rfl : k = bs.length := by omega
    have ez : bs.length - bs.length = 0 := Nat.sub_self _
    rw [ez]; go_wp2; refine bodyPost_end (v := .tuple #[]) (by simp [results, Tryz.results65]) rfl ⟨rfl, ?_, hgr⟩
    rw [List.take_length] at hg' hrun'; exact ⟨st', rest', hrun', hg'⟩
end
section
open Go.RowKit
theorem loadRow37 (p : Value) : Instr.loadAt 159 p = loadRow 159 p := rfl
theorem storeRow37 (p v : Value) : Instr.storeAt 159 p v = storeRow 159 p v := rfl
attribute [local go_sem ↓] loadRow34 loadRow37 storeRow37
theorem size37 : (Tryz.prog.info? 159).map (·.size) = some 41 := by kernel_rfl
theorem zero_run : (runCells 0 [0, 0, 0, 0, 0, 0, 0, 0] (zeros8 32)) = [.int .u64 0, .int .u32 0, .int .u32 0, .int .u32 0, .int .u32 0, .int .u32 0, .int .u32 0, .int .u32 0, .int .u32 0,
  .int .u8 0, .int .u8 0, .int .u8 0, .int .u8 0, .int .u8 0, .int .u8 0, .int .u8 0, .int .u8 0, .int .u8 0, .int .u8 0, .int .u8 0, .int .u8 0, .int .u8 0, .int .u8 0, .int .u8 0, .int .u8 0,
  .int .u8 0, .int .u8 0, .int .u8 0, .int .u8 0, .int .u8 0, .int .u8 0, .int .u8 0, .int .u8 0, .int .u8 0, .int .u8 0, .int .u8 0, .int .u8 0, .int .u8 0, .int .u8 0, .int .u8 0, .int .u8 0] := rfl
theorem new_any (w : World) : Calls Tryz.prog 64 #[] w fun e w' => e = .returned (.pointer (some ⟨w.heap.size, 0, none⟩)) /\ RunAt w' w.heap.size [] /\ Below w.heap.size w w' := by
 go_enter Tryz.func64, Tryz.ntmps64; go_wp2; go_ret; refine ⟨rfl, ⟨_, _, RunIs.zero, ?_⟩, (Below.refl _ _).alloc (Nat.le_refl _) _⟩; rw [List.length_nil, zero_run]; exact heap_alloc_new _ _
theorem load37 {w : World} {g : Nat} {cs : List Value} (hl : cs.length = 41) (h : w.heap[g]? = some (.cells cs.toArray 159 (0, 0))) :
  (loadRow 159 (.pointer (some ⟨g, 0, none⟩))).run Tryz.prog w = .ok (.agg cs.toArray) w :=
 run_loadAt_part w g 0 159 159 [] cs [] (0, 0) _ (by rw [List.append_nil]; exact h) rfl Tryz.underlying159 rfl (by rw [hl]; exact size37)
theorem store37 {w : World} {g : Nat} {cs new : List Value} (hl : cs.length = 41) (hn : new.length = 41) (h1 : ∀ v ∈ new, v.oneCell' = true) (h : w.heap[g]? = some (.cells cs.toArray 159 (0, 0))) :
  (storeRow 159 (.pointer (some ⟨g, 0, none⟩)) (.agg new.toArray)).run Tryz.prog w = .ok () (w.setRow g new.toArray) := by
 have := run_storeAt_part (P := Tryz.prog) w g 0 159 159 [] cs [] new (by rw [List.append_nil]; exact h) rfl (by rw [hl, hn]) (by rw [hl]; exact size37) h1
 rw [List.append_nil] at this; exact this
theorem runCells_one (n : Nat) (st : List UInt32) (rest : List UInt8) : ∀ v ∈ runCells n st rest, v.oneCell' = true := by
 intro v hv
 simp only [runCells, List.mem_cons, List.mem_append] at hv; rcases hv with rfl | hv | hv
 ·rfl
 ·exact W32_one _ v hv
 ·exact B8_one _ v hv
theorem tailL_length (n : Nat) : (tailL n).length = 41 + noughts n := by simp [tailL, tailTo, zeros8_length, numBytes_length]; omega
theorem own_src {w : World} {base : Nat} {v : Value} {bs : List UInt8} (h : w.ownsRow base 5 1 v bs.length (bs.map B8)) :
  ∃ ao B cap, v = .slice ao bs.length cap /\ bs.length <= cap /\ cap <= maxLen /\ (0 < bs.length -> ao = some ⟨B, 0, none⟩) /\ (0 < bs.length -> base <= B /\ B < w.heap.size) /\
   ∀ j, j < bs.length -> w.cell? ⟨B, 0 + j, none⟩ = some (.int .u8 ((bs.getD j 0).toNat : Int)) := by
 rcases h.2 with ⟨rfl, hn⟩ | ⟨g, cap, cur, rfl, hb, hg, hnc, hcm, hcs, htake⟩
 ·exact ⟨none, 0, 0, by rw [hn], by omega, Nat.zero_le _, fun h => by omega, fun h => by omega, fun j hj => by omega⟩
 ·refine ⟨_, g, cap, rfl, hnc, hcm, fun _ => rfl, fun _ => ⟨hb, (ge_ hg).1⟩, fun j hj => ?_⟩
  rw [Nat.zero_add, h.cellAt j (by simpa using hj)]
  simp [B8, hj]
theorem end_any (g : Nat) (l : List UInt8) (w : World) (h : RunAt w g l) (hlen : l.length <= 281474976710656) :
  Calls Tryz.prog 66 #[.pointer (some ⟨g, 0, none⟩)] w fun e w' => e = .returned (.string (SL (sumL l))) /\ Below w.heap.size w w' := by
 obtain ⟨st, rest, hrun, hg⟩ := h; have hl41 : (runCells l.length st rest).length = 41 := by rw [runCells_length, hrun.st8, hrun.rest32]
 have ld := load37 hl41 hg; obtain ⟨Z, hZ⟩ := nm_ ((runCells 0 [0, 0, 0, 0, 0, 0, 0, 0] (zeros8 32))); have zl : Z.length = 41 := by rw [hZ]; rfl
 obtain ⟨wx, hwx⟩ := nm_ ((w.alloc (.cells Z.toArray 159)).setRow w.heap.size (runCells l.length st rest).toArray); have hsx : (storeRow 159 (.pointer (some ⟨w.heap.size, 0, none⟩)) (.agg (runCells l.length st rest).toArray)).run Tryz.prog (w.alloc (.cells Z.toArray 159)) = .ok () wx := by
  rw [hwx]; exact store37 zl hl41 (runCells_one _ _ _) (heap_alloc_new _ _)
 have hgx : wx.heap[w.heap.size]? = some (.cells (runCells l.length st rest).toArray 159 (0, 0)) := by rw [hwx]; exact setRow_heap _ _ _ _ _ _ (heap_alloc_new _ _)
 have hbx : Below w.heap.size w wx := by rw [hwx]; exact below_setRow ((Below.refl _ _).alloc (Nat.le_refl _) _) (Nat.le_refl _) _
 have c0 : wx.cell? ⟨w.heap.size, 0, none⟩ = some (.int .u64 (l.length : Int)) := (cell_of_row _ _ _ _ _ _ hgx).trans rfl
 rw [hZ, zero_run] at hsx; have HGX := h_ hgx; clear hwx zl hZ hgx hg hl41; have tl : (tailL l.length).length <= 72 := by rw [tailL_length]; have := noughts_lt l.length; omega
 have tpos : 0 < (tailL l.length).length := by rw [tailL_length]; omega
 go_enter Tryz.func66, Tryz.ntmps66; go_wp2_with fail; refine (tail_any l.length (by omega) _).mono ?_
 rintro e w2 ⟨v, rfl, hown, hb2⟩; obtain ⟨ao, B, cap, rfl, hcap, hmax, hao, hB, hcell⟩ := own_src hown; obtain rfl : ao = some ⟨B, 0, none⟩ := hao tpos
 have hB1 := (hB tpos).1; have HCELL := h_ hcell; clear hown hcell hao hB; have hgs := (ge_ HGX.out).1; go_wp2_with fail; refine (sumAdd_any w.heap.size B 0 cap (some ⟨B, 0, none⟩) l (tailL l.length) _ ⟨st, rest, hrun, below_heap hb2 HGX.out⟩ (fun _ => rfl) hcap hmax HCELL.out (fun _ => by omega) (by omega)).mono ?_
 rintro e w3 ⟨rfl, ⟨st3, rest3, hrun3, hg3⟩, hgr3⟩; have ld3 := load34 hrun3.st8 hg3; clear hg3; go_wp2_with fail; refine (text_any st3 hrun3.st8 _).mono ?_; rintro e w4 ⟨rfl, hb4⟩; go_wp2_with fail; go_ret; have hne : l ++ tailL l.length ≠ [] := fun h => by have := congrArg List.length h; rw [List.length_append, List.length_nil] at this; omega
 have hfin : sumL l = wordsBytes st3 := by rw [sumL, <- hrun3.state hne]
 refine ⟨by rw [hfin]; rfl, ?_⟩
 have hbb : Below w.heap.size w w2 := hbx.trans (hb2.mono hbx.size); have hbc : Below w.heap.size w w3 := hbb.grown hgr3 hbb.size (fun k hk => by cases hk; exact Nat.le_refl _)
 exact hbc.trans (hb4.mono hbc.size)
theorem sum_any (B off cap : Nat) (ao : Option Addr) (bs : List UInt8) (w : World) (hsrc : 0 < bs.length -> ao = some ⟨B, off, none⟩) (hcap : bs.length <= cap) (hmax : cap <= maxLen)
  (hcell : ∀ j, j < bs.length -> w.cell? ⟨B, off + j, none⟩ = some (.int .u8 ((bs.getD j 0).toNat : Int))) (hlen : bs.length <= 281474976710656) :
  Calls Tryz.prog 31 #[.slice ao bs.length cap] w fun e w' => e = .returned (.string (SL (sumL bs))) /\ Below w.heap.size w w' := by
 have HCELL := h_ hcell; have HS := h_ hsrc; clear hcell hsrc; go_enter Tryz.func31, Tryz.ntmps31; go_wp2_with fail; refine (new_any _).mono ?_; rintro e w2 ⟨rfl, hr2, hb2⟩; go_wp2_with fail; refine (sumAdd_any w.heap.size B off cap ao [] bs _ hr2 HS.out hcap hmax (fun j hj => (hb2.cell (World.block_lt_of_cell? _ _ (HCELL.out j hj))).trans (HCELL.out j hj)) (fun h => by have := World.block_lt_of_cell? _ _ (HCELL.out 0 h); simp at this; omega) (by simp; omega)).mono ?_
 rintro e w3 ⟨rfl, hr3, hgr3⟩; go_wp2_with fail; refine (end_any w.heap.size bs _ hr3 hlen).mono ?_; rintro e w4 ⟨rfl, hb4⟩; go_wp2_with fail; go_ret; have hbc : Below w.heap.size w w3 := hb2.grown hgr3 hb2.size (fun k hk => by cases hk; exact Nat.le_refl _)
 exact ⟨rfl, hbc.trans (hb4.mono hbc.size)⟩
theorem sum_nil (w : World) : Calls Tryz.prog 31 #[.slice none 0 0] w fun e w' => e = .returned (.string (SL (sumL []))) /\ Below w.heap.size w w' :=
 sum_any 0 0 0 none [] w (fun h => absurd h (by decide)) (Nat.le_refl _) (Nat.zero_le _) (fun j hj => absurd hj (Nat.not_lt_zero _)) (Nat.zero_le _)
end
end Go.Proofs.YtomgijcbekjlaaaGreat
