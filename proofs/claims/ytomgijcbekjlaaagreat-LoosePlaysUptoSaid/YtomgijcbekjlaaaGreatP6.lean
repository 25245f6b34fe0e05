/- What the proofs stand on: SumHexed, SumUnhexed, SumDigitLaws, RefSumHexed, RefUnhex, LoosePure, LoosePure2. -/
import Derived.Lib.Bytealg
import Derived.Test.YtomgijcbekjlaaaGreatP5
import Derived.Test.YtomgijcbekjlaaaGreatP0
import Derived.Test.YtomgijcbekjlaaaGreatP2
import Derived.Test.YtomgijcbekjlaaaGreatPB0
import Derived.Test.YtomgijcbekjlaaaGreatPB1
set_option maxRecDepth 100000
set_option maxHeartbeats 40000000
namespace Go.Proofs.YtomgijcbekjlaaaGreat
section
open Go.RowKit
def digitsL : List UInt8 := [48, 49, 50, 51, 52, 53, 54, 55, 56, 57, 97, 98, 99, 100, 101, 102]
def digitL (d : Nat) : UInt8 := digitsL.getD d 0
def hexB (x : UInt8) : List UInt8 := [digitL (x.toNat / 16), digitL (x.toNat % 16)]
def hexL (bs : List UInt8) : List UInt8 := bs.flatMap hexB
theorem hexL_length (l : List UInt8) : (hexL l).length = 2 * l.length := by
  induction l with
  | nil => rfl
  | cons x l ih => simp only [hexL, List.flatMap_cons, List.length_append] at *; rw [ih]; simp [hexB]; omega
theorem hexL_succ (l : List UInt8) (k : Nat) (h : k < l.length) : hexL (l.take (k + 1)) = hexL (l.take k) ++ hexB (l.getD k 0) := by
  have e : l.getD k 0 = l[k] := by simp [h]
  rw [List.take_succ_eq_append_getElem h, e, hexL, List.flatMap_append]; simp [hexL]
def digitsS : ByteArray := { data := #[48, 49, 50, 51, 52, 53, 54, 55, 56, 57, 97, 98, 99, 100, 101, 102] }
theorem digitsS_at (d : Nat) (h : d < 16) : digitsS[d]? = some (digitL d) := by
  have : d = 0 \/ d = 1 \/ d = 2 \/ d = 3 \/ d = 4 \/ d = 5 \/ d = 6 \/ d = 7 \/ d = 8 \/ d = 9 \/ d = 10 \/ d = 11 \/ d = 12 \/ d = 13 \/ d = 14 \/ d = 15 := by omega
  rcases this with rfl | rfl | rfl | rfl | rfl | rfl | rfl | rfl | rfl | rfl | rfl | rfl | rfl | rfl | rfl | rfl <;> rfl
theorem index_string (s : ByteArray) (k : IntKind) (d : Nat) (x : UInt8) (h : s[d]? = some x) (W : World) : (Instr.index 9 (.string s) (.int k (d : Int))).run Tryz.prog W = .ok (.int .u8 (x.toNat : Int)) W := by
  have h0 : (0 <= (d : Int)) := by omega
  simp only [Instr.index, asIntOf, Sem.run_bind, Sem.run_pure, Result.andThen_ok, run_underlying Tryz.underlying9, if_pos h0, Int.toNat_natCast, h]
theorem digit_at (k : IntKind) (d : Nat) (h : d < 16) (W : World) : (Instr.index 9 (.string { data := #[48, 49, 50, 51, 52, 53, 54, 55, 56, 57, 97, 98, 99, 100, 101, 102] }) (.int k (d : Int))).run Tryz.prog W = .ok (.int .u8 ((digitL d).toNat : Int)) W :=
  index_string digitsS k d _ (digitsS_at d h) W
theorem and15 (x : UInt8) : bits .and .u8 (x.toNat : Int) 15 = ((x.toNat % 16 : Nat) : Int) := by
  have hx : x.toNat < 256 := x.toNat_lt; have h := (bits_nat .u8 8 (by decide) (fun n h0 h1 => IntWalk.u8_in n ⟨h0, by omega⟩) x.toNat 15 hx (by omega)).1
  have e := Nat.and_two_pow_sub_one_eq_mod x.toNat 4; rw [show (15 : Int) = ((15 : Nat) : Int) from rfl, h, show (15 : Nat) = 2 ^ 4 - 1 from rfl, e]
theorem byte_at (s : ByteArray) (k : Nat) (h : k < s.size) : s[k]? = some (s.data.toList.getD k 0) := by
  have h2 : k < s.data.toList.length := h; rw [getElem?_pos s k h]; simp only [List.getD, List.getElem?_eq_getElem h2, Option.getD_some]; rfl
theorem hex_any (s : ByteArray) (w : World) (hs : 2 * s.size <= 281474976710656) :
    Calls Tryz.prog 62 #[.string s] w fun e w' => e = .returned (.string (SL (hexL s.data.toList))) /\ Below w.heap.size w w' := by
  obtain ⟨i0, hi, hz0, hz1, hz2⟩ := info_parts info5; have hmk : ∀ u : World, (Instr.makeSlice 29 (.int .i64 0) (.int .i64 (2 * (s.size : Int)))).run Tryz.prog u =
      .ok (.slice (some ⟨u.heap.size, 0, none⟩) 0 (2 * s.size)) (u.alloc (.cells (cells8 (zeros8 (2 * s.size))) 5)) := fun u => by
    have h := run_make (P := Tryz.prog) u 29 5 i0 (.int .u8 0) Tryz.underlying29 hi hz0 .i64 .i64 0 (2 * (s.size : Int)) (by omega) (by omega) (by rw [hz2]; omega) (by omega)
    have e2 : (2 * (s.size : Int)).toNat = 2 * s.size := by omega
    rw [e2] at h; simpa [hz1, Value.cells, made8] using h
  go_enter Tryz.func62, Tryz.ntmps62; go_wp2; obtain ⟨wx, hwx⟩ := nm_ (w.alloc (.cells (cells8 (zeros8 (2 * s.size))) 5)); have hown : wx.ownsRow w.heap.size 5 1 (.slice (some ⟨w.heap.size, 0, none⟩) 0 (2 * s.size)) 0 ((hexL (s.data.toList.take 0)).map B8) := by
    rw [hwx]; exact owns_of_row (heap_alloc_new _ _) (by omega) (by omega) (by unfold maxLen; omega) (by simp [cells8_size, zeros8_length]) (by simp [hexL]) (by simp [hexL])
  have hbel : Below w.heap.size w wx := by rw [hwx]; exact (Below.refl _ _).alloc (Nat.le_refl _) _
  rw [<- hwx]; clear hwx; have HO := h_ hown; clear hown; go_loopw [3, 4, 11] (fun v _ i wr => ∃ k : Nat, k <= s.size /\ i = .int .i64 k /\ v = .slice (some ⟨w.heap.size, 0, none⟩) (2 * k) (2 * s.size) /\ wr.ownsRow w.heap.size 5 1 (.slice (some ⟨w.heap.size, 0, none⟩) (2 * k) (2 * s.size)) (2 * k) ((hexL (s.data.toList.take k)).map B8) /\ Below w.heap.size w wr) (fun _ _ i _ => s.size - (intOf i).toNat)
  case atStart => exact ⟨0, by omega, rfl, rfl, HO.out, hbel⟩
  case round =>
    clear HO hbel; obtain ⟨k, hk, rfl, rfl, hown, hbel⟩ := hrel; have HO := h_ hown; clear hown; by_cases hlt : k < s.size
    · obtain ⟨x, hx⟩ := nm_ (s.data.toList.getD k 0)
      have hsx : s[k]? = some x := by
        rw [hx]; exact byte_at s k hlt
      have hi1 := index_string s .i64 k x hsx; have hd1 : ∀ W, (Instr.index 9 (.string { data := #[48, 49, 50, 51, 52, 53, 54, 55, 56, 57, 97, 98, 99, 100, 101, 102] }) (.int .u8 ((x.toNat : Int) / 16))).run Tryz.prog W = .ok (.int .u8 ((digitL (x.toNat / 16)).toNat : Int)) W := fun W => by
        have h := digit_at .u8 (x.toNat / 16) (by have := x.toNat_lt; omega) W
        rw [show ((x.toNat / 16 : Nat) : Int) = (x.toNat : Int) / 16 from by omega] at h
        exact h
      have hd2 : ∀ W, (Instr.index 9 (.string { data := #[48, 49, 50, 51, 52, 53, 54, 55, 56, 57, 97, 98, 99, 100, 101, 102] }) (.int .u8 ((x.toNat : Int) % 16))).run Tryz.prog W = .ok (.int .u8 ((digitL (x.toNat % 16)).toNat : Int)) W := fun W => by
        have h := digit_at .u8 (x.toNat % 16) (by omega) W
        rw [show ((x.toNat % 16 : Nat) : Int) = (x.toNat : Int) % 16 from by omega] at h
        exact h
      have ha : bits .and .u8 (x.toNat : Int) 15 = (x.toNat : Int) % 16 := by have := and15 x; omega
      have HX := h_ hx; have HSX := h_ hsx; clear hx hsx; go_wp2; go_region_law (refine step_append_fits rfl _ _ 29 rfl w.heap.size 5 i0 1 Tryz.underlying29 hi hz1 w.heap.size (2 * k) (2 * s.size) _ rfl (HO.out.alloc _) ⟨wr.heap.size, 0, none⟩ 2 2 _ rfl rfl (cells_new _ _ _) (by simp [Value.oneCell']) (by omega) ?_; intro w1 HO1 hgrow1)
      all_goals go_wp2
      all_goals go_roundw
      all_goals first
        | (refine ⟨k + 1, by omega, by go_num, rfl, ?_, ?_⟩
           · have h := HO1.out
             have e : hexL (s.data.toList.take (k + 1)) = hexL (s.data.toList.take k) ++ hexB x := by rw [hexL_succ _ _ (show k < s.data.toList.length from hlt), HX.out]
             rw [e, List.map_append]; exact h
           · exact (hbel.alloc hbel.size _).drew.grown hgrow1 (by have := hbel.size; simp; omega) (fun k hk => by cases hk; exact Nat.le_refl _))
        | (simp [intOf]; omega)
    · obtain rfl : k = s.size := by omega
      have h := HO.out; rw [List.take_of_length_le (show s.data.toList.length <= s.size from Nat.le_refl _)] at h
      have hl : (hexL s.data.toList).length = 2 * s.size := hexL_length _
      have hcv := convert_own (w := wr) (base := w.heap.size) (v := .slice (some ⟨w.heap.size, 0, none⟩) (2 * s.size) (2 * s.size)) (bs := hexL s.data.toList) (by rw [hl]; exact h)
      clear h hl; go_wp2; go_ret; exact ⟨rfl, hbel⟩
theorem call30 (s : ByteArray) (c : Int) (w : World) : (callFunc 179 #[.string s, .int .u8 c]).run Tryz.prog w = .ok (.value (.int .i64 (Lib.indexByte s.data.toList c.toNat.toUInt8))) w := by
  rw [run_callFunc_extern Tryz.func179 (by kernel_rfl) (by kernel_rfl) (by kernel_rfl) (e := Extern.BytealgIndexByte.indexByte) (by kernel_rfl), Lib.run_indexByteString]
  rfl
theorem index_any (s : ByteArray) (c : Int) (w : World) :
    Calls Tryz.prog 126 #[.string s, .int .u8 c] w fun e w' => e = .returned (.int .i64 (Lib.indexByte s.data.toList c.toNat.toUInt8)) /\ w' = w := by
  have hx := fun w => call30 s c w
  go_enter Tryz.func126, Tryz.ntmps126; go_wp2; go_ret; exact ⟨rfl, rfl⟩
end
section
open Go.RowKit
def dv (x : UInt8) : Int := Lib.indexByte digitsL x
theorem indexByte_lt (l : List UInt8) (c : UInt8) : Lib.indexByte l c < l.length \/ l = [] := by
  induction l with
  | nil => exact .inr rfl
  | cons b l ih =>
    refine .inl ?_; unfold Lib.indexByte; split
    · simp only [List.length_cons]; omega
    · split
      · simp only [List.length_cons]; omega
      · rcases ih with ih | rfl
        · simp; omega
        · simp [Lib.indexByte] at *
theorem dv_cases (x : UInt8) : dv x = -1 \/ ∃ p : Nat, p < 16 /\ dv x = (p : Int) := by
  have h1 := Lib.indexByte_ge digitsL x; have h2 : dv x < 16 := by
    rcases indexByte_lt digitsL x with h | h
    · exact h
    · exact absurd h (by decide)
  by_cases h : dv x = -1
  · exact .inl h
  · have h3 : -1 <= dv x := h1
    exact .inr ⟨(dv x).toNat, by omega, by omega⟩
def unhexL : List UInt8 -> Option (List UInt8)
  | [] => some []
  | [_] => none
  | a :: b :: r => if dv a < 0 \/ dv b < 0 then none else (unhexL r).map fun t => UInt8.ofNat (16 * (dv a).toNat + (dv b).toNat) :: t
theorem unhexL_append : ∀ (p q t : List UInt8), unhexL p = some t -> unhexL (p ++ q) = (unhexL q).map (t ++ ·)
  | [], q, t, h => by
    obtain rfl : [] = t := by simpa [unhexL] using h
    cases hq : unhexL q <;> simp [hq]
  | [_], q, t, h => by simp [unhexL] at h
  | a :: b :: r, q, t, h => by
    simp only [List.cons_append, unhexL] at h |-; split at h
    · cases h
    · rename_i hd
      rw [if_neg hd]
      cases hr : unhexL r with
      | none => rw [hr] at h; cases h
      | some u =>
        rw [hr] at h; obtain rfl : UInt8.ofNat (16 * (dv a).toNat + (dv b).toNat) :: u = t := by simpa using h
        rw [unhexL_append r q u hr]
        cases unhexL q <;> simp
theorem unhexL_odd : ∀ (l : List UInt8), l.length % 2 = 1 -> unhexL l = none
  | [], h => by simp at h
  | [_], _ => rfl
  | a :: b :: r, h => by
    rw [unhexL, unhexL_odd r (by simp at h; omega)]
    split <;> rfl
theorem unhexL_length : ∀ (l t : List UInt8), unhexL l = some t -> l.length = 2 * t.length
  | [], t, h => by obtain rfl : [] = t := by simpa [unhexL] using h
                   rfl
  | [_], _, h => by simp [unhexL] at h
  | a :: b :: r, t, h => by
    rw [unhexL] at h; split at h
    · cases h
    · cases hr : unhexL r with
      | none => rw [hr] at h; cases h
      | some u =>
        rw [hr] at h; obtain rfl : UInt8.ofNat (16 * (dv a).toNat + (dv b).toNat) :: u = t := by simpa using h
        have := unhexL_length r u hr
        simp; omega
def unhexV (l : List UInt8) : Value := match unhexL l with
  | some t => .tuple #[.string (SL t), .int .i64 0]
  | none => .tuple #[.string (SL []), .int .i64 1]
theorem index_digit (x : UInt8) (w : World) :
    Calls Tryz.prog 126 #[.string { data := #[48, 49, 50, 51, 52, 53, 54, 55, 56, 57, 97, 98, 99, 100, 101, 102] }, .int .u8 (x.toNat : Int)] w fun e w' => e = .returned (.int .i64 (dv x)) /\ w' = w := by
  refine (index_any _ _ w).mono ?_; rintro e w' ⟨rfl, rfl⟩; refine ⟨?_, rfl⟩; have e1 : ((x.toNat : Int).toNat).toUInt8 = x := by simp
  rw [e1]; rfl
theorem unhexV_none {l : List UInt8} (h : unhexL l = none) : unhexV l = .tuple #[.string (SL []), .int .i64 1] := by rw [unhexV, h]
theorem unhexV_some {l t : List UInt8} (h : unhexL l = some t) : unhexV l = .tuple #[.string (SL t), .int .i64 0] := by rw [unhexV, h]
theorem take_two (l : List UInt8) (k : Nat) (h : k + 1 < l.length) : l.take (k + 2) = l.take k ++ [l.getD k 0, l.getD (k + 1) 0] := by
  have e1 : l.getD k 0 = l[k] := by simp [List.getD, show k < l.length by omega]
  have e2 : l.getD (k + 1) 0 = l[k + 1] := by simp [List.getD, h]
  rw [show k + 2 = (k + 1) + 1 by omega, List.take_succ_eq_append_getElem h, List.take_succ_eq_append_getElem (show k < l.length by omega), e1, e2, List.append_assoc]
  rfl
theorem drop_two (l : List UInt8) (k : Nat) (h : k + 1 < l.length) : l.drop k = l.getD k 0 :: l.getD (k + 1) 0 :: l.drop (k + 2) := by
  rw [List.drop_eq_getElem_cons (show k < l.length by omega), List.drop_eq_getElem_cons h]
  simp [List.getD, show k < l.length by omega, h]
theorem unhexL_bad {l t : List UInt8} {k : Nat} (h : k + 1 < l.length) (hp : unhexL (l.take k) = some t) (hd : dv (l.getD k 0) < 0 \/ dv (l.getD (k + 1) 0) < 0) : unhexL l = none := by
  have e : l = l.take k ++ l.drop k := (List.take_append_drop k l).symm
  rw [e, unhexL_append _ _ _ hp, drop_two l k h, unhexL, if_pos hd]; rfl
theorem unhexL_good {l t : List UInt8} {k : Nat} (h : k + 1 < l.length) (hp : unhexL (l.take k) = some t) (ha : 0 <= dv (l.getD k 0)) (hb : 0 <= dv (l.getD (k + 1) 0)) :
    unhexL (l.take (k + 2)) = some (t ++ [UInt8.ofNat (16 * (dv (l.getD k 0)).toNat + (dv (l.getD (k + 1) 0)).toNat)]) := by
  rw [take_two l k h, unhexL_append _ _ _ hp, unhexL, if_neg (by omega)]
  simp [unhexL]
theorem or_pair (p q : Nat) (hp : p < 16) (hq : q < 16) : bits .or .i64 ((p : Int) * 16) (q : Int) = ((16 * p + q : Nat) : Int) := by
  have h := bits_join .i64 63 (by decide) (fun n h0 h1 => IntWalk.i64_in n ⟨by omega, by omega⟩) 4 ((p : Int) * 16) (q : Int) (by omega) (by omega) (by omega) (by omega) (by omega) (by omega)
  rw [h]; omega
theorem unhex_any (s : ByteArray) (w : World) (hs : s.size <= 281474976710656) :
    Calls Tryz.prog 152 #[.string s] w fun e w' => e = .returned (unhexV s.data.toList) /\ Below w.heap.size w w' := by
  have hsl : s.data.toList.length = s.size := rfl
  obtain ⟨i0, hi, hz0, hz1, hz2⟩ := info_parts info5; by_cases hodd : s.size % 2 = 1
  · have hv := unhexV_none (unhexL_odd s.data.toList (by rw [hsl]; exact hodd))
    have ho : (((s.size : Int).tmod 2) != 0) = true := by rw [bne_iff_ne, Int.tmod_eq_emod_of_nonneg (by omega)]; omega
    have ho2 : ((((s.size : Int)) % 2) != 0) = true := by rw [bne_iff_ne]; omega
    have HV := h_ hv; clear hv hodd hsl; go_enter Tryz.func152, Tryz.ntmps152; go_wp2; go_ret2; exact ⟨by rw [HV.out]; rfl, Below.refl _ _⟩
  · obtain ⟨m, hm⟩ : ∃ m, s.size = 2 * m := ⟨s.size / 2, by omega⟩
    have ho2 : ((((s.size : Int)) % 2) != 0) = false := by simp; omega
    have hq : (s.size : Int) / 2 = (m : Int) := by omega
    have hmk : ∀ u : World, (Instr.makeSlice 29 (.int .i64 0) (.int .i64 (m : Int))).run Tryz.prog u =
        .ok (.slice (some ⟨u.heap.size, 0, none⟩) 0 m) (u.alloc (.cells (cells8 (zeros8 m)) 5)) := fun u => by
      have h := run_make (P := Tryz.prog) u 29 5 i0 (.int .u8 0) Tryz.underlying29 hi hz0 .i64 .i64 0 (m : Int) (by omega) (by omega) (by rw [hz2]; omega) (by omega)
      rw [Int.toNat_natCast] at h; simpa [hz1, Value.cells, made8] using h
    have HM := h_ hm; have hmle : m <= 140737488355328 := by omega
    clear hm hodd hsl; go_enter Tryz.func152, Tryz.ntmps152; go_wp2; obtain ⟨wx, hwx⟩ := nm_ (w.alloc (.cells (cells8 (zeros8 m)) 5)); have hown : wx.ownsRow w.heap.size 5 1 (.slice (some ⟨w.heap.size, 0, none⟩) 0 m) 0 [] := by
      rw [hwx]; exact owns_of_row (heap_alloc_new _ _) (by omega) (by omega) (by unfold maxLen; omega) (by simp [cells8_size, zeros8_length]) rfl rfl
    have hbel : Below w.heap.size w wx := by rw [hwx]; exact (Below.refl _ _).alloc (Nat.le_refl _) _
    rw [<- hwx]; clear hwx; have HO := h_ hown; clear hown; clear hq ho2; go_loopw [4, 5] (fun v i wr => ∃ (k : Nat) (t : List UInt8), k <= m /\ i = .int .i64 (2 * (k : Int)) /\ v = .slice (some ⟨w.heap.size, 0, none⟩) k m /\ unhexL (s.data.toList.take (2 * k)) = some t /\ t.length = k /\ wr.ownsRow w.heap.size 5 1 (.slice (some ⟨w.heap.size, 0, none⟩) k m) k (t.map B8) /\ Below w.heap.size w wr) (fun _ i _ => s.size - (intOf i).toNat)
    case atStart => exact ⟨0, [], by omega, rfl, rfl, rfl, rfl, HO.out, hbel⟩
    case round =>
      clear HO hbel; obtain ⟨k, t, hk, rfl, rfl, ht, htk, hown, hbel⟩ := hrel; have HO := h_ hown; have HT := h_ ht; have HK := h_ htk; clear hown ht htk; have hsz : s.size = 2 * m := HM.out
      by_cases hlt : k < m
      · have hlen : 2 * k + 1 < s.data.toList.length := by show _ < s.size; omega
        obtain ⟨a, ha⟩ := nm_ (s.data.toList.getD (2 * k) 0); obtain ⟨b, hb⟩ := nm_ (s.data.toList.getD (2 * k + 1) 0); have hbad := unhexL_bad hlen HT.out; have hgood := unhexL_good hlen HT.out; rw [<- ha, <- hb] at hbad hgood; have hi1 : ∀ W, (Instr.index 9 (.string s) (.int .i64 (2 * (k : Int)))).run Tryz.prog W = .ok (.int .u8 (a.toNat : Int)) W := fun W => by
          have h := index_string s .i64 (2 * k) a (by rw [ha]; exact byte_at s _ (by omega)) W
          rw [show ((2 * k : Nat) : Int) = 2 * (k : Int) from by omega] at h
          exact h
        have hi2 : ∀ W, (Instr.index 9 (.string s) (.int .i64 (2 * (k : Int) + 1))).run Tryz.prog W = .ok (.int .u8 (b.toNat : Int)) W := fun W => by
          have h := index_string s .i64 (2 * k + 1) b (by rw [hb]; exact byte_at s _ (by omega)) W
          rw [show ((2 * k + 1 : Nat) : Int) = 2 * (k : Int) + 1 from by omega] at h
          exact h
        have e1 : IntKind.i64.wrap (2 * (k : Int) + 1) = 2 * (k : Int) + 1 := IntWalk.i64_in _ (by omega)
        have HB := h_ hbad; have HG := h_ hgood; have HSZ := h_ hsz; have hltI : 2 * (k : Int) < (s.size : Int) := by omega
        have hszb : s.size <= 281474976710656 := hs
        clear hbad hgood hsz ha hb; rcases dv_cases a with hda | ⟨p, hp, hda⟩
        · have hfin : unhexV s.data.toList = .tuple #[.string (SL []), .int .i64 1] := unhexV_none (HB.out (.inl (by rw [hda]; decide)))
          have HF := h_ hfin; clear hfin; go_wp2; go_quiet ((go_at_call 126; exact Calls.quiet_of_same (index_digit _ _)))
          go_wp2; go_ret2; exact ⟨by rw [HF.out]; rfl, below_drewN hbel _⟩
        · rcases dv_cases b with hdb | ⟨q, hq, hdb⟩
          · have hfin : unhexV s.data.toList = .tuple #[.string (SL []), .int .i64 1] := unhexV_none (HB.out (.inr (by rw [hdb]; decide)))
            have HF := h_ hfin; clear hfin; have hp0 : decide ((p : Int) < 0) = false := by simp
            go_wp2; go_quiet ((go_at_call 126; exact Calls.quiet_of_same (index_digit _ _)))
            go_wp2; go_ret2; exact ⟨by rw [HF.out]; rfl, below_drewN hbel _⟩
          · have hp0 : decide ((p : Int) < 0) = false := by simp
            have hq0 : decide ((q : Int) < 0) = false := by simp
            have hor := or_pair p q hp hq; have hgood2 := HG.out (by rw [hda]; omega) (by rw [hdb]; omega)
            rw [hda, hdb, Int.toNat_natCast, Int.toNat_natCast] at hgood2; have HG2 := h_ hgood2; have hpq : 16 * p + q < 256 := by omega
            clear hgood2; go_wp2; go_quiet ((go_at_call 126; exact Calls.quiet_of_same (index_digit _ _)))
            go_wp2_with (at_builtin; refine wpList_append_fits _ rfl _ _ 29 rfl w.heap.size 5 i0 1 Tryz.underlying29 hi hz1 w.heap.size k m _ rfl (HO.out.alloc _) ⟨_, 0, none⟩ 1 1 _ rfl rfl (cells_new _ _ _) (by simp [Value.oneCell']) (by omega) ?_; intro w1 hown1 hgrow1; have HO1 := h_ hown1; have HG1 := h_ hgrow1; clear hown1 hgrow1)
            go_roundw
            case rel =>
              refine ⟨k + 1, t ++ [UInt8.ofNat (16 * p + q)], by omega, by congr 1, rfl, HG2.out, by rw [List.length_append, HK.out]; rfl, ?_, ?_⟩
              · have h := HO1.out
                have e : (.int .u8 (16 * (p : Int) + (q : Int)) : Value) = B8 (UInt8.ofNat (16 * p + q)) := by
                  unfold B8; rw [UInt8.toNat_ofNat_of_lt' hpq]; congr 1
                rw [e] at h; rw [List.map_append]; exact h
              · exact ((below_drewN hbel _).alloc hbel.size _).grown HG1.out (by have := hbel.size; simp; omega) (fun k hk => by cases hk; exact Nat.le_refl _)
            case measure => simp [intOf]; have := HSZ.out; omega
      · obtain rfl : k = m := by omega
        have ht := HT.out; rw [List.take_of_length_le (show s.data.toList.length <= 2 * k by show s.size <= _; omega)] at ht
        have hv := unhexV_some ht; have hcv := convert_own (w := wr) (base := w.heap.size) (v := .slice (some ⟨w.heap.size, 0, none⟩) k k) (bs := t) (by rw [HK.out]; exact HO.out)
        have HV := h_ hv; have hge : ¬ (2 * (k : Int) < (s.size : Int)) := by omega
        clear hv ht hsz; go_wp2; go_ret2; exact ⟨by rw [HV.out]; rfl, hbel⟩
end
section
open Go.RowKit
theorem dv_digit (d : Nat) (h : d < 16) : dv (digitL d) = (d : Int) := by
 have : d = 0 \/ d = 1 \/ d = 2 \/ d = 3 \/ d = 4 \/ d = 5 \/ d = 6 \/ d = 7 \/ d = 8 \/ d = 9 \/ d = 10 \/ d = 11 \/ d = 12 \/ d = 13 \/ d = 14 \/ d = 15 := by omega
 rcases this with rfl | rfl | rfl | rfl | rfl | rfl | rfl | rfl | rfl | rfl | rfl | rfl | rfl | rfl | rfl | rfl <;> decide
theorem digit_range (d : Nat) (h : d < 16) : (48 <= (digitL d).toNat /\ (digitL d).toNat <= 57) \/ (97 <= (digitL d).toNat /\ (digitL d).toNat <= 102) := by
 have : d = 0 \/ d = 1 \/ d = 2 \/ d = 3 \/ d = 4 \/ d = 5 \/ d = 6 \/ d = 7 \/ d = 8 \/ d = 9 \/ d = 10 \/ d = 11 \/ d = 12 \/ d = 13 \/ d = 14 \/ d = 15 := by omega
 rcases this with rfl | rfl | rfl | rfl | rfl | rfl | rfl | rfl | rfl | rfl | rfl | rfl | rfl | rfl | rfl | rfl <;> decide
theorem unhex_hex : ∀ l : List UInt8, unhexL (hexL l) = some l
 | [] => rfl
 | x :: l => by
  have hx : x.toNat < 256 := x.toNat_lt; have e : hexL (x :: l) = digitL (x.toNat / 16) :: digitL (x.toNat % 16) :: hexL l := rfl
  rw [e, unhexL, dv_digit _ (by omega), dv_digit _ (by omega), if_neg (by omega), unhex_hex l]
  have e2 : UInt8.ofNat (16 * (((x.toNat / 16 : Nat) : Int)).toNat + (((x.toNat % 16 : Nat) : Int)).toNat) = x := by
   rw [Int.toNat_natCast, Int.toNat_natCast, show 16 * (x.toNat / 16) + x.toNat % 16 = x.toNat by omega, UInt8.ofNat_toNat]
  simp only [Option.map_some, e2]
theorem hexL_range (l : List UInt8) : ∀ x ∈ hexL l, (48 <= x.toNat /\ x.toNat <= 57) \/ (97 <= x.toNat /\ x.toNat <= 102) := by
 intro x hx
 obtain ⟨y, _, hy⟩ := List.mem_flatMap.1 hx; have hb : y.toNat < 256 := y.toNat_lt; simp only [hexB, List.mem_cons, List.not_mem_nil, or_false] at hy; rcases hy with rfl | rfl
 ·exact digit_range _ (by omega)
 ·exact digit_range _ (by omega)
end
section
open Go.RowKit
theorem refHex_any (s : ByteArray) (w : World) (hs : 2 * s.size <= 140737488355328) :
    Calls Tryz.prog 63 #[.string s] w fun e w' => e = .returned (.string (SL (hexL s.data.toList))) /\ Below w.heap.size w w' := by
  obtain ⟨i0, hi, hz0, hz1, hz2⟩ := info_parts info5; go_enter Tryz.func63, Tryz.ntmps63; go_wp2; go_loopw [3, 4] (fun v i wr => ∃ k : Nat, k <= s.size /\ i = .int .i64 k /\ wr.ownsRow w.heap.size 5 1 v (2 * k) ((hexL (s.data.toList.take k)).map B8) /\ Below w.heap.size w wr) (fun _ i _ => s.size - (intOf i).toNat)
  case atStart => exact ⟨0, by omega, rfl, World.ownsRow_nil _ _ _ _, Below.refl _ _⟩
  case round =>
    obtain ⟨k, hk, rfl, hown, hbel⟩ := hrel; have HO := h_ hown; clear hown; by_cases hlt : k < s.size
    · obtain ⟨x, hx⟩ := nm_ (s.data.toList.getD k 0)
      have hsx : s[k]? = some x := by rw [hx]; exact byte_at s k hlt
      have hi1 := index_string s .i64 k x hsx; have hd1 : ∀ W, (Instr.index 9 (.string { data := #[48, 49, 50, 51, 52, 53, 54, 55, 56, 57, 97, 98, 99, 100, 101, 102] }) (.int .u8 ((x.toNat : Int) / 16))).run Tryz.prog W = .ok (.int .u8 ((digitL (x.toNat / 16)).toNat : Int)) W := fun W => by
        have h := digit_at .u8 (x.toNat / 16) (by have := x.toNat_lt; omega) W
        rw [show ((x.toNat / 16 : Nat) : Int) = (x.toNat : Int) / 16 from by omega] at h
        exact h
      have hd2 : ∀ W, (Instr.index 9 (.string { data := #[48, 49, 50, 51, 52, 53, 54, 55, 56, 57, 97, 98, 99, 100, 101, 102] }) (.int .u8 ((x.toNat : Int) % 16))).run Tryz.prog W = .ok (.int .u8 ((digitL (x.toNat % 16)).toNat : Int)) W := fun W => by
        have h := digit_at .u8 (x.toNat % 16) (by omega) W
        rw [show ((x.toNat % 16 : Nat) : Int) = (x.toNat : Int) % 16 from by omega] at h
        exact h
      have hw1 : IntKind.u8.wrap ((x.toNat : Int) / 16) = (x.toNat : Int) / 16 := IntWalk.u8_in _ (by have := x.toNat_lt; omega)
      have hw3 : (x.toNat : Int).tmod 16 = (x.toNat : Int) % 16 := Int.tmod_eq_emod_of_nonneg (by omega)
      have hw2 : IntKind.u8.wrap ((x.toNat : Int) % 16) = (x.toNat : Int) % 16 := IntWalk.u8_in _ (by omega)
      have HX := h_ hx; have HSX := h_ hsx; clear hx hsx; go_wp2; go_region_law (refine step_append_own rfl _ _ 29 rfl w.heap.size 5 i0 (.int .u8 0) 1 1 Tryz.underlying29 hi hz0 hz1 hz2 rfl (by decide) _ (2 * k) _ rfl (HO.out.alloc _) ⟨wr.heap.size, 0, none⟩ 2 2 _ rfl rfl (cells_new _ _ _) (by simp [Value.oneCell']) (by unfold maxLen; omega) (by omega) (by have := hbel.size; simp; omega) ?_; intro v1 w1 HO1 hgrow1)
      all_goals go_wp2
      all_goals go_roundw
      all_goals first
        | (refine ⟨k + 1, by omega, by go_num, ?_, ?_⟩
           · have h := HO1.out
             have e : hexL (s.data.toList.take (k + 1)) = hexL (s.data.toList.take k) ++ hexB x := by rw [hexL_succ _ _ (show k < s.data.toList.length from hlt), HX.out]
             rw [e, List.map_append]; exact h
           · exact (hbel.alloc hbel.size _).drew.grown hgrow1 (by have := hbel.size; simp; omega) (fun k hk => (HO.out.lt k hk).1))
        | (simp [intOf]; omega)
    · obtain rfl : k = s.size := by omega
      have h := HO.out; rw [List.take_of_length_le (show s.data.toList.length <= s.size from Nat.le_refl _)] at h
      have hl : (hexL s.data.toList).length = 2 * s.size := hexL_length _
      rw [<- hl] at h; have hcv := convert_own h; clear h hl; go_wp2; go_ret; exact ⟨rfl, hbel⟩
theorem indexByte_at : ∀ (l : List UInt8) (c : UInt8) (p : Nat), Lib.indexByte l c = (p : Int) -> l.getD p 0 = c
  | [], c, p, h => by
    have h2 : Lib.indexByte [] c = -1 := rfl
    omega
  | b :: l, c, p, h => by
    unfold Lib.indexByte at h; by_cases hb : (b == c) = true
    · rw [if_pos hb] at h
      obtain rfl : p = 0 := by omega
      simpa using hb
    · rw [if_neg hb] at h
      have hge := Lib.indexByte_ge l c; by_cases hm : Lib.indexByte l c = -1
      · rw [hm] at h
        simp at h
      · rw [if_neg (by simpa using hm)] at h
        obtain ⟨q, rfl⟩ : ∃ q, p = q + 1 := ⟨p - 1, by omega⟩
        have h2 : Lib.indexByte l c = (q : Int) := by omega
        rw [List.getD_cons_succ]; exact indexByte_at l c q h2
theorem digit_any (x : UInt8) (w : World) :
    Calls Tryz.prog 81 #[.int .u8 (x.toNat : Int)] w fun e w' => e = .returned (.int .i64 (dv x)) /\ w' = w := by
  go_enter Tryz.func81, Tryz.ntmps81; go_wp2; go_loop [3] (fun i => ∃ k : Nat, k <= 16 /\ i = .int .i64 k /\ ∀ j, j < k -> digitL j ≠ x) (fun i => 16 - (intOf i).toNat)
  case atStart => exact ⟨0, by omega, rfl, fun j hj => absurd hj (Nat.not_lt_zero _)⟩
  case round =>
    obtain ⟨k, hk, rfl, hno⟩ := hrel; have HNO := h_ hno; clear hno; by_cases hlt : k < 16
    · have hd := digit_at .i64 k hlt
      by_cases he : digitL k = x
      · have hv : dv x = (k : Int) := by rw [<- he]; exact dv_digit k hlt
        have hb : (((digitL k).toNat : Int) == (x.toNat : Int)) = true := by rw [he]; simp
        have HV := h_ hv; clear hv he; go_wp2; go_ret; exact ⟨by rw [HV.out]; rfl, rfl⟩
      · have hb : (((digitL k).toNat : Int) == (x.toNat : Int)) = false := by
          rw [beq_eq_false_iff_ne]; intro h
          exact he (UInt8.toNat_inj.1 (by omega))
        have HE := h_ he; clear he; go_wp2; go_round
        case rel =>
          refine ⟨k + 1, by omega, by go_num, fun j hj => ?_⟩
          by_cases hjk : j = k
          · rw [hjk]; exact HE.out
          · exact HNO.out j (by omega)
        case measure => simp [intOf]; omega
    · have hv : dv x = -1 := by
        rcases dv_cases x with h | ⟨p, hp, h⟩
        · exact h
        · exact absurd (indexByte_at digitsL x p h) (HNO.out p (by omega))
      have HV := h_ hv; clear hv; go_wp2; go_ret; exact ⟨by rw [HV.out]; rfl, rfl⟩
end
section
open Go.RowKit
theorem refUnhex_any (s : ByteArray) (w : World) (hs : s.size <= 140737488355328) :
  Calls Tryz.prog 41 #[.string s] w fun e w' => e = .returned (unhexV s.data.toList) /\ Below w.heap.size w w' := by
 have hsl : s.data.toList.length = s.size := rfl
 obtain ⟨i0, hi, hz0, hz1, hz2⟩ := info_parts info5; go_enter Tryz.func41, Tryz.ntmps41; go_wp2; go_loopw [4, 5] (fun v i wr => ∃ (k : Nat) (t : List UInt8), 2 * k <= s.size /\ i = .int .i64 (2 * (k : Int)) /\ unhexL (s.data.toList.take (2 * k)) = some t /\ t.length = k /\ wr.ownsRow w.heap.size 5 1 v k (t.map B8) /\ Below w.heap.size w wr) (fun _ i _ => s.size - (intOf i).toNat)
 case atStart => exact ⟨0, [], by omega, rfl, rfl, rfl, World.ownsRow_nil _ _ _ _, Below.refl _ _⟩
 case round =>
  obtain ⟨k, t, hk, rfl, ht, htk, hown, hbel⟩ := hrel; have HO := h_ hown; have HT := h_ ht; have HK := h_ htk; have hszb : s.size <= 140737488355328 := hs
  have e1 : IntKind.i64.wrap (2 * (k : Int) + 1) = 2 * (k : Int) + 1 := IntWalk.i64_in _ (by omega)
  clear hown ht htk hsl; by_cases hlt : 2 * k + 1 < s.size
  ·have hlen : 2 * k + 1 < s.data.toList.length := hlt
   obtain ⟨a, ha⟩ := nm_ (s.data.toList.getD (2 * k) 0); obtain ⟨b, hb⟩ := nm_ (s.data.toList.getD (2 * k + 1) 0); have hbad := unhexL_bad hlen HT.out; have hgood := unhexL_good hlen HT.out; rw [<- ha, <- hb] at hbad hgood; have hi1 : ∀ W, (Instr.index 9 (.string s) (.int .i64 (2 * (k : Int)))).run Tryz.prog W = .ok (.int .u8 (a.toNat : Int)) W := fun W => by
    have h := index_string s .i64 (2 * k) a (by rw [ha]; exact byte_at s _ (by omega)) W
    rw [show ((2 * k : Nat) : Int) = 2 * (k : Int) from by omega] at h
    exact h
   have hi2 : ∀ W, (Instr.index 9 (.string s) (.int .i64 (2 * (k : Int) + 1))).run Tryz.prog W = .ok (.int .u8 (b.toNat : Int)) W := fun W => by
    have h := index_string s .i64 (2 * k + 1) b (by rw [hb]; exact byte_at s _ (by omega)) W
    rw [show ((2 * k + 1 : Nat) : Int) = 2 * (k : Int) + 1 from by omega] at h
    exact h
   have HB := h_ hbad; have HG := h_ hgood; have hltI : 2 * (k : Int) + 1 < (s.size : Int) := by omega
   clear hbad hgood ha hb; rcases dv_cases a with hda | ⟨p, hp, hda⟩
   ·have hfin : unhexV s.data.toList = .tuple #[.string (SL []), .int .i64 1] := unhexV_none (HB.out (.inl (by rw [hda]; decide)))
    have HF := h_ hfin; clear hfin; go_wp2_with (go_at_call 81; refine (digit_any _ _).mono ?_; rintro e w2 ⟨rfl, rfl⟩)
    go_ret2; exact ⟨by rw [HF.out]; rfl, hbel⟩
   ·rcases dv_cases b with hdb | ⟨q, hq, hdb⟩
    ·have hfin : unhexV s.data.toList = .tuple #[.string (SL []), .int .i64 1] := unhexV_none (HB.out (.inr (by rw [hdb]; decide)))
     have HF := h_ hfin; clear hfin; have hp0 : decide ((p : Int) < 0) = false := by simp
     go_wp2_with (go_at_call 81; refine (digit_any _ _).mono ?_; rintro e w2 ⟨rfl, rfl⟩)
     go_ret2; exact ⟨by rw [HF.out]; rfl, hbel⟩
    ·have hp0 : decide ((p : Int) < 0) = false := by simp
     have hq0 : decide ((q : Int) < 0) = false := by simp
     have hgood2 := HG.out (by rw [hda]; omega) (by rw [hdb]; omega)
     rw [hda, hdb, Int.toNat_natCast, Int.toNat_natCast] at hgood2; have HG2 := h_ hgood2; have hpq : 16 * p + q < 256 := by omega
     clear hgood2; go_wp2_with (first
      | (go_at_call 81; refine (digit_any _ _).mono ?_; rintro e w2 ⟨rfl, rfl⟩)
      | (at_builtin; refine wpList_append_own _ rfl _ _ 29 rfl w.heap.size 5 i0 (.int .u8 0) 1 1 Tryz.underlying29 hi hz0 hz1 hz2 rfl (by decide) _ k _ rfl (HO.out.alloc _) ⟨_, 0, none⟩ 1 1 _ rfl rfl (cells_new _ _ _) (by simp [Value.oneCell']) (by unfold maxLen; omega) (by omega) (by have := hbel.size; simp; omega) ?_; intro v1 w1 hown1 hgrow1 _; have HO1 := h_ hown1; have HG1 := h_ hgrow1; clear hown1 hgrow1))
     go_roundw
     case rel =>
      refine ⟨k + 1, t ++ [UInt8.ofNat (16 * p + q)], by omega, by congr 1, HG2.out, by rw [List.length_append, HK.out]; rfl, ?_, ?_⟩
      ·have h := HO1.out
       have e : (.int .u8 (16 * (p : Int) + (q : Int)) : Value) = B8 (UInt8.ofNat (16 * p + q)) := by
        unfold B8; rw [UInt8.toNat_ofNat_of_lt' hpq]; congr 1
       rw [e] at h; rw [List.map_append]; exact h
      ·exact (hbel.alloc hbel.size _).grown HG1.out (by have := hbel.size; simp; omega) (fun k hk => (HO.out.lt k hk).1)
     case measure => simp [intOf]; omega
  ·have hge : ¬ (2 * (k : Int) + 1 < (s.size : Int)) := by omega
   have hcv := convert_own (w := wr) (base := w.heap.size) (bs := t) (by rw [HK.out]; exact HO.out)
   by_cases hodd : s.size % 2 = 1
   ·have hv := unhexV_none (unhexL_odd s.data.toList hodd)
    have ho2 : ((((s.size : Int)) % 2) != 0) = true := by rw [bne_iff_ne]; omega
    have HV := h_ hv; clear hv hodd; go_wp2; go_ret2; exact ⟨by rw [HV.out]; rfl, hbel⟩
   ·have ht := HT.out
    rw [List.take_of_length_le (show s.data.toList.length <= 2 * k by show s.size <= _; omega)] at ht
    have hv := unhexV_some ht; have ho2 : ((((s.size : Int)) % 2) != 0) = false := by simp; omega
    have HV := h_ hv; clear hv ht hodd; go_wp2; go_ret2; exact ⟨by rw [HV.out]; rfl, hbel⟩
theorem hex_unhex : ∀ (l t : List UInt8), unhexL l = some t -> hexL t = l
 | [], t, h => by
  obtain rfl : [] = t := by simpa [unhexL] using h
  rfl
 | [_], _, h => by simp [unhexL] at h
 | a :: b :: r, t, h => by
  rw [unhexL] at h; split at h
  ·cases h
  ·rename_i hd
   cases hr : unhexL r with
   | none => rw [hr] at h; cases h
   | some u =>
    rw [hr] at h; obtain rfl : UInt8.ofNat (16 * (dv a).toNat + (dv b).toNat) :: u = t := by simpa using h
    rcases dv_cases a with ha | ⟨p, hp, ha⟩
    ·omega
    ·rcases dv_cases b with hb | ⟨q, hq, hb⟩
     ·omega
     ·have e1 := indexByte_at digitsL a p ha
      have e2 := indexByte_at digitsL b q hb; have e3 : hexL (UInt8.ofNat (16 * (dv a).toNat + (dv b).toNat) :: u) = hexB (UInt8.ofNat (16 * (dv a).toNat + (dv b).toNat)) ++ hexL u := rfl
      rw [e3, hex_unhex r u hr, ha, hb, Int.toNat_natCast, Int.toNat_natCast, hexB, UInt8.toNat_ofNat_of_lt' (by show _ < 256; omega), show (16 * p + q) / 16 = p by omega, show (16 * p + q) % 16 = q by omega]
      show [digitsL.getD p 0, digitsL.getD q 0] ++ r = a :: b :: r
      rw [e1, e2]; rfl
end
section
def nameL (id : Bs) : Bs := [111, 47] ++ hexL id
def tellL (id b : Bs) : Int × Bs := match openL b 2097152 with
  | none => (2, [])
  | some raw => if sumL raw = id /\ (decO raw).isSome = true then (0, raw) else (2, [])
def getL (fs : Files) (id : Bs) : Int × Bs := if id.length = 32 then (match findF (nameL id) fs with | none => (6, []) | some b => tellL id b) else (1, [])
def putL (S : St) (raw : Bs) : Int × Bs × St :=
  if (decO raw).isSome = true then
    (if (getL S.fs (sumL raw)).1 = 0 then (if (getL S.fs (sumL raw)).2 = raw then (0, sumL raw, S) else (7, [], S))
     else if (getL S.fs (sumL raw)).1 = 2 then (2, [], S)
     else if (saveS S (nameL (sumL raw)) (pressL raw)).1 = 0 then (0, sumL raw, (saveS S (nameL (sumL raw)) (pressL raw)).2)
     else ((saveS S (nameL (sumL raw)) (pressL raw)).1, [], (saveS S (nameL (sumL raw)) (pressL raw)).2))
  else (1, [], S)
def dropL (S : St) (id : Bs) : Int × St := if id.length = 32 then (if thereF (nameL id) S.fs = true then removeS S (nameL id) else (6, S)) else (1, S)
def unnameL (n : Bs) : Option Bs := if n.length = 66 /\ n.take 2 = [111, 47] then unhexL (n.drop 2) else none
def idsL (fs : Files) : List Bs := fs.filterMap fun f => unnameL f.1
/-! ### Names -/
theorem nameL_length (id : Bs) : (nameL id).length = 2 + 2 * id.length := by
  unfold nameL; rw [List.length_append, hexL_length]; rfl
theorem unname_name {id : Bs} (h : id.length = 32) : unnameL (nameL id) = some id := by
  unfold unnameL; rw [if_pos ⟨by rw [nameL_length, h], rfl⟩]
  exact unhex_hex id
theorem name_unname {n id : Bs} (h : unnameL n = some id) : n = nameL id /\ id.length = 32 := by
  unfold unnameL at h; split at h
  · rename_i hc
    have h1 := hex_unhex _ _ h; have h2 := unhexL_length _ _ h; rw [List.length_drop] at h2; refine ⟨?_, by omega⟩
    unfold nameL; rw [h1, <- hc.2, List.take_append_drop]
  · cases h
theorem name_bytes {id : Bs} {x : UInt8} (h : x ∈ nameL id) : 47 <= x.toNat /\ x.toNat <= 111 := by
  unfold nameL at h; rcases List.mem_append.1 h with h | h
  · simp at h
    rcases h with rfl | rfl <;> decide
  · rcases hexL_range id x h with k | k <;> omega
theorem name_named {id : Bs} (h : id.length <= 90) : named (nameL id) = true := by
  unfold named; have hl := nameL_length id; rw [Bool.and_eq_true, Bool.and_eq_true]; refine ⟨⟨decide_eq_true (by omega), decide_eq_true (by omega)⟩, List.all_eq_true.2 fun x hx => ?_⟩
  have := name_bytes hx
  rw [bne_iff_ne]; rintro rfl; exact absurd this.1 (by decide)
theorem name_shadow_named {id : Bs} (h : id.length <= 90) : named (shadowN (nameL id)) = true := by
  unfold named; have hl := nameL_length id; rw [Bool.and_eq_true, Bool.and_eq_true]; refine ⟨⟨decide_eq_true (by rw [shadow_length]; omega), decide_eq_true (by rw [shadow_length]; omega)⟩, List.all_eq_true.2 fun x hx => ?_⟩
  unfold shadowN at hx; rcases List.mem_append.1 hx with hx | hx
  · have := name_bytes hx
    rw [bne_iff_ne]; rintro rfl; exact absurd this.1 (by decide)
  · simp at hx
    subst hx; decide
theorem name_unmarked (id : Bs) : marked (nameL id) = false := by
  unfold marked; refine decide_eq_false fun h => ?_
  have := name_bytes (List.mem_of_getLast? h)
  exact absurd this.2 (by decide)
/-! ### What is got -/
theorem tellL_cases (id b : Bs) : ((tellL id b).1 = 2 /\ (tellL id b).2 = []) \/ ((tellL id b).1 = 0 /\ openL b 2097152 = some (tellL id b).2 /\ sumL (tellL id b).2 = id /\ (decO (tellL id b).2).isSome = true) := by
  unfold tellL
  cases h : openL b 2097152 with
  | none => exact .inl ⟨rfl, rfl⟩
  | some raw =>
    simp only
    by_cases hc : sumL raw = id /\ (decO raw).isSome = true
    · rw [if_pos hc]
      exact .inr ⟨rfl, rfl, hc.1, hc.2⟩
    · rw [if_neg hc]
      exact .inl ⟨rfl, rfl⟩
theorem getL_arg {fs : Files} {id : Bs} (h : id.length ≠ 32) : getL fs id = (1, []) := by unfold getL; rw [if_neg h]
theorem getL_none {fs : Files} {id : Bs} (h : id.length = 32) (hf : findF (nameL id) fs = none) : getL fs id = (6, []) := by unfold getL; rw [if_pos h, hf]
theorem getL_some {fs : Files} {id b : Bs} (h : id.length = 32) (hf : findF (nameL id) fs = some b) : getL fs id = tellL id b := by unfold getL; rw [if_pos h, hf]
theorem tell_press {raw : Bs} {o : ObjR} (h : decO raw = some o) (hl : raw.length <= 2097152) : tellL (sumL raw) (pressL raw) = (0, raw) := by
  unfold tellL; rw [open_press raw (by omega), if_neg (by omega)]
  simp only
  rw [if_pos ⟨trivial, by rw [h]; rfl⟩]
/-! ### What is put -/
theorem put_cases {S : St} {raw : Bs} (hg : Good S) (hd : (decO raw).isSome = true) (hk : S.dark = false) :
    ((putL S raw) = (0, sumL raw, S) /\ getL S.fs (sumL raw) = (0, raw)) \/ ((putL S raw) = (7, [], S) /\ (getL S.fs (sumL raw)).1 = 0 /\ (getL S.fs (sumL raw)).2 ≠ raw) \/ ((putL S raw) = (2, [], S) /\ (getL S.fs (sumL raw)).1 = 2) \/
    (findF (nameL (sumL raw)) S.fs = none /\
      (((putL S raw).1 = 0 /\ (putL S raw).2.1 = sumL raw /\ (putL S raw).2.2.dark = false /\ (S.left = -1 -> (putL S raw).2.2.left = -1) /\ (putL S raw).2.2.fs = putF (nameL (sumL raw)) (pressL raw) (delF (shadowN (nameL (sumL raw))) S.fs)) \/
       ((putL S raw).1 = 4 /\ (putL S raw).2.1 = [] /\ St.free { S with fs := delF (shadowN (nameL (sumL raw))) S.fs } < needS (nameL (sumL raw)) (pressL raw).length /\ (putL S raw).2.2.dark = false /\ (putL S raw).2.2.fs = delF (shadowN (nameL (sumL raw))) S.fs) \/
       ((putL S raw).2.1 = [] /\ Gone (shadowN (nameL (sumL raw))) S ((putL S raw).1, (putL S raw).2.2)))) := by
  have hl := sumL_length raw; unfold putL; rw [if_pos hd]
  cases hf : findF (nameL (sumL raw)) S.fs with
  | some b =>
    rw [getL_some hl hf]; rcases tellL_cases (sumL raw) b with ⟨h1, h2⟩ | ⟨h1, h2, h3, h4⟩
    · rw [if_neg (by rw [h1]; decide), if_pos h1]
      exact .inr (.inr (.inl ⟨rfl, h1⟩))
    · rw [if_pos h1]
      by_cases hr : (tellL (sumL raw) b).2 = raw
      · rw [if_pos hr]
        exact .inl ⟨rfl, Prod.ext h1 hr⟩
      · rw [if_neg hr]
        exact .inr (.inl ⟨rfl, h1, hr⟩)
  | none =>
    rw [getL_none hl hf]; rw [if_neg (by decide), if_neg (by decide)]
    refine .inr (.inr (.inr ⟨rfl, ?_⟩)); rcases save_says (b := pressL raw) (name_shadow_named (id := sumL raw) (by omega)) (name_named (by omega)) (name_unmarked _) hg hk with ⟨k1, _, k3, _, k5, k6⟩ | ⟨k1, k2, k3, _, k6⟩ | k
    · rw [if_pos k1]
      exact .inl ⟨rfl, rfl, k3, k5, k6⟩
    · rw [if_neg (by rw [k1]; decide)]
      exact .inr (.inl ⟨k1, rfl, k2, k3, k6⟩)
    · rw [if_neg (by rw [k.err]; decide)]
      exact .inr (.inr ⟨rfl, k⟩)
end
section
theorem put_good {S : St} {raw : Bs} (h : Good S) : Good (putL S raw).2.2 := by
 unfold putL; split
 ·split
  ·split <;> exact h
  ·split
   ·exact h
   ·split <;> exact h.save
 ·exact h
theorem put_cap (S : St) (raw : Bs) : (putL S raw).2.2.cap = S.cap := by
 unfold putL; split
 ·split
  ·split <;> rfl
  ·split
   ·rfl
   ·split <;> exact save_cap _ _ _
 ·rfl
theorem put_done (S : St) (raw : Bs) : (putL S raw).2.2.done <= S.done + S.cap + 4 := by
 unfold putL; split
 ·split
  ·split <;> (show S.done <= _; omega)
  ·split
   ·show S.done <= _; omega
   ·split <;> exact save_done
 ·show S.done <= _; omega
theorem costs_del_le (n : Bs) (l : Files) : costs (delF n l) <= costs l := by
 cases h : findF n l with
 | none => rw [del_gone h]; exact Nat.le_refl _
 | some c => have := costs_del h; omega
theorem put_new {S : St} {raw : Bs} {o : ObjR} (hg : Good S) (hd : S.dark = false) (hl : S.left = -1) (hdec : decO raw = some o) (hf : findF (nameL (sumL raw)) S.fs = none) (hroom : costs S.fs + 100 + (pressL raw).length <= S.cap) :
  ∃ S', putL S raw = (0, sumL raw, S') /\ S'.dark = false /\ S'.left = -1 /\ S'.fs = putF (nameL (sumL raw)) (pressL raw) (delF (shadowN (nameL (sumL raw))) S.fs) := by
 have hgl := getL_none (fs := S.fs) (sumL_length raw) hf
 rcases put_cases hg (by rw [hdec]; rfl) hd with ⟨_, h2⟩ | ⟨_, h1, _⟩ | ⟨_, h1⟩ | ⟨_, h⟩
 ·rw [hgl] at h2; cases h2
 ·rw [hgl] at h1; cases h1
 ·rw [hgl] at h1; cases h1
 ·rcases h with ⟨h1, h2, h3, h4, h5⟩ | ⟨_, _, h3, _⟩ | ⟨_, h⟩
  ·exact ⟨(putL S raw).2.2, Prod.ext h1 (Prod.ext h2 rfl), h3, h4 hl, h5⟩
  ·exfalso
   have hc := costs_del_le (shadowN (nameL (sumL raw))) S.fs; have hn := nameL_length (sumL raw); rw [sumL_length] at hn; unfold needS at h3; unfold St.free at h3; simp only at h3
   omega
  ·exact absurd hl h.left
theorem remove_there {S : St} {n b : Bs} (hd : S.dark = false) (hl : S.left = -1) (hn : named n = true) (hf : findF n S.fs = some b) : removeS S n = (0, { tick S with fs := delF n S.fs }) := by
 have ht := touch_is hn hd hf; unfold removeS writeS; rw [if_neg (by simp [ht]), if_neg (by omega)]
end
end Go.Proofs.YtomgijcbekjlaaaGreat
