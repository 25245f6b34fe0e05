/- The walk of Unhex. -/
import Derived.Test.YtijgmhdhaekocaaHex
namespace Go.Proofs.Ytijgmhdhaekocaa
open Go.RowKit
/-- What a digit is worth; -1: it is none. -/
def dv (x : UInt8) : Int := Lib.indexByte digitsL x
theorem indexByte_lt (l : List UInt8) (c : UInt8) : Lib.indexByte l c < l.length ∨ l = [] := by
  induction l with
  | nil => exact .inr rfl
  | cons b l ih =>
    refine .inl ?_
    unfold Lib.indexByte
    split
    · simp only [List.length_cons]; omega
    · split
      · simp only [List.length_cons]; omega
      · rcases ih with ih | rfl
        · simp; omega
        · simp [Lib.indexByte] at *
theorem dv_cases (x : UInt8) : dv x = -1 ∨ ∃ p : Nat, p < 16 ∧ dv x = (p : Int) := by
  have h1 := Lib.indexByte_ge digitsL x
  have h2 : dv x < 16 := by
    rcases indexByte_lt digitsL x with h | h
    · exact h
    · exact absurd h (by decide)
  by_cases h : dv x = -1
  · exact .inl h
  · have h3 : -1 ≤ dv x := h1
    exact .inr ⟨(dv x).toNat, by omega, by omega⟩
def unhexL : List UInt8 → Option (List UInt8)
  | [] => some []
  | [_] => none
  | a :: b :: r => if dv a < 0 ∨ dv b < 0 then none else (unhexL r).map fun t => UInt8.ofNat (16 * (dv a).toNat + (dv b).toNat) :: t
theorem unhexL_append : ∀ (p q t : List UInt8), unhexL p = some t → unhexL (p ++ q) = (unhexL q).map (t ++ ·)
  | [], q, t, h => by
    obtain rfl : [] = t := by simpa [unhexL] using h
    cases hq : unhexL q <;> simp [hq]
  | [_], q, t, h => by simp [unhexL] at h
  | a :: b :: r, q, t, h => by
    simp only [List.cons_append, unhexL] at h ⊢
    split at h
    · cases h
    · rename_i hd
      rw [if_neg hd]
      cases hr : unhexL r with
      | none => rw [hr] at h; cases h
      | some u =>
        rw [hr] at h
        obtain rfl : UInt8.ofNat (16 * (dv a).toNat + (dv b).toNat) :: u = t := by simpa using h
        rw [unhexL_append r q u hr]
        cases unhexL q <;> simp
theorem unhexL_odd : ∀ (l : List UInt8), l.length % 2 = 1 → unhexL l = none
  | [], h => by simp at h
  | [_], _ => rfl
  | a :: b :: r, h => by
    rw [unhexL, unhexL_odd r (by simp at h; omega)]
    split <;> rfl
theorem unhexL_length : ∀ (l t : List UInt8), unhexL l = some t → l.length = 2 * t.length
  | [], t, h => by obtain rfl : [] = t := by simpa [unhexL] using h
                   rfl
  | [_], _, h => by simp [unhexL] at h
  | a :: b :: r, t, h => by
    rw [unhexL] at h
    split at h
    · cases h
    · cases hr : unhexL r with
      | none => rw [hr] at h; cases h
      | some u =>
        rw [hr] at h
        obtain rfl : UInt8.ofNat (16 * (dv a).toNat + (dv b).toNat) :: u = t := by simpa using h
        have := unhexL_length r u hr
        simp; omega
/-- What Unhex answers. -/
def unhexV (l : List UInt8) : Value := match unhexL l with
  | some t => .tuple #[.string (SL t), .int .i64 0]
  | none => .tuple #[.string (SL []), .int .i64 1]
theorem index_digit (x : UInt8) (w : World) :
    Calls Try.prog 25 #[.string { data := #[48, 49, 50, 51, 52, 53, 54, 55, 56, 57, 97, 98, 99, 100, 101, 102] }, .int .u8 (x.toNat : Int)] w fun e w' => e = .returned (.int .i64 (dv x)) ∧ w' = w := by
  refine (index_any _ _ w).mono ?_
  rintro e w' ⟨rfl, rfl⟩
  refine ⟨?_, rfl⟩
  have e1 : ((x.toNat : Int).toNat).toUInt8 = x := by simp
  rw [e1]
  rfl
theorem unhexV_none {l : List UInt8} (h : unhexL l = none) : unhexV l = .tuple #[.string (SL []), .int .i64 1] := by rw [unhexV, h]
theorem unhexV_some {l t : List UInt8} (h : unhexL l = some t) : unhexV l = .tuple #[.string (SL t), .int .i64 0] := by rw [unhexV, h]
theorem take_two (l : List UInt8) (k : Nat) (h : k + 1 < l.length) : l.take (k + 2) = l.take k ++ [l.getD k 0, l.getD (k + 1) 0] := by
  have e1 : l.getD k 0 = l[k] := by simp [List.getD, show k < l.length by omega]
  have e2 : l.getD (k + 1) 0 = l[k + 1] := by simp [List.getD, h]
  rw [show k + 2 = (k + 1) + 1 by omega, List.take_succ_eq_append_getElem h, List.take_succ_eq_append_getElem (show k < l.length by omega), e1, e2, List.append_assoc]
  rfl
theorem drop_two (l : List UInt8) (k : Nat) (h : k + 1 < l.length) : l.drop k = l.getD k 0 :: l.getD (k + 1) 0 :: l.drop (k + 2) := by
  rw [List.drop_eq_getElem_cons (show k < l.length by omega), List.drop_eq_getElem_cons h]
  simp [List.getD, show k < l.length by omega, h]
/-- A pair that is no digits: none at all. -/
theorem unhexL_bad {l t : List UInt8} {k : Nat} (h : k + 1 < l.length) (hp : unhexL (l.take k) = some t) (hd : dv (l.getD k 0) < 0 ∨ dv (l.getD (k + 1) 0) < 0) : unhexL l = none := by
  have e : l = l.take k ++ l.drop k := (List.take_append_drop k l).symm
  rw [e, unhexL_append _ _ _ hp, drop_two l k h, unhexL, if_pos hd]
  rfl
theorem unhexL_good {l t : List UInt8} {k : Nat} (h : k + 1 < l.length) (hp : unhexL (l.take k) = some t) (ha : 0 ≤ dv (l.getD k 0)) (hb : 0 ≤ dv (l.getD (k + 1) 0)) :
    unhexL (l.take (k + 2)) = some (t ++ [UInt8.ofNat (16 * (dv (l.getD k 0)).toNat + (dv (l.getD (k + 1) 0)).toNat)]) := by
  rw [take_two l k h, unhexL_append _ _ _ hp, unhexL, if_neg (by omega)]
  simp [unhexL]
theorem or_pair (p q : Nat) (hp : p < 16) (hq : q < 16) : bits .or .i64 ((p : Int) * 16) (q : Int) = ((16 * p + q : Nat) : Int) := by
  have h := bits_join .i64 63 (by decide) (fun n h0 h1 => IntWalk.i64_in n ⟨by omega, by omega⟩) 4 ((p : Int) * 16) (q : Int) (by omega) (by omega) (by omega) (by omega) (by omega) (by omega)
  rw [h]
  omega
set_option maxHeartbeats 400000 in
theorem unhex_any (s : ByteArray) (w : World) (hs : s.size ≤ 281474976710656) :
    Calls Try.prog 15 #[.string s] w fun e w' => e = .returned (unhexV s.data.toList) ∧ Below w.heap.size w w' := by
  have hsl : s.data.toList.length = s.size := rfl
  obtain ⟨i0, hi, hz0, hz1, hz2⟩ := info_parts info5
  by_cases hodd : s.size % 2 = 1
  · have hv := unhexV_none (unhexL_odd s.data.toList (by rw [hsl]; exact hodd))
    have ho : (((s.size : Int).tmod 2) != 0) = true := by rw [bne_iff_ne, Int.tmod_eq_emod_of_nonneg (by omega)]; omega
    have ho2 : ((((s.size : Int)) % 2) != 0) = true := by rw [bne_iff_ne]; omega
    have HV := Lib.hid hv
    clear hv hodd hsl
    go_enter Try.func15, Try.ntmps15
    go_wp2
    go_ret2
    exact ⟨by rw [HV.out]; rfl, Below.refl _ _⟩
  · obtain ⟨m, hm⟩ : ∃ m, s.size = 2 * m := ⟨s.size / 2, by omega⟩
    have ho2 : ((((s.size : Int)) % 2) != 0) = false := by simp; omega
    have hq : (s.size : Int) / 2 = (m : Int) := by omega
    have hmk : ∀ u : World, (Instr.makeSlice 22 (.int .i64 0) (.int .i64 (m : Int))).run Try.prog u =
        .ok (.slice (some ⟨u.heap.size, 0, none⟩) 0 m) (u.alloc (.cells (cells8 (zeros8 m)) 5)) := fun u => by
      have h := run_make (P := Try.prog) u 22 5 i0 (.int .u8 0) Try.underlying22 hi hz0 .i64 .i64 0 (m : Int) (by omega) (by omega) (by rw [hz2]; omega) (by omega)
      rw [Int.toNat_natCast] at h
      simpa [hz1, Value.cells, made8] using h
    have HM := Lib.hid hm
    have hmle : m ≤ 140737488355328 := by omega
    clear hm hodd hsl
    go_enter Try.func15, Try.ntmps15
    go_wp2
    obtain ⟨wx, hwx⟩ : ∃ wx, wx = w.alloc (.cells (cells8 (zeros8 m)) 5) := ⟨_, rfl⟩
    have hown : wx.ownsRow w.heap.size 5 1 (.slice (some ⟨w.heap.size, 0, none⟩) 0 m) 0 [] := by
      rw [hwx]
      exact owns_of_row (heap_alloc_new _ _) (by omega) (by omega) (by unfold maxLen; omega) (by simp [cells8_size, zeros8_length]) rfl rfl
    have hbel : Below w.heap.size w wx := by rw [hwx]; exact (Below.refl _ _).alloc (Nat.le_refl _) _
    rw [← hwx]
    clear hwx
    have HO := Lib.hid hown
    clear hown
    clear hq ho2
    go_loopw [4, 5] (fun v i wr => ∃ (k : Nat) (t : List UInt8), k ≤ m ∧ i = .int .i64 (2 * (k : Int)) ∧ v = .slice (some ⟨w.heap.size, 0, none⟩) k m ∧ unhexL (s.data.toList.take (2 * k)) = some t ∧ t.length = k ∧ wr.ownsRow w.heap.size 5 1 (.slice (some ⟨w.heap.size, 0, none⟩) k m) k (t.map B8) ∧ Below w.heap.size w wr) (fun _ i _ => s.size - (intOf i).toNat)
    case atStart => exact ⟨0, [], by omega, rfl, rfl, rfl, rfl, HO.out, hbel⟩
    case round =>
      clear HO hbel
      obtain ⟨k, t, hk, rfl, rfl, ht, htk, hown, hbel⟩ := hrel
      have HO := Lib.hid hown
      have HT := Lib.hid ht
      have HK := Lib.hid htk
      clear hown ht htk
      have hsz : s.size = 2 * m := HM.out
      by_cases hlt : k < m
      · have hlen : 2 * k + 1 < s.data.toList.length := by show _ < s.size; omega
        obtain ⟨a, ha⟩ : ∃ a, a = s.data.toList.getD (2 * k) 0 := ⟨_, rfl⟩
        obtain ⟨b, hb⟩ : ∃ b, b = s.data.toList.getD (2 * k + 1) 0 := ⟨_, rfl⟩
        have hbad := unhexL_bad hlen HT.out
        have hgood := unhexL_good hlen HT.out
        rw [← ha, ← hb] at hbad hgood
        have hi1 : ∀ W, (Instr.index 9 (.string s) (.int .i64 (2 * (k : Int)))).run Try.prog W = .ok (.int .u8 (a.toNat : Int)) W := fun W => by
          have h := index_string s .i64 (2 * k) a (by rw [ha]; exact byte_at s _ (by omega)) W
          rw [show ((2 * k : Nat) : Int) = 2 * (k : Int) from by omega] at h
          exact h
        have hi2 : ∀ W, (Instr.index 9 (.string s) (.int .i64 (2 * (k : Int) + 1))).run Try.prog W = .ok (.int .u8 (b.toNat : Int)) W := fun W => by
          have h := index_string s .i64 (2 * k + 1) b (by rw [hb]; exact byte_at s _ (by omega)) W
          rw [show ((2 * k + 1 : Nat) : Int) = 2 * (k : Int) + 1 from by omega] at h
          exact h
        have e1 : IntKind.i64.wrap (2 * (k : Int) + 1) = 2 * (k : Int) + 1 := IntWalk.i64_in _ (by omega)
        have HB := Lib.hid hbad
        have HG := Lib.hid hgood
        have HSZ := Lib.hid hsz
        have hltI : 2 * (k : Int) < (s.size : Int) := by omega
        have hszb : s.size ≤ 281474976710656 := hs
        clear hbad hgood hsz ha hb
        rcases dv_cases a with hda | ⟨p, hp, hda⟩
        · have hfin : unhexV s.data.toList = .tuple #[.string (SL []), .int .i64 1] := unhexV_none (HB.out (.inl (by rw [hda]; decide)))
          have HF := Lib.hid hfin
          clear hfin
          go_wp2
          go_quiet ((go_at_call 25; exact Calls.quiet_of_same (index_digit _ _)))
          go_wp2
          go_ret2
          exact ⟨by rw [HF.out]; rfl, below_drewN hbel _⟩
        · rcases dv_cases b with hdb | ⟨q, hq, hdb⟩
          · have hfin : unhexV s.data.toList = .tuple #[.string (SL []), .int .i64 1] := unhexV_none (HB.out (.inr (by rw [hdb]; decide)))
            have HF := Lib.hid hfin
            clear hfin
            have hp0 : decide ((p : Int) < 0) = false := by simp
            go_wp2
            go_quiet ((go_at_call 25; exact Calls.quiet_of_same (index_digit _ _)))
            go_wp2
            go_ret2
            exact ⟨by rw [HF.out]; rfl, below_drewN hbel _⟩
          · have hp0 : decide ((p : Int) < 0) = false := by simp
            have hq0 : decide ((q : Int) < 0) = false := by simp
            have hor := or_pair p q hp hq
            have hgood2 := HG.out (by rw [hda]; omega) (by rw [hdb]; omega)
            rw [hda, hdb, Int.toNat_natCast, Int.toNat_natCast] at hgood2
            have HG2 := Lib.hid hgood2
            have hpq : 16 * p + q < 256 := by omega
            clear hgood2
            go_wp2
            go_quiet ((go_at_call 25; exact Calls.quiet_of_same (index_digit _ _)))
            go_wp2_with (at_builtin; refine wpList_append_fits _ rfl _ _ 22 rfl w.heap.size 5 i0 1 Try.underlying22 hi hz1 w.heap.size k m _ rfl (HO.out.alloc _) ⟨_, 0, none⟩ 1 1 _ rfl rfl (cells_new _ _ _) (by simp [Value.oneCell']) (by omega) ?_; intro w1 hown1 hgrow1; have HO1 := Lib.hid hown1; have HG1 := Lib.hid hgrow1; clear hown1 hgrow1)
            go_roundw
            case rel =>
              refine ⟨k + 1, t ++ [UInt8.ofNat (16 * p + q)], by omega, by congr 1, rfl, HG2.out, by rw [List.length_append, HK.out]; rfl, ?_, ?_⟩
              · have h := HO1.out
                have e : (.int .u8 (16 * (p : Int) + (q : Int)) : Value) = B8 (UInt8.ofNat (16 * p + q)) := by
                  unfold B8
                  rw [UInt8.toNat_ofNat_of_lt' hpq]
                  congr 1
                rw [e] at h
                rw [List.map_append]
                exact h
              · exact ((below_drewN hbel _).alloc hbel.size _).grown HG1.out (by have := hbel.size; simp; omega) (fun k hk => by cases hk; exact Nat.le_refl _)
            case measure => simp [intOf]; have := HSZ.out; omega
      · obtain rfl : k = m := by omega
        have ht := HT.out
        rw [List.take_of_length_le (show s.data.toList.length ≤ 2 * k by show s.size ≤ _; omega)] at ht
        have hv := unhexV_some ht
        have hcv := convert_own (w := wr) (base := w.heap.size) (v := .slice (some ⟨w.heap.size, 0, none⟩) k k) (bs := t) (by rw [HK.out]; exact HO.out)
        have HV := Lib.hid hv
        have hge : ¬ (2 * (k : Int) < (s.size : Int)) := by omega
        clear hv ht hsz
        go_wp2
        go_ret2
        exact ⟨by rw [HV.out]; rfl, hbel⟩
end Go.Proofs.Ytijgmhdhaekocaa
