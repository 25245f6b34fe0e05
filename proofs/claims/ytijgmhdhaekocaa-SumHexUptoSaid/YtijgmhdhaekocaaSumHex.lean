/- The walk of the document's answer for Unhex, and of SumHex. -/
import Derived.Test.YtijgmhdhaekocaaRefHex
import Derived.Test.YtijgmhdhaekocaaOpen
namespace Go.Proofs.Ytijgmhdhaekocaa
open Go.RowKit
set_option maxHeartbeats 800000 in
theorem refUnhex_any (s : ByteArray) (w : World) (hs : s.size ≤ 140737488355328) :
    Calls Try.prog 16 #[.string s] w fun e w' => e = .returned (unhexV s.data.toList) ∧ Below w.heap.size w w' := by
  have hsl : s.data.toList.length = s.size := rfl
  obtain ⟨i0, hi, hz0, hz1, hz2⟩ := info_parts info5
  go_enter Try.func16, Try.ntmps16
  go_wp2
  go_loopw [4, 5] (fun v i wr => ∃ (k : Nat) (t : List UInt8), 2 * k ≤ s.size ∧ i = .int .i64 (2 * (k : Int)) ∧ unhexL (s.data.toList.take (2 * k)) = some t ∧ t.length = k ∧ wr.ownsRow w.heap.size 5 1 v k (t.map B8) ∧ Below w.heap.size w wr) (fun _ i _ => s.size - (intOf i).toNat)
  case atStart => exact ⟨0, [], by omega, rfl, rfl, rfl, World.ownsRow_nil _ _ _ _, Below.refl _ _⟩
  case round =>
    obtain ⟨k, t, hk, rfl, ht, htk, hown, hbel⟩ := hrel
    have HO := Lib.hid hown
    have HT := Lib.hid ht
    have HK := Lib.hid htk
    have hszb : s.size ≤ 140737488355328 := hs
    have e1 : IntKind.i64.wrap (2 * (k : Int) + 1) = 2 * (k : Int) + 1 := IntWalk.i64_in _ (by omega)
    clear hown ht htk hsl
    by_cases hlt : 2 * k + 1 < s.size
    · have hlen : 2 * k + 1 < s.data.toList.length := hlt
      obtain ⟨a, ha⟩ : ∃ a, a = s.data.toList.getD (2 * k) 0 := ⟨_, rfl⟩
      obtain ⟨b, hb⟩ : ∃ b, b = s.data.toList.getD (2 * k + 1) 0 := ⟨_, rfl⟩
      have hbad := unhexL_bad hlen HT.out
      have hgood := unhexL_good hlen HT.out
      rw [← ha, ← hb] at hbad hgood
      have hi1 : ∀ W, (Instr.index 9 (.string s) (.int .i64 (2 * (k : Int)))).run Try.prog W = .ok (.int .u8 (a.toNat : Int)) W := fun W => by
        have h := index_string s .i64 (2 * k) a (by rw [ha]; exact byte_at s _ (by omega)) W
        rw [show ((2 * k : Nat) : Int) = 2 * (k : Int) from by omega] at h
        exact h
      have hi2 : ∀ W, (Instr.index 9 (.string s) (.int .i64 (2 * (k : Int) + 1))).run Try.prog W = .ok (.int .u8 (b.toNat : Int)) W := fun W => by
        have h := index_string s .i64 (2 * k + 1) b (by rw [hb]; exact byte_at s _ (by omega)) W
        rw [show ((2 * k + 1 : Nat) : Int) = 2 * (k : Int) + 1 from by omega] at h
        exact h
      have HB := Lib.hid hbad
      have HG := Lib.hid hgood
      have hltI : 2 * (k : Int) + 1 < (s.size : Int) := by omega
      clear hbad hgood ha hb
      rcases dv_cases a with hda | ⟨p, hp, hda⟩
      · have hfin : unhexV s.data.toList = .tuple #[.string (SL []), .int .i64 1] := unhexV_none (HB.out (.inl (by rw [hda]; decide)))
        have HF := Lib.hid hfin
        clear hfin
        go_wp2_with (go_at_call 26; refine (digit_any _ _).mono ?_; rintro e w2 ⟨rfl, rfl⟩)
        go_ret2
        exact ⟨by rw [HF.out]; rfl, hbel⟩
      · rcases dv_cases b with hdb | ⟨q, hq, hdb⟩
        · have hfin : unhexV s.data.toList = .tuple #[.string (SL []), .int .i64 1] := unhexV_none (HB.out (.inr (by rw [hdb]; decide)))
          have HF := Lib.hid hfin
          clear hfin
          have hp0 : decide ((p : Int) < 0) = false := by simp
          go_wp2_with (go_at_call 26; refine (digit_any _ _).mono ?_; rintro e w2 ⟨rfl, rfl⟩)
          go_ret2
          exact ⟨by rw [HF.out]; rfl, hbel⟩
        · have hp0 : decide ((p : Int) < 0) = false := by simp
          have hq0 : decide ((q : Int) < 0) = false := by simp
          have hgood2 := HG.out (by rw [hda]; omega) (by rw [hdb]; omega)
          rw [hda, hdb, Int.toNat_natCast, Int.toNat_natCast] at hgood2
          have HG2 := Lib.hid hgood2
          have hpq : 16 * p + q < 256 := by omega
          clear hgood2
          go_wp2_with (first
            | (go_at_call 26; refine (digit_any _ _).mono ?_; rintro e w2 ⟨rfl, rfl⟩)
            | (at_builtin; refine wpList_append_own _ rfl _ _ 22 rfl w.heap.size 5 i0 (.int .u8 0) 1 1 Try.underlying22 hi hz0 hz1 hz2 rfl (by decide) _ k _ rfl (HO.out.alloc _) ⟨_, 0, none⟩ 1 1 _ rfl rfl (cells_new _ _ _) (by simp [Value.oneCell']) (by unfold maxLen; omega) (by omega) (by have := hbel.size; simp; omega) ?_; intro v1 w1 hown1 hgrow1 _; have HO1 := Lib.hid hown1; have HG1 := Lib.hid hgrow1; clear hown1 hgrow1))
          go_roundw
          case rel =>
            refine ⟨k + 1, t ++ [UInt8.ofNat (16 * p + q)], by omega, by congr 1, HG2.out, by rw [List.length_append, HK.out]; rfl, ?_, ?_⟩
            · have h := HO1.out
              have e : (.int .u8 (16 * (p : Int) + (q : Int)) : Value) = B8 (UInt8.ofNat (16 * p + q)) := by
                unfold B8
                rw [UInt8.toNat_ofNat_of_lt' hpq]
                congr 1
              rw [e] at h
              rw [List.map_append]
              exact h
            · exact (hbel.alloc hbel.size _).grown HG1.out (by have := hbel.size; simp; omega) (fun k hk => (HO.out.lt k hk).1)
          case measure => simp [intOf]; omega
    · have hge : ¬ (2 * (k : Int) + 1 < (s.size : Int)) := by omega
      have hcv := convert_own (w := wr) (base := w.heap.size) (bs := t) (by rw [HK.out]; exact HO.out)
      by_cases hodd : s.size % 2 = 1
      · have hv := unhexV_none (unhexL_odd s.data.toList hodd)
        have ho2 : ((((s.size : Int)) % 2) != 0) = true := by rw [bne_iff_ne]; omega
        have HV := Lib.hid hv
        clear hv hodd
        go_wp2
        go_ret2
        exact ⟨by rw [HV.out]; rfl, hbel⟩
      · have ht := HT.out
        rw [List.take_of_length_le (show s.data.toList.length ≤ 2 * k by show s.size ≤ _; omega)] at ht
        have hv := unhexV_some ht
        have ho2 : ((((s.size : Int)) % 2) != 0) = false := by simp; omega
        have HV := Lib.hid hv
        clear hv ht hodd
        go_wp2
        go_ret2
        exact ⟨by rw [HV.out]; rfl, hbel⟩
theorem SL_data (s : ByteArray) : SL s.data.toList = s := by
  unfold SL
  rfl
/-- There is but one row of digits for given bytes. -/
theorem hex_unhex : ∀ (l t : List UInt8), unhexL l = some t → hexL t = l
  | [], t, h => by
    obtain rfl : [] = t := by simpa [unhexL] using h
    rfl
  | [_], _, h => by simp [unhexL] at h
  | a :: b :: r, t, h => by
    rw [unhexL] at h
    split at h
    · cases h
    · rename_i hd
      cases hr : unhexL r with
      | none => rw [hr] at h; cases h
      | some u =>
        rw [hr] at h
        obtain rfl : UInt8.ofNat (16 * (dv a).toNat + (dv b).toNat) :: u = t := by simpa using h
        rcases dv_cases a with ha | ⟨p, hp, ha⟩
        · omega
        · rcases dv_cases b with hb | ⟨q, hq, hb⟩
          · omega
          · have e1 := indexByte_at digitsL a p ha
            have e2 := indexByte_at digitsL b q hb
            have e3 : hexL (UInt8.ofNat (16 * (dv a).toNat + (dv b).toNat) :: u) = hexB (UInt8.ofNat (16 * (dv a).toNat + (dv b).toNat)) ++ hexL u := rfl
            rw [e3, hex_unhex r u hr, ha, hb, Int.toNat_natCast, Int.toNat_natCast, hexB, UInt8.toNat_ofNat_of_lt' (by show _ < 256; omega), show (16 * p + q) / 16 = p by omega, show (16 * p + q) % 16 = q by omega]
            show [digitsL.getD p 0, digitsL.getD q 0] ++ r = a :: b :: r
            rw [e1, e2]
            rfl
set_option maxHeartbeats 800000 in
theorem sumhex_law (d s : ByteArray) (w : World) (hd : d.size ≤ 35184372088832) (hs : s.size ≤ 35184372088832) :
    Calls Try.prog 5 #[.string d, .string s] w fun e w' => e = .returned (.bool true) ∧ Below w.heap.size w w' := by
  have hidSize : (SL (hexL d.data.toList)).size = 2 * d.size := by rw [SL_size, hexL_length]; rfl
  have v3 : unhexV (SL (hexL d.data.toList)).data.toList = .tuple #[.string d, .int .i64 0] := by
    have e : (SL (hexL d.data.toList)).data.toList = hexL d.data.toList := rfl
    rw [e, unhexV_some (unhex_hex _), SL_data]
  have u3 : ∀ W, Calls Try.prog 15 #[.string (SL (hexL d.data.toList))] W fun e w' => e = .returned (.tuple #[.string d, .int .i64 0]) ∧ Below W.heap.size W w' := fun W =>
    (unhex_any _ W (by rw [hidSize]; omega)).mono fun _ _ h => ⟨h.1.trans (congrArg Ending.returned v3), h.2⟩
  have U3 := Lib.hid u3
  clear u3 v3 hidSize
  go_enter Try.func5, Try.ntmps5
  go_wp2_with fail
  refine (awake_any _).mono ?_
  rintro e w1 ⟨rfl, b1⟩
  cases hu : unhexL s.data.toList with
  | none =>
    have vs := unhexV_none hu
    have p1 : ∀ W, Calls Try.prog 15 #[.string s] W fun e w' => e = .returned (.tuple #[.string (SL []), .int .i64 1]) ∧ Below W.heap.size W w' := fun W =>
      (unhex_any s W (by omega)).mono fun _ _ h => ⟨h.1.trans (congrArg Ending.returned vs), h.2⟩
    have p2 : ∀ W, Calls Try.prog 16 #[.string s] W fun e w' => e = .returned (.tuple #[.string (SL []), .int .i64 1]) ∧ Below W.heap.size W w' := fun W =>
      (refUnhex_any s W (by omega)).mono fun _ _ h => ⟨h.1.trans (congrArg Ending.returned vs), h.2⟩
    have P1 := Lib.hid p1
    have P2 := Lib.hid p2
    clear p1 p2 hu vs
    go_wp2_with fail
    refine (P1.out _).mono ?_
    rintro e w2 ⟨rfl, b2⟩
    go_wp2_with fail
    refine (P2.out _).mono ?_
    rintro e w3 ⟨rfl, b3⟩
    go_wp2_with fail
    refine (hex_any d _ (by omega)).mono ?_
    rintro e w4 ⟨rfl, b4⟩
    go_wp2_with fail
    refine (U3.out _).mono ?_
    rintro e w5 ⟨rfl, b5⟩
    go_wp2_with fail
    refine (hex_any d _ (by omega)).mono ?_
    rintro e w6 ⟨rfl, b6⟩
    go_wp2_with fail
    refine (refHex_any d _ (by omega)).mono ?_
    rintro e w7 ⟨rfl, b7⟩
    go_wp2_with fail
    go_ret
    have c2 := b1.trans (b2.mono b1.size)
    have c3 := c2.trans (b3.mono c2.size)
    have c4 := c3.trans (b4.mono c3.size)
    have c5 := c4.trans (b5.mono c4.size)
    have c6 := c5.trans (b6.mono c5.size)
    exact ⟨rfl, c6.trans (b7.mono c6.size)⟩
  | some t =>
    have vs := unhexV_some hu
    have hts := unhexL_length _ _ hu
    have ht2 : s.size = 2 * t.length := hts
    have hst : SL (hexL t) = s := by rw [hex_unhex _ _ hu, SL_data]
    have p1 : ∀ W, Calls Try.prog 15 #[.string s] W fun e w' => e = .returned (.tuple #[.string (SL t), .int .i64 0]) ∧ Below W.heap.size W w' := fun W =>
      (unhex_any s W (by omega)).mono fun _ _ h => ⟨h.1.trans (congrArg Ending.returned vs), h.2⟩
    have p2 : ∀ W, Calls Try.prog 16 #[.string s] W fun e w' => e = .returned (.tuple #[.string (SL t), .int .i64 0]) ∧ Below W.heap.size W w' := fun W =>
      (refUnhex_any s W (by omega)).mono fun _ _ h => ⟨h.1.trans (congrArg Ending.returned vs), h.2⟩
    have p3 : ∀ W, Calls Try.prog 17 #[.string (SL t)] W fun e w' => e = .returned (.string s) ∧ Below W.heap.size W w' := fun W =>
      (hex_any (SL t) W (by rw [SL_size]; omega)).mono fun _ _ h => ⟨h.1.trans (congrArg Ending.returned (congrArg Value.string hst)), h.2⟩
    have P1 := Lib.hid p1
    have P2 := Lib.hid p2
    have P3 := Lib.hid p3
    clear p1 p2 p3 hu vs hts ht2 hst
    go_wp2_with fail
    refine (P1.out _).mono ?_
    rintro e w2 ⟨rfl, b2⟩
    go_wp2_with fail
    refine (P2.out _).mono ?_
    rintro e w3 ⟨rfl, b3⟩
    go_wp2_with fail
    refine (hex_any d _ (by omega)).mono ?_
    rintro e w4 ⟨rfl, b4⟩
    go_wp2_with fail
    refine (U3.out _).mono ?_
    rintro e w5 ⟨rfl, b5⟩
    go_wp2_with fail
    refine (hex_any d _ (by omega)).mono ?_
    rintro e w6 ⟨rfl, b6⟩
    go_wp2_with fail
    refine (refHex_any d _ (by omega)).mono ?_
    rintro e w7 ⟨rfl, b7⟩
    go_wp2_with fail
    refine (P3.out _).mono ?_
    rintro e w8 ⟨rfl, b8⟩
    go_wp2_with fail
    go_ret
    have c2 := b1.trans (b2.mono b1.size)
    have c3 := c2.trans (b3.mono c2.size)
    have c4 := c3.trans (b4.mono c3.size)
    have c5 := c4.trans (b5.mono c4.size)
    have c6 := c5.trans (b6.mono c5.size)
    have c7 := c6.trans (b7.mono c6.size)
    exact ⟨rfl, c7.trans (b8.mono c7.size)⟩
end Go.Proofs.Ytijgmhdhaekocaa
