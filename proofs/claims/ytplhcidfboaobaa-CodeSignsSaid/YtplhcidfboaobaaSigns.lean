/- The walk of CodeSigns. -/
import Derived.Test.YtplhcidfboaobaaAwake
namespace Go.Proofs.Ytplhcidfboaobaa
open Go.RowKit
def clampS (n : Int) : Int := if n < -1152921504606846976 then -1152921504606846976 else if 1152921504606846976 < n then 1152921504606846976 else n
theorem clampS_in (n : Int) : -1152921504606846976 ≤ clampS n ∧ clampS n ≤ 1152921504606846976 := by unfold clampS; split <;> (try split) <;> omega
theorem clamp_small (n : Int) : ∃ q : Int, (if (-1152921504606846976 : Int) > n then -1152921504606846976 else n) = q ∧ (if (1152921504606846976 : Int) < q then 1152921504606846976 else q) = clampS n := by
  refine ⟨_, rfl, ?_⟩
  unfold clampS
  split <;> split <;> (try split) <;> (try split) <;> omega
theorem below_bytesWorld (w : World) (s : ByteArray) : Below w.heap.size w (Lib.bytesWorld w 5 s) :=
  ⟨rfl, rfl, rfl, by rw [Lib.bytesWorld_size]; omega, fun k hk => Lib.bytesWorld_at_old w 5 s k hk⟩
theorem src_bytesWorld (w : World) (s : ByteArray) (hs : s.size ≤ maxLen) : SrcAt (Lib.bytesWorld w 5 s) (some ⟨w.heap.size, 0, none⟩) (grownCap w s.size 0 5) s.data.toList w.heap.size 0 :=
  ⟨grownCap_ge w s.size 0 5, grownCap_le_maxLen w s.size 0 5 hs, fun _ => rfl, fun h => by (cases h), fun _ => by rw [Lib.bytesWorld_size]; omega, fun j hj => by rw [Nat.zero_add]; exact Lib.bytesWorld_cell w 5 s j hj⟩
theorem intL_of (a : Int) (h : -1152921504606846976 ≤ a ∧ a ≤ 1152921504606846976) : intL a = numL (zig a) := by
  unfold intL; rw [clampI_in_self a (by omega)]
theorem int_same (a b : Int) (ha : -1152921504606846976 ≤ a ∧ a ≤ 1152921504606846976) (hb : -1152921504606846976 ≤ b ∧ b ≤ 1152921504606846976) : ((SL (intL a)).toList == (SL (intL b)).toList) = (a == b) := by
  have e : ∀ l : List UInt8, (SL l).toList = l := fun l => ByteArray.toList_eq _
  rw [Bool.eq_iff_iff, beq_iff_eq, beq_iff_eq, e, e, intL_of a ha, intL_of b hb]
  constructor
  · intro h
    have h1 := (numL_inj (r := []) (s := []) (zig_le a (by omega)) (zig_le b (by omega)) (by rw [h])).1
    have h2 := congrArg unzig h1
    rwa [unzig_zig, unzig_zig] at h2
  · intro h; rw [h]
theorem putInt_nil (a : Int) (X : ByteArray) (hX : X = SL (intL a)) (w : World) : Calls Try.prog 16 #[.slice none 0 0, .int .i64 a] w fun e w' => Says w e w' X := by
  refine (putInt_any none 0 [] 0 0 a w (src_nil w) (by decide)).mono fun e w' h => ?_
  have h1 := says_of h
  rw [List.nil_append, ← hX] at h1
  exact h1
set_option maxRecDepth 100000 in
set_option maxHeartbeats 800000 in
theorem signs_law (n m : Int) (w : World) : Calls Try.prog 9 #[.int .i64 n, .int .i64 m] w fun e w' => e = .returned (.bool true) ∧ Below w.heap.size w w' := by
  obtain ⟨q1, c1, c2⟩ := clamp_small n
  obtain ⟨q2, d1, d2⟩ := clamp_small m
  obtain ⟨ha1, ha2⟩ := clampS_in n
  obtain ⟨hb1, hb2⟩ := clampS_in m
  obtain ⟨a, ha⟩ : ∃ a, a = clampS n := ⟨_, rfl⟩
  obtain ⟨b, hb⟩ : ∃ b, b = clampS m := ⟨_, rfl⟩
  rw [← ha] at c2 ha1 ha2
  rw [← hb] at d2 hb1 hb2
  clear ha hb
  obtain ⟨X, hX⟩ : ∃ X, X = SL (intL a) := ⟨_, rfl⟩
  obtain ⟨Y, hY⟩ : ∃ Y, Y = SL (intL b) := ⟨_, rfl⟩
  obtain ⟨Z, hZ⟩ : ∃ Z, Z = SL (intL (-a)) := ⟨_, rfl⟩
  have hxy : (X.toList == Y.toList) = (a == b) := by rw [hX, hY]; exact int_same a b ⟨ha1, ha2⟩ ⟨hb1, hb2⟩
  have hxz : (X.toList == Z.toList) = (a == 0) := by
    rw [hX, hZ, int_same a (-a) ⟨ha1, ha2⟩ ⟨by omega, by omega⟩, Bool.eq_iff_iff, beq_iff_eq, beq_iff_eq]
    omega
  have px := putInt_nil a X hX
  have py := putInt_nil b Y hY
  have pz := putInt_nil (-a) Z hZ
  have hXs : X.size ≤ 9 := by rw [hX, SL_size]; exact intL_le a
  have hXl : X.data.toList = numL (zig a) ++ [] := by rw [hX, List.append_nil, ← intL_of a ⟨ha1, ha2⟩]; rfl
  have tk : ∀ W : World, Calls Try.prog 22 #[.slice (some ⟨W.heap.size, 0, none⟩) X.size (grownCap W X.size 0 5)] (Lib.bytesWorld W 5 X) fun e w' => ∃ ao' cap' B', e = .returned (.tuple #[.int .i64 a, .slice ao' 0 cap', .int .i64 0]) ∧ SrcAt w' ao' cap' [] B' 0 ∧ Below W.heap.size W w' := fun W => by
    have h1 := takeInt_yes _ _ X.data.toList _ _ _ (src_bytesWorld W X (by unfold maxLen; omega)) (by show X.size ≤ _; omega) (zig a) [] (zig_le a (by omega)) hXl
    rw [unzig_zig] at h1
    refine h1.mono fun e w' ⟨ao', cap', B', he, hs, hb⟩ => ⟨ao', cap', B', he, hs, ?_⟩
    exact (below_bytesWorld W X).trans (hb.mono (below_bytesWorld W X).size)
  have hcv := fun W => Lib.run_convert_string_bytes (P := Try.prog) W 9 22 5 X Try.underlying9 Try.underlying22 Try.underlying5
  have PX := Lib.hid px
  have PY := Lib.hid py
  have PZ := Lib.hid pz
  have TK := Lib.hid tk
  have HXY := Lib.hid hxy
  have HXZ := Lib.hid hxz
  have HCV := Lib.hid hcv
  clear hX hY hZ px py pz tk hxy hxz hXl hXs hcv
  go_enter Try.func9, Try.ntmps9
  go_wp2_with fail
  refine (awake_any _).mono ?_
  rintro e w1 ⟨rfl, b1⟩
  go_wp2_with fail
  clear c1 c2 d1 d2
  refine (PX.out _).mono ?_
  rintro e w2 ⟨ao2, n2, cap2, rfl, cv2, b2⟩
  have e2 := b1.trans (b2.mono b1.size)
  have k2 := cv2 w2 (Below.refl _ _)
  clear cv2 b2 b1
  go_wp2_with fail
  refine (PY.out _).mono ?_
  rintro e w3 ⟨ao3, n3, cap3, rfl, cv3, b3⟩
  have e3 := e2.trans (b3.mono e2.size)
  have k3 := cv3 w3 (Below.refl _ _)
  clear cv3 b3 e2 k2
  go_wp2_with fail
  refine (PZ.out _).mono ?_
  rintro e w4 ⟨ao4, n4, cap4, rfl, cv4, b4⟩
  have e4 := e3.trans (b4.mono e3.size)
  have k4 := cv4 w4 (Below.refl _ _)
  have k5 := HCV.out w4
  clear cv4 b4 e3 k3
  go_wp2_with fail
  refine (TK.out _).mono ?_
  rintro e w5 ⟨ao5, cap5, B5, rfl, s5, b5⟩
  have e5 := e4.trans (b5.mono e4.size)
  have hxy := HXY.out
  have hxz := HXZ.out
  clear k4 k5 e4 b5
  go_wp2_with fail
  go_ret
  exact ⟨rfl, e5⟩
end Go.Proofs.Ytplhcidfboaobaa
