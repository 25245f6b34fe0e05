/- The walks of the document's answers for PutNum, PutText, PutInt. -/
import Derived.Test.YtplhcidfboaobaaPut
namespace Go.Proofs.Ytplhcidfboaobaa
open Go.RowKit
theorem clamp_max_min (n : Int) : ∃ q : Int, (if (0 : Int) > n then 0 else n) = q ∧ (if (4611686018427387903 : Int) < q then 4611686018427387903 else q) = (clampN n : Int) := by
  refine ⟨_, rfl, ?_⟩
  unfold clampN
  split <;> split <;> (try split) <;> (try split) <;> omega
theorem clamp_int2 (n : Int) : ∃ q : Int, (if (-2305843009213693952 : Int) > n then -2305843009213693952 else n) = q ∧ (if (2305843009213693951 : Int) < q then 2305843009213693951 else q) = clampI n := by
  refine ⟨_, rfl, ?_⟩
  unfold clampI
  split <;> split <;> (try split) <;> (try split) <;> omega
set_option maxRecDepth 100000 in
set_option maxHeartbeats 800000 in
theorem refPutNum_any (ao : Option Addr) (cap : Nat) (bs : List UInt8) (B off : Nat) (n : Int) (w : World) (h : SrcAt w ao cap bs B off) (hs : bs.length + 9 ≤ 140737488355328) :
    Calls Try.prog 13 #[.slice ao bs.length cap, .int .i64 n] w fun e w' => ∃ v, e = .returned v ∧ w'.ownsRow w.heap.size 5 1 v (bs ++ numL (clampN n)).length ((bs ++ numL (clampN n)).map B8) ∧ Below w.heap.size w w' := by
  obtain ⟨i0, hi, hz0, hz1, hz2⟩ := info_parts info5
  obtain ⟨q, hc1, hc2⟩ := clamp_max_min n
  have hcl := clampN_le n
  obtain ⟨m, hm⟩ : ∃ m : Nat, m = clampN n := ⟨_, rfl⟩
  rw [← hm] at hc2 hcl ⊢
  obtain ⟨L, hL⟩ : ∃ L : List UInt8, L = numL m := ⟨_, rfl⟩
  rw [← hL]
  obtain ⟨b, hb⟩ : ∃ b, b = bs.length := ⟨_, rfl⟩
  rw [← hb] at hs ⊢
  have HB := Lib.hid hb
  have HL := Lib.hid hL
  clear hm hL hb
  go_enter Try.func13, Try.ntmps13
  go_wp2_with (at_builtin; refine wpList_append_src rfl _ _ rfl w.heap.size (.slice none 0 0) 0 [] rfl (World.ownsRow_nil _ _ _ _) ao b cap rfl (bs.map B8) (by rw [List.length_map]; exact HB.out.symm) (fun hh => by rw [HB.out]; exact h.bare hh) h.cells (B8_one _) (by omega) (Nat.le_refl _) ?_; intro v1 w1 hown1 hg1 hv1; have O1 := Lib.hid (own_first hown1); have hbel := below_first hg1; clear hown1 hg1 hv1)
  clear hc1 hc2
  go_loopw [1, 5] (fun x v wr => ∃ (f k : Nat) (p : List UInt8), x = .int .i64 (k : Int) ∧ p.length + f = 8 ∧ k < 64 * 128 ^ f ∧ L = p ++ numF f k ∧ wr.ownsRow w.heap.size 5 1 v (b + p.length) ((bs ++ p).map B8) ∧ Below w.heap.size w wr) (fun x _ _ => (intOf x).toNat)
  case atStart => exact ⟨8, m, [], rfl, rfl, by omega, HL.out, by simpa using O1.out, hbel⟩
  case round =>
    clear O1 hbel hcl
    obtain ⟨f, k, p, rfl, hpf, hk, hLp, hown, hbel⟩ := hrel
    have HO := Lib.hid hown
    have HP := Lib.hid hLp
    have hkb : (k : Int) ≤ 4611686018427387903 := by
      have h1 : 128 ^ f ≤ 128 ^ 8 := Nat.pow_le_pow_right (by omega) (by omega)
      omega
    have HK := Lib.hid hk
    have hpl : p.length ≤ 8 := by omega
    have HF := Lib.hid hpf
    obtain ⟨u, hu⟩ : ∃ u, u = b + p.length := ⟨_, rfl⟩
    have hub : u + 1 ≤ 140737488355328 := by omega
    rw [← hu] at HO
    have HU := Lib.hid hu
    clear hown hLp hk hpf hu
    by_cases hlt : 128 ≤ k
    · obtain ⟨f', rfl, hmore, hless⟩ := numF_more hlt HK.out
      have hcell : (.int .u8 (128 + (k : Int) % 128) : Value) = B8 (UInt8.ofNat (k % 128 + 128)) := by
        unfold B8
        rw [UInt8.toNat_ofNat_of_lt' (by show _ < 256; omega)]
        congr 1
        omega
      have HC := Lib.hid hcell
      have HM := Lib.hid hmore
      have HS := Lib.hid hless
      clear hcell hmore hless
      go_wp2_with (at_builtin; refine wpList_append_own _ rfl _ _ 22 rfl w.heap.size 5 i0 (.int .u8 0) 1 1 Try.underlying22 hi hz0 hz1 hz2 rfl (by decide) _ u _ rfl (HO.out.alloc _) ⟨_, 0, none⟩ 1 1 _ rfl rfl (news_one _ _) (by simp [Value.oneCell']) (by unfold maxLen; omega) (by omega) (by have := hbel.size; simp; omega) ?_; intro v3 w3 hown3 hgrow3 _; have O3 := Lib.hid hown3; have G3 := Lib.hid hgrow3; clear hown3 hgrow3)
      go_roundw
      case rel =>
        refine ⟨f', k / 128, p ++ [UInt8.ofNat (k % 128 + 128)], by congr 1, ?_, HS.out, ?_, ?_, ?_⟩
        · have := HF.out
          simp; omega
        · rw [HP.out, HM.out, List.append_assoc]; rfl
        · have h := O3.out
          rw [HC.out, HU.out] at h
          simpa [Nat.add_assoc] using h
        · exact (hbel.alloc hbel.size _).grown G3.out (by have := hbel.size; simp; omega) (fun k hk => (HO.out.lt k hk).1)
      case measure => simp [intOf]; omega
    · have hlast := numF_last (Nat.lt_of_not_le hlt) HK.out
      have hcell : (.int .u8 (k : Int) : Value) = B8 (UInt8.ofNat k) := by
        unfold B8
        rw [UInt8.toNat_ofNat_of_lt' (by show _ < 256; omega)]
      have HC := Lib.hid hcell
      have HL1 := Lib.hid hlast
      clear hcell hlast
      go_wp2_with (at_builtin; refine wpList_append_own _ rfl _ _ 22 rfl w.heap.size 5 i0 (.int .u8 0) 1 1 Try.underlying22 hi hz0 hz1 hz2 rfl (by decide) _ u _ rfl (HO.out.alloc _) ⟨_, 0, none⟩ 1 1 _ rfl rfl (news_one _ _) (by simp [Value.oneCell']) (by unfold maxLen; omega) (by omega) (by have := hbel.size; simp; omega) ?_; intro v3 w3 hown3 hgrow3 _; have O3 := Lib.hid hown3; have G3 := Lib.hid hgrow3; clear hown3 hgrow3)
      go_ret
      refine ⟨_, rfl, ?_, ?_⟩
      · have h := O3.out
        rw [HC.out, HU.out, HB.out] at h
        rw [HP.out, HL1.out]
        simpa [Nat.add_assoc] using h
      · exact (hbel.alloc hbel.size _).grown G3.out (by have := hbel.size; simp; omega) (fun k hk => (HO.out.lt k hk).1)
set_option maxRecDepth 100000 in
set_option maxHeartbeats 800000 in
theorem refPutText_any (ao : Option Addr) (cap : Nat) (bs : List UInt8) (B off : Nat) (s : ByteArray) (w : World) (h : SrcAt w ao cap bs B off) (hs : bs.length + 9 + s.size ≤ 140737488355328) :
    Calls Try.prog 15 #[.slice ao bs.length cap, .string s] w fun e w' => ∃ v, e = .returned v ∧ w'.ownsRow w.heap.size 5 1 v (bs ++ (numL s.size ++ s.data.toList)).length ((bs ++ (numL s.size ++ s.data.toList)).map B8) ∧ Below w.heap.size w w' := by
  obtain ⟨i0, hi, hz0, hz1, hz2⟩ := info_parts info5
  have hl := numL_le s.size
  obtain ⟨L, hL⟩ : ∃ L, L = numL s.size := ⟨_, rfl⟩
  have hg : ∀ W : World, SrcAt W ao cap bs B off → Calls Try.prog 13 #[.slice ao bs.length cap, .int .i64 (s.size : Int)] W fun e w' => ∃ v, e = .returned v ∧ w'.ownsRow W.heap.size 5 1 v (bs ++ L).length ((bs ++ L).map B8) ∧ Below W.heap.size W w' := fun W hW => by
    have h1 := refPutNum_any ao cap bs B off (s.size : Int) W hW (by omega)
    rw [clampN_nat _ (by omega)] at h1
    rw [hL]; exact h1
  rw [← hL] at hl ⊢
  have HG := Lib.hid hg
  clear hL hg
  go_enter Try.func15, Try.ntmps15
  go_wp2_with fail
  refine (HG.out _ h).mono ?_
  rintro e w1 ⟨v1, rfl, o1, b1⟩
  obtain ⟨m, hm⟩ : ∃ m, m = (bs ++ L).length := ⟨_, rfl⟩
  have hmb : m + s.size ≤ 140737488355328 := by rw [hm, List.length_append]; omega
  rw [← hm] at o1
  have HM := Lib.hid hm
  have O1 := Lib.hid o1
  clear hm o1
  go_wp2_with (at_builtin; refine Lib.wpList_append_own_string _ rfl _ _ 22 9 rfl w.heap.size 5 i0 Try.underlying22 Try.underlying9 hi hz0 hz1 hz2 _ m _ rfl O1.out s rfl (by unfold maxLen; omega) hmb b1.size ?_; intro v3 w3 hown3 hgrow3 _; have O3 := Lib.hid hown3; have G3 := Lib.hid hgrow3; clear hown3 hgrow3)
  go_ret
  refine ⟨_, rfl, ?_, b1.grown G3.out b1.size (fun k hk => (O1.out.lt k hk).1)⟩
  have h1 := O3.out
  rw [strCells_B8, ← List.map_append, HM.out, List.append_assoc] at h1
  have e : (bs ++ L).length + s.size = (bs ++ (L ++ s.data.toList)).length := by
    have : s.data.toList.length = s.size := rfl
    simp only [List.length_append, this]
    omega
  rw [e] at h1
  exact h1
set_option maxRecDepth 100000 in
set_option maxHeartbeats 800000 in
theorem refPutInt_any (ao : Option Addr) (cap : Nat) (bs : List UInt8) (B off : Nat) (n : Int) (w : World) (h : SrcAt w ao cap bs B off) (hs : bs.length + 9 ≤ 140737488355328) :
    Calls Try.prog 17 #[.slice ao bs.length cap, .int .i64 n] w fun e w' => ∃ v, e = .returned v ∧ w'.ownsRow w.heap.size 5 1 v (bs ++ intL n).length ((bs ++ intL n).map B8) ∧ Below w.heap.size w w' := by
  obtain ⟨q, c1, c2⟩ := clamp_int2 n
  have hin := clampI_in n
  unfold intL
  obtain ⟨m, hm⟩ : ∃ m, m = clampI n := ⟨_, rfl⟩
  rw [← hm] at c2 hin ⊢
  clear hm
  obtain ⟨hlo, hhi⟩ := hin
  go_enter Try.func17, Try.ntmps17
  go_wp2_with fail
  · have hneg : 0 ≤ m := by assumption
    refine (refPutNum_any ao cap bs B off _ w h hs).mono ?_
    rintro e w1 ⟨v1, rfl, o1, b1⟩
    rw [clampN_zig_pos m hneg hhi] at o1
    clear c1 c2
    go_wp2_with fail
    go_ret
    exact ⟨_, rfl, o1, b1⟩
  · have hneg : m < 0 := by assumption
    refine (refPutNum_any ao cap bs B off _ w h hs).mono ?_
    rintro e w1 ⟨v1, rfl, o1, b1⟩
    rw [clampN_zig_neg m hneg hlo] at o1
    clear c1 c2
    go_wp2_with fail
    go_ret
    exact ⟨_, rfl, o1, b1⟩
end Go.Proofs.Ytplhcidfboaobaa
