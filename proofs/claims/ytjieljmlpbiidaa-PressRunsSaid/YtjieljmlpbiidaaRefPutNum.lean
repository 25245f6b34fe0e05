/- The walk of the document's answer for PutNum. -/
import Derived.Test.YtjieljmlpbiidaaMem
import Derived.Test.YtjieljmlpbiidaaCodeNum
namespace Go.Proofs.Ytjieljmlpbiidaa
open Go.RowKit
set_option maxRecDepth 100000 in
set_option maxHeartbeats 800000 in
theorem refPutNum_any (ao : Option Addr) (cap : Nat) (bs : List UInt8) (B off : Nat) (n : Int) (w : World) (h : SrcAt w ao cap bs B off) (hs : bs.length + 9 ≤ 225000000000000) :
    Calls Try.prog 16 #[.slice ao bs.length cap, .int .i64 n] w fun e w' => ∃ v, e = .returned v ∧ w'.ownsRow w.heap.size 5 1 v (bs ++ numL (clampN n)).length ((bs ++ numL (clampN n)).map B8) ∧ Below w.heap.size w w' := by
  obtain ⟨i0, hi, hz0, hz1, hz2⟩ := info_parts info5
  obtain ⟨q, hc1, hc2⟩ := clamp_max_min n
  have hcl := clampN_le n
  obtain ⟨m, hm⟩ : ∃ m : Nat, m = clampN n := ⟨_, rfl⟩
  rw [← hm] at hc2 hcl ⊢
  obtain ⟨L, hL⟩ : ∃ L : List UInt8, L = numL m := ⟨_, rfl⟩
  rw [← hL]
  obtain ⟨b, hb⟩ : ∃ b, b = bs.length := ⟨_, rfl⟩
  rw [← hb] at hs ⊢
  have HB := Lib.hid hb
  have HL := Lib.hid hL
  clear hm hL hb
  go_enter Try.func16, Try.ntmps16
  go_wp2_with (at_builtin; refine wpList_append_src rfl _ _ rfl w.heap.size (.slice none 0 0) 0 [] rfl (World.ownsRow_nil _ _ _ _) ao b cap rfl (bs.map B8) (by rw [List.length_map]; exact HB.out.symm) (fun hh => by rw [HB.out]; exact h.bare hh) h.cells (B8_one _) (by omega) (Nat.le_refl _) ?_; intro v1 w1 hown1 hg1 hv1; have O1 := Lib.hid (own_first hown1); have hbel := below_first hg1; clear hown1 hg1 hv1)
  clear hc1 hc2
  go_loopw [1, 5] (fun x v wr => ∃ (f k : Nat) (p : List UInt8), x = .int .i64 (k : Int) ∧ p.length + f = 8 ∧ k < 64 * 128 ^ f ∧ L = p ++ numF f k ∧ wr.ownsRow w.heap.size 5 1 v (b + p.length) ((bs ++ p).map B8) ∧ Below w.heap.size w wr) (fun x _ _ => (intOf x).toNat)
  case atStart => exact ⟨8, m, [], rfl, rfl, by omega, HL.out, by simpa using O1.out, hbel⟩
  case round =>
    clear O1 hbel hcl
    obtain ⟨f, k, p, rfl, hpf, hk, hLp, hown, hbel⟩ := hrel
    have HO := Lib.hid hown
    have HP := Lib.hid hLp
    have hkb : (k : Int) ≤ 4611686018427387903 := by
      have h1 : 128 ^ f ≤ 128 ^ 8 := Nat.pow_le_pow_right (by omega) (by omega)
      omega
    have HK := Lib.hid hk
    have hpl : p.length ≤ 8 := by omega
    have HF := Lib.hid hpf
    obtain ⟨u, hu⟩ : ∃ u, u = b + p.length := ⟨_, rfl⟩
    have hub : u + 1 ≤ 225000000000000 := by omega
    rw [← hu] at HO
    have HU := Lib.hid hu
    clear hown hLp hk hpf hu
    by_cases hlt : 128 ≤ k
    · obtain ⟨f', rfl, hmore, hless⟩ := numF_more hlt HK.out
      have hcell : (.int .u8 (128 + (k : Int) % 128) : Value) = B8 (UInt8.ofNat (k % 128 + 128)) := by
        unfold B8
        rw [UInt8.toNat_ofNat_of_lt' (by show _ < 256; omega)]
        congr 1
        omega
      have HC := Lib.hid hcell
      have HM := Lib.hid hmore
      have HS := Lib.hid hless
      clear hcell hmore hless
      go_wp2_with (at_builtin; refine wpList_append_own_wide _ rfl _ _ 22 rfl w.heap.size 5 i0 (.int .u8 0) 1 1 Try.underlying22 hi hz0 hz1 hz2 rfl (by decide) _ u _ rfl (HO.out.alloc _) ⟨_, 0, none⟩ 1 1 _ rfl rfl (news_one _ _) (by simp [Value.oneCell']) (by unfold maxLen; omega) (by omega) (by have := hbel.size; simp; omega) ?_; intro v3 w3 hown3 hgrow3 _; have O3 := Lib.hid hown3; have G3 := Lib.hid hgrow3; clear hown3 hgrow3)
      go_roundw
      case rel =>
        refine ⟨f', k / 128, p ++ [UInt8.ofNat (k % 128 + 128)], by congr 1, ?_, HS.out, ?_, ?_, ?_⟩
        · have := HF.out
          simp; omega
        · rw [HP.out, HM.out, List.append_assoc]; rfl
        · have h := O3.out
          rw [HC.out, HU.out] at h
          simpa [Nat.add_assoc] using h
        · exact (hbel.alloc hbel.size _).grown G3.out (by have := hbel.size; simp; omega) (fun k hk => (HO.out.lt k hk).1)
      case measure => simp [intOf]; omega
    · have hlast := numF_last (Nat.lt_of_not_le hlt) HK.out
      have hcell : (.int .u8 (k : Int) : Value) = B8 (UInt8.ofNat k) := by
        unfold B8
        rw [UInt8.toNat_ofNat_of_lt' (by show _ < 256; omega)]
      have HC := Lib.hid hcell
      have HL1 := Lib.hid hlast
      clear hcell hlast
      go_wp2_with (at_builtin; refine wpList_append_own_wide _ rfl _ _ 22 rfl w.heap.size 5 i0 (.int .u8 0) 1 1 Try.underlying22 hi hz0 hz1 hz2 rfl (by decide) _ u _ rfl (HO.out.alloc _) ⟨_, 0, none⟩ 1 1 _ rfl rfl (news_one _ _) (by simp [Value.oneCell']) (by unfold maxLen; omega) (by omega) (by have := hbel.size; simp; omega) ?_; intro v3 w3 hown3 hgrow3 _; have O3 := Lib.hid hown3; have G3 := Lib.hid hgrow3; clear hown3 hgrow3)
      go_ret
      refine ⟨_, rfl, ?_, ?_⟩
      · have h := O3.out
        rw [HC.out, HU.out, HB.out] at h
        rw [HP.out, HL1.out]
        simpa [Nat.add_assoc] using h
      · exact (hbel.alloc hbel.size _).grown G3.out (by have := hbel.size; simp; omega) (fun k hk => (HO.out.lt k hk).1)
end Go.Proofs.Ytjieljmlpbiidaa
