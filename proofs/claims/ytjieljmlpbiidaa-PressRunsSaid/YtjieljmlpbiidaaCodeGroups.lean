/- The walk of groups (package code). -/
import Derived.Test.YtjieljmlpbiidaaMem
import Derived.Test.YtjieljmlpbiidaaCodeNum
namespace Go.Proofs.Ytjieljmlpbiidaa
open Go.RowKit
set_option maxRecDepth 100000 in
set_option maxHeartbeats 800000 in
theorem groups_any (n : Int) (w : World) :
    Calls Try.prog 41 #[.int .i64 n] w fun e w' => ∃ v, e = .returned v ∧ w'.ownsRow w.heap.size 5 1 v (numL (clampN n)).length ((numL (clampN n)).map B8) ∧ Below w.heap.size w w' := by
  obtain ⟨i0, hi, hz0, hz1, hz2⟩ := info_parts info5
  have hmk : ∀ u : World, (Instr.makeSlice 22 (.int .i64 0) (.int .i64 9)).run Try.prog u =
      .ok (.slice (some ⟨u.heap.size, 0, none⟩) 0 9) (u.alloc (.cells (cells8 (List.replicate 9 0)) 5)) := fun u => by
    have h := run_make (P := Try.prog) u 22 5 i0 (.int .u8 0) Try.underlying22 hi hz0 .i64 .i64 0 9 (by omega) (by omega) (by rw [hz2]; omega) (by omega)
    simpa [hz1, Value.cells, zeros_made] using h
  obtain ⟨q, hc1, hc2⟩ := clamp_min_max n
  have hcl := clampN_le n
  obtain ⟨m, hm⟩ : ∃ m : Nat, m = clampN n := ⟨_, rfl⟩
  rw [← hm] at hc2 hcl ⊢
  obtain ⟨L, hL⟩ : ∃ L : List UInt8, L = numL m := ⟨_, rfl⟩
  rw [← hL]
  have HL := Lib.hid hL
  clear hm hL
  go_enter Try.func41, Try.ntmps41
  go_wp2
  clear hc1 hc2 hmk
  obtain ⟨wx, hwx⟩ : ∃ wx, wx = w.alloc (.cells (cells8 (List.replicate 9 0)) 5) := ⟨_, rfl⟩
  have hown : wx.ownsRow w.heap.size 5 1 (.slice (some ⟨w.heap.size, 0, none⟩) 0 9) 0 [] := by
    rw [hwx]
    exact owns_of_row (heap_alloc_new _ _) (by omega) (by omega) (by unfold maxLen; omega) (by simp [cells8_size]) rfl rfl
  have hbel : Below w.heap.size w wx := by rw [hwx]; exact (Below.refl _ _).alloc (Nat.le_refl _) _
  have hwx' : w.alloc (.cells (cells8 [0, 0, 0, 0, 0, 0, 0, 0, 0]) 5) = wx := hwx.symm
  rw [hwx']
  clear hwx hwx'
  have HO := Lib.hid hown
  clear hown
  go_loopw [0, 3] (fun x v wr => ∃ (f k : Nat) (p : List UInt8), x = .int .i64 (k : Int) ∧ p.length + f = 8 ∧ k < 64 * 128 ^ f ∧ L = p ++ numF f k ∧ v = .slice (some ⟨w.heap.size, 0, none⟩) p.length 9 ∧ wr.ownsRow w.heap.size 5 1 (.slice (some ⟨w.heap.size, 0, none⟩) p.length 9) p.length (p.map B8) ∧ Below w.heap.size w wr) (fun x _ _ => (intOf x).toNat)
  case atStart => exact ⟨8, m, [], rfl, rfl, by omega, HL.out, rfl, HO.out, hbel⟩
  case round =>
    clear HO hbel hcl
    obtain ⟨f, k, p, rfl, hpf, hk, hLp, rfl, hown, hbel⟩ := hrel
    have HO := Lib.hid hown
    have HP := Lib.hid hLp
    have hkb : (k : Int) ≤ 4611686018427387903 := by
      have h1 : 128 ^ f ≤ 128 ^ 8 := Nat.pow_le_pow_right (by omega) (by omega)
      omega
    have HK := Lib.hid hk
    have hpl : p.length ≤ 8 := by omega
    have HF := Lib.hid hpf
    clear hown hLp hk hpf
    by_cases hlt : 128 ≤ k
    · go_wp2_with (at_builtin; refine wpList_append_fits _ rfl _ _ 22 rfl w.heap.size 5 i0 1 Try.underlying22 hi hz1 w.heap.size p.length 9 _ rfl (HO.out.alloc _) ⟨_, 0, none⟩ 1 1 _ rfl rfl (news_one _ _) (by simp [Value.oneCell']) (by omega) ?_; intro w1 hown1 hgrow1; have HO1 := Lib.hid hown1; have HG1 := Lib.hid hgrow1; clear hown1 hgrow1)
      obtain ⟨f', rfl, hmore, hless⟩ := numF_more hlt HK.out
      have hcell : (.int .u8 ((k : Int) % 128 + 128) : Value) = B8 (UInt8.ofNat (k % 128 + 128)) := by
        unfold B8
        rw [UInt8.toNat_ofNat_of_lt' (by show _ < 256; omega)]
        congr 1
      have HC := Lib.hid hcell
      have HM := Lib.hid hmore
      have HS := Lib.hid hless
      clear hcell hmore hless
      go_roundw
      case rel =>
        refine ⟨f', k / 128, p ++ [UInt8.ofNat (k % 128 + 128)], by congr 1, ?_, HS.out, ?_, by simp, ?_, ?_⟩
        · have := HF.out
          simp; omega
        · rw [HP.out, HM.out, List.append_assoc]; rfl
        · have h := HO1.out
          rw [HC.out] at h
          simpa using h
        · exact (hbel.alloc hbel.size _).grown HG1.out (by have := hbel.size; simp; omega) (fun k hk => by cases hk; exact Nat.le_refl _)
      case measure => simp [intOf]; omega
    · have hlast := numF_last (Nat.lt_of_not_le hlt) HK.out
      have hcell : (.int .u8 (k : Int) : Value) = B8 (UInt8.ofNat k) := by
        unfold B8
        rw [UInt8.toNat_ofNat_of_lt' (by show _ < 256; omega)]
      have HC := Lib.hid hcell
      have HL1 := Lib.hid hlast
      clear hcell hlast
      go_wp2_with (at_builtin; refine wpList_append_fits _ rfl _ _ 22 rfl w.heap.size 5 i0 1 Try.underlying22 hi hz1 w.heap.size p.length 9 _ rfl (HO.out.alloc _) ⟨_, 0, none⟩ 1 1 _ rfl rfl (news_one _ _) (by simp [Value.oneCell']) (by omega) ?_; intro w1 hown1 hgrow1; have HO1 := Lib.hid hown1; have HG1 := Lib.hid hgrow1; clear hown1 hgrow1)
      go_ret
      refine ⟨_, rfl, ?_, ?_⟩
      · have h := HO1.out
        rw [HC.out] at h
        rw [HP.out, HL1.out]
        simpa using h
      · exact (hbel.alloc hbel.size _).grown HG1.out (by have := hbel.size; simp; omega) (fun k hk => by cases hk; exact Nat.le_refl _)
end Go.Proofs.Ytjieljmlpbiidaa
