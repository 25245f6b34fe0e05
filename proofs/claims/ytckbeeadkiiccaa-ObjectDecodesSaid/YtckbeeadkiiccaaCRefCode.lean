/- The walk of the document's answer for PutNum. The walk of the document's answer for PutText. The walk of the document's answer for TakeNum. The walk of the document's answer for TakeText. -/
import Derived.Test.YtckbeeadkiiccaaCBase
namespace Go.Proofs.Ytckbeeadkiiccaa
open Go.RowKit
set_option maxRecDepth 100000 in
set_option maxHeartbeats 800000 in
theorem refPutNum_any (ao : Option Addr) (cap : Nat) (bs : List UInt8) (B off : Nat) (n : Int) (w : World) (h : SrcAt w ao cap bs B off) (hs : bs.length + 9 ≤ 225000000000000) :
    Calls Try.prog 31 #[.slice ao bs.length cap, .int .i64 n] w fun e w' => ∃ v, e = .returned v ∧ w'.ownsRow w.heap.size 5 1 v (bs ++ numL (clampN n)).length ((bs ++ numL (clampN n)).map B8) ∧ Below w.heap.size w w' := by
  obtain ⟨i0, hi, hz0, hz1, hz2⟩ := info_parts info5
  obtain ⟨q, hc1, hc2⟩ := clamp_max_min n
  have hcl := clampN_le n
  obtain ⟨m, hm⟩ : ∃ m : Nat, m = clampN n := ⟨_, rfl⟩
  rw [← hm] at hc2 hcl ⊢
  obtain ⟨L, hL⟩ : ∃ L : List UInt8, L = numL m := ⟨_, rfl⟩
  rw [← hL]
  obtain ⟨b, hb⟩ : ∃ b, b = bs.length := ⟨_, rfl⟩
  rw [← hb] at hs ⊢
  have HB := Lib.hid hb
  have HL := Lib.hid hL
  clear hm hL hb
  go_enter Try.func31, Try.ntmps31
  go_wp2_with (at_builtin; refine wpList_append_src rfl _ _ rfl w.heap.size (.slice none 0 0) 0 [] rfl (World.ownsRow_nil _ _ _ _) ao b cap rfl (bs.map B8) (by rw [List.length_map]; exact HB.out.symm) (fun hh => by rw [HB.out]; exact h.bare hh) h.cells (B8_one _) (by omega) (Nat.le_refl _) ?_; intro v1 w1 hown1 hg1 hv1; have O1 := Lib.hid (own_first hown1); have hbel := below_first hg1; clear hown1 hg1 hv1)
  clear hc1 hc2
  go_loopw [1, 5] (fun x v wr => ∃ (f k : Nat) (p : List UInt8), x = .int .i64 (k : Int) ∧ p.length + f = 8 ∧ k < 64 * 128 ^ f ∧ L = p ++ numF f k ∧ wr.ownsRow w.heap.size 5 1 v (b + p.length) ((bs ++ p).map B8) ∧ Below w.heap.size w wr) (fun x _ _ => (intOf x).toNat)
  case atStart => exact ⟨8, m, [], rfl, rfl, by omega, HL.out, by simpa using O1.out, hbel⟩
  case round =>
    clear O1 hbel hcl
    obtain ⟨f, k, p, rfl, hpf, hk, hLp, hown, hbel⟩ := hrel
    have HO := Lib.hid hown
    have HP := Lib.hid hLp
    have hkb : (k : Int) ≤ 4611686018427387903 := by
      have h1 : 128 ^ f ≤ 128 ^ 8 := Nat.pow_le_pow_right (by omega) (by omega)
      omega
    have HK := Lib.hid hk
    have hpl : p.length ≤ 8 := by omega
    have HF := Lib.hid hpf
    obtain ⟨u, hu⟩ : ∃ u, u = b + p.length := ⟨_, rfl⟩
    have hub : u + 1 ≤ 225000000000000 := by omega
    rw [← hu] at HO
    have HU := Lib.hid hu
    clear hown hLp hk hpf hu
    by_cases hlt : 128 ≤ k
    · obtain ⟨f', rfl, hmore, hless⟩ := numF_more hlt HK.out
      have hcell : (.int .u8 (128 + (k : Int) % 128) : Value) = B8 (UInt8.ofNat (k % 128 + 128)) := by
        unfold B8
        rw [UInt8.toNat_ofNat_of_lt' (by show _ < 256; omega)]
        congr 1
        omega
      have HC := Lib.hid hcell
      have HM := Lib.hid hmore
      have HS := Lib.hid hless
      clear hcell hmore hless
      go_wp2_with (at_builtin; refine wpList_append_own_wide _ rfl _ _ 22 rfl w.heap.size 5 i0 (.int .u8 0) 1 1 Try.underlying22 hi hz0 hz1 hz2 rfl (by decide) _ u _ rfl (HO.out.alloc _) ⟨_, 0, none⟩ 1 1 _ rfl rfl (news_one _ _) (by simp [Value.oneCell']) (by unfold maxLen; omega) (by omega) (by have := hbel.size; simp; omega) ?_; intro v3 w3 hown3 hgrow3 _; have O3 := Lib.hid hown3; have G3 := Lib.hid hgrow3; clear hown3 hgrow3)
      go_roundw
      case rel =>
        refine ⟨f', k / 128, p ++ [UInt8.ofNat (k % 128 + 128)], by congr 1, ?_, HS.out, ?_, ?_, ?_⟩
        · have := HF.out
          simp; omega
        · rw [HP.out, HM.out, List.append_assoc]; rfl
        · have h := O3.out
          rw [HC.out, HU.out] at h
          simpa [Nat.add_assoc] using h
        · exact (hbel.alloc hbel.size _).grown G3.out (by have := hbel.size; simp; omega) (fun k hk => (HO.out.lt k hk).1)
      case measure => simp [intOf]; omega
    · have hlast := numF_last (Nat.lt_of_not_le hlt) HK.out
      have hcell : (.int .u8 (k : Int) : Value) = B8 (UInt8.ofNat k) := by
        unfold B8
        rw [UInt8.toNat_ofNat_of_lt' (by show _ < 256; omega)]
      have HC := Lib.hid hcell
      have HL1 := Lib.hid hlast
      clear hcell hlast
      go_wp2_with (at_builtin; refine wpList_append_own_wide _ rfl _ _ 22 rfl w.heap.size 5 i0 (.int .u8 0) 1 1 Try.underlying22 hi hz0 hz1 hz2 rfl (by decide) _ u _ rfl (HO.out.alloc _) ⟨_, 0, none⟩ 1 1 _ rfl rfl (news_one _ _) (by simp [Value.oneCell']) (by unfold maxLen; omega) (by omega) (by have := hbel.size; simp; omega) ?_; intro v3 w3 hown3 hgrow3 _; have O3 := Lib.hid hown3; have G3 := Lib.hid hgrow3; clear hown3 hgrow3)
      go_ret
      refine ⟨_, rfl, ?_, ?_⟩
      · have h := O3.out
        rw [HC.out, HU.out, HB.out] at h
        rw [HP.out, HL1.out]
        simpa [Nat.add_assoc] using h
      · exact (hbel.alloc hbel.size _).grown G3.out (by have := hbel.size; simp; omega) (fun k hk => (HO.out.lt k hk).1)
end Go.Proofs.Ytckbeeadkiiccaa
namespace Go.Proofs.Ytckbeeadkiiccaa
open Go.RowKit
set_option maxRecDepth 100000 in
set_option maxHeartbeats 800000 in
theorem refPutText_any (ao : Option Addr) (cap : Nat) (bs : List UInt8) (B off : Nat) (s : ByteArray) (w : World) (h : SrcAt w ao cap bs B off) (hs : bs.length + 9 + s.size ≤ 140737488355328) :
    Calls Try.prog 32 #[.slice ao bs.length cap, .string s] w fun e w' => ∃ v, e = .returned v ∧ w'.ownsRow w.heap.size 5 1 v (bs ++ (numL s.size ++ s.data.toList)).length ((bs ++ (numL s.size ++ s.data.toList)).map B8) ∧ Below w.heap.size w w' := by
  obtain ⟨i0, hi, hz0, hz1, hz2⟩ := info_parts info5
  have hl := numL_le s.size
  obtain ⟨L, hL⟩ : ∃ L, L = numL s.size := ⟨_, rfl⟩
  have hg : ∀ W : World, SrcAt W ao cap bs B off → Calls Try.prog 31 #[.slice ao bs.length cap, .int .i64 (s.size : Int)] W fun e w' => ∃ v, e = .returned v ∧ w'.ownsRow W.heap.size 5 1 v (bs ++ L).length ((bs ++ L).map B8) ∧ Below W.heap.size W w' := fun W hW => by
    have h1 := refPutNum_any ao cap bs B off (s.size : Int) W hW (by omega)
    rw [clampN_nat _ (by omega)] at h1
    rw [hL]; exact h1
  rw [← hL] at hl ⊢
  have HG := Lib.hid hg
  clear hL hg
  go_enter Try.func32, Try.ntmps32
  go_wp2_with fail
  refine (HG.out _ h).mono ?_
  rintro e w1 ⟨v1, rfl, o1, b1⟩
  obtain ⟨m, hm⟩ : ∃ m, m = (bs ++ L).length := ⟨_, rfl⟩
  have hmb : m + s.size ≤ 140737488355328 := by rw [hm, List.length_append]; omega
  rw [← hm] at o1
  have HM := Lib.hid hm
  have O1 := Lib.hid o1
  clear hm o1
  go_wp2_with (at_builtin; refine Lib.wpList_append_own_string _ rfl _ _ 22 9 rfl w.heap.size 5 i0 Try.underlying22 Try.underlying9 hi hz0 hz1 hz2 _ m _ rfl O1.out s rfl (by unfold maxLen; omega) hmb b1.size ?_; intro v3 w3 hown3 hgrow3 _; have O3 := Lib.hid hown3; have G3 := Lib.hid hgrow3; clear hown3 hgrow3)
  go_ret
  refine ⟨_, rfl, ?_, b1.grown G3.out b1.size (fun k hk => (O1.out.lt k hk).1)⟩
  have h1 := O3.out
  rw [strCells_B8, ← List.map_append, HM.out, List.append_assoc] at h1
  have e : (bs ++ L).length + s.size = (bs ++ (L ++ s.data.toList)).length := by
    have : s.data.toList.length = s.size := rfl
    simp only [List.length_append, this]
    omega
  rw [e] at h1
  exact h1
end Go.Proofs.Ytckbeeadkiiccaa
namespace Go.Proofs.Ytckbeeadkiiccaa
open Go.RowKit
/-- What holds at each round's head. -/
def RefRel (bs : List UInt8) (N : Nat) (n p i : Value) : Prop :=
  (∃ k x : Nat, k ≤ N ∧ k ≤ 8 ∧ i = .int .i64 k ∧ n = .int .i64 x ∧ p = .int .i64 ((128 ^ k : Nat) : Int) ∧ Behind bs k x) ∨ (i = .int .i64 9 ∧ parse bs = none)
/-- What TakeNum answers. -/
def TookNum (bs : List UInt8) (w : World) (e : Ending) (w' : World) : Prop :=
  (parse bs = none ∧ e = .returned (.tuple #[.int .i64 0, .slice none 0 0, .int .i64 2]) ∨
    ∃ (n k : Nat) (ao' : Option Addr) (cap' B' : Nat), parse bs = some (n, k) ∧ e = .returned (.tuple #[.int .i64 (n : Int), .slice ao' (bs.drop k).length cap', .int .i64 0]) ∧ SrcAt w' ao' cap' (bs.drop k) B' 0 ∧ (0 < (bs.drop k).length → w.heap.size ≤ B')) ∧ Below w.heap.size w w'
theorem ref_bounds {k x c p y : Nat} (hk : k ≤ 8) (hx : x < 128 ^ k) (hp : p = 128 ^ k) (hy : y = c % 128 * p) :
    (p : Int) ≤ 72057594037927936 ∧ (y : Int) ≤ 9151314442816847872 ∧ (x : Int) ≤ 72057594037927935 ∧ wrap64 ((c : Int) % 128 * (p : Int)) = (y : Int) := by
  obtain ⟨h1, h2⟩ := shl_val k (c % 128) hk (by omega)
  have h3 : 128 ^ k ≤ 72057594037927936 := Nat.pow_le_pow_right (n := 128) (by omega) hk
  rw [← hp] at h1 hx h3
  rw [← hy] at h1
  refine ⟨by omega, h1, by omega, ?_⟩
  rw [show (c : Int) % 128 * (p : Int) = (y : Int) from by rw [hy]; simp]
  exact IntWalk.wrap64_in _ ⟨by omega, by omega⟩
theorem ref_sum {k x c p y : Nat} (hk : k ≤ 8) (hx : x < 128 ^ k) (hp : p = 128 ^ k) (hy : y = c % 128 * p) (hc : c < 128) (h63 : k = 8 → c ≤ 63) : x + y ≤ 4611686018427387903 := by
  rw [Nat.mod_eq_of_lt hc] at hy
  rw [← hp] at hx
  rcases Nat.eq_or_lt_of_le hk with rfl | hlt
  · have h1 : c * p ≤ 63 * 72057594037927936 := Nat.mul_le_mul (h63 rfl) (by rw [hp]; decide)
    have h2 : p = 72057594037927936 := by rw [hp]
    omega
  · have h3 : p ≤ 562949953421312 := by rw [hp]; exact Nat.pow_le_pow_right (n := 128) (by omega) (show k ≤ 7 by omega)
    have h1 : c * p ≤ 127 * 562949953421312 := Nat.mul_le_mul (by omega) h3
    omega
theorem ref_len (n : Nat) (hn : n ≤ 4611686018427387903) (W : World) :
    Calls Try.prog 31 #[.slice none 0 0, .int .i64 (n : Int)] W fun e w' => ∃ ao2 cap2, e = .returned (.slice ao2 (numL n).length cap2) ∧ Below W.heap.size W w' := by
  refine (refPutNum_any none 0 [] 0 0 (n : Int) W (src_nil W) (by simp)).mono ?_
  rintro e w' ⟨v, rfl, ho, hb⟩
  rw [clampN_nat n hn, List.nil_append] at ho
  obtain ⟨a2, c2, B2, rfl, _, _⟩ := src_of_own ho
  exact ⟨a2, c2, rfl, hb⟩
set_option maxRecDepth 100000 in
set_option maxHeartbeats 1600000 in
theorem refTakeNum_any (ao : Option Addr) (cap : Nat) (bs : List UInt8) (B off : Nat) (w : World) (h : SrcAt w ao cap bs B off) (hs : bs.length ≤ 140737488355328) :
    Calls Try.prog 66 #[.slice ao bs.length cap] w (TookNum bs w) := by
  obtain ⟨N, hbn⟩ : ∃ N, N = bs.length := ⟨_, rfl⟩
  rw [← hbn] at hs ⊢
  have HB := Lib.hid hbn
  clear hbn
  go_enter Try.func66, Try.ntmps66
  go_wp2
  go_loop [5, 6, 7] (fun n p i => RefRel bs N n p i) (fun _ _ i => 10 - (intOf i).toNat)
  case atStart => exact .inl ⟨0, 0, by omega, by omega, rfl, rfl, rfl, behind_zero bs⟩
  case round =>
    rcases hrel with ⟨k, x, hk, hk8, rfl, rfl, rfl, hbe⟩ | ⟨rfl, hnone⟩
    · have HBE := Lib.hid hbe
      clear hbe
      by_cases hlt : k < N
      · have hltb : k < bs.length := by rw [← HB.out]; exact hlt
        have hcell := h.cell k hltb
        have hao := h.src (by omega)
        obtain ⟨c, hc⟩ : ∃ c : Nat, c = (bs.getD k 0).toNat := ⟨_, rfl⟩
        have hc256 : c < 256 := by rw [hc]; exact (bs.getD k 0).toNat_lt
        rw [← hc] at hcell
        have HC := Lib.hid hc
        subst hao
        have HKB := Lib.hid hltb
        obtain ⟨p, hp⟩ : ∃ p : Nat, p = 128 ^ k := ⟨_, rfl⟩
        obtain ⟨y, hy⟩ : ∃ y : Nat, y = c % 128 * p := ⟨_, rfl⟩
        obtain ⟨hp1, hy1, hx1, hw1⟩ := ref_bounds hk8 HBE.out.lt hp hy
        rw [← hp]
        have HY := Lib.hid hy
        have HP := Lib.hid hp
        clear hc hltb hy hp
        by_cases hbad : k = 8 ∧ 63 < c % 128
        · obtain ⟨h8, h63⟩ := hbad
          have b8 : ((k : Int) == 8) = true := by simp; omega
          have hv := behind_bad HBE.out HKB.out h8 (by rw [← HC.out]; omega)
          have h63' : (63 : Int) < (c : Int) % 128 := by omega
          have HV := Lib.hid hv
          clear hv h8
          go_wp2_with fail
          go_ret3
          exact ⟨.inl ⟨HV.out, rfl⟩, Below.refl _ _⟩
        · by_cases hmore : 128 ≤ c
          · by_cases h8 : k = 8
            · have b8 : ((k : Int) == 8) = true := by simp; omega
              have h63 : ¬ (63 : Int) < (c : Int) % 128 := fun hh => hbad ⟨h8, by omega⟩
              have hv := behind_bad HBE.out HKB.out h8 (by rw [← HC.out]; omega)
              have HV := Lib.hid hv
              have hm128 : (128 : Int) ≤ (c : Int) := by omega
              have H8 := Lib.hid h8
              clear hv hbad h8
              go_wp2_with fail
              go_round
              case rel => exact .inr ⟨by rw [H8.out]; rfl, HV.out⟩
              case measure => simp [intOf]; omega
            · have b8 : ((k : Int) == 8) = false := by simp; omega
              have hnext := behind_more HBE.out HKB.out (by omega) (by rw [← HC.out]; exact hmore)
              rw [← HC.out, ← HP.out, ← HY.out] at hnext
              have HN := Lib.hid hnext
              have hp2 : (p : Int) ≤ 562949953421312 := by
                have h2 : 128 ^ k ≤ 128 ^ 7 := Nat.pow_le_pow_right (by omega) (by omega)
                have := HP.out
                omega
              have hm128 : (128 : Int) ≤ (c : Int) := by omega
              clear hbad hnext
              go_wp2_with fail
              go_round
              case rel => exact .inl ⟨k + 1, x + y, by omega, by omega, by go_num, by go_num, by rw [Nat.pow_succ, ← HP.out]; go_num, HN.out⟩
              case measure => simp [intOf]; omega
          · have hc128 : c < 128 := by omega
            have h63 : k = 8 → c ≤ 63 := fun h8 => by
              have : ¬ 63 < c % 128 := fun hh => hbad ⟨h8, hh⟩
              omega
            have hsum : x + y ≤ 4611686018427387903 := ref_sum hk8 HBE.out.lt HP.out HY.out hc128 h63
            have hg := ref_len (x + y) hsum
            obtain ⟨len, hlen⟩ : ∃ len, len = (numL (x + y)).length := ⟨_, rfl⟩
            have hl9 : len ≤ 9 := by rw [hlen]; exact numL_le _
            rw [← hlen, show ((x + y : Nat) : Int) = (x : Int) + (y : Int) from by omega] at hg
            have HG := Lib.hid hg
            have hltc : (c : Int) < 128 := by omega
            by_cases hno : c = 0 ∧ 0 < k
            · obtain ⟨hc0, hk0⟩ := hno
              have hv := behind_nought HBE.out HKB.out hk8 hk0 (by rw [← HC.out]; exact hc0)
              have hll : len ≤ k := by
                rw [hlen]
                have hy0 : y = 0 := by rw [HY.out, hc0]; simp
                obtain ⟨k', rfl⟩ : ∃ k', k = k' + 1 := ⟨k - 1, by omega⟩
                rw [hy0, Nat.add_zero]
                exact numF_short 8 x k' HBE.out.lt
              have hne : ((len : Int) != (k : Int) + 1) = true := by rw [bne_iff_ne]; omega
              have HV := Lib.hid hv
              clear hv hbad hmore hsum hg hlen hc0
              rcases Nat.eq_or_lt_of_le hk8 with h8 | h8
              · have b8 : ((k : Int) == 8) = true := by simp; omega
                have hgs : ¬ (63 : Int) < (c : Int) % 128 := by have := h63 h8; omega
                clear h8 h63
                go_wp2_with fail
                refine (HG.out _).mono ?_
                rintro e w2 ⟨ao2, cap2, rfl, b2⟩
                go_wp2_with fail
                go_ret3
                exact ⟨.inl ⟨HV.out, rfl⟩, b2⟩
              · have b8 : ((k : Int) == 8) = false := by simp; omega
                clear h63
                go_wp2_with fail
                refine (HG.out _).mono ?_
                rintro e w2 ⟨ao2, cap2, rfl, b2⟩
                go_wp2_with fail
                go_ret3
                exact ⟨.inl ⟨HV.out, rfl⟩, b2⟩
            · have hv := behind_done HBE.out HKB.out hk8 (fun h => by rw [← HC.out]; exact h63 h) (by rw [← HC.out]; omega) (fun h => by rw [← HC.out]; intro h1; exact hno ⟨h1, h⟩)
              rw [← HC.out, ← HP.out, ← HY.out] at hv
              have hll : len = k + 1 := by
                obtain ⟨_, r, _, e⟩ := parse_some hv
                rw [hlen, e]
              have hne : ((len : Int) != (k : Int) + 1) = false := by rw [hll]; simp
              obtain ⟨ao5, hsl, hs5⟩ := h.slice_l (k + 1) (by have := HKB.out; omega)
              rw [← HB.out, show ((k + 1 : Nat) : Int) = (k : Int) + 1 from by omega] at hsl
              have hdl : (bs.drop (k + 1)).length = N - (k + 1) := by rw [List.length_drop, HB.out]
              have HD := Lib.hid hdl
              have HV := Lib.hid hv
              clear hv hbad hmore hsum hg hlen hno hll hdl
              rcases Nat.eq_or_lt_of_le hk8 with h8 | h8
              · have b8 : ((k : Int) == 8) = true := by simp; omega
                have hgs : ¬ (63 : Int) < (c : Int) % 128 := by have := h63 h8; omega
                clear h8 h63
                go_wp2_with fail
                refine (HG.out _).mono ?_
                rintro e w2 ⟨ao2, cap2, rfl, b2⟩
                go_wp2_with (at_builtin; refine wpList_append_src rfl _ _ rfl w2.heap.size _ 0 [] rfl (owns_of_row (heap_alloc_new _ _) (Nat.le_refl _) (Nat.le_refl _) (Nat.zero_le _) rfl rfl rfl) ao5 (N - (k + 1)) (cap - (k + 1)) rfl ((bs.drop (k + 1)).map B8) (by rw [List.length_map]; exact HD.out) (fun hh => by rw [← HD.out]; exact hs5.bare hh) (fun ad had j u hu => (hs5.below (b2.alloc b2.size _)).cells ad had j u hu) (B8_one _) (by omega) (by simp) ?_; intro v6 w6 hown6 hg6 hv6; have O6 := Lib.hid (own_first hown6); have G6 := Lib.hid hg6; clear hown6 hg6 hv6)
                have o6 := O6.out
                rw [← HD.out] at o6
                obtain ⟨ao7, cap7, B7, rfl, s7, g7⟩ := src_of_own o6
                go_ret3
                exact ⟨.inr ⟨x + y, k + 1, ao7, cap7, B7, HV.out, rfl, s7, fun hp => Nat.le_trans b2.size (g7 hp)⟩, (b2.alloc b2.size _).grown G6.out (by have := b2.size; simp; omega) (fun k hk => by cases hk; exact b2.size)⟩
              · have b8 : ((k : Int) == 8) = false := by simp; omega
                clear h63
                go_wp2_with fail
                refine (HG.out _).mono ?_
                rintro e w2 ⟨ao2, cap2, rfl, b2⟩
                go_wp2_with (at_builtin; refine wpList_append_src rfl _ _ rfl w2.heap.size _ 0 [] rfl (owns_of_row (heap_alloc_new _ _) (Nat.le_refl _) (Nat.le_refl _) (Nat.zero_le _) rfl rfl rfl) ao5 (N - (k + 1)) (cap - (k + 1)) rfl ((bs.drop (k + 1)).map B8) (by rw [List.length_map]; exact HD.out) (fun hh => by rw [← HD.out]; exact hs5.bare hh) (fun ad had j u hu => (hs5.below (b2.alloc b2.size _)).cells ad had j u hu) (B8_one _) (by omega) (by simp) ?_; intro v6 w6 hown6 hg6 hv6; have O6 := Lib.hid (own_first hown6); have G6 := Lib.hid hg6; clear hown6 hg6 hv6)
                have o6 := O6.out
                rw [← HD.out] at o6
                obtain ⟨ao7, cap7, B7, rfl, s7, g7⟩ := src_of_own o6
                go_ret3
                exact ⟨.inr ⟨x + y, k + 1, ao7, cap7, B7, HV.out, rfl, s7, fun hp => Nat.le_trans b2.size (g7 hp)⟩, (b2.alloc b2.size _).grown G6.out (by have := b2.size; simp; omega) (fun k hk => by cases hk; exact b2.size)⟩
      · have hv := behind_end HBE.out (by rw [← HB.out]; omega)
        have HV := Lib.hid hv
        clear hv
        go_wp2_with fail
        go_ret3
        exact ⟨.inl ⟨HV.out, rfl⟩, Below.refl _ _⟩
    · have HV := Lib.hid hnone
      clear hnone
      by_cases h9 : 9 < N
      all_goals
        go_wp2_with fail
        go_ret3
        exact ⟨.inl ⟨HV.out, rfl⟩, Below.refl _ _⟩
theorem refTakeNum_no (ao : Option Addr) (cap : Nat) (bs : List UInt8) (B off : Nat) (w : World) (h : SrcAt w ao cap bs B off) (hs : bs.length ≤ 140737488355328) (hp : parse bs = none) :
    Calls Try.prog 66 #[.slice ao bs.length cap] w fun e w' => e = .returned (.tuple #[.int .i64 0, .slice none 0 0, .int .i64 2]) ∧ Below w.heap.size w w' := by
  refine (refTakeNum_any ao cap bs B off w h hs).mono ?_
  rintro e w' ⟨⟨_, h1⟩ | ⟨n, k, _, _, _, h1, _⟩, hb⟩
  · exact ⟨h1, hb⟩
  · rw [hp] at h1; cases h1
theorem refTakeNum_new (ao : Option Addr) (cap : Nat) (bs : List UInt8) (B off : Nat) (w : World) (h : SrcAt w ao cap bs B off) (hs : bs.length ≤ 140737488355328) (n : Nat) (rest : List UInt8) (hn : n ≤ 4611686018427387903) (he : bs = numL n ++ rest) :
    Calls Try.prog 66 #[.slice ao bs.length cap] w fun e w' => ∃ ao' cap' B', e = .returned (.tuple #[.int .i64 (n : Int), .slice ao' rest.length cap', .int .i64 0]) ∧ SrcAt w' ao' cap' rest B' 0 ∧ (0 < rest.length → w.heap.size ≤ B') ∧ Below w.heap.size w w' := by
  have hp := parse_numL n rest hn
  rw [← he] at hp
  refine (refTakeNum_any ao cap bs B off w h hs).mono ?_
  rintro e w' ⟨⟨h1, _⟩ | ⟨n', k, ao', cap', B', h1, h2, h3, h4⟩, hb⟩
  · rw [hp] at h1; cases h1
  · rw [hp] at h1
    simp only [Option.some.injEq, Prod.mk.injEq] at h1
    obtain ⟨rfl, rfl⟩ := h1
    have e1 : bs.drop (numL n).length = rest := by rw [he, List.drop_left]
    rw [e1] at h2 h3 h4
    exact ⟨ao', cap', B', h2, h3, h4, hb⟩
theorem refTakeNum_yes (ao : Option Addr) (cap : Nat) (bs : List UInt8) (B off : Nat) (w : World) (h : SrcAt w ao cap bs B off) (hs : bs.length ≤ 140737488355328) (n : Nat) (rest : List UInt8) (hn : n ≤ 4611686018427387903) (he : bs = numL n ++ rest) :
    Calls Try.prog 66 #[.slice ao bs.length cap] w fun e w' => ∃ ao' cap' B', e = .returned (.tuple #[.int .i64 (n : Int), .slice ao' rest.length cap', .int .i64 0]) ∧ SrcAt w' ao' cap' rest B' 0 ∧ Below w.heap.size w w' := by
  refine (refTakeNum_new ao cap bs B off w h hs n rest hn he).mono ?_
  rintro e w' ⟨ao', cap', B', h2, h3, _, hb⟩
  exact ⟨ao', cap', B', h2, h3, hb⟩
end Go.Proofs.Ytckbeeadkiiccaa
namespace Go.Proofs.Ytckbeeadkiiccaa
open Go.RowKit
set_option maxRecDepth 100000 in
set_option maxHeartbeats 800000 in
theorem refTakeText_no (ao : Option Addr) (cap : Nat) (bs : List UInt8) (B off : Nat) (most : Int) (w : World) (h : SrcAt w ao cap bs B off) (hs : bs.length ≤ 140737488355328) (hp : NoText bs most) :
    Calls Try.prog 67 #[.slice ao bs.length cap, .int .i64 most] w fun e w' => e = .returned (.tuple #[.string (SL []), .slice none 0 0, .int .i64 2]) ∧ Below w.heap.size w w' := by
  rcases hp with hp | ⟨n, k, hp, hk, hn, hc⟩
  · have ht := refTakeNum_no ao cap bs B off w h hs hp
    have HT := Lib.hid ht
    clear ht hp
    go_enter Try.func67, Try.ntmps67
    go_wp2_with fail
    refine HT.out.mono ?_
    rintro e w1 ⟨rfl, b1⟩
    go_wp2_with fail
    go_ret3
    exact ⟨rfl, b1⟩
  · obtain ⟨_, r, he, hkl⟩ := parse_some hp
    have ht := refTakeNum_yes ao cap bs B off w h hs n r hn he
    have hrl : bs.length = k + r.length := by rw [hkl, he]; simp
    have HT := Lib.hid ht
    have hnb : (n : Int) ≤ 4611686018427387903 := by omega
    have hrb : r.length ≤ 140737488355328 := by omega
    have hc' : most < (n : Int) ∨ r.length < n := by omega
    clear ht hp hn he hkl hc hrl
    by_cases hm : most < (n : Int)
    · clear hc'
      go_enter Try.func67, Try.ntmps67
      go_wp2_with fail
      refine HT.out.mono ?_
      rintro e w1 ⟨ao1, cap1, B1, rfl, s1, b1⟩
      go_wp2_with fail
      go_ret3
      exact ⟨rfl, b1⟩
    · have hc2 : r.length < n := by rcases hc' with h1 | h1 <;> omega
      clear hc'
      go_enter Try.func67, Try.ntmps67
      go_wp2_with fail
      refine HT.out.mono ?_
      rintro e w1 ⟨ao1, cap1, B1, rfl, s1, b1⟩
      go_wp2_with fail
      go_ret3
      exact ⟨rfl, b1⟩
set_option maxRecDepth 100000 in
set_option maxHeartbeats 800000 in
theorem refTakeText_yes (ao : Option Addr) (cap : Nat) (bs : List UInt8) (B off : Nat) (most : Int) (w : World) (h : SrcAt w ao cap bs B off) (hs : bs.length ≤ 140737488355328) (t rest : List UInt8) (he : bs = numL t.length ++ (t ++ rest)) (hm : (t.length : Int) ≤ most) :
    Calls Try.prog 67 #[.slice ao bs.length cap, .int .i64 most] w fun e w' => ∃ ao' cap' B' off', e = .returned (.tuple #[.string (SL t), .slice ao' rest.length cap', .int .i64 0]) ∧ SrcAt w' ao' cap' rest B' off' ∧ Below w.heap.size w w' := by
  have hbl : bs.length = (numL t.length).length + (t.length + rest.length) := by rw [he]; simp
  have ht := refTakeNum_yes ao cap bs B off w h hs t.length (t ++ rest) (by omega) he
  obtain ⟨n, hn⟩ : ∃ n, n = t.length := ⟨_, rfl⟩
  obtain ⟨r, hr⟩ : ∃ r, r = rest.length := ⟨_, rfl⟩
  obtain ⟨m, hmm⟩ : ∃ m, m = (t ++ rest).length := ⟨_, rfl⟩
  have hmr : m = n + r := by rw [hmm, List.length_append, hn, hr]
  have hmb : m ≤ 140737488355328 := by rw [hmr]; omega
  rw [← hn, ← hmm] at ht
  rw [← hn] at hm
  rw [← hr]
  have HT := Lib.hid ht
  have HM := Lib.hid hmm
  have HR := Lib.hid hmr
  have HN := Lib.hid hn
  have HRR := Lib.hid hr
  have hnm : n ≤ m := by omega
  clear ht hmm hmr hn hr he hbl
  go_enter Try.func67, Try.ntmps67
  go_wp2_with fail
  refine HT.out.mono ?_
  rintro e w1 ⟨ao1, cap1, B1, rfl, s1, b1⟩
  obtain ⟨ao2, hsl2, hs2⟩ := s1.slice_h n (by rw [← HM.out]; exact hnm)
  obtain ⟨ao3, hsl3, hs3⟩ := s1.slice_l n (by rw [← HM.out]; exact hnm)
  rw [HN.out, List.take_left] at hs2
  rw [HN.out, List.drop_left] at hs3
  rw [← HM.out] at hsl2 hsl3
  have hmn : m - n = r := by have := HR.out; omega
  rw [hmn] at hsl3
  rw [← HN.out] at hs3
  have hcv : ∀ W' : World, Below w1.heap.size w1 W' → (convert 22 9 (.slice ao2 n cap1)).run Try.prog W' = .ok (.string (SL t)) W' := fun W' hb => by
    have h1 := convert_src (hs2.below hb)
    rw [← HN.out] at h1
    exact h1
  have cv0 := hcv w1 (Below.refl _ _)
  have cv1 := hcv w1.drew (Below.refl _ _).drew
  have HS3 := Lib.hid hs3
  clear hs2 hcv hmn hs3
  go_wp2_with fail
  go_region_with (fail)
  all_goals go_wp2
  all_goals go_ret3
  all_goals exact ⟨ao3, _, B1, _, rfl, HS3.out.below (Below.refl _ _).drew, b1.drew⟩
end Go.Proofs.Ytckbeeadkiiccaa
