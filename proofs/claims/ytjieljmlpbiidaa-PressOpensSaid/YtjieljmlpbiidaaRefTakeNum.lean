/- The walk of the document's answer for TakeNum. -/
import Derived.Test.YtjieljmlpbiidaaRefPutNum
namespace Go.Proofs.Ytjieljmlpbiidaa
open Go.RowKit
/-- What holds at each round's head. -/
def RefRel (bs : List UInt8) (N : Nat) (n p i : Value) : Prop :=
  (∃ k x : Nat, k ≤ N ∧ k ≤ 8 ∧ i = .int .i64 k ∧ n = .int .i64 x ∧ p = .int .i64 ((128 ^ k : Nat) : Int) ∧ Behind bs k x) ∨ (i = .int .i64 9 ∧ parse bs = none)
/-- What TakeNum answers. -/
def TookNum (bs : List UInt8) (w : World) (e : Ending) (w' : World) : Prop :=
  (parse bs = none ∧ e = .returned (.tuple #[.int .i64 0, .slice none 0 0, .int .i64 2]) ∨
    ∃ (n k : Nat) (ao' : Option Addr) (cap' B' : Nat), parse bs = some (n, k) ∧ e = .returned (.tuple #[.int .i64 (n : Int), .slice ao' (bs.drop k).length cap', .int .i64 0]) ∧ SrcAt w' ao' cap' (bs.drop k) B' 0 ∧ (0 < (bs.drop k).length → w.heap.size ≤ B')) ∧ Below w.heap.size w w'
theorem ref_bounds {k x c p y : Nat} (hk : k ≤ 8) (hx : x < 128 ^ k) (hp : p = 128 ^ k) (hy : y = c % 128 * p) :
    (p : Int) ≤ 72057594037927936 ∧ (y : Int) ≤ 9151314442816847872 ∧ (x : Int) ≤ 72057594037927935 ∧ wrap64 ((c : Int) % 128 * (p : Int)) = (y : Int) := by
  obtain ⟨h1, h2⟩ := shl_val k (c % 128) hk (by omega)
  have h3 : 128 ^ k ≤ 72057594037927936 := Nat.pow_le_pow_right (n := 128) (by omega) hk
  rw [← hp] at h1 hx h3
  rw [← hy] at h1
  refine ⟨by omega, h1, by omega, ?_⟩
  rw [show (c : Int) % 128 * (p : Int) = (y : Int) from by rw [hy]; simp]
  exact IntWalk.wrap64_in _ ⟨by omega, by omega⟩
theorem ref_sum {k x c p y : Nat} (hk : k ≤ 8) (hx : x < 128 ^ k) (hp : p = 128 ^ k) (hy : y = c % 128 * p) (hc : c < 128) (h63 : k = 8 → c ≤ 63) : x + y ≤ 4611686018427387903 := by
  rw [Nat.mod_eq_of_lt hc] at hy
  rw [← hp] at hx
  rcases Nat.eq_or_lt_of_le hk with rfl | hlt
  · have h1 : c * p ≤ 63 * 72057594037927936 := Nat.mul_le_mul (h63 rfl) (by rw [hp]; decide)
    have h2 : p = 72057594037927936 := by rw [hp]
    omega
  · have h3 : p ≤ 562949953421312 := by rw [hp]; exact Nat.pow_le_pow_right (n := 128) (by omega) (show k ≤ 7 by omega)
    have h1 : c * p ≤ 127 * 562949953421312 := Nat.mul_le_mul (by omega) h3
    omega
theorem ref_len (n : Nat) (hn : n ≤ 4611686018427387903) (W : World) :
    Calls Try.prog 16 #[.slice none 0 0, .int .i64 (n : Int)] W fun e w' => ∃ ao2 cap2, e = .returned (.slice ao2 (numL n).length cap2) ∧ Below W.heap.size W w' := by
  refine (refPutNum_any none 0 [] 0 0 (n : Int) W (src_nil W) (by simp)).mono ?_
  rintro e w' ⟨v, rfl, ho, hb⟩
  rw [clampN_nat n hn, List.nil_append] at ho
  obtain ⟨a2, c2, B2, rfl, _, _⟩ := src_of_own ho
  exact ⟨a2, c2, rfl, hb⟩
set_option maxRecDepth 100000 in
set_option maxHeartbeats 1600000 in
theorem refTakeNum_any (ao : Option Addr) (cap : Nat) (bs : List UInt8) (B off : Nat) (w : World) (h : SrcAt w ao cap bs B off) (hs : bs.length ≤ 140737488355328) :
    Calls Try.prog 29 #[.slice ao bs.length cap] w (TookNum bs w) := by
  obtain ⟨N, hbn⟩ : ∃ N, N = bs.length := ⟨_, rfl⟩
  rw [← hbn] at hs ⊢
  have HB := Lib.hid hbn
  clear hbn
  go_enter Try.func29, Try.ntmps29
  go_wp2
  go_loop [5, 6, 7] (fun n p i => RefRel bs N n p i) (fun _ _ i => 10 - (intOf i).toNat)
  case atStart => exact .inl ⟨0, 0, by omega, by omega, rfl, rfl, rfl, behind_zero bs⟩
  case round =>
    rcases hrel with ⟨k, x, hk, hk8, rfl, rfl, rfl, hbe⟩ | ⟨rfl, hnone⟩
    · have HBE := Lib.hid hbe
      clear hbe
      by_cases hlt : k < N
      · have hltb : k < bs.length := by rw [← HB.out]; exact hlt
        have hcell := h.cell k hltb
        have hao := h.src (by omega)
        obtain ⟨c, hc⟩ : ∃ c : Nat, c = (bs.getD k 0).toNat := ⟨_, rfl⟩
        have hc256 : c < 256 := by rw [hc]; exact (bs.getD k 0).toNat_lt
        rw [← hc] at hcell
        have HC := Lib.hid hc
        subst hao
        have HKB := Lib.hid hltb
        obtain ⟨p, hp⟩ : ∃ p : Nat, p = 128 ^ k := ⟨_, rfl⟩
        obtain ⟨y, hy⟩ : ∃ y : Nat, y = c % 128 * p := ⟨_, rfl⟩
        obtain ⟨hp1, hy1, hx1, hw1⟩ := ref_bounds hk8 HBE.out.lt hp hy
        rw [← hp]
        have HY := Lib.hid hy
        have HP := Lib.hid hp
        clear hc hltb hy hp
        by_cases hbad : k = 8 ∧ 63 < c % 128
        · obtain ⟨h8, h63⟩ := hbad
          have b8 : ((k : Int) == 8) = true := by simp; omega
          have hv := behind_bad HBE.out HKB.out h8 (by rw [← HC.out]; omega)
          have h63' : (63 : Int) < (c : Int) % 128 := by omega
          have HV := Lib.hid hv
          clear hv h8
          go_wp2_with fail
          go_ret3
          exact ⟨.inl ⟨HV.out, rfl⟩, Below.refl _ _⟩
        · by_cases hmore : 128 ≤ c
          · by_cases h8 : k = 8
            · have b8 : ((k : Int) == 8) = true := by simp; omega
              have h63 : ¬ (63 : Int) < (c : Int) % 128 := fun hh => hbad ⟨h8, by omega⟩
              have hv := behind_bad HBE.out HKB.out h8 (by rw [← HC.out]; omega)
              have HV := Lib.hid hv
              have hm128 : (128 : Int) ≤ (c : Int) := by omega
              have H8 := Lib.hid h8
              clear hv hbad h8
              go_wp2_with fail
              go_round
              case rel => exact .inr ⟨by rw [H8.out]; rfl, HV.out⟩
              case measure => simp [intOf]; omega
            · have b8 : ((k : Int) == 8) = false := by simp; omega
              have hnext := behind_more HBE.out HKB.out (by omega) (by rw [← HC.out]; exact hmore)
              rw [← HC.out, ← HP.out, ← HY.out] at hnext
              have HN := Lib.hid hnext
              have hp2 : (p : Int) ≤ 562949953421312 := by
                have h2 : 128 ^ k ≤ 128 ^ 7 := Nat.pow_le_pow_right (by omega) (by omega)
                have := HP.out
                omega
              have hm128 : (128 : Int) ≤ (c : Int) := by omega
              clear hbad hnext
              go_wp2_with fail
              go_round
              case rel => exact .inl ⟨k + 1, x + y, by omega, by omega, by go_num, by go_num, by rw [Nat.pow_succ, ← HP.out]; go_num, HN.out⟩
              case measure => simp [intOf]; omega
          · have hc128 : c < 128 := by omega
            have h63 : k = 8 → c ≤ 63 := fun h8 => by
              have : ¬ 63 < c % 128 := fun hh => hbad ⟨h8, hh⟩
              omega
            have hsum : x + y ≤ 4611686018427387903 := ref_sum hk8 HBE.out.lt HP.out HY.out hc128 h63
            have hg := ref_len (x + y) hsum
            obtain ⟨len, hlen⟩ : ∃ len, len = (numL (x + y)).length := ⟨_, rfl⟩
            have hl9 : len ≤ 9 := by rw [hlen]; exact numL_le _
            rw [← hlen, show ((x + y : Nat) : Int) = (x : Int) + (y : Int) from by omega] at hg
            have HG := Lib.hid hg
            have hltc : (c : Int) < 128 := by omega
            by_cases hno : c = 0 ∧ 0 < k
            · obtain ⟨hc0, hk0⟩ := hno
              have hv := behind_nought HBE.out HKB.out hk8 hk0 (by rw [← HC.out]; exact hc0)
              have hll : len ≤ k := by
                rw [hlen]
                have hy0 : y = 0 := by rw [HY.out, hc0]; simp
                obtain ⟨k', rfl⟩ : ∃ k', k = k' + 1 := ⟨k - 1, by omega⟩
                rw [hy0, Nat.add_zero]
                exact numF_short 8 x k' HBE.out.lt
              have hne : ((len : Int) != (k : Int) + 1) = true := by rw [bne_iff_ne]; omega
              have HV := Lib.hid hv
              clear hv hbad hmore hsum hg hlen hc0
              rcases Nat.eq_or_lt_of_le hk8 with h8 | h8
              · have b8 : ((k : Int) == 8) = true := by simp; omega
                have hgs : ¬ (63 : Int) < (c : Int) % 128 := by have := h63 h8; omega
                clear h8 h63
                go_wp2_with fail
                refine (HG.out _).mono ?_
                rintro e w2 ⟨ao2, cap2, rfl, b2⟩
                go_wp2_with fail
                go_ret3
                exact ⟨.inl ⟨HV.out, rfl⟩, b2⟩
              · have b8 : ((k : Int) == 8) = false := by simp; omega
                clear h63
                go_wp2_with fail
                refine (HG.out _).mono ?_
                rintro e w2 ⟨ao2, cap2, rfl, b2⟩
                go_wp2_with fail
                go_ret3
                exact ⟨.inl ⟨HV.out, rfl⟩, b2⟩
            · have hv := behind_done HBE.out HKB.out hk8 (fun h => by rw [← HC.out]; exact h63 h) (by rw [← HC.out]; omega) (fun h => by rw [← HC.out]; intro h1; exact hno ⟨h1, h⟩)
              rw [← HC.out, ← HP.out, ← HY.out] at hv
              have hll : len = k + 1 := by
                obtain ⟨_, r, _, e⟩ := parse_some hv
                rw [hlen, e]
              have hne : ((len : Int) != (k : Int) + 1) = false := by rw [hll]; simp
              obtain ⟨ao5, hsl, hs5⟩ := h.slice_l (k + 1) (by have := HKB.out; omega)
              rw [← HB.out, show ((k + 1 : Nat) : Int) = (k : Int) + 1 from by omega] at hsl
              have hdl : (bs.drop (k + 1)).length = N - (k + 1) := by rw [List.length_drop, HB.out]
              have HD := Lib.hid hdl
              have HV := Lib.hid hv
              clear hv hbad hmore hsum hg hlen hno hll hdl
              rcases Nat.eq_or_lt_of_le hk8 with h8 | h8
              · have b8 : ((k : Int) == 8) = true := by simp; omega
                have hgs : ¬ (63 : Int) < (c : Int) % 128 := by have := h63 h8; omega
                clear h8 h63
                go_wp2_with fail
                refine (HG.out _).mono ?_
                rintro e w2 ⟨ao2, cap2, rfl, b2⟩
                go_wp2_with (at_builtin; refine wpList_append_src rfl _ _ rfl w2.heap.size _ 0 [] rfl (owns_of_row (heap_alloc_new _ _) (Nat.le_refl _) (Nat.le_refl _) (Nat.zero_le _) rfl rfl rfl) ao5 (N - (k + 1)) (cap - (k + 1)) rfl ((bs.drop (k + 1)).map B8) (by rw [List.length_map]; exact HD.out) (fun hh => by rw [← HD.out]; exact hs5.bare hh) (fun ad had j u hu => (hs5.below (b2.alloc b2.size _)).cells ad had j u hu) (B8_one _) (by omega) (by simp) ?_; intro v6 w6 hown6 hg6 hv6; have O6 := Lib.hid (own_first hown6); have G6 := Lib.hid hg6; clear hown6 hg6 hv6)
                have o6 := O6.out
                rw [← HD.out] at o6
                obtain ⟨ao7, cap7, B7, rfl, s7, g7⟩ := src_of_own o6
                go_ret3
                exact ⟨.inr ⟨x + y, k + 1, ao7, cap7, B7, HV.out, rfl, s7, fun hp => Nat.le_trans b2.size (g7 hp)⟩, (b2.alloc b2.size _).grown G6.out (by have := b2.size; simp; omega) (fun k hk => by cases hk; exact b2.size)⟩
              · have b8 : ((k : Int) == 8) = false := by simp; omega
                clear h63
                go_wp2_with fail
                refine (HG.out _).mono ?_
                rintro e w2 ⟨ao2, cap2, rfl, b2⟩
                go_wp2_with (at_builtin; refine wpList_append_src rfl _ _ rfl w2.heap.size _ 0 [] rfl (owns_of_row (heap_alloc_new _ _) (Nat.le_refl _) (Nat.le_refl _) (Nat.zero_le _) rfl rfl rfl) ao5 (N - (k + 1)) (cap - (k + 1)) rfl ((bs.drop (k + 1)).map B8) (by rw [List.length_map]; exact HD.out) (fun hh => by rw [← HD.out]; exact hs5.bare hh) (fun ad had j u hu => (hs5.below (b2.alloc b2.size _)).cells ad had j u hu) (B8_one _) (by omega) (by simp) ?_; intro v6 w6 hown6 hg6 hv6; have O6 := Lib.hid (own_first hown6); have G6 := Lib.hid hg6; clear hown6 hg6 hv6)
                have o6 := O6.out
                rw [← HD.out] at o6
                obtain ⟨ao7, cap7, B7, rfl, s7, g7⟩ := src_of_own o6
                go_ret3
                exact ⟨.inr ⟨x + y, k + 1, ao7, cap7, B7, HV.out, rfl, s7, fun hp => Nat.le_trans b2.size (g7 hp)⟩, (b2.alloc b2.size _).grown G6.out (by have := b2.size; simp; omega) (fun k hk => by cases hk; exact b2.size)⟩
      · have hv := behind_end HBE.out (by rw [← HB.out]; omega)
        have HV := Lib.hid hv
        clear hv
        go_wp2_with fail
        go_ret3
        exact ⟨.inl ⟨HV.out, rfl⟩, Below.refl _ _⟩
    · have HV := Lib.hid hnone
      clear hnone
      by_cases h9 : 9 < N
      all_goals
        go_wp2_with fail
        go_ret3
        exact ⟨.inl ⟨HV.out, rfl⟩, Below.refl _ _⟩
theorem refTakeNum_no (ao : Option Addr) (cap : Nat) (bs : List UInt8) (B off : Nat) (w : World) (h : SrcAt w ao cap bs B off) (hs : bs.length ≤ 140737488355328) (hp : parse bs = none) :
    Calls Try.prog 29 #[.slice ao bs.length cap] w fun e w' => e = .returned (.tuple #[.int .i64 0, .slice none 0 0, .int .i64 2]) ∧ Below w.heap.size w w' := by
  refine (refTakeNum_any ao cap bs B off w h hs).mono ?_
  rintro e w' ⟨⟨_, h1⟩ | ⟨n, k, _, _, _, h1, _⟩, hb⟩
  · exact ⟨h1, hb⟩
  · rw [hp] at h1; cases h1
theorem refTakeNum_new (ao : Option Addr) (cap : Nat) (bs : List UInt8) (B off : Nat) (w : World) (h : SrcAt w ao cap bs B off) (hs : bs.length ≤ 140737488355328) (n : Nat) (rest : List UInt8) (hn : n ≤ 4611686018427387903) (he : bs = numL n ++ rest) :
    Calls Try.prog 29 #[.slice ao bs.length cap] w fun e w' => ∃ ao' cap' B', e = .returned (.tuple #[.int .i64 (n : Int), .slice ao' rest.length cap', .int .i64 0]) ∧ SrcAt w' ao' cap' rest B' 0 ∧ (0 < rest.length → w.heap.size ≤ B') ∧ Below w.heap.size w w' := by
  have hp := parse_numL n rest hn
  rw [← he] at hp
  refine (refTakeNum_any ao cap bs B off w h hs).mono ?_
  rintro e w' ⟨⟨h1, _⟩ | ⟨n', k, ao', cap', B', h1, h2, h3, h4⟩, hb⟩
  · rw [hp] at h1; cases h1
  · rw [hp] at h1
    simp only [Option.some.injEq, Prod.mk.injEq] at h1
    obtain ⟨rfl, rfl⟩ := h1
    have e1 : bs.drop (numL n).length = rest := by rw [he, List.drop_left]
    rw [e1] at h2 h3 h4
    exact ⟨ao', cap', B', h2, h3, h4, hb⟩
theorem refTakeNum_yes (ao : Option Addr) (cap : Nat) (bs : List UInt8) (B off : Nat) (w : World) (h : SrcAt w ao cap bs B off) (hs : bs.length ≤ 140737488355328) (n : Nat) (rest : List UInt8) (hn : n ≤ 4611686018427387903) (he : bs = numL n ++ rest) :
    Calls Try.prog 29 #[.slice ao bs.length cap] w fun e w' => ∃ ao' cap' B', e = .returned (.tuple #[.int .i64 (n : Int), .slice ao' rest.length cap', .int .i64 0]) ∧ SrcAt w' ao' cap' rest B' 0 ∧ Below w.heap.size w w' := by
  refine (refTakeNum_new ao cap bs B off w h hs n rest hn he).mono ?_
  rintro e w' ⟨ao', cap', B', h2, h3, _, hb⟩
  exact ⟨ao', cap', B', h2, h3, hb⟩
end Go.Proofs.Ytjieljmlpbiidaa
