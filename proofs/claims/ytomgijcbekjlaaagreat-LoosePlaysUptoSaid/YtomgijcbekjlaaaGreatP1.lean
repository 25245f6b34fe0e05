/- What the proofs stand on: CodeNumber, CodeTakeNum, RefTakeNum, RefTakeText, Same, CodeGroups, CodeLayB, CodePutNum, RowC, PressPutTo, DiskLoadPure. -/
import Derived.WalkMore
import Derived.Test.YtomgijcbekjlaaaGreatP0
import Derived.Test.YtomgijcbekjlaaaGreatP2
import Derived.Test.YtomgijcbekjlaaaGreatPB0
import Derived.Test.YtomgijcbekjlaaaGreatPB1
set_option maxRecDepth 100000
set_option maxHeartbeats 40000000
namespace Go.Proofs.YtomgijcbekjlaaaGreat
section
open Go.RowKit
def numV (bs : List UInt8) : Value := match parse bs with
 | some p => .tuple #[.int .i64 (p.1 : Int), .int .i64 (p.2 : Int)]
 | none => .tuple #[.int .i64 0, .int .i64 0]
theorem numV_none {bs : List UInt8} (h : parse bs = none) : numV bs = .tuple #[.int .i64 0, .int .i64 0] := by unfold numV; rw [h]
theorem numV_some {bs : List UInt8} {n k : Nat} (h : parse bs = some (n, k)) : numV bs = .tuple #[.int .i64 (n : Int), .int .i64 (k : Int)] := by unfold numV; rw [h]
theorem number_any (ao : Option Addr) (cap : Nat) (bs : List UInt8) (B off : Nat) (w : World) (h : SrcAt w ao cap bs B off) (hs : bs.length <= 281474976710656) :
  Calls Tryz.prog 164 #[.slice ao bs.length cap] w fun e w' => e = .returned (numV bs) /\ w' = w := by
 obtain ⟨n, hbn⟩ := nm_ (bs.length); rw [<- hbn] at hs |-; have HB := h_ hbn; clear hbn; go_enter Tryz.func164, Tryz.ntmps164; go_wp2; go_step3
 go_wp2; go_step3
 go_wp2; go_loop [2, 8] (fun v i => ∃ k x : Nat, k <= n /\ k <= 8 /\ i = .int .i64 k /\ v = .int .i64 x /\ Behind bs k x) (fun _ i => n - (intOf i).toNat)
 case atStart => exact ⟨0, 0, by omega, by omega, rfl, rfl, behind_zero bs⟩
 case round =>
  obtain ⟨k, x, hk, hk8, rfl, rfl, hbe⟩ := hrel; have HBE := h_ hbe; clear hbe; by_cases hlt : k < n
  ·have hltb : k < bs.length := by rw [<- HB.out]; exact hlt
   have hcell := h.cell k hltb; have hao := h.src (by omega)
   obtain ⟨c, hc⟩ : ∃ c : Nat, c = (bs.getD k 0).toNat := ⟨_, rfl⟩
   have hc256 : c < 256 := by rw [hc]; exact (bs.getD k 0).toNat_lt
   rw [<- hc] at hcell; have HC := h_ hc; subst hao; have hbl : k < bs.length := hltb; obtain ⟨y, hy⟩ : ∃ y : Nat, y = c % 128 * 128 ^ k := ⟨_, rfl⟩
   obtain ⟨s1, s2⟩ := shl_val k (c % 128) hk8 (by omega)
   rw [<- hy] at s1 s2; have hxb : (x : Int) <= 72057594037927935 := by
    have h1 := HBE.out.lt; have h2 : 128 ^ k <= 128 ^ 8 := Nat.pow_le_pow_right (by omega) hk8
    omega
   have hw1 : wrap64 ((c : Int) % 128 * 2 ^ (7 * k)) = (y : Int) := by
    rw [show (c : Int) % 128 = ((c % 128 : Nat) : Int) from by omega, s2]
    exact IntWalk.wrap64_in _ ⟨by omega, by omega⟩
   have hy0 : 0 <= (y : Int) := by omega
   have hy1 : (y : Int) <= 9151314442816847872 := s1
   have HY := h_ hy; have hks : (0 : Int) <= 7 * (k : Int) /\ 7 * (k : Int) <= 64 := by omega
   clear hc hltb s1 s2 hy; have hkb : k < bs.length := by rw [<- HB.out]; exact hlt
   have HKB := h_ hkb; clear hkb; by_cases hbad : k = 8 /\ 63 < c
   ·obtain ⟨h8, h63⟩ := hbad
    have b8 : ((k : Int) == 8) = true := by simp; omega
    have hv : numV bs = .tuple #[.int .i64 0, .int .i64 0] := by
     unfold numV; rw [behind_bad HBE.out HKB.out h8 (by rw [<- HC.out]; exact h63)]
    have HV := h_ hv; have h63' : (63 : Int) < (c : Int) := by omega
    clear hv h8; go_wp2_with fail; go_ret2; exact ⟨by rw [HV.out]; rfl, rfl⟩
   ·have hg : (decide ((63 : Int) < (c : Int)) && ((k : Int) == 8)) = false := by
     by_cases h8 : k = 8
     ·have : ¬ 63 < c := fun h => hbad ⟨h8, h⟩
      simp; intro h; omega
     ·have : ((k : Int) == 8) = false := by simp; omega
      rw [this, Bool.and_false]
    by_cases hmore : 128 <= c
    ·have h8 : k < 8 := by omega
     have b8 : ((k : Int) == 8) = false := by simp; omega
     have hnext := behind_more HBE.out HKB.out h8 (by rw [<- HC.out]; exact hmore)
     rw [<- HC.out, <- HY.out] at hnext; have HN := h_ hnext; clear hbad hg hnext; go_wp2_with fail; go_round
     case rel => exact ⟨k + 1, x + y, by omega, by omega, by go_num, by go_num, HN.out⟩
     case measure => simp [intOf]; omega
    ·have h63 : k = 8 -> c <= 63 := fun h => by
      have : ¬ 63 < c := fun h1 => hbad ⟨h, h1⟩
      omega
     by_cases hno : c = 0 /\ 0 < k
     ·obtain ⟨hc0, hk0⟩ := hno
      have hv : numV bs = .tuple #[.int .i64 0, .int .i64 0] := by
       unfold numV; rw [behind_nought HBE.out HKB.out hk8 hk0 (by rw [<- HC.out]; exact hc0)]
      have HV := h_ hv; have b0 : ((c : Int) == 0) = true := by simp; omega
      have hle : ¬ (63 : Int) < (c : Int) := by omega
      clear hv hbad hg h63 hc0; by_cases h8 : k = 8
      ·have b8 : ((k : Int) == 8) = true := by simp; omega
       clear h8; go_wp2_with fail; go_ret2; exact ⟨by rw [HV.out]; rfl, rfl⟩
      ·have b8 : ((k : Int) == 8) = false := by simp; omega
       go_wp2_with fail; go_ret2; exact ⟨by rw [HV.out]; rfl, rfl⟩
     ·have hv : numV bs = .tuple #[.int .i64 ((x + y : Nat) : Int), .int .i64 ((k + 1 : Nat) : Int)] := by
       unfold numV; rw [behind_done HBE.out HKB.out hk8 (fun h => by rw [<- HC.out]; exact h63 h) (by rw [<- HC.out]; omega) (fun h => by rw [<- HC.out]; intro h1; exact hno ⟨h1, h⟩), <- HC.out, <- HY.out]
      have HV := h_ hv; have fin : Value.tuple #[.int .i64 ((x : Int) + (y : Int)), .int .i64 ((k : Int) + 1)] = numV bs := by
       rw [hv]; congr 1
      have HF := h_ fin; clear hv fin; by_cases h8 : k = 8
      ·have b8 : ((k : Int) == 8) = true := by simp; omega
       have hle : ¬ (63 : Int) < (c : Int) := by have := h63 h8; omega
       have hc0 : c ≠ 0 := fun h => hno ⟨h, by omega⟩
       have b0 : ((c : Int) == 0) = false := by simp; omega
       clear h8 hno h63 hbad hg; go_wp2_with fail; go_ret2; exact ⟨by rw [<- HF.out]; rfl, rfl⟩
      ·have b8 : ((k : Int) == 8) = false := by simp; omega
       by_cases hc0 : c = 0
       ·have hk0 : ¬ 0 < k := fun h => hno ⟨hc0, h⟩
        have b0 : ((c : Int) == 0) = true := by simp; omega
        have hlk : ¬ (0 : Int) < (k : Int) := by omega
        clear hno h63 hbad hg hc0; go_wp2_with fail; go_ret2; exact ⟨by rw [<- HF.out]; rfl, rfl⟩
       ·have b0 : ((c : Int) == 0) = false := by simp; omega
        clear hno h63 hbad hg hc0; go_wp2_with fail; go_ret2; exact ⟨by rw [<- HF.out]; rfl, rfl⟩
  ·have hv : numV bs = .tuple #[.int .i64 0, .int .i64 0] := by
    unfold numV; rw [behind_end HBE.out (by rw [<- HB.out]; omega)]
   have HV := h_ hv; clear hv; go_wp2_with fail; go_ret2; exact ⟨by rw [HV.out]; rfl, rfl⟩
end
section
open Go.RowKit
theorem takeNum_no (ao : Option Addr) (cap : Nat) (bs : List UInt8) (B off : Nat) (w : World) (h : SrcAt w ao cap bs B off) (hs : bs.length <= 281474976710656) (hp : parse bs = none) :
  Calls Tryz.prog 129 #[.slice ao bs.length cap] w fun e w' => e = .returned (.tuple #[.int .i64 0, .slice none 0 0, .int .i64 2]) /\ w' = w := by
 have hnum := number_any ao cap bs B off w h hs; rw [numV_none hp] at hnum; have HN := h_ hnum; clear hnum hp; go_enter Tryz.func129, Tryz.ntmps129; go_wp2_with fail; refine HN.out.mono ?_; rintro e w1 ⟨rfl, rfl⟩; go_wp2_with fail; go_ret3
 exact ⟨rfl, rfl⟩
theorem takeNum_yes (ao : Option Addr) (cap : Nat) (bs : List UInt8) (B off : Nat) (w : World) (h : SrcAt w ao cap bs B off) (hs : bs.length <= 140737488355328) (n : Nat) (rest : List UInt8) (hn : n <= 4611686018427387903) (he : bs = numL n ++ rest) :
  Calls Tryz.prog 129 #[.slice ao bs.length cap] w fun e w' => ∃ ao' cap' B', e = .returned (.tuple #[.int .i64 (n : Int), .slice ao' rest.length cap', .int .i64 0]) /\ SrcAt w' ao' cap' rest B' 0 /\ Below w.heap.size w w' := by
 have hp := parse_numL n rest hn; rw [<- he] at hp; obtain ⟨k, hk⟩ := nm_ ((numL n).length); rw [<- hk] at hp; have hnum := number_any ao cap bs B off w h (by omega)
 rw [numV_some hp] at hnum; have hkp : 0 < k := by rw [hk]; exact numL_pos n
 have hkl : k <= bs.length := by rw [he, List.length_append, <- hk]; omega
 have hr : rest = bs.drop k := by rw [he, hk, List.drop_left]
 obtain ⟨ao2, hsl, hs2⟩ := h.slice_l k hkl; rw [<- hr] at hs2; have hrl : rest.length = bs.length - k := by rw [hr, List.length_drop]
 have hcl := clone_any ao2 (cap - k) rest B (off + k) w hs2 (by omega)
 rw [hrl] at hcl; have HN := h_ hnum; have HC := h_ hcl; have HR := h_ hrl; have hki : ((k : Int) == 0) = false := by simp; omega
 clear hnum hp hk he hr hcl hrl hn; go_enter Tryz.func129, Tryz.ntmps129; go_wp2_with fail; refine HN.out.mono ?_; rintro e w1 ⟨rfl, rfl⟩; go_wp2_with fail; refine HC.out.mono ?_; rintro e w2 ⟨v, rfl, o2, b2⟩; rw [<- HR.out] at o2 |-; obtain ⟨ao3, cap3, B3, rfl, s3, _⟩ := src_of_own o2; go_wp2_with fail; go_ret3
 exact ⟨ao3, cap3, B3, rfl, s3, b2⟩
end
section
open Go.RowKit
def RefRel (bs : List UInt8) (N : Nat) (n p i : Value) : Prop :=
 (∃ k x : Nat, k <= N /\ k <= 8 /\ i = .int .i64 k /\ n = .int .i64 x /\ p = .int .i64 ((128 ^ k : Nat) : Int) /\ Behind bs k x) \/ (i = .int .i64 9 /\ parse bs = none)
def TookNum (bs : List UInt8) (w : World) (e : Ending) (w' : World) : Prop :=
 (parse bs = none /\ e = .returned (.tuple #[.int .i64 0, .slice none 0 0, .int .i64 2]) \/
  ∃ (n k : Nat) (ao' : Option Addr) (cap' B' : Nat), parse bs = some (n, k) /\ e = .returned (.tuple #[.int .i64 (n : Int), .slice ao' (bs.drop k).length cap', .int .i64 0]) /\ SrcAt w' ao' cap' (bs.drop k) B' 0 /\ (0 < (bs.drop k).length -> w.heap.size <= B')) /\ Below w.heap.size w w'
theorem ref_bounds {k x c p y : Nat} (hk : k <= 8) (hx : x < 128 ^ k) (hp : p = 128 ^ k) (hy : y = c % 128 * p) :
  (p : Int) <= 72057594037927936 /\ (y : Int) <= 9151314442816847872 /\ (x : Int) <= 72057594037927935 /\ wrap64 ((c : Int) % 128 * (p : Int)) = (y : Int) := by
 obtain ⟨h1, h2⟩ := shl_val k (c % 128) hk (by omega)
 have h3 : 128 ^ k <= 72057594037927936 := Nat.pow_le_pow_right (n := 128) (by omega) hk
 rw [<- hp] at h1 hx h3; rw [<- hy] at h1; refine ⟨by omega, h1, by omega, ?_⟩
 rw [show (c : Int) % 128 * (p : Int) = (y : Int) from by rw [hy]; simp]
 exact IntWalk.wrap64_in _ ⟨by omega, by omega⟩
theorem ref_sum {k x c p y : Nat} (hk : k <= 8) (hx : x < 128 ^ k) (hp : p = 128 ^ k) (hy : y = c % 128 * p) (hc : c < 128) (h63 : k = 8 -> c <= 63) : x + y <= 4611686018427387903 := by
 rw [Nat.mod_eq_of_lt hc] at hy; rw [<- hp] at hx; rcases Nat.eq_or_lt_of_le hk with rfl | hlt
 ·have h1 : c * p <= 63 * 72057594037927936 := Nat.mul_le_mul (h63 rfl) (by rw [hp]; decide)
  have h2 : p = 72057594037927936 := by rw [hp]
  omega
 ·have h3 : p <= 562949953421312 := by rw [hp]; exact Nat.pow_le_pow_right (n := 128) (by omega) (show k <= 7 by omega)
  have h1 : c * p <= 127 * 562949953421312 := Nat.mul_le_mul (by omega) h3
  omega
theorem ref_len (n : Nat) (hn : n <= 4611686018427387903) (W : World) :
  Calls Tryz.prog 43 #[.slice none 0 0, .int .i64 (n : Int)] W fun e w' => ∃ ao2 cap2, e = .returned (.slice ao2 (numL n).length cap2) /\ Below W.heap.size W w' := by
 refine (refPutNum_any none 0 [] 0 0 (n : Int) W (src_nil W) (by simp)).mono ?_
 rintro e w' ⟨v, rfl, ho, hb⟩; rw [clampN_nat n hn, List.nil_append] at ho; obtain ⟨a2, c2, B2, rfl, _, _⟩ := src_of_own ho; exact ⟨a2, c2, rfl, hb⟩
theorem refTakeNum_any (ao : Option Addr) (cap : Nat) (bs : List UInt8) (B off : Nat) (w : World) (h : SrcAt w ao cap bs B off) (hs : bs.length <= 140737488355328) :
  Calls Tryz.prog 94 #[.slice ao bs.length cap] w (TookNum bs w) := by
 obtain ⟨N, hbn⟩ := nm_ (bs.length); rw [<- hbn] at hs |-; have HB := h_ hbn; clear hbn; go_enter Tryz.func94, Tryz.ntmps94; go_wp2; go_loop [5, 6, 7] (fun n p i => RefRel bs N n p i) (fun _ _ i => 10 - (intOf i).toNat)
 case atStart => exact .inl ⟨0, 0, by omega, by omega, rfl, rfl, rfl, behind_zero bs⟩
 case round =>
  rcases hrel with ⟨k, x, hk, hk8, rfl, rfl, rfl, hbe⟩ | ⟨rfl, hnone⟩
  ·have HBE := h_ hbe
   clear hbe; by_cases hlt : k < N
   ·have hltb : k < bs.length := by rw [<- HB.out]; exact hlt
    have hcell := h.cell k hltb; have hao := h.src (by omega)
    obtain ⟨c, hc⟩ : ∃ c : Nat, c = (bs.getD k 0).toNat := ⟨_, rfl⟩
    have hc256 : c < 256 := by rw [hc]; exact (bs.getD k 0).toNat_lt
    rw [<- hc] at hcell; have HC := h_ hc; subst hao; have HKB := h_ hltb; obtain ⟨p, hp⟩ : ∃ p : Nat, p = 128 ^ k := ⟨_, rfl⟩
    obtain ⟨y, hy⟩ : ∃ y : Nat, y = c % 128 * p := ⟨_, rfl⟩
    obtain ⟨hp1, hy1, hx1, hw1⟩ := ref_bounds hk8 HBE.out.lt hp hy; rw [<- hp]; have HY := h_ hy; have HP := h_ hp; clear hc hltb hy hp; by_cases hbad : k = 8 /\ 63 < c % 128
    ·obtain ⟨h8, h63⟩ := hbad
     have b8 : ((k : Int) == 8) = true := by simp; omega
     have hv := behind_bad HBE.out HKB.out h8 (by rw [<- HC.out]; omega)
     have h63' : (63 : Int) < (c : Int) % 128 := by omega
     have HV := h_ hv; clear hv h8; go_wp2_with fail; go_ret3
     exact ⟨.inl ⟨HV.out, rfl⟩, Below.refl _ _⟩
    ·by_cases hmore : 128 <= c
     ·by_cases h8 : k = 8
      ·have b8 : ((k : Int) == 8) = true := by simp; omega
       have h63 : ¬ (63 : Int) < (c : Int) % 128 := fun hh => hbad ⟨h8, by omega⟩
       have hv := behind_bad HBE.out HKB.out h8 (by rw [<- HC.out]; omega)
       have HV := h_ hv; have hm128 : (128 : Int) <= (c : Int) := by omega
       have H8 := h_ h8; clear hv hbad h8; go_wp2_with fail; go_round
       case rel => exact .inr ⟨by rw [H8.out]; rfl, HV.out⟩
       case measure => simp [intOf]; omega
      ·have b8 : ((k : Int) == 8) = false := by simp; omega
       have hnext := behind_more HBE.out HKB.out (by omega) (by rw [<- HC.out]; exact hmore)
       rw [<- HC.out, <- HP.out, <- HY.out] at hnext; have HN := h_ hnext; have hp2 : (p : Int) <= 562949953421312 := by
        have h2 : 128 ^ k <= 128 ^ 7 := Nat.pow_le_pow_right (by omega) (by omega)
        have := HP.out
        omega
       have hm128 : (128 : Int) <= (c : Int) := by omega
       clear hbad hnext; go_wp2_with fail; go_round
       case rel => exact .inl ⟨k + 1, x + y, by omega, by omega, by go_num, by go_num, by rw [Nat.pow_succ, <- HP.out]; go_num, HN.out⟩
       case measure => simp [intOf]; omega
     ·have hc128 : c < 128 := by omega
      have h63 : k = 8 -> c <= 63 := fun h8 => by
       have : ¬ 63 < c % 128 := fun hh => hbad ⟨h8, hh⟩
       omega
      have hsum : x + y <= 4611686018427387903 := ref_sum hk8 HBE.out.lt HP.out HY.out hc128 h63
      have hg := ref_len (x + y) hsum; obtain ⟨len, hlen⟩ := nm_ ((numL (x + y)).length); have hl9 : len <= 9 := by rw [hlen]; exact numL_le _
      rw [<- hlen, show ((x + y : Nat) : Int) = (x : Int) + (y : Int) from by omega] at hg
      have HG := h_ hg; have hltc : (c : Int) < 128 := by omega
      by_cases hno : c = 0 /\ 0 < k
      ·obtain ⟨hc0, hk0⟩ := hno
       have hv := behind_nought HBE.out HKB.out hk8 hk0 (by rw [<- HC.out]; exact hc0)
       have hll : len <= k := by
        rw [hlen]; have hy0 : y = 0 := by rw [HY.out, hc0]; simp
        obtain ⟨k', rfl⟩ : ∃ k', k = k' + 1 := ⟨k - 1, by omega⟩
        rw [hy0, Nat.add_zero]; exact numF_short 8 x k' HBE.out.lt
       have hne : ((len : Int) != (k : Int) + 1) = true := by rw [bne_iff_ne]; omega
       have HV := h_ hv; clear hv hbad hmore hsum hg hlen hc0; rcases Nat.eq_or_lt_of_le hk8 with h8 | h8
       ·have b8 : ((k : Int) == 8) = true := by simp; omega
        have hgs : ¬ (63 : Int) < (c : Int) % 128 := by have := h63 h8; omega
        clear h8 h63; go_wp2_with fail; refine (HG.out _).mono ?_; rintro e w2 ⟨ao2, cap2, rfl, b2⟩; go_wp2_with fail; go_ret3
        exact ⟨.inl ⟨HV.out, rfl⟩, b2⟩
       ·have b8 : ((k : Int) == 8) = false := by simp; omega
        clear h63; go_wp2_with fail; refine (HG.out _).mono ?_; rintro e w2 ⟨ao2, cap2, rfl, b2⟩; go_wp2_with fail; go_ret3
        exact ⟨.inl ⟨HV.out, rfl⟩, b2⟩
      ·have hv := behind_done HBE.out HKB.out hk8 (fun h => by rw [<- HC.out]; exact h63 h) (by rw [<- HC.out]; omega) (fun h => by rw [<- HC.out]; intro h1; exact hno ⟨h1, h⟩)
       rw [<- HC.out, <- HP.out, <- HY.out] at hv; have hll : len = k + 1 := by
        obtain ⟨_, r, _, e⟩ := parse_some hv; rw [hlen, e]
       have hne : ((len : Int) != (k : Int) + 1) = false := by rw [hll]; simp
       obtain ⟨ao5, hsl, hs5⟩ := h.slice_l (k + 1) (by have := HKB.out; omega)
       rw [<- HB.out, show ((k + 1 : Nat) : Int) = (k : Int) + 1 from by omega] at hsl
       have hdl : (bs.drop (k + 1)).length = N - (k + 1) := by rw [List.length_drop, HB.out]
       have HD := h_ hdl; have HV := h_ hv; clear hv hbad hmore hsum hg hlen hno hll hdl; rcases Nat.eq_or_lt_of_le hk8 with h8 | h8
       ·have b8 : ((k : Int) == 8) = true := by simp; omega
        have hgs : ¬ (63 : Int) < (c : Int) % 128 := by have := h63 h8; omega
        clear h8 h63; go_wp2_with fail; refine (HG.out _).mono ?_; rintro e w2 ⟨ao2, cap2, rfl, b2⟩; go_wp2_with (at_builtin; refine wpList_append_src rfl _ _ rfl w2.heap.size _ 0 [] rfl (owns_of_row (heap_alloc_new _ _) (Nat.le_refl _) (Nat.le_refl _) (Nat.zero_le _) rfl rfl rfl) ao5 (N - (k + 1)) (cap - (k + 1)) rfl ((bs.drop (k + 1)).map B8) (by rw [List.length_map]; exact HD.out) (fun hh => by rw [<- HD.out]; exact hs5.bare hh) (fun ad had j u hu => (hs5.below (b2.alloc b2.size _)).cells ad had j u hu) (B8_one _) (by omega) (by simp) ?_; intro v6 w6 hown6 hg6 hv6; have O6 := h_ (own_first hown6); have G6 := h_ hg6; clear hown6 hg6 hv6)
        have o6 := O6.out; rw [<- HD.out] at o6; obtain ⟨ao7, cap7, B7, rfl, s7, g7⟩ := src_of_own o6; go_ret3
        exact ⟨.inr ⟨x + y, k + 1, ao7, cap7, B7, HV.out, rfl, s7, fun hp => Nat.le_trans b2.size (g7 hp)⟩, (b2.alloc b2.size _).grown G6.out (by have := b2.size; simp; omega) (fun k hk => by cases hk; exact b2.size)⟩
       ·have b8 : ((k : Int) == 8) = false := by simp; omega
        clear h63; go_wp2_with fail; refine (HG.out _).mono ?_; rintro e w2 ⟨ao2, cap2, rfl, b2⟩; go_wp2_with (at_builtin; refine wpList_append_src rfl _ _ rfl w2.heap.size _ 0 [] rfl (owns_of_row (heap_alloc_new _ _) (Nat.le_refl _) (Nat.le_refl _) (Nat.zero_le _) rfl rfl rfl) ao5 (N - (k + 1)) (cap - (k + 1)) rfl ((bs.drop (k + 1)).map B8) (by rw [List.length_map]; exact HD.out) (fun hh => by rw [<- HD.out]; exact hs5.bare hh) (fun ad had j u hu => (hs5.below (b2.alloc b2.size _)).cells ad had j u hu) (B8_one _) (by omega) (by simp) ?_; intro v6 w6 hown6 hg6 hv6; have O6 := h_ (own_first hown6); have G6 := h_ hg6; clear hown6 hg6 hv6)
        have o6 := O6.out; rw [<- HD.out] at o6; obtain ⟨ao7, cap7, B7, rfl, s7, g7⟩ := src_of_own o6; go_ret3
        exact ⟨.inr ⟨x + y, k + 1, ao7, cap7, B7, HV.out, rfl, s7, fun hp => Nat.le_trans b2.size (g7 hp)⟩, (b2.alloc b2.size _).grown G6.out (by have := b2.size; simp; omega) (fun k hk => by cases hk; exact b2.size)⟩
   ·have hv := behind_end HBE.out (by rw [<- HB.out]; omega)
    have HV := h_ hv; clear hv; go_wp2_with fail; go_ret3
    exact ⟨.inl ⟨HV.out, rfl⟩, Below.refl _ _⟩
  ·have HV := h_ hnone
   clear hnone; by_cases h9 : 9 < N
   all_goals
    go_wp2_with fail; go_ret3
    exact ⟨.inl ⟨HV.out, rfl⟩, Below.refl _ _⟩
theorem refTakeNum_no (ao : Option Addr) (cap : Nat) (bs : List UInt8) (B off : Nat) (w : World) (h : SrcAt w ao cap bs B off) (hs : bs.length <= 140737488355328) (hp : parse bs = none) :
  Calls Tryz.prog 94 #[.slice ao bs.length cap] w fun e w' => e = .returned (.tuple #[.int .i64 0, .slice none 0 0, .int .i64 2]) /\ Below w.heap.size w w' := by
 refine (refTakeNum_any ao cap bs B off w h hs).mono ?_; rintro e w' ⟨⟨_, h1⟩ | ⟨n, k, _, _, _, h1, _⟩, hb⟩
 ·exact ⟨h1, hb⟩
 ·rw [hp] at h1; cases h1
theorem refTakeNum_new (ao : Option Addr) (cap : Nat) (bs : List UInt8) (B off : Nat) (w : World) (h : SrcAt w ao cap bs B off) (hs : bs.length <= 140737488355328) (n : Nat) (rest : List UInt8) (hn : n <= 4611686018427387903) (he : bs = numL n ++ rest) :
  Calls Tryz.prog 94 #[.slice ao bs.length cap] w fun e w' => ∃ ao' cap' B', e = .returned (.tuple #[.int .i64 (n : Int), .slice ao' rest.length cap', .int .i64 0]) /\ SrcAt w' ao' cap' rest B' 0 /\ (0 < rest.length -> w.heap.size <= B') /\ Below w.heap.size w w' := by
 have hp := parse_numL n rest hn; rw [<- he] at hp; refine (refTakeNum_any ao cap bs B off w h hs).mono ?_; rintro e w' ⟨⟨h1, _⟩ | ⟨n', k, ao', cap', B', h1, h2, h3, h4⟩, hb⟩
 ·rw [hp] at h1; cases h1
 ·rw [hp] at h1
  simp only [Option.some.injEq, Prod.mk.injEq] at h1; obtain ⟨rfl, rfl⟩ := h1; have e1 : bs.drop (numL n).length = rest := by rw [he, List.drop_left]
  rw [e1] at h2 h3 h4; exact ⟨ao', cap', B', h2, h3, h4, hb⟩
theorem refTakeNum_yes (ao : Option Addr) (cap : Nat) (bs : List UInt8) (B off : Nat) (w : World) (h : SrcAt w ao cap bs B off) (hs : bs.length <= 140737488355328) (n : Nat) (rest : List UInt8) (hn : n <= 4611686018427387903) (he : bs = numL n ++ rest) :
  Calls Tryz.prog 94 #[.slice ao bs.length cap] w fun e w' => ∃ ao' cap' B', e = .returned (.tuple #[.int .i64 (n : Int), .slice ao' rest.length cap', .int .i64 0]) /\ SrcAt w' ao' cap' rest B' 0 /\ Below w.heap.size w w' := by
 refine (refTakeNum_new ao cap bs B off w h hs n rest hn he).mono ?_; rintro e w' ⟨ao', cap', B', h2, h3, _, hb⟩; exact ⟨ao', cap', B', h2, h3, hb⟩
end
section
open Go.RowKit
theorem refTakeText_no (ao : Option Addr) (cap : Nat) (bs : List UInt8) (B off : Nat) (most : Int) (w : World) (h : SrcAt w ao cap bs B off) (hs : bs.length <= 140737488355328) (hp : NoText bs most) :
  Calls Tryz.prog 140 #[.slice ao bs.length cap, .int .i64 most] w fun e w' => e = .returned (.tuple #[.string (SL []), .slice none 0 0, .int .i64 2]) /\ Below w.heap.size w w' := by
 rcases hp with hp | ⟨n, k, hp, hk, hn, hc⟩
 ·have ht := refTakeNum_no ao cap bs B off w h hs hp
  have HT := h_ ht; clear ht hp; go_enter Tryz.func140, Tryz.ntmps140; go_wp2_with fail; refine HT.out.mono ?_; rintro e w1 ⟨rfl, b1⟩; go_wp2_with fail; go_ret3
  exact ⟨rfl, b1⟩
 ·obtain ⟨_, r, he, hkl⟩ := parse_some hp
  have ht := refTakeNum_yes ao cap bs B off w h hs n r hn he; have hrl : bs.length = k + r.length := by rw [hkl, he]; simp
  have HT := h_ ht; have hnb : (n : Int) <= 4611686018427387903 := by omega
  have hrb : r.length <= 140737488355328 := by omega
  have hc' : most < (n : Int) \/ r.length < n := by omega
  clear ht hp hn he hkl hc hrl; by_cases hm : most < (n : Int)
  ·clear hc'
   go_enter Tryz.func140, Tryz.ntmps140; go_wp2_with fail; refine HT.out.mono ?_; rintro e w1 ⟨ao1, cap1, B1, rfl, s1, b1⟩; go_wp2_with fail; go_ret3
   exact ⟨rfl, b1⟩
  ·have hc2 : r.length < n := by rcases hc' with h1 | h1 <;> omega
   clear hc'; go_enter Tryz.func140, Tryz.ntmps140; go_wp2_with fail; refine HT.out.mono ?_; rintro e w1 ⟨ao1, cap1, B1, rfl, s1, b1⟩; go_wp2_with fail; go_ret3
   exact ⟨rfl, b1⟩
end
section
open Go.RowKit
theorem same_true {ao bo : Option Addr} {capa capb : Nat} {l : List UInt8} {A offa B offb : Nat} (w : World) (ha : SrcAt w ao capa l A offa) (hb : SrcAt w bo capb l B offb) :
  Calls Tryz.prog 99 #[.slice ao l.length capa, .slice bo l.length capb] w fun e w' => e = .returned (.bool true) /\ w' = w := by
 have c1 := convert_src ha; have c2 := convert_src hb; obtain ⟨n, hn⟩ := nm_ (l.length); rw [<- hn] at c1 c2 |-; have HN := h_ hn; clear hn; go_enter Tryz.func99, Tryz.ntmps99; go_wp2; go_ret; exact ⟨rfl, rfl⟩
end
section
open Go.RowKit
theorem groups_any (n : Int) (w : World) :
  Calls Tryz.prog 182 #[.int .i64 n] w fun e w' => ∃ v, e = .returned v /\ w'.ownsRow w.heap.size 5 1 v (numL (clampN n)).length ((numL (clampN n)).map B8) /\ Below w.heap.size w w' := by
 obtain ⟨i0, hi, hz0, hz1, hz2⟩ := info_parts info5; have hmk : ∀ u : World, (Instr.makeSlice 29 (.int .i64 0) (.int .i64 9)).run Tryz.prog u =
   .ok (.slice (some ⟨u.heap.size, 0, none⟩) 0 9) (u.alloc (.cells (cells8 (List.replicate 9 0)) 5)) := fun u => by
  have h := run_make (P := Tryz.prog) u 29 5 i0 (.int .u8 0) Tryz.underlying29 hi hz0 .i64 .i64 0 9 (by omega) (by omega) (by rw [hz2]; omega) (by omega)
  simpa [hz1, Value.cells, zeros_made] using h
 obtain ⟨q, hc1, hc2⟩ := clamp_min_max n; have hcl := clampN_le n; obtain ⟨m, hm⟩ : ∃ m : Nat, m = clampN n := ⟨_, rfl⟩
 rw [<- hm] at hc2 hcl |-; obtain ⟨L, hL⟩ : ∃ L : List UInt8, L = numL m := ⟨_, rfl⟩
 rw [<- hL]; have HL := h_ hL; clear hm hL; go_enter Tryz.func182, Tryz.ntmps182; go_wp2; clear hc1 hc2 hmk; obtain ⟨wx, hwx⟩ := nm_ (w.alloc (.cells (cells8 (List.replicate 9 0)) 5)); have hown : wx.ownsRow w.heap.size 5 1 (.slice (some ⟨w.heap.size, 0, none⟩) 0 9) 0 [] := by
  rw [hwx]; exact owns_of_row (heap_alloc_new _ _) (by omega) (by omega) (by unfold maxLen; omega) (by simp [cells8_size]) rfl rfl
 have hbel : Below w.heap.size w wx := by rw [hwx]; exact (Below.refl _ _).alloc (Nat.le_refl _) _
 have hwx' : w.alloc (.cells (cells8 [0, 0, 0, 0, 0, 0, 0, 0, 0]) 5) = wx := hwx.symm
 rw [hwx']; clear hwx hwx'; have HO := h_ hown; clear hown; go_loopw [0, 3] (fun x v wr => ∃ (f k : Nat) (p : List UInt8), x = .int .i64 (k : Int) /\ p.length + f = 8 /\ k < 64 * 128 ^ f /\ L = p ++ numF f k /\ v = .slice (some ⟨w.heap.size, 0, none⟩) p.length 9 /\ wr.ownsRow w.heap.size 5 1 (.slice (some ⟨w.heap.size, 0, none⟩) p.length 9) p.length (p.map B8) /\ Below w.heap.size w wr) (fun x _ _ => (intOf x).toNat)
 case atStart => exact ⟨8, m, [], rfl, rfl, by omega, HL.out, rfl, HO.out, hbel⟩
 case round =>
  clear HO hbel hcl; obtain ⟨f, k, p, rfl, hpf, hk, hLp, rfl, hown, hbel⟩ := hrel; have HO := h_ hown; have HP := h_ hLp; have hkb : (k : Int) <= 4611686018427387903 := by
   have h1 : 128 ^ f <= 128 ^ 8 := Nat.pow_le_pow_right (by omega) (by omega)
   omega
  have HK := h_ hk; have hpl : p.length <= 8 := by omega
  have HF := h_ hpf; clear hown hLp hk hpf; by_cases hlt : 128 <= k
  ·go_wp2_with (at_builtin; refine wpList_append_fits _ rfl _ _ 29 rfl w.heap.size 5 i0 1 Tryz.underlying29 hi hz1 w.heap.size p.length 9 _ rfl (HO.out.alloc _) ⟨_, 0, none⟩ 1 1 _ rfl rfl (news_one _ _) (by simp [Value.oneCell']) (by omega) ?_; intro w1 hown1 hgrow1; have HO1 := h_ hown1; have HG1 := h_ hgrow1; clear hown1 hgrow1)
   obtain ⟨f', rfl, hmore, hless⟩ := numF_more hlt HK.out; have hcell : (.int .u8 ((k : Int) % 128 + 128) : Value) = B8 (UInt8.ofNat (k % 128 + 128)) := by
    unfold B8; rw [UInt8.toNat_ofNat_of_lt' (by show _ < 256; omega)]
    congr 1
   have HC := h_ hcell; have HM := h_ hmore; have HS := h_ hless; clear hcell hmore hless; go_roundw
   case rel =>
    refine ⟨f', k / 128, p ++ [UInt8.ofNat (k % 128 + 128)], by congr 1, ?_, HS.out, ?_, by simp, ?_, ?_⟩
    ·have := HF.out
     simp; omega
    ·rw [HP.out, HM.out, List.append_assoc]; rfl
    ·have h := HO1.out
     rw [HC.out] at h; simpa using h
    ·exact (hbel.alloc hbel.size _).grown HG1.out (by have := hbel.size; simp; omega) (fun k hk => by cases hk; exact Nat.le_refl _)
   case measure => simp [intOf]; omega
  ·have hlast := numF_last (Nat.lt_of_not_le hlt) HK.out
   have hcell : (.int .u8 (k : Int) : Value) = B8 (UInt8.ofNat k) := by
    unfold B8; rw [UInt8.toNat_ofNat_of_lt' (by show _ < 256; omega)]
   have HC := h_ hcell; have HL1 := h_ hlast; clear hcell hlast; go_wp2_with (at_builtin; refine wpList_append_fits _ rfl _ _ 29 rfl w.heap.size 5 i0 1 Tryz.underlying29 hi hz1 w.heap.size p.length 9 _ rfl (HO.out.alloc _) ⟨_, 0, none⟩ 1 1 _ rfl rfl (news_one _ _) (by simp [Value.oneCell']) (by omega) ?_; intro w1 hown1 hgrow1; have HO1 := h_ hown1; have HG1 := h_ hgrow1; clear hown1 hgrow1)
   go_ret; refine ⟨_, rfl, ?_, ?_⟩
   ·have h := HO1.out
    rw [HC.out] at h; rw [HP.out, HL1.out]; simpa using h
   ·exact (hbel.alloc hbel.size _).grown HG1.out (by have := hbel.size; simp; omega) (fun k hk => by cases hk; exact Nat.le_refl _)
end
section
open Go.RowKit
theorem lay_bytes (ao : Option Addr) (cap : Nat) (bs : List UInt8) (B off g cp : Nat) (ls : List (List UInt8)) (w : World) (h : SrcAt w ao cap bs B off) (hg : g < w.heap.size)
  (hput : ∀ k, k < ls.length -> ∃ ao' cap' B' off', w.cell? ⟨g, k, none⟩ = some (.slice ao' (ls.getD k []).length cap') /\ SrcAt w ao' cap' (ls.getD k []) B' off') (hn : ls.length <= 1000) (hs : bs.length + ls.flatten.length <= 281474976710656) :
  Calls Tryz.prog 181 #[.slice ao bs.length cap, .slice (some ⟨g, 0, none⟩) ls.length cp] w fun e w' => ∃ v, e = .returned v /\ w'.ownsRow w.heap.size 5 1 v (bs ++ ls.flatten).length ((bs ++ ls.flatten).map B8) /\ Below w.heap.size w w' := by
 obtain ⟨i0, hi, hz0, hz1, hz2⟩ := info_parts info5; obtain ⟨n, hbn⟩ := nm_ (bs.length); obtain ⟨m, hm⟩ := nm_ (ls.length); obtain ⟨t, ht⟩ := nm_ (ls.flatten.length); rw [<- ht] at hs; rw [<- hm] at hn; rw [<- hbn] at hs; rw [<- hbn, <- hm]; have HB := h_ hbn; have HM := h_ hm; have HT := h_ ht; have HP := h_ hput; clear hbn hm ht hput; go_enter Tryz.func181, Tryz.ntmps181; go_wp2; go_loop [5, 15] (fun x i => ∃ k : Nat, k <= m /\ i = .int .i64 k /\ x = .int .i64 ((n + (ls.take k).flatten.length : Nat) : Int)) (fun _ i => m - (intOf i).toNat)
 case atStart => exact ⟨0, by omega, rfl, by simp⟩
 case round =>
  obtain ⟨k, hk, rfl, rfl⟩ := hrel; have hle := flat_take_le ls k; rw [<- HT.out] at hle; by_cases hlt : k < m
  ·obtain ⟨ao', cap', B', off', hcell, hsrc⟩ := HP.out k (by rw [<- HM.out]; exact hlt)
   have hstep := flat_take ls k (by rw [<- HM.out]; exact hlt)
   have hle2 := flat_take_le ls (k + 1); rw [<- HT.out, hstep, List.length_append] at hle2; obtain ⟨q, hq⟩ := nm_ ((ls.take k).flatten.length); obtain ⟨r, hr⟩ := nm_ ((ls.getD k []).length); have hnext : (ls.take (k + 1)).flatten.length = q + r := by rw [hstep, List.length_append, hq, hr]
   rw [<- hq, <- hr] at hle2; rw [<- hq] at hle |-; rw [<- hr] at hcell; have HN := h_ hnext; clear hnext hq hr hsrc hstep; go_wp2; go_round
   case rel => exact ⟨k + 1, by omega, by go_num, by rw [HN.out]; go_num⟩
   case measure => simp [intOf]; omega
  ·obtain rfl : k = m := by omega
   rw [List.take_of_length_le (by rw [<- HM.out]; omega), <- HT.out]
   go_wp2_with (first
    | (at_make; refine wpList_make_own _ rfl _ _ 29 rfl w.heap.size 5 i0 (.int .u8 0) 1 Tryz.underlying29 hi hz0 hz1 _ _ _ (n + t) rfl rfl (by omega) (by rw [hz2]; omega) (by unfold maxLen; omega) (Nat.le_refl _) ?_; intro w1 hown1 hgrow1; have HO1 := h_ hown1; have HG1 := h_ (below_of_none hgrow1); clear hown1 hgrow1)
    | (at_builtin; refine wpList_append_fits_any _ rfl _ _ 29 rfl w.heap.size 5 i0 1 Tryz.underlying29 hi hz1 w.heap.size 0 (n + t) [] rfl HO1.out ao n cap (bs.map B8) rfl (by rw [List.length_map, Nat.mul_one]; exact HB.out.symm) (fun hh => by rw [HB.out]; exact h.bare hh) (h.below HG1.out).cells (B8_one _) (by omega) ?_; intro w2 hown2 hgrow2; have HO2 := h_ hown2; have HG2 := h_ hgrow2; clear hown2 hgrow2))
   have hw2 : w2.ownsRow w.heap.size 5 1 (.slice (some ⟨w.heap.size, 0, none⟩) n (n + t)) n (bs.map B8) /\ Below w.heap.size w w2 :=
    ⟨by have h1 := HO2.out; rw [Nat.zero_add, List.nil_append] at h1; exact h1, HG1.out.grown HG2.out HG1.out.size (fun k hk => by cases hk; exact Nat.le_refl _)⟩
   obtain ⟨o2, b2⟩ := hw2; have O2 := h_ o2; clear o2 HO1 HG1 HO2 HG2 hle hlt hk; generalize Value.int IntKind.i64 ((n : Int) + (t : Int)) = y5
   go_loopw [8, 30] (fun v i wr => ∃ j : Nat, j <= k /\ i = .int .i64 j /\ v = .slice (some ⟨w.heap.size, 0, none⟩) (n + (ls.take j).flatten.length) (n + t) /\ wr.ownsRow w.heap.size 5 1 (.slice (some ⟨w.heap.size, 0, none⟩) (n + (ls.take j).flatten.length) (n + t)) (n + (ls.take j).flatten.length) ((bs ++ (ls.take j).flatten).map B8) /\ Below w.heap.size w wr) (fun _ i _ => k - (intOf i).toNat)
   case atStart => exact ⟨0, by omega, rfl, rfl, by simpa using O2.out, b2⟩
   case round =>
    clear O2 b2; obtain ⟨j, hj, rfl, rfl, hown, hbel⟩ := hrel; have HO := h_ hown; have hle := flat_take_le ls j; rw [<- HT.out] at hle; clear hown; by_cases hlt : j < k
    ·obtain ⟨ao', cap', B', off', hcell, hsrc⟩ := HP.out j (by rw [<- HM.out]; exact hlt)
     have hstep := flat_take ls j (by rw [<- HM.out]; exact hlt)
     have hle2 := flat_take_le ls (j + 1); rw [<- HT.out, hstep, List.length_append] at hle2; obtain ⟨q, hq⟩ := nm_ ((ls.take j).flatten.length); obtain ⟨r, hr⟩ := nm_ ((ls.getD j []).length); have hnext : (ls.take (j + 1)).flatten.length = q + r := by rw [hstep, List.length_append, hq, hr]
     rw [<- hq, <- hr] at hle2; rw [<- hq] at hle HO |-; rw [<- hr] at hcell; have hcell' := (hbel.cell (p := ⟨g, j, none⟩) hg).trans hcell
     have HR := h_ hr; have HN := h_ hnext; have HS := h_ hstep; clear hcell hnext hq hr hstep; go_wp2_with (at_builtin; refine wpList_append_fits_any _ rfl _ _ 29 rfl w.heap.size 5 i0 1 Tryz.underlying29 hi hz1 w.heap.size (n + q) (n + t) _ rfl HO.out ao' r cap' ((ls.getD j []).map B8) rfl (by rw [List.length_map, Nat.mul_one]; exact HR.out.symm) (fun hh => by rw [HR.out]; exact hsrc.bare hh) (hsrc.below hbel).cells (B8_one _) (by omega) ?_; intro w3 hown3 hgrow3; have HO3 := h_ hown3; have HG3 := h_ hgrow3; clear hown3 hgrow3)
     go_roundw
     case rel =>
      refine ⟨j + 1, by omega, by go_num, by rw [HN.out, Nat.add_assoc], ?_, hbel.grown HG3.out hbel.size (fun k hk => by cases hk; exact Nat.le_refl _)⟩
      have h1 := HO3.out; rw [<- List.map_append, List.append_assoc, Nat.add_assoc] at h1; rw [HN.out, HS.out]; exact h1
     case measure => simp [intOf]; omega
    ·obtain rfl : j = k := by omega
     rw [List.take_of_length_le (by rw [<- HM.out]; omega), <- HT.out] at HO |-
     go_wp2; go_ret; exact ⟨_, rfl, by rw [List.length_append, <- HT.out, <- HB.out]; exact HO.out, hbel⟩
end
section
open Go.RowKit
theorem putNum_any (ao : Option Addr) (cap : Nat) (bs : List UInt8) (B off : Nat) (n : Int) (w : World) (h : SrcAt w ao cap bs B off) (hs : bs.length <= 281474976710000) :
  Calls Tryz.prog 169 #[.slice ao bs.length cap, .int .i64 n] w fun e w' => ∃ v, e = .returned v /\ w'.ownsRow w.heap.size 5 1 v (bs ++ numL (clampN n)).length ((bs ++ numL (clampN n)).map B8) /\ Below w.heap.size w w' := by
 have hl := numL_le (clampN n); obtain ⟨L, hL⟩ := nm_ (numL (clampN n)); have hg : ∀ W : World, Calls Tryz.prog 182 #[.int .i64 n] W fun e w' => ∃ v, e = .returned v /\ w'.ownsRow W.heap.size 5 1 v L.length (L.map B8) /\ Below W.heap.size W w' := by
  rw [hL]; exact groups_any n
 rw [<- hL] at hl |-; have HG := h_ hg; clear hL hg; go_enter Tryz.func169, Tryz.ntmps169; go_wp2_with fail; refine (HG.out _).mono ?_; rintro e w1 ⟨v1, rfl, o1, b1⟩; obtain ⟨ao2, cap2, B2, rfl, s2, _⟩ := src_of_own o1; go_wp2_with fail; have bx : Below w.heap.size w (w1.alloc (.cells #[.slice ao2 L.length cap2] 29)) := b1.alloc b1.size _; have by1 : Below w1.heap.size w1 (w1.alloc (.cells #[.slice ao2 L.length cap2] 29)) := (Below.refl _ _).alloc (Nat.le_refl _) _; refine (lay_bytes ao cap bs B off w1.heap.size 1 [L] _ (h.below bx) (by simp) (fun k hk => ?_) (by simp) (by simp; omega)).mono ?_
 ·obtain rfl : k = 0 := by simpa using hk
  exact ⟨ao2, cap2, B2, 0, by rw [cell_of_row _ _ _ _ _ _ (heap_alloc_new w1 _)]; rfl, s2.below by1⟩
 ·rintro e w3 ⟨v3, rfl, o3, b3⟩
  go_wp2_with fail; go_ret; have e1 : bs ++ [L].flatten = bs ++ L := by simp
  rw [e1] at o3; exact ⟨_, rfl, own_base o3 bx.size, bx.trans (b3.mono bx.size)⟩
end
section
open Go.RowKit
structure OutTurned (base : Nat) (w w' : World) : Prop where
 below : Below base w w'
 other : ∀ (k : Nat) (o : Obj), w.heap[k]? = some o -> (∀ cs fr, o ≠ Obj.cells cs 5 fr) -> w'.heap[k]? = some o
theorem OutTurned.refl (base : Nat) (w : World) : OutTurned base w w := ⟨Below.refl _ _, fun _ _ h _ => h⟩
theorem OutTurned.trans {base : Nat} {a b c : World} (h : OutTurned base a b) (k : OutTurned base b c) : OutTurned base a c :=
 ⟨h.below.trans k.below, fun i o h1 h2 => k.other i o (h.other i o h1 h2) h2⟩
theorem OutTurned.of_below {base : Nat} {w w' : World} (hb : base <= w.heap.size) (h : Below w.heap.size w w') : OutTurned base w w' :=
 ⟨h.mono hb, fun _ _ h1 _ => below_heap h h1⟩
theorem OutTurned.of_grown {base n : Nat} {v : Value} {xs : List Value} {w w' : World} (hb : base <= w.heap.size) (h : w.ownsRow base 5 1 v n xs) (hg : w.grownBy w' v.ownBlock) : OutTurned base w w' := by
 rcases h.2 with ⟨rfl, _⟩ | ⟨g, cap, cur, rfl, h2, h3, _⟩
 ·exact ⟨⟨hg.os, hg.tape, hg.output, hg.size, fun k hk => hg.block k (by omega) (fun e => by cases e)⟩, fun k o h1 _ => (hg.block k (ge_ h1).1 (fun e => by cases e)).trans h1⟩
 ·refine ⟨⟨hg.os, hg.tape, hg.output, hg.size, fun k hk => hg.block k (by omega) (fun e => ?_)⟩, fun k o h1 h4 => (hg.block k (ge_ h1).1 (fun e => ?_)).trans h1⟩
  ·have e2 : k = g := Option.some.inj e
   omega
  ·have e2 : k = g := Option.some.inj e
   rw [e2, h3] at h1; exact h4 _ _ (Option.some.inj h1).symm
theorem SrcAt.keep {w w' : World} {ao : Option Addr} {cap : Nat} {bs : List UInt8} {B off base : Nat} (h : SrcAt w ao cap bs B off) (hB : 0 < bs.length -> B < base) (hb : Below base w w') : SrcAt w' ao cap bs B off :=
 ⟨h.le, h.top, h.src, h.bare, fun hp => Nat.lt_of_lt_of_le (h.old hp) hb.size, fun j hj => (hb.cell (hB (by omega))).trans (h.cell j hj)⟩
def PutTo (base : Nat) (w : World) (l : List UInt8) (e : Ending) (w' : World) : Prop :=
 ∃ v, e = .returned v /\ w'.ownsRow base 5 1 v l.length (l.map B8) /\ OutTurned base w w'
theorem rowPutNumTo (base : Nat) (v : Value) (O : List UInt8) (z : Int) (w : World) (hb : base <= w.heap.size) (h : w.ownsRow base 5 1 v O.length (O.map B8)) (hs : O.length + 9 <= 225000000000000) :
  Calls Tryz.prog 145 #[v, .int .i64 z] w (PutTo base w (O ++ numL (clampN z))) := by
 have hl := numL_le (clampN z); obtain ⟨L, hL⟩ := nm_ (numL (clampN z)); have hg : Calls Tryz.prog 169 #[.slice none 0 0, .int .i64 z] w fun e w' => ∃ v, e = .returned v /\ w'.ownsRow w.heap.size 5 1 v L.length (L.map B8) /\ Below w.heap.size w w' := by
  have h1 := putNum_any none 0 [] 0 0 z w (src_nil w) (by simp)
  rw [List.nil_append, <- hL] at h1; exact h1
 rw [<- hL] at hl |-; obtain ⟨n, hn⟩ := nm_ (O.length); rw [<- hn] at h hs; have HN := h_ hn; have HG := h_ hg; clear hL hg hn; go_enter Tryz.func145, Tryz.ntmps145; go_wp2_with fail; refine HG.out.mono ?_; rintro e w1 ⟨v1, rfl, o1, b1⟩; obtain ⟨ao2, cap2, B2, rfl, s2, _⟩ := src_of_own o1; have h1 := own_below h b1; have hz := b1.size; go_wp2_with (at_builtin; refine wpList_append_src rfl _ _ rfl base v n _ rfl h1 ao2 L.length cap2 rfl (L.map B8) (by simp) s2.bare s2.cells (B8_one _) (by omega) (by omega) ?_; intro v3 w3 hown3 hg3 hv3; clear hv3)
 go_ret; refine ⟨_, rfl, ?_, (OutTurned.of_below hb b1).trans (OutTurned.of_grown (by omega) h1 hg3)⟩
 have h3 := hown3.out; rw [<- List.map_append, HN.out] at h3; rw [List.length_append]; exact h3
end
section
open Go.RowKit
theorem clampN_run {n : Nat} (h0 : 0 < n) (h : n <= 281474976710656) : clampN (2 * ((n : Int) - 1)) = 2 * (n - 1) := by
 have e : 2 * ((n : Int) - 1) = ((2 * (n - 1) : Nat) : Int) := by omega
 rw [e, clampN_nat _ (by omega)]
theorem putRunTo (base : Nat) (v : Value) (O : List UInt8) (ao : Option Addr) (cap : Nat) (r : List UInt8) (B off : Nat) (w : World) (hb : base <= w.heap.size) (h : w.ownsRow base 5 1 v O.length (O.map B8)) (hr : SrcAt w ao cap r B off) (hB : 0 < r.length -> B < base) (hs : O.length + 9 + r.length <= 225000000000000) :
  Calls Tryz.prog 147 #[v, .slice ao r.length cap] w (PutTo base w (O ++ runT r)) := by
 by_cases h0 : r.length = 0
 ·have e : runT r = [] := by rw [runT, if_pos h0]
  rw [e, List.append_nil, h0]; go_enter Tryz.func147, Tryz.ntmps147; go_wp2; go_ret; exact ⟨_, rfl, h, OutTurned.refl _ _⟩
 ·have hput := rowPutNumTo base v O (2 * ((r.length : Int) - 1)) w hb h (by omega)
  rw [clampN_run (by omega) (by omega)] at hput
  have hl := numL_le (2 * (r.length - 1)); rw [runT_pos (by omega)]
  obtain ⟨L, hL⟩ := nm_ (numL (2 * (r.length - 1))); rw [<- hL] at hput hl |-; obtain ⟨n, hn⟩ := nm_ (r.length); rw [<- hn] at hput hs h0 |-; have HP := h_ hput; have HN := h_ hn; have hq : ((n : Int) == 0) = false := by simp; omega
  clear hput hL hn h; go_enter Tryz.func147, Tryz.ntmps147; go_wp2_with fail; refine HP.out.mono ?_; rintro e w1 ⟨v1, rfl, o1, t1⟩; have hz := t1.below.size; have r1 := hr.keep hB t1.below; obtain ⟨m, hm⟩ := nm_ ((O ++ L).length); have hml : m <= O.length + 9 := by rw [hm, List.length_append]; omega
  rw [<- hm] at o1; have HM := h_ hm; clear hm; go_wp2_with (at_builtin; refine wpList_append_src rfl _ _ rfl base v1 m _ rfl o1 ao n cap rfl (r.map B8) (by rw [List.length_map]; exact HN.out.symm) (fun hh => by rw [HN.out]; exact r1.bare hh) r1.cells (B8_one _) (by omega) (by omega) ?_; intro v3 w3 hown3 hg3 hv3; clear hv3)
  go_ret; refine ⟨_, rfl, ?_, t1.trans (OutTurned.of_grown (by omega) o1 hg3)⟩
  have h3 := hown3.out; rw [<- List.map_append, HM.out, HN.out, <- List.length_append, List.append_assoc] at h3; exact h3
theorem putCopyTo (base : Nat) (v : Value) (O : List UInt8) (n d : Nat) (w : World) (hb : base <= w.heap.size) (h : w.ownsRow base 5 1 v O.length (O.map B8)) (h4 : 4 <= n) (hn : n <= 259) (hd : d <= 4096) (hs : O.length + 18 <= 225000000000000) :
  Calls Tryz.prog 148 #[v, .int .i64 (n : Int), .int .i64 (d : Int)] w (PutTo base w (O ++ (numL (2 * (n - 4) + 1) ++ numL d))) := by
 have hl := numL_le (2 * (n - 4) + 1); have p1 := rowPutNumTo base v O (2 * ((n : Int) - 4) + 1) w hb h (by omega)
 have e1 : 2 * ((n : Int) - 4) + 1 = ((2 * (n - 4) + 1 : Nat) : Int) := by omega
 have e2 : clampN (2 * ((n : Int) - 4) + 1) = 2 * (n - 4) + 1 := by rw [e1, clampN_nat _ (by omega)]
 rw [e2] at p1; have hd0 : clampN (d : Int) = d := clampN_nat d (by omega)
 obtain ⟨L, hL⟩ := nm_ (numL (2 * (n - 4) + 1)); rw [<- hL] at p1 hl |-; have P1 := h_ p1; have HD := h_ hd0; have hlo : (4 : Int) <= (n : Int) := by omega
 have hhi : (n : Int) <= 259 := by omega
 clear p1 e1 e2 hL hd0; go_enter Tryz.func148, Tryz.ntmps148; go_wp2_with fail; refine P1.out.mono ?_; rintro e w1 ⟨v1, rfl, o1, t1⟩; have hz := t1.below.size; go_wp2_with fail; refine (rowPutNumTo base v1 (O ++ L) (d : Int) w1 (by omega) o1 (by rw [List.length_append]; omega)).mono ?_
 rintro e w2 ⟨v2, rfl, o2, t2⟩; rw [HD.out] at o2; clear o1; go_wp2_with fail; go_ret; rw [List.append_assoc] at o2; exact ⟨_, rfl, o2, t1.trans t2⟩
end
section
def layOn (s : Files) (l : Files) : Files := l.foldl (fun s f => putF f.1 f.2 s) s
def layF (l : Files) : Files := layOn [] l
def bareF (l : Files) : Files := l.map fun f => (f.1, [])
theorem layOn_rising : ∀ (l s : Files), Rising s -> Rising (layOn s l)
 | [], _, h => h
 | _ :: r, _, h => layOn_rising r _ h.put
theorem layF_rising (l : Files) : Rising (layF l) := layOn_rising l [] Rising.nil
theorem layF_one (l : Files) (f : Bs × Bs) : layF (l ++ [f]) = putF f.1 f.2 (layF l) := by
 unfold layF layOn; rw [List.foldl_append]; rfl
theorem layOn_find (m : Bs) : ∀ (l s : Files), (∀ f ∈ l, f.1 ≠ m) -> findF m (layOn s l) = findF m s
 | [], _, _ => rfl
 | f :: r, s, h => by
  show findF m (layOn (putF f.1 f.2 s) r) = _
  rw [layOn_find m r _ (fun g hg => h g (List.mem_cons_of_mem _ hg)), findF_put_other _ (fun e => h f List.mem_cons_self e.symm)]
theorem layOn_mem (m : Bs) : ∀ (l s : Files), (∃ f ∈ l, f.1 = m) -> ∃ b, (m, b) ∈ l /\ findF m (layOn s l) = some b
 | [], _, h => by obtain ⟨_, h, _⟩ := h; cases h
 | f :: r, s, h => by
  by_cases hr : ∃ g ∈ r, g.1 = m
  ·obtain ⟨b, h1, h2⟩ := layOn_mem m r (putF f.1 f.2 s) hr
   exact ⟨b, List.mem_cons_of_mem _ h1, h2⟩
  ·obtain ⟨g, hg, he⟩ := h
   rcases List.mem_cons.1 hg with rfl | hg
   ·refine ⟨g.2, by rw [<- he]; exact List.mem_cons_self, ?_⟩
    show findF m (layOn (putF g.1 g.2 s) r) = _
    rw [layOn_find m r _ (fun k hk e => hr ⟨k, hk, e⟩), <- he, findF_put_same]
   ·exact absurd ⟨g, hg, he⟩ hr
theorem layF_there (m : Bs) (l : Files) : thereF m (layF l) = true ↔ ∃ f ∈ l, f.1 = m := by
 by_cases h : ∃ f ∈ l, f.1 = m
 ·obtain ⟨b, _, h2⟩ := layOn_mem m l [] h
  simp only [thereF, layF, h2, Option.isSome_some, true_iff]; exact h
 ·have h2 := layOn_find m l [] (fun f hf e => h ⟨f, hf, e⟩)
  simp only [thereF, layF, h2, h, iff_false]; simp [findF]
theorem layF_bare (m : Bs) (l : Files) : thereF m (layF (bareF l)) = thereF m (layF l) := by
 have h : (∃ f ∈ bareF l, f.1 = m) ↔ ∃ f ∈ l, f.1 = m := by
  unfold bareF; constructor
  ·rintro ⟨f, hf, e⟩
   obtain ⟨g, hg, rfl⟩ := List.mem_map.1 hf; exact ⟨g, hg, e⟩
  ·rintro ⟨f, hf, e⟩
   exact ⟨_, List.mem_map.2 ⟨f, hf, rfl⟩, e⟩
 have h1 := layF_there m (bareF l); have h2 := layF_there m l; rw [h] at h1
 cases h3 : thereF m (layF (bareF l)) <;> cases h4 : thereF m (layF l) <;> simp_all
theorem layF_in {n b : Bs} {l : Files} (h : findF n (layF l) = some b) : (n, b) ∈ l := by
 by_cases hm : ∃ f ∈ l, f.1 = n
 ·obtain ⟨c, h1, h2⟩ := layOn_mem n l [] hm
  have : findF n (layF l) = some c := h2
  rw [h] at this; rw [Option.some.inj this]; exact h1
 ·have h2 : findF n (layF l) = findF n [] := layOn_find n l [] (fun f hf e => hm ⟨f, hf, e⟩)
  rw [h] at h2
  cases h2
theorem layOn_ext : ∀ (l s t : Files), (∀ m, (∀ f ∈ l, f.1 ≠ m) -> findF m s = findF m t) -> ∀ m, findF m (layOn s l) = findF m (layOn t l)
 | [], _, _, h, m => h m (fun f hf => by cases hf)
 | f :: r, s, t, h, m => by
  refine layOn_ext r (putF f.1 f.2 s) (putF f.1 f.2 t) (fun k hk => ?_) m
  by_cases e : k = f.1
  ·rw [e, findF_put_same, findF_put_same]
  ·rw [findF_put_other _ e, findF_put_other _ e]
   refine h k (fun g hg => ?_)
   rcases List.mem_cons.1 hg with rfl | hg
   ·exact fun e2 => e e2.symm
   ·exact hk g hg
theorem layF_twice (l : Files) : layF (bareF l ++ l) = layF l := by
 refine rising_ext (layF_rising _) (layF_rising _) fun m => ?_
 have h : layF (bareF l ++ l) = layOn (layF (bareF l)) l := by
  unfold layF layOn; rw [List.foldl_append]
 rw [h]; refine layOn_ext l _ [] (fun k hk => ?_) m
 refine layOn_find k (bareF l) [] (fun f hf => ?_)
 unfold bareF at hf; obtain ⟨g, hg, rfl⟩ := List.mem_map.1 hf; exact hk g hg
theorem layF_length (l : Files) : (layF l).length <= l.length := by
 have h : ∀ (l s : Files), (layOn s l).length <= s.length + l.length := by
  intro l
  induction l with
  | nil => intro s; exact Nat.le_refl _
  | cons f r ih =>
   intro s
   have h1 := ih (putF f.1 f.2 s); have h2 := putF_length_le (n := f.1) (x := f.2) (l := s)
   show (layOn (putF f.1 f.2 s) r).length <= _
   simp only [List.length_cons]; omega
 have := h l []
 simp at this
 exact this
def Fit (L : Files) (k : Nat) : Prop := ∀ i, i < k -> ∀ n b, L[i]? = some (n, b) -> named n = true /\ thereF n (layF (L.take i)) = false
theorem fit_zero (L : Files) : Fit L 0 := fun _ hi => absurd hi (Nat.not_lt_zero _)
theorem Fit.more {L : Files} {k : Nat} (h : Fit L k) {n b : Bs} (hf : L[k]? = some (n, b)) (h1 : named n = true) (h2 : thereF n (layF (L.take k)) = false) : Fit L (k + 1) := fun i hi m c hm => by
 by_cases e : i = k
 ·subst e
  rw [hf] at hm
  cases hm
  exact ⟨h1, h2⟩
 ·exact h i (by omega) m c hm
theorem fit_not {L : Files} {k : Nat} {n b : Bs} (hf : L[k]? = some (n, b)) (h : ¬ (named n = true /\ thereF n (layF (L.take k)) = false)) : ¬ Fit L L.length := fun hF => h (hF k (List.getElem?_eq_some_iff.1 hf).1 n b hf)
theorem take_one {L : Files} {k : Nat} {n b : Bs} (hf : L[k]? = some (n, b)) : L.take (k + 1) = L.take k ++ [(n, b)] := by rw [List.take_add_one, hf]; rfl
theorem Fit.costs {L : Files} : ∀ {k : Nat}, Fit L k -> k <= L.length -> costs (layF (L.take k)) = costs (L.take k)
 | 0, _, _ => by simp [layF, layOn]
 | k + 1, h, hk => by
  obtain ⟨⟨n, b⟩, hf⟩ : ∃ f, L[k]? = some f := ⟨_, List.getElem?_eq_getElem (by omega)⟩
  have ih := Fit.costs (k := k) (fun i hi => h i (by omega)) (by omega)
  have h2 := (h k (by omega) n b hf).2
  rw [take_one hf, layF_one, costs_append]; have h3 : findF n (layF (L.take k)) = none := by
   unfold thereF at h2
   cases hh : findF n (layF (L.take k)) with
   | none => rfl
   | some x => rw [hh] at h2; cases h2
  rw [costs_put_new h3, ih]; rfl
end
end Go.Proofs.YtomgijcbekjlaaaGreat
