/- The walks of takeNum, takeCopy, takeToken. -/
import Derived.Test.YtngmcndcfkflfaaSteps
import Derived.Test.YtngmcndcfkflfaaAppNew
import Derived.Test.YtngmcndcfkflfaaCodeTakeNum
import Derived.Deep.RegionHeld3
namespace Go.Proofs.Ytngmcndcfkflfaa
open Go.RowKit
theorem nine_min (n : Nat) : (if (n : Int) > 9 then (9 : Int) else (n : Int)) = ((min n 9 : Nat) : Int) := by split <;> omega
set_option maxRecDepth 100000 in
set_option maxHeartbeats 800000 in
theorem pNum_no (ao : Option Addr) (cap : Nat) (p : List UInt8) (B off : Nat) (w : World) (h : SrcAt w ao cap p B off) (hs : p.length ≤ 281474976710656) (hp : parse p = none) :
    Calls Try.prog 24 #[.slice ao p.length cap] w fun e w' => e = .returned (.tuple #[.int .i64 0, .slice none 0 0, .int .i64 2]) ∧ w' = w := by
  obtain ⟨a1, hs1, r1⟩ := h.slice_h (min p.length 9) (Nat.min_le_left _ _)
  have e1 : p.take (min p.length 9) = p.take 9 := by
    rw [Nat.min_comm, ← List.take_take, List.take_length]
  have l1 : (p.take 9).length = min p.length 9 := by rw [List.length_take]; omega
  rw [e1] at r1
  have ht := takeNum_no a1 cap (p.take 9) B off w r1 (by omega) (parse_nine p hp)
  rw [l1] at ht
  have hmin := nine_min p.length
  obtain ⟨n, hn⟩ : ∃ n, n = p.length := ⟨_, rfl⟩
  rw [← hn] at hs hs1 ht hmin ⊢
  obtain ⟨m, hm⟩ : ∃ m, m = min n 9 := ⟨_, rfl⟩
  rw [← hm] at hs1 ht hmin
  have HT := Lib.hid ht
  have hmn : m ≤ n := by omega
  clear ht hm hn e1 l1 r1
  go_enter Try.func24, Try.ntmps24
  go_wp2_with fail
  refine HT.out.mono ?_
  rintro e w1 ⟨rfl, rfl⟩
  go_wp2_with fail
  go_ret3
  exact ⟨rfl, rfl⟩
/-- What takeNum leaves where a number is there. -/
def NumTaken (w : World) (n : Nat) (r : List UInt8) (B : Nat) (e : Ending) (w' : World) : Prop :=
  ∃ ao cap off, e = .returned (.tuple #[.int .i64 (n : Int), .slice ao r.length cap, .int .i64 0]) ∧ SrcAt w' ao cap r B off ∧ Below w.heap.size w w'
set_option maxRecDepth 100000 in
set_option maxHeartbeats 800000 in
theorem pNum_yes (ao : Option Addr) (cap : Nat) (p : List UInt8) (B off : Nat) (w : World) (h : SrcAt w ao cap p B off) (hs : p.length ≤ 281474976710656) (t : Nat) (r : List UInt8) (ht : t ≤ 4611686018427387903) (he : p = numL t ++ r) :
    Calls Try.prog 24 #[.slice ao p.length cap] w (NumTaken w t r B) := by
  obtain ⟨a1, hs1, r1⟩ := h.slice_h (min p.length 9) (Nat.min_le_left _ _)
  have e1 : p.take (min p.length 9) = p.take 9 := by
    rw [Nat.min_comm, ← List.take_take, List.take_length]
  have l1 : (p.take 9).length = min p.length 9 := by rw [List.length_take]; omega
  have k9 := numL_le t
  have kp := numL_pos t
  obtain ⟨k, hk⟩ : ∃ k, k = (numL t).length := ⟨_, rfl⟩
  have hpl : p.length = k + r.length := by rw [he, List.length_append, hk]
  have e2 : p.take 9 = numL t ++ r.take (9 - k) := by rw [he, take_nine, hk]
  have hr : r = p.drop k := by rw [he, hk, List.drop_left]
  rw [e1] at r1
  have htk := takeNum_yes a1 cap (p.take 9) B off w r1 (by omega) t (r.take (9 - k)) ht e2
  have l2 : (r.take (9 - k)).length = min p.length 9 - k := by rw [List.length_take]; omega
  rw [l1, l2] at htk
  have htk2 : Calls Try.prog 35 #[.slice a1 (min p.length 9) cap] w fun e w' => (∃ ao' cap', e = .returned (.tuple #[.int .i64 (t : Int), .slice ao' (min p.length 9 - k) cap', .int .i64 0])) ∧ Below w.heap.size w w' :=
    htk.mono fun e w' ⟨ao', cap', B', h1, _, h2⟩ => ⟨⟨ao', cap', h1⟩, h2⟩
  obtain ⟨a3, hs3, r3⟩ := h.slice_l k (by omega)
  rw [← hr] at r3
  have hrl : p.length - k = r.length := by omega
  rw [hrl] at hs3
  have hmin := nine_min p.length
  rw [← hk] at k9 kp
  obtain ⟨n, hn⟩ : ∃ n, n = p.length := ⟨_, rfl⟩
  rw [← hn] at hs hs1 htk2 hmin hpl hs3 ⊢
  obtain ⟨m, hm⟩ : ∃ m, m = min n 9 := ⟨_, rfl⟩
  rw [← hm] at hs1 htk2 hmin
  have HT := Lib.hid htk2
  have hmn : m ≤ n := by omega
  have hkm : k ≤ m := by omega
  obtain ⟨j, hj⟩ : ∃ j, j = m - k := ⟨_, rfl⟩
  rw [← hj] at HT
  have hmj : (m : Int) - (j : Int) = (k : Int) := by omega
  have hx : IntKind.i64.wrap ((m : Int) - (j : Int)) = (k : Int) := by rw [hmj]; exact IntWalk.i64_in _ (by omega)
  have hk0 : (0 : Int) ≤ (k : Int) := by omega
  have hkn : (k : Int) ≤ (n : Int) := by omega
  obtain ⟨q, hq⟩ : ∃ q, q = r.length := ⟨_, rfl⟩
  rw [← hq] at hs3
  have HQ := Lib.hid hq
  clear htk htk2 hm hn e1 e2 l1 l2 r1 hj hk hr hrl he hpl hq
  go_enter Try.func24, Try.ntmps24
  go_wp2_with fail
  refine HT.out.mono ?_
  rintro e w1 ⟨⟨a2, c2, rfl⟩, b1⟩
  go_wp2_with fail
  go_quiet (fail)
  go_wp2_with fail
  go_ret3
  exact ⟨a3, cap - k, off + k, by rw [← HQ.out]; rfl, r3.below (below_drewN b1 _), below_drewN b1 _⟩
/-- What takeCopy and takeToken leave. -/
def TokenTo (base : Nat) (w : World) (B : Nat) (R : Option (List UInt8 × List UInt8)) (e : Ending) (w' : World) : Prop :=
  match R with
  | none => e = .returned (.tuple #[.slice none 0 0, .slice none 0 0, .int .i64 2]) ∧ Below base w w'
  | some (O, p) => ∃ v ao cap off, e = .returned (.tuple #[v, .slice ao p.length cap, .int .i64 0]) ∧ w'.ownsRow base 5 1 v O.length (O.map B8) ∧ SrcAt w' ao cap p B off ∧ Below base w w'
/-- A slice of old is what it was. -/
theorem SrcAt.keep2 {w w' : World} {ao : Option Addr} {cap : Nat} {bs : List UInt8} {B off base : Nat} (h : SrcAt w ao cap bs B off) (hB : 0 < bs.length → B < base) (hb : Below base w w') : SrcAt w' ao cap bs B off :=
  ⟨h.le, h.top, h.src, h.bare, fun hp => Nat.lt_of_lt_of_le (h.old hp) hb.size, fun j hj => (hb.cell (hB (by omega))).trans (h.cell j hj)⟩
theorem many_min (n : Nat) : (if (n : Int) > 4096 then (4096 : Int) else (n : Int)) = ((min n 4096 : Nat) : Int) := by split <;> omega
theorem room_min (n : Nat) : (if (n : Int) > 259 then (259 : Int) else (n : Int)) = ((min n 259 : Nat) : Int) := by split <;> omega
set_option maxRecDepth 100000 in
set_option maxHeartbeats 1600000 in
theorem takeCopy_any (base : Nat) (v : Value) (O : List UInt8) (ao : Option Addr) (cap : Nat) (q : List UInt8) (B off n size room : Nat) (w : World) (hb : base ≤ w.heap.size) (ho : w.ownsRow base 5 1 v O.length (O.map B8))
    (hq : SrcAt w ao cap q B off) (hB : 0 < q.length → B < base) (hs : q.length ≤ 281474976710656) (hn4 : 4 ≤ n) (hn : n ≤ 4611686018427387903) (hO : O.length ≤ size) (hsz : size ≤ 140737488355328) (hroom : room = size - O.length) :
    Calls Try.prog 36 #[v, .slice ao q.length cap, .int .i64 (n : Int), .int .i64 (room : Int)] w (TokenTo base w B (copyStep size O q n)) := by
  obtain ⟨oa, oc, OB, rfl, so, hOB⟩ := src_of_own ho
  rcases parse_cases q with hp | ⟨d, r, hd, he⟩
  · rw [copyStep_bad hp]
    have ht := pNum_no ao cap q B off w hq hs hp
    obtain ⟨k, hk⟩ : ∃ k, k = O.length := ⟨_, rfl⟩
    obtain ⟨m, hm⟩ : ∃ m, m = q.length := ⟨_, rfl⟩
    rw [← hk] at hO ⊢
    rw [← hm] at ht ⊢
    have HT := Lib.hid ht
    clear ht hk hm hroom hp
    go_enter Try.func36, Try.ntmps36
    go_wp2_with fail
    refine HT.out.mono ?_
    rintro e w1 ⟨rfl, rfl⟩
    go_wp2_with fail
    go_ret3
    exact ⟨rfl, Below.refl _ _⟩
  · have hcs := copyStep_num (size := size) (O := O) (r := r) (n := n) hd
    rw [← he] at hcs
    rw [hcs]
    have ht := pNum_yes ao cap q B off w hq hs d r hd he
    have hm1 := many_min O.length
    have hm2 := room_min room
    obtain ⟨k, hk⟩ : ∃ k, k = O.length := ⟨_, rfl⟩
    obtain ⟨m, hm⟩ : ∃ m, m = q.length := ⟨_, rfl⟩
    obtain ⟨x1, hx1⟩ : ∃ x, x = min O.length 4096 := ⟨_, rfl⟩
    obtain ⟨x2, hx2⟩ : ∃ x, x = min room 259 := ⟨_, rfl⟩
    rw [← hx1] at hm1
    rw [← hx2] at hm2
    have hx2' : min (size - O.length) 259 = x2 := by rw [hx2, hroom]
    rw [hx2', ← hx1]
    have hx1k : x1 ≤ O.length := by omega
    rw [← hk] at hO hm1 hx1k ⊢
    rw [← hm] at ht ⊢
    have HT := Lib.hid ht
    have HK := Lib.hid hk
    have hx259 : x2 ≤ 259 := by omega
    have hxr : x2 ≤ room := by omega
    have hkr : k + room ≤ 140737488355328 := by omega
    have HO := Lib.hid ho
    have HSO := Lib.hid so
    have hrB : 0 < r.length → B < base := fun hp => hB (by rw [he, List.length_append]; omega)
    have HRB := Lib.hid hrB
    clear ht hk hm hroom hcs he hx1 hx2 hx2' ho so hrB
    by_cases hd0 : d = 0
    · subst hd0
      rw [if_pos (.inl rfl)]
      go_enter Try.func36, Try.ntmps36
      go_wp2_with fail
      refine HT.out.mono ?_
      rintro e w1 ⟨a1, c1, o1, rfl, s1, b1⟩
      go_wp2_with fail
      go_ret3
      exact ⟨rfl, b1.mono hb⟩
    · have hdz : ((d : Int) == 0) = false := by simp; omega
      by_cases hbad1 : x1 < d
      · rw [if_pos (.inr (.inl hbad1))]
        go_enter Try.func36, Try.ntmps36
        go_wp2_with fail
        refine HT.out.mono ?_
        rintro e w1 ⟨a1, c1, o1, rfl, s1, b1⟩
        go_wp2_with fail
        go_ret3
        exact ⟨rfl, b1.mono hb⟩
      · by_cases hbad2 : x2 < n
        · rw [if_pos (.inr (.inr hbad2))]
          go_enter Try.func36, Try.ntmps36
          go_wp2_with fail
          refine HT.out.mono ?_
          rintro e w1 ⟨a1, c1, o1, rfl, s1, b1⟩
          go_wp2_with fail
          go_ret3
          exact ⟨rfl, b1.mono hb⟩
        · rw [if_neg (by omega)]
          have hg1 : d ≤ x1 := by omega
          have hg2 : n ≤ x2 := by omega
          have hgb1 : decide (x1 < d) = false := by simp; omega
          have hgb2 : decide (x2 < n) = false := by simp; omega
          have hd1 : 1 ≤ d := by omega
          obtain ⟨i0, hi, hz0, hzz, hz2⟩ := info_parts info5
          clear hbad1 hbad2 hd0
          go_enter Try.func36, Try.ntmps36
          go_wp2_with fail
          refine HT.out.mono ?_
          rintro e w1 ⟨a1, c1, o1, rfl, s1, b1⟩
          have hown1 := own_below HO.out b1
          have hz1 := b1.size
          have hz1' : base ≤ w1.heap.size := by omega
          clear HO HSO HT
          obtain ⟨rl, hrl⟩ : ∃ rl, rl = r.length := ⟨_, rfl⟩
          rw [← hrl]
          have HRL := Lib.hid hrl
          clear hrl
          go_wp2_with fail
          clear hm1 hm2 hgb1 hgb2 hdz
          go_loopw [0, 39] (fun x c W => ∃ (y k' : Nat) (a' : Option Addr) (oc' : Nat) (O' : List UInt8), x = .slice a' k' oc' ∧ k' = O'.length ∧ c = .int .i64 (y : Int) ∧ y ≤ n ∧ k' = k + y ∧ copyL d (n - y) O' = copyL d n O ∧ W.ownsRow base 5 1 (.slice a' k' oc') k' (O'.map B8) ∧ Below base w1 W) (fun _ c _ => n - (intOf c).toNat)
          case atStart => exact ⟨0, k, oa, oc, O, rfl, HK.out, rfl, Nat.zero_le _, rfl, rfl, by rw [HK.out]; exact hown1, Below.refl _ _⟩
          case round =>
            clear hown1
            obtain ⟨y, k', a', oc', O', rfl, hk', rfl, hyn, hky, hcl, hown, hbel⟩ := hrel
            by_cases hlt : y < n
            · have hown' := hown
              rw [hk'] at hown'
              obtain ⟨ga, gc, GB, hv, sg, _⟩ := src_of_own hown'
              rw [← hk'] at hv
              simp only [Value.slice.injEq, true_and] at hv
              obtain ⟨rfl, rfl⟩ := hv
              obtain rfl := sg.src (by omega)
              have c0 := sg.cell (k' - d) (by omega)
              rw [Nat.zero_add] at c0
              have hstep : copyL d (n - (y + 1)) (O' ++ [O'.getD (k' - d) 0]) = copyL d n O := by
                rw [← hcl, show n - y = (n - (y + 1)) + 1 by omega, copyL_step, ← hk']
              obtain ⟨z, hz⟩ : ∃ z, z = O'.getD (k' - d) 0 := ⟨_, rfl⟩
              rw [← hz] at c0 hstep
              have HST := Lib.hid hstep
              have HW := Lib.hid hown
              have HK' := Lib.hid hk'
              have HKY := Lib.hid hky
              have hdk : d ≤ k' := by omega
              have hkb : k' + 1 ≤ 140737488355328 := by omega
              have hzb : base ≤ _ := Nat.le_trans (Nat.le_trans hb hz1) hbel.size
              clear hstep hown hown' hk' hky hcl sg hz
              go_wp2_with (at_builtin; refine wpList_append_own _ rfl _ _ 22 rfl base 5 i0 (.int .u8 0) 1 1 Try.underlying22 hi hz0 hzz hz2 rfl (by decide) _ k' _ rfl (HW.out.alloc _) ⟨_, 0, none⟩ 1 1 _ rfl rfl (news_one _ _) (by simp [Value.oneCell']) (by unfold maxLen; omega) (by omega) (by simp; omega) ?_; intro v3 w3 hown3 hgrow3 _; have O3 := Lib.hid hown3; have G3 := Lib.hid hgrow3; clear hown3 hgrow3)
              have hb3 : Below base w1 w3 := (hbel.alloc (Nat.le_trans hz1' hbel.size) _).grown G3.out (by simp; omega) (fun k hk => (HW.out.lt k hk).1)
              have h3 := O3.out
              have e3 : O'.map B8 ++ [(.int .u8 (z.toNat : Int) : Value)] = (O' ++ [z]).map B8 := by rw [List.map_append]; rfl
              have hl3 : k' + 1 = (O' ++ [z]).length := by rw [List.length_append, ← HK'.out]; rfl
              rw [e3, hl3] at h3
              obtain ⟨va, vc, VB, rfl, _, _⟩ := src_of_own h3
              rw [← hl3] at h3 ⊢
              have H3 := Lib.hid h3
              have HL3 := Lib.hid hl3
              clear h3 hl3 e3 O3 G3
              go_wp2_with fail
              go_roundw
              case rel => exact ⟨y + 1, k' + 1, va, vc, O' ++ [z], rfl, HL3.out, by go_num, by omega, by have := HKY.out; omega, HST.out, H3.out, hb3⟩
              case measure => simp [intOf]; omega
            · obtain rfl : y = n := by omega
              rw [Nat.sub_self] at hcl
              have hcl2 : O' = copyL d y O := hcl
              have HW := Lib.hid hown
              have HK' := Lib.hid hk'
              have HC := Lib.hid hcl2
              clear hown hk' hky hcl hcl2
              go_wp2_with fail
              go_ret3
              have hfin := HW.out
              rw [HK'.out, HC.out] at hfin
              refine ⟨_, a1, c1, o1, ?_, hfin, s1.keep2 HRB.out hbel, (b1.mono hb).trans hbel⟩
              rw [HK'.out, HC.out, HRL.out]
              rfl
theorem OutTurnedBelow {base n : Nat} {v : Value} {xs : List Value} {w w' : World} (hb : base ≤ w.heap.size) (h : w.ownsRow base 5 1 v n xs) (hg : w.drew.grownBy w' v.ownBlock) : Below base w w' :=
  ⟨hg.os, hg.tape, hg.output, hg.size, fun k hk => hg.block k (show k < w.heap.size by omega) (fun e => by have := (h.lt k e.symm).1; omega)⟩
theorem two_min (a b : Nat) : (if b < a then (b : Int) else (a : Int)) = ((min a b : Nat) : Int) := by split <;> omega
set_option maxRecDepth 100000 in
set_option maxHeartbeats 1600000 in
theorem takeToken_any (base : Nat) (v : Value) (O : List UInt8) (ao : Option Addr) (cap : Nat) (p : List UInt8) (B off size : Nat) (w : World) (hb : base ≤ w.heap.size) (ho : w.ownsRow base 5 1 v O.length (O.map B8))
    (hq : SrcAt w ao cap p B off) (hB : 0 < p.length → B < base) (hs : p.length ≤ 281474976710656) (hO : O.length ≤ size) (hsz : size ≤ 140737488355328) :
    Calls Try.prog 25 #[v, .slice ao p.length cap, .int .i64 (size : Int)] w (TokenTo base w B (stepT size O p)) := by
  obtain ⟨oa, oc, OB, rfl, so, hOB⟩ := src_of_own ho
  rcases parse_cases p with hp | ⟨t, q, ht, he⟩
  · rw [stepT_bad hp]
    have htk := pNum_no ao cap p B off w hq hs hp
    obtain ⟨k, hk⟩ : ∃ k, k = O.length := ⟨_, rfl⟩
    obtain ⟨m, hm⟩ : ∃ m, m = p.length := ⟨_, rfl⟩
    rw [← hk] at hO ⊢
    rw [← hm] at htk ⊢
    have HT := Lib.hid htk
    clear htk hk hm hp
    go_enter Try.func25, Try.ntmps25
    go_wp2_with fail
    refine HT.out.mono ?_
    rintro e w1 ⟨rfl, rfl⟩
    go_wp2_with fail
    go_ret3
    exact ⟨rfl, Below.refl _ _⟩
  · have htk := pNum_yes ao cap p B off w hq hs t q ht he
    have hqp : q.length ≤ p.length := by rw [he, List.length_append]; omega
    have hqB : 0 < q.length → B < base := fun hh => hB (by omega)
    have hqs : q.length ≤ 281474976710656 := by omega
    obtain ⟨room, hroom⟩ : ∃ room, room = size - O.length := ⟨_, rfl⟩
    have hri : (size : Int) - (O.length : Int) = (room : Int) := by omega
    have hHR := Lib.hid hroom
    have hrk : O.length + room ≤ 140737488355328 := by omega
    have hOs := hO
    by_cases hodd : t % 2 = 1
    · have hsc := stepT_copy (size := size) (O := O) (q := q) ht hodd
      rw [← he] at hsc
      rw [hsc]
      have b2 : ((t : Int) % 2 == 1) = true := by simp; omega
      obtain ⟨L, hL⟩ : ∃ L, L = t / 2 + 4 := ⟨_, rfl⟩
      have hLi : (t : Int) / 2 + 4 = (L : Int) := by omega
      have hL4 : 4 ≤ L := by omega
      have hLb : L ≤ 4611686018427387903 := by omega
      have hti : (t : Int) ≤ 4611686018427387903 := by omega
      rw [← hL]
      obtain ⟨k, hk⟩ : ∃ k, k = O.length := ⟨_, rfl⟩
      obtain ⟨m, hm⟩ : ∃ m, m = p.length := ⟨_, rfl⟩
      have HK := Lib.hid hk
      rw [← hk] at hO hri ⊢
      rw [← hm] at htk ⊢
      have HT := Lib.hid htk
      clear htk hk hm hsc hL hodd he hroom
      go_enter Try.func25, Try.ntmps25
      go_wp2_with fail
      refine HT.out.mono ?_
      rintro e w1 ⟨a1, c1, o1, rfl, s1, b1⟩
      have own1 := own_below ho b1
      have hcopy := takeCopy_any base (.slice oa O.length oc) O a1 c1 q B o1 L size room w1 (by have := b1.size; omega) own1 s1 hqB hqs hL4 hLb hOs hsz hHR.out
      rw [← HK.out] at hcopy
      have HC := Lib.hid hcopy
      obtain ⟨ql, hql⟩ : ∃ ql, ql = q.length := ⟨_, rfl⟩
      rw [← hql] at HC ⊢
      clear hcopy hql own1
      go_wp2_with fail
      refine HC.out.mono ?_
      rintro e w2 hto
      cases hR : copyStep size O q L with
      | none =>
        rw [hR] at hto
        obtain ⟨rfl, b2⟩ := hto
        clear hri hLi
        go_wp2_with fail
        go_ret3
        rw [hR]
        exact ⟨rfl, (b1.mono hb).trans b2⟩
      | some x =>
        obtain ⟨O2, p2⟩ := x
        rw [hR] at hto
        obtain ⟨v2, a2, c2, o2, rfl, h2, s2, b2⟩ := hto
        obtain ⟨pl, hpl⟩ : ∃ pl, pl = p2.length := ⟨_, rfl⟩
        rw [← hpl]
        have HPL := Lib.hid hpl
        clear hri hLi hpl
        go_wp2_with fail
        go_ret3
        rw [hR]
        exact ⟨v2, a2, c2, o2, by rw [← HPL.out]; rfl, h2, s2, (b1.mono hb).trans b2⟩
    · have hsc := stepT_run (size := size) (O := O) (q := q) ht hodd
      rw [← he] at hsc
      rw [hsc, ← hroom]
      have b2 : ((t : Int) % 2 == 1) = false := by simp; omega
      obtain ⟨L, hL⟩ : ∃ L, L = t / 2 + 1 := ⟨_, rfl⟩
      have hLi : (t : Int) / 2 + 1 = (L : Int) := by omega
      have hti : (t : Int) ≤ 4611686018427387903 := by omega
      have hmin := two_min room q.length
      rw [← hL]
      obtain ⟨x, hx⟩ : ∃ x, x = min room q.length := ⟨_, rfl⟩
      rw [← hx] at hmin ⊢
      have hxr : x ≤ room := by omega
      have hxq : x ≤ q.length := by omega
      obtain ⟨k, hk⟩ : ∃ k, k = O.length := ⟨_, rfl⟩
      obtain ⟨m, hm⟩ : ∃ m, m = p.length := ⟨_, rfl⟩
      obtain ⟨ql, hql⟩ : ∃ ql, ql = q.length := ⟨_, rfl⟩
      have HK := Lib.hid hk
      have HQ := Lib.hid hql
      rw [← hk] at hO hri hrk ⊢
      rw [← hql] at hmin hxq
      rw [← hm] at htk ⊢
      have HT := Lib.hid htk
      clear htk hk hm hsc hL hodd he hroom hx hql
      by_cases hbad : x < L
      · rw [if_pos hbad]
        go_enter Try.func25, Try.ntmps25
        go_wp2_with fail
        refine HT.out.mono ?_
        rintro e w1 ⟨a1, c1, o1, rfl, s1, b1⟩
        rw [← HQ.out]
        go_wp2_with fail
        go_ret3
        exact ⟨rfl, b1.mono hb⟩
      · rw [if_neg hbad]
        have hgood : L ≤ x := by omega
        have hgb : decide (x < L) = false := by simp; omega
        clear hbad
        go_enter Try.func25, Try.ntmps25
        go_wp2_with fail
        refine HT.out.mono ?_
        rintro e w1 ⟨a1, c1, o1, rfl, s1, b1⟩
        have hz1 := b1.size
        obtain ⟨a2, hs2, s2⟩ := s1.slice_h L (by have := HQ.out; omega)
        obtain ⟨a3, hs3, s3⟩ := s1.slice_l L (by have := HQ.out; omega)
        have own1 := own_below ho b1
        rw [← HQ.out] at hs2 hs3 ⊢
        rw [← HK.out] at own1
        have l2 : (q.take L).length = L := by rw [List.length_take]; have := HQ.out; omega
        have l3 : (q.drop L).length = ql - L := by rw [List.length_drop, HQ.out]
        obtain ⟨z, hz⟩ : ∃ z, z = ql - L := ⟨_, rfl⟩
        rw [← hz] at hs3 l3
        have L2 := Lib.hid l2
        have L3 := Lib.hid l3
        have HW := Lib.hid own1
        have hL0 : (0 : Int) ≤ (L : Int) := by omega
        have hLq : (L : Int) ≤ (ql : Int) := by omega
        clear l2 l3 hz own1
        go_wp2_with fail
        go_region_held3 (fun _ => True) (trivial) ((refine step_append_src rfl _ _ rfl base (.slice oa k oc) k _ rfl HW.out a2 L c1 rfl ((q.take L).map B8) (by rw [List.length_map]; exact L2.out) (fun hh => by have hz := s2.bare hh; rw [L2.out] at hz; exact hz) s2.cells (B8_one _) (by omega) (by simp; omega) ?_; intro v3 w3 O3 G3))
        go_wp2_with fail
        go_ret3
        have h3 := O3.out
        rw [← List.map_append] at h3
        have e3 : k + L = (O ++ q.take L).length := by rw [List.length_append, L2.out, HK.out]
        rw [e3] at h3
        have hb3 : Below base w1 w3 := (OutTurnedBelow (by omega) HW.out G3.out)
        exact ⟨v3, a3, c1 - L, o1 + L, by rw [L3.out]; rfl, h3, s3.keep2 (fun hh => hqB (by rw [List.length_drop] at hh; omega)) hb3, (b1.mono hb).trans hb3⟩
end Go.Proofs.Ytngmcndcfkflfaa
