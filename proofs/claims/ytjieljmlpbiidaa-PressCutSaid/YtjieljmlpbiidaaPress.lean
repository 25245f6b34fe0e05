/- The walk of Press. -/
import Derived.Test.YtjieljmlpbiidaaPressPlaced
namespace Go.Proofs.Ytjieljmlpbiidaa
open Go.RowKit
theorem toks_all (b : List UInt8) (hb : b.length ≤ 140737488355328) {O : List UInt8} {s i : Nat} (h : O ++ toks b s i = pressL b) : O.length ≤ 143000000000000 := by
  have h1 := congrArg List.length h
  rw [List.length_append] at h1
  have h2 := press_wide b
  omega
set_option maxRecDepth 100000 in
set_option maxHeartbeats 1600000 in
theorem press_any (ao : Option Addr) (cap : Nat) (bs : List UInt8) (B off : Nat) (w : World) (h : SrcAt w ao cap bs B off) (hs : bs.length ≤ 140737488355328) :
    Calls Try.prog 12 #[.slice ao bs.length cap] w fun e w' => ∃ v, e = .returned v ∧ w'.ownsRow w.heap.size 5 1 v (pressL bs).length ((pressL bs).map B8) ∧ Below w.heap.size w w' := by
  have hput : Calls Try.prog 17 #[.slice none 0 0, .int .i64 (bs.length : Int)] w fun e w' => ∃ v, e = .returned v ∧ w'.ownsRow w.heap.size 5 1 v (numL bs.length).length ((numL bs.length).map B8) ∧ Below w.heap.size w w' := by
    have h1 := rowPutNumTo w.heap.size (.slice none 0 0) [] (bs.length : Int) w (Nat.le_refl _) (World.ownsRow_nil _ _ _ _) (by simp)
    rw [List.nil_append, clampN_nat _ (by omega)] at h1
    exact h1.mono fun e w' ⟨v, he, ho, ht⟩ => ⟨v, he, ho, ht.below⟩
  have hstart : numL bs.length ++ toks bs 0 0 = pressL bs := rfl
  have hsb : bs.length ≤ 281474976710656 := by omega
  obtain ⟨N, hN⟩ : ∃ N, N = bs.length := ⟨_, rfl⟩
  obtain ⟨L, hL⟩ : ∃ L, L = numL bs.length := ⟨_, rfl⟩
  have hBw : 0 < bs.length → B < w.heap.size := h.old
  rw [← hL] at hput hstart
  rw [← hN] at hs hput ⊢
  have hNl : N ≤ bs.length := by omega
  have hNg : bs.length ≤ N := by omega
  have HP := Lib.hid hput
  have HN := Lib.hid hN
  have HS := Lib.hid hstart
  clear hput hN hL hstart
  have hmm := @run_makeMap Try.prog
  go_enter Try.func12, Try.ntmps12
  go_wp2_with fail
  refine HP.out.mono ?_
  rintro e w1 ⟨v1, rfl, o1, b1⟩
  go_wp2_with (first | (refine wpList_build38 rfl _ rfl w1.heap.size rfl ?_) | (refine wpList_alloc38 rfl rfl ?_) | (refine wpList_store38 rfl _ _ rfl rfl rfl ?_))
  clear hmm HP
  obtain ⟨g1, g2, g3⟩ := heap_zero38 w1
  obtain ⟨mb, hmb⟩ : ∃ mb, mb = w1.heap.size := ⟨_, rfl⟩
  have hmw : w.heap.size ≤ mb := by rw [hmb]; exact b1.size
  have p0 : Placed (placesW w1) bs (mb + 1) mb 0 := by
    rw [hmb]
    refine ⟨.map [], fun _ => 0, 0, tab_zero g1, ?_, Nat.zero_le _, fun _ => ⟨nearIs_new bs, fun k hk => absurd hk (Nat.not_lt_zero k)⟩⟩
    exact ⟨#[], 0, g2, ⟨by simp, MapKept.stamped_empty 0, by simp⟩, Nat.le_refl _, rfl⟩
  obtain ⟨base, hbase⟩ : ∃ base, base = w.heap.size := ⟨_, rfl⟩
  have o0 : (placesW w1).ownsRow base 5 1 v1 L.length (L.map B8) := by rw [hbase]; exact own_below o1 g3
  have b0 : Below base w (placesW w1) := by rw [hbase]; exact b1.trans (g3.mono b1.size)
  have hbw : w.heap.size ≤ base := by omega
  have hwb : base ≤ w.heap.size := by omega
  have hmw' : base ≤ mb := by omega
  obtain ⟨w0, hw0⟩ : ∃ w0, w0 = placesW w1 := ⟨_, rfl⟩
  rw [← hmb, ← hw0]
  rw [← hw0] at p0 o0 b0
  rw [← hbase] at hBw
  have HBA := Lib.hid hbase
  clear hw0 g1 g2 g3 hmb b1 o1 hbase
  go_loopw [3, 5, 6] (fun x s i W => ∃ (O : List UInt8) (S I : Nat) (v : Value), v = x ∧ s = .int .i64 (S : Int) ∧ i = .int .i64 (I : Int) ∧ S ≤ I ∧ I ≤ N ∧ O ++ toks bs S I = pressL bs ∧ Placed W bs (mb + 1) mb I ∧ W.ownsRow base 5 1 v O.length (O.map B8) ∧ Below base w W) (fun _ _ i _ => N - (intOf i).toNat)
  case atStart => exact ⟨L, 0, 0, v1, rfl, rfl, rfl, Nat.le_refl _, Nat.zero_le _, HS.out, p0, o0, b0⟩
  case round =>
    clear p0 o0 b0 HS
    obtain ⟨O, S, i, v, rfl, rfl, rfl, hSi, hiN, hO, pi, oi, bi⟩ := hrel
    have hOl := toks_all bs (by omega) hO
    have hsi := h.below (bi.mono hbw)
    have hBb : 0 < bs.length → B < base := hBw
    by_cases hlt : i < N
    · have hB0 := hBb (by omega)
      obtain ⟨D, tab, n, t1, m1, hn, h4⟩ := pi
      have hlong := longest_any ao cap bs B off i (mb + 1) mb n D tab _ hsi hsb (by omega) t1 m1 (fun hh => (h4 hh).1) (fun hh => (h4 hh).2)
      have pi : Placed _ bs (mb + 1) mb i := ⟨D, tab, n, t1, m1, hn, h4⟩
      rw [← HN.out] at hlong
      obtain ⟨ln, hln⟩ : ∃ ln, ln = (longest4 bs i).1 := ⟨_, rfl⟩
      obtain ⟨d, hd⟩ : ∃ d, d = (longest4 bs i).2 := ⟨_, rfl⟩
      rw [← hln, ← hd] at hlong
      have HLo := Lib.hid hlong
      have hstep : O ++ toks bs S i = pressL bs := hO
      have PI := Lib.hid pi
      have OI := Lib.hid oi
      clear hlong t1 m1 hn h4 D tab n pi oi hO
      by_cases hc : 4 ≤ ln
      · have hcp := longest4_copies (b := bs) (i := i) (by omega) (by omega)
        rw [← hln, ← hd] at hcp
        rw [toks_copy (by omega) (by omega), ← hln, ← hd] at hstep
        have k1 := hcp.most
        have k2 := hcp.len
        have k3 := hcp.win
        obtain ⟨ao2, hsl, hs2⟩ := hsi.slice_lh S (i - S) (by omega)
        have er : ((bs.drop S).take (i - S)).length = i - S := by rw [List.length_take, List.length_drop]; omega
        have e1 : (S : Int) + ((i - S : Nat) : Int) = (i : Int) := by omega
        have hS0 : (0 : Int) ≤ (S : Int) := by omega
        rw [← HN.out, e1] at hsl
        obtain ⟨r, hr⟩ : ∃ r, r = (bs.drop S).take (i - S) := ⟨_, rfl⟩
        rw [← hr] at hs2 er hstep
        have HR := Lib.hid er
        have hst2 : (O ++ runT r ++ (numL (2 * (ln - 4) + 1) ++ numL d)) ++ toks bs (i + ln) (i + ln) = pressL bs := by
          rw [← hstep]; simp only [List.append_assoc]
        have HT := Lib.hid hst2
        have hl2 := toks_all bs (by omega) hst2
        have hrl : r.length ≤ N := by omega
        have hrB : 0 < r.length → B < base := fun _ => hB0
        have hq : decide ((ln : Int) > 0) = true := by simp; omega
        have hlnpos : (0 : Int) < (ln : Int) := by omega
        have hr1 : (O ++ runT r).length ≤ 143000000000000 := by
          have := hl2
          rw [List.length_append] at this
          omega
        have hOr : O.length + r.length ≤ 143000000000000 := by
          have h1 := hr1
          rw [List.length_append] at h1
          have h2 := runT_ge r
          omega
        clear hln hd hr er e1 hstep hst2 hcp
        go_wp2_with fail
        refine HLo.out.mono ?_
        rintro e w2 ⟨rfl, b2⟩
        have bX := bi.trans (b2.mono (Nat.le_trans hwb bi.size))
        have oX := own_below OI.out b2
        have pX := PI.out.below b2
        have sX := hs2.below b2
        have hz2 := b2.size
        have hz3 := (Nat.le_trans hwb bi.size)
        go_wp2_with fail
        have hrun := putRunTo base v O ao2 (cap - S) r B (off + S) w2 (by omega) oX sX hrB (by omega)
        rw [HR.out] at hrun
        refine hrun.mono ?_
        rintro e w3 ⟨v3, rfl, o3, t3⟩
        have hz4 := t3.below.size
        have bX := bX.trans t3.below
        have pX := pX.out t3
        clear hrun sX oX
        go_wp2_with fail
        refine (putCopyTo base v3 (O ++ runT r) ln d w3 (by omega) o3 hc k1 k3 (by omega)).mono ?_
        rintro e w4 ⟨v2, rfl, oX, t4⟩
        have bX := bX.trans t4.below
        have pX := pX.out t4
        obtain ⟨O2, hO2⟩ : ∃ O2, O2 = O ++ runT r ++ (numL (2 * (ln - 4) + 1) ++ numL d) := ⟨_, rfl⟩
        rw [← hO2] at oX HT
        obtain ⟨E, hE⟩ : ∃ E, E = i + ln := ⟨_, rfl⟩
        have hEI : (i : Int) + (ln : Int) = (E : Int) := by omega
        obtain ⟨i1, hi1⟩ : ∃ i1, i1 = i + 1 := ⟨_, rfl⟩
        have hI1 : (i : Int) + 1 = (i1 : Int) := by omega
        have hmax : (if (i1 : Int) > (E : Int) then (i1 : Int) else (E : Int)) = (E : Int) := by rw [if_neg (by omega)]
        clear hi1
        have hEN : E ≤ N := by omega
        have hiE : i ≤ E := by omega
        have hilt : i < E := by omega
        rw [← hE] at HT
        clear o3 t3 t4 hE hO2 b2 OI PI HLo
        go_wp2_with fail
        clear hI1 hEI hmax
        obtain ⟨wo, hwo⟩ : ∃ wo, wo = w4 := ⟨_, rfl⟩
        rw [← hwo] at pX oX bX ⊢
        clear hwo
        have PX := Lib.hid pX
        have OX := Lib.hid oX
        clear pX oX
        go_loopw [6] (fun x W => ∃ j : Nat, x = .int .i64 (j : Int) ∧ i ≤ j ∧ j ≤ E ∧ Placed W bs (mb + 1) mb j ∧ W.ownsRow base 5 1 v2 O2.length (O2.map B8) ∧ Below base w W) (fun x _ => E - (intOf x).toNat)
        case atStart => exact ⟨i, rfl, Nat.le_refl _, hiE, PX.out, OX.out, bX⟩
        case round =>
          clear PX OX bX
          obtain ⟨j, rfl, hij, hjE, pj, oj, bj⟩ := hrel
          have OJ := Lib.hid oj
          by_cases hjl : j < E
          · have hadd := add_step ao cap bs B off j (mb + 1) mb _ (h.below (bj.mono hbw)) hsb (by omega) pj (by omega) (by omega) (by unfold maxLen; omega)
            rw [← HN.out] at hadd
            have HA := Lib.hid hadd
            have PJ := Lib.hid pj
            clear hadd oj pj
            go_wp2_with fail
            refine HA.out.mono ?_
            rintro e W2 ⟨rfl, p2, u2⟩
            have o2 := own_but2 OJ.out PJ.out u2
            have P2 := Lib.hid p2
            have O2' := Lib.hid o2
            have b2 := bj.trans (u2.below (Nat.le_trans hwb bj.size) (by omega) (by omega))
            clear p2 u2 o2
            go_wp2_with fail
            go_roundw
            case rel => exact ⟨j + 1, by go_num, by omega, by omega, P2.out, O2'.out, b2⟩
            case measure => simp [intOf]; omega
          · obtain rfl : j = E := by omega
            have PJ := Lib.hid pj
            clear oj pj
            go_wp2_with fail
            go_roundw
            case rel => exact ⟨O2, _, j, v2, rfl, rfl, rfl, by omega, by omega, HT.out, PJ.out, OJ.out, bj⟩
            case measure => simp [intOf]; omega
      · have hz : ln = 0 := by
          rcases lng4_ge (b := bs) (i := i) (d := min 4096 i) with hg | hg
          · rw [hln]; exact hg
          · exfalso; apply hc; rw [hln]; exact hg
        rw [toks_step (by omega) (by omega)] at hstep
        have HT := Lib.hid hstep
        obtain ⟨E, hE⟩ : ∃ E, E = i + 1 := ⟨_, rfl⟩
        have hEI : (i : Int) + 1 = (E : Int) := by omega
        have hEN : E ≤ N := by omega
        have hiE : i ≤ E := by omega
        have hilt : i < E := by omega
        rw [← hE] at HT
        have hmax : (if (E : Int) > (S : Int) then (E : Int) else (S : Int)) = (E : Int) := by rw [if_pos (by omega)]
        have hq : decide ((ln : Int) > 0) = false := by simp; omega
        have hln0 : (ln : Int) ≤ 0 := by omega
        have hq2 : decide (0 < ln) = false := by simp; omega
        clear hln hd hstep hz hE
        go_wp2_with fail
        refine HLo.out.mono ?_
        rintro e w2 ⟨rfl, b2⟩
        have bX := bi.trans (b2.mono (Nat.le_trans hwb bi.size))
        have oX := own_below OI.out b2
        have pX := PI.out.below b2
        clear OI PI HLo b2
        go_wp2_with fail
        obtain ⟨O2, rfl⟩ : ∃ O2, O2 = O := ⟨_, rfl⟩
        obtain ⟨v2, rfl⟩ : ∃ v2, v2 = v := ⟨_, rfl⟩
        clear hEI hmax hq2
        obtain ⟨wo, hwo⟩ : ∃ wo, wo = w2 := ⟨_, rfl⟩
        rw [← hwo] at pX oX bX ⊢
        clear hwo
        have PX := Lib.hid pX
        have OX := Lib.hid oX
        clear pX oX
        go_loopw [6] (fun x W => ∃ j : Nat, x = .int .i64 (j : Int) ∧ i ≤ j ∧ j ≤ E ∧ Placed W bs (mb + 1) mb j ∧ W.ownsRow base 5 1 v2 O2.length (O2.map B8) ∧ Below base w W) (fun x _ => E - (intOf x).toNat)
        case atStart => exact ⟨i, rfl, Nat.le_refl _, hiE, PX.out, OX.out, bX⟩
        case round =>
          clear PX OX bX
          obtain ⟨j, rfl, hij, hjE, pj, oj, bj⟩ := hrel
          have OJ := Lib.hid oj
          by_cases hjl : j < E
          · have hadd := add_step ao cap bs B off j (mb + 1) mb _ (h.below (bj.mono hbw)) hsb (by omega) pj (by omega) (by omega) (by unfold maxLen; omega)
            rw [← HN.out] at hadd
            have HA := Lib.hid hadd
            have PJ := Lib.hid pj
            clear hadd oj pj
            go_wp2_with fail
            refine HA.out.mono ?_
            rintro e W2 ⟨rfl, p2, u2⟩
            have o2 := own_but2 OJ.out PJ.out u2
            have P2 := Lib.hid p2
            have O2' := Lib.hid o2
            have b2 := bj.trans (u2.below (Nat.le_trans hwb bj.size) (by omega) (by omega))
            clear p2 u2 o2
            go_wp2_with fail
            go_roundw
            case rel => exact ⟨j + 1, by go_num, by omega, by omega, P2.out, O2'.out, b2⟩
            case measure => simp [intOf]; omega
          · obtain rfl : j = E := by omega
            have PJ := Lib.hid pj
            clear oj pj
            go_wp2_with fail
            go_roundw
            case rel => exact ⟨O2, _, j, v2, rfl, rfl, rfl, by omega, by omega, HT.out, PJ.out, OJ.out, bj⟩
            case measure => simp [intOf]; omega
    · obtain rfl : i = N := by omega
      rw [toks_end (by omega)] at hO
      obtain ⟨ao2, hsl, hs2⟩ := hsi.slice_l S (by omega)
      rw [← HN.out] at hsl
      have hS0 : (0 : Int) ≤ (S : Int) := by omega
      obtain ⟨r, hr⟩ : ∃ r, r = bs.drop S := ⟨_, rfl⟩
      have er : r.length = i - S := by rw [hr, List.length_drop]; omega
      rw [← hr] at hs2 hO
      have hOr : O.length + r.length ≤ 143000000000000 := by
        have h1 := congrArg List.length hO
        rw [List.length_append] at h1
        have h2 := runT_ge r
        have h3 := press_wide bs
        omega
      have hz3 := (Nat.le_trans hwb bi.size)
      have hrun := putRunTo base v O ao2 (cap - S) r B (off + S) _ (by omega) oi hs2 (fun hh => hBb (by omega)) (by omega)
      rw [er] at hrun
      rw [hO] at hrun
      have HRun := Lib.hid hrun
      clear hr er hO hrun
      go_wp2_with fail
      refine HRun.out.mono ?_
      rintro e w3 ⟨v3, rfl, o3, t3⟩
      go_wp2_with fail
      go_ret
      have bZ := bi.trans t3.below
      rw [HBA.out] at o3 bZ
      exact ⟨_, rfl, o3, bZ⟩
end Go.Proofs.Ytjieljmlpbiidaa
