/- The walks of the document's run and Press. -/
import Derived.Test.YtjieljmlpbiidaaPressPure2
import Derived.Test.YtjieljmlpbiidaaRefPressAlike
import Derived.Test.YtjieljmlpbiidaaRefPutNum
namespace Go.Proofs.Ytjieljmlpbiidaa
open Go.RowKit
/-- A slice with these bytes, wherever it lies. -/
def SliceOf (w : World) (l : List UInt8) (e : Ending) (w' : World) : Prop := ∃ ao cap B off, e = .returned (.slice ao l.length cap) ∧ SrcAt w' ao cap l B off ∧ Below w.heap.size w w'
theorem sliceOf_own {w w' : World} {e : Ending} {base : Nat} {l : List UInt8} (h : ∃ v, e = .returned v ∧ w'.ownsRow base 5 1 v l.length (l.map B8) ∧ Below w.heap.size w w') : SliceOf w l e w' := by
  obtain ⟨v, rfl, ho, hb⟩ := h
  obtain ⟨ao, cap, B, rfl, hs, _⟩ := src_of_own ho
  exact ⟨ao, cap, B, 0, rfl, hs, hb⟩
theorem clampN_run' {n : Nat} (h0 : 0 < n) (h : n ≤ 281474976710656) : clampN (2 * ((n : Int) - 1)) = 2 * (n - 1) := by
  have e : 2 * ((n : Int) - 1) = ((2 * (n - 1) : Nat) : Int) := by omega
  rw [e, clampN_nat _ (by omega)]
set_option maxRecDepth 100000 in
set_option maxHeartbeats 800000 in
theorem refRun_any (ao : Option Addr) (cap : Nat) (O : List UInt8) (B off : Nat) (ro : Option Addr) (rcap : Nat) (r : List UInt8) (RB roff : Nat) (w : World) (h : SrcAt w ao cap O B off) (hr : SrcAt w ro rcap r RB roff) (hs : O.length + 9 + r.length ≤ 225000000000000) :
    Calls Try.prog 23 #[.slice ao O.length cap, .slice ro r.length rcap] w (SliceOf w (O ++ runT r)) := by
  by_cases h0 : r.length = 0
  · have e : runT r = [] := by rw [runT, if_pos h0]
    rw [e, List.append_nil, h0]
    obtain ⟨m, hm⟩ : ∃ m, m = O.length := ⟨_, rfl⟩
    rw [← hm]
    have HM := Lib.hid hm
    clear hm
    go_enter Try.func23, Try.ntmps23
    go_wp2
    go_ret
    exact ⟨ao, cap, B, off, by rw [← HM.out]; rfl, h, Below.refl _ _⟩
  · have hput := refPutNum_any ao cap O B off (2 * ((r.length : Int) - 1)) w h (by omega)
    rw [clampN_run' (by omega) (by omega)] at hput
    have hl := numL_le (2 * (r.length - 1))
    rw [runT_pos (by omega)]
    obtain ⟨L, hL⟩ : ∃ L, L = numL (2 * (r.length - 1)) := ⟨_, rfl⟩
    rw [← hL] at hput hl ⊢
    obtain ⟨n, hn⟩ : ∃ n, n = r.length := ⟨_, rfl⟩
    rw [← hn] at hput hs h0 ⊢
    have HP := Lib.hid hput
    have HN := Lib.hid hn
    have hq : ((n : Int) == 0) = false := by simp; omega
    obtain ⟨k, hk⟩ : ∃ k, k = O.length := ⟨_, rfl⟩
    have hkl : k + 9 + n ≤ 225000000000000 := by omega
    have HK := Lib.hid hk
    clear hput hL hn h hs
    rw [← hk] at HP ⊢
    clear hk
    go_enter Try.func23, Try.ntmps23
    go_wp2_with fail
    refine HP.out.mono ?_
    rintro e w1 ⟨v1, rfl, o1, b1⟩
    have hz := b1.size
    have r1 := hr.below b1
    obtain ⟨m, hm⟩ : ∃ m, m = (O ++ L).length := ⟨_, rfl⟩
    have hml : m ≤ k + 9 := by rw [hm, List.length_append, ← HK.out]; omega
    rw [← hm] at o1
    have HM := Lib.hid hm
    clear hm
    go_wp2_with (at_builtin; refine wpList_append_src rfl _ _ rfl w.heap.size v1 m _ rfl o1 ro n rcap rfl (r.map B8) (by rw [List.length_map]; exact HN.out.symm) (fun hh => by rw [HN.out]; exact r1.bare hh) r1.cells (B8_one _) (by omega) (by omega) ?_; intro v3 w3 hown3 hg3 hv3; clear hv3)
    go_ret
    refine sliceOf_own (base := w.heap.size) ⟨_, rfl, ?_, b1.grown hg3 hz (fun k hk => (o1.lt k hk).1)⟩
    have h3 := hown3.out
    rw [← List.map_append, HM.out, HN.out, ← List.length_append, List.append_assoc] at h3
    exact h3
theorem longest_few {b : List UInt8} {i : Nat} (h : (longest b i).1 < 4) : (longest4 b i).1 < 4 := by
  unfold longest at h
  unfold longest4 lng4
  rw [if_pos h]
  decide
theorem longest_many {b : List UInt8} {i : Nat} (h : ¬ (longest b i).1 < 4) : longest4 b i = longest b i := by
  unfold longest at h ⊢
  unfold longest4 lng4
  rw [if_neg h]
theorem toks_all' (b : List UInt8) (hb : b.length ≤ 140737488355328) {O : List UInt8} {s i : Nat} (h : O ++ toks b s i = pressL b) : O.length ≤ 143000000000000 := by
  have h1 := congrArg List.length h
  rw [List.length_append] at h1
  have h2 := press_wide b
  omega
set_option maxRecDepth 100000 in
set_option maxHeartbeats 1600000 in
theorem refPress_any (ao : Option Addr) (cap : Nat) (bs : List UInt8) (B off : Nat) (w : World) (h : SrcAt w ao cap bs B off) (hs : bs.length ≤ 140737488355328) :
    Calls Try.prog 13 #[.slice ao bs.length cap] w (SliceOf w (pressL bs)) := by
  have hput : Calls Try.prog 16 #[.slice none 0 0, .int .i64 (bs.length : Int)] w fun e w' => ∃ v, e = .returned v ∧ w'.ownsRow w.heap.size 5 1 v (numL bs.length).length ((numL bs.length).map B8) ∧ Below w.heap.size w w' := by
    have h1 := refPutNum_any none 0 [] 0 0 (bs.length : Int) w (src_nil w) (by simp)
    rw [List.nil_append, clampN_nat _ (by omega)] at h1
    exact h1
  have hstart : numL bs.length ++ toks bs 0 0 = pressL bs := rfl
  obtain ⟨N, hN⟩ : ∃ N, N = bs.length := ⟨_, rfl⟩
  obtain ⟨L, hL⟩ : ∃ L, L = numL bs.length := ⟨_, rfl⟩
  rw [← hL] at hput hstart
  have hsb : bs.length ≤ 140737488355328 := hs
  rw [← hN] at hs hput ⊢
  have hNl : N ≤ bs.length := by omega
  have hNg : bs.length ≤ N := by omega
  have HP := Lib.hid hput
  have HN := Lib.hid hN
  have HS := Lib.hid hstart
  clear hput hN hL hstart
  go_enter Try.func13, Try.ntmps13
  go_wp2_with fail
  refine HP.out.mono ?_
  rintro e w1 ⟨v1, rfl, o1, b1⟩
  obtain ⟨a1, c1, B1, rfl, s1, _⟩ := src_of_own o1
  clear o1
  obtain ⟨k1, hk1⟩ : ∃ k, k = L.length := ⟨_, rfl⟩
  have HK1 := Lib.hid hk1
  rw [← hk1]
  clear hk1
  go_wp2_with fail
  go_loopw [3, 4, 5] (fun x s i W => ∃ (O : List UInt8) (S I k : Nat) (a : Option Addr) (c b o : Nat), x = .slice a k c ∧ k = O.length ∧ s = .int .i64 (S : Int) ∧ i = .int .i64 (I : Int) ∧ S ≤ I ∧ I ≤ N ∧ O ++ toks bs S I = pressL bs ∧ SrcAt W a c O b o ∧ Below w.heap.size w W) (fun _ _ i _ => N - (intOf i).toNat)
  case atStart => exact ⟨L, 0, 0, k1, a1, c1, B1, 0, rfl, HK1.out, rfl, rfl, Nat.le_refl _, Nat.zero_le _, HS.out, s1, b1⟩
  case round =>
    clear s1 b1 HS HP
    obtain ⟨O, S, i, k, a, c, b, o, rfl, hk, rfl, rfl, hSi, hiN, hO, so, bo⟩ := hrel
    have hOl := toks_all' bs hsb hO
    have hsi := h.below bo
    have HK := Lib.hid hk
    have hkl : k ≤ 143000000000000 := by omega
    by_cases hlt : i < N
    · have hlong := refLongest_any ao cap bs B off i _ hsi (by omega) (by omega)
      rw [← HN.out] at hlong
      obtain ⟨ln, hln⟩ : ∃ ln, ln = (longest bs i).1 := ⟨_, rfl⟩
      obtain ⟨d, hd⟩ : ∃ d, d = (longest bs i).2 := ⟨_, rfl⟩
      rw [← hln, ← hd] at hlong
      have HLo := Lib.hid hlong
      clear hlong hk
      by_cases hc : ln < 4
      · have hstep := hO
        rw [toks_step (by omega) (longest_few (by omega))] at hstep
        have HT := Lib.hid hstep
        have hq : decide ((ln : Int) < 4) = true := by simp; omega
        clear hln hd hstep hO
        go_wp2_with fail
        refine HLo.out.mono ?_
        rintro e w2 ⟨rfl, b2⟩
        go_wp2_with fail
        go_roundw
        case rel => exact ⟨O, S, i + 1, k, a, c, b, o, rfl, HK.out, rfl, by go_num, by omega, by omega, HT.out, so.below b2, bo.trans (b2.mono bo.size)⟩
        case measure => simp [intOf]; omega
      · have hmany := longest_many (b := bs) (i := i) (by omega)
        have hcp := longest4_copies (b := bs) (i := i) (by omega) (by rw [hmany]; omega)
        have hstep := hO
        rw [toks_copy (by omega) (by rw [hmany]; omega)] at hstep
        rw [hmany, ← hln, ← hd] at hcp hstep
        have k1 := hcp.most
        have k2 := hcp.len
        have k3 := hcp.win
        obtain ⟨ao2, hsl, hs2⟩ := hsi.slice_lh S (i - S) (by omega)
        have er : ((bs.drop S).take (i - S)).length = i - S := by rw [List.length_take, List.length_drop]; omega
        have e1 : (S : Int) + ((i - S : Nat) : Int) = (i : Int) := by omega
        have hS0 : (0 : Int) ≤ (S : Int) := by omega
        rw [← HN.out, e1] at hsl
        obtain ⟨r, hr⟩ : ∃ r, r = (bs.drop S).take (i - S) := ⟨_, rfl⟩
        rw [← hr] at hs2 er hstep
        have HR := Lib.hid er
        have hst2 : (O ++ runT r ++ numL (2 * (ln - 4) + 1) ++ numL d) ++ toks bs (i + ln) (i + ln) = pressL bs := by
          rw [← hstep]; simp only [List.append_assoc]
        have HT := Lib.hid hst2
        have hl2 := toks_all' bs hsb hst2
        have hrl : r.length ≤ N := by omega
        have hr1 : (O ++ runT r ++ numL (2 * (ln - 4) + 1)).length ≤ 143000000000000 := by
          have := hl2
          rw [List.length_append] at this
          omega
        have hr0 : (O ++ runT r).length ≤ 143000000000000 := by
          have := hr1
          rw [List.length_append] at this
          omega
        have hOr : O.length + r.length ≤ 143000000000000 := by
          have h1 := hr0
          rw [List.length_append] at h1
          have h2 := runT_ge r
          omega
        have hq : decide ((ln : Int) < 4) = false := by simp; omega
        have hln4 : (4 : Int) ≤ (ln : Int) := by omega
        have hln259 : (ln : Int) ≤ 259 := by omega
        have ecl : clampN (2 * ((ln : Int) - 4) + 1) = 2 * (ln - 4) + 1 := by
          rw [show 2 * ((ln : Int) - 4) + 1 = ((2 * (ln - 4) + 1 : Nat) : Int) by omega, clampN_nat _ (by omega)]
        have ecd : clampN (d : Int) = d := clampN_nat d (by omega)
        have HCL := Lib.hid ecl
        have HCD := Lib.hid ecd
        clear hln hd hr er e1 hstep hst2 hcp hO hmany ecl ecd
        go_wp2_with fail
        refine HLo.out.mono ?_
        rintro e w2 ⟨rfl, b2⟩
        have bX := bo.trans (b2.mono bo.size)
        have sX := so.below b2
        have rX := hs2.below b2
        go_wp2_with fail
        have hrun := refRun_any a c O b o ao2 (cap - S) r B (off + S) w2 sX rX (by omega)
        rw [HR.out, ← HK.out] at hrun
        refine hrun.mono ?_
        rintro e w3 ⟨a3, c3, b3, o3, rfl, s3, t3⟩
        have bX := bX.trans (t3.mono bX.size)
        clear hrun sX rX
        obtain ⟨k3, hk3⟩ : ∃ k, k = (O ++ runT r).length := ⟨_, rfl⟩
        have hp3 := refPutNum_any a3 c3 (O ++ runT r) b3 o3 (2 * ((ln : Int) - 4) + 1) w3 s3 (by omega)
        rw [HCL.out] at hp3
        rw [← hk3] at hp3 ⊢
        have HP3 := Lib.hid hp3
        clear hp3 hk3
        go_wp2_with fail
        refine HP3.out.mono ?_
        rintro e w4 ⟨v4, rfl, o4, t4⟩
        obtain ⟨a4, c4, b4, rfl, s4, _⟩ := src_of_own o4
        have bX := bX.trans (t4.mono bX.size)
        obtain ⟨k4, hk4⟩ : ∃ k, k = (O ++ runT r ++ numL (2 * (ln - 4) + 1)).length := ⟨_, rfl⟩
        have hp4 := refPutNum_any a4 c4 (O ++ runT r ++ numL (2 * (ln - 4) + 1)) b4 0 (d : Int) w4 s4 (by omega)
        rw [HCD.out] at hp4
        rw [← hk4] at hp4 ⊢
        have HP4 := Lib.hid hp4
        clear hp4 hk4 HP3 o4
        go_wp2_with fail
        refine HP4.out.mono ?_
        rintro e w5 ⟨v5, rfl, o5, t5⟩
        obtain ⟨a5, c5, b5, rfl, s5, _⟩ := src_of_own o5
        have bX := bX.trans (t5.mono bX.size)
        obtain ⟨O5, hO5⟩ : ∃ O5, O5 = O ++ runT r ++ numL (2 * (ln - 4) + 1) ++ numL d := ⟨_, rfl⟩
        rw [← hO5] at s5 HT ⊢
        obtain ⟨k5, hk5⟩ : ∃ k, k = O5.length := ⟨_, rfl⟩
        rw [← hk5]
        have HK5 := Lib.hid hk5
        clear hk5 hO5 o5 HP4
        obtain ⟨E, hE⟩ : ∃ E, E = i + ln := ⟨_, rfl⟩
        have hEI : (i : Int) + (ln : Int) = (E : Int) := by omega
        have hEN : E ≤ N := by omega
        have hiE : i < E := by omega
        rw [← hE] at HT
        clear hE
        go_wp2_with fail
        go_roundw
        case rel => exact ⟨O5, E, E, k5, a5, c5, b5, 0, rfl, HK5.out, rfl, rfl, Nat.le_refl _, hEN, HT.out, s5, bX⟩
        case measure => simp [intOf]; omega
    · obtain rfl : i = N := by omega
      rw [toks_end (by omega)] at hO
      obtain ⟨ao2, hsl, hs2⟩ := hsi.slice_l S (by omega)
      rw [← HN.out] at hsl
      have hS0 : (0 : Int) ≤ (S : Int) := by omega
      obtain ⟨r, hr⟩ : ∃ r, r = bs.drop S := ⟨_, rfl⟩
      have er : r.length = i - S := by rw [hr, List.length_drop]; omega
      rw [← hr] at hs2 hO
      have hOr : O.length + r.length ≤ 143000000000000 := by
        have h1 := congrArg List.length hO
        rw [List.length_append] at h1
        have h2 := runT_ge r
        have h3 := press_wide bs
        omega
      have hrun := refRun_any a c O b o ao2 (cap - S) r B (off + S) _ so hs2 (by omega)
      rw [er, ← HK.out] at hrun
      rw [hO] at hrun
      have HRun := Lib.hid hrun
      clear hr er hO hrun hk
      go_wp2_with fail
      refine HRun.out.mono ?_
      rintro e w3 ⟨a3, c3, b3, o3, rfl, s3, t3⟩
      obtain ⟨k3, hk3⟩ : ∃ k, k = (pressL bs).length := ⟨_, rfl⟩
      rw [← hk3]
      have HK3 := Lib.hid hk3
      clear hk3
      go_wp2_with fail
      go_ret
      exact ⟨a3, c3, b3, o3, by rw [← HK3.out]; rfl, s3, bo.trans (t3.mono bo.size)⟩
end Go.Proofs.Ytjieljmlpbiidaa
