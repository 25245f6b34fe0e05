/- The walks of takeCopy, takeToken: what a token tells, laid behind a row of the call's own. Written by wip/tools/mk_token.py. -/
import Derived.Test.YtjieljmlpbiidaaPressSteps
import Derived.Test.YtjieljmlpbiidaaAppNew
import Derived.Test.YtjieljmlpbiidaaRowB
import Derived.Deep.RegionHeld3
namespace Go.Proofs.Ytjieljmlpbiidaa
open Go.RowKit
/-- What takeCopy and takeToken leave: a slice of the call's own, and the row behind the token; where there is none, a row that is broken. -/
def TokenTo (y base p : Nat) (w : World) (O : List UInt8) (R : Option (List UInt8 × List UInt8)) (e : Ending) (w' : World) : Prop :=
  ∃ v, e = .returned v ∧ Below y w w' ∧ match R with
    | none => w'.ownsRow base 5 1 v O.length (O.map B8) ∧ RwAt y w' p gone
    | some (O', q') => w'.ownsRow base 5 1 v O'.length (O'.map B8) ∧ RwAt y w' p (q', false)
theorem many_min (n : Nat) : (if (n : Int) > 4096 then (4096 : Int) else (n : Int)) = ((min n 4096 : Nat) : Int) := by split <;> omega
theorem room_min (n : Nat) : (if (n : Int) > 259 then (259 : Int) else (n : Int)) = ((min n 259 : Nat) : Int) := by split <;> omega
theorem copy_zero {size n : Nat} {O q : List UInt8} (h : (wNum (min O.length 4096) (q, false)).1 = 0) : copyStep size O q n = none := by
  rcases parse_cases q with hp | ⟨d, r, hd, rfl⟩
  · exact copyStep_bad hp
  · rw [copyStep_num hd]
    unfold wNum at h
    simp only [parse_numL d r hd] at h
    split at h
    · rename_i hm
      rw [if_pos (.inr (.inl hm))]
    · rw [if_pos (.inl h)]
theorem copy_some {size n : Nat} {O q : List UInt8} (h : ¬ (wNum (min O.length 4096) (q, false)).1 = 0) :
    ∃ d r, wNum (min O.length 4096) (q, false) = (d, (r, false)) ∧ 0 < d ∧ d ≤ min O.length 4096 ∧ r.length ≤ q.length ∧ copyStep size O q n = if min (size - O.length) 259 < n then none else some (copyL d n O, r) := by
  rcases parse_cases q with hp | ⟨d, r, hd, rfl⟩
  · exfalso
    apply h
    unfold wNum
    simp only [hp]
  · by_cases hm : min O.length 4096 < d
    · exfalso
      apply h
      unfold wNum
      simp only [parse_numL d r hd]
      rw [if_pos hm]
    · have hw := wNum_app (m := min O.length 4096) hd (by omega) r false
      rw [hw] at h
      have h0 : ¬ d = 0 := h
      refine ⟨d, r, hw, by omega, by omega, by rw [List.length_append]; omega, ?_⟩
      rw [copyStep_num hd]
      by_cases h3 : min (size - O.length) 259 < n
      · rw [if_pos (.inr (.inr h3)), if_pos h3]
      · rw [if_neg h3, if_neg (by rintro (k | k | k); exact h0 k; exact hm k; exact h3 k)]
set_option maxRecDepth 100000 in
set_option maxHeartbeats 1600000 in
theorem takeCopy_any (y base p : Nat) (v : Value) (O q : List UInt8) (n size room : Nat) (w : World) (hb : base ≤ w.heap.size) (hpb : p < base) (ho : w.ownsRow base 5 1 v O.length (O.map B8))
    (hr : RwAt y w p (q, false)) (hs : q.length ≤ 281474976710656) (hn4 : 4 ≤ n) (hn : n ≤ 4611686018427387903) (hO : O.length ≤ size) (hsz : size ≤ 140737488355328) (hroom : room = size - O.length) :
    Calls Try.prog 38 #[v, rwp p, .int .i64 (n : Int), .int .i64 (room : Int)] w (TokenTo y base p w O (copyStep size O q n)) := by
  obtain ⟨oa, oc, OB, rfl, so, hOB⟩ := src_of_own ho
  have hyp : y ≤ p := by obtain ⟨_, _, _, _, _, _, _, h⟩ := hr; exact h
  have hpw := hr.lt
  have hnum := rowNum_wide y p (q, false) (min O.length 4096) w hr hs
  have hm1 := many_min O.length
  by_cases h0 : (wNum (min O.length 4096) (q, false)).1 = 0
  · rw [copy_zero h0]
    rw [h0] at hnum
    obtain ⟨s1, hs1⟩ : ∃ s, s = (wNum (min O.length 4096) (q, false)).2 := ⟨_, rfl⟩
    obtain ⟨x1, hx1⟩ : ∃ x, x = min O.length 4096 := ⟨_, rfl⟩
    rw [← hs1, ← hx1] at hnum
    rw [← hx1] at hm1
    obtain ⟨k, hk⟩ : ∃ k, k = O.length := ⟨_, rfl⟩
    rw [← hk] at hO hm1 ⊢
    have HN := Lib.hid hnum
    have HK := Lib.hid hk
    have HO := Lib.hid ho
    clear hnum hs1 hx1 hk ho so h0 hr hs hroom
    go_enter Try.func38, Try.ntmps38
    go_wp2_with fail
    refine HN.out.mono ?_
    rintro e w1 ⟨rfl, r1, t1⟩
    have hbr := rowBreak_any y p s1 w1 r1
    have HB := Lib.hid hbr
    have O1 := Lib.hid (own_past HO.out t1 hpb)
    have T1 := Lib.hid t1
    clear hbr r1 t1
    go_wp2_with fail
    refine HB.out.mono ?_
    rintro e w2 ⟨⟨vb, rfl⟩, r2, t2⟩
    have T2 := Lib.hid (T1.out.trans t2)
    have O2 := Lib.hid (own_past O1.out t2 hpb)
    have R2 := Lib.hid r2
    clear r2 t2
    go_wp2_with fail
    go_ret
    have h3 := O2.out
    rw [← HK.out] at h3
    exact ⟨_, rfl, T2.out.below (by omega) (fun k e => by have h4 : k = p := e; omega), by rw [← HK.out]; exact h3, R2.out⟩
  · obtain ⟨d, r, hw, hd0, hdm, hrq, hcs⟩ := copy_some (size := size) (n := n) h0
    rw [hcs]
    rw [hw] at hnum
    have hm2 := room_min room
    obtain ⟨x1, hx1⟩ : ∃ x, x = min O.length 4096 := ⟨_, rfl⟩
    obtain ⟨x2, hx2⟩ : ∃ x, x = min room 259 := ⟨_, rfl⟩
    rw [← hx1] at hm1 hnum hdm
    rw [← hx2] at hm2
    rw [show min (size - O.length) 259 = x2 by rw [hx2, hroom]]
    have hx1k : x1 ≤ O.length := by omega
    have hx259 : x2 ≤ 259 := by omega
    have hxr : x2 ≤ room := by omega
    obtain ⟨k, hk⟩ : ∃ k, k = O.length := ⟨_, rfl⟩
    have hkr : k + room ≤ 140737488355328 := by omega
    rw [← hk] at hO hm1 hx1k ⊢
    have hdz : ((d : Int) == 0) = false := by simp; omega
    have HN := Lib.hid hnum
    have HK := Lib.hid hk
    have HO := Lib.hid ho
    clear hnum hx1 hx2 hk ho so h0 hr hs hroom hcs hw hrq
    by_cases hbad2 : x2 < n
    · rw [if_pos hbad2]
      have hgb : decide (x2 < n) = true := by simp; omega
      go_enter Try.func38, Try.ntmps38
      go_wp2_with fail
      refine HN.out.mono ?_
      rintro e w1 ⟨rfl, r1, t1⟩
      have hbr := rowBreak_any y p (r, false) w1 r1
      have HB := Lib.hid hbr
      have O1 := Lib.hid (own_past HO.out t1 hpb)
      have T1 := Lib.hid t1
      clear hbr r1 t1
      go_wp2_with fail
      refine HB.out.mono ?_
      rintro e w2 ⟨⟨vb, rfl⟩, r2, t2⟩
      have T2 := Lib.hid (T1.out.trans t2)
      have O2 := Lib.hid (own_past O1.out t2 hpb)
      have R2 := Lib.hid r2
      clear r2 t2
      go_wp2_with fail
      go_ret
      have h3 := O2.out
      rw [← HK.out] at h3
      exact ⟨_, rfl, T2.out.below (by omega) (fun k e => by have h4 : k = p := e; omega), by rw [← HK.out]; exact h3, R2.out⟩
    · rw [if_neg hbad2]
      have hg2 : n ≤ x2 := by omega
      have hgb2 : decide (x2 < n) = false := by simp; omega
      obtain ⟨i0, hi, hz0, hzz, hz2⟩ := info_parts info5
      clear hbad2
      go_enter Try.func38, Try.ntmps38
      go_wp2_with fail
      refine HN.out.mono ?_
      rintro e w1 ⟨rfl, r1, t1⟩
      have hown1 := own_past HO.out t1 hpb
      have hz1 := t1.size
      have hz1' : base ≤ w1.heap.size := by omega
      have hb1 := t1.below (B := y) (by omega) (fun k e => by have h4 : k = p := e; omega)
      have BY := Lib.hid hb1
      clear HO HN t1 hb1
      go_wp2_with fail
      clear hm1 hm2 hgb2 hdz
      go_loopw [0, 27] (fun x c W => ∃ (j k' : Nat) (a' : Option Addr) (oc' : Nat) (O' : List UInt8), x = .slice a' k' oc' ∧ k' = O'.length ∧ c = .int .i64 (j : Int) ∧ j ≤ n ∧ k' = k + j ∧ copyL d (n - j) O' = copyL d n O ∧ W.ownsRow base 5 1 (.slice a' k' oc') k' (O'.map B8) ∧ RwAt y W p (r, false) ∧ Below y w1 W ∧ base ≤ W.heap.size) (fun _ c _ => n - (intOf c).toNat)
      case atStart => exact ⟨0, k, oa, oc, O, rfl, HK.out, rfl, Nat.zero_le _, rfl, rfl, by rw [HK.out]; exact hown1, r1, Below.refl _ _, hz1'⟩
      case round =>
        clear hown1 r1
        obtain ⟨j, k', a', oc', O', rfl, hk', rfl, hyn, hky, hcl, hown, hrw, hbel, hbw⟩ := hrel
        by_cases hlt : j < n
        · have hown' := hown
          rw [hk'] at hown'
          obtain ⟨ga, gc, GB, hv, sg, _⟩ := src_of_own hown'
          rw [← hk'] at hv
          simp only [Value.slice.injEq, true_and] at hv
          obtain ⟨rfl, rfl⟩ := hv
          obtain rfl := sg.src (by omega)
          have c0 := sg.cell (k' - d) (by omega)
          rw [Nat.zero_add] at c0
          have hstep : copyL d (n - (j + 1)) (O' ++ [O'.getD (k' - d) 0]) = copyL d n O := by
            rw [← hcl, show n - j = (n - (j + 1)) + 1 by omega, copyL_step, ← hk']
          obtain ⟨z, hz⟩ : ∃ z, z = O'.getD (k' - d) 0 := ⟨_, rfl⟩
          rw [← hz] at c0 hstep
          have HST := Lib.hid hstep
          have HW := Lib.hid hown
          have HRW := Lib.hid hrw
          have HK' := Lib.hid hk'
          have HKY := Lib.hid hky
          have hdk : d ≤ k' := by omega
          have hkb : k' + 1 ≤ 140737488355328 := by omega
          clear hstep hown hown' hk' hky hcl sg hz hrw
          go_wp2_with (at_builtin; refine wpList_append_own _ rfl _ _ 22 rfl base 5 i0 (.int .u8 0) 1 1 Try.underlying22 hi hz0 hzz hz2 rfl (by decide) _ k' _ rfl (HW.out.alloc _) ⟨_, 0, none⟩ 1 1 _ rfl rfl (news_one _ _) (by simp [Value.oneCell']) (by unfold maxLen; omega) (by omega) (by simp; omega) ?_; intro v3 w3 hown3 hgrow3 _; have O3 := Lib.hid hown3; have G3 := Lib.hid hgrow3; clear hown3 hgrow3)
          have hb3 : Below y w1 w3 := (hbel.alloc (by omega) _).grown G3.out (by simp; omega) (fun k hk => by have := (HW.out.lt k hk).1; omega)
          have hr3 : RwAt y w3 p (r, false) := (HRW.out.below ((Below.refl _ _).alloc (Nat.le_refl _) _)).past (Turn.of_grown (G := fun k => base ≤ k) G3.out (fun g hg => (HW.out.lt g hg).1)) (fun k hk => by have h4 : base ≤ k := hk; omega)
          have hs3 : base ≤ w3.heap.size := Nat.le_trans (by simp; omega) G3.out.size
          have h3 := O3.out
          have e3 : O'.map B8 ++ [(.int .u8 (z.toNat : Int) : Value)] = (O' ++ [z]).map B8 := by rw [List.map_append]; rfl
          have hl3 : k' + 1 = (O' ++ [z]).length := by rw [List.length_append, ← HK'.out]; rfl
          rw [e3, hl3] at h3
          obtain ⟨va, vc, VB, rfl, _, _⟩ := src_of_own h3
          rw [← hl3] at h3 ⊢
          have H3 := Lib.hid h3
          have HL3 := Lib.hid hl3
          have HR3 := Lib.hid hr3
          clear h3 hl3 e3 O3 G3 hr3
          go_wp2_with fail
          go_roundw
          case rel => exact ⟨j + 1, k' + 1, va, vc, O' ++ [z], rfl, HL3.out, by go_num, by omega, by have := HKY.out; omega, HST.out, H3.out, HR3.out, hb3, hs3⟩
          case measure => simp [intOf]; omega
        · obtain rfl : j = n := by omega
          rw [Nat.sub_self] at hcl
          have hcl2 : O' = copyL d j O := hcl
          have HW := Lib.hid hown
          have HRW := Lib.hid hrw
          have HK' := Lib.hid hk'
          have HC := Lib.hid hcl2
          clear hown hk' hky hcl hcl2 hrw
          go_wp2_with fail
          go_ret
          have hfin := HW.out
          rw [HK'.out, HC.out] at hfin
          refine ⟨.slice a' (copyL d j O).length oc', ?_, BY.out.trans hbel, hfin, HRW.out⟩
          rw [HK'.out, HC.out]
          rfl
theorem OutTurnedBelow {base y n : Nat} {v : Value} {xs : List Value} {w w' : World} (hb : base ≤ w.heap.size) (hy : y ≤ base) (h : w.ownsRow base 5 1 v n xs) (hg : w.grownBy w' v.ownBlock) : Below y w w' :=
  ⟨hg.os, hg.tape, hg.output, hg.size, fun k hk => hg.block k (show k < w.heap.size by omega) (fun e => by have := (h.lt k e.symm).1; omega)⟩
set_option maxRecDepth 100000 in
set_option maxHeartbeats 1600000 in
theorem takeToken_any (y base p : Nat) (v : Value) (O q : List UInt8) (size room : Nat) (w : World) (hb : base ≤ w.heap.size) (hpb : p < base) (ho : w.ownsRow base 5 1 v O.length (O.map B8))
    (hr : RwAt y w p (q, false)) (hs : q.length ≤ 281474976710656) (hO : O.length ≤ size) (hsz : size ≤ 140737488355328) (hroom : room = size - O.length) :
    Calls Try.prog 27 #[v, rwp p, .int .i64 (room : Int)] w (TokenTo y base p w O (stepT size O q)) := by
  obtain ⟨oa, oc, OB, rfl, so, hOB⟩ := src_of_own ho
  have hyp : y ≤ p := by obtain ⟨_, _, _, _, _, _, _, h⟩ := hr; exact h
  have hpw := hr.lt
  have hnum := rowNum_wide y p (q, false) 9223372036854775807 w hr hs
  have hrk : O.length + room ≤ 140737488355328 := by omega
  rcases parse_cases q with hp | ⟨t, q1, ht, he⟩
  · rw [stepT_bad hp]
    have hw : wNum 9223372036854775807 (q, false) = (0, gone) := by unfold wNum; simp only [hp]
    rw [hw] at hnum
    obtain ⟨k, hk⟩ : ∃ k, k = O.length := ⟨_, rfl⟩
    have HN := Lib.hid hnum
    have HK := Lib.hid hk
    have HO := Lib.hid ho
    have hbr := fun W (h : RwAt y W p gone) => rowBreak_any y p gone W h
    have hby := fun W (h : RwAt y W p gone) => rowBytes_no y p gone 1 W h (by decide)
    have HBR := Lib.hid hbr
    have HBY := Lib.hid hby
    rw [← hk] at hrk ⊢
    clear hnum hk ho so hr hs hroom hp hw hbr hby hO
    by_cases h1 : room = 0
    · subst h1
      go_enter Try.func27, Try.ntmps27
      go_wp2_with fail
      refine HN.out.mono ?_
      rintro e w1 ⟨rfl, r1, t1⟩
      have O1 := Lib.hid (own_past HO.out t1 hpb)
      have T1 := Lib.hid t1
      have R1 := Lib.hid r1
      clear r1 t1
      go_wp2_with fail
      refine (HBR.out w1 R1.out).mono ?_
      rintro e w2 ⟨⟨vb, rfl⟩, r2, t2⟩
      have O2 := Lib.hid (own_past O1.out t2 hpb)
      have T2 := Lib.hid (T1.out.trans t2)
      have R2 := Lib.hid r2
      clear r2 t2
      go_wp2_with fail
      refine (HBY.out w2 R2.out).mono ?_
      rintro e w3 ⟨rfl, r3, t3⟩
      have O3 := own_past O2.out t3 hpb
      rw [← HK.out] at O3
      have OW := Lib.hid O3
      have T3 := Lib.hid (T2.out.trans t3)
      have R3 := Lib.hid r3
      clear r3 t3 O3
      go_wp2_with (at_builtin; refine wpList_append_src rfl _ _ rfl base (.slice oa k oc) k _ rfl OW.out none 0 0 rfl [] rfl (fun _ => ⟨rfl, rfl⟩) (fun ad had => by cases had) (fun u hu => by cases hu) (by omega) (by have := T3.out.size; omega) ?_; intro v4 w4 O4 G4 V4; clear V4)
      go_ret
      have hz3 := T3.out.size
      have h4 := O4.out
      rw [List.append_nil, Nat.add_zero] at h4
      exact ⟨v4, rfl, (T3.out.below (by omega) (fun k e => by have h4 : k = p := e; omega)).trans (OutTurnedBelow (base := base) (by omega) (by omega) OW.out G4), by rw [← HK.out]; exact h4, R3.out.past (Turn.of_grown (G := fun k => base ≤ k) G4 (fun g hg => (OW.out.lt g hg).1)) (fun k hk => by have h4 : base ≤ k := hk; omega)⟩
    · have hr1 : ¬ (1 : Int) > (room : Int) := by omega
      go_enter Try.func27, Try.ntmps27
      go_wp2_with fail
      refine HN.out.mono ?_
      rintro e w1 ⟨rfl, r1, t1⟩
      have O1 := Lib.hid (own_past HO.out t1 hpb)
      have T1 := Lib.hid t1
      have R1 := Lib.hid r1
      clear r1 t1
      go_wp2_with fail
      refine (HBY.out w1 R1.out).mono ?_
      rintro e w3 ⟨rfl, r3, t3⟩
      have O3 := own_past O1.out t3 hpb
      rw [← HK.out] at O3
      have OW := Lib.hid O3
      have T3 := Lib.hid (T1.out.trans t3)
      have R3 := Lib.hid r3
      clear r3 t3 O3
      go_wp2_with (at_builtin; refine wpList_append_src rfl _ _ rfl base (.slice oa k oc) k _ rfl OW.out none 0 0 rfl [] rfl (fun _ => ⟨rfl, rfl⟩) (fun ad had => by cases had) (fun u hu => by cases hu) (by omega) (by have := T3.out.size; omega) ?_; intro v4 w4 O4 G4 V4; clear V4)
      go_ret
      have hz3 := T3.out.size
      have h4 := O4.out
      rw [List.append_nil, Nat.add_zero] at h4
      exact ⟨v4, rfl, (T3.out.below (by omega) (fun k e => by have h4 : k = p := e; omega)).trans (OutTurnedBelow (base := base) (by omega) (by omega) OW.out G4), by rw [← HK.out]; exact h4, R3.out.past (Turn.of_grown (G := fun k => base ≤ k) G4 (fun g hg => (OW.out.lt g hg).1)) (fun k hk => by have h4 : base ≤ k := hk; omega)⟩
  · have hw : wNum 9223372036854775807 (q, false) = (t, (q1, false)) := by
      rw [he]
      exact wNum_app (m := 9223372036854775807) ht (by omega) q1 false
    rw [hw] at hnum
    have hqp : q1.length ≤ q.length := by rw [he, List.length_append]; omega
    have hqs : q1.length ≤ 281474976710656 := by omega
    by_cases hodd : t % 2 = 1
    · have hsc := stepT_copy (size := size) (O := O) (q := q1) ht hodd
      rw [← he] at hsc
      rw [hsc]
      have b2 : ((t : Int) % 2 == 1) = true := by simp; omega
      obtain ⟨L, hL⟩ : ∃ L, L = t / 2 + 4 := ⟨_, rfl⟩
      have hLi : (t : Int) / 2 + 4 = (L : Int) := by omega
      have hL4 : 4 ≤ L := by omega
      have hLb : L ≤ 4611686018427387903 := by omega
      have hti : (t : Int) ≤ 4611686018427387903 := by omega
      rw [← hL]
      have hcopy := fun W (hz : base ≤ W.heap.size) (h1 : W.ownsRow base 5 1 (.slice oa O.length oc) O.length (O.map B8)) (h2 : RwAt y W p (q1, false)) => takeCopy_any y base p (.slice oa O.length oc) O q1 L size room W hz hpb h1 h2 hqs hL4 hLb hO hsz hroom
      obtain ⟨k, hk⟩ : ∃ k, k = O.length := ⟨_, rfl⟩
      have HN := Lib.hid hnum
      have HO := Lib.hid ho
      have HC := Lib.hid hcopy
      have HK := Lib.hid hk
      rw [← hk] at HC HO ⊢
      clear hnum ho so hr hs hroom hw he hsc hL hodd hcopy hk
      go_enter Try.func27, Try.ntmps27
      go_wp2_with fail
      refine HN.out.mono ?_
      rintro e w1 ⟨rfl, r1, t1⟩
      have hc := HC.out w1 (by have := t1.size; omega) (own_past HO.out t1 hpb) r1
      have HCC := Lib.hid hc
      have T1 := Lib.hid t1
      clear hc r1 t1
      go_wp2_with fail
      refine HCC.out.mono ?_
      rintro e w2 ⟨v2, rfl, b2, h2⟩
      have H2 := Lib.hid h2
      clear h2 hLi
      go_wp2_with fail
      go_ret
      exact ⟨_, rfl, (T1.out.below (by omega) (fun k e => by have h4 : k = p := e; omega)).trans b2, H2.out⟩
    · have hsc := stepT_run (size := size) (O := O) (q := q1) ht hodd
      rw [← he] at hsc
      rw [hsc, ← hroom]
      have b2 : ((t : Int) % 2 == 1) = false := by simp; omega
      obtain ⟨L, hL⟩ : ∃ L, L = t / 2 + 1 := ⟨_, rfl⟩
      have hLi : (t : Int) / 2 + 1 = (L : Int) := by omega
      have hL1 : 1 ≤ L := by omega
      have hti : (t : Int) ≤ 4611686018427387903 := by omega
      rw [← hL]
      obtain ⟨k, hk⟩ : ∃ k, k = O.length := ⟨_, rfl⟩
      have HN := Lib.hid hnum
      have HK := Lib.hid hk
      have HO := Lib.hid ho
      rw [← hk] at hrk ⊢
      clear hnum hk ho so hr hs hroom hw he hsc hL hodd
      by_cases h1 : room < L
      · rw [if_pos (by omega)]
        have hr1 : (L : Int) > (room : Int) := by omega
        have hbr := fun W (h : RwAt y W p (q1, false)) => rowBreak_any y p (q1, false) W h
        have hby := fun W (h : RwAt y W p gone) => rowBytes_no y p gone L W h (by show 0 < L; omega)
        have HBR := Lib.hid hbr
        have HBY := Lib.hid hby
        clear hbr hby
        go_enter Try.func27, Try.ntmps27
        go_wp2_with fail
        refine HN.out.mono ?_
        rintro e w1 ⟨rfl, r1, t1⟩
        have O1 := Lib.hid (own_past HO.out t1 hpb)
        have T1 := Lib.hid t1
        have R1 := Lib.hid r1
        clear r1 t1
        go_wp2_with fail
        refine (HBR.out w1 R1.out).mono ?_
        rintro e w2 ⟨⟨vb, rfl⟩, r2, t2⟩
        have O2 := Lib.hid (own_past O1.out t2 hpb)
        have T2 := Lib.hid (T1.out.trans t2)
        have R2 := Lib.hid r2
        clear r2 t2
        go_wp2_with fail
        refine (HBY.out w2 R2.out).mono ?_
        rintro e w3 ⟨rfl, r3, t3⟩
        have O3 := own_past O2.out t3 hpb
        rw [← HK.out] at O3
        have OW := Lib.hid O3
        have T3 := Lib.hid (T2.out.trans t3)
        have R3 := Lib.hid r3
        clear r3 t3 O3
        go_wp2_with (at_builtin; refine wpList_append_src rfl _ _ rfl base (.slice oa k oc) k _ rfl OW.out none 0 0 rfl [] rfl (fun _ => ⟨rfl, rfl⟩) (fun ad had => by cases had) (fun u hu => by cases hu) (by omega) (by have := T3.out.size; omega) ?_; intro v4 w4 O4 G4 V4; clear V4)
        go_ret
        have hz3 := T3.out.size
        have h4 := O4.out
        rw [List.append_nil, Nat.add_zero] at h4
        exact ⟨v4, rfl, (T3.out.below (by omega) (fun k e => by have h4 : k = p := e; omega)).trans (OutTurnedBelow (base := base) (by omega) (by omega) OW.out G4), by rw [← HK.out]; exact h4, R3.out.past (Turn.of_grown (G := fun k => base ≤ k) G4 (fun g hg => (OW.out.lt g hg).1)) (fun k hk => by have h4 : base ≤ k := hk; omega)⟩
      · have hr1 : ¬ (L : Int) > (room : Int) := by omega
        by_cases h2 : q1.length < L
        · rw [if_pos (by omega)]
          have hby := fun W (h : RwAt y W p (q1, false)) => rowBytes_no y p (q1, false) L W h h2
          have HBY := Lib.hid hby
          clear hby
          go_enter Try.func27, Try.ntmps27
          go_wp2_with fail
          refine HN.out.mono ?_
          rintro e w1 ⟨rfl, r1, t1⟩
          have O1 := Lib.hid (own_past HO.out t1 hpb)
          have T1 := Lib.hid t1
          have R1 := Lib.hid r1
          clear r1 t1
          go_wp2_with fail
          refine (HBY.out w1 R1.out).mono ?_
          rintro e w3 ⟨rfl, r3, t3⟩
          have O3 := own_past O1.out t3 hpb
          rw [← HK.out] at O3
          have OW := Lib.hid O3
          have T3 := Lib.hid (T1.out.trans t3)
          have R3 := Lib.hid r3
          clear r3 t3 O3
          go_wp2_with (at_builtin; refine wpList_append_src rfl _ _ rfl base (.slice oa k oc) k _ rfl OW.out none 0 0 rfl [] rfl (fun _ => ⟨rfl, rfl⟩) (fun ad had => by cases had) (fun u hu => by cases hu) (by omega) (by have := T3.out.size; omega) ?_; intro v4 w4 O4 G4 V4; clear V4)
          go_ret
          have hz3 := T3.out.size
          have h4 := O4.out
          rw [List.append_nil, Nat.add_zero] at h4
          exact ⟨v4, rfl, (T3.out.below (by omega) (fun k e => by have h4 : k = p := e; omega)).trans (OutTurnedBelow (base := base) (by omega) (by omega) OW.out G4), by rw [← HK.out]; exact h4, R3.out.past (Turn.of_grown (G := fun k => base ≤ k) G4 (fun g hg => (OW.out.lt g hg).1)) (fun k hk => by have h4 : base ≤ k := hk; omega)⟩
        · rw [if_neg (by omega)]
          have hby := fun W (h : RwAt y W p (q1, false)) => rowBytes_wide y p (q1, false) L W h (by show L ≤ q1.length; omega) hqs
          have htl : (q1.take L).length = L := by rw [List.length_take]; omega
          have HBY := Lib.hid hby
          have HTL := Lib.hid htl
          clear hby htl
          go_enter Try.func27, Try.ntmps27
          go_wp2_with fail
          refine HN.out.mono ?_
          rintro e w1 ⟨rfl, r1, t1⟩
          have hby1 := HBY.out w1 r1
          have HB1 := Lib.hid hby1
          have T1 := Lib.hid t1
          clear hby1 r1 t1
          go_wp2_with fail
          refine HB1.out.mono ?_
          rintro e w2 ⟨a2, B2, f2, rfl, s2, _, r2, t2⟩
          have T2 := Lib.hid (T1.out.trans t2)
          have S2 := Lib.hid s2
          have R2 := Lib.hid r2
          have O2 := own_past (own_past HO.out T1.out hpb) t2 hpb
          rw [← HK.out] at O2
          have OW := Lib.hid O2
          clear r2 t2 s2 O2 hLi
          go_wp2_with (at_builtin; refine wpList_append_src rfl _ _ rfl base (.slice oa k oc) k _ rfl OW.out a2 L L rfl ((q1.take L).map B8) (by rw [List.length_map]; exact HTL.out) (fun hh => by have hz := S2.out.bare hh; rw [HTL.out] at hz; exact hz) S2.out.cells (B8_one _) (by omega) (by have := T2.out.size; omega) ?_; intro v3 w3 O3 G3 V3; clear V3)
          go_ret
          have h3 := O3.out
          rw [← List.map_append] at h3
          have e3 : k + L = (O ++ q1.take L).length := by rw [List.length_append, HTL.out, HK.out]
          rw [e3] at h3
          have hz2 := T2.out.size
          have hb3 : Below y w2 w3 := OutTurnedBelow (base := base) (by omega) (by omega) OW.out G3
          exact ⟨v3, rfl, (T2.out.below (by omega) (fun k e => by have h4 : k = p := e; omega)).trans hb3, h3, R2.out.past (Turn.of_grown (G := fun k => base ≤ k) G3 (fun g hg => (OW.out.lt g hg).1)) (fun k hk => by have h4 : base ≤ k := hk; omega)⟩
end Go.Proofs.Ytjieljmlpbiidaa
