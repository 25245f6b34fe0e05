/- The walk of DiskBack. -/
import Derived.Test.YtmblkojilckobaaRefused
namespace Go.Proofs.Ytmblkojilckobaa
open Go.RowKit
theorem back_pure {S : St} (hg : Good S) (hd : S.dark = false) (hl : S.left = -1) {a b : Bs} (ha : thereF a S.fs = true) (hb : thereF b S.fs = false) :
    ((renameS S a b).1 = 1 ∨ (renameS S a b).1 = 4) ∨
    ((renameS S a b).1 = 0 ∧ thereF b (renameS S a b).2.fs = true ∧ thereF a (renameS S a b).2.fs = false ∧ (renameS (renameS S a b).2 b a).1 = 0 ∧ (renameS (renameS S a b).2 b a).2.fs = S.fs ∧ (renameS (renameS S a b).2 b a).2.done = S.done + 2) := by
  have hab : a ≠ b := fun e => by rw [e, hb] at ha; cases ha
  obtain ⟨x, hx⟩ : ∃ x, findF a S.fs = some x := by
    cases h : findF a S.fs with
    | none => simp [thereF, h] at ha
    | some x => exact ⟨x, rfl⟩
  have hbn : findF b S.fs = none := by
    cases h : findF b S.fs with
    | none => rfl
    | some x => simp [thereF, h] at hb
  cases hnb : named b with
  | false => left; left; simp [renameS, hnb]
  | true =>
    cases hna : named a with
    | false => left; left; simp [renameS, hnb, touchS, hna]
    | true =>
      have ht : touchS S a = 0 := by simp [touchS, hna, hd, hx]
      by_cases hq : S.free < (b.length : Int) - (a.length : Int)
      · left; right; simp [renameS, hnb, ht, hbn, hq]
      · right
        have hren : renamed S a b = putF b x (delF a S.fs) := by unfold renamed; rw [hx]; rfl
        have e1 : renameS S a b = (0, { tick S with fs := putF b x (delF a S.fs) }) := by
          unfold renameS
          rw [if_neg (by simp [hnb]), if_neg (by simp [ht]), if_neg (fun k => hq k.2)]
          unfold writeS
          rw [if_neg (by omega), hren]
        obtain ⟨T, hT⟩ : ∃ T, T = ({ tick S with fs := putF b x (delF a S.fs) } : St) := ⟨_, rfl⟩
        rw [e1, ← hT]
        have hTf : T.fs = putF b x (delF a S.fs) := by rw [hT]
        have hTd : T.dark = false := by rw [hT]; exact hd
        have hTl : T.left = -1 := by rw [hT]; show (if S.left = -1 then -1 else S.left - 1) = (-1 : Int); rw [if_pos hl]
        have hTn : T.done = S.done + 1 := by rw [hT]; rfl
        have hTc : T.cap = S.cap := by rw [hT]; rfl
        have f1 : findF b T.fs = some x := by rw [hTf, findF_put_same]
        have f2 : findF a T.fs = none := by rw [hTf, findF_put_other _ hab, findF_del_same hg.rise]
        have hcost : costs T.fs + a.length = costs S.fs + b.length := by
          rcases costs_renamed (t := b) hg hx with ⟨e, _⟩ | ⟨_, _, e⟩ | ⟨_, c, e, _⟩
          · exact absurd e hab
          · rw [hren, ← hTf] at e; exact e
          · rw [hbn] at e; cases e
        have hfr : ¬ T.free < (a.length : Int) - (b.length : Int) := by
          have h1 := hg.free_in.1
          unfold St.free at h1 ⊢
          rw [hTc]
          omega
        have ht2 : touchS T b = 0 := by simp [touchS, hnb, hTd, f1]
        have hren2 : renamed T b a = S.fs := by
          unfold renamed
          rw [f1, hTf]
          refine rising_ext (hg.rise.del.put.del.put) hg.rise fun n => ?_
          by_cases hn : n = a
          · rw [hn, findF_put_same, hx]; rfl
          · rw [findF_put_other _ hn]
            by_cases hn2 : n = b
            · rw [hn2, findF_del_same hg.rise.del.put, hbn]
            · rw [findF_del_other hn2, findF_put_other _ hn2, findF_del_other hn]
        have e2 : renameS T b a = (0, { tick T with fs := S.fs }) := by
          unfold renameS
          rw [if_neg (by simp [hna]), if_neg (by simp [ht2]), if_neg (fun k => hfr k.2)]
          unfold writeS
          rw [if_neg (by omega), hren2]
        refine ⟨rfl, by simp [thereF, f1], by simp [thereF, f2], by rw [e2], by rw [e2], ?_⟩
        rw [e2]
        show T.done + 1 = _
        omega
set_option maxRecDepth 100000 in
set_option maxHeartbeats 1600000 in
theorem back_any (v : Value) (sc : List OpR) (a b : Bs) (w : World) (hsc : ScriptAt w (elder w) v sc) (ha : a.length ≤ maxLen) (hb : b.length ≤ maxLen) :
    Calls Try.prog 9 #[v, .string (SL a), .string (SL b)] w fun e w' => e = .returned (.bool true) ∧ Below w.heap.size w w' := by
  have hA := awake_any w
  have SA := Lib.hid hsc
  clear hsc
  go_enter Try.func9, Try.ntmps9
  go_wp2_with (first
    | (go_at_call 10; refine hA.mono ?_; rintro e w1 ⟨rfl, b1⟩; have S1 := Lib.hid (SA.out.later b1); have z1 := b1.size; have HB1 := Lib.hid b1)
    | (go_at_call 32; refine (played_any 1048575 v sc w1 w.heap.size z1 S1.out).mono ?_; rintro e w2 ⟨p, S, rfl, P2, hG, hD, hcap⟩; have b2 := P2.old; have z2 := b2.size; have bw2 := b1.trans (b2.mono z1); have hP := Lib.hid P2; clear P2 b1 b2 hA hcap S1 SA)
    | (go_at_call 16; fail))
  have hoff := hP.out.off
  have hha := hP.out.has a ha
  have hhb := hP.out.has b hb
  cases hdk : S.dark with
  | true =>
    rw [hdk] at hoff
    go_wp2_with (go_at_call 16; refine hoff.mono ?_; rintro e w9 ⟨rfl, rfl⟩)
    go_ret
    exact ⟨rfl, bw2⟩
  | false =>
    rw [hdk] at hoff
    cases hta : thereF a S.fs with
    | false =>
      rw [hta] at hha
      go_wp2_with (first | (go_at_call 16; refine hoff.mono ?_; rintro e w9 ⟨rfl, rfl⟩) | (go_at_call 29; refine hha.mono ?_; rintro e w9 ⟨rfl, rfl⟩))
      go_ret
      exact ⟨rfl, bw2⟩
    | true =>
      rw [hta] at hha
      cases htb : thereF b S.fs with
      | true =>
        rw [htb] at hhb
        go_wp2_with (first | (go_at_call 16; refine hoff.mono ?_; rintro e w9 ⟨rfl, rfl⟩) | (go_at_call_of 29 (SL a); refine hha.mono ?_; rintro e w9 ⟨rfl, rfl⟩) | (go_at_call_of 29 (SL b); refine hhb.mono ?_; rintro e w9 ⟨rfl, rfl⟩))
        go_ret
        exact ⟨rfl, bw2⟩
      | false =>
        rw [htb] at hhb
        have hG1 : Good (onS S) := hG.on
        have hpure := back_pure (S := onS S) hG1 rfl rfl (a := a) (b := b) hta htb
        have HON := Lib.hid hP.out.on
        have hd1 : (onS S).done ≤ 1000 := by show S.done ≤ 1000; omega
        obtain ⟨T, hT⟩ : ∃ T, T = onS S := ⟨_, rfl⟩
        rw [← hT] at hG1 hpure HON hd1
        have HPU := Lib.hid hpure
        clear hpure hT hP hdk hta htb hD hG
        go_wp2_with (first
          | (go_at_call 16; refine hoff.mono ?_; rintro e w9 ⟨rfl, rfl⟩)
          | (go_at_call_of 29 (SL a); refine hha.mono ?_; rintro e w9 ⟨rfl, rfl⟩)
          | (go_at_call_of 29 (SL b); refine hhb.mono ?_; rintro e w9 ⟨rfl, rfl⟩)
          | (go_at_call 22; refine HON.out.mono ?_; rintro e w3 ⟨rfl, P3⟩; have b3 := P3.old; have z3 := b3.size; have bw3 := HB1.out.trans (b3.mono z1); have HDU := Lib.hid (P3.dump hG1.rise hG1.dump.1 hG1.dump.2); have HP3 := Lib.hid P3; clear P3 b3 HON)
          | (go_at_call 21; refine HDU.out.mono ?_; rintro e w4 ⟨v4, rfl, hF4, b4⟩; have F4 := Lib.hid hF4; clear hF4 HDU)
          | (go_at_call 33; refine (theirs_any _ v4 T.fs w4 F4.out (fun k hk => hk.2) hG1.dump.1).mono ?_; rintro e w5 ⟨v5, rfl, hF5, b5⟩; have sn := snap_of b4 hF5 b5; have SN := Lib.hid sn; have P5 := Lib.hid (HP3.out.snap sn.below); have z5 := sn.below.size; have bw5 := bw3.trans (sn.below.mono (by omega)); clear hF5 b4 b5 F4 HP3 sn)
          | (go_at_call 30; refine P5.out.ops.mono ?_; rintro e w9 ⟨rfl, rfl⟩)
          | (go_at_call 26; fail))
        have hcall := P5.out.rename hG1 (by omega) a b
        have hGr := hG1.rename a b
        obtain ⟨r, hr⟩ : ∃ r, r = renameS T a b := ⟨_, rfl⟩
        rw [← hr] at hcall hGr
        have HPU2 : ((r.1 = 1 ∨ r.1 = 4) ∨ (r.1 = 0 ∧ thereF b r.2.fs = true ∧ thereF a r.2.fs = false ∧ (renameS r.2 b a).1 = 0 ∧ (renameS r.2 b a).2.fs = T.fs ∧ (renameS r.2 b a).2.done = T.done + 2)) := by rw [hr]; exact HPU.out
        have hrd : r.2.done ≤ 1001 := by rw [hr]; have := rename_done T a b; omega
        have HC := Lib.hid hcall
        unfold OneTo at HC
        clear hr hcall HPU hha hhb hoff
        rcases HPU2 with h1 | ⟨h1, h2, h3, h4, h5, h6⟩
        · obtain ⟨rc, hrc⟩ : ∃ rc, rc = r.1 := ⟨_, rfl⟩
          rw [← hrc] at HC h1
          refine HC.out.mono ?_
          rintro e w6 ⟨rfl, P6⟩
          have hT := P6.turned
          have bz := hT.size
          have bw6 : Below w.heap.size w w6 := bw5.trans ⟨hT.os, hT.tape, hT.output, hT.size, fun k hk => hT.block k (by omega) (fun hn => hn (.inl (by show k < _; omega)))⟩
          clear hrc hT HC P6
          rcases h1 with rfl | rfl
          · go_wp2
            go_ret
            exact ⟨rfl, bw6⟩
          · go_wp2
            go_ret
            exact ⟨rfl, bw6⟩
        · rw [h1] at HC
          refine HC.out.mono ?_
          rintro e w6 ⟨rfl, P6⟩
          have hha := P6.has a ha
          have hhb := P6.has b hb
          rw [h2] at hhb
          rw [h3] at hha
          have hcall := P6.rename hGr (by omega) b a
          have hGr2 := hGr.rename b a
          unfold OneTo at hcall
          rw [h4] at hcall
          obtain ⟨U, hU⟩ : ∃ U, U = (renameS r.2 b a).2 := ⟨_, rfl⟩
          rw [← hU] at hcall hGr2 h5 h6
          have HC2 := Lib.hid hcall
          clear hU hcall h4 HC h1 h2 h3
          go_wp2_with (first
            | (go_at_call_of 29 (SL a); refine hha.mono ?_; rintro e w9 ⟨rfl, rfl⟩)
            | (go_at_call_of 29 (SL b); refine hhb.mono ?_; rintro e w9 ⟨rfl, rfl⟩)
            | (go_at_call 26; fail))
          refine HC2.out.mono ?_
          rintro e w7 ⟨rfl, P7⟩
          have hT := P7.turned
          have bz := hT.size
          have bw7 : Below w.heap.size w w7 := bw5.trans ⟨hT.os, hT.tape, hT.output, hT.size, fun k hk => hT.block k (by omega) (fun hn => hn (.inl (by show k < _; omega)))⟩
          have ho7 := P7.ops
          have hdump := P7.dump hGr2.rise hGr2.dump.1 hGr2.dump.2
          rw [h6] at ho7
          rw [h5] at hdump
          have hdn : ((T.done + 2 : Nat) : Int) = (T.done : Int) + 2 := by omega
          rw [hdn] at ho7
          have SN7 := Lib.hid (SN.out.files.zone P7 (fun k hk => .inr hk))
          have HDU := Lib.hid hdump
          clear hha hhb h5 h6 hT HC2 SN P5 hdn P7 P6 hdump
          go_wp2_with (first
            | (go_at_call 30; refine ho7.mono ?_; rintro e w9 ⟨rfl, rfl⟩)
            | (go_at_call 21; refine HDU.out.mono ?_; rintro e w8 ⟨v8, rfl, hF8, b8⟩; have F8 := Lib.hid hF8; clear hF8 HDU)
            | (go_at_call 33; refine (theirs_any _ v8 T.fs w8 F8.out (fun k hk => hk.2) hG1.dump.1).mono ?_; rintro e w10 ⟨v10, rfl, hF10, b10⟩; have sn8 := snap_of b8 hF10 b10; have SN8 := Lib.hid sn8; have A8 := Lib.hid (SN7.out.turn (Turn.of_below (fun _ => False) sn8.below) (fun _ _ h => h)); clear hF10 b8 b10 F8 sn8)
            | (go_at_call 34; refine (sameFiles_any _ _ v5 v10 T.fs T.fs w10 A8.out SN8.out.files (by have := hG1.dump.1; omega)).mono ?_; rintro e w11 ⟨rfl, b11⟩; have b711 := SN8.out.below.trans (b11.mono SN8.out.below.size); rw [decide_eq_true rfl]))
          go_ret
          exact ⟨by simp, bw7.trans (b711.mono bw7.size)⟩
end Go.Proofs.Ytmblkojilckobaa
