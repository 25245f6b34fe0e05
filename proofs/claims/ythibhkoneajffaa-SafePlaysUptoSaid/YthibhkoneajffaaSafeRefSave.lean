/- Save of the document's answer. -/
import Derived.Test.YthibhkoneajffaaDiskROne
import Derived.Test.YthibhkoneajffaaSafeSmall
namespace Go.Proofs.Ythibhkoneajffaa
open Go.RowKit
theorem chunks_step (r : Bs) : chunksL r = r.take 64 :: (if r.drop 64 = [] then [] else chunksL (r.drop 64)) := by
  by_cases h : 64 < r.length
  · rw [chunks_long h, if_neg (fun e => by have := congrArg List.length e; rw [List.length_drop, List.length_nil] at this; omega)]
  · rw [chunks_short (by omega), if_pos (List.drop_of_length_le (by omega)), List.take_of_length_le (by omega)]
theorem append_there {S : St} {n c : Bs} (h : (appendS S n c).1 = 0) : thereF n (appendS S n c).2.fs = true := by
  unfold appendS at h ⊢
  split at h
  · omega
  · rename_i h1
    rw [if_neg h1]
    split at h
    · rename_i h2; exact absurd h h2
    · rename_i h2
      rw [if_neg h2]
      split at h
      · omega
      · rename_i h3
        rw [if_neg h3]
        unfold writeS at h ⊢
        split at h
        · omega
        · rename_i h4
          rw [if_neg h4]
          unfold thereF
          show (findF n (putF n _ S.fs)).isSome = true
          rw [findF_put_same]
          rfl
/-- What is still to be appended. -/
def restL (n : Bs) (U : St) (r : Bs) : List Bs := if thereF n U.fs = true ∧ r = [] then [] else chunksL r
theorem rest_step {n : Bs} {U : St} {r : Bs} (h : ¬ (thereF n U.fs = true ∧ r = [])) : (appendsS n U (restL n U r)) = if (appendS U n (r.take 64)).1 ≠ 0 then appendS U n (r.take 64) else appendsS n (appendS U n (r.take 64)).2 (restL n (appendS U n (r.take 64)).2 (r.drop 64)) := by
  unfold restL
  rw [if_neg h, chunks_step]
  have e : ∀ (c : Bs) (L : List Bs), appendsS n U (c :: L) = if (appendS U n c).1 ≠ 0 then appendS U n c else appendsS n (appendS U n c).2 L := fun _ _ => rfl
  rw [e]
  split
  · rfl
  · rename_i h1
    have h2 : (appendS U n (r.take 64)).1 = 0 := Classical.not_not.1 h1
    rw [append_there h2]
    simp only [true_and]
/-- The shadow is gone, or was not there. -/
theorem save_parts {S : St} {n b : Bs} (hg : Good S) (hn : named (shadowN n) = true) (hne : n ≠ []) (hk : marked n = false) (hd : S.dark = false) :
    (thereF (shadowN n) S.fs = false ∧ saveS S n b = saveT n b S) ∨ (thereF (shadowN n) S.fs = true ∧ (removeS S (shadowN n)).1 ≠ 0 ∧ saveS S n b = removeS S (shadowN n)) ∨
    (thereF (shadowN n) S.fs = true ∧ (removeS S (shadowN n)).1 = 0 ∧ thereF (shadowN n) (removeS S (shadowN n)).2.fs = false ∧ saveS S n b = saveT n b (removeS S (shadowN n)).2) := by
  unfold saveS
  rw [if_neg (by simp [hne, hk])]
  cases hf : findF (shadowN n) S.fs with
  | none =>
    have hr : removeS S (shadowN n) = (3, S) := by unfold removeS; rw [touch_no hn hd hf, if_pos (by decide)]
    rw [hr, if_neg (by simp)]
    exact .inl ⟨by simp [thereF, hf], rfl⟩
  | some o =>
    have ht := touch_is hn hd hf
    have hth : thereF (shadowN n) S.fs = true := by simp [thereF, hf]
    by_cases h0 : S.left = 0
    · have hr : removeS S (shadowN n) = (5, cutNow S) := by unfold removeS writeS; rw [if_neg (by simp [ht]), if_pos h0]
      rw [hr, if_pos (by simp)]
      exact .inr (.inl ⟨hth, (by simp), rfl⟩)
    · have hr : removeS S (shadowN n) = (0, { tick S with fs := delF (shadowN n) S.fs }) := by unfold removeS writeS; rw [if_neg (by simp [ht]), if_neg h0]
      rw [hr, if_neg (by simp)]
      refine .inr (.inr ⟨hth, rfl, ?_, rfl⟩)
      show (findF (shadowN n) (delF (shadowN n) S.fs)).isSome = false
      rw [findF_del_same hg.rise]
      rfl
theorem append_tick {S : St} {n c : Bs} (h : (appendS S n c).1 = 0) : (appendS S n c).2.done = S.done + 1 := by
  unfold appendS at h ⊢
  split at h
  · omega
  · rename_i h1
    rw [if_neg h1]
    split at h
    · rename_i h2; exact absurd h h2
    · rename_i h2
      rw [if_neg h2]
      split at h
      · omega
      · rename_i h3
        rw [if_neg h3]
        unfold writeS at h ⊢
        split at h
        · omega
        · rename_i h4
          rw [if_neg h4]
          rfl
theorem rest_length {n : Bs} {U U' : St} {r : Bs} (h : ¬ (thereF n U.fs = true ∧ r = [])) (h' : thereF n U'.fs = true) : (restL n U r).length = (restL n U' (r.drop 64)).length + 1 := by
  unfold restL
  rw [if_neg h, chunks_step, h']
  simp only [true_and, List.length_cons]
/-- How many raw writes a disk of the document's has done, read off its block. -/
def doneAt (q : Nat) (W : World) : Nat := match W.cell? ⟨q, 2, none⟩ with | some (.int _ d) => d.toNat | _ => 0
theorem ROne.doneAt {w0 w : World} {Z : Nat → Prop} {q : Nat} {S : St} (h : ROne w0 Z w q S) : doneAt q w = S.done := by
  unfold Go.Proofs.Ythibhkoneajffaa.doneAt
  rw [h.done]
  simp
section
variable {w0 w : World} {Z : Nat → Prop} {q : Nat} {S : St}
set_option maxRecDepth 100000 in
set_option maxHeartbeats 40000000 in
theorem refSave_any (h : ROne w0 Z w q S) (hg : Good S) (hb : S.done + S.cap + 10 ≤ 1000000000000) (n b : Bs) (hn : n.length ≤ 281474976710656) (v : Value) (hv : BytesAt w Z v b) (hbl : b.length ≤ 281474976710656) :
    Calls Try.prog 22 #[ptr q, .string (SL n), v] w (ROneTo w0 Z q (saveS S n b)) := by
  have hs : (SL n).size = n.length := SL_size n
  have h1s : (⟨#[126]⟩ : ByteArray).size = 1 := rfl
  have hcat := SL_shadow n
  have hnl : (shadowN n).length ≤ 281474976710657 := by rw [shadow_length]; omega
  have hnm := refNamed_any (shadowN n) w (by omega)
  have hsh := refShadow_any n (by omega) w
  obtain ⟨ao, cap, B, off, rfl, hsr, hB⟩ := hv
  have hv : BytesAt w Z (.slice ao b.length cap) b := ⟨ao, cap, B, off, rfl, hsr, hB⟩
  obtain ⟨K, hK⟩ : ∃ K, K = b.length := ⟨_, rfl⟩
  rw [← hK] at hv ⊢
  clear hB
  cases hN : named (shadowN n) with
  | false =>
    have e : saveS S n b = (1, S) := save_bad (.inl hN)
    rw [e]
    rw [hN] at hnm
    have HS : ROneTo w0 Z q (1, S) (.returned (err 1)) w := ⟨rfl, h⟩
    clear e hN hsh hsr hv
    go_enter Try.func22, Try.ntmps22
    go_wp2_with (go_at_call 41; refine hnm.mono ?_; rintro e w' ⟨rfl, rfl⟩)
    go_ret
    exact HS
  | true =>
    rw [hN] at hnm
    cases hm : marked n with
    | true =>
      have e : saveS S n b = (1, S) := save_bad (.inr (.inr hm))
      rw [e]
      rw [hm] at hsh
      have HS : ROneTo w0 Z q (1, S) (.returned (err 1)) w := ⟨rfl, h⟩
      clear e hm hN hsr hv
      go_enter Try.func22, Try.ntmps22
      go_wp2_with (first | (go_at_call 41; refine hnm.mono ?_; rintro e w' ⟨rfl, rfl⟩) | (go_at_call 53; refine hsh.mono ?_; rintro e w' ⟨rfl, rfl⟩))
      go_ret
      exact HS
    | false =>
      rw [hm] at hsh
      by_cases hn0 : n = []
      · subst hn0
        have e : saveS S [] b = (1, S) := save_bad (.inr (.inl rfl))
        rw [e]
        have HS : ROneTo w0 Z q (1, S) (.returned (err 1)) w := ⟨rfl, h⟩
        have hz : (SL []).toList.isEmpty = true := by rw [SL_toList]; rfl
        clear e hm hN hsr hv
        go_enter Try.func22, Try.ntmps22
        go_wp2_with (first | (go_at_call 41; refine hnm.mono ?_; rintro e w' ⟨rfl, rfl⟩) | (go_at_call 53; refine hsh.mono ?_; rintro e w' ⟨rfl, rfl⟩))
        go_ret
        exact HS
      · have hne2 : (SL n).toList ≠ [] := by rw [SL_toList]; exact hn0
        have hz : (SL n).toList.isEmpty = false := by
          rw [SL_toList]
          cases n with
          | nil => exact absurd rfl hn0
          | cons a r => rfl
        have hdk := h.dark
        cases hd : S.dark with
        | true =>
          have e : saveS S n b = (5, S) := save_dark hN hn0 hm hd
          rw [e]
          rw [hd] at hdk
          have HS : ROneTo w0 Z q (5, S) (.returned (err 5)) w := ⟨rfl, h⟩
          clear e hm hN hsr hv hd
          go_enter Try.func22, Try.ntmps22
          go_wp2_with (first | (go_at_call 41; refine hnm.mono ?_; rintro e w' ⟨rfl, rfl⟩) | (go_at_call 53; refine hsh.mono ?_; rintro e w' ⟨rfl, rfl⟩))
          go_ret
          exact HS
        | false =>
          rw [hd] at hdk
          have hhas := h.has hg (shadowN n)
          have hparts := save_parts (b := b) hg hN hn0 hm hd
          obtain ⟨r, hr⟩ : ∃ r, r = saveS S n b := ⟨_, rfl⟩
          rw [← hr] at hparts ⊢
          clear hr hN hm hd
          have hrest : ∀ T, Good T → T.done ≤ S.done + 1 → T.cap = S.cap → thereF (shadowN n) T.fs = false → r = saveT n b T → ((thereF (shadowN n) S.fs = false ∧ T = S) ∨ (thereF (shadowN n) S.fs = true ∧ removeS S (shadowN n) = (0, T))) → Calls Try.prog 22 #[ptr q, .string (SL n), .slice ao K cap] w (ROneTo w0 Z q r) := by
            intro T hgT hdT hcT hthT hr hcase
            have hneed := fun W => refNeed_any n (K : Int) W
            rw [needI_nat hn (by rw [hK]; exact hbl)] at hneed
            obtain ⟨x, hx⟩ : ∃ x, x = T.free := ⟨_, rfl⟩
            obtain ⟨y, hy⟩ : ∃ y, y = needS n K := ⟨_, rfl⟩
            rw [← hy] at hneed
            have hr4 : r = if x < y then (4, T) else if (layS (shadowN n) b T).1 ≠ 0 then layS (shadowN n) b T else renameS (layS (shadowN n) b T).2 (shadowN n) n := by rw [hr, hx, hy, hK]; rfl
            have HR4 := Lib.hid hr4
            have HX := Lib.hid hx
            have HY := Lib.hid hy
            have HK := Lib.hid hK
            have HNEED := Lib.hid hneed
            have HV := Lib.hid (fun (w' : World) (S' : St) (h' : ROne w0 Z w' q S') => h.bytes h' hv)
            clear hr hr4 hx hy hneed hK hv hsr
            rcases hcase with ⟨hth, hTS⟩ | ⟨hth, hrm⟩
            · rw [hth] at hhas
              subst hTS
              have HH := Lib.hid h
              clear h hth
              go_enter Try.func22, Try.ntmps22
              go_wp2_with (first | (go_at_call 41; refine hnm.mono ?_; rintro e w' ⟨rfl, rfl⟩) | (go_at_call 53; refine hsh.mono ?_; rintro e w' ⟨rfl, rfl⟩) | (go_at_call 57; refine hhas.mono ?_; rintro e w' ⟨rfl, m, rfl⟩; have H1 := Lib.hid (HH.out.drewN m)) | (go_at_call 43; fail))
              clear HH hhas
              refine (H1.out.free hgT).mono ?_
              rintro e w4 ⟨rfl, m2, hw4⟩
              have H2 : Hid (ROne w0 Z w4 q T) := Lib.hid (by rw [hw4]; exact H1.out.drewN m2)
              rw [hgT.free_in.2.2, ← HX.out]
              clear H1 hw4
              by_cases hlt : x < y
              · have hr5 : r = (4, T) := by rw [HR4.out, if_pos hlt]
                have HR5 := Lib.hid hr5
                clear hr5
                go_wp2_with (go_at_call 29; refine (HNEED.out _).mono ?_; rintro e w' ⟨rfl, rfl⟩)
                go_ret
                rw [HR5.out]
                exact ⟨rfl, H2.out⟩
              · have hr5 : r = if (layS (shadowN n) b T).1 ≠ 0 then layS (shadowN n) b T else renameS (layS (shadowN n) b T).2 (shadowN n) n := by rw [HR4.out, if_neg hlt]
                have HR5 := Lib.hid hr5
                have hfit : b.length ≤ T.cap := by
                  have h1 := hgT.free_in
                  have h2 := HX.out
                  have h3 := HY.out
                  have h4 := HK.out
                  unfold St.free at h2
                  unfold needS at h3
                  omega
                have hcf := chunks_few b
                obtain ⟨A, hA⟩ : ∃ A, A = appendsS (shadowN n) T (chunksL b) := ⟨_, rfl⟩
                obtain ⟨M, hM⟩ : ∃ M, M = T.done + (chunksL b).length := ⟨_, rfl⟩
                have hlay : layS (shadowN n) b T = if A.1 ≠ 0 then A else syncS A.2 (shadowN n) := by rw [hA]; rfl
                have hMb : M + 4 ≤ 1000000000000 := by omega
                have HA := Lib.hid hA
                have HM := Lib.hid hM
                have HLAY := Lib.hid hlay
                clear hr5 hA hM hlay hfit hcf
                go_wp2_with (go_at_call 29; refine (HNEED.out _).mono ?_; rintro e w' ⟨rfl, rfl⟩)
                go_loopw [9] (fun i W => ∃ (k : Nat) (U : St), i = .int .i64 (k : Int) ∧ k ≤ K ∧ ROne w0 Z W q U ∧ Good U ∧ U.done + (restL (shadowN n) U (b.drop k)).length = M ∧ appendsS (shadowN n) U (restL (shadowN n) U (b.drop k)) = A) (fun _ W => M - doneAt q W)
                case atStart =>
                  have e : restL (shadowN n) T b = chunksL b := by unfold restL; rw [hthT, if_neg (by simp)]
                  exact ⟨0, T, rfl, Nat.zero_le _, H2.out, hgT, by rw [List.drop_zero, e]; exact HM.out.symm, by rw [List.drop_zero, e]; exact HA.out.symm⟩
                case round =>
                  clear H2
                  obtain ⟨k, U, rfl, hk, hU, hGU, hD, hst⟩ := hrel
                  have i0 : (0 : Int) ≤ (k : Int) := by omega
                  have hhasU := hU.has hGU (shadowN n)
                  have hdl : (b.drop k).length = K - k := by rw [List.length_drop, HK.out]
                  by_cases hend : thereF (shadowN n) U.fs = true ∧ k = K
                  · obtain ⟨hth', rfl⟩ := hend
                    rw [hth'] at hhasU
                    have e : restL (shadowN n) U (b.drop k) = [] := by
                      unfold restL
                      rw [if_pos ⟨hth', List.eq_nil_of_length_eq_zero (by omega)⟩]
                    rw [e] at hst hD
                    have hA2 : A = (0, U) := hst.symm
                    have hsy := fun m => (hU.drewN m).sync hGU (by omega) (shadowN n) (by omega)
                    have hgs := hGU.sync (shadowN n)
                    have hds := sync_done U (shadowN n)
                    have hD0 : U.done ≤ M := by simp at hD; omega
                    have hr6 : r = if (syncS U (shadowN n)).1 ≠ 0 then syncS U (shadowN n) else renameS (syncS U (shadowN n)).2 (shadowN n) n := by
                      rw [HR5.out, HLAY.out, hA2]
                      simp only [ne_eq, not_true_eq_false, if_false]
                    obtain ⟨l, hl⟩ : ∃ l, l = syncS U (shadowN n) := ⟨_, rfl⟩
                    rw [← hl] at hsy hgs hds hr6
                    obtain ⟨z, hzz⟩ : ∃ z, z = l.1 := ⟨_, rfl⟩
                    rw [← hzz] at hr6
                    have HS := Lib.hid hsy
                    have HZ := Lib.hid hzz
                    have HR6 := Lib.hid hr6
                    have i1 : ¬ ((k : Int) < (k : Int)) := by omega
                    clear hsy hzz hr6 hst hD hl e hA2 hU
                    by_cases hz0 : z = 0
                    · have hr7 : r = renameS l.2 (shadowN n) n := by rw [HR6.out, if_neg (by omega)]
                      have HR7 := Lib.hid hr7
                      clear hr7
                      go_wp2_with (first | (go_at_call 57; refine hhasU.mono ?_; rintro e w' ⟨rfl, m, rfl⟩) | (go_at_call 58; refine (HS.out m).mono ?_; rintro e w5 ⟨rfl, h5⟩; rw [← HZ.out, hz0]; have H5 := Lib.hid (h5.rename hgs (by omega) (shadowN n) n (by omega) (by omega)); clear h5) | (go_at_call 59; refine H5.out.mono ?_; rintro e w6 ⟨rfl, h6⟩; rw [← HR7.out] at h6 ⊢))
                      go_ret
                      exact ⟨rfl, h6⟩
                    · have hr7 : r = l := by rw [HR6.out, if_pos hz0]
                      have HR7 := Lib.hid hr7
                      clear hr7
                      go_wp2_with (first | (go_at_call 57; refine hhasU.mono ?_; rintro e w' ⟨rfl, m, rfl⟩) | (go_at_call 58; refine (HS.out m).mono ?_; rintro e w5 ⟨rfl, h5⟩; rw [← HZ.out]))
                      go_ret
                      rw [HR7.out]
                      exact ⟨by rw [HZ.out] <;> rfl, h5⟩
                  · have hne : ¬ (thereF (shadowN n) U.fs = true ∧ b.drop k = []) := fun hx => hend ⟨hx.1, by have := congrArg List.length hx.2; rw [hdl, List.length_nil] at this; omega⟩
                    have hstep := rest_step hne
                    rw [hst] at hstep
                    have hsl := (HV.out wr U hU)
                    obtain ⟨C, hC⟩ : ∃ C, C = min 64 (K - k) := ⟨_, rfl⟩
                    have htake : (b.drop k).take 64 = (b.drop k).take C := by
                      by_cases hx : 64 ≤ K - k
                      · have : C = 64 := by omega
                        rw [this]
                      · rw [List.take_of_length_le (by omega), List.take_of_length_le (by omega)]
                    have hdrop : (b.drop k).drop 64 = b.drop (k + C) := by
                      rw [List.drop_drop]
                      by_cases hx : 64 ≤ K - k
                      · have : C = 64 := by omega
                        rw [this]
                      · rw [List.drop_of_length_le (by have := HK.out; omega), List.drop_of_length_le (by have := HK.out; omega)]
                    obtain ⟨ao2, cap2, B2, off2, e2, s2, z2⟩ := hsl
                    obtain ⟨rfl, -, rfl⟩ : ao = ao2 ∧ K = b.length ∧ cap = cap2 := by injection e2 with a1 a2 a3; exact ⟨a1, a2, a3⟩
                    obtain ⟨ao3, q3, s3⟩ := s2.slice_lh k C (by have := HK.out; omega)
                    rw [← HK.out] at q3
                    obtain ⟨c, hc⟩ : ∃ c, c = (b.drop k).take C := ⟨_, rfl⟩
                    have hcl : c.length = C := by rw [hc, List.length_take, hdl]; omega
                    have hrl := fun (U' : St) => rest_length (U' := U') hne
                    rw [htake, ← hc, hdrop] at hstep
                    rw [hdrop] at hrl
                    have hKC : k + C ≤ K := by omega
                    have hKb : K ≤ 281474976710656 := by rw [HK.out]; exact hbl
                    have hdn : U.done ≤ M := by omega
                    have hKcap : K ≤ cap := by have := s2.le; have := HK.out; omega
                    have hgY := hGU.append (shadowN n) c
                    have htick := fun h => append_tick (S := U) (n := shadowN n) (c := c) h
                    have hthr := fun h => append_there (S := U) (n := shadowN n) (c := c) h
                    have hpc : SrcAt wr (if cap = k then ao else ao.map (·.add (k * 1))) (cap - k) c B2 (off2 + k) := by rw [hc]; exact s2.piece k C (by have := HK.out; omega)
                    rw [Nat.mul_one] at hpc
                    have hvcU : ∀ AO, AO = (if cap = k then ao else ao.map (·.add k)) → BytesAt wr Z (.slice AO C (cap - k)) c := fun AO hAO => ⟨AO, cap - k, B2, off2 + k, by rw [hcl], by rw [hAO]; exact hpc, fun hp => z2 (by have := HK.out; omega)⟩
                    have hapU := fun AO hAO => hU.append hGU (by omega) (shadowN n) (by omega) _ c (hvcU AO hAO)
                    have hapmU := fun AO hAO m => (hU.drewN m).append hGU (by omega) (shadowN n) (by omega) _ c (hU.bytes (hU.drewN m) (hvcU AO hAO))
                    obtain ⟨Y, hYY⟩ : ∃ Y, Y = appendS U (shadowN n) c := ⟨_, rfl⟩
                    rw [← hYY] at hapU hapmU hgY htick hthr hstep
                    obtain ⟨z, hzz⟩ : ∃ z, z = Y.1 := ⟨_, rfl⟩
                    rw [← hzz] at htick hthr hstep
                    have hdU := hU.doneAt
                    have HAPU := Lib.hid hapU
                    have HAPMU := Lib.hid hapmU
                    have HZ := Lib.hid hzz
                    have HDU := Lib.hid hdU
                    have hmin : min 64 ((K : Int) - (k : Int)) = (C : Int) := by omega
                    have hE : (k : Int) + (C : Int) = ((k + C : Nat) : Int) := by omega
                    have HE := Lib.hid hE
                    have HKC := Lib.hid hKC
                    have hrel : z = 0 → Hid (Good Y.2 ∧ Y.2.done + (restL (shadowN n) Y.2 (b.drop (k + C))).length = M ∧ appendsS (shadowN n) Y.2 (restL (shadowN n) Y.2 (b.drop (k + C))) = A ∧ M - Y.2.done < M - U.done) := fun hz0 => Lib.hid (by
                      have h1 := hrl Y.2 (hthr hz0)
                      have h3 := htick hz0
                      exact ⟨hgY, by omega, by rw [hstep, if_neg (by simp [hz0])], by omega⟩)
                    have hret : z ≠ 0 → r = Y := fun hz0 => by
                      have hAY : A = Y := by rw [hstep, if_pos hz0]
                      have hl : layS (shadowN n) b T = Y := by rw [HLAY.out, hAY, if_pos (by rw [← HZ.out]; exact hz0)]
                      rw [HR5.out, hl, if_pos (by rw [← HZ.out]; exact hz0)]
                    have HREL := Lib.hid hrel
                    have HRET := Lib.hid hret
                    clear hrel hret hapU hapmU hvcU hpc hzz hdU hD hrl hE hYY s2 hc htake hdrop e2 hst hU hne z2 hcl hdl htick hthr hstep q3 s3 ao3 hgY hdn
                    clear hC
                    by_cases hkK : k < K
                    · have i1 : (k : Int) < (K : Int) := by omega
                      have hck : ¬ cap = k := by omega
                      have HAP := Lib.hid (HAPU.out (ao.map (·.add k)) (by rw [if_neg hck]))
                      have hkc : k < cap := by omega
                      clear HAPU HAPMU hend hhasU
                      by_cases hz0 : z = 0
                      · have HX := HREL.out hz0
                        have hKk : (k : Int) ≤ (K : Int) := by omega
                        have hK0 : (K : Int) ≤ 281474976710656 := by omega
                        have hCk : (k : Int) + (C : Int) ≤ (K : Int) := by omega
                        go_wp2_with (go_at_call 12; refine HAP.out.mono ?_; rintro e w5 ⟨rfl, h5⟩; rw [← HZ.out, hz0]; have H5 := Lib.hid h5; clear h5)
                        go_roundw
                        case rel => exact ⟨k + C, Y.2, by rw [HE.out], HKC.out, H5.out, HX.out.1, HX.out.2.1, HX.out.2.2.1⟩
                        case measure => rw [H5.out.doneAt, HDU.out]; exact HX.out.2.2.2
                      · have HX := Lib.hid (HRET.out hz0)
                        have hKk : (k : Int) ≤ (K : Int) := by omega
                        have hK0 : (K : Int) ≤ 281474976710656 := by omega
                        have hCk : (k : Int) + (C : Int) ≤ (K : Int) := by omega
                        go_wp2_with (go_at_call 12; refine HAP.out.mono ?_; rintro e w5 ⟨rfl, h5⟩; rw [← HZ.out]; have H5 := Lib.hid h5; clear h5)
                        go_ret
                        rw [HX.out]
                        exact ⟨by rw [HZ.out] <;> rfl, H5.out⟩
                    · obtain rfl : k = K := by omega
                      have hth0 : thereF (shadowN n) U.fs = false := by
                        cases hx : thereF (shadowN n) U.fs with
                        | false => rfl
                        | true => exact absurd ⟨hx, rfl⟩ hend
                      rw [hth0] at hhasU
                      obtain rfl : C = 0 := by omega
                      have i1 : ¬ (k : Int) < (k : Int) := by omega
                      clear hend hth0 hmin
                      have hm0 : min (64 : Int) 0 = 0 := by decide
                      have hck : cap = k ∨ k < cap := by omega
                      rcases hck with hck | hck
                      · have hap0 := HAPMU.out ao (by rw [if_pos hck])
                        subst hck
                        simp only [Nat.sub_self] at hap0
                        have HAP := Lib.hid hap0
                        clear HAPU HAPMU hap0
                        by_cases hz0 : z = 0
                        · have HX := HREL.out hz0
                          go_wp2_with (first | (go_at_call 57; refine hhasU.mono ?_; rintro e w' ⟨rfl, m, rfl⟩) | (go_at_call 12; refine (HAP.out m).mono ?_; rintro e w5 ⟨rfl, h5⟩; rw [← HZ.out, hz0]; have H5 := Lib.hid h5; clear h5))
                          go_roundw
                          case rel => exact ⟨_, Y.2, (by first | rw [HE.out] | simp), HKC.out, H5.out, HX.out.1, HX.out.2.1, HX.out.2.2.1⟩
                          case measure => rw [H5.out.doneAt, HDU.out]; exact HX.out.2.2.2
                        · have HX := Lib.hid (HRET.out hz0)
                          go_wp2_with (first | (go_at_call 57; refine hhasU.mono ?_; rintro e w' ⟨rfl, m, rfl⟩) | (go_at_call 12; refine (HAP.out m).mono ?_; rintro e w5 ⟨rfl, h5⟩; rw [← HZ.out]; have H5 := Lib.hid h5; clear h5))
                          go_ret
                          rw [HX.out]
                          exact ⟨by rw [HZ.out] <;> rfl, H5.out⟩
                      · have HAP := Lib.hid (HAPMU.out (ao.map (·.add k)) (by rw [if_neg (by omega)]))
                        clear HAPU HAPMU
                        by_cases hz0 : z = 0
                        · have HX := HREL.out hz0
                          go_wp2_with (first | (go_at_call 57; refine hhasU.mono ?_; rintro e w' ⟨rfl, m, rfl⟩) | (go_at_call 12; refine (HAP.out m).mono ?_; rintro e w5 ⟨rfl, h5⟩; rw [← HZ.out, hz0]; have H5 := Lib.hid h5; clear h5))
                          go_roundw
                          case rel => exact ⟨_, Y.2, (by first | rw [HE.out] | simp), HKC.out, H5.out, HX.out.1, HX.out.2.1, HX.out.2.2.1⟩
                          case measure => rw [H5.out.doneAt, HDU.out]; exact HX.out.2.2.2
                        · have HX := Lib.hid (HRET.out hz0)
                          go_wp2_with (first | (go_at_call 57; refine hhasU.mono ?_; rintro e w' ⟨rfl, m, rfl⟩) | (go_at_call 12; refine (HAP.out m).mono ?_; rintro e w5 ⟨rfl, h5⟩; rw [← HZ.out]; have H5 := Lib.hid h5; clear h5))
                          go_ret
                          rw [HX.out]
                          exact ⟨by rw [HZ.out] <;> rfl, H5.out⟩
            · rw [hth] at hhas
              have hrem := fun m => (h.drewN m).remove hg (by omega) (shadowN n) (by omega)
              rw [hrm] at hrem
              have HREM := Lib.hid hrem
              clear h hth hrem hrm
              go_enter Try.func22, Try.ntmps22
              go_wp2_with (first | (go_at_call 41; refine hnm.mono ?_; rintro e w' ⟨rfl, rfl⟩) | (go_at_call 53; refine hsh.mono ?_; rintro e w' ⟨rfl, rfl⟩) | (go_at_call 57; refine hhas.mono ?_; rintro e w' ⟨rfl, m, rfl⟩) | (go_at_call 14; refine (HREM.out m).mono ?_; rintro e w3 ⟨rfl, h3⟩; have H1 := Lib.hid h3; clear h3) | (go_at_call 43; fail))
              clear HREM hhas
              refine (H1.out.free hgT).mono ?_
              rintro e w4 ⟨rfl, m2, hw4⟩
              have H2 : Hid (ROne w0 Z w4 q T) := Lib.hid (by rw [hw4]; exact H1.out.drewN m2)
              rw [hgT.free_in.2.2, ← HX.out]
              clear H1 hw4
              by_cases hlt : x < y
              · have hr5 : r = (4, T) := by rw [HR4.out, if_pos hlt]
                have HR5 := Lib.hid hr5
                clear hr5
                go_wp2_with (go_at_call 29; refine (HNEED.out _).mono ?_; rintro e w' ⟨rfl, rfl⟩)
                go_ret
                rw [HR5.out]
                exact ⟨rfl, H2.out⟩
              · have hr5 : r = if (layS (shadowN n) b T).1 ≠ 0 then layS (shadowN n) b T else renameS (layS (shadowN n) b T).2 (shadowN n) n := by rw [HR4.out, if_neg hlt]
                have HR5 := Lib.hid hr5
                have hfit : b.length ≤ T.cap := by
                  have h1 := hgT.free_in
                  have h2 := HX.out
                  have h3 := HY.out
                  have h4 := HK.out
                  unfold St.free at h2
                  unfold needS at h3
                  omega
                have hcf := chunks_few b
                obtain ⟨A, hA⟩ : ∃ A, A = appendsS (shadowN n) T (chunksL b) := ⟨_, rfl⟩
                obtain ⟨M, hM⟩ : ∃ M, M = T.done + (chunksL b).length := ⟨_, rfl⟩
                have hlay : layS (shadowN n) b T = if A.1 ≠ 0 then A else syncS A.2 (shadowN n) := by rw [hA]; rfl
                have hMb : M + 4 ≤ 1000000000000 := by omega
                have HA := Lib.hid hA
                have HM := Lib.hid hM
                have HLAY := Lib.hid hlay
                clear hr5 hA hM hlay hfit hcf
                go_wp2_with (go_at_call 29; refine (HNEED.out _).mono ?_; rintro e w' ⟨rfl, rfl⟩)
                go_loopw [9] (fun i W => ∃ (k : Nat) (U : St), i = .int .i64 (k : Int) ∧ k ≤ K ∧ ROne w0 Z W q U ∧ Good U ∧ U.done + (restL (shadowN n) U (b.drop k)).length = M ∧ appendsS (shadowN n) U (restL (shadowN n) U (b.drop k)) = A) (fun _ W => M - doneAt q W)
                case atStart =>
                  have e : restL (shadowN n) T b = chunksL b := by unfold restL; rw [hthT, if_neg (by simp)]
                  exact ⟨0, T, rfl, Nat.zero_le _, H2.out, hgT, by rw [List.drop_zero, e]; exact HM.out.symm, by rw [List.drop_zero, e]; exact HA.out.symm⟩
                case round =>
                  clear H2
                  obtain ⟨k, U, rfl, hk, hU, hGU, hD, hst⟩ := hrel
                  have i0 : (0 : Int) ≤ (k : Int) := by omega
                  have hhasU := hU.has hGU (shadowN n)
                  have hdl : (b.drop k).length = K - k := by rw [List.length_drop, HK.out]
                  by_cases hend : thereF (shadowN n) U.fs = true ∧ k = K
                  · obtain ⟨hth', rfl⟩ := hend
                    rw [hth'] at hhasU
                    have e : restL (shadowN n) U (b.drop k) = [] := by
                      unfold restL
                      rw [if_pos ⟨hth', List.eq_nil_of_length_eq_zero (by omega)⟩]
                    rw [e] at hst hD
                    have hA2 : A = (0, U) := hst.symm
                    have hsy := fun m => (hU.drewN m).sync hGU (by omega) (shadowN n) (by omega)
                    have hgs := hGU.sync (shadowN n)
                    have hds := sync_done U (shadowN n)
                    have hD0 : U.done ≤ M := by simp at hD; omega
                    have hr6 : r = if (syncS U (shadowN n)).1 ≠ 0 then syncS U (shadowN n) else renameS (syncS U (shadowN n)).2 (shadowN n) n := by
                      rw [HR5.out, HLAY.out, hA2]
                      simp only [ne_eq, not_true_eq_false, if_false]
                    obtain ⟨l, hl⟩ : ∃ l, l = syncS U (shadowN n) := ⟨_, rfl⟩
                    rw [← hl] at hsy hgs hds hr6
                    obtain ⟨z, hzz⟩ : ∃ z, z = l.1 := ⟨_, rfl⟩
                    rw [← hzz] at hr6
                    have HS := Lib.hid hsy
                    have HZ := Lib.hid hzz
                    have HR6 := Lib.hid hr6
                    have i1 : ¬ ((k : Int) < (k : Int)) := by omega
                    clear hsy hzz hr6 hst hD hl e hA2 hU
                    by_cases hz0 : z = 0
                    · have hr7 : r = renameS l.2 (shadowN n) n := by rw [HR6.out, if_neg (by omega)]
                      have HR7 := Lib.hid hr7
                      clear hr7
                      go_wp2_with (first | (go_at_call 57; refine hhasU.mono ?_; rintro e w' ⟨rfl, m, rfl⟩) | (go_at_call 58; refine (HS.out m).mono ?_; rintro e w5 ⟨rfl, h5⟩; rw [← HZ.out, hz0]; have H5 := Lib.hid (h5.rename hgs (by omega) (shadowN n) n (by omega) (by omega)); clear h5) | (go_at_call 59; refine H5.out.mono ?_; rintro e w6 ⟨rfl, h6⟩; rw [← HR7.out] at h6 ⊢))
                      go_ret
                      exact ⟨rfl, h6⟩
                    · have hr7 : r = l := by rw [HR6.out, if_pos hz0]
                      have HR7 := Lib.hid hr7
                      clear hr7
                      go_wp2_with (first | (go_at_call 57; refine hhasU.mono ?_; rintro e w' ⟨rfl, m, rfl⟩) | (go_at_call 58; refine (HS.out m).mono ?_; rintro e w5 ⟨rfl, h5⟩; rw [← HZ.out]))
                      go_ret
                      rw [HR7.out]
                      exact ⟨by rw [HZ.out] <;> rfl, h5⟩
                  · have hne : ¬ (thereF (shadowN n) U.fs = true ∧ b.drop k = []) := fun hx => hend ⟨hx.1, by have := congrArg List.length hx.2; rw [hdl, List.length_nil] at this; omega⟩
                    have hstep := rest_step hne
                    rw [hst] at hstep
                    have hsl := (HV.out wr U hU)
                    obtain ⟨C, hC⟩ : ∃ C, C = min 64 (K - k) := ⟨_, rfl⟩
                    have htake : (b.drop k).take 64 = (b.drop k).take C := by
                      by_cases hx : 64 ≤ K - k
                      · have : C = 64 := by omega
                        rw [this]
                      · rw [List.take_of_length_le (by omega), List.take_of_length_le (by omega)]
                    have hdrop : (b.drop k).drop 64 = b.drop (k + C) := by
                      rw [List.drop_drop]
                      by_cases hx : 64 ≤ K - k
                      · have : C = 64 := by omega
                        rw [this]
                      · rw [List.drop_of_length_le (by have := HK.out; omega), List.drop_of_length_le (by have := HK.out; omega)]
                    obtain ⟨ao2, cap2, B2, off2, e2, s2, z2⟩ := hsl
                    obtain ⟨rfl, -, rfl⟩ : ao = ao2 ∧ K = b.length ∧ cap = cap2 := by injection e2 with a1 a2 a3; exact ⟨a1, a2, a3⟩
                    obtain ⟨ao3, q3, s3⟩ := s2.slice_lh k C (by have := HK.out; omega)
                    rw [← HK.out] at q3
                    obtain ⟨c, hc⟩ : ∃ c, c = (b.drop k).take C := ⟨_, rfl⟩
                    have hcl : c.length = C := by rw [hc, List.length_take, hdl]; omega
                    have hrl := fun (U' : St) => rest_length (U' := U') hne
                    rw [htake, ← hc, hdrop] at hstep
                    rw [hdrop] at hrl
                    have hKC : k + C ≤ K := by omega
                    have hKb : K ≤ 281474976710656 := by rw [HK.out]; exact hbl
                    have hdn : U.done ≤ M := by omega
                    have hKcap : K ≤ cap := by have := s2.le; have := HK.out; omega
                    have hgY := hGU.append (shadowN n) c
                    have htick := fun h => append_tick (S := U) (n := shadowN n) (c := c) h
                    have hthr := fun h => append_there (S := U) (n := shadowN n) (c := c) h
                    have hpc : SrcAt wr (if cap = k then ao else ao.map (·.add (k * 1))) (cap - k) c B2 (off2 + k) := by rw [hc]; exact s2.piece k C (by have := HK.out; omega)
                    rw [Nat.mul_one] at hpc
                    have hvcU : ∀ AO, AO = (if cap = k then ao else ao.map (·.add k)) → BytesAt wr Z (.slice AO C (cap - k)) c := fun AO hAO => ⟨AO, cap - k, B2, off2 + k, by rw [hcl], by rw [hAO]; exact hpc, fun hp => z2 (by have := HK.out; omega)⟩
                    have hapU := fun AO hAO => hU.append hGU (by omega) (shadowN n) (by omega) _ c (hvcU AO hAO)
                    have hapmU := fun AO hAO m => (hU.drewN m).append hGU (by omega) (shadowN n) (by omega) _ c (hU.bytes (hU.drewN m) (hvcU AO hAO))
                    obtain ⟨Y, hYY⟩ : ∃ Y, Y = appendS U (shadowN n) c := ⟨_, rfl⟩
                    rw [← hYY] at hapU hapmU hgY htick hthr hstep
                    obtain ⟨z, hzz⟩ : ∃ z, z = Y.1 := ⟨_, rfl⟩
                    rw [← hzz] at htick hthr hstep
                    have hdU := hU.doneAt
                    have HAPU := Lib.hid hapU
                    have HAPMU := Lib.hid hapmU
                    have HZ := Lib.hid hzz
                    have HDU := Lib.hid hdU
                    have hmin : min 64 ((K : Int) - (k : Int)) = (C : Int) := by omega
                    have hE : (k : Int) + (C : Int) = ((k + C : Nat) : Int) := by omega
                    have HE := Lib.hid hE
                    have HKC := Lib.hid hKC
                    have hrel : z = 0 → Hid (Good Y.2 ∧ Y.2.done + (restL (shadowN n) Y.2 (b.drop (k + C))).length = M ∧ appendsS (shadowN n) Y.2 (restL (shadowN n) Y.2 (b.drop (k + C))) = A ∧ M - Y.2.done < M - U.done) := fun hz0 => Lib.hid (by
                      have h1 := hrl Y.2 (hthr hz0)
                      have h3 := htick hz0
                      exact ⟨hgY, by omega, by rw [hstep, if_neg (by simp [hz0])], by omega⟩)
                    have hret : z ≠ 0 → r = Y := fun hz0 => by
                      have hAY : A = Y := by rw [hstep, if_pos hz0]
                      have hl : layS (shadowN n) b T = Y := by rw [HLAY.out, hAY, if_pos (by rw [← HZ.out]; exact hz0)]
                      rw [HR5.out, hl, if_pos (by rw [← HZ.out]; exact hz0)]
                    have HREL := Lib.hid hrel
                    have HRET := Lib.hid hret
                    clear hrel hret hapU hapmU hvcU hpc hzz hdU hD hrl hE hYY s2 hc htake hdrop e2 hst hU hne z2 hcl hdl htick hthr hstep q3 s3 ao3 hgY hdn
                    clear hC
                    by_cases hkK : k < K
                    · have i1 : (k : Int) < (K : Int) := by omega
                      have hck : ¬ cap = k := by omega
                      have HAP := Lib.hid (HAPU.out (ao.map (·.add k)) (by rw [if_neg hck]))
                      have hkc : k < cap := by omega
                      clear HAPU HAPMU hend hhasU
                      by_cases hz0 : z = 0
                      · have HX := HREL.out hz0
                        have hKk : (k : Int) ≤ (K : Int) := by omega
                        have hK0 : (K : Int) ≤ 281474976710656 := by omega
                        have hCk : (k : Int) + (C : Int) ≤ (K : Int) := by omega
                        go_wp2_with (go_at_call 12; refine HAP.out.mono ?_; rintro e w5 ⟨rfl, h5⟩; rw [← HZ.out, hz0]; have H5 := Lib.hid h5; clear h5)
                        go_roundw
                        case rel => exact ⟨k + C, Y.2, by rw [HE.out], HKC.out, H5.out, HX.out.1, HX.out.2.1, HX.out.2.2.1⟩
                        case measure => rw [H5.out.doneAt, HDU.out]; exact HX.out.2.2.2
                      · have HX := Lib.hid (HRET.out hz0)
                        have hKk : (k : Int) ≤ (K : Int) := by omega
                        have hK0 : (K : Int) ≤ 281474976710656 := by omega
                        have hCk : (k : Int) + (C : Int) ≤ (K : Int) := by omega
                        go_wp2_with (go_at_call 12; refine HAP.out.mono ?_; rintro e w5 ⟨rfl, h5⟩; rw [← HZ.out]; have H5 := Lib.hid h5; clear h5)
                        go_ret
                        rw [HX.out]
                        exact ⟨by rw [HZ.out] <;> rfl, H5.out⟩
                    · obtain rfl : k = K := by omega
                      have hth0 : thereF (shadowN n) U.fs = false := by
                        cases hx : thereF (shadowN n) U.fs with
                        | false => rfl
                        | true => exact absurd ⟨hx, rfl⟩ hend
                      rw [hth0] at hhasU
                      obtain rfl : C = 0 := by omega
                      have i1 : ¬ (k : Int) < (k : Int) := by omega
                      clear hend hth0 hmin
                      have hm0 : min (64 : Int) 0 = 0 := by decide
                      have hck : cap = k ∨ k < cap := by omega
                      rcases hck with hck | hck
                      · have hap0 := HAPMU.out ao (by rw [if_pos hck])
                        subst hck
                        simp only [Nat.sub_self] at hap0
                        have HAP := Lib.hid hap0
                        clear HAPU HAPMU hap0
                        by_cases hz0 : z = 0
                        · have HX := HREL.out hz0
                          go_wp2_with (first | (go_at_call 57; refine hhasU.mono ?_; rintro e w' ⟨rfl, m, rfl⟩) | (go_at_call 12; refine (HAP.out m).mono ?_; rintro e w5 ⟨rfl, h5⟩; rw [← HZ.out, hz0]; have H5 := Lib.hid h5; clear h5))
                          go_roundw
                          case rel => exact ⟨_, Y.2, (by first | rw [HE.out] | simp), HKC.out, H5.out, HX.out.1, HX.out.2.1, HX.out.2.2.1⟩
                          case measure => rw [H5.out.doneAt, HDU.out]; exact HX.out.2.2.2
                        · have HX := Lib.hid (HRET.out hz0)
                          go_wp2_with (first | (go_at_call 57; refine hhasU.mono ?_; rintro e w' ⟨rfl, m, rfl⟩) | (go_at_call 12; refine (HAP.out m).mono ?_; rintro e w5 ⟨rfl, h5⟩; rw [← HZ.out]; have H5 := Lib.hid h5; clear h5))
                          go_ret
                          rw [HX.out]
                          exact ⟨by rw [HZ.out] <;> rfl, H5.out⟩
                      · have HAP := Lib.hid (HAPMU.out (ao.map (·.add k)) (by rw [if_neg (by omega)]))
                        clear HAPU HAPMU
                        by_cases hz0 : z = 0
                        · have HX := HREL.out hz0
                          go_wp2_with (first | (go_at_call 57; refine hhasU.mono ?_; rintro e w' ⟨rfl, m, rfl⟩) | (go_at_call 12; refine (HAP.out m).mono ?_; rintro e w5 ⟨rfl, h5⟩; rw [← HZ.out, hz0]; have H5 := Lib.hid h5; clear h5))
                          go_roundw
                          case rel => exact ⟨_, Y.2, (by first | rw [HE.out] | simp), HKC.out, H5.out, HX.out.1, HX.out.2.1, HX.out.2.2.1⟩
                          case measure => rw [H5.out.doneAt, HDU.out]; exact HX.out.2.2.2
                        · have HX := Lib.hid (HRET.out hz0)
                          go_wp2_with (first | (go_at_call 57; refine hhasU.mono ?_; rintro e w' ⟨rfl, m, rfl⟩) | (go_at_call 12; refine (HAP.out m).mono ?_; rintro e w5 ⟨rfl, h5⟩; rw [← HZ.out]; have H5 := Lib.hid h5; clear h5))
                          go_ret
                          rw [HX.out]
                          exact ⟨by rw [HZ.out] <;> rfl, H5.out⟩
          rcases hparts with ⟨hth, hr⟩ | ⟨hth, hr1, hr⟩ | ⟨hth, hr1, hth2, hr⟩
          · exact hrest S hg (by omega) rfl hth hr (.inl ⟨hth, rfl⟩)
          · clear hrest
            rw [hth] at hhas
            have hrem := fun m => (h.drewN m).remove hg (by omega) (shadowN n) (by omega)
            obtain ⟨y, hy⟩ : ∃ y, y = removeS S (shadowN n) := ⟨_, rfl⟩
            rw [← hy] at hrem hr1 hr
            obtain ⟨z, hz'⟩ : ∃ z, z = y.1 := ⟨_, rfl⟩
            rw [← hz'] at hr1
            have HREM := Lib.hid hrem
            have HZ := Lib.hid hz'
            have HR := Lib.hid hr
            clear hrem hz' hr hth hy hsr hv h
            go_enter Try.func22, Try.ntmps22
            go_wp2_with (first | (go_at_call 41; refine hnm.mono ?_; rintro e w' ⟨rfl, rfl⟩) | (go_at_call 53; refine hsh.mono ?_; rintro e w' ⟨rfl, rfl⟩) | (go_at_call 57; refine hhas.mono ?_; rintro e w' ⟨rfl, m, rfl⟩) | (go_at_call 14; refine (HREM.out m).mono ?_; rintro e w3 ⟨rfl, h3⟩; rw [← HZ.out]))
            go_ret
            rw [HR.out]
            exact ⟨by rw [HZ.out] <;> rfl, h3⟩
          · exact hrest _ (hg.remove _) (remove_done _ _) (remove_cap _ _) hth2 hr (.inr ⟨hth, by rw [← hr1]⟩)
end
end Go.Proofs.Ythibhkoneajffaa
