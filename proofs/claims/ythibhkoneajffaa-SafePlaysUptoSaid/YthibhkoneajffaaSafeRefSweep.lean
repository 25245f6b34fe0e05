/- Sweep of the document's answer. -/
import Derived.Test.YthibhkoneajffaaDiskROne
import Derived.Test.YthibhkoneajffaaSafeSmall
import Derived.Test.YthibhkoneajffaaSafeSweep
namespace Go.Proofs.Ythibhkoneajffaa
open Go.RowKit
section
variable {w0 w : World} {Z : Nat → Prop} {q : Nat} {S : St}
set_option maxRecDepth 100000 in
set_option maxHeartbeats 4000000 in
theorem refSweep_any (h : ROne w0 Z w q S) (hg : Good S) (hb : S.done + S.cap ≤ 1000000000000) :
    Calls Try.prog 16 #[ptr q] w (ROneTo w0 Z q (sweepS S)) := by
  obtain ⟨N, hN⟩ : ∃ N, N = S.fs.length := ⟨_, rfl⟩
  have hmany := hg.many
  obtain ⟨r, hr⟩ : ∃ r, r = sweepL S (namesF S.fs) := ⟨_, rfl⟩
  have hr2 : r = sweepS S := hr
  rw [← hr2]
  clear hr2
  have HN := Lib.hid hN
  have HR := Lib.hid hr
  have hcost := costs_length S.fs
  have hcc := hg.cost
  rw [← hN] at hmany hcost
  clear hN hr
  go_enter Try.func16, Try.ntmps16
  go_wp2_with (go_at_call 52; fail)
  refine (h.names hg).mono ?_
  rintro e w2 ⟨v, rfl, hown, hb2⟩
  have hL : (S.fs.map fun f => Value.string (SL f.1)) = (namesF S.fs).map fun n => Value.string (SL n) := by unfold namesF; rw [List.map_map]; rfl
  rw [hL, ← HN.out] at hown
  have H2 := Lib.hid (h.snap hb2)
  obtain ⟨Z', hZ'⟩ : ∃ Z' : Nat → Prop, Z' = fun k => Z k ∨ (w.heap.size ≤ k ∧ k < w2.heap.size) := ⟨_, rfl⟩
  rw [← hZ'] at H2
  have hlenN : (namesF S.fs).length = N := by unfold namesF; rw [List.length_map]; exact HN.out.symm
  have hback : ∀ (w3 : World) (T : St), ROne w2 Z' w3 q T → ROne w0 Z w3 q T := fun w3 T h' => h.back hb2 (by rw [hZ'] at h'; exact h')
  have hv : ∃ (ao : Option Addr) (cap : Nat), v = .slice ao N cap ∧ ∀ (W : World), Turn (fun k => ¬ Z' k) w2 W → ∀ (k : Nat) (n : Bs), (namesF S.fs)[k]? = some n → ∃ g, ao = some ⟨g, 0, none⟩ ∧ W.cell? ⟨g, k, none⟩ = some (.string (SL n)) := by
    rcases hown.2 with ⟨e, h0⟩ | ⟨g, cap, cur, e, _⟩
    · refine ⟨none, 0, by rw [e, h0], fun W _ k n hk => ?_⟩
      have := (List.getElem?_eq_some_iff.1 hk).1
      omega
    · exact ⟨some ⟨g, 0, none⟩, cap, e, fun W ht k n hk => ⟨g, rfl, text_at (Z := Z') e hown ht (fun i hi => by rw [hZ']; exact .inr (hown.lt i hi)) hk⟩⟩
  obtain ⟨ao, cap, rfl, hcell⟩ := hv
  have HC := Lib.hid hcell
  have HB := Lib.hid hback
  have HL := Lib.hid hlenN
  clear hown hL hb2 hZ' h hback hcell hlenN
  go_wp2
  go_loopw [4] (fun i W => ∃ (k : Nat) (T : St), i = .int .i64 (k : Int) ∧ k ≤ N ∧ ROne w2 Z' W q T ∧ Good T ∧ T.done ≤ S.done + k ∧ sweepL T ((namesF S.fs).drop k) = r) (fun i _ => N - (intOf i).toNat)
  case atStart => exact ⟨0, S, rfl, Nat.zero_le _, H2.out, hg, Nat.le_refl _, by rw [List.drop_zero]; exact HR.out.symm⟩
  case round =>
    clear H2
    obtain ⟨k, T, rfl, hk, hT, hGT, hD, hst⟩ := hrel
    have i0 : (0 : Int) ≤ (k : Int) := by omega
    by_cases hlt : k < N
    · have hk2 : k < (namesF S.fs).length := by rw [HL.out]; exact hlt
      obtain ⟨n, hn⟩ : ∃ n, (namesF S.fs)[k]? = some n := ⟨_, List.getElem?_eq_getElem hk2⟩
      have hnl := names_short hg hn
      obtain ⟨g, rfl, c1⟩ := HC.out wr hT.turned k n hn
      have hdrop : (namesF S.fs).drop k = n :: (namesF S.fs).drop (k + 1) := by
        rw [List.drop_eq_getElem_cons hk2]
        rw [List.getElem?_eq_getElem hk2] at hn
        rw [Option.some.inj hn]
      rw [hdrop] at hst
      have i1 : (k : Int) < (N : Int) := by omega
      have hsx := refShadow_any n (by omega) wr
      obtain ⟨rest, hrest⟩ : ∃ l, l = (namesF S.fs).drop (k + 1) := ⟨_, rfl⟩
      rw [← hrest] at hst
      have HRE := Lib.hid hrest
      unfold sweepL at hst
      clear hn hdrop hrest
      cases hm : marked n with
      | false =>
        rw [hm, if_pos rfl] at hst
        rw [hm] at hsx
        have HS := Lib.hid hst
        have HT := Lib.hid hT
        clear hst hm hT
        go_wp2_with (go_at_call 53; refine hsx.mono ?_; rintro e w' ⟨rfl, rfl⟩)
        go_roundw
        case rel => exact ⟨k + 1, T, by go_num, by omega, HT.out, hGT, by omega, by rw [← HRE.out]; exact HS.out⟩
        case measure => simp [intOf]; omega
      | true =>
        rw [hm, if_neg (by simp)] at hst
        rw [hm] at hsx
        have hrem := hT.remove hGT (by omega) n (by omega)
        have hgq := hGT.remove n
        have hdq := remove_done T n
        obtain ⟨y, hq⟩ : ∃ y, y = removeS T n := ⟨_, rfl⟩
        rw [← hq] at hrem hst hgq hdq
        obtain ⟨z, hz⟩ : ∃ z, z = y.1 := ⟨_, rfl⟩
        rw [← hz] at hst
        have HREM := Lib.hid hrem
        have HZ := Lib.hid hz
        clear hrem hz hq hT hm
        by_cases hz0 : z = 0
        · rw [if_neg (by simp [hz0])] at hst
          have HS := Lib.hid hst
          clear hst
          go_wp2_with (first | (go_at_call 53; refine hsx.mono ?_; rintro e w' ⟨rfl, rfl⟩) | (go_at_call 14; refine HREM.out.mono ?_; rintro e w3 ⟨rfl, h3⟩; rw [← HZ.out, hz0]; have H3 := Lib.hid h3; clear h3))
          go_roundw
          case rel => exact ⟨k + 1, y.2, by go_num, by omega, H3.out, hgq, by omega, by rw [← HRE.out]; exact HS.out⟩
          case measure => simp [intOf]; omega
        · rw [if_pos hz0] at hst
          have HS := Lib.hid hst
          clear hst
          go_wp2_with (first | (go_at_call 53; refine hsx.mono ?_; rintro e w' ⟨rfl, rfl⟩) | (go_at_call 14; refine HREM.out.mono ?_; rintro e w3 ⟨rfl, h3⟩; rw [← HZ.out]; have H3 := Lib.hid (HB.out w3 _ h3); clear h3))
          go_ret
          rw [← HS.out]
          exact ⟨by rw [HZ.out] <;> rfl, H3.out⟩
    · obtain rfl : k = N := by omega
      have i1 : ¬ ((k : Int) < (k : Int)) := by omega
      rw [List.drop_of_length_le (by rw [HL.out]; exact Nat.le_refl _)] at hst
      unfold sweepL at hst
      have HS := Lib.hid hst
      have HT := Lib.hid (HB.out wr T hT)
      clear hst hT
      go_wp2
      go_ret
      rw [← HS.out]
      exact ⟨rfl, HT.out⟩
end
end Go.Proofs.Ythibhkoneajffaa
