/- Sweep of package safe. -/
import Derived.Test.YthibhkoneajffaaSafeSave
namespace Go.Proofs.Ythibhkoneajffaa
open Go.RowKit
theorem One.names {w0 w : World} {Z : Nat → Prop} {p : Nat} {S : St} (h : One w0 Z w p S) (hg : Good S) : Calls Try.prog 50 #[ptr p] w fun e w' => ∃ v, e = .returned v ∧ w'.ownsRow w.heap.size 9 1 v S.fs.length (S.fs.map fun f => .string (SL f.1)) ∧ Below w.heap.size w w' := by
  obtain ⟨F, ⟨mb, V, lf, h⟩, _⟩ := h
  exact names_any h hg.rise (by have := hg.many; omega)
/-- Back to the elder zone. -/
theorem One.back {w0 w1 w2 w3 : World} {Z Y : Nat → Prop} {p : Nat} {S T : St} (h : One w0 Z w1 p S) (hb : Below w1.heap.size w1 w2) (h' : One w2 (fun k => Z k ∨ Y k) w3 p T) : One w0 Z w3 p T := by
  have t := h.turned
  obtain ⟨_, _, _, _, ho⟩ := h
  obtain ⟨F, h1, h2, h3, h4⟩ := h'
  exact ⟨F, h1, fun k hk => ⟨fun hz => (h2 k hk).1 (.inl hz), (h2 k hk).2⟩, (t.trans (Turn.of_below _ hb)).then h3 (fun k _ hk hz => hk (.inl hz)), ho⟩
/-- A row of texts of the call's own, whose block is kept. -/
theorem text_at {w W : World} {Z : Nat → Prop} {base N g cap : Nat} {L : List Bs} {v : Value} (hv : v = .slice (some ⟨g, 0, none⟩) N cap) (hown : w.ownsRow base 9 1 v N (L.map fun n => .string (SL n))) (ht : Turn (fun k => ¬ Z k) w W) (hZ : ∀ k, v.ownBlock = some k → Z k) {k : Nat} {n : Bs} (hk : L[k]? = some n) :
    W.cell? ⟨g, k, none⟩ = some (.string (SL n)) := by
  have h1 := hown.cells (g := g) (by rw [hv]; rfl) k (.string (SL n)) (by rw [List.getElem?_map, hk]; rfl)
  rw [Addr.add_lit, Nat.zero_add] at h1
  exact ht.cell h1 (fun h => h (hZ g (by rw [hv]; rfl)))
theorem names_short {S : St} (hg : Good S) {k : Nat} {n : Bs} (h : (namesF S.fs)[k]? = some n) : n.length ≤ 1099511627776 := by
  obtain ⟨p, hp, rfl⟩ := List.mem_map.1 (List.mem_of_getElem? h)
  have := hg.file_le (findF_of_mem hg.rise hp)
  unfold costF at this
  omega
section
variable {w0 w : World} {Z : Nat → Prop} {p : Nat} {S : St}
set_option maxRecDepth 100000 in
theorem isNone_any (h : One w0 Z w p S) (hg : Good S) : Calls Try.prog 49 #[ptr p] w fun e w' => e = .returned (.bool false) ∧ Below w.heap.size w w' := by
  have hr := h.read hg [126]
  have h1 : ¬ (readS S [126]).1 = 1 := by
    unfold readS
    rw [if_neg (by decide)]
    cases findF [126] S.fs with
    | none => decide
    | some b => simp
  obtain ⟨z, hz⟩ : ∃ z, z = (readS S [126]).1 := ⟨_, rfl⟩
  rw [← hz] at hr h1
  have HR := Lib.hid hr
  clear hr hz
  go_enter Try.func49, Try.ntmps49
  go_wp2_with (go_at_call 30; refine HR.out.mono ?_; rintro e w' ⟨v, rfl, _, hb⟩)
  go_ret
  refine ⟨?_, hb⟩
  have : (z == 1) = false := by simpa using h1
  rw [this] <;> rfl
set_option maxRecDepth 100000 in
set_option maxHeartbeats 4000000 in
theorem sweep_any (h : One w0 Z w p S) (hg : Good S) (hb : S.done + S.cap ≤ 1000000000000) :
    Calls Try.prog 15 #[ptr p] w (OneTo w0 Z p (sweepS S)) := by
  have hnone := isNone_any h hg
  obtain ⟨N, hN⟩ : ∃ N, N = S.fs.length := ⟨_, rfl⟩
  have hmany := hg.many
  obtain ⟨r, hr⟩ : ∃ r, r = sweepL S (namesF S.fs) := ⟨_, rfl⟩
  have hr2 : r = sweepS S := hr
  rw [← hr2]
  clear hr2
  have HN := Lib.hid hN
  have HR := Lib.hid hr
  have hcost := costs_length S.fs
  have hcc := hg.cost
  rw [← hN] at hmany hcost
  clear hN hr
  go_enter Try.func15, Try.ntmps15
  go_wp2_with (first | (go_at_call 49; refine hnone.mono ?_; rintro e w1 ⟨rfl, hb1⟩; have H1 := Lib.hid (h.below hb1); clear h hnone) | (go_at_call 50; fail))
  refine (H1.out.names hg).mono ?_
  rintro e w2 ⟨v, rfl, hown, hb2⟩
  have hL : (S.fs.map fun f => Value.string (SL f.1)) = (namesF S.fs).map fun n => Value.string (SL n) := by unfold namesF; rw [List.map_map]; rfl
  rw [hL, ← HN.out] at hown
  have H2 := Lib.hid (H1.out.snap hb2)
  obtain ⟨Z', hZ'⟩ : ∃ Z' : Nat → Prop, Z' = fun k => Z k ∨ (w1.heap.size ≤ k ∧ k < w2.heap.size) := ⟨_, rfl⟩
  rw [← hZ'] at H2
  have hlenN : (namesF S.fs).length = N := by unfold namesF; rw [List.length_map]; exact HN.out.symm
  have hback : ∀ (w3 : World) (T : St), One w2 Z' w3 p T → One w0 Z w3 p T := fun w3 T h' => H1.out.back hb2 (by rw [hZ'] at h'; exact h')
  have hv : ∃ (ao : Option Addr) (cap : Nat), v = .slice ao N cap ∧ ∀ (W : World), Turn (fun k => ¬ Z' k) w2 W → ∀ (k : Nat) (n : Bs), (namesF S.fs)[k]? = some n → ∃ g, ao = some ⟨g, 0, none⟩ ∧ W.cell? ⟨g, k, none⟩ = some (.string (SL n)) := by
    rcases hown.2 with ⟨e, h0⟩ | ⟨g, cap, cur, e, _⟩
    · refine ⟨none, 0, by rw [e, h0], fun W _ k n hk => ?_⟩
      have := (List.getElem?_eq_some_iff.1 hk).1
      omega
    · exact ⟨some ⟨g, 0, none⟩, cap, e, fun W ht k n hk => ⟨g, rfl, text_at (Z := Z') e hown ht (fun i hi => by rw [hZ']; exact .inr (hown.lt i hi)) hk⟩⟩
  obtain ⟨ao, cap, rfl, hcell⟩ := hv
  have HC := Lib.hid hcell
  have HB := Lib.hid hback
  have HL := Lib.hid hlenN
  clear hown hL hb2 hZ' H1 hback hcell hlenN
  go_wp2
  go_loopw [11] (fun i W => ∃ (k : Nat) (T : St), i = .int .i64 (k : Int) ∧ k ≤ N ∧ One w2 Z' W p T ∧ Good T ∧ T.done ≤ S.done + k ∧ sweepL T ((namesF S.fs).drop k) = r) (fun i _ => N - (intOf i).toNat)
  case atStart => exact ⟨0, S, rfl, Nat.zero_le _, H2.out, hg, Nat.le_refl _, by rw [List.drop_zero]; exact HR.out.symm⟩
  case round =>
    clear H2
    obtain ⟨k, T, rfl, hk, hT, hGT, hD, hst⟩ := hrel
    have i0 : (0 : Int) ≤ (k : Int) := by omega
    by_cases hlt : k < N
    · have hk2 : k < (namesF S.fs).length := by rw [HL.out]; exact hlt
      obtain ⟨n, hn⟩ : ∃ n, (namesF S.fs)[k]? = some n := ⟨_, List.getElem?_eq_getElem hk2⟩
      have hnl := names_short hg hn
      obtain ⟨g, rfl, c1⟩ := HC.out wr hT.turned k n hn
      have hdrop : (namesF S.fs).drop k = n :: (namesF S.fs).drop (k + 1) := by
        rw [List.drop_eq_getElem_cons hk2]
        rw [List.getElem?_eq_getElem hk2] at hn
        rw [Option.some.inj hn]
      rw [hdrop] at hst
      have i1 : (k : Int) < (N : Int) := by omega
      have hsx := suffix_any n (by omega) wr
      obtain ⟨rest, hrest⟩ : ∃ l, l = (namesF S.fs).drop (k + 1) := ⟨_, rfl⟩
      rw [← hrest] at hst
      have HRE := Lib.hid hrest
      unfold sweepL at hst
      clear hn hdrop hrest
      cases hm : marked n with
      | false =>
        rw [hm, if_pos rfl] at hst
        rw [hm] at hsx
        have HS := Lib.hid hst
        have HT := Lib.hid hT
        clear hst hm hT
        go_wp2_with (go_at_call 51; refine hsx.mono ?_; rintro e w' ⟨rfl, rfl⟩)
        go_roundw
        case rel => exact ⟨k + 1, T, by go_num, by omega, HT.out, hGT, by omega, by rw [← HRE.out]; exact HS.out⟩
        case measure => simp [intOf]; omega
      | true =>
        rw [hm, if_neg (by simp)] at hst
        rw [hm] at hsx
        have hrem := hT.remove hGT (by omega) n
        have hgq := hGT.remove n
        have hdq := remove_done T n
        obtain ⟨q, hq⟩ : ∃ q, q = removeS T n := ⟨_, rfl⟩
        rw [← hq] at hrem hst hgq hdq
        obtain ⟨z, hz⟩ : ∃ z, z = q.1 := ⟨_, rfl⟩
        rw [← hz] at hst
        have HREM := Lib.hid hrem
        have HZ := Lib.hid hz
        clear hrem hz hq hT hm
        by_cases hz0 : z = 0
        · rw [if_neg (by simp [hz0])] at hst
          have HS := Lib.hid hst
          clear hst
          go_wp2_with (first | (go_at_call 51; refine hsx.mono ?_; rintro e w' ⟨rfl, rfl⟩) | (go_at_call 13; refine HREM.out.mono ?_; rintro e w3 ⟨rfl, h3⟩; rw [← HZ.out, hz0]; have H3 := Lib.hid h3; clear h3))
          go_roundw
          case rel => exact ⟨k + 1, q.2, by go_num, by omega, H3.out, hgq, by omega, by rw [← HRE.out]; exact HS.out⟩
          case measure => simp [intOf]; omega
        · rw [if_pos hz0] at hst
          have HS := Lib.hid hst
          clear hst
          go_wp2_with (first | (go_at_call 51; refine hsx.mono ?_; rintro e w' ⟨rfl, rfl⟩) | (go_at_call 13; refine HREM.out.mono ?_; rintro e w3 ⟨rfl, h3⟩; rw [← HZ.out]; have H3 := Lib.hid (HB.out w3 _ h3); clear h3))
          go_ret
          rw [← HS.out]
          exact ⟨by rw [HZ.out] <;> rfl, H3.out⟩
    · obtain rfl : k = N := by omega
      have i1 : ¬ ((k : Int) < (k : Int)) := by omega
      rw [List.drop_of_length_le (by rw [HL.out]; exact Nat.le_refl _)] at hst
      unfold sweepL at hst
      have HS := Lib.hid hst
      have HT := Lib.hid (HB.out wr T hT)
      clear hst hT
      go_wp2
      go_ret
      rw [← HS.out]
      exact ⟨rfl, HT.out⟩
end
end Go.Proofs.Ythibhkoneajffaa
