/- Save of package safe. -/
import Derived.Test.YthibhkoneajffaaSafeLay
import Derived.Test.YthibhkoneajffaaSafeSmall
namespace Go.Proofs.Ythibhkoneajffaa
open Go.RowKit
theorem One.bytes {w0 w w' : World} {Z : Nat → Prop} {p : Nat} {S S' : St} (h : One w0 Z w p S) (h' : One w0 Z w' p S') {v : Value} {b : Bs} (hv : BytesAt w Z v b) : BytesAt w' Z v b := by
  obtain ⟨ao, cap, B, off, rfl, hs, hB⟩ := hv
  have t' := h'.turned
  obtain ⟨_, _, _, t, ho⟩ := h
  exact ⟨ao, cap, B, off, rfl, src_zone hs hB t t' ho, hB⟩
theorem SL_nil_eq {n : Bs} (h : n ≠ []) : ((SL n).toList == ([] : List UInt8)) = false := by
  rw [SL_toList]
  cases n with
  | nil => exact absurd rfl h
  | cons a r => rfl
section
variable {w0 w : World} {Z : Nat → Prop} {p : Nat} {S : St}
set_option maxRecDepth 100000 in
set_option maxHeartbeats 4000000 in
theorem save_any (h : One w0 Z w p S) (hg : Good S) (hb : S.done + S.cap + 10 ≤ 1000000000000) (n b : Bs) (hn : n.length ≤ 281474976710656) (v : Value) (hv : BytesAt w Z v b) (hbl : b.length ≤ 281474976710656) :
    Calls Try.prog 21 #[ptr p, .string (SL n), v] w (OneTo w0 Z p (saveS S n b)) := by
  have hs : (SL n).size = n.length := SL_size n
  have hsx := suffix_any n (by omega) w
  obtain ⟨ao, cap, B, off, rfl, hsr, hB⟩ := hv
  have hv : BytesAt w Z (.slice ao b.length cap) b := ⟨ao, cap, B, off, rfl, hsr, hB⟩
  obtain ⟨K, hK⟩ : ∃ K, K = b.length := ⟨_, rfl⟩
  rw [← hK] at hv ⊢
  clear hsr hB
  by_cases hn0 : n = []
  · subst hn0
    have e : saveS S [] b = (1, S) := save_bad (.inr (.inl rfl))
    rw [e]
    have HS : OneTo w0 Z p (1, S) (.returned (err 1)) w := ⟨rfl, h⟩
    have hz : (SL []).toList.isEmpty = true := by rw [SL_toList]; rfl
    go_enter Try.func21, Try.ntmps21
    go_wp2
    go_ret
    exact HS
  · have hne := SL_nil_eq hn0
    have hne2 : (SL n).toList ≠ [] := by rw [SL_toList]; exact hn0
    cases hm : marked n with
    | true =>
      have e : saveS S n b = (1, S) := save_bad (.inr (.inr hm))
      rw [e]
      rw [hm] at hsx
      have HS : OneTo w0 Z p (1, S) (.returned (err 1)) w := ⟨rfl, h⟩
      clear e hm
      go_enter Try.func21, Try.ntmps21
      go_wp2_with (go_at_call 51; refine hsx.mono ?_; rintro e w' ⟨rfl, rfl⟩)
      go_ret
      exact HS
    | false =>
      rw [hm] at hsx
      have hcat := SL_shadow n
      have h1 : (⟨#[126]⟩ : ByteArray).size = 1 := rfl
      have hrem := h.remove hg (by omega) (shadowN n)
      obtain ⟨r, hr⟩ : ∃ r, r = saveS S n b := ⟨_, rfl⟩
      obtain ⟨q, hq⟩ : ∃ q, q = removeS S (shadowN n) := ⟨_, rfl⟩
      rw [← hr]
      rw [← hq] at hrem
      have hr2 : r = if q.1 ≠ 0 ∧ q.1 ≠ 3 then q else saveT n b q.2 := by
        rw [hr, hq]
        unfold saveS
        rw [if_neg (by simp [hn0, hm])]
      have hgq : Good q.2 := by rw [hq]; exact hg.remove _
      have hdq : q.2.done ≤ S.done + 1 := by rw [hq]; exact remove_done _ _
      have hcq : q.2.cap = S.cap := by rw [hq]; exact remove_cap _ _
      obtain ⟨z, hz⟩ : ∃ z, z = q.1 := ⟨_, rfl⟩
      rw [← hz] at hr2
      have HREM := Lib.hid hrem
      have HR2 := Lib.hid hr2
      have HV := Lib.hid (fun (w' : World) (S' : St) (h' : One w0 Z w' p S') => h.bytes h' hv)
      have HZ := Lib.hid hz
      have HK := Lib.hid hK
      clear hr hrem hm hq hr2 hv h hz hK
      go_enter Try.func21, Try.ntmps21
      go_wp2_with (first | (go_at_call 51; refine hsx.mono ?_; rintro e w' ⟨rfl, rfl⟩) | (go_at_call 13; fail))
      refine HREM.out.mono ?_
      rintro e w1 ⟨rfl, h1'⟩
      rw [← HZ.out]
      have H1 := Lib.hid h1'
      clear h1' HREM hsx
      by_cases hz3 : z = 3 ∨ z = 0
      · have hr3 : r = saveT n b q.2 := by rw [HR2.out, if_neg (by omega)]
        have hfree := H1.out.free
        obtain ⟨f0, f1, f2⟩ := hgq.free_in
        rw [f2] at hfree
        have hneed := need_any n (K : Int) w1
        rw [needI_nat hn (by rw [HK.out]; exact hbl)] at hneed
        obtain ⟨x, hx⟩ : ∃ x, x = q.2.free := ⟨_, rfl⟩
        obtain ⟨y, hy⟩ : ∃ y, y = needS n K := ⟨_, rfl⟩
        rw [← hx] at hfree
        rw [← hy] at hneed
        have hr4 : r = if x < y then (4, q.2) else if (layS (shadowN n) b q.2).1 ≠ 0 then layS (shadowN n) b q.2 else renameS (layS (shadowN n) b q.2).2 (shadowN n) n := by rw [hr3, hx, hy, HK.out]; rfl
        have HR4 := Lib.hid hr4
        have HX := Lib.hid hx
        have HY := Lib.hid hy
        clear hr3 hr4 hx hy f0 f1 f2 HR2
        by_cases hlt : x < y
        · have hr5 : r = (4, q.2) := by rw [HR4.out, if_pos hlt]
          have HS : OneTo w0 Z p r (.returned (err 4)) w1 := by rw [hr5]; exact ⟨rfl, H1.out⟩
          clear hr5
          rcases hz3 with rfl | rfl
          all_goals (go_wp2_with (first | (go_at_call 34; refine hfree.mono ?_; rintro e w' ⟨rfl, rfl⟩) | (go_at_call 28; refine hneed.mono ?_; rintro e w' ⟨rfl, rfl⟩)); go_ret; exact HS)
        · have hfit : b.length ≤ S.cap := by
            have h1 := hgq.free_in
            have h2 := HX.out
            have h3 := HY.out
            have h4 := HK.out
            unfold St.free at h2
            unfold needS at h3
            omega
          have hcf := chunks_few b
          have hlay := lay_any H1.out hgq (shadowN n) b (by omega) _ (HV.out _ _ H1.out)
          obtain ⟨l, hl⟩ : ∃ l, l = layS (shadowN n) b q.2 := ⟨_, rfl⟩
          have hr5 : r = if l.1 ≠ 0 then l else renameS l.2 (shadowN n) n := by rw [HR4.out, if_neg hlt, hl]
          have hgl : Good l.2 := by rw [hl]; exact hgq.lay
          have hdl : l.2.done ≤ 1000000000000 := by have := lay_done (shadowN n) b q.2; rw [hl]; omega
          rw [← hl] at hlay
          obtain ⟨y2, hy2⟩ : ∃ y, y = l.1 := ⟨_, rfl⟩
          rw [← hy2] at hr5
          have HR5 := Lib.hid hr5
          have HLAY := Lib.hid hlay
          have HY2 := Lib.hid hy2
          clear hr5 hlay hl hy2 hcf hfit
          have hcase : ∀ w2, One w0 Z w2 p l.2 → Hid (One w0 Z w2 p l.2 ∧ Calls Try.prog 56 #[ptr p, .string (SL (shadowN n)), .string (SL n)] w2 (OneTo w0 Z p (renameS l.2 (shadowN n) n))) := fun w2 h2 => Lib.hid ⟨h2, h2.rename hgl hdl _ _⟩
          by_cases hl0 : y2 = 0
          · have hr6 : r = renameS l.2 (shadowN n) n := by rw [HR5.out, if_neg (by omega)]
            have HR6 := Lib.hid hr6
            clear hr6
            rcases hz3 with rfl | rfl
            all_goals (go_wp2_with (first | (go_at_call 34; refine hfree.mono ?_; rintro e w' ⟨rfl, rfl⟩) | (go_at_call 28; refine hneed.mono ?_; rintro e w' ⟨rfl, rfl⟩) | (go_at_call 55; refine HLAY.out.mono ?_; rintro e w2 ⟨rfl, h2⟩; rw [← HY2.out, hl0]; have HC := hcase w2 h2; clear h2) | (go_at_call 56; refine HC.out.2.mono ?_; rintro e w3 ⟨rfl, h3⟩; rw [← HR6.out] at h3 ⊢)); go_ret; exact ⟨rfl, h3⟩)
          · have hr6 : r = l := by rw [HR5.out, if_pos hl0]
            have HR6 := Lib.hid hr6
            clear hr6
            rcases hz3 with rfl | rfl
            all_goals (go_wp2_with (first | (go_at_call 34; refine hfree.mono ?_; rintro e w' ⟨rfl, rfl⟩) | (go_at_call 28; refine hneed.mono ?_; rintro e w' ⟨rfl, rfl⟩) | (go_at_call 55; refine HLAY.out.mono ?_; rintro e w2 ⟨rfl, h2⟩; rw [← HY2.out]; have HC := hcase w2 h2; clear h2)); go_ret; rw [HR6.out]; exact ⟨by rw [HY2.out] <;> rfl, HC.out.1⟩)
      · have hz0 : ¬ z = 0 := fun e => hz3 (.inr e)
        have hz30 : ¬ z = 3 := fun e => hz3 (.inl e)
        have hr3 : r = q := by rw [HR2.out, if_pos ⟨hz0, hz30⟩]
        have HR3 := Lib.hid hr3
        clear hr3 hz3
        have hb0 : (z != 0) = true := by simpa using hz0
        have hb3 : (z != 3) = true := by simpa using hz30
        have hb : (z != 0 && z != 3) = true := by rw [hb0, hb3]; rfl
        go_wp2
        go_ret
        rw [HR3.out]
        exact ⟨by rw [HZ.out] <;> rfl, H1.out⟩
end
end Go.Proofs.Ythibhkoneajffaa
