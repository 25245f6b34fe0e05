/- SafeOver as it stands: what is free may have gone round. -/
import Derived.Test.YthibhkoneajffaaSafeRoom
import Derived.Test.YthibhkoneajffaaSafeWideSave
namespace Go.Proofs.Ythibhkoneajffaa
open Go.RowKit
theorem others_eq {n : Bs} {A B : Files} (hA : Rising A) (hB : Rising B) (h : ∀ m, m ≠ n → m ≠ shadowN n → findF m A = findF m B) : others n A = others n B := by
  unfold others
  refine rising_ext (hA.filter _) (hB.filter _) fun m => ?_
  rw [find_filter (fun _ _ => rfl) _ hA, find_filter (fun _ _ => rfl) _ hB]
  by_cases h1 : m = n
  · simp [h1]
  · by_cases h2 : m = shadowN n
    · simp [h2]
    · rw [h m h1 h2]
def zz : Bs := [122, 122]
theorem zz_named : named (shadowN zz) = true ∧ named zz = true ∧ marked zz = false := ⟨by decide, by decide, by decide⟩
theorem wide_load {L : Files} {C : Nat} (hL : L.length ≤ 3600000000000) (hb : ∀ n b, (n, b) ∈ L → n.length ≤ 9223372036854775807 ∧ b.length ≤ 140737488355328) : Wide (loadS L C) :=
  ⟨layF_rising L, rfl, rfl, fun n b h => (hb n b (layF_in h)).2, by have := layF_length L; show (layF L).length ≤ _; omega⟩
/-- Two Saves on a disk whose power stays. -/
theorem over_wide {S : St} {a b : Bs} (hg : Wide S) (hl : S.fs.length + 2 ≤ 4000000000000) (ha : a.length ≤ 140737488355328) (hb : b.length ≤ 140737488355328) :
    (saveW S zz a).1 = 4 ∨ ((saveW S zz a).1 = 0 ∧ ((saveW (saveW S zz a).2 zz b).1 = 4 ∨ ((saveW (saveW S zz a).2 zz b).1 = 0 ∧ findF zz (saveW (saveW S zz a).2 zz b).2.fs = some b ∧ others zz (saveW (saveW S zz a).2 zz b).2.fs = others zz S.fs ∧
      ∀ n c, findF n (saveW (saveW S zz a).2 zz b).2.fs = some c → n = zz ∨ ∃ d, findF n S.fs = some d))) := by
  obtain ⟨h1, h2, h3⟩ := zz_named
  obtain ⟨g1, g2, _, g4⟩ := saveW_says (b := a) h1 h2 hg (by omega) ha
  obtain ⟨r, hr⟩ : ∃ r, r = saveW S zz a := ⟨_, rfl⟩
  rw [← hr] at g1 g2 g4 ⊢
  rcases g4 with g4 | ⟨g4, g5⟩
  · exact .inl g4
  · obtain ⟨k1, k2, _, k4⟩ := saveW_says (b := b) h1 h2 g1 (by omega) hb
    refine .inr ⟨g4, ?_⟩
    rcases k4 with k4 | ⟨k4, k5⟩
    · exact .inl k4
    · refine .inr ⟨k4, by rw [k5, findF_put_same], others_eq k1.rise hg.rise fun m e1 e2 => ?_, fun n c hc => ?_⟩
      · rw [k5, findF_put_other _ e1, findF_del_other e2, g5, findF_put_other _ e1, findF_del_other e2]
      · by_cases e : n = zz
        · exact .inl e
        · rw [k5, findF_put_other _ e] at hc
          by_cases e2 : n = shadowN zz
          · rw [e2, findF_del_same g1.rise] at hc; cases hc
          · rw [findF_del_other e2, g5, findF_put_other _ e, findF_del_other e2] at hc
            exact .inr ⟨c, hc⟩
/-- Dump, and what of it shadowed leaves. -/
theorem One.shadowedW {w0 w : World} {Z : Nat → Prop} {p : Nat} {S : St} (hg : Wide S) (n : Bs) (hn : n.length ≤ 281474976710656) {v : Value} {w' : World} (h : FilesAt w' (fun k => w.heap.size ≤ k ∧ k < w'.heap.size) v S.fs) (hb : Below w.heap.size w w') (_ : One w0 Z w p S) :
    Calls Try.prog 31 #[v, .string (SL n)] w' fun e w'' => ∃ v', e = .returned v' ∧ FilesAt w'' (fun k => w.heap.size ≤ k ∧ k < w''.heap.size) v' (others n S.fs) ∧ Below w.heap.size w w'' := by
  refine (shadowed_any _ v S.fs n hn w' h (fun k hk => hk.2) hg.many).mono ?_
  rintro e w'' ⟨v', he, hF, hb'⟩
  have s1 := hb.size
  have s2 := hb'.size
  exact ⟨v', he, hF.mono (fun k _ hk => by omega), hb.trans (hb'.mono s1)⟩
theorem One.filesW {w0 w : World} {Z : Nat → Prop} {p : Nat} {S : St} (h : One w0 Z w p S) (hg : Wide S) (hn : ∀ n b, findF n S.fs = some b → n.length ≤ 281474976710656) : Calls Try.prog 26 #[ptr p] w fun e w' => ∃ v, e = .returned v ∧ FilesAt w' (fun k => w.heap.size ≤ k ∧ k < w'.heap.size) v S.fs ∧ Below w.heap.size w w' := by
  refine (h.dump hg.rise hg.many (fun n b hb => ⟨hn n b hb, hg.size n b hb⟩)).mono ?_
  rintro e w' ⟨v, he, hF, hb⟩
  exact ⟨v, he, hF, hb⟩
set_option maxRecDepth 100000 in
set_option maxHeartbeats 8000000 in
theorem over_all (v0 : Value) (L : Files) (va : Value) (a : Bs) (vb : Value) (b : Bs) (w : World) (h : FilesAt w (elder w) v0 L) (hL : L.length ≤ 3600000000000) (hb : ∀ n b, (n, b) ∈ L → n.length ≤ 9223372036854775807 ∧ b.length ≤ 140737488355328)
    (hva : BytesAt w (elder w) va a) (hal : a.length ≤ 140737488355328) (hvb : BytesAt w (elder w) vb b) (hbl : b.length ≤ 140737488355328) :
    Calls Try.prog 7 #[v0, va, vb] w fun e w' => e = .returned (.bool true) ∧ Below w.heap.size w w' := by
  have hA := awake_any w
  have hB := fun (W : World) (hW : Below w.heap.size w W) => both_W 1048575 v0 L W (h.later hW) (by omega) hb
  have HVA := Lib.hid (fun (W1 W2 : World) h1 h2 => hva.later (w1 := W1) (w2 := W2) h1 h2)
  have HVB := Lib.hid (fun (W1 W2 : World) h1 h2 => hvb.later (w1 := W1) (w2 := W2) h1 h2)
  obtain ⟨ao, cap, rfl⟩ : ∃ ao cap, vb = .slice ao b.length cap := by
    obtain ⟨ao, cap, B, off, e, _⟩ := hvb
    exact ⟨ao, cap, e⟩
  obtain ⟨K, hK⟩ : ∃ K, K = b.length := ⟨_, rfl⟩
  rw [← hK] at HVB ⊢
  have HB := Lib.hid hB
  have HLB := Lib.hid hb
  have HK := Lib.hid hK
  clear hB h hb hva hvb hK
  go_enter Try.func7, Try.ntmps7
  go_wp2_with (first | (go_at_call 9; refine hA.mono ?_; rintro e w1 ⟨rfl, b1⟩; have B1 := Lib.hid b1; clear b1) | (go_at_call 10; fail))
  refine (HB.out w1 B1.out).mono ?_
  rintro e w2 (⟨rfl, b2⟩ | ⟨p, q, C, rfl, hT, hfit, hC⟩)
  · have B2 := Lib.hid (B1.out.trans (b2.mono B1.out.size))
    clear b2 HB
    go_wp2
    go_ret
    exact ⟨rfl, B2.out⟩
  · obtain ⟨Fd, Fr, hP⟩ := hT
    have hO := hP.elder
    have hG := wide_load (C := C) hL HLB.out
    have hNm := named_load (C := C) hfit
    obtain ⟨S, hS⟩ : ∃ S, S = loadS L C := ⟨_, rfl⟩
    have hdone : S.done = 0 := by rw [hS]; rfl
    have hln : S.fs.length + 2 ≤ 4000000000000 := by
      have h1 := layF_length L
      rw [hS]
      show (layF L).length + 2 ≤ _
      omega
    rw [← hS] at hO hG hNm
    have hnl : ∀ n b, findF n S.fs = some b → n.length ≤ 281474976710656 := fun n b hb => by
      have := (named_le (hNm n b hb)).1
      omega
    have hB2 : Below w.heap.size w w2 := B1.out.trans (hP.old.mono B1.out.size)
    have hsays := over_wide (a := a) (b := b) hG hln hal hbl
    have HO := Lib.hid hO
    have HB2 := Lib.hid hB2
    clear hO hB2 hP hS hNm HB hA hfit
    go_wp2_with (first
      | (go_at_call 26; refine (HO.out.filesW hG hnl).mono ?_; rintro e w3 ⟨v3, rfl, h3, b3⟩; have HSH := Lib.hid (One.shadowedW hG zz (by decide) h3 b3 HO.out); clear h3 b3)
      | (go_at_call 31; fail))
    refine HSH.out.mono ?_
    rintro e w4 ⟨v4, rfl, h4, b4⟩
    have hsnap := HO.out.snap b4
    have hB4 : Below w.heap.size w w4 := HB2.out.trans (b4.mono HB2.out.size)
    obtain ⟨Z, hZ⟩ : ∃ Z : Nat → Prop, Z = fun k => elder w1 k ∨ (w2.heap.size ≤ k ∧ k < w4.heap.size) := ⟨_, rfl⟩
    rw [← hZ] at hsnap
    have hfl : FilesAt w4 Z v4 (others zz S.fs) := h4.mono (fun k _ hk => by rw [hZ]; exact .inr hk)
    have hba : BytesAt w4 Z va a := (HVA.out w1 w4 B1.out hB4).mono (fun k _ hk => by rw [hZ]; exact .inl hk)
    have hbb : BytesAt w4 Z (.slice ao K cap) b := (HVB.out w1 w4 B1.out hB4).mono (fun k _ hk => by rw [hZ]; exact .inl hk)
    have hback := fun (w5 : World) (T : St) (h : One w4 Z w5 p T) => HO.out.back b4 (by rw [hZ] at h; exact h)
    obtain ⟨zn1, zn2, zn3⟩ := zz_named
    have hs1 := save_W hsnap hG (by omega) zz a zn1 zn2 zn3 (by omega) va hba hal
    have hw1 := saveW_says (b := a) zn1 zn2 hG (by omega) hal
    have hcb := chunks_bound hal
    obtain ⟨r, hr⟩ : ∃ r, r = saveW S zz a := ⟨_, rfl⟩
    rw [← hr] at hs1 hsays hw1
    have hgr : Wide r.2 := hw1.1
    have hdr : r.2.done ≤ 100000000000000 := by have := hw1.2.2.1; omega
    have hlr : r.2.fs.length + 1 ≤ 4000000000000 := by have := hw1.2.1; omega
    have hs2 := fun (W : World) (h : One w4 Z W p r.2) => save_W h hgr hdr zz b zn1 zn2 zn3 hlr _ (hsnap.bytes h hbb) hbl
    have hw2 := saveW_says (b := b) zn1 zn2 hgr hlr hbl
    obtain ⟨s, hss⟩ : ∃ s, s = saveW r.2 zz b := ⟨_, rfl⟩
    rw [← hss] at hs2 hsays hw2
    have hgs : Wide s.2 := hw2.1
    clear hw1 hw2 hcb zn1 zn2 zn3
    have HS1 := Lib.hid hs1
    have HS2 := Lib.hid hs2
    have HF := Lib.hid hfl
    have HBK := Lib.hid hback
    have HBB := Lib.hid (fun (W : World) (h : One w4 Z W p s.2) => hsnap.bytes h hbb)
    clear hs1 hs2 hfl hback hba hbb hsnap hZ h4 b4 hr hss HSH hB4 hdr hlr
    go_wp2_with (go_at_call 21; fail)
    refine HS1.out.mono ?_
    rintro e w5 ⟨rfl, h5⟩
    have H5 := Lib.hid (HS2.out w5 h5)
    clear h5 HS2
    go_wp2_with (go_at_call 21; fail)
    refine H5.out.mono ?_
    rintro e w6 ⟨rfl, h6⟩
    have H6 := Lib.hid h6
    have HE6 := Lib.hid (B1.out.trans ((HBK.out _ _ h6).old.mono B1.out.size))
    clear h6 H5 HS1
    rcases hsays with k1 | ⟨k1, k2 | ⟨k2, k3, k4, k5⟩⟩
    · rw [k1]
      go_wp2
      all_goals (go_ret; exact ⟨rfl, HE6.out⟩)
    · rw [k1, k2]
      go_wp2
      all_goals (go_ret; exact ⟨rfl, HE6.out⟩)
    · rw [k1, k2]
      have hns : ∀ n b, findF n s.2.fs = some b → n.length ≤ 281474976710656 := fun n c hc => by
        rcases k5 n c hc with rfl | ⟨d, hd⟩
        · decide
        · exact hnl n d hd
      have hrd := H6.out.readW hgs zz
      have hreads : readS s.2 zz = (0, b) := by unfold readS; rw [zz_named.2.1, if_neg (by simp), k3]
      rw [hreads] at hrd
      have HRD := Lib.hid hrd
      have HK4 := Lib.hid k4
      clear hrd hreads k3 k4 k5
      go_wp2_with (go_at_call 30; fail)
      refine HRD.out.mono ?_
      rintro e w7 ⟨v7, rfl, hown, hb7⟩
      have h7 := H6.out.below hb7
      have hcv := (HBB.out w7 h7).text
      obtain ⟨ao7, cap7, B7, rfl, s7, _⟩ := src_of_own hown
      have hcv7 := convert_src s7
      rw [← HK.out] at hcv7 ⊢
      have H7 := Lib.hid h7
      have F7 := Lib.hid (HF.out.turn h7.turned (fun k hk h => h hk))
      have HE7 := Lib.hid (HE6.out.trans (hb7.mono HE6.out.size))
      clear hown hb7 s7 h7 HRD
      go_wp2_with (first
        | (go_at_call 26; refine (H7.out.filesW hgs hns).mono ?_; rintro e w8 ⟨v8, rfl, h8, b8⟩; have HSH8 := Lib.hid (One.shadowedW hgs zz (by decide) h8 b8 H7.out); clear h8 b8)
        | (go_at_call 31; refine HSH8.out.mono ?_; rintro e w9 ⟨v9, rfl, h9, b9⟩; have F9 := Lib.hid h9; have G9 := Lib.hid (F7.out.turn (Turn.of_below (fun _ => False) b9) (fun _ _ h => h)); have HE9 := Lib.hid (HE7.out.trans (b9.mono HE7.out.size)); clear h9 b9)
        | (go_at_call 24; refine (sameFiles_any _ _ v4 v9 _ _ w9 G9.out F9.out (by unfold others; have h1 := List.length_filter_le (fun f : Bs × Bs => !(f.1 == zz) && !(f.1 == shadowN zz)) S.fs; have h2 := hG.many; omega)).mono ?_; rintro e w10 ⟨rfl, b10⟩; rw [decide_eq_true HK4.out.symm]))
      go_ret
      exact ⟨rfl, HE9.out.trans (b10.mono HE9.out.size)⟩
end Go.Proofs.Ythibhkoneajffaa
