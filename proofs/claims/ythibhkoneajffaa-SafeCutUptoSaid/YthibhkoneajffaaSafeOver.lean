/- SafeOver. -/
import Derived.Test.YthibhkoneajffaaSafeRoom
namespace Go.Proofs.Ythibhkoneajffaa
open Go.RowKit
theorem others_eq {n : Bs} {A B : Files} (hA : Rising A) (hB : Rising B) (h : ∀ m, m ≠ n → m ≠ shadowN n → findF m A = findF m B) : others n A = others n B := by
  unfold others
  refine rising_ext (hA.filter _) (hB.filter _) fun m => ?_
  rw [find_filter (fun _ _ => rfl) _ hA, find_filter (fun _ _ => rfl) _ hB]
  by_cases h1 : m = n
  · simp [h1]
  · by_cases h2 : m = shadowN n
    · simp [h2]
    · rw [h m h1 h2]
/-- A Save that is done turns no other file. -/
theorem saved_others {S : St} {n b : Bs} (hg : Good S) (hf : (saveS S n b).2.fs = putF n b (delF (shadowN n) S.fs)) : others n (saveS S n b).2.fs = others n S.fs :=
  others_eq hg.save.rise hg.rise fun m h1 h2 => by rw [hf, findF_put_other _ h1, findF_del_other h2]
def zz : Bs := [122, 122]
theorem zz_named : named (shadowN zz) = true ∧ named zz = true ∧ marked zz = false := ⟨by decide, by decide, by decide⟩
/-- Two Saves on a disk whose power stays. -/
theorem over_says {S : St} {a b : Bs} (hg : Good S) (hd : S.dark = false) (hl : S.left = -1) :
    (saveS S zz a).1 = 4 ∨ ((saveS S zz a).1 = 0 ∧ ((saveS (saveS S zz a).2 zz b).1 = 4 ∨ ((saveS (saveS S zz a).2 zz b).1 = 0 ∧ findF zz (saveS (saveS S zz a).2 zz b).2.fs = some b ∧ others zz (saveS (saveS S zz a).2 zz b).2.fs = others zz S.fs))) := by
  obtain ⟨h1, h2, h3⟩ := zz_named
  rcases save_says (b := a) h1 h2 h3 hg hd with ⟨k1, _, k3, _, k5, k6⟩ | ⟨k1, _⟩ | k
  · refine .inr ⟨k1, ?_⟩
    rcases save_says (b := b) h1 h2 h3 hg.save k3 with ⟨m1, _, m3, _, m5, m6⟩ | ⟨m1, _⟩ | m
    · exact .inr ⟨m1, by rw [m6, findF_put_same], (saved_others hg.save m6).trans (saved_others hg k6)⟩
    · exact .inl m1
    · exact absurd (k5 hl) m.left
  · exact .inl k1
  · exact absurd hl k.left
/-- Dump, and what of it shadowed leaves. -/
theorem One.shadowed {w0 w : World} {Z : Nat → Prop} {p : Nat} {S : St} (hg : Good S) (n : Bs) (hn : n.length ≤ 281474976710656) {v : Value} {w' : World} (h : FilesAt w' (fun k => w.heap.size ≤ k ∧ k < w'.heap.size) v S.fs) (hb : Below w.heap.size w w') (_ : One w0 Z w p S) :
    Calls Try.prog 31 #[v, .string (SL n)] w' fun e w'' => ∃ v', e = .returned v' ∧ FilesAt w'' (fun k => w.heap.size ≤ k ∧ k < w''.heap.size) v' (others n S.fs) ∧ Below w.heap.size w w'' := by
  refine (shadowed_any _ v S.fs n hn w' h (fun k hk => hk.2) hg.dumps.1).mono ?_
  rintro e w'' ⟨v', he, hF, hb'⟩
  have s1 := hb.size
  have s2 := hb'.size
  exact ⟨v', he, hF.mono (fun k _ hk => by omega), hb.trans (hb'.mono s1)⟩
set_option maxRecDepth 100000 in
set_option maxHeartbeats 8000000 in
theorem over_law (v0 : Value) (L : Files) (va : Value) (a : Bs) (vb : Value) (b : Bs) (w : World) (h : FilesAt w (elder w) v0 L) (hL : L.length ≤ 4000000000000) (hb : ∀ n b, (n, b) ∈ L → n.length ≤ 9223372036854775807 ∧ b.length ≤ 140737488355328) (hs : costs L ≤ 4611686018427387904)
    (hva : BytesAt w (elder w) va a) (hal : a.length ≤ 1048576) (hvb : BytesAt w (elder w) vb b) (hbl : b.length ≤ 1048576) :
    Calls Try.prog 7 #[v0, va, vb] w fun e w' => e = .returned (.bool true) ∧ Below w.heap.size w w' := by
  have hA := awake_any w
  have hB := fun (W : World) (hW : Below w.heap.size w W) => both_any 1048575 v0 L W (h.later hW) hL hb hs
  have HVA := Lib.hid (fun (W1 W2 : World) h1 h2 => hva.later (w1 := W1) (w2 := W2) h1 h2)
  have HVB := Lib.hid (fun (W1 W2 : World) h1 h2 => hvb.later (w1 := W1) (w2 := W2) h1 h2)
  obtain ⟨ao, cap, rfl⟩ : ∃ ao cap, vb = .slice ao b.length cap := by
    obtain ⟨ao, cap, B, off, e, _⟩ := hvb
    exact ⟨ao, cap, e⟩
  obtain ⟨K, hK⟩ : ∃ K, K = b.length := ⟨_, rfl⟩
  rw [← hK] at HVB ⊢
  have HB := Lib.hid hB
  have HK := Lib.hid hK
  clear hB h hb hs hva hvb hK
  go_enter Try.func7, Try.ntmps7
  go_wp2_with (first | (go_at_call 9; refine hA.mono ?_; rintro e w1 ⟨rfl, b1⟩; have B1 := Lib.hid b1; clear b1) | (go_at_call 10; fail))
  refine (HB.out w1 B1.out).mono ?_
  rintro e w2 (⟨rfl, b2⟩ | ⟨p, q, C, rfl, hT, hG, hC, hN, _⟩)
  · have B2 := Lib.hid (B1.out.trans (b2.mono B1.out.size))
    clear b2 HB
    go_wp2
    go_ret
    exact ⟨rfl, B2.out⟩
  · obtain ⟨Fd, Fr, hP⟩ := hT
    have hO := hP.elder
    obtain ⟨S, hS⟩ : ∃ S, S = loadS L C := ⟨_, rfl⟩
    have hdark : S.dark = false := by rw [hS]; rfl
    have hleft : S.left = -1 := by rw [hS]; rfl
    have hdone : S.done = 0 := by rw [hS]; rfl
    have hcap : S.cap ≤ 1048575 := by rw [hS]; exact hC
    rw [← hS] at hO hG hN
    have hB2 : Below w.heap.size w w2 := B1.out.trans (hP.old.mono B1.out.size)
    have hsays := over_says (a := a) (b := b) hG hdark hleft
    have HO := Lib.hid hO
    have HB2 := Lib.hid hB2
    clear hO hB2 hP hS hN HB hA hdark hleft
    go_wp2_with (first
      | (go_at_call 26; refine (HO.out.files hG).mono ?_; rintro e w3 ⟨v3, rfl, h3, b3⟩; have HSH := Lib.hid (One.shadowed hG zz (by decide) h3 b3 HO.out); clear h3 b3)
      | (go_at_call 31; fail))
    refine HSH.out.mono ?_
    rintro e w4 ⟨v4, rfl, h4, b4⟩
    have hsnap := HO.out.snap b4
    have hB4 : Below w.heap.size w w4 := HB2.out.trans (b4.mono HB2.out.size)
    obtain ⟨Z, hZ⟩ : ∃ Z : Nat → Prop, Z = fun k => elder w1 k ∨ (w2.heap.size ≤ k ∧ k < w4.heap.size) := ⟨_, rfl⟩
    rw [← hZ] at hsnap
    have hfl : FilesAt w4 Z v4 (others zz S.fs) := h4.mono (fun k _ hk => by rw [hZ]; exact .inr hk)
    have hba : BytesAt w4 Z va a := (HVA.out w1 w4 B1.out hB4).mono (fun k _ hk => by rw [hZ]; exact .inl hk)
    have hbb : BytesAt w4 Z (.slice ao K cap) b := (HVB.out w1 w4 B1.out hB4).mono (fun k _ hk => by rw [hZ]; exact .inl hk)
    have hback := fun (w5 : World) (T : St) (h : One w4 Z w5 p T) => HO.out.back b4 (by rw [hZ] at h; exact h)
    have hs1 := save_any hsnap hG (by omega) zz a (by decide) va hba (by omega)
    obtain ⟨r, hr⟩ : ∃ r, r = saveS S zz a := ⟨_, rfl⟩
    have hgr : Good r.2 := by rw [hr]; exact hG.save
    have hdr : r.2.done + r.2.cap + 10 ≤ 1000000000000 := by
      have h1 := save_done (S := S) (n := zz) (b := a)
      have h2 := save_cap zz a S
      rw [hr]; omega
    rw [← hr] at hs1 hsays
    have hs2 := fun (W : World) (h : One w4 Z W p r.2) => save_any h hgr hdr zz b (by decide) _ (hsnap.bytes h hbb) (by omega)
    obtain ⟨s, hss⟩ : ∃ s, s = saveS r.2 zz b := ⟨_, rfl⟩
    have hgs : Good s.2 := by rw [hss]; exact hgr.save
    rw [← hss] at hs2 hsays
    have HS1 := Lib.hid hs1
    have HS2 := Lib.hid hs2
    have HF := Lib.hid hfl
    have HBK := Lib.hid hback
    have HBB := Lib.hid (fun (W : World) (h : One w4 Z W p s.2) => hsnap.bytes h hbb)
    clear hs1 hs2 hfl hback hba hbb hsnap hZ h4 b4 hr hss HSH hB4 hdr
    go_wp2_with (go_at_call 21; fail)
    refine HS1.out.mono ?_
    rintro e w5 ⟨rfl, h5⟩
    have H5 := Lib.hid (HS2.out w5 h5)
    clear h5 HS2
    go_wp2_with (go_at_call 21; fail)
    refine H5.out.mono ?_
    rintro e w6 ⟨rfl, h6⟩
    have H6 := Lib.hid h6
    have HE6 := Lib.hid (B1.out.trans ((HBK.out _ _ h6).old.mono B1.out.size))
    clear h6 H5 HS1
    rcases hsays with k1 | ⟨k1, k2 | ⟨k2, k3, k4⟩⟩
    · rw [k1]
      go_wp2
      all_goals (go_ret; exact ⟨rfl, HE6.out⟩)
    · rw [k1, k2]
      go_wp2
      all_goals (go_ret; exact ⟨rfl, HE6.out⟩)
    · rw [k1, k2]
      have hrd := H6.out.read hgs zz
      have hreads : readS s.2 zz = (0, b) := by unfold readS; rw [zz_named.2.1, if_neg (by simp), k3]
      rw [hreads] at hrd
      have HRD := Lib.hid hrd
      have HK4 := Lib.hid k4
      clear hrd hreads k3 k4
      go_wp2_with (go_at_call 30; fail)
      refine HRD.out.mono ?_
      rintro e w7 ⟨v7, rfl, hown, hb7⟩
      have h7 := H6.out.below hb7
      have hcv := (HBB.out w7 h7).text
      obtain ⟨ao7, cap7, B7, rfl, s7, _⟩ := src_of_own hown
      have hcv7 := convert_src s7
      rw [← HK.out] at hcv7 ⊢
      have H7 := Lib.hid h7
      have F7 := Lib.hid (HF.out.turn h7.turned (fun k hk h => h hk))
      have HE7 := Lib.hid (HE6.out.trans (hb7.mono HE6.out.size))
      clear hown hb7 s7 h7 HRD
      go_wp2_with (first
        | (go_at_call 26; refine (H7.out.files hgs).mono ?_; rintro e w8 ⟨v8, rfl, h8, b8⟩; have HSH8 := Lib.hid (One.shadowed hgs zz (by decide) h8 b8 H7.out); clear h8 b8)
        | (go_at_call 31; refine HSH8.out.mono ?_; rintro e w9 ⟨v9, rfl, h9, b9⟩; have F9 := Lib.hid h9; have G9 := Lib.hid (F7.out.turn (Turn.of_below (fun _ => False) b9) (fun _ _ h => h)); have HE9 := Lib.hid (HE7.out.trans (b9.mono HE7.out.size)); clear h9 b9)
        | (go_at_call 24; refine (sameFiles_any _ _ v4 v9 _ _ w9 G9.out F9.out (by unfold others; have h1 := List.length_filter_le (fun f : Bs × Bs => !(f.1 == zz) && !(f.1 == shadowN zz)) S.fs; have h2 := hG.dumps.1; omega)).mono ?_; rintro e w10 ⟨rfl, b10⟩; rw [decide_eq_true HK4.out.symm]))
      go_ret
      exact ⟨rfl, HE9.out.trans (b10.mono HE9.out.size)⟩
end Go.Proofs.Ythibhkoneajffaa
