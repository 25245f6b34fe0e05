/- SafeRoom. -/
import Derived.Test.YthibhkoneajffaaSafeSweeps
namespace Go.Proofs.Ythibhkoneajffaa
open Go.RowKit
theorem writeS_never {S : St} {fs : Files} (h : S.left = -1) : (writeS S fs).2.left = -1 ∧ (writeS S fs).2.dark = S.dark := by
  unfold writeS
  rw [if_neg (by omega)]
  exact ⟨tick_left h, rfl⟩
theorem removeS_never {S : St} {n : Bs} (h : S.left = -1) : (removeS S n).2.left = -1 ∧ (removeS S n).2.dark = S.dark := by
  unfold removeS
  split
  · exact ⟨h, rfl⟩
  · exact writeS_never h
/-- Is the name one that Save takes? -/
def savable (n : Bs) : Prop := named (shadowN n) = true ∧ n ≠ [] ∧ marked n = false
theorem save_err {S : St} {n b : Bs} (h : ¬ savable n) : saveS S n b = (1, S) := by
  refine save_bad ?_
  unfold savable at h
  by_cases h1 : named (shadowN n) = true
  · by_cases h2 : n = []
    · exact .inr (.inl h2)
    · refine .inr (.inr ?_)
      cases hm : marked n with
      | true => rfl
      | false => exact absurd ⟨h1, h2, hm⟩ h
  · exact .inl (by simpa using h1)
/-- A Save on a disk whose power stays, the shadow gone ahead. -/
theorem room_says {S T : St} {n b : Bs} (hg : Good S) (hd : S.dark = false) (hl : S.left = -1) (hT : T = (removeS S (shadowN n)).2) :
    (saveS T n b).1 = 1 ∨ ((saveS T n b).1 = 0 ∧ needS n b.length ≤ T.free ∧ findF n (saveS T n b).2.fs = some b ∧ thereF (shadowN n) (saveS T n b).2.fs = false ∧ named n = true) ∨ ((saveS T n b).1 = 4 ∧ T.free < needS n b.length ∧ (saveS T n b).2.free = T.free) := by
  by_cases hs : savable n
  · obtain ⟨h1, h2, h3⟩ := hs
    have hn' := named_of_shadow h1 h2
    have hgT : Good T := by rw [hT]; exact hg.remove _
    have hlT : T.left = -1 := by rw [hT]; exact (removeS_never hl).1
    have hdT : T.dark = false := by rw [hT, (removeS_never hl).2]; exact hd
    have hno : findF (shadowN n) T.fs = none := by
      rw [hT]
      cases hf : findF (shadowN n) S.fs with
      | none =>
        have : removeS S (shadowN n) = (3, S) := by unfold removeS; rw [touch_no h1 hd hf, if_pos (by decide)]
        rw [this]; exact hf
      | some o =>
        have ht := touch_is h1 hd hf
        have : removeS S (shadowN n) = (0, { tick S with fs := delF (shadowN n) S.fs }) := by unfold removeS writeS; rw [if_neg (by simp [ht]), if_neg (by omega)]
        rw [this]
        show findF (shadowN n) (delF (shadowN n) S.fs) = none
        exact findF_del_same hg.rise
    have hdel : delF (shadowN n) T.fs = T.fs := del_gone hno
    rcases save_says (b := b) h1 hn' h3 hgT hdT with ⟨k1, k2, k3, k4, k5, k6⟩ | ⟨k1, k2, k3, k4, k5⟩ | k
    · rw [hdel] at k2 k6
      refine .inr (.inl ⟨k1, k2, by rw [k6, findF_put_same], ?_, hn'⟩)
      unfold thereF
      rw [k6, findF_put_other _ (shadow_ne n), hno]
      rfl
    · rw [hdel] at k2 k5
      refine .inr (.inr ⟨k1, k2, ?_⟩)
      unfold St.free
      rw [k5, save_cap]
    · exact absurd hlT k.left
  · exact .inl (by rw [save_err hs])
theorem Pair.elder {w0 w : World} {p q : Nat} {Fd Fr : Nat → Prop} {S T : St} (h : Pair w0 w0.heap.size w Fd Fr p q S T) : One w0 (elder w0) w p S :=
  ⟨Fd, h.d, fun k hk => ⟨Nat.not_lt.2 (h.fd k hk).1, (h.fd k hk).2⟩, ⟨h.old.os, h.old.tape, h.old.output, h.old.size, fun k _ hn => h.old.block k (Classical.not_not.1 hn)⟩, fun _ h => h⟩
theorem BytesAt.later {w w1 w2 : World} {v : Value} {b : Bs} (h : BytesAt w (elder w) v b) (h1 : Below w.heap.size w w1) (h2 : Below w.heap.size w w2) : BytesAt w2 (elder w1) v b :=
  (h.turn (Turn.of_below (fun _ => False) h2) (fun _ _ h => h)).mono (fun k _ hk => by have := h1.size; have : k < w.heap.size := hk; show k < w1.heap.size; omega)
theorem FilesAt.later {w w1 : World} {v : Value} {L : Files} (h : FilesAt w (elder w) v L) (h1 : Below w.heap.size w w1) : FilesAt w1 (elder w1) v L :=
  (h.turn (Turn.of_below (fun _ => False) h1) (fun _ _ h => h)).mono (fun k _ hk => by have := h1.size; have : k < w.heap.size := hk; show k < w1.heap.size; omega)
set_option maxRecDepth 100000 in
set_option maxHeartbeats 8000000 in
theorem room_law (c : Int) (v0 : Value) (L : Files) (n : Bs) (v : Value) (b : Bs) (w : World) (h : FilesAt w (elder w) v0 L) (hL : L.length ≤ 4000000000000) (hb : ∀ n b, (n, b) ∈ L → n.length ≤ 9223372036854775807 ∧ b.length ≤ 140737488355328) (hs : costs L ≤ 4611686018427387904)
    (hn : n.length ≤ 1048576) (hv : BytesAt w (elder w) v b) (hbl : b.length ≤ 1048576) :
    Calls Try.prog 5 #[.int .i64 c, v0, .string (SL n), v] w fun e w' => e = .returned (.bool true) ∧ Below w.heap.size w w' := by
  have hA := awake_any w
  have hB := fun (W : World) (hW : Below w.heap.size w W) => both_any c v0 L W (h.later hW) hL hb hs
  have HV := Lib.hid (fun (W1 W2 : World) h1 h2 => hv.later (w1 := W1) (w2 := W2) h1 h2)
  obtain ⟨ao, cap, rfl⟩ : ∃ ao cap, v = .slice ao b.length cap := by
    obtain ⟨ao, cap, B, off, e, _⟩ := hv
    exact ⟨ao, cap, e⟩
  obtain ⟨K, hK⟩ : ∃ K, K = b.length := ⟨_, rfl⟩
  rw [← hK] at HV ⊢
  have HB := Lib.hid hB
  have HK := Lib.hid hK
  have hcat := SL_shadow n
  have hss : (SL n).size = n.length := SL_size n
  have h1s : (⟨#[126]⟩ : ByteArray).size = 1 := rfl
  clear hB h hb hs hv hK
  go_enter Try.func5, Try.ntmps5
  go_wp2_with (first | (go_at_call 9; refine hA.mono ?_; rintro e w1 ⟨rfl, b1⟩; have B1 := Lib.hid b1; clear b1) | (go_at_call 10; fail))
  refine (HB.out w1 B1.out).mono ?_
  rintro e w2 (⟨rfl, b2⟩ | ⟨p, q, C, rfl, hT, hG, hC, hN, _⟩)
  · have B2 := Lib.hid (B1.out.trans (b2.mono B1.out.size))
    clear b2 HB
    go_wp2
    go_ret
    exact ⟨rfl, B2.out⟩
  · obtain ⟨Fd, Fr, hP⟩ := hT
    have hO := hP.elder
    obtain ⟨S, hS⟩ : ∃ S, S = loadS L C := ⟨_, rfl⟩
    have hdark : S.dark = false := by rw [hS]; rfl
    have hleft : S.left = -1 := by rw [hS]; rfl
    have hdone : S.done = 0 := by rw [hS]; rfl
    have hcap : S.cap ≤ 1048575 := by rw [hS]; exact hC
    rw [← hS] at hO hG hN
    have hB2 : Below w.heap.size w w2 := B1.out.trans (hP.old.mono B1.out.size)
    have hbv := HV.out w1 w2 B1.out hB2
    have hrem := hO.remove hG (by omega) (shadowN n)
    obtain ⟨y, hy⟩ : ∃ y, y = removeS S (shadowN n) := ⟨_, rfl⟩
    have hgT : Good y.2 := by rw [hy]; exact hG.remove _
    have hdT : y.2.done ≤ 1 := by have := remove_done S (shadowN n); rw [hy]; omega
    have hcT : y.2.cap ≤ 1048575 := by rw [hy, remove_cap]; exact hcap
    have hsays := room_says (T := y.2) (b := b) hG hdark hleft (by rw [hy])
    rw [← hy] at hrem
    obtain ⟨z0, hz0⟩ : ∃ z, z = y.1 := ⟨_, rfl⟩
    obtain ⟨T, hTT⟩ : ∃ T, T = y.2 := ⟨_, rfl⟩
    rw [← hTT] at hsays hgT hdT hcT
    have hsv := fun (W : World) (h : One w1 (elder w1) W p T) => save_any h hgT (by omega) n b (by omega) _ (hO.bytes h hbv) (by omega)
    have hfree := fun (W : World) (h : One w1 (elder w1) W p T) => h.free
    obtain ⟨x, hx⟩ : ∃ x, x = T.free := ⟨_, rfl⟩
    rw [hgT.free_in.2.2, ← hx] at hfree
    obtain ⟨r, hr⟩ : ∃ r, r = saveS T n b := ⟨_, rfl⟩
    have hgr : Good r.2 := by rw [hr]; exact hgT.save
    rw [← hr] at hsays hsv
    rw [← hx, ← HK.out] at hsays
    have hneed := fun W => need_any n (K : Int) W
    rw [needI_nat (by omega) (by have := HK.out; omega)] at hneed
    obtain ⟨y2, hy2⟩ : ∃ y, y = needS n K := ⟨_, rfl⟩
    rw [← hy2] at hneed hsays
    have HREM := Lib.hid hrem
    have HTT := Lib.hid hTT
    have HSV := Lib.hid hsv
    have HFR := Lib.hid hfree
    have HND := Lib.hid hneed
    have HO := Lib.hid hO
    have HB2 := Lib.hid hB2
    clear hrem hTT hsv hfree hneed hO hB2 hbv hP hy hz0 hx hr hy2 hS hN HB hA hG hdark hleft hdone hcap
    go_wp2_with (first
      | (go_at_call 13; refine HREM.out.mono ?_; rintro e w3 ⟨rfl, h3⟩; rw [← HTT.out] at h3; have H3 := Lib.hid h3; clear h3)
      | (go_at_call 34; refine (HFR.out _ H3.out).mono ?_; rintro e w' ⟨rfl, rfl⟩)
      | (go_at_call 21; fail))
    refine (HSV.out _ H3.out).mono ?_
    rintro e w4 ⟨rfl, h4⟩
    have H4 := Lib.hid h4
    have HE4 := Lib.hid ((B1.out.trans (h4.old.mono B1.out.size)))
    clear h4 HSV HFR HREM
    rcases hsays with k1 | ⟨k1, k2, k3, k4, k5⟩ | ⟨k1, k2, k3⟩
    · rw [k1]
      go_wp2
      go_ret
      exact ⟨rfl, HE4.out⟩
    · rw [k1]
      have hrd := H4.out.read hgr n
      have hreads : readS r.2 n = (0, b) := by unfold readS; rw [k5, if_neg (by simp), k3]
      rw [hreads] at hrd
      have hff := hgr.free_in
      obtain ⟨fr, hfr⟩ : ∃ f, f = r.2.free := ⟨_, rfl⟩
      rw [← hfr] at hff
      have hfree4 := fun (W : World) (h : One w1 (elder w1) W p r.2) => h.free
      rw [← hfr, hff.2.2] at hfree4
      have hhas4 := fun (W : World) (h : One w1 (elder w1) W p r.2) => h.has (shadowN n) (by rw [shadow_length]; unfold maxLen; omega)
      rw [k4] at hhas4
      have HRD := Lib.hid hrd
      have HF4 := Lib.hid hfree4
      have HH4 := Lib.hid hhas4
      have hf0 : fr ≥ 0 := hff.1
      have hxy : x ≥ y2 := k2
      clear hrd hfree4 hhas4 hfr hff k1 k2 k3 k4 hreads
      go_wp2_with (go_at_call 30; fail)
      refine HRD.out.mono ?_
      rintro e w5 ⟨v5, rfl, hown, hb5⟩
      have hB5 : Below w.heap.size w w5 := HE4.out.trans (hb5.mono HE4.out.size)
      have hcv := (HV.out w1 w5 B1.out hB5).text
      obtain ⟨ao5, cap5, B5, rfl, s5, _⟩ := src_of_own hown
      have hcv5 := convert_src s5
      rw [← HK.out] at hcv5 ⊢
      have H5 := Lib.hid (H4.out.below hb5)
      have HE5 := Lib.hid hB5
      clear hown hb5 s5 hB5 HRD
      go_wp2_with (first
        | (go_at_call 28; refine (HND.out _).mono ?_; rintro e w' ⟨rfl, rfl⟩)
        | (go_at_call 34; refine (HF4.out _ H5.out).mono ?_; rintro e w' ⟨rfl, rfl⟩)
        | (go_at_call 33; refine (HH4.out _ H5.out).mono ?_; rintro e w' ⟨rfl, rfl⟩))
      go_ret
      exact ⟨rfl, HE5.out⟩
    · rw [k1]
      have hff := hgr.free_in
      have hfree4 := fun (W : World) (h : One w1 (elder w1) W p r.2) => h.free
      rw [hff.2.2, k3] at hfree4
      have HF4 := Lib.hid hfree4
      clear hfree4 hff k3
      go_wp2_with (first
        | (go_at_call 28; refine (HND.out _).mono ?_; rintro e w' ⟨rfl, rfl⟩)
        | (go_at_call 34; refine (HF4.out _ H4.out).mono ?_; rintro e w' ⟨rfl, rfl⟩))
      go_ret
      exact ⟨rfl, HE4.out⟩
end Go.Proofs.Ythibhkoneajffaa
