/- SafeCut. -/
import Derived.Test.YthibhkoneajffaaSafeOver
namespace Go.Proofs.Ythibhkoneajffaa
open Go.RowKit
theorem readS_of {S T : St} {n : Bs} (h : findF n S.fs = findF n T.fs) : readS S n = readS T n := by unfold readS; rw [h]
theorem readS_some {S : St} {n b : Bs} (hn : named n = true) (h : findF n S.fs = some b) : readS S n = (0, b) := by unfold readS; rw [hn, if_neg (by simp), h]
theorem readS_err {S : St} {n : Bs} (hn : named n = true) : (readS S n).1 = 0 ∨ (readS S n).1 = 3 := by
  unfold readS
  rw [hn, if_neg (by simp)]
  cases findF n S.fs with
  | none => exact .inr rfl
  | some _ => exact .inl rfl
/-- A Save that is cut, the power on again, a Sweep. -/
theorem cut_says {S T : St} {n b : Bs} {c : Nat} {r : Int × St} (hg : Good S) (hd : S.dark = false) (hN : AllNamed S) (hs : savable n) (hc : c ≤ 255) (hT : T = (cutS S (c : Int)).2) (hr : r = saveS T n b) :
    ((r.1 = 0 ∧ r.2.dark = false ∧ readS (onS r.2) n = (0, b)) ∨ (r.1 = 4 ∧ r.2.dark = false ∧ readS (onS r.2) n = readS S n) ∨ (r.1 = 5 ∧ r.2.dark = true ∧ readS (onS r.2) n = readS S n)) ∧
    others n (onS r.2).fs = others n S.fs ∧ (sweepS (onS r.2)).1 = 0 ∧ thereF (shadowN n) (sweepS (onS r.2)).2.fs = false ∧ readS (sweepS (onS r.2)).2 n = readS (onS r.2) n := by
  obtain ⟨h1, h2, h3⟩ := hs
  have hn' := named_of_shadow h1 h2
  have hgT : Good T := by rw [hT]; exact hg.cut (by omega)
  have hTf : T.fs = S.fs := by
    rw [hT]; unfold cutS
    split
    · rfl
    · split <;> rfl
  have hTd : T.dark = false := by
    rw [hT]; unfold cutS
    rw [if_neg (by omega), if_neg (by simp [hd])]
    exact hd
  have hgr : Good r.2 := by rw [hr]; exact hgT.save
  have hgV : Good (onS r.2) := hgr.on
  have hVf : (onS r.2).fs = r.2.fs := rfl
  have hmain : ((r.1 = 0 ∧ r.2.dark = false ∧ findF n r.2.fs = some b) ∨ (r.1 = 4 ∧ r.2.dark = false ∧ findF n r.2.fs = findF n S.fs) ∨ (r.1 = 5 ∧ r.2.dark = true ∧ findF n r.2.fs = findF n S.fs)) ∧ ∀ m, m ≠ n → m ≠ shadowN n → findF m r.2.fs = findF m S.fs := by
    rw [hr]
    rcases save_says (b := b) h1 hn' h3 hgT hTd with ⟨k1, _, k3, _, _, k6⟩ | ⟨k1, _, k3, _, k5⟩ | k
    · rw [hTf] at k6
      exact ⟨.inl ⟨k1, k3, by rw [k6, findF_put_same]⟩, fun m a1 a2 => by rw [k6, findF_put_other _ a1, findF_del_other a2]⟩
    · rw [hTf] at k5
      exact ⟨.inr (.inl ⟨k1, k3, by rw [k5, findF_del_other (fun e => shadow_ne n e.symm)]⟩), fun m a1 a2 => by rw [k5, findF_del_other a2]⟩
    · have ko := k.other
      rw [hTf] at ko
      exact ⟨.inr (.inr ⟨k.err, k.dark, ko n (fun e => shadow_ne n e.symm)⟩), fun m _ a2 => ko m a2⟩
  obtain ⟨hm1, hm2⟩ := hmain
  have hNV : AllNamed (onS r.2) := fun m c hmc => by
    rw [hVf] at hmc
    by_cases e1 : m = n
    · rw [e1]; exact hn'
    · by_cases e2 : m = shadowN n
      · rw [e2]; exact h1
      · rw [hm2 m e1 e2] at hmc
        exact hN m c hmc
  obtain ⟨s1, _, _, s4⟩ := sweep_says hgV rfl rfl hNV
  refine ⟨?_, others_eq hgV.rise hg.rise (fun m a1 a2 => hm2 m a1 a2), s1, ?_, ?_⟩
  · rcases hm1 with ⟨k1, k2, k3⟩ | ⟨k1, k2, k3⟩ | ⟨k1, k2, k3⟩
    · exact .inl ⟨k1, k2, readS_some hn' k3⟩
    · exact .inr (.inl ⟨k1, k2, readS_of k3⟩)
    · exact .inr (.inr ⟨k1, k2, readS_of k3⟩)
  · unfold thereF
    rw [s4, marked_shadow, if_pos rfl]
    rfl
  · refine readS_of ?_
    rw [s4, h3, if_neg (by simp)]
/-- Read, its answer as a slice in new memory. -/
theorem One.reads {w0 w : World} {Z : Nat → Prop} {p : Nat} {S : St} (h : One w0 Z w p S) (hg : Good S) (n : Bs) : Calls Try.prog 30 #[ptr p, .string (SL n)] w fun e w' => ∃ ao cap, e = .returned (.tuple #[.slice ao (readS S n).2.length cap, err (readS S n).1]) ∧ BytesAt w' (fun k => w.heap.size ≤ k ∧ k < w'.heap.size) (.slice ao (readS S n).2.length cap) (readS S n).2 ∧ Below w.heap.size w w' := by
  refine (h.read hg n).mono ?_
  rintro e w' ⟨v, he, hown, hb⟩
  have hB := BytesAt.of_own (F := fun k => w.heap.size ≤ k ∧ k < w'.heap.size) hown (fun g hg => hown.lt g hg)
  obtain ⟨ao, cap, B, off, rfl, h2, h3⟩ := hB
  exact ⟨ao, cap, he, ⟨ao, cap, B, off, rfl, h2, h3⟩, hb⟩
set_option maxRecDepth 100000 in
set_option maxHeartbeats 40000000 in
theorem cut_law (c : Int) (v0 : Value) (L : Files) (n : Bs) (v : Value) (b : Bs) (cc : Int) (w : World) (h : FilesAt w (elder w) v0 L) (hL : L.length ≤ 4000000000000) (hb : ∀ n b, (n, b) ∈ L → n.length ≤ 9223372036854775807 ∧ b.length ≤ 140737488355328) (hs : costs L ≤ 4611686018427387904)
    (hn : n.length ≤ 1048576) (hv : BytesAt w (elder w) v b) (hbl : b.length ≤ 1048576) :
    Calls Try.prog 4 #[.int .i64 c, v0, .string (SL n), v, .int .i64 cc] w fun e w' => e = .returned (.bool true) ∧ Below w.heap.size w w' := by
  have hA := awake_any w
  have hB := fun (W : World) (hW : Below w.heap.size w W) => both_any c v0 L W (h.later hW) hL hb hs
  have HV := Lib.hid (fun (W1 W2 : World) h1 h2 => hv.later (w1 := W1) (w2 := W2) h1 h2)
  obtain ⟨ao, cap, rfl⟩ : ∃ ao cap, v = .slice ao b.length cap := by
    obtain ⟨ao, cap, B, off, e, _⟩ := hv
    exact ⟨ao, cap, e⟩
  obtain ⟨K, hK⟩ : ∃ K, K = b.length := ⟨_, rfl⟩
  rw [← hK] at HV ⊢
  have HB := Lib.hid hB
  have HK := Lib.hid hK
  have hcat := SL_shadow n
  have hss : (SL n).size = n.length := SL_size n
  have h1s : (⟨#[126]⟩ : ByteArray).size = 1 := rfl
  obtain ⟨ct, hct, hand⟩ := and_mask cc 255 (by omega)
  have hand2 : bits BinOp.and IntKind.i64 cc 255 = (ct : Int) := hand
  clear hB h hb hs hv hK hand
  go_enter Try.func4, Try.ntmps4
  go_wp2_with (first | (go_at_call 9; refine hA.mono ?_; rintro e w1 ⟨rfl, b1⟩; have B1 := Lib.hid b1; clear b1) | (go_at_call 10; fail))
  refine (HB.out w1 B1.out).mono ?_
  rintro e w2 (⟨rfl, b2⟩ | ⟨p, q, C, rfl, hT, hG, hC, hN, _⟩)
  · have B2 := Lib.hid (B1.out.trans (b2.mono B1.out.size))
    clear b2 HB
    go_wp2
    go_ret
    exact ⟨rfl, B2.out⟩
  · obtain ⟨Fd, Fr, hP⟩ := hT
    have hO := hP.elder
    obtain ⟨S, hS⟩ : ∃ S, S = loadS L C := ⟨_, rfl⟩
    have hdark : S.dark = false := by rw [hS]; rfl
    have hdone : S.done = 0 := by rw [hS]; rfl
    have hcap : S.cap ≤ 1048575 := by rw [hS]; exact hC
    rw [← hS] at hO hG hN
    have hB2 : Below w.heap.size w w2 := B1.out.trans (hP.old.mono B1.out.size)
    have hrd := hO.reads hG n
    obtain ⟨y, hy⟩ : ∃ y, y = (readS S n).1 := ⟨_, rfl⟩
    obtain ⟨O, hOl⟩ : ∃ O, O = (readS S n).2 := ⟨_, rfl⟩
    obtain ⟨KO, hKO⟩ : ∃ K, K = O.length := ⟨_, rfl⟩
    rw [← hy, ← hOl, ← hKO] at hrd
    have HO := Lib.hid hO
    have HB2 := Lib.hid hB2
    have HY := Lib.hid hy
    have HOL := Lib.hid hOl
    have HRD := Lib.hid hrd
    have HKO := Lib.hid hKO
    clear hO hB2 hP hS HB hA hrd hy hOl hKO
    go_wp2_with (first
      | (go_at_call 30; refine HRD.out.mono ?_; rintro e w3 ⟨ao3, cap3, rfl, h3, b3⟩; have H3 := Lib.hid (HO.out.below b3); have V3 := Lib.hid h3; have B3 := Lib.hid b3; clear h3 b3)
      | (go_at_call 26; refine (H3.out.files hG).mono ?_; rintro e w4 ⟨v4, rfl, h4, b4⟩; have HSH := Lib.hid (One.shadowed hG n (by omega) h4 b4 H3.out); clear h4 b4)
      | (go_at_call 31; fail))
    refine HSH.out.mono ?_
    rintro e w5 ⟨v5, rfl, h5, b5⟩
    have hb25 : Below w2.heap.size w2 w5 := B3.out.trans (b5.mono B3.out.size)
    have hsnap := HO.out.snap hb25
    have hB5 : Below w.heap.size w w5 := HB2.out.trans (hb25.mono HB2.out.size)
    have hs3 := B3.out.size
    have hs5 := b5.size
    obtain ⟨Z, hZ⟩ : ∃ Z : Nat → Prop, Z = fun k => elder w1 k ∨ (w2.heap.size ≤ k ∧ k < w5.heap.size) := ⟨_, rfl⟩
    rw [← hZ] at hsnap
    have hfl : FilesAt w5 Z v5 (others n S.fs) := h5.mono (fun k _ hk => by rw [hZ]; exact .inr ⟨by omega, hk.2⟩)
    have hbo : BytesAt w5 Z (.slice ao3 KO cap3) O := (V3.out.turn (Turn.of_below (fun _ => False) b5) (fun _ _ h => h)).mono (fun k _ hk => by rw [hZ]; exact .inr ⟨hk.1, by omega⟩)
    have hbb : BytesAt w5 Z (.slice ao K cap) b := (HV.out w1 w5 B1.out hB5).mono (fun k _ hk => by rw [hZ]; exact .inl hk)
    have hback := fun (w6 : World) (T : St) (h : One w5 Z w6 p T) => HO.out.back hb25 (by rw [hZ] at h; exact h)
    have hcut := hsnap.cut (ct : Int) (by omega)
    obtain ⟨T, hT⟩ : ∃ T, T = (cutS S (ct : Int)).2 := ⟨_, rfl⟩
    have hcut1 : (cutS S (ct : Int)).1 = 0 := by unfold cutS; rw [if_neg (by omega)]
    have hgT : Good T := by rw [hT]; exact hG.cut (by omega)
    have hdT : T.done ≤ 0 := by rw [hT]; have := cut_done S (ct : Int); omega
    have hcT : T.cap ≤ 1048575 := by rw [hT, cut_cap]; exact hcap
    have hcut' : Calls Try.prog 17 #[ptr p, .int .i64 (ct : Int)] w5 fun e w' => e = .returned (err 0) ∧ One w5 Z w' p T := by
      refine hcut.mono ?_
      rintro e w' ⟨he, h'⟩
      rw [hcut1] at he
      rw [← hT] at h'
      exact ⟨he, h'⟩
    obtain ⟨r, hr⟩ : ∃ r, r = saveS T n b := ⟨_, rfl⟩
    have hgr : Good r.2 := by rw [hr]; exact hgT.save
    have hdr : r.2.done ≤ 1048585 := by
      have := save_done (S := T) (n := n) (b := b)
      rw [hr]
      omega
    have hcr : r.2.cap ≤ 1048575 := by rw [hr, save_cap]; exact hcT
    have hsv := fun (W : World) (h : One w5 Z W p T) => save_any h hgT (by omega) n b (by omega) _ (hsnap.bytes h hbb) (by omega)
    rw [← hr] at hsv
    have hsays := fun (hs : savable n) => cut_says (b := b) hG hdark hN hs hct hT hr
    have hbad : ¬ savable n → r.1 = 1 := fun hs => by rw [hr, save_err hs]
    have HC := Lib.hid hcut'
    have HSV := Lib.hid hsv
    have HF := Lib.hid hfl
    have HBK := Lib.hid hback
    have HBO := Lib.hid (fun (W : World) (U : St) (h : One w5 Z W p U) => hsnap.bytes h hbo)
    have HBB := Lib.hid (fun (W : World) (U : St) (h : One w5 Z W p U) => hsnap.bytes h hbb)
    clear hcut hcut' hsv hfl hback hbo hbb hsnap hZ h5 b5 hb25 hB5 HSH V3 H3 B3 hr hT hcut1 hN hdark hdone hcap hcT hdT hs3 hs5
    go_wp2_with (first
      | (go_at_call 17; refine HC.out.mono ?_; rintro e w6 ⟨rfl, h6⟩; have H6 := Lib.hid h6; clear h6)
      | (go_at_call 21; fail))
    refine (HSV.out _ H6.out).mono ?_
    rintro e w7 ⟨rfl, h7⟩
    have H7 := Lib.hid h7
    have HE7 := Lib.hid (B1.out.trans ((HBK.out _ _ h7).old.mono B1.out.size))
    clear h7 HSV HC H6
    by_cases hs : savable n
    · obtain ⟨hc3, ho, hsw, hth, hrw⟩ := hsays hs
      have hny := readS_err (S := S) (named_of_shadow hs.1 hs.2.1)
      rw [← HY.out] at hny
      have hgV : Good (onS r.2) := hgr.on
      have hdV : (onS r.2).done + (onS r.2).cap ≤ 1000000000000 := by show r.2.done + r.2.cap ≤ _; omega
      have hon := fun (W : World) (h : One w5 Z W p r.2) => h.on
      obtain ⟨V, hVV⟩ : ∃ V, V = onS r.2 := ⟨_, rfl⟩
      rw [← hVV] at hc3 ho hsw hth hrw hgV hdV hon
      have hrv := fun (W0 : World) (Y : Nat → Prop) (W : World) (h : One W0 Y W p V) => h.reads hgV n
      have hswp := fun (W0 : World) (Y : Nat → Prop) (W : World) (h : One W0 Y W p V) => sweep_any h hgV hdV
      obtain ⟨x, hx⟩ : ∃ x, x = (readS V n).1 := ⟨_, rfl⟩
      obtain ⟨Nw, hNw⟩ : ∃ l, l = (readS V n).2 := ⟨_, rfl⟩
      obtain ⟨KN, hKN⟩ : ∃ K, K = Nw.length := ⟨_, rfl⟩
      obtain ⟨s, hss2⟩ : ∃ s, s = sweepS V := ⟨_, rfl⟩
      have hgs : Good s.2 := by rw [hss2]; exact Good.sweep hgV
      rw [← hss2] at hsw hth hrw hswp
      have hrl := fun (W0 : World) (Y : Nat → Prop) (W : World) (h : One W0 Y W p s.2) => h.reads hgs n
      rw [hrw] at hrl
      rw [← hx, ← hNw, ← hKN] at hrv hrl
      have hhas := fun (W0 : World) (Y : Nat → Prop) (W : World) (h : One W0 Y W p s.2) => h.has (shadowN n) (by rw [shadow_length]; unfold maxLen; omega)
      rw [hth] at hhas
      have hcase : (r.1 = 0 ∧ r.2.dark = false ∧ x = 0 ∧ Nw = b ∧ KN = K) ∨ (r.1 = 4 ∧ r.2.dark = false ∧ x = y ∧ Nw = O ∧ KN = KO) ∨ (r.1 = 5 ∧ r.2.dark = true ∧ x = y ∧ Nw = O ∧ KN = KO) := by
        rcases hc3 with ⟨k1, k2, k3⟩ | ⟨k1, k2, k3⟩ | ⟨k1, k2, k3⟩
        · have e1 : x = 0 := by rw [hx, k3]
          have e2 : Nw = b := by rw [hNw, k3]
          exact .inl ⟨k1, k2, e1, e2, by rw [hKN, e2, HK.out]⟩
        · have e2 : Nw = O := by rw [hNw, k3, HOL.out]
          exact .inr (.inl ⟨k1, k2, by rw [hx, k3, HY.out], e2, by rw [hKN, e2, HKO.out]⟩)
        · have e2 : Nw = O := by rw [hNw, k3, HOL.out]
          exact .inr (.inr ⟨k1, k2, by rw [hx, k3, HY.out], e2, by rw [hKN, e2, HKO.out]⟩)
      have ln := SL_toList b
      have lo := SL_toList O
      have HON := Lib.hid hon
      have HRV := Lib.hid hrv
      have HSW := Lib.hid hswp
      have HRL := Lib.hid hrl
      have HHS := Lib.hid hhas
      have HO2 := Lib.hid ho
      have HSW1 := Lib.hid hsw
      have hln := (show (others n S.fs).length ≤ 140737488355328 by unfold others; have h1 := List.length_filter_le (fun f : Bs × Bs => !(f.1 == n) && !(f.1 == shadowN n)) S.fs; have h2 := hG.dumps.1; omega)
      have HLN := Lib.hid hln
      clear hon hrv hswp hrl hhas ho hsw hth hrw hc3 hss2 hx hNw hKN hVV hsays hbad hln HRD HY HOL HKO HO hdV hdr hcr
      obtain ⟨t, ht⟩ : ∃ t, t = (b == O) := ⟨_, rfl⟩
      obtain ⟨u, hu⟩ : ∃ u, u = (O == b) := ⟨_, rfl⟩
      have ht2 := ht.symm
      have hu2 := hu.symm
      clear ht hu
      rcases hcase with ⟨k1, k2, rfl, rfl, rfl⟩ | ⟨k1, k2, rfl, rfl, rfl⟩ | ⟨k1, k2, rfl, rfl, rfl⟩
      all_goals rcases hny with rfl | rfl
      all_goals cases t <;> cases u
      all_goals rw [k1]
      all_goals
        go_wp2_with (first
          | (go_at_call 32; refine H7.out.off.mono ?_; rintro e w' ⟨rfl, rfl⟩; rw [k2])
          | (go_at_call 19; refine (HON.out _ H7.out).mono ?_; rintro e w8 ⟨rfl, h8⟩; have H8 := Lib.hid h8; clear h8)
          | (go_at_call 30; fail))
        refine (HRV.out _ _ _ H8.out).mono ?_
        rintro e w9 ⟨ao9, cap9, rfl, hbn, b9⟩
        have hcvN := hbn.text
        have hcvO := ((HBO.out w8 V H8.out).turn (Turn.of_below (fun _ => False) b9) (fun _ _ h => h)).text
        have hcvB := ((HBB.out w8 V H8.out).turn (Turn.of_below (fun _ => False) b9) (fun _ _ h => h)).text
        have H9 := Lib.hid (H8.out.snap b9)
        have F9 := Lib.hid ((HF.out.turn H8.out.turned (fun k hk h => h hk)).turn (Turn.of_below (fun _ => False) b9) (fun _ _ h => h))
        have N9 := Lib.hid hbn
        have B9 := Lib.hid b9
        clear hbn b9
        go_wp2_with (first
          | (go_at_call 26; refine (H9.out.files hgV).mono ?_; rintro e w10 ⟨v10, rfl, h10, b10⟩; have HSH10 := Lib.hid (One.shadowed hgV n (by omega) h10 b10 H9.out); clear h10 b10)
          | (go_at_call 31; refine HSH10.out.mono ?_; rintro e w11 ⟨v11, rfl, h11, b11⟩; have F11 := Lib.hid h11; have G11 := Lib.hid (F9.out.turn (Turn.of_below (fun _ => False) b11) (fun _ _ h => h)); have B11 := Lib.hid b11; clear h11 b11)
          | (go_at_call 24; refine (sameFiles_any _ _ v5 v11 _ _ w11 G11.out F11.out HLN.out).mono ?_; rintro e w12 ⟨rfl, b12⟩; rw [decide_eq_true HO2.out.symm]; have H12 := Lib.hid (H9.out.below (B11.out.trans (b12.mono B11.out.size))); clear b12)
          | (go_at_call 15; refine (HSW.out _ _ _ H12.out).mono ?_; rintro e w13 ⟨rfl, h13⟩; rw [HSW1.out]; have H13 := Lib.hid h13; clear h13)
          | (go_at_call 33; refine (HHS.out _ _ _ H13.out).mono ?_; rintro e w' ⟨rfl, rfl⟩)
          | (go_at_call 30; fail))
        refine (HRL.out _ _ _ H13.out).mono ?_
        rintro e w14 ⟨ao14, cap14, rfl, hbl14, b14⟩
        have hcvL := hbl14.text
        have hcvM := ((H9.out.bytes H13.out (N9.out.mono (fun k _ hk => .inr hk))).turn (Turn.of_below (fun _ => False) b14) (fun _ _ h => h)).text
        have hold := (HBK.out _ _ (H8.out.back B9.out H13.out)).old
        have HE := Lib.hid ((B1.out.trans (hold.mono B1.out.size)).trans (b14.mono (by have h1 := B1.out.size; have h2 := hold.size; omega)))
        clear hbl14 b14 hold
        go_wp2
        go_ret
        exact ⟨rfl, HE.out⟩
    · have hr1 := hbad hs
      rw [hr1]
      clear hsays hbad
      go_wp2
      go_ret
      exact ⟨rfl, HE7.out⟩
end Go.Proofs.Ythibhkoneajffaa
