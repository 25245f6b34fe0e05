/- What the proofs stand on: LoosePut, LooseAll. -/
import Derived.Test.YtomgijcbekjlaaaGreatQ32
import Derived.Test.YtomgijcbekjlaaaGreatQ35
import Derived.Test.YtomgijcbekjlaaaGreatQ33
import Derived.Test.YtomgijcbekjlaaaGreatQ17
namespace Go.Proofs.YtomgijcbekjlaaaGreat
open Go.RowKit
theorem got_cases (fs : Files) (id : Bs) (h : id.length = 32) : getL fs id = (6, []) ∨ getL fs id = (2, []) ∨ ((getL fs id).1 = 0 ∧ (getL fs id).2.length ≤ 2097152) := by
  cases hf : findF (nameL id) fs with
  | none => exact .inl (getL_none h hf)
  | some b =>
    rw [getL_some h hf]
    rcases tellL_cases id b with ⟨h1, h2⟩ | ⟨h1, h2, _⟩
    · exact .inr (.inl (Prod.ext h1 h2))
    · exact .inr (.inr ⟨h1, by have := opened_le h2; omega⟩)
/-- What keep does. -/
def keepL (S : St) (id raw : Bs) : Int × St := if (getL S.fs id).1 = 0 then (if (getL S.fs id).2 = raw then (0, S) else (7, S)) else if (getL S.fs id).1 = 2 then (2, S) else saveS S (nameL id) (pressL raw)
theorem put_keep {S : St} {raw : Bs} {o : ObjR} (h : decO raw = some o) : putL S raw = if (keepL S (sumL raw) raw).1 = 0 then (0, sumL raw, (keepL S (sumL raw) raw).2) else ((keepL S (sumL raw) raw).1, [], (keepL S (sumL raw) raw).2) := by
  unfold putL keepL
  rw [if_pos (by rw [h]; rfl)]
  by_cases h0 : (getL S.fs (sumL raw)).1 = 0
  · rw [if_pos h0, if_pos h0]
    by_cases h1 : (getL S.fs (sumL raw)).2 = raw
    · rw [if_pos h1, if_pos h1, if_pos rfl]
    · rw [if_neg h1, if_neg h1, if_neg (show ¬ (7 : Int) = 0 by decide)]
  · rw [if_neg h0, if_neg h0]
    by_cases h2 : (getL S.fs (sumL raw)).1 = 2
    · rw [if_pos h2, if_pos h2, if_neg (show ¬ (2 : Int) = 0 by decide)]
    · rw [if_neg h2, if_neg h2]
set_option maxRecDepth 100000 in
set_option maxHeartbeats 3200000 in
theorem looseKeep_any {w0 w : World} {Z : Nat → Prop} {p : Nat} {S : St} (h : One w0 Z w p S) (hg : Good S) (hb : S.done + S.cap + 10 ≤ 4000000000000000) (v : Value) (id raw : Bs) (h32 : id.length = 32) (hv : BytesAt w Z v raw) (hl : raw.length ≤ 140737488351232) :
    Calls Tryz.prog 55 #[ptr p, .string (SL id), v] w (OneTo w0 Z p (keepL S id raw)) := by
  have hge := looseGet_any w0 w Z p S id h hg (by omega)
  have hcase := got_cases S.fs id h32
  obtain ⟨ao, cap, B, off, rfl, hs, hB⟩ := hv
  have hpr := fun (W : World) (hb : Below w.heap.size w W) => press_any ao cap raw B off W (hs.below hb) (by omega)
  have hnm := fun (W : World) => looseName_any id W (by omega)
  obtain ⟨n, hn⟩ : ∃ n, n = raw.length := ⟨_, rfl⟩
  rw [← hn] at hpr ⊢
  unfold keepL
  obtain ⟨r, hr⟩ : ∃ r, r = getL S.fs id := ⟨_, rfl⟩
  rw [← hr] at hge hcase ⊢
  have HH := Lib.hid h
  have HG := Lib.hid hg
  have HDN := Lib.hid hb
  have HGE := Lib.hid hge
  have HPR := Lib.hid hpr
  have HNM := Lib.hid hnm
  have HS := Lib.hid hs
  have HHN := Lib.hid hn
  have HL := Lib.hid hl
  have H32 := Lib.hid h32
  clear h hg hb hge hpr hnm hs hB hn hl h32 hr
  rcases hcase with hc | hc | ⟨hc, hcl⟩
  · obtain rfl := hc
    rw [if_neg (by decide), if_neg (by decide)]
    obtain ⟨sv, hsv⟩ : ∃ x, x = saveS S (nameL id) (pressL raw) := ⟨_, rfl⟩
    rw [← hsv]
    have HSV := Lib.hid hsv
    clear hsv
    go_enter Tryz.func55, Tryz.ntmps55
    go_wp2_with fail
    refine HGE.out.mono ?_
    rintro e w1 ⟨a1, c1, g1, o1, rfl, s1, n1, b1⟩
    have B1 := Lib.hid b1
    clear b1 s1 n1
    go_wp2_with fail
    refine (HNM.out w1).mono ?_
    rintro e w2 ⟨rfl, b2⟩
    have B2 := Lib.hid (B1.out.trans (b2.mono B1.out.size))
    have hpr := HPR.out w2 B2.out
    have HPR2 := Lib.hid hpr
    clear b2 hpr
    go_wp2_with fail
    refine HPR2.out.mono ?_
    rintro e w3 ⟨v3, rfl, o3, b3⟩
    obtain ⟨a3, c3, g3, rfl, s3, n3⟩ := src_of_own o3
    have H2 := HH.out.below B2.out
    have H3 := H2.snap b3
    have hsave := save_any H3 HG.out HDN.out (nameL id) (pressL raw) (by have := H32.out; rw [nameL_length]; omega) (.slice a3 (pressL raw).length c3) ⟨a3, c3, g3, 0, rfl, s3, fun hp => .inr ⟨n3 hp, s3.old hp⟩⟩ (by have h1 := press_wide raw; have h2 := HL.out; omega)
    rw [← HSV.out] at hsave
    have HSA := Lib.hid hsave
    have B3 := Lib.hid b3
    have HH2 := Lib.hid H2
    obtain ⟨pl, hpl⟩ : ∃ n, n = (pressL raw).length := ⟨_, rfl⟩
    rw [← hpl] at HSA ⊢
    clear hsave H2 H3 b3 s3 n3 o3 hpl
    go_wp2_with fail
    refine HSA.out.mono ?_
    rintro e w4 ⟨rfl, h4⟩
    have H4 := Lib.hid (HH2.out.back B3.out h4)
    clear h4
    go_wp2_with fail
    go_ret
    exact ⟨rfl, H4.out⟩
  · obtain rfl := hc
    rw [if_neg (by decide), if_pos rfl]
    go_enter Tryz.func55, Tryz.ntmps55
    go_wp2_with fail
    refine HGE.out.mono ?_
    rintro e w1 ⟨a1, c1, g1, o1, rfl, s1, n1, b1⟩
    have B1 := Lib.hid b1
    clear b1 s1 n1
    go_wp2_with fail
    go_ret
    exact ⟨rfl, HH.out.below B1.out⟩
  · rw [if_pos hc]
    obtain ⟨r1, r2⟩ := r
    obtain rfl : r1 = 0 := hc
    obtain ⟨m, hm⟩ : ∃ m, m = r2.length := ⟨_, rfl⟩
    have HM := Lib.hid hm
    clear hm hcl
    by_cases he : r2 = raw
    · rw [if_pos he]
      go_enter Tryz.func55, Tryz.ntmps55
      go_wp2_with fail
      refine HGE.out.mono ?_
      rintro e w1 ⟨a1, c1, g1, o1, rfl, s1, n1, b1⟩
      have B1 := Lib.hid b1
      have heq := equal_any w1 s1 (HS.out.below b1)
      rw [decide_eq_true he, ← HHN.out, ← HM.out] at heq
      have HEQ := Lib.hid heq
      rw [← HM.out]
      clear b1 s1 n1 heq
      go_wp2_with fail
      refine HEQ.out.mono ?_
      rintro e w2 ⟨rfl, hw2⟩
      have hw2 := hw2.symm
      subst hw2
      go_wp2_with fail
      go_ret
      exact ⟨rfl, HH.out.below B1.out⟩
    · rw [if_neg he]
      go_enter Tryz.func55, Tryz.ntmps55
      go_wp2_with fail
      refine HGE.out.mono ?_
      rintro e w1 ⟨a1, c1, g1, o1, rfl, s1, n1, b1⟩
      have B1 := Lib.hid b1
      have heq := equal_any w1 s1 (HS.out.below b1)
      rw [decide_eq_false he, ← HHN.out, ← HM.out] at heq
      have HEQ := Lib.hid heq
      rw [← HM.out]
      clear b1 s1 n1 heq
      go_wp2_with fail
      refine HEQ.out.mono ?_
      rintro e w2 ⟨rfl, hw2⟩
      have hw2 := hw2.symm
      subst hw2
      go_wp2_with fail
      go_ret
      exact ⟨rfl, HH.out.below B1.out⟩
set_option maxRecDepth 100000 in
set_option maxHeartbeats 3200000 in
theorem loosePut_any : PutSpec := fun w0 w Z p S v raw h hg hb hv hl => by
  have hv0 := hv
  obtain ⟨ao, cap, B, off, rfl, hs, hB⟩ := hv
  have hde := decode_any ao cap B off raw w hs (by omega)
  obtain ⟨n, hn⟩ : ∃ n, n = raw.length := ⟨_, rfl⟩
  have HL := Lib.hid hl
  clear hl
  cases hdc : decO raw with
  | none =>
    have hp : putL S raw = (1, [], S) := by unfold putL; rw [hdc]; rfl
    rw [hp]
    rw [← hn] at hde ⊢
    have HD := Lib.hid hde
    have HH := Lib.hid h
    clear hde hs hB hp hn hg hb h hv0
    go_enter Tryz.func20, Tryz.ntmps20
    go_wp2_with fail
    refine HD.out.mono ?_
    rintro e w1 h1
    obtain ⟨K, z0, d1, d2, d3, n1, n2, n3, e1, e2, e3, t3, t5, t6, t7, t9, rfl, b1⟩ := dec_err_none hdc h1
    clear hdc h1
    obtain ⟨W1, hW1⟩ : ∃ W, W = w1.alloc (.cells #[.int .i64 K, .slice d1 n1 e1, .slice d2 n2 e2, .string (SL t3), .slice d3 n3 e3, .string (SL t5), .string (SL t6), .string (SL t7), .int .i64 z0, .string (SL t9)] 33) := ⟨_, rfl⟩
    have hb1 : Below w.heap.size w W1 := by rw [hW1]; exact b1.alloc b1.size _
    have HW1 := Lib.hid hW1
    have B1 := Lib.hid hb1
    clear b1 hb1 hW1
    go_wp2_with fail
    rw [← HW1.out]
    go_ret2
    exact ⟨rfl, HH.out.below B1.out⟩
  | some o =>
    rw [put_keep hdc]
    have hsu := fun (W : World) (hb : Below w.heap.size w W) => sum_src W (hs.below hb) (by have := HL.out; omega)
    have hke := fun (W : World) (hb2 : Below w.heap.size w W) => looseKeep_any (h.below hb2) hg hb (.slice ao raw.length cap) (sumL raw) raw (sumL_length raw) ⟨ao, cap, B, off, rfl, hs.below hb2, hB⟩ HL.out
    rw [← hn] at hde hsu hke ⊢
    obtain ⟨r, hr⟩ : ∃ r, r = keepL S (sumL raw) raw := ⟨_, rfl⟩
    obtain ⟨id, hid⟩ : ∃ x, x = sumL raw := ⟨_, rfl⟩
    rw [← hr] at hke ⊢
    rw [← hid] at hsu hke ⊢
    have HD := Lib.hid hde
    have HSU := Lib.hid hsu
    have HKE := Lib.hid hke
    clear hde hsu hke hr hid hn hs hB h hg hb hv0
    obtain ⟨z, S'⟩ := r
    by_cases hz : z = 0
    · subst hz
      rw [if_pos rfl]
      go_enter Tryz.func20, Tryz.ntmps20
      go_wp2_with fail
      refine HD.out.mono ?_
      rintro e w1 h1
      obtain ⟨K, z0, d1, d2, d3, n1, n2, n3, e1, e2, e3, t3, t5, t6, t7, t9, rfl, b1⟩ := dec_err_some hdc h1
      clear hdc h1
      obtain ⟨W1, hW1⟩ : ∃ W, W = w1.alloc (.cells #[.int .i64 K, .slice d1 n1 e1, .slice d2 n2 e2, .string (SL t3), .slice d3 n3 e3, .string (SL t5), .string (SL t6), .string (SL t7), .int .i64 z0, .string (SL t9)] 33) := ⟨_, rfl⟩
      have hb1 : Below w.heap.size w W1 := by rw [hW1]; exact b1.alloc b1.size _
      have HW1 := Lib.hid hW1
      have B1 := Lib.hid hb1
      clear b1 hb1 hW1
      go_wp2_with fail
      rw [← HW1.out]
      refine (HSU.out W1 B1.out).mono ?_
      rintro e w2 ⟨rfl, b2⟩
      have B2 := Lib.hid (B1.out.trans (b2.mono B1.out.size))
      clear b2
      go_wp2_with fail
      refine (HKE.out w2 B2.out).mono ?_
      rintro e w3 ⟨rfl, h3⟩
      go_wp2_with fail
      go_ret2
      exact ⟨rfl, h3⟩
    · rw [if_neg hz]
      have hz2 : (z != 0) = true := bne_iff_ne.2 hz
      go_enter Tryz.func20, Tryz.ntmps20
      go_wp2_with fail
      refine HD.out.mono ?_
      rintro e w1 h1
      obtain ⟨K, z0, d1, d2, d3, n1, n2, n3, e1, e2, e3, t3, t5, t6, t7, t9, rfl, b1⟩ := dec_err_some hdc h1
      clear hdc h1
      obtain ⟨W1, hW1⟩ : ∃ W, W = w1.alloc (.cells #[.int .i64 K, .slice d1 n1 e1, .slice d2 n2 e2, .string (SL t3), .slice d3 n3 e3, .string (SL t5), .string (SL t6), .string (SL t7), .int .i64 z0, .string (SL t9)] 33) := ⟨_, rfl⟩
      have hb1 : Below w.heap.size w W1 := by rw [hW1]; exact b1.alloc b1.size _
      have HW1 := Lib.hid hW1
      have B1 := Lib.hid hb1
      clear b1 hb1 hW1
      go_wp2_with fail
      rw [← HW1.out]
      refine (HSU.out W1 B1.out).mono ?_
      rintro e w2 ⟨rfl, b2⟩
      have B2 := Lib.hid (B1.out.trans (b2.mono B1.out.size))
      clear b2
      go_wp2_with fail
      refine (HKE.out w2 B2.out).mono ?_
      rintro e w3 ⟨rfl, h3⟩
      go_wp2_with fail
      go_ret2
      exact ⟨rfl, h3⟩
end Go.Proofs.YtomgijcbekjlaaaGreat
namespace Go.Proofs.YtomgijcbekjlaaaGreat
theorem loose_spec : LooseSpec := ⟨looseName_any, looseGet_any, loosePut_any, looseDrop_any, looseIds_any⟩
end Go.Proofs.YtomgijcbekjlaaaGreat
