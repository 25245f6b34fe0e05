/- What the proofs stand on: LooseSpoilt. -/
import Derived.Test.YtomgijcbekjlaaaGreatQ17
import Derived.Test.YtomgijcbekjlaaaGreatQ27
import Derived.Test.YtomgijcbekjlaaaGreatQ20
import Derived.Test.YtomgijcbekjlaaaGreatQ39
namespace Go.Proofs.YtomgijcbekjlaaaGreat
open Go.RowKit
/-- What the law's disk goes through: put, removed, spoilt. -/
theorem spoilt_states {raw spoilt : Bs} {o : ObjR} (hdec : decO raw = some o) (hlen : raw.length ≤ 1100000) (hs : spoilt.length ≤ 64) :
    ∃ S1 S2 S3 : St, putL (newS 1099511627776) raw = (0, sumL raw, S1) ∧ readS S1 (nameL (sumL raw)) = (0, pressL raw) ∧ removeS S1 (nameL (sumL raw)) = (0, S2) ∧ appendS S2 (nameL (sumL raw)) spoilt = (0, S3) ∧ getL S3.fs (sumL raw) = tellL (sumL raw) spoilt ∧ ((tellL (sumL raw) spoilt).1 = 2 → putL S3 raw = (2, [], S3) ∧ pressL raw ≠ spoilt) ∧ Good S1 ∧ Good S2 ∧ Good S3 ∧ S1.done ≤ 2000000000000 ∧ S2.done ≤ 2000000000000 ∧ S3.done ≤ 2000000000000 ∧ S3.cap = 1099511627776 := by
  have hpl := press_short hlen
  obtain ⟨S1, h1, hd, hl, hfs, hg, hcap, hdone⟩ := first_put (c := 1099511627776) (by decide) hdec (by omega)
  have hidl := sumL_length raw
  have hnn : named (nameL (sumL raw)) = true := name_named (by omega)
  have hnl := nameL_length (sumL raw)
  have hf : findF (nameL (sumL raw)) S1.fs = some (pressL raw) := by rw [hfs]; exact findF_one _ _
  have hrm := remove_there hd hl hnn hf
  have g2 := hg.remove (nameL (sumL raw))
  have d2 := remove_done S1 (nameL (sumL raw))
  rw [hrm] at g2 d2
  obtain ⟨S2, hS2⟩ : ∃ S, S = ({ tick S1 with fs := delF (nameL (sumL raw)) S1.fs } : St) := ⟨_, rfl⟩
  rw [← hS2] at hrm g2 d2
  have e2 : S2.fs = [] := by rw [hS2, hfs]; simp [delF]
  have l2 : S2.left = -1 := by rw [hS2]; exact tick_left hl
  have k2 : S2.dark = false := by rw [hS2]; exact hd
  have c2 : S2.cap = 1099511627776 := by rw [hS2]; exact hcap
  have hm : moreS S2 (nameL (sumL raw)) spoilt ≤ S2.free := by
    unfold moreS St.free
    rw [e2, c2]
    show ((costF (nameL (sumL raw)) spoilt : Nat) : Int) ≤ ((1099511627776 : Nat) : Int) - ((costs [] : Nat) : Int)
    unfold costF
    simp only [costs]
    omega
  have hap := append_fits hnn k2 hs hm
  have g3 := g2.append (nameL (sumL raw)) spoilt
  have d3 := append_done S2 (nameL (sumL raw)) spoilt
  have hw : writeS S2 (putF (nameL (sumL raw)) ((findF (nameL (sumL raw)) S2.fs).getD [] ++ spoilt) S2.fs) = (0, { tick S2 with fs := [(nameL (sumL raw), spoilt)] }) := by
    unfold writeS
    rw [if_neg (by omega), e2]
    rfl
  rw [hw] at hap
  rw [hap] at g3 d3
  refine ⟨S1, S2, { tick S2 with fs := [(nameL (sumL raw), spoilt)] }, h1, read_there hnn hf, hrm, hap, getL_some hidl (findF_one _ _), fun ht => ⟨?_, fun hp => ?_⟩, hg, g2, g3, by omega, by simp only at d2; omega, by have h1 : (tick S2).done = S2.done + 1 := rfl; simp only at d2; show (tick S2).done ≤ _; omega, c2⟩
  · unfold putL
    rw [if_pos (by rw [hdec]; rfl)]
    have e3 : getL ({ tick S2 with fs := [(nameL (sumL raw), spoilt)] } : St).fs (sumL raw) = tellL (sumL raw) spoilt := getL_some hidl (findF_one _ _)
    rw [e3, ht, if_neg (by decide), if_pos rfl]
  · rw [← hp, tell_press hdec (by omega)] at ht
    cases ht
set_option maxRecDepth 100000 in
set_option maxHeartbeats 16000000 in
theorem spoilt_any (SP : LooseSpec) (F : Nat → Prop) (o : ObjR) (dv ev uv : Value) (ao : Option Addr) (cap B off : Nat) (b : OB) (w : World) (h : ObjIn w F o dv ev uv) (_ : ObjFits o) (hs : SrcAt w ao cap b B off) (_ : b.length ≤ 140737488355328) :
    Calls Tryz.prog 6 #[objV o dv ev uv, .slice ao b.length cap] w fun e w' => e = .returned (.bool true) ∧ Below w.heap.size w w' := by
  have hen := fun (W : World) (hb : Below w.heap.size w W) => encode_any F o dv ev uv W (h.turn (Turn.of_below (fun _ => False) hb) (fun _ _ h => h))
  obtain ⟨a1, c1, B1, o1, rfl, hd1, _⟩ := h.data
  obtain ⟨a2, c2, g2, o2, rfl, _⟩ := h.ents
  obtain ⟨a3, c3, g3, o3, rfl, _⟩ := h.ups
  unfold objV at hen ⊢
  obtain ⟨n1, hn1⟩ : ∃ n, n = o.data.length := ⟨_, rfl⟩
  obtain ⟨n2, hn2⟩ : ∃ n, n = o.ents.length := ⟨_, rfl⟩
  obtain ⟨n3, hn3⟩ : ∃ n, n = o.ups.length := ⟨_, rfl⟩
  obtain ⟨K, hK⟩ : ∃ k, k = o.kind := ⟨_, rfl⟩
  obtain ⟨nb, hnb⟩ : ∃ n, n = b.length := ⟨_, rfl⟩
  rw [← hn1, ← hn2, ← hn3, ← hK] at hen ⊢
  rw [← hnb]
  obtain ⟨W1, hW1⟩ : ∃ W1, W1 = w.alloc (.cells #[.int .i64 K, .slice a1 n1 c1, .slice a2 n2 c2, .string (SL o.tree), .slice a3 n3 c3, .string (SL o.target), .string (SL o.name), .string (SL o.who), .int .i64 o.stamp, .string (SL o.text)] 33) := ⟨_, rfl⟩
  have hbl : Below w.heap.size w W1 := by rw [hW1]; exact (Below.refl _ _).alloc (Nat.le_refl _) _
  have hrow : ∀ W, Below W1.heap.size W1 W → _ := fun W hb => obj_cells (below_turn hb (by rw [hW1]; exact heap_alloc_new w _))
  have HAW := Lib.hid (fun W => awake_any SP W)
  have HSP := Lib.hid SP
  have ROW := Lib.hid hrow
  have HW := Lib.hid hW1
  have BL := Lib.hid hbl
  have HNB := Lib.hid hnb
  have HSR := Lib.hid hs
  clear hrow hW1 hbl hn1 hn2 hn3 hd1 hK SP hnb
  cases hok : okO o with
  | false =>
    have e1 : errO o = 1 := by unfold errO; rw [hok]; rfl
    have e2 : bytesO o = [] := by unfold bytesO; rw [hok]; rfl
    rw [e1, e2] at hen
    have HE := Lib.hid hen
    clear hen h hok e1 e2 hs
    go_enter Tryz.func6, Tryz.ntmps6
    go_wp2_with fail
    rw [← HW.out]
    refine (HAW.out _).mono ?_
    rintro e w2 ⟨rfl, b2⟩
    have BB := Lib.hid b2
    obtain ⟨r0, r1, r2, r3, r4, r5, r6, r7, r8, r9⟩ := ROW.out w2 b2
    clear b2
    go_wp2_with fail
    refine (HE.out _ (BL.out.trans (BB.out.mono BL.out.size))).mono ?_
    rintro e w3 ⟨v3, rfl, o3, b3⟩
    obtain ⟨ae, ce, B3, rfl, s3, _⟩ := OutAt.src o3
    have BB := Lib.hid (BL.out.trans ((BB.out.trans (b3.mono BB.out.size)).mono BL.out.size))
    have SE3 := Lib.hid s3
    clear b3 o3 s3
    go_wp2_with fail
    go_ret
    exact ⟨rfl, BB.out⟩
  | true =>
    have e1 : errO o = 0 := by unfold errO; rw [hok]; rfl
    have e2 : bytesO o = encO o := by unfold bytesO; rw [hok]; rfl
    have hlen := enc_length hok
    have hdec := dec_enc hok
    rw [e1, e2] at hen
    obtain ⟨E, hE⟩ : ∃ l, l = encO o := ⟨_, rfl⟩
    rw [← hE] at hen hlen hdec
    obtain ⟨ne, hne⟩ : ∃ n, n = E.length := ⟨_, rfl⟩
    have HE := Lib.hid hen
    have HNE := Lib.hid hne
    clear hen h hok e1 e2 hE hs
    by_cases h64 : 64 < nb
    · have i64 : (nb : Int) > 64 := by omega
      clear hlen hdec hne
      go_enter Tryz.func6, Tryz.ntmps6
      go_wp2_with fail
      rw [← HW.out]
      refine (HAW.out _).mono ?_
      rintro e w2 ⟨rfl, b2⟩
      have BB := Lib.hid b2
      obtain ⟨r0, r1, r2, r3, r4, r5, r6, r7, r8, r9⟩ := ROW.out w2 b2
      clear b2
      go_wp2_with fail
      refine (HE.out _ (BL.out.trans (BB.out.mono BL.out.size))).mono ?_
      rintro e w3 ⟨v3, rfl, o3, b3⟩
      obtain ⟨ae, ce, B3, rfl, s3, _⟩ := OutAt.src o3
      have BB := Lib.hid (BL.out.trans ((BB.out.trans (b3.mono BB.out.size)).mono BL.out.size))
      have SE3 := Lib.hid s3
      clear b3 o3 s3
      rw [← HNE.out]
      go_wp2_with fail
      go_ret
      exact ⟨rfl, BB.out⟩
    · have i64 : ¬ (nb : Int) > 64 := by omega
      obtain ⟨S1, S2, S3, q1, q2, q3, q4, q5, q6, g1, g2, g3, d1, d2, d3, k3⟩ := spoilt_states (spoilt := b) hdec hlen (by rw [← HNB.out]; omega)
      have hidl := sumL_length E
      have hnew := fun W => one_new W 1099511627776 (by decide)
      have hpl : (pressL E).length ≤ 1200000 := press_short hlen
      obtain ⟨id, hid⟩ : ∃ x, x = sumL E := ⟨_, rfl⟩
      rw [← hid] at q1 q2 q3 q4 q5 q6 hidl
      have Q1 := Lib.hid q1
      have Q2 := Lib.hid q2
      have Q3 := Lib.hid q3
      have Q4 := Lib.hid q4
      have Q5 := Lib.hid q5
      have Q6 := Lib.hid q6
      have G1 := Lib.hid g1
      have G2 := Lib.hid g2
      have G3 := Lib.hid g3
      have D1 := Lib.hid d1
      have D2 := Lib.hid d2
      have D3 := Lib.hid d3
      have K3 := Lib.hid k3
      have HIL := Lib.hid hidl
      have HNW := Lib.hid hnew
      have HLN := Lib.hid hlen
      clear q1 q2 q3 q4 q5 q6 g1 g2 g3 d1 d2 d3 k3 hidl hnew hlen hdec hne hid hpl
      rcases tellL_cases id b with ⟨t1, t2⟩ | ⟨t1, t2, t3, t4⟩
      · go_enter Tryz.func6, Tryz.ntmps6
        go_wp2_with fail
        rw [← HW.out]
        refine (HAW.out _).mono ?_
        rintro e w2 ⟨rfl, b2⟩
        have BB := Lib.hid b2
        obtain ⟨r0, r1, r2, r3, r4, r5, r6, r7, r8, r9⟩ := ROW.out w2 b2
        clear b2
        go_wp2_with fail
        refine (HE.out _ (BL.out.trans (BB.out.mono BL.out.size))).mono ?_
        rintro e w3 ⟨v3, rfl, o3, b3⟩
        obtain ⟨ae, ce, B3, rfl, s3, _⟩ := OutAt.src o3
        have BB := Lib.hid (BL.out.trans ((BB.out.trans (b3.mono BB.out.size)).mono BL.out.size))
        have SE3 := Lib.hid s3
        clear b3 o3 s3
        rw [← HNE.out]
        go_wp2_with fail
        refine (HNW.out w3).mono ?_
        rintro e w4 ⟨p, rfl, h4⟩
        have H4 := Lib.hid h4
        have Z3 : Hid (BytesAt w4 (elder w3) (.slice ae ne ce) E) := Lib.hid (by rw [HNE.out]; exact ⟨ae, ce, B3, 0, rfl, SE3.out.below H4.out.old, fun hp => SE3.out.old hp⟩)
        have ZB : Hid (BytesAt w4 (elder w3) (.slice ao nb cap) b) := Lib.hid (by rw [HNB.out]; exact ⟨ao, cap, B, off, rfl, (HSR.out.below BB.out).below H4.out.old, fun hp => (HSR.out.below BB.out).old hp⟩)
        clear h4
        have hput := HSP.out.put w3 w4 (elder w3) p (newS 1099511627776) _ E H4.out (good_new (by decide)) (by decide) Z3.out (by have := HLN.out; omega)
        rw [Q1.out] at hput
        have HPUT := Lib.hid hput
        clear hput
        go_wp2_with fail
        refine HPUT.out.mono ?_
        rintro e w5 ⟨rfl, h5⟩
        have H5 : Hid (One w3 (elder w3) w5 p S1) := Lib.hid h5
        clear h5 HPUT
        go_wp2_with fail
        refine (HSP.out.name id w5 (by have := HIL.out; omega)).mono ?_
        rintro e w6 ⟨rfl, b6⟩
        have H6 := Lib.hid (H5.out.below b6)
        clear b6
        have hread := H6.out.tells G1.out (nameL id)
        rw [Q2.out] at hread
        obtain ⟨np, hnp⟩ : ∃ n, n = (pressL E).length := ⟨_, rfl⟩
        have HNP := Lib.hid hnp
        have hread' : Calls _ _ _ _ _ := hread
        simp only [← hnp] at hread'
        have HRD := Lib.hid hread'
        clear hread hread' hnp
        go_wp2_with fail
        refine HRD.out.mono ?_
        rintro e w7 ⟨a7, c7, g7, rfl, s7, n7, b7⟩
        have H7 := Lib.hid (H6.out.below b7)
        have S7 := Lib.hid s7
        have N7 := Lib.hid n7
        have B7 := Lib.hid b7
        clear b7 s7 n7 HRD
        go_wp2_with fail
        refine (HSP.out.name id w7 (by have := HIL.out; omega)).mono ?_
        rintro e w8 ⟨rfl, b8⟩
        have H8o := Lib.hid (H7.out.below b8)
        have hY := H6.out.snap (B7.out.trans (b8.mono B7.out.size))
        have HY : Hid (One w8 (fun k => elder w3 k ∨ (w6.heap.size ≤ k ∧ k < w8.heap.size)) w8 p S1) := Lib.hid hY
        have BY := Lib.hid (B7.out.trans (b8.mono B7.out.size))
        have V8 : Hid (BytesAt w8 (fun k => elder w3 k ∨ (w6.heap.size ≤ k ∧ k < w8.heap.size)) (.slice a7 np c7) (pressL E)) := Lib.hid (by rw [HNP.out]; exact ⟨a7, c7, g7, 0, rfl, S7.out.below b8, fun hp => .inr ⟨N7.out (by rw [HNP.out]; exact hp), Nat.lt_of_lt_of_le (S7.out.old hp) b8.size⟩⟩)
        have R8 : Hid (BytesAt w8 (fun k => elder w3 k ∨ (w6.heap.size ≤ k ∧ k < w8.heap.size)) (.slice ae ne ce) E) := Lib.hid ((One.bytes H4.out H8o.out Z3.out).mono fun _ _ h => .inl h)
        have P8 : Hid (BytesAt w8 (fun k => elder w3 k ∨ (w6.heap.size ≤ k ∧ k < w8.heap.size)) (.slice ao nb cap) b) := Lib.hid ((One.bytes H4.out H8o.out ZB.out).mono fun _ _ h => .inl h)
        have hrem := HY.out.remove G1.out (by have := D1.out; omega) (nameL id)
        rw [Q3.out] at hrem
        have HRM := Lib.hid hrem
        obtain ⟨Z, hZ⟩ : ∃ Z : Nat → Prop, Z = fun k => elder w3 k ∨ (w6.heap.size ≤ k ∧ k < w8.heap.size) := ⟨_, rfl⟩
        rw [← hZ] at HRM HY V8 R8 P8
        have HZ := Lib.hid hZ
        clear b8 hY hrem hZ S7 N7 B7
        go_wp2_with fail
        refine HRM.out.mono ?_
        rintro e w9 ⟨rfl, h9⟩
        have H9 : Hid (One w8 Z w9 p S2) := Lib.hid h9
        clear h9 HRM
        go_wp2_with fail
        refine (HSP.out.name id w9 (by have := HIL.out; omega)).mono ?_
        rintro e w10 ⟨rfl, b10⟩
        have H10 := Lib.hid (H9.out.below b10)
        clear b10
        have happ := H10.out.append G2.out (by have := D2.out; omega) (nameL id) (.slice ao nb cap) b (One.bytes HY.out H10.out P8.out)
        rw [Q4.out] at happ
        have HAP := Lib.hid happ
        clear happ
        go_wp2_with fail
        refine HAP.out.mono ?_
        rintro e w11 ⟨rfl, h11⟩
        have H11 : Hid (One w8 Z w11 p S3) := Lib.hid h11
        clear h11 HAP
        have hget := HSP.out.get w8 w11 Z p S3 id H11.out G3.out (by have := HIL.out; omega)
        rw [Q5.out] at hget
        rw [show tellL id b = (2, []) from Prod.ext t1 t2] at hget
        have HGT := Lib.hid hget
        obtain ⟨q61, q62⟩ := Q6.out t1
        have Q61 := Lib.hid q61
        have hq : ((SL (pressL E)).toList == (SL b).toList) = false := by rw [SL_toList, SL_toList]; exact beq_eq_false_iff_ne.2 q62
        clear hget t1 t2 q61 q62
        go_wp2_with fail
        refine HGT.out.mono ?_
        rintro e w12 ⟨a12, c12, g12, o12, rfl, _, _, b12⟩
        have H12 := Lib.hid (H11.out.below b12)
        clear b12 HGT
        have hput := HSP.out.put w8 w12 Z p S3 _ E H12.out G3.out (by have := D3.out; have := K3.out; omega) (One.bytes HY.out H12.out R8.out) (by have := HLN.out; omega)
        rw [Q61.out] at hput
        have HPUT := Lib.hid hput
        clear hput
        go_wp2_with fail
        refine HPUT.out.mono ?_
        rintro e w13 ⟨rfl, h13⟩
        have H13 : Hid (One w8 Z w13 p S3) := Lib.hid h13
        clear h13 HPUT
        have cv1 := BytesAt.text (One.bytes HY.out H13.out V8.out)
        have cv2 := BytesAt.text (One.bytes HY.out H13.out P8.out)
        go_wp2_with fail
        go_ret
        have HF : One w3 (elder w3) w13 p S3 := H6.out.back BY.out (by have := H13.out; rw [HZ.out] at this; exact this)
        exact ⟨rfl, BB.out.trans (HF.old.mono BB.out.size)⟩
      · go_enter Tryz.func6, Tryz.ntmps6
        go_wp2_with fail
        rw [← HW.out]
        refine (HAW.out _).mono ?_
        rintro e w2 ⟨rfl, b2⟩
        have BB := Lib.hid b2
        obtain ⟨r0, r1, r2, r3, r4, r5, r6, r7, r8, r9⟩ := ROW.out w2 b2
        clear b2
        go_wp2_with fail
        refine (HE.out _ (BL.out.trans (BB.out.mono BL.out.size))).mono ?_
        rintro e w3 ⟨v3, rfl, o3, b3⟩
        obtain ⟨ae, ce, B3, rfl, s3, _⟩ := OutAt.src o3
        have BB := Lib.hid (BL.out.trans ((BB.out.trans (b3.mono BB.out.size)).mono BL.out.size))
        have SE3 := Lib.hid s3
        clear b3 o3 s3
        rw [← HNE.out]
        go_wp2_with fail
        refine (HNW.out w3).mono ?_
        rintro e w4 ⟨p, rfl, h4⟩
        have H4 := Lib.hid h4
        have Z3 : Hid (BytesAt w4 (elder w3) (.slice ae ne ce) E) := Lib.hid (by rw [HNE.out]; exact ⟨ae, ce, B3, 0, rfl, SE3.out.below H4.out.old, fun hp => SE3.out.old hp⟩)
        have ZB : Hid (BytesAt w4 (elder w3) (.slice ao nb cap) b) := Lib.hid (by rw [HNB.out]; exact ⟨ao, cap, B, off, rfl, (HSR.out.below BB.out).below H4.out.old, fun hp => (HSR.out.below BB.out).old hp⟩)
        clear h4
        have hput := HSP.out.put w3 w4 (elder w3) p (newS 1099511627776) _ E H4.out (good_new (by decide)) (by decide) Z3.out (by have := HLN.out; omega)
        rw [Q1.out] at hput
        have HPUT := Lib.hid hput
        clear hput
        go_wp2_with fail
        refine HPUT.out.mono ?_
        rintro e w5 ⟨rfl, h5⟩
        have H5 : Hid (One w3 (elder w3) w5 p S1) := Lib.hid h5
        clear h5 HPUT
        go_wp2_with fail
        refine (HSP.out.name id w5 (by have := HIL.out; omega)).mono ?_
        rintro e w6 ⟨rfl, b6⟩
        have H6 := Lib.hid (H5.out.below b6)
        clear b6
        have hread := H6.out.tells G1.out (nameL id)
        rw [Q2.out] at hread
        obtain ⟨np, hnp⟩ : ∃ n, n = (pressL E).length := ⟨_, rfl⟩
        have HNP := Lib.hid hnp
        have hread' : Calls _ _ _ _ _ := hread
        simp only [← hnp] at hread'
        have HRD := Lib.hid hread'
        clear hread hread' hnp
        go_wp2_with fail
        refine HRD.out.mono ?_
        rintro e w7 ⟨a7, c7, g7, rfl, s7, n7, b7⟩
        have H7 := Lib.hid (H6.out.below b7)
        have S7 := Lib.hid s7
        have N7 := Lib.hid n7
        have B7 := Lib.hid b7
        clear b7 s7 n7 HRD
        go_wp2_with fail
        refine (HSP.out.name id w7 (by have := HIL.out; omega)).mono ?_
        rintro e w8 ⟨rfl, b8⟩
        have H8o := Lib.hid (H7.out.below b8)
        have hY := H6.out.snap (B7.out.trans (b8.mono B7.out.size))
        have HY : Hid (One w8 (fun k => elder w3 k ∨ (w6.heap.size ≤ k ∧ k < w8.heap.size)) w8 p S1) := Lib.hid hY
        have BY := Lib.hid (B7.out.trans (b8.mono B7.out.size))
        have V8 : Hid (BytesAt w8 (fun k => elder w3 k ∨ (w6.heap.size ≤ k ∧ k < w8.heap.size)) (.slice a7 np c7) (pressL E)) := Lib.hid (by rw [HNP.out]; exact ⟨a7, c7, g7, 0, rfl, S7.out.below b8, fun hp => .inr ⟨N7.out (by rw [HNP.out]; exact hp), Nat.lt_of_lt_of_le (S7.out.old hp) b8.size⟩⟩)
        have R8 : Hid (BytesAt w8 (fun k => elder w3 k ∨ (w6.heap.size ≤ k ∧ k < w8.heap.size)) (.slice ae ne ce) E) := Lib.hid ((One.bytes H4.out H8o.out Z3.out).mono fun _ _ h => .inl h)
        have P8 : Hid (BytesAt w8 (fun k => elder w3 k ∨ (w6.heap.size ≤ k ∧ k < w8.heap.size)) (.slice ao nb cap) b) := Lib.hid ((One.bytes H4.out H8o.out ZB.out).mono fun _ _ h => .inl h)
        have hrem := HY.out.remove G1.out (by have := D1.out; omega) (nameL id)
        rw [Q3.out] at hrem
        have HRM := Lib.hid hrem
        obtain ⟨Z, hZ⟩ : ∃ Z : Nat → Prop, Z = fun k => elder w3 k ∨ (w6.heap.size ≤ k ∧ k < w8.heap.size) := ⟨_, rfl⟩
        rw [← hZ] at HRM HY V8 R8 P8
        have HZ := Lib.hid hZ
        clear b8 hY hrem hZ S7 N7 B7
        go_wp2_with fail
        refine HRM.out.mono ?_
        rintro e w9 ⟨rfl, h9⟩
        have H9 : Hid (One w8 Z w9 p S2) := Lib.hid h9
        clear h9 HRM
        go_wp2_with fail
        refine (HSP.out.name id w9 (by have := HIL.out; omega)).mono ?_
        rintro e w10 ⟨rfl, b10⟩
        have H10 := Lib.hid (H9.out.below b10)
        clear b10
        have happ := H10.out.append G2.out (by have := D2.out; omega) (nameL id) (.slice ao nb cap) b (One.bytes HY.out H10.out P8.out)
        rw [Q4.out] at happ
        have HAP := Lib.hid happ
        clear happ
        go_wp2_with fail
        refine HAP.out.mono ?_
        rintro e w11 ⟨rfl, h11⟩
        have H11 : Hid (One w8 Z w11 p S3) := Lib.hid h11
        clear h11 HAP
        have hget := HSP.out.get w8 w11 Z p S3 id H11.out G3.out (by have := HIL.out; omega)
        rw [Q5.out] at hget
        obtain ⟨r2, hr2⟩ : ∃ r, r = (tellL id b).2 := ⟨_, rfl⟩
        rw [← hr2] at t2 t3
        rw [show tellL id b = (0, r2) from Prod.ext t1 hr2.symm] at hget
        have hrl := openL_le t2
        obtain ⟨nr, hnr⟩ : ∃ n, n = r2.length := ⟨_, rfl⟩
        have HGT := Lib.hid hget
        have T3 := Lib.hid t3
        have HNR := Lib.hid hnr
        have HRL := Lib.hid hrl
        clear hget t1 t2 t3 t4 hr2 hrl hnr
        go_wp2_with fail
        refine HGT.out.mono ?_
        rintro e w12 ⟨a12, c12, g12, o12, rfl, s12, _, b12⟩
        have H12 := Lib.hid (H11.out.below b12)
        have hsu := sum_src w12 s12 (by have := HRL.out; show r2.length ≤ _; omega)
        rw [T3.out, show (0, r2).2.length = nr from HNR.out.symm] at hsu
        rw [show (0, r2).2.length = nr from HNR.out.symm]
        have HSU := Lib.hid hsu
        clear b12 HGT hsu s12
        go_wp2_with fail
        refine HSU.out.mono ?_
        rintro e w13 ⟨rfl, b13⟩
        have H13 := Lib.hid (H12.out.below b13)
        clear b13
        go_wp2_with fail
        go_ret
        have HF : One w3 (elder w3) w13 p S3 := H6.out.back BY.out (by have := H13.out; rw [HZ.out] at this; exact this)
        exact ⟨rfl, BB.out.trans (HF.old.mono BB.out.size)⟩
end Go.Proofs.YtomgijcbekjlaaaGreat
