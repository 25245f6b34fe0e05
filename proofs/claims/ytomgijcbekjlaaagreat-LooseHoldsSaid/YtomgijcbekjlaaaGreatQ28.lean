/- What the proofs stand on: LooseHolds, LooseDrops, LooseCut. -/
import Derived.Deep.CutBlock
import Derived.Deep.Cut
import Derived.Deep.RegionHeld3
import Derived.Test.YtomgijcbekjlaaaGreatQ17
import Derived.Test.YtomgijcbekjlaaaGreatQ6
import Derived.Test.YtomgijcbekjlaaaGreatQ22
import Derived.Test.YtomgijcbekjlaaaGreatQ23
import Derived.Test.YtomgijcbekjlaaaGreatQ27
import Derived.Test.YtomgijcbekjlaaaGreatQ20
import Derived.Test.YtomgijcbekjlaaaGreatQ9
namespace Go.Proofs.YtomgijcbekjlaaaGreat
open Go.RowKit
/-- What is kept of the objects that were put. -/
structure Kept (S : St) (l : List (OB × OB)) (k : Nat) : Prop where
  whole : Whole S
  cap : S.cap = 1099511627776
  cost : costs S.fs ≤ k * 1300000
  done : S.done ≤ k * 2000000000000
  len : l.length ≤ k
  each : ∀ x ∈ l, x.1 = sumL x.2 ∧ (∃ o, decO x.2 = some o) ∧ x.2.length ≤ 1100000 ∧ getL S.fs x.1 = (0, x.2)
set_option maxRecDepth 100000 in
theorem kept_new : Kept (newS 1099511627776) [] 0 := ⟨whole_new (by decide), rfl, by show costs [] ≤ _; simp [costs], by show 0 ≤ _; omega, Nat.zero_le _, fun x hx => by cases hx⟩
theorem Kept.skip {S : St} {l : List (OB × OB)} {k : Nat} (h : Kept S l k) : Kept S l (k + 1) := ⟨h.whole, h.cap, Nat.le_trans h.cost (Nat.mul_le_mul_right _ (Nat.le_succ k)), Nat.le_trans h.done (Nat.mul_le_mul_right _ (Nat.le_succ k)), Nat.le_succ_of_le h.len, h.each⟩
theorem Kept.put {S : St} {l : List (OB × OB)} {k : Nat} (h : Kept S l k) (hk : k < 100) {raw : OB} {o : ObjR} (hdec : decO raw = some o) (hl : raw.length ≤ 1100000) :
    ((putL S raw).1 = 0 ∧ (putL S raw).2.1 = sumL raw ∧ Kept (putL S raw).2.2 (l ++ [(sumL raw, raw)]) (k + 1)) ∨ ((putL S raw).1 = 7 ∧ (putL S raw).2.2 = S) := by
  have hp := h.whole.put hdec hl (by rw [h.cap]; have := h.cost; omega)
  rcases hp.tells with ⟨h1, h2, h3⟩ | ⟨h1, h2⟩
  · refine .inl ⟨h1, h2, hp.whole, hp.cap.trans h.cap, by have := hp.cost; have := h.cost; omega, by have := hp.done; have := h.done; have := h.cap; omega, by have := h.len; simp; omega, fun x hx => ?_⟩
    rcases List.mem_append.1 hx with hx | hx
    · obtain ⟨k1, k2, k3, k4⟩ := h.each x hx
      refine ⟨k1, k2, k3, ?_⟩
      rcases hp.tells with _ | ⟨_, h7⟩
      · by_cases he : x.1 = sumL raw
        · have := put_same hdec (x := x.2) (by rw [← he]; exact k4) h1
          rw [he, this]; exact h3
        · rw [getL_congr (hp.other x.1 (by rw [k1]; exact sumL_length _) he)]
          exact k4
      · rw [h7]; exact k4
    · rw [List.mem_singleton.1 hx]
      exact ⟨rfl, ⟨o, hdec⟩, hl, h3⟩
  · exact .inr ⟨h1, h2⟩
set_option maxRecDepth 100000 in
set_option maxHeartbeats 16000000 in
theorem holds_any (SP : LooseSpec) (F : Nat → Prop) (v : Value) (l : List ObjV) (w : World) (h : ObjsAt w F v l) :
    Calls Tryz.prog 4 #[v] w fun e w' => e = .returned (.bool true) ∧ Below w.heap.size w w' := by
  obtain ⟨ao, cap, g, off, rfl, hlm, hsrc, hrow⟩ := h
  obtain ⟨N, hN⟩ : ∃ N, N = l.length := ⟨_, rfl⟩
  have hrows := fun (W : World) (hb : Below w.heap.size w W) (k : Nat) (r : ObjV) (hk : l[k]? = some r) => (hrow k r hk).turn (hsrc (by have := (List.getElem?_eq_some_iff.1 hk).1; omega)).2.2 (Turn.of_below (fun _ => False) hb) (fun _ _ h => h)
  have hsr := fun (hp : 0 < N) => (hsrc (by omega)).1
  have hNb : N ≤ 9223372036854775807 := by rw [hN]; unfold maxLen at hlm; omega
  have HROW := Lib.hid hrows
  have HSR := Lib.hid hsr
  have HN := Lib.hid hN
  have HAW := Lib.hid (fun W => awake_any SP W)
  have HSP := Lib.hid SP
  have HNW := Lib.hid (fun W => one_new W 1099511627776 (by decide))
  rw [← hN]
  clear hrows hsrc hrow hsr SP hlm hN
  go_enter Tryz.func4, Tryz.ntmps4
  go_wp2_with fail
  refine (HAW.out w).mono ?_
  rintro e w1 ⟨rfl, b1⟩
  have B1 := Lib.hid b1
  clear b1
  go_wp2_with fail
  refine (HNW.out w1).mono ?_
  rintro e w2 ⟨p, rfl, h2⟩
  obtain ⟨hr2, hb2⟩ := rest_new h2
  obtain ⟨x, hx⟩ : ∃ x, x = w1.heap.size := ⟨_, rfl⟩
  rw [← hx] at hr2 hb2
  have hxw : x ≤ w2.heap.size := by have := hb2.size; omega
  have R2 := Lib.hid hr2
  have B2 := Lib.hid hb2
  have HX := Lib.hid hx
  clear h2 hr2 hb2 hx
  go_upto_block 0 with fail
  go_cut [6, 7, 8] from 9 to 68 (fun vi vr s8 W => ∃ (k m : Nat) (S : St) (kp : List (OB × OB)) (a1 a2 : Option Addr) (c1 c2 : Nat), s8 = s8 ∧ k ≤ 30 ∧ vi = .slice a1 m c1 ∧ vr = .slice a2 m c2 ∧ m = kp.length ∧ Hid (Kept S kp k) ∧ Hid (TxtsOwn x W (.slice a1 m c1) (kp.map (·.1))) ∧ Hid (TxtsOwn x W (.slice a2 m c2) (kp.map (·.2))) ∧ Hid (Rest x W p S (fun j => (Value.slice a1 m c1).ownBlock = some j ∨ (Value.slice a2 m c2).ownBlock = some j)) ∧ Hid (∀ j, (Value.slice a1 m c1).ownBlock = some j → ¬ (Value.slice a2 m c2).ownBlock = some j) ∧ Hid (Below x w1 W))
  case first =>
    go_wp2_with fail
    go_loopw [6, 7, 8] (fun vi vr i W => ∃ (k m : Nat) (S : St) (kp : List (OB × OB)) (a1 a2 : Option Addr) (c1 c2 : Nat), i = .int .i64 (k : Int) ∧ k ≤ N ∧ k ≤ 30 ∧ vi = .slice a1 m c1 ∧ vr = .slice a2 m c2 ∧ m = kp.length ∧ Hid (Kept S kp k) ∧ Hid (TxtsOwn x W (.slice a1 m c1) (kp.map (·.1))) ∧ Hid (TxtsOwn x W (.slice a2 m c2) (kp.map (·.2))) ∧ Hid (Rest x W p S (fun j => (Value.slice a1 m c1).ownBlock = some j ∨ (Value.slice a2 m c2).ownBlock = some j)) ∧ Hid (∀ j, (Value.slice a1 m c1).ownBlock = some j → ¬ (Value.slice a2 m c2).ownBlock = some j) ∧ Hid (Below x w1 W)) (fun _ _ i _ => N - (intOf i).toNat)
    case atStart => exact ⟨0, 0, newS 1099511627776, [], none, none, 0, 0, rfl, Nat.zero_le _, Nat.zero_le _, rfl, rfl, rfl, Lib.hid kept_new, Lib.hid (txts_nil _ _), Lib.hid (txts_nil _ _), Lib.hid (R2.out.mono (fun j _ h => by rcases h with h | h <;> cases h)), Lib.hid (fun j h => by cases h), B2⟩
    case round =>
      clear R2 B2
      obtain ⟨k, m, S, kp, a1, a2, c1, c2, rfl, hkN, hk30, rfl, rfl, hm, KP, O1, O2, RS, AP, BB⟩ := hrel
      have HM := Lib.hid hm
      clear hm
      by_cases h30 : k < 30
      · by_cases hlt : k < N
        · have i0 : (0 : Int) ≤ (k : Int) := by omega
          have i1 : (k : Int) < (N : Int) := by omega
          have i2 : (k : Int) < 30 := by omega
          obtain ⟨r, hr⟩ : ∃ r, l[k]? = some r := ⟨_, List.getElem?_eq_getElem (by rw [← HN.out]; exact hlt)⟩
          obtain rfl := HSR.out (by omega)
          have hbw : Below w.heap.size w wr := B1.out.trans (BB.out.mono (by have := HX.out; have := B1.out.size; omega))
          have hro := HROW.out wr hbw k r hr
          have e0 := hro.cell 0 _ rfl
          have e1 := hro.cell 1 _ rfl
          have e2 := hro.cell 2 _ rfl
          have e3 := hro.cell 3 _ rfl
          have e4 := hro.cell 4 _ rfl
          have e5 := hro.cell 5 _ rfl
          have e6 := hro.cell 6 _ rfl
          have e7 := hro.cell 7 _ rfl
          have e8 := hro.cell 8 _ rfl
          have e9 := hro.cell 9 _ rfl
          rw [Nat.add_zero] at e0
          have hen := encode_any F r.o r.dv r.ev r.uv wr hro.holds
          unfold objV at hen
          have BW := Lib.hid hbw
          clear hro hbw
          have HXW := Lib.hid (show x ≤ wr.heap.size by have := BB.out.size; have := HX.out; omega)
          cases hok : okO r.o with
          | false =>
            have ee : errO r.o = 1 := by unfold errO; rw [hok]; rfl
            rw [ee] at hen
            have HEN := Lib.hid hen
            clear hen hok ee hr
            go_wp2_with fail
            refine HEN.out.mono ?_
            rintro e w3 ⟨v3, rfl, _, b3⟩
            have B3 := Lib.hid b3
            clear b3
            go_wp2_with fail
            go_roundw
            case rel => exact ⟨k + 1, m, S, kp, a1, a2, c1, c2, by go_num, by omega, by omega, rfl, rfl, HM.out, Lib.hid KP.out.skip, Lib.hid (O1.out.below B3.out), Lib.hid (O2.out.below B3.out), Lib.hid ((RS.out.below B3.out).mono (fun _ _ h => .inl h)), AP, Lib.hid (BB.out.trans (B3.out.mono HXW.out))⟩
            case measure => simp [intOf]; omega
          | true =>
            have ee : errO r.o = 0 := by unfold errO; rw [hok]; rfl
            have eb : bytesO r.o = encO r.o := by unfold bytesO; rw [hok]; rfl
            have hlen := enc_length hok
            have hdec := dec_enc hok
            rw [ee, eb] at hen
            obtain ⟨E, hE⟩ : ∃ l, l = encO r.o := ⟨_, rfl⟩
            rw [← hE] at hen hlen hdec
            obtain ⟨ne, hne⟩ : ∃ n, n = E.length := ⟨_, rfl⟩
            have HEN := Lib.hid hen
            have HNE := Lib.hid hne
            have HLN := Lib.hid hlen
            have hkp := KP.out.put (by omega) hdec hlen
            clear hen hok ee eb hE hne hr hdec hlen
            rcases hkp with ⟨q1, q2, q3⟩ | ⟨q1, q2⟩
            · obtain ⟨pr, hpr⟩ : ∃ x, x = putL S E := ⟨_, rfl⟩
              rw [← hpr] at q1 q2 q3
              obtain ⟨r1, r2, S'⟩ := pr
              simp only at q1 q2 q3
              subst q1
              have PR := Lib.hid hpr
              have Q2 := Lib.hid q2
              have Q3 := Lib.hid q3
              clear hpr q2 q3
              go_wp2_with fail
              refine HEN.out.mono ?_
              rintro e w3 ⟨v3, rfl, o3, b3⟩
              obtain ⟨ae, ce, B3', rfl, s3, n3⟩ := OutAt.src o3
              have hrs3 := RS.out.below b3
              obtain ⟨Z, hone, hz1, hz2⟩ := hrs3.one
              have hz3 : BytesAt w3 Z (.slice ae ne ce) E := by rw [HNE.out]; exact ⟨ae, ce, B3', 0, rfl, s3, fun hp => hz2 B3' (s3.old hp) (.inr (n3 hp))⟩
              have hput := HSP.out.put w3 w3 Z p _ _ E hone KP.out.whole.good (by have h1 := KP.out.done; have h2 := KP.out.cap; omega) hz3 (by have := HLN.out; omega)
              rw [← PR.out] at hput
              have HPUT := Lib.hid hput
              have S3 := Lib.hid s3
              have N3 := Lib.hid n3
              have P0 := O1
              have HZ1 := Lib.hid hz1
              have HZ2 := Lib.hid hz2
              have X3 := Lib.hid (show x ≤ w3.heap.size from Nat.le_trans HXW.out b3.size)
              have P1 := Lib.hid (O1.out.below b3)
              have P2 := Lib.hid (O2.out.below b3)
              have PB1 := P1
              have PB2 := P2
              have BX := Lib.hid (BB.out.trans (b3.mono HXW.out))
              rw [← HNE.out]
              clear o3 s3 n3 hrs3 hone hz1 hz2 hz3 hput b3
              go_wp2_with fail
              refine HPUT.out.mono ?_
              rintro e w4 ⟨rfl, h4⟩
              obtain ⟨hr4, ht4, hx4⟩ := Rest.of_one h4 X3.out HZ1.out
              have R4 := Lib.hid hr4
              have T4 := Lib.hid ht4
              have X4 := Lib.hid hx4
              have P1 : Hid (TxtsOwn x w4 (.slice a1 m c1) (kp.map (·.1))) := Lib.hid (row_turn P1.out ht4 (fun g hg hz => hz (HZ2.out g (P1.out.lt g hg).2 (.inl (.inl hg)))))
              have P2 : Hid (TxtsOwn x w4 (.slice a2 m c2) (kp.map (·.2))) := Lib.hid (row_turn P2.out ht4 (fun g hg hz => hz (HZ2.out g (P2.out.lt g hg).2 (.inl (.inr hg)))))
              clear h4 hr4 ht4 hx4 HPUT
              go_wp2_with fail
              have hsu := sum_src w4 (S3.out.turn T4.out (fun hp hz => hz (HZ2.out B3' (S3.out.old hp) (.inr (N3.out hp))))) (by have := HLN.out; omega)
              rw [← HNE.out, ← Q2.out] at hsu
              have HSU := Lib.hid hsu
              clear hsu
              go_wp2_with fail
              refine HSU.out.mono ?_
              rintro e w5 ⟨rfl, b5⟩
              have S5 := Lib.hid ((S3.out.turn T4.out (fun hp hz => hz (HZ2.out B3' (S3.out.old hp) (.inr (N3.out hp))))).below b5)
              have P1 := Lib.hid (P1.out.below b5)
              have P2 := Lib.hid (P2.out.below b5)
              have hr5 := R4.out.below b5
              have HR5 := Lib.hid hr5
              have B5 := Lib.hid (X4.out.trans (b5.mono (by have := X4.out.size; have := X3.out; omega)))
              clear b5 hr5 HSU
              have hape : 0 < E.length → ¬ (Value.slice a1 m c1).ownBlock = some B3' := fun hp hg => by have h1 := (P0.out.lt B3' hg).2; have h2 := N3.out hp; omega
              have HAPE := Lib.hid hape
              clear hape
              have cvs := convert_src S5.out
              rw [← HNE.out] at cvs
              go_wp2_with (first | (at_builtin; refine wpList_own_text rfl _ _ rfl x (.slice a1 m c1) (kp.map (·.1)) rfl (P1.out.below ((Below.refl _ _).alloc (Nat.le_refl _) _)) ⟨w5.heap.size, 0, none⟩ 1 r2 rfl (lit_text _ _ _ rfl) (by have := KP.out.len; simp; omega) (by have := B5.out.size; have := X3.out; simp; omega) (m + 1) (by rw [List.length_map, ← HM.out]) ?_; intro a6 c6 w6 o6 t6; have hs6 := S5.out.turn ((Turn.of_below (fun j => (Value.slice a1 m c1).ownBlock = some j) ((Below.refl w5.heap.size w5).alloc (Nat.le_refl _) (.cells #[.string (SL r2)] 9))).trans t6.out.turn) (fun hp hg => HAPE.out hp hg); have S6 := Lib.hid hs6; have cvs := convert_src hs6; rw [← HNE.out] at cvs; clear hs6; have P26 : Hid (TxtsOwn x w6 (.slice a2 m c2) (kp.map (·.2))) := Lib.hid (row_turn (P2.out.below ((Below.refl w5.heap.size w5).alloc (Nat.le_refl _) (.cells #[.string (SL r2)] 9))) t6.out.turn (fun g hg e => AP.out g e hg))) | (at_builtin; refine wpList_own_text rfl _ _ rfl x (.slice a2 m c2) (kp.map (·.2)) rfl (P26.out.below ((Below.refl _ _).alloc (Nat.le_refl _) _)) ⟨w6.heap.size, 0, none⟩ 1 E rfl (lit_text _ _ _ rfl) (by have := KP.out.len; simp; omega) (by have h1 := t6.out.turn.size; simp at h1; have := B5.out.size; have := X3.out; simp; omega) (m + 1) (by rw [List.length_map, ← HM.out]) ?_; intro a7 c7 w7 o7 t7))
              have hrg : Rest x w5 p S' (fun j => (Value.slice a2 m c2).ownBlock = some j ∨ (Value.slice a1 m c1).ownBlock = some j) := HR5.out.mono (fun j _ hj => .inl (hj.elim (fun e => HZ2.out j (PB2.out.lt j e).2 (.inl (.inr e))) (fun e => HZ2.out j (PB1.out.lt j e).2 (.inl (.inl e)))))
              have hr6 := ((hrg.below ((Below.refl w5.heap.size w5).alloc (Nat.le_refl _) (.cells #[.string (SL r2)] 9))).mono (fun _ _ h => .inl h)).own t6.out
              have hr7 := ((hr6.swap.below ((Below.refl w6.heap.size w6).alloc (Nat.le_refl _) (.cells #[.string (SL E)] 9))).mono (fun _ _ h => .inl h)).own t7.out
              have z6 : (w5.alloc (.cells #[.string (SL r2)] 9)).heap.size = w5.heap.size + 1 := by simp
              have z7 : (w6.alloc (.cells #[.string (SL E)] 9)).heap.size = w6.heap.size + 1 := by simp
              have hzz := t6.out.turn.size
              have hap7 : ∀ j, (Value.slice a6 (m + 1) c6).ownBlock = some j → ¬ (Value.slice a7 (m + 1) c7).ownBlock = some j := fun j h6 h7 => by
                have l6 := (o6.out.lt j h6).2
                rcases t7.out.lies j h7 with e | e
                · rcases t6.out.lies j h6 with e' | e'
                  · exact AP.out j e' e
                  · have := (P2.out.lt j e).2
                    omega
                · omega
              have ho1 : TxtsOwn x w7 (.slice a6 (m + 1) c6) (kp.map (·.1) ++ [r2]) := row_turn (o6.out.below ((Below.refl _ _).alloc (Nat.le_refl _) _)) t7.out.turn (fun g hg e => by
                rcases t6.out.lies g hg with e' | e'
                · exact AP.out g e' e
                · have := (P2.out.lt g e).2
                  omega)
              have hb7 : Below x w1 w7 := by
                have hz5 : x ≤ w5.heap.size := by have := B5.out.size; have := X3.out; omega
                have q1 : Below x w5 w6 := ((Below.refl x w5).alloc hz5 _).trans (t6.out.turn.below (by omega) (fun k hk => t6.out.low k hk))
                have q2 : Below x w6 w7 := ((Below.refl x w6).alloc (by omega) _).trans (t7.out.turn.below (by omega) (fun k hk => t7.out.low k hk))
                exact (BX.out.trans B5.out).trans (q1.trans q2)
              have HR7 := Lib.hid hr7
              have HAP7 := Lib.hid hap7
              have HO1 := Lib.hid ho1
              have HB7 := Lib.hid hb7
              clear hrg hr6 hr7 hap7 ho1 hb7 z6 z7 hzz
              go_roundw
              case rel => exact ⟨k + 1, m + 1, S', kp ++ [(r2, E)], a6, a7, c6, c7, by go_num, by omega, by omega, rfl, rfl, by have := HM.out; simp; omega, Lib.hid (by rw [Q2.out]; exact Q3.out), Lib.hid (by rw [List.map_append]; exact HO1.out), Lib.hid (by rw [List.map_append]; exact o7.out), HR7, HAP7, HB7⟩
              case measure => simp [intOf]; omega
            · obtain ⟨pr, hpr⟩ : ∃ x, x = putL S E := ⟨_, rfl⟩
              rw [← hpr] at q1 q2
              obtain ⟨r1, r2, S'⟩ := pr
              simp only at q1 q2
              subst q1
              subst q2
              have PR := Lib.hid hpr
              clear hpr
              go_wp2_with fail
              refine HEN.out.mono ?_
              rintro e w3 ⟨v3, rfl, o3, b3⟩
              obtain ⟨ae, ce, B3', rfl, s3, n3⟩ := OutAt.src o3
              have hrs3 := RS.out.below b3
              obtain ⟨Z, hone, hz1, hz2⟩ := hrs3.one
              have hz3 : BytesAt w3 Z (.slice ae ne ce) E := by rw [HNE.out]; exact ⟨ae, ce, B3', 0, rfl, s3, fun hp => hz2 B3' (s3.old hp) (.inr (n3 hp))⟩
              have hput := HSP.out.put w3 w3 Z p _ _ E hone KP.out.whole.good (by have h1 := KP.out.done; have h2 := KP.out.cap; omega) hz3 (by have := HLN.out; omega)
              rw [← PR.out] at hput
              have HPUT := Lib.hid hput
              have S3 := Lib.hid s3
              have N3 := Lib.hid n3
              have P0 := O1
              have HZ1 := Lib.hid hz1
              have HZ2 := Lib.hid hz2
              have X3 := Lib.hid (show x ≤ w3.heap.size from Nat.le_trans HXW.out b3.size)
              have P1 := Lib.hid (O1.out.below b3)
              have P2 := Lib.hid (O2.out.below b3)
              have PB1 := P1
              have PB2 := P2
              have BX := Lib.hid (BB.out.trans (b3.mono HXW.out))
              rw [← HNE.out]
              clear o3 s3 n3 hrs3 hone hz1 hz2 hz3 hput b3
              go_wp2_with fail
              refine HPUT.out.mono ?_
              rintro e w4 ⟨rfl, h4⟩
              obtain ⟨hr4, ht4, hx4⟩ := Rest.of_one h4 X3.out HZ1.out
              have R4 := Lib.hid hr4
              have T4 := Lib.hid ht4
              have X4 := Lib.hid hx4
              have P1 : Hid (TxtsOwn x w4 (.slice a1 m c1) (kp.map (·.1))) := Lib.hid (row_turn P1.out ht4 (fun g hg hz => hz (HZ2.out g (P1.out.lt g hg).2 (.inl (.inl hg)))))
              have P2 : Hid (TxtsOwn x w4 (.slice a2 m c2) (kp.map (·.2))) := Lib.hid (row_turn P2.out ht4 (fun g hg hz => hz (HZ2.out g (P2.out.lt g hg).2 (.inl (.inr hg)))))
              clear h4 hr4 ht4 hx4 HPUT
              go_wp2_with fail
              go_roundw
              case rel => exact ⟨k + 1, m, _, kp, a1, a2, c1, c2, by go_num, by omega, by omega, rfl, rfl, HM.out, Lib.hid KP.out.skip, P1, P2, Lib.hid (R4.out.mono (fun j _ hj => hj.elim (fun e => HZ2.out j (PB1.out.lt j e).2 (.inl (.inl e))) (fun e => HZ2.out j (PB2.out.lt j e).2 (.inl (.inr e))))), AP, Lib.hid (BX.out.trans X4.out)⟩
              case measure => simp [intOf]; omega
        · have i1 : ¬ (k : Int) < (N : Int) := by omega
          go_wp2_with fail
          go_meet
          exact ⟨k, m, S, kp, a1, a2, c1, c2, trivial, hk30, rfl, rfl, HM.out, KP, O1, O2, RS, AP, BB⟩
      · have i2 : ¬ (k : Int) < 30 := by omega
        by_cases hlt : k < N
        · have i1 : (k : Int) < (N : Int) := by omega
          go_wp2_with fail
          go_meet
          exact ⟨k, m, S, kp, a1, a2, c1, c2, trivial, hk30, rfl, rfl, HM.out, KP, O1, O2, RS, AP, BB⟩
        · have i1 : ¬ (k : Int) < (N : Int) := by omega
          go_wp2_with fail
          go_meet
          exact ⟨k, m, S, kp, a1, a2, c1, c2, trivial, hk30, rfl, rfl, HM.out, KP, O1, O2, RS, AP, BB⟩
  case rest =>
    obtain ⟨k, m, S, kp, a1, a2, c1, c2, -, hk30, rfl, rfl, hm, KP, O1, O2, RS, AP, BB⟩ := hcut
    have HM := Lib.hid hm
    obtain ⟨Z0, hone0, _, _⟩ := RS.out.one
    have HOP := Lib.hid hone0.ops
    have hmk : m ≤ 30 := by have := KP.out.len; omega
    clear hm hone0
    go_wp2_with fail
    refine HOP.out.mono ?_
    rintro e w3 ⟨rfl, hw3⟩
    have hw3 := hw3.symm
    subst hw3
    go_wp2_with fail
    go_loopw [14] (fun i W => ∃ (j : Nat), i = .int .i64 (j : Int) ∧ j ≤ m ∧ Hid (TxtsOwn x W (.slice a1 m c1) (kp.map (·.1))) ∧ Hid (TxtsOwn x W (.slice a2 m c2) (kp.map (·.2))) ∧ Hid (Rest x W p S (fun j => (Value.slice a1 m c1).ownBlock = some j ∨ (Value.slice a2 m c2).ownBlock = some j)) ∧ Hid (Below x w1 W)) (fun i _ => m - (intOf i).toNat)
    case atStart => exact ⟨0, rfl, Nat.zero_le _, O1, O2, RS, BB⟩
    case round =>
      clear O1 O2 RS BB HOP
      obtain ⟨j, rfl, hjm, O1, O2, RS, BB⟩ := hrel
      by_cases hlt : j < m
      · have i0 : (0 : Int) ≤ (j : Int) := by omega
        have i1 : (j : Int) < (m : Int) := by omega
        obtain ⟨y, hy⟩ : ∃ y, kp[j]? = some y := ⟨_, List.getElem?_eq_getElem (by rw [← HM.out]; exact hlt)⟩
        obtain ⟨yi, yr⟩ := y
        obtain ⟨y1, ⟨o, y2⟩, y3, y4⟩ := KP.out.each _ (List.mem_of_getElem? hy)
        simp only at y1 y2 y3 y4
        have k1 : (kp.map (·.1))[j]? = some yi := by rw [List.getElem?_map, hy]; rfl
        have k2 : (kp.map (·.2))[j]? = some yr := by rw [List.getElem?_map, hy]; rfl
        obtain ⟨G1, rfl⟩ := texts_src O1.out (by omega)
        obtain ⟨G2, rfl⟩ := texts_src O2.out (by omega)
        have e1 := texts_cell O1.out k1
        have e2 := texts_cell O2.out k2
        have K1 := Lib.hid k1
        have K2 := Lib.hid k2
        obtain ⟨Z, hone, hz1, hz2⟩ := RS.out.one
        have hget := HSP.out.get wr wr Z p S yi hone KP.out.whole.good (by rw [y1, sumL_length]; omega)
        rw [y4] at hget
        have hpu : putL S yr = (0, yi, S) := by rw [y1]; exact put_again y2 (by rw [← y1]; exact y4)
        obtain ⟨ny, hny⟩ : ∃ n, n = yr.length := ⟨_, rfl⟩
        have hsz := SL_size yr
        rw [← hny] at hsz
        have hcv := fun W => Lib.run_convert_string_bytes (P := Tryz.prog) W 9 29 5 (SL yr) Tryz.underlying9 Tryz.underlying29 Tryz.underlying5
        have HGT := Lib.hid hget
        have PU := Lib.hid hpu
        have HNY := Lib.hid hny
        have Y3 := Lib.hid y3
        have XR := Lib.hid (show x ≤ wr.heap.size by have := BB.out.size; have := HX.out; omega)
        clear hone hz1 hz2 hget hpu hny y1 y2 y3 y4 hy k1 k2
        go_wp2_with fail
        refine HGT.out.mono ?_
        rintro e w4 ⟨a4, c4, B4, o4, rfl, s4, n4, b4⟩
        rw [show (0, yr).2.length = ny from HNY.out.symm]
        have P1 := Lib.hid (O1.out.below b4)
        have P2 := Lib.hid (O2.out.below b4)
        have R4 := Lib.hid (RS.out.below b4)
        have S4 := Lib.hid s4
        have N4 := Lib.hid n4
        have B4' := Lib.hid b4
        have e1 := texts_cell P1.out K1.out
        have e2 := texts_cell P2.out K2.out
        clear b4 s4 n4 HGT
        go_wp2_with fail
        obtain ⟨W5, hW5⟩ : ∃ W, W = Lib.bytesWorld w4 5 (SL yr) := ⟨_, rfl⟩
        have hb5 : Below w4.heap.size w4 W5 := by rw [hW5]; exact below_bytesWorld w4 (SL yr)
        have hs5 : SrcAt W5 (some ⟨w4.heap.size, 0, none⟩) (grownCap w4 ny 0 5) yr w4.heap.size 0 := by
          have := src_bytesWorld w4 (SL yr) (by rw [SL_size, ← HNY.out]; have := Y3.out; have := HNY.out; unfold maxLen; omega)
          rw [hsz, ← hW5] at this
          exact this
        rw [← hW5]
        obtain ⟨Z, hone, hz1, hz2⟩ := (R4.out.below hb5).one
        have hput := HSP.out.put W5 W5 Z p S (.slice (some ⟨w4.heap.size, 0, none⟩) ny (grownCap w4 ny 0 5)) yr hone KP.out.whole.good (by have h1 := KP.out.done; have h2 := KP.out.cap; omega) (by rw [HNY.out]; exact ⟨_, _, _, 0, rfl, by rw [← HNY.out]; exact hs5, fun hp => hz2 _ (hs5.old hp) (.inr (Nat.le_refl _))⟩) (by have := Y3.out; omega)
        rw [PU.out] at hput
        have HPUT := Lib.hid hput
        have X5 := Lib.hid (show x ≤ W5.heap.size by have := hb5.size; have := B4'.out.size; have := XR.out; omega)
        have HZ1 := Lib.hid hz1
        have HZ2 := Lib.hid hz2
        have B5 := Lib.hid hb5
        have P1 := Lib.hid (P1.out.below hb5)
        have P2 := Lib.hid (P2.out.below hb5)
        have S5 := Lib.hid (S4.out.below hb5)
        have QB1 := P1
        have QB2 := P2
        clear hone hput hz1 hz2 hb5 hW5 hs5 e1 e2 hcv
        refine HPUT.out.mono ?_
        rintro e w6 ⟨rfl, h6⟩
        obtain ⟨hr6, ht6, hx6⟩ := Rest.of_one h6 X5.out HZ1.out
        have R6 := Lib.hid hr6
        have S6 := S5.out.turn ht6 (fun hp hz => hz (HZ2.out B4 (S5.out.old hp) (.inl (.inr (N4.out hp)))))
        have cvb := convert_src S6
        rw [show (0, yr).2.length = ny from HNY.out.symm] at cvb
        have cvd : (convert 29 9 (.slice a4 ny c4)).run Tryz.prog w6.drew = .ok (.string (SL yr)) w6.drew := by
          have := convert_src (S6.below (Below.refl w6.heap.size w6).drew)
          rw [show (0, yr).2.length = ny from HNY.out.symm] at this
          exact this
        have P1 : Hid (TxtsOwn x w6 (.slice (some ⟨G1, 0, none⟩) m c1) (kp.map (·.1))) := Lib.hid (row_turn P1.out ht6 (fun g hg hz => hz (HZ2.out g (P1.out.lt g hg).2 (.inl (.inl (.inl hg))))))
        have P2 : Hid (TxtsOwn x w6 (.slice (some ⟨G2, 0, none⟩) m c2) (kp.map (·.2))) := Lib.hid (row_turn P2.out ht6 (fun g hg hz => hz (HZ2.out g (P2.out.lt g hg).2 (.inl (.inl (.inr hg))))))
        have e1 := texts_cell P1.out K1.out
        have e2 := texts_cell P2.out K2.out
        have X6 := Lib.hid hx6
        clear h6 hr6 ht6 hx6 S6 HPUT
        go_wp2_with fail
        have d1 : w6.drew.cell? ⟨G1, j, none⟩ = some (.string (SL yi)) := e1
        have d2 : w6.drew.cell? ⟨G2, j, none⟩ = some (.string (SL yr)) := e2
        first
          | go_region_held3 (fun W => W.cell? ⟨G1, j, none⟩ = some (.string (SL yi)) ∧ W.cell? ⟨G2, j, none⟩ = some (.string (SL yr)) ∧ (convert 29 9 (.slice a4 ny c4)).run Tryz.prog W = .ok (.string (SL yr)) W) (first | exact ⟨d1, d2, cvd⟩) (fail)
          | fail "region"
        go_wp2_with fail
        go_roundw
        case rel => exact ⟨j + 1, by go_num, by omega, Lib.hid (P1.out.below ((Below.refl _ _).drew)), Lib.hid (P2.out.below ((Below.refl _ _).drew)), Lib.hid ((R6.out.below ((Below.refl _ _).drew)).mono (fun k _ hk => .inl (hk.elim (fun e => HZ2.out k (QB1.out.lt k e).2 (.inl (.inl (.inl e)))) (fun e => HZ2.out k (QB2.out.lt k e).2 (.inl (.inl (.inr e))))))), Lib.hid ((((BB.out.trans (B4'.out.mono XR.out)).trans (B5.out.mono (by have := B4'.out.size; have := XR.out; omega))).trans X6.out).trans (((Below.refl _ _).drew).mono (by have := X6.out.size; have := X5.out; omega)))⟩
        case measure => simp [intOf]; omega
      · have i1 : ¬ (j : Int) < (m : Int) := by omega
        obtain ⟨Z, hone, _, _⟩ := RS.out.one
        have HOP := Lib.hid hone.ops
        clear hone
        go_wp2_with fail
        refine HOP.out.mono ?_
        rintro e w3 ⟨rfl, hw3⟩
        have hw3 := hw3.symm
        subst hw3
        go_wp2_with fail
        go_ret
        exact ⟨rfl, B1.out.trans (BB.out.mono (by have := HX.out; have := B1.out.size; omega))⟩
end Go.Proofs.YtomgijcbekjlaaaGreat
namespace Go.Proofs.YtomgijcbekjlaaaGreat
open Go.RowKit
theorem and_65535 (c : Int) : ∃ q : Nat, bits .and .i64 c 65535 = (q : Int) ∧ q ≤ 65535 := by
  have hw : bits .and .i64 c 65535 = IntKind.i64.wrap (((BitVec.ofInt 64 c) &&& (BitVec.ofInt 64 65535)).toNat : Int) := rfl
  have hle : ((BitVec.ofInt 64 c) &&& (BitVec.ofInt 64 65535)).toNat ≤ 65535 := by
    rw [BitVec.toNat_and]
    exact Nat.and_le_right
  refine ⟨_, ?_, hle⟩
  rw [hw]
  exact IntWalk.i64_in _ (by omega)
set_option maxRecDepth 100000 in
set_option maxHeartbeats 16000000 in
theorem drops_any (SP : LooseSpec) (F : Nat → Prop) (v : Value) (l : List ObjV) (z : Int) (w : World) (h : ObjsAt w F v l) :
    Calls Tryz.prog 7 #[v, .int .i64 z] w fun e w' => e = .returned (.bool true) ∧ Below w.heap.size w w' := by
  obtain ⟨ao, cap, g, off, rfl, hlm, hsrc, hrow⟩ := h
  obtain ⟨N, hN⟩ : ∃ N, N = l.length := ⟨_, rfl⟩
  have hrows := fun (W : World) (hb : Below w.heap.size w W) (k : Nat) (r : ObjV) (hk : l[k]? = some r) => (hrow k r hk).turn (hsrc (by have := (List.getElem?_eq_some_iff.1 hk).1; omega)).2.2 (Turn.of_below (fun _ => False) hb) (fun _ _ h => h)
  have hsr := fun (hp : 0 < N) => (hsrc (by omega)).1
  have hNb : N ≤ 9223372036854775807 := by rw [hN]; unfold maxLen at hlm; omega
  have HROW := Lib.hid hrows
  have HSR := Lib.hid hsr
  have HN := Lib.hid hN
  have HAW := Lib.hid (fun W => awake_any SP W)
  have HSP := Lib.hid SP
  have HNW := Lib.hid (fun W => one_new W 1099511627776 (by decide))
  rw [← hN]
  obtain ⟨zq, hzq, hzl⟩ := and_65535 z
  clear hrows hsrc hrow hsr SP hlm hN
  go_enter Tryz.func7, Tryz.ntmps7
  go_wp2_with fail
  refine (HAW.out w).mono ?_
  rintro e w1 ⟨rfl, b1⟩
  have B1 := Lib.hid b1
  clear b1
  go_wp2_with fail
  refine (HNW.out w1).mono ?_
  rintro e w2 ⟨p, rfl, h2⟩
  obtain ⟨hr2, hb2⟩ := rest_new h2
  obtain ⟨x, hx⟩ : ∃ x, x = w1.heap.size := ⟨_, rfl⟩
  rw [← hx] at hr2 hb2
  have hxw : x ≤ w2.heap.size := by have := hb2.size; omega
  have R2 := Lib.hid hr2
  have B2 := Lib.hid hb2
  have HX := Lib.hid hx
  clear h2 hr2 hb2 hx
  go_upto_block 0 with fail
  go_cut [8] from 9 to 51 (fun s8 W => ∃ (k : Nat) (S : St) (kp : List (OB × OB)), s8 = s8 ∧ k ≤ 30 ∧ Hid (Kept S kp k) ∧ Hid (Rest x W p S (fun _ => False)) ∧ Hid (Below x w1 W))
  case first =>
    go_wp2_with fail
    go_loopw [8] (fun i W => ∃ (k : Nat) (S : St) (kp : List (OB × OB)), i = .int .i64 (k : Int) ∧ k ≤ N ∧ k ≤ 30 ∧ Hid (Kept S kp k) ∧ Hid (Rest x W p S (fun _ => False)) ∧ Hid (Below x w1 W)) (fun i _ => N - (intOf i).toNat)
    case atStart => exact ⟨0, newS 1099511627776, [], rfl, Nat.zero_le _, Nat.zero_le _, Lib.hid kept_new, Lib.hid (R2.out.mono (fun j _ h => h.elim)), B2⟩
    case round =>
      clear R2 B2
      obtain ⟨k, S, kp, rfl, hkN, hk30, KP, RS, BB⟩ := hrel
      by_cases h30 : k < 30
      · by_cases hlt : k < N
        · have i0 : (0 : Int) ≤ (k : Int) := by omega
          have i1 : (k : Int) < (N : Int) := by omega
          have i2 : (k : Int) < 30 := by omega
          obtain ⟨r, hr⟩ : ∃ r, l[k]? = some r := ⟨_, List.getElem?_eq_getElem (by rw [← HN.out]; exact hlt)⟩
          obtain rfl := HSR.out (by omega)
          have hbw : Below w.heap.size w wr := B1.out.trans (BB.out.mono (by have := HX.out; have := B1.out.size; omega))
          have hro := HROW.out wr hbw k r hr
          have e0 := hro.cell 0 _ rfl
          have e1 := hro.cell 1 _ rfl
          have e2 := hro.cell 2 _ rfl
          have e3 := hro.cell 3 _ rfl
          have e4 := hro.cell 4 _ rfl
          have e5 := hro.cell 5 _ rfl
          have e6 := hro.cell 6 _ rfl
          have e7 := hro.cell 7 _ rfl
          have e8 := hro.cell 8 _ rfl
          have e9 := hro.cell 9 _ rfl
          rw [Nat.add_zero] at e0
          have hen := encode_any F r.o r.dv r.ev r.uv wr hro.holds
          unfold objV at hen
          have BW := Lib.hid hbw
          clear hro hbw
          have HXW := Lib.hid (show x ≤ wr.heap.size by have := BB.out.size; have := HX.out; omega)
          cases hok : okO r.o with
          | false =>
            have ee : errO r.o = 1 := by unfold errO; rw [hok]; rfl
            rw [ee] at hen
            have HEN := Lib.hid hen
            clear hen hok ee hr
            go_wp2_with fail
            refine HEN.out.mono ?_
            rintro e w3 ⟨v3, rfl, _, b3⟩
            have B3 := Lib.hid b3
            clear b3
            go_wp2_with fail
            go_roundw
            case rel => exact ⟨k + 1, S, kp, by go_num, by omega, by omega, Lib.hid KP.out.skip, Lib.hid ((RS.out.below B3.out).mono (fun _ _ h => .inl h)), Lib.hid (BB.out.trans (B3.out.mono HXW.out))⟩
            case measure => simp [intOf]; omega
          | true =>
            have ee : errO r.o = 0 := by unfold errO; rw [hok]; rfl
            have eb : bytesO r.o = encO r.o := by unfold bytesO; rw [hok]; rfl
            have hlen := enc_length hok
            have hdec := dec_enc hok
            rw [ee, eb] at hen
            obtain ⟨E, hE⟩ : ∃ l, l = encO r.o := ⟨_, rfl⟩
            rw [← hE] at hen hlen hdec
            obtain ⟨ne, hne⟩ : ∃ n, n = E.length := ⟨_, rfl⟩
            have HEN := Lib.hid hen
            have HNE := Lib.hid hne
            have HLN := Lib.hid hlen
            have hkp := KP.out.put (by omega) hdec hlen
            clear hen hok ee eb hE hne hr hdec hlen
            rcases hkp with ⟨q1, q2, q3⟩ | ⟨q1, q2⟩
            · obtain ⟨pr, hpr⟩ : ∃ x, x = putL S E := ⟨_, rfl⟩
              rw [← hpr] at q1 q2 q3
              obtain ⟨r1, r2, S'⟩ := pr
              simp only at q1 q2 q3
              subst q1
              have PR := Lib.hid hpr
              have Q3 := Lib.hid q3
              clear hpr q2 q3
              go_wp2_with fail
              refine HEN.out.mono ?_
              rintro e w3 ⟨v3, rfl, o3, b3⟩
              obtain ⟨ae, ce, B3', rfl, s3, n3⟩ := OutAt.src o3
              have hrs3 := RS.out.below b3
              obtain ⟨Z, hone, hz1, hz2⟩ := hrs3.one
              have hz3 : BytesAt w3 Z (.slice ae ne ce) E := by rw [HNE.out]; exact ⟨ae, ce, B3', 0, rfl, s3, fun hp => hz2 B3' (s3.old hp) (.inr (n3 hp))⟩
              have hput := HSP.out.put w3 w3 Z p _ _ E hone KP.out.whole.good (by have h1 := KP.out.done; have h2 := KP.out.cap; omega) hz3 (by have := HLN.out; omega)
              rw [← PR.out] at hput
              have HPUT := Lib.hid hput
              have HZ1 := Lib.hid hz1
              have X3 := Lib.hid (show x ≤ w3.heap.size from Nat.le_trans HXW.out b3.size)
              have BX := Lib.hid (BB.out.trans (b3.mono HXW.out))
              rw [← HNE.out]
              clear o3 s3 n3 hrs3 hone hz1 hz2 hz3 hput b3
              go_wp2_with fail
              refine HPUT.out.mono ?_
              rintro e w4 ⟨rfl, h4⟩
              obtain ⟨hr4, ht4, hx4⟩ := Rest.of_one h4 X3.out HZ1.out
              have R4 := Lib.hid hr4
              have X4 := Lib.hid hx4
              clear h4 hr4 ht4 hx4 HPUT
              go_wp2_with fail
              go_roundw
              case rel => exact ⟨k + 1, S', _, by go_num, by omega, by omega, Q3, Lib.hid (R4.out.mono (fun _ _ h => h.elim)), Lib.hid (BX.out.trans X4.out)⟩
              case measure => simp [intOf]; omega
            · obtain ⟨pr, hpr⟩ : ∃ x, x = putL S E := ⟨_, rfl⟩
              rw [← hpr] at q1 q2
              obtain ⟨r1, r2, S'⟩ := pr
              simp only at q1 q2
              subst q1
              subst q2
              have PR := Lib.hid hpr
              clear hpr
              go_wp2_with fail
              refine HEN.out.mono ?_
              rintro e w3 ⟨v3, rfl, o3, b3⟩
              obtain ⟨ae, ce, B3', rfl, s3, n3⟩ := OutAt.src o3
              have hrs3 := RS.out.below b3
              obtain ⟨Z, hone, hz1, hz2⟩ := hrs3.one
              have hz3 : BytesAt w3 Z (.slice ae ne ce) E := by rw [HNE.out]; exact ⟨ae, ce, B3', 0, rfl, s3, fun hp => hz2 B3' (s3.old hp) (.inr (n3 hp))⟩
              have hput := HSP.out.put w3 w3 Z p _ _ E hone KP.out.whole.good (by have h1 := KP.out.done; have h2 := KP.out.cap; omega) hz3 (by have := HLN.out; omega)
              rw [← PR.out] at hput
              have HPUT := Lib.hid hput
              have HZ1 := Lib.hid hz1
              have X3 := Lib.hid (show x ≤ w3.heap.size from Nat.le_trans HXW.out b3.size)
              have BX := Lib.hid (BB.out.trans (b3.mono HXW.out))
              rw [← HNE.out]
              clear o3 s3 n3 hrs3 hone hz1 hz2 hz3 hput b3
              go_wp2_with fail
              refine HPUT.out.mono ?_
              rintro e w4 ⟨rfl, h4⟩
              obtain ⟨hr4, ht4, hx4⟩ := Rest.of_one h4 X3.out HZ1.out
              have R4 := Lib.hid hr4
              have X4 := Lib.hid hx4
              clear h4 hr4 ht4 hx4 HPUT
              go_wp2_with fail
              go_roundw
              case rel => exact ⟨k + 1, _, kp, by go_num, by omega, by omega, Lib.hid KP.out.skip, Lib.hid (R4.out.mono (fun _ _ h => h.elim)), Lib.hid (BX.out.trans X4.out)⟩
              case measure => simp [intOf]; omega
        · have i1 : ¬ (k : Int) < (N : Int) := by omega
          go_wp2_with fail
          go_meet
          exact ⟨k, S, kp, trivial, hk30, KP, RS, BB⟩
      · have i2 : ¬ (k : Int) < 30 := by omega
        by_cases hlt : k < N
        · have i1 : (k : Int) < (N : Int) := by omega
          go_wp2_with fail
          go_meet
          exact ⟨k, S, kp, trivial, hk30, KP, RS, BB⟩
        · have i1 : ¬ (k : Int) < (N : Int) := by omega
          go_wp2_with fail
          go_meet
          exact ⟨k, S, kp, trivial, hk30, KP, RS, BB⟩
  case rest =>
    obtain ⟨k, S, kp, -, hk30, KP, RS, BB⟩ := hcut
    have KG := Lib.hid KP.out.whole.good
    obtain ⟨Z0, hone, _, _⟩ := RS.out.one
    have hids := HSP.out.ids wc wc Z0 p S hone KG.out
    obtain ⟨L, hL⟩ : ∃ L, L = idsL S.fs := ⟨_, rfl⟩
    rw [← hL] at hids
    have HI := Lib.hid hids
    have HLL := Lib.hid hL
    have XC := Lib.hid (show x ≤ wc.heap.size by have := BB.out.size; have := HX.out; omega)
    clear hone hids hL
    go_wp2_with fail
    refine HI.out.mono ?_
    rintro e w3 ⟨v3, rfl, o3, b3⟩
    obtain ⟨a1, c1, rfl⟩ := texts_form o3
    obtain ⟨m, hm⟩ : ∃ m, m = L.length := ⟨_, rfl⟩
    rw [← hm] at o3 ⊢
    have O3 := Lib.hid o3
    have HM := Lib.hid hm
    have B3 := Lib.hid b3
    have R3 := Lib.hid ((RS.out.below b3).mono (G' := fun k => wc.heap.size ≤ k) (fun _ _ h => .inr h))
    have BB3 := Lib.hid (BB.out.trans (b3.mono XC.out))
    clear o3 b3 RS HI hm
    by_cases h0 : m = 0
    · have i0 : ((m : Int) == 0) = true := by rw [h0]; rfl
      go_wp2_with fail
      go_ret
      exact ⟨rfl, B1.out.trans (BB3.out.mono (by have := HX.out; have := B1.out.size; omega))⟩
    · have i0 : ((m : Int) == 0) = false := by simp; omega
      obtain ⟨t, ht⟩ : ∃ t, t = zq % m := ⟨_, rfl⟩
      have htm : t < m := by rw [ht]; exact Nat.mod_lt _ (by omega)
      have hrem : (zq : Int) % (m : Int) = (t : Int) := by rw [ht]; rfl
      obtain ⟨id, hid⟩ : ∃ id, L[t]? = some id := ⟨_, List.getElem?_eq_getElem (by rw [← HM.out]; exact htm)⟩
      have hmem : id ∈ idsL S.fs := by rw [← HLL.out]; exact List.mem_of_getElem? hid
      obtain ⟨hi, b, hf⟩ := ids_mem KG.out.rise hmem
      obtain ⟨raw, o, q1, q2, q3, q4, q5⟩ := KP.out.whole.got hi hf
      obtain ⟨S2, d1, d2, d3, d4, d5, d6⟩ := KP.out.whole.drop hi hf
      obtain ⟨e1, e2⟩ := ids_del KG.out.rise hi hf
      rw [← d3] at e1 e2
      have hg6 : getL S2.fs id = (6, []) := getL_none hi (by rw [d3]; exact findF_del_same KG.out.rise)
      obtain ⟨S3, p1, p2, p3⟩ := Whole.put_back KP.out.whole d2 (raw := raw) q1 q2 (by rw [q3, hf, q4]) (by rw [q3]; exact d3) (by have h1 := KP.out.cost; have h2 := KP.out.cap; omega)
      rw [q3] at p1
      have hids3 : idsL S3.fs = L := by rw [p3]; exact HLL.out.symm
      have hdone : S2.done + S2.cap + 10 ≤ 4000000000000000 := by have h1 := KP.out.done; have h2 := KP.out.cap; omega
      have hdone1 : S.done ≤ 4000000000000000 := by have h1 := KP.out.done; omega
      obtain ⟨G1, rfl⟩ := texts_src O3.out (by omega)
      have c1t := texts_cell O3.out hid
      obtain ⟨nr, hnr⟩ : ∃ n, n = raw.length := ⟨_, rfl⟩
      obtain ⟨L2, hL2⟩ : ∃ L, L = idsL S2.fs := ⟨_, rfl⟩
      obtain ⟨m2, hm2⟩ : ∃ n, n = L2.length := ⟨_, rfl⟩
      have hmb : m2 ≤ 9000000000000 := by
        have h1 := d2.good.many
        have h2 : (idsL S2.fs).length ≤ S2.fs.length := List.length_filterMap_le _ _
        rw [hm2, hL2]
        omega
      have hmm : m = m2 + 1 := by rw [hm2, hL2, HM.out, HLL.out]; exact e1
      obtain ⟨Z, hone, hz1, hz2⟩ := R3.out.one
      have hget := HSP.out.get w3 w3 Z p S id hone KG.out (by omega)
      rw [q5] at hget
      have HGT := Lib.hid hget
      have HI32 := Lib.hid hi
      have HID := Lib.hid hid
      have HNR := Lib.hid hnr
      have HQ2 := Lib.hid q2
      have HD1 := Lib.hid d1
      have HD2 := Lib.hid d2
      have HE2 := Lib.hid e2
      have HG6 := Lib.hid hg6
      have HP1 := Lib.hid p1
      have HP2 := Lib.hid p2
      have HI3 := Lib.hid hids3
      have HDN := Lib.hid hdone
      have HDN1 := Lib.hid hdone1
      have HL2 := Lib.hid hL2
      have HM2 := Lib.hid hm2
      have HMM := Lib.hid hmm
      have X3 := Lib.hid (show x ≤ w3.heap.size from Nat.le_trans XC.out B3.out.size)
      clear ht hmem hf q1 q2 q3 q4 q5 d1 d2 d3 d4 d5 d6 e1 e2 hg6 p1 p2 p3 hids3 hdone hdone1 hone hz1 hz2 hget hi hid hnr hL2 hm2 hmm
      go_wp2_with fail
      refine HGT.out.mono ?_
      rintro e w4 ⟨a4, c4, B4, o4, rfl, s4, n4, b4⟩
      rw [show (0, raw).2.length = nr from HNR.out.symm]
      have R4 : Hid (Rest x w4 p S (fun k => wc.heap.size ≤ k)) := Lib.hid ((R3.out.below b4).mono (fun _ _ h => .inl h))
      have O4 := Lib.hid (O3.out.below b4)
      have S4 := Lib.hid s4
      have N4 : Hid (0 < raw.length → wc.heap.size ≤ B4) := Lib.hid (fun hp => Nat.le_trans B3.out.size (n4 hp))
      have X4 := Lib.hid (show x ≤ w4.heap.size from Nat.le_trans X3.out b4.size)
      have BB4 := Lib.hid (BB3.out.trans (b4.mono X3.out))
      have Z34 := Lib.hid b4.size
      obtain ⟨Z, hone, hz1, hz2⟩ := R4.out.one
      have hdrop := HSP.out.drop w4 w4 Z p S id hone KG.out HDN1.out (by have := HI32.out; omega)
      rw [HD1.out] at hdrop
      have HDR := Lib.hid hdrop
      have HZ1 := Lib.hid hz1
      have HZ2 := Lib.hid hz2
      clear b4 s4 n4 hone hz1 hz2 hdrop HGT
      go_wp2_with fail
      refine HDR.out.mono ?_
      rintro e w5 ⟨rfl, h5⟩
      obtain ⟨hr5, ht5, hx5⟩ := Rest.of_one h5 X4.out HZ1.out
      have hr5' := hr5.mono (G' := fun k => wc.heap.size ≤ k ∧ k < w4.heap.size) (fun k _ h => HZ2.out k h.2 h.1)
      have R5 := Lib.hid hr5'
      have O5 : Hid (TxtsOwn wc.heap.size w5 (.slice (some ⟨G1, 0, none⟩) m c1) L) := Lib.hid (row_turn O4.out ht5 (fun g hg hz => hz (HZ2.out g (O4.out.lt g hg).2 (O4.out.lt g hg).1)))
      have S5 := Lib.hid (S4.out.turn ht5 (fun hp hz => hz (HZ2.out B4 (S4.out.old hp) (N4.out hp))))
      have X5 := Lib.hid (show x ≤ w5.heap.size by have := hx5.size; have := X4.out; omega)
      have BB5 := Lib.hid (BB4.out.trans hx5)
      have W45 := Lib.hid hx5.size
      obtain ⟨Z, hone, _, _⟩ := R5.out.one
      have hget := HSP.out.get w5 w5 Z p S2 id hone HD2.out.good (by have := HI32.out; omega)
      rw [HG6.out] at hget
      have HGT := Lib.hid hget
      clear h5 hr5 hr5' ht5 hx5 hone hget HDR HZ1 HZ2
      go_wp2_with fail
      refine HGT.out.mono ?_
      rintro e w6 ⟨a6, c6, B6, o6, rfl, _, _, b6⟩
      have R6 := Lib.hid (R5.out.below b6)
      have O6 := Lib.hid (O5.out.below b6)
      have S6 := Lib.hid (S5.out.below b6)
      have X6 := Lib.hid (show x ≤ w6.heap.size from Nat.le_trans X5.out b6.size)
      have BB6 := Lib.hid (BB5.out.trans (b6.mono X5.out))
      obtain ⟨Z, hone, _, _⟩ := R6.out.one
      have hids := HSP.out.ids w6 w6 Z p S2 hone HD2.out.good
      rw [← HL2.out] at hids
      have HI := Lib.hid hids
      clear b6 hone hids HGT
      go_wp2_with fail
      refine HI.out.mono ?_
      rintro e w7 ⟨v7, rfl, o7, b7⟩
      obtain ⟨a7, c7, rfl⟩ := texts_form o7
      rw [← HM2.out] at o7 ⊢
      have R7 : Hid (Rest x w7 p S2 (fun k => wc.heap.size ≤ k ∧ k < w4.heap.size)) := Lib.hid ((R6.out.below b7).mono (fun _ _ h => .inl (.inl h)))
      have O7 := Lib.hid (O6.out.below b7)
      have P7 := Lib.hid o7
      have S7 := Lib.hid (S6.out.below b7)
      have X7 := Lib.hid (show x ≤ w7.heap.size from Nat.le_trans X6.out b7.size)
      have BB7 := Lib.hid (BB6.out.trans (b7.mono X6.out))
      clear b7 o7 HI
      go_wp2_with fail
      go_loopw [19] (fun i W => ∃ (j : Nat), i = .int .i64 (j : Int) ∧ j ≤ m2 ∧ Hid (Below w7.heap.size w7 W)) (fun i _ => m2 - (intOf i).toNat)
      case atStart => exact ⟨0, rfl, Nat.zero_le _, Lib.hid (Below.refl _ _)⟩
      case round =>
        obtain ⟨j, rfl, hjm, BW⟩ := hrel
        have RW := Lib.hid ((R7.out.below BW.out).mono (G' := fun k => wc.heap.size ≤ k ∧ k < w4.heap.size) (fun _ _ h => .inl h))
        by_cases hlt : j < m2
        · have i1 : (j : Int) < (m2 : Int) := by omega
          have j0 : (0 : Int) ≤ (j : Int) := by omega
          obtain ⟨id', hid'⟩ : ∃ y, L2[j]? = some y := ⟨_, List.getElem?_eq_getElem (by rw [← HM2.out]; exact hlt)⟩
          have hm' : id' ∈ idsL S2.fs := by rw [← HL2.out]; exact List.mem_of_getElem? hid'
          obtain ⟨hi', b', hf'⟩ := ids_mem HD2.out.good.rise hm'
          obtain ⟨raw', o', _, _, _, _, q5⟩ := HD2.out.got hi' hf'
          have hne : id' ≠ id := fun e => HE2.out (by rw [← e]; exact hm')
          have hq : ((SL id').toList == (SL id).toList) = false := by rw [SL_toList, SL_toList]; exact beq_eq_false_iff_ne.2 hne
          obtain ⟨G7, rfl⟩ := texts_src P7.out (by omega)
          have c7t := texts_cell (P7.out.below BW.out) hid'
          obtain ⟨Z, hone, _, _⟩ := RW.out.one
          have hget := HSP.out.get wr wr Z p S2 id' hone HD2.out.good (by omega)
          rw [q5] at hget
          obtain ⟨nx, hnx⟩ : ∃ n, n = raw'.length := ⟨_, rfl⟩
          have HGT := Lib.hid hget
          have HNX := Lib.hid hnx
          have HJ := Lib.hid hid'
          clear hm' hi' hf' q5 hne hone hget hnx hid'
          go_wp2_with fail
          refine HGT.out.mono ?_
          rintro e w8 ⟨a8, c8, B8', o8, rfl, _, _, b8⟩
          rw [show (0, raw').2.length = nx from HNX.out.symm]
          have BW8 := Lib.hid (BW.out.trans (b8.mono BW.out.size))
          have c7t := texts_cell ((P7.out.below BW.out).below b8) HJ.out
          clear b8 HGT
          go_wp2_with fail
          go_roundw
          case rel => exact ⟨j + 1, by go_num, by omega, BW8⟩
          case measure => simp [intOf]; omega
        · have i1 : ¬ (j : Int) < (m2 : Int) := by omega
          have hq2 : wrap64 ((m : Int) - 1) = (m2 : Int) := by rw [show (m : Int) - 1 = (m2 : Int) by have := HMM.out; omega]; exact IntWalk.wrap64_in _ ⟨by omega, by omega⟩
          obtain ⟨Z, hone, hz1, hz2⟩ := RW.out.one
          have S8 := Lib.hid (S7.out.below BW.out)
          have O8 := Lib.hid (O7.out.below BW.out)
          have B4lt : 0 < raw.length → B4 < w4.heap.size := fun hp => S4.out.old hp
          have hput := HSP.out.put wr wr Z p S2 (.slice a4 nr c4) raw hone HD2.out.good HDN.out (by rw [HNR.out]; exact ⟨a4, c4, B4, o4, rfl, S8.out, fun hp => hz2 B4 (S8.out.old hp) ⟨N4.out hp, B4lt hp⟩⟩) (by have := HQ2.out; omega)
          rw [HP1.out] at hput
          have HPUT := Lib.hid hput
          have HZ1 := Lib.hid hz1
          have HZ2 := Lib.hid hz2
          have X8 := Lib.hid (show x ≤ wr.heap.size by have := BW.out.size; have := X7.out; omega)
          clear hone hz1 hz2 hput B4lt
          go_wp2_with fail
          refine HPUT.out.mono ?_
          rintro e w9 ⟨rfl, h9⟩
          obtain ⟨hr9, ht9, hx9⟩ := Rest.of_one h9 X8.out HZ1.out
          have O9 : Hid (TxtsOwn wc.heap.size w9 (.slice (some ⟨G1, 0, none⟩) m c1) L) := Lib.hid (row_turn O8.out ht9 (fun g hg hz => hz (HZ2.out g (O8.out.lt g hg).2 ⟨(O3.out.lt g hg).1, by have := (O3.out.lt g hg).2; have := Z34.out; omega⟩)))
          obtain ⟨Z', hone, _, _⟩ := hr9.one
          have hids := HSP.out.ids w9 w9 Z' p S3 hone HP2.out
          rw [HI3.out] at hids
          have HI := Lib.hid hids
          have X9 := Lib.hid hx9
          clear h9 hr9 ht9 hx9 hone hids HPUT HZ1 HZ2
          go_wp2_with fail
          refine HI.out.mono ?_
          rintro e w10 ⟨v10, rfl, o10, b10⟩
          have hst := refSameTexts_any _ _ v10 (.slice (some ⟨G1, 0, none⟩) m c1) L L w10 (TextsAt.of_own (F := fun _ => True) o10 (fun _ _ => trivial)) (TextsAt.of_own (F := fun _ => True) (by have := O9.out.below b10; rw [HM.out] at this; rw [HM.out]; exact this) (fun _ _ => trivial)) (by rw [← HM.out]; have := HMM.out; omega)
          rw [decide_eq_true rfl] at hst
          have HST := Lib.hid hst
          have B10 := Lib.hid (X9.out.trans (b10.mono (by have := X9.out.size; have := X8.out; omega)))
          clear b10 o10 hst HI
          go_wp2_with fail
          refine HST.out.mono ?_
          rintro e w11 ⟨rfl, mm, rfl⟩
          go_wp2_with fail
          go_ret
          exact ⟨rfl, (B1.out.trans (((BB7.out.trans (BW.out.mono X7.out)).trans B10.out).mono (by have := HX.out; have := B1.out.size; omega))).trans (below_drewN (Below.refl _ _) _)⟩
end Go.Proofs.YtomgijcbekjlaaaGreat
namespace Go.Proofs.YtomgijcbekjlaaaGreat
open Go.RowKit
theorem and_63 (c : Int) : ∃ q : Nat, bits .and .i64 c 63 = (q : Int) ∧ q ≤ 63 := by
  have hw : bits .and .i64 c 63 = IntKind.i64.wrap (((BitVec.ofInt 64 c) &&& (BitVec.ofInt 64 63)).toNat : Int) := rfl
  have hle : ((BitVec.ofInt 64 c) &&& (BitVec.ofInt 64 63)).toNat ≤ 63 := by
    rw [BitVec.toNat_and]
    exact Nat.and_le_right
  refine ⟨_, ?_, hle⟩
  rw [hw]
  exact IntWalk.i64_in _ (by omega)
set_option maxRecDepth 100000 in
set_option maxHeartbeats 16000000 in
theorem looseCut_any (SP : LooseSpec) (F : Nat → Prop) (v : Value) (l : List ObjV) (G : Nat → Prop) (o : ObjR) (dv ev uv : Value) (z : Int) (w : World) (h : ObjsAt w F v l) (ho : ObjIn w G o dv ev uv) :
    Calls Tryz.prog 5 #[v, objV o dv ev uv, .int .i64 z] w fun e w' => e = .returned (.bool true) ∧ Below w.heap.size w w' := by
  obtain ⟨zq, hzq, hzl⟩ := and_63 z
  have heo := fun (W : World) (hb : Below w.heap.size w W) => encode_any G o dv ev uv W (ho.turn (Turn.of_below (fun _ => False) hb) (fun _ _ h => h))
  obtain ⟨a1, c1, B1, o1, rfl, _⟩ := ho.data
  obtain ⟨a2, c2, g2, o2, rfl, _⟩ := ho.ents
  obtain ⟨a3, c3, g3, o3, rfl, _⟩ := ho.ups
  unfold objV at heo ⊢
  obtain ⟨n1, hn1⟩ : ∃ n, n = o.data.length := ⟨_, rfl⟩
  obtain ⟨n2, hn2⟩ : ∃ n, n = o.ents.length := ⟨_, rfl⟩
  obtain ⟨n3, hn3⟩ : ∃ n, n = o.ups.length := ⟨_, rfl⟩
  obtain ⟨K, hK⟩ : ∃ k, k = o.kind := ⟨_, rfl⟩
  rw [← hn1, ← hn2, ← hn3, ← hK] at heo ⊢
  obtain ⟨W1, hW1⟩ : ∃ W1, W1 = w.alloc (.cells #[.int .i64 K, .slice a1 n1 c1, .slice a2 n2 c2, .string (SL o.tree), .slice a3 n3 c3, .string (SL o.target), .string (SL o.name), .string (SL o.who), .int .i64 o.stamp, .string (SL o.text)] 33) := ⟨_, rfl⟩
  have hbl : Below w.heap.size w W1 := by rw [hW1]; exact (Below.refl _ _).alloc (Nat.le_refl _) _
  have hobj : ∀ W, Below W1.heap.size W1 W → _ := fun W hb => obj_cells (below_turn hb (by rw [hW1]; exact heap_alloc_new w _))
  have ROW := Lib.hid hobj
  have HW := Lib.hid hW1
  have BL := Lib.hid hbl
  clear hobj hW1 hbl hn1 hn2 hn3 hK ho
  obtain ⟨ao, cap, g, off, rfl, hlm, hsrc, hrow⟩ := h
  obtain ⟨N, hN⟩ : ∃ N, N = l.length := ⟨_, rfl⟩
  have hrows := fun (W : World) (hb : Below w.heap.size w W) (k : Nat) (r : ObjV) (hk : l[k]? = some r) => (hrow k r hk).turn (hsrc (by have := (List.getElem?_eq_some_iff.1 hk).1; omega)).2.2 (Turn.of_below (fun _ => False) hb) (fun _ _ h => h)
  have hsr := fun (hp : 0 < N) => (hsrc (by omega)).1
  have hNb : N ≤ 9223372036854775807 := by rw [hN]; unfold maxLen at hlm; omega
  have HROW := Lib.hid hrows
  have HSR := Lib.hid hsr
  have HN := Lib.hid hN
  have HAW := Lib.hid (fun W => awake_any SP W)
  have HSP := Lib.hid SP
  have HNW := Lib.hid (fun W => one_new W 1099511627776 (by decide))
  rw [← hN]
  clear hrows hsrc hrow hsr SP hlm hN
  cases hoo : okO o with
  | false =>
    have e1 : errO o = 1 := by unfold errO; rw [hoo]; rfl
    have e2 : bytesO o = [] := by unfold bytesO; rw [hoo]; rfl
    rw [e1, e2] at heo
    have HEO := Lib.hid heo
    clear heo hoo e1 e2
    go_enter Tryz.func5, Tryz.ntmps5
    go_wp2_with fail
    rw [← HW.out]
    refine (HAW.out W1).mono ?_
    rintro e w1 ⟨rfl, b1⟩
    have B1 := Lib.hid (BL.out.trans (b1.mono BL.out.size))
    have B1' := Lib.hid b1
    clear b1
    go_wp2_with fail
    refine (HNW.out w1).mono ?_
    rintro e w2 ⟨p, rfl, h2⟩
    obtain ⟨hr2, hb2⟩ := rest_new h2
    obtain ⟨x, hx⟩ : ∃ x, x = w1.heap.size := ⟨_, rfl⟩
    rw [← hx] at hr2 hb2
    have hxw : x ≤ w2.heap.size := by have := hb2.size; omega
    have R2 := Lib.hid hr2
    have B2 := Lib.hid hb2
    have HX := Lib.hid hx
    obtain ⟨r0, r1, r2, r3, r4, r5, r6, r7, r8, r9⟩ := ROW.out w2 (B1'.out.trans (hb2.mono (by have := B1'.out.size; omega)))
    have BO := Lib.hid (B1.out.trans (hb2.mono (by have := B1.out.size; omega)))
    clear h2 hr2 hb2 hx
    go_wp2_with fail
    refine (HEO.out w2 BO.out).mono ?_
    rintro e w3 ⟨v3, rfl, o3, b3⟩
    obtain ⟨ae, ce, BE, rfl, s3, n3⟩ := OutAt.src o3
    go_wp2_with fail
    go_ret
    exact ⟨rfl, BO.out.trans (b3.mono BO.out.size)⟩
  | true =>
    have e1 : errO o = 0 := by unfold errO; rw [hoo]; rfl
    have e2 : bytesO o = encO o := by unfold bytesO; rw [hoo]; rfl
    have hleno := enc_length hoo
    have hdeco := dec_enc hoo
    rw [e1, e2] at heo
    obtain ⟨E0, hE0⟩ : ∃ l, l = encO o := ⟨_, rfl⟩
    rw [← hE0] at heo hleno hdeco
    obtain ⟨ne0, hne0⟩ : ∃ n, n = E0.length := ⟨_, rfl⟩
    have HEO := Lib.hid heo
    have HNE0 := Lib.hid hne0
    have HDO := Lib.hid hdeco
    have HLO := Lib.hid hleno
    clear heo hoo e1 e2 hE0 hne0 hdeco hleno
    go_enter Tryz.func5, Tryz.ntmps5
    go_wp2_with fail
    rw [← HW.out]
    refine (HAW.out W1).mono ?_
    rintro e w1 ⟨rfl, b1⟩
    have B1 := Lib.hid (BL.out.trans (b1.mono BL.out.size))
    have B1' := Lib.hid b1
    clear b1
    go_wp2_with fail
    refine (HNW.out w1).mono ?_
    rintro e w2 ⟨p, rfl, h2⟩
    obtain ⟨hr2, hb2⟩ := rest_new h2
    obtain ⟨x, hx⟩ : ∃ x, x = w1.heap.size := ⟨_, rfl⟩
    rw [← hx] at hr2 hb2
    have hxw : x ≤ w2.heap.size := by have := hb2.size; omega
    have R2 := Lib.hid hr2
    have B2 := Lib.hid hb2
    have HX := Lib.hid hx
    obtain ⟨r0, r1, r2, r3, r4, r5, r6, r7, r8, r9⟩ := ROW.out w2 (B1'.out.trans (hb2.mono (by have := B1'.out.size; omega)))
    have BO := Lib.hid (B1.out.trans (hb2.mono (by have := B1.out.size; omega)))
    clear h2 hr2 hb2 hx
    go_wp2_with fail
    refine (HEO.out w2 BO.out).mono ?_
    rintro e w3 ⟨v3, rfl, o3, b3⟩
    obtain ⟨ae, ce, BE, rfl, s3, n3⟩ := OutAt.src o3
    rw [← HNE0.out]
    obtain ⟨y, hy⟩ : ∃ y, y = w2.heap.size := ⟨_, rfl⟩
    obtain ⟨y2, hy2⟩ : ∃ y, y = w3.heap.size := ⟨_, rfl⟩
    have SE := Lib.hid s3
    have NE0 : Hid (0 < E0.length → y ≤ BE ∧ BE < y2) := Lib.hid (fun hp => ⟨by rw [hy]; exact n3 hp, by rw [hy2]; exact s3.old hp⟩)
    have R3 : Hid (Rest x w3 p (newS 1099511627776) (fun k => y ≤ k ∧ k < y2)) := Lib.hid ((R2.out.below b3).mono (fun k _ h => .inr (by rw [← hy]; exact h.1)))
    have SY := Lib.hid (show y2 ≤ w3.heap.size by omega)
    have hxw3 : x ≤ w3.heap.size := Nat.le_trans hxw b3.size
    have B3 := Lib.hid b3
    have BO3 := Lib.hid (BO.out.trans (b3.mono BO.out.size))
    clear o3 s3 n3 b3 hy hy2
    go_upto_block 0 with fail
    go_cut [12] from 13 to 62 (fun s8 W => ∃ (k : Nat) (S : St) (kp : List (OB × OB)), s8 = s8 ∧ k ≤ 10 ∧ Hid (Kept S kp k) ∧ Hid (SrcAt W ae ce E0 BE 0) ∧ Hid (Rest x W p S (fun k => y ≤ k ∧ k < y2)) ∧ Hid (Below x w3 W))
    case first =>
      go_wp2_with fail
      go_loopw [12] (fun i W => ∃ (k : Nat) (S : St) (kp : List (OB × OB)), i = .int .i64 (k : Int) ∧ k ≤ N ∧ k ≤ 10 ∧ Hid (Kept S kp k) ∧ Hid (SrcAt W ae ce E0 BE 0) ∧ Hid (Rest x W p S (fun k => y ≤ k ∧ k < y2)) ∧ Hid (Below x w3 W)) (fun i _ => N - (intOf i).toNat)
      case atStart => exact ⟨0, newS 1099511627776, [], rfl, Nat.zero_le _, Nat.zero_le _, Lib.hid kept_new, SE, R3, Lib.hid (Below.refl _ _)⟩
      case round =>
        clear R2 B2 R3
        obtain ⟨k, S, kp, rfl, hkN, hk10, KP, SE, RS, BB⟩ := hrel
        by_cases h10 : k < 10
        · by_cases hlt : k < N
          · have i0 : (0 : Int) ≤ (k : Int) := by omega
            have i1 : (k : Int) < (N : Int) := by omega
            have i2 : (k : Int) < 10 := by omega
            obtain ⟨r, hr⟩ : ∃ r, l[k]? = some r := ⟨_, List.getElem?_eq_getElem (by rw [← HN.out]; exact hlt)⟩
            obtain rfl := HSR.out (by omega)
            have hbw : Below w.heap.size w wr := BO3.out.trans (BB.out.mono (by have := HX.out; have := B1.out.size; omega))
            have hro := HROW.out wr hbw k r hr
            have e0 := hro.cell 0 _ rfl
            have e1 := hro.cell 1 _ rfl
            have e2 := hro.cell 2 _ rfl
            have e3 := hro.cell 3 _ rfl
            have e4 := hro.cell 4 _ rfl
            have e5 := hro.cell 5 _ rfl
            have e6 := hro.cell 6 _ rfl
            have e7 := hro.cell 7 _ rfl
            have e8 := hro.cell 8 _ rfl
            have e9 := hro.cell 9 _ rfl
            rw [Nat.add_zero] at e0
            have hen := encode_any F r.o r.dv r.ev r.uv wr hro.holds
            unfold objV at hen
            have BW := Lib.hid hbw
            clear hro hbw
            have HXW := Lib.hid (show x ≤ wr.heap.size by have := BB.out.size; have := HX.out; omega)
            cases hok : okO r.o with
            | false =>
              have ee : errO r.o = 1 := by unfold errO; rw [hok]; rfl
              rw [ee] at hen
              have HEN := Lib.hid hen
              clear hen hok ee hr
              go_wp2_with fail
              refine HEN.out.mono ?_
              rintro e w4 ⟨v4, rfl, _, b4⟩
              have B4 := Lib.hid b4
              clear b4
              go_wp2_with fail
              go_roundw
              case rel => exact ⟨k + 1, S, kp, by go_num, by omega, by omega, Lib.hid KP.out.skip, Lib.hid (SE.out.below B4.out), Lib.hid ((RS.out.below B4.out).mono (fun _ _ h => .inl h)), Lib.hid (BB.out.trans (B4.out.mono HXW.out))⟩
              case measure => simp [intOf]; omega
            | true =>
              have ee : errO r.o = 0 := by unfold errO; rw [hok]; rfl
              have eb : bytesO r.o = encO r.o := by unfold bytesO; rw [hok]; rfl
              have hlen := enc_length hok
              have hdec := dec_enc hok
              rw [ee, eb] at hen
              obtain ⟨E, hE⟩ : ∃ l, l = encO r.o := ⟨_, rfl⟩
              rw [← hE] at hen hlen hdec
              obtain ⟨ne, hne⟩ : ∃ n, n = E.length := ⟨_, rfl⟩
              have HEN := Lib.hid hen
              have HNE := Lib.hid hne
              have HLN := Lib.hid hlen
              have hkp := KP.out.put (by omega) hdec hlen
              clear hen hok ee eb hE hne hr hdec hlen
              rcases hkp with ⟨q1, q2, q3⟩ | ⟨q1, q2⟩
              · obtain ⟨pr, hpr⟩ : ∃ x, x = putL S E := ⟨_, rfl⟩
                rw [← hpr] at q1 q2 q3
                obtain ⟨r1, r2, S'⟩ := pr
                simp only at q1 q2 q3
                subst q1
                have PR := Lib.hid hpr
                have Q3 := Lib.hid q3
                clear hpr q2 q3
                go_wp2_with fail
                refine HEN.out.mono ?_
                rintro e w3 ⟨v3, rfl, o3, b3⟩
                obtain ⟨af, cf, B3', rfl, s3, n3⟩ := OutAt.src o3
                have hrs3 := RS.out.below b3
                obtain ⟨Z, hone, hz1, hz2⟩ := hrs3.one
                have hz3 : BytesAt w3 Z (.slice af ne cf) E := by rw [HNE.out]; exact ⟨af, cf, B3', 0, rfl, s3, fun hp => hz2 B3' (s3.old hp) (.inr (n3 hp))⟩
                have hput := HSP.out.put w3 w3 Z p _ _ E hone KP.out.whole.good (by have h1 := KP.out.done; have h2 := KP.out.cap; omega) hz3 (by have := HLN.out; omega)
                rw [← PR.out] at hput
                have HPUT := Lib.hid hput
                have HZ1 := Lib.hid hz1
                have HZ2 := Lib.hid hz2
                have X3 := Lib.hid (show x ≤ w3.heap.size from Nat.le_trans HXW.out b3.size)
                have BX := Lib.hid (BB.out.trans (b3.mono HXW.out))
                have SE3 := Lib.hid (SE.out.below b3)
                rw [← HNE.out]
                clear o3 s3 n3 hrs3 hone hz1 hz2 hz3 hput b3
                go_wp2_with fail
                refine HPUT.out.mono ?_
                rintro e w4 ⟨rfl, h4⟩
                obtain ⟨hr4, ht4, hx4⟩ := Rest.of_one h4 X3.out HZ1.out
                have R4 := Lib.hid (hr4.mono (G' := (fun k => y ≤ k ∧ k < y2)) (fun k hk h => HZ2.out k (Nat.lt_of_lt_of_le h.2 (by have := SY.out; have := X3.out; have := BX.out.size; omega)) (.inl h)))
                have X4 := Lib.hid hx4
                have SE4 := Lib.hid (SE3.out.turn ht4 (fun hp hz => hz (HZ2.out BE (SE3.out.old hp) (.inl (NE0.out hp)))))
                clear h4 hr4 ht4 hx4 HPUT
                go_wp2_with fail
                go_roundw
                case rel => exact ⟨k + 1, S', _, by go_num, by omega, by omega, Q3, SE4, R4, Lib.hid (BX.out.trans X4.out)⟩
                case measure => simp [intOf]; omega
              · obtain ⟨pr, hpr⟩ : ∃ x, x = putL S E := ⟨_, rfl⟩
                rw [← hpr] at q1 q2
                obtain ⟨r1, r2, S'⟩ := pr
                simp only at q1 q2
                subst q1
                subst q2
                have PR := Lib.hid hpr
                clear hpr
                go_wp2_with fail
                refine HEN.out.mono ?_
                rintro e w3 ⟨v3, rfl, o3, b3⟩
                obtain ⟨af, cf, B3', rfl, s3, n3⟩ := OutAt.src o3
                have hrs3 := RS.out.below b3
                obtain ⟨Z, hone, hz1, hz2⟩ := hrs3.one
                have hz3 : BytesAt w3 Z (.slice af ne cf) E := by rw [HNE.out]; exact ⟨af, cf, B3', 0, rfl, s3, fun hp => hz2 B3' (s3.old hp) (.inr (n3 hp))⟩
                have hput := HSP.out.put w3 w3 Z p _ _ E hone KP.out.whole.good (by have h1 := KP.out.done; have h2 := KP.out.cap; omega) hz3 (by have := HLN.out; omega)
                rw [← PR.out] at hput
                have HPUT := Lib.hid hput
                have HZ1 := Lib.hid hz1
                have HZ2 := Lib.hid hz2
                have X3 := Lib.hid (show x ≤ w3.heap.size from Nat.le_trans HXW.out b3.size)
                have BX := Lib.hid (BB.out.trans (b3.mono HXW.out))
                have SE3 := Lib.hid (SE.out.below b3)
                rw [← HNE.out]
                clear o3 s3 n3 hrs3 hone hz1 hz2 hz3 hput b3
                go_wp2_with fail
                refine HPUT.out.mono ?_
                rintro e w4 ⟨rfl, h4⟩
                obtain ⟨hr4, ht4, hx4⟩ := Rest.of_one h4 X3.out HZ1.out
                have R4 := Lib.hid (hr4.mono (G' := (fun k => y ≤ k ∧ k < y2)) (fun k hk h => HZ2.out k (Nat.lt_of_lt_of_le h.2 (by have := SY.out; have := X3.out; have := BX.out.size; omega)) (.inl h)))
                have X4 := Lib.hid hx4
                have SE4 := Lib.hid (SE3.out.turn ht4 (fun hp hz => hz (HZ2.out BE (SE3.out.old hp) (.inl (NE0.out hp)))))
                clear h4 hr4 ht4 hx4 HPUT
                go_wp2_with fail
                go_roundw
                case rel => exact ⟨k + 1, _, kp, by go_num, by omega, by omega, Lib.hid KP.out.skip, SE4, R4, Lib.hid (BX.out.trans X4.out)⟩
                case measure => simp [intOf]; omega
          · have i1 : ¬ (k : Int) < (N : Int) := by omega
            go_wp2_with fail
            go_meet
            exact ⟨k, S, kp, trivial, hk10, KP, SE, RS, BB⟩
        · have i2 : ¬ (k : Int) < 10 := by omega
          by_cases hlt : k < N
          · have i1 : (k : Int) < (N : Int) := by omega
            go_wp2_with fail
            go_meet
            exact ⟨k, S, kp, trivial, hk10, KP, SE, RS, BB⟩
          · have i1 : ¬ (k : Int) < (N : Int) := by omega
            go_wp2_with fail
            go_meet
            exact ⟨k, S, kp, trivial, hk10, KP, SE, RS, BB⟩
    case rest =>
      obtain ⟨k, S, kp, -, hk10, KP, SE, RS, BB⟩ := hcut
      have KG := Lib.hid KP.out.whole.good
      obtain ⟨Z0, hone, _, _⟩ := RS.out.one
      have hids := HSP.out.ids wc wc Z0 p S hone KG.out
      obtain ⟨L, hL⟩ : ∃ L, L = idsL S.fs := ⟨_, rfl⟩
      rw [← hL] at hids
      have HI := Lib.hid hids
      have HLL := Lib.hid hL
      have XC := Lib.hid (show x ≤ wc.heap.size by have := BB.out.size; omega)
      have YC := Lib.hid (show y2 ≤ wc.heap.size by have := BB.out.size; have := SY.out; omega)
      clear hone hids hL
      go_wp2_with fail
      refine HI.out.mono ?_
      rintro e w4 ⟨v4, rfl, o4, b4⟩
      obtain ⟨aL, cL, rfl⟩ := texts_form o4
      obtain ⟨m, hm⟩ : ∃ m, m = L.length := ⟨_, rfl⟩
      rw [← hm] at o4 ⊢
      have O4 := Lib.hid o4
      have HM := Lib.hid hm
      have R4 : Hid (Rest x w4 p S (fun k => (y ≤ k ∧ k < y2) ∨ (wc.heap.size ≤ k ∧ k < w4.heap.size))) := Lib.hid ((RS.out.below b4).mono (fun _ _ h => h.imp id (fun h => h.1)))
      have E4 := Lib.hid (SE.out.below b4)
      have X4 := Lib.hid (Nat.le_trans XC.out b4.size)
      have Y4 := Lib.hid (Nat.le_trans YC.out b4.size)
      have V4 := Lib.hid (Nat.le_refl w4.heap.size)
      have Q4 := Lib.hid (BB.out.trans (b4.mono XC.out))
      have hdec := HDO.out
      have hcs := cut_states KP.out.whole hdec HLO.out (by have h1 := KP.out.cost; have h2 := KP.out.cap; omega) hzl
      obtain ⟨S1, hS1⟩ : ∃ S', S' = ({ S with left := (zq : Int) } : St) := ⟨_, rfl⟩
      rw [← hS1] at hcs
      have hcut : cutS S (zq : Int) = (0, S1) := by unfold cutS; rw [if_neg (by omega), if_neg (by rw [KP.out.whole.dark]; decide), hS1]
      have hg1 : Good S1 := by have := KG.out.cut (z := (zq : Int)) (by omega); rw [hcut] at this; exact this
      have hd1 : S1.done = S.done ∧ S1.cap = S.cap := by rw [hS1]; exact ⟨rfl, rfl⟩
      obtain ⟨r, hr⟩ : ∃ r, r = putL S1 E0 := ⟨_, rfl⟩
      rw [← hr] at hcs
      obtain ⟨rz, ri, S2⟩ := r
      have HCS := Lib.hid hcs
      have HCT := Lib.hid hcut
      have HG1 := Lib.hid hg1
      have HD1 := Lib.hid hd1
      have HR := Lib.hid hr
      have hmb : m ≤ 9000000000000 := by
        have h1 := KG.out.many
        have h2 : (idsL S.fs).length ≤ S.fs.length := List.length_filterMap_le _ _
        rw [hm, HLL.out]
        omega
      have hg2 := put_good (raw := E0) hg1
      rw [← hr] at hg2
      have HG2 : Hid (Good S2) := Lib.hid hg2
      clear hcs hcut hg1 hd1 hr hS1 hdec o4 b4 SE RS HI hm hg2
      obtain ⟨Z, hone, hz1, hz2⟩ := R4.out.one
      have hcall := hone.cut (zq : Int) (by omega)
      rw [HCT.out] at hcall
      have HCALL := Lib.hid hcall
      have HZ1 := Lib.hid hz1
      have HZ2 := Lib.hid hz2
      clear hone hz1 hz2 hcall
      go_wp2_with fail
      refine HCALL.out.mono ?_
      rintro e w5 ⟨rfl, h5⟩
      obtain ⟨hr, ht, hxx⟩ := Rest.of_one h5 X4.out HZ1.out
      have R5 : Hid (Rest x w5 p (S1) (fun k => (y ≤ k ∧ k < y2) ∨ (wc.heap.size ≤ k ∧ k < w4.heap.size))) := Lib.hid (hr.mono (fun k _ h => HZ2.out k (by have := Y4.out; have := V4.out; rcases h with h | h <;> omega) h))
      have O5 : Hid (TxtsOwn wc.heap.size w5 (.slice aL m cL) L) := Lib.hid (row_turn O4.out ht (fun g hg hz => hz (HZ2.out g (O4.out.lt g hg).2 (.inr ⟨(O4.out.lt g hg).1, (O4.out.lt g hg).2⟩))))
      have E5 := Lib.hid (E4.out.turn ht (fun hp hz => hz (HZ2.out BE (E4.out.old hp) (.inl (NE0.out hp)))))
      have X5 := Lib.hid (show x ≤ w5.heap.size by have := X4.out; have := hxx.size; omega)
      have Y5 := Lib.hid (show y2 ≤ w5.heap.size by have := Y4.out; have := hxx.size; omega)
      have V5 := Lib.hid (show w4.heap.size ≤ w5.heap.size by have := V4.out; have := hxx.size; omega)
      have Q5 := Lib.hid (Q4.out.trans hxx)
      clear h5 hr ht hxx HCALL HZ1 HZ2
      obtain ⟨Z, hone, hz1, hz2⟩ := R5.out.one
      have hcall := HSP.out.put w5 w5 Z p S1 (.slice ae ne0 ce) E0 hone HG1.out (by have h1 := KP.out.done; have h2 := KP.out.cap; have h3 := HD1.out; omega) (by rw [HNE0.out]; exact ⟨ae, ce, BE, 0, rfl, E5.out, fun hp => hz2 BE (E5.out.old hp) (.inl (NE0.out hp))⟩) (by have := HLO.out; omega)
      rw [← HR.out] at hcall
      have HCALL := Lib.hid hcall
      have HZ1 := Lib.hid hz1
      have HZ2 := Lib.hid hz2
      clear hone hz1 hz2 hcall
      go_wp2_with fail
      refine HCALL.out.mono ?_
      rintro e w6 ⟨rfl, h6⟩
      obtain ⟨hr, ht, hxx⟩ := Rest.of_one h6 X5.out HZ1.out
      have R6 : Hid (Rest x w6 p (S2) (fun k => (y ≤ k ∧ k < y2) ∨ (wc.heap.size ≤ k ∧ k < w4.heap.size))) := Lib.hid (hr.mono (fun k _ h => HZ2.out k (by have := Y5.out; have := V5.out; rcases h with h | h <;> omega) h))
      have O6 : Hid (TxtsOwn wc.heap.size w6 (.slice aL m cL) L) := Lib.hid (row_turn O5.out ht (fun g hg hz => hz (HZ2.out g (O5.out.lt g hg).2 (.inr ⟨(O4.out.lt g hg).1, (O4.out.lt g hg).2⟩))))
      have E6 := Lib.hid (E5.out.turn ht (fun hp hz => hz (HZ2.out BE (E5.out.old hp) (.inl (NE0.out hp)))))
      have X6 := Lib.hid (show x ≤ w6.heap.size by have := X5.out; have := hxx.size; omega)
      have Y6 := Lib.hid (show y2 ≤ w6.heap.size by have := Y5.out; have := hxx.size; omega)
      have V6 := Lib.hid (show w4.heap.size ≤ w6.heap.size by have := V5.out; have := hxx.size; omega)
      have Q6 := Lib.hid (Q5.out.trans hxx)
      clear h6 hr ht hxx HCALL HZ1 HZ2
      obtain ⟨Z, hone, hz1, hz2⟩ := R6.out.one
      have hcall := hone.on
      have HCALL := Lib.hid hcall
      have HZ1 := Lib.hid hz1
      have HZ2 := Lib.hid hz2
      clear hone hz1 hz2 hcall
      go_wp2_with fail
      refine HCALL.out.mono ?_
      rintro e w7 ⟨rfl, h7⟩
      obtain ⟨hr, ht, hxx⟩ := Rest.of_one h7 X6.out HZ1.out
      have R7 : Hid (Rest x w7 p (onS S2) (fun k => (y ≤ k ∧ k < y2) ∨ (wc.heap.size ≤ k ∧ k < w4.heap.size))) := Lib.hid (hr.mono (fun k _ h => HZ2.out k (by have := Y6.out; have := V6.out; rcases h with h | h <;> omega) h))
      have O7 : Hid (TxtsOwn wc.heap.size w7 (.slice aL m cL) L) := Lib.hid (row_turn O6.out ht (fun g hg hz => hz (HZ2.out g (O6.out.lt g hg).2 (.inr ⟨(O4.out.lt g hg).1, (O4.out.lt g hg).2⟩))))
      have E7 := Lib.hid (E6.out.turn ht (fun hp hz => hz (HZ2.out BE (E6.out.old hp) (.inl (NE0.out hp)))))
      have X7 := Lib.hid (show x ≤ w7.heap.size by have := X6.out; have := hxx.size; omega)
      have Y7 := Lib.hid (show y2 ≤ w7.heap.size by have := Y6.out; have := hxx.size; omega)
      have V7 := Lib.hid (show w4.heap.size ≤ w7.heap.size by have := V6.out; have := hxx.size; omega)
      have Q7 := Lib.hid (Q6.out.trans hxx)
      clear h7 hr ht hxx HCALL HZ1 HZ2
      rcases HCS.out with h7 | ⟨S4, S5, CT⟩
      · have h7 : rz = 7 := h7
        subst h7
        go_wp2_with fail
        go_ret
        exact ⟨rfl, BO3.out.trans (Q7.out.mono (by have := HX.out; have := B1.out.size; omega))⟩
      · have hidl := sumL_length E0
        have hsu := sum_src w7 E7.out (by have := HLO.out; omega)
        rw [← HNE0.out] at hsu
        obtain ⟨id, hid⟩ : ∃ id, id = sumL E0 := ⟨_, rfl⟩
        have hgot := CT.got
        have hstay := CT.stay
        have hswept := CT.swept
        have hagain := CT.again
        have hfew := CT.few
        simp only at hgot hstay hswept
        rw [← hid] at hsu hidl hgot hagain
        rw [← HLL.out] at hstay hfew
        have HSU := Lib.hid hsu
        have HIDL := Lib.hid hidl
        have HID := Lib.hid hid
        have HST := Lib.hid hstay
        have HSW := Lib.hid hswept
        have HAG := Lib.hid hagain
        have HFW := Lib.hid hfew
        have HG3 := Lib.hid (CT.g2.on)
        have HG4 := Lib.hid CT.g4
        have HG5 := Lib.hid CT.g5
        have HD2 := Lib.hid (show (onS S2).done + (onS S2).cap ≤ 4000000000000000 by have h1 := CT.d2; have h2 := CT.c2; have h3 := KP.out.done; have h4 := KP.out.cap; show S2.done + S2.cap ≤ _; simp only at h1 h2; omega)
        have HD4 := Lib.hid (show S4.done + S4.cap + 10 ≤ 4000000000000000 by have h1 := CT.d4; have h2 := CT.c4; have h3 := KP.out.done; have h4 := KP.out.cap; omega)
        clear CT hsu hid hidl hstay hswept hagain hfew HCS
        rcases hgot with ⟨hgot, hz⟩ | ⟨hgot, hz⟩
        · have hz : rz = 0 := hz
          subst hz
          go_wp2_with fail
          refine HSU.out.mono ?_
          rintro e w8 ⟨rfl, b8⟩
          have R8 : Hid (Rest x w8 p (onS S2) (fun k => (y ≤ k ∧ k < y2) ∨ (wc.heap.size ≤ k ∧ k < w4.heap.size))) := Lib.hid ((R7.out.below b8).mono (fun _ _ h => .inl h))
          have O8 := Lib.hid (O7.out.below b8)
          have E8 := Lib.hid (E7.out.below b8)
          have X8 := Lib.hid (Nat.le_trans X7.out b8.size)
          have Y8 := Lib.hid (Nat.le_trans Y7.out b8.size)
          have V8 := Lib.hid (Nat.le_trans V7.out b8.size)
          have Q8 := Lib.hid (Q7.out.trans (b8.mono X7.out))
          clear b8 HSU
          obtain ⟨Z, hone, _, _⟩ := R8.out.one
          have hget := HSP.out.get w8 w8 Z p (onS S2) id hone HG3.out (by have := HIDL.out; omega)
          rw [hgot] at hget
          have HGT := Lib.hid hget
          clear hone hget hgot
          go_wp2_with fail
          refine HGT.out.mono ?_
          rintro e w9 ⟨a9, c9, B9, o9, rfl, s9, _, b9⟩
          have R9 : Hid (Rest x w9 p (onS S2) (fun k => (y ≤ k ∧ k < y2) ∨ (wc.heap.size ≤ k ∧ k < w4.heap.size))) := Lib.hid ((R8.out.below b9).mono (fun _ _ h => .inl h))
          have O9 := Lib.hid (O8.out.below b9)
          have E9 := Lib.hid (E8.out.below b9)
          have X9 := Lib.hid (Nat.le_trans X8.out b9.size)
          have Y9 := Lib.hid (Nat.le_trans Y8.out b9.size)
          have V9 := Lib.hid (Nat.le_trans V8.out b9.size)
          have Q9 := Lib.hid (Q8.out.trans (b9.mono X8.out))
          rw [show (0, E0).2.length = ne0 from HNE0.out.symm]
          have cv9 : (convert 29 9 (.slice a9 ne0 c9)).run Tryz.prog w9 = .ok (.string (SL E0)) w9 := by
            have := convert_src s9
            rw [show (0, E0).2.length = ne0 from HNE0.out.symm] at this
            exact this
          have cve : (convert 29 9 (.slice ae ne0 ce)).run Tryz.prog w9 = .ok (.string (SL E0)) w9 := by
            have := convert_src E9.out
            rw [← HNE0.out] at this
            exact this
          clear b9 s9 HGT
          go_wp2_with fail
          go_loopw [20] (fun i W => ∃ (j : Nat), i = .int .i64 (j : Int) ∧ j ≤ m ∧ Hid (Below w9.heap.size w9 W)) (fun i _ => m - (intOf i).toNat)
          case atStart => exact ⟨0, rfl, Nat.zero_le _, Lib.hid (Below.refl _ _)⟩
          case round =>
            obtain ⟨j, rfl, hjm, BW⟩ := hrel
            have RW := Lib.hid ((R9.out.below BW.out).mono (G' := (fun k => (y ≤ k ∧ k < y2) ∨ (wc.heap.size ≤ k ∧ k < w4.heap.size))) (fun _ _ h => .inl h))
            have OW := Lib.hid (O9.out.below BW.out)
            by_cases hlt : j < m
            · have i1 : (j : Int) < (m : Int) := by omega
              have j0 : (0 : Int) ≤ (j : Int) := by omega
              obtain ⟨id', hid'⟩ : ∃ y, L[j]? = some y := ⟨_, List.getElem?_eq_getElem (by rw [← HM.out]; exact hlt)⟩
              obtain ⟨s1, s2⟩ := HST.out id' (List.mem_of_getElem? hid')
              have hi' : id'.length = 32 := (ids_mem KG.out.rise (by rw [← HLL.out]; exact List.mem_of_getElem? hid')).1
              obtain ⟨GL, rfl⟩ := texts_src O4.out (by omega)
              have ct := texts_cell OW.out hid'
              obtain ⟨Z, hone, _, _⟩ := RW.out.one
              have hget := HSP.out.get wr wr Z p (onS S2) id' hone HG3.out (by omega)
              obtain ⟨gr, hgr⟩ : ∃ g, g = getL (onS S2).fs id' := ⟨_, rfl⟩
              rw [← hgr] at s1 hget
              obtain ⟨gz, gb⟩ := gr
              simp only at s1
              subst s1
              obtain ⟨nx, hnx⟩ : ∃ n, n = gb.length := ⟨_, rfl⟩
              have HGT := Lib.hid hget
              have HNX := Lib.hid hnx
              clear s2 hi' hone hget hgr hnx hid'
              go_wp2_with fail
              refine HGT.out.mono ?_
              rintro e w10 ⟨a10, c10, B10, o10, rfl, _, _, b10⟩
              rw [show (0, gb).2.length = nx from HNX.out.symm]
              have BW8 := Lib.hid (BW.out.trans (b10.mono BW.out.size))
              clear b10 HGT
              go_wp2_with fail
              go_roundw
              case rel => exact ⟨j + 1, by go_num, by omega, BW8⟩
              case measure => simp [intOf]; omega
            · have i1 : ¬ (j : Int) < (m : Int) := by omega
              have b10 := BW.out
              have R10 : Hid (Rest x wr p (onS S2) (fun k => (y ≤ k ∧ k < y2) ∨ (wc.heap.size ≤ k ∧ k < w4.heap.size))) := Lib.hid ((R9.out.below b10).mono (fun _ _ h => .inl h))
              have O10 := Lib.hid (O9.out.below b10)
              have E10 := Lib.hid (E9.out.below b10)
              have X10 := Lib.hid (Nat.le_trans X9.out b10.size)
              have Y10 := Lib.hid (Nat.le_trans Y9.out b10.size)
              have V10 := Lib.hid (Nat.le_trans V9.out b10.size)
              have Q10 := Lib.hid (Q9.out.trans (b10.mono X9.out))
              clear b10
              obtain ⟨Z, hone, hz1, hz2⟩ := R10.out.one
              have hcall := sweep_any hone HG3.out HD2.out
              rw [HSW.out] at hcall
              have HCALL := Lib.hid hcall
              have HZ1 := Lib.hid hz1
              have HZ2 := Lib.hid hz2
              clear hone hz1 hz2 hcall
              go_wp2_with fail
              refine HCALL.out.mono ?_
              rintro e w11 ⟨rfl, h11⟩
              obtain ⟨hr, ht, hxx⟩ := Rest.of_one h11 X10.out HZ1.out
              have R11 : Hid (Rest x w11 p (S4) (fun k => (y ≤ k ∧ k < y2) ∨ (wc.heap.size ≤ k ∧ k < w4.heap.size))) := Lib.hid (hr.mono (fun k _ h => HZ2.out k (by have := Y10.out; have := V10.out; rcases h with h | h <;> omega) h))
              have O11 : Hid (TxtsOwn wc.heap.size w11 (.slice aL m cL) L) := Lib.hid (row_turn O10.out ht (fun g hg hz => hz (HZ2.out g (O10.out.lt g hg).2 (.inr ⟨(O4.out.lt g hg).1, (O4.out.lt g hg).2⟩))))
              have E11 := Lib.hid (E10.out.turn ht (fun hp hz => hz (HZ2.out BE (E10.out.old hp) (.inl (NE0.out hp)))))
              have X11 := Lib.hid (show x ≤ w11.heap.size by have := X10.out; have := hxx.size; omega)
              have Y11 := Lib.hid (show y2 ≤ w11.heap.size by have := Y10.out; have := hxx.size; omega)
              have V11 := Lib.hid (show w4.heap.size ≤ w11.heap.size by have := V10.out; have := hxx.size; omega)
              have Q11 := Lib.hid (Q10.out.trans hxx)
              clear h11 hr ht hxx HCALL HZ1 HZ2
              obtain ⟨Z, hone, hz1, hz2⟩ := R11.out.one
              have hcall := HSP.out.put w11 w11 Z p S4 (.slice ae ne0 ce) E0 hone HG4.out HD4.out (by rw [HNE0.out]; exact ⟨ae, ce, BE, 0, rfl, E11.out, fun hp => hz2 BE (E11.out.old hp) (.inl (NE0.out hp))⟩) (by have := HLO.out; omega)
              rw [HAG.out] at hcall
              have HCALL := Lib.hid hcall
              have HZ1 := Lib.hid hz1
              have HZ2 := Lib.hid hz2
              clear hone hz1 hz2 hcall
              go_wp2_with fail
              refine HCALL.out.mono ?_
              rintro e w12 ⟨rfl, h12⟩
              obtain ⟨hr, ht, hxx⟩ := Rest.of_one h12 X11.out HZ1.out
              have R12 : Hid (Rest x w12 p (S5) (fun k => (y ≤ k ∧ k < y2) ∨ (wc.heap.size ≤ k ∧ k < w4.heap.size))) := Lib.hid (hr.mono (fun k _ h => HZ2.out k (by have := Y11.out; have := V11.out; rcases h with h | h <;> omega) h))
              have O12 : Hid (TxtsOwn wc.heap.size w12 (.slice aL m cL) L) := Lib.hid (row_turn O11.out ht (fun g hg hz => hz (HZ2.out g (O11.out.lt g hg).2 (.inr ⟨(O4.out.lt g hg).1, (O4.out.lt g hg).2⟩))))
              have E12 := Lib.hid (E11.out.turn ht (fun hp hz => hz (HZ2.out BE (E11.out.old hp) (.inl (NE0.out hp)))))
              have X12 := Lib.hid (show x ≤ w12.heap.size by have := X11.out; have := hxx.size; omega)
              have Y12 := Lib.hid (show y2 ≤ w12.heap.size by have := Y11.out; have := hxx.size; omega)
              have V12 := Lib.hid (show w4.heap.size ≤ w12.heap.size by have := V11.out; have := hxx.size; omega)
              have Q12 := Lib.hid (Q11.out.trans hxx)
              clear h12 hr ht hxx HCALL HZ1 HZ2
              have hsu := sum_src w12 E12.out (by have := HLO.out; omega)
              rw [← HNE0.out, ← HID.out] at hsu
              have HSU := Lib.hid hsu
              clear hsu
              go_wp2_with fail
              refine HSU.out.mono ?_
              rintro e w13 ⟨rfl, b13⟩
              have R13 : Hid (Rest x w13 p (S5) (fun k => (y ≤ k ∧ k < y2) ∨ (wc.heap.size ≤ k ∧ k < w4.heap.size))) := Lib.hid ((R12.out.below b13).mono (fun _ _ h => .inl h))
              have O13 := Lib.hid (O12.out.below b13)
              have E13 := Lib.hid (E12.out.below b13)
              have X13 := Lib.hid (Nat.le_trans X12.out b13.size)
              have Y13 := Lib.hid (Nat.le_trans Y12.out b13.size)
              have V13 := Lib.hid (Nat.le_trans V12.out b13.size)
              have Q13 := Lib.hid (Q12.out.trans (b13.mono X12.out))
              clear b13 HSU
              obtain ⟨Z, hone, _, _⟩ := R13.out.one
              have hids := HSP.out.ids w13 w13 Z p S5 hone HG5.out
              obtain ⟨L5, hL5⟩ : ∃ L, L = idsL S5.fs := ⟨_, rfl⟩
              rw [← hL5] at hids
              obtain ⟨m5, hm5⟩ : ∃ n, n = L5.length := ⟨_, rfl⟩
              have hle : (m5 : Int) ≤ (m : Int) + 1 := by have h1 := HFW.out; rw [← hL5, ← hm5, ← HM.out] at h1; omega
              have hwr : wrap64 ((m : Int) + 1) = (m : Int) + 1 := IntWalk.wrap64_in _ ⟨by omega, by omega⟩
              have HI := Lib.hid hids
              have HM5 := Lib.hid hm5
              clear hone hids hL5 hm5
              go_wp2_with fail
              refine HI.out.mono ?_
              rintro e w14 ⟨v14, rfl, o14, b14⟩
              obtain ⟨a14, c14, rfl⟩ := texts_form o14
              rw [← HM5.out]
              have R14 : Hid (Rest x w14 p (S5) (fun k => (y ≤ k ∧ k < y2) ∨ (wc.heap.size ≤ k ∧ k < w4.heap.size))) := Lib.hid ((R13.out.below b14).mono (fun _ _ h => .inl h))
              have O14 := Lib.hid (O13.out.below b14)
              have E14 := Lib.hid (E13.out.below b14)
              have X14 := Lib.hid (Nat.le_trans X13.out b14.size)
              have Y14 := Lib.hid (Nat.le_trans Y13.out b14.size)
              have V14 := Lib.hid (Nat.le_trans V13.out b14.size)
              have Q14 := Lib.hid (Q13.out.trans (b14.mono X13.out))
              clear b14 o14 HI
              go_wp2_with fail
              go_ret
              exact ⟨rfl, BO3.out.trans (Q14.out.mono (by have := HX.out; have := B1.out.size; omega))⟩
        · have hz : rz = 5 := hz
          subst hz
          go_wp2_with fail
          refine HSU.out.mono ?_
          rintro e w8 ⟨rfl, b8⟩
          have R8 : Hid (Rest x w8 p (onS S2) (fun k => (y ≤ k ∧ k < y2) ∨ (wc.heap.size ≤ k ∧ k < w4.heap.size))) := Lib.hid ((R7.out.below b8).mono (fun _ _ h => .inl h))
          have O8 := Lib.hid (O7.out.below b8)
          have E8 := Lib.hid (E7.out.below b8)
          have X8 := Lib.hid (Nat.le_trans X7.out b8.size)
          have Y8 := Lib.hid (Nat.le_trans Y7.out b8.size)
          have V8 := Lib.hid (Nat.le_trans V7.out b8.size)
          have Q8 := Lib.hid (Q7.out.trans (b8.mono X7.out))
          clear b8 HSU
          obtain ⟨Z, hone, _, _⟩ := R8.out.one
          have hget := HSP.out.get w8 w8 Z p (onS S2) id hone HG3.out (by have := HIDL.out; omega)
          rw [hgot] at hget
          have HGT := Lib.hid hget
          clear hone hget hgot
          go_wp2_with fail
          refine HGT.out.mono ?_
          rintro e w9 ⟨a9, c9, B9, o9, rfl, s9, _, b9⟩
          have R9 : Hid (Rest x w9 p (onS S2) (fun k => (y ≤ k ∧ k < y2) ∨ (wc.heap.size ≤ k ∧ k < w4.heap.size))) := Lib.hid ((R8.out.below b9).mono (fun _ _ h => .inl h))
          have O9 := Lib.hid (O8.out.below b9)
          have E9 := Lib.hid (E8.out.below b9)
          have X9 := Lib.hid (Nat.le_trans X8.out b9.size)
          have Y9 := Lib.hid (Nat.le_trans Y8.out b9.size)
          have V9 := Lib.hid (Nat.le_trans V8.out b9.size)
          have Q9 := Lib.hid (Q8.out.trans (b9.mono X8.out))
          clear b9 s9 HGT
          go_wp2_with fail
          go_loopw [20] (fun i W => ∃ (j : Nat), i = .int .i64 (j : Int) ∧ j ≤ m ∧ Hid (Below w9.heap.size w9 W)) (fun i _ => m - (intOf i).toNat)
          case atStart => exact ⟨0, rfl, Nat.zero_le _, Lib.hid (Below.refl _ _)⟩
          case round =>
            obtain ⟨j, rfl, hjm, BW⟩ := hrel
            have RW := Lib.hid ((R9.out.below BW.out).mono (G' := (fun k => (y ≤ k ∧ k < y2) ∨ (wc.heap.size ≤ k ∧ k < w4.heap.size))) (fun _ _ h => .inl h))
            have OW := Lib.hid (O9.out.below BW.out)
            by_cases hlt : j < m
            · have i1 : (j : Int) < (m : Int) := by omega
              have j0 : (0 : Int) ≤ (j : Int) := by omega
              obtain ⟨id', hid'⟩ : ∃ y, L[j]? = some y := ⟨_, List.getElem?_eq_getElem (by rw [← HM.out]; exact hlt)⟩
              obtain ⟨s1, s2⟩ := HST.out id' (List.mem_of_getElem? hid')
              have hi' : id'.length = 32 := (ids_mem KG.out.rise (by rw [← HLL.out]; exact List.mem_of_getElem? hid')).1
              obtain ⟨GL, rfl⟩ := texts_src O4.out (by omega)
              have ct := texts_cell OW.out hid'
              obtain ⟨Z, hone, _, _⟩ := RW.out.one
              have hget := HSP.out.get wr wr Z p (onS S2) id' hone HG3.out (by omega)
              obtain ⟨gr, hgr⟩ : ∃ g, g = getL (onS S2).fs id' := ⟨_, rfl⟩
              rw [← hgr] at s1 hget
              obtain ⟨gz, gb⟩ := gr
              simp only at s1
              subst s1
              obtain ⟨nx, hnx⟩ : ∃ n, n = gb.length := ⟨_, rfl⟩
              have HGT := Lib.hid hget
              have HNX := Lib.hid hnx
              clear s2 hi' hone hget hgr hnx hid'
              go_wp2_with fail
              refine HGT.out.mono ?_
              rintro e w10 ⟨a10, c10, B10, o10, rfl, _, _, b10⟩
              rw [show (0, gb).2.length = nx from HNX.out.symm]
              have BW8 := Lib.hid (BW.out.trans (b10.mono BW.out.size))
              clear b10 HGT
              go_wp2_with fail
              go_roundw
              case rel => exact ⟨j + 1, by go_num, by omega, BW8⟩
              case measure => simp [intOf]; omega
            · have i1 : ¬ (j : Int) < (m : Int) := by omega
              have b10 := BW.out
              have R10 : Hid (Rest x wr p (onS S2) (fun k => (y ≤ k ∧ k < y2) ∨ (wc.heap.size ≤ k ∧ k < w4.heap.size))) := Lib.hid ((R9.out.below b10).mono (fun _ _ h => .inl h))
              have O10 := Lib.hid (O9.out.below b10)
              have E10 := Lib.hid (E9.out.below b10)
              have X10 := Lib.hid (Nat.le_trans X9.out b10.size)
              have Y10 := Lib.hid (Nat.le_trans Y9.out b10.size)
              have V10 := Lib.hid (Nat.le_trans V9.out b10.size)
              have Q10 := Lib.hid (Q9.out.trans (b10.mono X9.out))
              clear b10
              obtain ⟨Z, hone, hz1, hz2⟩ := R10.out.one
              have hcall := sweep_any hone HG3.out HD2.out
              rw [HSW.out] at hcall
              have HCALL := Lib.hid hcall
              have HZ1 := Lib.hid hz1
              have HZ2 := Lib.hid hz2
              clear hone hz1 hz2 hcall
              go_wp2_with fail
              refine HCALL.out.mono ?_
              rintro e w11 ⟨rfl, h11⟩
              obtain ⟨hr, ht, hxx⟩ := Rest.of_one h11 X10.out HZ1.out
              have R11 : Hid (Rest x w11 p (S4) (fun k => (y ≤ k ∧ k < y2) ∨ (wc.heap.size ≤ k ∧ k < w4.heap.size))) := Lib.hid (hr.mono (fun k _ h => HZ2.out k (by have := Y10.out; have := V10.out; rcases h with h | h <;> omega) h))
              have O11 : Hid (TxtsOwn wc.heap.size w11 (.slice aL m cL) L) := Lib.hid (row_turn O10.out ht (fun g hg hz => hz (HZ2.out g (O10.out.lt g hg).2 (.inr ⟨(O4.out.lt g hg).1, (O4.out.lt g hg).2⟩))))
              have E11 := Lib.hid (E10.out.turn ht (fun hp hz => hz (HZ2.out BE (E10.out.old hp) (.inl (NE0.out hp)))))
              have X11 := Lib.hid (show x ≤ w11.heap.size by have := X10.out; have := hxx.size; omega)
              have Y11 := Lib.hid (show y2 ≤ w11.heap.size by have := Y10.out; have := hxx.size; omega)
              have V11 := Lib.hid (show w4.heap.size ≤ w11.heap.size by have := V10.out; have := hxx.size; omega)
              have Q11 := Lib.hid (Q10.out.trans hxx)
              clear h11 hr ht hxx HCALL HZ1 HZ2
              obtain ⟨Z, hone, hz1, hz2⟩ := R11.out.one
              have hcall := HSP.out.put w11 w11 Z p S4 (.slice ae ne0 ce) E0 hone HG4.out HD4.out (by rw [HNE0.out]; exact ⟨ae, ce, BE, 0, rfl, E11.out, fun hp => hz2 BE (E11.out.old hp) (.inl (NE0.out hp))⟩) (by have := HLO.out; omega)
              rw [HAG.out] at hcall
              have HCALL := Lib.hid hcall
              have HZ1 := Lib.hid hz1
              have HZ2 := Lib.hid hz2
              clear hone hz1 hz2 hcall
              go_wp2_with fail
              refine HCALL.out.mono ?_
              rintro e w12 ⟨rfl, h12⟩
              obtain ⟨hr, ht, hxx⟩ := Rest.of_one h12 X11.out HZ1.out
              have R12 : Hid (Rest x w12 p (S5) (fun k => (y ≤ k ∧ k < y2) ∨ (wc.heap.size ≤ k ∧ k < w4.heap.size))) := Lib.hid (hr.mono (fun k _ h => HZ2.out k (by have := Y11.out; have := V11.out; rcases h with h | h <;> omega) h))
              have O12 : Hid (TxtsOwn wc.heap.size w12 (.slice aL m cL) L) := Lib.hid (row_turn O11.out ht (fun g hg hz => hz (HZ2.out g (O11.out.lt g hg).2 (.inr ⟨(O4.out.lt g hg).1, (O4.out.lt g hg).2⟩))))
              have E12 := Lib.hid (E11.out.turn ht (fun hp hz => hz (HZ2.out BE (E11.out.old hp) (.inl (NE0.out hp)))))
              have X12 := Lib.hid (show x ≤ w12.heap.size by have := X11.out; have := hxx.size; omega)
              have Y12 := Lib.hid (show y2 ≤ w12.heap.size by have := Y11.out; have := hxx.size; omega)
              have V12 := Lib.hid (show w4.heap.size ≤ w12.heap.size by have := V11.out; have := hxx.size; omega)
              have Q12 := Lib.hid (Q11.out.trans hxx)
              clear h12 hr ht hxx HCALL HZ1 HZ2
              have hsu := sum_src w12 E12.out (by have := HLO.out; omega)
              rw [← HNE0.out, ← HID.out] at hsu
              have HSU := Lib.hid hsu
              clear hsu
              go_wp2_with fail
              refine HSU.out.mono ?_
              rintro e w13 ⟨rfl, b13⟩
              have R13 : Hid (Rest x w13 p (S5) (fun k => (y ≤ k ∧ k < y2) ∨ (wc.heap.size ≤ k ∧ k < w4.heap.size))) := Lib.hid ((R12.out.below b13).mono (fun _ _ h => .inl h))
              have O13 := Lib.hid (O12.out.below b13)
              have E13 := Lib.hid (E12.out.below b13)
              have X13 := Lib.hid (Nat.le_trans X12.out b13.size)
              have Y13 := Lib.hid (Nat.le_trans Y12.out b13.size)
              have V13 := Lib.hid (Nat.le_trans V12.out b13.size)
              have Q13 := Lib.hid (Q12.out.trans (b13.mono X12.out))
              clear b13 HSU
              obtain ⟨Z, hone, _, _⟩ := R13.out.one
              have hids := HSP.out.ids w13 w13 Z p S5 hone HG5.out
              obtain ⟨L5, hL5⟩ : ∃ L, L = idsL S5.fs := ⟨_, rfl⟩
              rw [← hL5] at hids
              obtain ⟨m5, hm5⟩ : ∃ n, n = L5.length := ⟨_, rfl⟩
              have hle : (m5 : Int) ≤ (m : Int) + 1 := by have h1 := HFW.out; rw [← hL5, ← hm5, ← HM.out] at h1; omega
              have hwr : wrap64 ((m : Int) + 1) = (m : Int) + 1 := IntWalk.wrap64_in _ ⟨by omega, by omega⟩
              have HI := Lib.hid hids
              have HM5 := Lib.hid hm5
              clear hone hids hL5 hm5
              go_wp2_with fail
              refine HI.out.mono ?_
              rintro e w14 ⟨v14, rfl, o14, b14⟩
              obtain ⟨a14, c14, rfl⟩ := texts_form o14
              rw [← HM5.out]
              have R14 : Hid (Rest x w14 p (S5) (fun k => (y ≤ k ∧ k < y2) ∨ (wc.heap.size ≤ k ∧ k < w4.heap.size))) := Lib.hid ((R13.out.below b14).mono (fun _ _ h => .inl h))
              have O14 := Lib.hid (O13.out.below b14)
              have E14 := Lib.hid (E13.out.below b14)
              have X14 := Lib.hid (Nat.le_trans X13.out b14.size)
              have Y14 := Lib.hid (Nat.le_trans Y13.out b14.size)
              have V14 := Lib.hid (Nat.le_trans V13.out b14.size)
              have Q14 := Lib.hid (Q13.out.trans (b14.mono X13.out))
              clear b14 o14 HI
              go_wp2_with fail
              go_ret
              exact ⟨rfl, BO3.out.trans (Q14.out.mono (by have := HX.out; have := B1.out.size; omega))⟩
end Go.Proofs.YtomgijcbekjlaaaGreat
