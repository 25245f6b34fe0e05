/- The walk of Open. Written by wip/tools/mk_open.py. -/
import Derived.Test.YtjieljmlpbiidaaPressToken
namespace Go.Proofs.Ytjieljmlpbiidaa
open Go.RowKit
def lenV (v : Value) : Nat := match v with
  | .slice _ n _ => n
  | _ => 0
/-- How much a row still has. -/
def rowLen (p : Nat) (w : World) : Nat := match w.cell? ⟨p, 0, none⟩ with
  | some v => lenV v
  | none => 0
theorem RwAt.len {y p : Nat} {w : World} {s : RS} (h : RwAt y w p s) : rowLen p w = s.1.length := by
  obtain ⟨ao, cap, B, off, h1, _⟩ := h
  unfold rowLen
  rw [(rw_cells h1).1]
  rfl
/-- What Open leaves. -/
def Opened (w : World) (R : Option (List UInt8)) (e : Ending) (w' : World) : Prop :=
  match R with
  | none => e = .returned (.tuple #[.slice none 0 0, .int .i64 2]) ∧ Below w.heap.size w w'
  | some l => ∃ ao cap B, e = .returned (.tuple #[.slice ao l.length cap, .int .i64 0]) ∧ SrcAt w' ao cap l B 0 ∧ Below w.heap.size w w'
theorem openL_none {p : List UInt8} {most : Int} (h : parse p = none) : openL p most = none := by unfold openL; rw [h]
theorem openL_num {r : List UInt8} {s : Nat} {most : Int} (hs : s ≤ 4611686018427387903) : openL (numL s ++ r) most = if most < (s : Int) then none else tok s r.length [] r := by
  unfold openL
  rw [parse_numL s r hs]
  simp only [List.drop_left]
/-- A row of the call's own is a slice. -/
theorem slice_of_own {w : World} {base e size n : Nat} {v : Value} {xs : List Value} (h : w.ownsRow base e size v n xs) : ∃ ao cap g, v = .slice ao n cap ∧ (ao = none → g = 0) := by
  rcases h.2 with ⟨rfl, rfl⟩ | ⟨g, cap, cur, rfl, _⟩
  · exact ⟨none, 0, 0, rfl, fun _ => rfl⟩
  · exact ⟨_, cap, g, rfl, fun h => by cases h⟩
/-- What the size's number is, and where the row then stands. -/
theorem size_any (bs : List UInt8) (most : Int) (hs : bs.length ≤ 281474976710656) (hsz : ∀ s k, parse bs = some (s, k) → (s : Int) ≤ most → s ≤ 140737488355328) (y : Nat) :
    ∃ (s : Nat) (st : RS), (∀ W, RwAt y W y (bs, false) → Calls Try.prog 25 #[rwp y, .int .i64 most] W (RwTo y W y (.int .i64 (s : Int)) st)) ∧ s ≤ 140737488355328 ∧ st.1.length ≤ 281474976710656 ∧ ((st.2 = false ∧ tok s st.1.length [] st.1 = openL bs most) ∨ (st.2 = true ∧ st.1 = [] ∧ openL bs most = none)) := by
  by_cases hneg : most < 0
  · refine ⟨0, gone, fun W h => rowNum_neg y y (bs, false) most hneg W h hs, by omega, Nat.zero_le _, .inr ⟨rfl, rfl, ?_⟩⟩
    rcases parse_cases bs with hp | ⟨s, r, hs62, rfl⟩
    · exact openL_none hp
    · rw [openL_num hs62, if_pos (by omega)]
  · obtain ⟨m, rfl⟩ : ∃ m : Nat, most = (m : Int) := ⟨most.toNat, by omega⟩
    have hn := fun W (h : RwAt y W y (bs, false)) => rowNum_wide y y (bs, false) m W h hs
    rcases parse_cases bs with hp | ⟨s, r, hs62, he⟩
    · have hw : wNum m (bs, false) = (0, gone) := by unfold wNum; simp only [hp]
      rw [hw] at hn
      exact ⟨0, gone, hn, by omega, Nat.zero_le _, .inr ⟨rfl, rfl, openL_none hp⟩⟩
    · have ho : openL bs (m : Int) = if (m : Int) < (s : Int) then none else tok s r.length [] r := by rw [he]; exact openL_num hs62
      by_cases hm : m < s
      · have hw : wNum m (bs, false) = (0, gone) := by
          unfold wNum
          simp only [he, parse_numL s r hs62]
          rw [if_pos hm]
        rw [hw] at hn
        exact ⟨0, gone, hn, by omega, Nat.zero_le _, .inr ⟨rfl, rfl, by rw [ho, if_pos (by omega)]⟩⟩
      · have hw : wNum m (bs, false) = (s, (r, false)) := by
          rw [he]
          exact wNum_app hs62 (by omega) r false
        rw [hw] at hn
        have h47 := hsz s (numL s).length (by rw [he]; exact parse_numL s r hs62) (by omega)
        have hrl : r.length ≤ bs.length := by rw [he, List.length_append]; omega
        exact ⟨s, (r, false), hn, h47, by show r.length ≤ _; omega, .inl ⟨rfl, by rw [ho, if_neg (by omega)]⟩⟩
set_option maxRecDepth 100000 in
set_option maxHeartbeats 1600000 in
theorem open_any (ao : Option Addr) (cap : Nat) (bs : List UInt8) (B off : Nat) (most : Int) (w : World) (h : SrcAt w ao cap bs B off) (hs : bs.length ≤ 281474976710656) (hsz : ∀ s k, parse bs = some (s, k) → (s : Int) ≤ most → s ≤ 140737488355328) :
    Calls Try.prog 14 #[.slice ao bs.length cap, .int .i64 most] w (Opened w (openL bs most)) := by
  have hof := rowOf_any ao cap B off bs w h
  obtain ⟨s, st, hnum, hsm, hsl, hst⟩ := size_any bs most hs hsz w.heap.size
  obtain ⟨y, hy⟩ : ∃ y, y = w.heap.size := ⟨_, rfl⟩
  have hyw : y ≤ w.heap.size := by omega
  have hwy : w.heap.size ≤ y := by omega
  rw [← hy] at hof hnum
  obtain ⟨R, hR⟩ : ∃ R, R = openL bs most := ⟨_, rfl⟩
  rw [← hR] at hst ⊢
  obtain ⟨n, hn⟩ : ∃ n, n = bs.length := ⟨_, rfl⟩
  rw [← hn] at hof ⊢
  have HOF := Lib.hid hof
  have HNU := Lib.hid hnum
  have HST := Lib.hid hst
  have HSL := Lib.hid hsl
  clear hof hnum hst hsl hR hn hy h hs hsz
  go_enter Try.func14, Try.ntmps14
  go_wp2_with fail
  refine HOF.out.mono ?_
  rintro e w1 ⟨rfl, r1, b1⟩
  have hn1 := HNU.out w1 r1
  have HN1 := Lib.hid hn1
  have YW := Lib.hid r1.lt
  have B1 := Lib.hid b1
  clear hn1 r1 b1
  go_wp2_with fail
  refine HN1.out.mono ?_
  rintro e w2 ⟨rfl, r2, t2⟩
  have hb2 : Below y w w2 := B1.out.trans (t2.below (by have := YW.out; omega) (fun k e => by have h4 : k = y := e; omega))
  have hz2 := r2.lt
  have B2 := Lib.hid hb2
  have R2 := Lib.hid r2
  clear hb2 r2 t2
  go_wp2_with fail
  go_loopw [8] (fun out W => ∃ (O q : List UInt8) (bad : Bool) (f k : Nat) (oa : Option Addr) (oc : Nat), out = .slice oa k oc ∧ k = O.length ∧ k ≤ s ∧ Hid ((bad = false ∧ q.length ≤ f ∧ tok s f O q = R) ∨ (bad = true ∧ q = [] ∧ R = none)) ∧ Hid (q.length ≤ 281474976710656) ∧ Hid (W.ownsRow (y + 1) 5 1 (.slice oa k oc) k (O.map B8)) ∧ Hid (RwAt y W y (q, bad)) ∧ Hid (Below y w W)) (fun _ W => rowLen y W)
  case atStart =>
    exact ⟨[], st.1, st.2, st.1.length, 0, none, 0, rfl, rfl, Nat.zero_le _, Lib.hid (HST.out.imp (fun h => ⟨h.1, Nat.le_refl _, h.2⟩) id), HSL, Lib.hid (World.ownsRow_nil _ _ _ _), R2, B2⟩
  case round =>
    clear B2 R2 hz2 HST HSL B1 YW
    obtain ⟨O, q, bad, f, k, oa, oc, rfl, hk, hks, HS, HQ, OW, RW, BW⟩ := hrel
    have hyl := RW.out.lt
    have hleft := rowLeft_any y y (q, bad) wr RW.out
    have HK := Lib.hid hk
    clear hk
    by_cases hlt : 0 < q.length
    · have hok : bad = false ∧ q.length ≤ f ∧ tok s f O q = R := HS.out.elim id (fun h => by rw [h.2.1] at hlt; exact absurd hlt (Nat.lt_irrefl _))
      obtain ⟨rfl, hf, htok⟩ := hok
      obtain ⟨f, rfl⟩ : ∃ f', f = f' + 1 := ⟨f - 1, by omega⟩
      rw [tok_stepT hlt] at htok
      obtain ⟨room, hroom⟩ : ∃ r, r = s - O.length := ⟨_, rfl⟩
      have hri : (s : Int) - (k : Int) = (room : Int) := by rw [hroom, ← HK.out]; omega
      have hto := takeToken_any y (y + 1) y (.slice oa k oc) O q s room wr (by omega) (by omega) (by rw [← HK.out]; exact OW.out) RW.out HQ.out (by rw [← HK.out]; exact hks) hsm hroom
      have hle := fun O' q' hh => stepT_le (size := s) (O := O) (p := q) (O' := O') (p' := q') hh (by rw [← HK.out]; exact hks)
      obtain ⟨ql, hql⟩ : ∃ l, l = q.length := ⟨_, rfl⟩
      rw [← hql] at hleft hlt hf
      have q0 : (0 : Int) < (ql : Int) := by omega
      have HL := Lib.hid hleft
      have HTO := Lib.hid hto
      have HLE := Lib.hid hle
      have HTK := Lib.hid htok
      have HQL := Lib.hid hql
      have HF := Lib.hid hf
      have LEN := Lib.hid RW.out.len
      clear hleft hto hle htok hql hf hroom HS
      go_wp2_with fail
      refine HL.out.mono ?_
      rintro e w3 ⟨rfl, hw3⟩
      have hw3 := hw3.symm
      subst hw3
      go_wp2_with fail
      refine HTO.out.mono ?_
      rintro e w4 ⟨v2, rfl, b2, h2⟩
      have B4 := Lib.hid (BW.out.trans b2)
      clear b2 HTO
      cases hst : stepT s O q with
      | none =>
        rw [hst] at h2
        obtain ⟨o2, r2⟩ := h2
        have hRn : R = none := by rw [← HTK.out, hst]; rfl
        have HRn := Lib.hid hRn
        rw [← HK.out] at o2
        obtain ⟨oa2, oc2, g2, rfl, _⟩ := slice_of_own o2
        have O2 := Lib.hid o2
        have R2 := Lib.hid r2
        clear hst hRn o2 r2 hri
        go_wp2_with fail
        go_roundw
        case rel => exact ⟨O, [], true, f, k, oa2, oc2, rfl, HK.out, hks, Lib.hid (.inr ⟨rfl, rfl, HRn.out⟩), Lib.hid (Nat.zero_le _), O2, R2, B4⟩
        case measure =>
          have g1 := R2.out.len
          have g2 := LEN.out
          have g3 := HQL.out
          rw [g1, g2]
          show 0 < q.length
          omega
      | some x =>
        obtain ⟨O2, q2⟩ := x
        rw [hst] at h2
        obtain ⟨o2, r2⟩ := h2
        have hl2 := HLE.out O2 q2 hst
        have ht2 : tok s f O2 q2 = R := by rw [← HTK.out, hst]; rfl
        obtain ⟨k2, hk2⟩ : ∃ k, k = O2.length := ⟨_, rfl⟩
        rw [← hk2] at o2 hl2
        obtain ⟨oa2, oc2, g2, rfl, _⟩ := slice_of_own o2
        have HT2 := Lib.hid ht2
        have HK2 := Lib.hid hk2
        have HL2 := Lib.hid hl2
        have OO2 := Lib.hid o2
        have R2 := Lib.hid r2
        clear hst hl2 ht2 hk2 o2 r2 hri
        go_wp2_with fail
        go_roundw
        case rel =>
          have g1 := HL2.out
          have g2 := HF.out
          have g3 := HQL.out
          have g4 := HQ.out
          exact ⟨O2, q2, false, f, k2, oa2, oc2, rfl, HK2.out, g1.2, Lib.hid (.inl ⟨rfl, by omega, HT2.out⟩), Lib.hid (by omega), OO2, R2, B4⟩
        case measure =>
          have g1 := R2.out.len
          have g2 := LEN.out
          have g3 := HL2.out
          rw [g1, g2]
          exact g3.1
    · obtain rfl : q = [] := List.eq_nil_of_length_eq_zero (by omega)
      have hend := rowEnd_any y y ([], bad) wr RW.out
      cases bad with
      | true =>
        have hRn : R = none := HS.out.elim (fun h => by cases h.1) (fun h => h.2.2)
        rw [if_pos (.inl rfl)] at hend
        have HL := Lib.hid hleft
        have HE := Lib.hid hend
        have HRn := Lib.hid hRn
        clear hleft hend hRn HS hlt
        go_wp2_with fail
        refine HL.out.mono ?_
        rintro e w3 ⟨rfl, hw3⟩
        have hw3 := hw3.symm
        subst hw3
        go_wp2_with fail
        refine HE.out.mono ?_
        rintro e w3 ⟨rfl, hw3⟩
        have hw3 := hw3.symm
        subst hw3
        go_wp2_with fail
        go_ret2
        rw [HRn.out]
        exact ⟨rfl, BW.out.mono hwy⟩
      | false =>
        have htok : tok s f O [] = R := HS.out.elim (fun h => h.2.2) (fun h => by cases h.1)
        rw [tok_end, ← HK.out] at htok
        rw [if_neg (by rintro (k | k); exact absurd k (by decide); exact k rfl)] at hend
        have HL := Lib.hid hleft
        have HE := Lib.hid hend
        clear hleft hend HS hlt
        by_cases hfew : k < s
        · rw [if_neg (by omega)] at htok
          have HTK := Lib.hid htok
          clear htok
          go_wp2_with fail
          refine HL.out.mono ?_
          rintro e w3 ⟨rfl, hw3⟩
          have hw3 := hw3.symm
          subst hw3
          go_wp2_with fail
          refine HE.out.mono ?_
          rintro e w3 ⟨rfl, hw3⟩
          have hw3 := hw3.symm
          subst hw3
          go_wp2_with fail
          go_ret2
          rw [← HTK.out]
          exact ⟨rfl, BW.out.mono hwy⟩
        · obtain rfl : k = s := by omega
          rw [if_pos rfl] at htok
          have hown2 := OW.out
          rw [HK.out] at hown2
          obtain ⟨ga, gc, GB, hv, sg, _⟩ := src_of_own hown2
          rw [← HK.out] at hv
          simp only [Value.slice.injEq, true_and] at hv
          obtain ⟨rfl, rfl⟩ := hv
          have HTK := Lib.hid htok
          have SG := Lib.hid sg
          clear htok hown2 sg
          go_wp2_with fail
          refine HL.out.mono ?_
          rintro e w3 ⟨rfl, hw3⟩
          have hw3 := hw3.symm
          subst hw3
          go_wp2_with fail
          refine HE.out.mono ?_
          rintro e w3 ⟨rfl, hw3⟩
          have hw3 := hw3.symm
          subst hw3
          go_wp2_with fail
          go_ret2
          rw [← HTK.out]
          exact ⟨oa, oc, GB, by rw [← HK.out]; rfl, SG.out, BW.out.mono hwy⟩
end Go.Proofs.Ytjieljmlpbiidaa
