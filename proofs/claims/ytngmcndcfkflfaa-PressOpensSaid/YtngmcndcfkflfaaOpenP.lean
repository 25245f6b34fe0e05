/- The walk of Open. -/
import Derived.Test.YtngmcndcfkflfaaToken
namespace Go.Proofs.Ytngmcndcfkflfaa
open Go.RowKit
def lenV (v : Value) : Nat := match v with
  | .slice _ n _ => n
  | _ => 0
/-- What Open leaves. -/
def Opened (w : World) (R : Option (List UInt8)) (e : Ending) (w' : World) : Prop :=
  match R with
  | none => e = .returned (.tuple #[.slice none 0 0, .int .i64 2]) ∧ Below w.heap.size w w'
  | some l => ∃ ao cap B, e = .returned (.tuple #[.slice ao l.length cap, .int .i64 0]) ∧ SrcAt w' ao cap l B 0 ∧ Below w.heap.size w w'
theorem openL_none {p : List UInt8} {most : Int} (h : parse p = none) : openL p most = none := by unfold openL; rw [h]
theorem openL_num {r : List UInt8} {s : Nat} {most : Int} (hs : s ≤ 4611686018427387903) : openL (numL s ++ r) most = if most < (s : Int) then none else tok s r.length [] r := by
  unfold openL
  rw [parse_numL s r hs]
  simp only [List.drop_left]
set_option maxRecDepth 100000 in
set_option maxHeartbeats 1600000 in
theorem open_any (ao : Option Addr) (cap : Nat) (p : List UInt8) (B off : Nat) (most : Int) (w : World) (h : SrcAt w ao cap p B off) (hs : p.length ≤ 281474976710656) (hsz : ∀ s k, parse p = some (s, k) → (s : Int) ≤ most → s ≤ 140737488355328) :
    Calls Try.prog 14 #[.slice ao p.length cap, .int .i64 most] w (Opened w (openL p most)) := by
  rcases parse_cases p with hp | ⟨s, r, hs62, he⟩
  · rw [openL_none hp]
    have ht := pNum_no ao cap p B off w h hs hp
    obtain ⟨n, hn⟩ : ∃ n, n = p.length := ⟨_, rfl⟩
    rw [← hn] at ht ⊢
    have HT := Lib.hid ht
    clear ht hn hp hsz
    go_enter Try.func14, Try.ntmps14
    go_wp2_with fail
    refine HT.out.mono ?_
    rintro e w1 ⟨rfl, rfl⟩
    go_wp2_with fail
    go_ret2
    exact ⟨rfl, Below.refl _ _⟩
  · have ht := pNum_yes ao cap p B off w h hs s r hs62 he
    have ho : openL p most = if most < (s : Int) then none else tok s r.length [] r := by rw [he]; exact openL_num hs62
    rw [ho]
    have hsz' : (s : Int) ≤ most → s ≤ 140737488355328 := by
      refine hsz s (numL s).length ?_
      rw [he]; exact parse_numL s r hs62
    have hrp : r.length ≤ p.length := by rw [he, List.length_append]; omega
    have hrs : r.length ≤ 281474976710656 := by omega
    have hrB : 0 < r.length → B < w.heap.size := fun hh => h.old (by omega)
    obtain ⟨n, hn⟩ : ∃ n, n = p.length := ⟨_, rfl⟩
    rw [← hn] at ht ⊢
    have HT := Lib.hid ht
    clear ht hn hsz ho he
    by_cases hmost : most < (s : Int)
    · rw [if_pos hmost]
      go_enter Try.func14, Try.ntmps14
      go_wp2_with fail
      refine HT.out.mono ?_
      rintro e w1 ⟨a1, c1, o1, rfl, s1, b1⟩
      go_wp2_with fail
      go_ret2
      exact ⟨rfl, b1⟩
    · rw [if_neg hmost]
      have hsm := hsz' (by omega)
      have hdm : decide (most < (s : Int)) = false := by simp; omega
      obtain ⟨base, hbase⟩ : ∃ base, base = w.heap.size := ⟨_, rfl⟩
      have hbw : base ≤ w.heap.size := by omega
      have hwb : w.heap.size ≤ base := by omega
      rw [← hbase] at hrB
      obtain ⟨R, hR⟩ : ∃ R, R = tok s r.length [] r := ⟨_, rfl⟩
      rw [← hR]
      have HR := Lib.hid hR
      clear hsz' hmost hbase hR
      go_enter Try.func14, Try.ntmps14
      go_wp2_with fail
      refine HT.out.mono ?_
      rintro e w1 ⟨a1, c1, o1, rfl, s1, b1⟩
      have hz1 := b1.size
      clear HT
      obtain ⟨rl, hrl⟩ : ∃ rl, rl = r.length := ⟨_, rfl⟩
      rw [← hrl]
      have HRL := Lib.hid hrl
      clear hrl
      go_wp2_with fail
      go_loopw [0, 7, 8] (fun x er out W => ∃ (O q : List UInt8) (f ql k : Nat) (a : Option Addr) (c o : Nat) (oa : Option Addr) (oc : Nat), x = .slice a ql c ∧ ql = q.length ∧ er = .int .i64 0 ∧ out = .slice oa k oc ∧ k = O.length ∧ q.length ≤ f ∧ tok s f O q = R ∧ O.length ≤ s ∧ (0 < q.length → B < base) ∧ q.length ≤ 281474976710656 ∧ W.ownsRow base 5 1 (.slice oa k oc) k (O.map B8) ∧ SrcAt W a c q B o ∧ Below base w W) (fun x _ _ _ => lenV x)
      case atStart => exact ⟨[], r, r.length, rl, 0, a1, c1, o1, none, 0, rfl, HRL.out, rfl, rfl, rfl, Nat.le_refl _, HR.out.symm, Nat.zero_le _, hrB, hrs, World.ownsRow_nil _ _ _ _, s1, b1.mono hbw⟩
      case round =>
        clear s1 b1 HR HRL
        obtain ⟨O, q, f, ql, k, a, c, o, oa, oc, rfl, hql, rfl, rfl, hk, hf, htok, hO, hqB, hqs, hown, hq, hbel⟩ := hrel
        have hzb : base ≤ _ := Nat.le_trans hbw hbel.size
        by_cases hlt : 0 < ql
        · obtain ⟨f, rfl⟩ : ∃ f', f = f' + 1 := ⟨f - 1, by omega⟩
          rw [tok_stepT (by omega)] at htok
          have hto := takeToken_any base (.slice oa k oc) O a c q B o s _ hzb (by rw [← hk]; exact hown) hq hqB hqs hO hsm
          rw [← hql] at hto
          have hle := fun O' q' hh => stepT_le (size := s) (O := O) (p := q) (O' := O') (p' := q') hh hO
          have HTO := Lib.hid hto
          have HLE := Lib.hid hle
          have HTK := Lib.hid htok
          have HQL := Lib.hid hql
          have HF := Lib.hid hf
          have HB := Lib.hid hqB
          clear hto hle htok hown hk hql hf hq hqB
          go_wp2_with fail
          refine HTO.out.mono ?_
          rintro e w2 hpost
          cases hst : stepT s O q with
          | none =>
            rw [hst] at hpost
            obtain ⟨rfl, b2⟩ := hpost
            have hRn : R = none := by rw [← HTK.out, hst]; rfl
            have HRn := Lib.hid hRn
            clear hst hRn
            go_wp2_with fail
            go_ret2
            rw [HRn.out]
            exact ⟨rfl, (hbel.trans b2).mono hwb⟩
          | some x =>
            obtain ⟨O2, q2⟩ := x
            rw [hst] at hpost
            obtain ⟨v2, a2, c2, o2, rfl, h2, s2, b2⟩ := hpost
            have hl2 := HLE.out O2 q2 hst
            have ht2 : tok s f O2 q2 = R := by rw [← HTK.out, hst]; rfl
            obtain ⟨oa2, oc2, OB2, rfl, _, _⟩ := src_of_own h2
            obtain ⟨k2, hk2⟩ : ∃ k, k = O2.length := ⟨_, rfl⟩
            obtain ⟨ql2, hql2⟩ : ∃ k, k = q2.length := ⟨_, rfl⟩
            have HT2 := Lib.hid ht2
            have HK2 := Lib.hid hk2
            have HQ2 := Lib.hid hql2
            have HL2 := Lib.hid hl2
            rw [← hk2] at h2 ⊢
            rw [← hql2]
            have H2 := Lib.hid h2
            clear hst hl2 ht2 hk2 hql2 h2
            go_wp2_with fail
            go_roundw
            case rel =>
              have g1 := HL2.out
              have g2 := HF.out
              exact ⟨O2, q2, f, ql2, k2, a2, c2, o2, oa2, oc2, rfl, HQ2.out, rfl, rfl, HK2.out, by omega, HT2.out, g1.2, fun hh => HB.out (by omega), by omega, H2.out, s2, hbel.trans b2⟩
            case measure =>
              have g1 := HL2.out
              have g2 := HQ2.out
              have g3 := HQL.out
              simp [lenV]
              omega
        · obtain rfl : ql = 0 := by omega
          obtain rfl : q = [] := List.eq_nil_of_length_eq_zero hql.symm
          rw [tok_end] at htok
          have hown' := hown
          by_cases hfew : k < s
          · rw [if_neg (by omega)] at htok
            have HTK := Lib.hid htok
            clear htok hown hown' hk hql hf hq hqB hO
            go_wp2_with fail
            go_ret2
            rw [← HTK.out]
            exact ⟨rfl, hbel.mono hwb⟩
          · obtain rfl : k = s := by omega
            rw [if_pos hk.symm] at htok
            have hown2 := hown
            rw [hk] at hown2
            obtain ⟨ga, gc, GB, hv, sg, _⟩ := src_of_own hown2
            rw [← hk] at hv
            simp only [Value.slice.injEq, true_and] at hv
            obtain ⟨rfl, rfl⟩ := hv
            have HTK := Lib.hid htok
            have HK := Lib.hid hk
            clear htok hown hown' hown2 hk hql hf hq hqB hO
            go_wp2_with fail
            go_ret2
            rw [← HTK.out]
            exact ⟨oa, oc, GB, by rw [← HK.out]; rfl, sg, hbel.mono hwb⟩
end Go.Proofs.Ytngmcndcfkflfaa
