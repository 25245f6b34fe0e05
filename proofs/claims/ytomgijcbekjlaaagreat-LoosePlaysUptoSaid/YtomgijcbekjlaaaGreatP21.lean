/- What the proofs stand on: RefOpen. -/
import Derived.Deep.LoopGhost
import Derived.Test.YtomgijcbekjlaaaGreatP20
import Derived.Test.YtomgijcbekjlaaaGreatP1
import Derived.Test.YtomgijcbekjlaaaGreatPB0
import Derived.Test.YtomgijcbekjlaaaGreatPB1
set_option maxRecDepth 100000
set_option maxHeartbeats 40000000
namespace Go.Proofs.YtomgijcbekjlaaaGreat
section
open Go.RowKit
def Apart (v : Value) (q : List UInt8) (B : Nat) : Prop := ∀ g, v.ownBlock = some g -> 0 < q.length -> g ≠ B
theorem apart_new {w : World} {base n B : Nat} {v : Value} {xs : List Value} {q : List UInt8} (h : w.ownsRow base 5 1 v n xs) (hB : 0 < q.length -> w.heap.size <= B) : Apart v q B := fun g hg hq e => by
 have := (h.lt g hg).2
 have := hB hq
 omega
theorem Apart.piece {v : Value} {q q' : List UInt8} {B : Nat} (h : Apart v q B) (hq : q'.length <= q.length) : Apart v q' B := fun g hg hp => h g hg (by omega)
theorem Apart.next {w : World} {v v' : Value} {q : List UInt8} {B : Nat} (h : Apart v q B) (hB : 0 < q.length -> B < w.heap.size) (hv : ∀ k, v'.ownBlock = some k -> v.ownBlock = some k \/ k = w.heap.size) : Apart v' q B := fun g hg hq e => by
 rcases hv g hg with h1 | h1
 ·exact h g h1 hq e
 ·have := hB hq; omega
theorem Apart.ne {v : Value} {q : List UInt8} {B : Nat} (h : Apart v q B) : 0 < q.length -> v.ownBlock ≠ some B := fun hq e => h B e hq rfl
theorem copyStep_room {size : Nat} {O q : List UInt8} {n : Nat} (h : size - O.length < n) : copyStep size O q n = none := by
 rcases parse_cases q with hq | ⟨d, r, hd, rfl⟩
 ·exact copyStep_bad hq
 ·rw [copyStep_num hd, if_pos (by omega)]
theorem src_out {w : World} {base k oc : Nat} {oa : Option Addr} {O : List UInt8} (hk : k = O.length) (hown : w.ownsRow base 5 1 (.slice oa k oc) k (O.map B8)) : ∃ GB, SrcAt w oa oc O GB 0 := by
 rw [hk] at hown; obtain ⟨ga, gc, GB, hv, sg, _⟩ := src_of_own hown; simp only [Value.slice.injEq, true_and] at hv; obtain ⟨rfl, rfl⟩ := hv; exact ⟨GB, sg⟩
theorem own_slice {w : World} {base n : Nat} {v : Value} {O : List UInt8} (hn : n = O.length) (h : w.ownsRow base 5 1 v n (O.map B8)) : ∃ oa oc, v = .slice oa n oc := by
 subst hn; obtain ⟨oa, oc, _, rfl, _, _⟩ := src_of_own h; exact ⟨oa, oc, rfl⟩
theorem refOpen_any (ao : Option Addr) (cap : Nat) (p : List UInt8) (B off : Nat) (most : Int) (w : World) (h : SrcAt w ao cap p B off) (hs : p.length <= 140737488355328) (hsz : ∀ s k, parse p = some (s, k) -> (s : Int) <= most -> s <= 140737488355328) :
  Calls Tryz.prog 49 #[.slice ao p.length cap, .int .i64 most] w (Opened w (openL p most)) := by
 rcases parse_cases p with hp | ⟨s, r, hs62, he⟩
 ·rw [openL_none hp]
  have ht := refTakeNum_no ao cap p B off w h hs hp; obtain ⟨n, hn⟩ := nm_ (p.length); rw [<- hn] at ht |-; have HT := h_ ht; clear ht hn hp hsz; go_enter Tryz.func49, Tryz.ntmps49; go_wp2_with fail; refine HT.out.mono ?_; rintro e w1 ⟨rfl, b1⟩; go_wp2_with fail; go_ret2; exact ⟨rfl, b1⟩
 ·have ht := refTakeNum_new ao cap p B off w h hs s r hs62 he
  have ho : openL p most = if most < (s : Int) then none else tok s r.length [] r := by rw [he]; exact openL_num hs62
  rw [ho]; have hsz' : (s : Int) <= most -> s <= 140737488355328 := by
   refine hsz s (numL s).length ?_; rw [he]; exact parse_numL s r hs62
  have hrs : r.length <= 140737488355328 := by rw [he, List.length_append] at hs; omega
  obtain ⟨n, hn⟩ := nm_ (p.length); rw [<- hn] at ht |-; obtain ⟨rl, hrl⟩ := nm_ (r.length); rw [<- hrl] at ht; have HT := h_ ht; have HRL := h_ hrl; clear ht hn hsz ho he; by_cases hmost : most < (s : Int)
  ·rw [if_pos hmost]
   clear hrl; go_enter Tryz.func49, Tryz.ntmps49; go_wp2_with fail; refine HT.out.mono ?_; rintro e w1 ⟨a1, c1, o1, rfl, s1, _, b1⟩; go_wp2_with fail; go_ret2; exact ⟨rfl, b1⟩
  ·rw [if_neg hmost]
   have hsm := hsz' (by omega)
   have hdm : decide (most < (s : Int)) = false := by simp; omega
   obtain ⟨base, hbase⟩ := nm_ (w.heap.size); have hbw : base <= w.heap.size := by omega
   have hwb : w.heap.size <= base := by omega
   obtain ⟨R, hR⟩ := nm_ (tok s r.length [] r); rw [<- hR]; have HR := h_ hR; clear hsz' hmost hbase hR hrl; go_enter Tryz.func49, Tryz.ntmps49; go_wp2_with fail; refine HT.out.mono ?_; rintro e w1 ⟨a1, c1, B1, rfl, s1, _, b1⟩; clear HT; go_wp2_with fail; go_loopw [0, 8] (fun x out W => ∃ (O q : List UInt8) (f ql k : Nat) (a : Option Addr) (c b o : Nat) (oa : Option Addr) (oc : Nat), x = .slice a ql c /\ ql = q.length /\ out = .slice oa k oc /\ k = O.length /\ q.length <= f /\ tok s f O q = R /\ O.length <= s /\ q.length <= 140737488355328 /\ W.ownsRow base 5 1 (.slice oa k oc) k (O.map B8) /\ SrcAt W a c q b o /\ Apart (.slice oa k oc) q b /\ Below base w W) (fun x _ _ => lenV x)
   case atStart => exact ⟨[], r, r.length, rl, 0, a1, c1, B1, 0, none, 0, rfl, HRL.out, rfl, rfl, Nat.le_refl _, HR.out.symm, Nat.zero_le _, hrs, World.ownsRow_nil _ _ _ _, s1, (fun g hg => by cases hg), b1.mono hbw⟩
   case round =>
    clear s1 b1 HR HRL; obtain ⟨O, q, f, ql, k, a, c, b, o, oa, oc, rfl, hql, rfl, hk, hf, htok, hO, hqs, hown, hq, hap, hbel⟩ := hrel; obtain ⟨wo, rfl⟩ : ∃ wo : World, wo = wr := ⟨_, rfl⟩
    have hzb : base <= wo.heap.size := Nat.le_trans hbw hbel.size
    have hks : k <= s := by omega
    obtain ⟨room, hroom⟩ := nm_ (s - k); have hri : (s : Int) - (k : Int) = (room : Int) := by omega
    have hkr : k + room <= 140737488355328 := by omega
    by_cases hlt : 0 < ql
    ·obtain ⟨f, rfl⟩ : ∃ f', f = f' + 1 := ⟨f - 1, by omega⟩
     rw [tok_stepT (by omega)] at htok
     rcases parse_cases q with hp | ⟨t, q1, ht62, he⟩
     ·have htk := refTakeNum_no a c q b o wo hq hqs hp
      rw [<- hql] at htk; rw [stepT_bad hp] at htok; have hRn : R = none := htok.symm
      have HT := h_ htk; have HRn := h_ hRn; clear htk hp htok hRn hql hk hown hap hri hroom hf hO; go_wp2_with fail; refine HT.out.mono ?_; rintro e w2 ⟨rfl, b2⟩; go_wp2_with fail; go_ret2; rw [HRn.out]; exact ⟨rfl, (hbel.trans (b2.mono hzb)).mono hwb⟩
     ·have htk := refTakeNum_new a c q b o wo hq hqs t q1 ht62 he
      rw [<- hql] at htk; have hlq : q1.length < q.length := by rw [he, List.length_append]; have := numL_pos t; omega
      obtain ⟨ql1, hql1⟩ := nm_ (q1.length); rw [<- hql1] at htk; have hti : (t : Int) <= 4611686018427387903 := by omega
      obtain ⟨n1, hn1⟩ := nm_ (t / 2 + 1); have hn1i : (t : Int) / 2 + 1 = (n1 : Int) := by omega
      have HT := h_ htk; have HQ1 := h_ hql1; by_cases hodd : t % 2 = 1
      ·have hb0 : ((t : Int) % 2 == 1) = true := by simp; omega
       have hb0' : ((t : Int) % 2 == 0) = false := by simp; omega
       obtain ⟨n2, hn2⟩ := nm_ (t / 2 + 4); have hn2i : (t : Int) / 2 + 4 = (n2 : Int) := by omega
       have hn4 : 4 <= n2 := by omega
       have hsc := stepT_copy (size := s) (O := O) (q := q1) ht62 hodd
       rw [<- he, <- hn2] at hsc; rw [hsc] at htok; by_cases hbad : room < n2
       ·rw [copyStep_room (by omega)] at htok
        have hRn : R = none := htok.symm
        have HRn := h_ hRn; clear htk hsc htok hRn hql hk hown hap hroom hf hO he hn1 hn2 hodd hql1 hlq; go_wp2_with fail; refine HT.out.mono ?_; rintro e w2 ⟨a2, c2, B2, rfl, s2, _, b2⟩; go_wp2_with fail; go_ret2; rw [HRn.out]; exact ⟨rfl, (hbel.trans (b2.mono hzb)).mono hwb⟩
       ·have hgood : n2 <= room := by omega
        have hgb : decide (room < n2) = false := by simp; omega
        rcases parse_cases q1 with hp1 | ⟨d, q2, hd62, he1⟩
        ·rw [copyStep_bad hp1] at htok
         have hRn : R = none := htok.symm
         have HRn := h_ hRn; have htk2 := fun (a2 : Option Addr) (c2 B2 : Nat) (W : World) (hW : SrcAt W a2 c2 q1 B2 0) => refTakeNum_no a2 c2 q1 B2 0 W hW (by omega) hp1
         rw [<- hql1] at htk2; have HT2 := h_ htk2; clear htk hsc htok hRn hql hk hown hap hroom hf hO he hn1 hn2 hodd hql1 hlq hbad hp1 htk2; go_wp2_with fail; refine HT.out.mono ?_; rintro e w2 ⟨a2, c2, B2, rfl, s2, _, b2⟩; go_wp2_with fail; refine (HT2.out _ _ _ _ s2).mono ?_; rintro e w3 ⟨rfl, b3⟩; have bX := hbel.trans (b2.mono hzb); have bY := bX.trans (b3.mono (Nat.le_trans hbw bX.size)); go_wp2_with fail; go_ret2; rw [HRn.out]; exact ⟨rfl, bY.mono hwb⟩
        ·have htk2 := fun (a2 : Option Addr) (c2 B2 : Nat) (W : World) (hW : SrcAt W a2 c2 q1 B2 0) => refTakeNum_new a2 c2 q1 B2 0 W hW (by omega) d q2 hd62 he1
         rw [<- hql1] at htk2; have hlq2 : q2.length < q1.length := by rw [he1, List.length_append]; have := numL_pos d; omega
         obtain ⟨ql2, hql2⟩ := nm_ (q2.length); rw [<- hql2] at htk2; have HT2 := h_ htk2; have HQ2 := h_ hql2; have hcn := copyStep_num (size := s) (O := O) (r := q2) (n := n2) hd62
         rw [<- he1] at hcn; rw [hcn] at htok; by_cases hgood2 : n2 <= 259 /\ 1 <= d /\ d <= k /\ d <= 4096
         ·obtain ⟨g1, g2, g3, g4⟩ := hgood2
          rw [if_neg (by omega)] at htok
          have htok2 : tok s f (copyL d n2 O) q2 = R := htok
          have f1 : decide ((n2 : Int) > 259) = false := by simp; omega
          have f2 : decide ((d : Int) < 1) = false := by simp; omega
          have f3 : decide (k < d) = false := by simp; omega
          have f4 : decide ((d : Int) > 4096) = false := by simp; omega
          have hlen2 : (copyL d n2 O).length = k + n2 := by rw [copyL_length, <- hk]
          have hkrs : k + room <= s := by omega
          have hm0 : ql2 < ql := by omega
          have HTK := h_ htok2; have HK := h_ hk; have HLen := h_ hlen2; have HW := h_ hown; clear htk hsc htok htok2 hql hk hown hap hroom he hn1 hn2 hodd hql1 hql2 hbad htk2 hcn he1 hlen2; go_wp2_with fail; refine HT.out.mono ?_; rintro e w2 ⟨a2, c2, B2, rfl, s2, _, b2⟩; have own2 := own_below HW.out b2; have bX := hbel.trans (b2.mono hzb); clear HT HW b2 hbel; go_wp2_with fail; refine (HT2.out _ _ _ _ s2).mono ?_; rintro e w3 ⟨a3, c3, B3, rfl, s3, hB3, b3⟩; have ap3 : Apart (.slice oa k oc) q2 B3 := apart_new own2 (by rw [<- HQ2.out]; exact hB3)
          have own3 := own_below own2 b3; have hz3 : base <= w2.heap.size := Nat.le_trans hbw bX.size
          have bY := bX.trans (b3.mono hz3); have OW3 := h_ own3; have AP3 := h_ ap3; clear HT2 own2 own3 ap3 hB3 b3 bX s2 hz3; go_wp2_with fail; clear f1 f2 f3 f4 hgb hb0 hb0' hn1i hn2i hri; go_loopw [8, 15] (fun out cnt W => ∃ (y k' : Nat) (a' : Option Addr) (oc' : Nat) (O' : List UInt8), out = .slice a' k' oc' /\ k' = O'.length /\ cnt = .int .i64 (y : Int) /\ y <= n2 /\ k' = k + y /\ copyL d (n2 - y) O' = copyL d n2 O /\ W.ownsRow base 5 1 (.slice a' k' oc') k' (O'.map B8) /\ SrcAt W a3 c3 q2 B3 0 /\ Apart (.slice a' k' oc') q2 B3 /\ Below base w W) (fun _ cnt _ => n2 - (intOf cnt).toNat)
          case atStart => exact ⟨0, k, oa, oc, O, rfl, HK.out, rfl, Nat.zero_le _, rfl, rfl, OW3.out, s3, AP3.out, bY⟩
          case round =>
           clear s3 bY OW3 AP3; obtain ⟨y, k', a', oc', O', rfl, hk', rfl, hyn, hky, hcl, hown, hs3, hap, hbel⟩ := hrel; by_cases hlt : y < n2
           ·obtain ⟨GB, sg⟩ := src_out hk' hown
            obtain rfl := sg.src (by omega)
            have c0 := sg.cell (k' - d) (by omega)
            rw [Nat.zero_add] at c0; have hstep : copyL d (n2 - (y + 1)) (O' ++ [O'.getD (k' - d) 0]) = copyL d n2 O := by
             rw [<- hcl, show n2 - y = (n2 - (y + 1)) + 1 by omega, copyL_step, <- hk']
            obtain ⟨z, hz⟩ := nm_ (O'.getD (k' - d) 0); rw [<- hz] at c0 hstep; have HST := h_ hstep; have HW := h_ hown; have HK' := h_ hk'; have HKY := h_ hky; have HS3 := h_ hs3; have HAP := h_ hap; have hdk : d <= k' := by omega
            have hkb : k' + 1 <= 140737488355328 := by omega
            have hzb2 : base <= _ := Nat.le_trans hbw hbel.size
            clear hstep hown hk' hky hcl sg hz hs3 hap; go_wp2_with (at_builtin; refine wpList_append_new rfl _ _ rfl base _ k' _ rfl (HW.out.alloc _) (some ⟨_, 0, none⟩) 1 1 rfl [.int .u8 (z.toNat : Int)] rfl (fun hh => by cases hh) (fun ad had => by cases had; exact news_one _ _) (by simp [Value.oneCell']) (by omega) (by simp; omega) ?_; intro v3 w4 O3 G3 N3)
            have hb3 : Below base w w4 := (hbel.alloc hzb2 _).grown G3.out (by simp; omega) (fun k hk => (HW.out.lt k hk).1)
            have s4 : SrcAt w4 a3 c3 q2 B3 0 := (HS3.out.below ((Below.refl _ _).alloc (Nat.le_refl _) _)).grown G3.out HAP.out.ne; have ap4 : Apart v3 q2 B3 := HAP.out.next (w := World.alloc _ _) (fun hh => (HS3.out.below ((Below.refl _ _).alloc (Nat.le_refl _) _)).old hh) N3.out
            have h3 := O3.out; have e3 : O'.map B8 ++ [(.int .u8 (z.toNat : Int) : Value)] = (O' ++ [z]).map B8 := by rw [List.map_append]; rfl
            have hl3 : k' + 1 = (O' ++ [z]).length := by rw [List.length_append, <- HK'.out]; rfl
            rw [e3] at h3; obtain ⟨va, vc, rfl⟩ := own_slice hl3 h3; have H3 := h_ h3; have HL3 := h_ hl3; have S4 := h_ s4; have AP4 := h_ ap4; clear h3 hl3 e3 O3 G3 N3 s4 ap4; go_wp2_with fail; go_roundw
            case rel => exact ⟨y + 1, k' + 1, va, vc, O' ++ [z], rfl, HL3.out, by go_num, by omega, by have := HKY.out; omega, HST.out, H3.out, S4.out, AP4.out, hb3⟩
            case measure => simp [intOf]; omega
           ·obtain rfl : y = n2 := by omega
            rw [Nat.sub_self] at hcl; have hcl2 : O' = copyL d y O := hcl
            have htk : tok s f O' q2 = R := by rw [hcl2]; exact HTK.out
            have hOs : O'.length <= s := by rw [hcl2, HLen.out]; omega
            have hqf : q2.length <= f := by omega
            have hq2s : q2.length <= 140737488355328 := by omega
            have HF := h_ htk; have HW := h_ hown; have HK' := h_ hk'; have HS3 := h_ hs3; have HAP := h_ hap; clear hown hk' hky hcl hcl2 hs3 hap htk; go_wp2_with fail; go_roundw
            case rel => exact ⟨O', q2, f, ql2, k', a3, c3, B3, 0, a', oc', rfl, HQ2.out, rfl, HK'.out, hqf, HF.out, hOs, hq2s, HW.out, HS3.out, HAP.out, hbel⟩
            case measure => simp [lenV]; omega
         ·rw [if_pos (by omega)] at htok
          have hRn : R = none := htok.symm
          have HRn := h_ hRn; clear htk hsc htok hRn hql hown hap hroom hf hO he hn1 hn2 hodd hql1 hql2 hlq hlq2 hbad htk2 hcn he1 hk; have four : (259 < n2) \/ (n2 <= 259 /\ d < 1) \/ (n2 <= 259 /\ 1 <= d /\ k < d) \/ (n2 <= 259 /\ 1 <= d /\ d <= k /\ 4096 < d) := by omega
          clear hgood2; rcases four with x1 | ⟨x1, x2⟩ | ⟨x1, x2, x3⟩ | ⟨x1, x2, x3, x4⟩
          all_goals
           go_wp2_with fail; refine HT.out.mono ?_; rintro e w2 ⟨a2, c2, B2, rfl, s2, _, b2⟩; have bX := hbel.trans (b2.mono hzb); go_wp2_with fail; refine (HT2.out _ _ _ _ s2).mono ?_; rintro e w3 ⟨a3, c3, B3, rfl, s3, hB3, b3⟩; have bY := bX.trans (b3.mono (Nat.le_trans hbw bX.size)); go_wp2_with fail; go_ret2; rw [HRn.out]; exact ⟨rfl, bY.mono hwb⟩
      ·have hb0 : ((t : Int) % 2 == 1) = false := by simp; omega
       have hb0' : ((t : Int) % 2 == 0) = true := by simp; omega
       have hsc := stepT_run (size := s) (O := O) (q := q1) ht62 hodd
       rw [<- he, <- hn1] at hsc; rw [hsc] at htok; by_cases hbad : room < n1
       ·rw [if_pos (by omega)] at htok
        have hRn : R = none := htok.symm
        have HRn := h_ hRn; clear htk hsc htok hRn hql hk hown hap hroom hf hO he hn1 hodd hql1 hlq; go_wp2_with fail; refine HT.out.mono ?_; rintro e w2 ⟨a2, c2, B2, rfl, s2, _, b2⟩; go_wp2_with fail; go_ret2; rw [HRn.out]; exact ⟨rfl, (hbel.trans (b2.mono hzb)).mono hwb⟩
       ·have hgb : decide (room < n1) = false := by simp; omega
        by_cases hbad2 : ql1 < n1
        ·rw [if_pos (by omega)] at htok
         have hRn : R = none := htok.symm
         have HRn := h_ hRn; have hgood : n1 <= room := by omega
         clear htk hsc htok hRn hql hk hown hap hroom hf hO he hn1 hodd hql1 hlq hbad; go_wp2_with fail; refine HT.out.mono ?_; rintro e w2 ⟨a2, c2, B2, rfl, s2, _, b2⟩; go_wp2_with fail; go_ret2; rw [HRn.out]; exact ⟨rfl, (hbel.trans (b2.mono hzb)).mono hwb⟩
        ·rw [if_neg (by omega)] at htok
         have hgood : n1 <= room := by omega
         have hgood2 : n1 <= ql1 := by omega
         have htk2 : tok s f (O ++ q1.take n1) (q1.drop n1) = R := htok
         have l2 : (q1.take n1).length = n1 := by rw [List.length_take]; omega
         have l3 : (q1.drop n1).length = ql1 - n1 := by rw [List.length_drop, hql1]
         have hOn : (O ++ q1.take n1).length = k + n1 := by rw [List.length_append, l2, <- hk]
         obtain ⟨z, hz⟩ := nm_ (ql1 - n1); rw [<- hz] at l3; have hgb2 : decide (ql1 < n1) = false := by simp; omega
         have hfz : z <= f := by omega
         have hzq : z <= 140737488355328 := by omega
         have hzm : z < ql := by omega
         have HTK := h_ htk2; have HK := h_ hk; have HW := h_ hown; have L2 := h_ l2; have L3 := h_ l3; have HON := h_ hOn; have HZ := h_ hz; have hn0 : (0 : Int) <= (n1 : Int) := by omega
         have hnq : (n1 : Int) <= (ql1 : Int) := by omega
         clear htk hsc htok htk2 hql hk hown hap hroom he hn1 hodd hql1 hbad hbad2 l2 l3 hOn hz; go_wp2_with fail; refine HT.out.mono ?_; rintro e w2 ⟨a2, c2, B2, rfl, s2, hB2, b2⟩; have own2 := own_below HW.out b2; have ap2 : Apart (.slice oa k oc) q1 B2 := apart_new HW.out (by rw [<- HQ1.out]; exact hB2)
         obtain ⟨a3, hs3, s3⟩ := s2.slice_h n1 (by have := HQ1.out; omega)
         obtain ⟨a4, hs4, s4⟩ := s2.slice_l n1 (by have := HQ1.out; omega)
         rw [<- HQ1.out] at hs3 hs4; rw [<- HZ.out] at hs4; have bX := hbel.trans (b2.mono hzb); have hz2' : base <= w2.heap.size := Nat.le_trans hbw bX.size
         have OW2 := h_ own2; have AP2 := h_ ap2; clear HT HW b2 hbel own2 ap2 hB2 s2; go_wp2_with (at_builtin; refine wpList_append_new rfl _ _ rfl base _ k _ rfl OW2.out a3 n1 c2 rfl ((q1.take n1).map B8) (by rw [List.length_map]; exact L2.out) (fun hh => by have hz := s3.bare hh; rw [L2.out] at hz; exact hz) s3.cells (B8_one _) (by omega) (by omega) ?_; intro v3 w4 O3 G3 N3)
         have hb3 : Below base w w4 := bX.grown G3.out hz2' (fun k hk => (OW2.out.lt k hk).1)
         have AP3 : Apart (.slice oa k oc) (q1.drop n1) B2 := AP2.out.piece (by rw [List.length_drop]; omega)
         have s5 : SrcAt w4 a4 (c2 - n1) (q1.drop n1) B2 (0 + n1) := s4.grown G3.out AP3.ne; have ap5 : Apart v3 (q1.drop n1) B2 := AP3.next (fun hh => s4.old hh) N3.out
         have h3 := O3.out; rw [<- List.map_append] at h3; obtain ⟨va, vc, rfl⟩ := own_slice HON.out.symm h3; have H3 := h_ h3; have S5 := h_ s5; have AP5 := h_ ap5; clear h3 O3 G3 N3 s4 s3 AP3 ap5 s5; go_wp2_with fail; go_roundw
         case rel => exact ⟨O ++ q1.take n1, q1.drop n1, f, z, k + n1, a4, c2 - n1, B2, 0 + n1, va, vc, rfl, L3.out.symm, rfl, HON.out.symm, by rw [L3.out]; exact hfz, HTK.out, by rw [HON.out]; omega, by rw [L3.out]; exact hzq, H3.out, S5.out, AP5.out, hb3⟩
         case measure => simp [lenV]; omega
    ·obtain rfl : ql = 0 := by omega
     obtain rfl : q = [] := List.eq_nil_of_length_eq_zero hql.symm
     rw [tok_end] at htok; by_cases hfew : k = s
     ·obtain rfl := hfew
      rw [if_pos hk.symm] at htok; obtain ⟨GB, sg⟩ := src_out hk hown; have HTK := h_ htok; have HK := h_ hk; clear htok hown hk hql hf hq hO hap hri hroom hkr hks; go_wp2_with fail; go_ret2; rw [<- HTK.out]; exact ⟨oa, oc, GB, by rw [<- HK.out]; rfl, sg, hbel.mono hwb⟩
     ·rw [if_neg (by omega)] at htok
      have HTK := h_ htok; have hne : (k == s) = false := by simp; omega
      have hneI : ((k : Int) == (s : Int)) = false := by simp; omega
      clear htok hown hk hql hf hq hO hap hri hroom hkr hfew; go_wp2_with fail; go_ret2; rw [<- HTK.out]; exact ⟨rfl, hbel.mono hwb⟩
end
end Go.Proofs.YtomgijcbekjlaaaGreat
