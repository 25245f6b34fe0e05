/- What the proofs stand on: PressLongest. -/
import Derived.Deep.RegionHeld3
import Derived.Test.YtomgijcbekjlaaaGreatP26
import Derived.Test.YtomgijcbekjlaaaGreatPB0
import Derived.Test.YtomgijcbekjlaaaGreatPB1
set_option maxRecDepth 100000
set_option maxHeartbeats 40000000
namespace Go.Proofs.YtomgijcbekjlaaaGreat
section
open Go.RowKit
open Go.Maps (has)
theorem few_longest {b : List UInt8} {i : Nat} (hi : i <= b.length) (h : b.length < i + 4) : longest4 b i = (0, 0) := by
 have h1 : ∀ d, lng4 b i d = (0, 0) := by
  intro d
  induction d with
  | zero => rfl
  | succ d ih =>
   have ha := alike_is b (i - (d + 1)) i hi; have := ha.len
   rw [lng4_skip (by omega), ih]
 exact h1 _
structure GoneAt (bs : List UInt8) (i most L Dd : Nat) (z : Int) (β : Bool) : Prop where
 le : L <= most
 yes : β = true -> ∃ k : Nat, z = k /\ k < i /\ i <= k + 4096 /\ four bs k = four bs i /\ lng4 bs i (i - k - 1) = (L, Dd)
 no : β = false -> longest4 bs i = (L, Dd)
def okN (v : Value) (z : Int) : Nat := match v with
 | .bool true => z.toNat + 1
 | _ => 0
theorem longest_any (ao : Option Addr) (cap : Nat) (bs : List UInt8) (B off : Nat) (i pb mb n : Nat) (D : DataW Unit) (tab : Nat -> Int) (w : World) (h : SrcAt w ao cap bs B off) (hs : bs.length <= 281474976710656) (hi : i < bs.length)
  (ht : TabAt w pb mb tab) (hm : MapAt w mb n D) (hn : i + 4 <= bs.length -> NearIs D bs i) (hb : i + 4 <= bs.length -> BackIs tab bs i) :
  Calls Tryz.prog 146 #[.pointer (some ⟨pb, 0, none⟩), .slice ao bs.length cap, .int .i64 (i : Int)] w fun e w' => e = .returned (.tuple #[.int .i64 ((longest4 bs i).1 : Int), .int .i64 ((longest4 bs i).2 : Int)]) /\ Below w.heap.size w w' := by
 by_cases h4 : i + 4 <= bs.length
 ·have hn := hn h4
  have hb := hb h4; obtain ⟨F, hF⟩ := nm_ (four bs i); have hFl : F.length = 4 := by rw [hF]; rfl
  have hfour := fun (W : World) (hW : SrcAt W ao cap bs B off) => fourAt_any ao cap bs B off i W hW h4 hs
  rw [<- hF] at hfour; obtain ⟨c, O, hc, hwf, hO, hl1, hl2⟩ := look_run hm hFl; have hcell := ht.cell0; have hpl := ht.lt; have hml : mb < w.heap.size := hm.lt; obtain ⟨β, hβ⟩ := nm_ (has D (fourK F)); obtain ⟨most, hmost⟩ : ∃ m : Nat, m = min 259 (bs.length - i) := ⟨_, rfl⟩
  have hmi : (if (259 : Int) > (bs.length : Int) - (i : Int) then (bs.length : Int) - (i : Int) else 259) = (most : Int) := by split <;> omega
  have hm4 : 4 <= most := by omega
  have hm4d : decide ((most : Int) < 4) = false := by simp; omega
  have hstart : GoneAt bs i most 0 0 c β := by
   have hsays := hn.says F hFl; refine ⟨Nat.zero_le _, fun hy => ?_, fun hno => ?_⟩
   ·cases hk : near bs F i with
    | none =>
     rw [hk] at hsays; have : has D (fourK F) = false := hsays
     rw [<- hβ, hy] at this
     cases this
    | some k =>
     rw [hk] at hsays; have hat := hsays.2; rw [hc] at hat; simp only [DataW.lit.injEq, Lit.int.injEq, true_and] at hat; rw [hF] at hk; obtain ⟨g1, g2, g3, g4⟩ := near_some hk; exact ⟨k, hat, g1, g2, g3, chain_some h4 hk⟩
   ·cases hk : near bs F i with
    | none => rw [hF] at hk; exact chain_none h4 hk
    | some k =>
     rw [hk] at hsays; have : has D (fourK F) = true := hsays.1
     rw [<- hβ, hno] at this
     cases this
  obtain ⟨N, hN⟩ := nm_ (bs.length); rw [<- hβ] at hl1; have hmN : i + most <= bs.length := by omega
  have hm259 : most <= 259 := by omega
  have h4b : i + 4 <= bs.length := h4
  have hsb : bs.length <= 281474976710656 := hs
  have hNl : N <= bs.length := by omega
  have HS := h_ hstart; rw [<- hN] at hs hi h4 hfour hmi |-; have HF := h_ hF; have HN := h_ hN; have HM := h_ hmost; have H4 := h_ hfour; clear hF hFl hN hβ hmost hc hwf hfour hl2 hn hstart; go_enter Tryz.func146, Tryz.ntmps146; go_wp2; go_region_held3 (fun w' => w'.cell? ⟨pb, 0, none⟩ = some (.map (some mb)) /\ w'.heap[mb]? = some O)
   (first | exact ⟨hcell, hO⟩ | exact ⟨(b1.cell hpl).trans hcell, below_heap b1 hO⟩ | go_keep)
   (first | (go_at_call 170; refine (H4.out _ (h.below (Below.refl _ _).drew)).mono ?_; rintro e w1 ⟨rfl, b1⟩))
  go_wp2; have b1' : Below w.heap.size w w1 := (Below.refl _ _).drew.trans b1; clear b1 hl1 hmi hcell hO hml; go_loopw [6, 7, 9, 10] (fun x y kv ok wr => ∃ (L Dd : Nat) (z : Int) (β : Bool), x = .int .i64 (L : Int) /\ y = .int .i64 (Dd : Int) /\ kv = .int .i64 z /\ ok = .bool β /\ GoneAt bs i most L Dd z β /\ Below w.heap.size w wr) (fun _ _ kv ok _ => okN ok (intOf kv))
  case atStart => exact ⟨0, 0, c, β, rfl, rfl, rfl, rfl, HS.out, b1'⟩
  case round =>
   clear b1' HS; obtain ⟨L, Dd, z, γ, rfl, rfl, rfl, rfl, hg, hbel⟩ := hrel
   cases γ with
   | false =>
    have hfin := hg.no rfl; have HFin := h_ hfin; clear hg hfin; go_wp2; go_ret2; rw [HFin.out]; exact ⟨rfl, hbel⟩
   | true =>
    obtain ⟨k, rfl, hki, hkr, hkf, hkl⟩ := hg.yes rfl; have hLm := hg.le; clear hg; by_cases hlt : L < most
    ·have hy := h.below hbel
     have hlen := hNl; obtain ⟨a1, hs1, r1⟩ := hy.slice_lh k (L + 1) (by omega)
     obtain ⟨a2, hs2, r2⟩ := hy.slice_lh i (L + 1) (by omega)
     have l1 : ((bs.drop k).take (L + 1)).length = L + 1 := by rw [List.length_take, List.length_drop]; omega
     have l2 : ((bs.drop i).take (L + 1)).length = L + 1 := by rw [List.length_take, List.length_drop]; omega
     have heq : ((bs.drop k).take (L + 1) = (bs.drop i).take (L + 1)) ↔ L + 1 <= alike bs k i := (equal_pieces hki (by omega)).trans (alike_more (by omega) (by omega))
     have hE := fun (m : Nat) => equal_any (wr.drewN m) (r1.below (below_drewN (Below.refl _ _) m)) (r2.below (below_drewN (Below.refl _ _) m))
     have e0 : ((L + 1 : Nat) : Int) = (L : Int) + 1 := by omega
     have e1 : (k : Int) + ((L + 1 : Nat) : Int) = (k : Int) + (L : Int) + 1 := by omega
     have e2 : (i : Int) + ((L + 1 : Nat) : Int) = (i : Int) + (L : Int) + 1 := by omega
     rw [l1, l2] at hE; rw [<- HN.out, e1] at hs1; rw [<- HN.out, e2] at hs2; have hx1 : IntKind.i64.wrap ((k : Int) + (L : Int)) = (k : Int) + (L : Int) := IntWalk.i64_in _ (by omega)
     have hx2 : IntKind.i64.wrap ((k : Int) + (L : Int) + 1) = (k : Int) + (L : Int) + 1 := IntWalk.i64_in _ (by omega)
     have hx3 : IntKind.i64.wrap ((i : Int) + (L : Int)) = (i : Int) + (L : Int) := IntWalk.i64_in _ (by omega)
     have hx4 : IntKind.i64.wrap ((i : Int) + (L : Int) + 1) = (i : Int) + (L : Int) + 1 := IntWalk.i64_in _ (by omega)
     have hto := chain_take h4b hki hkf; rw [hkl] at hto; have hback := hb k hki hkr; obtain ⟨x, hx⟩ := nm_ (backOf bs k); have hxk : x <= k := by
      rw [hx]; by_cases h0 : 0 < backOf bs k
      ·exact (backOf_some h0).1
      ·omega
     rw [<- hx] at hback; have hahead := fun (W : World) (hW : Below w.heap.size w W) => ahead_any pb mb tab k i x W (ht.below hW) (by omega) (by omega) hxk hback
     have hgone : ∀ (L' D' : Nat) (γ : Bool), lng4 bs i (i - k) = (L', D') -> L' <= most -> (γ = true ↔ 0 < x /\ i - k + x <= 4096) -> GoneAt bs i most L' D' ((k - x : Nat) : Int) γ := by
      intro L' D' γ g1 g2 g3
      refine ⟨g2, fun hy => ?_, fun hno => ?_⟩
      ·obtain ⟨g4, g5⟩ := g3.1 hy
       rw [hx] at g4; have g6 := chain_next h4b hki hkf g4; have g7 := backOf_some g4; rw [<- hx] at g6 g7; exact ⟨k - x, rfl, by omega, by omega, by rw [g7.2.2.1]; exact hkf, by rw [g6, g1]⟩
      ·have g4 : ¬ (0 < x /\ i - k + x <= 4096) := fun hh => by rw [g3.2 hh] at hno; cases hno
       rw [hx] at g4; rw [chain_last h4b hki hkr hkf g4, g1]
     have HE := h_ hE; have HT := h_ hto; have HA := h_ hahead; have HG := h_ hgone; have HQ := h_ heq; clear hE hto hahead hgone heq hback hx hkl hkf hy r1 r2 l1 l2 e1 e2; by_cases hgt : L + 1 <= alike bs k i
     ·have hal := fun (W : World) (hW : SrcAt W ao cap bs B off) => alike_any ao cap bs B off k i (L + 1) most W hW hsb hki HM.out (by omega) hlt ((alike_more (by omega) (by omega)).2 hgt)
      rw [<- HN.out, e0] at hal; obtain ⟨A, hA⟩ := nm_ (alike bs k i); have hLA : L < A := by omega
      have hAm : A <= most := by
       have := alike_is bs k i (by omega)
       have g1 := this.le; have g2 := this.len; have g3 := HM.out; omega
      have hd : decide ((bs.drop k).take (L + 1) = (bs.drop i).take (L + 1)) = true := decide_eq_true (HQ.out.2 hgt)
      have hE2 := HE.out; rw [hd] at hE2; have HE2 := h_ hE2; rw [<- hA] at hal; have HAl := h_ hal; have HAe := h_ hA; clear hal hA hd hgt e0 HE hE2; go_wp2; go_quiet ((go_at_call 105; exact Calls.quiet_of_same (HE2.out _)))
      go_wp2_with fail; refine (HAl.out _ (h.below (below_drewN hbel _))).mono ?_; rintro e w2 ⟨rfl, b2⟩; have bb : Below w.heap.size w w2 := (below_drewN hbel _).trans (b2.mono hbel.size); go_wp2_with fail; refine (HA.out _ bb).mono ?_; rintro e w3 ⟨⟨γ, rfl, hγ⟩, rfl⟩; have HY := h_ hγ; clear hγ; go_wp2_with fail; go_roundw
      case rel =>
       have e3 : (i : Int) - (k : Int) = ((i - k : Nat) : Int) := by omega
       refine ⟨A, i - k, _, γ, rfl, by rw [e3], rfl, rfl, HG.out A (i - k) γ ?_ hAm HY.out, bb⟩
       have g1 := HT.out; have g2 := HAe.out; rw [g1, if_pos (by rw [<- g2]; exact hLA), g2]
      case measure =>
       cases γ <;> simp [okN, intOf]
       have := HY.out.1 rfl
       omega
     ·have hd : decide ((bs.drop k).take (L + 1) = (bs.drop i).take (L + 1)) = false := decide_eq_false (fun hh => hgt (HQ.out.1 hh))
      have hE2 := HE.out; rw [hd] at hE2; have HE2 := h_ hE2; have hT2 : lng4 bs i (i - k) = (L, Dd) := by
       have g1 := HT.out; rw [if_neg (show ¬ L < alike bs k i by omega)] at g1
       exact g1
      have HT2 := h_ hT2; clear hd hgt e0 HE hE2 HT hT2; go_wp2; go_quiet ((go_at_call 105; exact Calls.quiet_of_same (HE2.out _)))
      have bb := below_drewN hbel nq; go_wp2_with fail; refine (HA.out _ bb).mono ?_; rintro e w3 ⟨⟨γ, rfl, hγ⟩, rfl⟩; have HY := h_ hγ; clear hγ; go_wp2_with fail; go_roundw
      case rel => exact ⟨L, Dd, _, γ, rfl, rfl, rfl, rfl, HG.out L Dd γ HT2.out (by omega) HY.out, bb⟩
      case measure =>
       cases γ <;> simp [okN, intOf]
       have := HY.out.1 rfl
       omega
    ·have hfin : longest4 bs i = (L, Dd) := by
      have e : (lng4 bs i (i - k - 1)).1 = L := by rw [hkl]
      have hm := HM.out; unfold longest4; rw [lng4_full (by omega) (i - k - 1) (by omega) (by omega) _ (by omega), hkl]
     have HFin := h_ hfin; clear hfin hkl hkf; go_wp2; go_ret2; rw [HFin.out]; exact ⟨rfl, hbel⟩
 ·have h5 : (longest4 bs i) = (0, 0) := few_longest (by omega) (by omega)
  rw [h5]; obtain ⟨N, hN⟩ := nm_ (bs.length); obtain ⟨most, hmost⟩ : ∃ m : Nat, m = min 259 (bs.length - i) := ⟨_, rfl⟩
  have hmi : (if (259 : Int) > (bs.length : Int) - (i : Int) then (bs.length : Int) - (i : Int) else 259) = (most : Int) := by split <;> omega
  have hm4d : decide ((most : Int) < 4) = true := by simp; omega
  rw [<- hN] at hs hi hmi |-; have HNl : i < N := hi; clear hmost h5 h4 hn hb hN; go_enter Tryz.func146, Tryz.ntmps146; go_wp2; go_ret2; exact ⟨rfl, Below.refl _ _⟩
end
end Go.Proofs.YtomgijcbekjlaaaGreat
