/- What the proofs stand on: DiskRefLoad, SafeBoth. -/
import Derived.Test.YtomgijcbekjlaaaGreatP15
import Derived.Test.YtomgijcbekjlaaaGreatP10
import Derived.Deep.RegionHeld3
import Derived.Test.YtomgijcbekjlaaaGreatP14
import Derived.Test.YtomgijcbekjlaaaGreatP0
import Derived.Test.YtomgijcbekjlaaaGreatPB0
import Derived.Test.YtomgijcbekjlaaaGreatPB1
set_option maxRecDepth 100000
set_option maxHeartbeats 40000000
namespace Go.Proofs.YtomgijcbekjlaaaGreat
section
open Go.RowKit
theorem ref_new (w : World) (c : Nat) : RefAt (w.alloc (refO (c : Int) 0 (-1) (.slice none 0 0) false)) (fun k => k = w.heap.size) w.heap.size (newS c) :=
 ⟨_, heap_alloc_new _ _, rfl, filesAt_nil _ _⟩
def RLoadTo (w : World) (L : Files) (c : Nat) (e : Ending) (w' : World) : Prop :=
 Below w.heap.size w w' /\ ((e = .returned (.tuple #[.pointer none, err 1]) /\ ¬ Fit L L.length) \/ (e = .returned (.tuple #[.pointer none, err 4]) /\ Fit L L.length /\ wrap64 ((c : Int) - (costs L : Int)) < 0) \/
  ∃ q, e = .returned (.tuple #[ptr q, err 0]) /\ Fit L L.length /\ 0 <= wrap64 ((c : Int) - (costs L : Int)) /\ RefAt w' (fun k => w.heap.size <= k /\ k < w'.heap.size) q ⟨layF L, c, 0, -1, false⟩)
theorem refLoad_any (c : Nat) (hc : c <= 1099511627776) (v0 : Value) (L : Files) (w : World) (hv : FilesAt w (elder w) v0 L) (hL : L.length <= 4000000000000) (hb : ∀ n b, (n, b) ∈ L -> n.length <= 9223372036854775807 /\ b.length <= 140737488355328) :
  Calls Tryz.prog 39 #[.int .i64 (c : Int), v0] w (RLoadTo w L c) := by
 obtain ⟨ao, cap, P, g, off, rfl, hraw, hhas⟩ := hv; obtain ⟨N, hN⟩ := nm_ (L.length); obtain ⟨B, hB⟩ := nm_ (w.heap.size); have hnew := ref_new w c; have hbn : Below w.heap.size w (w.alloc (refO (c : Int) 0 (-1) (.slice none 0 0) false)) := (Below.refl _ _).alloc (Nat.le_refl _) _; have hns : w.heap.size < (w.alloc (refO (c : Int) 0 (-1) (.slice none 0 0) false)).heap.size := by simp
 have hnw := refNew_yes c hc w; unfold RLoadTo; rw [<- hN] at hL |-; rw [<- hB] at hnew hbn hnw hns |-; have HN := h_ hN; have HB := h_ hB; have HRA := h_ hraw; have HHA := h_ hhas; have HS := h_ hb; obtain ⟨q, hq⟩ := nm_ (B); rw [<- hq] at hnw; have hnew : RefAt (w.alloc (refO (c : Int) 0 (-1) (.slice none 0 0) false)) (fun j => B <= j /\ j < (w.alloc (refO (c : Int) 0 (-1) (.slice none 0 0) false)).heap.size) q ⟨[], c, 0, -1, false⟩ := by
  rw [hq]; exact hnew.mono (fun k hk => by rw [hk]; exact ⟨Nat.le_refl _, hns⟩)
 have HQ := h_ hq; clear hN hB hraw hhas hb hq hns; go_enter Tryz.func39, Tryz.ntmps39; go_wp2_with (go_at_call 77; refine hnw.mono ?_; rintro e w1 ⟨rfl, hw1⟩; rw [<- hw1] at hnew hbn; clear hw1 hnw)
 go_loopw [8] (fun i W => ∃ (k : Nat), i = .int .i64 (k : Int) /\ k <= N /\ Fit L k /\ RefAt W (fun j => B <= j /\ j < W.heap.size) q ⟨layF (L.take k), c, 0, -1, false⟩ /\ Below B w W) (fun i _ => N - (intOf i).toNat)
 case atStart => exact ⟨0, rfl, Nat.zero_le _, fit_zero L, by simpa [layF, layOn] using hnew, hbn⟩
 case round =>
  clear hnew hbn; obtain ⟨k, rfl, hk, hfit, hR, hW⟩ := hrel; have i0 : (0 : Int) <= (k : Int) := by omega
  have hlen : (layF (L.take k)).length <= 4000000000000 := by
   have h1 := layF_length (L.take k); have h3 : (L.take k).length <= k := by rw [List.length_take]; omega
   omega
  obtain ⟨ao2, cap2, P2, g2, off2, hIn⟩ := hR.opened; by_cases hlt : k < N
  ·have hk1 : k < L.length := by rw [<- HN.out]; exact hlt
   have i1 : (k : Int) < (N : Int) := by omega
   obtain ⟨⟨n, b⟩, hf⟩ : ∃ f, L[k]? = some f := ⟨_, List.getElem?_eq_getElem hk1⟩
   obtain ⟨e1, c1, x, cc, c2, hby⟩ := files_get HRA.out HHA.out hf; subst e1; have hgl : g < B := by rw [HB.out]; exact World.block_lt_of_cell? w _ c1
   have d1 := (hW.cell (p := ⟨g, off + k * 2, none⟩) hgl).trans c1
   have d2 := (hW.cell (p := ⟨g, off + k * 2 + 1, none⟩) hgl).trans c2
   have hbl := HS.out n b (List.mem_of_getElem? hf); obtain ⟨x3, cc3, B3, off3, hxx, s3, hB3⟩ := hby
   cases hxx
   have M48 := refNamed_any n wr hbl.1; have HAS := refHas_any hIn (layF_rising _) hlen n; have H9 : ∀ m, Calls Tryz.prog 79 #[ptr q, .string (SL n), .slice x b.length cc] ((wr.drewN m).drew) fun e w' => e = .returned (.tuple #[]) /\ RefAt w' (fun j => B <= j /\ j < w'.heap.size) q ⟨layF (L.take (k + 1)), c, 0, -1, false⟩ /\ Below B w w' := by
    intro m
    have hbw : Below wr.heap.size wr ((wr.drewN m).drew) := (below_drewN (Below.refl _ _) m).drew; obtain ⟨ao3, cap3, P3, g3, off3', hI3⟩ := (hR.turn (Turn.of_below (fun _ => False) hbw) (fun _ _ h => h)).opened
    have hWd := hW.trans (hbw.mono (by rw [HB.out]; exact hW.size))
    refine (put_any hI3.head hI3.raw hI3.has (fun j hj => hj.2) (layF_rising _) hlen n x cc b B3 off3 (s3.below (by have := hWd; rw [HB.out] at this; exact this)) hbl.2).mono ?_
    rintro e w' ⟨he, hrl⟩; obtain ⟨lv, h2, h3⟩ := hrl.head; have hsz := hrl.turn.size; have hs1 := hWd.size; have hqB := HQ.out; have hql : q < ((wr.drewN m).drew).heap.size := hR.choose_spec.2.1.2; refine ⟨he, ⟨lv, by rw [take_one hf, layF_one]; exact h2, ⟨by omega, by omega⟩, by
     rw [take_one hf, layF_one]; exact h3.mono (fun j _ hj => by
      have hBz := HB.out; rcases hj with ⟨⟨⟨j1, j2⟩, j3⟩, j4⟩ | ⟨j1, j2⟩
      ·exact ⟨⟨j1, by omega⟩, j3⟩
      ·exact ⟨⟨by omega, j2⟩, by omega⟩)⟩, hWd.trans (hrl.turn.below (by have hBz := HB.out; omega) (fun j hj => by rw [hj]; omega))⟩
   obtain ⟨M, hM⟩ := nm_ (b.length); rw [<- hM] at c2 d2 H9; obtain ⟨t, htt⟩ := nm_ (thereF n (layF (L.take k))); have HAS : Calls Tryz.prog 52 #[ptr q, .string (SL n)] wr fun e w' => e = .returned (.bool t) /\ ∃ m, w' = wr.drewN m := by rw [htt]; exact HAS
   obtain ⟨u, hu⟩ := nm_ (named n); rw [<- hu] at M48; have HF := h_ hf; have HTT := h_ htt; have HU := h_ hu; have M48 := h_ M48; have HAS := h_ HAS; have HH9 := h_ H9; have HFIT := h_ hfit; have HWB := h_ hW; have hgq : g ≠ q := by have := HQ.out; omega
   clear hf htt hu hfit hW hR hIn hlen s3 hB3 hM H9 c1 c2
   cases u with
   | false =>
    have hnf : ¬ Fit L N := by rw [HN.out]; exact fit_not HF.out (fun h => by have := HU.out; rw [h.1] at this; cases this)
    go_wp2_with (first | (go_at_call 78; refine M48.out.mono ?_; rintro e w' ⟨rfl, rfl⟩))
    go_ret2; exact ⟨HWB.out, .inl ⟨rfl, hnf⟩⟩
   | true =>
    cases t with
    | true =>
     have hnf : ¬ Fit L N := by rw [HN.out]; exact fit_not HF.out (fun h => by have := HTT.out; rw [h.2] at this; cases this)
     go_wp2_with (first | (go_at_call 78; refine M48.out.mono ?_; rintro e w' ⟨rfl, rfl⟩) | (go_at_call 52; refine HAS.out.mono ?_; rintro e w' ⟨rfl, m, rfl⟩))
     go_ret2; exact ⟨below_drewN HWB.out m, .inl ⟨rfl, hnf⟩⟩
    | false =>
     have hfit1 := HFIT.out.more HF.out HU.out.symm HTT.out.symm; have HFIT1 := h_ hfit1; clear hfit1; go_wp2_with (first | (go_at_call 78; refine M48.out.mono ?_; rintro e w' ⟨rfl, rfl⟩) | (go_at_call 52; refine HAS.out.mono ?_; rintro e w' ⟨rfl, m, rfl⟩))
     go_region_held3 (fun W => W.cell? ⟨g, off + k * 2, none⟩ = some (.string (SL n)) /\ W.cell? ⟨g, off + k * 2 + 1, none⟩ = some (.slice x M cc)) (first | exact ⟨d1, d2⟩ | exact ⟨(hb6.cell (p := ⟨g, off + k * 2, none⟩) hgl).trans HC6.out.1, (hb6.cell (p := ⟨g, off + k * 2 + 1, none⟩) hgl).trans HC6.out.2⟩)
      ((first | (go_at_call 79; refine (HH9.out m).mono ?_; rintro e w6 ⟨rfl, h6, hb6⟩; have H6 := h_ h6; have HB6 := h_ hb6; have HC6 := h_ (show w.cell? ⟨g, off + k * 2, none⟩ = some (.string (SL n)) /\ w.cell? ⟨g, off + k * 2 + 1, none⟩ = some (.slice x M cc) from ⟨(HWB.out.cell (p := ⟨g, off + k * 2, none⟩) hgl).symm.trans d1, (HWB.out.cell (p := ⟨g, off + k * 2 + 1, none⟩) hgl).symm.trans d2⟩); clear h6)))
     all_goals (go_wp2; go_roundw; (case rel => exact ⟨k + 1, by go_num, by omega, HFIT1.out, H6.out, HB6.out⟩); (case measure => simp [intOf]; omega))
  ·obtain rfl : k = N := by omega
   have hLk : L.take k = L := List.take_of_length_le (by rw [<- HN.out]; exact Nat.le_refl _)
   have i1 : ¬ ((k : Int) < (k : Int)) := by omega
   have hcs := hfit.costs (by rw [<- HN.out]; exact Nat.le_refl _)
   have hfr := refFree_in hIn hlen hc; have hS : St.free ⟨layF (L.take k), c, 0, -1, false⟩ = (c : Int) - (costs L : Int) := by unfold St.free; rw [hcs, hLk]
   rw [hS] at hfr; rw [hLk] at hR; obtain ⟨z, hz⟩ : ∃ z, z = wrap64 ((c : Int) - (costs L : Int)) := ⟨_, rfl⟩
   rw [<- hz] at hfr; have HZ := h_ hz; have HFIT := h_ hfit; have HR := h_ hR; have HFR := h_ hfr; clear hz hfit hR hfr hS hcs hLk hIn hlen; by_cases hz0 : z < 0
   ·go_wp2_with (go_at_call 80; refine HFR.out.mono ?_; rintro e w9 ⟨rfl, m, rfl⟩)
    go_ret2; exact ⟨below_drewN hW m, .inr (.inl ⟨rfl, HFIT.out, by rw [<- HZ.out]; exact hz0⟩)⟩
   ·go_wp2_with (go_at_call 80; refine HFR.out.mono ?_; rintro e w9 ⟨rfl, m, rfl⟩)
    go_ret2; exact ⟨below_drewN hW m, .inr (.inr ⟨q, rfl, HFIT.out, by rw [<- HZ.out]; omega, HR.out.turn (Turn.drewN (G := fun _ => False) wr m) (fun _ _ h => h)⟩)⟩
end
section
open Go.RowKit
theorem and_mask (c : Int) (m : Nat) (hm : m <= 4294967295) : ∃ v : Nat, v <= m /\ bits BinOp.and IntKind.i64 c (m : Int) = (v : Int) := by
 have hw : bits .and .i64 c (m : Int) = IntKind.i64.wrap (((BitVec.ofInt 64 c) &&& (BitVec.ofInt 64 (m : Int))).toNat : Int) := rfl
 have hle : ((BitVec.ofInt 64 c) &&& (BitVec.ofInt 64 (m : Int))).toNat <= m := by
  rw [BitVec.toNat_and]; refine Nat.le_trans Nat.and_le_right ?_; rw [BitVec.toNat_ofInt]; omega
 exact ⟨_, hle, by rw [hw]; exact IntWalk.i64_in _ (by omega)⟩
theorem Fit.isNamed {L : Files} (h : Fit L L.length) {n b : Bs} (hm : (n, b) ∈ L) : named n = true := by
 obtain ⟨i, hi, he⟩ := List.getElem_of_mem hm; exact (h i hi n b (by rw [List.getElem?_eq_getElem hi, he])).1
def loadS (L : Files) (C : Nat) : St := ⟨layF L, C, 0, -1, false⟩
theorem good_load {L : Files} {C : Nat} (hF : Fit L L.length) (hC : C <= 1099511627776) (hs : costs L <= 4611686018427387904) (hz : 0 <= wrap64 ((C : Int) - (costs L : Int))) : Good (loadS L C) := by
 refine ⟨layF_rising L, ?_, hC, by show (-1 : Int) <= -1; omega, by show (-1 : Int) <= _; omega⟩
 have h1 := hF.costs (Nat.le_refl _); rw [List.take_length] at h1; show costs (layF L) <= C
 rw [h1]; rw [IntWalk.wrap64_in _ ⟨by omega, by omega⟩] at hz
 omega
theorem named_load {L : Files} {C : Nat} (hF : Fit L L.length) : AllNamed (loadS L C) := fun _ _ h => hF.isNamed (layF_in h)
def BothTo (w : World) (L : Files) (c : Int) (e : Ending) (w' : World) : Prop :=
 (e = .returned (.tuple #[.pointer none, .pointer none]) /\ Below w.heap.size w w') \/ ∃ p q C, e = .returned (.tuple #[ptr p, ptr q]) /\ Two w w.heap.size w' p q (loadS L C) /\ Good (loadS L C) /\ C <= 1048575 /\ AllNamed (loadS L C) /\ bits BinOp.and IntKind.i64 c 1048575 = (C : Int)
def BothAll (w : World) (L : Files) (c : Int) (e : Ending) (w' : World) : Prop :=
 (e = .returned (.tuple #[.pointer none, .pointer none]) /\ Below w.heap.size w w' /\ ∃ C : Nat, bits BinOp.and IntKind.i64 c 1048575 = (C : Int) /\ ¬ (Fit L L.length /\ 0 <= wrap64 ((C : Int) - (costs L : Int)))) \/ ∃ p q C, e = .returned (.tuple #[ptr p, ptr q]) /\ Two w w.heap.size w' p q (loadS L C) /\ Good (loadS L C) /\ C <= 1048575 /\ AllNamed (loadS L C) /\ bits BinOp.and IntKind.i64 c 1048575 = (C : Int)
theorem pair_made {w w1 w2 w3 : World} {p q : Nat} {S : St} (hb1 : Below w.heap.size w w1) (hd : DiskAt w2 (fun k => w1.heap.size <= k /\ k < w2.heap.size) p S) (hb2 : Below w1.heap.size w1 w2) (hr : RefAt w3 (fun k => w2.heap.size <= k /\ k < w3.heap.size) q S) (hb3 : Below w2.heap.size w2 w3) : Two w w.heap.size w3 p q S := by
 have s1 := hb1.size; have s2 := hb2.size; have s3 := hb3.size; exact ⟨_, _, hd.turn (Turn.of_below (fun _ => False) hb3) (fun _ _ h => h), hr, fun k hk => ⟨by have := hk.1; omega, by have := hk.2; omega⟩, fun k hk => ⟨by have := hk.1; omega, hk.2⟩, fun k hk hr => by have h1 := hk.2; have h2 := hr.1; omega, (hb1.trans (hb2.mono s1)).trans (hb3.mono (by omega)), by omega⟩
theorem both_refuse {c : Nat} {L : Files} (h : ¬ (Fit L L.length /\ 0 <= wrap64 ((c : Int) - (costs L : Int)))) : ∃ k : Int, (k = 1 \/ k = 4) /\ (∀ w e w', LoadTo w L c e w' -> e = .returned (.tuple #[.pointer none, err k]) /\ Below w.heap.size w w') /\ (∀ w e w', RLoadTo w L c e w' -> e = .returned (.tuple #[.pointer none, err k]) /\ Below w.heap.size w w') := by
 by_cases hF : Fit L L.length
 ·have hz : wrap64 ((c : Int) - (costs L : Int)) < 0 := by
   have : ¬ 0 <= wrap64 ((c : Int) - (costs L : Int)) := fun k => h ⟨hF, k⟩
   omega
  refine ⟨4, .inr rfl, fun w e w' hl => ?_, fun w e w' hl => ?_⟩
  ·rcases hl with ⟨hb, ⟨_, h2⟩ | ⟨h1, _, _⟩ | ⟨p, _, _, h3, _⟩⟩
   ·exact absurd hF h2
   ·exact ⟨h1, hb⟩
   ·omega
  ·rcases hl with ⟨hb, ⟨_, h2⟩ | ⟨h1, _, _⟩ | ⟨p, _, _, h3, _⟩⟩
   ·exact absurd hF h2
   ·exact ⟨h1, hb⟩
   ·omega
 ·refine ⟨1, .inl rfl, fun w e w' hl => ?_, fun w e w' hl => ?_⟩
  ·rcases hl with ⟨hb, ⟨h1, _⟩ | ⟨_, h2, _⟩ | ⟨p, _, h2, _, _⟩⟩
   ·exact ⟨h1, hb⟩
   ·exact absurd h2 hF
   ·exact absurd h2 hF
  ·rcases hl with ⟨hb, ⟨h1, _⟩ | ⟨_, h2, _⟩ | ⟨p, _, h2, _, _⟩⟩
   ·exact ⟨h1, hb⟩
   ·exact absurd h2 hF
   ·exact absurd h2 hF
theorem LoadTo.makes {w w' : World} {L : Files} {c : Nat} {e : Ending} (h : LoadTo w L c e w') (hF : Fit L L.length) (hz : 0 <= wrap64 ((c : Int) - (costs L : Int))) : ∃ p, e = .returned (.tuple #[ptr p, err 0]) /\ Below w.heap.size w w' /\ DiskAt w' (fun k => w.heap.size <= k /\ k < w'.heap.size) p ⟨layF L, c, 0, -1, false⟩ := by
 rcases h with ⟨hb, ⟨_, h2⟩ | ⟨_, _, h3⟩ | ⟨p, h1, _, _, h4⟩⟩
 ·exact absurd hF h2
 ·omega
 ·exact ⟨p, h1, hb, h4⟩
theorem RLoadTo.makes {w w' : World} {L : Files} {c : Nat} {e : Ending} (h : RLoadTo w L c e w') (hF : Fit L L.length) (hz : 0 <= wrap64 ((c : Int) - (costs L : Int))) : ∃ p, e = .returned (.tuple #[ptr p, err 0]) /\ Below w.heap.size w w' /\ RefAt w' (fun k => w.heap.size <= k /\ k < w'.heap.size) p ⟨layF L, c, 0, -1, false⟩ := by
 rcases h with ⟨hb, ⟨_, h2⟩ | ⟨_, _, h3⟩ | ⟨p, h1, _, _, h4⟩⟩
 ·exact absurd hF h2
 ·omega
 ·exact ⟨p, h1, hb, h4⟩
theorem both_all (c : Int) (v0 : Value) (L : Files) (w : World) (h : FilesAt w (elder w) v0 L) (hL : L.length <= 4000000000000) (hb : ∀ n b, (n, b) ∈ L -> n.length <= 9223372036854775807 /\ b.length <= 140737488355328) (hs : costs L <= 4611686018427387904) :
  Calls Tryz.prog 9 #[.int .i64 c, v0] w (BothAll w L c) := by
 have h0 := h; obtain ⟨ao, cap, P, g, off, rfl, hraw, hhas⟩ := h; have hF : ∀ k, elder w k -> k < w.heap.size := fun _ h => h
 have H0 := h_ h0; have HLb := h_ hb; have HLs := h_ hs; clear h0 hb hs; obtain ⟨N, hN⟩ := nm_ (L.length); obtain ⟨B, hB⟩ := nm_ (w.heap.size); have hPN : P.length = N := by rw [hN]; exact hhas.1
 rw [<- hN] at hL |-; have hwB : w.heap.size <= B := by omega
 have hBw : B <= w.heap.size := by omega
 have HN := h_ hN; have HB := h_ hB; have HR := h_ hraw; have HH := h_ hhas; have HPN := h_ hPN; have HFl := h_ hF; clear hN hB hraw hhas hPN hF; go_enter Tryz.func9, Tryz.ntmps9; go_wp2; go_loopw [6, 7] (fun x i W => ∃ (v : Value) (Q : List (Bs × Value)) (k : Nat), v = x /\ i = .int .i64 (k : Int) /\ k <= N /\ FilesOwn W 74 B (fun k => elder w k \/ B <= k) v Q (L.take k) /\ Below B w W) (fun _ i _ => N - (intOf i).toNat)
 case atStart => exact ⟨.slice none 0 0, [], 0, rfl, rfl, Nat.zero_le _, FilesOwn.nil _ _ _ _, Below.refl _ _⟩
 case round =>
  obtain ⟨v, Q, k, rfl, rfl, hk, hQ, hW⟩ := hrel; by_cases hlt : k < N
  ·have hk2 : k < L.length := by rw [<- HN.out]; exact hlt
   have hk3 : k < P.length := by rw [HPN.out]; exact hlt
   obtain ⟨⟨n, b⟩, hf⟩ : ∃ f, L[k]? = some f := ⟨_, List.getElem?_eq_getElem hk2⟩
   obtain ⟨⟨n', bv⟩, hp⟩ : ∃ p, P[k]? = some p := ⟨_, List.getElem?_eq_getElem hk3⟩
   obtain ⟨hnn, hby⟩ := HH.out.2 k _ _ hp hf; simp only at hnn hby
   subst hnn; obtain ⟨e1, c1, c2⟩ := HR.out.get hp; subst e1; have hgl : g < w.heap.size := World.block_lt_of_cell? w _ c1; have d1 := (hW.cell (p := ⟨g, off + k * 2, none⟩) (by show g < B; omega)).trans c1
   have d2 := (hW.cell (p := ⟨g, off + k * 2 + 1, none⟩) (by show g < B; omega)).trans c2
   have i0 : (0 : Int) <= (k : Int) := by omega
   have i1 : (k : Int) < (N : Int) := by omega
   obtain ⟨ao3, cap3, B3, off3, rfl, s3, hB3⟩ := hby; obtain ⟨M, hM⟩ := nm_ (b.length); rw [<- hM] at d2; have htl : (L.take k).length = k := by rw [List.length_take]; omega
   have hown := hQ.own; rw [htl] at hown; have hz := hW.size; have hgB : g < B := by omega
   have ex1 : ∀ o : Obj, (wr.alloc o).drew.cell? ⟨g, off + k * 2, none⟩ = some (.string (SL n')) := fun o => (World.cell?_of_block (w := wr) (a := ⟨g, off + k * 2, none⟩) (Below.heap_alloc wr o g (by omega))).trans d1
   have ex2 : ∀ o : Obj, (wr.alloc o).drew.cell? ⟨g, off + k * 2 + 1, none⟩ = some (.slice ao3 M cap3) := fun o => (World.cell?_of_block (w := wr) (a := ⟨g, off + k * 2 + 1, none⟩) (Below.heap_alloc wr o g (by omega))).trans d2
   have exo : ∀ o : Obj, (wr.alloc o).drew.ownsRow B 74 2 v k (fcells Q) := fun o => hown.alloc o
   have exb : ∀ j, v.ownBlock = some j -> B <= j := fun j hj => (hown.lt j hj).1
   have HQ := h_ hQ; have HM := h_ hM; have HTL := h_ htl; have HS3 := h_ s3; have HB3 := h_ hB3; have HF := h_ hf; clear hQ c1 c2 hM htl s3 hB3 hf hp hown; go_wp2_with fail
   go_region_held3 (fun W => W.cell? ⟨g, off + k * 2, none⟩ = some (.string (SL n')) /\ W.cell? ⟨g, off + k * 2 + 1, none⟩ = some (.slice ao3 M cap3)) (first | exact ⟨d1, d2⟩ | exact ⟨ex1 _, ex2 _⟩ | exact hS4) ((refine step_append_files files72 rfl _ _ rfl B v k (fcells Q) rfl (exo _) (some ⟨_, 0, none⟩) 1 1 rfl (fcells [(n', .slice ao3 M cap3)]) rfl (fun hh => by cases hh) (fun ad had j u hu => by cases had; exact cells_new wr _ _ j u hu) (by intro u hu; simp [fcells] at hu; rcases hu with rfl | rfl <;> rfl) (by omega) (by show B <= (wr.alloc _).heap.size; simp; omega) ?_; intro v4 w4 hown4 hg4 hnew4; have hS4 : w4.cell? ⟨g, off + k * 2, none⟩ = some (.string (SL n')) /\ w4.cell? ⟨g, off + k * 2 + 1, none⟩ = some (.slice ao3 M cap3) := ⟨hg4.out.cell (ex1 _) (fun e => by have := exb g e.symm; omega), hg4.out.cell (ex2 _) (fun e => by have := exb g e.symm; omega)⟩))
   obtain ⟨w3, hw3⟩ := nm_ ((wr.alloc (Obj.cells #[Value.string (SL n'), Value.slice ao3 M cap3] 74)).drew); have h3b : Below wr.heap.size wr w3 := by rw [hw3]; exact ((Below.refl _ _).alloc (Nat.le_refl _) _).drew
   rw [<- hw3] at hg4 hnew4; have hg4 := hg4.out; have h3s := h3b.size; have h4s := hg4.size; have hbytes : BytesAt w3 (fun i => (elder w i \/ B <= i) /\ v.ownBlock ≠ some i) (.slice ao3 M cap3) b := by
    refine ⟨ao3, cap3, B3, off3, by rw [HM.out], (HS3.out.below (W' := wr) ?_).below h3b, fun hp => ⟨.inl (HB3.out hp), fun e => ?_⟩⟩
    ·rw [<- HB.out]; exact hW
    ·have h5 := exb B3 e
     have h6 := HFl.out B3 (HB3.out hp); omega
   have FO4 := HQ.out.more (Turn.of_below _ h3b) hbytes HTL.out hown4.out hg4 hnew4.out HF.out; have hWn : Below B w w4 := (hW.trans (h3b.mono (by omega))).trans ⟨hg4.os, hg4.tape, hg4.output, hg4.size, fun i hi => hg4.block i (by omega) (fun e => by have := exb i e.symm; omega)⟩
   clear hS4 hown4 hg4 hnew4 hbytes hw3 ex1 ex2 exo d1 d2; go_wp2; go_roundw
   case rel => exact ⟨v4, _, k + 1, rfl, by go_num, by omega, FO4, hWn⟩
   case measure => simp [intOf]; omega
  ·obtain rfl : k = N := by omega
   rw [List.take_of_length_le (by rw [<- HN.out]; exact Nat.le_refl _)] at hQ
   have hBe := HB.out; have hfiles : FilesAt wr (elder wr) v L := (hQ.files (F := fun i => elder w i \/ B <= i) (fun g hg _ _ => .inr hg)).mono (fun i hi _ => hi)
   have hWw : Below w.heap.size w wr := by rw [<- hBe]; exact hW
   have h0 : ∀ W : World, Below w.heap.size w W -> FilesAt W (elder W) (.slice ao L.length cap) L := fun W hb =>
    (H0.out.turn (Turn.of_below (fun _ => False) hb) (fun _ _ h => h)).mono (fun i _ hi => by have := hb.size; have : i < w.heap.size := hi; show i < W.heap.size; omega)
   obtain ⟨C, hC, hand⟩ := and_mask c 1048575 (by omega)
   have hand2 : bits BinOp.and IntKind.i64 c 1048575 = (C : Int) := hand
   have hld := load_any C (by omega) v L wr hfiles (by rw [<- HN.out]; exact hL) (fun n b hm => (HLb.out n b hm).2)
   have hrl := fun (W : World) (hb : Below w.heap.size w W) => refLoad_any C (by omega) _ L W (h0 W hb) (by rw [<- HN.out]; exact hL) HLb.out
   rw [<- HN.out] at hrl; have HLD := h_ hld; have HRL := h_ hrl; have HW := h_ hWw; have i1 : ¬ ((k : Int) < (k : Int)) := by omega
   clear hQ hBe hfiles h0 hld hrl hWw hW hand; by_cases hgood : Fit L L.length /\ 0 <= wrap64 ((C : Int) - (costs L : Int))
   ·obtain ⟨hF, hz⟩ := hgood
    go_wp2_with (first
     | (go_at_call 38; refine HLD.out.mono ?_; intro e w2 hl; obtain ⟨p, rfl, hb2, hd⟩ := hl.makes hF hz; have HD := h_ hd; have HB2 := h_ hb2; have HW2 := h_ (HW.out.trans (hb2.mono HW.out.size)); clear hd hb2 hl)
     | (go_at_call 39; refine (HRL.out w2 HW2.out).mono ?_; intro e w3 hl; obtain ⟨q, rfl, hb3, hd⟩ := hl.makes hF hz; have HD3 := h_ hd; have HB3 := h_ hb3; clear hd hb3 hl))
    go_ret2; exact .inr ⟨p, q, C, rfl, pair_made HW.out HD.out HB2.out HD3.out HB3.out, good_load hF (by omega) HLs.out hz, hC, named_load hF, hand2⟩
   ·obtain ⟨y, hy, hr1, hr2⟩ := both_refuse hgood
    have hy0 : ¬ y = 0 := by omega
    have HGD := h_ hgood; clear hgood hy; go_wp2_with (first
     | (go_at_call 38; refine HLD.out.mono ?_; intro e w2 hl; obtain ⟨rfl, hb2⟩ := hr1 _ _ _ hl; have HW2 := h_ (HW.out.trans (hb2.mono HW.out.size)); clear hb2 hl)
     | (go_at_call 39; refine (HRL.out w2 HW2.out).mono ?_; intro e w3 hl; obtain ⟨rfl, hb3⟩ := hr2 _ _ _ hl; have HW3 := h_ (HW2.out.trans (hb3.mono HW2.out.size)); clear hb3 hl))
    go_ret2; exact .inl ⟨rfl, HW3.out, C, hand2, HGD.out⟩
theorem both_any (c : Int) (v0 : Value) (L : Files) (w : World) (h : FilesAt w (elder w) v0 L) (hL : L.length <= 4000000000000) (hb : ∀ n b, (n, b) ∈ L -> n.length <= 9223372036854775807 /\ b.length <= 140737488355328) (hs : costs L <= 4611686018427387904) :
  Calls Tryz.prog 9 #[.int .i64 c, v0] w (BothTo w L c) :=
 (both_all c v0 L w h hL hb hs).mono fun _ _ h => h.imp (fun h => ⟨h.1, h.2.1⟩) id
end
end Go.Proofs.YtomgijcbekjlaaaGreat
