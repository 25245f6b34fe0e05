/- both of the laws: a disk of the program's and one of the document's, loaded with the same files. -/
import Derived.Test.YthibhkoneajffaaDiskRefLoad
import Derived.Test.YthibhkoneajffaaDiskMore
import Derived.Test.YthibhkoneajffaaDiskROne
import Derived.Test.YthibhkoneajffaaSafePure
import Derived.Deep.RegionHeld3
namespace Go.Proofs.Ythibhkoneajffaa
open Go.RowKit
theorem and_mask (c : Int) (m : Nat) (hm : m ≤ 4294967295) : ∃ v : Nat, v ≤ m ∧ bits BinOp.and IntKind.i64 c (m : Int) = (v : Int) := by
  have hw : bits .and .i64 c (m : Int) = IntKind.i64.wrap (((BitVec.ofInt 64 c) &&& (BitVec.ofInt 64 (m : Int))).toNat : Int) := rfl
  have hle : ((BitVec.ofInt 64 c) &&& (BitVec.ofInt 64 (m : Int))).toNat ≤ m := by
    rw [BitVec.toNat_and]
    refine Nat.le_trans Nat.and_le_right ?_
    rw [BitVec.toNat_ofInt]
    omega
  exact ⟨_, hle, by rw [hw]; exact IntWalk.i64_in _ (by omega)⟩
theorem Fit.isNamed {L : Files} (h : Fit L L.length) {n b : Bs} (hm : (n, b) ∈ L) : named n = true := by
  obtain ⟨i, hi, he⟩ := List.getElem_of_mem hm
  exact (h i hi n b (by rw [List.getElem?_eq_getElem hi, he])).1
/-- What is loaded. -/
def loadS (L : Files) (C : Nat) : St := ⟨layF L, C, 0, -1, false⟩
theorem good_load {L : Files} {C : Nat} (hF : Fit L L.length) (hC : C ≤ 1099511627776) (hs : costs L ≤ 4611686018427387904) (hz : 0 ≤ wrap64 ((C : Int) - (costs L : Int))) : Good (loadS L C) := by
  refine ⟨layF_rising L, ?_, hC, by show (-1 : Int) ≤ -1; omega, by show (-1 : Int) ≤ _; omega⟩
  have h1 := hF.costs (Nat.le_refl _)
  rw [List.take_length] at h1
  show costs (layF L) ≤ C
  rw [h1]
  rw [IntWalk.wrap64_in _ ⟨by omega, by omega⟩] at hz
  omega
theorem named_load {L : Files} {C : Nat} (hF : Fit L L.length) : AllNamed (loadS L C) := fun _ _ h => hF.isNamed (layF_in h)
def BothTo (w : World) (L : Files) (c : Int) (e : Ending) (w' : World) : Prop :=
  (e = .returned (.tuple #[.pointer none, .pointer none]) ∧ Below w.heap.size w w') ∨ ∃ p q C, e = .returned (.tuple #[ptr p, ptr q]) ∧ Two w w.heap.size w' p q (loadS L C) ∧ Good (loadS L C) ∧ C ≤ 1048575 ∧ AllNamed (loadS L C) ∧ bits BinOp.and IntKind.i64 c 1048575 = (C : Int)
/-- As BothTo, and why there is none. -/
def BothAll (w : World) (L : Files) (c : Int) (e : Ending) (w' : World) : Prop :=
  (e = .returned (.tuple #[.pointer none, .pointer none]) ∧ Below w.heap.size w w' ∧ ∃ C : Nat, bits BinOp.and IntKind.i64 c 1048575 = (C : Int) ∧ ¬ (Fit L L.length ∧ 0 ≤ wrap64 ((C : Int) - (costs L : Int)))) ∨ ∃ p q C, e = .returned (.tuple #[ptr p, ptr q]) ∧ Two w w.heap.size w' p q (loadS L C) ∧ Good (loadS L C) ∧ C ≤ 1048575 ∧ AllNamed (loadS L C) ∧ bits BinOp.and IntKind.i64 c 1048575 = (C : Int)
theorem pair_made {w w1 w2 w3 : World} {p q : Nat} {S : St} (hb1 : Below w.heap.size w w1) (hd : DiskAt w2 (fun k => w1.heap.size ≤ k ∧ k < w2.heap.size) p S) (hb2 : Below w1.heap.size w1 w2) (hr : RefAt w3 (fun k => w2.heap.size ≤ k ∧ k < w3.heap.size) q S) (hb3 : Below w2.heap.size w2 w3) : Two w w.heap.size w3 p q S := by
  have s1 := hb1.size
  have s2 := hb2.size
  have s3 := hb3.size
  exact ⟨_, _, hd.turn (Turn.of_below (fun _ => False) hb3) (fun _ _ h => h), hr, fun k hk => ⟨by have := hk.1; omega, by have := hk.2; omega⟩, fun k hk => ⟨by have := hk.1; omega, hk.2⟩, fun k hk hr => by have h1 := hk.2; have h2 := hr.1; omega, (hb1.trans (hb2.mono s1)).trans (hb3.mono (by omega)), by omega⟩
/-- Both Loads refuse alike. -/
theorem both_refuse {c : Nat} {L : Files} (h : ¬ (Fit L L.length ∧ 0 ≤ wrap64 ((c : Int) - (costs L : Int)))) : ∃ k : Int, (k = 1 ∨ k = 4) ∧ (∀ w e w', LoadTo w L c e w' → e = .returned (.tuple #[.pointer none, err k]) ∧ Below w.heap.size w w') ∧ (∀ w e w', RLoadTo w L c e w' → e = .returned (.tuple #[.pointer none, err k]) ∧ Below w.heap.size w w') := by
  by_cases hF : Fit L L.length
  · have hz : wrap64 ((c : Int) - (costs L : Int)) < 0 := by
      have : ¬ 0 ≤ wrap64 ((c : Int) - (costs L : Int)) := fun k => h ⟨hF, k⟩
      omega
    refine ⟨4, .inr rfl, fun w e w' hl => ?_, fun w e w' hl => ?_⟩
    · rcases hl with ⟨hb, ⟨_, h2⟩ | ⟨h1, _, _⟩ | ⟨p, _, _, h3, _⟩⟩
      · exact absurd hF h2
      · exact ⟨h1, hb⟩
      · omega
    · rcases hl with ⟨hb, ⟨_, h2⟩ | ⟨h1, _, _⟩ | ⟨p, _, _, h3, _⟩⟩
      · exact absurd hF h2
      · exact ⟨h1, hb⟩
      · omega
  · refine ⟨1, .inl rfl, fun w e w' hl => ?_, fun w e w' hl => ?_⟩
    · rcases hl with ⟨hb, ⟨h1, _⟩ | ⟨_, h2, _⟩ | ⟨p, _, h2, _, _⟩⟩
      · exact ⟨h1, hb⟩
      · exact absurd h2 hF
      · exact absurd h2 hF
    · rcases hl with ⟨hb, ⟨h1, _⟩ | ⟨_, h2, _⟩ | ⟨p, _, h2, _, _⟩⟩
      · exact ⟨h1, hb⟩
      · exact absurd h2 hF
      · exact absurd h2 hF
/-- Both Loads make a disk. -/
theorem LoadTo.makes {w w' : World} {L : Files} {c : Nat} {e : Ending} (h : LoadTo w L c e w') (hF : Fit L L.length) (hz : 0 ≤ wrap64 ((c : Int) - (costs L : Int))) : ∃ p, e = .returned (.tuple #[ptr p, err 0]) ∧ Below w.heap.size w w' ∧ DiskAt w' (fun k => w.heap.size ≤ k ∧ k < w'.heap.size) p ⟨layF L, c, 0, -1, false⟩ := by
  rcases h with ⟨hb, ⟨_, h2⟩ | ⟨_, _, h3⟩ | ⟨p, h1, _, _, h4⟩⟩
  · exact absurd hF h2
  · omega
  · exact ⟨p, h1, hb, h4⟩
theorem RLoadTo.makes {w w' : World} {L : Files} {c : Nat} {e : Ending} (h : RLoadTo w L c e w') (hF : Fit L L.length) (hz : 0 ≤ wrap64 ((c : Int) - (costs L : Int))) : ∃ p, e = .returned (.tuple #[ptr p, err 0]) ∧ Below w.heap.size w w' ∧ RefAt w' (fun k => w.heap.size ≤ k ∧ k < w'.heap.size) p ⟨layF L, c, 0, -1, false⟩ := by
  rcases h with ⟨hb, ⟨_, h2⟩ | ⟨_, _, h3⟩ | ⟨p, h1, _, _, h4⟩⟩
  · exact absurd hF h2
  · omega
  · exact ⟨p, h1, hb, h4⟩
set_option maxRecDepth 100000 in
set_option maxHeartbeats 4000000 in
theorem both_all (c : Int) (v0 : Value) (L : Files) (w : World) (h : FilesAt w (elder w) v0 L) (hL : L.length ≤ 4000000000000) (hb : ∀ n b, (n, b) ∈ L → n.length ≤ 9223372036854775807 ∧ b.length ≤ 140737488355328) (hs : costs L ≤ 4611686018427387904) :
    Calls Try.prog 10 #[.int .i64 c, v0] w (BothAll w L c) := by
  have h0 := h
  obtain ⟨ao, cap, P, g, off, rfl, hraw, hhas⟩ := h
  have hF : ∀ k, elder w k → k < w.heap.size := fun _ h => h
  have H0 := Lib.hid h0
  have HLb := Lib.hid hb
  have HLs := Lib.hid hs
  clear h0 hb hs
  obtain ⟨N, hN⟩ : ∃ N, N = L.length := ⟨_, rfl⟩
  obtain ⟨B, hB⟩ : ∃ B, B = w.heap.size := ⟨_, rfl⟩
  have hPN : P.length = N := by rw [hN]; exact hhas.1
  rw [← hN] at hL ⊢
  have hwB : w.heap.size ≤ B := by omega
  have hBw : B ≤ w.heap.size := by omega
  have HN := Lib.hid hN
  have HB := Lib.hid hB
  have HR := Lib.hid hraw
  have HH := Lib.hid hhas
  have HPN := Lib.hid hPN
  have HFl := Lib.hid hF
  clear hN hB hraw hhas hPN hF
  go_enter Try.func10, Try.ntmps10
  go_wp2
  go_loopw [6, 7] (fun x i W => ∃ (v : Value) (Q : List (Bs × Value)) (k : Nat), v = x ∧ i = .int .i64 (k : Int) ∧ k ≤ N ∧ FilesOwn W 63 B (fun k => elder w k ∨ B ≤ k) v Q (L.take k) ∧ Below B w W) (fun _ i _ => N - (intOf i).toNat)
  case atStart => exact ⟨.slice none 0 0, [], 0, rfl, rfl, Nat.zero_le _, FilesOwn.nil _ _ _ _, Below.refl _ _⟩
  case round =>
    obtain ⟨v, Q, k, rfl, rfl, hk, hQ, hW⟩ := hrel
    by_cases hlt : k < N
    · have hk2 : k < L.length := by rw [← HN.out]; exact hlt
      have hk3 : k < P.length := by rw [HPN.out]; exact hlt
      obtain ⟨⟨n, b⟩, hf⟩ : ∃ f, L[k]? = some f := ⟨_, List.getElem?_eq_getElem hk2⟩
      obtain ⟨⟨n', bv⟩, hp⟩ : ∃ p, P[k]? = some p := ⟨_, List.getElem?_eq_getElem hk3⟩
      obtain ⟨hnn, hby⟩ := HH.out.2 k _ _ hp hf
      simp only at hnn hby
      subst hnn
      obtain ⟨e1, c1, c2⟩ := HR.out.get hp
      subst e1
      have hgl : g < w.heap.size := World.block_lt_of_cell? w _ c1
      have d1 := (hW.cell (p := ⟨g, off + k * 2, none⟩) (by show g < B; omega)).trans c1
      have d2 := (hW.cell (p := ⟨g, off + k * 2 + 1, none⟩) (by show g < B; omega)).trans c2
      have i0 : (0 : Int) ≤ (k : Int) := by omega
      have i1 : (k : Int) < (N : Int) := by omega
      obtain ⟨ao3, cap3, B3, off3, rfl, s3, hB3⟩ := hby
      obtain ⟨M, hM⟩ : ∃ M, M = b.length := ⟨_, rfl⟩
      rw [← hM] at d2
      have htl : (L.take k).length = k := by rw [List.length_take]; omega
      have hown := hQ.own
      rw [htl] at hown
      have hz := hW.size
      have hgB : g < B := by omega
      have ex1 : ∀ o : Obj, (wr.alloc o).drew.cell? ⟨g, off + k * 2, none⟩ = some (.string (SL n')) := fun o => (World.cell?_of_block (w := wr) (a := ⟨g, off + k * 2, none⟩) (Below.heap_alloc wr o g (by omega))).trans d1
      have ex2 : ∀ o : Obj, (wr.alloc o).drew.cell? ⟨g, off + k * 2 + 1, none⟩ = some (.slice ao3 M cap3) := fun o => (World.cell?_of_block (w := wr) (a := ⟨g, off + k * 2 + 1, none⟩) (Below.heap_alloc wr o g (by omega))).trans d2
      have exo : ∀ o : Obj, (wr.alloc o).drew.ownsRow B 63 2 v k (fcells Q) := fun o => hown.alloc o
      have exb : ∀ j, v.ownBlock = some j → B ≤ j := fun j hj => (hown.lt j hj).1
      have HQ := Lib.hid hQ
      have HM := Lib.hid hM
      have HTL := Lib.hid htl
      have HS3 := Lib.hid s3
      have HB3 := Lib.hid hB3
      have HF := Lib.hid hf
      clear hQ c1 c2 hM htl s3 hB3 hf hp hown
      go_wp2_with fail
      go_region_held3 (fun W => W.cell? ⟨g, off + k * 2, none⟩ = some (.string (SL n')) ∧ W.cell? ⟨g, off + k * 2 + 1, none⟩ = some (.slice ao3 M cap3)) (first | exact ⟨d1, d2⟩ | exact ⟨ex1 _, ex2 _⟩ | exact hS4) ((refine step_append_files files72 rfl _ _ rfl B v k (fcells Q) rfl (exo _) (some ⟨_, 0, none⟩) 1 1 rfl (fcells [(n', .slice ao3 M cap3)]) rfl (fun hh => by cases hh) (fun ad had j u hu => by cases had; exact cells_new wr _ _ j u hu) (by intro u hu; simp [fcells] at hu; rcases hu with rfl | rfl <;> rfl) (by omega) (by show B ≤ (wr.alloc _).heap.size; simp; omega) ?_; intro v4 w4 hown4 hg4 hnew4; have hS4 : w4.cell? ⟨g, off + k * 2, none⟩ = some (.string (SL n')) ∧ w4.cell? ⟨g, off + k * 2 + 1, none⟩ = some (.slice ao3 M cap3) := ⟨hg4.out.cell (ex1 _) (fun e => by have := exb g e.symm; omega), hg4.out.cell (ex2 _) (fun e => by have := exb g e.symm; omega)⟩))
      obtain ⟨w3, hw3⟩ : ∃ w3, w3 = (wr.alloc (Obj.cells #[Value.string (SL n'), Value.slice ao3 M cap3] 63)).drew := ⟨_, rfl⟩
      have h3b : Below wr.heap.size wr w3 := by rw [hw3]; exact ((Below.refl _ _).alloc (Nat.le_refl _) _).drew
      rw [← hw3] at hg4 hnew4
      have hg4 := hg4.out
      have h3s := h3b.size
      have h4s := hg4.size
      have hbytes : BytesAt w3 (fun i => (elder w i ∨ B ≤ i) ∧ v.ownBlock ≠ some i) (.slice ao3 M cap3) b := by
        refine ⟨ao3, cap3, B3, off3, by rw [HM.out], (HS3.out.below (W' := wr) ?_).below h3b, fun hp => ⟨.inl (HB3.out hp), fun e => ?_⟩⟩
        · rw [← HB.out]; exact hW
        · have h5 := exb B3 e
          have h6 := HFl.out B3 (HB3.out hp)
          omega
      have FO4 := HQ.out.more (Turn.of_below _ h3b) hbytes HTL.out hown4.out hg4 hnew4.out HF.out
      have hWn : Below B w w4 := (hW.trans (h3b.mono (by omega))).trans ⟨hg4.os, hg4.tape, hg4.output, hg4.size, fun i hi => hg4.block i (by omega) (fun e => by have := exb i e.symm; omega)⟩
      clear hS4 hown4 hg4 hnew4 hbytes hw3 ex1 ex2 exo d1 d2
      go_wp2
      go_roundw
      case rel => exact ⟨v4, _, k + 1, rfl, by go_num, by omega, FO4, hWn⟩
      case measure => simp [intOf]; omega
    · obtain rfl : k = N := by omega
      rw [List.take_of_length_le (by rw [← HN.out]; exact Nat.le_refl _)] at hQ
      have hBe := HB.out
      have hfiles : FilesAt wr (elder wr) v L := (hQ.files (F := fun i => elder w i ∨ B ≤ i) (fun g hg _ _ => .inr hg)).mono (fun i hi _ => hi)
      have hWw : Below w.heap.size w wr := by rw [← hBe]; exact hW
      have h0 : ∀ W : World, Below w.heap.size w W → FilesAt W (elder W) (.slice ao L.length cap) L := fun W hb =>
        (H0.out.turn (Turn.of_below (fun _ => False) hb) (fun _ _ h => h)).mono (fun i _ hi => by have := hb.size; have : i < w.heap.size := hi; show i < W.heap.size; omega)
      obtain ⟨C, hC, hand⟩ := and_mask c 1048575 (by omega)
      have hand2 : bits BinOp.and IntKind.i64 c 1048575 = (C : Int) := hand
      have hld := load_any C (by omega) v L wr hfiles (by rw [← HN.out]; exact hL) (fun n b hm => (HLb.out n b hm).2)
      have hrl := fun (W : World) (hb : Below w.heap.size w W) => refLoad_any C (by omega) _ L W (h0 W hb) (by rw [← HN.out]; exact hL) HLb.out
      rw [← HN.out] at hrl
      have HLD := Lib.hid hld
      have HRL := Lib.hid hrl
      have HW := Lib.hid hWw
      have i1 : ¬ ((k : Int) < (k : Int)) := by omega
      clear hQ hBe hfiles h0 hld hrl hWw hW hand
      by_cases hgood : Fit L L.length ∧ 0 ≤ wrap64 ((C : Int) - (costs L : Int))
      · obtain ⟨hF, hz⟩ := hgood
        go_wp2_with (first
          | (go_at_call 36; refine HLD.out.mono ?_; intro e w2 hl; obtain ⟨p, rfl, hb2, hd⟩ := hl.makes hF hz; have HD := Lib.hid hd; have HB2 := Lib.hid hb2; have HW2 := Lib.hid (HW.out.trans (hb2.mono HW.out.size)); clear hd hb2 hl)
          | (go_at_call 37; refine (HRL.out w2 HW2.out).mono ?_; intro e w3 hl; obtain ⟨q, rfl, hb3, hd⟩ := hl.makes hF hz; have HD3 := Lib.hid hd; have HB3 := Lib.hid hb3; clear hd hb3 hl))
        go_ret2
        exact .inr ⟨p, q, C, rfl, pair_made HW.out HD.out HB2.out HD3.out HB3.out, good_load hF (by omega) HLs.out hz, hC, named_load hF, hand2⟩
      · obtain ⟨y, hy, hr1, hr2⟩ := both_refuse hgood
        have hy0 : ¬ y = 0 := by omega
        have HGD := Lib.hid hgood
        clear hgood hy
        go_wp2_with (first
          | (go_at_call 36; refine HLD.out.mono ?_; intro e w2 hl; obtain ⟨rfl, hb2⟩ := hr1 _ _ _ hl; have HW2 := Lib.hid (HW.out.trans (hb2.mono HW.out.size)); clear hb2 hl)
          | (go_at_call 37; refine (HRL.out w2 HW2.out).mono ?_; intro e w3 hl; obtain ⟨rfl, hb3⟩ := hr2 _ _ _ hl; have HW3 := Lib.hid (HW2.out.trans (hb3.mono HW2.out.size)); clear hb3 hl))
        go_ret2
        exact .inl ⟨rfl, HW3.out, C, hand2, HGD.out⟩
theorem both_any (c : Int) (v0 : Value) (L : Files) (w : World) (h : FilesAt w (elder w) v0 L) (hL : L.length ≤ 4000000000000) (hb : ∀ n b, (n, b) ∈ L → n.length ≤ 9223372036854775807 ∧ b.length ≤ 140737488355328) (hs : costs L ≤ 4611686018427387904) :
    Calls Try.prog 10 #[.int .i64 c, v0] w (BothTo w L c) :=
  (both_all c v0 L w h hL hb hs).mono fun _ _ h => h.imp (fun h => ⟨h.1, h.2.1⟩) id
end Go.Proofs.Ythibhkoneajffaa
