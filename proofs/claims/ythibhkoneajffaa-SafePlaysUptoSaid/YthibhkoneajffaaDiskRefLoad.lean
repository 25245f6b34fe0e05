/- Load of the document's disk. -/
import Derived.Test.YthibhkoneajffaaDiskLoad
import Derived.Test.YthibhkoneajffaaDiskRefOps3
namespace Go.Proofs.Ythibhkoneajffaa
open Go.RowKit
theorem ref_new (w : World) (c : Nat) : RefAt (w.alloc (refO (c : Int) 0 (-1) (.slice none 0 0) false)) (fun k => k = w.heap.size) w.heap.size (newS c) :=
  ⟨_, heap_alloc_new _ _, rfl, filesAt_nil _ _⟩
/-- What the document's Load answers. -/
def RLoadTo (w : World) (L : Files) (c : Nat) (e : Ending) (w' : World) : Prop :=
  Below w.heap.size w w' ∧ ((e = .returned (.tuple #[.pointer none, err 1]) ∧ ¬ Fit L L.length) ∨ (e = .returned (.tuple #[.pointer none, err 4]) ∧ Fit L L.length ∧ wrap64 ((c : Int) - (costs L : Int)) < 0) ∨
    ∃ q, e = .returned (.tuple #[ptr q, err 0]) ∧ Fit L L.length ∧ 0 ≤ wrap64 ((c : Int) - (costs L : Int)) ∧ RefAt w' (fun k => w.heap.size ≤ k ∧ k < w'.heap.size) q ⟨layF L, c, 0, -1, false⟩)
set_option maxRecDepth 100000 in
set_option maxHeartbeats 1600000 in
theorem refLoad_any (c : Nat) (hc : c ≤ 1099511627776) (v0 : Value) (L : Files) (w : World) (hv : FilesAt w (elder w) v0 L) (hL : L.length ≤ 4000000000000) (hb : ∀ n b, (n, b) ∈ L → n.length ≤ 9223372036854775807 ∧ b.length ≤ 140737488355328) :
    Calls Try.prog 37 #[.int .i64 (c : Int), v0] w (RLoadTo w L c) := by
  obtain ⟨ao, cap, P, g, off, rfl, hraw, hhas⟩ := hv
  obtain ⟨N, hN⟩ : ∃ N, N = L.length := ⟨_, rfl⟩
  obtain ⟨B, hB⟩ : ∃ B, B = w.heap.size := ⟨_, rfl⟩
  have hnew := ref_new w c
  have hbn : Below w.heap.size w (w.alloc (refO (c : Int) 0 (-1) (.slice none 0 0) false)) := (Below.refl _ _).alloc (Nat.le_refl _) _
  have hns : w.heap.size < (w.alloc (refO (c : Int) 0 (-1) (.slice none 0 0) false)).heap.size := by simp
  have hnw := refNew_yes c hc w
  unfold RLoadTo
  rw [← hN] at hL ⊢
  rw [← hB] at hnew hbn hnw hns ⊢
  have HN := Lib.hid hN
  have HB := Lib.hid hB
  have HRA := Lib.hid hraw
  have HHA := Lib.hid hhas
  have HS := Lib.hid hb
  obtain ⟨q, hq⟩ : ∃ q, q = B := ⟨_, rfl⟩
  rw [← hq] at hnw
  have hnew : RefAt (w.alloc (refO (c : Int) 0 (-1) (.slice none 0 0) false)) (fun j => B ≤ j ∧ j < (w.alloc (refO (c : Int) 0 (-1) (.slice none 0 0) false)).heap.size) q ⟨[], c, 0, -1, false⟩ := by
    rw [hq]
    exact hnew.mono (fun k hk => by rw [hk]; exact ⟨Nat.le_refl _, hns⟩)
  have HQ := Lib.hid hq
  clear hN hB hraw hhas hb hq hns
  go_enter Try.func37, Try.ntmps37
  go_wp2_with (go_at_call 63; refine hnw.mono ?_; rintro e w1 ⟨rfl, hw1⟩; rw [← hw1] at hnew hbn; clear hw1 hnw)
  go_loopw [8] (fun i W => ∃ (k : Nat), i = .int .i64 (k : Int) ∧ k ≤ N ∧ Fit L k ∧ RefAt W (fun j => B ≤ j ∧ j < W.heap.size) q ⟨layF (L.take k), c, 0, -1, false⟩ ∧ Below B w W) (fun i _ => N - (intOf i).toNat)
  case atStart => exact ⟨0, rfl, Nat.zero_le _, fit_zero L, by simpa [layF, layOn] using hnew, hbn⟩
  case round =>
    clear hnew hbn
    obtain ⟨k, rfl, hk, hfit, hR, hW⟩ := hrel
    have i0 : (0 : Int) ≤ (k : Int) := by omega
    have hlen : (layF (L.take k)).length ≤ 4000000000000 := by
      have h1 := layF_length (L.take k)
      have h3 : (L.take k).length ≤ k := by rw [List.length_take]; omega
      omega
    obtain ⟨ao2, cap2, P2, g2, off2, hIn⟩ := hR.opened
    by_cases hlt : k < N
    · have hk1 : k < L.length := by rw [← HN.out]; exact hlt
      have i1 : (k : Int) < (N : Int) := by omega
      obtain ⟨⟨n, b⟩, hf⟩ : ∃ f, L[k]? = some f := ⟨_, List.getElem?_eq_getElem hk1⟩
      obtain ⟨e1, c1, x, cc, c2, hby⟩ := files_get HRA.out HHA.out hf
      subst e1
      have hgl : g < B := by rw [HB.out]; exact World.block_lt_of_cell? w _ c1
      have d1 := (hW.cell (p := ⟨g, off + k * 2, none⟩) hgl).trans c1
      have d2 := (hW.cell (p := ⟨g, off + k * 2 + 1, none⟩) hgl).trans c2
      have hbl := HS.out n b (List.mem_of_getElem? hf)
      obtain ⟨x3, cc3, B3, off3, hxx, s3, hB3⟩ := hby
      cases hxx
      have M48 := refNamed_any n wr hbl.1
      have HAS := refHas_any hIn (layF_rising _) hlen n
      have H9 : ∀ m, Calls Try.prog 45 #[ptr q, .string (SL n), .slice x b.length cc] ((wr.drewN m).drew) fun e w' => e = .returned (.tuple #[]) ∧ RefAt w' (fun j => B ≤ j ∧ j < w'.heap.size) q ⟨layF (L.take (k + 1)), c, 0, -1, false⟩ ∧ Below B w w' := by
        intro m
        have hbw : Below wr.heap.size wr ((wr.drewN m).drew) := (below_drewN (Below.refl _ _) m).drew
        obtain ⟨ao3, cap3, P3, g3, off3', hI3⟩ := (hR.turn (Turn.of_below (fun _ => False) hbw) (fun _ _ h => h)).opened
        have hWd := hW.trans (hbw.mono (by rw [HB.out]; exact hW.size))
        refine (put_any hI3.head hI3.raw hI3.has (fun j hj => hj.2) (layF_rising _) hlen n x cc b B3 off3 (s3.below (by have := hWd; rw [HB.out] at this; exact this)) hbl.2).mono ?_
        rintro e w' ⟨he, hrl⟩
        obtain ⟨lv, h2, h3⟩ := hrl.head
        have hsz := hrl.turn.size
        have hs1 := hWd.size
        have hqB := HQ.out
        have hql : q < ((wr.drewN m).drew).heap.size := hR.choose_spec.2.1.2
        refine ⟨he, ⟨lv, by rw [take_one hf, layF_one]; exact h2, ⟨by omega, by omega⟩, by
          rw [take_one hf, layF_one]
          exact h3.mono (fun j _ hj => by
            have hBz := HB.out
            rcases hj with ⟨⟨⟨j1, j2⟩, j3⟩, j4⟩ | ⟨j1, j2⟩
            · exact ⟨⟨j1, by omega⟩, j3⟩
            · exact ⟨⟨by omega, j2⟩, by omega⟩)⟩, hWd.trans (hrl.turn.below (by have hBz := HB.out; omega) (fun j hj => by rw [hj]; omega))⟩
      obtain ⟨M, hM⟩ : ∃ M, M = b.length := ⟨_, rfl⟩
      rw [← hM] at c2 d2 H9
      obtain ⟨t, htt⟩ : ∃ t, t = thereF n (layF (L.take k)) := ⟨_, rfl⟩
      have HAS : Calls Try.prog 57 #[ptr q, .string (SL n)] wr fun e w' => e = .returned (.bool t) ∧ ∃ m, w' = wr.drewN m := by rw [htt]; exact HAS
      obtain ⟨u, hu⟩ : ∃ u, u = named n := ⟨_, rfl⟩
      rw [← hu] at M48
      have HF := Lib.hid hf
      have HTT := Lib.hid htt
      have HU := Lib.hid hu
      have M48 := Lib.hid M48
      have HAS := Lib.hid HAS
      have HH9 := Lib.hid H9
      have HFIT := Lib.hid hfit
      have HWB := Lib.hid hW
      have hgq : g ≠ q := by have := HQ.out; omega
      clear hf htt hu hfit hW hR hIn hlen s3 hB3 hM H9 c1 c2
      cases u with
      | false =>
        have hnf : ¬ Fit L N := by rw [HN.out]; exact fit_not HF.out (fun h => by have := HU.out; rw [h.1] at this; cases this)
        go_wp2_with (first | (go_at_call 41; refine M48.out.mono ?_; rintro e w' ⟨rfl, rfl⟩))
        go_ret2
        exact ⟨HWB.out, .inl ⟨rfl, hnf⟩⟩
      | true =>
        cases t with
        | true =>
          have hnf : ¬ Fit L N := by rw [HN.out]; exact fit_not HF.out (fun h => by have := HTT.out; rw [h.2] at this; cases this)
          go_wp2_with (first | (go_at_call 41; refine M48.out.mono ?_; rintro e w' ⟨rfl, rfl⟩) | (go_at_call 57; refine HAS.out.mono ?_; rintro e w' ⟨rfl, m, rfl⟩))
          go_ret2
          exact ⟨below_drewN HWB.out m, .inl ⟨rfl, hnf⟩⟩
        | false =>
          have hfit1 := HFIT.out.more HF.out HU.out.symm HTT.out.symm
          have HFIT1 := Lib.hid hfit1
          clear hfit1
          go_wp2_with (first | (go_at_call 41; refine M48.out.mono ?_; rintro e w' ⟨rfl, rfl⟩) | (go_at_call 57; refine HAS.out.mono ?_; rintro e w' ⟨rfl, m, rfl⟩))
          go_region_held3 (fun W => W.cell? ⟨g, off + k * 2, none⟩ = some (.string (SL n)) ∧ W.cell? ⟨g, off + k * 2 + 1, none⟩ = some (.slice x M cc)) (first | exact ⟨d1, d2⟩ | exact ⟨(hb6.cell (p := ⟨g, off + k * 2, none⟩) hgl).trans HC6.out.1, (hb6.cell (p := ⟨g, off + k * 2 + 1, none⟩) hgl).trans HC6.out.2⟩)
            ((first | (go_at_call 45; refine (HH9.out m).mono ?_; rintro e w6 ⟨rfl, h6, hb6⟩; have H6 := Lib.hid h6; have HB6 := Lib.hid hb6; have HC6 := Lib.hid (show w.cell? ⟨g, off + k * 2, none⟩ = some (.string (SL n)) ∧ w.cell? ⟨g, off + k * 2 + 1, none⟩ = some (.slice x M cc) from ⟨(HWB.out.cell (p := ⟨g, off + k * 2, none⟩) hgl).symm.trans d1, (HWB.out.cell (p := ⟨g, off + k * 2 + 1, none⟩) hgl).symm.trans d2⟩); clear h6)))
          all_goals (go_wp2; go_roundw; (case rel => exact ⟨k + 1, by go_num, by omega, HFIT1.out, H6.out, HB6.out⟩); (case measure => simp [intOf]; omega))
    · obtain rfl : k = N := by omega
      have hLk : L.take k = L := List.take_of_length_le (by rw [← HN.out]; exact Nat.le_refl _)
      have i1 : ¬ ((k : Int) < (k : Int)) := by omega
      have hcs := hfit.costs (by rw [← HN.out]; exact Nat.le_refl _)
      have hfr := refFree_in hIn hlen hc
      have hS : St.free ⟨layF (L.take k), c, 0, -1, false⟩ = (c : Int) - (costs L : Int) := by unfold St.free; rw [hcs, hLk]
      rw [hS] at hfr
      rw [hLk] at hR
      obtain ⟨z, hz⟩ : ∃ z, z = wrap64 ((c : Int) - (costs L : Int)) := ⟨_, rfl⟩
      rw [← hz] at hfr
      have HZ := Lib.hid hz
      have HFIT := Lib.hid hfit
      have HR := Lib.hid hR
      have HFR := Lib.hid hfr
      clear hz hfit hR hfr hS hcs hLk hIn hlen
      by_cases hz0 : z < 0
      · go_wp2_with (go_at_call 43; refine HFR.out.mono ?_; rintro e w9 ⟨rfl, m, rfl⟩)
        go_ret2
        exact ⟨below_drewN hW m, .inr (.inl ⟨rfl, HFIT.out, by rw [← HZ.out]; exact hz0⟩)⟩
      · go_wp2_with (go_at_call 43; refine HFR.out.mono ?_; rintro e w9 ⟨rfl, m, rfl⟩)
        go_ret2
        exact ⟨below_drewN hW m, .inr (.inr ⟨q, rfl, HFIT.out, by rw [← HZ.out]; omega, HR.out.turn (Turn.drewN (G := fun _ => False) wr m) (fun _ _ h => h)⟩)⟩
end Go.Proofs.Ythibhkoneajffaa
