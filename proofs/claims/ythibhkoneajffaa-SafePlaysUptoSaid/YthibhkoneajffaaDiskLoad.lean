/- Load of package disk. -/
import Derived.Test.YthibhkoneajffaaDiskLoadMem
import Derived.Test.YthibhkoneajffaaDiskFiles
namespace Go.Proofs.Ythibhkoneajffaa
open Go.RowKit
theorem own_zero {w : World} {base e s n : Nat} {v : Value} {xs : List Value} (h : w.ownsRow base e s v n xs) : w.ownsRow 0 e s v n xs := by
  refine ⟨h.1, ?_⟩
  rcases h.2 with h4 | ⟨g2, c2, cur2, h5, h6, h7⟩
  · exact .inl h4
  · exact .inr ⟨g2, c2, cur2, h5, Nat.zero_le _, h7⟩
/-- What Load answers. -/
def LoadTo (w : World) (L : Files) (c : Nat) (e : Ending) (w' : World) : Prop :=
  Below w.heap.size w w' ∧ ((e = .returned (.tuple #[.pointer none, err 1]) ∧ ¬ Fit L L.length) ∨ (e = .returned (.tuple #[.pointer none, err 4]) ∧ Fit L L.length ∧ wrap64 ((c : Int) - (costs L : Int)) < 0) ∨
    ∃ p, e = .returned (.tuple #[ptr p, err 0]) ∧ Fit L L.length ∧ 0 ≤ wrap64 ((c : Int) - (costs L : Int)) ∧ DiskAt w' (fun k => w.heap.size ≤ k ∧ k < w'.heap.size) p ⟨layF L, c, 0, -1, false⟩)
set_option maxRecDepth 100000 in
set_option maxHeartbeats 1600000 in
theorem load_any (c : Nat) (hc : c ≤ 1099511627776) (v0 : Value) (L : Files) (w : World) (hv : FilesAt w (elder w) v0 L) (hL : L.length ≤ 4000000000000) (hb : ∀ n b, (n, b) ∈ L → b.length ≤ 140737488355328) :
    Calls Try.prog 36 #[.int .i64 (c : Int), v0] w (LoadTo w L c) := by
  obtain ⟨ao, cap, P, g, off, rfl, hraw, hhas⟩ := hv
  obtain ⟨N, hN⟩ : ∃ N, N = L.length := ⟨_, rfl⟩
  obtain ⟨B, hB⟩ : ∃ B, B = w.heap.size := ⟨_, rfl⟩
  have hnew := half_new w c
  have hbn : Below w.heap.size w ((w.alloc (.map #[] 0)).alloc (headO w.heap.size (c : Int) 0 (-1) false)) := ((Below.refl _ _).alloc (Nat.le_refl _) _).alloc (by simp) _
  unfold LoadTo
  rw [← hN] at hL ⊢
  rw [← hB] at hnew hbn ⊢
  have HN := Lib.hid hN
  have HB := Lib.hid hB
  have HRA := Lib.hid hraw
  have HHA := Lib.hid hhas
  have HS := Lib.hid hb
  have hwc : wrap64 ((c : Int) - (costs (L.take 0) : Int)) = (c : Int) := by
    have h0 : costs (L.take 0) = 0 := by simp [costs]
    rw [h0, IntWalk.wrap64_in _ ⟨by omega, by omega⟩]
    simp
  obtain ⟨mb, hmb⟩ : ∃ mb, mb = B := ⟨_, rfl⟩
  obtain ⟨p, hp⟩ : ∃ p, p = B + 1 := ⟨_, rfl⟩
  have hnw := new_yes c hc w
  rw [← hB] at hnw
  rw [← hp] at hnew hnw
  have hnew : HalfIn ((w.alloc (.map #[] 0)).alloc (headO B (c : Int) 0 (-1) false)) B p mb (fun _ => .slice none 0 0) (c : Int) [] := by rw [hmb]; exact hnew
  have hmp : mb < p := by omega
  clear hN hB hraw hhas hb hmb hp
  go_enter Try.func36, Try.ntmps36
  go_wp2_with (go_at_call 35; refine hnw.mono ?_; rintro e w1 ⟨rfl, hw1⟩; rw [← hw1] at hnew hbn; clear hw1 hnw)
  go_loopw [22] (fun i W => ∃ (k : Nat), i = .int .i64 (k : Int) ∧ k ≤ N ∧ Fit L k ∧ HalfIn W B p mb (fun _ => .slice none 0 0) (wrap64 ((c : Int) - (costs (L.take k) : Int))) (layF (bareF (L.take k))) ∧ Below B w W) (fun i _ => N - (intOf i).toNat)
  case atStart => exact ⟨0, rfl, Nat.zero_le _, fit_zero L, by rw [hwc]; exact hnew, hbn⟩
  case round =>
    clear hnew hbn hwc
    obtain ⟨k, rfl, hk, hfit, hH, hW⟩ := hrel
    have i0 : (0 : Int) ≤ (k : Int) := by omega
    by_cases hlt : k < N
    · have hk1 : k < L.length := by rw [← HN.out]; exact hlt
      have i1 : (k : Int) < (N : Int) := by omega
      obtain ⟨⟨n, b⟩, hf⟩ : ∃ f, L[k]? = some f := ⟨_, List.getElem?_eq_getElem hk1⟩
      obtain ⟨e1, c1, x, cc, c2, hby⟩ := files_get HRA.out HHA.out hf
      subst e1
      have hgl : g < B := by rw [HB.out]; exact World.block_lt_of_cell? w _ c1
      have d1 := (hW.cell (p := ⟨g, off + k * 2, none⟩) hgl).trans c1
      have d2 := (hW.cell (p := ⟨g, off + k * 2 + 1, none⟩) hgl).trans c2
      have hbl := HS.out n b (List.mem_of_getElem? hf)
      obtain ⟨M, hM⟩ : ∃ M, M = b.length := ⟨_, rfl⟩
      rw [← hM] at c2 d2 hbl
      have HF := Lib.hid hf
      have HM := Lib.hid hM
      obtain ⟨y, hy⟩ : ∃ y, y = wr.heap.size := ⟨_, rfl⟩
      obtain ⟨wo, hwo⟩ : ∃ wo, wo = wr.alloc (.cells #[.string (SL n), .slice x M cc] 63) := ⟨_, rfl⟩
      have b2 : Below wr.heap.size wr wo := by rw [hwo]; exact (Below.refl _ _).alloc (Nat.le_refl _) _
      have x1 : wo.heap[y]? = some (.cells #[.string (SL n), .slice x M cc] 63 (0, 0)) := by rw [hwo, hy]; exact heap_alloc_new _ _
      have hHo := hH.below b2
      have hWo := hW.trans (b2.mono (by rw [HB.out]; exact hW.size))
      have hpy : p < y := by rw [hy]; exact hH.plt
      have k0 : wo.cell? ⟨y, 0, none⟩ = some (.string (SL n)) := cell_of_row _ _ _ _ _ _ x1
      have k1 : wo.cell? ⟨y, 1, none⟩ = some (.slice x M cc) := cell_of_row _ _ _ _ _ _ x1
      have HW := Lib.hid hwo.symm
      have HY := Lib.hid hy
      have HHO := Lib.hid hHo
      have HWO := Lib.hid hWo
      have HX := Lib.hid x1
      have HFIT := Lib.hid hfit
      clear hf hM hy hwo b2 x1 hHo hWo hH hW hby c1 c2 hfit
      have M45 := mayBe_any n wo
      go_wp2_with fail
      rw [HW.out, ← HY.out]
      clear d1 d2
      by_cases hnm : named n = true
      · have hn : n.length ≤ 200 := by
          unfold named at hnm
          simp only [Bool.and_eq_true, decide_eq_true_eq] at hnm
          exact hnm.1.2
        rw [hnm] at M45
        have HAS := HHO.out.has n (by unfold maxLen; omega)
        rw [layF_bare] at HAS
        cases ht : thereF n (layF (L.take k)) with
        | true =>
          have hnf : ¬ Fit L N := by rw [HN.out]; exact fit_not HF.out (by rw [ht]; simp)
          rw [ht] at HAS
          have M45 := Lib.hid M45
          have HAS := Lib.hid HAS
          go_wp2_with (first | (go_at_call 62; refine M45.out.mono ?_; rintro e w' ⟨rfl, rfl⟩) | (go_at_call 33; refine HAS.out.mono ?_; rintro e w' ⟨rfl, rfl⟩))
          go_ret2
          exact ⟨HWO.out, .inl ⟨rfl, hnf⟩⟩
        | false =>
          have hfit1 := HFIT.out.more HF.out hnm ht
          rw [ht] at HAS
          have M45 := Lib.hid M45
          have HAS := Lib.hid HAS
          have htk := take_one HF.out
          have hlen : (layF (bareF (L.take k))).length < maxLen := by
            have h1 := layF_length (bareF (L.take k))
            have h2 : (bareF (L.take k)).length = (L.take k).length := by simp [bareF]
            have h3 : (L.take k).length ≤ k := by rw [List.length_take]; omega
            unfold maxLen
            omega
          have hbr : (Below wo.heap.size wo wo.drew) := (Below.refl _ _).drew
          obtain ⟨w3, hrun3, hH3, ht3⟩ := (HHO.out.below hbr).store (layF_rising _) hlen n [] (by unfold maxLen; omega) (.slice none 0 0) (World.ownsRow_nil _ _ _ _) (fun g hg => by cases hg) (fun m c hm hc g hg => by cases hg)
          rw [setV_nil] at hH3
          have hlay : putF n [] (layF (bareF (L.take k))) = layF (bareF (L.take (k + 1))) := by
            have h1 : bareF (L.take (k + 1)) = bareF (L.take k) ++ [(n, [])] := by rw [htk]; simp [bareF]
            rw [h1, layF_one]
          rw [hlay] at hH3
          have e0 : wo.drew.cell? ⟨p, 0, none⟩ = some (.map (some mb)) := (head_cells (HHO.out.below hbr).head).1
          have e1 : wo.drew.cell? ⟨y, 0, none⟩ = some (.string (SL n)) := k0
          have f0 : w3.cell? ⟨p, 0, none⟩ = some (.map (some mb)) := (head_cells hH3.head).1
          have f1 : w3.cell? ⟨y, 0, none⟩ = some (.string (SL n)) := ht3.cell e1 (fun e => by have : y = mb := e; omega)
          have f2 : w3.cell? ⟨y, 1, none⟩ = some (.slice x M cc) := ht3.cell (show wo.drew.cell? ⟨y, 1, none⟩ = _ from k1) (fun e => by have : y = mb := e; omega)
          obtain ⟨z, hz⟩ : ∃ z, z = wrap64 ((c : Int) - (costs (L.take k) : Int)) := ⟨_, rfl⟩
          obtain ⟨z2, hz2⟩ : ∃ z, z = wrap64 ((c : Int) - (costs (L.take (k + 1)) : Int)) := ⟨_, rfl⟩
          obtain ⟨Q, hQ⟩ : ∃ Q : Int, Q = 16 + (n.length : Int) + (M : Int) := ⟨_, rfl⟩
          have hzQ : wrap64 (z - Q) = z2 := by
            have hcs : costs (L.take (k + 1)) = costs (L.take k) + (16 + n.length + b.length) := by rw [htk, costs_append]; rfl
            have hMM := HM.out
            rw [hz2, hz, hQ, hcs]
            unfold wrap64
            omega
          rw [← hz] at hH3
          obtain ⟨_, f3, _, _, _, ff⟩ := head_cells hH3.head
          have f4 := ff 1
          have HZQ := Lib.hid hzQ
          have HC := Lib.hid (show Calls Try.prog 39 #[.string (SL n), .int .i64 (M : Int)] w3.drew fun e w' => e = .returned (.int .i64 Q) ∧ w' = w3.drew from by rw [hQ]; exact cost_any n M w3.drew (by omega) (by omega))
          have HEND := Lib.hid (show HalfIn ((w3.setCell ⟨p, 1, none⟩ (.int .i64 (wrap64 (z - Q)))).drew) B p mb _ (wrap64 (z - Q)) _ from (hH3.set (wrap64 (z - Q))).below ((Below.refl _ _).drew))
          have hbe : Below B w (w3.setCell ⟨p, 1, none⟩ (.int .i64 (wrap64 (z - Q)))).drew := by
            have hz := HB.out
            have s1 := HWO.out.size
            have s2 := ht3.size
            have q1 : Below B w w3 := HWO.out.trans ((Below.refl wo.heap.size wo).drew.mono (by omega) |>.trans (ht3.below (by show B ≤ wo.heap.size; omega) (fun j hj => by rw [hj]; exact hH3.inM)))
            have s3 := q1.size
            exact (q1.trans ((turn_set p 1 w3 (.int .i64 (wrap64 (z - Q)))).below (B := B) (by omega) (fun j hj => by rw [hj]; exact hH3.inP))).drew
          have HBE := Lib.hid hbe
          have HZ2 := Lib.hid hz2
          have HFIT1 := Lib.hid hfit1
          clear hz hz2 hQ htk hlen hlay hH3 hfit1 ff hzQ ht3 hbe
          go_wp2_with (first | (go_at_call 62; refine M45.out.mono ?_; rintro e w' ⟨rfl, rfl⟩) | (go_at_call 33; refine HAS.out.mono ?_; rintro e w' ⟨rfl, rfl⟩))
          go_region_held3 (fun W => W.cell? ⟨p, 0, none⟩ = some (.map (some mb)) ∧ W.cell? ⟨y, 0, none⟩ = some (.string (SL n))) (first | exact ⟨e0, e1⟩ | exact ⟨f0, f1⟩) ((first | fail))
          clear hrun3 e0 e1 k0 k1
          go_wp2_with fail
          have hzQ := HZQ.out
          go_region_with (first | (go_at_call 39; refine HC.out.mono ?_; rintro e w' ⟨rfl, rfl⟩))
          all_goals (go_wp2; go_roundw; (case rel => exact ⟨k + 1, by go_num, by omega, HFIT1.out, by rw [← HZ2.out, ← HZQ.out]; exact HEND.out, HBE.out⟩); (case measure => simp [intOf]; omega))
      · have hnf : ¬ Fit L N := by rw [HN.out]; exact fit_not HF.out (fun h => hnm h.1)
        have hnm2 : named n = false := by simpa using hnm
        rw [hnm2] at M45
        have M45 := Lib.hid M45
        go_wp2_with (first | (go_at_call 62; refine M45.out.mono ?_; rintro e w' ⟨rfl, rfl⟩))
        go_ret2
        exact ⟨HWO.out, .inl ⟨rfl, hnf⟩⟩
    · obtain rfl : k = N := by omega
      have hLk : L.take k = L := List.take_of_length_le (by rw [← HN.out]; exact Nat.le_refl _)
      rw [hLk] at hH
      have i1 : ¬ ((k : Int) < (k : Int)) := by omega
      obtain ⟨z, hz⟩ : ∃ z, z = wrap64 ((c : Int) - (costs L : Int)) := ⟨_, rfl⟩
      rw [← hz] at hH
      obtain ⟨e0, e1, _, _, _, _⟩ := head_cells hH.head
      have HZ := Lib.hid hz
      have HFIT := Lib.hid hfit
      have HHW := Lib.hid hH
      clear hLk hfit hz
      by_cases hz0 : z < 0
      · go_wp2
        go_ret2
        exact ⟨hW, .inr (.inl ⟨rfl, HFIT.out, by rw [← HZ.out]; exact hz0⟩)⟩
      · clear hH
        go_wp2
        clear e0 e1 i0
        go_loopw [63] (fun i W => ∃ (j : Nat) (V : Bs → Value), i = .int .i64 (j : Int) ∧ j ≤ k ∧ HalfIn W B p mb V z (layF (bareF L ++ L.take j)) ∧ Below B w W) (fun i _ => k - (intOf i).toNat)
        case atStart => exact ⟨0, _, rfl, Nat.zero_le _, by simpa using HHW.out, hW⟩
        case round =>
          clear HHW hW
          obtain ⟨j, V, rfl, hj, hH, hW⟩ := hrel
          have i0 : (0 : Int) ≤ (j : Int) := by omega
          by_cases hlt : j < k
          · have hk1 : j < L.length := by rw [← HN.out]; exact hlt
            have i1 : (j : Int) < (k : Int) := by omega
            obtain ⟨⟨n, b⟩, hf⟩ : ∃ f, L[j]? = some f := ⟨_, List.getElem?_eq_getElem hk1⟩
            obtain ⟨e1, c1, x, cc, c2, hby⟩ := files_get HRA.out HHA.out hf
            subst e1
            have hgl : g < B := by rw [HB.out]; exact World.block_lt_of_cell? w _ c1
            have d1 := (hW.cell (p := ⟨g, off + j * 2, none⟩) hgl).trans c1
            have d2 := (hW.cell (p := ⟨g, off + j * 2 + 1, none⟩) hgl).trans c2
            have hbl := HS.out n b (List.mem_of_getElem? hf)
            obtain ⟨x3, cc3, B3, off3, hxx, s3, hB3⟩ := hby
            cases hxx
            have hnm := (HFIT.out j hlt n b hf).1
            have hn : n.length ≤ 200 := by
              unfold named at hnm
              simp only [Bool.and_eq_true, decide_eq_true_eq] at hnm
              exact hnm.1.2
            obtain ⟨M, hM⟩ : ∃ M, M = b.length := ⟨_, rfl⟩
            rw [← hM] at c2 d2 hbl
            obtain ⟨y, hy⟩ : ∃ y, y = wr.heap.size := ⟨_, rfl⟩
            obtain ⟨wo, hwo⟩ : ∃ wo, wo = wr.alloc (.cells #[.string (SL n), .slice x M cc] 63) := ⟨_, rfl⟩
            have b2 : Below wr.heap.size wr wo := by rw [hwo]; exact (Below.refl _ _).alloc (Nat.le_refl _) _
            have x1 : wo.heap[y]? = some (.cells #[.string (SL n), .slice x M cc] 63 (0, 0)) := by rw [hwo, hy]; exact heap_alloc_new _ _
            have hHo := hH.below b2.drew
            have hWo := (hW.trans (b2.mono (by rw [HB.out]; exact hW.size))).drew
            have hpy : p < y := by rw [hy]; exact hH.plt
            have k0 : wo.drew.cell? ⟨y, 0, none⟩ = some (.string (SL n)) := cell_of_row _ _ _ _ _ _ (show wo.drew.heap[y]? = _ from x1)
            have k1 : wo.drew.cell? ⟨y, 1, none⟩ = some (.slice x M cc) := cell_of_row _ _ _ _ _ _ (show wo.drew.heap[y]? = _ from x1)
            have e0 : wo.drew.cell? ⟨p, 0, none⟩ = some (.map (some mb)) := (head_cells hHo.head).1
            have hcl : Calls Try.prog 61 #[.slice x M cc] wo.drew fun e w' => ∃ v, e = .returned v ∧ w'.ownsRow wo.drew.heap.size 5 1 v b.length (b.map B8) ∧ Below wo.drew.heap.size wo.drew w' := by
              rw [hM]
              exact clone_any x cc b B3 off3 wo.drew (s3.below (by have := hWo; rw [HB.out] at this; exact this)) (by rw [← hM]; exact hbl)
            have hys : y < wo.drew.heap.size := (Array.getElem?_eq_some_iff.1 (show wo.drew.heap[y]? = _ from x1)).1
            have hlen : (layF (bareF L ++ L.take j)).length < maxLen := by
              have h1 := layF_length (bareF L ++ L.take j)
              have h2 : (bareF L).length = L.length := by simp [bareF]
              have h3 : (L.take j).length ≤ j := by rw [List.length_take]; omega
              rw [List.length_append, h2, ← HN.out] at h1
              unfold maxLen
              omega
            have hstore : ∀ (w2 : World) (v2 : Value), w2.ownsRow wo.drew.heap.size 5 1 v2 b.length (b.map B8) → Below wo.drew.heap.size wo.drew w2 → ∃ w3, (Instr.mapUpdate 67 (.map (some mb)) (.string (SL n)) v2).run Try.prog w2 = .ok () w3 ∧ HalfIn w3 B p mb (setV V n v2) z (layF (bareF L ++ L.take (j + 1))) ∧ Below B w w3 ∧ w3.cell? ⟨p, 0, none⟩ = some (.map (some mb)) ∧ w3.cell? ⟨y, 0, none⟩ = some (.string (SL n)) ∧ w3.cell? ⟨y, 1, none⟩ = some (.slice x M cc) := by
              intro w2 v2 ho b3
              have hsz := b3.size
              obtain ⟨w3, r1, r2, r3⟩ := (hHo.below b3).store (layF_rising _) hlen n b (by unfold maxLen; omega) v2 (own_zero ho) (fun g hg => by have h1 := (ho.lt g hg).1; have h2 := hHo.inM; have h3 := hHo.map.lt; exact ⟨by omega, by omega⟩) (fun m c hm hc g hg hg2 => by
                have h1 := (ho.lt g hg).1
                have h2 := ((hHo.rows.own m c hc).lt g hg2).2
                omega)
              have hlay : putF n b (layF (bareF L ++ L.take j)) = layF (bareF L ++ L.take (j + 1)) := by rw [take_one hf, ← List.append_assoc, layF_one]
              rw [hlay] at r2
              have hmm := hHo.map.lt
              have hne : ∀ q, q = y → ¬ q = mb := fun q e e2 => by have h5 := hHo.inM; omega
              refine ⟨w3, r1, r2, (hWo.trans (b3.mono (by have := hHo.inP; have := hHo.plt; omega))).trans (r3.below (by have := hHo.inP; have := hHo.plt; omega) (fun q hq => by rw [hq]; exact hHo.inM)), (head_cells r2.head).1, ?_, ?_⟩
              · exact r3.cell ((b3.cell (p := ⟨y, 0, none⟩) hys).trans k0) (hne y rfl)
              · exact r3.cell ((b3.cell (p := ⟨y, 1, none⟩) hys).trans k1) (hne y rfl)
            have HW := Lib.hid hwo.symm
            have HY := Lib.hid hy
            have HCL := Lib.hid hcl
            have HST := Lib.hid hstore
            have KEEP := Lib.hid (fun (W : World) (hb : Below wo.drew.heap.size wo.drew W) => (show W.cell? ⟨p, 0, none⟩ = some (.map (some mb)) ∧ W.cell? ⟨y, 0, none⟩ = some (.string (SL n)) ∧ W.cell? ⟨y, 1, none⟩ = some (.slice x M cc) from
              ⟨(hb.cell (p := ⟨p, 0, none⟩) (by show p < _; omega)).trans e0, (hb.cell (p := ⟨y, 0, none⟩) hys).trans k0, (hb.cell (p := ⟨y, 1, none⟩) hys).trans k1⟩))
            have hKa : wo.cell? ⟨y, 0, none⟩ = some (.string (SL n)) := k0
            clear hf hM hy hwo b2 x1 hHo hWo hH hW s3 hB3 c1 c2 hcl hstore hlen k0 k1 e0 hys hKa
            go_wp2_with fail
            rw [HW.out, ← HY.out]
            clear d1 d2
            go_region_held3 (fun W => W.cell? ⟨p, 0, none⟩ = some (.map (some mb)) ∧ W.cell? ⟨y, 0, none⟩ = some (.string (SL n)) ∧ W.cell? ⟨y, 1, none⟩ = some (.slice x M cc)) (first | exact KEEP.out _ (Below.refl _ _) | exact KEEP.out _ b3 | exact ⟨g0, g1, g2⟩)
              ((first | (go_at_call 61; refine HCL.out.mono ?_; rintro e w2 ⟨v2, rfl, o2, b3⟩; obtain ⟨w3, hrun3, hH3, hB3, g0, g1, g2⟩ := HST.out w2 v2 o2 b3; have HH3 := Lib.hid hH3; have HB3 := Lib.hid hB3; clear o2 hH3 hB3)))
            all_goals (go_wp2; go_roundw; (case rel => exact ⟨j + 1, setV V n v2, by go_num, by omega, HH3.out, HB3.out⟩); (case measure => simp [intOf]; omega))
          · obtain rfl : j = k := by omega
            have hLk : L.take j = L := List.take_of_length_le (by rw [← HN.out]; exact Nat.le_refl _)
            rw [hLk, layF_twice] at hH
            have i1 : ¬ ((j : Int) < (j : Int)) := by omega
            have hcs := HFIT.out.costs (by rw [← HN.out]; exact Nat.le_refl _)
            rw [hLk] at hcs
            have hd := hH.disk c (by rw [hcs]; exact HZ.out)
            have HD := Lib.hid hd
            clear hd hcs hLk hH
            go_wp2
            go_ret2
            exact ⟨hW, .inr (.inr ⟨p, rfl, HFIT.out, by rw [← HZ.out]; omega, HD.out⟩)⟩
end Go.Proofs.Ythibhkoneajffaa
