/- Read, Append, Rename of the document's disk. -/
import Derived.Test.YthibhkoneajffaaDiskRefOps
namespace Go.Proofs.Ythibhkoneajffaa
open Go.RowKit
theorem cell_drewN_alloc {w : World} {a : Addr} {v : Value} (h : w.cell? a = some v) (m : Nat) (o : Obj) : ((w.drewN m).alloc o).cell? a = some v :=
  (World.cell?_of_block (w := w.drewN m) (Below.heap_alloc _ o a.block (World.block_lt_of_cell? w a h))).trans h
section
variable {w : World} {F : Nat → Prop} {q : Nat} {ao : Option Addr} {cap : Nat} {P : List (Bs × Value)} {g off : Nat} {S : St}
set_option maxRecDepth 100000 in
set_option maxHeartbeats 800000 in
theorem refRead_any (h : RefIn w F q ao cap P g off S) (hr : Rising S.fs) (hL : S.fs.length ≤ 4000000000000) (n : Bs) (hn : n.length ≤ 9223372036854775807) (hs : ∀ b, findF n S.fs = some b → b.length ≤ 140737488355328) :
    Calls Try.prog 42 #[ptr q, .string (SL n)] w fun e w' => ∃ v, e = .returned (.tuple #[v, err (readS S n).1]) ∧ w'.ownsRow w.heap.size 5 1 v (readS S n).2.length ((readS S n).2.map B8) ∧ Below w.heap.size w w' := by
  have hN := refNamed_any n w hn
  have hf := find_any h.list hr (by omega) n
  unfold readS
  cases hnn : named n with
  | false =>
    rw [hnn] at hN
    go_enter Try.func42, Try.ntmps42
    go_wp2_with (go_at_call 41; refine hN.mono ?_; rintro e w' ⟨rfl, rfl⟩)
    go_ret2
    exact ⟨_, rfl, World.ownsRow_nil _ _ _ _, Below.refl _ _⟩
  | true =>
    rw [hnn] at hN
    obtain ⟨J, hJ⟩ : ∃ J, J = posF n S.fs := ⟨_, rfl⟩
    rw [← hJ] at hf
    cases hff : findF n S.fs with
    | none =>
      have ht : thereF n S.fs = false := by simp [thereF, hff]
      rw [ht] at hf
      clear hff ht hJ
      go_enter Try.func42, Try.ntmps42
      go_wp2_with (first | (go_at_call 41; refine hN.mono ?_; rintro e w' ⟨rfl, rfl⟩) | (go_at_call 65; refine hf.mono ?_; rintro e w' ⟨rfl, m, rfl⟩))
      go_ret2
      exact ⟨_, rfl, World.ownsRow_nil _ _ _ _, below_drewN (Below.refl _ _) m⟩
    | some b =>
      have ht : thereF n S.fs = true := by simp [thereF, hff]
      rw [ht] at hf
      have hat := find_place hr hff
      rw [← hJ] at hat
      have hbl := hs b hff
      have hcell := h.list.cell
      obtain ⟨e1, c1, x, cc, c2, hby⟩ := h.list.name hat
      subst e1
      have hJl := (List.getElem?_eq_some_iff.1 hat).1
      obtain ⟨N, hN2⟩ : ∃ N, N = S.fs.length := ⟨_, rfl⟩
      obtain ⟨M, hM⟩ : ∃ M, M = b.length := ⟨_, rfl⟩
      rw [← hN2] at hcell hJl
      rw [← hM] at c2 hbl
      have i0 : (0 : Int) ≤ (J : Int) := by omega
      have i1 : (J : Int) < (N : Int) := by omega
      obtain ⟨x2, cc2, B2, off2, hxx, hsrc, _⟩ := hby
      cases hxx
      have HS := Lib.hid hsrc
      have HM := Lib.hid hM
      simp only [Bool.true_eq_false, if_false]
      rw [← hM]
      have k1 := cell_drewN_alloc hcell
      have k3 := cell_drewN_alloc c2
      clear hff ht hJ hat hN2 hM hsrc
      go_enter Try.func42, Try.ntmps42
      go_wp2_with (first | (go_at_call 41; refine hN.mono ?_; rintro e wa ⟨rfl, rfl⟩) | (go_at_call 65; refine hf.mono ?_; rintro e w' ⟨rfl, m, rfl⟩) | (at_builtin; refine wpList_append_src rfl _ _ rfl wa.heap.size _ 0 [] rfl (owns_of_row (heap_alloc_new _ _) (Nat.le_refl _) (Nat.le_refl _) (Nat.zero_le _) rfl rfl rfl) x M cc rfl (b.map B8) (by rw [List.length_map]; exact HM.out.symm) (fun hh => by rw [HM.out]; exact HS.out.bare hh) ((HS.out.below ((below_drewN (Below.refl _ _) m).alloc (Nat.le_refl _) _)).cells) (B8_one _) (by omega) (by simp) ?_; intro v2 w2 hown2 hg2 hv2; have hb2 : Below wa.heap.size wa w2 := ((below_drewN (Below.refl _ _) m).alloc (Nat.le_refl _) _).grown hg2 (by simp) (fun k hk => by cases hk; exact Nat.le_refl _); clear hg2 hv2))
      go_ret2
      exact ⟨_, rfl, own_first hown2, hb2⟩
theorem RefIn.turn {G : Nat → Prop} {w' : World} (h : RefIn w F q ao cap P g off S) (ht : Turn G w w') (hn : ∀ k, F k → ¬ G k) : RefIn w' F q ao cap P g off S :=
  ⟨ht.keep h.head (hn _ h.inQ), h.inQ, h.raw.turn ht fun k hk => hn k hk.1, h.has.turn ht fun k hk => hn k hk.1⟩
theorem RefIn.below {w' : World} (h : RefIn w F q ao cap P g off S) (hb : Below w.heap.size w w') : RefIn w' F q ao cap P g off S := h.turn (Turn.of_below (fun _ => False) hb) (fun _ _ h => h)
theorem refFree_in (h : RefIn w F q ao cap P g off S) (hL : S.fs.length ≤ 4000000000000) (hc : S.cap ≤ 1099511627776) : Calls Try.prog 43 #[ptr q] w fun e w' => e = .returned (.int .i64 (wrap64 S.free)) ∧ ∃ m, w' = w.drewN m :=
  refFree_any h.list (by omega) (S.cap : Int) (IntWalk.wrap64_in _ ⟨by omega, by omega⟩) (ref_cells h.head).1
theorem ract_below {w' : World} (h : RefIn w F q ao cap P g off S) (k : Int) (hb : Below w.heap.size w w') : RActs F q w (k, S) (.returned (err k)) w' := ⟨rfl, (h.below hb).shut.mono fun _ h => .inl h, Turn.of_below F hb⟩
theorem below_app {w w1 w2 : World} {v : Value} {n : Nat} {xs : List Value} (hb : Below w.heap.size w w1) (ho : w1.ownsRow w.heap.size 5 1 v n xs) (hg : w1.grownBy w2 v.ownBlock) : Below w.heap.size w w2 :=
  hb.trans ⟨hg.os, hg.tape, hg.output, hg.size, fun i hi => hg.block i (Nat.lt_of_lt_of_le hi hb.size) (fun e => by have := (ho.lt i e.symm).1; omega)⟩
set_option maxRecDepth 100000 in
set_option maxHeartbeats 1600000 in
theorem refAppend_any (h : RefIn w F q ao cap P g off S) (hF : ∀ k, F k → k < w.heap.size) (hg : Good S) (hb : S.done ≤ 1000000000000) (n : Bs) (hn : n.length ≤ 9223372036854775807) (aoB : Option Addr) (capB : Nat) (b : Bs) (B offB : Nat) (hs : SrcAt w aoB capB b B offB) (hB : 0 < b.length → ¬ F B) :
    Calls Try.prog 12 #[ptr q, .string (SL n), .slice aoB b.length capB] w (RActs F q w (appendS S n b)) := by
  have hL : S.fs.length ≤ 4000000000000 := by have := hg.many; omega
  have hN := refNamed_any n w hn
  obtain ⟨c0, c1, c2, c3, c4, fr⟩ := ref_cells h.head
  have hsn : (SL n).size = n.length := SL_size n
  have hfit : ∀ c, findF n S.fs = some c → c.length ≤ 1099511627776 := fun c hc => by have := hg.file_le hc; unfold costF at this; omega
  have hR := refRead_any h hg.rise hL n hn (fun c hc => by have := hfit c hc; omega)
  obtain ⟨k, hk⟩ : ∃ k, k = b.length := ⟨_, rfl⟩
  rw [← hk]
  have HK := Lib.hid hk
  unfold appendS
  rw [← hk]
  by_cases h64 : 64 < k
  · rw [if_pos h64]
    have HS := Lib.hid (ract_same h 1 0)
    have g1 : (k : Int) > 64 := by omega
    clear hk h64 hR
    cases hnn : named n with
    | false =>
      rw [hnn] at hN
      go_enter Try.func12, Try.ntmps12
      go_wp2_with (go_at_call 41; refine hN.mono ?_; rintro e w' ⟨rfl, rfl⟩)
      go_ret
      exact HS.out
    | true =>
      rw [hnn] at hN
      go_enter Try.func12, Try.ntmps12
      go_wp2_with (go_at_call 41; refine hN.mono ?_; rintro e w' ⟨rfl, rfl⟩)
      go_ret
      exact HS.out
  · rw [if_neg h64]
    have g1 : ¬ (k : Int) > 64 := by omega
    clear hk
    cases hnn : named n with
    | false =>
      have hrd : readyS S n = 1 := by simp [readyS, hnn]
      rw [hrd, if_pos (by decide)]
      rw [hnn] at hN
      have HS := Lib.hid (ract_same h 1 0)
      clear hrd hR
      go_enter Try.func12, Try.ntmps12
      go_wp2_with (go_at_call 41; refine hN.mono ?_; rintro e w' ⟨rfl, rfl⟩)
      go_ret
      exact HS.out
    | true =>
      rw [hnn] at hN
      cases hd : S.dark with
      | true =>
        have hrd : readyS S n = 5 := by simp [readyS, hnn, hd]
        rw [hrd, if_pos (by decide)]
        rw [hd] at c4
        have HS := Lib.hid (ract_same h 5 0)
        clear hrd hR
        go_enter Try.func12, Try.ntmps12
        go_wp2_with (go_at_call 41; refine hN.mono ?_; rintro e w' ⟨rfl, rfl⟩)
        go_ret
        exact HS.out
      | false =>
        have hrd : readyS S n = 0 := by simp [readyS, hnn, hd]
        rw [hrd, if_neg (by decide)]
        rw [hd] at c4
        have hnl := (named_le hnn).1
        have hf := hg.free_in
        -- what Read answers
        obtain ⟨rc, hrc⟩ : ∃ rc, rc = (readS S n).1 := ⟨_, rfl⟩
        obtain ⟨O, hO⟩ : ∃ O, O = (readS S n).2 := ⟨_, rfl⟩
        rw [← hrc, ← hO] at hR
        have hO2 : (findF n S.fs).getD [] = O := by
          rw [hO]
          unfold readS
          rw [hnn]
          cases findF n S.fs <;> rfl
        have hOl : O.length ≤ 1099511627776 := by
          rw [← hO2]
          cases hff : findF n S.fs with
          | none => simp
          | some c => exact hfit c hff
        have hmore : (rc ≠ 0 ∧ moreS S n b = (k : Int) + 16 + (n.length : Int)) ∨ (rc = 0 ∧ moreS S n b = (k : Int)) := by
          rw [hrc]
          unfold readS moreS
          rw [hnn]
          cases hff : findF n S.fs with
          | none => left; simp [costF, HK.out]; omega
          | some c => right; simp [HK.out]
        have hrc2 : rc = 3 ∨ rc = 0 := by
          rw [hrc]
          unfold readS
          rw [hnn]
          cases hff : findF n S.fs <;> simp
        rw [hO2]
        obtain ⟨X, hX⟩ : ∃ X, X = O ++ b := ⟨_, rfl⟩
        rw [← hX]
        have hXl : X.length ≤ 140737488355328 := by rw [hX, List.length_append, ← HK.out]; omega
        have HX := Lib.hid hX.symm
        obtain ⟨m, hm⟩ : ∃ m, m = moreS S n b := ⟨_, rfl⟩
        rw [← hm] at hmore ⊢
        have HR := Lib.hid hR
        have HB := Lib.hid hB
        have HSRC := Lib.hid hs
        clear hrd hrc hO hR hm hB hs hO2 hX
        have hm0 : 0 ≤ m := by omega
        by_cases hq : S.free < m
        · rw [if_pos hq]
          have hq1 : m > S.free := hq
          have hq2 : m > 0 := by omega
          rcases hmore with ⟨hne, hm1⟩ | ⟨h00, hm1⟩
          · skip
            obtain rfl : rc = 3 := by omega
            have hmm : (k : Int) + 16 + (n.length : Int) = m := hm1.symm
            clear hm1 hrc2 hne
            have HS := Lib.hid h
            go_enter Try.func12, Try.ntmps12
            go_wp2_with (first | (go_at_call 41; refine hN.mono ?_; rintro e wa ⟨rfl, rfl⟩) | (go_at_call 42; refine HR.out.mono ?_; rintro e w1 ⟨v1, rfl, o1, b1⟩; obtain ⟨ao1, cap1, B1, rfl, s1, hB1⟩ := src_of_own o1; have H1 := Lib.hid (h.below b1); have O1 := Lib.hid o1; have d4 : w1.cell? ⟨q, 4, none⟩ = some (.bool S.dark) := (ref_cells H1.out.head).2.2.2.2.1; rw [hd] at d4; clear s1 hB1 o1) | (go_at_call 43; refine (refFree_in H1.out hL hg.top).mono ?_; rintro e w2 ⟨rfl, m1, rfl⟩; rw [hf.2.2]))
            go_ret
            exact ract_below h 4 (below_drewN b1 m1)
          · skip
            subst hm1
            obtain rfl : rc = 0 := h00
            clear hrc2
            have HS := Lib.hid h
            go_enter Try.func12, Try.ntmps12
            go_wp2_with (first | (go_at_call 41; refine hN.mono ?_; rintro e wa ⟨rfl, rfl⟩) | (go_at_call 42; refine HR.out.mono ?_; rintro e w1 ⟨v1, rfl, o1, b1⟩; obtain ⟨ao1, cap1, B1, rfl, s1, hB1⟩ := src_of_own o1; have H1 := Lib.hid (h.below b1); have O1 := Lib.hid o1; have d4 : w1.cell? ⟨q, 4, none⟩ = some (.bool S.dark) := (ref_cells H1.out.head).2.2.2.2.1; rw [hd] at d4; clear s1 hB1 o1) | (go_at_call 43; refine (refFree_in H1.out hL hg.top).mono ?_; rintro e w2 ⟨rfl, m1, rfl⟩; rw [hf.2.2]))
            go_ret
            exact ract_below h 4 (below_drewN b1 m1)
        · rw [if_neg hq]
          have hq1 : ¬ m > S.free := hq
          unfold writeS
          by_cases h0 : S.left = 0
          · rw [if_pos h0]
            rcases hmore with ⟨hne, hm1⟩ | ⟨h00, hm1⟩
            · skip
              obtain rfl : rc = 3 := by omega
              have hmm : (k : Int) + 16 + (n.length : Int) = m := hm1.symm
              clear hm1 hrc2 hne
              go_enter Try.func12, Try.ntmps12
              go_wp2_with (first | (go_at_call 41; refine hN.mono ?_; rintro e wa ⟨rfl, rfl⟩) | (go_at_call 42; refine HR.out.mono ?_; rintro e w1 ⟨v1, rfl, o1, b1⟩; obtain ⟨ao1, cap1, B1, rfl, s1, hB1⟩ := src_of_own o1; have H1 := Lib.hid (h.below b1); have O1 := Lib.hid o1; have d4 : w1.cell? ⟨q, 4, none⟩ = some (.bool S.dark) := (ref_cells H1.out.head).2.2.2.2.1; rw [hd] at d4; clear s1 hB1 o1) | (go_at_call 43; refine (refFree_in H1.out hL hg.top).mono ?_; rintro e w2 ⟨rfl, m1, rfl⟩; rw [hf.2.2]) | (go_at_call 44; refine (spend_cut (H1.out.drewN m1) h0).mono ?_; rintro e w3 ⟨rfl, h3, t3⟩))
              go_ret
              exact ract_cut h3 ((Turn.of_below F (below_drewN b1 m1)).trans t3)
            · skip
              subst hm1
              obtain rfl : rc = 0 := h00
              clear hrc2
              go_enter Try.func12, Try.ntmps12
              go_wp2_with (first | (go_at_call 41; refine hN.mono ?_; rintro e wa ⟨rfl, rfl⟩) | (go_at_call 42; refine HR.out.mono ?_; rintro e w1 ⟨v1, rfl, o1, b1⟩; obtain ⟨ao1, cap1, B1, rfl, s1, hB1⟩ := src_of_own o1; have H1 := Lib.hid (h.below b1); have O1 := Lib.hid o1; have d4 : w1.cell? ⟨q, 4, none⟩ = some (.bool S.dark) := (ref_cells H1.out.head).2.2.2.2.1; rw [hd] at d4; clear s1 hB1 o1) | (go_at_call 43; refine (refFree_in H1.out hL hg.top).mono ?_; rintro e w2 ⟨rfl, m1, rfl⟩; rw [hf.2.2]) | (go_at_call 44; refine (spend_cut (H1.out.drewN m1) h0).mono ?_; rintro e w3 ⟨rfl, h3, t3⟩))
              go_ret
              exact ract_cut h3 ((Turn.of_below F (below_drewN b1 m1)).trans t3)
          · rw [if_neg h0]
            rcases hmore with ⟨hne, hm1⟩ | ⟨h00, hm1⟩
            · skip
              obtain rfl : rc = 3 := by omega
              have hmm : (k : Int) + 16 + (n.length : Int) = m := hm1.symm
              clear hm1 hrc2 hne
              go_enter Try.func12, Try.ntmps12
              go_wp2_with (first | (go_at_call 41; refine hN.mono ?_; rintro e wa ⟨rfl, rfl⟩) | (go_at_call 42; refine HR.out.mono ?_; rintro e w1 ⟨v1, rfl, o1, b1⟩; obtain ⟨ao1, cap1, B1, rfl, s1, hB1⟩ := src_of_own o1; have H1 := Lib.hid (h.below b1); have O1 := Lib.hid o1; have d4 : w1.cell? ⟨q, 4, none⟩ = some (.bool S.dark) := (ref_cells H1.out.head).2.2.2.2.1; rw [hd] at d4; clear s1 hB1 o1) | (go_at_call 43; refine (refFree_in H1.out hL hg.top).mono ?_; rintro e w2 ⟨rfl, m1, rfl⟩; rw [hf.2.2]) | (go_at_call 44; refine (spend_done (H1.out.drewN m1) hg hb h0).mono ?_; rintro e w3 ⟨rfl, h3, t3⟩; have tw3 := (Turn.of_below F (below_drewN b1 m1)).trans t3; have o3 := own_turn O1.out ((Turn.drewN (G := F) w1 m1).trans t3) (fun j hj hFj => by have h5 := (O1.out.lt j hj).1; have h6 := hF j hFj; omega); have s3 := HSRC.out.turn tw3 (fun hp => HB.out hp); have O3 := Lib.hid o3; have S3 := Lib.hid s3; have H3 := Lib.hid h3; have TW3 := Lib.hid tw3; clear o3 s3 h3 t3 tw3) | (at_builtin; refine wpList_append_src rfl _ _ rfl wa.heap.size _ O.length (O.map B8) rfl O3.out aoB k capB rfl (b.map B8) (by rw [List.length_map]; exact HK.out.symm) (fun hh => by rw [HK.out]; exact S3.out.bare hh) S3.out.cells (B8_one _) (by omega) TW3.out.size ?_; intro v4 w4 o4 hg4 hv4; have o5 := o4.out; rw [← List.map_append, HK.out, ← List.length_append, HX.out] at o5; have hF4 : ∀ j, F j → ¬ (some j = Value.ownBlock (.slice ao1 O.length cap1)) := (fun j hFj e => by have h5 := (O3.out.lt j e.symm).1; have h6 := hF j hFj; omega); have t4 : Turn (fun j => some j = Value.ownBlock (.slice ao1 O.length cap1)) w3 w4 := Turn.of_grown hg4 (fun j hj => hj.symm); have h4 := H3.out.turn t4 hF4; have tw4 : Turn F wa w4 := TW3.out.then t4 (fun i hi e => absurd hi (by have h5 := (O3.out.lt i e.symm).1; omega)); obtain ⟨ao5, cap5, B5, rfl, s5, _⟩ := src_of_own o5; have S5 := Lib.hid s5; have H4 := Lib.hid h4; have TW4 := Lib.hid tw4; clear o4 hg4 hv4 o5 hF4 t4 h4 tw4 s5) | (go_at_call 45; refine (put_any H4.out.head H4.out.raw H4.out.has (fun j hj => hj.2) hg.rise hL n ao5 cap5 X B5 0 S5.out hXl).mono ?_; rintro e w6 ⟨rfl, h6⟩))
              go_ret
              exact ract_relaid H4.out TW4.out h6 TW4.out.size hF
            · skip
              subst hm1
              obtain rfl : rc = 0 := h00
              clear hrc2
              go_enter Try.func12, Try.ntmps12
              go_wp2_with (first | (go_at_call 41; refine hN.mono ?_; rintro e wa ⟨rfl, rfl⟩) | (go_at_call 42; refine HR.out.mono ?_; rintro e w1 ⟨v1, rfl, o1, b1⟩; obtain ⟨ao1, cap1, B1, rfl, s1, hB1⟩ := src_of_own o1; have H1 := Lib.hid (h.below b1); have O1 := Lib.hid o1; have d4 : w1.cell? ⟨q, 4, none⟩ = some (.bool S.dark) := (ref_cells H1.out.head).2.2.2.2.1; rw [hd] at d4; clear s1 hB1 o1) | (go_at_call 43; refine (refFree_in H1.out hL hg.top).mono ?_; rintro e w2 ⟨rfl, m1, rfl⟩; rw [hf.2.2]) | (go_at_call 44; refine (spend_done (H1.out.drewN m1) hg hb h0).mono ?_; rintro e w3 ⟨rfl, h3, t3⟩; have tw3 := (Turn.of_below F (below_drewN b1 m1)).trans t3; have o3 := own_turn O1.out ((Turn.drewN (G := F) w1 m1).trans t3) (fun j hj hFj => by have h5 := (O1.out.lt j hj).1; have h6 := hF j hFj; omega); have s3 := HSRC.out.turn tw3 (fun hp => HB.out hp); have O3 := Lib.hid o3; have S3 := Lib.hid s3; have H3 := Lib.hid h3; have TW3 := Lib.hid tw3; clear o3 s3 h3 t3 tw3) | (at_builtin; refine wpList_append_src rfl _ _ rfl wa.heap.size _ O.length (O.map B8) rfl O3.out aoB k capB rfl (b.map B8) (by rw [List.length_map]; exact HK.out.symm) (fun hh => by rw [HK.out]; exact S3.out.bare hh) S3.out.cells (B8_one _) (by omega) TW3.out.size ?_; intro v4 w4 o4 hg4 hv4; have o5 := o4.out; rw [← List.map_append, HK.out, ← List.length_append, HX.out] at o5; have hF4 : ∀ j, F j → ¬ (some j = Value.ownBlock (.slice ao1 O.length cap1)) := (fun j hFj e => by have h5 := (O3.out.lt j e.symm).1; have h6 := hF j hFj; omega); have t4 : Turn (fun j => some j = Value.ownBlock (.slice ao1 O.length cap1)) w3 w4 := Turn.of_grown hg4 (fun j hj => hj.symm); have h4 := H3.out.turn t4 hF4; have tw4 : Turn F wa w4 := TW3.out.then t4 (fun i hi e => absurd hi (by have h5 := (O3.out.lt i e.symm).1; omega)); obtain ⟨ao5, cap5, B5, rfl, s5, _⟩ := src_of_own o5; have S5 := Lib.hid s5; have H4 := Lib.hid h4; have TW4 := Lib.hid tw4; clear o4 hg4 hv4 o5 hF4 t4 h4 tw4 s5) | (go_at_call 45; refine (put_any H4.out.head H4.out.raw H4.out.has (fun j hj => hj.2) hg.rise hL n ao5 cap5 X B5 0 S5.out hXl).mono ?_; rintro e w6 ⟨rfl, h6⟩))
              go_ret
              exact ract_relaid H4.out TW4.out h6 TW4.out.size hF
end
end Go.Proofs.Ythibhkoneajffaa
