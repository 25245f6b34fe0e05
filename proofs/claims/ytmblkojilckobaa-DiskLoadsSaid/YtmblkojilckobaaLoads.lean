/- The walk of DiskLoads. -/
import Derived.Test.YtmblkojilckobaaRefLoad
import Derived.Test.YtmblkojilckobaaLike2
import Derived.Test.YtmblkojilckobaaAwake
namespace Go.Proofs.Ytmblkojilckobaa
open Go.RowKit
theorem layF_same {l : Files} (h : Rising l) : layF l = l := by
  refine rising_ext (layF_rising _) h fun m => ?_
  by_cases hm : ∃ f ∈ l, f.1 = m
  · obtain ⟨b, h1, h2⟩ := layOn_mem m l [] hm
    rw [findF_of_mem h h1]
    exact h2
  · have h2 : findF m (layF l) = findF m [] := layOn_find m l [] (fun f hf e => hm ⟨f, hf, e⟩)
    have h3 : findF m l = none := findF_none.2 fun f hf e => hm ⟨f, hf, e⟩
    rw [h2, h3]
    rfl
theorem fit_rising {l : Files} (h : Rising l) (hn : ∀ n b, (n, b) ∈ l → named n = true) : Fit l l.length := fun i hi n b hf => by
  refine ⟨hn n b (List.mem_of_getElem? hf), ?_⟩
  cases ht : thereF n (layF (l.take i)) with
  | false => rfl
  | true =>
    obtain ⟨f, hm, he⟩ := (layF_there n (l.take i)).1 ht
    obtain ⟨j, hj, hjf⟩ := List.getElem_of_mem hm
    rw [List.length_take] at hj
    have hjl : j < l.length := by omega
    have hlt := (List.pairwise_iff_getElem.1 h) j i hjl hi (by omega)
    have e1 : l[j] = f := by rw [← hjf, List.getElem_take]
    have e2 : l[i] = (n, b) := by
      rw [List.getElem?_eq_getElem hi] at hf
      exact Option.some.inj hf
    rw [e1, e2, he] at hlt
    exact absurd hlt (bs_lt_irrefl _)
theorem Fit.named {L : Files} (h : Fit L L.length) {n b : Bs} (hm : (n, b) ∈ L) : named n = true := by
  obtain ⟨i, hi, he⟩ := List.getElem_of_mem hm
  exact (h i hi n b (by rw [List.getElem?_eq_getElem hi, he])).1
set_option maxRecDepth 100000 in
theorem load_no (c : Int) (hc : c < 0 ∨ 1099511627776 < c) (v : Value) (w : World) : Calls Try.prog 18 #[.int .i64 c, v] w fun e w' => e = .returned (.tuple #[.pointer none, err 1]) ∧ w' = w := by
  go_enter Try.func18, Try.ntmps18
  go_wp2_with (go_at_call 11; refine (new_no c hc _).mono ?_; rintro e w2 ⟨rfl, rfl⟩)
  go_ret2
  exact ⟨rfl, rfl⟩
set_option maxRecDepth 100000 in
theorem refLoad_no (c : Int) (hc : c < 0 ∨ 1099511627776 < c) (v : Value) (w : World) : Calls Try.prog 20 #[.int .i64 c, v] w fun e w' => e = .returned (.tuple #[.pointer none, err 1]) ∧ w' = w := by
  go_enter Try.func20, Try.ntmps20
  go_wp2_with (go_at_call 12; refine (refNew_no c hc _).mono ?_; rintro e w2 ⟨rfl, rfl⟩)
  go_ret2
  exact ⟨rfl, rfl⟩
/-- Both Loads refuse alike. -/
theorem loads_refuse {c : Nat} {L : Files} (h : ¬ (Fit L L.length ∧ 0 ≤ wrap64 ((c : Int) - (costs L : Int)))) : ∃ k : Int, (k = 1 ∨ k = 4) ∧ (∀ w e w', LoadTo w L c e w' → e = .returned (.tuple #[.pointer none, err k]) ∧ Below w.heap.size w w') ∧ (∀ w e w', RLoadTo w L c e w' → e = .returned (.tuple #[.pointer none, err k]) ∧ Below w.heap.size w w') := by
  by_cases hF : Fit L L.length
  · have hz : wrap64 ((c : Int) - (costs L : Int)) < 0 := by
      have : ¬ 0 ≤ wrap64 ((c : Int) - (costs L : Int)) := fun k => h ⟨hF, k⟩
      omega
    refine ⟨4, .inr rfl, fun w e w' hl => ?_, fun w e w' hl => ?_⟩
    · rcases hl with ⟨hb, ⟨_, h2⟩ | ⟨h1, _, _⟩ | ⟨p, _, _, h3, _⟩⟩
      · exact absurd hF h2
      · exact ⟨h1, hb⟩
      · omega
    · rcases hl with ⟨hb, ⟨_, h2⟩ | ⟨h1, _, _⟩ | ⟨p, _, _, h3, _⟩⟩
      · exact absurd hF h2
      · exact ⟨h1, hb⟩
      · omega
  · refine ⟨1, .inl rfl, fun w e w' hl => ?_, fun w e w' hl => ?_⟩
    · rcases hl with ⟨hb, ⟨h1, _⟩ | ⟨_, h2, _⟩ | ⟨p, _, h2, _, _⟩⟩
      · exact ⟨h1, hb⟩
      · exact absurd h2 hF
      · exact absurd h2 hF
    · rcases hl with ⟨hb, ⟨h1, _⟩ | ⟨_, h2, _⟩ | ⟨p, _, h2, _, _⟩⟩
      · exact ⟨h1, hb⟩
      · exact absurd h2 hF
      · exact absurd h2 hF
/-- Both Loads make a disk. -/
theorem LoadTo.made {w w' : World} {L : Files} {c : Nat} {e : Ending} (h : LoadTo w L c e w') (hF : Fit L L.length) (hz : 0 ≤ wrap64 ((c : Int) - (costs L : Int))) : ∃ p, e = .returned (.tuple #[ptr p, err 0]) ∧ Below w.heap.size w w' ∧ DiskAt w' (fun k => w.heap.size ≤ k ∧ k < w'.heap.size) p ⟨layF L, c, 0, -1, false⟩ := by
  rcases h with ⟨hb, ⟨_, h2⟩ | ⟨_, _, h3⟩ | ⟨p, h1, _, _, h4⟩⟩
  · exact absurd hF h2
  · omega
  · exact ⟨p, h1, hb, h4⟩
theorem RLoadTo.made {w w' : World} {L : Files} {c : Nat} {e : Ending} (h : RLoadTo w L c e w') (hF : Fit L L.length) (hz : 0 ≤ wrap64 ((c : Int) - (costs L : Int))) : ∃ p, e = .returned (.tuple #[ptr p, err 0]) ∧ Below w.heap.size w w' ∧ RefAt w' (fun k => w.heap.size ≤ k ∧ k < w'.heap.size) p ⟨layF L, c, 0, -1, false⟩ := by
  rcases h with ⟨hb, ⟨_, h2⟩ | ⟨_, _, h3⟩ | ⟨p, h1, _, _, h4⟩⟩
  · exact absurd hF h2
  · omega
  · exact ⟨p, h1, hb, h4⟩
theorem pair_loaded {w1 w2 w3 w4 w : World} {p q : Nat} {S : St} (hd : DiskAt w2 (fun k => w1.heap.size ≤ k ∧ k < w2.heap.size) p S) (hb : Below w2.heap.size w2 w) (hr : RefAt w4 (fun k => w3.heap.size ≤ k ∧ k < w4.heap.size) q S) (hb4 : Below w4.heap.size w4 w)
    (hap : ∀ k, (w1.heap.size ≤ k ∧ k < w2.heap.size) → ¬ (w3.heap.size ≤ k ∧ k < w4.heap.size)) : ∃ Fd Fr, Pair w 0 w Fd Fr p q S S :=
  ⟨_, _, ⟨hd.turn (Turn.of_below (fun _ => False) hb) (fun _ _ h => h), hr.turn (Turn.of_below (fun _ => False) hb4) (fun _ _ h => h), fun k hk => ⟨Nat.zero_le _, by have := hb.size; have := hk.2; omega⟩, fun k hk => ⟨Nat.zero_le _, by have := hb4.size; have := hk.2; omega⟩, hap, Below.refl _ _, Nat.zero_le _⟩⟩
set_option maxRecDepth 100000 in
set_option maxHeartbeats 1600000 in
theorem loads_any (c : Int) (v : Value) (L : Files) (w : World) (hv : FilesAt w (elder w) v L) (hL : L.length ≤ 4000000000000) (hb : ∀ n b, (n, b) ∈ L → n.length ≤ 9223372036854775807 ∧ b.length ≤ 140737488355328) :
    Calls Try.prog 4 #[.int .i64 c, v] w fun e w' => e = .returned (.bool true) ∧ Below w.heap.size w w' := by
  have hA := awake_any w
  have hG : Got w v L := hv
  have HG := Lib.hid hG
  have HLL := Lib.hid hL
  have HB := Lib.hid hb
  clear hv hG hb hL
  by_cases hc : c < 0 ∨ 1099511627776 < c
  · go_enter Try.func4, Try.ntmps4
    go_wp2_with (first
      | (go_at_call 10; refine hA.mono ?_; rintro e w1 ⟨rfl, b1⟩; have G1 := Lib.hid (HG.out.later b1); have B1 := Lib.hid b1; clear b1)
      | (go_at_call 19; refine (mine_any _ v L w1 G1.out (fun _ h => h) HLL.out).mono ?_; rintro e w2 ⟨v2, rfl, h2, b2⟩; have B2 := Lib.hid (B1.out.trans (b2.mono B1.out.size)); clear h2 b2)
      | (go_at_call 18; refine (load_no c hc v2 w2).mono ?_; rintro e w3 ⟨rfl, h3⟩; have B3 := h3 ▸ B2; clear h3)
      | (go_at_call 20; refine (refLoad_no c hc v w3).mono ?_; rintro e w4 ⟨rfl, h4⟩; have B4 := h4 ▸ B3; clear h4))
    go_ret
    exact ⟨rfl, B4.out⟩
  · obtain ⟨C, rfl⟩ : ∃ C : Nat, c = (C : Int) := ⟨c.toNat, by omega⟩
    have hC : C ≤ 1099511627776 := by omega
    have H18 := Lib.hid (fun (W : World) (u : Value) (hu : Got W u L) => load_any C hC u L W hu HLL.out (fun n b hm => (HB.out n b hm).2))
    have H20 := Lib.hid (fun (W : World) (hu : Got W v L) => refLoad_any C hC v L W hu HLL.out HB.out)
    by_cases hgood : Fit L L.length ∧ 0 ≤ wrap64 ((C : Int) - (costs L : Int))
    · obtain ⟨hF, hz⟩ := hgood
      have hri := layF_rising L
      have hmem : ∀ n b, findF n (layF L) = some b → (n, b) ∈ L := fun n b h => layF_in h
      have hlen : (layF L).length ≤ 4000000000000 := Nat.le_trans (layF_length L) HLL.out
      have hdp : (layF L).length ≤ 4000000000000 ∧ ∀ n b, findF n (layF L) = some b → n.length ≤ 281474976710656 ∧ b.length ≤ 140737488355328 := ⟨hlen, fun n b h => by
        have h1 := hF.named (hmem n b h)
        unfold named at h1
        simp only [Bool.and_eq_true, decide_eq_true_eq] at h1
        exact ⟨by omega, (HB.out n b (hmem n b h)).2⟩⟩
      have hin2 : ∀ n b, (n, b) ∈ layF L → (n, b) ∈ L := fun n b h => hmem n b (findF_of_mem hri h)
      have hF2 : Fit (layF L) (layF L).length := fit_rising hri (fun n b h => hF.named (hin2 n b h))
      have hcs : costs (layF L) = costs L := by
        have := hF.costs (Nat.le_refl _)
        rwa [List.take_length] at this
      have hz2 : 0 ≤ wrap64 ((C : Int) - (costs (layF L) : Int)) := by rw [hcs]; exact hz
      have H18b := Lib.hid (fun (W : World) (u : Value) (hu : Got W u (layF L)) => (load_any C hC u (layF L) W hu hlen (fun n b hm => (HB.out n b (hin2 n b hm)).2)).mono fun e w' h => (by
        have h5 := h.made hF2 hz2
        rw [layF_same hri] at h5
        exact h5 : ∃ p, e = .returned (.tuple #[ptr p, err 0]) ∧ Below W.heap.size W w' ∧ DiskAt w' (fun k => W.heap.size ≤ k ∧ k < w'.heap.size) p ⟨layF L, C, 0, -1, false⟩))
      have HAL := Lib.hid (fun (W : World) (p q : Nat) (h : ∃ Fd Fr, Pair W 0 W Fd Fr p q ⟨layF L, C, 0, -1, false⟩ ⟨layF L, C, 0, -1, false⟩) => (by
        obtain ⟨Fd, Fr, h⟩ := h
        exact alike_fine h hri hdp hC : Calls Try.prog 17 #[ptr p, ptr q] W fun e w' => e = .returned (.bool true) ∧ Below W.heap.size W w'))
      have HF := Lib.hid hF
      have HZ := Lib.hid hz
      have HRI := Lib.hid hri
      have HDP := Lib.hid hdp
      clear hri hmem hlen hdp hin2 hF2 hcs hz2 hF hz
      go_enter Try.func4, Try.ntmps4
      go_wp2_with (first
        | (go_at_call 10; refine hA.mono ?_; rintro e w1 ⟨rfl, b1⟩; have G1 := Lib.hid (HG.out.later b1); have B1 := Lib.hid b1; clear b1)
        | (go_at_call 19; refine (mine_any _ v L w1 G1.out (fun _ h => h) HLL.out).mono ?_; rintro e w2 ⟨v2, rfl, h2, b2⟩; have M2 := Lib.hid (show Got w2 v2 L from h2.mono (fun k _ hk => by have := b2.size; rcases hk with hk | hk <;> omega)); have G2 := Lib.hid (G1.out.later b2); have B2 := Lib.hid (B1.out.trans (b2.mono B1.out.size)); clear h2 b2)
        | (go_at_call_of 18 v2; refine (H18.out w2 v2 M2.out).mono ?_; rintro e w3 hl; obtain ⟨p, he, b3, hd⟩ := hl.made HF.out HZ.out; subst he; have D3 := Lib.hid hd; have BB3 := Lib.hid b3; have G3 := Lib.hid (G2.out.later b3); have B3 := Lib.hid (B2.out.trans (b3.mono B2.out.size)); clear hl hd b3)
        | (go_at_call 20; refine (H20.out w3 G3.out).mono ?_; rintro e w4 hl; obtain ⟨q, he, b4, hd⟩ := hl.made HF.out HZ.out; subst he; have R4 := Lib.hid hd; have BB4 := Lib.hid b4; have B4 := Lib.hid (B3.out.trans (b4.mono B3.out.size)); clear hl hd b4)
        | (go_at_call 21; refine (dDump (D3.out.turn (Turn.of_below (fun _ => False) BB4.out) (fun _ _ h => h)) HRI.out HDP.out.1 HDP.out.2).mono ?_; rintro e w5 ⟨v5, rfl, h5, b5⟩; have M5 := Lib.hid (show Got w5 v5 (layF L) from h5.mono (fun k _ hk => hk.2)); have BB5 := Lib.hid b5; have B5 := Lib.hid (B4.out.trans (b5.mono B4.out.size)); clear h5 b5)
        | (go_at_call_of 18 v5; refine (H18b.out w5 v5 M5.out).mono ?_; rintro e w6 ⟨p2, rfl, b6, hd⟩; have D6 := Lib.hid hd; have BB6 := Lib.hid b6; have B6 := Lib.hid (B5.out.trans (b6.mono B5.out.size)); clear hd b6))
      have s3 := BB3.out.size
      have s4 := BB4.out.size
      have s5 := BB5.out.size
      have s6 := BB6.out.size
      have P1 := Lib.hid (fun (W : World) (h : Below w6.heap.size w6 W) => pair_loaded (w := W) D3.out ((BB4.out.trans (BB5.out.mono s4)).trans ((BB6.out.mono (by omega)).trans (h.mono (by omega)))) R4.out ((BB5.out.trans (BB6.out.mono s5)).trans (h.mono (by omega))) (fun k h1 h2 => by omega))
      have P2 := Lib.hid (fun (W : World) (h : Below w6.heap.size w6 W) => pair_loaded (w := W) D6.out h R4.out ((BB5.out.trans (BB6.out.mono s5)).trans (h.mono (by omega))) (fun k h1 h2 => by omega))
      have Q := Lib.hid (Below.refl w6.heap.size w6)
      clear s3 s4 s5 s6
      go_wp2_with (first
          | (go_at_call_of 17 (ptr p); refine (HAL.out _ p q (P1.out _ Q.out)).mono ?_; rintro e w7 ⟨rfl, b7⟩; have Q := Lib.hid (Q.out.trans (b7.mono Q.out.size)); clear b7)
          | (go_at_call_of 17 (ptr p2); refine (HAL.out _ p2 q (P2.out _ Q.out)).mono ?_; rintro e w8 ⟨rfl, b8⟩; have Q := Lib.hid (Q.out.trans (b8.mono Q.out.size)); clear b8))
      all_goals (go_ret; exact ⟨by simp, B6.out.trans (Q.out.mono B6.out.size)⟩)
    · obtain ⟨k, hk, h1, h2⟩ := loads_refuse (c := C) hgood
      have K1 := Lib.hid h1
      have K2 := Lib.hid h2
      clear h1 h2 hgood
      go_enter Try.func4, Try.ntmps4
      go_wp2_with (first
        | (go_at_call 10; refine hA.mono ?_; rintro e w1 ⟨rfl, b1⟩; have G1 := Lib.hid (HG.out.later b1); have B1 := Lib.hid b1; clear b1)
        | (go_at_call 19; refine (mine_any _ v L w1 G1.out (fun _ h => h) HLL.out).mono ?_; rintro e w2 ⟨v2, rfl, h2, b2⟩; have M2 := Lib.hid (show Got w2 v2 L from h2.mono (fun k _ hk => by have := b2.size; rcases hk with hk | hk <;> omega)); have G2 := Lib.hid (G1.out.later b2); have B2 := Lib.hid (B1.out.trans (b2.mono B1.out.size)); clear h2 b2)
        | (go_at_call_of 18 v2; refine (H18.out w2 v2 M2.out).mono ?_; rintro e w3 hl; obtain ⟨he, b3⟩ := K1.out _ _ _ hl; subst he; have G3 := Lib.hid (G2.out.later b3); have B3 := Lib.hid (B2.out.trans (b3.mono B2.out.size)); clear hl b3)
        | (go_at_call 20; refine (H20.out w3 G3.out).mono ?_; rintro e w4 hl; obtain ⟨he, b4⟩ := K2.out _ _ _ hl; subst he; have B4 := Lib.hid (B3.out.trans (b4.mono B3.out.size)); clear hl b4))
      go_ret
      exact ⟨by simp, B4.out⟩
end Go.Proofs.Ytmblkojilckobaa
