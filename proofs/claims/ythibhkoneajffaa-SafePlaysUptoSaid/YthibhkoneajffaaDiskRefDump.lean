/- Dump of the document's disk. -/
import Derived.Test.YthibhkoneajffaaDiskRefOps2
import Derived.Test.YthibhkoneajffaaDiskDump
import Derived.Test.YthibhkoneajffaaDiskOps3
import Derived.Test.YthibhkoneajffaaDiskMore
namespace Go.Proofs.Ythibhkoneajffaa
open Go.RowKit
section
variable {w : World} {q : Nat} {G : Nat → Prop} {ao : Option Addr} {cap : Nat} {P : List (Bs × Value)} {g off : Nat} {L : Files}
theorem below_appends {B : Nat} {w w1 : World} {v : Value} {E s n : Nat} {xs : List Value} (ho : w.ownsRow B E s v n xs) (hg : w.grownBy w1 v.ownBlock) (hB : B ≤ w.heap.size) : Below B w w1 :=
  ⟨hg.os, hg.tape, hg.output, hg.size, fun i hi => hg.block i (by omega) (fun e => by have := (ho.lt i e.symm).1; omega)⟩
set_option maxRecDepth 100000 in
set_option maxHeartbeats 1600000 in
theorem refDump_any (h : ListAt w q G ao cap P g off L) (hL : L.length ≤ 4000000000000) (hs : ∀ (i : Nat) (n b : Bs), L[i]? = some (n, b) → b.length ≤ 140737488355328) :
    Calls Try.prog 27 #[ptr q] w fun e w' => ∃ v, e = .returned v ∧ FilesAt w' (fresh w w') v L ∧ Below w.heap.size w w' := by
  have hcell := h.cell
  obtain ⟨N, hN⟩ : ∃ N, N = L.length := ⟨_, rfl⟩
  obtain ⟨B, hB⟩ : ∃ B, B = w.heap.size := ⟨_, rfl⟩
  rw [← hN] at hL hcell
  rw [← hB]
  have hqB : q < B := by rw [hB]; exact World.block_lt_of_cell? w _ hcell
  have hwB : w.heap.size ≤ B := by omega
  have hBw : B ≤ w.heap.size := by omega
  have HN := Lib.hid hN
  have HB := Lib.hid hB
  have HH := Lib.hid h
  have HS := Lib.hid hs
  clear hN hB h hs
  go_enter Try.func27, Try.ntmps27
  go_wp2
  go_loopw [3, 4] (fun x i W => ∃ (v : Value) (Q : List (Bs × Value)) (k : Nat), v = x ∧ i = .int .i64 (k : Int) ∧ k ≤ N ∧ FilesOwn W 57 B (fun k => B ≤ k) v Q (L.take k) ∧ Below B w W) (fun _ i _ => N - (intOf i).toNat)
  case atStart => exact ⟨.slice none 0 0, [], 0, rfl, rfl, Nat.zero_le _, FilesOwn.nil _ _ _ _, Below.refl _ _⟩
  case round =>
    obtain ⟨v, Q, k, rfl, rfl, hk, hQ, hW⟩ := hrel
    have d0 : wr.cell? ⟨q, 1, none⟩ = some (.slice ao N cap) := (hW.cell (p := ⟨q, 1, none⟩) hqB).trans hcell
    by_cases hlt : k < N
    · have hk2 : k < L.length := by rw [← HN.out]; exact hlt
      obtain ⟨⟨n, b⟩, hf⟩ : ∃ f, L[k]? = some f := ⟨_, List.getElem?_eq_getElem hk2⟩
      obtain ⟨e1, c1, x, cc, c2, hby⟩ := HH.out.name hf
      subst e1
      have hbl := HS.out k n b hf
      obtain ⟨x3, cc3, B3, off3, hxx, s3, hB3⟩ := hby
      cases hxx
      have hgl : g < B := by rw [HB.out]; exact World.block_lt_of_cell? w _ c1
      have hwb : Below w.heap.size w wr := by rw [← HB.out]; exact hW
      obtain ⟨M, hM⟩ : ∃ M, M = b.length := ⟨_, rfl⟩
      rw [← hM] at c2 hbl
      have d1 := (hW.cell (p := ⟨g, off + k * 2, none⟩) hgl).trans c1
      have d2 := (hW.cell (p := ⟨g, off + k * 2 + 1, none⟩) hgl).trans c2
      have i0 : (0 : Int) ≤ (k : Int) := by omega
      have i1 : (k : Int) < (N : Int) := by omega
      have htl : (L.take k).length = k := by rw [List.length_take]; omega
      have hown := hQ.own
      rw [htl] at hown
      have hz := hW.size
      have keep : ∀ W : World, Below B wr W → W.cell? ⟨q, 1, none⟩ = some (.slice (some ⟨g, off, none⟩) N cap) ∧ W.cell? ⟨g, off + k * 2, none⟩ = some (.string (SL n)) ∧ W.cell? ⟨g, off + k * 2 + 1, none⟩ = some (.slice x M cc) := fun W hb =>
        ⟨(hb.cell (p := ⟨q, 1, none⟩) hqB).trans d0, (hb.cell (p := ⟨g, off + k * 2, none⟩) hgl).trans d1, (hb.cell (p := ⟨g, off + k * 2 + 1, none⟩) hgl).trans d2⟩
      have b1 : ∀ o : Obj, Below B wr (wr.alloc o).drew := fun o => ((Below.refl _ _).alloc (by omega) o).drew
      have HQ := Lib.hid hQ
      have HM := Lib.hid hM
      have HTL := Lib.hid htl
      have HF := Lib.hid hf
      have s1 : ∀ o : Obj, SrcAt (wr.alloc o).drew x cc b B3 off3 := fun o => (s3.below hwb).below (((Below.refl _ _).alloc (Nat.le_refl _) o).drew)
      have KEEP := Lib.hid keep
      clear hQ c1 c2 hM htl s3 hB3 hf keep
      go_wp2_with fail
      go_region_held3 (fun W => W.cell? ⟨q, 1, none⟩ = some (.slice (some ⟨g, off, none⟩) N cap) ∧ W.cell? ⟨g, off + k * 2, none⟩ = some (.string (SL n)) ∧ W.cell? ⟨g, off + k * 2 + 1, none⟩ = some (.slice x M cc)) (first | exact KEEP.out _ ((Below.refl _ _).drew) | exact KEEP.out _ (b1 _) | exact KEEP.out _ b2 | exact KEEP.out _ (b3 _) | exact KEEP.out _ b4)
        ((first
          | (refine step_append_new rfl _ _ rfl wr.heap.size _ 0 [] rfl (owns_of_row (heap_alloc_new wr _) (Nat.le_refl _) (Nat.le_refl _) (Nat.zero_le _) rfl rfl rfl) x M cc rfl (b.map B8) (by rw [List.length_map]; exact HM.out.symm) (fun hh => by rw [HM.out]; exact (s1 (.cells #[] 5)).bare hh) (s1 _).cells (B8_one _) (by omega) (by show wr.heap.size ≤ (wr.alloc _).heap.size; simp) ?_; intro v2 w2 hown2 hg2 hv2; have o2 := own_first hown2; have t2 : Below wr.heap.size wr w2 := (((Below.refl _ _).alloc (Nat.le_refl _) _).drew).grown hg2 (by show wr.heap.size ≤ (wr.alloc _).heap.size; simp) (fun k hk => by cases hk; exact Nat.le_refl _); rw [HM.out] at o2; obtain ⟨ao5, cap5, B5, rfl, s5, hB5⟩ := src_of_own o2; have S5 := Lib.hid s5; have HB5 := Lib.hid hB5; have b2 : Below B wr w2 := t2.mono (by omega); have b3 : ∀ o : Obj, Below B wr (w2.alloc o) := (fun o => b2.alloc (by have := t2.size; omega) o); have O3 := Lib.hid (fun o : Obj => (HQ.out.turn (Turn.of_below (fun _ => False) (t2.alloc t2.size o)) (fun _ _ h => h) (fun _ _ h => h))); rw [← HM.out]; clear hown2 hg2 hv2 o2 s5 hB5 s1)
          | (refine step_append_files files74 rfl _ _ rfl B v k (fcells Q) rfl (by have h1 := (O3.out (.cells #[.string (SL n), .slice ao5 M cap5] 57)).own; rw [HTL.out] at h1; exact h1) (some ⟨_, 0, none⟩) 1 1 rfl (fcells [(n, .slice ao5 M cap5)]) rfl (fun hh => by cases hh) (fun ad had j u hu => by cases had; exact cells_new w2 _ _ j u hu) (by intro u hu; simp [fcells] at hu; rcases hu with rfl | rfl <;> rfl) (by omega) (by have := t2.size; simp; omega) ?_; intro v4 w4 hown4 hg4 hnew4; have b4 : Below B wr w4 := (b3 (.cells #[.string (SL n), .slice ao5 M cap5] 57)).trans (below_appends (by have h1 := (O3.out (.cells #[.string (SL n), .slice ao5 M cap5] 57)).own; exact h1) hg4.out (by have := t2.size; simp; omega)))))
      have hz2 := t2.size
      have h3 : Below w2.heap.size w2 (w2.alloc (.cells #[.string (SL n), .slice ao5 M cap5] 57)) := (Below.refl _ _).alloc (Nat.le_refl _) _
      have hbytes : BytesAt (w2.alloc (.cells #[.string (SL n), .slice ao5 M cap5] 57)) (fun i => B ≤ i ∧ v.ownBlock ≠ some i) (.slice ao5 M cap5) b := by
        refine ⟨ao5, cap5, B5, 0, by rw [HM.out], S5.out.below h3, fun hp => ?_⟩
        have h1 := HB5.out hp
        exact ⟨by omega, fun e => by have h2 := (HQ.out.own.lt B5 e).2; omega⟩
      have FO4 := HQ.out.more (Turn.of_below _ (t2.alloc t2.size _)) hbytes HTL.out hown4.out hg4.out hnew4.out HF.out
      have hWn := hW.trans b4
      clear hown4 hg4 hnew4 hbytes h3 O3 b3 b2 b1 b4 t2
      go_wp2
      go_roundw
      case rel => exact ⟨v4, _, k + 1, rfl, by go_num, by omega, FO4, hWn⟩
      case measure => simp [intOf]; omega
    · obtain rfl : k = N := by omega
      rw [List.take_of_length_le (by rw [← HN.out]; exact Nat.le_refl _)] at hQ
      have HQ := Lib.hid hQ
      have i1 : ¬ ((k : Int) < (k : Int)) := by omega
      clear hQ
      go_wp2
      go_ret
      refine ⟨_, rfl, ?_, hW⟩
      have h2 := HQ.out.files (F := fun i => B ≤ i) (fun g hg _ _ => hg)
      have hBe := HB.out
      exact h2.mono (fun i hi hBi => ⟨by omega, hi⟩)
end
end Go.Proofs.Ythibhkoneajffaa
