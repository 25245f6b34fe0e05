/- What the proofs stand on: DiskMore, SafeTheirs. -/
import Derived.Deep.RegionHeld3
import Derived.Test.YtomgijcbekjlaaaGreatP7
import Derived.Test.YtomgijcbekjlaaaGreatPB0
import Derived.Test.YtomgijcbekjlaaaGreatPB1
set_option maxRecDepth 100000
set_option maxHeartbeats 40000000
namespace Go.Proofs.YtomgijcbekjlaaaGreat
section
open Go.RowKit
theorem FilesOwn.more {w w3 w4 : World} {E B : Nat} {F : Nat -> Prop} {v v4 sl : Value} {Q : List (Bs × Value)} {L : Files} {k : Nat} {n b : Bs} (h : FilesOwn w E B F v Q (L.take k)) (h3 : Turn (fun _ => False) w w3)
  (hb : BytesAt w3 (fun i => F i /\ v.ownBlock ≠ some i) sl b) (htl : (L.take k).length = k) (hown4 : w4.ownsRow B E 2 v4 (k + 1) (fcells Q ++ fcells [(n, sl)])) (hg4 : w3.grownBy w4 v.ownBlock)
  (hnew : ∀ i, v4.ownBlock = some i -> v.ownBlock = some i \/ i = w3.heap.size) (hf : L[k]? = some (n, b)) : FilesOwn w4 E B F v4 (Q ++ [(n, sl)]) (L.take (k + 1)) := by
 have FO := h.turn h3 (fun _ _ h => h) (fun _ _ h => h)
 have FO4 := FO.grown (Has.one (n := n) hb) (by rw [htl]; exact hown4) hg4 hnew
 have htake : L.take k ++ [(n, b)] = L.take (k + 1) := by rw [List.take_add_one, hf]; rfl
 rw [htake] at FO4; exact FO4
end
section
open Go.RowKit
theorem theirs_any (F : Nat -> Prop) (v0 : Value) (L : Files) (w : World) (h : FilesAt w F v0 L) (hF : ∀ k, F k -> k < w.heap.size) (hL : L.length <= 4000000000000) :
  Calls Tryz.prog 26 #[v0] w fun e w' => ∃ v, e = .returned v /\ FilesAt w' (fun k => F k \/ (w.heap.size <= k /\ k < w'.heap.size)) v L /\ Below w.heap.size w w' := by
 obtain ⟨ao, cap, P, g, off, rfl, hraw, hhas⟩ := h; obtain ⟨N, hN⟩ := nm_ (L.length); obtain ⟨B, hB⟩ := nm_ (w.heap.size); have hPN : P.length = N := by rw [hN]; exact hhas.1
 rw [<- hN] at hL |-; rw [<- hB]; have hwB : w.heap.size <= B := by omega
 have hBw : B <= w.heap.size := by omega
 have HN := h_ hN; have HB := h_ hB; have HR := h_ hraw; have HH := h_ hhas; have HPN := h_ hPN; have HFl := h_ hF; clear hN hB hraw hhas hPN hF; go_enter Tryz.func26, Tryz.ntmps26; go_wp2; go_loopw [3, 4] (fun x i W => ∃ (v : Value) (Q : List (Bs × Value)) (k : Nat), v = x /\ i = .int .i64 (k : Int) /\ k <= N /\ FilesOwn W 73 B (fun k => F k \/ B <= k) v Q (L.take k) /\ Below B w W) (fun _ i _ => N - (intOf i).toNat)
 case atStart => exact ⟨.slice none 0 0, [], 0, rfl, rfl, Nat.zero_le _, FilesOwn.nil _ _ _ _, Below.refl _ _⟩
 case round =>
  obtain ⟨v, Q, k, rfl, rfl, hk, hQ, hW⟩ := hrel; by_cases hlt : k < N
  ·have hk2 : k < L.length := by rw [<- HN.out]; exact hlt
   have hk3 : k < P.length := by rw [HPN.out]; exact hlt
   obtain ⟨⟨n, b⟩, hf⟩ : ∃ f, L[k]? = some f := ⟨_, List.getElem?_eq_getElem hk2⟩
   obtain ⟨⟨n', bv⟩, hp⟩ : ∃ p, P[k]? = some p := ⟨_, List.getElem?_eq_getElem hk3⟩
   obtain ⟨hnn, hby⟩ := HH.out.2 k _ _ hp hf; simp only at hnn hby
   subst hnn; obtain ⟨e1, c1, c2⟩ := HR.out.get hp; subst e1; have hgl : g < w.heap.size := World.block_lt_of_cell? w _ c1; have d1 := (hW.cell (p := ⟨g, off + k * 2, none⟩) (by show g < B; omega)).trans c1
   have d2 := (hW.cell (p := ⟨g, off + k * 2 + 1, none⟩) (by show g < B; omega)).trans c2
   have i0 : (0 : Int) <= (k : Int) := by omega
   have i1 : (k : Int) < (N : Int) := by omega
   obtain ⟨ao3, cap3, B3, off3, rfl, s3, hB3⟩ := hby; obtain ⟨M, hM⟩ := nm_ (b.length); rw [<- hM] at d2; have htl : (L.take k).length = k := by rw [List.length_take]; omega
   have hown := hQ.own; rw [htl] at hown; have hz := hW.size; have hgB : g < B := by omega
   have ex1 : ∀ o : Obj, (wr.alloc o).drew.cell? ⟨g, off + k * 2, none⟩ = some (.string (SL n')) := fun o => (World.cell?_of_block (w := wr) (a := ⟨g, off + k * 2, none⟩) (Below.heap_alloc wr o g (by omega))).trans d1
   have ex2 : ∀ o : Obj, (wr.alloc o).drew.cell? ⟨g, off + k * 2 + 1, none⟩ = some (.slice ao3 M cap3) := fun o => (World.cell?_of_block (w := wr) (a := ⟨g, off + k * 2 + 1, none⟩) (Below.heap_alloc wr o g (by omega))).trans d2
   have exo : ∀ o : Obj, (wr.alloc o).drew.ownsRow B 73 2 v k (fcells Q) := fun o => hown.alloc o
   have exb : ∀ j, v.ownBlock = some j -> B <= j := fun j hj => (hown.lt j hj).1
   have HQ := h_ hQ; have HM := h_ hM; have HTL := h_ htl; have HS3 := h_ s3; have HB3 := h_ hB3; have HF := h_ hf; clear hQ c1 c2 hM htl s3 hB3 hf hp hown; go_wp2_with fail
   go_region_held3 (fun W => W.cell? ⟨g, off + k * 2, none⟩ = some (.string (SL n')) /\ W.cell? ⟨g, off + k * 2 + 1, none⟩ = some (.slice ao3 M cap3)) (first | exact ⟨d1, d2⟩ | exact ⟨ex1 _, ex2 _⟩ | exact hS4) ((refine step_append_files files74 rfl _ _ rfl B v k (fcells Q) rfl (exo _) (some ⟨_, 0, none⟩) 1 1 rfl (fcells [(n', .slice ao3 M cap3)]) rfl (fun hh => by cases hh) (fun ad had j u hu => by cases had; exact cells_new wr _ _ j u hu) (by intro u hu; simp [fcells] at hu; rcases hu with rfl | rfl <;> rfl) (by omega) (by show B <= (wr.alloc _).heap.size; simp; omega) ?_; intro v4 w4 hown4 hg4 hnew4; have hS4 : w4.cell? ⟨g, off + k * 2, none⟩ = some (.string (SL n')) /\ w4.cell? ⟨g, off + k * 2 + 1, none⟩ = some (.slice ao3 M cap3) := ⟨hg4.out.cell (ex1 _) (fun e => by have := exb g e.symm; omega), hg4.out.cell (ex2 _) (fun e => by have := exb g e.symm; omega)⟩))
   obtain ⟨w3, hw3⟩ := nm_ ((wr.alloc (Obj.cells #[Value.string (SL n'), Value.slice ao3 M cap3] 73)).drew); have h3b : Below wr.heap.size wr w3 := by rw [hw3]; exact ((Below.refl _ _).alloc (Nat.le_refl _) _).drew
   rw [<- hw3] at hg4 hnew4; have hg4 := hg4.out; have h3s := h3b.size; have h4s := hg4.size; have hbytes : BytesAt w3 (fun i => (F i \/ B <= i) /\ v.ownBlock ≠ some i) (.slice ao3 M cap3) b := by
    refine ⟨ao3, cap3, B3, off3, by rw [HM.out], (HS3.out.below (W' := wr) ?_).below h3b, fun hp => ⟨.inl (HB3.out hp), fun e => ?_⟩⟩
    ·rw [<- HB.out]; exact hW
    ·have h5 := exb B3 e
     have h6 := HFl.out B3 (HB3.out hp); omega
   have FO4 := HQ.out.more (Turn.of_below _ h3b) hbytes HTL.out hown4.out hg4 hnew4.out HF.out; have hWn : Below B w w4 := (hW.trans (h3b.mono (by omega))).trans ⟨hg4.os, hg4.tape, hg4.output, hg4.size, fun i hi => hg4.block i (by omega) (fun e => by have := exb i e.symm; omega)⟩
   clear hS4 hown4 hg4 hnew4 hbytes hw3 ex1 ex2 exo d1 d2; go_wp2; go_roundw
   case rel => exact ⟨v4, _, k + 1, rfl, by go_num, by omega, FO4, hWn⟩
   case measure => simp [intOf]; omega
  ·obtain rfl : k = N := by omega
   rw [List.take_of_length_le (by rw [<- HN.out]; exact Nat.le_refl _)] at hQ
   have HQ := h_ hQ; have i1 : ¬ ((k : Int) < (k : Int)) := by omega
   clear hQ; go_wp2; go_ret; have h1 := HQ.out; refine ⟨_, rfl, ?_, hW⟩; have h2 := h1.files (F := fun i => F i \/ B <= i) (fun g hg _ _ => .inr hg)
   have hBe := HB.out; exact h2.mono (fun i hi hBi => hBi.imp id (fun h => ⟨by omega, hi⟩))
end
end Go.Proofs.YtomgijcbekjlaaaGreat
