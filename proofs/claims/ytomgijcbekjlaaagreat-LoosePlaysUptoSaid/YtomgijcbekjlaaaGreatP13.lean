/- What the proofs stand on: DiskDump. -/
import Derived.Test.YtomgijcbekjlaaaGreatP8
import Derived.Test.YtomgijcbekjlaaaGreatP12
import Derived.Test.YtomgijcbekjlaaaGreatP7
import Derived.Test.YtomgijcbekjlaaaGreatPB0
import Derived.Test.YtomgijcbekjlaaaGreatPB1
set_option maxRecDepth 100000
set_option maxHeartbeats 40000000
namespace Go.Proofs.YtomgijcbekjlaaaGreat
section
open Go.RowKit
abbrev fresh (w w' : World) : Nat -> Prop := fun k => w.heap.size <= k /\ k < w'.heap.size
section
variable {F : Nat -> Prop} {p mb : Nat} {V : Bs -> Value} {lf : Int} {S : St} {w : World}
theorem names_any (h : DiskIn w F p mb V lf S) (hr : Rising S.fs) (hb : S.fs.length * 16 <= 140737488355328) : Calls Tryz.prog 60 #[ptr p] w fun e w' => ∃ v, e = .returned v /\ w'.ownsRow w.heap.size 9 1 v S.fs.length (S.fs.map fun f => .string (SL f.1)) /\ Below w.heap.size w w' := by
 obtain ⟨c0, _⟩ := head_cells h.head; have hm := made_any c0; have hk := keysOf_any (some mb) w; have hs := sortedOf_any h.map hr hb; go_enter Tryz.func60, Tryz.ntmps60; go_wp2_with (first | (go_at_call 54; refine hm.mono ?_; rintro e w' ⟨rfl, rfl⟩) | (go_at_call 117; refine hk.mono ?_; rintro e w' ⟨rfl, rfl⟩) | (go_at_call 116; refine hs.mono ?_; rintro e w' ⟨v, rfl, h1, h2⟩))
 go_ret; exact ⟨_, rfl, h1, h2⟩
def NamesAt (w : World) (lo : Nat) (e : Ending) (w' : World) (fs : Files) : Prop :=
 ∃ ao cap g, e = .returned (.slice ao fs.length cap) /\ (0 < fs.length -> ao = some ⟨g, 0, none⟩ /\ lo <= g) /\ (∀ i f, fs[i]? = some f -> w'.cell? ⟨g, i, none⟩ = some (.string (SL f.1))) /\ Below w.heap.size w w'
theorem names_at (h : DiskIn w F p mb V lf S) (hr : Rising S.fs) (hb : S.fs.length * 16 <= 140737488355328) : Calls Tryz.prog 60 #[ptr p] w fun e w' => NamesAt w w.heap.size e w' S.fs := by
 refine (names_any h hr hb).mono ?_; rintro e w1 ⟨v1, rfl, o1, b1⟩; rcases o1.2 with ⟨rfl, h0⟩ | ⟨g, cap, cur, rfl, h2, _⟩
 ·exact ⟨none, 0, 0, by rw [h0], fun hp => by omega, fun i f hf => by have := (List.getElem?_eq_some_iff.1 hf).1; omega, b1⟩
 ·refine ⟨_, cap, g, rfl, fun _ => ⟨rfl, h2⟩, fun i f hf => ?_, b1⟩
  have := o1.cells (g := g) rfl i (.string (SL f.1)) (by simp [hf])
  rw [Addr.add_lit, Nat.zero_add] at this; exact this
theorem dump_any (h : DiskIn w F p mb V lf S) (hr : Rising S.fs) (hb : S.fs.length <= 4000000000000) (hs : ∀ n b, findF n S.fs = some b -> n.length <= 281474976710656 /\ b.length <= 140737488355328) :
  Calls Tryz.prog 27 #[ptr p] w fun e w' => ∃ v, e = .returned v /\ FilesAt w' (fresh w w') v S.fs /\ Below w.heap.size w w' := by
 have hn := names_at h hr (by omega)
 unfold NamesAt at hn; obtain ⟨N, hN⟩ := nm_ (S.fs.length); obtain ⟨B, hB⟩ := nm_ (w.heap.size); rw [<- hN, <- hB] at hn; rw [<- hN] at hb; have hwB : w.heap.size <= B := by omega
 have hBw : B <= w.heap.size := by omega
 have HN := h_ hN; have HB := h_ hB; have HD := h_ h; have HS := h_ hs; clear hN hB hs; go_enter Tryz.func27, Tryz.ntmps27; go_wp2_with (go_at_call 60; refine hn.mono ?_; rintro e w1 ⟨ao, cap, g, rfl, hg, hcell, b1⟩)
 have hz1 := b1.size; have HC := h_ hcell; clear hcell hn; have hb1 : Below B w w1 := b1; have hnames : Below w1.heap.size w1 w1 := Below.refl _ _; clear b1; obtain ⟨B1, hB1⟩ := nm_ (w1.heap.size); rw [<- hB1] at hnames; have hBB : B <= B1 := by omega
 have hB1w : w1.heap.size <= B1 := by omega
 have hB1g : B1 <= w1.heap.size := by omega
 clear hB1; go_loopw [3, 9] (fun x i W => ∃ (v : Value) (P : List (Bs × Value)) (k : Nat), v = x /\ i = .int .i64 (k : Int) /\ k <= N /\ FilesOwn W 74 B1 (fun k => B <= k) v P (S.fs.take k) /\ Below B w W /\ Below B1 w1 W) (fun _ i _ => N - (intOf i).toNat)
 case atStart => exact ⟨.slice none 0 0, [], 0, rfl, rfl, Nat.zero_le _, FilesOwn.nil _ _ _ _, hb1, hnames⟩
 case round =>
  clear hb1 hnames; obtain ⟨v, P, k, rfl, rfl, hk, hP, hW, hW1⟩ := hrel; by_cases hlt : k < N
  ·obtain ⟨rfl, hg2⟩ := hg (by omega)
   have hk2 : k < S.fs.length := by rw [<- HN.out]; exact hlt
   obtain ⟨⟨n, b⟩, hf⟩ : ∃ f, S.fs[k]? = some f := ⟨_, List.getElem?_eq_getElem hk2⟩
   have hfind : findF n S.fs = some b := findF_of_mem hr (List.mem_of_getElem? hf)
   have hWb : Below w.heap.size w wr := by rw [<- HB.out]; exact hW
   have D := HD.out.turn (Turn.of_below (fun _ => False) hWb) (fun _ _ h => h)
   have c0 := (head_cells D.head).1; have c1 := HC.out k (n, b) hf; have hgl : g < w1.heap.size := World.block_lt_of_cell? w1 _ c1; have c2 : wr.cell? ⟨g, k, none⟩ = some (.string (SL n)) := (hW1.cell (p := ⟨g, k, none⟩) (by show g < B1; omega)).trans c1
   have hsz := HS.out n b hfind; have hl := D.map.look1 (n := n) (by unfold maxLen; omega)
   rw [es_find, hfind, Option.map_some, Option.getD_some] at hl; obtain ⟨ao2, cap2, B2, hV, hsrc, _⟩ := src_of_own (D.rows.own n b hfind); rw [hV] at hl; have hclone := clone_any ao2 cap2 b B2 0 wr hsrc hsz.2; have i0 : (0 : Int) <= (k : Int) := by omega
   have i1 : (k : Int) < (N : Int) := by omega
   obtain ⟨M, hM⟩ := nm_ (b.length); rw [<- hM] at hclone hl; have HCL := h_ hclone; have HP := h_ hP; have HM := h_ hM; have HF := h_ hf; clear hclone hP c1 hV hsrc hf hM; have htl : (S.fs.take k).length = k := by rw [List.length_take]; omega
   have HTL := h_ htl; clear htl
   go_wp2_with (first | (go_at_call 61; refine HCL.out.mono ?_; rintro e w2 ⟨v2, rfl, o2, b2⟩; rw [HM.out] at o2; obtain ⟨ao3, cap3, B3, rfl, s3, hB3⟩ := src_of_own o2; have HS3 := h_ s3; have HB3 := h_ hB3; have HO2 := h_ o2; clear s3 hB3 o2; rw [<- HM.out]) | (at_builtin; refine wpList_append_files files72 rfl _ _ rfl B1 v k (fcells P) rfl (by have h1 := (HP.out.turn (Turn.of_below (fun _ => False) (b2.alloc b2.size (.cells #[.string (SL n), .slice ao3 M cap3] 74))) (fun _ _ h => h) (fun _ _ h => h)).own; rw [HTL.out] at h1; exact h1) (some ⟨_, 0, none⟩) 1 1 rfl (fcells [(n, .slice ao3 M cap3)]) rfl (fun hh => by cases hh) (fun ad had j u hu => by cases had; exact cells_new _ _ _ j u hu) (by intro u hu; simp [fcells] at hu; rcases hu with rfl | rfl <;> rfl) (by omega) (by have h1 := hW1.size; have h2 := b2.size; simp; omega) ?_; intro v4 w4 hown4 hg4 hnew4))
   have hw4 : Below wr.heap.size wr (w2.alloc (.cells #[.string (SL n), .slice ao3 M cap3] 74)) := b2.alloc b2.size _; obtain ⟨w3, hw3⟩ := nm_ (w2.alloc (.cells #[.string (SL n), .slice ao3 M cap3] 74)); have h23 : Below w2.heap.size w2 w3 := by rw [hw3]; exact (Below.refl _ _).alloc (Nat.le_refl _) _
   rw [<- hw3] at hw4 hg4 hnew4; clear hw3; have FO := HP.out.turn (Turn.of_below (fun _ => False) hw4) (fun _ _ h => h) (fun _ _ h => h)
   have hz2 := hW.size; have hz3 := b2.size; have hz5 := hw4.size; have hz6 := hg4.out.size; have hz7 := hW1.size; have hbytes : BytesAt w3 (fun i => B <= i /\ v.ownBlock ≠ some i) (.slice ao3 M cap3) b := by
    refine ⟨ao3, cap3, B3, 0, by rw [HM.out], HS3.out.below h23, fun hp => ⟨?_, fun e => ?_⟩⟩
    ·have := HB3.out hp
     omega
    ·have h1 := (HP.out.own.lt B3 e).2
     have := HB3.out hp
     omega
   have FO4 := FO.grown (Has.one (n := n) hbytes) (by rw [HTL.out]; exact hown4.out) hg4.out hnew4.out
   have htake : S.fs.take k ++ [(n, b)] = S.fs.take (k + 1) := by rw [List.take_add_one, HF.out]; rfl
   rw [htake] at FO4; have hWn : Below B w w4 := (hW.trans (hw4.mono (by omega))).trans ⟨hg4.out.os, hg4.out.tape, hg4.out.output, hg4.out.size, fun i hi => hg4.out.block i (by omega) (fun e => by have := (HP.out.own.lt i e.symm).1; omega)⟩
   have hWn1 : Below B1 w1 w4 := (hW1.trans (hw4.mono (by omega))).trans ⟨hg4.out.os, hg4.out.tape, hg4.out.output, hg4.out.size, fun i hi => hg4.out.block i (by omega) (fun e => by have := (HP.out.own.lt i e.symm).1; omega)⟩
   clear FO hbytes htake hown4 hg4 hnew4; go_roundw
   case rel => exact ⟨v4, _, k + 1, rfl, by go_num, by omega, FO4, hWn, hWn1⟩
   case measure => simp [intOf]; omega
  ·obtain rfl : k = N := by omega
   have hP2 := hP; rw [List.take_of_length_le (by rw [<- HN.out]; exact Nat.le_refl _)] at hP2
   have HP := h_ hP2; have i1 : ¬ ((k : Int) < (k : Int)) := by omega
   clear hP hP2; go_wp2; go_ret; have h1 := HP.out; have hz7 := hW1.size; refine ⟨_, rfl, ?_, by rw [<- HB.out]; exact hW⟩
   have h2 := h1.files (F := fun i => B <= i) (fun g hg _ _ => by omega)
   have hBe := HB.out; exact h2.mono (fun i hi hBi => ⟨by omega, hi⟩)
end
end
end Go.Proofs.YtomgijcbekjlaaaGreat
