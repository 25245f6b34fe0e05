/- What the proofs stand on: DiskRefDump, DiskPair, DiskOne, LooseSpec, DiskRefNames, DiskROne, SafeRefSave, LooseName, LooseIdOf, DiskFiles, DiskLoad. -/
import Derived.Test.YtomgijcbekjlaaaGreatP10
import Derived.Test.YtomgijcbekjlaaaGreatP13
import Derived.Test.YtomgijcbekjlaaaGreatP11
import Derived.Test.YtomgijcbekjlaaaGreatP14
import Derived.Test.YtomgijcbekjlaaaGreatP6
import Derived.Test.YtomgijcbekjlaaaGreatP9
import Derived.Test.YtomgijcbekjlaaaGreatPB0
import Derived.Test.YtomgijcbekjlaaaGreatPB1
set_option maxRecDepth 100000
set_option maxHeartbeats 40000000
namespace Go.Proofs.YtomgijcbekjlaaaGreat
section
open Go.RowKit
section
variable {w : World} {q : Nat} {G : Nat -> Prop} {ao : Option Addr} {cap : Nat} {P : List (Bs × Value)} {g off : Nat} {L : Files}
theorem below_appends {B : Nat} {w w1 : World} {v : Value} {E s n : Nat} {xs : List Value} (ho : w.ownsRow B E s v n xs) (hg : w.grownBy w1 v.ownBlock) (hB : B <= w.heap.size) : Below B w w1 :=
 ⟨hg.os, hg.tape, hg.output, hg.size, fun i hi => hg.block i (by omega) (fun e => by have := (ho.lt i e.symm).1; omega)⟩
theorem refDump_any (h : ListAt w q G ao cap P g off L) (hL : L.length <= 4000000000000) (hs : ∀ (i : Nat) (n b : Bs), L[i]? = some (n, b) -> b.length <= 140737488355328) :
  Calls Tryz.prog 28 #[ptr q] w fun e w' => ∃ v, e = .returned v /\ FilesAt w' (fresh w w') v L /\ Below w.heap.size w w' := by
 have hcell := h.cell; obtain ⟨N, hN⟩ := nm_ (L.length); obtain ⟨B, hB⟩ := nm_ (w.heap.size); rw [<- hN] at hL hcell; rw [<- hB]; have hqB : q < B := by rw [hB]; exact World.block_lt_of_cell? w _ hcell
 have hwB : w.heap.size <= B := by omega
 have hBw : B <= w.heap.size := by omega
 have HN := h_ hN; have HB := h_ hB; have HH := h_ h; have HS := h_ hs; clear hN hB h hs; go_enter Tryz.func28, Tryz.ntmps28; go_wp2; go_loopw [3, 4] (fun x i W => ∃ (v : Value) (Q : List (Bs × Value)) (k : Nat), v = x /\ i = .int .i64 (k : Int) /\ k <= N /\ FilesOwn W 73 B (fun k => B <= k) v Q (L.take k) /\ Below B w W) (fun _ i _ => N - (intOf i).toNat)
 case atStart => exact ⟨.slice none 0 0, [], 0, rfl, rfl, Nat.zero_le _, FilesOwn.nil _ _ _ _, Below.refl _ _⟩
 case round =>
  obtain ⟨v, Q, k, rfl, rfl, hk, hQ, hW⟩ := hrel; have d0 : wr.cell? ⟨q, 1, none⟩ = some (.slice ao N cap) := (hW.cell (p := ⟨q, 1, none⟩) hqB).trans hcell
  by_cases hlt : k < N
  ·have hk2 : k < L.length := by rw [<- HN.out]; exact hlt
   obtain ⟨⟨n, b⟩, hf⟩ : ∃ f, L[k]? = some f := ⟨_, List.getElem?_eq_getElem hk2⟩
   obtain ⟨e1, c1, x, cc, c2, hby⟩ := HH.out.name hf; subst e1; have hbl := HS.out k n b hf; obtain ⟨x3, cc3, B3, off3, hxx, s3, hB3⟩ := hby
   cases hxx
   have hgl : g < B := by rw [HB.out]; exact World.block_lt_of_cell? w _ c1
   have hwb : Below w.heap.size w wr := by rw [<- HB.out]; exact hW
   obtain ⟨M, hM⟩ := nm_ (b.length); rw [<- hM] at c2 hbl; have d1 := (hW.cell (p := ⟨g, off + k * 2, none⟩) hgl).trans c1
   have d2 := (hW.cell (p := ⟨g, off + k * 2 + 1, none⟩) hgl).trans c2
   have i0 : (0 : Int) <= (k : Int) := by omega
   have i1 : (k : Int) < (N : Int) := by omega
   have htl : (L.take k).length = k := by rw [List.length_take]; omega
   have hown := hQ.own; rw [htl] at hown; have hz := hW.size; have keep : ∀ W : World, Below B wr W -> W.cell? ⟨q, 1, none⟩ = some (.slice (some ⟨g, off, none⟩) N cap) /\ W.cell? ⟨g, off + k * 2, none⟩ = some (.string (SL n)) /\ W.cell? ⟨g, off + k * 2 + 1, none⟩ = some (.slice x M cc) := fun W hb =>
    ⟨(hb.cell (p := ⟨q, 1, none⟩) hqB).trans d0, (hb.cell (p := ⟨g, off + k * 2, none⟩) hgl).trans d1, (hb.cell (p := ⟨g, off + k * 2 + 1, none⟩) hgl).trans d2⟩
   have b1 : ∀ o : Obj, Below B wr (wr.alloc o).drew := fun o => ((Below.refl _ _).alloc (by omega) o).drew
   have HQ := h_ hQ; have HM := h_ hM; have HTL := h_ htl; have HF := h_ hf; have s1 : ∀ o : Obj, SrcAt (wr.alloc o).drew x cc b B3 off3 := fun o => (s3.below hwb).below (((Below.refl _ _).alloc (Nat.le_refl _) o).drew)
   have KEEP := h_ keep; clear hQ c1 c2 hM htl s3 hB3 hf keep; go_wp2_with fail; go_region_held3 (fun W => W.cell? ⟨q, 1, none⟩ = some (.slice (some ⟨g, off, none⟩) N cap) /\ W.cell? ⟨g, off + k * 2, none⟩ = some (.string (SL n)) /\ W.cell? ⟨g, off + k * 2 + 1, none⟩ = some (.slice x M cc)) (first | exact KEEP.out _ ((Below.refl _ _).drew) | exact KEEP.out _ (b1 _) | exact KEEP.out _ b2 | exact KEEP.out _ (b3 _) | exact KEEP.out _ b4)
    ((first
     | (refine step_append_new rfl _ _ rfl wr.heap.size _ 0 [] rfl (owns_of_row (heap_alloc_new wr _) (Nat.le_refl _) (Nat.le_refl _) (Nat.zero_le _) rfl rfl rfl) x M cc rfl (b.map B8) (by rw [List.length_map]; exact HM.out.symm) (fun hh => by rw [HM.out]; exact (s1 (.cells #[] 5)).bare hh) (s1 _).cells (B8_one _) (by omega) (by show wr.heap.size <= (wr.alloc _).heap.size; simp) ?_; intro v2 w2 hown2 hg2 hv2; have o2 := own_first hown2; have t2 : Below wr.heap.size wr w2 := (((Below.refl _ _).alloc (Nat.le_refl _) _).drew).grown hg2 (by show wr.heap.size <= (wr.alloc _).heap.size; simp) (fun k hk => by cases hk; exact Nat.le_refl _); rw [HM.out] at o2; obtain ⟨ao5, cap5, B5, rfl, s5, hB5⟩ := src_of_own o2; have S5 := h_ s5; have HB5 := h_ hB5; have b2 : Below B wr w2 := t2.mono (by omega); have b3 : ∀ o : Obj, Below B wr (w2.alloc o) := (fun o => b2.alloc (by have := t2.size; omega) o); have O3 := h_ (fun o : Obj => (HQ.out.turn (Turn.of_below (fun _ => False) (t2.alloc t2.size o)) (fun _ _ h => h) (fun _ _ h => h))); rw [<- HM.out]; clear hown2 hg2 hv2 o2 s5 hB5 s1)
     | (refine step_append_files files74 rfl _ _ rfl B v k (fcells Q) rfl (by have h1 := (O3.out (.cells #[.string (SL n), .slice ao5 M cap5] 73)).own; rw [HTL.out] at h1; exact h1) (some ⟨_, 0, none⟩) 1 1 rfl (fcells [(n, .slice ao5 M cap5)]) rfl (fun hh => by cases hh) (fun ad had j u hu => by cases had; exact cells_new w2 _ _ j u hu) (by intro u hu; simp [fcells] at hu; rcases hu with rfl | rfl <;> rfl) (by omega) (by have := t2.size; simp; omega) ?_; intro v4 w4 hown4 hg4 hnew4; have b4 : Below B wr w4 := (b3 (.cells #[.string (SL n), .slice ao5 M cap5] 73)).trans (below_appends (by have h1 := (O3.out (.cells #[.string (SL n), .slice ao5 M cap5] 73)).own; exact h1) hg4.out (by have := t2.size; simp; omega)))))
   have hz2 := t2.size; have h3 : Below w2.heap.size w2 (w2.alloc (.cells #[.string (SL n), .slice ao5 M cap5] 73)) := (Below.refl _ _).alloc (Nat.le_refl _) _; have hbytes : BytesAt (w2.alloc (.cells #[.string (SL n), .slice ao5 M cap5] 73)) (fun i => B <= i /\ v.ownBlock ≠ some i) (.slice ao5 M cap5) b := by
    refine ⟨ao5, cap5, B5, 0, by rw [HM.out], S5.out.below h3, fun hp => ?_⟩
    have h1 := HB5.out hp; exact ⟨by omega, fun e => by have h2 := (HQ.out.own.lt B5 e).2; omega⟩
   have FO4 := HQ.out.more (Turn.of_below _ (t2.alloc t2.size _)) hbytes HTL.out hown4.out hg4.out hnew4.out HF.out; have hWn := hW.trans b4; clear hown4 hg4 hnew4 hbytes h3 O3 b3 b2 b1 b4 t2; go_wp2; go_roundw
   case rel => exact ⟨v4, _, k + 1, rfl, by go_num, by omega, FO4, hWn⟩
   case measure => simp [intOf]; omega
  ·obtain rfl : k = N := by omega
   rw [List.take_of_length_le (by rw [<- HN.out]; exact Nat.le_refl _)] at hQ
   have HQ := h_ hQ; have i1 : ¬ ((k : Int) < (k : Int)) := by omega
   clear hQ; go_wp2; go_ret; refine ⟨_, rfl, ?_, hW⟩; have h2 := HQ.out.files (F := fun i => B <= i) (fun g hg _ _ => hg)
   have hBe := HB.out; exact h2.mono (fun i hi hBi => ⟨by omega, hi⟩)
end
end
section
open Go.RowKit
structure Pair (w0 : World) (base : Nat) (w : World) (Fd Fr : Nat -> Prop) (p q : Nat) (S T : St) : Prop where
 d : DiskAt w Fd p S
 r : RefAt w Fr q T
 fd : ∀ k, Fd k -> base <= k /\ k < w.heap.size
 fr : ∀ k, Fr k -> base <= k /\ k < w.heap.size
 ap : ∀ k, Fd k -> ¬ Fr k
 old : Below base w0 w
 bs : base <= w.heap.size
section
variable {w0 w w' : World} {base p q : Nat} {Fd Fr : Nat -> Prop} {S T S' : St}
def Two (w0 : World) (base : Nat) (w : World) (p q : Nat) (S : St) : Prop := ∃ Fd Fr, Pair w0 base w Fd Fr p q S S
/-! The calls on whole disks. -/
theorem dRemove (h : DiskAt w Fd p S) (hg : Good S) (hb : S.done <= 4000000000000000) (n : Bs) : Calls Tryz.prog 36 #[ptr p, .string (SL n)] w (Acts Fd p w (removeS S n)) := by
 obtain ⟨mb, V, lf, h⟩ := h; exact remove_any h hg hb n
theorem dRename (h : DiskAt w Fd p S) (hg : Good S) (hb : S.done <= 4000000000000000) (f t : Bs) : Calls Tryz.prog 144 #[ptr p, .string (SL f), .string (SL t)] w (Acts Fd p w (renameS S f t)) := by
 obtain ⟨mb, V, lf, h⟩ := h; exact rename_any h hg hb f t
theorem dCut (h : DiskAt w Fd p S) (z : Int) (hz : z <= 9223372036854775807) : Calls Tryz.prog 16 #[ptr p, .int .i64 z] w (Acts Fd p w (cutS S z)) := by
 obtain ⟨mb, V, lf, h⟩ := h; exact cut_any h z hz
theorem dOn (h : DiskAt w Fd p S) : Calls Tryz.prog 18 #[ptr p] w fun e w' => e = .returned (.tuple #[]) /\ DiskAt w' (grow Fd w w') p (onS S) /\ Turn Fd w w' := by
 obtain ⟨mb, V, lf, h⟩ := h; exact on_any h
theorem dRead (h : DiskAt w Fd p S) (hg : Good S) (n : Bs) :
  Calls Tryz.prog 35 #[ptr p, .string (SL n)] w fun e w' => ∃ v, e = .returned (.tuple #[v, err (readS S n).1]) /\ w'.ownsRow w.heap.size 5 1 v (readS S n).2.length ((readS S n).2.map B8) /\ Below w.heap.size w w' := by
 obtain ⟨mb, V, lf, h⟩ := h; exact read_any h n (fun c hc => by have := hg.file_le hc; unfold costF at this; omega)
theorem dFree (h : DiskAt w Fd p S) : Calls Tryz.prog 141 #[ptr p] w fun e w' => e = .returned (.int .i64 (wrap64 S.free)) /\ w' = w := by
 obtain ⟨mb, V, lf, h⟩ := h; exact free_in h
theorem dOps (h : DiskAt w Fd p S) : Calls Tryz.prog 22 #[ptr p] w fun e w' => e = .returned (.int .i64 (S.done : Int)) /\ w' = w := by
 obtain ⟨mb, V, lf, h⟩ := h; exact ops_in h
theorem dDump (h : DiskAt w Fd p S) (hr : Rising S.fs) (hb : S.fs.length <= 4000000000000) (hs : ∀ n b, findF n S.fs = some b -> n.length <= 281474976710656 /\ b.length <= 140737488355328) :
  Calls Tryz.prog 27 #[ptr p] w fun e w' => ∃ v, e = .returned v /\ FilesAt w' (fresh w w') v S.fs /\ Below w.heap.size w w' := by
 obtain ⟨mb, V, lf, h⟩ := h; exact dump_any h hr hb hs
theorem rRemove (h : RefAt w Fr q S) (hF : ∀ k, Fr k -> k < w.heap.size) (hg : Good S) (hb : S.done <= 4000000000000000) (n : Bs) (hn : n.length <= 9223372036854775807) : Calls Tryz.prog 53 #[ptr q, .string (SL n)] w (RActs Fr q w (removeS S n)) := by
 obtain ⟨ao, cap, P, g, off, h⟩ := h.opened; exact refRemove_any h hF hg hb n hn
theorem rRename (h : RefAt w Fr q S) (hF : ∀ k, Fr k -> k < w.heap.size) (hg : Good S) (hb : S.done <= 4000000000000000) (f t : Bs) (hf : f.length <= 9223372036854775807) (ht : t.length <= 9223372036854775807) :
  Calls Tryz.prog 110 #[ptr q, .string (SL f), .string (SL t)] w (RActs Fr q w (renameS S f t)) := by
 obtain ⟨ao, cap, P, g, off, h⟩ := h.opened; exact refRename_any h hF hg hb f t hf ht
theorem rSync (h : RefAt w Fr q S) (hg : Good S) (hb : S.done <= 4000000000000000) (n : Bs) (hn : n.length <= 9223372036854775807) : Calls Tryz.prog 109 #[ptr q, .string (SL n)] w (RActs Fr q w (syncS S n)) := by
 obtain ⟨ao, cap, P, g, off, h⟩ := h.opened; exact refSync_any h hg hb n hn
theorem rCut (h : RefAt w Fr q S) (z : Int) : Calls Tryz.prog 17 #[ptr q, .int .i64 z] w (RActs Fr q w (cutS S z)) := by
 obtain ⟨ao, cap, P, g, off, h⟩ := h.opened; exact refCut_any h z
theorem rOn (h : RefAt w Fr q S) : Calls Tryz.prog 19 #[ptr q] w fun e w' => e = .returned (.tuple #[]) /\ RefAt w' (grow Fr w w') q (onS S) /\ Turn Fr w w' := by
 obtain ⟨ao, cap, P, g, off, h⟩ := h.opened; exact refOn_any h
theorem rAppend (h : RefAt w Fr q S) (hF : ∀ k, Fr k -> k < w.heap.size) (hg : Good S) (hb : S.done <= 4000000000000000) (n : Bs) (hn : n.length <= 9223372036854775807) (ao : Option Addr) (cap : Nat) (b : Bs) (B off : Nat) (hs : SrcAt w ao cap b B off) (hB : 0 < b.length -> ¬ Fr B) :
  Calls Tryz.prog 108 #[ptr q, .string (SL n), .slice ao b.length cap] w (RActs Fr q w (appendS S n b)) := by
 obtain ⟨ao2, cap2, P, g, off2, h⟩ := h.opened; exact refAppend_any h hF hg hb n hn ao cap b B off hs hB
theorem rRead (h : RefAt w Fr q S) (hg : Good S) (n : Bs) (hn : n.length <= 9223372036854775807) :
  Calls Tryz.prog 48 #[ptr q, .string (SL n)] w fun e w' => ∃ v, e = .returned (.tuple #[v, err (readS S n).1]) /\ w'.ownsRow w.heap.size 5 1 v (readS S n).2.length ((readS S n).2.map B8) /\ Below w.heap.size w w' := by
 obtain ⟨ao, cap, P, g, off, h⟩ := h.opened; exact refRead_any h hg.rise (by have := hg.many; omega) n hn (fun c hc => by have := hg.file_le hc; unfold costF at this; omega)
theorem rHas (h : RefAt w Fr q S) (hg : Good S) (n : Bs) : Calls Tryz.prog 52 #[ptr q, .string (SL n)] w fun e w' => e = .returned (.bool (thereF n S.fs)) /\ ∃ m, w' = w.drewN m := by
 obtain ⟨ao, cap, P, g, off, h⟩ := h.opened; exact refHas_any h hg.rise (by have := hg.many; omega) n
theorem rFree (h : RefAt w Fr q S) (hL : S.fs.length <= 4000000000000) (hc : S.cap <= 1099511627776) : Calls Tryz.prog 80 #[ptr q] w fun e w' => e = .returned (.int .i64 (wrap64 S.free)) /\ ∃ m, w' = w.drewN m := by
 obtain ⟨ao, cap, P, g, off, h⟩ := h.opened; exact refFree_in h hL hc
end
end
section
open Go.RowKit
theorem disk_new (w : World) (c : Nat) (hc : c <= 1099511627776) : DiskAt ((w.alloc (.map #[] 0)).alloc (headO w.heap.size (c : Int) 0 (-1) false)) (fun k => w.heap.size <= k /\ k < w.heap.size + 2) (w.heap.size + 1) (newS c) := by
 have h1 : (w.alloc (.map #[] 0)).heap.size = w.heap.size + 1 := by simp
 have hm : DiskMapAt ((w.alloc (.map #[] 0)).alloc (headO w.heap.size (c : Int) 0 (-1) false)) w.heap.size [] := (mapAt_new w).of_block (Below.heap_alloc _ _ _ (by omega))
 have hh := heap_alloc_new (w.alloc (.map #[] 0)) (headO w.heap.size (c : Int) 0 (-1) false); rw [h1] at hh; refine ⟨w.heap.size, fun _ => .slice none 0 0, -1, ⟨?_, fun _ => rfl, ⟨by omega, by omega⟩, hm, ⟨fun _ _ h => (by cases h), fun _ _ h => (by cases h), fun _ _ _ _ h => (by cases h)⟩, ⟨by omega, by omega⟩, ⟨by omega, by omega⟩⟩⟩
 have e : wrap64 (newS c).free = (c : Int) := by
  show wrap64 ((c : Int) - (0 : Nat)) = _
  rw [IntWalk.wrap64_in _ ⟨by omega, by omega⟩]
  simp
 rw [e]; exact hh
def One (w0 : World) (Z : Nat -> Prop) (w : World) (p : Nat) (S : St) : Prop := ∃ F, DiskAt w F p S /\ (∀ k, F k -> ¬ Z k /\ k < w.heap.size) /\ Turn (fun k => ¬ Z k) w0 w /\ ∀ k, Z k -> k < w0.heap.size
abbrev elder (w : World) : Nat -> Prop := fun k => k < w.heap.size
section
variable {w0 w w' : World} {p : Nat} {Z F : Nat -> Prop} {S S' : St}
theorem one_acts (hF : ∀ k, F k -> ¬ Z k /\ k < w.heap.size) (hb : Turn (fun k => ¬ Z k) w0 w) (hs : ∀ k, Z k -> k < w0.heap.size) (hd : DiskAt w' (grow F w w') p S') (ht : Turn F w w') : One w0 Z w' p S' := by
 have h1 := ht.size; have h2 := hb.size; refine ⟨_, hd, fun k hk => ?_, hb.then ht (fun k _ hk => (hF k hk).1), hs⟩
 rcases hk with hk | hk
 ·have := hF k hk; exact ⟨this.1, by omega⟩
 ·exact ⟨fun hz => by have := hs k hz; omega, hk.2⟩
theorem One.below (h : One w0 Z w p S) (hb : Below w.heap.size w w') : One w0 Z w' p S := by
 obtain ⟨F, h1, h2, h3, h4⟩ := h; exact ⟨F, h1.turn (Turn.of_below (fun _ => False) hb) (fun _ _ h => h), fun k hk => ⟨(h2 k hk).1, by have := (h2 k hk).2; have := hb.size; omega⟩, h3.trans (Turn.of_below _ hb), h4⟩
theorem One.turned (h : One w0 Z w p S) : Turn (fun k => ¬ Z k) w0 w := by
 obtain ⟨_, _, _, h, _⟩ := h; exact h
theorem One.old (h : One w0 (elder w0) w p S) : Below w0.heap.size w0 w := by
 have t := h.turned; exact ⟨t.os, t.tape, t.output, t.size, fun k hk => t.block k hk (fun hn => hn hk)⟩
theorem One.snap {w1 : World} (h : One w0 Z w p S) (hb : Below w.heap.size w w1) : One w1 (fun k => Z k \/ (w.heap.size <= k /\ k < w1.heap.size)) w1 p S := by
 have h5 := h.turned.size; obtain ⟨F, h1, h2, h3, h4⟩ := h; have hs := hb.size; refine ⟨F, h1.turn (Turn.of_below (fun _ => False) hb) (fun _ _ h => h), fun k hk => ⟨fun hz => ?_, by have := (h2 k hk).2; omega⟩, Turn.refl _ _, fun k hk => ?_⟩
 ·rcases hz with hz | hz
  ·exact (h2 k hk).1 hz
  ·have := (h2 k hk).2; omega
 ·rcases hk with hk | hk
  ·have := h4 k hk; omega
  ·exact hk.2
theorem One.free (h : One w0 Z w p S) : Calls Tryz.prog 141 #[ptr p] w fun e w' => e = .returned (.int .i64 (wrap64 S.free)) /\ w' = w := by
 obtain ⟨F, h, _⟩ := h; exact dFree h
theorem One.ops (h : One w0 Z w p S) : Calls Tryz.prog 22 #[ptr p] w fun e w' => e = .returned (.int .i64 (S.done : Int)) /\ w' = w := by
 obtain ⟨F, h, _⟩ := h; exact dOps h
theorem One.read (h : One w0 Z w p S) (hg : Good S) (n : Bs) : Calls Tryz.prog 35 #[ptr p, .string (SL n)] w fun e w' => ∃ v, e = .returned (.tuple #[v, err (readS S n).1]) /\ w'.ownsRow w.heap.size 5 1 v (readS S n).2.length ((readS S n).2.map B8) /\ Below w.heap.size w w' := by
 obtain ⟨F, h, _⟩ := h; exact dRead h hg n
def OneTo (w0 : World) (Z : Nat -> Prop) (p : Nat) (r : Int × St) (e : Ending) (w' : World) : Prop := e = .returned (err r.1) /\ One w0 Z w' p r.2
theorem One.remove (h : One w0 Z w p S) (hg : Good S) (hb : S.done <= 4000000000000000) (n : Bs) : Calls Tryz.prog 36 #[ptr p, .string (SL n)] w (OneTo w0 Z p (removeS S n)) := by
 obtain ⟨F, h1, h2, h3, h4⟩ := h; refine (dRemove h1 hg hb n).mono ?_; rintro e w' ⟨he, hd, ht⟩; exact ⟨he, one_acts h2 h3 h4 hd ht⟩
theorem One.rename (h : One w0 Z w p S) (hg : Good S) (hb : S.done <= 4000000000000000) (f t : Bs) : Calls Tryz.prog 144 #[ptr p, .string (SL f), .string (SL t)] w (OneTo w0 Z p (renameS S f t)) := by
 obtain ⟨F, h1, h2, h3, h4⟩ := h; refine (dRename h1 hg hb f t).mono ?_; rintro e w' ⟨he, hd, ht⟩; exact ⟨he, one_acts h2 h3 h4 hd ht⟩
theorem One.cut (h : One w0 Z w p S) (z : Int) (hz : z <= 9223372036854775807) : Calls Tryz.prog 16 #[ptr p, .int .i64 z] w (OneTo w0 Z p (cutS S z)) := by
 obtain ⟨F, h1, h2, h3, h4⟩ := h; refine (dCut h1 z hz).mono ?_; rintro e w' ⟨he, hd, ht⟩; exact ⟨he, one_acts h2 h3 h4 hd ht⟩
theorem One.on (h : One w0 Z w p S) : Calls Tryz.prog 18 #[ptr p] w fun e w' => e = .returned (.tuple #[]) /\ One w0 Z w' p (onS S) := by
 obtain ⟨F, h1, h2, h3, h4⟩ := h; refine (dOn h1).mono ?_; rintro e w' ⟨he, hd, ht⟩; exact ⟨he, one_acts h2 h3 h4 hd ht⟩
theorem One.dump (h : One w0 Z w p S) (hr : Rising S.fs) (hb : S.fs.length <= 4000000000000) (hs : ∀ n b, findF n S.fs = some b -> n.length <= 281474976710656 /\ b.length <= 140737488355328) :
  Calls Tryz.prog 27 #[ptr p] w fun e w' => ∃ v, e = .returned v /\ FilesAt w' (fresh w w') v S.fs /\ Below w.heap.size w w' := by
 obtain ⟨F, h, _⟩ := h; exact dDump h hr hb hs
end
theorem one_new (w : World) (c : Nat) (hc : c <= 1099511627776) : Calls Tryz.prog 32 #[.int .i64 (c : Int)] w fun e w' => ∃ p, e = .returned (.tuple #[ptr p, err 0]) /\ One w (elder w) w' p (newS c) := by
 refine (new_yes c hc w).mono ?_; rintro e w' ⟨rfl, rfl⟩; refine ⟨_, rfl, _, disk_new w c hc, fun k hk => ⟨fun hz => by have := hk.1; have : k < w.heap.size := hz; omega, by simp; omega⟩, Turn.of_below _ (((Below.refl _ _).alloc (Nat.le_refl _) _).alloc (by simp) _), fun _ h => h⟩
end
section
open Go.RowKit
theorem One.tells {w0 w : World} {Z : Nat -> Prop} {p : Nat} {S : St} (h : One w0 Z w p S) (hg : Good S) (n : Bs) : Calls Tryz.prog 35 #[ptr p, .string (SL n)] w fun e w' => ∃ ao cap B, e = .returned (.tuple #[.slice ao (readS S n).2.length cap, err (readS S n).1]) /\ SrcAt w' ao cap (readS S n).2 B 0 /\ (0 < (readS S n).2.length -> w.heap.size <= B) /\ Below w.heap.size w w' := by
 refine (h.read hg n).mono ?_; rintro e w' ⟨v, he, hown, hb⟩; obtain ⟨ao, cap, B, rfl, h2, h3⟩ := src_of_own hown; exact ⟨ao, cap, B, he, h2, h3, hb⟩
theorem texts_form {x : Nat} {w : World} {v : Value} {l : List OB} (h : TxtsOwn x w v l) : ∃ ao cap, v = .slice ao l.length cap := by
 rcases h.2 with ⟨rfl, h0⟩ | ⟨g, cap, cur, rfl, _⟩
 ·rw [h0]; exact ⟨none, 0, rfl⟩
 ·exact ⟨_, cap, rfl⟩
theorem One.with_new {w0 w w1 : World} {Z : Nat -> Prop} {p : Nat} {S : St} (h : One w0 Z w p S) (hb : Below w.heap.size w w1) {v : Value} {b : Bs} (hv : BytesAt w1 (fun k => w.heap.size <= k /\ k < w1.heap.size) v b) :
  ∃ Y : Nat -> Prop, One w1 (fun k => Z k \/ Y k) w1 p S /\ BytesAt w1 (fun k => Z k \/ Y k) v b :=
 ⟨fun k => w.heap.size <= k /\ k < w1.heap.size, h.snap hb, hv.mono fun _ _ h => .inr h⟩
theorem made_bytes (w : World) (bs : List UInt8) (fr : Nat × Nat) (hm : bs.length <= maxLen) : BytesAt (w.alloc (.cells (cells8 bs) 5 fr)) (fun k => w.heap.size <= k /\ k < (w.alloc (.cells (cells8 bs) 5 fr)).heap.size) (.slice (some ⟨w.heap.size, 0, none⟩) bs.length bs.length) bs :=
 ⟨_, _, w.heap.size, 0, rfl, ⟨Nat.le_refl _, hm, fun _ => rfl, (fun h => by cases h), fun _ => by simp, fun j hj => by
  rw [Nat.zero_add, cell_of_row _ _ _ _ _ _ (heap_alloc_new w _)]; simp [cells8, B8, hj]⟩, fun _ => ⟨Nat.le_refl _, by simp⟩⟩
def NameSpec : Prop := ∀ (id : Bs) (w : World), id.length <= 35184372088832 -> Calls Tryz.prog 29 #[.string (SL id)] w fun e w' => e = .returned (.string (SL (nameL id))) /\ Below w.heap.size w w'
def GotTo (w : World) (r : Int × Bs) (e : Ending) (w' : World) : Prop := ∃ ao cap B off, e = .returned (.tuple #[.slice ao r.2.length cap, err r.1]) /\ SrcAt w' ao cap r.2 B off /\ (0 < r.2.length -> w.heap.size <= B) /\ Below w.heap.size w w'
def GetSpec : Prop := ∀ (w0 w : World) (Z : Nat -> Prop) (p : Nat) (S : St) (id : Bs), One w0 Z w p S -> Good S -> id.length <= 35184372088832 -> Calls Tryz.prog 12 #[ptr p, .string (SL id)] w (GotTo w (getL S.fs id))
def PutsTo (w0 : World) (Z : Nat -> Prop) (p : Nat) (r : Int × Bs × St) (e : Ending) (w' : World) : Prop := e = .returned (.tuple #[.string (SL r.2.1), err r.1]) /\ One w0 Z w' p r.2.2
def PutSpec : Prop := ∀ (w0 w : World) (Z : Nat -> Prop) (p : Nat) (S : St) (v : Value) (raw : Bs), One w0 Z w p S -> Good S -> S.done + S.cap + 10 <= 4000000000000000 -> BytesAt w Z v raw -> raw.length <= 140737488351232 -> Calls Tryz.prog 20 #[ptr p, v] w (PutsTo w0 Z p (putL S raw))
def DropSpec : Prop := ∀ (w0 w : World) (Z : Nat -> Prop) (p : Nat) (S : St) (id : Bs), One w0 Z w p S -> Good S -> S.done <= 4000000000000000 -> id.length <= 35184372088832 -> Calls Tryz.prog 14 #[ptr p, .string (SL id)] w (OneTo w0 Z p (dropL S id))
def IdsSpec : Prop := ∀ (w0 w : World) (Z : Nat -> Prop) (p : Nat) (S : St), One w0 Z w p S -> Good S -> Calls Tryz.prog 24 #[ptr p] w fun e w' => ∃ v, e = .returned v /\ TxtsOwn w.heap.size w' v (idsL S.fs) /\ Below w.heap.size w w'
structure LooseSpec : Prop where
 name : NameSpec
 get : GetSpec
 put : PutSpec
 drop : DropSpec
 ids : IdsSpec
end
section
open Go.RowKit
theorem info9 : (Tryz.prog.info? 9).map (fun i => (i.zero, i.size, i.bytes)) = some (some (.string ByteArray.empty), 1, 16) := by kernel_rfl
theorem run_append_text (w : World) (ty : TypeId) (base : Nat) (v : Value) (n : Nat) (xs : List Value) (hown : w.ownsRow base 9 1 v n xs) (ad : Addr) (c : Nat) (u : Value) (hc : ∀ j x, ([u] : List Value)[j]? = some x -> w.cell? (ad.add j) = some x) (h1c : u.oneCell' = true) (hb : n + 1 <= 8000000000000) (hbase : base <= w.heap.size) :
  ∃ v' w', (Builtin.append_ #[31, 31] ty #[v, .slice (some ad) 1 c]).run Tryz.prog w = .ok v' w' /\ w'.ownsRow base 9 1 v' (n + 1) (xs ++ [u]) /\ w.grownBy w' v.ownBlock := by
 obtain ⟨i0, hi, hz0, hz1, hz2⟩ := info_parts info9; obtain ⟨v', w', hrun, r1, r2, _⟩ := run_append_own_wide (P := Tryz.prog) w base 31 ty 9 i0 (.string ByteArray.empty) 1 16 Tryz.underlying31 hi hz0 hz1 hz2 rfl (by decide) v n xs hown ad 1 c [u] rfl hc (fun x hx => by simp at hx; subst hx; exact h1c) (by unfold maxLen; omega) (by omega) hbase
 exact ⟨v', w', hrun, r1, r2⟩
theorem wpList_append_text {ops : Array Oper} {rest : List Oper} {o : Oper} {a : Act} {w : World} {Q : Exit -> Act -> World -> Prop}
  (hgd : o.guard = none) (s x : Operand) (hop : o.op = Op.call { callee := Callee.builtin Builtin.append, args := #[s, x], argTypes := #[31, 31] })
  (base : Nat) (v : Value) (n : Nat) (xs : List Value) (hS : a.eval s = v) (hown : w.ownsRow base 9 1 v n xs) (ad : Addr) (c : Nat) (hX : a.eval x = .slice (some ad) 1 c) (u : Value) (hc : ∀ j x, ([u] : List Value)[j]? = some x -> w.cell? (ad.add j) = some x) (h1c : u.oneCell' = true) (hb : n + 1 <= 8000000000000) (hbase : base <= w.heap.size)
  (hK : ∀ v' w', Hid (w'.ownsRow base 9 1 v' (n + 1) (xs ++ [u])) -> Hid (w.grownBy w' v.ownBlock) -> wpList Tryz.prog ops Q rest (a.put o.dst v') w') : wpList Tryz.prog ops Q (o :: rest) a w := by
 refine wpList_plain hgd fun K hK' => ?_
 obtain ⟨v', w', hrun, r1, r2⟩ := run_append_text w o.type base v n xs hown ad c u hc h1c hb hbase; unfold Oper.wp; simp [execOp, hop, resolve, invoke, builtin, hS, hX, hrun, Result.andThen]; exact hK' _ _ (hK v' w' r1 r2)
section
variable {w : World} {q : Nat} {G : Nat -> Prop} {ao : Option Addr} {cap : Nat} {P : List (Bs × Value)} {g off : Nat} {L : Files}
theorem refNames_any (h : ListAt w q G ao cap P g off L) (hL : L.length <= 4000000000000) :
  Calls Tryz.prog 40 #[ptr q] w fun e w' => ∃ v, e = .returned v /\ w'.ownsRow w.heap.size 9 1 v L.length (L.map fun f => .string (SL f.1)) /\ Below w.heap.size w w' := by
 have hcell := h.cell; obtain ⟨N, hN⟩ := nm_ (L.length); obtain ⟨B, hB⟩ := nm_ (w.heap.size); rw [<- hN] at hL hcell |-; rw [<- hB]; have hqB : q < B := by rw [hB]; exact World.block_lt_of_cell? w _ hcell
 have hwB : B <= w.heap.size := by omega
 have HN := h_ hN; have HB := h_ hB; have HH := h_ h; clear hN hB h; go_enter Tryz.func40, Tryz.ntmps40; go_wp2; go_loopw [3, 4] (fun x i W => ∃ (v : Value) (k : Nat), v = x /\ i = .int .i64 (k : Int) /\ k <= N /\ W.ownsRow B 9 1 v k ((L.take k).map fun f => .string (SL f.1)) /\ Below B w W) (fun _ i _ => N - (intOf i).toNat)
 case atStart => exact ⟨.slice none 0 0, 0, rfl, rfl, Nat.zero_le _, World.ownsRow_nil _ _ _ _, Below.refl _ _⟩
 case round =>
  obtain ⟨v, k, rfl, rfl, hk, hown, hW⟩ := hrel; have d0 : wr.cell? ⟨q, 1, none⟩ = some (.slice ao N cap) := (hW.cell (p := ⟨q, 1, none⟩) hqB).trans hcell
  by_cases hlt : k < N
  ·have hk2 : k < L.length := by rw [<- HN.out]; exact hlt
   obtain ⟨⟨n, b⟩, hf⟩ : ∃ f, L[k]? = some f := ⟨_, List.getElem?_eq_getElem hk2⟩
   obtain ⟨e1, c1, _⟩ := HH.out.name hf; subst e1; have hgl : g < B := by rw [HB.out]; exact World.block_lt_of_cell? w _ c1
   have d1 := (hW.cell (p := ⟨g, off + k * 2, none⟩) hgl).trans c1
   have i0 : (0 : Int) <= (k : Int) := by omega
   have i1 : (k : Int) < (N : Int) := by omega
   have hz := hW.size; have htake : (L.take (k + 1)).map (fun f => Value.string (SL f.1)) = (L.take k).map (fun f => Value.string (SL f.1)) ++ [.string (SL n)] := by rw [List.take_add_one, hf, List.map_append]; rfl
   have HT := h_ htake; have HO := h_ hown; clear htake c1 hf hown; go_wp2_with (at_builtin; refine wpList_append_text rfl _ _ rfl B v k _ rfl (HO.out.alloc _) ⟨_, 0, none⟩ 1 rfl (.string (SL n)) (cells_new wr _ _) rfl (by omega) (by simp; omega) ?_; intro v4 w4 hown4 hg4; have HB4 := h_ (((Below.refl B wr).alloc (by omega) (Obj.cells #[.string (SL n)] 9)).trans (below_appends (HO.out.alloc _) hg4.out (by simp; omega))); clear hg4)
   have ho4 := hown4.out; rw [<- HT.out] at ho4; have HO4 := h_ ho4; have hWn := hW.trans HB4.out; clear hown4 ho4 HB4; go_roundw
   case rel => exact ⟨v4, k + 1, rfl, by go_num, by omega, HO4.out, hWn⟩
   case measure => simp [intOf]; omega
  ·obtain rfl : k = N := by omega
   rw [List.take_of_length_le (by rw [<- HN.out]; exact Nat.le_refl _)] at hown
   have HO := h_ hown; have i1 : ¬ ((k : Int) < (k : Int)) := by omega
   clear hown; go_wp2; go_ret; exact ⟨_, rfl, HO.out, hW⟩
end
end
section
open Go.RowKit
def ROne (w0 : World) (Z : Nat -> Prop) (w : World) (q : Nat) (S : St) : Prop := ∃ F, RefAt w F q S /\ (∀ k, F k -> ¬ Z k /\ k < w.heap.size) /\ Turn (fun k => ¬ Z k) w0 w /\ ∀ k, Z k -> k < w0.heap.size
def ROneTo (w0 : World) (Z : Nat -> Prop) (q : Nat) (r : Int × St) (e : Ending) (w' : World) : Prop := e = .returned (err r.1) /\ ROne w0 Z w' q r.2
section
variable {w0 w w' : World} {q : Nat} {Z F : Nat -> Prop} {S S' T : St}
theorem rone_acts (hF : ∀ k, F k -> ¬ Z k /\ k < w.heap.size) (hb : Turn (fun k => ¬ Z k) w0 w) (hs : ∀ k, Z k -> k < w0.heap.size) (hd : RefAt w' (grow F w w') q S') (ht : Turn F w w') : ROne w0 Z w' q S' := by
 have h1 := ht.size; have h2 := hb.size; refine ⟨_, hd, fun k hk => ?_, hb.then ht (fun k _ hk => (hF k hk).1), hs⟩
 rcases hk with hk | hk
 ·have := hF k hk; exact ⟨this.1, by omega⟩
 ·exact ⟨fun hz => by have := hs k hz; omega, hk.2⟩
theorem ROne.below (h : ROne w0 Z w q S) (hb : Below w.heap.size w w') : ROne w0 Z w' q S := by
 obtain ⟨F, h1, h2, h3, h4⟩ := h; exact ⟨F, h1.turn (Turn.of_below (fun _ => False) hb) (fun _ _ h => h), fun k hk => ⟨(h2 k hk).1, by have := (h2 k hk).2; have := hb.size; omega⟩, h3.trans (Turn.of_below _ hb), h4⟩
theorem ROne.drewN (h : ROne w0 Z w q S) (m : Nat) : ROne w0 Z (w.drewN m) q S := h.below (below_drewN (Below.refl _ _) m)
theorem ROne.turned (h : ROne w0 Z w q S) : Turn (fun k => ¬ Z k) w0 w := by
 obtain ⟨_, _, _, h, _⟩ := h; exact h
theorem ROne.bytes (h : ROne w0 Z w q S) (h' : ROne w0 Z w' q T) {v : Value} {b : Bs} (hv : BytesAt w Z v b) : BytesAt w' Z v b := by
 obtain ⟨ao, cap, B, off, rfl, hs, hB⟩ := hv; have t' := h'.turned; obtain ⟨_, _, _, t, ho⟩ := h; refine ⟨ao, cap, B, off, rfl, ⟨hs.le, hs.top, hs.src, hs.bare, fun p => Nat.lt_of_lt_of_le (ho B (hB p)) t'.size, fun j hj => ?_⟩, hB⟩
 have hz := hB (by omega)
 have h1 := t.block B (ho B hz) (fun h => h hz)
 have h2 := t'.block B (ho B hz) (fun h => h hz)
 rw [World.cell?_of_block (w := w) (w' := w') (a := ⟨B, off + j, none⟩) (h2.trans h1.symm)]
 exact hs.cell j hj
theorem ROne.snap {w1 : World} (h : ROne w0 Z w q S) (hb : Below w.heap.size w w1) : ROne w1 (fun k => Z k \/ (w.heap.size <= k /\ k < w1.heap.size)) w1 q S := by
 have h5 := h.turned.size; obtain ⟨F, h1, h2, h3, h4⟩ := h; have hs := hb.size; refine ⟨F, h1.turn (Turn.of_below (fun _ => False) hb) (fun _ _ h => h), fun k hk => ⟨fun hz => ?_, by have := (h2 k hk).2; omega⟩, Turn.refl _ _, fun k hk => ?_⟩
 ·rcases hz with hz | hz
  ·exact (h2 k hk).1 hz
  ·have := (h2 k hk).2; omega
 ·rcases hk with hk | hk
  ·have := h4 k hk; omega
  ·exact hk.2
theorem ROne.back {w1 w2 w3 : World} {Y : Nat -> Prop} (h : ROne w0 Z w1 q S) (hb : Below w1.heap.size w1 w2) (h' : ROne w2 (fun k => Z k \/ Y k) w3 q T) : ROne w0 Z w3 q T := by
 have t := h.turned; obtain ⟨_, _, _, _, ho⟩ := h; obtain ⟨F, h1, h2, h3, h4⟩ := h'; exact ⟨F, h1, fun k hk => ⟨fun hz => (h2 k hk).1 (.inl hz), (h2 k hk).2⟩, (t.trans (Turn.of_below _ hb)).then h3 (fun k _ hk hz => hk (.inl hz)), ho⟩
theorem ROne.remove (h : ROne w0 Z w q S) (hg : Good S) (hb : S.done <= 4000000000000000) (n : Bs) (hn : n.length <= 9223372036854775807) : Calls Tryz.prog 53 #[ptr q, .string (SL n)] w (ROneTo w0 Z q (removeS S n)) := by
 obtain ⟨F, h1, h2, h3, h4⟩ := h; refine (rRemove h1 (fun k hk => (h2 k hk).2) hg hb n hn).mono ?_
 rintro e w' ⟨he, hd, ht⟩; exact ⟨he, rone_acts h2 h3 h4 hd ht⟩
theorem ROne.rename (h : ROne w0 Z w q S) (hg : Good S) (hb : S.done <= 4000000000000000) (f t : Bs) (hf : f.length <= 9223372036854775807) (ht : t.length <= 9223372036854775807) : Calls Tryz.prog 110 #[ptr q, .string (SL f), .string (SL t)] w (ROneTo w0 Z q (renameS S f t)) := by
 obtain ⟨F, h1, h2, h3, h4⟩ := h; refine (rRename h1 (fun k hk => (h2 k hk).2) hg hb f t hf ht).mono ?_
 rintro e w' ⟨he, hd, ht⟩; exact ⟨he, rone_acts h2 h3 h4 hd ht⟩
theorem ROne.sync (h : ROne w0 Z w q S) (hg : Good S) (hb : S.done <= 4000000000000000) (n : Bs) (hn : n.length <= 9223372036854775807) : Calls Tryz.prog 109 #[ptr q, .string (SL n)] w (ROneTo w0 Z q (syncS S n)) := by
 obtain ⟨F, h1, h2, h3, h4⟩ := h; refine (rSync h1 hg hb n hn).mono ?_; rintro e w' ⟨he, hd, ht⟩; exact ⟨he, rone_acts h2 h3 h4 hd ht⟩
theorem ROne.append (h : ROne w0 Z w q S) (hg : Good S) (hb : S.done <= 4000000000000000) (n : Bs) (hn : n.length <= 9223372036854775807) (v : Value) (b : Bs) (hv : BytesAt w Z v b) : Calls Tryz.prog 108 #[ptr q, .string (SL n), v] w (ROneTo w0 Z q (appendS S n b)) := by
 obtain ⟨F, h1, h2, h3, h4⟩ := h; obtain ⟨ao, cap, B, off, rfl, hs, hB⟩ := hv; refine (rAppend h1 (fun k hk => (h2 k hk).2) hg hb n hn ao cap b B off hs (fun hp hF => (h2 B hF).1 (hB hp))).mono ?_
 rintro e w' ⟨he, hd, ht⟩; exact ⟨he, rone_acts h2 h3 h4 hd ht⟩
theorem ROne.has (h : ROne w0 Z w q S) (hg : Good S) (n : Bs) : Calls Tryz.prog 52 #[ptr q, .string (SL n)] w fun e w' => e = .returned (.bool (thereF n S.fs)) /\ ∃ m, w' = w.drewN m := by
 obtain ⟨F, h, _⟩ := h; exact rHas h hg n
theorem ROne.free (h : ROne w0 Z w q S) (hg : Good S) : Calls Tryz.prog 80 #[ptr q] w fun e w' => e = .returned (.int .i64 (wrap64 S.free)) /\ ∃ m, w' = w.drewN m := by
 obtain ⟨F, h, _⟩ := h; exact rFree h (by have := hg.many; omega) hg.top
theorem ROne.names (h : ROne w0 Z w q S) (hg : Good S) : Calls Tryz.prog 40 #[ptr q] w fun e w' => ∃ v, e = .returned v /\ w'.ownsRow w.heap.size 9 1 v S.fs.length (S.fs.map fun f => .string (SL f.1)) /\ Below w.heap.size w w' := by
 obtain ⟨F, h, _⟩ := h; obtain ⟨ao, cap, P, g, off, h⟩ := h.opened; exact refNames_any (⟨cell_of_row _ _ _ _ _ _ h.head, h.raw, h.has⟩) (by have := hg.many; omega)
theorem ROne.dark (h : ROne w0 Z w q S) : w.cell? ⟨q, 4, none⟩ = some (.bool S.dark) := by
 obtain ⟨F, ⟨lv, h, _⟩, _⟩ := h; exact cell_of_row _ _ _ _ _ _ h
theorem ROne.done (h : ROne w0 Z w q S) : w.cell? ⟨q, 2, none⟩ = some (.int .i64 (S.done : Int)) := by
 obtain ⟨F, ⟨lv, h, _⟩, _⟩ := h; exact cell_of_row _ _ _ _ _ _ h
end
section
variable {w0 w w' : World} {base p q : Nat} {Fd Fr : Nat -> Prop} {S T S' : St}
def beside (base : Nat) (F : Nat -> Prop) : Nat -> Prop := fun k => k < base \/ F k
end
end
section
open Go.RowKit
theorem chunks_step (r : Bs) : chunksL r = r.take 64 :: (if r.drop 64 = [] then [] else chunksL (r.drop 64)) := by
 by_cases h : 64 < r.length
 ·rw [chunks_long h, if_neg (fun e => by have := congrArg List.length e; rw [List.length_drop, List.length_nil] at this; omega)]
 ·rw [chunks_short (by omega), if_pos (List.drop_of_length_le (by omega)), List.take_of_length_le (by omega)]
theorem append_there {S : St} {n c : Bs} (h : (appendS S n c).1 = 0) : thereF n (appendS S n c).2.fs = true := by
 unfold appendS at h |-
 split at h
 ·omega
 ·rename_i h1
  rw [if_neg h1]; split at h
  ·rename_i h2; exact absurd h h2
  ·rename_i h2
   rw [if_neg h2]; split at h
   ·omega
   ·rename_i h3
    rw [if_neg h3]; unfold writeS at h |-
    split at h
    ·omega
    ·rename_i h4
     rw [if_neg h4]; unfold thereF; show (findF n (putF n _ S.fs)).isSome = true
     rw [findF_put_same]; rfl
def restL (n : Bs) (U : St) (r : Bs) : List Bs := if thereF n U.fs = true /\ r = [] then [] else chunksL r
theorem rest_step {n : Bs} {U : St} {r : Bs} (h : ¬ (thereF n U.fs = true /\ r = [])) : (appendsS n U (restL n U r)) = if (appendS U n (r.take 64)).1 ≠ 0 then appendS U n (r.take 64) else appendsS n (appendS U n (r.take 64)).2 (restL n (appendS U n (r.take 64)).2 (r.drop 64)) := by
 unfold restL; rw [if_neg h, chunks_step]; have e : ∀ (c : Bs) (L : List Bs), appendsS n U (c :: L) = if (appendS U n c).1 ≠ 0 then appendS U n c else appendsS n (appendS U n c).2 L := fun _ _ => rfl
 rw [e]; split
 ·rfl
 ·rename_i h1
  have h2 : (appendS U n (r.take 64)).1 = 0 := Classical.not_not.1 h1
  rw [append_there h2]; simp only [true_and]
theorem save_parts {S : St} {n b : Bs} (hg : Good S) (hn : named (shadowN n) = true) (hne : n ≠ []) (hk : marked n = false) (hd : S.dark = false) :
  (thereF (shadowN n) S.fs = false /\ saveS S n b = saveT n b S) \/ (thereF (shadowN n) S.fs = true /\ (removeS S (shadowN n)).1 ≠ 0 /\ saveS S n b = removeS S (shadowN n)) \/
  (thereF (shadowN n) S.fs = true /\ (removeS S (shadowN n)).1 = 0 /\ thereF (shadowN n) (removeS S (shadowN n)).2.fs = false /\ saveS S n b = saveT n b (removeS S (shadowN n)).2) := by
 unfold saveS; rw [if_neg (by simp [hne, hk])]
 cases hf : findF (shadowN n) S.fs with
 | none =>
  have hr : removeS S (shadowN n) = (3, S) := by unfold removeS; rw [touch_no hn hd hf, if_pos (by decide)]
  rw [hr, if_neg (by simp)]
  exact .inl ⟨by simp [thereF, hf], rfl⟩
 | some o =>
  have ht := touch_is hn hd hf; have hth : thereF (shadowN n) S.fs = true := by simp [thereF, hf]
  by_cases h0 : S.left = 0
  ·have hr : removeS S (shadowN n) = (5, cutNow S) := by unfold removeS writeS; rw [if_neg (by simp [ht]), if_pos h0]
   rw [hr, if_pos (by simp)]
   exact .inr (.inl ⟨hth, (by simp), rfl⟩)
  ·have hr : removeS S (shadowN n) = (0, { tick S with fs := delF (shadowN n) S.fs }) := by unfold removeS writeS; rw [if_neg (by simp [ht]), if_neg h0]
   rw [hr, if_neg (by simp)]
   refine .inr (.inr ⟨hth, rfl, ?_, rfl⟩); show (findF (shadowN n) (delF (shadowN n) S.fs)).isSome = false
   rw [findF_del_same hg.rise]; rfl
theorem append_tick {S : St} {n c : Bs} (h : (appendS S n c).1 = 0) : (appendS S n c).2.done = S.done + 1 := by
 unfold appendS at h |-
 split at h
 ·omega
 ·rename_i h1
  rw [if_neg h1]; split at h
  ·rename_i h2; exact absurd h h2
  ·rename_i h2
   rw [if_neg h2]; split at h
   ·omega
   ·rename_i h3
    rw [if_neg h3]; unfold writeS at h |-
    split at h
    ·omega
    ·rename_i h4
     rw [if_neg h4]; rfl
theorem rest_length {n : Bs} {U U' : St} {r : Bs} (h : ¬ (thereF n U.fs = true /\ r = [])) (h' : thereF n U'.fs = true) : (restL n U r).length = (restL n U' (r.drop 64)).length + 1 := by
 unfold restL; rw [if_neg h, chunks_step, h']; simp only [true_and, List.length_cons]
def doneAt (q : Nat) (W : World) : Nat := match W.cell? ⟨q, 2, none⟩ with | some (.int _ d) => d.toNat | _ => 0
theorem ROne.doneAt {w0 w : World} {Z : Nat -> Prop} {q : Nat} {S : St} (h : ROne w0 Z w q S) : doneAt q w = S.done := by
 unfold Go.Proofs.YtomgijcbekjlaaaGreat.doneAt; rw [h.done]; simp
section
variable {w0 w : World} {Z : Nat -> Prop} {q : Nat} {S : St}
theorem refSave_any (h : ROne w0 Z w q S) (hg : Good S) (hb : S.done + S.cap + 10 <= 4000000000000000) (n b : Bs) (hn : n.length <= 281474976710656) (v : Value) (hv : BytesAt w Z v b) (hbl : b.length <= 281474976710656) :
  Calls Tryz.prog 56 #[ptr q, .string (SL n), v] w (ROneTo w0 Z q (saveS S n b)) := by
 have hs : (SL n).size = n.length := SL_size n
 have h1s : (⟨#[126]⟩ : ByteArray).size = 1 := rfl
 have hcat := SL_shadow n; have hnl : (shadowN n).length <= 281474976710657 := by rw [shadow_length]; omega
 have hnm := refNamed_any (shadowN n) w (by omega)
 have hsh := refShadow_any n (by omega) w
 obtain ⟨ao, cap, B, off, rfl, hsr, hB⟩ := hv; have hv : BytesAt w Z (.slice ao b.length cap) b := ⟨ao, cap, B, off, rfl, hsr, hB⟩; obtain ⟨K, hK⟩ := nm_ (b.length); rw [<- hK] at hv |-; clear hB
 cases hN : named (shadowN n) with
 | false =>
  have e : saveS S n b = (1, S) := save_bad (.inl hN)
  rw [e]; rw [hN] at hnm; have HS : ROneTo w0 Z q (1, S) (.returned (err 1)) w := ⟨rfl, h⟩; clear e hN hsh hsr hv; go_enter Tryz.func56, Tryz.ntmps56; go_wp2_with (go_at_call 78; refine hnm.mono ?_; rintro e w' ⟨rfl, rfl⟩)
  go_ret; exact HS
 | true =>
  rw [hN] at hnm
  cases hm : marked n with
  | true =>
   have e : saveS S n b = (1, S) := save_bad (.inr (.inr hm))
   rw [e]; rw [hm] at hsh; have HS : ROneTo w0 Z q (1, S) (.returned (err 1)) w := ⟨rfl, h⟩; clear e hm hN hsr hv; go_enter Tryz.func56, Tryz.ntmps56; go_wp2_with (first | (go_at_call 78; refine hnm.mono ?_; rintro e w' ⟨rfl, rfl⟩) | (go_at_call 106; refine hsh.mono ?_; rintro e w' ⟨rfl, rfl⟩))
   go_ret; exact HS
  | false =>
   rw [hm] at hsh; by_cases hn0 : n = []
   ·subst hn0
    have e : saveS S [] b = (1, S) := save_bad (.inr (.inl rfl))
    rw [e]; have HS : ROneTo w0 Z q (1, S) (.returned (err 1)) w := ⟨rfl, h⟩; have hz : (SL []).toList.isEmpty = true := by rw [SL_toList]; rfl
    clear e hm hN hsr hv; go_enter Tryz.func56, Tryz.ntmps56; go_wp2_with (first | (go_at_call 78; refine hnm.mono ?_; rintro e w' ⟨rfl, rfl⟩) | (go_at_call 106; refine hsh.mono ?_; rintro e w' ⟨rfl, rfl⟩))
    go_ret; exact HS
   ·have hne2 : (SL n).toList ≠ [] := by rw [SL_toList]; exact hn0
    have hz : (SL n).toList.isEmpty = false := by
     rw [SL_toList]
     cases n with
     | nil => exact absurd rfl hn0
     | cons a r => rfl
    have hdk := h.dark
    cases hd : S.dark with
    | true =>
     have e : saveS S n b = (5, S) := save_dark hN hn0 hm hd
     rw [e]; rw [hd] at hdk; have HS : ROneTo w0 Z q (5, S) (.returned (err 5)) w := ⟨rfl, h⟩; clear e hm hN hsr hv hd; go_enter Tryz.func56, Tryz.ntmps56; go_wp2_with (first | (go_at_call 78; refine hnm.mono ?_; rintro e w' ⟨rfl, rfl⟩) | (go_at_call 106; refine hsh.mono ?_; rintro e w' ⟨rfl, rfl⟩))
     go_ret; exact HS
    | false =>
     rw [hd] at hdk; have hhas := h.has hg (shadowN n); have hparts := save_parts (b := b) hg hN hn0 hm hd
     obtain ⟨r, hr⟩ := nm_ (saveS S n b); rw [<- hr] at hparts |-; clear hr hN hm hd; have hrest : ∀ T, Good T -> T.done <= S.done + 1 -> T.cap = S.cap -> thereF (shadowN n) T.fs = false -> r = saveT n b T -> ((thereF (shadowN n) S.fs = false /\ T = S) \/ (thereF (shadowN n) S.fs = true /\ removeS S (shadowN n) = (0, T))) -> Calls Tryz.prog 56 #[ptr q, .string (SL n), .slice ao K cap] w (ROneTo w0 Z q r) := by
      intro T hgT hdT hcT hthT hr hcase
      have hneed := fun W => refNeed_any n (K : Int) W
      rw [needI_nat hn (by rw [hK]; exact hbl)] at hneed
      obtain ⟨x, hx⟩ := nm_ (T.free); obtain ⟨y, hy⟩ := nm_ (needS n K); rw [<- hy] at hneed; have hr4 : r = if x < y then (4, T) else if (layS (shadowN n) b T).1 ≠ 0 then layS (shadowN n) b T else renameS (layS (shadowN n) b T).2 (shadowN n) n := by rw [hr, hx, hy, hK]; rfl
      have HR4 := h_ hr4; have HX := h_ hx; have HY := h_ hy; have HK := h_ hK; have HNEED := h_ hneed; have HV := h_ (fun (w' : World) (S' : St) (h' : ROne w0 Z w' q S') => h.bytes h' hv)
      clear hr hr4 hx hy hneed hK hv hsr; rcases hcase with ⟨hth, hTS⟩ | ⟨hth, hrm⟩
      ·rw [hth] at hhas
       subst hTS; have HH := h_ h; clear h hth; go_enter Tryz.func56, Tryz.ntmps56; go_wp2_with (first | (go_at_call 78; refine hnm.mono ?_; rintro e w' ⟨rfl, rfl⟩) | (go_at_call 106; refine hsh.mono ?_; rintro e w' ⟨rfl, rfl⟩) | (go_at_call 52; refine hhas.mono ?_; rintro e w' ⟨rfl, m, rfl⟩; have H1 := h_ (HH.out.drewN m)) | (go_at_call 80; fail))
       clear HH hhas; refine (H1.out.free hgT).mono ?_; rintro e w4 ⟨rfl, m2, hw4⟩; have H2 : Hid (ROne w0 Z w4 q T) := h_ (by rw [hw4]; exact H1.out.drewN m2)
       rw [hgT.free_in.2.2, <- HX.out]; clear H1 hw4; by_cases hlt : x < y
       ·have hr5 : r = (4, T) := by rw [HR4.out, if_pos hlt]
        have HR5 := h_ hr5; clear hr5; go_wp2_with (go_at_call 107; refine (HNEED.out _).mono ?_; rintro e w' ⟨rfl, rfl⟩)
        go_ret; rw [HR5.out]; exact ⟨rfl, H2.out⟩
       ·have hr5 : r = if (layS (shadowN n) b T).1 ≠ 0 then layS (shadowN n) b T else renameS (layS (shadowN n) b T).2 (shadowN n) n := by rw [HR4.out, if_neg hlt]
        have HR5 := h_ hr5; have hfit : b.length <= T.cap := by
         have h1 := hgT.free_in; have h2 := HX.out; have h3 := HY.out; have h4 := HK.out; unfold St.free at h2; unfold needS at h3; omega
        have hcf := chunks_few b; obtain ⟨A, hA⟩ := nm_ (appendsS (shadowN n) T (chunksL b)); obtain ⟨M, hM⟩ := nm_ (T.done + (chunksL b).length); have hlay : layS (shadowN n) b T = if A.1 ≠ 0 then A else syncS A.2 (shadowN n) := by rw [hA]; rfl
        have hMb : M + 4 <= 4000000000000000 := by omega
        have HA := h_ hA; have HM := h_ hM; have HLAY := h_ hlay; clear hr5 hA hM hlay hfit hcf; go_wp2_with (go_at_call 107; refine (HNEED.out _).mono ?_; rintro e w' ⟨rfl, rfl⟩)
        go_loopw [9] (fun i W => ∃ (k : Nat) (U : St), i = .int .i64 (k : Int) /\ k <= K /\ ROne w0 Z W q U /\ Good U /\ U.done + (restL (shadowN n) U (b.drop k)).length = M /\ appendsS (shadowN n) U (restL (shadowN n) U (b.drop k)) = A) (fun _ W => M - doneAt q W)
        case atStart =>
         have e : restL (shadowN n) T b = chunksL b := by unfold restL; rw [hthT, if_neg (by simp)]
         exact ⟨0, T, rfl, Nat.zero_le _, H2.out, hgT, by rw [List.drop_zero, e]; exact HM.out.symm, by rw [List.drop_zero, e]; exact HA.out.symm⟩
        case round =>
         clear H2; obtain ⟨k, U, rfl, hk, hU, hGU, hD, hst⟩ := hrel; have i0 : (0 : Int) <= (k : Int) := by omega
         have hhasU := hU.has hGU (shadowN n); have hdl : (b.drop k).length = K - k := by rw [List.length_drop, HK.out]
         by_cases hend : thereF (shadowN n) U.fs = true /\ k = K
         ·obtain ⟨hth', rfl⟩ := hend
          rw [hth'] at hhasU; have e : restL (shadowN n) U (b.drop k) = [] := by
           unfold restL; rw [if_pos ⟨hth', List.eq_nil_of_length_eq_zero (by omega)⟩]
          rw [e] at hst hD; have hA2 : A = (0, U) := hst.symm
          have hsy := fun m => (hU.drewN m).sync hGU (by omega) (shadowN n) (by omega)
          have hgs := hGU.sync (shadowN n); have hds := sync_done U (shadowN n); have hD0 : U.done <= M := by simp at hD; omega
          have hr6 : r = if (syncS U (shadowN n)).1 ≠ 0 then syncS U (shadowN n) else renameS (syncS U (shadowN n)).2 (shadowN n) n := by
           rw [HR5.out, HLAY.out, hA2]; simp only [ne_eq, not_true_eq_false, if_false]
          obtain ⟨l, hl⟩ := nm_ (syncS U (shadowN n)); rw [<- hl] at hsy hgs hds hr6; obtain ⟨z, hzz⟩ := nm_ (l.1); rw [<- hzz] at hr6; have HS := h_ hsy; have HZ := h_ hzz; have HR6 := h_ hr6; have i1 : ¬ ((k : Int) < (k : Int)) := by omega
          clear hsy hzz hr6 hst hD hl e hA2 hU; by_cases hz0 : z = 0
          ·have hr7 : r = renameS l.2 (shadowN n) n := by rw [HR6.out, if_neg (by omega)]
           have HR7 := h_ hr7; clear hr7; go_wp2_with (first | (go_at_call 52; refine hhasU.mono ?_; rintro e w' ⟨rfl, m, rfl⟩) | (go_at_call 109; refine (HS.out m).mono ?_; rintro e w5 ⟨rfl, h5⟩; rw [<- HZ.out, hz0]; have H5 := h_ (h5.rename hgs (by omega) (shadowN n) n (by omega) (by omega)); clear h5) | (go_at_call 110; refine H5.out.mono ?_; rintro e w6 ⟨rfl, h6⟩; rw [<- HR7.out] at h6 |-))
           go_ret; exact ⟨rfl, h6⟩
          ·have hr7 : r = l := by rw [HR6.out, if_pos hz0]
           have HR7 := h_ hr7; clear hr7; go_wp2_with (first | (go_at_call 52; refine hhasU.mono ?_; rintro e w' ⟨rfl, m, rfl⟩) | (go_at_call 109; refine (HS.out m).mono ?_; rintro e w5 ⟨rfl, h5⟩; rw [<- HZ.out]))
           go_ret; rw [HR7.out]; exact ⟨by rw [HZ.out] <;> rfl, h5⟩
         ·have hne : ¬ (thereF (shadowN n) U.fs = true /\ b.drop k = []) := fun hx => hend ⟨hx.1, by have := congrArg List.length hx.2; rw [hdl, List.length_nil] at this; omega⟩
          have hstep := rest_step hne; rw [hst] at hstep; have hsl := (HV.out wr U hU); obtain ⟨C, hC⟩ := nm_ (min 64 (K - k)); have htake : (b.drop k).take 64 = (b.drop k).take C := by
           by_cases hx : 64 <= K - k
           ·have : C = 64 := by omega
            rw [this]
           ·rw [List.take_of_length_le (by omega), List.take_of_length_le (by omega)]
          have hdrop : (b.drop k).drop 64 = b.drop (k + C) := by
           rw [List.drop_drop]; by_cases hx : 64 <= K - k
           ·have : C = 64 := by omega
            rw [this]
           ·rw [List.drop_of_length_le (by have := HK.out; omega), List.drop_of_length_le (by have := HK.out; omega)]
          obtain ⟨ao2, cap2, B2, off2, e2, s2, z2⟩ := hsl; obtain ⟨rfl, -, rfl⟩ : ao = ao2 /\ K = b.length /\ cap = cap2 := by injection e2 with a1 a2 a3; exact ⟨a1, a2, a3⟩
          obtain ⟨ao3, q3, s3⟩ := s2.slice_lh k C (by have := HK.out; omega)
          rw [<- HK.out] at q3; obtain ⟨c, hc⟩ := nm_ ((b.drop k).take C); have hcl : c.length = C := by rw [hc, List.length_take, hdl]; omega
          have hrl := fun (U' : St) => rest_length (U' := U') hne
          rw [htake, <- hc, hdrop] at hstep; rw [hdrop] at hrl; have hKC : k + C <= K := by omega
          have hKb : K <= 281474976710656 := by rw [HK.out]; exact hbl
          have hdn : U.done <= M := by omega
          have hKcap : K <= cap := by have := s2.le; have := HK.out; omega
          have hgY := hGU.append (shadowN n) c; have htick := fun h => append_tick (S := U) (n := shadowN n) (c := c) h
          have hthr := fun h => append_there (S := U) (n := shadowN n) (c := c) h
          have hpc : SrcAt wr (if cap = k then ao else ao.map (·.add (k * 1))) (cap - k) c B2 (off2 + k) := by rw [hc]; exact s2.piece k C (by have := HK.out; omega)
          rw [Nat.mul_one] at hpc; have hvcU : ∀ AO, AO = (if cap = k then ao else ao.map (·.add k)) -> BytesAt wr Z (.slice AO C (cap - k)) c := fun AO hAO => ⟨AO, cap - k, B2, off2 + k, by rw [hcl], by rw [hAO]; exact hpc, fun hp => z2 (by have := HK.out; omega)⟩
          have hapU := fun AO hAO => hU.append hGU (by omega) (shadowN n) (by omega) _ c (hvcU AO hAO)
          have hapmU := fun AO hAO m => (hU.drewN m).append hGU (by omega) (shadowN n) (by omega) _ c (hU.bytes (hU.drewN m) (hvcU AO hAO))
          obtain ⟨Y, hYY⟩ := nm_ (appendS U (shadowN n) c); rw [<- hYY] at hapU hapmU hgY htick hthr hstep; obtain ⟨z, hzz⟩ := nm_ (Y.1); rw [<- hzz] at htick hthr hstep; have hdU := hU.doneAt; have HAPU := h_ hapU; have HAPMU := h_ hapmU; have HZ := h_ hzz; have HDU := h_ hdU; have hmin : min 64 ((K : Int) - (k : Int)) = (C : Int) := by omega
          have hE : (k : Int) + (C : Int) = ((k + C : Nat) : Int) := by omega
          have HE := h_ hE; have HKC := h_ hKC; have hrel : z = 0 -> Hid (Good Y.2 /\ Y.2.done + (restL (shadowN n) Y.2 (b.drop (k + C))).length = M /\ appendsS (shadowN n) Y.2 (restL (shadowN n) Y.2 (b.drop (k + C))) = A /\ M - Y.2.done < M - U.done) := fun hz0 => h_ (by
           have h1 := hrl Y.2 (hthr hz0); have h3 := htick hz0; exact ⟨hgY, by omega, by rw [hstep, if_neg (by simp [hz0])], by omega⟩)
          have hret : z ≠ 0 -> r = Y := fun hz0 => by
           have hAY : A = Y := by rw [hstep, if_pos hz0]
           have hl : layS (shadowN n) b T = Y := by rw [HLAY.out, hAY, if_pos (by rw [<- HZ.out]; exact hz0)]
           rw [HR5.out, hl, if_pos (by rw [<- HZ.out]; exact hz0)]
          have HREL := h_ hrel; have HRET := h_ hret; clear hrel hret hapU hapmU hvcU hpc hzz hdU hD hrl hE hYY s2 hc htake hdrop e2 hst hU hne z2 hcl hdl htick hthr hstep q3 s3 ao3 hgY hdn; clear hC; by_cases hkK : k < K
          ·have i1 : (k : Int) < (K : Int) := by omega
           have hck : ¬ cap = k := by omega
           have HAP := h_ (HAPU.out (ao.map (·.add k)) (by rw [if_neg hck]))
           have hkc : k < cap := by omega
           clear HAPU HAPMU hend hhasU; by_cases hz0 : z = 0
           ·have HX := HREL.out hz0
            have hKk : (k : Int) <= (K : Int) := by omega
            have hK0 : (K : Int) <= 281474976710656 := by omega
            have hCk : (k : Int) + (C : Int) <= (K : Int) := by omega
            go_wp2_with (go_at_call 108; refine HAP.out.mono ?_; rintro e w5 ⟨rfl, h5⟩; rw [<- HZ.out, hz0]; have H5 := h_ h5; clear h5)
            go_roundw
            case rel => exact ⟨k + C, Y.2, by rw [HE.out], HKC.out, H5.out, HX.out.1, HX.out.2.1, HX.out.2.2.1⟩
            case measure => rw [H5.out.doneAt, HDU.out]; exact HX.out.2.2.2
           ·have HX := h_ (HRET.out hz0)
            have hKk : (k : Int) <= (K : Int) := by omega
            have hK0 : (K : Int) <= 281474976710656 := by omega
            have hCk : (k : Int) + (C : Int) <= (K : Int) := by omega
            go_wp2_with (go_at_call 108; refine HAP.out.mono ?_; rintro e w5 ⟨rfl, h5⟩; rw [<- HZ.out]; have H5 := h_ h5; clear h5)
            go_ret; rw [HX.out]; exact ⟨by rw [HZ.out] <;> rfl, H5.out⟩
          ·obtain rfl : k = K := by omega
           have hth0 : thereF (shadowN n) U.fs = false := by
            cases hx : thereF (shadowN n) U.fs with
            | false => rfl
            | true => exact absurd ⟨hx, rfl⟩ hend
           rw [hth0] at hhasU; obtain rfl : C = 0 := by omega
           have i1 : ¬ (k : Int) < (k : Int) := by omega
           clear hend hth0 hmin; have hm0 : min (64 : Int) 0 = 0 := by decide
           have hck : cap = k \/ k < cap := by omega
           rcases hck with hck | hck
           ·have hap0 := HAPMU.out ao (by rw [if_pos hck])
            subst hck; simp only [Nat.sub_self] at hap0; have HAP := h_ hap0; clear HAPU HAPMU hap0; by_cases hz0 : z = 0
            ·have HX := HREL.out hz0
             go_wp2_with (first | (go_at_call 52; refine hhasU.mono ?_; rintro e w' ⟨rfl, m, rfl⟩) | (go_at_call 108; refine (HAP.out m).mono ?_; rintro e w5 ⟨rfl, h5⟩; rw [<- HZ.out, hz0]; have H5 := h_ h5; clear h5))
             go_roundw
             case rel => exact ⟨_, Y.2, (by first | rw [HE.out] | simp), HKC.out, H5.out, HX.out.1, HX.out.2.1, HX.out.2.2.1⟩
             case measure => rw [H5.out.doneAt, HDU.out]; exact HX.out.2.2.2
            ·have HX := h_ (HRET.out hz0)
             go_wp2_with (first | (go_at_call 52; refine hhasU.mono ?_; rintro e w' ⟨rfl, m, rfl⟩) | (go_at_call 108; refine (HAP.out m).mono ?_; rintro e w5 ⟨rfl, h5⟩; rw [<- HZ.out]; have H5 := h_ h5; clear h5))
             go_ret; rw [HX.out]; exact ⟨by rw [HZ.out] <;> rfl, H5.out⟩
           ·have HAP := h_ (HAPMU.out (ao.map (·.add k)) (by rw [if_neg (by omega)]))
            clear HAPU HAPMU; by_cases hz0 : z = 0
            ·have HX := HREL.out hz0
             go_wp2_with (first | (go_at_call 52; refine hhasU.mono ?_; rintro e w' ⟨rfl, m, rfl⟩) | (go_at_call 108; refine (HAP.out m).mono ?_; rintro e w5 ⟨rfl, h5⟩; rw [<- HZ.out, hz0]; have H5 := h_ h5; clear h5))
             go_roundw
             case rel => exact ⟨_, Y.2, (by first | rw [HE.out] | simp), HKC.out, H5.out, HX.out.1, HX.out.2.1, HX.out.2.2.1⟩
             case measure => rw [H5.out.doneAt, HDU.out]; exact HX.out.2.2.2
            ·have HX := h_ (HRET.out hz0)
             go_wp2_with (first | (go_at_call 52; refine hhasU.mono ?_; rintro e w' ⟨rfl, m, rfl⟩) | (go_at_call 108; refine (HAP.out m).mono ?_; rintro e w5 ⟨rfl, h5⟩; rw [<- HZ.out]; have H5 := h_ h5; clear h5))
             go_ret; rw [HX.out]; exact ⟨by rw [HZ.out] <;> rfl, H5.out⟩
      ·rw [hth] at hhas
       have hrem := fun m => (h.drewN m).remove hg (by omega) (shadowN n) (by omega)
       rw [hrm] at hrem; have HREM := h_ hrem; clear h hth hrem hrm; go_enter Tryz.func56, Tryz.ntmps56; go_wp2_with (first | (go_at_call 78; refine hnm.mono ?_; rintro e w' ⟨rfl, rfl⟩) | (go_at_call 106; refine hsh.mono ?_; rintro e w' ⟨rfl, rfl⟩) | (go_at_call 52; refine hhas.mono ?_; rintro e w' ⟨rfl, m, rfl⟩) | (go_at_call 53; refine (HREM.out m).mono ?_; rintro e w3 ⟨rfl, h3⟩; have H1 := h_ h3; clear h3) | (go_at_call 80; fail))
       clear HREM hhas; refine (H1.out.free hgT).mono ?_; rintro e w4 ⟨rfl, m2, hw4⟩; have H2 : Hid (ROne w0 Z w4 q T) := h_ (by rw [hw4]; exact H1.out.drewN m2)
       rw [hgT.free_in.2.2, <- HX.out]; clear H1 hw4; by_cases hlt : x < y
       ·have hr5 : r = (4, T) := by rw [HR4.out, if_pos hlt]
        have HR5 := h_ hr5; clear hr5; go_wp2_with (go_at_call 107; refine (HNEED.out _).mono ?_; rintro e w' ⟨rfl, rfl⟩)
        go_ret; rw [HR5.out]; exact ⟨rfl, H2.out⟩
       ·have hr5 : r = if (layS (shadowN n) b T).1 ≠ 0 then layS (shadowN n) b T else renameS (layS (shadowN n) b T).2 (shadowN n) n := by rw [HR4.out, if_neg hlt]
        have HR5 := h_ hr5; have hfit : b.length <= T.cap := by
         have h1 := hgT.free_in; have h2 := HX.out; have h3 := HY.out; have h4 := HK.out; unfold St.free at h2; unfold needS at h3; omega
        have hcf := chunks_few b; obtain ⟨A, hA⟩ := nm_ (appendsS (shadowN n) T (chunksL b)); obtain ⟨M, hM⟩ := nm_ (T.done + (chunksL b).length); have hlay : layS (shadowN n) b T = if A.1 ≠ 0 then A else syncS A.2 (shadowN n) := by rw [hA]; rfl
        have hMb : M + 4 <= 4000000000000000 := by omega
        have HA := h_ hA; have HM := h_ hM; have HLAY := h_ hlay; clear hr5 hA hM hlay hfit hcf; go_wp2_with (go_at_call 107; refine (HNEED.out _).mono ?_; rintro e w' ⟨rfl, rfl⟩)
        go_loopw [9] (fun i W => ∃ (k : Nat) (U : St), i = .int .i64 (k : Int) /\ k <= K /\ ROne w0 Z W q U /\ Good U /\ U.done + (restL (shadowN n) U (b.drop k)).length = M /\ appendsS (shadowN n) U (restL (shadowN n) U (b.drop k)) = A) (fun _ W => M - doneAt q W)
        case atStart =>
         have e : restL (shadowN n) T b = chunksL b := by unfold restL; rw [hthT, if_neg (by simp)]
         exact ⟨0, T, rfl, Nat.zero_le _, H2.out, hgT, by rw [List.drop_zero, e]; exact HM.out.symm, by rw [List.drop_zero, e]; exact HA.out.symm⟩
        case round =>
         clear H2; obtain ⟨k, U, rfl, hk, hU, hGU, hD, hst⟩ := hrel; have i0 : (0 : Int) <= (k : Int) := by omega
         have hhasU := hU.has hGU (shadowN n); have hdl : (b.drop k).length = K - k := by rw [List.length_drop, HK.out]
         by_cases hend : thereF (shadowN n) U.fs = true /\ k = K
         ·obtain ⟨hth', rfl⟩ := hend
          rw [hth'] at hhasU; have e : restL (shadowN n) U (b.drop k) = [] := by
           unfold restL; rw [if_pos ⟨hth', List.eq_nil_of_length_eq_zero (by omega)⟩]
          rw [e] at hst hD; have hA2 : A = (0, U) := hst.symm
          have hsy := fun m => (hU.drewN m).sync hGU (by omega) (shadowN n) (by omega)
          have hgs := hGU.sync (shadowN n); have hds := sync_done U (shadowN n); have hD0 : U.done <= M := by simp at hD; omega
          have hr6 : r = if (syncS U (shadowN n)).1 ≠ 0 then syncS U (shadowN n) else renameS (syncS U (shadowN n)).2 (shadowN n) n := by
           rw [HR5.out, HLAY.out, hA2]; simp only [ne_eq, not_true_eq_false, if_false]
          obtain ⟨l, hl⟩ := nm_ (syncS U (shadowN n)); rw [<- hl] at hsy hgs hds hr6; obtain ⟨z, hzz⟩ := nm_ (l.1); rw [<- hzz] at hr6; have HS := h_ hsy; have HZ := h_ hzz; have HR6 := h_ hr6; have i1 : ¬ ((k : Int) < (k : Int)) := by omega
          clear hsy hzz hr6 hst hD hl e hA2 hU; by_cases hz0 : z = 0
          ·have hr7 : r = renameS l.2 (shadowN n) n := by rw [HR6.out, if_neg (by omega)]
           have HR7 := h_ hr7; clear hr7; go_wp2_with (first | (go_at_call 52; refine hhasU.mono ?_; rintro e w' ⟨rfl, m, rfl⟩) | (go_at_call 109; refine (HS.out m).mono ?_; rintro e w5 ⟨rfl, h5⟩; rw [<- HZ.out, hz0]; have H5 := h_ (h5.rename hgs (by omega) (shadowN n) n (by omega) (by omega)); clear h5) | (go_at_call 110; refine H5.out.mono ?_; rintro e w6 ⟨rfl, h6⟩; rw [<- HR7.out] at h6 |-))
           go_ret; exact ⟨rfl, h6⟩
          ·have hr7 : r = l := by rw [HR6.out, if_pos hz0]
           have HR7 := h_ hr7; clear hr7; go_wp2_with (first | (go_at_call 52; refine hhasU.mono ?_; rintro e w' ⟨rfl, m, rfl⟩) | (go_at_call 109; refine (HS.out m).mono ?_; rintro e w5 ⟨rfl, h5⟩; rw [<- HZ.out]))
           go_ret; rw [HR7.out]; exact ⟨by rw [HZ.out] <;> rfl, h5⟩
         ·have hne : ¬ (thereF (shadowN n) U.fs = true /\ b.drop k = []) := fun hx => hend ⟨hx.1, by have := congrArg List.length hx.2; rw [hdl, List.length_nil] at this; omega⟩
          have hstep := rest_step hne; rw [hst] at hstep; have hsl := (HV.out wr U hU); obtain ⟨C, hC⟩ := nm_ (min 64 (K - k)); have htake : (b.drop k).take 64 = (b.drop k).take C := by
           by_cases hx : 64 <= K - k
           ·have : C = 64 := by omega
            rw [this]
           ·rw [List.take_of_length_le (by omega), List.take_of_length_le (by omega)]
          have hdrop : (b.drop k).drop 64 = b.drop (k + C) := by
           rw [List.drop_drop]; by_cases hx : 64 <= K - k
           ·have : C = 64 := by omega
            rw [this]
           ·rw [List.drop_of_length_le (by have := HK.out; omega), List.drop_of_length_le (by have := HK.out; omega)]
          obtain ⟨ao2, cap2, B2, off2, e2, s2, z2⟩ := hsl; obtain ⟨rfl, -, rfl⟩ : ao = ao2 /\ K = b.length /\ cap = cap2 := by injection e2 with a1 a2 a3; exact ⟨a1, a2, a3⟩
          obtain ⟨ao3, q3, s3⟩ := s2.slice_lh k C (by have := HK.out; omega)
          rw [<- HK.out] at q3; obtain ⟨c, hc⟩ := nm_ ((b.drop k).take C); have hcl : c.length = C := by rw [hc, List.length_take, hdl]; omega
          have hrl := fun (U' : St) => rest_length (U' := U') hne
          rw [htake, <- hc, hdrop] at hstep; rw [hdrop] at hrl; have hKC : k + C <= K := by omega
          have hKb : K <= 281474976710656 := by rw [HK.out]; exact hbl
          have hdn : U.done <= M := by omega
          have hKcap : K <= cap := by have := s2.le; have := HK.out; omega
          have hgY := hGU.append (shadowN n) c; have htick := fun h => append_tick (S := U) (n := shadowN n) (c := c) h
          have hthr := fun h => append_there (S := U) (n := shadowN n) (c := c) h
          have hpc : SrcAt wr (if cap = k then ao else ao.map (·.add (k * 1))) (cap - k) c B2 (off2 + k) := by rw [hc]; exact s2.piece k C (by have := HK.out; omega)
          rw [Nat.mul_one] at hpc; have hvcU : ∀ AO, AO = (if cap = k then ao else ao.map (·.add k)) -> BytesAt wr Z (.slice AO C (cap - k)) c := fun AO hAO => ⟨AO, cap - k, B2, off2 + k, by rw [hcl], by rw [hAO]; exact hpc, fun hp => z2 (by have := HK.out; omega)⟩
          have hapU := fun AO hAO => hU.append hGU (by omega) (shadowN n) (by omega) _ c (hvcU AO hAO)
          have hapmU := fun AO hAO m => (hU.drewN m).append hGU (by omega) (shadowN n) (by omega) _ c (hU.bytes (hU.drewN m) (hvcU AO hAO))
          obtain ⟨Y, hYY⟩ := nm_ (appendS U (shadowN n) c); rw [<- hYY] at hapU hapmU hgY htick hthr hstep; obtain ⟨z, hzz⟩ := nm_ (Y.1); rw [<- hzz] at htick hthr hstep; have hdU := hU.doneAt; have HAPU := h_ hapU; have HAPMU := h_ hapmU; have HZ := h_ hzz; have HDU := h_ hdU; have hmin : min 64 ((K : Int) - (k : Int)) = (C : Int) := by omega
          have hE : (k : Int) + (C : Int) = ((k + C : Nat) : Int) := by omega
          have HE := h_ hE; have HKC := h_ hKC; have hrel : z = 0 -> Hid (Good Y.2 /\ Y.2.done + (restL (shadowN n) Y.2 (b.drop (k + C))).length = M /\ appendsS (shadowN n) Y.2 (restL (shadowN n) Y.2 (b.drop (k + C))) = A /\ M - Y.2.done < M - U.done) := fun hz0 => h_ (by
           have h1 := hrl Y.2 (hthr hz0); have h3 := htick hz0; exact ⟨hgY, by omega, by rw [hstep, if_neg (by simp [hz0])], by omega⟩)
          have hret : z ≠ 0 -> r = Y := fun hz0 => by
           have hAY : A = Y := by rw [hstep, if_pos hz0]
           have hl : layS (shadowN n) b T = Y := by rw [HLAY.out, hAY, if_pos (by rw [<- HZ.out]; exact hz0)]
           rw [HR5.out, hl, if_pos (by rw [<- HZ.out]; exact hz0)]
          have HREL := h_ hrel; have HRET := h_ hret; clear hrel hret hapU hapmU hvcU hpc hzz hdU hD hrl hE hYY s2 hc htake hdrop e2 hst hU hne z2 hcl hdl htick hthr hstep q3 s3 ao3 hgY hdn; clear hC; by_cases hkK : k < K
          ·have i1 : (k : Int) < (K : Int) := by omega
           have hck : ¬ cap = k := by omega
           have HAP := h_ (HAPU.out (ao.map (·.add k)) (by rw [if_neg hck]))
           have hkc : k < cap := by omega
           clear HAPU HAPMU hend hhasU; by_cases hz0 : z = 0
           ·have HX := HREL.out hz0
            have hKk : (k : Int) <= (K : Int) := by omega
            have hK0 : (K : Int) <= 281474976710656 := by omega
            have hCk : (k : Int) + (C : Int) <= (K : Int) := by omega
            go_wp2_with (go_at_call 108; refine HAP.out.mono ?_; rintro e w5 ⟨rfl, h5⟩; rw [<- HZ.out, hz0]; have H5 := h_ h5; clear h5)
            go_roundw
            case rel => exact ⟨k + C, Y.2, by rw [HE.out], HKC.out, H5.out, HX.out.1, HX.out.2.1, HX.out.2.2.1⟩
            case measure => rw [H5.out.doneAt, HDU.out]; exact HX.out.2.2.2
           ·have HX := h_ (HRET.out hz0)
            have hKk : (k : Int) <= (K : Int) := by omega
            have hK0 : (K : Int) <= 281474976710656 := by omega
            have hCk : (k : Int) + (C : Int) <= (K : Int) := by omega
            go_wp2_with (go_at_call 108; refine HAP.out.mono ?_; rintro e w5 ⟨rfl, h5⟩; rw [<- HZ.out]; have H5 := h_ h5; clear h5)
            go_ret; rw [HX.out]; exact ⟨by rw [HZ.out] <;> rfl, H5.out⟩
          ·obtain rfl : k = K := by omega
           have hth0 : thereF (shadowN n) U.fs = false := by
            cases hx : thereF (shadowN n) U.fs with
            | false => rfl
            | true => exact absurd ⟨hx, rfl⟩ hend
           rw [hth0] at hhasU; obtain rfl : C = 0 := by omega
           have i1 : ¬ (k : Int) < (k : Int) := by omega
           clear hend hth0 hmin; have hm0 : min (64 : Int) 0 = 0 := by decide
           have hck : cap = k \/ k < cap := by omega
           rcases hck with hck | hck
           ·have hap0 := HAPMU.out ao (by rw [if_pos hck])
            subst hck; simp only [Nat.sub_self] at hap0; have HAP := h_ hap0; clear HAPU HAPMU hap0; by_cases hz0 : z = 0
            ·have HX := HREL.out hz0
             go_wp2_with (first | (go_at_call 52; refine hhasU.mono ?_; rintro e w' ⟨rfl, m, rfl⟩) | (go_at_call 108; refine (HAP.out m).mono ?_; rintro e w5 ⟨rfl, h5⟩; rw [<- HZ.out, hz0]; have H5 := h_ h5; clear h5))
             go_roundw
             case rel => exact ⟨_, Y.2, (by first | rw [HE.out] | simp), HKC.out, H5.out, HX.out.1, HX.out.2.1, HX.out.2.2.1⟩
             case measure => rw [H5.out.doneAt, HDU.out]; exact HX.out.2.2.2
            ·have HX := h_ (HRET.out hz0)
             go_wp2_with (first | (go_at_call 52; refine hhasU.mono ?_; rintro e w' ⟨rfl, m, rfl⟩) | (go_at_call 108; refine (HAP.out m).mono ?_; rintro e w5 ⟨rfl, h5⟩; rw [<- HZ.out]; have H5 := h_ h5; clear h5))
             go_ret; rw [HX.out]; exact ⟨by rw [HZ.out] <;> rfl, H5.out⟩
           ·have HAP := h_ (HAPMU.out (ao.map (·.add k)) (by rw [if_neg (by omega)]))
            clear HAPU HAPMU; by_cases hz0 : z = 0
            ·have HX := HREL.out hz0
             go_wp2_with (first | (go_at_call 52; refine hhasU.mono ?_; rintro e w' ⟨rfl, m, rfl⟩) | (go_at_call 108; refine (HAP.out m).mono ?_; rintro e w5 ⟨rfl, h5⟩; rw [<- HZ.out, hz0]; have H5 := h_ h5; clear h5))
             go_roundw
             case rel => exact ⟨_, Y.2, (by first | rw [HE.out] | simp), HKC.out, H5.out, HX.out.1, HX.out.2.1, HX.out.2.2.1⟩
             case measure => rw [H5.out.doneAt, HDU.out]; exact HX.out.2.2.2
            ·have HX := h_ (HRET.out hz0)
             go_wp2_with (first | (go_at_call 52; refine hhasU.mono ?_; rintro e w' ⟨rfl, m, rfl⟩) | (go_at_call 108; refine (HAP.out m).mono ?_; rintro e w5 ⟨rfl, h5⟩; rw [<- HZ.out]; have H5 := h_ h5; clear h5))
             go_ret; rw [HX.out]; exact ⟨by rw [HZ.out] <;> rfl, H5.out⟩
     rcases hparts with ⟨hth, hr⟩ | ⟨hth, hr1, hr⟩ | ⟨hth, hr1, hth2, hr⟩
     ·exact hrest S hg (by omega) rfl hth hr (.inl ⟨hth, rfl⟩)
     ·clear hrest
      rw [hth] at hhas; have hrem := fun m => (h.drewN m).remove hg (by omega) (shadowN n) (by omega)
      obtain ⟨y, hy⟩ := nm_ (removeS S (shadowN n)); rw [<- hy] at hrem hr1 hr; obtain ⟨z, hz'⟩ : ∃ z, z = y.1 := ⟨_, rfl⟩
      rw [<- hz'] at hr1; have HREM := h_ hrem; have HZ := h_ hz'; have HR := h_ hr; clear hrem hz' hr hth hy hsr hv h; go_enter Tryz.func56, Tryz.ntmps56; go_wp2_with (first | (go_at_call 78; refine hnm.mono ?_; rintro e w' ⟨rfl, rfl⟩) | (go_at_call 106; refine hsh.mono ?_; rintro e w' ⟨rfl, rfl⟩) | (go_at_call 52; refine hhas.mono ?_; rintro e w' ⟨rfl, m, rfl⟩) | (go_at_call 53; refine (HREM.out m).mono ?_; rintro e w3 ⟨rfl, h3⟩; rw [<- HZ.out]))
      go_ret; rw [HR.out]; exact ⟨by rw [HZ.out] <;> rfl, h3⟩
     ·exact hrest _ (hg.remove _) (remove_done _ _) (remove_cap _ _) hth2 hr (.inr ⟨hth, by rw [<- hr1]⟩)
end
end
section
open Go.RowKit
theorem SL_folder (id : Bs) : (⟨#[111, 47]⟩ : ByteArray) ++ SL (hexL id) = SL (nameL id) := SL_cat [111, 47] (hexL id)
theorem looseName_any : NameSpec := fun id w hl => by
 have h := hex_any (SL id) w (by rw [SL_size]; omega)
 have e1 : (SL id).data.toList = id := rfl
 rw [e1] at h; have hcat := SL_folder id; have hz := SL_size (hexL id); rw [hexL_length] at hz; have H := h_ h; clear h e1; go_enter Tryz.func29, Tryz.ntmps29; go_wp2_with fail; refine H.out.mono ?_; rintro e w1 ⟨rfl, b1⟩; go_wp2_with fail; go_ret; exact ⟨rfl, b1⟩
end
section
open Go.RowKit
theorem folder_long {n : Bs} (h : n.take 2 = [111, 47]) : 2 <= n.length := by
 have := congrArg List.length h
 rw [List.length_take] at this; have e : ([111, 47] : Bs).length = 2 := rfl
 omega
theorem pre_yes (n : Bs) (hn : n.length <= 4611686018427387904) (h : n.take 2 = [111, 47]) (w : World) : Calls Tryz.prog 183 #[.string (SL n), .string ⟨#[111, 47]⟩] w fun e w' => e = .returned (.bool true) /\ w' = w := by
 have h2 := folder_long h; have hs : (SL n).size = n.length := SL_size n
 obtain ⟨k, hk⟩ := nm_ (n.length); rw [<- hk] at hs h2 hn; have h1 : (⟨#[111, 47]⟩ : ByteArray).size = 2 := rfl
 have g1 : (k : Int) >= 2 := by omega
 have hx : (SL n).extract 0 2 = SL (n.take 2) := by rw [SL_extract]; rfl
 have q1 : ((SL (n.take 2)).toList == [111, 47]) = true := by rw [SL_toList, h]; rfl
 clear h hk; go_enter Tryz.func183, Tryz.ntmps183; go_wp2; go_ret; exact ⟨rfl, rfl⟩
theorem pre_no (n : Bs) (hn : n.length <= 4611686018427387904) (h : ¬ n.take 2 = [111, 47]) (w : World) : Calls Tryz.prog 183 #[.string (SL n), .string ⟨#[111, 47]⟩] w fun e w' => e = .returned (.bool false) /\ w' = w := by
 have hs : (SL n).size = n.length := SL_size n
 obtain ⟨k, hk⟩ := nm_ (n.length); rw [<- hk] at hs hn; have h1 : (⟨#[111, 47]⟩ : ByteArray).size = 2 := rfl
 have q1 : ((SL (n.take 2)).toList == [111, 47]) = false := by rw [SL_toList]; exact beq_eq_false_iff_ne.2 h
 clear h hk; by_cases h2 : 2 <= k
 ·have g1 : (k : Int) >= 2 := by omega
  have hx : (SL n).extract 0 2 = SL (n.take 2) := by rw [SL_extract]; rfl
  go_enter Tryz.func183, Tryz.ntmps183; go_wp2; go_ret; exact ⟨rfl, rfl⟩
 ·have g1 : ¬ (k : Int) >= 2 := by omega
  go_enter Tryz.func183, Tryz.ntmps183; go_wp2; go_ret; exact ⟨rfl, rfl⟩
def cutV (n : Bs) : Value := if n.take 2 = [111, 47] then .tuple #[.string (SL (n.drop 2)), .bool true] else .tuple #[.string (SL n), .bool false]
theorem cutPre_any (n : Bs) (hn : n.length <= 4611686018427387904) (w : World) : Calls Tryz.prog 151 #[.string (SL n), .string ⟨#[111, 47]⟩] w fun e w' => e = .returned (cutV n) /\ w' = w := by
 have hin : Calls Tryz.prog 173 #[.string (SL n), .string ⟨#[111, 47]⟩] w fun e w' => e = .returned (cutV n) /\ w' = w := by
  unfold cutV; by_cases h : n.take 2 = [111, 47]
  ·rw [if_pos h]
   have hp := pre_yes n hn h w; have h2 := folder_long h; have hs : (SL n).size = n.length := SL_size n
   have h1 : (⟨#[111, 47]⟩ : ByteArray).size = 2 := rfl
   have hx3 : (SL n).extract 2 n.length = SL (n.drop 2) := by rw [SL_extract, List.take_length]
   obtain ⟨k, hk⟩ := nm_ (n.length); rw [<- hk] at hs h2 hn hx3; have HP := h_ hp; clear hp h hk; go_enter Tryz.func173, Tryz.ntmps173; go_wp2_with (go_at_call 183; refine HP.out.mono ?_; rintro e w' ⟨rfl, rfl⟩)
   go_ret2; exact ⟨rfl, rfl⟩
  ·rw [if_neg h]
   have hp := pre_no n hn h w; have HP := h_ hp; clear hp h hn; go_enter Tryz.func173, Tryz.ntmps173; go_wp2_with (go_at_call 183; refine HP.out.mono ?_; rintro e w' ⟨rfl, rfl⟩)
   go_ret2; exact ⟨rfl, rfl⟩
 obtain ⟨x, b, hv⟩ : ∃ x b, cutV n = .tuple #[.string x, .bool b] := by
  unfold cutV; split
  ·exact ⟨_, _, rfl⟩
  ·exact ⟨_, _, rfl⟩
 rw [hv] at hin |-; have HI := h_ hin; clear hin hv hn; go_enter Tryz.func151, Tryz.ntmps151; go_wp2_with (go_at_call 173; refine HI.out.mono ?_; rintro e w' ⟨rfl, rfl⟩)
 go_ret2; exact ⟨rfl, rfl⟩
def IdOfTo (n : Bs) (w : World) (e : Ending) (w' : World) : Prop := (∃ x b, e = .returned (.tuple #[.string (SL x), .bool b]) /\ ((b = true /\ unnameL n = some x) \/ (b = false /\ unnameL n = none))) /\ Below w.heap.size w w'
theorem idOf_any (n : Bs) (hn : n.length <= 281474976710656) (w : World) : Calls Tryz.prog 115 #[.string (SL n)] w (IdOfTo n w) := by
 have hc := cutPre_any n (by omega) w
 by_cases h2 : n.take 2 = [111, 47]
 ·have e : cutV n = .tuple #[.string (SL (n.drop 2)), .bool true] := by unfold cutV; rw [if_pos h2]
  rw [e] at hc; have hu := unhex_any (SL (n.drop 2)) w (by rw [SL_size, List.length_drop]; omega)
  have HC := h_ hc; clear hc e
  cases hx : unhexL (n.drop 2) with
  | none =>
   have hv : unhexV (SL (n.drop 2)).data.toList = .tuple #[.string (SL []), .int .i64 1] := unhexV_none hx
   have hno : unnameL n = none := by unfold unnameL; split; exact hx; rfl
   rw [hv] at hu; have HU := h_ hu; have HNO := h_ hno; clear hu hv hx hno h2 hn; go_enter Tryz.func115, Tryz.ntmps115; go_wp2_with (first | (go_at_call 151; refine HC.out.mono ?_; rintro e w1 ⟨rfl, rfl⟩) | (go_at_call 152; refine HU.out.mono ?_; rintro e w2 ⟨rfl, b2⟩))
   go_ret2; exact ⟨⟨[], false, rfl, .inr ⟨rfl, HNO.out⟩⟩, b2⟩
  | some id =>
   have hv : unhexV (SL (n.drop 2)).data.toList = .tuple #[.string (SL id), .int .i64 0] := unhexV_some hx
   have hlen := unhexL_length _ _ hx; rw [List.length_drop] at hlen; have hle := folder_long h2; rw [hv] at hu; have HU := h_ hu; have hsz := SL_size id; by_cases h32 : id.length = 32
   ·have hyes : unnameL n = some id := by unfold unnameL; rw [if_pos ⟨by omega, h2⟩]; exact hx
    have q : (((SL id).size : Int) == 32) = true := by rw [hsz, h32]; rfl
    have HY := h_ hyes; clear hu hv hx hyes h2 hn hlen hle hsz h32; go_enter Tryz.func115, Tryz.ntmps115; go_wp2_with (first | (go_at_call 151; refine HC.out.mono ?_; rintro e w1 ⟨rfl, rfl⟩) | (go_at_call 152; refine HU.out.mono ?_; rintro e w2 ⟨rfl, b2⟩))
    go_ret2; exact ⟨⟨id, true, rfl, .inl ⟨rfl, HY.out⟩⟩, b2⟩
   ·have hno : unnameL n = none := by unfold unnameL; rw [if_neg (by rintro ⟨k, _⟩; omega)]
    have q : (((SL id).size : Int) == 32) = false := by rw [hsz, beq_eq_false_iff_ne]; omega
    have HNO := h_ hno; clear hu hv hx hno h2 hn hlen hle hsz h32; go_enter Tryz.func115, Tryz.ntmps115; go_wp2_with (first | (go_at_call 151; refine HC.out.mono ?_; rintro e w1 ⟨rfl, rfl⟩) | (go_at_call 152; refine HU.out.mono ?_; rintro e w2 ⟨rfl, b2⟩))
    go_ret2; exact ⟨⟨id, false, rfl, .inr ⟨rfl, HNO.out⟩⟩, b2⟩
 ·have e : cutV n = .tuple #[.string (SL n), .bool false] := by unfold cutV; rw [if_neg h2]
  have hno : unnameL n = none := by unfold unnameL; rw [if_neg (fun h => h2 h.2)]
  rw [e] at hc; have HC := h_ hc; have HNO := h_ hno; clear hc e h2 hn hno; go_enter Tryz.func115, Tryz.ntmps115; go_wp2_with (go_at_call 151; refine HC.out.mono ?_; rintro e w1 ⟨rfl, rfl⟩)
  go_ret2; exact ⟨⟨[], false, rfl, .inr ⟨rfl, HNO.out⟩⟩, Below.refl _ _⟩
end
section
open Go.RowKit
theorem files_get {w : World} {G : Nat -> Prop} {ao : Option Addr} {cap : Nat} {P : List (Bs × Value)} {g off : Nat} {L : Files} (hraw : RawAt w G ao cap P g off) (hhas : Has w G P L) {i : Nat} {n b : Bs} (hi : L[i]? = some (n, b)) :
  ao = some ⟨g, off, none⟩ /\ w.cell? ⟨g, off + i * 2, none⟩ = some (.string (SL n)) /\ ∃ x c, w.cell? ⟨g, off + i * 2 + 1, none⟩ = some (.slice x b.length c) /\ BytesAt w G (.slice x b.length c) b := by
 have hl := (List.getElem?_eq_some_iff.1 hi).1; obtain ⟨⟨n', bv⟩, hp⟩ : ∃ p, P[i]? = some p := ⟨_, List.getElem?_eq_getElem (by rw [hhas.1]; exact hl)⟩
 obtain ⟨hnn, hby⟩ := hhas.2 i _ _ hp hi; simp only at hnn hby
 subst hnn; obtain ⟨e1, c1, c2⟩ := hraw.get hp; obtain ⟨x, c, B, o, rfl, h5⟩ := hby; exact ⟨e1, c1, x, c, c2, ⟨x, c, B, o, rfl, h5⟩⟩
end
section
open Go.RowKit
theorem own_zero {w : World} {base e s n : Nat} {v : Value} {xs : List Value} (h : w.ownsRow base e s v n xs) : w.ownsRow 0 e s v n xs := by
 refine ⟨h.1, ?_⟩; rcases h.2 with h4 | ⟨g2, c2, cur2, h5, h6, h7⟩
 ·exact .inl h4
 ·exact .inr ⟨g2, c2, cur2, h5, Nat.zero_le _, h7⟩
def LoadTo (w : World) (L : Files) (c : Nat) (e : Ending) (w' : World) : Prop :=
 Below w.heap.size w w' /\ ((e = .returned (.tuple #[.pointer none, err 1]) /\ ¬ Fit L L.length) \/ (e = .returned (.tuple #[.pointer none, err 4]) /\ Fit L L.length /\ wrap64 ((c : Int) - (costs L : Int)) < 0) \/
  ∃ p, e = .returned (.tuple #[ptr p, err 0]) /\ Fit L L.length /\ 0 <= wrap64 ((c : Int) - (costs L : Int)) /\ DiskAt w' (fun k => w.heap.size <= k /\ k < w'.heap.size) p ⟨layF L, c, 0, -1, false⟩)
theorem load_any (c : Nat) (hc : c <= 1099511627776) (v0 : Value) (L : Files) (w : World) (hv : FilesAt w (elder w) v0 L) (hL : L.length <= 4000000000000) (hb : ∀ n b, (n, b) ∈ L -> b.length <= 140737488355328) :
  Calls Tryz.prog 38 #[.int .i64 (c : Int), v0] w (LoadTo w L c) := by
 obtain ⟨ao, cap, P, g, off, rfl, hraw, hhas⟩ := hv; obtain ⟨N, hN⟩ := nm_ (L.length); obtain ⟨B, hB⟩ := nm_ (w.heap.size); have hnew := half_new w c; have hbn : Below w.heap.size w ((w.alloc (.map #[] 0)).alloc (headO w.heap.size (c : Int) 0 (-1) false)) := ((Below.refl _ _).alloc (Nat.le_refl _) _).alloc (by simp) _
 unfold LoadTo; rw [<- hN] at hL |-; rw [<- hB] at hnew hbn |-; have HN := h_ hN; have HB := h_ hB; have HRA := h_ hraw; have HHA := h_ hhas; have HS := h_ hb; have hwc : wrap64 ((c : Int) - (costs (L.take 0) : Int)) = (c : Int) := by
  have h0 : costs (L.take 0) = 0 := by simp [costs]
  rw [h0, IntWalk.wrap64_in _ ⟨by omega, by omega⟩]
  simp
 obtain ⟨mb, hmb⟩ := nm_ (B); obtain ⟨p, hp⟩ := nm_ (B + 1); have hnw := new_yes c hc w; rw [<- hB] at hnw; rw [<- hp] at hnew hnw; have hnew : HalfIn ((w.alloc (.map #[] 0)).alloc (headO B (c : Int) 0 (-1) false)) B p mb (fun _ => .slice none 0 0) (c : Int) [] := by rw [hmb]; exact hnew
 have hmp : mb < p := by omega
 clear hN hB hraw hhas hb hmb hp; go_enter Tryz.func38, Tryz.ntmps38; go_wp2_with (go_at_call 32; refine hnw.mono ?_; rintro e w1 ⟨rfl, hw1⟩; rw [<- hw1] at hnew hbn; clear hw1 hnw)
 go_loopw [22] (fun i W => ∃ (k : Nat), i = .int .i64 (k : Int) /\ k <= N /\ Fit L k /\ HalfIn W B p mb (fun _ => .slice none 0 0) (wrap64 ((c : Int) - (costs (L.take k) : Int))) (layF (bareF (L.take k))) /\ Below B w W) (fun i _ => N - (intOf i).toNat)
 case atStart => exact ⟨0, rfl, Nat.zero_le _, fit_zero L, by rw [hwc]; exact hnew, hbn⟩
 case round =>
  clear hnew hbn hwc; obtain ⟨k, rfl, hk, hfit, hH, hW⟩ := hrel; have i0 : (0 : Int) <= (k : Int) := by omega
  by_cases hlt : k < N
  ·have hk1 : k < L.length := by rw [<- HN.out]; exact hlt
   have i1 : (k : Int) < (N : Int) := by omega
   obtain ⟨⟨n, b⟩, hf⟩ : ∃ f, L[k]? = some f := ⟨_, List.getElem?_eq_getElem hk1⟩
   obtain ⟨e1, c1, x, cc, c2, hby⟩ := files_get HRA.out HHA.out hf; subst e1; have hgl : g < B := by rw [HB.out]; exact World.block_lt_of_cell? w _ c1
   have d1 := (hW.cell (p := ⟨g, off + k * 2, none⟩) hgl).trans c1
   have d2 := (hW.cell (p := ⟨g, off + k * 2 + 1, none⟩) hgl).trans c2
   have hbl := HS.out n b (List.mem_of_getElem? hf); obtain ⟨M, hM⟩ := nm_ (b.length); rw [<- hM] at c2 d2 hbl; have HF := h_ hf; have HM := h_ hM; obtain ⟨y, hy⟩ := nm_ (wr.heap.size); obtain ⟨wo, hwo⟩ := nm_ (wr.alloc (.cells #[.string (SL n), .slice x M cc] 74)); have b2 : Below wr.heap.size wr wo := by rw [hwo]; exact (Below.refl _ _).alloc (Nat.le_refl _) _
   have x1 : wo.heap[y]? = some (.cells #[.string (SL n), .slice x M cc] 74 (0, 0)) := by rw [hwo, hy]; exact heap_alloc_new _ _
   have hHo := hH.below b2; have hWo := hW.trans (b2.mono (by rw [HB.out]; exact hW.size))
   have hpy : p < y := by rw [hy]; exact hH.plt
   have k0 : wo.cell? ⟨y, 0, none⟩ = some (.string (SL n)) := cell_of_row _ _ _ _ _ _ x1
   have k1 : wo.cell? ⟨y, 1, none⟩ = some (.slice x M cc) := cell_of_row _ _ _ _ _ _ x1
   have HW := h_ hwo.symm; have HY := h_ hy; have HHO := h_ hHo; have HWO := h_ hWo; have HX := h_ x1; have HFIT := h_ hfit; clear hf hM hy hwo b2 x1 hHo hWo hH hW hby c1 c2 hfit; have M45 := mayBe_any n wo; go_wp2_with fail; rw [HW.out, <- HY.out]; clear d1 d2; by_cases hnm : named n = true
   ·have hn : n.length <= 200 := by
     unfold named at hnm; simp only [Bool.and_eq_true, decide_eq_true_eq] at hnm; exact hnm.1.2
    rw [hnm] at M45; have HAS := HHO.out.has n (by unfold maxLen; omega)
    rw [layF_bare] at HAS
    cases ht : thereF n (layF (L.take k)) with
    | true =>
     have hnf : ¬ Fit L N := by rw [HN.out]; exact fit_not HF.out (by rw [ht]; simp)
     rw [ht] at HAS; have M45 := h_ M45; have HAS := h_ HAS; go_wp2_with (first | (go_at_call 71; refine M45.out.mono ?_; rintro e w' ⟨rfl, rfl⟩) | (go_at_call 76; refine HAS.out.mono ?_; rintro e w' ⟨rfl, rfl⟩))
     go_ret2; exact ⟨HWO.out, .inl ⟨rfl, hnf⟩⟩
    | false =>
     have hfit1 := HFIT.out.more HF.out hnm ht; rw [ht] at HAS; have M45 := h_ M45; have HAS := h_ HAS; have htk := take_one HF.out; have hlen : (layF (bareF (L.take k))).length < maxLen := by
      have h1 := layF_length (bareF (L.take k)); have h2 : (bareF (L.take k)).length = (L.take k).length := by simp [bareF]
      have h3 : (L.take k).length <= k := by rw [List.length_take]; omega
      unfold maxLen; omega
     have hbr : (Below wo.heap.size wo wo.drew) := (Below.refl _ _).drew; obtain ⟨w3, hrun3, hH3, ht3⟩ := (HHO.out.below hbr).store (layF_rising _) hlen n [] (by unfold maxLen; omega) (.slice none 0 0) (World.ownsRow_nil _ _ _ _) (fun g hg => by cases hg) (fun m c hm hc g hg => by cases hg)
     rw [setV_nil] at hH3; have hlay : putF n [] (layF (bareF (L.take k))) = layF (bareF (L.take (k + 1))) := by
      have h1 : bareF (L.take (k + 1)) = bareF (L.take k) ++ [(n, [])] := by rw [htk]; simp [bareF]
      rw [h1, layF_one]
     rw [hlay] at hH3; have e0 : wo.drew.cell? ⟨p, 0, none⟩ = some (.map (some mb)) := (head_cells (HHO.out.below hbr).head).1
     have e1 : wo.drew.cell? ⟨y, 0, none⟩ = some (.string (SL n)) := k0
     have f0 : w3.cell? ⟨p, 0, none⟩ = some (.map (some mb)) := (head_cells hH3.head).1
     have f1 : w3.cell? ⟨y, 0, none⟩ = some (.string (SL n)) := ht3.cell e1 (fun e => by have : y = mb := e; omega)
     have f2 : w3.cell? ⟨y, 1, none⟩ = some (.slice x M cc) := ht3.cell (show wo.drew.cell? ⟨y, 1, none⟩ = _ from k1) (fun e => by have : y = mb := e; omega)
     obtain ⟨z, hz⟩ : ∃ z, z = wrap64 ((c : Int) - (costs (L.take k) : Int)) := ⟨_, rfl⟩
     obtain ⟨z2, hz2⟩ : ∃ z, z = wrap64 ((c : Int) - (costs (L.take (k + 1)) : Int)) := ⟨_, rfl⟩
     obtain ⟨Q, hQ⟩ : ∃ Q : Int, Q = 16 + (n.length : Int) + (M : Int) := ⟨_, rfl⟩
     have hzQ : wrap64 (z - Q) = z2 := by
      have hcs : costs (L.take (k + 1)) = costs (L.take k) + (16 + n.length + b.length) := by rw [htk, costs_append]; rfl
      have hMM := HM.out; rw [hz2, hz, hQ, hcs]; unfold wrap64; omega
     rw [<- hz] at hH3; obtain ⟨_, f3, _, _, _, ff⟩ := head_cells hH3.head; have f4 := ff 1; have HZQ := h_ hzQ; have HC := h_ (show Calls Tryz.prog 74 #[.string (SL n), .int .i64 (M : Int)] w3.drew fun e w' => e = .returned (.int .i64 Q) /\ w' = w3.drew from by rw [hQ]; exact cost_any n M w3.drew (by omega) (by omega))
     have HEND := h_ (show HalfIn ((w3.setCell ⟨p, 1, none⟩ (.int .i64 (wrap64 (z - Q)))).drew) B p mb _ (wrap64 (z - Q)) _ from (hH3.set (wrap64 (z - Q))).below ((Below.refl _ _).drew))
     have hbe : Below B w (w3.setCell ⟨p, 1, none⟩ (.int .i64 (wrap64 (z - Q)))).drew := by
      have hz := HB.out; have s1 := HWO.out.size; have s2 := ht3.size; have q1 : Below B w w3 := HWO.out.trans ((Below.refl wo.heap.size wo).drew.mono (by omega) |>.trans (ht3.below (by show B <= wo.heap.size; omega) (fun j hj => by rw [hj]; exact hH3.inM)))
      have s3 := q1.size; exact (q1.trans ((turn_set p 1 w3 (.int .i64 (wrap64 (z - Q)))).below (B := B) (by omega) (fun j hj => by rw [hj]; exact hH3.inP))).drew
     have HBE := h_ hbe; have HZ2 := h_ hz2; have HFIT1 := h_ hfit1; clear hz hz2 hQ htk hlen hlay hH3 hfit1 ff hzQ ht3 hbe; go_wp2_with (first | (go_at_call 71; refine M45.out.mono ?_; rintro e w' ⟨rfl, rfl⟩) | (go_at_call 76; refine HAS.out.mono ?_; rintro e w' ⟨rfl, rfl⟩))
     go_region_held3 (fun W => W.cell? ⟨p, 0, none⟩ = some (.map (some mb)) /\ W.cell? ⟨y, 0, none⟩ = some (.string (SL n))) (first | exact ⟨e0, e1⟩ | exact ⟨f0, f1⟩) ((first | fail))
     clear hrun3 e0 e1 k0 k1; go_wp2_with fail; have hzQ := HZQ.out; go_region_with (first | (go_at_call 74; refine HC.out.mono ?_; rintro e w' ⟨rfl, rfl⟩))
     all_goals (go_wp2; go_roundw; (case rel => exact ⟨k + 1, by go_num, by omega, HFIT1.out, by rw [<- HZ2.out, <- HZQ.out]; exact HEND.out, HBE.out⟩); (case measure => simp [intOf]; omega))
   ·have hnf : ¬ Fit L N := by rw [HN.out]; exact fit_not HF.out (fun h => hnm h.1)
    have hnm2 : named n = false := by simpa using hnm
    rw [hnm2] at M45; have M45 := h_ M45; go_wp2_with (first | (go_at_call 71; refine M45.out.mono ?_; rintro e w' ⟨rfl, rfl⟩))
    go_ret2; exact ⟨HWO.out, .inl ⟨rfl, hnf⟩⟩
  ·obtain rfl : k = N := by omega
   have hLk : L.take k = L := List.take_of_length_le (by rw [<- HN.out]; exact Nat.le_refl _)
   rw [hLk] at hH; have i1 : ¬ ((k : Int) < (k : Int)) := by omega
   obtain ⟨z, hz⟩ : ∃ z, z = wrap64 ((c : Int) - (costs L : Int)) := ⟨_, rfl⟩
   rw [<- hz] at hH; obtain ⟨e0, e1, _, _, _, _⟩ := head_cells hH.head; have HZ := h_ hz; have HFIT := h_ hfit; have HHW := h_ hH; clear hLk hfit hz; by_cases hz0 : z < 0
   ·go_wp2
    go_ret2; exact ⟨hW, .inr (.inl ⟨rfl, HFIT.out, by rw [<- HZ.out]; exact hz0⟩)⟩
   ·clear hH
    go_wp2; clear e0 e1 i0; go_loopw [63] (fun i W => ∃ (j : Nat) (V : Bs -> Value), i = .int .i64 (j : Int) /\ j <= k /\ HalfIn W B p mb V z (layF (bareF L ++ L.take j)) /\ Below B w W) (fun i _ => k - (intOf i).toNat)
    case atStart => exact ⟨0, _, rfl, Nat.zero_le _, by simpa using HHW.out, hW⟩
    case round =>
     clear HHW hW; obtain ⟨j, V, rfl, hj, hH, hW⟩ := hrel; have i0 : (0 : Int) <= (j : Int) := by omega
     by_cases hlt : j < k
     ·have hk1 : j < L.length := by rw [<- HN.out]; exact hlt
      have i1 : (j : Int) < (k : Int) := by omega
      obtain ⟨⟨n, b⟩, hf⟩ : ∃ f, L[j]? = some f := ⟨_, List.getElem?_eq_getElem hk1⟩
      obtain ⟨e1, c1, x, cc, c2, hby⟩ := files_get HRA.out HHA.out hf; subst e1; have hgl : g < B := by rw [HB.out]; exact World.block_lt_of_cell? w _ c1
      have d1 := (hW.cell (p := ⟨g, off + j * 2, none⟩) hgl).trans c1
      have d2 := (hW.cell (p := ⟨g, off + j * 2 + 1, none⟩) hgl).trans c2
      have hbl := HS.out n b (List.mem_of_getElem? hf); obtain ⟨x3, cc3, B3, off3, hxx, s3, hB3⟩ := hby
      cases hxx
      have hnm := (HFIT.out j hlt n b hf).1; have hn : n.length <= 200 := by
       unfold named at hnm; simp only [Bool.and_eq_true, decide_eq_true_eq] at hnm; exact hnm.1.2
      obtain ⟨M, hM⟩ := nm_ (b.length); rw [<- hM] at c2 d2 hbl; obtain ⟨y, hy⟩ := nm_ (wr.heap.size); obtain ⟨wo, hwo⟩ := nm_ (wr.alloc (.cells #[.string (SL n), .slice x M cc] 74)); have b2 : Below wr.heap.size wr wo := by rw [hwo]; exact (Below.refl _ _).alloc (Nat.le_refl _) _
      have x1 : wo.heap[y]? = some (.cells #[.string (SL n), .slice x M cc] 74 (0, 0)) := by rw [hwo, hy]; exact heap_alloc_new _ _
      have hHo := hH.below b2.drew; have hWo := (hW.trans (b2.mono (by rw [HB.out]; exact hW.size))).drew
      have hpy : p < y := by rw [hy]; exact hH.plt
      have k0 : wo.drew.cell? ⟨y, 0, none⟩ = some (.string (SL n)) := cell_of_row _ _ _ _ _ _ (show wo.drew.heap[y]? = _ from x1)
      have k1 : wo.drew.cell? ⟨y, 1, none⟩ = some (.slice x M cc) := cell_of_row _ _ _ _ _ _ (show wo.drew.heap[y]? = _ from x1)
      have e0 : wo.drew.cell? ⟨p, 0, none⟩ = some (.map (some mb)) := (head_cells hHo.head).1
      have hcl : Calls Tryz.prog 61 #[.slice x M cc] wo.drew fun e w' => ∃ v, e = .returned v /\ w'.ownsRow wo.drew.heap.size 5 1 v b.length (b.map B8) /\ Below wo.drew.heap.size wo.drew w' := by
       rw [hM]; exact clone_any x cc b B3 off3 wo.drew (s3.below (by have := hWo; rw [HB.out] at this; exact this)) (by rw [<- hM]; exact hbl)
      have hys : y < wo.drew.heap.size := (ge_ (show wo.drew.heap[y]? = _ from x1)).1
      have hlen : (layF (bareF L ++ L.take j)).length < maxLen := by
       have h1 := layF_length (bareF L ++ L.take j); have h2 : (bareF L).length = L.length := by simp [bareF]
       have h3 : (L.take j).length <= j := by rw [List.length_take]; omega
       rw [List.length_append, h2, <- HN.out] at h1; unfold maxLen; omega
      have hstore : ∀ (w2 : World) (v2 : Value), w2.ownsRow wo.drew.heap.size 5 1 v2 b.length (b.map B8) -> Below wo.drew.heap.size wo.drew w2 -> ∃ w3, (Instr.mapUpdate 89 (.map (some mb)) (.string (SL n)) v2).run Tryz.prog w2 = .ok () w3 /\ HalfIn w3 B p mb (setV V n v2) z (layF (bareF L ++ L.take (j + 1))) /\ Below B w w3 /\ w3.cell? ⟨p, 0, none⟩ = some (.map (some mb)) /\ w3.cell? ⟨y, 0, none⟩ = some (.string (SL n)) /\ w3.cell? ⟨y, 1, none⟩ = some (.slice x M cc) := by
       intro w2 v2 ho b3
       have hsz := b3.size; obtain ⟨w3, r1, r2, r3⟩ := (hHo.below b3).store (layF_rising _) hlen n b (by unfold maxLen; omega) v2 (own_zero ho) (fun g hg => by have h1 := (ho.lt g hg).1; have h2 := hHo.inM; have h3 := hHo.map.lt; exact ⟨by omega, by omega⟩) (fun m c hm hc g hg hg2 => by
        have h1 := (ho.lt g hg).1; have h2 := ((hHo.rows.own m c hc).lt g hg2).2; omega)
       have hlay : putF n b (layF (bareF L ++ L.take j)) = layF (bareF L ++ L.take (j + 1)) := by rw [take_one hf, <- List.append_assoc, layF_one]
       rw [hlay] at r2; have hmm := hHo.map.lt; have hne : ∀ q, q = y -> ¬ q = mb := fun q e e2 => by have h5 := hHo.inM; omega
       refine ⟨w3, r1, r2, (hWo.trans (b3.mono (by have := hHo.inP; have := hHo.plt; omega))).trans (r3.below (by have := hHo.inP; have := hHo.plt; omega) (fun q hq => by rw [hq]; exact hHo.inM)), (head_cells r2.head).1, ?_, ?_⟩
       ·exact r3.cell ((b3.cell (p := ⟨y, 0, none⟩) hys).trans k0) (hne y rfl)
       ·exact r3.cell ((b3.cell (p := ⟨y, 1, none⟩) hys).trans k1) (hne y rfl)
      have HW := h_ hwo.symm; have HY := h_ hy; have HCL := h_ hcl; have HST := h_ hstore; have KEEP := h_ (fun (W : World) (hb : Below wo.drew.heap.size wo.drew W) => (show W.cell? ⟨p, 0, none⟩ = some (.map (some mb)) /\ W.cell? ⟨y, 0, none⟩ = some (.string (SL n)) /\ W.cell? ⟨y, 1, none⟩ = some (.slice x M cc) from
       ⟨(hb.cell (p := ⟨p, 0, none⟩) (by show p < _; omega)).trans e0, (hb.cell (p := ⟨y, 0, none⟩) hys).trans k0, (hb.cell (p := ⟨y, 1, none⟩) hys).trans k1⟩))
      have hKa : wo.cell? ⟨y, 0, none⟩ = some (.string (SL n)) := k0
      clear hf hM hy hwo b2 x1 hHo hWo hH hW s3 hB3 c1 c2 hcl hstore hlen k0 k1 e0 hys hKa; go_wp2_with fail; rw [HW.out, <- HY.out]; clear d1 d2; go_region_held3 (fun W => W.cell? ⟨p, 0, none⟩ = some (.map (some mb)) /\ W.cell? ⟨y, 0, none⟩ = some (.string (SL n)) /\ W.cell? ⟨y, 1, none⟩ = some (.slice x M cc)) (first | exact KEEP.out _ (Below.refl _ _) | exact KEEP.out _ b3 | exact ⟨g0, g1, g2⟩)
       ((first | (go_at_call 61; refine HCL.out.mono ?_; rintro e w2 ⟨v2, rfl, o2, b3⟩; obtain ⟨w3, hrun3, hH3, hB3, g0, g1, g2⟩ := HST.out w2 v2 o2 b3; have HH3 := h_ hH3; have HB3 := h_ hB3; clear o2 hH3 hB3)))
      all_goals (go_wp2; go_roundw; (case rel => exact ⟨j + 1, setV V n v2, by go_num, by omega, HH3.out, HB3.out⟩); (case measure => simp [intOf]; omega))
     ·obtain rfl : j = k := by omega
      have hLk : L.take j = L := List.take_of_length_le (by rw [<- HN.out]; exact Nat.le_refl _)
      rw [hLk, layF_twice] at hH; have i1 : ¬ ((j : Int) < (j : Int)) := by omega
      have hcs := HFIT.out.costs (by rw [<- HN.out]; exact Nat.le_refl _)
      rw [hLk] at hcs; have hd := hH.disk c (by rw [hcs]; exact HZ.out)
      have HD := h_ hd; clear hd hcs hLk hH; go_wp2; go_ret2; exact ⟨hW, .inr (.inr ⟨p, rfl, HFIT.out, by rw [<- HZ.out]; omega, HD.out⟩)⟩
end
end Go.Proofs.YtomgijcbekjlaaaGreat
