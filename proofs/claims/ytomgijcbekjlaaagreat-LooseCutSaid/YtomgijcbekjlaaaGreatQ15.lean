/- What the proofs stand on: DiskRefDump, DiskPair, DiskOne, LooseSpec, LooseName, LooseIdOf, DiskRefNames, DiskROne. -/
import Derived.Test.YtomgijcbekjlaaaGreatQ10
import Derived.Test.YtomgijcbekjlaaaGreatQ13
import Derived.Test.YtomgijcbekjlaaaGreatQ11
import Derived.Test.YtomgijcbekjlaaaGreatQ14
import Derived.Test.YtomgijcbekjlaaaGreatQ6
import Derived.Test.YtomgijcbekjlaaaGreatQ9
namespace Go.Proofs.YtomgijcbekjlaaaGreat
open Go.RowKit
section
variable {w : World} {q : Nat} {G : Nat → Prop} {ao : Option Addr} {cap : Nat} {P : List (Bs × Value)} {g off : Nat} {L : Files}
theorem below_appends {B : Nat} {w w1 : World} {v : Value} {E s n : Nat} {xs : List Value} (ho : w.ownsRow B E s v n xs) (hg : w.grownBy w1 v.ownBlock) (hB : B ≤ w.heap.size) : Below B w w1 :=
  ⟨hg.os, hg.tape, hg.output, hg.size, fun i hi => hg.block i (by omega) (fun e => by have := (ho.lt i e.symm).1; omega)⟩
end
end Go.Proofs.YtomgijcbekjlaaaGreat
namespace Go.Proofs.YtomgijcbekjlaaaGreat
open Go.RowKit
structure OpV where
  a : Bs
  b : Bs
  l : Bs
  n : Int
def stepS (y : Int) (S : St) (o : OpV) : St :=
  if y = 4 then (removeS S o.a).2 else if y = 5 then (renameS S o.a o.b).2 else if y = 6 then (syncS S o.a).2 else if y = 7 then S else if y = 8 then (cutS S o.n).2 else if y = 9 then onS S else (appendS S o.a o.l).2
theorem Good.step {S : St} (h : Good S) (y : Int) (o : OpV) (hn : o.n ≤ 9223372036854775807) : Good (stepS y S o) := by
  unfold stepS
  repeat' split
  all_goals first | exact h.remove _ | exact h.rename _ _ | exact h.sync _ | exact h.cut hn | exact h.on | exact h.append _ _ | exact h
/-- The program's disk and the document's, apart, in memory from base on; below base nothing has turned since w0. -/
structure Pair (w0 : World) (base : Nat) (w : World) (Fd Fr : Nat → Prop) (p q : Nat) (S T : St) : Prop where
  d : DiskAt w Fd p S
  r : RefAt w Fr q T
  fd : ∀ k, Fd k → base ≤ k ∧ k < w.heap.size
  fr : ∀ k, Fr k → base ≤ k ∧ k < w.heap.size
  ap : ∀ k, Fd k → ¬ Fr k
  old : Below base w0 w
  bs : base ≤ w.heap.size
section
variable {w0 w w' : World} {base p q : Nat} {Fd Fr : Nat → Prop} {S T S' : St}
theorem Pair.acts (h : Pair w0 base w Fd Fr p q S T) (hd : DiskAt w' (grow Fd w w') p S') (ht : Turn Fd w w') : Pair w0 base w' (grow Fd w w') Fr p q S' T := by
  have hs := ht.size
  refine ⟨hd, h.r.turn ht (fun k hk hd => h.ap k hd hk), fun k hk => ?_, fun k hk => ⟨(h.fr k hk).1, by have := (h.fr k hk).2; omega⟩, fun k hk hr => ?_, h.old.trans (ht.below h.bs (fun k hk => (h.fd k hk).1)), Nat.le_trans h.bs hs⟩
  · rcases hk with hk | hk
    · have := h.fd k hk; exact ⟨this.1, by omega⟩
    · exact ⟨Nat.le_trans h.bs hk.1, hk.2⟩
  · rcases hk with hk | hk
    · exact h.ap k hk hr
    · have := (h.fr k hr).2; omega
theorem Pair.below (h : Pair w0 base w Fd Fr p q S T) (hb : Below w.heap.size w w') : Pair w0 base w' Fd Fr p q S T :=
  ⟨h.d.turn (Turn.of_below (fun _ => False) hb) (fun _ _ h => h), h.r.turn (Turn.of_below (fun _ => False) hb) (fun _ _ h => h), fun k hk => ⟨(h.fd k hk).1, by have := (h.fd k hk).2; have := hb.size; omega⟩,
    fun k hk => ⟨(h.fr k hk).1, by have := (h.fr k hk).2; have := hb.size; omega⟩, h.ap, h.old.trans (hb.mono h.bs), Nat.le_trans h.bs hb.size⟩
/-! The calls on whole disks. -/
theorem dRemove (h : DiskAt w Fd p S) (hg : Good S) (hb : S.done ≤ 4000000000000000) (n : Bs) : Calls Tryz.prog 36 #[ptr p, .string (SL n)] w (Acts Fd p w (removeS S n)) := by
  obtain ⟨mb, V, lf, h⟩ := h
  exact remove_any h hg hb n
theorem dRename (h : DiskAt w Fd p S) (hg : Good S) (hb : S.done ≤ 4000000000000000) (f t : Bs) : Calls Tryz.prog 144 #[ptr p, .string (SL f), .string (SL t)] w (Acts Fd p w (renameS S f t)) := by
  obtain ⟨mb, V, lf, h⟩ := h
  exact rename_any h hg hb f t
theorem dSync (h : DiskAt w Fd p S) (hg : Good S) (hb : S.done ≤ 4000000000000000) (n : Bs) : Calls Tryz.prog 167 #[ptr p, .string (SL n)] w (Acts Fd p w (syncS S n)) := by
  obtain ⟨mb, V, lf, h⟩ := h
  exact sync_any h hg hb n
theorem dCut (h : DiskAt w Fd p S) (z : Int) (hz : z ≤ 9223372036854775807) : Calls Tryz.prog 16 #[ptr p, .int .i64 z] w (Acts Fd p w (cutS S z)) := by
  obtain ⟨mb, V, lf, h⟩ := h
  exact cut_any h z hz
theorem dOn (h : DiskAt w Fd p S) : Calls Tryz.prog 18 #[ptr p] w fun e w' => e = .returned (.tuple #[]) ∧ DiskAt w' (grow Fd w w') p (onS S) ∧ Turn Fd w w' := by
  obtain ⟨mb, V, lf, h⟩ := h
  exact on_any h
theorem dAppend (h : DiskAt w Fd p S) (hF : ∀ k, Fd k → k < w.heap.size) (hg : Good S) (hb : S.done ≤ 4000000000000000) (n : Bs) (ao : Option Addr) (cap : Nat) (b : Bs) (B off : Nat) (hs : SrcAt w ao cap b B off) (hB : 0 < b.length → ¬ Fd B) :
    Calls Tryz.prog 37 #[ptr p, .string (SL n), .slice ao b.length cap] w (Acts Fd p w (appendS S n b)) := by
  obtain ⟨mb, V, lf, h⟩ := h
  exact append_any h hg hF hb n ao cap b B off hs hB
theorem dRead (h : DiskAt w Fd p S) (hg : Good S) (n : Bs) :
    Calls Tryz.prog 35 #[ptr p, .string (SL n)] w fun e w' => ∃ v, e = .returned (.tuple #[v, err (readS S n).1]) ∧ w'.ownsRow w.heap.size 5 1 v (readS S n).2.length ((readS S n).2.map B8) ∧ Below w.heap.size w w' := by
  obtain ⟨mb, V, lf, h⟩ := h
  exact read_any h n (fun c hc => by have := hg.file_le hc; unfold costF at this; omega)
theorem dHas (h : DiskAt w Fd p S) (n : Bs) (hn : n.length ≤ maxLen) : Calls Tryz.prog 76 #[ptr p, .string (SL n)] w fun e w' => e = .returned (.bool (thereF n S.fs)) ∧ w' = w := by
  obtain ⟨mb, V, lf, h⟩ := h
  exact has_any h n hn
theorem dFree (h : DiskAt w Fd p S) : Calls Tryz.prog 141 #[ptr p] w fun e w' => e = .returned (.int .i64 (wrap64 S.free)) ∧ w' = w := by
  obtain ⟨mb, V, lf, h⟩ := h
  exact free_in h
theorem dOps (h : DiskAt w Fd p S) : Calls Tryz.prog 22 #[ptr p] w fun e w' => e = .returned (.int .i64 (S.done : Int)) ∧ w' = w := by
  obtain ⟨mb, V, lf, h⟩ := h
  exact ops_in h
theorem rRemove (h : RefAt w Fr q S) (hF : ∀ k, Fr k → k < w.heap.size) (hg : Good S) (hb : S.done ≤ 4000000000000000) (n : Bs) (hn : n.length ≤ 9223372036854775807) : Calls Tryz.prog 53 #[ptr q, .string (SL n)] w (RActs Fr q w (removeS S n)) := by
  obtain ⟨ao, cap, P, g, off, h⟩ := h.opened
  exact refRemove_any h hF hg hb n hn
theorem rRename (h : RefAt w Fr q S) (hF : ∀ k, Fr k → k < w.heap.size) (hg : Good S) (hb : S.done ≤ 4000000000000000) (f t : Bs) (hf : f.length ≤ 9223372036854775807) (ht : t.length ≤ 9223372036854775807) :
    Calls Tryz.prog 110 #[ptr q, .string (SL f), .string (SL t)] w (RActs Fr q w (renameS S f t)) := by
  obtain ⟨ao, cap, P, g, off, h⟩ := h.opened
  exact refRename_any h hF hg hb f t hf ht
theorem rSync (h : RefAt w Fr q S) (hg : Good S) (hb : S.done ≤ 4000000000000000) (n : Bs) (hn : n.length ≤ 9223372036854775807) : Calls Tryz.prog 109 #[ptr q, .string (SL n)] w (RActs Fr q w (syncS S n)) := by
  obtain ⟨ao, cap, P, g, off, h⟩ := h.opened
  exact refSync_any h hg hb n hn
theorem rAppend (h : RefAt w Fr q S) (hF : ∀ k, Fr k → k < w.heap.size) (hg : Good S) (hb : S.done ≤ 4000000000000000) (n : Bs) (hn : n.length ≤ 9223372036854775807) (ao : Option Addr) (cap : Nat) (b : Bs) (B off : Nat) (hs : SrcAt w ao cap b B off) (hB : 0 < b.length → ¬ Fr B) :
    Calls Tryz.prog 108 #[ptr q, .string (SL n), .slice ao b.length cap] w (RActs Fr q w (appendS S n b)) := by
  obtain ⟨ao2, cap2, P, g, off2, h⟩ := h.opened
  exact refAppend_any h hF hg hb n hn ao cap b B off hs hB
theorem rRead (h : RefAt w Fr q S) (hg : Good S) (n : Bs) (hn : n.length ≤ 9223372036854775807) :
    Calls Tryz.prog 48 #[ptr q, .string (SL n)] w fun e w' => ∃ v, e = .returned (.tuple #[v, err (readS S n).1]) ∧ w'.ownsRow w.heap.size 5 1 v (readS S n).2.length ((readS S n).2.map B8) ∧ Below w.heap.size w w' := by
  obtain ⟨ao, cap, P, g, off, h⟩ := h.opened
  exact refRead_any h hg.rise (by have := hg.many; omega) n hn (fun c hc => by have := hg.file_le hc; unfold costF at this; omega)
theorem rHas (h : RefAt w Fr q S) (hg : Good S) (n : Bs) : Calls Tryz.prog 52 #[ptr q, .string (SL n)] w fun e w' => e = .returned (.bool (thereF n S.fs)) ∧ ∃ m, w' = w.drewN m := by
  obtain ⟨ao, cap, P, g, off, h⟩ := h.opened
  exact refHas_any h hg.rise (by have := hg.many; omega) n
theorem rFree (h : RefAt w Fr q S) (hL : S.fs.length ≤ 4000000000000) (hc : S.cap ≤ 1099511627776) : Calls Tryz.prog 80 #[ptr q] w fun e w' => e = .returned (.int .i64 (wrap64 S.free)) ∧ ∃ m, w' = w.drewN m := by
  obtain ⟨ao, cap, P, g, off, h⟩ := h.opened
  exact refFree_in h hL hc
end
end Go.Proofs.YtomgijcbekjlaaaGreat
namespace Go.Proofs.YtomgijcbekjlaaaGreat
open Go.RowKit
theorem disk_new (w : World) (c : Nat) (hc : c ≤ 1099511627776) : DiskAt ((w.alloc (.map #[] 0)).alloc (headO w.heap.size (c : Int) 0 (-1) false)) (fun k => w.heap.size ≤ k ∧ k < w.heap.size + 2) (w.heap.size + 1) (newS c) := by
  have h1 : (w.alloc (.map #[] 0)).heap.size = w.heap.size + 1 := by simp
  have hm : DiskMapAt ((w.alloc (.map #[] 0)).alloc (headO w.heap.size (c : Int) 0 (-1) false)) w.heap.size [] := (mapAt_new w).of_block (Below.heap_alloc _ _ _ (by omega))
  have hh := heap_alloc_new (w.alloc (.map #[] 0)) (headO w.heap.size (c : Int) 0 (-1) false)
  rw [h1] at hh
  refine ⟨w.heap.size, fun _ => .slice none 0 0, -1, ⟨?_, fun _ => rfl, ⟨by omega, by omega⟩, hm, ⟨fun _ _ h => (by cases h), fun _ _ h => (by cases h), fun _ _ _ _ h => (by cases h)⟩, ⟨by omega, by omega⟩, ⟨by omega, by omega⟩⟩⟩
  have e : wrap64 (newS c).free = (c : Int) := by
    show wrap64 ((c : Int) - (0 : Nat)) = _
    rw [IntWalk.wrap64_in _ ⟨by omega, by omega⟩]
    simp
  rw [e]
  exact hh
/-- A disk of the program's; its blocks are none of Z's, and what Z holds has not turned since w0. -/
def One (w0 : World) (Z : Nat → Prop) (w : World) (p : Nat) (S : St) : Prop := ∃ F, DiskAt w F p S ∧ (∀ k, F k → ¬ Z k ∧ k < w.heap.size) ∧ Turn (fun k => ¬ Z k) w0 w ∧ ∀ k, Z k → k < w0.heap.size
/-- All that is older than a world. -/
abbrev elder (w : World) : Nat → Prop := fun k => k < w.heap.size
section
variable {w0 w w' : World} {p : Nat} {Z F : Nat → Prop} {S S' : St}
theorem one_acts (hF : ∀ k, F k → ¬ Z k ∧ k < w.heap.size) (hb : Turn (fun k => ¬ Z k) w0 w) (hs : ∀ k, Z k → k < w0.heap.size) (hd : DiskAt w' (grow F w w') p S') (ht : Turn F w w') : One w0 Z w' p S' := by
  have h1 := ht.size
  have h2 := hb.size
  refine ⟨_, hd, fun k hk => ?_, hb.then ht (fun k _ hk => (hF k hk).1), hs⟩
  rcases hk with hk | hk
  · have := hF k hk; exact ⟨this.1, by omega⟩
  · exact ⟨fun hz => by have := hs k hz; omega, hk.2⟩
theorem One.below (h : One w0 Z w p S) (hb : Below w.heap.size w w') : One w0 Z w' p S := by
  obtain ⟨F, h1, h2, h3, h4⟩ := h
  exact ⟨F, h1.turn (Turn.of_below (fun _ => False) hb) (fun _ _ h => h), fun k hk => ⟨(h2 k hk).1, by have := (h2 k hk).2; have := hb.size; omega⟩, h3.trans (Turn.of_below _ hb), h4⟩
theorem One.turned (h : One w0 Z w p S) : Turn (fun k => ¬ Z k) w0 w := by
  obtain ⟨_, _, _, h, _⟩ := h
  exact h
theorem One.old (h : One w0 (elder w0) w p S) : Below w0.heap.size w0 w := by
  have t := h.turned
  exact ⟨t.os, t.tape, t.output, t.size, fun k hk => t.block k hk (fun hn => hn hk)⟩
/-- What has been made since is kept from here on too. -/
theorem One.snap {w1 : World} (h : One w0 Z w p S) (hb : Below w.heap.size w w1) : One w1 (fun k => Z k ∨ (w.heap.size ≤ k ∧ k < w1.heap.size)) w1 p S := by
  have h5 := h.turned.size
  obtain ⟨F, h1, h2, h3, h4⟩ := h
  have hs := hb.size
  refine ⟨F, h1.turn (Turn.of_below (fun _ => False) hb) (fun _ _ h => h), fun k hk => ⟨fun hz => ?_, by have := (h2 k hk).2; omega⟩, Turn.refl _ _, fun k hk => ?_⟩
  · rcases hz with hz | hz
    · exact (h2 k hk).1 hz
    · have := (h2 k hk).2; omega
  · rcases hk with hk | hk
    · have := h4 k hk; omega
    · exact hk.2
theorem One.free (h : One w0 Z w p S) : Calls Tryz.prog 141 #[ptr p] w fun e w' => e = .returned (.int .i64 (wrap64 S.free)) ∧ w' = w := by
  obtain ⟨F, h, _⟩ := h
  exact dFree h
theorem One.ops (h : One w0 Z w p S) : Calls Tryz.prog 22 #[ptr p] w fun e w' => e = .returned (.int .i64 (S.done : Int)) ∧ w' = w := by
  obtain ⟨F, h, _⟩ := h
  exact dOps h
theorem One.has (h : One w0 Z w p S) (n : Bs) (hn : n.length ≤ maxLen) : Calls Tryz.prog 76 #[ptr p, .string (SL n)] w fun e w' => e = .returned (.bool (thereF n S.fs)) ∧ w' = w := by
  obtain ⟨F, h, _⟩ := h
  exact dHas h n hn
theorem One.read (h : One w0 Z w p S) (hg : Good S) (n : Bs) : Calls Tryz.prog 35 #[ptr p, .string (SL n)] w fun e w' => ∃ v, e = .returned (.tuple #[v, err (readS S n).1]) ∧ w'.ownsRow w.heap.size 5 1 v (readS S n).2.length ((readS S n).2.map B8) ∧ Below w.heap.size w w' := by
  obtain ⟨F, h, _⟩ := h
  exact dRead h hg n
/-- What a call on one disk leaves. -/
def OneTo (w0 : World) (Z : Nat → Prop) (p : Nat) (r : Int × St) (e : Ending) (w' : World) : Prop := e = .returned (err r.1) ∧ One w0 Z w' p r.2
theorem One.remove (h : One w0 Z w p S) (hg : Good S) (hb : S.done ≤ 4000000000000000) (n : Bs) : Calls Tryz.prog 36 #[ptr p, .string (SL n)] w (OneTo w0 Z p (removeS S n)) := by
  obtain ⟨F, h1, h2, h3, h4⟩ := h
  refine (dRemove h1 hg hb n).mono ?_
  rintro e w' ⟨he, hd, ht⟩
  exact ⟨he, one_acts h2 h3 h4 hd ht⟩
theorem One.rename (h : One w0 Z w p S) (hg : Good S) (hb : S.done ≤ 4000000000000000) (f t : Bs) : Calls Tryz.prog 144 #[ptr p, .string (SL f), .string (SL t)] w (OneTo w0 Z p (renameS S f t)) := by
  obtain ⟨F, h1, h2, h3, h4⟩ := h
  refine (dRename h1 hg hb f t).mono ?_
  rintro e w' ⟨he, hd, ht⟩
  exact ⟨he, one_acts h2 h3 h4 hd ht⟩
theorem One.sync (h : One w0 Z w p S) (hg : Good S) (hb : S.done ≤ 4000000000000000) (n : Bs) : Calls Tryz.prog 167 #[ptr p, .string (SL n)] w (OneTo w0 Z p (syncS S n)) := by
  obtain ⟨F, h1, h2, h3, h4⟩ := h
  refine (dSync h1 hg hb n).mono ?_
  rintro e w' ⟨he, hd, ht⟩
  exact ⟨he, one_acts h2 h3 h4 hd ht⟩
theorem One.cut (h : One w0 Z w p S) (z : Int) (hz : z ≤ 9223372036854775807) : Calls Tryz.prog 16 #[ptr p, .int .i64 z] w (OneTo w0 Z p (cutS S z)) := by
  obtain ⟨F, h1, h2, h3, h4⟩ := h
  refine (dCut h1 z hz).mono ?_
  rintro e w' ⟨he, hd, ht⟩
  exact ⟨he, one_acts h2 h3 h4 hd ht⟩
theorem One.on (h : One w0 Z w p S) : Calls Tryz.prog 18 #[ptr p] w fun e w' => e = .returned (.tuple #[]) ∧ One w0 Z w' p (onS S) := by
  obtain ⟨F, h1, h2, h3, h4⟩ := h
  refine (dOn h1).mono ?_
  rintro e w' ⟨he, hd, ht⟩
  exact ⟨he, one_acts h2 h3 h4 hd ht⟩
theorem One.append (h : One w0 Z w p S) (hg : Good S) (hb : S.done ≤ 4000000000000000) (n : Bs) (v : Value) (b : Bs) (hv : BytesAt w Z v b) : Calls Tryz.prog 37 #[ptr p, .string (SL n), v] w (OneTo w0 Z p (appendS S n b)) := by
  obtain ⟨F, h1, h2, h3, h4⟩ := h
  obtain ⟨ao, cap, B, off, rfl, hs, hB⟩ := hv
  refine (dAppend h1 (fun k hk => (h2 k hk).2) hg hb n ao cap b B off hs (fun hp hF => (h2 B hF).1 (hB hp))).mono ?_
  rintro e w' ⟨he, hd, ht⟩
  exact ⟨he, one_acts h2 h3 h4 hd ht⟩
end
theorem one_new (w : World) (c : Nat) (hc : c ≤ 1099511627776) : Calls Tryz.prog 32 #[.int .i64 (c : Int)] w fun e w' => ∃ p, e = .returned (.tuple #[ptr p, err 0]) ∧ One w (elder w) w' p (newS c) := by
  refine (new_yes c hc w).mono ?_
  rintro e w' ⟨rfl, rfl⟩
  refine ⟨_, rfl, _, disk_new w c hc, fun k hk => ⟨fun hz => by have := hk.1; have : k < w.heap.size := hz; omega, by simp; omega⟩, Turn.of_below _ (((Below.refl _ _).alloc (Nat.le_refl _) _).alloc (by simp) _), fun _ h => h⟩
end Go.Proofs.YtomgijcbekjlaaaGreat
namespace Go.Proofs.YtomgijcbekjlaaaGreat
open Go.RowKit
/-- Read, its answer as a slice in new memory. -/
theorem One.tells {w0 w : World} {Z : Nat → Prop} {p : Nat} {S : St} (h : One w0 Z w p S) (hg : Good S) (n : Bs) : Calls Tryz.prog 35 #[ptr p, .string (SL n)] w fun e w' => ∃ ao cap B, e = .returned (.tuple #[.slice ao (readS S n).2.length cap, err (readS S n).1]) ∧ SrcAt w' ao cap (readS S n).2 B 0 ∧ (0 < (readS S n).2.length → w.heap.size ≤ B) ∧ Below w.heap.size w w' := by
  refine (h.read hg n).mono ?_
  rintro e w' ⟨v, he, hown, hb⟩
  obtain ⟨ao, cap, B, rfl, h2, h3⟩ := src_of_own hown
  exact ⟨ao, cap, B, he, h2, h3, hb⟩
theorem texts_form {x : Nat} {w : World} {v : Value} {l : List OB} (h : TxtsOwn x w v l) : ∃ ao cap, v = .slice ao l.length cap := by
  rcases h.2 with ⟨rfl, h0⟩ | ⟨g, cap, cur, rfl, _⟩
  · rw [h0]; exact ⟨none, 0, rfl⟩
  · exact ⟨_, cap, rfl⟩
/-- What has been made since belongs to what is kept while a call runs. -/
theorem One.with_new {w0 w w1 : World} {Z : Nat → Prop} {p : Nat} {S : St} (h : One w0 Z w p S) (hb : Below w.heap.size w w1) {v : Value} {b : Bs} (hv : BytesAt w1 (fun k => w.heap.size ≤ k ∧ k < w1.heap.size) v b) :
    ∃ Y : Nat → Prop, One w1 (fun k => Z k ∨ Y k) w1 p S ∧ BytesAt w1 (fun k => Z k ∨ Y k) v b :=
  ⟨fun k => w.heap.size ≤ k ∧ k < w1.heap.size, h.snap hb, hv.mono fun _ _ h => .inr h⟩
theorem made_bytes (w : World) (bs : List UInt8) (fr : Nat × Nat) (hm : bs.length ≤ maxLen) : BytesAt (w.alloc (.cells (cells8 bs) 5 fr)) (fun k => w.heap.size ≤ k ∧ k < (w.alloc (.cells (cells8 bs) 5 fr)).heap.size) (.slice (some ⟨w.heap.size, 0, none⟩) bs.length bs.length) bs :=
  ⟨_, _, w.heap.size, 0, rfl, ⟨Nat.le_refl _, hm, fun _ => rfl, (fun h => by cases h), fun _ => by simp, fun j hj => by
    rw [Nat.zero_add, cell_of_row _ _ _ _ _ _ (heap_alloc_new w _)]
    simp [cells8, B8, hj]⟩, fun _ => ⟨Nat.le_refl _, by simp⟩⟩
/-- Name: "o/" and the digits. -/
def NameSpec : Prop := ∀ (id : Bs) (w : World), id.length ≤ 35184372088832 → Calls Tryz.prog 29 #[.string (SL id)] w fun e w' => e = .returned (.string (SL (nameL id))) ∧ Below w.heap.size w w'
/-- What Get leaves: its answer lies in new memory. -/
def GotTo (w : World) (r : Int × Bs) (e : Ending) (w' : World) : Prop := ∃ ao cap B off, e = .returned (.tuple #[.slice ao r.2.length cap, err r.1]) ∧ SrcAt w' ao cap r.2 B off ∧ (0 < r.2.length → w.heap.size ≤ B) ∧ Below w.heap.size w w'
def GetSpec : Prop := ∀ (w0 w : World) (Z : Nat → Prop) (p : Nat) (S : St) (id : Bs), One w0 Z w p S → Good S → id.length ≤ 35184372088832 → Calls Tryz.prog 12 #[ptr p, .string (SL id)] w (GotTo w (getL S.fs id))
/-- What Put leaves. -/
def PutsTo (w0 : World) (Z : Nat → Prop) (p : Nat) (r : Int × Bs × St) (e : Ending) (w' : World) : Prop := e = .returned (.tuple #[.string (SL r.2.1), err r.1]) ∧ One w0 Z w' p r.2.2
def PutSpec : Prop := ∀ (w0 w : World) (Z : Nat → Prop) (p : Nat) (S : St) (v : Value) (raw : Bs), One w0 Z w p S → Good S → S.done + S.cap + 10 ≤ 4000000000000000 → BytesAt w Z v raw → raw.length ≤ 140737488351232 → Calls Tryz.prog 20 #[ptr p, v] w (PutsTo w0 Z p (putL S raw))
def DropSpec : Prop := ∀ (w0 w : World) (Z : Nat → Prop) (p : Nat) (S : St) (id : Bs), One w0 Z w p S → Good S → S.done ≤ 4000000000000000 → id.length ≤ 35184372088832 → Calls Tryz.prog 14 #[ptr p, .string (SL id)] w (OneTo w0 Z p (dropL S id))
def IdsSpec : Prop := ∀ (w0 w : World) (Z : Nat → Prop) (p : Nat) (S : St), One w0 Z w p S → Good S → Calls Tryz.prog 24 #[ptr p] w fun e w' => ∃ v, e = .returned v ∧ TxtsOwn w.heap.size w' v (idsL S.fs) ∧ Below w.heap.size w w'
/-- All five. -/
structure LooseSpec : Prop where
  name : NameSpec
  get : GetSpec
  put : PutSpec
  drop : DropSpec
  ids : IdsSpec
end Go.Proofs.YtomgijcbekjlaaaGreat
namespace Go.Proofs.YtomgijcbekjlaaaGreat
open Go.RowKit
theorem SL_folder (id : Bs) : (⟨#[111, 47]⟩ : ByteArray) ++ SL (hexL id) = SL (nameL id) := SL_cat [111, 47] (hexL id)
set_option maxRecDepth 100000 in
set_option maxHeartbeats 800000 in
theorem looseName_any : NameSpec := fun id w hl => by
  have h := hex_any (SL id) w (by rw [SL_size]; omega)
  have e1 : (SL id).data.toList = id := rfl
  rw [e1] at h
  have hcat := SL_folder id
  have hz := SL_size (hexL id)
  rw [hexL_length] at hz
  have H := Lib.hid h
  clear h e1
  go_enter Tryz.func29, Tryz.ntmps29
  go_wp2_with fail
  refine H.out.mono ?_
  rintro e w1 ⟨rfl, b1⟩
  go_wp2_with fail
  go_ret
  exact ⟨rfl, b1⟩
end Go.Proofs.YtomgijcbekjlaaaGreat
namespace Go.Proofs.YtomgijcbekjlaaaGreat
open Go.RowKit
theorem folder_long {n : Bs} (h : n.take 2 = [111, 47]) : 2 ≤ n.length := by
  have := congrArg List.length h
  rw [List.length_take] at this
  have e : ([111, 47] : Bs).length = 2 := rfl
  omega
set_option maxRecDepth 100000 in
theorem pre_yes (n : Bs) (hn : n.length ≤ 4611686018427387904) (h : n.take 2 = [111, 47]) (w : World) : Calls Tryz.prog 183 #[.string (SL n), .string ⟨#[111, 47]⟩] w fun e w' => e = .returned (.bool true) ∧ w' = w := by
  have h2 := folder_long h
  have hs : (SL n).size = n.length := SL_size n
  obtain ⟨k, hk⟩ : ∃ k, k = n.length := ⟨_, rfl⟩
  rw [← hk] at hs h2 hn
  have h1 : (⟨#[111, 47]⟩ : ByteArray).size = 2 := rfl
  have g1 : (k : Int) ≥ 2 := by omega
  have hx : (SL n).extract 0 2 = SL (n.take 2) := by rw [SL_extract]; rfl
  have q1 : ((SL (n.take 2)).toList == [111, 47]) = true := by rw [SL_toList, h]; rfl
  clear h hk
  go_enter Tryz.func183, Tryz.ntmps183
  go_wp2
  go_ret
  exact ⟨rfl, rfl⟩
set_option maxRecDepth 100000 in
theorem pre_no (n : Bs) (hn : n.length ≤ 4611686018427387904) (h : ¬ n.take 2 = [111, 47]) (w : World) : Calls Tryz.prog 183 #[.string (SL n), .string ⟨#[111, 47]⟩] w fun e w' => e = .returned (.bool false) ∧ w' = w := by
  have hs : (SL n).size = n.length := SL_size n
  obtain ⟨k, hk⟩ : ∃ k, k = n.length := ⟨_, rfl⟩
  rw [← hk] at hs hn
  have h1 : (⟨#[111, 47]⟩ : ByteArray).size = 2 := rfl
  have q1 : ((SL (n.take 2)).toList == [111, 47]) = false := by rw [SL_toList]; exact beq_eq_false_iff_ne.2 h
  clear h hk
  by_cases h2 : 2 ≤ k
  · have g1 : (k : Int) ≥ 2 := by omega
    have hx : (SL n).extract 0 2 = SL (n.take 2) := by rw [SL_extract]; rfl
    go_enter Tryz.func183, Tryz.ntmps183
    go_wp2
    go_ret
    exact ⟨rfl, rfl⟩
  · have g1 : ¬ (k : Int) ≥ 2 := by omega
    go_enter Tryz.func183, Tryz.ntmps183
    go_wp2
    go_ret
    exact ⟨rfl, rfl⟩
/-- What CutPrefix tells. -/
def cutV (n : Bs) : Value := if n.take 2 = [111, 47] then .tuple #[.string (SL (n.drop 2)), .bool true] else .tuple #[.string (SL n), .bool false]
set_option maxRecDepth 100000 in
theorem cutPre_any (n : Bs) (hn : n.length ≤ 4611686018427387904) (w : World) : Calls Tryz.prog 151 #[.string (SL n), .string ⟨#[111, 47]⟩] w fun e w' => e = .returned (cutV n) ∧ w' = w := by
  have hin : Calls Tryz.prog 173 #[.string (SL n), .string ⟨#[111, 47]⟩] w fun e w' => e = .returned (cutV n) ∧ w' = w := by
    unfold cutV
    by_cases h : n.take 2 = [111, 47]
    · rw [if_pos h]
      have hp := pre_yes n hn h w
      have h2 := folder_long h
      have hs : (SL n).size = n.length := SL_size n
      have h1 : (⟨#[111, 47]⟩ : ByteArray).size = 2 := rfl
      have hx3 : (SL n).extract 2 n.length = SL (n.drop 2) := by rw [SL_extract, List.take_length]
      obtain ⟨k, hk⟩ : ∃ k, k = n.length := ⟨_, rfl⟩
      rw [← hk] at hs h2 hn hx3
      have HP := Lib.hid hp
      clear hp h hk
      go_enter Tryz.func173, Tryz.ntmps173
      go_wp2_with (go_at_call 183; refine HP.out.mono ?_; rintro e w' ⟨rfl, rfl⟩)
      go_ret2
      exact ⟨rfl, rfl⟩
    · rw [if_neg h]
      have hp := pre_no n hn h w
      have HP := Lib.hid hp
      clear hp h hn
      go_enter Tryz.func173, Tryz.ntmps173
      go_wp2_with (go_at_call 183; refine HP.out.mono ?_; rintro e w' ⟨rfl, rfl⟩)
      go_ret2
      exact ⟨rfl, rfl⟩
  obtain ⟨x, b, hv⟩ : ∃ x b, cutV n = .tuple #[.string x, .bool b] := by
    unfold cutV
    split
    · exact ⟨_, _, rfl⟩
    · exact ⟨_, _, rfl⟩
  rw [hv] at hin ⊢
  have HI := Lib.hid hin
  clear hin hv hn
  go_enter Tryz.func151, Tryz.ntmps151
  go_wp2_with (go_at_call 173; refine HI.out.mono ?_; rintro e w' ⟨rfl, rfl⟩)
  go_ret2
  exact ⟨rfl, rfl⟩
/-- What idOf tells. -/
def IdOfTo (n : Bs) (w : World) (e : Ending) (w' : World) : Prop := (∃ x b, e = .returned (.tuple #[.string (SL x), .bool b]) ∧ ((b = true ∧ unnameL n = some x) ∨ (b = false ∧ unnameL n = none))) ∧ Below w.heap.size w w'
set_option maxRecDepth 100000 in
set_option maxHeartbeats 800000 in
theorem idOf_any (n : Bs) (hn : n.length ≤ 281474976710656) (w : World) : Calls Tryz.prog 115 #[.string (SL n)] w (IdOfTo n w) := by
  have hc := cutPre_any n (by omega) w
  by_cases h2 : n.take 2 = [111, 47]
  · have e : cutV n = .tuple #[.string (SL (n.drop 2)), .bool true] := by unfold cutV; rw [if_pos h2]
    rw [e] at hc
    have hu := unhex_any (SL (n.drop 2)) w (by rw [SL_size, List.length_drop]; omega)
    have HC := Lib.hid hc
    clear hc e
    cases hx : unhexL (n.drop 2) with
    | none =>
      have hv : unhexV (SL (n.drop 2)).data.toList = .tuple #[.string (SL []), .int .i64 1] := unhexV_none hx
      have hno : unnameL n = none := by unfold unnameL; split; exact hx; rfl
      rw [hv] at hu
      have HU := Lib.hid hu
      have HNO := Lib.hid hno
      clear hu hv hx hno h2 hn
      go_enter Tryz.func115, Tryz.ntmps115
      go_wp2_with (first | (go_at_call 151; refine HC.out.mono ?_; rintro e w1 ⟨rfl, rfl⟩) | (go_at_call 152; refine HU.out.mono ?_; rintro e w2 ⟨rfl, b2⟩))
      go_ret2
      exact ⟨⟨[], false, rfl, .inr ⟨rfl, HNO.out⟩⟩, b2⟩
    | some id =>
      have hv : unhexV (SL (n.drop 2)).data.toList = .tuple #[.string (SL id), .int .i64 0] := unhexV_some hx
      have hlen := unhexL_length _ _ hx
      rw [List.length_drop] at hlen
      have hle := folder_long h2
      rw [hv] at hu
      have HU := Lib.hid hu
      have hsz := SL_size id
      by_cases h32 : id.length = 32
      · have hyes : unnameL n = some id := by unfold unnameL; rw [if_pos ⟨by omega, h2⟩]; exact hx
        have q : (((SL id).size : Int) == 32) = true := by rw [hsz, h32]; rfl
        have HY := Lib.hid hyes
        clear hu hv hx hyes h2 hn hlen hle hsz h32
        go_enter Tryz.func115, Tryz.ntmps115
        go_wp2_with (first | (go_at_call 151; refine HC.out.mono ?_; rintro e w1 ⟨rfl, rfl⟩) | (go_at_call 152; refine HU.out.mono ?_; rintro e w2 ⟨rfl, b2⟩))
        go_ret2
        exact ⟨⟨id, true, rfl, .inl ⟨rfl, HY.out⟩⟩, b2⟩
      · have hno : unnameL n = none := by unfold unnameL; rw [if_neg (by rintro ⟨k, _⟩; omega)]
        have q : (((SL id).size : Int) == 32) = false := by rw [hsz, beq_eq_false_iff_ne]; omega
        have HNO := Lib.hid hno
        clear hu hv hx hno h2 hn hlen hle hsz h32
        go_enter Tryz.func115, Tryz.ntmps115
        go_wp2_with (first | (go_at_call 151; refine HC.out.mono ?_; rintro e w1 ⟨rfl, rfl⟩) | (go_at_call 152; refine HU.out.mono ?_; rintro e w2 ⟨rfl, b2⟩))
        go_ret2
        exact ⟨⟨id, false, rfl, .inr ⟨rfl, HNO.out⟩⟩, b2⟩
  · have e : cutV n = .tuple #[.string (SL n), .bool false] := by unfold cutV; rw [if_neg h2]
    have hno : unnameL n = none := by unfold unnameL; rw [if_neg (fun h => h2 h.2)]
    rw [e] at hc
    have HC := Lib.hid hc
    have HNO := Lib.hid hno
    clear hc e h2 hn hno
    go_enter Tryz.func115, Tryz.ntmps115
    go_wp2_with (go_at_call 151; refine HC.out.mono ?_; rintro e w1 ⟨rfl, rfl⟩)
    go_ret2
    exact ⟨⟨[], false, rfl, .inr ⟨rfl, HNO.out⟩⟩, Below.refl _ _⟩
end Go.Proofs.YtomgijcbekjlaaaGreat
namespace Go.Proofs.YtomgijcbekjlaaaGreat
open Go.RowKit
theorem info9 : (Tryz.prog.info? 9).map (fun i => (i.zero, i.size, i.bytes)) = some (some (.string ByteArray.empty), 1, 16) := by kernel_rfl
theorem run_append_text (w : World) (ty : TypeId) (base : Nat) (v : Value) (n : Nat) (xs : List Value) (hown : w.ownsRow base 9 1 v n xs) (ad : Addr) (c : Nat) (u : Value) (hc : ∀ j x, ([u] : List Value)[j]? = some x → w.cell? (ad.add j) = some x) (h1c : u.oneCell' = true) (hb : n + 1 ≤ 8000000000000) (hbase : base ≤ w.heap.size) :
    ∃ v' w', (Builtin.append_ #[31, 31] ty #[v, .slice (some ad) 1 c]).run Tryz.prog w = .ok v' w' ∧ w'.ownsRow base 9 1 v' (n + 1) (xs ++ [u]) ∧ w.grownBy w' v.ownBlock := by
  obtain ⟨i0, hi, hz0, hz1, hz2⟩ := info_parts info9
  obtain ⟨v', w', hrun, r1, r2, _⟩ := run_append_own_wide (P := Tryz.prog) w base 31 ty 9 i0 (.string ByteArray.empty) 1 16 Tryz.underlying31 hi hz0 hz1 hz2 rfl (by decide) v n xs hown ad 1 c [u] rfl hc (fun x hx => by simp at hx; subst hx; exact h1c) (by unfold maxLen; omega) (by omega) hbase
  exact ⟨v', w', hrun, r1, r2⟩
theorem wpList_append_text {ops : Array Oper} {rest : List Oper} {o : Oper} {a : Act} {w : World} {Q : Exit → Act → World → Prop}
    (hgd : o.guard = none) (s x : Operand) (hop : o.op = Op.call { callee := Callee.builtin Builtin.append, args := #[s, x], argTypes := #[31, 31] })
    (base : Nat) (v : Value) (n : Nat) (xs : List Value) (hS : a.eval s = v) (hown : w.ownsRow base 9 1 v n xs) (ad : Addr) (c : Nat) (hX : a.eval x = .slice (some ad) 1 c) (u : Value) (hc : ∀ j x, ([u] : List Value)[j]? = some x → w.cell? (ad.add j) = some x) (h1c : u.oneCell' = true) (hb : n + 1 ≤ 8000000000000) (hbase : base ≤ w.heap.size)
    (hK : ∀ v' w', Hid (w'.ownsRow base 9 1 v' (n + 1) (xs ++ [u])) → Hid (w.grownBy w' v.ownBlock) → wpList Tryz.prog ops Q rest (a.put o.dst v') w') : wpList Tryz.prog ops Q (o :: rest) a w := by
  refine wpList_plain hgd fun K hK' => ?_
  obtain ⟨v', w', hrun, r1, r2⟩ := run_append_text w o.type base v n xs hown ad c u hc h1c hb hbase
  unfold Oper.wp
  simp [execOp, hop, resolve, invoke, builtin, hS, hX, hrun, Result.andThen]
  exact hK' _ _ (hK v' w' r1 r2)
section
variable {w : World} {q : Nat} {G : Nat → Prop} {ao : Option Addr} {cap : Nat} {P : List (Bs × Value)} {g off : Nat} {L : Files}
set_option maxRecDepth 100000 in
set_option maxHeartbeats 1600000 in
theorem refNames_any (h : ListAt w q G ao cap P g off L) (hL : L.length ≤ 4000000000000) :
    Calls Tryz.prog 40 #[ptr q] w fun e w' => ∃ v, e = .returned v ∧ w'.ownsRow w.heap.size 9 1 v L.length (L.map fun f => .string (SL f.1)) ∧ Below w.heap.size w w' := by
  have hcell := h.cell
  obtain ⟨N, hN⟩ : ∃ N, N = L.length := ⟨_, rfl⟩
  obtain ⟨B, hB⟩ : ∃ B, B = w.heap.size := ⟨_, rfl⟩
  rw [← hN] at hL hcell ⊢
  rw [← hB]
  have hqB : q < B := by rw [hB]; exact World.block_lt_of_cell? w _ hcell
  have hwB : B ≤ w.heap.size := by omega
  have HN := Lib.hid hN
  have HB := Lib.hid hB
  have HH := Lib.hid h
  clear hN hB h
  go_enter Tryz.func40, Tryz.ntmps40
  go_wp2
  go_loopw [3, 4] (fun x i W => ∃ (v : Value) (k : Nat), v = x ∧ i = .int .i64 (k : Int) ∧ k ≤ N ∧ W.ownsRow B 9 1 v k ((L.take k).map fun f => .string (SL f.1)) ∧ Below B w W) (fun _ i _ => N - (intOf i).toNat)
  case atStart => exact ⟨.slice none 0 0, 0, rfl, rfl, Nat.zero_le _, World.ownsRow_nil _ _ _ _, Below.refl _ _⟩
  case round =>
    obtain ⟨v, k, rfl, rfl, hk, hown, hW⟩ := hrel
    have d0 : wr.cell? ⟨q, 1, none⟩ = some (.slice ao N cap) := (hW.cell (p := ⟨q, 1, none⟩) hqB).trans hcell
    by_cases hlt : k < N
    · have hk2 : k < L.length := by rw [← HN.out]; exact hlt
      obtain ⟨⟨n, b⟩, hf⟩ : ∃ f, L[k]? = some f := ⟨_, List.getElem?_eq_getElem hk2⟩
      obtain ⟨e1, c1, _⟩ := HH.out.name hf
      subst e1
      have hgl : g < B := by rw [HB.out]; exact World.block_lt_of_cell? w _ c1
      have d1 := (hW.cell (p := ⟨g, off + k * 2, none⟩) hgl).trans c1
      have i0 : (0 : Int) ≤ (k : Int) := by omega
      have i1 : (k : Int) < (N : Int) := by omega
      have hz := hW.size
      have htake : (L.take (k + 1)).map (fun f => Value.string (SL f.1)) = (L.take k).map (fun f => Value.string (SL f.1)) ++ [.string (SL n)] := by rw [List.take_add_one, hf, List.map_append]; rfl
      have HT := Lib.hid htake
      have HO := Lib.hid hown
      clear htake c1 hf hown
      go_wp2_with (at_builtin; refine wpList_append_text rfl _ _ rfl B v k _ rfl (HO.out.alloc _) ⟨_, 0, none⟩ 1 rfl (.string (SL n)) (cells_new wr _ _) rfl (by omega) (by simp; omega) ?_; intro v4 w4 hown4 hg4; have HB4 := Lib.hid (((Below.refl B wr).alloc (by omega) (Obj.cells #[.string (SL n)] 9)).trans (below_appends (HO.out.alloc _) hg4.out (by simp; omega))); clear hg4)
      have ho4 := hown4.out
      rw [← HT.out] at ho4
      have HO4 := Lib.hid ho4
      have hWn := hW.trans HB4.out
      clear hown4 ho4 HB4
      go_roundw
      case rel => exact ⟨v4, k + 1, rfl, by go_num, by omega, HO4.out, hWn⟩
      case measure => simp [intOf]; omega
    · obtain rfl : k = N := by omega
      rw [List.take_of_length_le (by rw [← HN.out]; exact Nat.le_refl _)] at hown
      have HO := Lib.hid hown
      have i1 : ¬ ((k : Int) < (k : Int)) := by omega
      clear hown
      go_wp2
      go_ret
      exact ⟨_, rfl, HO.out, hW⟩
end
end Go.Proofs.YtomgijcbekjlaaaGreat
namespace Go.Proofs.YtomgijcbekjlaaaGreat
open Go.RowKit
/-- A disk of the document's; its blocks are none of Z's, and what Z holds has not turned since w0. -/
def ROne (w0 : World) (Z : Nat → Prop) (w : World) (q : Nat) (S : St) : Prop := ∃ F, RefAt w F q S ∧ (∀ k, F k → ¬ Z k ∧ k < w.heap.size) ∧ Turn (fun k => ¬ Z k) w0 w ∧ ∀ k, Z k → k < w0.heap.size
def ROneTo (w0 : World) (Z : Nat → Prop) (q : Nat) (r : Int × St) (e : Ending) (w' : World) : Prop := e = .returned (err r.1) ∧ ROne w0 Z w' q r.2
section
variable {w0 w w' : World} {q : Nat} {Z F : Nat → Prop} {S S' T : St}
theorem rone_acts (hF : ∀ k, F k → ¬ Z k ∧ k < w.heap.size) (hb : Turn (fun k => ¬ Z k) w0 w) (hs : ∀ k, Z k → k < w0.heap.size) (hd : RefAt w' (grow F w w') q S') (ht : Turn F w w') : ROne w0 Z w' q S' := by
  have h1 := ht.size
  have h2 := hb.size
  refine ⟨_, hd, fun k hk => ?_, hb.then ht (fun k _ hk => (hF k hk).1), hs⟩
  rcases hk with hk | hk
  · have := hF k hk; exact ⟨this.1, by omega⟩
  · exact ⟨fun hz => by have := hs k hz; omega, hk.2⟩
theorem ROne.below (h : ROne w0 Z w q S) (hb : Below w.heap.size w w') : ROne w0 Z w' q S := by
  obtain ⟨F, h1, h2, h3, h4⟩ := h
  exact ⟨F, h1.turn (Turn.of_below (fun _ => False) hb) (fun _ _ h => h), fun k hk => ⟨(h2 k hk).1, by have := (h2 k hk).2; have := hb.size; omega⟩, h3.trans (Turn.of_below _ hb), h4⟩
theorem ROne.drewN (h : ROne w0 Z w q S) (m : Nat) : ROne w0 Z (w.drewN m) q S := h.below (below_drewN (Below.refl _ _) m)
theorem ROne.turned (h : ROne w0 Z w q S) : Turn (fun k => ¬ Z k) w0 w := by
  obtain ⟨_, _, _, h, _⟩ := h
  exact h
theorem ROne.bytes (h : ROne w0 Z w q S) (h' : ROne w0 Z w' q T) {v : Value} {b : Bs} (hv : BytesAt w Z v b) : BytesAt w' Z v b := by
  obtain ⟨ao, cap, B, off, rfl, hs, hB⟩ := hv
  have t' := h'.turned
  obtain ⟨_, _, _, t, ho⟩ := h
  refine ⟨ao, cap, B, off, rfl, ⟨hs.le, hs.top, hs.src, hs.bare, fun p => Nat.lt_of_lt_of_le (ho B (hB p)) t'.size, fun j hj => ?_⟩, hB⟩
  have hz := hB (by omega)
  have h1 := t.block B (ho B hz) (fun h => h hz)
  have h2 := t'.block B (ho B hz) (fun h => h hz)
  rw [World.cell?_of_block (w := w) (w' := w') (a := ⟨B, off + j, none⟩) (h2.trans h1.symm)]
  exact hs.cell j hj
theorem ROne.snap {w1 : World} (h : ROne w0 Z w q S) (hb : Below w.heap.size w w1) : ROne w1 (fun k => Z k ∨ (w.heap.size ≤ k ∧ k < w1.heap.size)) w1 q S := by
  have h5 := h.turned.size
  obtain ⟨F, h1, h2, h3, h4⟩ := h
  have hs := hb.size
  refine ⟨F, h1.turn (Turn.of_below (fun _ => False) hb) (fun _ _ h => h), fun k hk => ⟨fun hz => ?_, by have := (h2 k hk).2; omega⟩, Turn.refl _ _, fun k hk => ?_⟩
  · rcases hz with hz | hz
    · exact (h2 k hk).1 hz
    · have := (h2 k hk).2; omega
  · rcases hk with hk | hk
    · have := h4 k hk; omega
    · exact hk.2
theorem ROne.back {w1 w2 w3 : World} {Y : Nat → Prop} (h : ROne w0 Z w1 q S) (hb : Below w1.heap.size w1 w2) (h' : ROne w2 (fun k => Z k ∨ Y k) w3 q T) : ROne w0 Z w3 q T := by
  have t := h.turned
  obtain ⟨_, _, _, _, ho⟩ := h
  obtain ⟨F, h1, h2, h3, h4⟩ := h'
  exact ⟨F, h1, fun k hk => ⟨fun hz => (h2 k hk).1 (.inl hz), (h2 k hk).2⟩, (t.trans (Turn.of_below _ hb)).then h3 (fun k _ hk hz => hk (.inl hz)), ho⟩
theorem ROne.remove (h : ROne w0 Z w q S) (hg : Good S) (hb : S.done ≤ 4000000000000000) (n : Bs) (hn : n.length ≤ 9223372036854775807) : Calls Tryz.prog 53 #[ptr q, .string (SL n)] w (ROneTo w0 Z q (removeS S n)) := by
  obtain ⟨F, h1, h2, h3, h4⟩ := h
  refine (rRemove h1 (fun k hk => (h2 k hk).2) hg hb n hn).mono ?_
  rintro e w' ⟨he, hd, ht⟩
  exact ⟨he, rone_acts h2 h3 h4 hd ht⟩
theorem ROne.rename (h : ROne w0 Z w q S) (hg : Good S) (hb : S.done ≤ 4000000000000000) (f t : Bs) (hf : f.length ≤ 9223372036854775807) (ht : t.length ≤ 9223372036854775807) : Calls Tryz.prog 110 #[ptr q, .string (SL f), .string (SL t)] w (ROneTo w0 Z q (renameS S f t)) := by
  obtain ⟨F, h1, h2, h3, h4⟩ := h
  refine (rRename h1 (fun k hk => (h2 k hk).2) hg hb f t hf ht).mono ?_
  rintro e w' ⟨he, hd, ht⟩
  exact ⟨he, rone_acts h2 h3 h4 hd ht⟩
theorem ROne.sync (h : ROne w0 Z w q S) (hg : Good S) (hb : S.done ≤ 4000000000000000) (n : Bs) (hn : n.length ≤ 9223372036854775807) : Calls Tryz.prog 109 #[ptr q, .string (SL n)] w (ROneTo w0 Z q (syncS S n)) := by
  obtain ⟨F, h1, h2, h3, h4⟩ := h
  refine (rSync h1 hg hb n hn).mono ?_
  rintro e w' ⟨he, hd, ht⟩
  exact ⟨he, rone_acts h2 h3 h4 hd ht⟩
theorem ROne.append (h : ROne w0 Z w q S) (hg : Good S) (hb : S.done ≤ 4000000000000000) (n : Bs) (hn : n.length ≤ 9223372036854775807) (v : Value) (b : Bs) (hv : BytesAt w Z v b) : Calls Tryz.prog 108 #[ptr q, .string (SL n), v] w (ROneTo w0 Z q (appendS S n b)) := by
  obtain ⟨F, h1, h2, h3, h4⟩ := h
  obtain ⟨ao, cap, B, off, rfl, hs, hB⟩ := hv
  refine (rAppend h1 (fun k hk => (h2 k hk).2) hg hb n hn ao cap b B off hs (fun hp hF => (h2 B hF).1 (hB hp))).mono ?_
  rintro e w' ⟨he, hd, ht⟩
  exact ⟨he, rone_acts h2 h3 h4 hd ht⟩
theorem ROne.has (h : ROne w0 Z w q S) (hg : Good S) (n : Bs) : Calls Tryz.prog 52 #[ptr q, .string (SL n)] w fun e w' => e = .returned (.bool (thereF n S.fs)) ∧ ∃ m, w' = w.drewN m := by
  obtain ⟨F, h, _⟩ := h
  exact rHas h hg n
theorem ROne.free (h : ROne w0 Z w q S) (hg : Good S) : Calls Tryz.prog 80 #[ptr q] w fun e w' => e = .returned (.int .i64 (wrap64 S.free)) ∧ ∃ m, w' = w.drewN m := by
  obtain ⟨F, h, _⟩ := h
  exact rFree h (by have := hg.many; omega) hg.top
theorem ROne.names (h : ROne w0 Z w q S) (hg : Good S) : Calls Tryz.prog 40 #[ptr q] w fun e w' => ∃ v, e = .returned v ∧ w'.ownsRow w.heap.size 9 1 v S.fs.length (S.fs.map fun f => .string (SL f.1)) ∧ Below w.heap.size w w' := by
  obtain ⟨F, h, _⟩ := h
  obtain ⟨ao, cap, P, g, off, h⟩ := h.opened
  exact refNames_any (⟨cell_of_row _ _ _ _ _ _ h.head, h.raw, h.has⟩) (by have := hg.many; omega)
/-- The head of the document's disk: the flag of its power. -/
theorem ROne.dark (h : ROne w0 Z w q S) : w.cell? ⟨q, 4, none⟩ = some (.bool S.dark) := by
  obtain ⟨F, ⟨lv, h, _⟩, _⟩ := h
  exact cell_of_row _ _ _ _ _ _ h
theorem ROne.done (h : ROne w0 Z w q S) : w.cell? ⟨q, 2, none⟩ = some (.int .i64 (S.done : Int)) := by
  obtain ⟨F, ⟨lv, h, _⟩, _⟩ := h
  exact cell_of_row _ _ _ _ _ _ h
end
section
variable {w0 w w' : World} {base p q : Nat} {Fd Fr : Nat → Prop} {S T S' : St}
/-- What is below base, and what the other disk has: none of it turns while a call on one of them runs. -/
def beside (base : Nat) (F : Nat → Prop) : Nat → Prop := fun k => k < base ∨ F k
theorem Pair.one (h : Pair w0 base w Fd Fr p q S T) : One w (beside base Fr) w p S :=
  ⟨Fd, h.d, fun k hk => ⟨fun hz => hz.elim (fun hz => by have := (h.fd k hk).1; omega) (fun hz => h.ap k hk hz), (h.fd k hk).2⟩, Turn.refl _ _, fun k hk => hk.elim (fun hk => by have := h.bs; omega) (fun hk => (h.fr k hk).2)⟩
theorem below_beside {w w' : World} {base : Nat} {F : Nat → Prop} (ht : Turn (fun k => ¬ beside base F k) w w') (hb : base ≤ w.heap.size) : Below base w w' :=
  ⟨ht.os, ht.tape, ht.output, ht.size, fun k hk => ht.block k (by omega) (fun hn => hn (.inl hk))⟩
theorem Pair.of_one (h : Pair w0 base w Fd Fr p q S T) (h' : One w (beside base Fr) w' p S') : ∃ Fd', Pair w0 base w' Fd' Fr p q S' T := by
  have ht := h'.turned
  have hs := ht.size
  obtain ⟨F, h1, h2, _, _⟩ := h'
  refine ⟨F, h1, h.r.turn ht (fun k hk hn => hn (.inr hk)), fun k hk => ⟨?_, (h2 k hk).2⟩, fun k hk => ⟨(h.fr k hk).1, by have := (h.fr k hk).2; omega⟩, fun k hk hr => (h2 k hk).1 (.inr hr), h.old.trans (below_beside ht h.bs), by have := h.bs; omega⟩
  have := (h2 k hk).1
  exact Nat.le_of_not_lt fun hl => this (.inl hl)
theorem BytesAt.beside {v : Value} {b : Bs} {F : Nat → Prop} (h : BytesAt w (fun k => k < base) v b) : BytesAt w (beside base F) v b := h.mono fun _ _ hk => .inl hk
end
end Go.Proofs.YtomgijcbekjlaaaGreat
