/- The two disks side by side, and what one operation makes of both. -/
import Derived.Test.YthibhkoneajffaaDiskRefOps3
import Derived.Test.YthibhkoneajffaaDiskOps3
import Derived.Test.YthibhkoneajffaaDiskDump
import Derived.Test.YthibhkoneajffaaDiskRefDump
namespace Go.Proofs.Ythibhkoneajffaa
open Go.RowKit
structure OpV where
  a : Bs
  b : Bs
  l : Bs
  n : Int
def stepS (y : Int) (S : St) (o : OpV) : St :=
  if y = 4 then (removeS S o.a).2 else if y = 5 then (renameS S o.a o.b).2 else if y = 6 then (syncS S o.a).2 else if y = 7 then S else if y = 8 then (cutS S o.n).2 else if y = 9 then onS S else (appendS S o.a o.l).2
theorem Good.step {S : St} (h : Good S) (y : Int) (o : OpV) (hn : o.n ≤ 9223372036854775807) : Good (stepS y S o) := by
  unfold stepS
  repeat' split
  all_goals first | exact h.remove _ | exact h.rename _ _ | exact h.sync _ | exact h.cut hn | exact h.on | exact h.append _ _ | exact h
theorem step_done (y : Int) (S : St) (o : OpV) : (stepS y S o).done ≤ S.done + 1 := by
  unfold stepS
  repeat' split
  all_goals first | exact remove_done _ _ | exact rename_done _ _ _ | exact sync_done _ _ | exact Nat.le_succ_of_le (cut_done _ _) | exact append_done _ _ _ | exact Nat.le_succ _
theorem step_cap (y : Int) (S : St) (o : OpV) : (stepS y S o).cap = S.cap := by
  unfold stepS
  repeat' split
  all_goals first | exact remove_cap _ _ | exact rename_cap _ _ _ | exact sync_cap _ _ | exact cut_cap _ _ | exact append_cap _ _ _ | rfl
/-- The program's disk and the document's, apart, in memory from base on; below base nothing has turned since w0. -/
structure Pair (w0 : World) (base : Nat) (w : World) (Fd Fr : Nat → Prop) (p q : Nat) (S T : St) : Prop where
  d : DiskAt w Fd p S
  r : RefAt w Fr q T
  fd : ∀ k, Fd k → base ≤ k ∧ k < w.heap.size
  fr : ∀ k, Fr k → base ≤ k ∧ k < w.heap.size
  ap : ∀ k, Fd k → ¬ Fr k
  old : Below base w0 w
  bs : base ≤ w.heap.size
section
variable {w0 w w' : World} {base p q : Nat} {Fd Fr : Nat → Prop} {S T S' : St}
theorem Pair.acts (h : Pair w0 base w Fd Fr p q S T) (hd : DiskAt w' (grow Fd w w') p S') (ht : Turn Fd w w') : Pair w0 base w' (grow Fd w w') Fr p q S' T := by
  have hs := ht.size
  refine ⟨hd, h.r.turn ht (fun k hk hd => h.ap k hd hk), fun k hk => ?_, fun k hk => ⟨(h.fr k hk).1, by have := (h.fr k hk).2; omega⟩, fun k hk hr => ?_, h.old.trans (ht.below h.bs (fun k hk => (h.fd k hk).1)), Nat.le_trans h.bs hs⟩
  · rcases hk with hk | hk
    · have := h.fd k hk; exact ⟨this.1, by omega⟩
    · exact ⟨Nat.le_trans h.bs hk.1, hk.2⟩
  · rcases hk with hk | hk
    · exact h.ap k hk hr
    · have := (h.fr k hr).2; omega
theorem Pair.racts (h : Pair w0 base w Fd Fr p q S T) (hr : RefAt w' (grow Fr w w') q S') (ht : Turn Fr w w') : Pair w0 base w' Fd (grow Fr w w') p q S S' := by
  have hs := ht.size
  refine ⟨h.d.turn ht (fun k hk hr => h.ap k hk hr), hr, fun k hk => ⟨(h.fd k hk).1, by have := (h.fd k hk).2; omega⟩, fun k hk => ?_, fun k hk hrr => ?_, h.old.trans (ht.below h.bs (fun k hk => (h.fr k hk).1)), Nat.le_trans h.bs hs⟩
  · rcases hk with hk | hk
    · have := h.fr k hk; exact ⟨this.1, by omega⟩
    · exact ⟨Nat.le_trans h.bs hk.1, hk.2⟩
  · rcases hrr with hrr | hrr
    · exact h.ap k hk hrr
    · have := (h.fd k hk).2; omega
theorem Pair.below (h : Pair w0 base w Fd Fr p q S T) (hb : Below w.heap.size w w') : Pair w0 base w' Fd Fr p q S T :=
  ⟨h.d.turn (Turn.of_below (fun _ => False) hb) (fun _ _ h => h), h.r.turn (Turn.of_below (fun _ => False) hb) (fun _ _ h => h), fun k hk => ⟨(h.fd k hk).1, by have := (h.fd k hk).2; have := hb.size; omega⟩,
    fun k hk => ⟨(h.fr k hk).1, by have := (h.fr k hk).2; have := hb.size; omega⟩, h.ap, h.old.trans (hb.mono h.bs), Nat.le_trans h.bs hb.size⟩
theorem Pair.dlt (h : Pair w0 base w Fd Fr p q S T) : ∀ k, Fd k → k < w.heap.size := fun k hk => (h.fd k hk).2
theorem Pair.rlt (h : Pair w0 base w Fd Fr p q S T) : ∀ k, Fr k → k < w.heap.size := fun k hk => (h.fr k hk).2
def Two (w0 : World) (base : Nat) (w : World) (p q : Nat) (S : St) : Prop := ∃ Fd Fr, Pair w0 base w Fd Fr p q S S
/-! The calls on whole disks. -/
theorem dRemove (h : DiskAt w Fd p S) (hg : Good S) (hb : S.done ≤ 1000000000000) (n : Bs) : Calls Try.prog 13 #[ptr p, .string (SL n)] w (Acts Fd p w (removeS S n)) := by
  obtain ⟨mb, V, lf, h⟩ := h
  exact remove_any h hg hb n
theorem dRename (h : DiskAt w Fd p S) (hg : Good S) (hb : S.done ≤ 1000000000000) (f t : Bs) : Calls Try.prog 56 #[ptr p, .string (SL f), .string (SL t)] w (Acts Fd p w (renameS S f t)) := by
  obtain ⟨mb, V, lf, h⟩ := h
  exact rename_any h hg hb f t
theorem dSync (h : DiskAt w Fd p S) (hg : Good S) (hb : S.done ≤ 1000000000000) (n : Bs) : Calls Try.prog 70 #[ptr p, .string (SL n)] w (Acts Fd p w (syncS S n)) := by
  obtain ⟨mb, V, lf, h⟩ := h
  exact sync_any h hg hb n
theorem dCut (h : DiskAt w Fd p S) (z : Int) (hz : z ≤ 9223372036854775807) : Calls Try.prog 17 #[ptr p, .int .i64 z] w (Acts Fd p w (cutS S z)) := by
  obtain ⟨mb, V, lf, h⟩ := h
  exact cut_any h z hz
theorem dOn (h : DiskAt w Fd p S) : Calls Try.prog 19 #[ptr p] w fun e w' => e = .returned (.tuple #[]) ∧ DiskAt w' (grow Fd w w') p (onS S) ∧ Turn Fd w w' := by
  obtain ⟨mb, V, lf, h⟩ := h
  exact on_any h
theorem dAppend (h : DiskAt w Fd p S) (hF : ∀ k, Fd k → k < w.heap.size) (hg : Good S) (hb : S.done ≤ 1000000000000) (n : Bs) (ao : Option Addr) (cap : Nat) (b : Bs) (B off : Nat) (hs : SrcAt w ao cap b B off) (hB : 0 < b.length → ¬ Fd B) :
    Calls Try.prog 11 #[ptr p, .string (SL n), .slice ao b.length cap] w (Acts Fd p w (appendS S n b)) := by
  obtain ⟨mb, V, lf, h⟩ := h
  exact append_any h hg hF hb n ao cap b B off hs hB
theorem dRead (h : DiskAt w Fd p S) (hg : Good S) (n : Bs) :
    Calls Try.prog 30 #[ptr p, .string (SL n)] w fun e w' => ∃ v, e = .returned (.tuple #[v, err (readS S n).1]) ∧ w'.ownsRow w.heap.size 5 1 v (readS S n).2.length ((readS S n).2.map B8) ∧ Below w.heap.size w w' := by
  obtain ⟨mb, V, lf, h⟩ := h
  exact read_any h n (fun c hc => by have := hg.file_le hc; unfold costF at this; omega)
theorem dHas (h : DiskAt w Fd p S) (n : Bs) (hn : n.length ≤ maxLen) : Calls Try.prog 33 #[ptr p, .string (SL n)] w fun e w' => e = .returned (.bool (thereF n S.fs)) ∧ w' = w := by
  obtain ⟨mb, V, lf, h⟩ := h
  exact has_any h n hn
theorem dFree (h : DiskAt w Fd p S) : Calls Try.prog 34 #[ptr p] w fun e w' => e = .returned (.int .i64 (wrap64 S.free)) ∧ w' = w := by
  obtain ⟨mb, V, lf, h⟩ := h
  exact free_in h
theorem dOff (h : DiskAt w Fd p S) : Calls Try.prog 32 #[ptr p] w fun e w' => e = .returned (.bool S.dark) ∧ w' = w := by
  obtain ⟨mb, V, lf, h⟩ := h
  exact off_in h
theorem dOps (h : DiskAt w Fd p S) : Calls Try.prog 23 #[ptr p] w fun e w' => e = .returned (.int .i64 (S.done : Int)) ∧ w' = w := by
  obtain ⟨mb, V, lf, h⟩ := h
  exact ops_in h
theorem dDump (h : DiskAt w Fd p S) (hr : Rising S.fs) (hb : S.fs.length ≤ 4000000000000) (hs : ∀ n b, findF n S.fs = some b → n.length ≤ 281474976710656 ∧ b.length ≤ 140737488355328) :
    Calls Try.prog 26 #[ptr p] w fun e w' => ∃ v, e = .returned v ∧ FilesAt w' (fresh w w') v S.fs ∧ Below w.heap.size w w' := by
  obtain ⟨mb, V, lf, h⟩ := h
  exact dump_any h hr hb hs
theorem rRemove (h : RefAt w Fr q S) (hF : ∀ k, Fr k → k < w.heap.size) (hg : Good S) (hb : S.done ≤ 1000000000000) (n : Bs) (hn : n.length ≤ 9223372036854775807) : Calls Try.prog 14 #[ptr q, .string (SL n)] w (RActs Fr q w (removeS S n)) := by
  obtain ⟨ao, cap, P, g, off, h⟩ := h.opened
  exact refRemove_any h hF hg hb n hn
theorem rRename (h : RefAt w Fr q S) (hF : ∀ k, Fr k → k < w.heap.size) (hg : Good S) (hb : S.done ≤ 1000000000000) (f t : Bs) (hf : f.length ≤ 9223372036854775807) (ht : t.length ≤ 9223372036854775807) :
    Calls Try.prog 59 #[ptr q, .string (SL f), .string (SL t)] w (RActs Fr q w (renameS S f t)) := by
  obtain ⟨ao, cap, P, g, off, h⟩ := h.opened
  exact refRename_any h hF hg hb f t hf ht
theorem rSync (h : RefAt w Fr q S) (hg : Good S) (hb : S.done ≤ 1000000000000) (n : Bs) (hn : n.length ≤ 9223372036854775807) : Calls Try.prog 58 #[ptr q, .string (SL n)] w (RActs Fr q w (syncS S n)) := by
  obtain ⟨ao, cap, P, g, off, h⟩ := h.opened
  exact refSync_any h hg hb n hn
theorem rCut (h : RefAt w Fr q S) (z : Int) : Calls Try.prog 18 #[ptr q, .int .i64 z] w (RActs Fr q w (cutS S z)) := by
  obtain ⟨ao, cap, P, g, off, h⟩ := h.opened
  exact refCut_any h z
theorem rOn (h : RefAt w Fr q S) : Calls Try.prog 20 #[ptr q] w fun e w' => e = .returned (.tuple #[]) ∧ RefAt w' (grow Fr w w') q (onS S) ∧ Turn Fr w w' := by
  obtain ⟨ao, cap, P, g, off, h⟩ := h.opened
  exact refOn_any h
theorem rAppend (h : RefAt w Fr q S) (hF : ∀ k, Fr k → k < w.heap.size) (hg : Good S) (hb : S.done ≤ 1000000000000) (n : Bs) (hn : n.length ≤ 9223372036854775807) (ao : Option Addr) (cap : Nat) (b : Bs) (B off : Nat) (hs : SrcAt w ao cap b B off) (hB : 0 < b.length → ¬ Fr B) :
    Calls Try.prog 12 #[ptr q, .string (SL n), .slice ao b.length cap] w (RActs Fr q w (appendS S n b)) := by
  obtain ⟨ao2, cap2, P, g, off2, h⟩ := h.opened
  exact refAppend_any h hF hg hb n hn ao cap b B off hs hB
theorem rRead (h : RefAt w Fr q S) (hg : Good S) (n : Bs) (hn : n.length ≤ 9223372036854775807) :
    Calls Try.prog 42 #[ptr q, .string (SL n)] w fun e w' => ∃ v, e = .returned (.tuple #[v, err (readS S n).1]) ∧ w'.ownsRow w.heap.size 5 1 v (readS S n).2.length ((readS S n).2.map B8) ∧ Below w.heap.size w w' := by
  obtain ⟨ao, cap, P, g, off, h⟩ := h.opened
  exact refRead_any h hg.rise (by have := hg.many; omega) n hn (fun c hc => by have := hg.file_le hc; unfold costF at this; omega)
theorem rHas (h : RefAt w Fr q S) (hg : Good S) (n : Bs) : Calls Try.prog 57 #[ptr q, .string (SL n)] w fun e w' => e = .returned (.bool (thereF n S.fs)) ∧ ∃ m, w' = w.drewN m := by
  obtain ⟨ao, cap, P, g, off, h⟩ := h.opened
  exact refHas_any h hg.rise (by have := hg.many; omega) n
theorem rFree (h : RefAt w Fr q S) (hL : S.fs.length ≤ 4000000000000) (hc : S.cap ≤ 1099511627776) : Calls Try.prog 43 #[ptr q] w fun e w' => e = .returned (.int .i64 (wrap64 S.free)) ∧ ∃ m, w' = w.drewN m := by
  obtain ⟨ao, cap, P, g, off, h⟩ := h.opened
  exact refFree_in h hL hc
end
end Go.Proofs.Ythibhkoneajffaa
