/- What the proofs stand on: SumLaws. -/
import Derived.WalkKit
import Derived.Laws.CopyOwn
import Derived.Deep.MidRow
import Derived.Deep.QuietTactic
import Derived.Test.YtomgijcbekjlaaaGreatP0
set_option maxRecDepth 100000
set_option maxHeartbeats 40000000
namespace Go.Proofs.YtomgijcbekjlaaaGreat
section
open Go.RowKit
theorem zeroCells_one (z : Value) (m : Nat) : Builtin.zeroCells #[z] m = (List.replicate m z).toArray := by
 apply Array.ext
 ·simp [Builtin.zeroCells]
 ·intro i h1 h2
  simp [Builtin.zeroCells, Nat.mod_one]

section
variable {P : Program} (w : World)
theorem run_append_zeros_room (t u ty e : TypeId) (k : IntKind) (i : TypeInfo) (z : Value) (ht : P.underlying t = some (.slice e)) (hu : P.underlying u = some (.int k)) (hi : P.info? e = some i)
  (hz : i.zero = some z) (hzc : z.cells = #[z]) (hs : i.size = 1) (hb : i.bytes = 1)
  (g sLen sCap m : Nat) (cur : Array Value) (hg : w.heap[g]? = some (.cells cur e (0, 0))) (hm0 : 0 < m) (hm : m <= 281474976710656) (h1 : z.oneCell' = true)
  (hroom : sLen + m <= sCap) (hfit : sLen + m <= cur.size) :
  (Builtin.append_ #[t, u] ty #[.slice (some ⟨g, 0, none⟩) sLen sCap, .int .i64 (m : Int)]).run P w =
   .ok (.slice (some ⟨g, 0, none⟩) (sLen + m) sCap) (w.setRow g (cur.toList.take sLen ++ List.replicate m z ++ cur.toList.drop (sLen + m)).toArray) := by
 have hw : IntKind.i64.wrap (m : Int) = (m : Int) := IntWalk.i64_in _ (by omega)
 have hlt : ¬ ((m : Int) < 0) := by omega
 have hbig : ¬ ((m : Int) > 281474976710656) := by omega
 have hst := run_storeCells_at P g sLen e (List.replicate m z) 0 cur w hg (by simpa using hfit) (fun v hv => by rw [(List.mem_replicate.1 hv).2]; exact h1)
 simp only [Nat.add_zero, List.length_replicate] at hst; have hm1 : m ≠ 0 := by omega
 simp [Builtin.append_, run_underlying ht, run_underlying hu, sizeOf, typeInfo, hi, hs, hb, asInt, asIntOf, hw, hlt, hbig, hroom, hm1, zeroValue, hz, hzc, zeroCells_one, Addr.add_lit, hst]

theorem run_append_zeros (base : Nat) (t u ty e : TypeId) (k : IntKind) (i : TypeInfo) (z : Value) (ht : P.underlying t = some (.slice e)) (hu : P.underlying u = some (.int k)) (hi : P.info? e = some i)
  (hz : i.zero = some z) (hzc : z.cells = #[z]) (hs : i.size = 1) (hb : i.bytes = 1)
  (g n cap m : Nat) (xs : List Value) (hown : w.ownsRow base e 1 (.slice (some ⟨g, 0, none⟩) n cap) n xs) (hm0 : 0 < m) (hm : m <= 281474976710656) (h1 : z.oneCell' = true) (hroom : n + m <= cap) :
  ∃ w', (Builtin.append_ #[t, u] ty #[.slice (some ⟨g, 0, none⟩) n cap, .int .i64 (m : Int)]).run P w = .ok (.slice (some ⟨g, 0, none⟩) (n + m) cap) w' /\
   w'.ownsRow base e 1 (.slice (some ⟨g, 0, none⟩) (n + m) cap) (n + m) (xs ++ List.replicate m z) /\ w.grownBy w' (some g) := by
 have hlen : (xs ++ List.replicate m z).length = (n + m) * 1 := by rw [List.length_append, hown.1, List.length_replicate, Nat.mul_one, Nat.mul_one]
 rcases hown.2 with ⟨h, _⟩ | ⟨g', cap', cur, h, hbg, hg, hnc, hcm, hcs, htake⟩
 ·simp at h
 ·simp only [Value.slice.injEq, Option.some.injEq, Addr.mk.injEq, and_true, true_and] at h
  obtain ⟨rfl, rfl⟩ := h; rw [Nat.mul_one] at hcs htake; have hfit : n + m <= cur.size := by omega
  have hr := run_append_zeros_room (P := P) w t u ty e k i z ht hu hi hz hzc hs hb g n cap m cur hg hm0 hm h1 hroom hfit
  refine ⟨_, hr, ⟨hlen, .inr ⟨g, cap, _, rfl, hbg, setRow_heap w g cur _ e _ hg, hroom, hcm, ?_, ?_⟩⟩, ⟨rfl, rfl, rfl, by simp, fun k _ hk => setRow_other w g k _ (fun e => hk (by simp [e]))⟩⟩
  ·simp only [List.size_toArray, List.length_append, List.length_take, List.length_drop, Array.length_toList, List.length_replicate]
   omega
  ·rw [htake, <- hlen]
   exact List.take_left
end
theorem wpList_append_zeros {P : Program} (w : World) {ops : Array Oper} {rest : List Oper} {o : Oper} {a : Act} {Q : Exit -> Act -> World -> Prop}
  (hgd : o.guard = none) (s x : Operand) (t u : TypeId) (hop : o.op = Op.call { callee := Callee.builtin Builtin.append, args := #[s, x], argTypes := #[t, u] })
  (base : Nat) (e : TypeId) (k : IntKind) (i : TypeInfo) (z : Value) (ht : P.underlying t = some (.slice e)) (hu : P.underlying u = some (.int k)) (hi : P.info? e = some i)
  (hz : i.zero = some z) (hzc : z.cells = #[z]) (hs : i.size = 1) (hb : i.bytes = 1)
  (g n cap m : Nat) (xs : List Value) (hS : a.eval s = .slice (some ⟨g, 0, none⟩) n cap) (hX : a.eval x = .int .i64 (m : Int))
  (hown : w.ownsRow base e 1 (.slice (some ⟨g, 0, none⟩) n cap) n xs) (hm0 : 0 < m) (hm : m <= 281474976710656) (h1 : z.oneCell' = true) (hroom : n + m <= cap)
  (hK : ∀ w', w'.ownsRow base e 1 (.slice (some ⟨g, 0, none⟩) (n + m) cap) (n + m) (xs ++ List.replicate m z) -> w.grownBy w' (some g) -> wpList P ops Q rest (a.put o.dst (.slice (some ⟨g, 0, none⟩) (n + m) cap)) w') :
  wpList P ops Q (o :: rest) a w := by
 refine wpList_plain hgd fun K hK' => ?_
 obtain ⟨w', hrun, r1, r2⟩ := run_append_zeros (P := P) w base t u o.type e k i z ht hu hi hz hzc hs hb g n cap m xs hown hm0 hm h1 hroom
 unfold Oper.wp; simp [execOp, hop, resolve, invoke, builtin, hS, hX, hrun, Result.andThen]; exact hK' _ _ (hK w' r1 r2)

/-! ### A part of a row that is known whole: read by value, written by value -/
theorem run_loadVar_part {P : Program} (w : World) (g o : Nat) (t ty : TypeId) (A B C : List Value) (fr : Nat × Nat) (d : TypeDesc) (hg : w.heap[g]? = some (.cells (A ++ (B ++ C)).toArray t fr)) (ho : A.length = o)
  (hu : P.underlying ty = some d) (hd : d.isRow = true) (hi : (P.info? ty).map (·.size) = some B.length) :
  (loadVar ty ⟨g, o, none⟩).run P w = .ok (.agg B.toArray) w :=
 run_loadVar_mid w g o ty B d (fun j v hv => by
  rw [cell_of_row w g (o + j) _ t fr hg]; subst ho; have hj : j < B.length := (List.getElem?_eq_some_iff.1 hv).1; simpa [List.getElem?_append, hj] using hv) hu hd hi
theorem run_loadAt_part {P : Program} (w : World) (g o : Nat) (t ty : TypeId) (A B C : List Value) (fr : Nat × Nat) (d : TypeDesc) (hg : w.heap[g]? = some (.cells (A ++ (B ++ C)).toArray t fr)) (ho : A.length = o)
  (hu : P.underlying ty = some d) (hd : d.isRow = true) (hi : (P.info? ty).map (·.size) = some B.length) :
  (Instr.loadAt ty (.pointer (some ⟨g, o, none⟩))).run P w = .ok (.agg B.toArray) w := by
 simp only [Instr.loadAt, Instr.sureAddr, Sem.run_bind, Sem.run_pure, Result.andThen_ok, run_loadVar_part w g o t ty A B C fr d hg ho hu hd hi]
theorem run_storeVar_part {P : Program} (w : World) (g o : Nat) (t ty : TypeId) (A B C B' : List Value) (hg : w.heap[g]? = some (.cells (A ++ (B ++ C)).toArray t (0, 0))) (ho : A.length = o) (hB : B'.length = B.length)
  (hi : (P.info? ty).map (·.size) = some B.length) (h1 : ∀ v ∈ B', v.oneCell' = true) :
  (storeVar ty ⟨g, o, none⟩ (.agg B'.toArray)).run P w = .ok () (w.setRow g (A ++ (B' ++ C)).toArray) := by
 have hst := run_storeCells_at P g o t B' 0 _ w hg (by simp; omega) h1
 subst ho; have e : (A ++ (B ++ C)).take (A.length + 0) ++ B' ++ (A ++ (B ++ C)).drop (A.length + 0 + B'.length) = A ++ (B' ++ C) := by
  rw [Nat.add_zero, List.take_left, hB, <- List.drop_drop, List.drop_left, List.drop_left, List.append_assoc]
 rw [e] at hst
 cases hq : P.info? ty with
 | none => simp [hq] at hi
 | some i =>
  have hs : B'.length = i.size := by simp [hq] at hi; omega
  simp [storeVar, sizeOf, typeInfo, hq, Value.cells, hs, hst]
theorem run_storeAt_part {P : Program} (w : World) (g o : Nat) (t ty : TypeId) (A B C B' : List Value) (hg : w.heap[g]? = some (.cells (A ++ (B ++ C)).toArray t (0, 0))) (ho : A.length = o) (hB : B'.length = B.length)
  (hi : (P.info? ty).map (·.size) = some B.length) (h1 : ∀ v ∈ B', v.oneCell' = true) :
  (Instr.storeAt ty (.pointer (some ⟨g, o, none⟩)) (.agg B'.toArray)).run P w = .ok () (w.setRow g (A ++ (B' ++ C)).toArray) := by
 simp only [Instr.storeAt, Instr.sureAddr, Sem.run_bind, Sem.run_pure, Result.andThen_ok, run_storeVar_part w g o t ty A B C B' hg ho hB hi h1]
theorem wpList_store_part {P : Program} {ops : Array Oper} {rest : List Oper} {op : Oper} {a : Act} {w : World} {Q : Exit -> Act -> World -> Prop} (hgd : op.guard = none) (ty : TypeId) (x y : Operand) (hop : op.op = .store ty x y)
  (g o : Nat) (B' : List Value) (hx : a.eval x = .pointer (some ⟨g, o, none⟩)) (hy : a.eval y = .agg B'.toArray) (t : TypeId) (A B C : List Value)
  (hg : w.heap[g]? = some (.cells (A ++ (B ++ C)).toArray t (0, 0))) (ho : A.length = o) (hB : B'.length = B.length) (hi : (P.info? ty).map (·.size) = some B.length) (h1 : ∀ v ∈ B', v.oneCell' = true)
  (h : wpList P ops Q rest (a.put op.dst undef) (w.setRow g (A ++ (B' ++ C)).toArray)) : wpList P ops Q (op :: rest) a w :=
 wpList_plain hgd fun _ hK => by
  unfold Oper.wp execOp; simp only [hop, hx, hy, run_storeAt_part w g o t ty A B C B' hg ho hB hi h1, Sem.run_bind, Sem.run_pure, Result.andThen_ok]; exact hK _ _ h

/-! ### The frame: one block may have been written, new ones may have come -/
theorem grown_trans {a b c : World} {g : Option Nat} (h : a.grownBy b g) (k : b.grownBy c g) : a.grownBy c g :=
 ⟨k.os.trans h.os, k.tape.trans h.tape, k.output.trans h.output, Nat.le_trans h.size k.size, fun i hi hne => (k.block i (Nat.lt_of_lt_of_le hi h.size) hne).trans (h.block i hi hne)⟩
theorem grown_of_below {w w' : World} (h : Below w.heap.size w w') (g : Option Nat) : w.grownBy w' g := ⟨h.os, h.tape, h.output, h.size, fun k hk _ => h.block k hk⟩
theorem grown_setRow (w : World) (g : Nat) (cs : Array Value) : w.grownBy (w.setRow g cs) (some g) :=
 ⟨rfl, rfl, rfl, by simp, fun k _ hk => setRow_other w g k cs (fun e => hk (by rw [e]))⟩
theorem grown_setCell (w : World) (g j : Nat) (v : Value) : w.grownBy (w.setCell ⟨g, j, none⟩ v) (some g) :=
 ⟨rfl, rfl, rfl, by simp [World.setCell], fun k _ hk => heap_setCell_other w _ k v (fun e => hk (by rw [e]))⟩
theorem grown_drewN (w : World) (n : Nat) (g : Option Nat) : w.grownBy (w.drewN n) g := ⟨rfl, rfl, rfl, Nat.le_refl _, fun _ _ _ => rfl⟩
theorem grown_drew (w : World) (g : Option Nat) : w.grownBy w.drew g := ⟨rfl, rfl, rfl, Nat.le_refl _, fun _ _ _ => rfl⟩
theorem wpList_copy_grown {P : Program} {w : World} {ops : Array Oper} {rest : List Oper} {o : Oper} {a : Act} {Q : Exit -> Act -> World -> Prop} (hgd : o.guard = none) (d s : Operand) (dT sT : TypeId)
  (ho : o.op = .call { callee := .builtin .copy, args := #[d, s], argTypes := #[dT, sT] }) (elem : TypeId) (hu : P.underlying dT = some (.slice elem)) (hsz : (P.info? elem).map (·.size) = some 1)
  (g off dLen dCap : Nat) (ad : Addr) (sLen sCap : Nat) (hd : a.eval d = .slice (some ⟨g, off, none⟩) dLen dCap) (hs : a.eval s = .slice (some ad) sLen sCap)
  (cur : List Value) (t : TypeId) (hg : w.heap[g]? = some (.cells cur.toArray t (0, 0))) (cs : List Value) (n : Nat) (hcs : cs.length = n) (hn : n = Nat.min sLen dLen)
  (hsrc : ∀ j v, cs[j]? = some v -> w.cell? (ad.add j) = some v) (hfit : off + n <= cur.length) (h1 : ∀ v ∈ cs, v.oneCell' = true)
  (h : ∀ w', Hid (w'.heap[g]? = some (.cells (splice cur off cs).toArray t (0, 0))) -> w.grownBy w' (some g) -> wpList P ops Q rest (a.put o.dst (.int .i64 (n : Int))) w') : wpList P ops Q (o :: rest) a w := by
 subst hcs; refine wpList_copy_own hgd d s dT sT ho elem hu hsz g off dLen dCap ad sLen sCap hd hs cur.toArray t hg cs hn hsrc (by simpa using hfit) h1 ?_
 exact h _ (show _ = _ by simpa [splice] using setRow_heap w g _ _ t _ hg) (grown_setRow _ _ _)
end
end Go.Proofs.YtomgijcbekjlaaaGreat
