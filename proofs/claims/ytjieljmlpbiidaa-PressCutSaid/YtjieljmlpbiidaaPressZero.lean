/- The places at first: the struct with its map and its array, laid in memory. -/
import Derived.Test.YtjieljmlpbiidaaPressAdd
namespace Go.Proofs.Ytjieljmlpbiidaa
open Go.RowKit
def zeros38 (v : Value) : List Value := v :: List.replicate 4096 (.int .i64 0)
theorem zero38 : (Try.prog.info? 38).bind (·.zero) = some (.agg (zeros38 (.map none)).toArray) := by kernel_rfl
theorem size38 : (Try.prog.info? 38).map (·.size) = some 4097 := by kernel_rfl
theorem size35 : (Try.prog.info? 35).map (·.size) = some 1 := by kernel_rfl
theorem size36 : (Try.prog.info? 36).map (·.size) = some 4096 := by kernel_rfl
theorem built38 (m : Nat) : Try.prog.built 38 [(0, .map (some m))] = some (zeros38 (.map (some m))).toArray := by
  unfold Program.built
  have h0 := zero38
  have h1 := size35
  have h2 := size36
  cases hq : Try.prog.info? 38 with
  | none => rw [hq] at h0; cases h0
  | some it =>
    rw [hq] at h0
    have h0' : it.zero = some (.agg (zeros38 (.map none)).toArray) := h0
    cases hq1 : Try.prog.info? 35 with
    | none => rw [hq1] at h1; cases h1
    | some i1 =>
      cases hq2 : Try.prog.info? 36 with
      | none => rw [hq2] at h2; cases h2
      | some i2 =>
        rw [hq1] at h1
        rw [hq2] at h2
        have h1' : i1.size = 1 := by simpa using h1
        have h2' : i2.size = 4096 := by simpa using h2
        simp only [Try.underlying38, h0', hq1, hq2, h1', h2', List.mapM_cons, List.mapM_nil, Option.map_some]
        clear h0 h0' h1 h2 hq hq1 hq2 h1' h2'
        unfold zeros38
        generalize List.replicate 4096 (Value.int .i64 0) = R
        simp [Instr.fill, Value.cells]
/-- The places at first. -/
def placesV (m : Nat) : Value := .agg (zeros38 (.map (some m))).toArray
def zeroObj : Obj := .cells (zeros38 (.map none)).toArray 38
theorem zeros38_length (v : Value) : (zeros38 v).length = 4097 := by
  unfold zeros38
  rw [List.length_cons, List.length_replicate]
theorem zeros38_one (m : Nat) : ∀ v ∈ zeros38 (.map (some m)), v.oneCell' = true := by
  intro v hv
  unfold zeros38 at hv
  rcases List.mem_cons.1 hv with rfl | hv
  · rfl
  · rw [(List.mem_replicate.1 hv).2]; rfl
theorem run_zero38 (w : World) : (zeroValue 38).run Try.prog w = .ok (.agg (zeros38 (.map none)).toArray) w := by
  have h0 := zero38
  cases hq : Try.prog.info? 38 with
  | none => rw [hq] at h0; cases h0
  | some it =>
    rw [hq] at h0
    have h0' : it.zero = some (.agg (zeros38 (.map none)).toArray) := h0
    simp only [zeroValue, typeInfo, Sem.run_bind]
    generalize (zeros38 (.map none)).toArray = Z at *
    simp [hq, h0']
theorem run_alloc38 (w : World) : (Instr.alloc 38 true (.tuple #[])).run Try.prog w = .ok (.pointer (some ⟨w.heap.size, 0, none⟩)) (w.alloc zeroObj) := by
  unfold zeroObj Instr.alloc
  rw [Sem.run_bind, run_zero38]
  generalize (zeros38 (.map none)).toArray = Z
  rfl
theorem wpList_alloc38 {ops : Array Oper} {rest : List Oper} {o : Oper} {a : Act} {w : World} {Q : Exit → Act → World → Prop} (hg : o.guard = none) (ho : o.op = .alloc 38)
    (h : wpList Try.prog ops Q rest (a.put o.dst (.pointer (some ⟨w.heap.size, 0, none⟩))) (w.alloc zeroObj)) : wpList Try.prog ops Q (o :: rest) a w :=
  wpList_plain hg fun K hK => by
    unfold Oper.wp execOp
    simp only [ho, Sem.run_bind, run_alloc38, Result.andThen_ok]
    exact hK _ _ h
theorem wpList_build38 {ops : Array Oper} {rest : List Oper} {o : Oper} {a : Act} {w : World} {Q : Exit → Act → World → Prop} (hg : o.guard = none) (x : Operand) (ho : o.op = .build 38 #[(0, x)]) (m : Nat) (hx : a.eval x = .map (some m))
    (h : wpList Try.prog ops Q rest (a.put o.dst (placesV m)) w) : wpList Try.prog ops Q (o :: rest) a w :=
  wpList_plain hg fun K hK => by
    have hb : Try.prog.built 38 (#[((0 : Nat), x)].map fun (i, x) => (i, a.eval x)).toList = some (zeros38 (.map (some m))).toArray := by
      have e : (#[((0 : Nat), x)].map fun (i, x) => (i, a.eval x)).toList = [(0, a.eval x)] := by simp
      rw [e, hx, built38]
    refine wp_build 38 #[(0, x)] ho (by rw [hb]; rfl) ?_
    rw [hb]
    exact hK _ _ h
/-- The memory behind the store. -/
def placesW (w : World) : World := ((w.alloc (.map #[] 0)).alloc zeroObj).setRow (w.heap.size + 1) (zeros38 (.map (some w.heap.size))).toArray
theorem zeroObj_eq : zeroObj = .cells (zeros38 (.map none)).toArray 38 (0, 0) := rfl
theorem placesV_eq (m : Nat) : placesV m = .agg (zeros38 (.map (some m))).toArray := rfl
theorem wpList_store38 {ops : Array Oper} {rest : List Oper} {o : Oper} {a : Act} {w : World} {Q : Exit → Act → World → Prop} (hg : o.guard = none) (x y : Operand) (ho : o.op = .store 38 x y)
    (hx : a.eval x = .pointer (some ⟨(w.alloc (.map #[] 0)).heap.size, 0, none⟩)) (hy : a.eval y = placesV w.heap.size)
    (h : wpList Try.prog ops Q rest (a.put o.dst undef) (placesW w)) : wpList Try.prog ops Q (o :: rest) a ((w.alloc (.map #[] 0)).alloc zeroObj) := by
  rw [placesV_eq] at hy
  have hz : (w.alloc (.map #[] 0)).heap.size = w.heap.size + 1 := by simp
  rw [hz] at hx
  refine wpList_store_row hg 38 x y ho (w.heap.size + 1) (zeros38 (.map (some w.heap.size))).toArray hx hy 38 (zeros38 (.map none)).toArray ?_ ?_ ?_ (all_oneCell_toArray (zeros38_one _)) h
  · rw [heap_alloc2_new, zeroObj_eq]
  · rw [size38, List.size_toArray, zeros38_length]
  · rw [List.size_toArray, List.size_toArray, zeros38_length, zeros38_length]
theorem heap_zero38 (w : World) : (placesW w).heap[w.heap.size + 1]? = some (.cells (zeros38 (.map (some w.heap.size))).toArray 38 (0, 0)) ∧ (placesW w).heap[w.heap.size]? = some (.map #[] 0) ∧ Below w.heap.size w (placesW w) := by
  unfold placesW
  refine ⟨?_, ?_, ?_⟩
  · exact setRow_heap _ _ _ _ _ _ (by rw [heap_alloc2_new, zeroObj_eq])
  · rw [setRow_other _ _ _ _ (by omega)]
    exact heap_alloc2_old w _ _
  · exact below_setRow (((Below.refl _ _).alloc (Nat.le_refl _) _).alloc (by simp) _) (by omega) _
theorem tab_zero {w : World} {pb mb : Nat} (h : w.heap[pb]? = some (.cells (zeros38 (.map (some mb))).toArray 38 (0, 0))) : TabAt w pb mb (fun _ => 0) := by
  refine ⟨_, h, by rw [List.size_toArray, zeros38_length], by rw [List.getElem?_toArray]; unfold zeros38; rw [List.getElem?_cons_zero], fun j hj => ?_⟩
  rw [List.getElem?_toArray, Nat.add_comm]
  unfold zeros38
  rw [List.getElem?_cons_succ, List.getElem?_replicate, if_pos hj]
end Go.Proofs.Ytjieljmlpbiidaa
