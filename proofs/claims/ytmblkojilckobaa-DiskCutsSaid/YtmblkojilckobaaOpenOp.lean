/- An operation that comes in by value, and a slice of bytes as the disk's walks want it. -/
import Derived.Test.YtmblkojilckobaaScript
namespace Go.Proofs.Ytmblkojilckobaa
open Go.ChangeShapes Go.WideShapes Go.ChangeAt Go.RowKit Go.Deep
set_option maxRecDepth 100000 in
theorem open_op {H : Type} {enc : TypeId × Value → H} {W : World} {base : Nat} {v : Value} {d : DataW H} {ps : List MemPlace} (hval : Value.okWide Try.prog W .any base 34 v)
    (h : DataW.Trod enc Try.prog W 0 (fun _ => true) true 34 v d ps) (hlt : ∀ x ∈ ps, x.block < W.heap.size) :
    ∃ (z : Int) (o : OpV) (bv : Value), v = .agg #[.int .i64 z, .string (SL o.a), .string (SL o.b), bv, .int .i64 o.n] ∧ BytesAt W (fun k => k < W.heap.size) bv o.l := by
  obtain ⟨cs, rfl, hcs⟩ := okWide_struct Try.underlying34 hval
  rw [cells34] at hcs
  obtain ⟨fuel, hf⟩ := h
  obtain ⟨xs, n, _, hx, hl, hxl, h6⟩ := DataW.trod_struct Try.underlying34 hf
  have hcl : (Value.agg cs).cells.toList = cs.toList := rfl
  rw [hcl] at h6 hl
  have hll : cs.toList.length = 5 := by simp [hcs]
  have f0 := h6 0 _ rfl
  have f1 := h6 1 _ rfl
  have f2 := h6 2 _ rfl
  have f3 := h6 3 _ rfl
  have f4 := h6 4 _ rfl
  have hx5 : xs.length = 5 := hxl
  rw [List.getElem?_eq_getElem (by omega)] at f0 f1 f2 f3 f4
  have f0 : DataW.trod enc Try.prog W 0 (fun _ => true) true n 3 ((cs.toList.drop 0).take (Try.prog.cellsOf 3)) = some _ := f0
  rw [cells3, one_cell cs.toList 0 (by omega)] at f0
  have f1 : DataW.trod enc Try.prog W 0 (fun _ => true) true n 9 ((cs.toList.drop 1).take (Try.prog.cellsOf 9)) = some _ := f1
  rw [cells9, one_cell cs.toList 1 (by omega)] at f1
  have f2 : DataW.trod enc Try.prog W 0 (fun _ => true) true n 9 ((cs.toList.drop 2).take (Try.prog.cellsOf 9)) = some _ := f2
  rw [cells9, one_cell cs.toList 2 (by omega)] at f2
  have f3 : DataW.trod enc Try.prog W 0 (fun _ => true) true n 32 ((cs.toList.drop 3).take (Try.prog.cellsOf 32)) = some _ := f3
  rw [cells32, one_cell cs.toList 3 (by omega)] at f3
  have f4 : DataW.trod enc Try.prog W 0 (fun _ => true) true n 3 ((cs.toList.drop 4).take (Try.prog.cellsOf 3)) = some _ := f4
  rw [cells3, one_cell cs.toList 4 (by omega)] at f4
  obtain ⟨z, e0, _, _⟩ := DataW.trod_int Try.underlying3 f0
  obtain ⟨s1, e1, _, z1⟩ := DataW.trod_string Try.underlying9 f1
  obtain ⟨s2, e2, _, z2⟩ := DataW.trod_string Try.underlying9 f2
  obtain ⟨bs, hb⟩ := bytes_cell f3 (fun q hq => by
    refine hlt q ?_
    have e : ps = xs.flatMap (·.2) := by rw [← (Prod.mk.inj hx).2]
    rw [e]
    exact List.mem_flatMap.2 ⟨xs[3], List.getElem_mem _, hq⟩)
  obtain ⟨m, e4, _, w4⟩ := DataW.trod_int Try.underlying3 f4
  obtain ⟨b1, rfl, l1⟩ := text_of s1 z1
  obtain ⟨b2, rfl, l2⟩ := text_of s2 z2
  refine ⟨z, ⟨b1, b2, bs, m⟩, _, ?_, hb⟩
  have g0 := List.singleton_inj.1 e0
  have g1 := List.singleton_inj.1 e1
  have g2 := List.singleton_inj.1 e2
  have g4 := List.singleton_inj.1 e4
  congr 1
  apply Array.ext'
  apply List.ext_getElem
  · simp [hcs]
  · intro i h1 h2
    have : i < 5 := by omega
    match i, this with
    | 0, _ => simpa using g0
    | 1, _ => simpa using g1
    | 2, _ => simpa using g2
    | 3, _ => rfl
    | 4, _ => simpa using g4
set_option maxRecDepth 100000 in
/-- A slice of bytes, as the disk's walks want it. -/
theorem open_row {H : Type} {enc : TypeId × Value → H} {W : World} {base : Nat} {v : Value} {d : DataW H} {ps : List MemPlace} (hval : Value.okWide Try.prog W .any base 32 v)
    (h : DataW.Trod enc Try.prog W 0 (fun _ => true) true 32 v d ps) (hlt : ∀ x ∈ ps, x.block < W.heap.size) : ∃ bs, BytesAt W (fun k => k < W.heap.size) v bs := by
  obtain ⟨a0, len, cap, rfl⟩ := okWide_slice Try.underlying32 hval
  obtain ⟨fuel, hf⟩ := h
  exact bytes_cell hf hlt
end Go.Proofs.Ytmblkojilckobaa
