/- A slice of files that comes in. -/
import Derived.Test.YthibhkoneajffaaDiskOpen
import Derived.Deep.SlicePairs
import Derived.SizedLaws
namespace Go.Proofs.Ythibhkoneajffaa
open Go.ChangeShapes Go.WideShapes Go.ChangeAt Go.RowKit Go.Deep
theorem bytes74 : Try.prog.bytesOf 57 = 40 := by kernel_rfl
theorem weights_all {H : Type} {P : Program} {e : TypeId} : ∀ {l : List (DataW H)} {i : Nat} {d : DataW H} {n : Nat}, l[i]? = some d → n ∈ d.weights P e → n ∈ DataW.weightsAll P e l
  | x :: r, 0, d, n, h, hn => by
    simp only [List.getElem?_cons_zero, Option.some.injEq] at h
    subst h
    simp only [DataW.weightsAll, List.mem_append]
    exact .inl hn
  | x :: r, i + 1, d, n, h, hn => by
    simp only [List.getElem?_cons_succ] at h
    simp only [DataW.weightsAll, List.mem_append]
    exact .inr (weights_all h hn)
  | [], _, _, _, h, _ => by simp at h
set_option maxRecDepth 100000 in
theorem bytes_len {H : Type} {enc : TypeId × Value → H} {W : World} {n : Nat} {ao : Option Addr} {len cap : Nat} {y : DataW H × List MemPlace} (h : DataW.trod enc Try.prog W 0 (fun _ => true) true n 29 [.slice ao len cap] = some y) (hw : ∀ k ∈ y.1.weights Try.prog 29, k ≤ reachBytes) : len ≤ 140737488355328 := by
  rcases open_ints Try.underlying29 Try.underlying5 cells5 h with ⟨hcs, hx⟩ | ⟨a, len', cap', zs, hcs, _, hl, hm, hz, hx, hcell, hwz⟩
  · simp at hcs
    omega
  · simp at hcs
    obtain ⟨_, rfl, rfl⟩ := hcs
    simp only [if_true] at hz
    subst hx
    have h1 := hw ((lits (H := H) .u8 (zs.take len)).length + (lits (H := H) .u8 (zs.drop len)).length) (by
      have hb : Try.prog.bytesOf 5 = 1 := by kernel_rfl
      simp [DataW.weights, Try.underlying29, hb])
    simp only [lits, List.length_map, List.length_take, List.length_drop] at h1
    have h2 := reachBytes_lt
    omega
set_option maxRecDepth 100000 in
theorem open_files {H : Type} {enc : TypeId × Value → H} {W : World} {base : Nat} {v : Value} {d : DataW H} {ps : List MemPlace} (hval : Value.okWide Try.prog W .any base 22 v)
    (h : DataW.Trod enc Try.prog W 0 (fun _ => true) true 22 v d ps) (hlt : ∀ x ∈ ps, x.block < W.heap.size) (hsz : ∀ k ∈ d.weights Try.prog 22, k ≤ reachBytes) :
    ∃ L : Files, FilesAt W (fun k => k < W.heap.size) v L ∧ L.length ≤ 3600000000000 ∧ ∀ n b, (n, b) ∈ L → n.length ≤ 9223372036854775807 ∧ b.length ≤ 140737488355328 := by
  obtain ⟨a0, len, cap, rfl⟩ := okWide_slice Try.underlying22 hval
  obtain ⟨fuel, hf⟩ := h
  rcases open_slice_pairs Try.underlying22 Try.underlying57 cells74 rfl rfl cells9 cells32d hf with ⟨hcs, hx⟩ | ⟨a, len', cap', m, n, V0, V1, D0, D1, P0, P1, hcs, _, hl, hm, hmm, hx, hi⟩
  · simp [Value.cells] at hcs
    obtain ⟨rfl, rfl, rfl⟩ := hcs
    exact ⟨[], filesAt_nil _ _, by simp, fun n b h => by cases h⟩
  · simp [Value.cells] at hcs
    obtain ⟨rfl, rfl, rfl⟩ := hcs
    simp only [Prod.mk.injEq] at hx
    obtain ⟨rfl, rfl⟩ := hx
    simp only [if_true] at hmm
    subst hmm
    have hw : ∀ i, i < m → ∀ k ∈ (DataW.agg [D0 i, D1 i]).weights Try.prog 57, k ≤ reachBytes := fun i him k hk => by
      refine hsz k ?_
      simp only [DataW.weights, Try.underlying22, List.mem_cons, List.mem_append]
      refine .inr ?_
      by_cases hil : i < len
      · exact .inl (weights_all (i := i) (by simp [hil]) hk)
      · exact .inr (weights_all (i := i - len) (d := .agg [D0 i, D1 i]) (by
          have h1 : i - len < m - len := by omega
          have h2 : len + (i - len) = i := by omega
          simp [h1, h2]) hk)
    have hN : len ≤ 3600000000000 := by
      have h1 := hsz (m * 40) (by
        simp only [DataW.weights, Try.underlying22, List.mem_cons, bytes74, List.length_map, List.length_range]
        left
        have : len + (m - len) = m := by omega
        rw [this])
      have h2 := reachBytes_lt
      omega
    obtain ⟨b, off, spot⟩ := a
    by_cases hl0 : len = 0
    · subst hl0
      exact ⟨[], ⟨_, _, [], 0, 0, rfl, ⟨Nat.zero_le _, hm, fun h => absurd h (Nat.lt_irrefl _), (fun h => by cases h), fun j u h => by simp [fcells] at h⟩, Has.nil _ _⟩, by simp, fun n b h => by cases h⟩
    · have hspot : spot = Option.none := by
        have := (hi 0 (by omega)).1
        simpa [Addr.add] using World.cell?_spot this
      subst hspot
      have hbl : b < W.heap.size := by
        have := (hi 0 (by omega)).1
        rw [Addr.add_lit] at this
        exact World.block_lt_of_cell? W _ this
      obtain ⟨L, hLl, hL⟩ := choose_list (p := fun i (x : (Bs × Value) × (Bs × Bs)) => x.1.1 = x.2.1 ∧ W.cell? ⟨b, off + i * 2, none⟩ = some (.string (SL x.1.1)) ∧ W.cell? ⟨b, off + i * 2 + 1, none⟩ = some x.1.2 ∧ BytesAt W (fun k => k < W.heap.size) x.1.2 x.2.2 ∧ x.2.1.length ≤ 9223372036854775807 ∧ x.2.2.length ≤ 140737488355328) len (fun i hil => by
        obtain ⟨c0, c1, t0, t1⟩ := hi i (by omega)
        have t0 : DataW.trod enc Try.prog W 0 (fun _ => true) true n 9 [V0 i] = some (D0 i, P0 i) := t0
        have t1 : DataW.trod enc Try.prog W 0 (fun _ => true) true n 29 [V1 i] = some (D1 i, P1 i) := t1
        obtain ⟨s, e0, _, z0⟩ := DataW.trod_string Try.underlying9 t0
        obtain ⟨nm, rfl, ln⟩ := text_of s z0
        obtain ⟨bs, hby⟩ := bytes_cell t1 (fun q hq => hlt q (List.mem_append_right _ (List.mem_flatMap.2 ⟨i, List.mem_range.2 (by omega), List.mem_append_right _ hq⟩)))
        rw [Addr.add_lit] at c0 c1
        rw [List.singleton_inj.1 e0] at c0
        refine ⟨((nm, V1 i), (nm, bs)), rfl, c0, by rw [Nat.add_assoc]; exact c1, hby, ln, ?_⟩
        obtain ⟨x, cc, B3, o3, hv, _⟩ := hby
        rw [hv] at t1
        refine bytes_len t1 (fun k hk => hw i (by omega) k ?_)
        simp only [DataW.weights, Try.underlying57]
        simp [DataW.weightsEach]
        exact .inr hk)
      refine ⟨L.map (·.2), ⟨some ⟨b, off, none⟩, m, L.map (·.1), b, off, by simp [hLl], ⟨by simp [hLl]; exact hl, hm, fun _ => ⟨rfl, hbl⟩, (fun h => by cases h), fun j u hu => ?_⟩, by simp, fun i p f h1 h2 => ?_⟩, by simp [hLl]; exact hN, fun nn bb hm => ?_⟩
      · obtain ⟨i, x, hx, hju⟩ : ∃ (i : Nat) (x : (Bs × Value) × (Bs × Bs)), L[i]? = some x ∧ ((j = i * 2 ∧ u = .string (SL x.1.1)) ∨ (j = i * 2 + 1 ∧ u = x.1.2)) := by
          have hj := (List.getElem?_eq_some_iff.1 hu).1
          rw [fcells_length, List.length_map] at hj
          have hi2 : j / 2 < L.length := by omega
          obtain ⟨f0, f1⟩ := fcells_get (l := L.map (·.1)) (i := j / 2) (p := L[j / 2].1) (by simp [List.getElem?_eq_getElem hi2])
          refine ⟨j / 2, L[j / 2], List.getElem?_eq_getElem hi2, ?_⟩
          by_cases he : j % 2 = 0
          · have e : j / 2 * 2 = j := by omega
            rw [e, hu] at f0
            exact .inl ⟨e.symm, Option.some.inj f0⟩
          · have e : j / 2 * 2 + 1 = j := by omega
            rw [e, hu] at f1
            exact .inr ⟨e.symm, Option.some.inj f1⟩
        obtain ⟨_, k0, k1, _⟩ := hL i x hx
        rcases hju with ⟨rfl, rfl⟩ | ⟨rfl, rfl⟩
        · exact k0
        · rw [← Nat.add_assoc]; exact k1
      · simp only [List.getElem?_map, Option.map_eq_some_iff] at h1 h2
        obtain ⟨x, hx, rfl⟩ := h1
        obtain ⟨x', hx', rfl⟩ := h2
        rw [hx] at hx'
        cases hx'
        obtain ⟨k0, _, _, k3, _⟩ := hL i x hx
        exact ⟨k0, k3⟩
      · obtain ⟨x, hx, he⟩ := List.mem_map.1 hm
        obtain ⟨i, hi2, hix⟩ := List.getElem_of_mem hx
        obtain ⟨_, _, _, _, k4, k5⟩ := hL i x (by rw [List.getElem?_eq_getElem hi2, hix])
        rw [he] at k4 k5
        exact ⟨k4, k5⟩
set_option maxRecDepth 100000 in
/-- A row of bytes that comes in, within the form's own reach. -/
theorem open_row_reach {H : Type} {enc : TypeId × Value → H} {W : World} {base : Nat} {v : Value} {d : DataW H} {ps : List MemPlace} (hval : Value.okWide Try.prog W .any base 29 v)
    (h : DataW.Trod enc Try.prog W 0 (fun _ => true) true 29 v d ps) (hlt : ∀ x ∈ ps, x.block < W.heap.size) (hsz : ∀ k ∈ d.weights Try.prog 29, k ≤ reachBytes) : ∃ bs, BytesAt W (fun k => k < W.heap.size) v bs ∧ bs.length ≤ 140737488355328 := by
  obtain ⟨a0, len, cap, rfl⟩ := okWide_slice Try.underlying29 hval
  obtain ⟨fuel, hf⟩ := h
  have h1 := bytes_len hf hsz
  obtain ⟨bs, hb⟩ := bytes_cell hf hlt
  refine ⟨bs, hb, ?_⟩
  obtain ⟨ao, cap', B, off, e, _⟩ := hb
  have e2 : len = bs.length := by injection e
  omega
end Go.Proofs.Ythibhkoneajffaa
