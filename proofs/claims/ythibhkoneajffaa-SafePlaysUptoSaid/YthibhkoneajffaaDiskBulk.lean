/- A slice of files that comes in, of small bulk: what it costs; five arguments at once. -/
import Derived.Test.YthibhkoneajffaaDiskOpenFiles
import Derived.Carry
namespace Go.Proofs.Ythibhkoneajffaa
open Go.ChangeShapes Go.WideShapes Go.ChangeAt Go.RowKit Go.Deep
theorem bulk_each {H : Type} : ∀ {l : List (DataW H)} {d : DataW H}, d ∈ l → Rows.uptoBulk d ≤ Rows.uptoBulkAll l
  | x :: r, d, h => by
    simp only [Rows.uptoBulkAll]
    rcases List.mem_cons.1 h with rfl | h
    · omega
    · have := bulk_each h; omega
theorem bulk_app {H : Type} : ∀ (a b : List (DataW H)), Rows.uptoBulkAll (a ++ b) = Rows.uptoBulkAll a + Rows.uptoBulkAll b
  | [], b => by simp [Rows.uptoBulkAll]
  | x :: r, b => by simp only [List.cons_append, Rows.uptoBulkAll, bulk_app r b]; omega
theorem snoc_rec {α : Type} {p : List α → Prop} (nil : p []) (snoc : ∀ l x, p l → p (l ++ [x])) (l : List α) : p l := by
  have : ∀ m : List α, p m.reverse := fun m => by
    induction m with
    | nil => exact nil
    | cons x r ih => rw [List.reverse_cons]; exact snoc _ _ ih
  rw [← List.reverse_reverse l]
  exact this _
theorem costs_bulk {H : Type} (f : Nat → DataW H) : ∀ (L : List ((Bs × Value) × (Bs × Bs))) (n : Nat), L.length = n → (∀ (i : Nat) (x : (Bs × Value) × (Bs × Bs)), L[i]? = some x → costF x.2.1 x.2.2 ≤ 16 * Rows.uptoBulk (f i)) →
    costs (L.map (·.2)) ≤ 16 * Rows.uptoBulkAll ((List.range n).map f) := by
  intro L n hn h
  subst hn
  induction L using snoc_rec with
  | nil => exact Nat.zero_le _
  | snoc l x ih =>
    have h1 := ih (fun i y hy => h i y (by rw [List.getElem?_append_left (List.getElem?_eq_some_iff.1 hy).1]; exact hy))
    have h2 := h l.length x (by simp)
    rw [List.map_append, costs_append, List.length_append, List.length_singleton, List.range_succ, List.map_append, bulk_app]
    have e : costs (([x] : List ((Bs × Value) × (Bs × Bs))).map (·.2)) = costF x.2.1 x.2.2 := by simp [costs, costF]
    rw [e]
    simp only [List.map_cons, List.map_nil, Rows.uptoBulkAll]
    omega
set_option maxRecDepth 100000 in
theorem bytes_bulk {H : Type} {enc : TypeId × Value → H} {W : World} {n : Nat} {ao : Option Addr} {len cap : Nat} {y : DataW H × List MemPlace} (h : DataW.trod enc Try.prog W 0 (fun _ => true) true n 29 [.slice ao len cap] = some y) : len ≤ Rows.uptoBulk y.1 := by
  rcases open_ints Try.underlying29 Try.underlying5 cells5 h with ⟨hcs, hx⟩ | ⟨a, len', cap', zs, hcs, _, hl, hm, hz, hx, hcell, hwz⟩
  · simp at hcs
    omega
  · simp at hcs
    obtain ⟨_, rfl, rfl⟩ := hcs
    simp only [if_true] at hz
    subst hx
    have h1 := bulk_len (lits (H := H) .u8 (zs.take len))
    simp only [Rows.uptoBulk]
    simp only [lits, List.length_map, List.length_take] at h1
    have : min len zs.length = len := by omega
    rw [this] at h1
    simp only [lits]
    omega
set_option maxRecDepth 100000 in
theorem open_files_upto {H : Type} {enc : TypeId × Value → H} {W : World} {base : Nat} {v : Value} {d : DataW H} {ps : List MemPlace} (hval : Value.okWide Try.prog W .any base 22 v)
    (h : DataW.Trod enc Try.prog W 0 (fun _ => true) true 22 v d ps) (hlt : ∀ x ∈ ps, x.block < W.heap.size) (hbk : Rows.uptoBulk d ≤ 1048576) :
    ∃ L : Files, FilesAt W (fun k => k < W.heap.size) v L ∧ L.length ≤ 4000000000000 ∧ (∀ n b, (n, b) ∈ L → n.length ≤ 9223372036854775807 ∧ b.length ≤ 140737488355328) ∧ costs L ≤ 16 * Rows.uptoBulk d := by
  obtain ⟨a0, len, cap, rfl⟩ := okWide_slice Try.underlying22 hval
  obtain ⟨fuel, hf⟩ := h
  rcases open_slice_pairs Try.underlying22 Try.underlying57 cells74 rfl rfl cells9 cells32d hf with ⟨hcs, hx⟩ | ⟨a, len', cap', m, n, V0, V1, D0, D1, P0, P1, hcs, _, hl, hm, hmm, hx, hi⟩
  · simp [Value.cells] at hcs
    obtain ⟨rfl, rfl, rfl⟩ := hcs
    exact ⟨[], filesAt_nil _ _, by simp, (fun n b h => by cases h), Nat.zero_le _⟩
  · simp [Value.cells] at hcs
    obtain ⟨rfl, rfl, rfl⟩ := hcs
    simp only [Prod.mk.injEq] at hx
    obtain ⟨rfl, rfl⟩ := hx
    simp only [if_true] at hmm
    subst hmm
    have hN : len ≤ 4000000000000 := by
      have h1 := bulk_len ((List.range len).map fun i => DataW.agg [D0 i, D1 i])
      simp only [Rows.uptoBulk] at hbk
      simp only [List.length_map, List.length_range] at h1
      omega
    have hw : ∀ i, i < len → Rows.uptoBulk (D1 i) ≤ 1048576 := fun i hil => by
      have h1 : DataW.agg [D0 i, D1 i] ∈ (List.range len).map fun i => DataW.agg [D0 i, D1 i] := List.mem_map.2 ⟨i, List.mem_range.2 hil, rfl⟩
      have h2 := bulk_each h1
      simp only [Rows.uptoBulk, Rows.uptoBulkAll] at hbk h2
      omega
    obtain ⟨b, off, spot⟩ := a
    by_cases hl0 : len = 0
    · subst hl0
      exact ⟨[], ⟨_, _, [], 0, 0, rfl, ⟨Nat.zero_le _, hm, fun h => absurd h (Nat.lt_irrefl _), (fun h => by cases h), fun j u h => by simp [fcells] at h⟩, Has.nil _ _⟩, by simp, (fun n b h => by cases h), Nat.zero_le _⟩
    · have hspot : spot = Option.none := by
        have := (hi 0 (by omega)).1
        simpa [Addr.add] using World.cell?_spot this
      subst hspot
      have hbl : b < W.heap.size := by
        have := (hi 0 (by omega)).1
        rw [Addr.add_lit] at this
        exact World.block_lt_of_cell? W _ this
      obtain ⟨L, hLl, hL⟩ := choose_list (p := fun i (x : (Bs × Value) × (Bs × Bs)) => x.1.1 = x.2.1 ∧ W.cell? ⟨b, off + i * 2, none⟩ = some (.string (SL x.1.1)) ∧ W.cell? ⟨b, off + i * 2 + 1, none⟩ = some x.1.2 ∧ BytesAt W (fun k => k < W.heap.size) x.1.2 x.2.2 ∧ x.2.1.length ≤ 9223372036854775807 ∧ x.2.2.length ≤ 140737488355328 ∧ costF x.2.1 x.2.2 ≤ 16 * Rows.uptoBulk (DataW.agg [D0 i, D1 i])) len (fun i hil => by
        obtain ⟨c0, c1, t0, t1⟩ := hi i (by omega)
        have t0 : DataW.trod enc Try.prog W 0 (fun _ => true) true n 9 [V0 i] = some (D0 i, P0 i) := t0
        have t1 : DataW.trod enc Try.prog W 0 (fun _ => true) true n 29 [V1 i] = some (D1 i, P1 i) := t1
        obtain ⟨s, e0, d0, z0⟩ := DataW.trod_string Try.underlying9 t0
        obtain ⟨nm, rfl, ln⟩ := text_of s z0
        obtain ⟨bs, hby⟩ := bytes_cell t1 (fun q hq => hlt q (List.mem_append_right _ (List.mem_flatMap.2 ⟨i, List.mem_range.2 (by omega), List.mem_append_right _ hq⟩)))
        rw [Addr.add_lit] at c0 c1
        rw [List.singleton_inj.1 e0] at c0
        refine ⟨((nm, V1 i), (nm, bs)), rfl, c0, by rw [Nat.add_assoc]; exact c1, hby, ln, ?_, ?_⟩
        rotate_left
        · obtain ⟨x, cc, B3, o3, hv, _⟩ := hby
          rw [hv] at t1
          have h1 := bytes_bulk t1
          have h2 : D0 i = .lit (.string (SL nm).data.toList) := by
            have := congrArg Prod.fst d0
            exact this
          have h3 : (SL nm).data.toList.length = nm.length := by simp [SL]
          simp only [Rows.uptoBulk, Rows.uptoBulkAll, h2, h3]
          unfold costF
          simp only at h1
          omega
        obtain ⟨x, cc, B3, o3, hv, _⟩ := hby
        rw [hv] at t1
        have h1 := bytes_bulk t1
        have h2 := hw i hil
        simp only at h1
        show bs.length ≤ _
        omega)
      refine ⟨L.map (·.2), ⟨some ⟨b, off, none⟩, m, L.map (·.1), b, off, by simp [hLl], ⟨by simp [hLl]; exact hl, hm, fun _ => ⟨rfl, hbl⟩, (fun h => by cases h), fun j u hu => ?_⟩, by simp, fun i p f h1 h2 => ?_⟩, by simp [hLl]; exact hN, fun nn bb hm => ?_, ?_⟩
      · obtain ⟨i, x, hx, hju⟩ : ∃ (i : Nat) (x : (Bs × Value) × (Bs × Bs)), L[i]? = some x ∧ ((j = i * 2 ∧ u = .string (SL x.1.1)) ∨ (j = i * 2 + 1 ∧ u = x.1.2)) := by
          have hj := (List.getElem?_eq_some_iff.1 hu).1
          rw [fcells_length, List.length_map] at hj
          have hi2 : j / 2 < L.length := by omega
          obtain ⟨f0, f1⟩ := fcells_get (l := L.map (·.1)) (i := j / 2) (p := L[j / 2].1) (by simp [List.getElem?_eq_getElem hi2])
          refine ⟨j / 2, L[j / 2], List.getElem?_eq_getElem hi2, ?_⟩
          by_cases he : j % 2 = 0
          · have e : j / 2 * 2 = j := by omega
            rw [e, hu] at f0
            exact .inl ⟨e.symm, Option.some.inj f0⟩
          · have e : j / 2 * 2 + 1 = j := by omega
            rw [e, hu] at f1
            exact .inr ⟨e.symm, Option.some.inj f1⟩
        obtain ⟨_, k0, k1, _⟩ := hL i x hx
        rcases hju with ⟨rfl, rfl⟩ | ⟨rfl, rfl⟩
        · exact k0
        · rw [← Nat.add_assoc]; exact k1
      · simp only [List.getElem?_map, Option.map_eq_some_iff] at h1 h2
        obtain ⟨x, hx, rfl⟩ := h1
        obtain ⟨x', hx', rfl⟩ := h2
        rw [hx] at hx'
        cases hx'
        obtain ⟨k0, _, _, k3, _⟩ := hL i x hx
        exact ⟨k0, k3⟩
      · obtain ⟨x, hx, he⟩ := List.mem_map.1 hm
        obtain ⟨i, hi2, hix⟩ := List.getElem_of_mem hx
        obtain ⟨_, _, _, _, k4, k5, _⟩ := hL i x (by rw [List.getElem?_eq_getElem hi2, hix])
        rw [he] at k4 k5
        exact ⟨k4, k5⟩
      · have h1 := costs_bulk (fun i => DataW.agg [D0 i, D1 i]) L len hLl (fun i x hx => (hL i x hx).2.2.2.2.2.2)
        simp only [Rows.uptoBulk]
        omega
set_option maxRecDepth 100000 in
theorem open_row_upto {H : Type} {enc : TypeId × Value → H} {W : World} {base : Nat} {v : Value} {d : DataW H} {ps : List MemPlace} (hval : Value.okWide Try.prog W .any base 29 v)
    (h : DataW.Trod enc Try.prog W 0 (fun _ => true) true 29 v d ps) (hlt : ∀ x ∈ ps, x.block < W.heap.size) : ∃ bs, BytesAt W (fun k => k < W.heap.size) v bs ∧ bs.length ≤ Rows.uptoBulk d := by
  obtain ⟨a0, len, cap, rfl⟩ := okWide_slice Try.underlying29 hval
  obtain ⟨fuel, hf⟩ := h
  have h1 := bytes_bulk hf
  obtain ⟨bs, hb⟩ := bytes_cell hf hlt
  refine ⟨bs, hb, ?_⟩
  obtain ⟨ao, cap', B, off, e, _⟩ := hb
  have e2 : len = bs.length := by injection e
  rw [← e2]
  exact h1
theorem trodAll_five {H : Type} {enc : TypeId × Value → H} {P : Program} {w : World} {base : Nat} {spare : Nat → Bool} {held : Bool} {t t' t'' t3 t4 : TypeId} {args : Array Value} {ds : List (DataW H)} {ps : List MemPlace} (h : DataW.TrodAll enc P w base spare held [t, t', t'', t3, t4] args.toList ds ps) :
    ∃ v v' v'' v3 v4 d d' d'' d3 d4 p p' p'' p3 p4, args = #[v, v', v'', v3, v4] ∧ ds = [d, d', d'', d3, d4] ∧ ps = p ++ p' ++ p'' ++ p3 ++ p4 ∧ DataW.Trod enc P w base spare held t v d p ∧ DataW.Trod enc P w base spare held t' v' d' p' ∧ DataW.Trod enc P w base spare held t'' v'' d'' p'' ∧ DataW.Trod enc P w base spare held t3 v3 d3 p3 ∧ DataW.Trod enc P w base spare held t4 v4 d4 p4 := by
  obtain ⟨v, vs, d, ds', p, q, hargs, rfl, rfl, hd, hrest⟩ := trodAll_cons h
  obtain ⟨v', vs', d', ds'', p', q', rfl, rfl, rfl, hd', hrest'⟩ := trodAll_cons hrest
  obtain ⟨v'', vs'', d'', ds''', p'', q'', rfl, rfl, rfl, hd'', hrest''⟩ := trodAll_cons hrest'
  obtain ⟨v3, vs3, d3, ds3, p3, q3, rfl, rfl, rfl, hd3, hrest3⟩ := trodAll_cons hrest''
  obtain ⟨v4, vs4, d4, ds4, p4, q4, rfl, rfl, rfl, hd4, hrest4⟩ := trodAll_cons hrest3
  obtain ⟨rfl, rfl, rfl⟩ := trodAll_nil hrest4
  exact ⟨v, v', v'', v3, v4, d, d', d'', d3, d4, p, p', p'', p3, p4, by cases args; simp_all, rfl, by simp, hd, hd', hd'', hd3, hd4⟩
theorem trodAll_mk5 {H : Type} {enc : TypeId × Value → H} {P : Program} {w : World} {base : Nat} {spare : Nat → Bool} {held : Bool} {t t' t'' t3 t4 : TypeId} {v v' v'' v3 v4 : Value} {d d' d'' d3 d4 : DataW H} {p p' p'' p3 p4 : List MemPlace} (h : DataW.Trod enc P w base spare held t v d p) (h' : DataW.Trod enc P w base spare held t' v' d' p')
    (h'' : DataW.Trod enc P w base spare held t'' v'' d'' p'') (h3 : DataW.Trod enc P w base spare held t3 v3 d3 p3) (h4 : DataW.Trod enc P w base spare held t4 v4 d4 p4) : DataW.TrodAll enc P w base spare held [t, t', t'', t3, t4] [v, v', v'', v3, v4] [d, d', d'', d3, d4] (p ++ (p' ++ (p'' ++ (p3 ++ p4)))) := ⟨p, p' ++ (p'' ++ (p3 ++ p4)), h, trodAll_mk4 h' h'' h3 h4, rfl⟩
end Go.Proofs.Ythibhkoneajffaa
