/- Scripts of operations that come in, of small bulk. -/
import Derived.Test.YthibhkoneajffaaDiskBulk
namespace Go.Proofs.Ythibhkoneajffaa
open Go.ChangeShapes Go.WideShapes Go.ChangeAt Go.RowKit Go.Deep
set_option maxRecDepth 100000 in
/-- The rows of a slice of structs that came in. -/
theorem open_rows_upto {H : Type} {enc : TypeId × Value → H} {W : World} {base : Nat} {v : Value} {d : DataW H} {ps : List MemPlace} {t e k : Nat} {fs : Array Field} (ht : Try.prog.underlying t = some (.slice e)) (he : Try.prog.underlying e = some (.struct fs)) (hC : Try.prog.cellsOf e = k) (hk : 0 < k)
    (hval : Value.okWide Try.prog W .any base t v) (h : DataW.Trod enc Try.prog W 0 (fun _ => true) true t v d ps) (hlt : ∀ x ∈ ps, x.block < W.heap.size) :
    ∃ (ao : Option Addr) (len cap g off : Nat), v = .slice ao len cap ∧ len ≤ cap ∧ cap ≤ maxLen ∧ (ao = none → len = 0 ∧ cap = 0) ∧ (0 < len → ao = some ⟨g, off, none⟩ ∧ g < W.heap.size) ∧ ((d = .nil ∧ len = 0) ∨ ∃ els sp, d = .slice els sp ∧ els.length = len ∧ els.length + sp.length = cap) ∧
      ∀ i, i < len → ∃ (cs : List Value) (n : Nat), cs.length = k ∧ (∀ j u, cs[j]? = some u → W.cell? ⟨g, off + i * k + j, none⟩ = some u) ∧
        (∀ (j : Nat) (f : Field), fs[j]? = some f → ∃ y, DataW.trod enc Try.prog W 0 (fun _ => true) true n f.type ((cs.drop f.offset).take (Try.prog.cellsOf f.type)) = some y ∧ (∀ x ∈ y.2, x.block < W.heap.size) ∧ Rows.uptoBulk y.1 ≤ Rows.uptoBulk d) := by
  obtain ⟨a0, len, cap, rfl⟩ := okWide_slice ht hval
  obtain ⟨fuel, hf⟩ := h
  rcases open_slice ht hf with ⟨hcs, hx⟩ | ⟨a, len', cap', m, n, D, Pl, hcs, _, hl, hm, hmm, hx, hi⟩
  · simp [Value.cells] at hcs
    obtain ⟨rfl, rfl, rfl⟩ := hcs
    simp only [Prod.mk.injEq] at hx
    exact ⟨none, 0, 0, 0, 0, rfl, Nat.le_refl _, Nat.zero_le _, fun _ => ⟨rfl, rfl⟩, fun h => absurd h (Nat.lt_irrefl _), .inl ⟨hx.1, rfl⟩, fun i hi => absurd hi (Nat.not_lt_zero _)⟩
  · simp [Value.cells] at hcs
    obtain ⟨rfl, rfl, rfl⟩ := hcs
    simp only [Prod.mk.injEq] at hx
    obtain ⟨rfl, rfl⟩ := hx
    simp only [if_true] at hmm
    subst hmm
    obtain ⟨b, off, spot⟩ := a
    by_cases hl0 : len = 0
    · subst hl0
      exact ⟨some ⟨b, off, spot⟩, 0, m, 0, 0, rfl, Nat.zero_le _, hm, (fun h => by cases h), fun h => absurd h (Nat.lt_irrefl _), .inr ⟨_, _, rfl, by simp, by simp⟩, fun i hi => absurd hi (Nat.not_lt_zero _)⟩
    · have hbl : b < W.heap.size := hlt (.cell b off) (List.mem_append_left _ (MemPlace.mem_row.2 ⟨0, by rw [hC]; exact Nat.mul_pos (by omega) hk, by simp⟩))
      have hrow : ∀ i, i < len → ∃ cs', W.cells? 0 ((⟨b, off, spot⟩ : Addr).add (i * k)) k = some cs' ∧ DataW.trod enc Try.prog W 0 (fun _ => true) true n e cs' = some (D i, Pl i) := fun i hil => by
        have := hi i (by omega)
        rwa [hC] at this
      have hspot : spot = Option.none := by
        obtain ⟨cs', h1, _⟩ := hrow 0 (by omega)
        obtain ⟨_, h3, h4⟩ := World.cells?_some h1
        have h5 := h4 0 hk
        rw [List.getElem?_eq_getElem (by omega)] at h5
        simpa [Addr.add] using World.cell?_spot h5
      subst hspot
      refine ⟨some ⟨b, off, none⟩, len, m, b, off, rfl, hl, hm, (fun h => by cases h), fun _ => ⟨rfl, hbl⟩, .inr ⟨_, _, rfl, by simp, by simp; omega⟩, fun i hil => ?_⟩
      obtain ⟨cs', h1, h2⟩ := hrow i hil
      obtain ⟨_, h3, h4⟩ := World.cells?_some h1
      obtain ⟨xs, n', _, h5, _, hxl, h6⟩ := DataW.trod_struct he h2
      simp only [Prod.mk.injEq] at h5
      refine ⟨cs', n', h3, fun j u hu => ?_, fun j f hjf => ?_⟩
      · have hj := (List.getElem?_eq_some_iff.1 hu).1
        have := h4 j (by omega)
        rw [hu, Addr.add_lit, Addr.add_lit] at this
        exact this
      · have hj : j < xs.length := by rw [hxl]; exact (Array.getElem?_eq_some_iff.1 hjf).1
        refine ⟨xs[j], (h6 j f hjf).trans (List.getElem?_eq_getElem hj), fun x hx => hlt x (List.mem_append_right _ (List.mem_flatMap.2 ⟨i, List.mem_range.2 (by omega), ?_⟩)), ?_⟩
        rotate_left
        · have b1 := bulk_each (List.mem_map.2 ⟨xs[j], List.getElem_mem hj, rfl⟩ : (xs[j]).1 ∈ xs.map (·.1))
          have b2 : Rows.uptoBulkAll (xs.map (·.1)) ≤ Rows.uptoBulk (D i) := by
            rw [h5.1]
            simp only [Rows.uptoBulk]
            omega
          have b3 : D i ∈ (List.range len).map D := List.mem_map.2 ⟨i, List.mem_range.2 hil, rfl⟩
          have b4 := bulk_each b3
          simp only [Rows.uptoBulk]
          omega
        rw [h5.2]
        exact List.mem_flatMap.2 ⟨_, List.getElem_mem hj, hx⟩
structure SopR where
  z : Int
  nm : Bs
  v : Value
  l : Bs
  n : Int
/-- An operation that lies in memory. -/
structure SopAt (W : World) (F : Nat → Prop) (g x : Nat) (r : SopR) : Prop where
  c0 : W.cell? ⟨g, x, none⟩ = some (.int .i64 r.z)
  c1 : W.cell? ⟨g, x + 1, none⟩ = some (.string (SL r.nm))
  c2 : W.cell? ⟨g, x + 2, none⟩ = some r.v
  c3 : W.cell? ⟨g, x + 3, none⟩ = some (.int .i64 r.n)
  bytes : BytesAt W F r.v r.l
  ln : r.nm.length ≤ 1048576
  ll : r.l.length ≤ 1048576
  lo : -9223372036854775808 ≤ r.n ∧ r.n ≤ 9223372036854775807
def SscriptAt (W : World) (F : Nat → Prop) (v : Value) (sc : List SopR) : Prop := ∃ ao cap g off, v = .slice ao sc.length cap ∧ (0 < sc.length → ao = some ⟨g, off, none⟩ ∧ F g) ∧ ∀ i r, sc[i]? = some r → SopAt W F g (off + i * 4) r
theorem SopAt.turn {G F : Nat → Prop} {w w' : World} {g x : Nat} {r : SopR} (h : SopAt w F g x r) (hg : F g) (ht : Turn G w w') (hn : ∀ k, F k → ¬ G k) : SopAt w' F g x r :=
  ⟨ht.cell h.c0 (hn _ hg), ht.cell h.c1 (hn _ hg), ht.cell h.c2 (hn _ hg), ht.cell h.c3 (hn _ hg), h.bytes.turn ht hn, h.ln, h.ll, h.lo⟩
theorem cellsSop : Try.prog.cellsOf 31 = 4 := by kernel_rfl
set_option maxRecDepth 100000 in
theorem open_script_upto {H : Type} {enc : TypeId × Value → H} {W : World} {base : Nat} {v : Value} {d : DataW H} {ps : List MemPlace} (hval : Value.okWide Try.prog W .any base 23 v)
    (h : DataW.Trod enc Try.prog W 0 (fun _ => true) true 23 v d ps) (hlt : ∀ x ∈ ps, x.block < W.heap.size) (hbk : Rows.uptoBulk d ≤ 1048576) : ∃ sc, SscriptAt W (fun k => k < W.heap.size) v sc := by
  obtain ⟨ao, len, cap, g, off, rfl, _, _, _, h1, _, h2⟩ := open_rows_upto Try.underlying23 Try.underlying31 cellsSop (by omega) hval h hlt
  obtain ⟨sc, h3, h4⟩ := choose_list (p := fun i r => SopAt W (fun k => k < W.heap.size) g (off + i * 4) r) len (fun i hi => by
    obtain ⟨cs, n, k1, k2, k3⟩ := h2 i hi
    obtain ⟨y0, f0, _⟩ := k3 0 _ rfl
    obtain ⟨y1, f1, _, q1⟩ := k3 1 _ rfl
    obtain ⟨y2, f2, p2, q2⟩ := k3 2 _ rfl
    obtain ⟨y3, f3, _⟩ := k3 3 _ rfl
    have f0 : DataW.trod enc Try.prog W 0 (fun _ => true) true n 3 ((cs.drop 0).take (Try.prog.cellsOf 3)) = some y0 := f0
    rw [cells3, one_cell cs 0 (by omega)] at f0
    have f1 : DataW.trod enc Try.prog W 0 (fun _ => true) true n 9 ((cs.drop 1).take (Try.prog.cellsOf 9)) = some y1 := f1
    rw [cells9, one_cell cs 1 (by omega)] at f1
    have f2 : DataW.trod enc Try.prog W 0 (fun _ => true) true n 29 ((cs.drop 2).take (Try.prog.cellsOf 29)) = some y2 := f2
    rw [cells32d, one_cell cs 2 (by omega)] at f2
    have f3 : DataW.trod enc Try.prog W 0 (fun _ => true) true n 3 ((cs.drop 3).take (Try.prog.cellsOf 3)) = some y3 := f3
    rw [cells3, one_cell cs 3 (by omega)] at f3
    obtain ⟨z, e0, _, _⟩ := DataW.trod_int Try.underlying3 f0
    obtain ⟨s1, e1, g1, z1⟩ := DataW.trod_string Try.underlying9 f1
    obtain ⟨bs, hb⟩ := bytes_cell f2 p2
    obtain ⟨m, e3, _, w3⟩ := DataW.trod_int Try.underlying3 f3
    obtain ⟨b1, rfl, l1⟩ := text_of s1 z1
    have c0 := k2 0 _ (List.getElem?_eq_getElem (by omega))
    have c1 := k2 1 _ (List.getElem?_eq_getElem (by omega))
    have c2 := k2 2 _ (List.getElem?_eq_getElem (by omega))
    have c3 := k2 3 _ (List.getElem?_eq_getElem (by omega))
    rw [List.singleton_inj.1 e0] at c0
    rw [List.singleton_inj.1 e1] at c1
    rw [List.singleton_inj.1 e3] at c3
    have hm : -9223372036854775808 ≤ m ∧ m ≤ 9223372036854775807 := by simpa [Lit.wf, IntKind.min, IntKind.max, IntKind.signed, IntKind.bits] using w3
    have hb1 : b1.length ≤ 1048576 := by
      have g2 : y1.1 = .lit (.string (SL b1).data.toList) := congrArg Prod.fst g1
      rw [g2] at q1
      have h3 : (SL b1).data.toList.length = b1.length := by simp [SL]
      simp only [Rows.uptoBulk, h3] at q1
      omega
    have hb2 : bs.length ≤ 1048576 := by
      obtain ⟨x, cc, B3, o3, hv, _⟩ := hb
      rw [hv] at f2
      have := bytes_bulk f2
      omega
    exact ⟨⟨z, b1, cs[2], bs, m⟩, c0, c1, c2, c3, hb, hb1, hb2, hm⟩)
  exact ⟨sc, ao, cap, g, off, by rw [h3], fun hp => h1 (by omega), h4⟩
end Go.Proofs.Ythibhkoneajffaa
