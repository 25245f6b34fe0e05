/- What the proofs stand on: DiskOpenFiles, DiskBulk, LooseScript. -/
import Derived.Deep.SlicePairs
import Derived.SizedLaws
import Derived.Test.YtomgijcbekjlaaaGreatP30
import Derived.Carry
import Derived.Test.YtomgijcbekjlaaaGreatP32
import Derived.Test.YtomgijcbekjlaaaGreatPB0
set_option maxRecDepth 100000
set_option maxHeartbeats 40000000
namespace Go.Proofs.YtomgijcbekjlaaaGreat
section
open Go.ChangeShapes Go.WideShapes Go.ChangeAt Go.RowKit Go.Deep
end
section
open Go.ChangeShapes Go.WideShapes Go.ChangeAt Go.RowKit Go.Deep
theorem bulk_each {H : Type} : ∀ {l : List (DataW H)} {d : DataW H}, d ∈ l -> Rows.uptoBulk d <= Rows.uptoBulkAll l
 | x :: r, d, h => by
  simp only [Rows.uptoBulkAll]; rcases List.mem_cons.1 h with rfl | h
  ·omega
  ·have := bulk_each h; omega
theorem bulk_app {H : Type} : ∀ (a b : List (DataW H)), Rows.uptoBulkAll (a ++ b) = Rows.uptoBulkAll a + Rows.uptoBulkAll b
 | [], b => by simp [Rows.uptoBulkAll]
 | x :: r, b => by simp only [List.cons_append, Rows.uptoBulkAll, bulk_app r b]; omega
theorem snoc_rec {α : Type} {p : List α -> Prop} (nil : p []) (snoc : ∀ l x, p l -> p (l ++ [x])) (l : List α) : p l := by
 have : ∀ m : List α, p m.reverse := fun m => by
  induction m with
  | nil => exact nil
  | cons x r ih => rw [List.reverse_cons]; exact snoc _ _ ih
 rw [<- List.reverse_reverse l]; exact this _
theorem costs_bulk {H : Type} (f : Nat -> DataW H) : ∀ (L : List ((Bs × Value) × (Bs × Bs))) (n : Nat), L.length = n -> (∀ (i : Nat) (x : (Bs × Value) × (Bs × Bs)), L[i]? = some x -> costF x.2.1 x.2.2 <= 16 * Rows.uptoBulk (f i)) ->
  costs (L.map (·.2)) <= 16 * Rows.uptoBulkAll ((List.range n).map f) := by
 intro L n hn h
 subst hn; induction L using snoc_rec with
 | nil => exact Nat.zero_le _
 | snoc l x ih =>
  have h1 := ih (fun i y hy => h i y (by rw [List.getElem?_append_left (List.getElem?_eq_some_iff.1 hy).1]; exact hy))
  have h2 := h l.length x (by simp)
  rw [List.map_append, costs_append, List.length_append, List.length_singleton, List.range_succ, List.map_append, bulk_app]; have e : costs (([x] : List ((Bs × Value) × (Bs × Bs))).map (·.2)) = costF x.2.1 x.2.2 := by simp [costs, costF]
  rw [e]; simp only [List.map_cons, List.map_nil, Rows.uptoBulkAll]; omega
theorem bytes_bulk {H : Type} {enc : TypeId × Value -> H} {W : World} {n : Nat} {ao : Option Addr} {len cap : Nat} {y : DataW H × List MemPlace} (h : DataW.trod enc Tryz.prog W 0 (fun _ => true) true n 29 [.slice ao len cap] = some y) : len <= Rows.uptoBulk y.1 := by
 rcases open_ints Tryz.underlying29 Tryz.underlying5 cells5 h with ⟨hcs, hx⟩ | ⟨a, len', cap', zs, hcs, _, hl, hm, hz, hx, hcell, hwz⟩
 ·simp at hcs
  omega
 ·simp at hcs
  obtain ⟨_, rfl, rfl⟩ := hcs; simp only [if_true] at hz; subst hx; have h1 := bulk_len (lits (H := H) .u8 (zs.take len))
  simp only [Rows.uptoBulk]; simp only [lits, List.length_map, List.length_take] at h1; have : min len zs.length = len := by omega
  rw [this] at h1; simp only [lits]; omega
theorem open_files_upto {H : Type} {enc : TypeId × Value -> H} {W : World} {base : Nat} {v : Value} {d : DataW H} {ps : List MemPlace} (hval : Value.okWide Tryz.prog W .any base 22 v)
  (h : DataW.Trod enc Tryz.prog W 0 (fun _ => true) true 22 v d ps) (hlt : ∀ x ∈ ps, x.block < W.heap.size) (hbk : Rows.uptoBulk d <= 1048576) :
  ∃ L : Files, FilesAt W (fun k => k < W.heap.size) v L /\ L.length <= 4000000000000 /\ (∀ n b, (n, b) ∈ L -> n.length <= 9223372036854775807 /\ b.length <= 140737488355328) /\ costs L <= 16 * Rows.uptoBulk d := by
 obtain ⟨a0, len, cap, rfl⟩ := okWide_slice Tryz.underlying22 hval; obtain ⟨fuel, hf⟩ := h; rcases open_slice_pairs Tryz.underlying22 Tryz.underlying73 cells74 rfl rfl cells9 cells32d hf with ⟨hcs, hx⟩ | ⟨a, len', cap', m, n, V0, V1, D0, D1, P0, P1, hcs, _, hl, hm, hmm, hx, hi⟩
 ·simp [Value.cells] at hcs
  obtain ⟨rfl, rfl, rfl⟩ := hcs; exact ⟨[], filesAt_nil _ _, by simp, (fun n b h => by cases h), Nat.zero_le _⟩
 ·simp [Value.cells] at hcs
  obtain ⟨rfl, rfl, rfl⟩ := hcs; simp only [Prod.mk.injEq] at hx; obtain ⟨rfl, rfl⟩ := hx; simp only [if_true] at hmm; subst hmm; have hN : len <= 4000000000000 := by
   have h1 := bulk_len ((List.range len).map fun i => DataW.agg [D0 i, D1 i])
   simp only [Rows.uptoBulk] at hbk; simp only [List.length_map, List.length_range] at h1; omega
  have hw : ∀ i, i < len -> Rows.uptoBulk (D1 i) <= 1048576 := fun i hil => by
   have h1 : DataW.agg [D0 i, D1 i] ∈ (List.range len).map fun i => DataW.agg [D0 i, D1 i] := List.mem_map.2 ⟨i, List.mem_range.2 hil, rfl⟩
   have h2 := bulk_each h1; simp only [Rows.uptoBulk, Rows.uptoBulkAll] at hbk h2; omega
  obtain ⟨b, off, spot⟩ := a; by_cases hl0 : len = 0
  ·subst hl0
   exact ⟨[], ⟨_, _, [], 0, 0, rfl, ⟨Nat.zero_le _, hm, fun h => absurd h (Nat.lt_irrefl _), (fun h => by cases h), fun j u h => by simp [fcells] at h⟩, Has.nil _ _⟩, by simp, (fun n b h => by cases h), Nat.zero_le _⟩
  ·have hspot : spot = Option.none := by
    have := (hi 0 (by omega)).1
    simpa [Addr.add] using World.cell?_spot this
   subst hspot; have hbl : b < W.heap.size := by
    have := (hi 0 (by omega)).1
    rw [Addr.add_lit] at this; exact World.block_lt_of_cell? W _ this
   obtain ⟨L, hLl, hL⟩ := choose_list (p := fun i (x : (Bs × Value) × (Bs × Bs)) => x.1.1 = x.2.1 /\ W.cell? ⟨b, off + i * 2, none⟩ = some (.string (SL x.1.1)) /\ W.cell? ⟨b, off + i * 2 + 1, none⟩ = some x.1.2 /\ BytesAt W (fun k => k < W.heap.size) x.1.2 x.2.2 /\ x.2.1.length <= 9223372036854775807 /\ x.2.2.length <= 140737488355328 /\ costF x.2.1 x.2.2 <= 16 * Rows.uptoBulk (DataW.agg [D0 i, D1 i])) len (fun i hil => by
    obtain ⟨c0, c1, t0, t1⟩ := hi i (by omega)
    have t0 : DataW.trod enc Tryz.prog W 0 (fun _ => true) true n 9 [V0 i] = some (D0 i, P0 i) := t0
    have t1 : DataW.trod enc Tryz.prog W 0 (fun _ => true) true n 29 [V1 i] = some (D1 i, P1 i) := t1
    obtain ⟨s, e0, d0, z0⟩ := DataW.trod_string Tryz.underlying9 t0; obtain ⟨nm, rfl, ln⟩ := text_of s z0; obtain ⟨bs, hby⟩ := bytes_cell t1 (fun q hq => hlt q (List.mem_append_right _ (List.mem_flatMap.2 ⟨i, List.mem_range.2 (by omega), List.mem_append_right _ hq⟩)))
    rw [Addr.add_lit] at c0 c1; rw [List.singleton_inj.1 e0] at c0; refine ⟨((nm, V1 i), (nm, bs)), rfl, c0, by rw [Nat.add_assoc]; exact c1, hby, ln, ?_, ?_⟩
    rotate_left
    ·obtain ⟨x, cc, B3, o3, hv, _⟩ := hby
     rw [hv] at t1; have h1 := bytes_bulk t1; have h2 : D0 i = .lit (.string (SL nm).data.toList) := by
      have := congrArg Prod.fst d0
      exact this
     have h3 : (SL nm).data.toList.length = nm.length := by simp [SL]
     simp only [Rows.uptoBulk, Rows.uptoBulkAll, h2, h3]; unfold costF; simp only at h1
     omega
    obtain ⟨x, cc, B3, o3, hv, _⟩ := hby; rw [hv] at t1; have h1 := bytes_bulk t1; have h2 := hw i hil; simp only at h1
    show bs.length <= _
    omega)
   refine ⟨L.map (·.2), ⟨some ⟨b, off, none⟩, m, L.map (·.1), b, off, by simp [hLl], ⟨by simp [hLl]; exact hl, hm, fun _ => ⟨rfl, hbl⟩, (fun h => by cases h), fun j u hu => ?_⟩, by simp, fun i p f h1 h2 => ?_⟩, by simp [hLl]; exact hN, fun nn bb hm => ?_, ?_⟩
   ·obtain ⟨i, x, hx, hju⟩ : ∃ (i : Nat) (x : (Bs × Value) × (Bs × Bs)), L[i]? = some x /\ ((j = i * 2 /\ u = .string (SL x.1.1)) \/ (j = i * 2 + 1 /\ u = x.1.2)) := by
     have hj := (List.getElem?_eq_some_iff.1 hu).1; rw [fcells_length, List.length_map] at hj; have hi2 : j / 2 < L.length := by omega
     obtain ⟨f0, f1⟩ := fcells_get (l := L.map (·.1)) (i := j / 2) (p := L[j / 2].1) (by simp [List.getElem?_eq_getElem hi2])
     refine ⟨j / 2, L[j / 2], List.getElem?_eq_getElem hi2, ?_⟩; by_cases he : j % 2 = 0
     ·have e : j / 2 * 2 = j := by omega
      rw [e, hu] at f0; exact .inl ⟨e.symm, Option.some.inj f0⟩
     ·have e : j / 2 * 2 + 1 = j := by omega
      rw [e, hu] at f1; exact .inr ⟨e.symm, Option.some.inj f1⟩
    obtain ⟨_, k0, k1, _⟩ := hL i x hx; rcases hju with ⟨rfl, rfl⟩ | ⟨rfl, rfl⟩
    ·exact k0
    ·rw [<- Nat.add_assoc]; exact k1
   ·simp only [List.getElem?_map, Option.map_eq_some_iff] at h1 h2
    obtain ⟨x, hx, rfl⟩ := h1; obtain ⟨x', hx', rfl⟩ := h2; rw [hx] at hx'
    cases hx'
    obtain ⟨k0, _, _, k3, _⟩ := hL i x hx; exact ⟨k0, k3⟩
   ·obtain ⟨x, hx, he⟩ := List.mem_map.1 hm
    obtain ⟨i, hi2, hix⟩ := List.getElem_of_mem hx; obtain ⟨_, _, _, _, k4, k5, _⟩ := hL i x (by rw [List.getElem?_eq_getElem hi2, hix])
    rw [he] at k4 k5; exact ⟨k4, k5⟩
   ·have h1 := costs_bulk (fun i => DataW.agg [D0 i, D1 i]) L len hLl (fun i x hx => (hL i x hx).2.2.2.2.2.2)
    simp only [Rows.uptoBulk]; omega
end
section
open Go.ChangeShapes Go.WideShapes Go.ChangeAt Go.RowKit Go.Deep
theorem open_rows_upto {H : Type} {enc : TypeId × Value -> H} {W : World} {base : Nat} {v : Value} {d : DataW H} {ps : List MemPlace} {t e k : Nat} {fs : Array Field} (ht : Tryz.prog.underlying t = some (.slice e)) (he : Tryz.prog.underlying e = some (.struct fs)) (hC : Tryz.prog.cellsOf e = k) (hk : 0 < k)
  (hval : Value.okWide Tryz.prog W .any base t v) (h : DataW.Trod enc Tryz.prog W 0 (fun _ => true) true t v d ps) (hlt : ∀ x ∈ ps, x.block < W.heap.size) :
  ∃ (ao : Option Addr) (len cap g off : Nat), v = .slice ao len cap /\ len <= cap /\ cap <= maxLen /\ (ao = none -> len = 0 /\ cap = 0) /\ (0 < len -> ao = some ⟨g, off, none⟩ /\ g < W.heap.size) /\ ((d = .nil /\ len = 0) \/ ∃ els sp, d = .slice els sp /\ els.length = len /\ els.length + sp.length = cap) /\
   ∀ i, i < len -> ∃ (cs : List Value) (n : Nat), cs.length = k /\ (∀ j u, cs[j]? = some u -> W.cell? ⟨g, off + i * k + j, none⟩ = some u) /\
    (∀ (j : Nat) (f : Field), fs[j]? = some f -> ∃ y, DataW.trod enc Tryz.prog W 0 (fun _ => true) true n f.type ((cs.drop f.offset).take (Tryz.prog.cellsOf f.type)) = some y /\ (∀ x ∈ y.2, x.block < W.heap.size) /\ Rows.uptoBulk y.1 <= Rows.uptoBulk d) := by
 obtain ⟨a0, len, cap, rfl⟩ := okWide_slice ht hval; obtain ⟨fuel, hf⟩ := h; rcases open_slice ht hf with ⟨hcs, hx⟩ | ⟨a, len', cap', m, n, D, Pl, hcs, _, hl, hm, hmm, hx, hi⟩
 ·simp [Value.cells] at hcs
  obtain ⟨rfl, rfl, rfl⟩ := hcs; simp only [Prod.mk.injEq] at hx; exact ⟨none, 0, 0, 0, 0, rfl, Nat.le_refl _, Nat.zero_le _, fun _ => ⟨rfl, rfl⟩, fun h => absurd h (Nat.lt_irrefl _), .inl ⟨hx.1, rfl⟩, fun i hi => absurd hi (Nat.not_lt_zero _)⟩
 ·simp [Value.cells] at hcs
  obtain ⟨rfl, rfl, rfl⟩ := hcs; simp only [Prod.mk.injEq] at hx; obtain ⟨rfl, rfl⟩ := hx; simp only [if_true] at hmm; subst hmm; obtain ⟨b, off, spot⟩ := a; by_cases hl0 : len = 0
  ·subst hl0
   exact ⟨some ⟨b, off, spot⟩, 0, m, 0, 0, rfl, Nat.zero_le _, hm, (fun h => by cases h), fun h => absurd h (Nat.lt_irrefl _), .inr ⟨_, _, rfl, by simp, by simp⟩, fun i hi => absurd hi (Nat.not_lt_zero _)⟩
  ·have hbl : b < W.heap.size := hlt (.cell b off) (List.mem_append_left _ (MemPlace.mem_row.2 ⟨0, by rw [hC]; exact Nat.mul_pos (by omega) hk, by simp⟩))
   have hrow : ∀ i, i < len -> ∃ cs', W.cells? 0 ((⟨b, off, spot⟩ : Addr).add (i * k)) k = some cs' /\ DataW.trod enc Tryz.prog W 0 (fun _ => true) true n e cs' = some (D i, Pl i) := fun i hil => by
    have := hi i (by omega)
    rwa [hC] at this
   have hspot : spot = Option.none := by
    obtain ⟨cs', h1, _⟩ := hrow 0 (by omega)
    obtain ⟨_, h3, h4⟩ := World.cells?_some h1; have h5 := h4 0 hk; rw [List.getElem?_eq_getElem (by omega)] at h5
    simpa [Addr.add] using World.cell?_spot h5
   subst hspot; refine ⟨some ⟨b, off, none⟩, len, m, b, off, rfl, hl, hm, (fun h => by cases h), fun _ => ⟨rfl, hbl⟩, .inr ⟨_, _, rfl, by simp, by simp; omega⟩, fun i hil => ?_⟩
   obtain ⟨cs', h1, h2⟩ := hrow i hil; obtain ⟨_, h3, h4⟩ := World.cells?_some h1; obtain ⟨xs, n', _, h5, _, hxl, h6⟩ := DataW.trod_struct he h2; simp only [Prod.mk.injEq] at h5; refine ⟨cs', n', h3, fun j u hu => ?_, fun j f hjf => ?_⟩
   ·have hj := (List.getElem?_eq_some_iff.1 hu).1
    have := h4 j (by omega)
    rw [hu, Addr.add_lit, Addr.add_lit] at this; exact this
   ·have hj : j < xs.length := by rw [hxl]; exact (ge_ hjf).1
    refine ⟨xs[j], (h6 j f hjf).trans (List.getElem?_eq_getElem hj), fun x hx => hlt x (List.mem_append_right _ (List.mem_flatMap.2 ⟨i, List.mem_range.2 (by omega), ?_⟩)), ?_⟩
    rotate_left
    ·have b1 := bulk_each (List.mem_map.2 ⟨xs[j], List.getElem_mem hj, rfl⟩ : (xs[j]).1 ∈ xs.map (·.1))
     have b2 : Rows.uptoBulkAll (xs.map (·.1)) <= Rows.uptoBulk (D i) := by
      rw [h5.1]; simp only [Rows.uptoBulk]; omega
     have b3 : D i ∈ (List.range len).map D := List.mem_map.2 ⟨i, List.mem_range.2 hil, rfl⟩; have b4 := bulk_each b3; simp only [Rows.uptoBulk]; omega
    rw [h5.2]; exact List.mem_flatMap.2 ⟨_, List.getElem_mem hj, hx⟩
structure LopR where
 z : Int
 i : Int
 b : ObjV
 v : Value
 l : Bs
 id : Bs
 n : Int
def lcells (r : LopR) : List Value := [.int .i64 r.z, .int .i64 r.i] ++ ocells r.b.o r.b.dv r.b.ev r.b.uv ++ [r.v, .string (SL r.id), .int .i64 r.n]
structure LopAt (W : World) (F : Nat -> Prop) (g x : Nat) (r : LopR) : Prop where
 cell : ∀ j u, (lcells r)[j]? = some u -> W.cell? ⟨g, x + j, none⟩ = some u
 holds : ObjIn W F r.b.o r.b.dv r.b.ev r.b.uv
 fits : ObjFits r.b.o
 bytes : BytesAt W F r.v r.l
 ll : r.l.length <= 1048576
 lid : r.id.length <= 1048576
 li : -9223372036854775808 <= r.i /\ r.i <= 9223372036854775807
 ln : -9223372036854775808 <= r.n /\ r.n <= 9223372036854775807
def LscriptAt (W : World) (F : Nat -> Prop) (v : Value) (sc : List LopR) : Prop := ∃ ao cap g off, v = .slice ao sc.length cap /\ (0 < sc.length -> ao = some ⟨g, off, none⟩ /\ F g) /\ ∀ i r, sc[i]? = some r -> LopAt W F g (off + i * 15) r
theorem LopAt.turn {G F : Nat -> Prop} {w w' : World} {g x : Nat} {r : LopR} (h : LopAt w F g x r) (hg : F g) (ht : Turn G w w') (hn : ∀ k, F k -> ¬ G k) : LopAt w' F g x r :=
 ⟨fun j u hu => ht.cell (h.cell j u hu) (hn _ hg), h.holds.turn ht hn, h.fits, h.bytes.turn ht hn, h.ll, h.lid, h.li, h.ln⟩
theorem cellsLop : Tryz.prog.cellsOf 35 = 15 := by kernel_rfl
theorem cellsLobj : Tryz.prog.cellsOf 33 = 10 := by kernel_rfl
theorem open_lscript_upto {H : Type} {enc : TypeId × Value -> H} {W : World} {base : Nat} {v : Value} {d : DataW H} {ps : List MemPlace} (hval : Value.okWide Tryz.prog W .any base 23 v)
  (h : DataW.Trod enc Tryz.prog W 0 (fun _ => true) true 23 v d ps) (hlt : ∀ x ∈ ps, x.block < W.heap.size) (hbk : Rows.uptoBulk d <= 1048576) : ∃ sc, LscriptAt W (fun k => k < W.heap.size) v sc := by
 obtain ⟨ao, len, cap, g, off, rfl, _, _, _, h1, _, h2⟩ := open_rows_upto Tryz.underlying23 Tryz.underlying35 cellsLop (by omega) hval h hlt
 obtain ⟨sc, h3, h4⟩ := choose_list (p := fun i r => LopAt W (fun k => k < W.heap.size) g (off + i * 15) r) len (fun i hi => by
  obtain ⟨cs, n, k1, k2, k3⟩ := h2 i hi; obtain ⟨y0, f0, _⟩ := k3 0 _ rfl; obtain ⟨y1, f1, _⟩ := k3 1 _ rfl; obtain ⟨y2, f2, p2, _⟩ := k3 2 _ rfl; obtain ⟨y3, f3, p3, q3⟩ := k3 3 _ rfl; obtain ⟨y4, f4, _, q4⟩ := k3 4 _ rfl; obtain ⟨y5, f5, _⟩ := k3 5 _ rfl; have f0 : DataW.trod enc Tryz.prog W 0 (fun _ => true) true n 3 ((cs.drop 0).take (Tryz.prog.cellsOf 3)) = some y0 := f0
  rw [cells3, one_cell cs 0 (by omega)] at f0
  have f1 : DataW.trod enc Tryz.prog W 0 (fun _ => true) true n 3 ((cs.drop 1).take (Tryz.prog.cellsOf 3)) = some y1 := f1
  rw [cells3, one_cell cs 1 (by omega)] at f1
  have f2 : DataW.trod enc Tryz.prog W 0 (fun _ => true) true n 33 ((cs.drop 2).take (Tryz.prog.cellsOf 33)) = some y2 := f2
  rw [cellsLobj] at f2; have f3 : DataW.trod enc Tryz.prog W 0 (fun _ => true) true n 29 ((cs.drop 12).take (Tryz.prog.cellsOf 29)) = some y3 := f3
  rw [cells32d, one_cell cs 12 (by omega)] at f3
  have f4 : DataW.trod enc Tryz.prog W 0 (fun _ => true) true n 9 ((cs.drop 13).take (Tryz.prog.cellsOf 9)) = some y4 := f4
  rw [cells9, one_cell cs 13 (by omega)] at f4
  have f5 : DataW.trod enc Tryz.prog W 0 (fun _ => true) true n 3 ((cs.drop 14).take (Tryz.prog.cellsOf 3)) = some y5 := f5
  rw [cells3, one_cell cs 14 (by omega)] at f5
  obtain ⟨z, e0, _, _⟩ := DataW.trod_int Tryz.underlying3 f0; obtain ⟨zi, e1, _, w1⟩ := DataW.trod_int Tryz.underlying3 f1; obtain ⟨o, dv, ev, uv, e2, hin, hft⟩ := oo_object (by rw [List.length_take, List.length_drop]; omega) f2 p2
  obtain ⟨bs, hb⟩ := bytes_cell f3 p3; obtain ⟨s4, e4, g4, z4⟩ := DataW.trod_string Tryz.underlying9 f4; obtain ⟨m, e5, _, w5⟩ := DataW.trod_int Tryz.underlying3 f5; obtain ⟨b4, rfl, l4⟩ := text_of s4 z4; have hm : -9223372036854775808 <= m /\ m <= 9223372036854775807 := by simpa [Lit.wf, IntKind.min, IntKind.max, IntKind.signed, IntKind.bits] using w5
  have hi2 : -9223372036854775808 <= zi /\ zi <= 9223372036854775807 := by simpa [Lit.wf, IntKind.min, IntKind.max, IntKind.signed, IntKind.bits] using w1
  have hb4 : b4.length <= 1048576 := by
   have g2 : y4.1 = .lit (.string (SL b4).data.toList) := congrArg Prod.fst g4
   rw [g2] at q4; have h3 : (SL b4).data.toList.length = b4.length := by simp [SL]
   simp only [Rows.uptoBulk, h3] at q4; omega
  have hb3 : bs.length <= 1048576 := by
   obtain ⟨x, cc, B3, o3, hv, _⟩ := hb; rw [hv] at f3; have := bytes_bulk f3
   omega
  have hcs : cs = lcells ⟨z, zi, ⟨o, dv, ev, uv⟩, cs[12], bs, b4, m⟩ := by
   have a0 := List.singleton_inj.1 e0; have a1 := List.singleton_inj.1 e1; have a4 := List.singleton_inj.1 e4; have a5 := List.singleton_inj.1 e5; refine List.ext_getElem (k1.trans rfl) fun j hj _ => ?_
   by_cases j0 : j = 0
   ·subst j0; exact a0
   by_cases j1 : j = 1
   ·subst j1; exact a1
   by_cases j12 : j < 12
   ·have hx : ((cs.drop 2).take 10)[j - 2]? = some cs[j] := by
     rw [List.getElem?_take_of_lt (by omega), List.getElem?_drop, show 2 + (j - 2) = j by omega, List.getElem?_eq_getElem hj]
    rw [e2] at hx; have hy : (lcells ⟨z, zi, ⟨o, dv, ev, uv⟩, cs[12], bs, b4, m⟩)[j]? = (ocells o dv ev uv)[j - 2]? := by
     unfold lcells; rw [List.append_assoc, List.getElem?_append_right (by show 2 <= j; omega)]
     show ((ocells o dv ev uv) ++ _)[j - 2]? = _
     rw [List.getElem?_append_left (by show j - 2 < 10; omega)]
    rw [<- hy, List.getElem?_eq_getElem] at hx; exact (Option.some.inj hx).symm
   by_cases j12e : j = 12
   ·subst j12e; rfl
   by_cases j13 : j = 13
   ·subst j13; exact a4
   ·obtain rfl : j = 14 := by omega
    exact a5
  refine ⟨⟨z, zi, ⟨o, dv, ev, uv⟩, cs[12], bs, b4, m⟩, fun j u hu => k2 j u (by rw [hcs]; exact hu), hin, hft, hb, hb3, hb4, hi2, hm⟩)
 exact ⟨sc, ao, cap, g, off, by rw [h3], fun hp => h1 (by omega), h4⟩
end
end Go.Proofs.YtomgijcbekjlaaaGreat
