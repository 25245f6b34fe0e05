/- What the proofs stand on: ObjOpen, ObjsOpen. -/
import Derived.Deep.Slices
import Derived.Deep.Fields
import Derived.Test.YtomgijcbekjlaaaGreatP9
import Derived.Test.YtomgijcbekjlaaaGreatP17
set_option maxRecDepth 100000
set_option maxHeartbeats 40000000
namespace Go.Proofs.YtomgijcbekjlaaaGreat
section
open Go.ChangeShapes Go.WideShapes Go.ChangeAt Go.RowKit Go.Deep
theorem oo_bytes {H : Type} {enc : TypeId × Value -> H} {W : World} {n : Nat} {v : Value} {y : DataW H × List MemPlace} (h : DataW.trod enc Tryz.prog W 0 (fun _ => true) true n 29 [v] = some y) (hlt : ∀ x ∈ y.2, x.block < W.heap.size) :
  ∃ bs, BytesAt W (fun k => k < W.heap.size) v bs := by
 rcases open_ints Tryz.underlying29 Tryz.underlying5 cells5 h with ⟨hcs, hx⟩ | ⟨a, len', cap', zs, hcs, _, hl, hm, hz, hx, hcell, hwz⟩
 ·simp at hcs
  subst hcs; exact ⟨[], none, 0, 0, 0, rfl, src_nil W, fun h => absurd h (by simp)⟩
 ·simp at hcs
  subst hcs; subst hx; simp only [if_true] at hz; obtain ⟨bs, hbs⟩ : ∃ bs : List UInt8, bs = (zs.take len').map fun n => UInt8.ofNat n.toNat := ⟨_, rfl⟩
  have hbl : bs.length = len' := by rw [hbs, List.length_map, List.length_take]; omega
  have hat : ∀ j, j < len' -> ((bs.getD j 0).toNat : Int) = zs.getD j 0 := fun j hj => by
   have h1 : j < zs.length := by omega
   have h2 := u8_of_wf (hwz zs[j] (List.getElem_mem h1)); rw [hbs]; simp only [List.getD, List.getElem?_map, List.getElem?_take, hj, if_true, List.getElem?_eq_getElem h1, Option.map_some, Option.getD_some]; exact h2
  obtain ⟨b, off, spot⟩ := a; by_cases hl0 : len' = 0
  ·subst hl0
   exact ⟨[], some ⟨b, off, spot⟩, cap', 0, 0, rfl, ⟨Nat.zero_le _, hm, fun h => absurd h (Nat.lt_irrefl _), (fun h => by cases h), fun h => absurd h (Nat.lt_irrefl _), fun j hj => absurd hj (Nat.not_lt_zero _)⟩, fun h => absurd h (by simp)⟩
  ·have hspot : spot = Option.none := by simpa [Addr.add] using World.cell?_spot (hcell 0 (by omega))
   subst hspot; have hbW : b < W.heap.size := hlt (.cell b off) (MemPlace.mem_row.2 ⟨0, by omega, by simp⟩)
   refine ⟨bs, some ⟨b, off, Option.none⟩, cap', b, off, by rw [hbl], ⟨by omega, hm, fun _ => rfl, (fun h => by cases h), fun _ => hbW, fun j hj => ?_⟩, fun _ => hbW⟩
   have h3 := hcell j (by omega)
   rw [Addr.add_lit] at h3; rw [h3, hat j (by omega)]
theorem oo_text (s : ByteArray) (h : s.size <= maxLen) : ∃ b : OB, s = SL b /\ b.length <= 9223372036854775807 := by
 refine ⟨s.data.toList, (SL_data s).symm, ?_⟩; have h1 : s.data.toList.length = s.size := rfl
 unfold maxLen at h; omega
theorem oo_one (cs : List Value) (i : Nat) (h : i < cs.length) : (cs.drop i).take 1 = [cs[i]] := by
 rw [List.drop_eq_getElem_cons h]; rfl
theorem oo_list {α : Type} {p : Nat -> α -> Prop} : ∀ (n : Nat), (∀ i, i < n -> ∃ x, p i x) -> ∃ l : List α, l.length = n /\ ∀ i x, l[i]? = some x -> p i x
 | 0, _ => ⟨[], rfl, fun i x h => by simp at h⟩
 | n + 1, h => by
  obtain ⟨l, h1, h2⟩ := oo_list n (fun i hi => h i (by omega))
  obtain ⟨x, hx⟩ := h n (by omega)
  refine ⟨l ++ [x], by simp [h1], fun i y hy => ?_⟩
  rw [List.getElem?_append] at hy; split at hy
  ·exact h2 i y hy
  ·rename_i hi
   have hi2 := (List.getElem?_eq_some_iff.1 hy).1; simp at hi2
   have e : i = n := by omega
   subst e; simp [h1] at hy; rw [<- hy]; exact hx
theorem oo_cells_int : Tryz.prog.cellsOf 3 = 1 := by kernel_rfl
theorem oo_cells_bool : Tryz.prog.cellsOf 4 = 1 := by kernel_rfl
theorem oo_cells_text : Tryz.prog.cellsOf 9 = 1 := by kernel_rfl
theorem oo_cells_bytes : Tryz.prog.cellsOf 29 = 1 := by kernel_rfl
theorem oo_cells_ents : Tryz.prog.cellsOf 30 = 1 := by kernel_rfl
theorem oo_cells_texts : Tryz.prog.cellsOf 31 = 1 := by kernel_rfl
theorem oo_cells_entry : Tryz.prog.cellsOf 84 = 3 := by kernel_rfl
theorem oo_texts {H : Type} {enc : TypeId × Value -> H} {W : World} {n : Nat} {v : Value} {y : DataW H × List MemPlace} (h : DataW.trod enc Tryz.prog W 0 (fun _ => true) true n 31 [v] = some y) (hlt : ∀ x ∈ y.2, x.block < W.heap.size) :
  ∃ l : List OB, TextsAt W (fun k => k < W.heap.size) v l /\ l.length <= 9223372036854775807 /\ ∀ t ∈ l, t.length <= 9223372036854775807 := by
 rcases open_slice Tryz.underlying31 h with ⟨hcs, _⟩ | ⟨a, len, cap, m, n, D, Pl, hcs, _, hl, hm, hmm, hx, hi⟩
 ·simp at hcs
  subst hcs; exact ⟨[], textsAt_nil _ _, Nat.zero_le _, fun t ht => by cases ht⟩
 ·simp at hcs
  subst hcs; subst hx; simp only [if_true] at hmm; subst hmm; rw [oo_cells_text] at hi hlt; obtain ⟨b, off, spot⟩ := a; have hmx : m <= 9223372036854775807 := by unfold maxLen at hm; omega
  by_cases hl0 : len = 0
  ·subst hl0
   exact ⟨[], ⟨_, _, 0, 0, rfl, ⟨Nat.zero_le _, hm, (fun h => by cases h), fun p => absurd p (Nat.lt_irrefl _), fun _ => rfl, fun j u hu => by simp [tcells] at hu⟩⟩, Nat.zero_le _, fun t ht => by cases ht⟩
  ·have hbl : b < W.heap.size := hlt (.cell b off) (List.mem_append_left _ (MemPlace.mem_row.2 ⟨0, by omega, by simp⟩))
   have hrow : ∀ i, i < len -> ∃ s : OB, W.cell? ((⟨b, off, spot⟩ : Addr).add i) = some (.string (SL s)) /\ s.length <= 9223372036854775807 := fun i hil => by
    obtain ⟨cs', h1, h2⟩ := hi i (by omega)
    obtain ⟨_, h3, h4⟩ := World.cells?_some h1; obtain ⟨s, e0, _, z0⟩ := DataW.trod_string Tryz.underlying9 h2; obtain ⟨t, rfl, lt⟩ := oo_text s z0; have h5 := h4 0 (by omega)
    rw [e0] at h5; exact ⟨t, by simpa [Addr.add] using h5, lt⟩
   have hspot : spot = Option.none := by
    obtain ⟨s, h1, _⟩ := hrow 0 (by omega)
    simpa [Addr.add] using World.cell?_spot h1
   subst hspot; obtain ⟨l, hll, hl2⟩ := oo_list (p := fun i (s : OB) => W.cell? ⟨b, off + i, none⟩ = some (.string (SL s)) /\ s.length <= 9223372036854775807) len (fun i hil => by
    obtain ⟨s, h1, h2⟩ := hrow i hil; rw [Addr.add_lit] at h1; exact ⟨s, h1, h2⟩)
   refine ⟨l, ⟨_, m, b, off, by rw [hll], ⟨by omega, hm, (fun h => by cases h), fun _ => ⟨rfl, hbl, hbl⟩, fun h0 => by omega, fun j u hu => ?_⟩⟩, by omega, fun t ht => ?_⟩
   ·simp only [tcells, List.getElem?_map, Option.map_eq_some_iff] at hu
    obtain ⟨s, hs, rfl⟩ := hu; exact (hl2 j s hs).1
   ·obtain ⟨i, hi2, hix⟩ := List.getElem_of_mem ht
    exact (hl2 i t (by rw [List.getElem?_eq_getElem hi2, hix])).2
theorem oo_ents {H : Type} {enc : TypeId × Value -> H} {W : World} {n : Nat} {v : Value} {y : DataW H × List MemPlace} (h : DataW.trod enc Tryz.prog W 0 (fun _ => true) true n 30 [v] = some y) (hlt : ∀ x ∈ y.2, x.block < W.heap.size) :
  ∃ l : List EntR, EntsAt W (fun k => k < W.heap.size) v l /\ l.length <= 9223372036854775807 /\ ∀ e ∈ l, e.nm.length <= 9223372036854775807 /\ e.id.length <= 9223372036854775807 := by
 rcases open_slice Tryz.underlying30 h with ⟨hcs, _⟩ | ⟨a, len, cap, m, n, D, Pl, hcs, _, hl, hm, hmm, hx, hi⟩
 ·simp at hcs
  subst hcs; exact ⟨[], entsAt_nil _ _, Nat.zero_le _, fun t ht => by cases ht⟩
 ·simp at hcs
  subst hcs; subst hx; simp only [if_true] at hmm; subst hmm; rw [oo_cells_entry] at hi hlt; obtain ⟨b, off, spot⟩ := a; have hmx : m <= 9223372036854775807 := by unfold maxLen at hm; omega
  by_cases hl0 : len = 0
  ·subst hl0
   exact ⟨[], ⟨_, _, 0, 0, rfl, ⟨Nat.zero_le _, hm, (fun h => by cases h), fun p => absurd p (Nat.lt_irrefl _), fun _ => rfl, fun j u hu => by simp [ecells] at hu⟩⟩, Nat.zero_le _, fun t ht => by cases ht⟩
  ·have hbl : b < W.heap.size := hlt (.cell b off) (List.mem_append_left _ (MemPlace.mem_row.2 ⟨0, by omega, by simp⟩))
   have hrow : ∀ i, i < len -> ∃ e : EntR, W.cell? (((⟨b, off, spot⟩ : Addr).add (i * 3)).add 0) = some (.string (SL e.nm)) /\ W.cell? (((⟨b, off, spot⟩ : Addr).add (i * 3)).add 1) = some (.bool e.dir) /\ W.cell? (((⟨b, off, spot⟩ : Addr).add (i * 3)).add 2) = some (.string (SL e.id)) /\ e.nm.length <= 9223372036854775807 /\ e.id.length <= 9223372036854775807 := fun i hil => by
    obtain ⟨cs', h1, h2⟩ := hi i (by omega)
    obtain ⟨_, h3, h4⟩ := World.cells?_some h1; obtain ⟨xs, n', _, _, _, hxl, h6⟩ := DataW.trod_struct Tryz.underlying84 h2; have hx3 : xs.length = 3 := hxl
    have f0 := h6 0 _ rfl; have f1 := h6 1 _ rfl; have f2 := h6 2 _ rfl; rw [List.getElem?_eq_getElem (by omega)] at f0 f1 f2
    have f0 : DataW.trod enc Tryz.prog W 0 (fun _ => true) true n' 9 ((cs'.drop 0).take (Tryz.prog.cellsOf 9)) = some _ := f0
    rw [oo_cells_text, oo_one cs' 0 (by omega)] at f0
    have f1 : DataW.trod enc Tryz.prog W 0 (fun _ => true) true n' 4 ((cs'.drop 1).take (Tryz.prog.cellsOf 4)) = some _ := f1
    rw [oo_cells_bool, oo_one cs' 1 (by omega)] at f1
    have f2 : DataW.trod enc Tryz.prog W 0 (fun _ => true) true n' 9 ((cs'.drop 2).take (Tryz.prog.cellsOf 9)) = some _ := f2
    rw [oo_cells_text, oo_one cs' 2 (by omega)] at f2
    obtain ⟨s0, e0, _, z0⟩ := DataW.trod_string Tryz.underlying9 f0; obtain ⟨bb, e1, _⟩ := DataW.trod_bool Tryz.underlying4 f1; obtain ⟨s2, e2, _, z2⟩ := DataW.trod_string Tryz.underlying9 f2; obtain ⟨t0, rfl, l0⟩ := oo_text s0 z0; obtain ⟨t2, rfl, l2⟩ := oo_text s2 z2; have g0 := h4 0 (by omega)
    have g1 := h4 1 (by omega)
    have g2 := h4 2 (by omega)
    rw [List.getElem?_eq_getElem (by omega), List.singleton_inj.1 e0] at g0
    rw [List.getElem?_eq_getElem (by omega), List.singleton_inj.1 e1] at g1
    rw [List.getElem?_eq_getElem (by omega), List.singleton_inj.1 e2] at g2
    exact ⟨⟨t0, bb, t2⟩, g0, g1, g2, l0, l2⟩
   have hspot : spot = Option.none := by
    obtain ⟨s, h1, _⟩ := hrow 0 (by omega)
    simpa [Addr.add] using World.cell?_spot h1
   subst hspot; obtain ⟨l, hll, hl2⟩ := oo_list (p := fun i (e : EntR) => W.cell? ⟨b, off + i * 3, none⟩ = some (.string (SL e.nm)) /\ W.cell? ⟨b, off + i * 3 + 1, none⟩ = some (.bool e.dir) /\ W.cell? ⟨b, off + i * 3 + 2, none⟩ = some (.string (SL e.id)) /\ e.nm.length <= 9223372036854775807 /\ e.id.length <= 9223372036854775807) len (fun i hil => by
    obtain ⟨e, h1, h2, h3, h4⟩ := hrow i hil; rw [Addr.add_lit, Addr.add_lit] at h1 h2 h3; exact ⟨e, by simpa using h1, h2, h3, h4⟩)
   refine ⟨l, ⟨_, m, b, off, by rw [hll], ⟨by omega, hm, (fun h => by cases h), fun _ => ⟨rfl, hbl, hbl⟩, fun h0 => by omega, fun j u hu => ?_⟩⟩, by omega, fun e he => ?_⟩
   ·have hj := (List.getElem?_eq_some_iff.1 hu).1
    rw [ecells_length] at hj; have hi2 : j / 3 < l.length := by omega
    obtain ⟨k0, k1, k2⟩ := ecells_get (l := l) (i := j / 3) (e := l[j / 3]) (List.getElem?_eq_getElem hi2)
    obtain ⟨q0, q1, q2, _⟩ := hl2 (j / 3) l[j / 3] (List.getElem?_eq_getElem hi2); have hc : j = j / 3 * 3 \/ j = j / 3 * 3 + 1 \/ j = j / 3 * 3 + 2 := by omega
    rcases hc with hc | hc | hc
    ·rw [hc, k0] at hu; rw [hc, <- Option.some.inj hu]; exact q0
    ·rw [hc, k1] at hu; rw [hc, <- Option.some.inj hu, <- Nat.add_assoc]; exact q1
    ·rw [hc, k2] at hu; rw [hc, <- Option.some.inj hu, <- Nat.add_assoc]; exact q2
   ·obtain ⟨i, hi2, hix⟩ := List.getElem_of_mem he
    exact (hl2 i e (by rw [List.getElem?_eq_getElem hi2, hix])).2.2.2
theorem oo_object {H : Type} {enc : TypeId × Value -> H} {W : World} {n : Nat} {cs : List Value} {y : DataW H × List MemPlace} (hll : cs.length = 10) (hf : DataW.trod enc Tryz.prog W 0 (fun _ => true) true n 33 cs = some y) (hlt : ∀ x ∈ y.2, x.block < W.heap.size) :
  ∃ (o : ObjR) (dv ev uv : Value), cs = ocells o dv ev uv /\ ObjIn W (fun k => k < W.heap.size) o dv ev uv /\ ObjFits o := by
 obtain ⟨xs, n2, _, hx, hl, hxl, h6⟩ := DataW.trod_struct Tryz.underlying33 hf; have hx5 : xs.length = 10 := hxl
 have f0 := h6 0 _ rfl; have f1 := h6 1 _ rfl; have f2 := h6 2 _ rfl; have f3 := h6 3 _ rfl; have f4 := h6 4 _ rfl; have f5 := h6 5 _ rfl; have f6 := h6 6 _ rfl; have f7 := h6 7 _ rfl; have f8 := h6 8 _ rfl; have f9 := h6 9 _ rfl; rw [List.getElem?_eq_getElem (by omega)] at f0 f1 f2 f3 f4 f5 f6 f7 f8 f9
 have f0 : DataW.trod enc Tryz.prog W 0 (fun _ => true) true n2 3 ((cs.drop 0).take (Tryz.prog.cellsOf 3)) = some _ := f0
 rw [oo_cells_int, oo_one cs 0 (by omega)] at f0
 have f1 : DataW.trod enc Tryz.prog W 0 (fun _ => true) true n2 29 ((cs.drop 1).take (Tryz.prog.cellsOf 29)) = some _ := f1
 rw [oo_cells_bytes, oo_one cs 1 (by omega)] at f1
 have f2 : DataW.trod enc Tryz.prog W 0 (fun _ => true) true n2 30 ((cs.drop 2).take (Tryz.prog.cellsOf 30)) = some _ := f2
 rw [oo_cells_ents, oo_one cs 2 (by omega)] at f2
 have f3 : DataW.trod enc Tryz.prog W 0 (fun _ => true) true n2 9 ((cs.drop 3).take (Tryz.prog.cellsOf 9)) = some _ := f3
 rw [oo_cells_text, oo_one cs 3 (by omega)] at f3
 have f4 : DataW.trod enc Tryz.prog W 0 (fun _ => true) true n2 31 ((cs.drop 4).take (Tryz.prog.cellsOf 31)) = some _ := f4
 rw [oo_cells_texts, oo_one cs 4 (by omega)] at f4
 have f5 : DataW.trod enc Tryz.prog W 0 (fun _ => true) true n2 9 ((cs.drop 5).take (Tryz.prog.cellsOf 9)) = some _ := f5
 rw [oo_cells_text, oo_one cs 5 (by omega)] at f5
 have f6 : DataW.trod enc Tryz.prog W 0 (fun _ => true) true n2 9 ((cs.drop 6).take (Tryz.prog.cellsOf 9)) = some _ := f6
 rw [oo_cells_text, oo_one cs 6 (by omega)] at f6
 have f7 : DataW.trod enc Tryz.prog W 0 (fun _ => true) true n2 9 ((cs.drop 7).take (Tryz.prog.cellsOf 9)) = some _ := f7
 rw [oo_cells_text, oo_one cs 7 (by omega)] at f7
 have f8 : DataW.trod enc Tryz.prog W 0 (fun _ => true) true n2 3 ((cs.drop 8).take (Tryz.prog.cellsOf 3)) = some _ := f8
 rw [oo_cells_int, oo_one cs 8 (by omega)] at f8
 have f9 : DataW.trod enc Tryz.prog W 0 (fun _ => true) true n2 9 ((cs.drop 9).take (Tryz.prog.cellsOf 9)) = some _ := f9
 rw [oo_cells_text, oo_one cs 9 (by omega)] at f9
 have hps : ∀ (i : Nat) (hi : i < xs.length), ∀ x ∈ (xs[i]).2, x.block < W.heap.size := fun i hi q hq => by
  have e : q ∈ xs.flatMap (·.2) := List.mem_flatMap.2 ⟨xs[i], List.getElem_mem _, hq⟩
  have e2 : y.2 = xs.flatMap (·.2) := congrArg Prod.snd hx
  exact hlt q (e2.symm ▸ e)
 obtain ⟨z0, e0, _, _⟩ := DataW.trod_int Tryz.underlying3 f0; obtain ⟨bs, hbs⟩ := oo_bytes f1 (hps 1 (by omega))
 obtain ⟨le, hle, hel, hee⟩ := oo_ents f2 (hps 2 (by omega))
 obtain ⟨s3, e3, _, w3⟩ := DataW.trod_string Tryz.underlying9 f3; obtain ⟨b3, rfl, l3⟩ := oo_text s3 w3; obtain ⟨lt, hlt2, hltl, hltt⟩ := oo_texts f4 (hps 4 (by omega))
 obtain ⟨s5, e5, _, w5⟩ := DataW.trod_string Tryz.underlying9 f5; obtain ⟨b5, rfl, l5⟩ := oo_text s5 w5; obtain ⟨s6, e6, _, w6⟩ := DataW.trod_string Tryz.underlying9 f6; obtain ⟨b6, rfl, l6⟩ := oo_text s6 w6; obtain ⟨s7, e7, _, w7⟩ := DataW.trod_string Tryz.underlying9 f7; obtain ⟨b7, rfl, l7⟩ := oo_text s7 w7; obtain ⟨z8, e8, _, _⟩ := DataW.trod_int Tryz.underlying3 f8; obtain ⟨s9, e9, _, w9⟩ := DataW.trod_string Tryz.underlying9 f9; obtain ⟨b9, rfl, l9⟩ := oo_text s9 w9; refine ⟨⟨z0, bs, le, b3, lt, b5, b6, b7, z8, b9⟩, _, _, _, ?_, ⟨hbs, hle, hlt2⟩, ⟨hel, hee, hltl, hltt⟩⟩; have g0 := List.singleton_inj.1 e0; have g3 := List.singleton_inj.1 e3; have g5 := List.singleton_inj.1 e5; have g6 := List.singleton_inj.1 e6; have g7 := List.singleton_inj.1 e7; have g8 := List.singleton_inj.1 e8; have g9 := List.singleton_inj.1 e9; apply List.ext_getElem
 ·exact hll.trans rfl
 ·intro i h1 h2
  have : i < 10 := by omega
  match i, this with
  | 0, _ => exact g0
  | 1, _ => rfl
  | 2, _ => rfl
  | 3, _ => exact g3
  | 4, _ => rfl
  | 5, _ => exact g5
  | 6, _ => exact g6
  | 7, _ => exact g7
  | 8, _ => exact g8
  | 9, _ => exact g9
end
section
open Go.ChangeShapes Go.WideShapes Go.ChangeAt Go.RowKit Go.Deep
structure ObjV where
 o : ObjR
 dv : Value
 ev : Value
 uv : Value
end
end Go.Proofs.YtomgijcbekjlaaaGreat
