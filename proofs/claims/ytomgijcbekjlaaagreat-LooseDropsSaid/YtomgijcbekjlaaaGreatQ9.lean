/- What the proofs stand on: DiskStill, ObjMem, RefPart, RefEntries, RefParents, RefTold, RefBare, RefCheck, ObjOut, ObjList, ObjRd, ObjRdG, SameAny, RefSameTexts, ObjDecTo, DecErr. -/
import Derived.StillTailTactics
import Derived.Sort.Walk0
import Derived.Test.YtomgijcbekjlaaaGreatQ0
import Derived.Test.YtomgijcbekjlaaaGreatQ2
import Derived.Deep.QuietTactic
import Derived.Laws.OwnMore
import Derived.Deep.DeepAppendWide
namespace Go.Proofs.YtomgijcbekjlaaaGreat
theorem SL_toList (l : List UInt8) : (SL l).toList = l := by
  rw [Lib.toList_data]
  rfl
end Go.Proofs.YtomgijcbekjlaaaGreat
namespace Go.Proofs.YtomgijcbekjlaaaGreat
open Go.RowKit
/-- A slice whose elements' cells are these. -/
structure SlAt (w : World) (F : Nat → Prop) (ao : Option Addr) (n cap g off : Nat) (cs : List Value) : Prop where
  le : n ≤ cap
  top : cap ≤ maxLen
  bare : ao = none → n = 0 ∧ cap = 0
  src : 0 < n → ao = some ⟨g, off, none⟩ ∧ g < w.heap.size ∧ F g
  zero : n = 0 → cs = []
  cell : ∀ j u, cs[j]? = some u → w.cell? ⟨g, off + j, none⟩ = some u
theorem SlAt.turn {w w' : World} {F G : Nat → Prop} {ao : Option Addr} {n cap g off : Nat} {cs : List Value} (h : SlAt w F ao n cap g off cs) (t : Turn G w w') (hn : ∀ k, F k → ¬ G k) : SlAt w' F ao n cap g off cs := by
  refine ⟨h.le, h.top, h.bare, fun p => ⟨(h.src p).1, Nat.lt_of_lt_of_le (h.src p).2.1 t.size, (h.src p).2.2⟩, h.zero, fun j u hu => ?_⟩
  have p : 0 < n := Nat.pos_of_ne_zero fun e => by rw [h.zero e] at hu; simp at hu
  exact t.cell (h.cell j u hu) (hn g (h.src p).2.2)
theorem SlAt.mono {w : World} {F F' : Nat → Prop} {ao : Option Addr} {n cap g off : Nat} {cs : List Value} (h : SlAt w F ao n cap g off cs) (hF : ∀ k, k < w.heap.size → F k → F' k) : SlAt w F' ao n cap g off cs :=
  ⟨h.le, h.top, h.bare, fun p => ⟨(h.src p).1, (h.src p).2.1, hF g (h.src p).2.1 (h.src p).2.2⟩, h.zero, h.cell⟩
def ecells : List EntR → List Value
  | [] => []
  | e :: r => .string (SL e.nm) :: .bool e.dir :: .string (SL e.id) :: ecells r
theorem ecells_length : ∀ l, (ecells l).length = l.length * 3
  | [] => rfl
  | e :: r => by simp only [ecells, List.length_cons, ecells_length r]; omega
theorem ecells_append : ∀ a b, ecells (a ++ b) = ecells a ++ ecells b
  | [], _ => rfl
  | e :: r, b => by simp only [List.cons_append, ecells, ecells_append r b]
theorem ecells_get : ∀ {l : List EntR} {i : Nat} {e : EntR}, l[i]? = some e → (ecells l)[i * 3]? = some (.string (SL e.nm)) ∧ (ecells l)[i * 3 + 1]? = some (.bool e.dir) ∧ (ecells l)[i * 3 + 2]? = some (.string (SL e.id))
  | [], _, _, h => by simp at h
  | q :: r, 0, e, h => by simp at h; subst h; exact ⟨rfl, rfl, rfl⟩
  | q :: r, i + 1, e, h => by
    have h1 : r[i]? = some e := by simpa using h
    obtain ⟨a, b, c⟩ := ecells_get h1
    have e1 : (i + 1) * 3 = i * 3 + 1 + 1 + 1 := by omega
    have e2 : i * 3 + 1 + 1 + 1 + 2 = i * 3 + 2 + 1 + 1 + 1 := by omega
    rw [e1, e2]
    simp only [ecells, List.getElem?_cons_succ]
    exact ⟨a, b, c⟩
def tcells (l : List OB) : List Value := l.map fun t => .string (SL t)
theorem tcells_get {l : List OB} {i : Nat} {t : OB} (h : l[i]? = some t) : (tcells l)[i]? = some (.string (SL t)) := by simp [tcells, h]
def EntsAt (w : World) (F : Nat → Prop) (v : Value) (l : List EntR) : Prop := ∃ ao cap g off, v = .slice ao l.length cap ∧ SlAt w F ao l.length cap g off (ecells l)
def TextsAt (w : World) (F : Nat → Prop) (v : Value) (l : List OB) : Prop := ∃ ao cap g off, v = .slice ao l.length cap ∧ SlAt w F ao l.length cap g off (tcells l)
theorem EntsAt.turn {w w' : World} {F G : Nat → Prop} {v : Value} {l : List EntR} (h : EntsAt w F v l) (t : Turn G w w') (hn : ∀ k, F k → ¬ G k) : EntsAt w' F v l := by
  obtain ⟨ao, cap, g, off, e, hs⟩ := h
  exact ⟨ao, cap, g, off, e, hs.turn t hn⟩
theorem EntsAt.mono {w : World} {F F' : Nat → Prop} {v : Value} {l : List EntR} (h : EntsAt w F v l) (hF : ∀ k, k < w.heap.size → F k → F' k) : EntsAt w F' v l := by
  obtain ⟨ao, cap, g, off, e, hs⟩ := h
  exact ⟨ao, cap, g, off, e, hs.mono hF⟩
theorem TextsAt.turn {w w' : World} {F G : Nat → Prop} {v : Value} {l : List OB} (h : TextsAt w F v l) (t : Turn G w w') (hn : ∀ k, F k → ¬ G k) : TextsAt w' F v l := by
  obtain ⟨ao, cap, g, off, e, hs⟩ := h
  exact ⟨ao, cap, g, off, e, hs.turn t hn⟩
theorem TextsAt.mono {w : World} {F F' : Nat → Prop} {v : Value} {l : List OB} (h : TextsAt w F v l) (hF : ∀ k, k < w.heap.size → F k → F' k) : TextsAt w F' v l := by
  obtain ⟨ao, cap, g, off, e, hs⟩ := h
  exact ⟨ao, cap, g, off, e, hs.mono hF⟩
theorem slAt_nil (w : World) (F : Nat → Prop) : SlAt w F none 0 0 0 0 [] := ⟨Nat.le_refl _, Nat.zero_le _, fun _ => ⟨rfl, rfl⟩, fun p => absurd p (Nat.lt_irrefl _), fun _ => rfl, fun j u h => by simp at h⟩
theorem entsAt_nil (w : World) (F : Nat → Prop) : EntsAt w F (.slice none 0 0) [] := ⟨none, 0, 0, 0, rfl, slAt_nil w F⟩
theorem textsAt_nil (w : World) (F : Nat → Prop) : TextsAt w F (.slice none 0 0) [] := ⟨none, 0, 0, 0, rfl, slAt_nil w F⟩
theorem bytesAt_nil (w : World) (F : Nat → Prop) : BytesAt w F (.slice none 0 0) [] := ⟨none, 0, 0, 0, rfl, src_nil w, fun p => absurd p (Nat.lt_irrefl _)⟩
/-- A slice of the call's own. -/
theorem SlAt.of_own {w : World} {base t k n : Nat} {v : Value} {cs : List Value} {F : Nat → Prop} (h : w.ownsRow base t k v n cs) (hz : n = 0 → cs = []) (hF : ∀ g, v.ownBlock = some g → F g) : ∃ ao cap g, v = .slice ao n cap ∧ SlAt w F ao n cap g 0 cs := by
  have hl := h.lt
  rcases h.2 with ⟨rfl, h0⟩ | ⟨g, cap, cur, rfl, h2, h3, h4, h5, h6, h7⟩
  · subst h0
    rw [hz rfl]
    exact ⟨none, 0, 0, rfl, slAt_nil w F⟩
  · refine ⟨_, cap, g, rfl, h4, h5, (fun h => by cases h), fun _ => ⟨rfl, (hl g rfl).2, hF g rfl⟩, hz, fun j u hu => ?_⟩
    have := h.cells (g := g) rfl j u hu
    rw [Addr.add_lit] at this
    exact this
theorem TextsAt.of_own {w : World} {base t : Nat} {v : Value} {l : List OB} {F : Nat → Prop} (h : w.ownsRow base t 1 v l.length (tcells l)) (hF : ∀ g, v.ownBlock = some g → F g) : TextsAt w F v l := by
  obtain ⟨ao, cap, g, e, hs⟩ := SlAt.of_own h (fun h0 => by rw [List.eq_nil_of_length_eq_zero h0]; rfl) hF
  exact ⟨ao, cap, g, 0, e, hs⟩
theorem EntsAt.of_own {w : World} {base t : Nat} {v : Value} {l : List EntR} {F : Nat → Prop} (h : w.ownsRow base t 3 v l.length (ecells l)) (hF : ∀ g, v.ownBlock = some g → F g) : EntsAt w F v l := by
  obtain ⟨ao, cap, g, e, hs⟩ := SlAt.of_own h (fun h0 => by rw [List.eq_nil_of_length_eq_zero h0]; rfl) hF
  exact ⟨ao, cap, g, 0, e, hs⟩
/-- The cells of an object. -/
def ocells (o : ObjR) (dv ev uv : Value) : List Value := [.int .i64 o.kind, dv, ev, .string (SL o.tree), uv, .string (SL o.target), .string (SL o.name), .string (SL o.who), .int .i64 o.stamp, .string (SL o.text)]
/-- What an object's slices hold. -/
structure ObjIn (w : World) (F : Nat → Prop) (o : ObjR) (dv ev uv : Value) : Prop where
  data : BytesAt w F dv o.data
  ents : EntsAt w F ev o.ents
  ups : TextsAt w F uv o.ups
theorem ObjIn.turn {w w' : World} {F G : Nat → Prop} {o : ObjR} {dv ev uv : Value} (h : ObjIn w F o dv ev uv) (t : Turn G w w') (hn : ∀ k, F k → ¬ G k) : ObjIn w' F o dv ev uv := ⟨h.data.turn t hn, h.ents.turn t hn, h.ups.turn t hn⟩
theorem ObjIn.mono {w : World} {F F' : Nat → Prop} {o : ObjR} {dv ev uv : Value} (h : ObjIn w F o dv ev uv) (hF : ∀ k, k < w.heap.size → F k → F' k) : ObjIn w F' o dv ev uv := ⟨h.data.mono hF, h.ents.mono hF, h.ups.mono hF⟩
/-- An object by value. -/
def objV (o : ObjR) (dv ev uv : Value) : Value := .agg #[.int .i64 o.kind, dv, ev, .string (SL o.tree), uv, .string (SL o.target), .string (SL o.name), .string (SL o.who), .int .i64 o.stamp, .string (SL o.text)]
end Go.Proofs.YtomgijcbekjlaaaGreat
namespace Go.Proofs.YtomgijcbekjlaaaGreat
open Go.RowKit
def pc (x : UInt8) : Bool := x != 0 && x != 47
end Go.Proofs.YtomgijcbekjlaaaGreat
namespace Go.Proofs.YtomgijcbekjlaaaGreat
open Go.RowKit
theorem rising_step : ∀ {l : List EntR} {k : Nat} {a b : EntR}, l[k]? = some a → l[k + 1]? = some b → risingB (l.take (k + 2)) = (risingB (l.take (k + 1)) && decide (a.nm < b.nm))
  | [], k, a, b, ha, _ => by simp at ha
  | [x], 0, a, b, _, hb => by simp at hb
  | x :: y :: r, 0, a, b, ha, hb => by
    simp at ha hb
    subst ha hb
    simp [risingB]
  | [x], k + 1, a, b, ha, _ => by simp at ha
  | x :: y :: r, k + 1, a, b, ha, hb => by
    have h := rising_step (l := y :: r) (k := k) (a := a) (b := b) (by simpa using ha) (by simpa using hb)
    show risingB (x :: (y :: r).take (k + 2)) = (risingB (x :: (y :: r).take (k + 1)) && decide (a.nm < b.nm))
    have e1 : risingB (x :: (y :: r).take (k + 2)) = (decide (x.nm < y.nm) && risingB ((y :: r).take (k + 2))) := rfl
    have e2 : risingB (x :: (y :: r).take (k + 1)) = (decide (x.nm < y.nm) && risingB ((y :: r).take (k + 1))) := rfl
    rw [e1, e2, h, Bool.and_assoc]
theorem rising_at : ∀ {l : List EntR}, risingB l = true → ∀ {k : Nat} {a b : EntR}, l[k]? = some a → l[k + 1]? = some b → a.nm < b.nm
  | [], _, k, a, b, ha, _ => by simp at ha
  | [x], _, k, a, b, _, hb => by simp at hb
  | x :: y :: r, h, 0, a, b, ha, hb => by
    simp at ha hb
    subst ha hb
    unfold risingB at h
    rw [Bool.and_eq_true, decide_eq_true_eq] at h
    exact h.1
  | x :: y :: r, h, k + 1, a, b, ha, hb => by
    unfold risingB at h
    rw [Bool.and_eq_true] at h
    exact rising_at h.2 (k := k) (by simpa using ha) (by simpa using hb)
theorem ents_not {l : List EntR} {k : Nat} {e : EntR} (he : l[k]? = some e) (h : entB e = false) : entsB l = false := by
  unfold entsB
  cases hq : l.all entB with
  | false => rfl
  | true => rw [List.all_eq_true.1 hq e (List.mem_of_getElem? he)] at h; cases h
theorem ents_falls {l : List EntR} {k : Nat} {a b : EntR} (ha : l[k]? = some a) (hb : l[k + 1]? = some b) (h : ¬ a.nm < b.nm) : entsB l = false := by
  unfold entsB
  cases hq : risingB l with
  | false => rw [Bool.and_false, Bool.false_and]
  | true => exact absurd (rising_at hq ha hb) h
/-- So many of the entries may be. -/
def EntsTo (l : List EntR) (k : Nat) : Prop := (l.take k).all entB = true ∧ risingB (l.take k) = true
theorem entsTo_zero (l : List EntR) : EntsTo l 0 := ⟨rfl, rfl⟩
theorem all_step {α : Type} {p : α → Bool} {l : List α} {k : Nat} {e : α} (he : l[k]? = some e) (h : (l.take k).all p = true) (h2 : p e = true) : (l.take (k + 1)).all p = true := by
  rw [List.take_add_one, he, List.all_append, h]
  simp [h2]
theorem EntsTo.first {l : List EntR} {e : EntR} (he : l[0]? = some e) (h2 : entB e = true) : EntsTo l 1 := by
  refine ⟨all_step he (entsTo_zero l).1 h2, ?_⟩
  rw [List.take_add_one, he]
  rfl
theorem EntsTo.next {l : List EntR} {k : Nat} {a e : EntR} (h : EntsTo l (k + 1)) (ha : l[k]? = some a) (he : l[k + 1]? = some e) (h2 : entB e = true) (h3 : a.nm < e.nm) : EntsTo l (k + 2) :=
  ⟨all_step he h.1 h2, by rw [rising_step ha he, h.2, decide_eq_true h3]; rfl⟩
theorem EntsTo.all {l : List EntR} (h : EntsTo l l.length) : entsB l = decide (l.length ≤ 4096) := by
  have h1 := h.1
  have h2 := h.2
  rw [List.take_length] at h1 h2
  unfold entsB
  rw [h1, h2]
  simp
theorem SlAt.entry {w : World} {F : Nat → Prop} {ao : Option Addr} {n cap g off : Nat} {l : List EntR} (h : SlAt w F ao n cap g off (ecells l)) {k : Nat} {e : EntR} (he : l[k]? = some e) (hk : k < n) :
    ao = some ⟨g, off, none⟩ ∧ w.cell? ⟨g, off + k * 3, none⟩ = some (.string (SL e.nm)) ∧ w.cell? ⟨g, off + k * 3 + 1, none⟩ = some (.bool e.dir) ∧ w.cell? ⟨g, off + k * 3 + 2, none⟩ = some (.string (SL e.id)) := by
  obtain ⟨a, b, c⟩ := ecells_get he
  exact ⟨(h.src (by omega)).1, h.cell _ _ a, by rw [Nat.add_assoc]; exact h.cell _ _ b, by rw [Nat.add_assoc]; exact h.cell _ _ c⟩
end Go.Proofs.YtomgijcbekjlaaaGreat
namespace Go.Proofs.YtomgijcbekjlaaaGreat
open Go.RowKit
theorem once_iff : ∀ (l : List OB), onceB l = true ↔ l.Pairwise (fun a b => a ≠ b)
  | [] => by simp [onceB]
  | a :: r => by
    unfold onceB
    rw [Bool.and_eq_true, once_iff r, List.pairwise_cons, List.all_eq_true]
    constructor
    · rintro ⟨h1, h2⟩
      exact ⟨fun x hx e => by have := h1 x hx; rw [e] at this; simp at this, h2⟩
    · rintro ⟨h1, h2⟩
      exact ⟨fun x hx => by simpa using fun e => h1 x hx e.symm, h2⟩
def is32 (u : OB) : Bool := decide (u.length = 32)
/-- So many of the parents may be. -/
def UpsTo (l : List OB) (k : Nat) : Prop := (l.take k).all is32 = true ∧ (l.take k).Pairwise (fun a b => a ≠ b)
theorem upsTo_zero (l : List OB) : UpsTo l 0 := ⟨rfl, by simp⟩
theorem UpsTo.next {l : List OB} {k : Nat} {u : OB} (h : UpsTo l k) (hu : l[k]? = some u) (h1 : u.length = 32) (h2 : ∀ t ∈ l.take k, t ≠ u) : UpsTo l (k + 1) := by
  refine ⟨all_step hu h.1 (by unfold is32; exact decide_eq_true h1), ?_⟩
  rw [List.take_add_one, hu, List.pairwise_append]
  exact ⟨h.2, by simp, fun a ha b hb => by simp at hb; rw [hb]; exact h2 a ha⟩
theorem UpsTo.all {l : List OB} (h : UpsTo l l.length) : upsB l = decide (l.length ≤ 4) := by
  have h1 := h.1
  have h2 := h.2
  rw [List.take_length] at h1 h2
  unfold upsB
  rw [show l.all (fun u => decide (u.length = 32)) = true from h1, (once_iff l).2 h2]
  simp
theorem SlAt.text {w : World} {F : Nat → Prop} {ao : Option Addr} {n cap g off : Nat} {l : List OB} (h : SlAt w F ao n cap g off (tcells l)) {k : Nat} {t : OB} (he : l[k]? = some t) (hk : k < n) :
    ao = some ⟨g, off, none⟩ ∧ w.cell? ⟨g, off + k, none⟩ = some (.string (SL t)) := ⟨(h.src (by omega)).1, h.cell _ _ (tcells_get he)⟩
end Go.Proofs.YtomgijcbekjlaaaGreat
namespace Go.Proofs.YtomgijcbekjlaaaGreat
open Go.RowKit
end Go.Proofs.YtomgijcbekjlaaaGreat
namespace Go.Proofs.YtomgijcbekjlaaaGreat
open Go.RowKit
end Go.Proofs.YtomgijcbekjlaaaGreat
namespace Go.Proofs.YtomgijcbekjlaaaGreat
open Go.RowKit
/-- Sizes that any object has that comes in. -/
structure ObjFits (o : ObjR) : Prop where
  ents : o.ents.length ≤ 9223372036854775807
  each : ∀ e ∈ o.ents, e.nm.length ≤ 9223372036854775807 ∧ e.id.length ≤ 9223372036854775807
  ups : o.ups.length ≤ 9223372036854775807
  texts : ∀ t ∈ o.ups, t.length ≤ 9223372036854775807
theorem ok_kind {o : ObjR} (h1 : ¬ o.kind = 1) (h2 : ¬ o.kind = 2) (h3 : ¬ o.kind = 3) (h4 : ¬ o.kind = 4) : okO o = false := by unfold okO; rw [if_neg h1, if_neg h2, if_neg h3, if_neg h4]
theorem ok_one {o : ObjR} (h : o.kind = 1) : okO o = (decide (o.data.length ≤ 1048576) && bareB o false true true true true) := by unfold okO; rw [if_pos h]
theorem ok_two {o : ObjR} (h : o.kind = 2) : okO o = (entsB o.ents && bareB o true false true true true) := by unfold okO; rw [if_neg (by omega), if_pos h]
theorem ok_three {o : ObjR} (h : o.kind = 3) : okO o = (decide (o.tree.length = 32) && upsB o.ups && toldB o && bareB o true true false true false) := by unfold okO; rw [if_neg (by omega), if_neg (by omega), if_pos h]
theorem ok_four {o : ObjR} (h : o.kind = 4) : okO o = (decide (o.target.length = 32) && (decide (1 ≤ o.name.length) && decide (o.name.length ≤ 200)) && toldB o && bareB o true true true false false) := by unfold okO; rw [if_neg (by omega), if_neg (by omega), if_neg (by omega), if_pos h]
/-- The cells of a block that holds an object. -/
theorem obj_cells {w : World} {x : Nat} {v0 v1 v2 v3 v4 v5 v6 v7 v8 v9 : Value} (h : w.heap[x]? = some (.cells #[v0, v1, v2, v3, v4, v5, v6, v7, v8, v9] 33 (0, 0))) :
    w.cell? ⟨x, 0, none⟩ = some v0 ∧ w.cell? ⟨x, 1, none⟩ = some v1 ∧ w.cell? ⟨x, 2, none⟩ = some v2 ∧ w.cell? ⟨x, 3, none⟩ = some v3 ∧ w.cell? ⟨x, 4, none⟩ = some v4 ∧ w.cell? ⟨x, 5, none⟩ = some v5 ∧ w.cell? ⟨x, 6, none⟩ = some v6 ∧ w.cell? ⟨x, 7, none⟩ = some v7 ∧ w.cell? ⟨x, 8, none⟩ = some v8 ∧ w.cell? ⟨x, 9, none⟩ = some v9 :=
  ⟨cell_of_row _ _ _ _ _ _ h, cell_of_row _ _ _ _ _ _ h, cell_of_row _ _ _ _ _ _ h, cell_of_row _ _ _ _ _ _ h, cell_of_row _ _ _ _ _ _ h, cell_of_row _ _ _ _ _ _ h, cell_of_row _ _ _ _ _ _ h, cell_of_row _ _ _ _ _ _ h, cell_of_row _ _ _ _ _ _ h, cell_of_row _ _ _ _ _ _ h⟩
/-- What Check answers. -/
def errO (o : ObjR) : Int := if okO o = true then 0 else 1
end Go.Proofs.YtomgijcbekjlaaaGreat
namespace Go.Proofs.YtomgijcbekjlaaaGreat
open Go.RowKit
theorem own_down {w : World} {base base' : Nat} {e s : Nat} {v : Value} {n : Nat} {xs : List Value} (h : w.ownsRow base e s v n xs) (hb : base' ≤ base) : w.ownsRow base' e s v n xs := by
  refine ⟨h.1, ?_⟩
  rcases h.2 with h4 | ⟨g2, c2, cur2, h5, h6, h7⟩
  · exact .inl h4
  · exact .inr ⟨g2, c2, cur2, h5, Nat.le_trans hb h6, h7⟩
/-- A row of bytes of the call's own. -/
def OutAt (x : Nat) (w : World) (v : Value) (L : OB) : Prop := w.ownsRow x 5 1 v L.length (L.map B8)
theorem OutAt.src {x : Nat} {w : World} {v : Value} {L : OB} (h : OutAt x w v L) : ∃ ao cap B, v = .slice ao L.length cap ∧ SrcAt w ao cap L B 0 ∧ (0 < L.length → x ≤ B) := src_of_own h
theorem OutAt.below {x : Nat} {w w' : World} {v : Value} {L : OB} (h : OutAt x w v L) (hb : Below w.heap.size w w') : OutAt x w' v L := own_below h hb
/-- One byte, built as a slice. -/
theorem out_lit (w : World) (x : Nat) (c : UInt8) (hx : x ≤ w.heap.size) : OutAt x (w.alloc (.cells #[B8 c] 5)) (.slice (some ⟨w.heap.size, 0, none⟩) 1 1) [c] := World.ownsRow_lit w #[B8 c] 1 hx (by unfold maxLen; omega) rfl
end Go.Proofs.YtomgijcbekjlaaaGreat
namespace Go.Proofs.YtomgijcbekjlaaaGreat
open Go.RowKit
theorem info_text : (Tryz.prog.info? 9).map (fun i => (i.zero, i.size, i.bytes)) = some (some (.string ByteArray.empty), 1, 16) := by kernel_rfl
theorem info_entry : (Tryz.prog.info? 84).map (fun i => (i.zero, i.size, i.bytes)) = some (some (.agg #[.string ByteArray.empty, .bool false, .string ByteArray.empty]), 3, 40) := by kernel_rfl
def TxtsOwn (x : Nat) (w : World) (v : Value) (l : List OB) : Prop := w.ownsRow x 9 1 v l.length (tcells l)
def EntsOwn (x : Nat) (w : World) (v : Value) (l : List EntR) : Prop := w.ownsRow x 84 3 v l.length (ecells l)
theorem tcells_app (a b : List OB) : tcells (a ++ b) = tcells a ++ tcells b := by simp [tcells]
theorem txts_nil (x : Nat) (w : World) : TxtsOwn x w (.slice none 0 0) [] := World.ownsRow_nil _ _ _ _
theorem ents_nil (x : Nat) (w : World) : EntsOwn x w (.slice none 0 0) [] := World.ownsRow_nil _ _ _ _
theorem TxtsOwn.below {x : Nat} {w w' : World} {v : Value} {l : List OB} (h : TxtsOwn x w v l) (hb : Below w.heap.size w w') : TxtsOwn x w' v l := own_below h hb
theorem EntsOwn.below {x : Nat} {w w' : World} {v : Value} {l : List EntR} (h : EntsOwn x w v l) (hb : Below w.heap.size w w') : EntsOwn x w' v l := own_below h hb
theorem run_own_texts (w : World) (ty : TypeId) (x : Nat) (v : Value) (l : List OB) (h : TxtsOwn x w v l) (ao : Option Addr) (c : Nat) (m : List OB) (hbare : ao = none → m.length = 0 ∧ c = 0) (hc : ∀ ad, ao = some ad → ∀ j u, (tcells m)[j]? = some u → w.cell? (ad.add j) = some u) (hb : l.length + m.length ≤ 8000000000000) (hx : x ≤ w.heap.size) :
    ∃ v' w', (Builtin.append_ #[31, 31] ty #[v, .slice ao m.length c]).run Tryz.prog w = .ok v' w' ∧ TxtsOwn x w' v' (l ++ m) ∧ w.grownBy w' v.ownBlock := by
  obtain ⟨i0, hi, hz0, hz1, hz2⟩ := info_parts info_text
  cases ao with
  | none =>
    obtain ⟨h0, rfl⟩ := hbare rfl
    obtain rfl : m = [] := List.eq_nil_of_length_eq_zero h0
    exact ⟨v, w, run_append_owned_none (P := Tryz.prog) w x 31 ty 9 i0 1 Tryz.underlying31 hi v l.length _ h, by rw [List.append_nil]; exact h, World.grownBy.refl _ _⟩
  | some ad =>
    obtain ⟨v', w', hrun, r1, r2, _⟩ := run_append_own_wide (P := Tryz.prog) w x 31 ty 9 i0 (.string ByteArray.empty) 1 16 Tryz.underlying31 hi hz0 hz1 hz2 rfl (by decide) v l.length _ h ad m.length c (tcells m) (by simp [tcells]) (hc ad rfl) (fun u hu => by obtain ⟨t, _, rfl⟩ := List.mem_map.1 hu; rfl) (by unfold maxLen; omega) (by omega) hx
    refine ⟨v', w', hrun, ?_, r2⟩
    unfold TxtsOwn
    rw [List.length_append, tcells_app]
    exact r1
theorem wpList_own_texts {ops : Array Oper} {rest : List Oper} {o : Oper} {a : Act} {w : World} {Q : Exit → Act → World → Prop}
    (hgd : o.guard = none) (s y : Operand) (hop : o.op = Op.call { callee := Callee.builtin Builtin.append, args := #[s, y], argTypes := #[31, 31] })
    (x : Nat) (v : Value) (l : List OB) (hS : a.eval s = v) (h : Hid (TxtsOwn x w v l)) (ao : Option Addr) (n c : Nat) (m : List OB) (hX : a.eval y = .slice ao n c) (hn : n = m.length) (hbare : ao = none → m.length = 0 ∧ c = 0) (hc : ∀ ad, ao = some ad → ∀ j u, (tcells m)[j]? = some u → w.cell? (ad.add j) = some u) (hb : l.length + m.length ≤ 8000000000000) (hx : x ≤ w.heap.size)
    (hK : ∀ v' w', Hid (TxtsOwn x w' v' (l ++ m)) → Hid (Below x w w') → wpList Tryz.prog ops Q rest (a.put o.dst v') w') : wpList Tryz.prog ops Q (o :: rest) a w := by
  refine wpList_plain hgd fun K hK' => ?_
  subst hn
  obtain ⟨v', w', hrun, r1, r2⟩ := run_own_texts w o.type x v l h.out ao c m hbare hc hb hx
  unfold Oper.wp
  simp [execOp, hop, resolve, invoke, builtin, hS, hX, hrun, Result.andThen]
  exact hK' _ _ (hK v' w' (Lib.hid r1) (Lib.hid ((Below.refl x w).grown r2 hx (fun k hk => (h.out.lt k hk).1))))
/-- One text, built as a slice. -/
theorem lit_text (w : World) (t : OB) : ∀ ad, some (⟨w.heap.size, 0, none⟩ : Addr) = some ad → ∀ j u, (tcells [t])[j]? = some u → (w.alloc (.cells #[.string (SL t)] 9)).cell? (ad.add j) = some u := by
  intro ad had j u hu
  cases had
  rw [Addr.add_lit]
  match j, hu with
  | 0, hu =>
    rw [cell_of_row _ _ _ _ _ _ (heap_alloc_new w _)]
    simpa [tcells] using hu
  | j + 1, hu => simp [tcells] at hu
end Go.Proofs.YtomgijcbekjlaaaGreat
namespace Go.Proofs.YtomgijcbekjlaaaGreat
open Go.RowKit
/-- A reader in block p: what is left of the bytes, and was there too little? -/
def RdAt (w : World) (p : Nat) (s : RS) : Prop := ∃ ao cap B off, w.heap[p]? = some (.cells #[.slice ao s.1.length cap, .bool s.2] 139 (0, 0)) ∧ SrcAt w ao cap s.1 B off ∧ (0 < s.1.length → B ≠ p)
theorem RdAt.lt {w : World} {p : Nat} {s : RS} (h : RdAt w p s) : p < w.heap.size := by
  obtain ⟨_, _, _, _, h1, _⟩ := h
  exact (Array.getElem?_eq_some_iff.1 h1).1
theorem RdAt.below {w w' : World} {p : Nat} {s : RS} (h : RdAt w p s) (hb : Below w.heap.size w w') : RdAt w' p s := by
  obtain ⟨ao, cap, B, off, h1, h2, h3⟩ := h
  exact ⟨ao, cap, B, off, below_turn hb h1, h2.below hb, h3⟩
end Go.Proofs.YtomgijcbekjlaaaGreat
namespace Go.Proofs.YtomgijcbekjlaaaGreat
open Go.RowKit
/-- A reader in block p: what is left of the bytes, and was there too little? -/
def RdG (G : Nat → Prop) (w : World) (p : Nat) (s : RS) : Prop := ∃ ao cap B off, w.heap[p]? = some (.cells #[.slice ao s.1.length cap, .bool s.2] 139 (0, 0)) ∧ SrcAt w ao cap s.1 B off ∧ (0 < s.1.length → B ≠ p ∧ ¬ G B)
theorem RdG.lt {G : Nat → Prop} {w : World} {p : Nat} {s : RS} (h : RdG G w p s) : p < w.heap.size := by
  obtain ⟨_, _, _, _, h1, _⟩ := h
  exact (Array.getElem?_eq_some_iff.1 h1).1
theorem RdG.below {G : Nat → Prop} {w w' : World} {p : Nat} {s : RS} (h : RdG G w p s) (hb : Below w.heap.size w w') : RdG G w' p s := by
  obtain ⟨ao, cap, B, off, h1, h2, h3⟩ := h
  exact ⟨ao, cap, B, off, below_turn hb h1, h2.below hb, h3⟩
end Go.Proofs.YtomgijcbekjlaaaGreat
namespace Go.Proofs.YtomgijcbekjlaaaGreat
open Go.RowKit
end Go.Proofs.YtomgijcbekjlaaaGreat
namespace Go.Proofs.YtomgijcbekjlaaaGreat
open Go.RowKit
theorem texts_differ {A B : List OB} {k : Nat} {t u : OB} (ha : A[k]? = some t) (hb : B[k]? = some u) (h : ¬ t = u) : A ≠ B := fun e => by
  rw [e, hb] at ha
  exact h (Option.some.inj ha).symm
theorem texts_alike {A B : List OB} (hl : A.length = B.length) (h : A.take A.length = B.take A.length) : A = B := by
  rw [List.take_length, hl, List.take_length] at h
  exact h
theorem take_alike {α : Type} {A B : List α} {k : Nat} {t : α} (h : A.take k = B.take k) (ha : A[k]? = some t) (hb : B[k]? = some t) : A.take (k + 1) = B.take (k + 1) := by rw [List.take_add_one, List.take_add_one, h, ha, hb]
set_option maxRecDepth 100000 in
set_option maxHeartbeats 4000000 in
theorem refSameTexts_any (F G : Nat → Prop) (v u : Value) (A B : List OB) (w : World) (h : TextsAt w F v A) (h' : TextsAt w G u B) (hl : A.length ≤ 9223372036854775807) :
    Calls Tryz.prog 23 #[v, u] w fun e w' => e = .returned (.bool (decide (A = B))) ∧ ∃ m, w' = w.drewN m := by
  obtain ⟨ao, cap, g, off, rfl, hs⟩ := h
  obtain ⟨ao', cap', g', off', rfl, hs'⟩ := h'
  obtain ⟨N, hN⟩ : ∃ N, N = A.length := ⟨_, rfl⟩
  obtain ⟨M, hM⟩ : ∃ M, M = B.length := ⟨_, rfl⟩
  rw [← hN] at hs hl ⊢
  rw [← hM] at hs' ⊢
  have HN := Lib.hid hN
  have HM := Lib.hid hM
  have HS := Lib.hid hs
  have HS' := Lib.hid hs'
  clear hN hM hs hs'
  by_cases hnm : N = M
  · obtain rfl := hnm
    go_enter Tryz.func23, Tryz.ntmps23
    go_wp2
    go_loopw [5] (fun i W => ∃ (k j : Nat), i = .int .i64 (k : Int) ∧ k ≤ N ∧ A.take k = B.take k ∧ W = w.drewN j) (fun i _ => N - (intOf i).toNat)
    case atStart => exact ⟨0, 0, rfl, Nat.zero_le _, by simp, rfl⟩
    case round =>
      obtain ⟨k, j, rfl, hk, ht, rfl⟩ := hrel
      by_cases hlt : k < N
      · have i0 : (0 : Int) ≤ (k : Int) := by omega
        have i1 : (k : Int) < (N : Int) := by omega
        obtain ⟨e, he⟩ : ∃ e, A[k]? = some e := ⟨_, List.getElem?_eq_getElem (by rw [← HN.out]; exact hlt)⟩
        obtain ⟨e', he'⟩ : ∃ e, B[k]? = some e := ⟨_, List.getElem?_eq_getElem (by rw [← HM.out]; exact hlt)⟩
        obtain ⟨rfl, c0⟩ := HS.out.text he hlt
        obtain ⟨rfl, c0'⟩ := HS'.out.text he' hlt
        obtain ⟨W0, hW0⟩ : ∃ W0, W0 = w.drewN j := ⟨_, rfl⟩
        have d0 : W0.cell? ⟨g, off + k, none⟩ = some (.string (SL e)) := by rw [hW0]; exact c0
        have d1 : W0.cell? ⟨g', off' + k, none⟩ = some (.string (SL e')) := by rw [hW0]; exact c0'
        have HW0 : Hid (∀ n, ∃ j', W0.drewN n = w.drewN j') := Lib.hid (fun n => ⟨j + n, by rw [hW0, World.drewN_drewN]⟩)
        rw [← hW0]
        have ln := SL_toList e
        have lm := SL_toList e'
        have HE := Lib.hid he
        have HE' := Lib.hid he'
        have HT := Lib.hid ht
        clear hW0 c0 c0' he he' ht
        by_cases hq : e = e'
        · subst hq
          have hb : (e == e) = true := beq_self_eq_true _
          have hnx := take_alike HT.out HE.out HE'.out
          have HNX := Lib.hid hnx
          clear hnx
          go_wp2
          go_quiet (fail)
          go_wp2
          go_roundw
          case rel =>
            obtain ⟨j', hj'⟩ := HW0.out nq
            exact ⟨k + 1, j', by go_num, by omega, HNX.out, hj'⟩
          case measure => simp [intOf]; omega
        · have hb : (e == e') = false := by simpa using hq
          have hv : decide (A = B) = false := decide_eq_false (texts_differ HE.out HE'.out hq)
          have HV := Lib.hid hv
          clear hv hq
          go_wp2
          go_quiet (fail)
          go_wp2
          go_ret
          exact ⟨by rw [HV.out]; rfl, HW0.out _⟩
      · obtain rfl : k = N := by omega
        have i1 : ¬ (k : Int) < (k : Int) := by omega
        have hv : decide (A = B) = true := decide_eq_true (texts_alike (by rw [← HN.out, ← HM.out]) (by rw [← HN.out]; exact ht))
        have HV := Lib.hid hv
        clear hv ht
        go_wp2
        go_ret
        exact ⟨by rw [HV.out]; rfl, j, rfl⟩
  · have hv : decide (A = B) = false := decide_eq_false (fun e => hnm (by rw [HN.out, HM.out, e]))
    have HV := Lib.hid hv
    have i0 : ¬ (N : Int) = (M : Int) := by omega
    have i1 : ((N : Int) != (M : Int)) = true := by simp; omega
    have i2 : (N != M) = true := by simpa using hnm
    clear hv
    go_enter Tryz.func23, Tryz.ntmps23
    go_wp2
    go_ret
    exact ⟨by rw [HV.out]; rfl, 0, rfl⟩
end Go.Proofs.YtomgijcbekjlaaaGreat
namespace Go.Proofs.YtomgijcbekjlaaaGreat
open Go.RowKit
abbrev nilS : Value := .slice none 0 0
/-- What Decode leaves. -/
def DecTo (b : OB) (w : World) (e : Ending) (w' : World) : Prop :=
  Below w.heap.size w w' ∧ match decO b with
    | none => e = .returned (.tuple #[objV (zeroO 0) nilS nilS nilS, .int .i64 2])
    | some o => ∃ dv ev uv, e = .returned (.tuple #[objV o dv ev uv, .int .i64 0]) ∧ ObjIn w' (fun k => w.heap.size ≤ k) o dv ev uv
theorem obj_fz {w : World} {x : Nat} {cs : Array Value} {t : TypeId} (h : w.heap[x]? = some (.cells cs t (0, 0))) : ∀ j, w.frozen? ⟨x, j, none⟩ = false := fun j => frozen_of_row _ _ j _ _ h
end Go.Proofs.YtomgijcbekjlaaaGreat
namespace Go.Proofs.YtomgijcbekjlaaaGreat
open Go.RowKit
/-- An object by value, whatever it is, and an error. -/
def DecErr (k : Int) (w : World) (e : Ending) (w' : World) : Prop := ∃ (K z : Int) (a1 a2 a3 : Option Addr) (n1 n2 n3 c1 c2 c3 : Nat) (s3 s5 s6 s7 s9 : OB), e = .returned (.tuple #[.agg #[.int .i64 K, .slice a1 n1 c1, .slice a2 n2 c2, .string (SL s3), .slice a3 n3 c3, .string (SL s5), .string (SL s6), .string (SL s7), .int .i64 z, .string (SL s9)], .int .i64 k]) ∧ Below w.heap.size w w'
theorem dec_err_none {b : OB} {w w' : World} {e : Ending} (hd : decO b = none) (h : DecTo b w e w') : DecErr 2 w e w' := by
  unfold DecTo at h
  rw [hd] at h
  exact ⟨0, 0, none, none, none, 0, 0, 0, 0, 0, 0, [], [], [], [], [], h.2, h.1⟩
theorem dec_err_some {b : OB} {o : ObjR} {w w' : World} {e : Ending} (hd : decO b = some o) (h : DecTo b w e w') : DecErr 0 w e w' := by
  unfold DecTo at h
  rw [hd] at h
  obtain ⟨hb, dv, ev, uv, he, ⟨a1, c1, _, _, rfl, _⟩, ⟨a2, c2, _, _, rfl, _⟩, ⟨a3, c3, _, _, rfl, _⟩⟩ := h
  exact ⟨_, _, _, _, _, _, _, _, _, _, _, _, _, _, _, _, he, hb⟩
end Go.Proofs.YtomgijcbekjlaaaGreat
