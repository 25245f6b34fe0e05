/- Objects in memory: slices of entries and of texts that are read, an object's value. -/
import Derived.Test.YtckbeeadkiiccaaCObjP
import Derived.Test.YtckbeeadkiiccaaCBaseT
import Derived.Test.YtckbeeadkiiccaaCBaseD
namespace Go.Proofs.Ytckbeeadkiiccaa
open Go.RowKit
/-- A slice whose elements' cells are these. -/
structure SlAt (w : World) (F : Nat → Prop) (ao : Option Addr) (n cap g off : Nat) (cs : List Value) : Prop where
  le : n ≤ cap
  top : cap ≤ maxLen
  bare : ao = none → n = 0 ∧ cap = 0
  src : 0 < n → ao = some ⟨g, off, none⟩ ∧ g < w.heap.size ∧ F g
  zero : n = 0 → cs = []
  cell : ∀ j u, cs[j]? = some u → w.cell? ⟨g, off + j, none⟩ = some u
theorem SlAt.turn {w w' : World} {F G : Nat → Prop} {ao : Option Addr} {n cap g off : Nat} {cs : List Value} (h : SlAt w F ao n cap g off cs) (t : Turn G w w') (hn : ∀ k, F k → ¬ G k) : SlAt w' F ao n cap g off cs := by
  refine ⟨h.le, h.top, h.bare, fun p => ⟨(h.src p).1, Nat.lt_of_lt_of_le (h.src p).2.1 t.size, (h.src p).2.2⟩, h.zero, fun j u hu => ?_⟩
  have p : 0 < n := Nat.pos_of_ne_zero fun e => by rw [h.zero e] at hu; simp at hu
  exact t.cell (h.cell j u hu) (hn g (h.src p).2.2)
theorem SlAt.mono {w : World} {F F' : Nat → Prop} {ao : Option Addr} {n cap g off : Nat} {cs : List Value} (h : SlAt w F ao n cap g off cs) (hF : ∀ k, k < w.heap.size → F k → F' k) : SlAt w F' ao n cap g off cs :=
  ⟨h.le, h.top, h.bare, fun p => ⟨(h.src p).1, (h.src p).2.1, hF g (h.src p).2.1 (h.src p).2.2⟩, h.zero, h.cell⟩
def ecells : List EntR → List Value
  | [] => []
  | e :: r => .string (SL e.nm) :: .bool e.dir :: .string (SL e.id) :: ecells r
theorem ecells_length : ∀ l, (ecells l).length = l.length * 3
  | [] => rfl
  | e :: r => by simp only [ecells, List.length_cons, ecells_length r]; omega
theorem ecells_append : ∀ a b, ecells (a ++ b) = ecells a ++ ecells b
  | [], _ => rfl
  | e :: r, b => by simp only [List.cons_append, ecells, ecells_append r b]
theorem ecells_get : ∀ {l : List EntR} {i : Nat} {e : EntR}, l[i]? = some e → (ecells l)[i * 3]? = some (.string (SL e.nm)) ∧ (ecells l)[i * 3 + 1]? = some (.bool e.dir) ∧ (ecells l)[i * 3 + 2]? = some (.string (SL e.id))
  | [], _, _, h => by simp at h
  | q :: r, 0, e, h => by simp at h; subst h; exact ⟨rfl, rfl, rfl⟩
  | q :: r, i + 1, e, h => by
    have h1 : r[i]? = some e := by simpa using h
    obtain ⟨a, b, c⟩ := ecells_get h1
    have e1 : (i + 1) * 3 = i * 3 + 1 + 1 + 1 := by omega
    have e2 : i * 3 + 1 + 1 + 1 + 2 = i * 3 + 2 + 1 + 1 + 1 := by omega
    rw [e1, e2]
    simp only [ecells, List.getElem?_cons_succ]
    exact ⟨a, b, c⟩
def tcells (l : List OB) : List Value := l.map fun t => .string (SL t)
theorem tcells_get {l : List OB} {i : Nat} {t : OB} (h : l[i]? = some t) : (tcells l)[i]? = some (.string (SL t)) := by simp [tcells, h]
def EntsAt (w : World) (F : Nat → Prop) (v : Value) (l : List EntR) : Prop := ∃ ao cap g off, v = .slice ao l.length cap ∧ SlAt w F ao l.length cap g off (ecells l)
def TextsAt (w : World) (F : Nat → Prop) (v : Value) (l : List OB) : Prop := ∃ ao cap g off, v = .slice ao l.length cap ∧ SlAt w F ao l.length cap g off (tcells l)
theorem EntsAt.turn {w w' : World} {F G : Nat → Prop} {v : Value} {l : List EntR} (h : EntsAt w F v l) (t : Turn G w w') (hn : ∀ k, F k → ¬ G k) : EntsAt w' F v l := by
  obtain ⟨ao, cap, g, off, e, hs⟩ := h
  exact ⟨ao, cap, g, off, e, hs.turn t hn⟩
theorem EntsAt.mono {w : World} {F F' : Nat → Prop} {v : Value} {l : List EntR} (h : EntsAt w F v l) (hF : ∀ k, k < w.heap.size → F k → F' k) : EntsAt w F' v l := by
  obtain ⟨ao, cap, g, off, e, hs⟩ := h
  exact ⟨ao, cap, g, off, e, hs.mono hF⟩
theorem TextsAt.turn {w w' : World} {F G : Nat → Prop} {v : Value} {l : List OB} (h : TextsAt w F v l) (t : Turn G w w') (hn : ∀ k, F k → ¬ G k) : TextsAt w' F v l := by
  obtain ⟨ao, cap, g, off, e, hs⟩ := h
  exact ⟨ao, cap, g, off, e, hs.turn t hn⟩
theorem TextsAt.mono {w : World} {F F' : Nat → Prop} {v : Value} {l : List OB} (h : TextsAt w F v l) (hF : ∀ k, k < w.heap.size → F k → F' k) : TextsAt w F' v l := by
  obtain ⟨ao, cap, g, off, e, hs⟩ := h
  exact ⟨ao, cap, g, off, e, hs.mono hF⟩
theorem slAt_nil (w : World) (F : Nat → Prop) : SlAt w F none 0 0 0 0 [] := ⟨Nat.le_refl _, Nat.zero_le _, fun _ => ⟨rfl, rfl⟩, fun p => absurd p (Nat.lt_irrefl _), fun _ => rfl, fun j u h => by simp at h⟩
theorem entsAt_nil (w : World) (F : Nat → Prop) : EntsAt w F (.slice none 0 0) [] := ⟨none, 0, 0, 0, rfl, slAt_nil w F⟩
theorem textsAt_nil (w : World) (F : Nat → Prop) : TextsAt w F (.slice none 0 0) [] := ⟨none, 0, 0, 0, rfl, slAt_nil w F⟩
theorem bytesAt_nil (w : World) (F : Nat → Prop) : BytesAt w F (.slice none 0 0) [] := ⟨none, 0, 0, 0, rfl, src_nil w, fun p => absurd p (Nat.lt_irrefl _)⟩
/-- A slice of the call's own. -/
theorem SlAt.of_own {w : World} {base t k n : Nat} {v : Value} {cs : List Value} {F : Nat → Prop} (h : w.ownsRow base t k v n cs) (hz : n = 0 → cs = []) (hF : ∀ g, v.ownBlock = some g → F g) : ∃ ao cap g, v = .slice ao n cap ∧ SlAt w F ao n cap g 0 cs := by
  have hl := h.lt
  rcases h.2 with ⟨rfl, h0⟩ | ⟨g, cap, cur, rfl, h2, h3, h4, h5, h6, h7⟩
  · subst h0
    rw [hz rfl]
    exact ⟨none, 0, 0, rfl, slAt_nil w F⟩
  · refine ⟨_, cap, g, rfl, h4, h5, (fun h => by cases h), fun _ => ⟨rfl, (hl g rfl).2, hF g rfl⟩, hz, fun j u hu => ?_⟩
    have := h.cells (g := g) rfl j u hu
    rw [Addr.add_lit] at this
    exact this
theorem TextsAt.of_own {w : World} {base t : Nat} {v : Value} {l : List OB} {F : Nat → Prop} (h : w.ownsRow base t 1 v l.length (tcells l)) (hF : ∀ g, v.ownBlock = some g → F g) : TextsAt w F v l := by
  obtain ⟨ao, cap, g, e, hs⟩ := SlAt.of_own h (fun h0 => by rw [List.eq_nil_of_length_eq_zero h0]; rfl) hF
  exact ⟨ao, cap, g, 0, e, hs⟩
theorem EntsAt.of_own {w : World} {base t : Nat} {v : Value} {l : List EntR} {F : Nat → Prop} (h : w.ownsRow base t 3 v l.length (ecells l)) (hF : ∀ g, v.ownBlock = some g → F g) : EntsAt w F v l := by
  obtain ⟨ao, cap, g, e, hs⟩ := SlAt.of_own h (fun h0 => by rw [List.eq_nil_of_length_eq_zero h0]; rfl) hF
  exact ⟨ao, cap, g, 0, e, hs⟩
/-- The cells of an object. -/
def ocells (o : ObjR) (dv ev uv : Value) : List Value := [.int .i64 o.kind, dv, ev, .string (SL o.tree), uv, .string (SL o.target), .string (SL o.name), .string (SL o.who), .int .i64 o.stamp, .string (SL o.text)]
/-- What an object's slices hold. -/
structure ObjIn (w : World) (F : Nat → Prop) (o : ObjR) (dv ev uv : Value) : Prop where
  data : BytesAt w F dv o.data
  ents : EntsAt w F ev o.ents
  ups : TextsAt w F uv o.ups
theorem ObjIn.turn {w w' : World} {F G : Nat → Prop} {o : ObjR} {dv ev uv : Value} (h : ObjIn w F o dv ev uv) (t : Turn G w w') (hn : ∀ k, F k → ¬ G k) : ObjIn w' F o dv ev uv := ⟨h.data.turn t hn, h.ents.turn t hn, h.ups.turn t hn⟩
theorem ObjIn.mono {w : World} {F F' : Nat → Prop} {o : ObjR} {dv ev uv : Value} (h : ObjIn w F o dv ev uv) (hF : ∀ k, k < w.heap.size → F k → F' k) : ObjIn w F' o dv ev uv := ⟨h.data.mono hF, h.ents.mono hF, h.ups.mono hF⟩
/-- An object by value. -/
def objV (o : ObjR) (dv ev uv : Value) : Value := .agg #[.int .i64 o.kind, dv, ev, .string (SL o.tree), uv, .string (SL o.target), .string (SL o.name), .string (SL o.who), .int .i64 o.stamp, .string (SL o.text)]
end Go.Proofs.Ytckbeeadkiiccaa
