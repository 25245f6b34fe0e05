/- What the proofs stand on: DiskMem, DiskFileApp. -/
import Derived.Maps.OwnSet
import Derived.Sort.KeysCollected
import Derived.Sort.Walk0
import Derived.Test.YtomgijcbekjlaaaGreatP0
set_option maxRecDepth 100000
set_option maxHeartbeats 40000000
namespace Go.Proofs.YtomgijcbekjlaaaGreat
section
open Go.RowKit
open Go.Maps (has)
/-! ### Files as a slice of structs -/
def fcells : List (Bs × Value) -> List Value
 | [] => []
 | p :: r => .string (SL p.1) :: p.2 :: fcells r
theorem fcells_length : ∀ l, (fcells l).length = l.length * 2
 | [] => rfl
 | p :: r => by simp only [fcells, List.length_cons, fcells_length r]; omega
theorem fcells_append : ∀ a b, fcells (a ++ b) = fcells a ++ fcells b
 | [], _ => rfl
 | p :: r, b => by simp only [List.cons_append, fcells, fcells_append r b]
theorem fcells_get : ∀ {l : List (Bs × Value)} {i : Nat} {p : Bs × Value}, l[i]? = some p -> (fcells l)[i * 2]? = some (.string (SL p.1)) /\ (fcells l)[i * 2 + 1]? = some p.2
 | [], _, _, h => by simp at h
 | q :: r, 0, p, h => by simp at h; subst h; exact ⟨rfl, rfl⟩
 | q :: r, i + 1, p, h => by
  have h1 : r[i]? = some p := by simpa using h
  obtain ⟨a, b⟩ := fcells_get h1; have e : (i + 1) * 2 = i * 2 + 1 + 1 := by omega
  rw [e]; simp only [fcells, List.getElem?_cons_succ]; exact ⟨a, b⟩
def Has (w : World) (F : Nat -> Prop) (P : List (Bs × Value)) (L : Files) : Prop := P.length = L.length /\ ∀ (i : Nat) (p : Bs × Value) (f : Bs × Bs), P[i]? = some p -> L[i]? = some f -> p.1 = f.1 /\ BytesAt w F p.2 f.2
theorem Has.turn {F G : Nat -> Prop} {w w' : World} {P : List (Bs × Value)} {L : Files} (h : Has w F P L) (ht : Turn G w w') (hn : ∀ k, F k -> ¬ G k) : Has w' F P L :=
 ⟨h.1, fun i p f h1 h2 => ⟨(h.2 i p f h1 h2).1, (h.2 i p f h1 h2).2.turn ht hn⟩⟩
theorem Has.mono {F F' : Nat -> Prop} {w : World} {P : List (Bs × Value)} {L : Files} (h : Has w F P L) (hF : ∀ k, k < w.heap.size -> F k -> F' k) : Has w F' P L :=
 ⟨h.1, fun i p f h1 h2 => ⟨(h.2 i p f h1 h2).1, (h.2 i p f h1 h2).2.mono hF⟩⟩
theorem Has.nil (w : World) (F : Nat -> Prop) : Has w F [] [] := ⟨rfl, fun i p f h => by simp at h⟩
theorem Has.take {F : Nat -> Prop} {w : World} {P : List (Bs × Value)} {L : Files} (h : Has w F P L) (n : Nat) : Has w F (P.take n) (L.take n) := by
 refine ⟨by simp [h.1], fun i p f h1 h2 => ?_⟩
 rw [List.getElem?_take] at h1 h2; split at h1
 ·rename_i hi
  rw [if_pos hi] at h2; exact h.2 i p f h1 h2
 ·cases h1
theorem Has.drop {F : Nat -> Prop} {w : World} {P : List (Bs × Value)} {L : Files} (h : Has w F P L) (n : Nat) : Has w F (P.drop n) (L.drop n) := by
 refine ⟨by simp [h.1], fun i p f h1 h2 => ?_⟩
 rw [List.getElem?_drop] at h1 h2; exact h.2 _ p f h1 h2
theorem Has.append {F : Nat -> Prop} {w : World} {P P' : List (Bs × Value)} {L L' : Files} (h : Has w F P L) (h' : Has w F P' L') : Has w F (P ++ P') (L ++ L') := by
 refine ⟨by simp [h.1, h'.1], fun i p f h1 h2 => ?_⟩
 rw [List.getElem?_append] at h1 h2; rw [h.1] at h1; split at h1
 ·rename_i hi
  rw [if_pos hi] at h2; exact h.2 i p f h1 h2
 ·rename_i hi
  rw [if_neg hi] at h2; exact h'.2 _ p f h1 h2
theorem Has.one {F : Nat -> Prop} {w : World} {n b : Bs} {v : Value} (h : BytesAt w F v b) : Has w F [(n, v)] [(n, b)] := by
 refine ⟨rfl, fun i p f h1 h2 => ?_⟩
 cases i with
 | zero => simp at h1 h2; subst h1; subst h2; exact ⟨rfl, h⟩
 | succ i => simp at h1
structure RawAt (w : World) (F : Nat -> Prop) (ao : Option Addr) (cap : Nat) (P : List (Bs × Value)) (g off : Nat) : Prop where
 le : P.length <= cap
 top : cap <= maxLen
 src : 0 < P.length -> ao = some ⟨g, off, none⟩ /\ F g
 bare : ao = none -> P.length = 0 /\ cap = 0
 cell : ∀ j u, (fcells P)[j]? = some u -> w.cell? ⟨g, off + j, none⟩ = some u
theorem RawAt.turn {F G : Nat -> Prop} {w w' : World} {ao : Option Addr} {cap : Nat} {P : List (Bs × Value)} {g off : Nat} (h : RawAt w F ao cap P g off) (ht : Turn G w w') (hn : ∀ k, F k -> ¬ G k) : RawAt w' F ao cap P g off := by
 refine ⟨h.le, h.top, h.src, h.bare, fun j u hu => ht.cell (h.cell j u hu) (hn _ (h.src ?_).2)⟩
 have h1 := (List.getElem?_eq_some_iff.1 hu).1; rw [fcells_length] at h1; omega
theorem RawAt.lt {F : Nat -> Prop} {w : World} {ao : Option Addr} {cap : Nat} {P : List (Bs × Value)} {g off : Nat} (h : RawAt w F ao cap P g off) (hp : 0 < P.length) : g < w.heap.size := by
 have h1 := h.cell 0 _ (List.getElem?_eq_getElem (by rw [fcells_length]; omega))
 exact World.block_lt_of_cell? w _ h1
theorem RawAt.mono {F F' : Nat -> Prop} {w : World} {ao : Option Addr} {cap : Nat} {P : List (Bs × Value)} {g off : Nat} (h : RawAt w F ao cap P g off) (hF : ∀ k, k < w.heap.size -> F k -> F' k) : RawAt w F' ao cap P g off :=
 ⟨h.le, h.top, fun p => ⟨(h.src p).1, hF _ (h.lt p) (h.src p).2⟩, h.bare, h.cell⟩
theorem RawAt.get {F : Nat -> Prop} {w : World} {ao : Option Addr} {cap : Nat} {P : List (Bs × Value)} {g off : Nat} (h : RawAt w F ao cap P g off) {i : Nat} {p : Bs × Value} (hp : P[i]? = some p) :
  ao = some ⟨g, off, none⟩ /\ w.cell? ⟨g, off + i * 2, none⟩ = some (.string (SL p.1)) /\ w.cell? ⟨g, off + i * 2 + 1, none⟩ = some p.2 := by
 have hi := (List.getElem?_eq_some_iff.1 hp).1; obtain ⟨h1, h2⟩ := fcells_get hp; exact ⟨(h.src (by omega)).1, h.cell _ _ h1, by rw [Nat.add_assoc]; exact h.cell _ _ h2⟩
theorem rawAt_nil (w : World) (F : Nat -> Prop) : RawAt w F none 0 [] 0 0 := ⟨Nat.le_refl _, Nat.zero_le _, fun h => absurd h (Nat.lt_irrefl _), fun _ => ⟨rfl, rfl⟩, fun j u h => by simp [fcells] at h⟩
theorem rawAt_of_own {w : World} {base t : Nat} {v : Value} {P : List (Bs × Value)} {F : Nat -> Prop} (h : w.ownsRow base t 2 v P.length (fcells P)) (hF : ∀ g, v.ownBlock = some g -> F g) : ∃ ao cap g, v = .slice ao P.length cap /\ RawAt w F ao cap P g 0 := by
 rcases h.2 with ⟨rfl, h0⟩ | ⟨g, cap, cur, rfl, h2, h3, h4, h5, h6, h7⟩
 ·obtain rfl : P = [] := List.eq_nil_of_length_eq_zero h0
  exact ⟨none, 0, 0, rfl, rawAt_nil w F⟩
 ·refine ⟨_, cap, g, rfl, h4, h5, fun _ => ⟨rfl, hF g rfl⟩, (fun h => by cases h), fun j u hu => ?_⟩
  have := h.cells (g := g) rfl j u hu
  rw [Addr.add_lit] at this; exact this
def FilesAt (w : World) (F : Nat -> Prop) (v : Value) (L : Files) : Prop := ∃ ao cap P g off, v = .slice ao L.length cap /\ RawAt w F ao cap P g off /\ Has w F P L
theorem FilesAt.turn {F G : Nat -> Prop} {w w' : World} {v : Value} {L : Files} (h : FilesAt w F v L) (ht : Turn G w w') (hn : ∀ k, F k -> ¬ G k) : FilesAt w' F v L := by
 obtain ⟨ao, cap, P, g, off, h1, h2, h3⟩ := h; exact ⟨ao, cap, P, g, off, h1, h2.turn ht hn, h3.turn ht hn⟩
theorem FilesAt.mono {F F' : Nat -> Prop} {w : World} {v : Value} {L : Files} (h : FilesAt w F v L) (hF : ∀ k, k < w.heap.size -> F k -> F' k) : FilesAt w F' v L := by
 obtain ⟨ao, cap, P, g, off, h1, h2, h3⟩ := h; exact ⟨ao, cap, P, g, off, h1, h2.mono hF, h3.mono hF⟩
theorem filesAt_nil (w : World) (F : Nat -> Prop) : FilesAt w F (.slice none 0 0) [] := ⟨none, 0, [], 0, 0, rfl, rawAt_nil w F, Has.nil w F⟩
theorem filesAt_of_own {w : World} {base t : Nat} {v : Value} {P : List (Bs × Value)} {L : Files} {F : Nat -> Prop} (h : w.ownsRow base t 2 v P.length (fcells P)) (hF : ∀ g, v.ownBlock = some g -> F g) (hL : Has w F P L) : FilesAt w F v L := by
 obtain ⟨ao, cap, g, h1, h2⟩ := rawAt_of_own h hF; exact ⟨ao, cap, P, g, 0, by rw [<- hL.1]; exact h1, h2, hL⟩
/-! ### The document's disk -/
def RefAt (w : World) (F : Nat -> Prop) (q : Nat) (S : St) : Prop :=
 ∃ lv, w.heap[q]? = some (.cells #[.int .i64 (S.cap : Int), lv, .int .i64 (S.done : Int), .int .i64 S.left, .bool S.dark] 50 (0, 0)) /\ F q /\ FilesAt w (fun k => F k /\ k ≠ q) lv S.fs
/-! ### The map of raw slices -/
def rawR {H : Type} : Value -> Option (DataW H × List MemPlace)
 | .slice none 0 0 => some (.nil, [])
 | .slice (some ⟨g, 0, none⟩) n c => some (.agg [.lit (.int .i64 g), .lit (.int .i64 n), .lit (.int .i64 c)], [])
 | _ => none
def Raw (v : Value) : Prop := v = .slice none 0 0 \/ ∃ g n c, v = .slice (some ⟨g, 0, none⟩) n c
def rawD (v : Value) : DataW Unit := ((rawR v).map (·.1)).getD .nil
theorem raw_own {w : World} {base e s n : Nat} {v : Value} {xs : List Value} (h : w.ownsRow base e s v n xs) : Raw v := by
 rcases h.2 with ⟨rfl, _⟩ | ⟨g, cap, cur, rfl, _⟩
 ·exact .inl rfl
 ·exact .inr ⟨_, _, _, rfl⟩
theorem rawR_of {v : Value} (h : Raw v) : rawR v = some (rawD v, []) := by
 rcases h with rfl | ⟨g, n, c, rfl⟩ <;> rfl
theorem rawR_inj {v u : Value} {ps qs : List MemPlace} {d : DataW Unit} (h : rawR v = some (d, ps)) (k : rawR u = some (d, qs)) : v = u := by
 unfold rawR at h k; split at h
 ·cases h
  split at k
  ·rfl
  ·simp at k
  ·cases k
 ·cases h
  split at k
  ·simp at k
  ·simp at k
   obtain ⟨⟨h1, h2, h3⟩, _⟩ := k; have e1 := Int.ofNat.inj h1; have e2 := Int.ofNat.inj h2; have e3 := Int.ofNat.inj h3; subst e1 e2 e3
   rfl
  ·cases k
 ·cases h
def toD (es : List (Bs × Value)) : DataW Unit := .map (es.map fun p => (.string p.1, rawD p.2))
theorem before_str (a b : Bs) : (Lit.string a).before (.string b) = decide (a < b) := by
 show bytesBefore a b = _
 induction a generalizing b with
 | nil => cases b <;> simp [bytesBefore]
 | cons x r ih =>
  cases b with
  | nil => simp [bytesBefore]
  | cons y s =>
   rw [bytesBefore, ih s]; simp only [List.cons_lt_cons_iff]; by_cases h1 : x < y <;> by_cases h2 : x = y <;> by_cases h3 : r < s <;> simp [h1, h2, h3]
theorem same_str (a b : Bs) : (Lit.string a).sameKey (.string b) = decide (a = b) := by
 show (a == b) = _
 by_cases h : a = b <;> simp [h]
theorem toD_size (es : List (Bs × Value)) : Maps.size (toD es) = es.length := by simp [toD, Maps.size]
theorem toD_keys (es : List (Bs × Value)) : strKeys (toD es) = es.map (·.1) := by
 simp only [toD, strKeys, List.map_map]; rfl
theorem toD_has (n : Bs) : ∀ es : List (Bs × Value), has (toD es) (.string n) = thereF n es
 | [] => rfl
 | p :: r => by
  have ih := toD_has n r; simp only [toD, Maps.has_eq, List.map_cons, List.any_cons, same_str, thereF, findF] at ih |-; by_cases e : p.1 = n
  ·simp [e]
  ·simp only [e, decide_false, Bool.false_or, if_false]
   exact ih
theorem toD_at (n : Bs) (z : DataW Unit) : ∀ es : List (Bs × Value), (toD es).atKey (.string n) z = match findF n es with | some v => rawD v | none => z
 | [] => rfl
 | p :: r => by
  have ih := toD_at n z r; simp only [toD, DataW.atKey, List.map_cons, List.find?_cons, same_str, findF] at ih |-; by_cases e : p.1 = n
  ·simp [e]
  ·simp only [e, decide_false, if_false]
   exact ih
theorem toD_del {n : Bs} {es : List (Bs × Value)} (hr : Rising es) : (toD es).del (.string n) = toD (delF n es) := by
 unfold toD; rw [DataW.del_eq]; congr 1
 unfold ChangeMaps.delKey; induction es with
 | nil => rfl
 | cons p r ih =>
  obtain ⟨h1, h2⟩ := List.pairwise_cons.1 hr; simp only [List.map_cons, List.filter_cons, ChangeMaps.notKey, same_str, delF]; by_cases e : p.1 = n
  ·rw [if_pos e]
   simp only [e, decide_true, Bool.not_true, Bool.false_eq_true, if_false]; rw [List.filter_eq_self.2]; intro q hq
   obtain ⟨y, hy, rfl⟩ := List.mem_map.1 hq; have := h1 y hy
   have hne : y.1 ≠ n := fun k => by rw [e, k] at this; exact bs_lt_irrefl _ this
   simp [ChangeMaps.notKey, same_str, hne]
  ·rw [if_neg e]
   simp only [e, decide_false, Bool.not_false, if_true, List.map_cons]; congr 1
   exact ih h2
theorem insert_low (n : Bs) (d : DataW Unit) : ∀ (es : List (Bs × Value)), (∀ p ∈ es, n < p.1) -> DataW.insert (.string n, d) (es.map fun p => (Lit.string p.1, rawD p.2)) = (.string n, d) :: es.map fun p => (Lit.string p.1, rawD p.2)
 | [], _ => rfl
 | p :: r, h => by
  have := h p List.mem_cons_self
  simp only [List.map_cons, DataW.insert, before_str, this, decide_true, if_true]
theorem toD_put {n : Bs} {v : Value} {es : List (Bs × Value)} (hr : Rising es) : (toD es).put (.string n) (rawD v) = toD (putF n v es) := by
 unfold toD; rw [DataW.put_eq]; congr 1
 unfold ChangeMaps.putKey; induction es with
 | nil => rfl
 | cons p r ih =>
  obtain ⟨h1, h2⟩ := List.pairwise_cons.1 hr; have hself : (∀ q ∈ r, q.1 ≠ n) -> (r.map fun p => (Lit.string p.1, rawD p.2)).filter (ChangeMaps.notKey (.string n)) = r.map fun p => (Lit.string p.1, rawD p.2) := fun hne => by
   rw [List.filter_eq_self.2]; intro q hq
   obtain ⟨y, hy, rfl⟩ := List.mem_map.1 hq; simp [ChangeMaps.notKey, same_str, hne y hy]
  simp only [List.map_cons, List.filter_cons, ChangeMaps.notKey, same_str]; unfold putF; by_cases e : p.1 = n
  ·rw [if_pos e]
   simp only [e, decide_true, Bool.not_true, Bool.false_eq_true, if_false]; have hlow : ∀ q ∈ r, n < q.1 := fun q hq => by rw [<- e]; exact h1 q hq
   have h3 := hself (fun q hq k => by have := hlow q hq; rw [k] at this; exact bs_lt_irrefl _ this)
   show DataW.insert _ ((r.map fun p => (Lit.string p.1, rawD p.2)).filter (ChangeMaps.notKey (.string n))) = _
   rw [h3, insert_low n _ r hlow]; rfl
  ·rw [if_neg e]
   simp only [e, decide_false, Bool.not_false, if_true]; by_cases hlt : p.1 < n
   ·rw [if_pos hlt]
    have hnb : ¬ n < p.1 := fun k => bs_lt_irrefl _ (bs_lt_trans hlt k)
    simp only [DataW.insert, before_str, hnb, decide_false, Bool.false_eq_true, if_false, List.map_cons]; congr 1
    exact ih h2
   ·rw [if_neg hlt]
    have hnp : n < p.1 := by
     rcases bs_tri p.1 n with h | h | h
     ·exact absurd h hlt
     ·exact absurd h e
     ·exact h
    simp only [DataW.insert, before_str, hnp, decide_true, if_true, List.map_cons]; congr 2
    exact hself (fun q hq k => by have := bs_lt_trans hnp (h1 q hq); rw [k] at this; exact bs_lt_irrefl _ this)
def DiskMapAt (w : World) (mb : Nat) (es : List (Bs × Value)) : Prop := w.ownsMap Tryz.prog 9 rawR mb es.length (toD es) /\ Rising es /\ ∀ p ∈ es, Raw p.2
theorem own_tight {w : World} {mb n : Nat} {D : DataW Unit} (h : w.ownsMap Tryz.prog 9 rawR mb n D) : w.ownsMap Tryz.prog 9 rawR mb (Maps.size D) D := by
 obtain ⟨es, clock, h1, h2, h3, h4⟩ := h; refine ⟨es, clock, h1, h2, ?_, h4⟩; rw [h4]; simp [Maps.size, length_sorted]
theorem DiskMapAt.turn {G : Nat -> Prop} {w w' : World} {mb : Nat} {es : List (Bs × Value)} (h : DiskMapAt w mb es) (ht : Turn G w w') (hn : ¬ G mb) : DiskMapAt w' mb es := by
 obtain ⟨⟨E, c, h1, h2⟩, h3⟩ := h; exact ⟨⟨E, c, ht.keep h1 hn, h2⟩, h3⟩
theorem DiskMapAt.of_block {w w' : World} {mb : Nat} {es : List (Bs × Value)} (h : DiskMapAt w mb es) (hb : w'.heap[mb]? = w.heap[mb]?) : DiskMapAt w' mb es := by
 obtain ⟨⟨E, c, h1, h2⟩, h3⟩ := h; exact ⟨⟨E, c, hb.trans h1, h2⟩, h3⟩
theorem DiskMapAt.lt {w : World} {mb : Nat} {es : List (Bs × Value)} (h : DiskMapAt w mb es) : mb < w.heap.size := h.1.lt
theorem mapAt_new (w : World) : DiskMapAt (w.alloc (.map #[] 0)) w.heap.size [] := ⟨World.ownsMap_made w Tryz.prog 9 rawR, Rising.nil, fun p h => by cases h⟩
theorem K9 : Go.Maps.Keyed Tryz.prog 9 := Go.Maps.string_keyed Tryz.underlying9
theorem zero32 (w : World) : (zeroValue 29).run Tryz.prog w = .ok (.slice none 0 0) w := by kernel_rfl
theorem key9 {n : Bs} (h : n.length <= maxLen) : keyOf Tryz.prog 9 (.string (SL n)) = some (.string n) := Go.WideMaps.keyOf_string_mk Tryz.underlying9 (by rw [SL_size]; exact h)
theorem look_at {es : List (Bs × Value)} (hr : ∀ p ∈ es, Raw p.2) {n : Bs} {v : Value} {ps : List MemPlace} (h : rawR v = some ((toD es).atKey (.string n) .nil, ps)) : v = (findF n es).getD (.slice none 0 0) := by
 rw [toD_at] at h
 cases hf : findF n es with
 | none =>
  rw [hf] at h; exact rawR_inj h (u := .slice none 0 0) (qs := []) rfl
 | some u =>
  rw [hf] at h; exact rawR_inj h (rawR_of (hr _ (findF_mem hf)))
theorem DiskMapAt.look {w : World} {mb : Nat} {es : List (Bs × Value)} (h : DiskMapAt w mb es) {n : Bs} (hn : n.length <= maxLen) :
  (Instr.lookup 89 (.map (some mb)) (.string (SL n)) true).run Tryz.prog w = .ok (.tuple #[(findF n es).getD (.slice none 0 0), .bool (thereF n es)]) w := by
 obtain ⟨v, ps, h1, h2⟩ := h.1.look_ok K9 Tryz.underlying89 (zero32 w) (zd := .nil) (zp := []) rfl (key9 hn)
 rw [h1, look_at h.2.2 h2, toD_has]
theorem DiskMapAt.look1 {w : World} {mb : Nat} {es : List (Bs × Value)} (h : DiskMapAt w mb es) {n : Bs} (hn : n.length <= maxLen) :
  (Instr.lookup 89 (.map (some mb)) (.string (SL n)) false).run Tryz.prog w = .ok ((findF n es).getD (.slice none 0 0)) w := by
 obtain ⟨v, ps, h1, h2⟩ := h.1.lookup K9 Tryz.underlying89 (zero32 w) (zd := .nil) (zp := []) rfl (key9 hn)
 rw [h1, look_at h.2.2 h2]
theorem DiskMapAt.put {w' : World} {mb k : Nat} {es : List (Bs × Value)} (hr : Rising es) (hw : ∀ p ∈ es, Raw p.2) {n : Bs} {v : Value} (hv : Raw v) (h : w'.ownsMap Tryz.prog 9 rawR mb k ((toD es).put (.string n) (rawD v))) : DiskMapAt w' mb (putF n v es) := by
 rw [toD_put hr] at h; have h1 := own_tight h; rw [toD_size] at h1; refine ⟨h1, hr.put, fun p hp => ?_⟩
 rcases mem_putF hp with rfl | hp
 ·exact hv
 ·exact hw p hp
theorem DiskMapAt.del {w' : World} {mb k : Nat} {es : List (Bs × Value)} (hr : Rising es) (hw : ∀ p ∈ es, Raw p.2) {n : Bs} (h : w'.ownsMap Tryz.prog 9 rawR mb k ((toD es).del (.string n))) : DiskMapAt w' mb (delF n es) := by
 rw [toD_del hr] at h; have h1 := own_tight h; rw [toD_size] at h1; exact ⟨h1, hr.del, fun p hp => hw p (mem_delF hp)⟩
/-! ### The program's disk -/
def esOf (V : Bs -> Value) (fs : Files) : List (Bs × Value) := fs.map fun f => (f.1, V f.1)
def setV (V : Bs -> Value) (n : Bs) (v : Value) : Bs -> Value := fun m => if m = n then v else V m
theorem es_find (V : Bs -> Value) (n : Bs) : ∀ fs : Files, findF n (esOf V fs) = (findF n fs).map fun _ => V n
 | [] => rfl
 | p :: r => by
  have ih := es_find V n r; simp only [esOf, List.map_cons, findF] at ih |-; by_cases e : p.1 = n
  ·simp [e]
  ·simp only [e, if_false]
   exact ih
theorem es_there (V : Bs -> Value) (n : Bs) (fs : Files) : thereF n (esOf V fs) = thereF n fs := by
 unfold thereF; rw [es_find]
 cases findF n fs <;> rfl
theorem es_rising {V : Bs -> Value} {fs : Files} (h : Rising fs) : Rising (esOf V fs) := by
 unfold Rising esOf; rw [List.pairwise_map]; exact h
theorem es_put {V : Bs -> Value} {n b : Bs} {v : Value} {fs : Files} (h : Rising fs) : putF n v (esOf V fs) = esOf (setV V n v) (putF n b fs) := by
 refine rising_ext (es_rising h).put (es_rising h.put) fun m => ?_
 rw [es_find]; by_cases e : m = n
 ·subst e
  rw [findF_put_same, findF_put_same]; simp [setV]
 ·rw [findF_put_other _ e, findF_put_other _ e, es_find]
  simp [setV, e]
theorem es_del {V : Bs -> Value} {n : Bs} {fs : Files} (h : Rising fs) : delF n (esOf V fs) = esOf V (delF n fs) := by
 refine rising_ext (es_rising h).del (es_rising h.del) fun m => ?_
 rw [es_find]; by_cases e : m = n
 ·subst e
  rw [findF_del_same (es_rising h), findF_del_same h]; rfl
 ·rw [findF_del_other e, findF_del_other e, es_find]
theorem es_names (V : Bs -> Value) (fs : Files) : (esOf V fs).map (·.1) = fs.map (·.1) := by simp [esOf]
structure RowsAt (w : World) (F : Nat -> Prop) (V : Bs -> Value) (fs : Files) : Prop where
 own : ∀ n b, findF n fs = some b -> w.ownsRow 0 5 1 (V n) b.length (b.map B8)
 foot : ∀ n b, findF n fs = some b -> ∀ g, (V n).ownBlock = some g -> F g
 apart : ∀ m n b c, findF m fs = some b -> findF n fs = some c -> m ≠ n -> ∀ g, (V m).ownBlock = some g -> (V n).ownBlock ≠ some g
def headO (mb : Nat) (free done left : Int) (off : Bool) : Obj := .cells #[.map (some mb), .int .i64 free, .int .i64 done, .int .i64 left, .bool off] 96 (0, 0)
structure DiskIn (w : World) (F : Nat -> Prop) (p mb : Nat) (V : Bs -> Value) (lf : Int) (S : St) : Prop where
 head : w.heap[p]? = some (headO mb (wrap64 S.free) (S.done : Int) lf S.dark)
 left : S.dark = false -> lf = S.left
 wf : -1 <= lf /\ lf <= 9223372036854775807
 map : DiskMapAt w mb (esOf V S.fs)
 rows : RowsAt w F V S.fs
 inP : F p
 inM : F mb
def DiskAt (w : World) (F : Nat -> Prop) (p : Nat) (S : St) : Prop := ∃ mb V lf, DiskIn w F p mb V lf S
theorem own_turn {G : Nat -> Prop} {w w' : World} {base e s n : Nat} {v : Value} {xs : List Value} (h : w.ownsRow base e s v n xs) (ht : Turn G w w') (hn : ∀ g, v.ownBlock = some g -> ¬ G g) : w'.ownsRow base e s v n xs := by
 refine ⟨h.1, ?_⟩; rcases h.2 with h4 | ⟨g2, c2, cur2, rfl, h6, h7, h5⟩
 ·exact .inl h4
 ·exact .inr ⟨g2, c2, cur2, rfl, h6, ht.keep h7 (hn g2 rfl), h5⟩
theorem RowsAt.turn {F G : Nat -> Prop} {w w' : World} {V : Bs -> Value} {fs : Files} (h : RowsAt w F V fs) (ht : Turn G w w') (hn : ∀ k, F k -> ¬ G k) : RowsAt w' F V fs :=
 ⟨fun n b hb => own_turn (h.own n b hb) ht (fun g hg => hn g (h.foot n b hb g hg)), h.foot, h.apart⟩
theorem RowsAt.mono {F F' : Nat -> Prop} {w : World} {V : Bs -> Value} {fs : Files} (h : RowsAt w F V fs) (hF : ∀ k, F k -> F' k) : RowsAt w F' V fs :=
 ⟨h.own, fun n b hb g hg => hF g (h.foot n b hb g hg), h.apart⟩
theorem DiskIn.turn {F G : Nat -> Prop} {w w' : World} {p mb : Nat} {V : Bs -> Value} {lf : Int} {S : St} (h : DiskIn w F p mb V lf S) (ht : Turn G w w') (hn : ∀ k, F k -> ¬ G k) : DiskIn w' F p mb V lf S :=
 ⟨ht.keep h.head (hn _ h.inP), h.left, h.wf, h.map.turn ht (hn _ h.inM), h.rows.turn ht hn, h.inP, h.inM⟩
theorem DiskIn.mono {F F' : Nat -> Prop} {w : World} {p mb : Nat} {V : Bs -> Value} {lf : Int} {S : St} (h : DiskIn w F p mb V lf S) (hF : ∀ k, F k -> F' k) : DiskIn w F' p mb V lf S :=
 ⟨h.head, h.left, h.wf, h.map, h.rows.mono hF, hF _ h.inP, hF _ h.inM⟩
theorem DiskAt.turn {F G : Nat -> Prop} {w w' : World} {p : Nat} {S : St} (h : DiskAt w F p S) (ht : Turn G w w') (hn : ∀ k, F k -> ¬ G k) : DiskAt w' F p S := by
 obtain ⟨mb, V, lf, h⟩ := h; exact ⟨mb, V, lf, h.turn ht hn⟩
theorem RefAt.turn {F G : Nat -> Prop} {w w' : World} {q : Nat} {S : St} (h : RefAt w F q S) (ht : Turn G w w') (hn : ∀ k, F k -> ¬ G k) : RefAt w' F q S := by
 obtain ⟨lv, h1, h2, h3⟩ := h; exact ⟨lv, ht.keep h1 (hn _ h2), h2, h3.turn ht (fun k hk => hn k hk.1)⟩
theorem RefAt.mono {F F' : Nat -> Prop} {w : World} {q : Nat} {S : St} (h : RefAt w F q S) (hF : ∀ k, F k -> F' k) : RefAt w F' q S := by
 obtain ⟨lv, h1, h2, h3⟩ := h; exact ⟨lv, h1, hF _ h2, h3.mono fun k _ hk => ⟨hF k hk.1, hk.2⟩⟩
theorem head_cells {w : World} {p mb : Nat} {a b c : Int} {d : Bool} (h : w.heap[p]? = some (headO mb a b c d)) :
  w.cell? ⟨p, 0, none⟩ = some (.map (some mb)) /\ w.cell? ⟨p, 1, none⟩ = some (.int .i64 a) /\ w.cell? ⟨p, 2, none⟩ = some (.int .i64 b) /\ w.cell? ⟨p, 3, none⟩ = some (.int .i64 c) /\ w.cell? ⟨p, 4, none⟩ = some (.bool d) /\
   (∀ j, w.frozen? ⟨p, j, none⟩ = false) :=
 ⟨cell_of_row _ _ _ _ _ _ h, cell_of_row _ _ _ _ _ _ h, cell_of_row _ _ _ _ _ _ h, cell_of_row _ _ _ _ _ _ h, cell_of_row _ _ _ _ _ _ h, fun j => frozen_of_row _ _ j _ _ h⟩
theorem DiskIn.ne {F : Nat -> Prop} {w : World} {p mb : Nat} {V : Bs -> Value} {lf : Int} {S : St} (h : DiskIn w F p mb V lf S) : p ≠ mb := by
 intro e
 obtain ⟨⟨E, c, h1, _⟩, _⟩ := h.map; have h2 := h.head; rw [e, h1] at h2
 cases h2
theorem DiskIn.row_ne {F : Nat -> Prop} {w : World} {p mb : Nat} {V : Bs -> Value} {lf : Int} {S : St} (h : DiskIn w F p mb V lf S) {n b : Bs} (hb : findF n S.fs = some b) {g : Nat} (hg : (V n).ownBlock = some g) : g ≠ p /\ g ≠ mb := by
 rcases (h.rows.own n b hb).2 with ⟨e, _⟩ | ⟨g', cap, cur, e, _, h3, _⟩
 ·rw [e] at hg; cases hg
 ·rw [e] at hg
  have e2 : g' = g := Option.some.inj hg
  subst e2; refine ⟨fun k => ?_, fun k => ?_⟩
  ·have h4 := h.head
   rw [<- k, h3] at h4; simp [headO] at h4
  ·obtain ⟨⟨E, c, h1, _⟩, _⟩ := h.map
   rw [<- k, h3] at h1
   cases h1
end
section
open Go.RowKit
def zfile : Value := .agg #[.string ByteArray.empty, .slice none 0 0]
structure FileType (T E : TypeId) : Prop where
 slice : Tryz.prog.underlying T = some (.slice E)
 info : (Tryz.prog.info? E).map (fun i => (i.zero, i.size, i.bytes)) = some (some zfile, 2, 40)
theorem files72 : FileType 55 74 := ⟨Tryz.underlying55, by kernel_rfl⟩
theorem files74 : FileType 22 73 := ⟨Tryz.underlying22, by kernel_rfl⟩
theorem fcells_one {P : List (Bs × Value)} (h : ∀ p ∈ P, p.2.oneCell' = true) : ∀ u ∈ fcells P, u.oneCell' = true := by
 induction P with
 | nil => intro u hu; cases hu
 | cons p r ih =>
  intro u hu
  simp only [fcells, List.mem_cons] at hu; rcases hu with rfl | rfl | hu
  ·rfl
  ·exact h p List.mem_cons_self
  ·exact ih (fun q hq => h q (List.mem_cons_of_mem _ hq)) u hu
theorem bytes_one {w : World} {F : Nat -> Prop} {v : Value} {b : Bs} (h : BytesAt w F v b) : v.oneCell' = true := by
 obtain ⟨ao, cap, B, off, rfl, _⟩ := h; rfl
theorem Has.one' {w : World} {F : Nat -> Prop} {P : List (Bs × Value)} {L : Files} (h : Has w F P L) : ∀ p ∈ P, p.2.oneCell' = true := by
 intro p hp
 obtain ⟨i, hi, rfl⟩ := List.mem_iff_getElem.1 hp; have hl : i < L.length := by rw [<- h.1]; exact hi
 exact bytes_one (h.2 i _ _ (List.getElem?_eq_getElem hi) (List.getElem?_eq_getElem hl)).2
theorem run_append_files {T E : TypeId} (ht : FileType T E) (w : World) (ty : TypeId) (base : Nat) (v : Value) (n : Nat) (xs : List Value) (hown : w.ownsRow base E 2 v n xs) (ao : Option Addr) (m c : Nat) (news : List Value) (hn : news.length = m * 2)
  (hbare : ao = none -> m = 0 /\ c = 0) (hc : ∀ ad, ao = some ad -> ∀ j u, news[j]? = some u -> w.cell? (ad.add j) = some u) (h1c : ∀ u ∈ news, u.oneCell' = true) (hb : n + m <= 5000000000000) (hbase : base <= w.heap.size) :
  ∃ v' w', (Builtin.append_ #[T, T] ty #[v, .slice ao m c]).run Tryz.prog w = .ok v' w' /\ w'.ownsRow base E 2 v' (n + m) (xs ++ news) /\ w.grownBy w' v.ownBlock /\ (∀ k, v'.ownBlock = some k -> v.ownBlock = some k \/ k = w.heap.size) := by
 obtain ⟨i0, hi, hz0, hz1, hz2⟩ := info_parts ht.info
 cases ao with
 | none =>
  obtain ⟨rfl, rfl⟩ := hbare rfl; obtain rfl : news = [] := List.eq_nil_of_length_eq_zero (by simpa using hn)
  exact ⟨v, w, run_append_owned_none (P := Tryz.prog) w base T ty E i0 2 ht.slice hi v n xs hown, by rw [Nat.add_zero, List.append_nil]; exact hown, World.grownBy.refl _ _, fun k hk => .inl hk⟩
 | some ad =>
  have hnews := hc ad rfl; obtain ⟨v', w', hrun, r1, r2, r3⟩ := run_append_own_wide (P := Tryz.prog) w base T ty E i0 zfile 2 40 ht.slice hi hz0 hz1 hz2 rfl (by decide) v n xs hown ad m c news hn hnews h1c (by unfold maxLen; omega) (by omega) hbase
  refine ⟨v', w', hrun, r1, r2, fun k hk => ?_⟩
  have hnl : news.length = m * i0.size := by rw [hn, hz1]
  rcases hown.2 with ⟨rfl, hn0⟩ | ⟨g, cap, cur, rfl, hbg, hg, hnc, hcm, hcs, htake⟩
  ·subst hn0
   by_cases hm : m = 0
   ·have h4 := r3.2 ⟨rfl, hm⟩
    rw [h4] at hk
    cases hk
   ·have h2 := run_append_nil (P := Tryz.prog) w T ty E i0 zfile ht.slice hi hz0 ad m c news hnl hnews (by omega) (by omega) (by rw [hz2]; omega)
    have h3 := hrun.symm.trans h2; injection h3 with e1 _
    rw [e1] at hk; exact .inr (Option.some.inj hk).symm
  ·by_cases hroom : n + m <= cap
   ·have hfit : n * i0.size + news.length <= cur.size := by rw [hn, hz1, hcs]; omega
    have h2 := run_append_room (P := Tryz.prog) w T ty E i0 ht.slice hi g n cap cur hg ad m c news hnl hnews h1c hroom hfit
    have h3 := hrun.symm.trans h2; injection h3 with e1 _
    rw [e1] at hk; exact .inl hk
   ·have holds : ∀ j u, xs[j]? = some u -> w.cell? ((⟨g, 0, none⟩ : Addr).add j) = some u := hown.cells (g := g) rfl
    have h2 := run_append_grow (P := Tryz.prog) w T ty E i0 zfile ht.slice hi hz0 ⟨g, 0, none⟩ n cap xs (by rw [hown.1, hz1]) holds ad m c news hnl hnews (by omega) (by omega) (by rw [hz2]; exact growslice_fits_wide (by omega) (by omega))
    have h3 := hrun.symm.trans h2; injection h3 with e1 _
    rw [e1] at hk; exact .inr (Option.some.inj hk).symm
theorem wpList_append_files {T E : TypeId} (ht : FileType T E) {ops : Array Oper} {rest : List Oper} {o : Oper} {a : Act} {w : World} {Q : Exit -> Act -> World -> Prop}
  (hgd : o.guard = none) (s x : Operand) (hop : o.op = Op.call { callee := Callee.builtin Builtin.append, args := #[s, x], argTypes := #[T, T] })
  (base : Nat) (v : Value) (n : Nat) (xs : List Value) (hS : a.eval s = v) (hown : w.ownsRow base E 2 v n xs) (ao : Option Addr) (m c : Nat) (hX : a.eval x = .slice ao m c) (news : List Value) (hn : news.length = m * 2)
  (hbare : ao = none -> m = 0 /\ c = 0) (hc : ∀ ad, ao = some ad -> ∀ j u, news[j]? = some u -> w.cell? (ad.add j) = some u) (h1c : ∀ u ∈ news, u.oneCell' = true) (hb : n + m <= 5000000000000) (hbase : base <= w.heap.size)
  (hK : ∀ v' w', Hid (w'.ownsRow base E 2 v' (n + m) (xs ++ news)) -> Hid (w.grownBy w' v.ownBlock) -> Hid (∀ k, v'.ownBlock = some k -> v.ownBlock = some k \/ k = w.heap.size) -> wpList Tryz.prog ops Q rest (a.put o.dst v') w') : wpList Tryz.prog ops Q (o :: rest) a w := by
 refine wpList_plain hgd fun K hK' => ?_
 obtain ⟨v', w', hrun, r1, r2, r3⟩ := run_append_files ht w o.type base v n xs hown ao m c news hn hbare hc h1c hb hbase; unfold Oper.wp; simp [execOp, hop, resolve, invoke, builtin, hS, hX, hrun, Result.andThen]; exact hK' _ _ (hK v' w' r1 r2 r3)
theorem step_append_files {T E : TypeId} (ht : FileType T E) {ops : Array Oper} {o : Oper} {a : Act} {w : World} {K : Act -> World -> Prop} {Q : Exit -> Act -> World -> Prop} {X : Prop}
  (hgd : o.guard = none) (s x : Operand) (hop : o.op = Op.call { callee := Callee.builtin Builtin.append, args := #[s, x], argTypes := #[T, T] })
  (base : Nat) (v : Value) (n : Nat) (xs : List Value) (hS : a.eval s = v) (hown : w.ownsRow base E 2 v n xs) (ao : Option Addr) (m c : Nat) (hX : a.eval x = .slice ao m c) (news : List Value) (hn : news.length = m * 2)
  (hbare : ao = none -> m = 0 /\ c = 0) (hc : ∀ ad, ao = some ad -> ∀ j u, news[j]? = some u -> w.cell? (ad.add j) = some u) (h1c : ∀ u ∈ news, u.oneCell' = true) (hb : n + m <= 5000000000000) (hbase : base <= w.heap.size)
  (hK : ∀ v' w', Hid (w'.ownsRow base E 2 v' (n + m) (xs ++ news)) -> Hid (w.grownBy w' v.ownBlock) -> Hid (∀ k, v'.ownBlock = some k -> v.ownBlock = some k \/ k = w.heap.size) -> K (a.put o.dst v') w') :
  if Region.wanted o (yielded ops a.tmps) = true then Oper.wp Tryz.prog o a w K Q else X := by
 have hw : Region.wanted o (yielded ops a.tmps) = true := by simp [Region.wanted, hgd]
 rw [if_pos hw]; obtain ⟨v', w', hrun, r1, r2, r3⟩ := run_append_files ht w o.type base v n xs hown ao m c news hn hbare hc h1c hb hbase; unfold Oper.wp; simp [execOp, hop, resolve, invoke, builtin, hS, hX, hrun, Result.andThen]; exact hK v' w' r1 r2 r3
structure FilesOwn (w : World) (E base : Nat) (F : Nat -> Prop) (v : Value) (P : List (Bs × Value)) (L : Files) : Prop where
 own : w.ownsRow base E 2 v L.length (fcells P)
 has : Has w (fun k => F k /\ v.ownBlock ≠ some k) P L
theorem FilesOwn.nil (w : World) (E base : Nat) (F : Nat -> Prop) : FilesOwn w E base F (.slice none 0 0) [] [] := ⟨World.ownsRow_nil _ _ _ _, Has.nil _ _⟩
theorem FilesOwn.len {w : World} {E base : Nat} {F : Nat -> Prop} {v : Value} {P : List (Bs × Value)} {L : Files} (h : FilesOwn w E base F v P L) : P.length = L.length := h.has.1
theorem FilesOwn.files {w : World} {E base : Nat} {F : Nat -> Prop} {v : Value} {P : List (Bs × Value)} {L : Files} (h : FilesOwn w E base F v P L) (hF : ∀ g, base <= g -> g < w.heap.size -> v.ownBlock = some g -> F g) : FilesAt w F v L := by
 have h1 := h.own; rw [<- h.len] at h1; exact filesAt_of_own h1 (fun g hg => hF g (h.own.lt g hg).1 (h.own.lt g hg).2 hg) (h.has.mono fun k _ hk => hk.1)
theorem FilesOwn.turn {G : Nat -> Prop} {w w' : World} {E base : Nat} {F : Nat -> Prop} {v : Value} {P : List (Bs × Value)} {L : Files} (h : FilesOwn w E base F v P L) (ht : Turn G w w') (hF : ∀ k, F k -> ¬ G k) (hv : ∀ g, v.ownBlock = some g -> ¬ G g) : FilesOwn w' E base F v P L :=
 ⟨own_turn h.own ht hv, h.has.turn ht fun k hk => hF k hk.1⟩
theorem FilesOwn.grown {w w' : World} {E base : Nat} {F : Nat -> Prop} {v v' : Value} {P P' : List (Bs × Value)} {L L' : Files} (h : FilesOwn w E base F v P L) (h' : Has w (fun k => F k /\ v.ownBlock ≠ some k) P' L')
  (hown : w'.ownsRow base E 2 v' (L.length + L'.length) (fcells P ++ fcells P')) (hg : w.grownBy w' v.ownBlock) (hnew : ∀ k, v'.ownBlock = some k -> v.ownBlock = some k \/ k = w.heap.size) : FilesOwn w' E base F v' (P ++ P') (L ++ L') := by
 refine ⟨by rw [fcells_append, List.length_append]; exact hown, ?_⟩
 have h1 := (h.has.append h'); refine ⟨h1.1, fun i p f hp hf => ⟨(h1.2 i p f hp hf).1, ?_⟩⟩
 obtain ⟨ao, cap, B, off, h2, h3, h4⟩ := (h1.2 i p f hp hf).2; have t : Turn (fun k => v.ownBlock = some k) w w' := Turn.of_grown hg (fun g hg => hg)
 refine ⟨ao, cap, B, off, h2, h3.turn t (fun hp => (h4 hp).2), fun hp => ⟨(h4 hp).1, fun e => ?_⟩⟩
 rcases hnew B e with h5 | h5
 ·exact (h4 hp).2 h5
 ·have := h3.old hp
  omega
end
end Go.Proofs.YtomgijcbekjlaaaGreat
