/- A disk that Load is still filling: its memory. -/
import Derived.Test.YthibhkoneajffaaDiskLoadPure
import Derived.Test.YthibhkoneajffaaDiskOps3
namespace Go.Proofs.Ythibhkoneajffaa
open Go.RowKit
/-- A disk with these files; how much is said to be free is another matter. -/
structure HalfIn (w : World) (B p mb : Nat) (V : Bs → Value) (f : Int) (fs : Files) : Prop where
  head : w.heap[p]? = some (headO mb f 0 (-1) false)
  map : DiskMapAt w mb (esOf V fs)
  rows : RowsAt w (fun k => B ≤ k) V fs
  inP : B ≤ p
  inM : B ≤ mb
section
variable {w w' : World} {B p mb : Nat} {V : Bs → Value} {f : Int} {fs : Files}
theorem HalfIn.ne (h : HalfIn w B p mb V f fs) : p ≠ mb := by
  intro e
  obtain ⟨⟨E, c, h1, _⟩, _⟩ := h.map
  have h2 := h.head
  rw [e, h1] at h2
  cases h2
theorem HalfIn.row_ne (h : HalfIn w B p mb V f fs) {n b : Bs} (hb : findF n fs = some b) {g : Nat} (hg : (V n).ownBlock = some g) : g ≠ p ∧ g ≠ mb := by
  rcases (h.rows.own n b hb).2 with ⟨e, _⟩ | ⟨g', cap, cur, e, _, h3, _⟩
  · rw [e] at hg; cases hg
  · rw [e] at hg
    have e2 : g' = g := Option.some.inj hg
    subst e2
    refine ⟨fun k => ?_, fun k => ?_⟩
    · have h4 := h.head
      rw [← k, h3] at h4
      simp [headO] at h4
    · obtain ⟨⟨E, c, h1, _⟩, _⟩ := h.map
      rw [← k, h3] at h1
      cases h1
theorem HalfIn.plt (h : HalfIn w B p mb V f fs) : p < w.heap.size := (Array.getElem?_eq_some_iff.1 h.head).1
theorem HalfIn.below (h : HalfIn w B p mb V f fs) (hb : Below w.heap.size w w') : HalfIn w' B p mb V f fs :=
  ⟨below_heap hb h.head, h.map.turn (Turn.of_below (fun _ => False) hb) (fun h => h), h.rows.turn (Turn.of_below (fun _ => False) hb) (fun _ _ h => h), h.inP, h.inM⟩
set_option maxRecDepth 100000 in
theorem HalfIn.has (h : HalfIn w B p mb V f fs) (n : Bs) (hn : n.length ≤ maxLen) : Calls Try.prog 33 #[ptr p, .string (SL n)] w fun e w' => e = .returned (.bool (thereF n fs)) ∧ w' = w := by
  obtain ⟨c0, _⟩ := head_cells h.head
  have hl := h.map.look hn
  rw [es_there] at hl
  have hm := made_any c0
  go_enter Try.func33, Try.ntmps33
  go_wp2_with (go_at_call 54; refine hm.mono ?_; rintro e w' ⟨rfl, rfl⟩)
  go_ret
  exact ⟨rfl, rfl⟩
/-- A file is laid: what the map's update does. -/
theorem HalfIn.store (h : HalfIn w B p mb V f fs) (hr : Rising fs) (hlen : fs.length < maxLen) (n b : Bs) (hn : n.length ≤ maxLen) (v : Value) (ho : w.ownsRow 0 5 1 v b.length (b.map B8)) (hf : ∀ g, v.ownBlock = some g → B ≤ g ∧ g ≠ mb)
    (ha : ∀ m c, m ≠ n → findF m fs = some c → ∀ g, v.ownBlock = some g → (V m).ownBlock ≠ some g) :
    ∃ w', (Instr.mapUpdate 67 (.map (some mb)) (.string (SL n)) v).run Try.prog w = .ok () w' ∧ HalfIn w' B p mb (setV V n v) f (putF n b fs) ∧ Turn (fun k => k = mb) w w' := by
  obtain ⟨w3, hrun3, hmap3, hturn3⟩ := h.map.1.store (val := v) K9 Try.underlying67 (by simpa [esOf] using hlen) (key9 hn) (rawR_of (raw_own ho))
  have hgr := hturn3.grown
  have t3 : Turn (fun k => k = mb) w w3 := Turn.of_grown hgr (fun g hg => by cases hg; rfl)
  have m3 := DiskMapAt.put (es_rising hr) h.map.2.2 (raw_own ho) hmap3
  rw [es_put (b := b) hr] at m3
  have r3 : RowsAt w3 (fun k => B ≤ k) V fs := ⟨fun m c hc => own_turn (h.rows.own m c hc) t3 (fun g hg e => (h.row_ne hc hg).2 e), h.rows.foot, h.rows.apart⟩
  exact ⟨w3, hrun3, ⟨t3.keep h.head (fun e => h.ne e), m3, r3.put (own_turn ho t3 (fun g hg e => (hf g hg).2 e)) (fun g hg => (hf g hg).1) ha, h.inP, h.inM⟩, t3⟩
/-- What is said to be free turns. -/
theorem HalfIn.set (h : HalfIn w B p mb V f fs) (z : Int) : HalfIn (w.setCell ⟨p, 1, none⟩ (.int .i64 z)) B p mb V z fs := by
  have t : Turn (fun k => k = p) w (w.setCell ⟨p, 1, none⟩ (.int .i64 z)) := turn_set p 1 _ _
  refine ⟨heap_setCell_same w p 1 _ 74 (.int .i64 z) h.head, h.map.turn t (fun e => h.ne e.symm), ⟨fun n b hb => own_turn (h.rows.own n b hb) t (fun g hg e => (h.row_ne hb hg).1 e), h.rows.foot, h.rows.apart⟩, h.inP, h.inM⟩
theorem HalfIn.disk (h : HalfIn w B p mb V f fs) (c : Nat) (hf : f = wrap64 ((c : Int) - (costs fs : Int))) : DiskAt w (fun k => B ≤ k ∧ k < w.heap.size) p ⟨fs, c, 0, -1, false⟩ := by
  refine ⟨mb, V, -1, ⟨?_, fun _ => rfl, ⟨by omega, by omega⟩, h.map, ⟨h.rows.own, fun n b hb g hg => ⟨h.rows.foot n b hb g hg, ?_⟩, h.rows.apart⟩, ⟨h.inP, h.plt⟩, ⟨h.inM, h.map.lt⟩⟩⟩
  · have := h.head
    rw [hf] at this
    exact this
  · exact ((h.rows.own n b hb).lt g hg).2
end
theorem half_new (w : World) (c : Nat) : HalfIn ((w.alloc (.map #[] 0)).alloc (headO w.heap.size (c : Int) 0 (-1) false)) w.heap.size (w.heap.size + 1) w.heap.size (fun _ => .slice none 0 0) (c : Int) [] := by
  have h1 : (w.alloc (.map #[] 0)).heap.size = w.heap.size + 1 := by simp
  have hm : DiskMapAt ((w.alloc (.map #[] 0)).alloc (headO w.heap.size (c : Int) 0 (-1) false)) w.heap.size [] := (mapAt_new w).of_block (Below.heap_alloc _ _ _ (by omega))
  have hh := heap_alloc_new (w.alloc (.map #[] 0)) (headO w.heap.size (c : Int) 0 (-1) false)
  rw [h1] at hh
  exact ⟨hh, hm, ⟨fun _ _ h => (by cases h), fun _ _ h => (by cases h), fun _ _ _ _ h => (by cases h)⟩, by omega, Nat.le_refl _⟩
theorem setV_nil (n : Bs) : setV (fun _ => .slice none 0 0) n (.slice none 0 0) = (fun _ => .slice none 0 0) := by
  funext m
  simp [setV]
end Go.Proofs.Ythibhkoneajffaa
