/- The blocks that a disk has, no more: its struct's, its map's, its rows'. A zone that is kept, and a stretch of blocks that the disk has none of. -/
import Derived.Test.YthibhkoneajffaaDiskOne
import Derived.RangeFuncNested
namespace Go.Proofs.Ythibhkoneajffaa
open Go.RowKit
def foot (p mb : Nat) (V : Bs → Value) (fs : Files) : Nat → Prop := fun k => k = p ∨ k = mb ∨ ∃ n b, findF n fs = some b ∧ (V n).ownBlock = some k
section
variable {F : Nat → Prop} {p mb : Nat} {V : Bs → Value} {lf : Int} {S : St} {w w' : World}
theorem DiskIn.tight (h : DiskIn w F p mb V lf S) : DiskIn w (foot p mb V S.fs) p mb V lf S :=
  ⟨h.head, h.left, h.wf, h.map, ⟨h.rows.own, fun n b hb _ hg => .inr (.inr ⟨n, b, hb, hg⟩), h.rows.apart⟩, .inl rfl, .inr (.inl rfl)⟩
theorem DiskIn.foot_in (h : DiskIn w F p mb V lf S) {k : Nat} (hk : foot p mb V S.fs k) : F k := by
  rcases hk with rfl | rfl | ⟨n, b, hb, hg⟩
  · exact h.inP
  · exact h.inM
  · exact h.rows.foot n b hb k hg
theorem DiskIn.foot_cells (h : DiskIn w F p mb V lf S) {k : Nat} (hk : foot p mb V S.fs k) : k = mb ∨ ∃ o : Obj, w.heap[k]? = some o ∧ o.isCells = true := by
  rcases hk with rfl | rfl | ⟨n, b, hb, hg⟩
  · exact .inr ⟨_, h.head, rfl⟩
  · exact .inl rfl
  · rcases (h.rows.own n b hb).2 with ⟨e, _⟩ | ⟨g, cap, cur, e, _, h3, _⟩
    · rw [e] at hg; cases hg
    · rw [e] at hg
      have e2 : g = k := Option.some.inj hg
      subst e2
      exact .inr ⟨_, h3, rfl⟩
/-- A disk, a zone Z that is kept since w0, and blocks lo to hi that the disk has none of; its map lies below lo. -/
structure LayAt (w0 : World) (Z : Nat → Prop) (lo hi : Nat) (p mb : Nat) (S : St) (W : World) : Prop where
  ex : ∃ V lf, DiskIn W (foot p mb V S.fs) p mb V lf S ∧ ∀ k, foot p mb V S.fs k → ¬ Z k ∧ k < W.heap.size ∧ (k < lo ∨ hi ≤ k)
  map : mb < lo
  turn : Turn (fun k => ¬ Z k) w0 W
  old : ∀ k, Z k → k < w0.heap.size
  size : w0.heap.size ≤ lo ∧ lo ≤ hi ∧ hi ≤ W.heap.size
variable {w0 W W' : World} {Z : Nat → Prop} {lo hi : Nat} {S' : St}
theorem LayAt.one (h : LayAt w0 Z lo hi p mb S W) : One w0 Z W p S := by
  obtain ⟨V, lf, h1, h2⟩ := h.ex
  exact ⟨_, ⟨mb, V, lf, h1⟩, fun k hk => ⟨(h2 k hk).1, (h2 k hk).2.1⟩, h.turn, h.old⟩
/-- Blocks that are no cells, from hi on, may be turned. -/
theorem LayAt.own (h : LayAt w0 Z lo hi p mb S W) {row : Option Nat} (hg : W.grownBy W' row) (hr : ∀ r, row = some r → hi ≤ r ∧ ∃ o : Obj, W.heap[r]? = some o ∧ o.isCells = false) : LayAt w0 Z lo hi p mb S W' := by
  have hs := hg.size
  obtain ⟨⟨V, lf, h1, h2⟩, h3, h4, h5, h6⟩ := h
  have hn : ∀ k, foot p mb V S.fs k → row ≠ some k := fun k hk e => by
    obtain ⟨q1, o, q2, q3⟩ := hr k e
    rcases h1.foot_cells hk with rfl | ⟨o', q4, q5⟩
    · omega
    · rw [q2] at q4; cases q4; rw [q3] at q5; cases q5
  exact ⟨⟨V, lf, h1.turn (G := fun k => row = some k) (Turn.of_grown hg (fun g hg => hg)) hn, fun k hk => ⟨(h2 k hk).1, by have := (h2 k hk).2.1; omega, (h2 k hk).2.2⟩⟩, h3,
    h4.then (Turn.of_grown (G := fun k => row = some k) hg (fun g hg => hg)) (fun k hk hk2 hz => by have := (hr k hk2).1; have := h5 k hz; omega), h5, ⟨h6.1, h6.2.1, by omega⟩⟩
/-- A store into a block between lo and hi. -/
theorem LayAt.set (h : LayAt w0 Z lo hi p mb S W) {g : Nat} (hg : lo ≤ g ∧ g < hi) (j : Nat) (v : Value) : LayAt w0 Z lo hi p mb S (W.setCell ⟨g, j, none⟩ v) := by
  have ht : Turn (fun k => k = g) W (W.setCell ⟨g, j, none⟩ v) := Turn.setCell W _ v rfl
  have hs := ht.size
  obtain ⟨⟨V, lf, h1, h2⟩, h3, h4, h5, h6⟩ := h
  exact ⟨⟨V, lf, h1.turn ht (fun k hk e => by have := (h2 k hk).2.2; omega), fun k hk => ⟨(h2 k hk).1, by have := (h2 k hk).2.1; omega, (h2 k hk).2.2⟩⟩, h3,
    h4.then ht (fun k _ hk2 hz => by have := h5 k hz; omega), h5, ⟨h6.1, h6.2.1, by omega⟩⟩
/-- What a call on the disk leaves. -/
theorem LayAt.acts (h4 : Turn (fun k => ¬ Z k) w0 W) (h3 : mb < lo) (h5 : ∀ k, Z k → k < w0.heap.size) (h6 : w0.heap.size ≤ lo ∧ lo ≤ hi ∧ hi ≤ W.heap.size) {G : Nat → Prop} (h2 : ∀ k, G k → ¬ Z k ∧ k < W.heap.size ∧ (k < lo ∨ hi ≤ k))
    {V' : Bs → Value} {lf' : Int} (hd : DiskIn W' (grow G W W') p mb V' lf' S') (ht : Turn G W W') : LayAt w0 Z lo hi p mb S' W' := by
  have hs := ht.size
  refine ⟨⟨V', lf', hd.tight, fun k hk => ?_⟩, h3, h4.then ht (fun k _ hk hz => (h2 k hk).1 hz), h5, ⟨h6.1, h6.2.1, by omega⟩⟩
  rcases hd.foot_in hk with hk | hk
  · exact ⟨(h2 k hk).1, by have := (h2 k hk).2.1; omega, (h2 k hk).2.2⟩
  · exact ⟨fun hz => by have := h5 k hz; omega, hk.2, .inr (by omega)⟩
/-- What is no cells and lies from hi on is kept. -/
theorem keepsFrom_of {G : Nat → Prop} (ht : Turn G W W') (hG : ∀ k, G k → k < hi ∨ ∃ o : Obj, W.heap[k]? = some o ∧ o.isCells = true) : KeepsFrom hi W W' :=
  ⟨ht.size, fun k o hk ho hc => ht.keep ho (fun hg => by
    rcases hG k hg with h | ⟨o', h1, h2⟩
    · omega
    · rw [ho] at h1; cases h1; rw [hc] at h2; cases h2)⟩
end
end Go.Proofs.Ythibhkoneajffaa
