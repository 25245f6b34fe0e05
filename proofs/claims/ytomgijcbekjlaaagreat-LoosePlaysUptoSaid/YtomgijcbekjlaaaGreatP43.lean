/- What the proofs stand on: LooseRest. -/
import Derived.Test.YtomgijcbekjlaaaGreatP15
import Derived.Test.YtomgijcbekjlaaaGreatP23
set_option maxRecDepth 100000
set_option maxHeartbeats 40000000
namespace Go.Proofs.YtomgijcbekjlaaaGreat
section
open Go.RowKit
theorem texts_src {x m c : Nat} {W : World} {a : Option Addr} {l : List OB} (h : TxtsOwn x W (.slice a m c) l) (hm : 0 < m) : ∃ g, a = some ⟨g, 0, none⟩ := by
 rcases h.2 with ⟨e, _⟩ | ⟨g, _, _, e, _⟩
 ·simp only [Value.slice.injEq] at e
  omega
 ·simp only [Value.slice.injEq] at e
  exact ⟨g, e.1⟩
theorem texts_cell {x m c g j : Nat} {W : World} {l : List OB} {t : OB} (h : TxtsOwn x W (.slice (some ⟨g, 0, none⟩) m c) l) (hj : l[j]? = some t) : W.cell? ⟨g, j, none⟩ = some (.string (SL t)) := by
 have := h.cells (g := g) rfl j _ (tcells_get hj)
 rw [Addr.add_lit, Nat.zero_add] at this; exact this
end
end Go.Proofs.YtomgijcbekjlaaaGreat
