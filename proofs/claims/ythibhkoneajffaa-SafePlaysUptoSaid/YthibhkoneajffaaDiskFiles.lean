/- A file of a list of files. -/
import Derived.Test.YthibhkoneajffaaDiskOne
namespace Go.Proofs.Ythibhkoneajffaa
open Go.RowKit
theorem files_get {w : World} {G : Nat → Prop} {ao : Option Addr} {cap : Nat} {P : List (Bs × Value)} {g off : Nat} {L : Files} (hraw : RawAt w G ao cap P g off) (hhas : Has w G P L) {i : Nat} {n b : Bs} (hi : L[i]? = some (n, b)) :
    ao = some ⟨g, off, none⟩ ∧ w.cell? ⟨g, off + i * 2, none⟩ = some (.string (SL n)) ∧ ∃ x c, w.cell? ⟨g, off + i * 2 + 1, none⟩ = some (.slice x b.length c) ∧ BytesAt w G (.slice x b.length c) b := by
  have hl := (List.getElem?_eq_some_iff.1 hi).1
  obtain ⟨⟨n', bv⟩, hp⟩ : ∃ p, P[i]? = some p := ⟨_, List.getElem?_eq_getElem (by rw [hhas.1]; exact hl)⟩
  obtain ⟨hnn, hby⟩ := hhas.2 i _ _ hp hi
  simp only at hnn hby
  subst hnn
  obtain ⟨e1, c1, c2⟩ := hraw.get hp
  obtain ⟨x, c, B, o, rfl, h5⟩ := hby
  exact ⟨e1, c1, x, c, c2, ⟨x, c, B, o, rfl, h5⟩⟩
end Go.Proofs.Ythibhkoneajffaa
