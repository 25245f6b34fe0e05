/- What the proofs stand on: LooseRef. -/
import Derived.Test.YtomgijcbekjlaaaGreatQ6
import Derived.Test.YtomgijcbekjlaaaGreatQ15
import Derived.Test.YtomgijcbekjlaaaGreatQ20
import Derived.Test.YtomgijcbekjlaaaGreatQ37
import Derived.Test.YtomgijcbekjlaaaGreatQ38
import Derived.Test.YtomgijcbekjlaaaGreatQ10
namespace Go.Proofs.YtomgijcbekjlaaaGreat
open Go.RowKit
theorem openL_le {p l : List UInt8} {most : Int} (h : openL p most = some l) : (l.length : Int) ≤ most := by
  rcases parse_cases p with hp | ⟨s, r, hs, rfl⟩
  · rw [openL_none hp] at h; cases h
  · rw [openL_num hs] at h
    split at h
    · cases h
    · have := tok_length _ _ _ _ _ h
      omega
theorem ROne.reads {w0 w : World} {Z : Nat → Prop} {q : Nat} {S : St} (h : ROne w0 Z w q S) (hg : Good S) (n : Bs) (hn : n.length ≤ 9223372036854775807) : Calls Tryz.prog 48 #[ptr q, .string (SL n)] w fun e w' => ∃ ao cap B, e = .returned (.tuple #[.slice ao (readS S n).2.length cap, err (readS S n).1]) ∧ SrcAt w' ao cap (readS S n).2 B 0 ∧ (0 < (readS S n).2.length → w.heap.size ≤ B) ∧ Below w.heap.size w w' := by
  obtain ⟨F, h, _⟩ := h
  refine (rRead h hg n hn).mono ?_
  rintro e w' ⟨v, he, hown, hb⟩
  obtain ⟨ao, cap, B, rfl, h2, h3⟩ := src_of_own hown
  exact ⟨ao, cap, B, he, h2, h3, hb⟩
end Go.Proofs.YtomgijcbekjlaaaGreat
