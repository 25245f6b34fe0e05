/- What the proofs stand on: DiskDump. -/
import Derived.Test.YtomgijcbekjlaaaGreatQ8
import Derived.Test.YtomgijcbekjlaaaGreatQ12
import Derived.Test.YtomgijcbekjlaaaGreatQ7
namespace Go.Proofs.YtomgijcbekjlaaaGreat
open Go.RowKit
section
variable {F : Nat → Prop} {p mb : Nat} {V : Bs → Value} {lf : Int} {S : St} {w : World}
set_option maxRecDepth 100000 in
theorem names_any (h : DiskIn w F p mb V lf S) (hr : Rising S.fs) (hb : S.fs.length * 16 ≤ 140737488355328) : Calls Tryz.prog 60 #[ptr p] w fun e w' => ∃ v, e = .returned v ∧ w'.ownsRow w.heap.size 9 1 v S.fs.length (S.fs.map fun f => .string (SL f.1)) ∧ Below w.heap.size w w' := by
  obtain ⟨c0, _⟩ := head_cells h.head
  have hm := made_any c0
  have hk := keysOf_any (some mb) w
  have hs := sortedOf_any h.map hr hb
  go_enter Tryz.func60, Tryz.ntmps60
  go_wp2_with (first | (go_at_call 54; refine hm.mono ?_; rintro e w' ⟨rfl, rfl⟩) | (go_at_call 117; refine hk.mono ?_; rintro e w' ⟨rfl, rfl⟩) | (go_at_call 116; refine hs.mono ?_; rintro e w' ⟨v, rfl, h1, h2⟩))
  go_ret
  exact ⟨_, rfl, h1, h2⟩
end
end Go.Proofs.YtomgijcbekjlaaaGreat
