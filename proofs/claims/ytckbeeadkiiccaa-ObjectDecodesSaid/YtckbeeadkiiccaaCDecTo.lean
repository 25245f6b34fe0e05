/- What Decode leaves. -/
import Derived.Test.YtckbeeadkiiccaaCObjM
import Derived.Test.YtckbeeadkiiccaaCRefB
namespace Go.Proofs.Ytckbeeadkiiccaa
open Go.RowKit
abbrev nilS : Value := .slice none 0 0
/-- What Decode leaves. -/
def DecTo (b : OB) (w : World) (e : Ending) (w' : World) : Prop :=
  Below w.heap.size w w' ∧ match decO b with
    | none => e = .returned (.tuple #[objV (zeroO 0) nilS nilS nilS, .int .i64 2])
    | some o => ∃ dv ev uv, e = .returned (.tuple #[objV o dv ev uv, .int .i64 0]) ∧ ObjIn w' (fun k => w.heap.size ≤ k) o dv ev uv
theorem obj_fz {w : World} {x : Nat} {cs : Array Value} {t : TypeId} (h : w.heap[x]? = some (.cells cs t (0, 0))) : ∀ j, w.frozen? ⟨x, j, none⟩ = false := fun j => frozen_of_row _ _ j _ _ h
end Go.Proofs.Ytckbeeadkiiccaa
