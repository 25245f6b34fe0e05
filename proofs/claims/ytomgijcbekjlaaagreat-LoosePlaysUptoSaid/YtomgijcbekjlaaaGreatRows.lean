/-
  No cell of these rows narrows 'for every input' (looked for: loops, veiled, ifaces, maps, wideKeys, modest, calm, conditions, laid).
  DERIVED. THE GIVEN ROWS OF THIS SEAT. 5 by the template 'for every input the law returns true; each argument reads behind the call as it read before'; 0 by the template 'total and deterministic' (their statements: YtomgijcbekjlaaaGreatTotals.lean).
  GIVEN WITH THE SEED: the statements are not yours to turn. If you find one false, say at which input.
  Laid BY PROGRAM, IN A SANDBOX (cutbox-rows.mjs): the forced cells as the released guide's own fill.sh prints them over the translation 71c80986226f134b… (all of the seat's roots in one cut). By AI agents, Wed Nov 11 2026. No macro, syntax, notation, axiom, sorry.
-/
import Derived.Test.YtomgijcbekjlaaaGreatChecked
import GoSem.Claim
import GoSem.ClaimJoined
import GoSem.ClaimMapViews
import Derived.JoinedTies
import Derived.KernelRfl
namespace Go.Proofs.YtomgijcbekjlaaaGreat
/- THE CELL 'sum', in the pinned program and in every row, IS THE sha256 OF THE DUMP (.gsa) THAT YtomgijcbekjlaaaGreatProg.lean LOADS. Nothing in Lean hashes anything: it is a label: what it is worth is what the hold of that sum in a sandbox is worth. -/
noncomputable def Tryz.pinned : Pinned := { name := "ytomgijcbekjlaaagreat", sum := "71c80986226f134b444af98bdf359d08eb6ce63f3ac29b742108beb71973ec72", checked := Tryz.checked }
namespace Rows
def none {H : Type} : Left H := { results := [], args := [] }

/-- 'dolmenlaw07.LoosePlays': WHATEVER THE INPUT: true; the input reads as it did. -/
def loosePlaysSpec : ChangeSpec := { name := "loosePlays", fn := fun _ => fun
  | [d1, d2, d3] => { results := [.lit (.bool true)], args := [d1, d2, d3] }
  | _ => none }
def loosePlaysRow : OpenClaim := { program := "ytomgijcbekjlaaagreat", sum := "71c80986226f134b444af98bdf359d08eb6ce63f3ac29b742108beb71973ec72", func := "dolmen/dolmenlaw07.LoosePlays", spec := "loosePlays", inPlace := ["internal/bytealg.IndexByteString", "internal/bytealg.IndexString", "sync/atomic.AddInt64", "sync/atomic.LoadInt64"], unfollowed := true, recurses := true, named := ["internal/bytealg.MaxLen"], plainKeys := false, apart := false }
def LoosePlaysSaid : Prop := loosePlaysRow.holds Tryz.pinned (OpenSpec.ofChange loosePlaysSpec)

/-- ITS FALSE NEIGHBOUR: 'it returns false'. Refute it at one input. -/
def loosePlaysWrong : ChangeSpec := { name := "loosePlays", fn := fun _ => fun
  | [d1, d2, d3] => { results := [.lit (.bool false)], args := [d1, d2, d3] }
  | _ => none }
def LoosePlaysWrongFalsely : Prop := loosePlaysRow.holds Tryz.pinned (OpenSpec.ofChange loosePlaysWrong)

/-- 'dolmenlaw07.LooseHolds': WHATEVER THE INPUT: true; the input reads as it did. -/
def looseHoldsSpec : ChangeSpec := { name := "looseHolds", fn := fun _ => fun
  | [d] => { results := [.lit (.bool true)], args := [d] }
  | _ => none }
def looseHoldsRow : OpenClaim := { program := "ytomgijcbekjlaaagreat", sum := "71c80986226f134b444af98bdf359d08eb6ce63f3ac29b742108beb71973ec72", func := "dolmen/dolmenlaw07.LooseHolds", spec := "looseHolds", inPlace := ["internal/bytealg.IndexByteString", "internal/bytealg.IndexString", "sync/atomic.AddInt64", "sync/atomic.LoadInt64"], unfollowed := true, recurses := true, named := ["internal/bytealg.MaxLen"], plainKeys := false, apart := false }
def LooseHoldsSaid : Prop := looseHoldsRow.holds Tryz.pinned (OpenSpec.ofChange looseHoldsSpec)

/-- ITS FALSE NEIGHBOUR: 'it returns false'. Refute it at one input. -/
def looseHoldsWrong : ChangeSpec := { name := "looseHolds", fn := fun _ => fun
  | [d] => { results := [.lit (.bool false)], args := [d] }
  | _ => none }
def LooseHoldsWrongFalsely : Prop := looseHoldsRow.holds Tryz.pinned (OpenSpec.ofChange looseHoldsWrong)

/-- 'dolmenlaw07.LooseCut': WHATEVER THE INPUT: true; the input reads as it did. -/
def looseCutSpec : ChangeSpec := { name := "looseCut", fn := fun _ => fun
  | [d1, d2, d3] => { results := [.lit (.bool true)], args := [d1, d2, d3] }
  | _ => none }
def looseCutRow : OpenClaim := { program := "ytomgijcbekjlaaagreat", sum := "71c80986226f134b444af98bdf359d08eb6ce63f3ac29b742108beb71973ec72", func := "dolmen/dolmenlaw07.LooseCut", spec := "looseCut", inPlace := ["internal/bytealg.IndexByteString", "internal/bytealg.IndexString", "sync/atomic.AddInt64"], unfollowed := true, recurses := true, named := ["internal/bytealg.MaxLen"], plainKeys := false, apart := false }
def LooseCutSaid : Prop := looseCutRow.holds Tryz.pinned (OpenSpec.ofChange looseCutSpec)

/-- ITS FALSE NEIGHBOUR: 'it returns false'. Refute it at one input. -/
def looseCutWrong : ChangeSpec := { name := "looseCut", fn := fun _ => fun
  | [d1, d2, d3] => { results := [.lit (.bool false)], args := [d1, d2, d3] }
  | _ => none }
def LooseCutWrongFalsely : Prop := looseCutRow.holds Tryz.pinned (OpenSpec.ofChange looseCutWrong)

/-- 'dolmenlaw07.LooseSpoilt': WHATEVER THE INPUT: true; the input reads as it did. -/
def looseSpoiltSpec : ChangeSpec := { name := "looseSpoilt", fn := fun _ => fun
  | [d1, d2] => { results := [.lit (.bool true)], args := [d1, d2] }
  | _ => none }
def looseSpoiltRow : OpenClaim := { program := "ytomgijcbekjlaaagreat", sum := "71c80986226f134b444af98bdf359d08eb6ce63f3ac29b742108beb71973ec72", func := "dolmen/dolmenlaw07.LooseSpoilt", spec := "looseSpoilt", inPlace := ["internal/bytealg.IndexByteString", "internal/bytealg.IndexString", "sync/atomic.AddInt64"], unfollowed := true, recurses := true, named := ["internal/bytealg.MaxLen"], plainKeys := false, apart := false }
def LooseSpoiltSaid : Prop := looseSpoiltRow.holds Tryz.pinned (OpenSpec.ofChange looseSpoiltSpec)

/-- ITS FALSE NEIGHBOUR: 'it returns false'. Refute it at one input. -/
def looseSpoiltWrong : ChangeSpec := { name := "looseSpoilt", fn := fun _ => fun
  | [d1, d2] => { results := [.lit (.bool false)], args := [d1, d2] }
  | _ => none }
def LooseSpoiltWrongFalsely : Prop := looseSpoiltRow.holds Tryz.pinned (OpenSpec.ofChange looseSpoiltWrong)

/-- 'dolmenlaw07.LooseDrops': WHATEVER THE INPUT: true; the input reads as it did. -/
def looseDropsSpec : ChangeSpec := { name := "looseDrops", fn := fun _ => fun
  | [d1, d2] => { results := [.lit (.bool true)], args := [d1, d2] }
  | _ => none }
def looseDropsRow : OpenClaim := { program := "ytomgijcbekjlaaagreat", sum := "71c80986226f134b444af98bdf359d08eb6ce63f3ac29b742108beb71973ec72", func := "dolmen/dolmenlaw07.LooseDrops", spec := "looseDrops", inPlace := ["internal/bytealg.IndexByteString", "internal/bytealg.IndexString", "sync/atomic.AddInt64"], unfollowed := true, recurses := true, named := ["internal/bytealg.MaxLen"], plainKeys := false, apart := false }
def LooseDropsSaid : Prop := looseDropsRow.holds Tryz.pinned (OpenSpec.ofChange looseDropsSpec)

/-- ITS FALSE NEIGHBOUR: 'it returns false'. Refute it at one input. -/
def looseDropsWrong : ChangeSpec := { name := "looseDrops", fn := fun _ => fun
  | [d1, d2] => { results := [.lit (.bool false)], args := [d1, d2] }
  | _ => none }
def LooseDropsWrongFalsely : Prop := looseDropsRow.holds Tryz.pinned (OpenSpec.ofChange looseDropsWrong)

/- THE SECOND FORM. 'bulk': how many values and letters a reading holds, each counted each time it is reached (what is shared counts as often as it is met; a slice's spare places count too). A statement '..UptoSaid' is the law's where the arguments, and the package variables that the reading takes, are together of bulk at most 1048576: NARROWER than '..Said'. Prove '..Said' where nothing that the law and all that it calls make is longer than what came in: it says more and counts as full. Else prove '..UptoSaid'. A law counts once. -/
mutual
def uptoBulk {H : Type} : DataW H → Nat
  | .lit (.string bytes) => bytes.length + 1
  | .lit _ => 1
  | .nil => 1
  | .ptr d => uptoBulk d + 1
  | .slice elems spare => uptoBulkAll elems + uptoBulkAll spare + 1
  | .agg parts => uptoBulkAll parts + 1
  | .iface _ d => uptoBulk d + 1
  | .map entries => uptoBulkEntries entries + 1
  | .held _ => 1
def uptoBulkAll {H : Type} : List (DataW H) → Nat
  | [] => 0
  | d :: r => uptoBulk d + uptoBulkAll r
def uptoBulkEntries {H : Type} : List (Lit × DataW H) → Nat
  | [] => 0
  | x :: r => uptoBulkEntry x + uptoBulkEntries r
def uptoBulkEntry {H : Type} : Lit × DataW H → Nat
  | (.string bytes, d) => bytes.length + uptoBulk d + 1
  | (_, d) => uptoBulk d + 1
 end
def uptoSmall : (H : Type) → List (DataW H) → Bool := fun _ ds => decide (uptoBulkAll ds ≤ 1048576)
def OpenSpec.upto (s : _root_.Go.ChangeSpec) : _root_.Go.OpenSpec := { _root_.Go.OpenSpec.ofChange s with cond := some uptoSmall }

/-- 'dolmenlaw07.LoosePlays', WHERE WHAT IT READS IS OF BULK AT MOST 1048576: true; the input reads as it did. -/
def loosePlaysUptoRow : OpenClaim := { program := "ytomgijcbekjlaaagreat", sum := "71c80986226f134b444af98bdf359d08eb6ce63f3ac29b742108beb71973ec72", func := "dolmen/dolmenlaw07.LoosePlays", spec := "loosePlays", inPlace := ["internal/bytealg.IndexByteString", "internal/bytealg.IndexString", "sync/atomic.AddInt64", "sync/atomic.LoadInt64"], unfollowed := true, recurses := true, named := ["internal/bytealg.MaxLen"], plainKeys := false, apart := false, narrowed := true }
def LoosePlaysUptoSaid : Prop := loosePlaysUptoRow.holds Tryz.pinned (OpenSpec.upto loosePlaysSpec)

/-- 'dolmenlaw07.LooseHolds', WHERE WHAT IT READS IS OF BULK AT MOST 1048576: true; the input reads as it did. -/
def looseHoldsUptoRow : OpenClaim := { program := "ytomgijcbekjlaaagreat", sum := "71c80986226f134b444af98bdf359d08eb6ce63f3ac29b742108beb71973ec72", func := "dolmen/dolmenlaw07.LooseHolds", spec := "looseHolds", inPlace := ["internal/bytealg.IndexByteString", "internal/bytealg.IndexString", "sync/atomic.AddInt64", "sync/atomic.LoadInt64"], unfollowed := true, recurses := true, named := ["internal/bytealg.MaxLen"], plainKeys := false, apart := false, narrowed := true }
def LooseHoldsUptoSaid : Prop := looseHoldsUptoRow.holds Tryz.pinned (OpenSpec.upto looseHoldsSpec)

/-- 'dolmenlaw07.LooseCut', WHERE WHAT IT READS IS OF BULK AT MOST 1048576: true; the input reads as it did. -/
def looseCutUptoRow : OpenClaim := { program := "ytomgijcbekjlaaagreat", sum := "71c80986226f134b444af98bdf359d08eb6ce63f3ac29b742108beb71973ec72", func := "dolmen/dolmenlaw07.LooseCut", spec := "looseCut", inPlace := ["internal/bytealg.IndexByteString", "internal/bytealg.IndexString", "sync/atomic.AddInt64"], unfollowed := true, recurses := true, named := ["internal/bytealg.MaxLen"], plainKeys := false, apart := false, narrowed := true }
def LooseCutUptoSaid : Prop := looseCutUptoRow.holds Tryz.pinned (OpenSpec.upto looseCutSpec)

/-- 'dolmenlaw07.LooseSpoilt', WHERE WHAT IT READS IS OF BULK AT MOST 1048576: true; the input reads as it did. -/
def looseSpoiltUptoRow : OpenClaim := { program := "ytomgijcbekjlaaagreat", sum := "71c80986226f134b444af98bdf359d08eb6ce63f3ac29b742108beb71973ec72", func := "dolmen/dolmenlaw07.LooseSpoilt", spec := "looseSpoilt", inPlace := ["internal/bytealg.IndexByteString", "internal/bytealg.IndexString", "sync/atomic.AddInt64"], unfollowed := true, recurses := true, named := ["internal/bytealg.MaxLen"], plainKeys := false, apart := false, narrowed := true }
def LooseSpoiltUptoSaid : Prop := looseSpoiltUptoRow.holds Tryz.pinned (OpenSpec.upto looseSpoiltSpec)

/-- 'dolmenlaw07.LooseDrops', WHERE WHAT IT READS IS OF BULK AT MOST 1048576: true; the input reads as it did. -/
def looseDropsUptoRow : OpenClaim := { program := "ytomgijcbekjlaaagreat", sum := "71c80986226f134b444af98bdf359d08eb6ce63f3ac29b742108beb71973ec72", func := "dolmen/dolmenlaw07.LooseDrops", spec := "looseDrops", inPlace := ["internal/bytealg.IndexByteString", "internal/bytealg.IndexString", "sync/atomic.AddInt64"], unfollowed := true, recurses := true, named := ["internal/bytealg.MaxLen"], plainKeys := false, apart := false, narrowed := true }
def LooseDropsUptoSaid : Prop := looseDropsUptoRow.holds Tryz.pinned (OpenSpec.upto looseDropsSpec)

end Rows
end Go.Proofs.YtomgijcbekjlaaaGreat
