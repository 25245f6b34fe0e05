/- The walk of Same (the document's answer for package code). -/
import Derived.Test.YtjieljmlpbiidaaMem
namespace Go.Proofs.Ytjieljmlpbiidaa
open Go.RowKit
theorem same_true {ao bo : Option Addr} {capa capb : Nat} {l : List UInt8} {A offa B offb : Nat} (w : World) (ha : SrcAt w ao capa l A offa) (hb : SrcAt w bo capb l B offb) :
    Calls Try.prog 11 #[.slice ao l.length capa, .slice bo l.length capb] w fun e w' => e = .returned (.bool true) ∧ w' = w := by
  have c1 := convert_src ha
  have c2 := convert_src hb
  obtain ⟨n, hn⟩ : ∃ n, n = l.length := ⟨_, rfl⟩
  rw [← hn] at c1 c2 ⊢
  have HN := Lib.hid hn
  clear hn
  go_enter Try.func11, Try.ntmps11
  go_wp2
  go_ret
  exact ⟨rfl, rfl⟩
end Go.Proofs.Ytjieljmlpbiidaa
