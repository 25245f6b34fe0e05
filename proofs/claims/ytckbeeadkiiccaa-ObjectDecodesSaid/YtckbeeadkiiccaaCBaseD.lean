/- A region whose operations read, but for a tail of one forced order: the world keeps its name. No function of the program here. Same (the document's answer for package code) at whatever two rows. -/
import Derived.Test.YtckbeeadkiiccaaCBase
import Derived.StillTailTactics
import Derived.Sort.Walk0
import Derived.Test.YtckbeeadkiiccaaCBaseS
namespace Go.Proofs.Ytckbeeadkiiccaa
theorem wp_still_last {P : Program} {id : Nat} {Q : Exit → Act → World → Prop} {a : Act} {w w1 : World} {l : List Oper} (hw : w1 = w.drew) (n : Nat) (hm : P.follows .mixedOrders = true) (hB : Region.lexTailB .any l.toArray n = true)
    (h : wpStill P l.toArray w1 (fun a' => wpList P l.toArray Q (l.drop n) a' w1) (l.take n) a) : (Code.region id l.toArray true).wp P Q a w := by
  subst hw
  exact wp_region_still_tail n hm hB h
theorem SL_toList (l : List UInt8) : (SL l).toList = l := by
  rw [Lib.toList_data]
  rfl
end Go.Proofs.Ytckbeeadkiiccaa
namespace Go.Proofs.Ytckbeeadkiiccaa
open Go.RowKit
theorem same_any {ao bo : Option Addr} {capa capb : Nat} {l m : List UInt8} {A offa B offb : Nat} (w : World) (ha : SrcAt w ao capa l A offa) (hb : SrcAt w bo capb m B offb) :
    Calls Try.prog 17 #[.slice ao l.length capa, .slice bo m.length capb] w fun e w' => e = .returned (.bool (decide (l = m))) ∧ w' = w := by
  by_cases h : l = m
  · subst h
    rw [decide_eq_true rfl]
    exact same_true w ha hb
  · have c1 := convert_src ha
    have c2 := convert_src hb
    rw [decide_eq_false h]
    have e1 := SL_toList l
    have e2 := SL_toList m
    have hq : (l == m) = false := by simpa using h
    obtain ⟨n, hn⟩ : ∃ n, n = l.length := ⟨_, rfl⟩
    obtain ⟨k, hk⟩ : ∃ k, k = m.length := ⟨_, rfl⟩
    rw [← hn] at c1 ⊢
    rw [← hk] at c2 ⊢
    clear hn hk h
    go_enter Try.func17, Try.ntmps17
    go_wp2
    go_ret
    exact ⟨rfl, rfl⟩
end Go.Proofs.Ytckbeeadkiiccaa
