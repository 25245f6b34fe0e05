/- The document's Same of any two objects. -/
import Derived.Test.YtckbeeadkiiccaaCSameT
import Derived.Test.YtckbeeadkiiccaaCSameA
import Derived.Test.YtckbeeadkiiccaaCSameB
namespace Go.Proofs.Ytckbeeadkiiccaa
open Go.RowKit
theorem refSame_ne (F G : Nat → Prop) (o p : ObjR) (dv ev uv dv' ev' uv' : Value) (w : World) (h : ObjIn w F o dv ev uv) (h' : ObjIn w G p dv' ev' uv') (hl2 : o.ents.length ≤ 9223372036854775807) (hl3 : o.ups.length ≤ 9223372036854775807) (hne : ¬ o = p) :
    Calls Try.prog 24 #[objV o dv ev uv, objV p dv' ev' uv'] w fun e w' => e = .returned (.bool false) ∧ Below w.heap.size w w' := by
  by_cases e0 : o.kind = p.kind
  · by_cases e1 : o.data = p.data
    · by_cases e2 : o.ents.length = p.ents.length
      · by_cases e3 : o.tree = p.tree
        · by_cases e4 : o.ups = p.ups
          · by_cases e5 : o.target = p.target
            · by_cases e6 : o.name = p.name
              · by_cases e7 : o.who = p.who
                · by_cases e8 : o.stamp = p.stamp
                  · by_cases e9 : o.text = p.text
                    · refine refSame_10 F G o p dv ev uv dv' ev' uv' w h h' hl2 hl3 e0 e1 e3 e4 e5 e6 e7 e8 e9 e2 (fun e10 => hne ?_)
                      cases o
                      cases p
                      simp only at e0 e1 e3 e4 e5 e6 e7 e8 e9 e10
                      subst e0 e1 e3 e4 e5 e6 e7 e8 e9 e10
                      rfl
                    · exact refSame_9 F G o p dv ev uv dv' ev' uv' w h h' hl3 e0 e1 e3 e4 e5 e6 e7 e8 e2 e9
                  · exact refSame_8 F G o p dv ev uv dv' ev' uv' w h h' hl3 e0 e1 e3 e4 e5 e6 e7 e2 e8
                · exact refSame_7 F G o p dv ev uv dv' ev' uv' w h h' hl3 e0 e1 e3 e4 e5 e6 e2 e7
              · exact refSame_6 F G o p dv ev uv dv' ev' uv' w h h' hl3 e0 e1 e3 e4 e5 e2 e6
            · exact refSame_5 F G o p dv ev uv dv' ev' uv' w h h' hl3 e0 e1 e3 e4 e2 e5
          · exact refSame_4 F G o p dv ev uv dv' ev' uv' w h h' hl3 e0 e1 e3 e2 e4
        · exact refSame_3 F G o p dv ev uv dv' ev' uv' w h h' e0 e1 e2 e3
      · exact refSame_2 F G o p dv ev uv dv' ev' uv' w h h' e0 e1 e2
    · exact refSame_1 F G o p dv ev uv dv' ev' uv' w h h' e0 e1
  · exact refSame_0 F G o p dv ev uv dv' ev' uv' w h h' e0
theorem refSame_any (F G : Nat → Prop) (o p : ObjR) (dv ev uv dv' ev' uv' : Value) (w : World) (h : ObjIn w F o dv ev uv) (h' : ObjIn w G p dv' ev' uv') (hl2 : o.ents.length ≤ 9223372036854775807) (hl3 : o.ups.length ≤ 9223372036854775807) :
    Calls Try.prog 24 #[objV o dv ev uv, objV p dv' ev' uv'] w fun e w' => ∃ r : Bool, e = .returned (.bool r) ∧ (r = true ↔ o = p) ∧ Below w.heap.size w w' := by
  by_cases hop : o = p
  · subst hop
    refine (refSame_eq F G o dv ev uv dv' ev' uv' w h h' hl2 hl3).mono ?_
    rintro e w' ⟨he, hb⟩
    exact ⟨true, he, by simp, hb⟩
  · refine (refSame_ne F G o p dv ev uv dv' ev' uv' w h h' hl2 hl3 hop).mono ?_
    rintro e w' ⟨he, hb⟩
    exact ⟨false, he, by simp [hop], hb⟩
end Go.Proofs.Ytckbeeadkiiccaa
