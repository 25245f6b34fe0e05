/- package row: a number and a text laid behind a row of bytes of the call's own, in place. -/
import Derived.Test.YtjieljmlpbiidaaCodePutNum
namespace Go.Proofs.Ytjieljmlpbiidaa
open Go.RowKit
/-- Below base nothing has turned, and above it nothing but rows of bytes. -/
structure OutTurned (base : Nat) (w w' : World) : Prop where
  below : Below base w w'
  other : ∀ (k : Nat) (o : Obj), w.heap[k]? = some o → (∀ cs fr, o ≠ Obj.cells cs 5 fr) → w'.heap[k]? = some o
theorem OutTurned.refl (base : Nat) (w : World) : OutTurned base w w := ⟨Below.refl _ _, fun _ _ h _ => h⟩
theorem OutTurned.trans {base : Nat} {a b c : World} (h : OutTurned base a b) (k : OutTurned base b c) : OutTurned base a c :=
  ⟨h.below.trans k.below, fun i o h1 h2 => k.other i o (h.other i o h1 h2) h2⟩
theorem OutTurned.of_below {base : Nat} {w w' : World} (hb : base ≤ w.heap.size) (h : Below w.heap.size w w') : OutTurned base w w' :=
  ⟨h.mono hb, fun _ _ h1 _ => below_heap h h1⟩
theorem OutTurned.of_grown {base n : Nat} {v : Value} {xs : List Value} {w w' : World} (hb : base ≤ w.heap.size) (h : w.ownsRow base 5 1 v n xs) (hg : w.grownBy w' v.ownBlock) : OutTurned base w w' := by
  rcases h.2 with ⟨rfl, _⟩ | ⟨g, cap, cur, rfl, h2, h3, _⟩
  · exact ⟨⟨hg.os, hg.tape, hg.output, hg.size, fun k hk => hg.block k (by omega) (fun e => by cases e)⟩, fun k o h1 _ => (hg.block k (Array.getElem?_eq_some_iff.1 h1).1 (fun e => by cases e)).trans h1⟩
  · refine ⟨⟨hg.os, hg.tape, hg.output, hg.size, fun k hk => hg.block k (by omega) (fun e => ?_)⟩, fun k o h1 h4 => (hg.block k (Array.getElem?_eq_some_iff.1 h1).1 (fun e => ?_)).trans h1⟩
    · have e2 : k = g := Option.some.inj e
      omega
    · have e2 : k = g := Option.some.inj e
      rw [e2, h3] at h1
      exact h4 _ _ (Option.some.inj h1).symm
/-- A slice of old is what it was. -/
theorem SrcAt.keep {w w' : World} {ao : Option Addr} {cap : Nat} {bs : List UInt8} {B off base : Nat} (h : SrcAt w ao cap bs B off) (hB : 0 < bs.length → B < base) (hb : Below base w w') : SrcAt w' ao cap bs B off :=
  ⟨h.le, h.top, h.src, h.bare, fun hp => Nat.lt_of_lt_of_le (h.old hp) hb.size, fun j hj => (hb.cell (hB (by omega))).trans (h.cell j hj)⟩
/-- What the three leave: a slice of the call's own with these bytes. -/
def PutTo (base : Nat) (w : World) (l : List UInt8) (e : Ending) (w' : World) : Prop :=
  ∃ v, e = .returned v ∧ w'.ownsRow base 5 1 v l.length (l.map B8) ∧ OutTurned base w w'
set_option maxRecDepth 100000 in
set_option maxHeartbeats 800000 in
theorem rowPutNumTo (base : Nat) (v : Value) (O : List UInt8) (z : Int) (w : World) (hb : base ≤ w.heap.size) (h : w.ownsRow base 5 1 v O.length (O.map B8)) (hs : O.length + 9 ≤ 225000000000000) :
    Calls Try.prog 17 #[v, .int .i64 z] w (PutTo base w (O ++ numL (clampN z))) := by
  have hl := numL_le (clampN z)
  obtain ⟨L, hL⟩ : ∃ L, L = numL (clampN z) := ⟨_, rfl⟩
  have hg : Calls Try.prog 30 #[.slice none 0 0, .int .i64 z] w fun e w' => ∃ v, e = .returned v ∧ w'.ownsRow w.heap.size 5 1 v L.length (L.map B8) ∧ Below w.heap.size w w' := by
    have h1 := putNum_any none 0 [] 0 0 z w (src_nil w) (by simp)
    rw [List.nil_append, ← hL] at h1
    exact h1
  rw [← hL] at hl ⊢
  obtain ⟨n, hn⟩ : ∃ n, n = O.length := ⟨_, rfl⟩
  rw [← hn] at h hs
  have HN := Lib.hid hn
  have HG := Lib.hid hg
  clear hL hg hn
  go_enter Try.func17, Try.ntmps17
  go_wp2_with fail
  refine HG.out.mono ?_
  rintro e w1 ⟨v1, rfl, o1, b1⟩
  obtain ⟨ao2, cap2, B2, rfl, s2, _⟩ := src_of_own o1
  have h1 := own_below h b1
  have hz := b1.size
  go_wp2_with (at_builtin; refine wpList_append_src rfl _ _ rfl base v n _ rfl h1 ao2 L.length cap2 rfl (L.map B8) (by simp) s2.bare s2.cells (B8_one _) (by omega) (by omega) ?_; intro v3 w3 hown3 hg3 hv3; clear hv3)
  go_ret
  refine ⟨_, rfl, ?_, (OutTurned.of_below hb b1).trans (OutTurned.of_grown (by omega) h1 hg3)⟩
  have h3 := hown3.out
  rw [← List.map_append, HN.out] at h3
  rw [List.length_append]
  exact h3
end Go.Proofs.Ytjieljmlpbiidaa
