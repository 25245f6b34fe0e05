/- What Press keeps: the places, from round to round; the walk of add where nothing is to be taken in. -/
import Derived.Test.YtjieljmlpbiidaaPressZero
import Derived.Test.YtjieljmlpbiidaaPressPutTo
namespace Go.Proofs.Ytjieljmlpbiidaa
open Go.RowKit
def Placed (w : World) (bs : List UInt8) (pb mb j : Nat) : Prop :=
  ∃ (D : DataW Unit) (tab : Nat → Int) (n : Nat), TabAt w pb mb tab ∧ MapAt w mb n D ∧ n ≤ j ∧ (j + 4 ≤ bs.length → NearIs D bs j ∧ BackIs tab bs j)
theorem map_of_heap {w w' : World} {mb n : Nat} {D : DataW Unit} (h : MapAt w mb n D) (hw : w'.heap[mb]? = w.heap[mb]?) : MapAt w' mb n D := by
  obtain ⟨es, clock, h1, h2⟩ := h
  exact ⟨es, clock, hw.trans h1, h2⟩
theorem Placed.out {w w' : World} {bs : List UInt8} {pb mb j base : Nat} (h : Placed w bs pb mb j) (ho : OutTurned base w w') : Placed w' bs pb mb j := by
  obtain ⟨D, tab, n, ⟨C, h1, h1'⟩, ⟨es, clock, h2, h2'⟩, h3, h4⟩ := h
  exact ⟨D, tab, n, ⟨C, ho.other _ _ h1 (fun cs fr e => by cases e), h1'⟩, ⟨es, clock, ho.other _ _ h2 (fun cs fr e => by cases e), h2'⟩, h3, h4⟩
theorem Placed.below {w w' : World} {bs : List UInt8} {pb mb j : Nat} (h : Placed w bs pb mb j) (hb : Below w.heap.size w w') : Placed w' bs pb mb j := h.out (OutTurned.of_below (Nat.le_refl _) hb)
/-- A row of bytes of the call's own is none of the places' blocks. -/
theorem own_but2 {w w' : World} {bs : List UInt8} {pb mb j base n : Nat} {v : Value} {xs : List Value} (h : w.ownsRow base 5 1 v n xs) (hp : Placed w bs pb mb j) (hb : But2 w w' pb mb) : w'.ownsRow base 5 1 v n xs := by
  obtain ⟨D, tab, n', ⟨C, h1, _⟩, ⟨es, clock, h2, _⟩, _, _⟩ := hp
  refine ⟨h.1, ?_⟩
  rcases h.2 with h4 | ⟨g, cap, cur, h4, h6, h7, h5⟩
  · exact .inl h4
  · refine .inr ⟨g, cap, cur, h4, h6, (hb.block g (Array.getElem?_eq_some_iff.1 h7).1 (fun e => ?_) (fun e => ?_)).trans h7, h5⟩
    · rw [e, h1] at h7; cases h7
    · rw [e, h2] at h7; cases h7
/-- What a step of add leaves. -/
def Stepped (w : World) (bs : List UInt8) (pb mb j : Nat) (w' : World) : Prop := Placed w' bs pb mb (j + 1) ∧ But2 w w' pb mb
set_option maxRecDepth 100000 in
set_option maxHeartbeats 800000 in
theorem add_step (ao : Option Addr) (cap : Nat) (bs : List UInt8) (B off : Nat) (j pb mb : Nat) (w : World) (h : SrcAt w ao cap bs B off) (hs : bs.length ≤ 281474976710656) (hj : j < bs.length) (hp : Placed w bs pb mb j) (hB : B < pb) (hB2 : B < mb) (hm : j + 1 < maxLen) :
    Calls Try.prog 21 #[.pointer (some ⟨pb, 0, none⟩), .slice ao bs.length cap, .int .i64 (j : Int)] w fun e w' => e = .returned (.tuple #[]) ∧ Stepped w bs pb mb j w' := by
  obtain ⟨D, tab, n, t1, m1, hn, h4⟩ := hp
  by_cases hi : j + 4 ≤ bs.length
  · obtain ⟨h5, h6⟩ := h4 hi
    refine (add_any ao cap bs B off j pb mb n D tab w h hs hi t1 m1 h5 h6 (by omega) (by omega) (by omega)).mono fun e w' ⟨he, D', tab', t2, m2, n2, b2, u2⟩ => ?_
    exact ⟨he, ⟨D', tab', n + 1, t2, m2, by omega, fun _ => ⟨n2, b2⟩⟩, u2⟩
  · have hpost : Stepped w bs pb mb j w := ⟨⟨D, tab, n, t1, m1, by omega, fun hh => absurd hh (by omega)⟩, But2.refl _ _ _⟩
    have HP := Lib.hid hpost
    obtain ⟨N, hN⟩ : ∃ N, N = bs.length := ⟨_, rfl⟩
    rw [← hN] at hs hj hi ⊢
    have hlt : decide ((N : Int) < (j : Int) + 4) = true := by simp; omega
    clear h4 hN hpost
    go_enter Try.func21, Try.ntmps21
    go_wp2
    refine bodyPost_ret (results_none Try.results21 _ _ _) rfl ?_
    exact ⟨rfl, HP.out⟩
end Go.Proofs.Ytjieljmlpbiidaa
