/- The walk of CodePuts. -/
import Derived.Test.YtplhcidfboaobaaAwake
import Derived.Test.YtplhcidfboaobaaRefPut
namespace Go.Proofs.Ytplhcidfboaobaa
open Go.RowKit
/-- What both Puts leave, as a source. -/
def PutsAt (w : World) (l : List UInt8) (e : Ending) (w' : World) : Prop := ∃ ao cap B, e = .returned (.slice ao l.length cap) ∧ SrcAt w' ao cap l B 0 ∧ Below w.heap.size w w'
theorem putsAt_of {w w' : World} {e : Ending} {base : Nat} {l : List UInt8} (h : ∃ v, e = .returned v ∧ w'.ownsRow base 5 1 v l.length (l.map B8) ∧ Below w.heap.size w w') : PutsAt w l e w' := by
  obtain ⟨v, rfl, ho, hb⟩ := h
  obtain ⟨ao, cap, B, rfl, hs, _⟩ := src_of_own ho
  exact ⟨ao, cap, B, rfl, hs, hb⟩
set_option maxRecDepth 100000 in
set_option maxHeartbeats 1600000 in
theorem puts_law (ao : Option Addr) (cap : Nat) (bs : List UInt8) (B off : Nat) (n : Int) (s : ByteArray) (w : World) (h : SrcAt w ao cap bs B off) (hs : bs.length + 9 + s.size ≤ 140737488355328) :
    Calls Try.prog 3 #[.slice ao bs.length cap, .int .i64 n, .string s] w fun e w' => e = .returned (.bool true) ∧ Below w.heap.size w w' := by
  have p1 : ∃ L : List UInt8, ∀ W : World, SrcAt W ao cap bs B off → (Calls Try.prog 12 #[.slice ao bs.length cap, .int .i64 n] W (PutsAt W L)) ∧ (Calls Try.prog 13 #[.slice ao bs.length cap, .int .i64 n] W (PutsAt W L)) :=
    ⟨_, fun W hW => ⟨(putNum_any ao cap bs B off n W hW (by omega)).mono fun _ _ h => putsAt_of h, (refPutNum_any ao cap bs B off n W hW (by omega)).mono fun _ _ h => putsAt_of h⟩⟩
  have p2 : ∃ L : List UInt8, ∀ W : World, SrcAt W ao cap bs B off → (Calls Try.prog 14 #[.slice ao bs.length cap, .string s] W (PutsAt W L)) ∧ (Calls Try.prog 15 #[.slice ao bs.length cap, .string s] W (PutsAt W L)) :=
    ⟨_, fun W hW => ⟨(putText_any ao cap bs B off s W hW (by omega)).mono fun _ _ h => putsAt_of h, (refPutText_any ao cap bs B off s W hW hs).mono fun _ _ h => putsAt_of h⟩⟩
  have p3 : ∃ L : List UInt8, ∀ W : World, SrcAt W ao cap bs B off → (Calls Try.prog 16 #[.slice ao bs.length cap, .int .i64 n] W (PutsAt W L)) ∧ (Calls Try.prog 17 #[.slice ao bs.length cap, .int .i64 n] W (PutsAt W L)) :=
    ⟨_, fun W hW => ⟨(putInt_any ao cap bs B off n W hW (by omega)).mono fun _ _ h => putsAt_of h, (refPutInt_any ao cap bs B off n W hW (by omega)).mono fun _ _ h => putsAt_of h⟩⟩
  obtain ⟨L1, q1⟩ := p1
  obtain ⟨L2, q2⟩ := p2
  obtain ⟨L3, q3⟩ := p3
  have P1 := Lib.hid q1
  have P2 := Lib.hid q2
  have P3 := Lib.hid q3
  clear q1 q2 q3
  go_enter Try.func3, Try.ntmps3
  go_wp2_with fail
  refine (awake_any _).mono ?_
  rintro e w1 ⟨rfl, e1⟩
  go_wp2_with fail
  refine (P1.out _ (h.below e1)).1.mono ?_
  rintro e w2 ⟨a2, k2, B2, rfl, s2, b2⟩
  have e2 := e1.trans (b2.mono e1.size)
  clear b2 e1
  go_wp2_with fail
  refine (P1.out _ (h.below e2)).2.mono ?_
  rintro e w3 ⟨a3, k3, B3, rfl, s3, b3⟩
  have e3 := e2.trans (b3.mono e2.size)
  have s2 := s2.below b3
  clear b3 e2
  go_wp2_with fail
  refine (same_true _ s2 s3).mono ?_
  rintro e x3 ⟨rfl, rfl⟩
  clear s2 s3
  go_wp2_with fail
  refine (P2.out _ (h.below e3)).1.mono ?_
  rintro e w4 ⟨a4, k4, B4, rfl, s4, b4⟩
  have e4 := e3.trans (b4.mono e3.size)
  clear b4 e3
  go_wp2_with fail
  refine (P2.out _ (h.below e4)).2.mono ?_
  rintro e w5 ⟨a5, k5, B5, rfl, s5, b5⟩
  have e5 := e4.trans (b5.mono e4.size)
  have s4 := s4.below b5
  clear b5 e4
  go_wp2_with fail
  refine (same_true _ s4 s5).mono ?_
  rintro e x5 ⟨rfl, rfl⟩
  clear s4 s5
  go_wp2_with fail
  refine (P3.out _ (h.below e5)).1.mono ?_
  rintro e w6 ⟨a6, k6, B6, rfl, s6, b6⟩
  have e6 := e5.trans (b6.mono e5.size)
  clear b6 e5
  go_wp2_with fail
  refine (P3.out _ (h.below e6)).2.mono ?_
  rintro e w7 ⟨a7, k7, B7, rfl, s7, b7⟩
  have e7 := e6.trans (b7.mono e6.size)
  have s6 := s6.below b7
  clear b7 e6
  go_wp2_with fail
  refine (same_true _ s6 s7).mono ?_
  rintro e x7 ⟨rfl, rfl⟩
  clear s6 s7
  go_wp2_with fail
  go_ret
  exact ⟨rfl, e7⟩
end Go.Proofs.Ytplhcidfboaobaa
