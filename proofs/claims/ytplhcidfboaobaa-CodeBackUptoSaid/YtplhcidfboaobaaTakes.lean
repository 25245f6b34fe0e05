/- The walk of CodeTakes. -/
import Derived.Test.YtplhcidfboaobaaAwake
import Derived.Test.YtplhcidfboaobaaRefText
namespace Go.Proofs.Ytplhcidfboaobaa
open Go.RowKit
/-- Whatever a row begins with. -/
theorem parse_cases (bs : List UInt8) : parse bs = none ∨ ∃ n rest, n ≤ 4611686018427387903 ∧ bs = numL n ++ rest := by
  cases h : parse bs with
  | none => exact .inl rfl
  | some p =>
    obtain ⟨h1, r, h2, _⟩ := parse_some (n := p.1) (k := p.2) h
    exact .inr ⟨p.1, r, h1, h2⟩
theorem text_cases (bs : List UInt8) (most : Int) : NoText bs most ∨ ∃ t rest, bs = numL t.length ++ (t ++ rest) ∧ (t.length : Int) ≤ most := by
  cases h : parse bs with
  | none => exact .inl (.inl h)
  | some p =>
    obtain ⟨h1, r, h2, h3⟩ := parse_some (n := p.1) (k := p.2) h
    have hl : bs.length = p.2 + r.length := by rw [h3, h2, List.length_append]
    by_cases hc : most < (p.1 : Int) ∨ bs.length < p.2 + p.1
    · exact .inl (.inr ⟨p.1, p.2, h, by omega, h1, hc⟩)
    · have hlen : (r.take p.1).length = p.1 := by rw [List.length_take]; omega
      refine .inr ⟨r.take p.1, r.drop p.1, ?_, by omega⟩
      rw [hlen, List.take_append_drop]
      exact h2
/-- Of what bytes begin with, the number, or none: both calls. -/
theorem both_num (bs : List UInt8) (ao : Option Addr) (cap B off : Nat) (hs : bs.length ≤ 140737488355328) :
    ∃ (n x : Int) (r : List UInt8), ∀ w : World, SrcAt w ao cap bs B off →
      (Calls Try.prog 18 #[.slice ao bs.length cap] w fun e w' => ∃ ao' cap' B' off', e = .returned (.tuple #[.int .i64 n, .slice ao' r.length cap', .int .i64 x]) ∧ SrcAt w' ao' cap' r B' off' ∧ Below w.heap.size w w') ∧
      (Calls Try.prog 19 #[.slice ao bs.length cap] w fun e w' => ∃ ao' cap' B' off', e = .returned (.tuple #[.int .i64 n, .slice ao' r.length cap', .int .i64 x]) ∧ SrcAt w' ao' cap' r B' off' ∧ Below w.heap.size w w') := by
  rcases parse_cases bs with h | ⟨n, r, hn, he⟩
  · refine ⟨0, 2, [], fun w hw => ⟨?_, ?_⟩⟩
    · exact (takeNum_no ao cap bs B off w hw (by omega) h).mono fun e w' ⟨h1, h2⟩ => ⟨none, 0, 0, 0, h1, src_nil _, by rw [h2]; exact Below.refl _ _⟩
    · exact (refTakeNum_no ao cap bs B off w hw hs h).mono fun e w' ⟨h1, h2⟩ => ⟨none, 0, 0, 0, h1, src_nil _, h2⟩
  · refine ⟨n, 0, r, fun w hw => ⟨?_, ?_⟩⟩
    · exact (takeNum_yes ao cap bs B off w hw hs n r hn he).mono fun e w' ⟨a, c, b, h1, h2, h3⟩ => ⟨a, c, b, 0, h1, h2, h3⟩
    · exact (refTakeNum_yes ao cap bs B off w hw hs n r hn he).mono fun e w' ⟨a, c, b, h1, h2, h3⟩ => ⟨a, c, b, 0, h1, h2, h3⟩
theorem both_int (bs : List UInt8) (ao : Option Addr) (cap B off : Nat) (hs : bs.length ≤ 140737488355328) :
    ∃ (n x : Int) (r : List UInt8), ∀ w : World, SrcAt w ao cap bs B off →
      (Calls Try.prog 22 #[.slice ao bs.length cap] w fun e w' => ∃ ao' cap' B' off', e = .returned (.tuple #[.int .i64 n, .slice ao' r.length cap', .int .i64 x]) ∧ SrcAt w' ao' cap' r B' off' ∧ Below w.heap.size w w') ∧
      (Calls Try.prog 23 #[.slice ao bs.length cap] w fun e w' => ∃ ao' cap' B' off', e = .returned (.tuple #[.int .i64 n, .slice ao' r.length cap', .int .i64 x]) ∧ SrcAt w' ao' cap' r B' off' ∧ Below w.heap.size w w') := by
  rcases parse_cases bs with h | ⟨n, r, hn, he⟩
  · refine ⟨0, 2, [], fun w hw => ⟨?_, ?_⟩⟩
    · exact (takeInt_no ao cap bs B off w hw (by omega) h).mono fun e w' ⟨h1, h2⟩ => ⟨none, 0, 0, 0, h1, src_nil _, by rw [h2]; exact Below.refl _ _⟩
    · exact (refTakeInt_no ao cap bs B off w hw hs h).mono fun e w' ⟨h1, h2⟩ => ⟨none, 0, 0, 0, h1, src_nil _, h2⟩
  · refine ⟨unzig n, 0, r, fun w hw => ⟨?_, ?_⟩⟩
    · exact (takeInt_yes ao cap bs B off w hw hs n r hn he).mono fun e w' ⟨a, c, b, h1, h2, h3⟩ => ⟨a, c, b, 0, h1, h2, h3⟩
    · exact (refTakeInt_yes ao cap bs B off w hw hs n r hn he).mono fun e w' ⟨a, c, b, h1, h2, h3⟩ => ⟨a, c, b, 0, h1, h2, h3⟩
theorem both_text (bs : List UInt8) (most : Int) (ao : Option Addr) (cap B off : Nat) (hs : bs.length ≤ 140737488355328) :
    ∃ (s : ByteArray) (x : Int) (r : List UInt8), ∀ w : World, SrcAt w ao cap bs B off →
      (Calls Try.prog 20 #[.slice ao bs.length cap, .int .i64 most] w fun e w' => ∃ ao' cap' B' off', e = .returned (.tuple #[.string s, .slice ao' r.length cap', .int .i64 x]) ∧ SrcAt w' ao' cap' r B' off' ∧ Below w.heap.size w w') ∧
      (Calls Try.prog 21 #[.slice ao bs.length cap, .int .i64 most] w fun e w' => ∃ ao' cap' B' off', e = .returned (.tuple #[.string s, .slice ao' r.length cap', .int .i64 x]) ∧ SrcAt w' ao' cap' r B' off' ∧ Below w.heap.size w w') := by
  rcases text_cases bs most with h | ⟨t, r, he, hm⟩
  · refine ⟨SL [], 2, [], fun w hw => ⟨?_, ?_⟩⟩
    · exact (takeText_no ao cap bs B off most w hw (by omega) h).mono fun e w' ⟨h1, h2⟩ => ⟨none, 0, 0, 0, h1, src_nil _, by rw [h2]; exact Below.refl _ _⟩
    · exact (refTakeText_no ao cap bs B off most w hw hs h).mono fun e w' ⟨h1, h2⟩ => ⟨none, 0, 0, 0, h1, src_nil _, h2⟩
  · refine ⟨SL t, 0, r, fun w hw => ⟨?_, ?_⟩⟩
    · exact (takeText_yes ao cap bs B off most w hw hs t r he hm).mono fun e w' ⟨a, c, b, h1, h2, h3⟩ => ⟨a, c, b, 0, h1, h2, h3⟩
    · exact refTakeText_yes ao cap bs B off most w hw hs t r he hm
set_option maxRecDepth 100000 in
set_option maxHeartbeats 1600000 in
theorem takes_law (ao : Option Addr) (cap : Nat) (bs : List UInt8) (B off : Nat) (most : Int) (w : World) (h : SrcAt w ao cap bs B off) (hs : bs.length ≤ 140737488355328) :
    Calls Try.prog 4 #[.slice ao bs.length cap, .int .i64 most] w fun e w' => e = .returned (.bool true) ∧ Below w.heap.size w w' := by
  obtain ⟨n, x, p, hnum⟩ := both_num bs ao cap B off hs
  obtain ⟨t, y, q, htext⟩ := both_text bs most ao cap B off hs
  obtain ⟨i, z, r, hint⟩ := both_int bs ao cap B off hs
  have HN := Lib.hid hnum
  have HT := Lib.hid htext
  have HI := Lib.hid hint
  clear hnum htext hint
  go_enter Try.func4, Try.ntmps4
  go_wp2_with fail
  refine (awake_any _).mono ?_
  rintro e w1 ⟨rfl, b1⟩
  go_wp2_with fail
  refine (HN.out _ (h.below b1)).1.mono ?_
  rintro e w2 ⟨a2, k2, B2, o2, rfl, s2, b2⟩
  have e2 := b1.trans (b2.mono b1.size)
  clear b1 b2
  go_wp2_with fail
  refine (HN.out _ (h.below e2)).2.mono ?_
  rintro e w3 ⟨a3, k3, B3, o3, rfl, s3, b3⟩
  have e3 := e2.trans (b3.mono e2.size)
  have s2 := s2.below b3
  clear b3 e2
  go_wp2_with fail
  refine (HT.out _ (h.below e3)).1.mono ?_
  rintro e w4 ⟨a4, k4, B4, o4, rfl, s4, b4⟩
  have e4 := e3.trans (b4.mono e3.size)
  have s2 := s2.below b4
  have s3 := s3.below b4
  clear b4 e3
  go_wp2_with fail
  refine (HT.out _ (h.below e4)).2.mono ?_
  rintro e w5 ⟨a5, k5, B5, o5, rfl, s5, b5⟩
  have e5 := e4.trans (b5.mono e4.size)
  have s2 := s2.below b5
  have s3 := s3.below b5
  have s4 := s4.below b5
  clear b5 e4
  go_wp2_with fail
  refine (HI.out _ (h.below e5)).1.mono ?_
  rintro e w6 ⟨a6, k6, B6, o6, rfl, s6, b6⟩
  have e6 := e5.trans (b6.mono e5.size)
  have s2 := s2.below b6
  have s3 := s3.below b6
  have s4 := s4.below b6
  have s5 := s5.below b6
  clear b6 e5
  go_wp2_with fail
  refine (HI.out _ (h.below e6)).2.mono ?_
  rintro e w7 ⟨a7, k7, B7, o7, rfl, s7, b7⟩
  have e7 := e6.trans (b7.mono e6.size)
  have s2 := s2.below b7
  have s3 := s3.below b7
  have s4 := s4.below b7
  have s5 := s5.below b7
  have s6 := s6.below b7
  clear b7 e6
  go_wp2_with fail
  refine (same_true _ s2 s3).mono ?_
  rintro e w8 ⟨rfl, rfl⟩
  go_wp2_with fail
  refine (same_true _ s4 s5).mono ?_
  rintro e w8 ⟨rfl, rfl⟩
  go_wp2_with fail
  refine (same_true _ s6 s7).mono ?_
  rintro e w8 ⟨rfl, rfl⟩
  go_wp2_with fail
  go_ret
  exact ⟨rfl, e7⟩
end Go.Proofs.Ytplhcidfboaobaa
