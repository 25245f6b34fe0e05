/- The walks of putNum, putRun, putCopy. -/
import Derived.Test.YtngmcndcfkflfaaPure2
import Derived.Test.YtngmcndcfkflfaaCodePutNum
namespace Go.Proofs.Ytngmcndcfkflfaa
open Go.RowKit
/-- Below base nothing has turned, and above it nothing but rows of bytes. -/
structure OutTurned (base : Nat) (w w' : World) : Prop where
  below : Below base w w'
  other : ∀ (k : Nat) (o : Obj), w.heap[k]? = some o → (∀ cs fr, o ≠ Obj.cells cs 5 fr) → w'.heap[k]? = some o
theorem OutTurned.refl (base : Nat) (w : World) : OutTurned base w w := ⟨Below.refl _ _, fun _ _ h _ => h⟩
theorem OutTurned.trans {base : Nat} {a b c : World} (h : OutTurned base a b) (k : OutTurned base b c) : OutTurned base a c :=
  ⟨h.below.trans k.below, fun i o h1 h2 => k.other i o (h.other i o h1 h2) h2⟩
theorem OutTurned.of_below {base : Nat} {w w' : World} (hb : base ≤ w.heap.size) (h : Below w.heap.size w w') : OutTurned base w w' :=
  ⟨h.mono hb, fun _ _ h1 _ => below_heap h h1⟩
theorem OutTurned.of_grown {base n : Nat} {v : Value} {xs : List Value} {w w' : World} (hb : base ≤ w.heap.size) (h : w.ownsRow base 5 1 v n xs) (hg : w.grownBy w' v.ownBlock) : OutTurned base w w' := by
  rcases h.2 with ⟨rfl, _⟩ | ⟨g, cap, cur, rfl, h2, h3, _⟩
  · exact ⟨⟨hg.os, hg.tape, hg.output, hg.size, fun k hk => hg.block k (by omega) (fun e => by cases e)⟩, fun k o h1 _ => (hg.block k (Array.getElem?_eq_some_iff.1 h1).1 (fun e => by cases e)).trans h1⟩
  · refine ⟨⟨hg.os, hg.tape, hg.output, hg.size, fun k hk => hg.block k (by omega) (fun e => ?_)⟩, fun k o h1 h4 => (hg.block k (Array.getElem?_eq_some_iff.1 h1).1 (fun e => ?_)).trans h1⟩
    · have e2 : k = g := Option.some.inj e
      omega
    · have e2 : k = g := Option.some.inj e
      rw [e2, h3] at h1
      exact h4 _ _ (Option.some.inj h1).symm
/-- A slice of old is what it was. -/
theorem SrcAt.keep {w w' : World} {ao : Option Addr} {cap : Nat} {bs : List UInt8} {B off base : Nat} (h : SrcAt w ao cap bs B off) (hB : 0 < bs.length → B < base) (hb : Below base w w') : SrcAt w' ao cap bs B off :=
  ⟨h.le, h.top, h.src, h.bare, fun hp => Nat.lt_of_lt_of_le (h.old hp) hb.size, fun j hj => (hb.cell (hB (by omega))).trans (h.cell j hj)⟩
/-- What the three leave: a slice of the call's own with these bytes. -/
def PutTo (base : Nat) (w : World) (l : List UInt8) (e : Ending) (w' : World) : Prop :=
  ∃ v, e = .returned v ∧ w'.ownsRow base 5 1 v l.length (l.map B8) ∧ OutTurned base w w'
set_option maxRecDepth 100000 in
set_option maxHeartbeats 800000 in
theorem putNumTo (base : Nat) (v : Value) (O : List UInt8) (z : Int) (w : World) (hb : base ≤ w.heap.size) (h : w.ownsRow base 5 1 v O.length (O.map B8)) (hs : O.length + 9 ≤ 225000000000000) :
    Calls Try.prog 33 #[v, .int .i64 z] w (PutTo base w (O ++ numL (clampN z))) := by
  have hl := numL_le (clampN z)
  obtain ⟨L, hL⟩ : ∃ L, L = numL (clampN z) := ⟨_, rfl⟩
  have hg : Calls Try.prog 17 #[.slice none 0 0, .int .i64 z] w fun e w' => ∃ v, e = .returned v ∧ w'.ownsRow w.heap.size 5 1 v L.length (L.map B8) ∧ Below w.heap.size w w' := by
    have h1 := putNum_any none 0 [] 0 0 z w (src_nil w) (by simp)
    rw [List.nil_append, ← hL] at h1
    exact h1
  rw [← hL] at hl ⊢
  obtain ⟨n, hn⟩ : ∃ n, n = O.length := ⟨_, rfl⟩
  rw [← hn] at h hs
  have HN := Lib.hid hn
  have HG := Lib.hid hg
  clear hL hg hn
  go_enter Try.func33, Try.ntmps33
  go_wp2_with fail
  refine HG.out.mono ?_
  rintro e w1 ⟨v1, rfl, o1, b1⟩
  obtain ⟨ao2, cap2, B2, rfl, s2, _⟩ := src_of_own o1
  have h1 := own_below h b1
  have hz := b1.size
  go_wp2_with (at_builtin; refine wpList_append_src rfl _ _ rfl base v n _ rfl h1 ao2 L.length cap2 rfl (L.map B8) (by simp) s2.bare s2.cells (B8_one _) (by omega) (by omega) ?_; intro v3 w3 hown3 hg3 hv3; clear hv3)
  go_ret
  refine ⟨_, rfl, ?_, (OutTurned.of_below hb b1).trans (OutTurned.of_grown (by omega) h1 hg3)⟩
  have h3 := hown3.out
  rw [← List.map_append, HN.out] at h3
  rw [List.length_append]
  exact h3
theorem clampN_run {n : Nat} (h0 : 0 < n) (h : n ≤ 281474976710656) : clampN (2 * ((n : Int) - 1)) = 2 * (n - 1) := by
  have e : 2 * ((n : Int) - 1) = ((2 * (n - 1) : Nat) : Int) := by omega
  rw [e, clampN_nat _ (by omega)]
set_option maxRecDepth 100000 in
set_option maxHeartbeats 800000 in
theorem putRunTo (base : Nat) (v : Value) (O : List UInt8) (ao : Option Addr) (cap : Nat) (r : List UInt8) (B off : Nat) (w : World) (hb : base ≤ w.heap.size) (h : w.ownsRow base 5 1 v O.length (O.map B8)) (hr : SrcAt w ao cap r B off) (hB : 0 < r.length → B < base) (hs : O.length + 9 + r.length ≤ 225000000000000) :
    Calls Try.prog 19 #[v, .slice ao r.length cap] w (PutTo base w (O ++ runT r)) := by
  by_cases h0 : r.length = 0
  · have e : runT r = [] := by rw [runT, if_pos h0]
    rw [e, List.append_nil, h0]
    go_enter Try.func19, Try.ntmps19
    go_wp2
    go_ret
    exact ⟨_, rfl, h, OutTurned.refl _ _⟩
  · have hput := putNumTo base v O (2 * ((r.length : Int) - 1)) w hb h (by omega)
    rw [clampN_run (by omega) (by omega)] at hput
    have hl := numL_le (2 * (r.length - 1))
    rw [runT_pos (by omega)]
    obtain ⟨L, hL⟩ : ∃ L, L = numL (2 * (r.length - 1)) := ⟨_, rfl⟩
    rw [← hL] at hput hl ⊢
    obtain ⟨n, hn⟩ : ∃ n, n = r.length := ⟨_, rfl⟩
    rw [← hn] at hput hs h0 ⊢
    have HP := Lib.hid hput
    have HN := Lib.hid hn
    have hq : ((n : Int) == 0) = false := by simp; omega
    clear hput hL hn h
    go_enter Try.func19, Try.ntmps19
    go_wp2_with fail
    refine HP.out.mono ?_
    rintro e w1 ⟨v1, rfl, o1, t1⟩
    have hz := t1.below.size
    have r1 := hr.keep hB t1.below
    obtain ⟨m, hm⟩ : ∃ m, m = (O ++ L).length := ⟨_, rfl⟩
    have hml : m ≤ O.length + 9 := by rw [hm, List.length_append]; omega
    rw [← hm] at o1
    have HM := Lib.hid hm
    clear hm
    go_wp2_with (at_builtin; refine wpList_append_src rfl _ _ rfl base v1 m _ rfl o1 ao n cap rfl (r.map B8) (by rw [List.length_map]; exact HN.out.symm) (fun hh => by rw [HN.out]; exact r1.bare hh) r1.cells (B8_one _) (by omega) (by omega) ?_; intro v3 w3 hown3 hg3 hv3; clear hv3)
    go_ret
    refine ⟨_, rfl, ?_, t1.trans (OutTurned.of_grown (by omega) o1 hg3)⟩
    have h3 := hown3.out
    rw [← List.map_append, HM.out, HN.out, ← List.length_append, List.append_assoc] at h3
    exact h3
set_option maxRecDepth 100000 in
set_option maxHeartbeats 800000 in
theorem putCopyTo (base : Nat) (v : Value) (O : List UInt8) (n d : Nat) (w : World) (hb : base ≤ w.heap.size) (h : w.ownsRow base 5 1 v O.length (O.map B8)) (h4 : 4 ≤ n) (hn : n ≤ 259) (hd : d ≤ 4096) (hs : O.length + 18 ≤ 225000000000000) :
    Calls Try.prog 20 #[v, .int .i64 (n : Int), .int .i64 (d : Int)] w (PutTo base w (O ++ (numL (2 * (n - 4) + 1) ++ numL d))) := by
  have hl := numL_le (2 * (n - 4) + 1)
  have p1 := putNumTo base v O (2 * ((n : Int) - 4) + 1) w hb h (by omega)
  have e1 : 2 * ((n : Int) - 4) + 1 = ((2 * (n - 4) + 1 : Nat) : Int) := by omega
  have e2 : clampN (2 * ((n : Int) - 4) + 1) = 2 * (n - 4) + 1 := by rw [e1, clampN_nat _ (by omega)]
  rw [e2] at p1
  have hd0 : clampN (d : Int) = d := clampN_nat d (by omega)
  obtain ⟨L, hL⟩ : ∃ L, L = numL (2 * (n - 4) + 1) := ⟨_, rfl⟩
  rw [← hL] at p1 hl ⊢
  have P1 := Lib.hid p1
  have HD := Lib.hid hd0
  have hlo : (4 : Int) ≤ (n : Int) := by omega
  have hhi : (n : Int) ≤ 259 := by omega
  clear p1 e1 e2 hL hd0
  go_enter Try.func20, Try.ntmps20
  go_wp2_with fail
  refine P1.out.mono ?_
  rintro e w1 ⟨v1, rfl, o1, t1⟩
  have hz := t1.below.size
  go_wp2_with fail
  refine (putNumTo base v1 (O ++ L) (d : Int) w1 (by omega) o1 (by rw [List.length_append]; omega)).mono ?_
  rintro e w2 ⟨v2, rfl, o2, t2⟩
  rw [HD.out] at o2
  clear o1
  go_wp2_with fail
  go_ret
  rw [List.append_assoc] at o2
  exact ⟨_, rfl, o2, t1.trans t2⟩
end Go.Proofs.Ytngmcndcfkflfaa
