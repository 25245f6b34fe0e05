/- The walk of TakeText. -/
import Derived.Test.YtplhcidfboaobaaTake
namespace Go.Proofs.Ytplhcidfboaobaa
open Go.RowKit
/-- Bytes that begin with no text of at most most bytes. -/
def NoText (bs : List UInt8) (most : Int) : Prop := parse bs = none ∨ ∃ n k, parse bs = some (n, k) ∧ k ≤ bs.length ∧ n ≤ 4611686018427387903 ∧ (most < (n : Int) ∨ bs.length < k + n)
set_option maxRecDepth 100000 in
set_option maxHeartbeats 800000 in
theorem takeText_no (ao : Option Addr) (cap : Nat) (bs : List UInt8) (B off : Nat) (most : Int) (w : World) (h : SrcAt w ao cap bs B off) (hs : bs.length ≤ 281474976710656) (hp : NoText bs most) :
    Calls Try.prog 20 #[.slice ao bs.length cap, .int .i64 most] w fun e w' => e = .returned (.tuple #[.string (SL []), .slice none 0 0, .int .i64 2]) ∧ w' = w := by
  have hnum := number_any ao cap bs B off w h hs
  rcases hp with hp | ⟨n, k, hp, hk, hn, hc⟩
  · rw [numV_none hp] at hnum
    have HN := Lib.hid hnum
    clear hnum hp
    go_enter Try.func20, Try.ntmps20
    go_wp2_with fail
    refine HN.out.mono ?_
    rintro e w1 ⟨rfl, rfl⟩
    go_wp2_with fail
    go_ret3
    exact ⟨rfl, rfl⟩
  · have hkp : 0 < k := by
      obtain ⟨_, r, _, e⟩ := parse_some hp
      rw [e]; exact numL_pos n
    rw [numV_some hp] at hnum
    have HN := Lib.hid hnum
    have b0 : ((k : Int) == 0) = false := by simp; omega
    have hnb : (n : Int) ≤ 4611686018427387903 := by omega
    clear hnum hp hn
    by_cases hm : most < (n : Int)
    · clear hc
      go_enter Try.func20, Try.ntmps20
      go_wp2_with fail
      refine HN.out.mono ?_
      rintro e w1 ⟨rfl, rfl⟩
      go_wp2_with fail
      go_ret3
      exact ⟨rfl, rfl⟩
    · have hc2 : bs.length < k + n := by rcases hc with h1 | h1 <;> omega
      clear hc
      go_enter Try.func20, Try.ntmps20
      go_wp2_with fail
      refine HN.out.mono ?_
      rintro e w1 ⟨rfl, rfl⟩
      go_wp2_with fail
      go_ret3
      exact ⟨rfl, rfl⟩
set_option maxRecDepth 100000 in
set_option maxHeartbeats 800000 in
theorem takeText_yes (ao : Option Addr) (cap : Nat) (bs : List UInt8) (B off : Nat) (most : Int) (w : World) (h : SrcAt w ao cap bs B off) (hs : bs.length ≤ 140737488355328) (t rest : List UInt8) (he : bs = numL t.length ++ (t ++ rest)) (hm : (t.length : Int) ≤ most) :
    Calls Try.prog 20 #[.slice ao bs.length cap, .int .i64 most] w fun e w' => ∃ ao' cap' B', e = .returned (.tuple #[.string (SL t), .slice ao' rest.length cap', .int .i64 0]) ∧ SrcAt w' ao' cap' rest B' 0 ∧ Below w.heap.size w w' := by
  have hbl : bs.length = (numL t.length).length + (t.length + rest.length) := by rw [he]; simp
  have hp := parse_numL t.length (t ++ rest) (by omega)
  rw [← he] at hp
  obtain ⟨k, hk⟩ : ∃ k, k = (numL t.length).length := ⟨_, rfl⟩
  obtain ⟨n, hn⟩ : ∃ n, n = t.length := ⟨_, rfl⟩
  obtain ⟨r, hr⟩ : ∃ r, r = rest.length := ⟨_, rfl⟩
  have hnum := number_any ao cap bs B off w h (by omega)
  rw [← hk, ← hn] at hp
  rw [numV_some hp] at hnum
  have hkp : 0 < k := by rw [hk]; exact numL_pos _
  rw [← hk, ← hn, ← hr] at hbl
  have e1 : bs.drop k = t ++ rest := by rw [he, hk, List.drop_left]
  have e2 : bs.drop (k + n) = rest := by rw [← List.drop_drop, e1, hn, List.drop_left]
  have e3 : (bs.drop k).take n = t := by rw [e1, hn, List.take_left]
  obtain ⟨ao2, hsl2, hs2⟩ := h.slice_lh k n (by omega)
  obtain ⟨ao3, hsl3, hs3⟩ := h.slice_l (k + n) (by omega)
  rw [e3] at hs2
  rw [e2] at hs3
  have hkn : ((k + n : Nat) : Int) = (k : Int) + (n : Int) := by omega
  rw [hkn] at hsl3
  have hrl : bs.length - (k + n) = r := by omega
  have hcv : ∀ W' : World, Below w.heap.size w W' → (convert 22 9 (.slice ao2 n (cap - k))).run Try.prog W' = .ok (.string (SL t)) W' := fun W' hb => by
    have h1 := convert_src (hs2.below hb)
    rw [← hn] at h1
    exact h1
  have hcl : ∀ W' : World, Below w.heap.size w W' → Calls Try.prog 28 #[.slice ao3 r (cap - (k + n))] W' fun e w' => ∃ ao' cap' B', e = .returned (.slice ao' r cap') ∧ SrcAt w' ao' cap' rest B' 0 ∧ Below W'.heap.size W' w' := fun W' hb => by
    have h1 := clone_any ao3 (cap - (k + n)) rest B (off + (k + n)) W' (hs3.below hb) (by omega)
    rw [← hr] at h1
    refine h1.mono fun e w' ⟨v, hv, ho, hb'⟩ => ?_
    rw [hr] at ho
    obtain ⟨a4, c4, B4, rfl, s4, _⟩ := src_of_own ho
    exact ⟨a4, c4, B4, by rw [hv, hr], s4, hb'⟩
  have b0 : ((k : Int) == 0) = false := by simp; omega
  have hle : k + n ≤ bs.length := by omega
  rw [hrl] at hsl3
  rw [← hn] at hm
  rw [← hr]
  have HN := Lib.hid hnum
  have HC := Lib.hid hcl
  have HV := Lib.hid hcv
  clear hnum hp hk hn hr e1 e2 e3 hs2 hs3 hkn hrl hcl hcv he hbl
  go_enter Try.func20, Try.ntmps20
  go_wp2_with fail
  refine HN.out.mono ?_
  rintro e w1 ⟨rfl, rfl⟩
  go_wp2_with fail
  have bd : Below w1.heap.size w1 w1.drew := (Below.refl _ _).drew
  have cv0 := HV.out _ bd
  have ew : IntKind.i64.wrap ((k : Int) + (n : Int)) = (k : Int) + (n : Int) := IntWalk.i64_in _ (by omega)
  go_region_with (go_at_call 28; refine (HC.out _ bd).mono ?_; rintro e w2 ⟨ao4, cap4, B4, rfl, s4, b4⟩; have b5 := bd.trans (b4.mono bd.size); have cv1 := HV.out _ b5)
  all_goals go_wp2
  all_goals go_ret3
  all_goals exact ⟨ao4, cap4, B4, rfl, s4, b5⟩
end Go.Proofs.Ytplhcidfboaobaa
