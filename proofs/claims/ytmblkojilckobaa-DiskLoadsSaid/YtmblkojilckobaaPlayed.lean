/- played of the laws: a disk that a script was done to. -/
import Derived.Test.YtmblkojilckobaaScript
import Derived.Test.YtmblkojilckobaaAwake
namespace Go.Proofs.Ytmblkojilckobaa
open Go.RowKit
theorem and20 (c : Int) : ∃ v : Nat, v ≤ 1048575 ∧ bits BinOp.and IntKind.i64 c 1048575 = (v : Int) := by
  have hw : bits .and .i64 c 1048575 = IntKind.i64.wrap (((BitVec.ofInt 64 c) &&& (BitVec.ofInt 64 1048575)).toNat : Int) := rfl
  have hle : ((BitVec.ofInt 64 c) &&& (BitVec.ofInt 64 1048575)).toNat ≤ 1048575 := by
    rw [BitVec.toNat_and]
    exact Nat.le_trans Nat.and_le_right (by decide)
  exact ⟨_, hle, by rw [hw]; exact IntWalk.i64_in _ (by omega)⟩
theorem ref_new (w : World) (c : Nat) : RefAt (w.alloc (refO (c : Int) 0 (-1) (.slice none 0 0) false)) (fun k => k = w.heap.size) w.heap.size (newS c) :=
  ⟨_, heap_alloc_new _ _, rfl, filesAt_nil _ _⟩
/-- Both disks, new. -/
theorem two_new {w w1 : World} {p c : Nat} (h : One w (elder w) w1 p (newS c)) : Two w w.heap.size (w1.alloc (refO (c : Int) 0 (-1) (.slice none 0 0) false)) p w1.heap.size (newS c) := by
  have hb : Below w1.heap.size w1 (w1.alloc (refO (c : Int) 0 (-1) (.slice none 0 0) false)) := (Below.refl _ _).alloc (Nat.le_refl _) _
  have hold := h.old
  obtain ⟨F, h1, h2, h3, h4⟩ := h
  have hs := hb.size
  have hs2 := hold.size
  refine ⟨F, _, h1.turn (Turn.of_below (fun _ => False) hb) (fun _ _ h => h), ref_new w1 c, fun k hk => ⟨Nat.le_of_not_lt (h2 k hk).1, by have := (h2 k hk).2; omega⟩, fun k hk => ⟨by omega, by subst hk; simp⟩, fun k hk e => by have := (h2 k hk).2; omega, hold.trans (hb.mono hs2), by omega⟩
theorem Two.one {w0 w : World} {p q : Nat} {S : St} (h : Two w0 w0.heap.size w p q S) : One w0 (elder w0) w p S := by
  obtain ⟨Fd, Fr, h⟩ := h
  exact ⟨Fd, h.d, fun k hk => ⟨Nat.not_lt.2 (h.fd k hk).1, (h.fd k hk).2⟩, ⟨h.old.os, h.old.tape, h.old.output, h.old.size, fun k _ hn => h.old.block k (Classical.not_not.1 hn)⟩, fun _ h => h⟩
set_option maxRecDepth 100000 in
set_option maxHeartbeats 1600000 in
theorem played_any (c : Int) (v : Value) (sc : List OpR) (w : World) (B : Nat) (hB : B ≤ w.heap.size) (hsc : ScriptAt w (fun k => k < B) v sc) :
    Calls Try.prog 32 #[.int .i64 c, v] w fun e w' => ∃ p S, e = .returned (ptr p) ∧ One w (elder w) w' p S ∧ Good S ∧ S.done ≤ 100 ∧ (S.cap : Int) = bits BinOp.and IntKind.i64 c 1048575 := by
  obtain ⟨ao, cap, g, off, rfl, hg, hcell⟩ := hsc
  obtain ⟨C, hC, hand⟩ := and20 c
  obtain ⟨N, hN⟩ : ∃ N, N = sc.length := ⟨_, rfl⟩
  rw [← hN] at hg ⊢
  have HN1 := one_new w C (by omega)
  have HC := Lib.hid hcell
  have HN := Lib.hid hN
  clear hcell hN
  go_enter Try.func32, Try.ntmps32
  go_wp2_with (first | (go_at_call 11; refine HN1.mono ?_; rintro e w1 ⟨p, rfl, P0⟩; have Q0 := Lib.hid (two_new P0); have b1 := P0.old; clear P0) | (go_at_call 12; refine (refNew_yes C (by omega) _).mono ?_; rintro e w2 ⟨rfl, hw2⟩; have Q1 := Q0.out; rw [← hw2] at Q1; clear hw2 Q0))
  obtain ⟨q, hq⟩ : ∃ q, q = w1.heap.size := ⟨_, rfl⟩
  rw [← hq] at Q1 ⊢
  clear hq b1 HN1
  go_loopw [9] (fun i W => ∃ (k : Nat) (S : St), i = .int .i64 (k : Int) ∧ k ≤ N ∧ k ≤ 100 ∧ Two w w.heap.size W p q S ∧ Good S ∧ S.done ≤ k ∧ S.cap = C) (fun i _ => N - (intOf i).toNat)
  case atStart => exact ⟨0, newS C, rfl, Nat.zero_le _, by omega, Q1, good_new (by omega), Nat.le_refl _, rfl⟩
  case round =>
    clear Q1
    obtain ⟨k, S, rfl, hk, hk2, hT, hGd, hD, hCp⟩ := hrel
    have i0 : (0 : Int) ≤ (k : Int) := by omega
    by_cases hlt : k < N
    · have i1 : (k : Int) < (N : Int) := by omega
      by_cases h100 : k < 100
      · have i2 : (k : Int) < 100 := by omega
        obtain ⟨r, hr⟩ : ∃ r, sc[k]? = some r := ⟨_, List.getElem?_eq_getElem (by rw [← HN.out]; exact hlt)⟩
        obtain ⟨rfl, hgB⟩ := hg (by omega)
        have hWo := hT.one.old
        have hop := (HC.out k r hr).turn (G := fun j => w.heap.size ≤ j) hgB (by exact ⟨hWo.os, hWo.tape, hWo.output, hWo.size, fun j _ hn => hWo.block j (by omega)⟩) (fun j hj h => by omega)
        obtain ⟨c0, c1, c2, c3, c4, hby, la, lb, ln⟩ := hop
        have hst := step_any hT hGd (by omega) r.z r.o r.v (hby.mono (fun j _ hj => Nat.lt_of_lt_of_le hj hB)) la lb ln
        have hg2 := hGd.step (bits BinOp.and IntKind.i64 r.z 15) r.o ln
        have hd2 := step_done (bits BinOp.and IntKind.i64 r.z 15) S r.o
        have hc2 := step_cap (bits BinOp.and IntKind.i64 r.z 15) S r.o
        obtain ⟨S', hS'⟩ : ∃ S', S' = stepS (bits BinOp.and IntKind.i64 r.z 15) S r.o := ⟨_, rfl⟩
        rw [← hS'] at hst hg2 hd2 hc2
        have HST := Lib.hid hst
        clear hst hS' hby hT hr
        go_wp2_with (go_at_call 13; refine HST.out.mono ?_; rintro e w3 ⟨rfl, T3⟩)
        go_roundw
        case rel => exact ⟨k + 1, S', by go_num, by omega, by omega, T3, hg2, by omega, by omega⟩
        case measure => simp [intOf]; omega
      · have i2 : ¬ ((k : Int) < 100) := by omega
        go_wp2
        go_ret
        exact ⟨p, rfl, S, hT.one, hGd, by omega, by rw [hCp] <;> exact hand.symm⟩
    · obtain rfl : k = N := by omega
      have i1 : ¬ ((k : Int) < (k : Int)) := by omega
      go_wp2
      go_ret
      exact ⟨p, rfl, S, hT.one, hGd, by omega, by rw [hCp] <;> exact hand.symm⟩
end Go.Proofs.Ytmblkojilckobaa
