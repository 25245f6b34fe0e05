/- The walk of DiskRoom. -/
import Derived.Test.YtmblkojilckobaaPlayed
import Derived.Test.YtmblkojilckobaaTheirs
import Derived.Test.YtmblkojilckobaaSameFiles
namespace Go.Proofs.Ytmblkojilckobaa
open Go.RowKit
theorem files_get {w : World} {G : Nat → Prop} {ao : Option Addr} {cap : Nat} {P : List (Bs × Value)} {g off : Nat} {L : Files} (hraw : RawAt w G ao cap P g off) (hhas : Has w G P L) {i : Nat} {n b : Bs} (hi : L[i]? = some (n, b)) :
    ao = some ⟨g, off, none⟩ ∧ w.cell? ⟨g, off + i * 2, none⟩ = some (.string (SL n)) ∧ ∃ x c, w.cell? ⟨g, off + i * 2 + 1, none⟩ = some (.slice x b.length c) ∧ BytesAt w G (.slice x b.length c) b := by
  have hl := (List.getElem?_eq_some_iff.1 hi).1
  obtain ⟨⟨n', bv⟩, hp⟩ : ∃ p, P[i]? = some p := ⟨_, List.getElem?_eq_getElem (by rw [hhas.1]; exact hl)⟩
  obtain ⟨hnn, hby⟩ := hhas.2 i _ _ hp hi
  simp only at hnn hby
  subst hnn
  obtain ⟨e1, c1, c2⟩ := hraw.get hp
  obtain ⟨x, c, B, o, rfl, h5⟩ := hby
  exact ⟨e1, c1, x, c, c2, ⟨x, c, B, o, rfl, h5⟩⟩
theorem ScriptAt.later {w w1 : World} {v : Value} {sc : List OpR} (h : ScriptAt w (elder w) v sc) (hb : Below w.heap.size w w1) : ScriptAt w1 (elder w) v sc := h.below hb
theorem costs_take (L : Files) (k : Nat) : costs (L.take k) ≤ costs L := by
  have := costs_append (L.take k) (L.drop k)
  rw [List.take_append_drop] at this
  omega
theorem Good.dump {S : St} (h : Good S) : S.fs.length ≤ 4000000000000 ∧ ∀ n b, findF n S.fs = some b → n.length ≤ 281474976710656 ∧ b.length ≤ 140737488355328 := by
  have h1 := h.many
  refine ⟨by omega, fun n b hb => ?_⟩
  have := h.file_le hb
  unfold costF at this
  omega
set_option maxRecDepth 100000 in
set_option maxHeartbeats 1600000 in
theorem room_any (c : Int) (v : Value) (sc : List OpR) (w : World) (hsc : ScriptAt w (elder w) v sc) : Calls Try.prog 8 #[.int .i64 c, v] w fun e w' => e = .returned (.bool true) ∧ Below w.heap.size w w' := by
  have hA := awake_any w
  have HSC := Lib.hid hsc
  clear hsc
  obtain ⟨C, _, hand⟩ := and20 c
  go_enter Try.func8, Try.ntmps8
  go_wp2_with (first
    | (go_at_call 10; refine hA.mono ?_; rintro e w1 ⟨rfl, b1⟩; have hS1 := Lib.hid (HSC.out.later b1); have z1 := b1.size)
    | (go_at_call 32; refine (played_any c v sc w1 w.heap.size z1 hS1.out).mono ?_; rintro e w2 ⟨p, S, rfl, P2, hG, hD, hcap⟩; have b2 := P2.old; have bw2 := b1.trans (b2.mono z1); have hP := Lib.hid P2; have hdump := P2.dump hG.rise hG.dump.1 hG.dump.2; have HDU := Lib.hid hdump; clear P2 hdump b1 b2 hA)
    | (go_at_call 21; refine HDU.out.mono ?_; rintro e w3 ⟨v3, rfl, hF3, b3⟩; obtain ⟨ao, cap, P, g, off, rfl, hraw, hhas⟩ := hF3; have bw3 := bw2.trans (b3.mono bw2.size); have HP3 := Lib.hid (hP.out.below b3); have HRA := Lib.hid hraw; have HHA := Lib.hid hhas; clear hraw hhas HDU hP b3))
  obtain ⟨L, hL⟩ : ∃ L, L = S.fs := ⟨_, rfl⟩
  have hcl : costs L ≤ 1099511627776 := by rw [hL]; have h1 := hG.cost; have h2 := hG.top; omega
  have hll : L.length ≤ 4000000000000 := by rw [hL]; exact hG.dump.1
  rw [← hL] at HHA ⊢
  obtain ⟨N, hN⟩ : ∃ N, N = L.length := ⟨_, rfl⟩
  rw [← hN] at hll ⊢
  have HN := Lib.hid hN
  have HL := Lib.hid hL
  clear hN hL
  go_loopw [7, 9] (fun x i W => ∃ (k m : Nat), x = .int .i64 (costs (L.take k) : Int) ∧ i = .int .i64 (k : Int) ∧ k ≤ N ∧ W = w3.drewN m) (fun _ i _ => N - (intOf i).toNat)
  case atStart => exact ⟨0, 0, rfl, rfl, Nat.zero_le _, rfl⟩
  case round =>
    obtain ⟨k, m, rfl, rfl, hk, rfl⟩ := hrel
    have i0 : (0 : Int) ≤ (k : Int) := by omega
    by_cases hlt : k < N
    · have hk1 : k < L.length := by rw [← HN.out]; exact hlt
      obtain ⟨⟨n, b⟩, hf⟩ : ∃ f, L[k]? = some f := ⟨_, List.getElem?_eq_getElem hk1⟩
      obtain ⟨e1, c1, x, cc, c2, _⟩ := files_get HRA.out HHA.out hf
      subst e1
      have i1 : (k : Int) < (N : Int) := by omega
      have hsz : (SL n).size = n.length := SL_size n
      have htk : L.take (k + 1) = L.take k ++ [(n, b)] := by rw [List.take_add_one, hf]; rfl
      have hle := costs_take L (k + 1)
      have hsum : costs (L.take (k + 1)) = costs (L.take k) + (16 + n.length + b.length) := by rw [htk, costs_append]; rfl
      obtain ⟨z, hz⟩ : ∃ z, z = costs (L.take k) := ⟨_, rfl⟩
      obtain ⟨z3, hz3⟩ : ∃ z, z = costs (L.take (k + 1)) := ⟨_, rfl⟩
      rw [← hz3] at hle hsum
      rw [← hz] at hsum ⊢
      have q1 : IntKind.i64.wrap ((z : Int) + 16) = (z : Int) + 16 := by rw [IntKind.wrap_i64]; omega
      have q2 : IntKind.i64.wrap ((z : Int) + 16 + (n.length : Int)) = (z : Int) + 16 + (n.length : Int) := by rw [IntKind.wrap_i64]; omega
      have q3 : IntKind.i64.wrap ((z : Int) + 16 + (n.length : Int) + (b.length : Int)) = (z3 : Int) := by rw [IntKind.wrap_i64]; omega
      have q4 : (z : Int) + 16 + (n.length : Int) + (b.length : Int) = (z3 : Int) := by omega
      have q5 : wrap64 (z3 : Int) = (z3 : Int) := IntWalk.wrap64_in _ ⟨by omega, by omega⟩
      have HZ := Lib.hid hz3
      have HQ5 := Lib.hid q5
      clear q5
      clear hz hz3 htk hf hle hsum
      go_wp2_with fail
      go_quiet (fail)
      go_wp2
      go_roundw
      case rel => exact ⟨k + 1, m + nq, by rw [← HZ.out]; exact congrArg (Value.int IntKind.i64) HQ5.out, by go_num, by omega, rfl⟩
      case measure => simp [intOf]; omega
    · obtain rfl : k = N := by omega
      have i1 : ¬ ((k : Int) < (k : Int)) := by omega
      rw [List.take_of_length_le (by rw [← HN.out]; exact Nat.le_refl _)]
      have hf := hG.free_in
      obtain ⟨f, hf2⟩ : ∃ f, f = S.free := ⟨_, rfl⟩
      have hfree : ∀ W, Below w3.heap.size w3 W → Calls Try.prog 14 #[ptr p] W fun e w' => e = .returned (.int .i64 f) ∧ w' = W := fun W hb => by
        have := (HP3.out.below hb).free
        rw [hf.2.2, ← hf2] at this
        exact this
      have hsum : f + (costs L : Int) = (C : Int) := by
        rw [hf2]
        unfold St.free
        rw [HL.out]
        rw [hand] at hcap
        omega
      have hf0 : f ≥ 0 := by rw [hf2]; exact hf.1
      have HFR := Lib.hid (hfree _ (below_drewN (Below.refl _ _) m))
      obtain ⟨t, ht⟩ : ∃ t, t = costs L := ⟨_, rfl⟩
      rw [← ht] at hsum hcl ⊢
      have hf1 : f ≤ 1099511627776 := by rw [hf2]; exact hf.2.1
      have HBW := Lib.hid bw3
      clear hf hf2 ht hfree hcap bw3 bw2
      go_wp2_with (go_at_call 14; refine HFR.out.mono ?_; rintro e w9 ⟨rfl, rfl⟩)
      go_ret
      exact ⟨by simp, below_drewN HBW.out m⟩
end Go.Proofs.Ytmblkojilckobaa
