/- shadowed of the laws: files but one, and but its shadow. -/
import Derived.Test.YthibhkoneajffaaDiskMore
import Derived.Test.YthibhkoneajffaaDiskFiles
import Derived.Test.YthibhkoneajffaaSafeSmall
namespace Go.Proofs.Ythibhkoneajffaa
open Go.RowKit
/-- All files but one and its shadow. -/
def others (n : Bs) (L : Files) : Files := L.filter fun f => !(f.1 == n) && !(f.1 == shadowN n)
theorem FilesOwn.push {w w3 w4 : World} {E B : Nat} {F : Nat → Prop} {v v4 sl : Value} {Q : List (Bs × Value)} {M : Files} {n b : Bs} (h : FilesOwn w E B F v Q M) (h3 : Turn (fun _ => False) w w3)
    (hb : BytesAt w3 (fun i => F i ∧ v.ownBlock ≠ some i) sl b) (hown4 : w4.ownsRow B E 2 v4 (M.length + 1) (fcells Q ++ fcells [(n, sl)])) (hg4 : w3.grownBy w4 v.ownBlock)
    (hnew : ∀ i, v4.ownBlock = some i → v.ownBlock = some i ∨ i = w3.heap.size) : FilesOwn w4 E B F v4 (Q ++ [(n, sl)]) (M ++ [(n, b)]) :=
  (h.turn h3 (fun _ _ h => h) (fun _ _ h => h)).grown (Has.one (n := n) hb) hown4 hg4 hnew
theorem others_keep {n : Bs} {L : Files} {k : Nat} {f : Bs × Bs} (hf : L[k]? = some f) (h : f.1 ≠ n) (h' : f.1 ≠ shadowN n) : others n (L.take (k + 1)) = others n (L.take k) ++ [f] := by
  unfold others
  rw [List.take_add_one, hf, List.filter_append]
  simp [h, h']
theorem others_drop {n : Bs} {L : Files} {k : Nat} {f : Bs × Bs} (hf : L[k]? = some f) (h : f.1 = n ∨ f.1 = shadowN n) : others n (L.take (k + 1)) = others n (L.take k) := by
  unfold others
  rw [List.take_add_one, hf, List.filter_append]
  rcases h with h | h <;> simp [h]
set_option maxRecDepth 100000 in
set_option maxHeartbeats 4000000 in
theorem shadowed_any (F : Nat → Prop) (v0 : Value) (L : Files) (n : Bs) (hn : n.length ≤ 281474976710656) (w : World) (h : FilesAt w F v0 L) (hF : ∀ k, F k → k < w.heap.size) (hL : L.length ≤ 4000000000000) :
    Calls Try.prog 31 #[v0, .string (SL n)] w fun e w' => ∃ v, e = .returned v ∧ FilesAt w' (fun k => F k ∨ (w.heap.size ≤ k ∧ k < w'.heap.size)) v (others n L) ∧ Below w.heap.size w w' := by
  obtain ⟨ao, cap, P, g, off, rfl, hraw, hhas⟩ := h
  have hs : (SL n).size = n.length := SL_size n
  have h1s : (⟨#[126]⟩ : ByteArray).size = 1 := rfl
  have hcat := SL_shadow n
  have ln := SL_toList n
  have lsh := SL_toList (shadowN n)
  obtain ⟨N, hN⟩ : ∃ N, N = L.length := ⟨_, rfl⟩
  obtain ⟨B, hB⟩ : ∃ B, B = w.heap.size := ⟨_, rfl⟩
  rw [← hN] at hL ⊢
  rw [← hB]
  have hwB : w.heap.size ≤ B := by omega
  have hBw : B ≤ w.heap.size := by omega
  have HN := Lib.hid hN
  have HB := Lib.hid hB
  have HR := Lib.hid hraw
  have HH := Lib.hid hhas
  have HFl := Lib.hid hF
  clear hN hB hraw hhas hF
  go_enter Try.func31, Try.ntmps31
  go_wp2
  go_loopw [5, 6] (fun x i W => ∃ (v : Value) (Q : List (Bs × Value)) (M : Files) (k : Nat), v = x ∧ i = .int .i64 (k : Int) ∧ k ≤ N ∧ M = others n (L.take k) ∧ M.length ≤ k ∧ FilesOwn W 57 B (fun k => F k ∨ B ≤ k) v Q M ∧ Below B w W) (fun _ i _ => N - (intOf i).toNat)
  case atStart => exact ⟨.slice none 0 0, [], [], 0, rfl, rfl, Nat.zero_le _, rfl, Nat.le_refl _, FilesOwn.nil _ _ _ _, Below.refl _ _⟩
  case round =>
    obtain ⟨v, Q, M, k, rfl, rfl, hk, hM, hMk, hQ, hW⟩ := hrel
    by_cases hlt : k < N
    · have hk2 : k < L.length := by rw [← HN.out]; exact hlt
      obtain ⟨⟨m, b⟩, hf⟩ : ∃ f, L[k]? = some f := ⟨_, List.getElem?_eq_getElem hk2⟩
      obtain ⟨e1, c1, x, cc, c2, hby⟩ := files_get HR.out HH.out hf
      subst e1
      have hgl : g < w.heap.size := World.block_lt_of_cell? w _ c1
      have d1 := (hW.cell (p := ⟨g, off + k * 2, none⟩) (by show g < B; omega)).trans c1
      have d2 := (hW.cell (p := ⟨g, off + k * 2 + 1, none⟩) (by show g < B; omega)).trans c2
      have i0 : (0 : Int) ≤ (k : Int) := by omega
      have i1 : (k : Int) < (N : Int) := by omega
      have lm := SL_toList m
      have HQ := Lib.hid hQ
      clear hQ c1 c2
      by_cases h1 : m = n
      · have hM2 : M = others n (L.take (k + 1)) := by rw [hM, others_drop hf (.inl h1)]
        have HM := Lib.hid hM2
        clear hM hM2 hf hby
        subst h1
        go_wp2
        go_roundw
        case rel => exact ⟨v, Q, M, k + 1, rfl, by go_num, by omega, HM.out, by omega, HQ.out, hW⟩
        case measure => simp [intOf]; omega
      · by_cases h2 : m = shadowN n
        · have hM2 : M = others n (L.take (k + 1)) := by rw [hM, others_drop hf (.inr h2)]
          have HM := Lib.hid hM2
          clear hM hM2 hf hby
          have g1 : (m == n) = false := by simpa using h1
          have g2 : (m == shadowN n) = true := by simpa using h2
          have g3 : (m != n) = true := by simpa using h1
          have g4 : (m != shadowN n) = false := by simpa using h2
          have g5 : (m != n && m != shadowN n) = false := by rw [g3, g4]; rfl
          go_wp2
          all_goals go_roundw
          all_goals first | exact ⟨v, Q, M, k + 1, rfl, by go_num, by omega, HM.out, by omega, HQ.out, hW⟩ | (simp [intOf]; omega)
        · have hM2 : M ++ [(m, b)] = others n (L.take (k + 1)) := by rw [hM, others_keep hf h1 h2]
          have HM := Lib.hid hM2
          obtain ⟨x3, cc3, B3, off3, hxx, s3, hB3⟩ := hby
          cases hxx
          obtain ⟨q, hq⟩ : ∃ q, q = b.length := ⟨_, rfl⟩
          rw [← hq] at d2
          have hown := HQ.out.own
          have hz := hW.size
          have exb : ∀ j, v.ownBlock = some j → B ≤ j := fun j hj => (hown.lt j hj).1
          have g1 : (m == n) = false := by simpa using h1
          have g2 : (m == shadowN n) = false := by simpa using h2
          have g3 : (m != n) = true := by simpa using h1
          have g4 : (m != shadowN n) = true := by simpa using h2
          have g5 : (m != n && m != shadowN n) = true := by rw [g3, g4]; rfl
          have HS3 := Lib.hid s3
          have HB3 := Lib.hid hB3
          have HQL := Lib.hid hq
          have HO := Lib.hid hown
          have HEX := Lib.hid exb
          clear hM hM2 hf s3 hB3 hq hown exb h1 h2
          go_wp2_with (at_builtin; refine wpList_append_files files74 rfl _ _ rfl B v M.length (fcells Q) rfl (HO.out.alloc _) (some ⟨_, 0, none⟩) 1 1 rfl (fcells [(m, .slice x q cc)]) rfl (fun hh => by cases hh) (fun ad had j u hu => by cases had; exact cells_new wr _ _ j u hu) (by intro u hu; simp [fcells] at hu; rcases hu with rfl | rfl <;> rfl) (by omega) (by show B ≤ (wr.alloc _).heap.size; simp; omega) ?_; intro v4 w4 hown4 hg4 hnew4)
          obtain ⟨w3, hw3⟩ : ∃ w3, w3 = wr.alloc (Obj.cells #[Value.string (SL m), Value.slice x q cc] 57) := ⟨_, rfl⟩
          have h3b : Below wr.heap.size wr w3 := by rw [hw3]; exact (Below.refl _ _).alloc (Nat.le_refl _) _
          rw [← hw3] at hg4 hnew4
          have hg4 := hg4.out
          have h3s := h3b.size
          have h4s := hg4.size
          have hbytes : BytesAt w3 (fun i => (F i ∨ B ≤ i) ∧ v.ownBlock ≠ some i) (.slice x q cc) b := by
            refine ⟨x, cc, B3, off3, by rw [HQL.out], (HS3.out.below (W' := wr) ?_).below h3b, fun hp => ⟨.inl (HB3.out hp), fun e => ?_⟩⟩
            · rw [← HB.out]; exact hW
            · have h5 := HEX.out B3 e
              have h6 := HFl.out B3 (HB3.out hp)
              omega
          have FO4 := HQ.out.push (Turn.of_below _ h3b) hbytes hown4.out hg4 hnew4.out
          have hWn : Below B w w4 := (hW.trans (h3b.mono (by omega))).trans ⟨hg4.os, hg4.tape, hg4.output, hg4.size, fun i hi => hg4.block i (by omega) (fun e => by have := HEX.out i e.symm; omega)⟩
          clear hown4 hg4 hnew4 hbytes hw3 d1 d2
          go_roundw
          case rel => exact ⟨v4, _, _, k + 1, rfl, by go_num, by omega, HM.out, by simp; omega, FO4, hWn⟩
          case measure => simp [intOf]; omega
    · obtain rfl : k = N := by omega
      rw [List.take_of_length_le (by rw [← HN.out]; exact Nat.le_refl _)] at hM
      subst hM
      have HQ := Lib.hid hQ
      have i1 : ¬ ((k : Int) < (k : Int)) := by omega
      clear hQ
      go_wp2
      go_ret
      have h2 := HQ.out.files (F := fun i => F i ∨ B ≤ i) (fun g hg _ _ => .inr hg)
      exact ⟨_, rfl, h2.mono (fun i hi hBi => hBi.imp id (fun h => ⟨by omega, hi⟩)), hW⟩
end Go.Proofs.Ythibhkoneajffaa
