/- The chain of places; look-ups in the map of four bytes. -/
import Derived.Test.YtjieljmlpbiidaaPressAhead
namespace Go.Proofs.Ytjieljmlpbiidaa
open Go.RowKit
open Go.Maps (has)

/-! ### The chain of places with the same four bytes -/
theorem chain_other {b : List UInt8} {i j : Nat} (hi : i + 4 ≤ b.length) (h : four b j ≠ four b i) : alike b j i < 4 :=
  Nat.lt_of_not_le fun h4 => h ((four_alike hi).2 h4)
theorem chain_none {b : List UInt8} {i : Nat} (hi : i + 4 ≤ b.length) (h : near b (four b i) i = none) : longest4 b i = (0, 0) := by
  unfold longest4
  rw [lng4_skips 0 _ (Nat.zero_le _) (fun x _ hx => chain_other hi (near_none h _ (by omega) (by omega)))]
  rfl
theorem chain_some {b : List UInt8} {i k : Nat} (hi : i + 4 ≤ b.length) (h : near b (four b i) i = some k) : lng4 b i (i - k - 1) = (0, 0) := by
  obtain ⟨h1, h2, h3, h4⟩ := near_some h
  rw [lng4_skips 0 _ (Nat.zero_le _) (fun x _ hx => chain_other hi (h4 _ (by omega) (by omega)))]
  rfl
theorem chain_take {b : List UInt8} {i k : Nat} (hi : i + 4 ≤ b.length) (hk : k < i) (hf : four b k = four b i) :
    lng4 b i (i - k) = if (lng4 b i (i - k - 1)).1 < alike b k i then (alike b k i, i - k) else lng4 b i (i - k - 1) := by
  have h4 := (four_alike hi).1 hf
  have e : i - k = (i - k - 1) + 1 := by omega
  have e2 : i - ((i - k - 1) + 1) = k := by omega
  have h := lng4_take (b := b) (i := i) (d := i - k - 1) (by rw [e2]; exact h4)
  rw [e2, ← e] at h
  exact h
theorem chain_next {b : List UInt8} {i k : Nat} (hi : i + 4 ≤ b.length) (hk : k < i) (hf : four b k = four b i) (h0 : 0 < backOf b k) :
    lng4 b i (i - (k - backOf b k) - 1) = lng4 b i (i - k) := by
  obtain ⟨h1, h2, h3, h4⟩ := backOf_some h0
  exact lng4_skips _ _ (by omega) (fun x hx1 hx2 => chain_other hi (by rw [← hf]; exact h4 _ (by omega) (by omega)))
theorem chain_last {b : List UInt8} {i k : Nat} (hi : i + 4 ≤ b.length) (hk : k < i) (hr : i ≤ k + 4096) (hf : four b k = four b i) (h0 : ¬ (0 < backOf b k ∧ i - k + backOf b k ≤ 4096)) : longest4 b i = lng4 b i (i - k) := by
  unfold longest4
  refine lng4_skips _ _ (by omega) (fun x hx1 hx2 => chain_other hi ?_)
  rw [← hf]
  by_cases hz : backOf b k = 0
  · exact backOf_none hz _ (by omega) (by omega)
  · obtain ⟨h1, h2, h3, h4⟩ := backOf_some (b := b) (k := k) (by omega)
    exact h4 _ (by omega) (by omega)
theorem piece_get (b : List UInt8) (k n j : Nat) (hj : j < n) : ((b.drop k).take n).getD j 0 = b.getD (k + j) 0 := by
  simp [List.getD, hj]
theorem equal_pieces {b : List UInt8} {k i n : Nat} (hk : k < i) (hi : i + n ≤ b.length) : (b.drop k).take n = (b.drop i).take n ↔ ∀ j, j < n → b.getD (k + j) 0 = b.getD (i + j) 0 := by
  constructor
  · intro h j hj
    rw [← piece_get b k n j hj, ← piece_get b i n j hj, h]
  · intro h
    apply List.ext_getElem
    · simp; omega
    · intro j h1 h2
      have hj : j < n := by simp at h1; omega
      have hl : k + j < b.length := by omega
      have hl2 : i + j < b.length := by omega
      have := h j hj
      simpa [List.getD, hl, hl2] using this
theorem alike_more {b : List UInt8} {k i n : Nat} (hi : i + n ≤ b.length) (hn : n ≤ 259) : (∀ j, j < n → b.getD (k + j) 0 = b.getD (i + j) 0) ↔ n ≤ alike b k i := by
  have ha := alike_is b k i (by omega)
  constructor
  · intro h
    refine Nat.le_of_not_lt fun hlt => ?_
    rcases ha.stop with e | e | e
    · omega
    · omega
    · exact e (h _ hlt)
  · exact fun h j hj => ha.eq j (by omega)

/-! ### The map -/
abbrev MapAt (w : World) (mb n : Nat) (D : DataW Unit) : Prop := w.ownsMap Try.prog 55 (plainElem Try.prog 3) mb n D
theorem zero3 (w : World) : (zeroValue 3).run Try.prog w = .ok (.int .i64 0) w := by kernel_rfl
theorem look_run {w : World} {mb n : Nat} {D : DataW Unit} {f : List UInt8} (hown : MapAt w mb n D) (hf : f.length = 4) :
    ∃ (c : Int) (O : Obj), D.atKey (fourK f) (.lit (.int .i64 0)) = .lit (.int .i64 c) ∧ (Lit.int .i64 c).wf = true ∧ w.heap[mb]? = some O ∧
      (∀ W : World, W.heap[mb]? = some O → (Instr.lookup 35 (.map (some mb)) (fourV f) true).run Try.prog W = .ok (.tuple #[.int .i64 c, .bool (has D (fourK f))]) W) ∧
      (∀ W : World, W.heap[mb]? = some O → (Instr.lookup 35 (.map (some mb)) (fourV f) false).run Try.prog W = .ok (.int .i64 c) W) := by
  obtain ⟨c, _, h1, h2⟩ := hown.lookup_int K53 Try.underlying35 Try.underlying3 (zero3 w) (fourK_is hf)
  obtain ⟨es, clock, h3, h4⟩ := hown
  refine ⟨c, _, h1, h2, h3, fun W hW => ?_, fun W hW => ?_⟩
  · have hown' : MapAt W mb n D := ⟨es, clock, hW, h4⟩
    obtain ⟨v, ps, hr, hv⟩ := hown'.look_ok K53 Try.underlying35 (zero3 W) (plainElem_int Try.underlying3 (q := .i64) (a := 0) (by decide)) (fourK_is hf)
    obtain ⟨c', rfl, hc, _⟩ := plainElem_int_inv Try.underlying3 hv
    have hc' := congrArg Prod.fst hc
    simp only at hc'
    rw [h1] at hc'
    simp only [DataW.lit.injEq, Lit.int.injEq, true_and] at hc'
    rw [hr, ← hc']
  · have hown' : MapAt W mb n D := ⟨es, clock, hW, h4⟩
    obtain ⟨c', hr, hc, _⟩ := hown'.lookup_int K53 Try.underlying35 Try.underlying3 (zero3 W) (fourK_is hf)
    rw [h1] at hc
    simp only [DataW.lit.injEq, Lit.int.injEq, true_and] at hc
    rw [hr, ← hc]
end Go.Proofs.Ytjieljmlpbiidaa
