/- Plain mathematics of package press: there and back; what is cut off is none; how long pressed bytes are. No program here. -/
import Derived.Test.YtjieljmlpbiidaaPressPure
namespace Go.Proofs.Ytjieljmlpbiidaa
theorem take_snoc8 (b : List UInt8) (i : Nat) (h : i < b.length) : b.take (i + 1) = b.take i ++ [b.getD i 0] := by
  rw [List.take_succ_eq_append_getElem h]
  simp [List.getD, h]
/-- A copy of what stands there. -/
theorem copyL_take (b : List UInt8) (i d : Nat) (hd0 : 0 < d) (hdi : d ≤ i) : ∀ (m n : Nat), i + n + m ≤ b.length → (∀ j, j < n + m → b.getD (i - d + j) 0 = b.getD (i + j) 0) → copyL d m (b.take (i + n)) = b.take (i + n + m)
  | 0, n, _, _ => rfl
  | m + 1, n, hl, he => by
    have e1 : (b.take (i + n)).length = i + n := by rw [List.length_take]; omega
    have e2 : (b.take (i + n)).getD (i + n - d) 0 = b.getD (i + n) 0 := by
      rw [← he n (by omega)]
      simp only [List.getD, List.getElem?_take]
      rw [if_pos (by omega), show i + n - d = i - d + n by omega]
    rw [copyL, e1, e2, ← take_snoc8 b (i + n) (by omega)]
    have := copyL_take b i d hd0 hdi m (n + 1) (by omega) (fun j hj => he j (by omega))
    rw [show i + (n + 1) = i + n + 1 by omega] at this
    rw [this]
    congr 1
    omega
theorem runT_pos {r : List UInt8} (h : 0 < r.length) : runT r = numL (2 * (r.length - 1)) ++ r := by rw [runT, if_neg (by omega)]
theorem runT_nil : runT [] = [] := rfl
/-- A run is taken back. -/
theorem tok_runT {b : List UInt8} {start i : Nat} {R : List UInt8} (hb : b.length ≤ 281474976710656) (h1 : start ≤ i) (h2 : i ≤ b.length) (f : Nat) (hf : (runT ((b.drop start).take (i - start)) ++ R).length ≤ f) :
    ∃ f', R.length ≤ f' ∧ f' ≤ f ∧ tok b.length f (b.take start) (runT ((b.drop start).take (i - start)) ++ R) = tok b.length f' (b.take i) R := by
  have hl : ((b.drop start).take (i - start)).length = i - start := by rw [List.length_take, List.length_drop]; omega
  by_cases h : start = i
  · subst h
    have e : (b.drop start).take (start - start) = [] := by rw [Nat.sub_self, List.take_zero]
    rw [e, runT_nil, List.nil_append] at hf ⊢
    exact ⟨f, hf, Nat.le_refl _, rfl⟩
  · rw [runT_pos (by omega), List.append_assoc] at hf ⊢
    have hp := numL_pos (2 * (((b.drop start).take (i - start)).length - 1))
    cases f with
    | zero => rw [List.length_append] at hf; omega
    | succ f =>
      rw [tok_run (by omega) (by omega)]
      have hs : (b.take start).length = start := by rw [List.length_take]; omega
      have ht : 2 * (((b.drop start).take (i - start)).length - 1) / 2 + 1 = ((b.drop start).take (i - start)).length := by omega
      rw [if_neg (by rw [hs, List.length_append]; omega), ht, List.take_left, List.drop_left]
      rw [List.length_append, List.length_append] at hf
      refine ⟨f, by omega, by omega, ?_⟩
      congr 1
      have e := List.take_add (l := b) (i := start) (j := i - start)
      rw [show start + (i - start) = i by omega] at e
      exact e.symm
/-- Tokens are the bytes that they tell. -/
theorem tok_toks (b : List UInt8) (hb : b.length ≤ 281474976710656) (start i : Nat) : start ≤ i → i ≤ b.length → ∀ f, (toks b start i).length ≤ f → tok b.length f (b.take start) (toks b start i) = some b := by
  refine toks_all_of b (fun start i => start ≤ i → i ≤ b.length → ∀ f, (toks b start i).length ≤ f → tok b.length f (b.take start) (toks b start i) = some b) ?_ ?_ ?_ _ start i (Nat.le_refl _)
  · intro start i h h4 ih h1 h2 f hf
    rw [toks_step h h4] at hf ⊢
    exact ih (by omega) (by omega) f hf
  · intro start i h h4 ih h1 h2 f hf
    have hc := longest4_copies (b := b) (i := i) (by omega) (by omega)
    rw [toks_copy h h4] at hf ⊢
    generalize (longest4 b i).1 = n at *
    generalize (longest4 b i).2 = d at *
    obtain ⟨f1, g1, g2, e1⟩ := tok_runT hb h1 h2 f hf
    rw [e1]
    have hp := numL_pos (2 * (n - 4) + 1)
    have hq := numL_pos d
    cases f1 with
    | zero => rw [List.length_append] at g1; omega
    | succ f1 =>
      have c1 := hc.four; have c2 := hc.most; have c3 := hc.len; have c4 := hc.pos; have c5 := hc.le; have c6 := hc.win
      have hs : (b.take i).length = i := by rw [List.length_take]; omega
      have ht : (2 * (n - 4) + 1) / 2 + 4 = n := by omega
      rw [tok_copy (by omega) (by omega) (by omega), ht, if_neg (by rw [hs]; omega)]
      have hcp := copyL_take b i d c4 c5 n 0 (by omega) (fun j hj => hc.eq j (by omega))
      rw [Nat.add_zero] at hcp
      rw [hcp]
      rw [List.length_append, List.length_append] at g1
      exact ih (Nat.le_refl _) c3 f1 (by omega)
  · intro start i h h1 h2 f hf
    obtain rfl : i = b.length := by omega
    rw [toks_end h] at hf ⊢
    have e : b.drop start = (b.drop start).take (b.length - start) := by rw [List.take_of_length_le (by rw [List.length_drop]; omega)]
    rw [e, ← List.append_nil (runT _)] at hf ⊢
    obtain ⟨f1, g1, g2, e1⟩ := tok_runT hb h1 h2 f hf
    rw [e1, tok_end, List.take_length, if_pos rfl]
/-- There and back. -/
theorem open_press (b : List UInt8) (hb : b.length ≤ 281474976710656) (most : Int) : openL (pressL b) most = if most < (b.length : Int) then none else some b := by
  unfold openL pressL
  rw [parse_numL b.length _ (by omega)]
  simp only [List.drop_left]
  split
  · rfl
  · exact tok_toks b hb 0 0 (Nat.le_refl _) (Nat.zero_le _) _ (Nat.le_refl _)

/-! ### What is cut off -/
theorem parse_short {p' q : List UInt8} {t : Nat} (ht : t ≤ 4611686018427387903) (hq : p' <+: numL t ++ q) (h : p'.length < (numL t).length) : parse p' = none := by
  have e := List.prefix_iff_eq_take.1 hq
  rw [e]
  exact parse_cut ht h
theorem prefix_split {p' u q : List UInt8} (hq : p' <+: u ++ q) (h : u.length ≤ p'.length) : ∃ q', p' = u ++ q' ∧ q' <+: q := by
  obtain ⟨z, hz⟩ := hq
  have e := List.prefix_of_prefix_length_le (l₁ := u) (l₂ := p') (l₃ := u ++ q) ⟨q, rfl⟩ ⟨z, hz⟩ h
  obtain ⟨q', rfl⟩ := e
  rw [List.append_assoc] at hz
  exact ⟨q', rfl, z, List.append_cancel_left hz⟩
theorem tok_prefix (size : Nat) : ∀ (f : Nat) (out p p' r : List UInt8), tok size f out p = some r → p' <+: p → p'.length < p.length → ∀ f', tok size f' out p' = none
  | 0, out, p, p', r, h, hp, hl, f' => by
    rw [tok] at h
    split at h
    · omega
    · cases h
  | f + 1, out, p, p', r, h, hp, hl, f' => by
    cases f' with
    | zero =>
      rw [tok]
      split
      · rename_i hc
        exfalso
        rw [tok, if_neg (by omega)] at h
        split at h
        · cases h
        · split at h
          · split at h
            · cases h
            · split at h
              · cases h
              · omega
          · split at h
            · cases h
            · omega
      · rfl
    | succ f' =>
      rcases parse_cases p with hpn | ⟨t, q, ht, rfl⟩
      · rw [tok, if_neg (by omega), hpn] at h
        cases h
      · by_cases h0 : p'.length = 0
        · rw [tok, if_pos h0]
          split
          · rename_i hc
            exfalso
            by_cases hodd : t % 2 = 1
            · rcases parse_cases q with hq | ⟨d, s, hd, rfl⟩
              · rw [tok_copy_bad ht hodd hq] at h; cases h
              · rw [tok_copy ht hodd hd, if_pos (by omega)] at h; cases h
            · rw [tok_run ht (by omega), if_pos (by omega)] at h; cases h
          · rfl
        · by_cases h1 : p'.length < (numL t).length
          · exact tok_bad (by omega) (parse_short ht hp h1)
          · obtain ⟨q', rfl, hq'⟩ := prefix_split hp (by omega)
            rw [List.length_append, List.length_append] at hl
            by_cases hodd : t % 2 = 1
            · rcases parse_cases q with hq | ⟨d, s, hd, rfl⟩
              · rw [tok_copy_bad ht hodd hq] at h; cases h
              · by_cases h2 : q'.length < (numL d).length
                · exact tok_copy_bad ht hodd (parse_short hd hq' h2)
                · obtain ⟨s', rfl, hs'⟩ := prefix_split hq' (by omega)
                  rw [List.length_append, List.length_append] at hl
                  rw [tok_copy ht hodd hd] at h ⊢
                  split at h
                  · cases h
                  · rename_i hc
                    rw [if_neg hc]
                    exact tok_prefix size f _ s s' r h hs' (by omega) f'
            · rw [tok_run ht (by omega)] at h ⊢
              split at h
              · cases h
              · rename_i hc
                by_cases h3 : min (size - out.length) q'.length < t / 2 + 1
                · rw [if_pos h3]
                · rw [if_neg h3]
                  obtain ⟨z, rfl⟩ := hq'
                  rw [List.take_append_of_le_length (by omega), List.drop_append_of_le_length (by omega)] at h
                  rw [List.length_append] at hl
                  exact tok_prefix size f _ _ _ r h ⟨z, rfl⟩ (by rw [List.length_append, List.length_drop]; omega) f'
theorem open_prefix {p p' r : List UInt8} {most most' : Int} (h : openL p most = some r) (hp : p' <+: p) (hl : p'.length < p.length) : openL p' most' = none := by
  rcases parse_cases p with hn | ⟨s, q, hs, rfl⟩
  · unfold openL at h; rw [hn] at h; cases h
  · unfold openL at h ⊢
    by_cases h1 : p'.length < (numL s).length
    · rw [parse_short hs hp h1]
    · obtain ⟨q', rfl, hq'⟩ := prefix_split hp (by omega)
      rw [List.length_append, List.length_append] at hl
      rw [parse_numL s q hs] at h
      rw [parse_numL s q' hs]
      simp only [List.drop_left] at h ⊢
      split at h
      · cases h
      · split
        · rfl
        · exact tok_prefix s _ [] q q' r h hq' (by omega) _
theorem open_cut {b : List UInt8} (hb : b.length ≤ 281474976710656) {j : Nat} (hj : j < (pressL b).length) (most : Int) : openL ((pressL b).take j) most = none :=
  open_prefix (most := (b.length : Int)) (by rw [open_press b hb, if_neg (by omega)]) (List.take_prefix j _) (by rw [List.length_take]; omega)
theorem open_more {b : List UInt8} (hb : b.length ≤ 281474976710656) (x : UInt8) (most : Int) : openL (pressL b ++ [x]) most = none := by
  cases h : openL (pressL b ++ [x]) most with
  | none => rfl
  | some r =>
    exfalso
    have := open_prefix (most' := (b.length : Int)) h (List.prefix_append _ _) (by simp)
    rw [open_press b hb, if_neg (by omega)] at this
    cases this

/-! ### How long they are -/
theorem numL_short {n : Nat} (i : Nat) (h : n < 128 ^ (i + 1)) : (numL n).length ≤ i + 1 := numF_short 8 n i h
theorem runT_ge (r : List UInt8) : r.length ≤ (runT r).length := by
  unfold runT
  split
  · omega
  · rw [List.length_append]; omega
theorem runT_le (r : List UInt8) : 64 * (runT r).length ≤ 65 * r.length + 64 := by
  unfold runT
  split
  · simp
  · rw [List.length_append]
    by_cases h1 : r.length ≤ 64
    · have := numL_short (n := 2 * (r.length - 1)) 0 (by omega)
      omega
    · by_cases h2 : r.length ≤ 8192
      · have := numL_short (n := 2 * (r.length - 1)) 1 (by omega)
        omega
      · have := numL_le (2 * (r.length - 1))
        omega
theorem toks_le (b : List UInt8) (start i : Nat) : start ≤ i → i ≤ b.length → 64 * (toks b start i).length ≤ 65 * (b.length - start) + 64 := by
  refine toks_all_of b (fun start i => start ≤ i → i ≤ b.length → 64 * (toks b start i).length ≤ 65 * (b.length - start) + 64) ?_ ?_ ?_ _ start i (Nat.le_refl _)
  · intro start i h h4 ih h1 h2
    rw [toks_step h h4]
    exact ih (by omega) (by omega)
  · intro start i h h4 ih h1 h2
    have hc := longest4_copies (b := b) (i := i) (by omega) (by omega)
    rw [toks_copy h h4]
    generalize (longest4 b i).1 = n at *
    generalize (longest4 b i).2 = d at *
    have c1 := hc.four; have c2 := hc.most; have c3 := hc.len; have c6 := hc.win
    have hl : ((b.drop start).take (i - start)).length = i - start := by rw [List.length_take, List.length_drop]; omega
    have hr := runT_le ((b.drop start).take (i - start))
    rw [hl] at hr
    have hi := ih (Nat.le_refl _) c3
    have hd := numL_short (n := d) 1 (by omega)
    rw [List.length_append, List.length_append, List.length_append]
    by_cases h5 : n ≤ 67
    · have := numL_short (n := 2 * (n - 4) + 1) 0 (by omega)
      omega
    · have := numL_short (n := 2 * (n - 4) + 1) 1 (by omega)
      omega
  · intro start i h h1 h2
    rw [toks_end h]
    have := runT_le (b.drop start)
    rw [List.length_drop] at this
    omega
theorem press_le (b : List UInt8) (hb : b.length ≤ 1048576) : (pressL b).length ≤ b.length + b.length / 4 + 9 := by
  have h1 := toks_le b 0 0 (Nat.le_refl _) (Nat.zero_le _)
  have h2 := numL_short (n := b.length) 2 (by omega)
  unfold pressL
  rw [List.length_append]
  omega

theorem press_wide (b : List UInt8) : (pressL b).length ≤ b.length + b.length / 64 + 10 := by
  have h1 := toks_le b 0 0 (Nat.le_refl _) (Nat.zero_le _)
  have h2 := numL_le b.length
  unfold pressL
  rw [List.length_append]
  omega

/-! ### Like bytes -/
theorem like_alike (k : Nat) (c : UInt8) (j i : Nat) (hj : j < i) (hi : i ≤ k) : alike (List.replicate k c) j i = min 259 (k - i) := by
  refine (alike_of ⟨Nat.min_le_left _ _, by simp; omega, fun x hx => ?_, ?_⟩).symm
  · simp [List.getD, show j + x < k by omega, show i + x < k by omega]
  · simp only [List.length_replicate]; omega
theorem like_lng (k : Nat) (c : UInt8) (i : Nat) (hi : i ≤ k) (h : i < k) : ∀ d, d + 1 ≤ i → lng (List.replicate k c) i (d + 1) = (min 259 (k - i), 1)
  | 0, h1 => by
    rw [lng, lng, like_alike k c _ _ (by omega) hi, if_pos (by simp; omega)]
  | d + 1, h1 => by
    rw [lng, like_lng k c i hi h d (by omega), like_alike k c _ _ (by omega) hi, if_neg (by omega)]
theorem like_longest (k : Nat) (c : UInt8) (i : Nat) (h0 : 0 < i) (hi : i < k) (h4 : 4 ≤ k - i) : longest4 (List.replicate k c) i = (min 259 (k - i), 1) := by
  unfold longest4 lng4
  obtain ⟨d, hd⟩ : ∃ d, min 4096 i = d + 1 := ⟨min 4096 i - 1, by omega⟩
  rw [hd, like_lng k c i (by omega) hi d (by omega), if_neg (by show ¬ min 259 (k - i) < 4; omega)]
theorem numL_1 : (numL 1).length = 1 := by decide
theorem like_toks (k : Nat) (c : UInt8) : ∀ (m i : Nat), k - i ≤ m → 0 < i → i ≤ k → 259 * (toks (List.replicate k c) i i).length ≤ 3 * (k - i) + 2000
  | 0, i, hm, h0, hi => by
    rw [toks_end (by simp; omega)]
    have : (List.replicate k c).drop i = [] := by simp; omega
    rw [this, runT_nil]
    simp
  | m + 1, i, hm, h0, hi => by
    by_cases h4 : 4 ≤ k - i
    · have hl := like_longest k c i h0 (by omega) h4
      rw [toks_copy (by simp; omega) (by rw [hl]; show ¬ min 259 (k - i) < 4; omega), hl]
      simp only
      have e : ((List.replicate k c).drop i).take (i - i) = [] := by rw [Nat.sub_self, List.take_zero]
      rw [e, runT_nil, List.nil_append, List.length_append, List.length_append, numL_1]
      have h2 := numL_short (n := 2 * (min 259 (k - i) - 4) + 1) 1 (by omega)
      by_cases hf : k - i ≤ 259
      · have e2 : i + min 259 (k - i) = k := by omega
        rw [e2, toks_end (by simp)]
        have : (List.replicate k c).drop k = [] := by simp
        rw [this, runT_nil]
        simp
        omega
      · have ih := like_toks k c m (i + min 259 (k - i)) (by omega) (by omega) (by omega)
        omega
    · have hs : ∀ x y, i ≤ y → y ≤ k → k - y ≤ x → toks (List.replicate k c) i y = runT ((List.replicate k c).drop i) := by
        intro x
        induction x with
        | zero => intro y h1 h2 h3; exact toks_end (by simp; omega)
        | succ x ih =>
          intro y h1 h2 h3
          by_cases hy : y < k
          · rw [toks_step (by simp; omega) ?_]
            · exact ih (y + 1) (by omega) (by omega) (by omega)
            · rcases lng4_ge (b := List.replicate k c) (i := y) (d := min 4096 y) with hg | hg
              · unfold longest4; omega
              · exfalso
                have hcp := longest4_copies (b := List.replicate k c) (i := y) (by simp; omega) hg
                have h7 := hcp.four
                have h6 := hcp.len
                simp only [List.length_replicate] at h6
                omega
          · exact toks_end (by simp; omega)
      rw [hs (k - i) i (Nat.le_refl _) hi (Nat.le_refl _)]
      have hd : ((List.replicate k c).drop i).length = k - i := by simp
      by_cases hz : k - i = 0
      · have : (List.replicate k c).drop i = [] := List.eq_nil_of_length_eq_zero (by omega)
        rw [this, runT_nil]; simp
      · rw [runT_pos (by omega), List.length_append, hd]
        have := numL_short (n := 2 * (k - i - 1)) 0 (by omega)
        omega
theorem like_press (k : Nat) (c : UInt8) (h5 : 5 ≤ k) (hk : k ≤ 4100) : (pressL (List.replicate k c)).length ≤ 20 + k / 64 := by
  unfold pressL
  have e0 : longest4 (List.replicate k c) 0 = (0, 0) := rfl
  have hl := like_longest k c 1 (by omega) (by omega) (by omega)
  rw [toks_step (by simp; omega) (by rw [e0]; decide), toks_copy (by simp; omega) (by rw [hl]; show ¬ min 259 (k - 1) < 4; omega), hl]
  simp only
  have e1 : ((List.replicate k c).drop 0).take (0 + 1 - 0) = [c] := by
    cases k with
    | zero => omega
    | succ k => simp [List.replicate_succ]
  have e2 : (runT [c]).length = 2 := by
    rw [runT_pos (by simp)]
    have : (numL (2 * ([c].length - 1))).length = 1 := by simp; decide
    rw [List.length_append, this]; rfl
  rw [e1, List.length_append, List.length_append, List.length_append, List.length_append, List.length_replicate, e2, numL_1]
  have h1 := numL_short (n := k) 1 (by omega)
  have h2 := numL_short (n := 2 * (min 259 (k - 1) - 4) + 1) 1 (by omega)
  have h3 := like_toks k c k (0 + 1 + min 259 (k - 1)) (by omega) (by omega) (by omega)
  omega

/-! ### What never repeats -/
def upTo (k : Nat) : List UInt8 := (List.range k).map UInt8.ofNat
theorem upTo_length (k : Nat) : (upTo k).length = k := by simp [upTo]
theorem upTo_get (k i : Nat) (h : i < k) : (upTo k).getD i 0 = UInt8.ofNat i := by simp [upTo, List.getD, h]
theorem upTo_longest (k : Nat) (hk : k ≤ 256) (i : Nat) (hi : i < k) : longest4 (upTo k) i = (0, 0) := by
  have h : ∀ d, d ≤ i → lng4 (upTo k) i d = (0, 0) := by
    intro d
    induction d with
    | zero => intro _; rfl
    | succ d ih =>
      intro hd
      rw [lng4_skip, ih (by omega)]
      have ha := alike_is (upTo k) (i - (d + 1)) i (by rw [upTo_length]; omega)
      have h1 := ha.eq 0
      by_cases h0 : 0 < alike (upTo k) (i - (d + 1)) i
      · exfalso
        have h2 := h1 h0
        simp only [Nat.add_zero] at h2
        rw [upTo_get k _ (by omega), upTo_get k _ hi] at h2
        have h3 := congrArg UInt8.toNat h2
        rw [UInt8.toNat_ofNat_of_lt' (by show _ < 256; omega), UInt8.toNat_ofNat_of_lt' (by show _ < 256; omega)] at h3
        omega
      · omega
  exact h _ (Nat.min_le_right _ _)
theorem upTo_press (k : Nat) (h0 : 0 < k) (hk : k ≤ 256) : pressL (upTo k) = numL k ++ (numL (2 * (k - 1)) ++ upTo k) := by
  have h : ∀ m i, i ≤ k → k - i ≤ m → toks (upTo k) 0 i = runT (upTo k) := by
    intro m
    induction m with
    | zero => intro i h1 h2; rw [toks_end (by rw [upTo_length]; omega), List.drop_zero]
    | succ m ih =>
      intro i h1 h2
      by_cases hi : i < k
      · rw [toks_step (by rw [upTo_length]; omega) (by rw [upTo_longest k hk i hi]; decide), ih (i + 1) (by omega) (by omega)]
      · rw [toks_end (by rw [upTo_length]; omega), List.drop_zero]
  unfold pressL
  rw [h k 0 (Nat.zero_le _) (by omega), runT_pos (by rw [upTo_length]; omega), upTo_length]
end Go.Proofs.Ytjieljmlpbiidaa
