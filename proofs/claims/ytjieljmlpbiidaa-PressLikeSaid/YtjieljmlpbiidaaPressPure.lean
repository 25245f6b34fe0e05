/- Plain mathematics of package press: what is alike, the longest copy, tokens, and bytes again. No program here. -/
import Derived.Test.YtjieljmlpbiidaaCodeNum
namespace Go.Proofs.Ytjieljmlpbiidaa

/-! ### What is alike -/
def alk (b : List UInt8) (k i : Nat) : Nat → Nat → Nat
  | 0, n => n
  | f + 1, n => if i + n < b.length ∧ b.getD (k + n) 0 = b.getD (i + n) 0 then alk b k i f (n + 1) else n
/-- How many bytes from k on are those from i on, at most 259. -/
def alike (b : List UInt8) (k i : Nat) : Nat := alk b k i 259 0
structure IsAlike (b : List UInt8) (k i n : Nat) : Prop where
  le : n ≤ 259
  len : i + n ≤ b.length
  eq : ∀ j, j < n → b.getD (k + j) 0 = b.getD (i + j) 0
  stop : n = 259 ∨ i + n = b.length ∨ b.getD (k + n) 0 ≠ b.getD (i + n) 0
theorem IsAlike.unique {b : List UInt8} {k i n m : Nat} (hn : IsAlike b k i n) (hm : IsAlike b k i m) : n = m := by
  rcases Nat.lt_trichotomy n m with h | h | h
  · exfalso
    have h1 := hm.le; have h2 := hm.len
    rcases hn.stop with e | e | e
    · omega
    · omega
    · exact e (hm.eq n h)
  · exact h
  · exfalso
    have h1 := hn.le; have h2 := hn.len
    rcases hm.stop with e | e | e
    · omega
    · omega
    · exact e (hn.eq m h)
theorem alk_is (b : List UInt8) (k i : Nat) : ∀ (f n : Nat), n + f = 259 → i + n ≤ b.length → (∀ j, j < n → b.getD (k + j) 0 = b.getD (i + j) 0) → IsAlike b k i (alk b k i f n)
  | 0, n, h1, h2, h3 => ⟨by rw [alk]; omega, by rw [alk]; exact h2, by rw [alk]; exact h3, by rw [alk]; exact .inl h1⟩
  | f + 1, n, h1, h2, h3 => by
    rw [alk]
    split
    · rename_i h
      refine alk_is b k i f (n + 1) (by omega) (by omega) (fun j hj => ?_)
      by_cases e : j = n
      · subst e; exact h.2
      · exact h3 j (by omega)
    · rename_i h
      refine ⟨by omega, h2, h3, ?_⟩
      by_cases e : i + n = b.length
      · exact .inr (.inl e)
      · exact .inr (.inr (fun e' => h ⟨by omega, e'⟩))
theorem alike_is (b : List UInt8) (k i : Nat) (h : i ≤ b.length) : IsAlike b k i (alike b k i) := alk_is b k i 259 0 rfl h (fun j hj => absurd hj (Nat.not_lt_zero j))
theorem alike_of {b : List UInt8} {k i n : Nat} (h : IsAlike b k i n) : n = alike b k i := h.unique (alike_is b k i (by have := h.len; omega))

/-! ### The longest copy -/
def lng (b : List UInt8) (i : Nat) : Nat → Nat × Nat
  | 0 => (0, 0)
  | d + 1 => if (lng b i d).1 < alike b (i - (d + 1)) i then (alike b (i - (d + 1)) i, d + 1) else lng b i d
def longest (b : List UInt8) (i : Nat) : Nat × Nat := lng b i (min 4096 i)
theorem lng_le (b : List UInt8) (i : Nat) : ∀ d, (lng b i d).2 ≤ d
  | 0 => Nat.le_refl _
  | d + 1 => by
    rw [lng]
    split
    · exact Nat.le_refl _
    · exact Nat.le_succ_of_le (lng_le b i d)
theorem lng_fit (b : List UInt8) (i : Nat) : ∀ d, 0 < (lng b i d).1 → 0 < (lng b i d).2 ∧ alike b (i - (lng b i d).2) i = (lng b i d).1
  | 0, h => absurd h (Nat.lt_irrefl _)
  | d + 1, h => by
    rw [lng] at h ⊢
    split
    · exact ⟨Nat.succ_pos _, rfl⟩
    · rename_i hc
      rw [if_neg hc] at h
      exact lng_fit b i d h
theorem lng_top (b : List UInt8) (i : Nat) : ∀ d e, 0 < e → e ≤ d → alike b (i - e) i ≤ (lng b i d).1
  | 0, e, h1, h2 => by omega
  | d + 1, e, h1, h2 => by
    rw [lng]
    by_cases he : e = d + 1
    · subst he
      split
      · exact Nat.le_refl _
      · omega
    · have := lng_top b i d e h1 (by omega)
      split
      · rename_i hc
        exact Nat.le_of_lt (Nat.lt_of_le_of_lt this hc)
      · exact this
/-- .. or none, where it has fewer than four bytes. -/
def lng4 (b : List UInt8) (i d : Nat) : Nat × Nat := if (lng b i d).1 < 4 then (0, 0) else lng b i d
def longest4 (b : List UInt8) (i : Nat) : Nat × Nat := lng4 b i (min 4096 i)
theorem lng4_skip {b : List UInt8} {i d : Nat} (h : alike b (i - (d + 1)) i < 4) : lng4 b i (d + 1) = lng4 b i d := by
  unfold lng4
  rw [lng]
  by_cases h1 : (lng b i d).1 < alike b (i - (d + 1)) i
  · rw [if_pos h1, if_pos (show alike b (i - (d + 1)) i < 4 from h), if_pos (by omega)]
  · rw [if_neg h1]
theorem lng4_take {b : List UInt8} {i d : Nat} (h : 4 ≤ alike b (i - (d + 1)) i) :
    lng4 b i (d + 1) = if (lng4 b i d).1 < alike b (i - (d + 1)) i then (alike b (i - (d + 1)) i, d + 1) else lng4 b i d := by
  unfold lng4
  rw [lng]
  by_cases h1 : (lng b i d).1 < alike b (i - (d + 1)) i
  · rw [if_pos h1, if_neg (show ¬ alike b (i - (d + 1)) i < 4 by omega)]
    by_cases h2 : (lng b i d).1 < 4
    · rw [if_pos h2, if_pos (show 0 < alike b (i - (d + 1)) i by omega)]
    · rw [if_neg h2, if_pos h1]
  · rw [if_neg h1, if_neg (show ¬ (lng b i d).1 < 4 by omega), if_neg h1]
theorem lng4_skips {b : List UInt8} {i : Nat} (d : Nat) : ∀ e, d ≤ e → (∀ x, d ≤ x → x < e → alike b (i - (x + 1)) i < 4) → lng4 b i e = lng4 b i d
  | 0, h, _ => by rw [show d = 0 by omega]
  | e + 1, h, hx => by
    by_cases he : d = e + 1
    · rw [he]
    · rw [lng4_skip (hx e (by omega) (by omega)), lng4_skips d e (by omega) (fun x h1 h2 => hx x h1 (by omega))]
/-- Nothing is longer than what is left, or 259. -/
theorem lng4_full {b : List UInt8} {i : Nat} (hi : i ≤ b.length) (d : Nat) (h : 259 ≤ (lng4 b i d).1 ∨ b.length ≤ i + (lng4 b i d).1) (h4 : 4 ≤ (lng4 b i d).1) : ∀ e, d ≤ e → lng4 b i e = lng4 b i d
  | 0, he => by rw [show d = 0 by omega]
  | e + 1, he => by
    by_cases hd : d = e + 1
    · rw [hd]
    · have ih := lng4_full hi d h h4 e (by omega)
      have ha := alike_is b (i - (e + 1)) i hi
      have h1 := ha.le; have h2 := ha.len
      by_cases h5 : alike b (i - (e + 1)) i < 4
      · rw [lng4_skip h5, ih]
      · rw [lng4_take (by omega), ih, if_neg (by omega)]
theorem lng4_ge {b : List UInt8} {i d : Nat} : (lng4 b i d).1 = 0 ∨ 4 ≤ (lng4 b i d).1 := by
  unfold lng4
  split
  · exact .inl rfl
  · exact .inr (by omega)
theorem lng4_le (b : List UInt8) (i d : Nat) : (lng4 b i d).2 ≤ d := by
  unfold lng4
  split
  · exact Nat.zero_le _
  · exact lng_le b i d
theorem lng4_fit {b : List UInt8} {i d : Nat} (h : 4 ≤ (lng4 b i d).1) : 0 < (lng4 b i d).2 ∧ alike b (i - (lng4 b i d).2) i = (lng4 b i d).1 := by
  unfold lng4 at h ⊢
  split
  · rename_i hc; rw [if_pos hc] at h; simp at h
  · rename_i hc; exact lng_fit b i d (by omega)
/-- What the longest copy is good for. -/
structure Copies (b : List UInt8) (i n d : Nat) : Prop where
  four : 4 ≤ n
  most : n ≤ 259
  len : i + n ≤ b.length
  pos : 0 < d
  le : d ≤ i
  win : d ≤ 4096
  eq : ∀ j, j < n → b.getD (i - d + j) 0 = b.getD (i + j) 0
theorem longest4_copies {b : List UInt8} {i : Nat} (hi : i ≤ b.length) (h : 4 ≤ (longest4 b i).1) : Copies b i (longest4 b i).1 (longest4 b i).2 := by
  obtain ⟨h1, h2⟩ := lng4_fit h
  have h3 := lng4_le b i (min 4096 i)
  have ha := alike_is b (i - (longest4 b i).2) i hi
  unfold longest4 at h ⊢
  unfold longest4 at ha
  rw [h2] at ha
  exact ⟨h, ha.le, ha.len, h1, by omega, by omega, ha.eq⟩

/-! ### Tokens -/
def runT (r : List UInt8) : List UInt8 := if r.length = 0 then [] else numL (2 * (r.length - 1)) ++ r
def toksF (b : List UInt8) : Nat → Nat → Nat → List UInt8
  | 0, start, _ => runT (b.drop start)
  | f + 1, start, i =>
    if i < b.length then
      if (longest4 b i).1 < 4 then toksF b f start (i + 1)
      else runT ((b.drop start).take (i - start)) ++ (numL (2 * ((longest4 b i).1 - 4) + 1) ++ (numL (longest4 b i).2 ++ toksF b f (i + (longest4 b i).1) (i + (longest4 b i).1)))
    else runT (b.drop start)
/-- Tokens from place i on, where what stands from start on has not been told. -/
def toks (b : List UInt8) (start i : Nat) : List UInt8 := toksF b (b.length - i) start i
def pressL (b : List UInt8) : List UInt8 := numL b.length ++ toks b 0 0
theorem toksF_same (b : List UInt8) : ∀ (f g start i : Nat), b.length - i ≤ f → b.length - i ≤ g → toksF b f start i = toksF b g start i
  | 0, g, start, i, h1, h2 => by
    cases g with
    | zero => rfl
    | succ g => rw [toksF, toksF, if_neg (by omega)]
  | f + 1, g, start, i, h1, h2 => by
    cases g with
    | zero => rw [toksF, toksF, if_neg (by omega)]
    | succ g =>
      rw [toksF, toksF]
      by_cases h : i < b.length
      · rw [if_pos h, if_pos h]
        by_cases h4 : (longest4 b i).1 < 4
        · rw [if_pos h4, if_pos h4, toksF_same b f g start (i + 1) (by omega) (by omega)]
        · rw [if_neg h4, if_neg h4, toksF_same b f g (i + (longest4 b i).1) (i + (longest4 b i).1) (by omega) (by omega)]
      · rw [if_neg h, if_neg h]
theorem toks_step {b : List UInt8} {start i : Nat} (h : i < b.length) (h4 : (longest4 b i).1 < 4) : toks b start i = toks b start (i + 1) := by
  unfold toks
  rw [show b.length - i = (b.length - (i + 1)) + 1 by omega, toksF, if_pos h, if_pos h4]
theorem toks_copy {b : List UInt8} {start i : Nat} (h : i < b.length) (h4 : ¬ (longest4 b i).1 < 4) :
    toks b start i = runT ((b.drop start).take (i - start)) ++ (numL (2 * ((longest4 b i).1 - 4) + 1) ++ (numL (longest4 b i).2 ++ toks b (i + (longest4 b i).1) (i + (longest4 b i).1))) := by
  unfold toks
  rw [show b.length - i = (b.length - (i + 1)) + 1 by omega, toksF, if_pos h, if_neg h4, toksF_same b (b.length - (i + 1)) (b.length - (i + (longest4 b i).1)) _ _ (by omega) (by omega)]
theorem toks_end {b : List UInt8} {start i : Nat} (h : ¬ i < b.length) : toks b start i = runT (b.drop start) := by
  unfold toks
  rw [show b.length - i = 0 by omega, toksF]
/-- From behind: a place where nothing begins, one where a copy begins, the end. -/
theorem toks_all_of (b : List UInt8) (P : Nat → Nat → Prop) (h1 : ∀ start i, i < b.length → (longest4 b i).1 < 4 → P start (i + 1) → P start i)
    (h2 : ∀ start i, i < b.length → ¬ (longest4 b i).1 < 4 → P (i + (longest4 b i).1) (i + (longest4 b i).1) → P start i) (h3 : ∀ start i, ¬ i < b.length → P start i) : ∀ (m start i : Nat), b.length - i ≤ m → P start i
  | 0, start, i, hm => h3 start i (by omega)
  | m + 1, start, i, hm => by
    by_cases h : i < b.length
    · by_cases h4 : (longest4 b i).1 < 4
      · exact h1 start i h h4 (toks_all_of b P h1 h2 h3 m start (i + 1) (by omega))
      · exact h2 start i h h4 (toks_all_of b P h1 h2 h3 m _ _ (by omega))
    · exact h3 start i h

/-! ### Bytes again -/
def copyL (d : Nat) : Nat → List UInt8 → List UInt8
  | 0, out => out
  | n + 1, out => copyL d n (out ++ [out.getD (out.length - d) 0])
theorem copyL_length (d : Nat) : ∀ (n : Nat) (out : List UInt8), (copyL d n out).length = out.length + n
  | 0, out => rfl
  | n + 1, out => by rw [copyL, copyL_length d n]; simp; omega
/-- One token behind the other; f: at most so many. -/
def tok (size : Nat) : Nat → List UInt8 → List UInt8 → Option (List UInt8)
  | 0, out, p => if p.length = 0 ∧ out.length = size then some out else none
  | f + 1, out, p => if p.length = 0 then (if out.length = size then some out else none) else
    match parse p with
    | none => none
    | some (t, k) =>
      if t % 2 = 1 then
        match parse (p.drop k) with
        | none => none
        | some (d, k2) => if d = 0 ∨ min out.length 4096 < d ∨ min (size - out.length) 259 < t / 2 + 4 then none else tok size f (copyL d (t / 2 + 4) out) ((p.drop k).drop k2)
      else if min (size - out.length) (p.drop k).length < t / 2 + 1 then none else tok size f (out ++ (p.drop k).take (t / 2 + 1)) ((p.drop k).drop (t / 2 + 1))
def openL (p : List UInt8) (most : Int) : Option (List UInt8) :=
  match parse p with
  | none => none
  | some (s, k) => if most < (s : Int) then none else tok s (p.drop k).length [] (p.drop k)
theorem tok_end (size f : Nat) (out : List UInt8) : tok size f out [] = if out.length = size then some out else none := by
  cases f <;> simp [tok]
theorem tok_bad {size f : Nat} {out p : List UInt8} (hp : 0 < p.length) (h : parse p = none) : tok size (f + 1) out p = none := by
  rw [tok, if_neg (by omega), h]
theorem tok_run {size f : Nat} {out : List UInt8} {t : Nat} {q : List UInt8} (ht : t ≤ 4611686018427387903) (h2 : t % 2 = 0) :
    tok size (f + 1) out (numL t ++ q) = if min (size - out.length) q.length < t / 2 + 1 then none else tok size f (out ++ q.take (t / 2 + 1)) (q.drop (t / 2 + 1)) := by
  have hp := numL_pos t
  rw [tok, if_neg (by rw [List.length_append]; omega), parse_numL t q ht]
  simp only [List.drop_left]
  rw [if_neg (by omega)]
theorem tok_copy_bad {size f : Nat} {out : List UInt8} {t : Nat} {q : List UInt8} (ht : t ≤ 4611686018427387903) (h2 : t % 2 = 1) (h : parse q = none) :
    tok size (f + 1) out (numL t ++ q) = none := by
  have hp := numL_pos t
  rw [tok, if_neg (by rw [List.length_append]; omega), parse_numL t q ht]
  simp only [List.drop_left]
  rw [if_pos h2, h]
theorem tok_copy {size f : Nat} {out : List UInt8} {t d : Nat} {r : List UInt8} (ht : t ≤ 4611686018427387903) (h2 : t % 2 = 1) (hd : d ≤ 4611686018427387903) :
    tok size (f + 1) out (numL t ++ (numL d ++ r)) = if d = 0 ∨ min out.length 4096 < d ∨ min (size - out.length) 259 < t / 2 + 4 then none else tok size f (copyL d (t / 2 + 4) out) r := by
  have hp := numL_pos t
  rw [tok, if_neg (by rw [List.length_append]; omega), parse_numL t _ ht]
  simp only [List.drop_left]
  rw [if_pos h2, parse_numL d r hd]
  simp only [List.drop_left]
/-- What is behind more than it says. -/
theorem tok_length (size : Nat) : ∀ (f : Nat) (out p r : List UInt8), tok size f out p = some r → r.length = size
  | 0, out, p, r, h => by
    rw [tok] at h
    split at h
    · rename_i hc; cases h; exact hc.2
    · cases h
  | f + 1, out, p, r, h => by
    rw [tok] at h
    split at h
    · split at h
      · rename_i hc; cases h; exact hc
      · cases h
    · split at h
      · cases h
      · split at h
        · split at h
          · cases h
          · split at h
            · cases h
            · exact tok_length size f _ _ r h
        · split at h
          · cases h
          · exact tok_length size f _ _ r h
end Go.Proofs.Ytjieljmlpbiidaa
