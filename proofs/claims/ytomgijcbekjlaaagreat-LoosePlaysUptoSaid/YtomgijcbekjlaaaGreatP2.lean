/- What the proofs stand on: CodeNum, PressPure, PressPure2, ObjPure, PressSteps, ObjRow. -/
import Derived.Test.YtomgijcbekjlaaaGreatPB0
set_option maxRecDepth 100000
set_option maxHeartbeats 40000000
namespace Go.Proofs.YtomgijcbekjlaaaGreat
section
def numF : Nat -> Nat -> List UInt8
 | 0, n => [UInt8.ofNat n]
 | f + 1, n => if n < 128 then [UInt8.ofNat n] else UInt8.ofNat (n % 128 + 128) :: numF f (n / 128)
def numL (n : Nat) : List UInt8 := numF 8 n
theorem numF_pos (f n : Nat) : 0 < (numF f n).length := by
 cases f with
 | zero => simp [numF]
 | succ f => rw [numF]; split <;> simp
theorem numF_le (f n : Nat) : (numF f n).length <= f + 1 := by
 induction f generalizing n with
 | zero => simp [numF]
 | succ f ih => rw [numF]; split <;> simp; exact ih _
theorem numL_pos (n : Nat) : 0 < (numL n).length := numF_pos 8 n
theorem numL_le (n : Nat) : (numL n).length <= 9 := numF_le 8 n
theorem numF_short (f n i : Nat) (h : n < 128 ^ (i + 1)) : (numF f n).length <= i + 1 := by
 induction f generalizing n i with
 | zero => simp [numF]
 | succ f ih =>
  rw [numF]; split
  ·simp
  ·rename_i hn
   cases i with
   | zero => simp at h; omega
   | succ i =>
    have := ih (n / 128) i (by rw [Nat.pow_succ] at h; omega)
    simp; omega
def parseF : Nat -> Bool -> List UInt8 -> Option (Nat × Nat)
 | _, _, [] => none
 | 0, first, c :: _ => if 63 < c.toNat then none else if c.toNat = 0 /\ first = false then none else some (c.toNat, 1)
 | f + 1, first, c :: r =>
  if 128 <= c.toNat then (parseF f false r).map fun p => (c.toNat % 128 + 128 * p.1, p.2 + 1)
  else if c.toNat = 0 /\ first = false then none else some (c.toNat, 1)
def parse (b : List UInt8) : Option (Nat × Nat) := parseF 8 true b
theorem parseF_numF (f : Nat) : ∀ (n : Nat) (first : Bool) (r : List UInt8), n < 64 * 128 ^ f -> (first = false -> n ≠ 0) -> parseF f first (numF f n ++ r) = some (n, (numF f n).length) := by
 induction f with
 | zero =>
  intro n first r hn h0
  have e : (UInt8.ofNat n).toNat = n := UInt8.toNat_ofNat_of_lt' (by show n < 256; omega)
  simp only [numF, List.cons_append, List.nil_append, parseF, e]; rw [if_neg (by omega), if_neg (fun h => h0 h.2 h.1)]
  rfl
 | succ f ih =>
  intro n first r hn h0
  rw [numF]; by_cases h : n < 128
  ·have e : (UInt8.ofNat n).toNat = n := UInt8.toNat_ofNat_of_lt' (by show n < 256; omega)
   simp only [if_pos h, List.cons_append, List.nil_append, parseF, e]; rw [if_neg (by omega), if_neg (fun h => h0 h.2 h.1)]
   rfl
  ·have e : (UInt8.ofNat (n % 128 + 128)).toNat = n % 128 + 128 := UInt8.toNat_ofNat_of_lt' (by show _ < 256; omega)
   simp only [if_neg h, List.cons_append, parseF, e]; rw [if_pos (by omega), ih (n / 128) false r (by rw [Nat.pow_succ] at hn; omega) (fun _ => by omega)]
   simp only [Option.map_some, List.length_cons]; congr 2
   omega
theorem parse_numL (n : Nat) (r : List UInt8) (h : n <= 4611686018427387903) : parse (numL n ++ r) = some (n, (numL n).length) :=
 parseF_numF 8 n true r (by omega) (fun h => by cases h)
theorem byte_self (c : UInt8) : UInt8.ofNat c.toNat = c := by simp
theorem parseF_some (f : Nat) : ∀ (first : Bool) (b : List UInt8) (n k : Nat), parseF f first b = some (n, k) -> n < 64 * 128 ^ f /\ (first = false -> n ≠ 0) /\ ∃ r, b = numF f n ++ r /\ k = (numF f n).length := by
 induction f with
 | zero =>
  intro first b n k h
  cases b with
  | nil => simp [parseF] at h
  | cons c r =>
   rw [parseF] at h; split at h
   ·cases h
   ·rename_i h1
    split at h
    ·cases h
    ·rename_i h2
     simp only [Option.some.injEq, Prod.mk.injEq] at h; obtain ⟨rfl, rfl⟩ := h; refine ⟨by omega, fun hf h0 => h2 ⟨h0, hf⟩, r, ?_, rfl⟩
     simp [numF]
 | succ f ih =>
  intro first b n k h
  cases b with
  | nil => simp [parseF] at h
  | cons c r =>
   have hc : c.toNat < 256 := c.toNat_lt; rw [parseF] at h; split at h
   ·rename_i h1
    obtain ⟨⟨n', k'⟩, hp, he⟩ := Option.map_eq_some_iff.1 h; simp only [Prod.mk.injEq] at he; obtain ⟨rfl, rfl⟩ := he; obtain ⟨i1, i2, s, rfl, rfl⟩ := ih false r n' k' hp; have hn' := i2 rfl; have e1 : (c.toNat % 128 + 128 * n') / 128 = n' := by omega
    have e2 : (c.toNat % 128 + 128 * n') % 128 + 128 = c.toNat := by omega
    have e3 : numF (f + 1) (c.toNat % 128 + 128 * n') = c :: numF f n' := by
     rw [numF, if_neg (by omega), e1, e2, byte_self]
    refine ⟨by rw [Nat.pow_succ]; omega, fun _ => by omega, s, by rw [e3]; rfl, by rw [e3]; rfl⟩
   ·rename_i h1
    split at h
    ·cases h
    ·rename_i h2
     simp only [Option.some.injEq, Prod.mk.injEq] at h; obtain ⟨rfl, rfl⟩ := h; have e3 : numF (f + 1) c.toNat = [c] := by rw [numF, if_pos (by omega), byte_self]
     refine ⟨?_, fun hf h0 => h2 ⟨h0, hf⟩, r, by rw [e3]; rfl, by rw [e3]; rfl⟩
     have : 0 < 128 ^ f := Nat.pow_pos (by omega)
     rw [Nat.pow_succ]; omega
theorem parse_some {b : List UInt8} {n k : Nat} (h : parse b = some (n, k)) : n <= 4611686018427387903 /\ ∃ r, b = numL n ++ r /\ k = (numL n).length := by
 obtain ⟨h1, _, r, h2, h3⟩ := parseF_some 8 true b n k h; exact ⟨by omega, r, h2, h3⟩
/-! ### Numbers that may be below 0 -/
def clampN (n : Int) : Nat := if n < 0 then 0 else if 4611686018427387903 < n then 4611686018427387903 else n.toNat
theorem clampN_le (n : Int) : clampN n <= 4611686018427387903 := by unfold clampN; split <;> (try split) <;> omega
theorem clampN_nat (n : Nat) (h : n <= 4611686018427387903) : clampN (n : Int) = n := by unfold clampN; rw [if_neg (by omega), if_neg (by omega)]; rfl
theorem clamp_min_max (n : Int) : ∃ q : Int, (if (4611686018427387903 : Int) < n then 4611686018427387903 else n) = q /\ (if q > 0 then q else 0) = (clampN n : Int) := by
 refine ⟨_, rfl, ?_⟩; unfold clampN; split <;> split <;> split <;> (try split) <;> omega
theorem numF_more {f n : Nat} (h : 128 <= n) (hn : n < 64 * 128 ^ f) : ∃ f', f = f' + 1 /\ numF f n = UInt8.ofNat (n % 128 + 128) :: numF f' (n / 128) /\ n / 128 < 64 * 128 ^ f' := by
 cases f with
 | zero => omega
 | succ f => exact ⟨f, rfl, by rw [numF, if_neg (by omega)], by rw [Nat.pow_succ] at hn; omega⟩
theorem numF_last {f n : Nat} (h : n < 128) (hn : n < 64 * 128 ^ f) : numF f n = [UInt8.ofNat n] := by
 cases f with
 | zero => rfl
 | succ f => rw [numF, if_pos h]
theorem clamp_max_min (n : Int) : ∃ q : Int, (if (0 : Int) > n then 0 else n) = q /\ (if (4611686018427387903 : Int) < q then 4611686018427387903 else q) = (clampN n : Int) := by
 refine ⟨_, rfl, ?_⟩; unfold clampN; split <;> split <;> (try split) <;> (try split) <;> omega
structure Behind (bs : List UInt8) (k x : Nat) : Prop where
 lt : x < 128 ^ k
 eq : parse bs = (parseF (8 - k) (k == 0) (bs.drop k)).map fun p => (x + 128 ^ k * p.1, k + p.2)
theorem behind_zero (bs : List UInt8) : Behind bs 0 0 := ⟨by simp, by
 rw [List.drop_zero]; unfold parse; show parseF 8 true bs = Option.map _ (parseF 8 true bs)
 cases parseF 8 true bs <;> simp⟩
theorem drop_at (bs : List UInt8) (k : Nat) (h : k < bs.length) : bs.drop k = bs.getD k 0 :: bs.drop (k + 1) := by
 rw [List.drop_eq_getElem_cons h]; simp [List.getD, h]
theorem behind_end {bs : List UInt8} {k x : Nat} (h : Behind bs k x) (hk : bs.length <= k) : parse bs = none := by
 rw [h.eq, List.drop_eq_nil_of_le hk]
 cases 8 - k <;> rfl
theorem behind_more {bs : List UInt8} {k x : Nat} (h : Behind bs k x) (hk : k < bs.length) (h8 : k < 8) (hc : 128 <= (bs.getD k 0).toNat) : Behind bs (k + 1) (x + (bs.getD k 0).toNat % 128 * 128 ^ k) := by
 refine ⟨?_, ?_⟩
 ·have h1 := h.lt
  have h2 : (bs.getD k 0).toNat % 128 * 128 ^ k <= 127 * 128 ^ k := Nat.mul_le_mul_right _ (by omega)
  rw [Nat.pow_succ]; omega
 ·obtain ⟨f, hf⟩ : ∃ f, 8 - k = f + 1 := ⟨7 - k, by omega⟩
  have e1 : (k + 1 == 0) = false := by simp
  rw [h.eq, drop_at bs k hk, hf, parseF, if_pos hc, show 8 - (k + 1) = f by omega, e1]
  rw [Option.map_map]; congr 1
  funext p
  simp only [Function.comp, Prod.mk.injEq]; refine ⟨?_, by omega⟩
  rw [Nat.mul_add, Nat.pow_succ, Nat.mul_comm ((bs.getD k 0).toNat % 128), Nat.mul_assoc, Nat.add_assoc]
theorem behind_bad {bs : List UInt8} {k x : Nat} (h : Behind bs k x) (hk : k < bs.length) (h8 : k = 8) (hc : 63 < (bs.getD k 0).toNat) : parse bs = none := by
 subst h8; rw [h.eq, drop_at bs 8 hk]; show Option.map _ (parseF 0 false _) = none
 rw [parseF, if_pos hc]; rfl
theorem behind_nought {bs : List UInt8} {k x : Nat} (h : Behind bs k x) (hk : k < bs.length) (h8 : k <= 8) (h0 : 0 < k) (hc : (bs.getD k 0).toNat = 0) : parse bs = none := by
 have e1 : (k == 0) = false := by simp; omega
 rw [h.eq, drop_at bs k hk, e1]
 cases 8 - k with
 | zero => rw [parseF, if_neg (by omega), if_pos ⟨hc, rfl⟩]; rfl
 | succ f => rw [parseF, if_neg (by omega), if_pos ⟨hc, rfl⟩]; rfl
theorem behind_done {bs : List UInt8} {k x : Nat} (h : Behind bs k x) (hk : k < bs.length) (h8 : k <= 8) (h63 : k = 8 -> (bs.getD k 0).toNat <= 63) (hc : (bs.getD k 0).toNat < 128) (h0 : 0 < k -> (bs.getD k 0).toNat ≠ 0) :
  parse bs = some (x + (bs.getD k 0).toNat % 128 * 128 ^ k, k + 1) := by
 have hn : ¬ ((bs.getD k 0).toNat = 0 /\ (k == 0) = false) := fun ⟨a, b⟩ => h0 (by simp at b; omega) a
 have e : (bs.getD k 0).toNat % 128 = (bs.getD k 0).toNat := Nat.mod_eq_of_lt hc
 rw [h.eq, drop_at bs k hk, e, Nat.mul_comm]; rcases Nat.eq_or_lt_of_le h8 with rfl | hlt
 ·show Option.map _ (parseF 0 _ _) = _
  rw [parseF, if_neg (by have := h63 rfl; omega), if_neg hn]
  rfl
 ·obtain ⟨f, hf⟩ : ∃ f, 8 - k = f + 1 := ⟨7 - k, by omega⟩
  rw [hf, parseF, if_neg (by omega), if_neg hn]
  rfl
theorem shl_val (k : Nat) (c : Nat) (h : k <= 8) (hc : c < 128) : ((c * 128 ^ k : Nat) : Int) <= 9151314442816847872 /\ (c : Int) * 2 ^ (7 * k) = ((c * 128 ^ k : Nat) : Int) := by
 have h1 : 128 ^ k <= 128 ^ 8 := Nat.pow_le_pow_right (by omega) h
 have h2 : c * 128 ^ k <= 127 * 128 ^ 8 := Nat.mul_le_mul (by omega) h1
 refine ⟨by omega, ?_⟩
 rw [Int.pow_mul]; simp
theorem flat_take (ls : List (List UInt8)) (k : Nat) (h : k < ls.length) : (ls.take (k + 1)).flatten = (ls.take k).flatten ++ ls.getD k [] := by
 rw [List.take_succ_eq_append_getElem h, List.flatten_append]; simp [List.getD, h]
theorem flat_take_le (ls : List (List UInt8)) (k : Nat) : (ls.take k).flatten.length <= ls.flatten.length := by
 have e : ls.flatten = (ls.take k).flatten ++ (ls.drop k).flatten := by rw [<- List.flatten_append, List.take_append_drop]
 rw [e, List.length_append]; omega
def NoText (bs : List UInt8) (most : Int) : Prop := parse bs = none \/ ∃ n k, parse bs = some (n, k) /\ k <= bs.length /\ n <= 4611686018427387903 /\ (most < (n : Int) \/ bs.length < k + n)
theorem parse_cases (bs : List UInt8) : parse bs = none \/ ∃ n rest, n <= 4611686018427387903 /\ bs = numL n ++ rest := by
 cases h : parse bs with
 | none => exact .inl rfl
 | some p =>
  obtain ⟨h1, r, h2, _⟩ := parse_some (n := p.1) (k := p.2) h
  exact .inr ⟨p.1, r, h1, h2⟩
theorem text_cases (bs : List UInt8) (most : Int) : NoText bs most \/ ∃ t rest, bs = numL t.length ++ (t ++ rest) /\ (t.length : Int) <= most := by
 cases h : parse bs with
 | none => exact .inl (.inl h)
 | some p =>
  obtain ⟨h1, r, h2, h3⟩ := parse_some (n := p.1) (k := p.2) h
  have hl : bs.length = p.2 + r.length := by rw [h3, h2, List.length_append]
  by_cases hc : most < (p.1 : Int) \/ bs.length < p.2 + p.1
  ·exact .inl (.inr ⟨p.1, p.2, h, by omega, h1, hc⟩)
  ·have hlen : (r.take p.1).length = p.1 := by rw [List.length_take]; omega
   refine .inr ⟨r.take p.1, r.drop p.1, ?_, by omega⟩
   rw [hlen, List.take_append_drop]; exact h2
end
section
/-! ### What is alike -/
def alk (b : List UInt8) (k i : Nat) : Nat -> Nat -> Nat
 | 0, n => n
 | f + 1, n => if i + n < b.length /\ b.getD (k + n) 0 = b.getD (i + n) 0 then alk b k i f (n + 1) else n
def alike (b : List UInt8) (k i : Nat) : Nat := alk b k i 259 0
structure IsAlike (b : List UInt8) (k i n : Nat) : Prop where
 le : n <= 259
 len : i + n <= b.length
 eq : ∀ j, j < n -> b.getD (k + j) 0 = b.getD (i + j) 0
 stop : n = 259 \/ i + n = b.length \/ b.getD (k + n) 0 ≠ b.getD (i + n) 0
theorem IsAlike.unique {b : List UInt8} {k i n m : Nat} (hn : IsAlike b k i n) (hm : IsAlike b k i m) : n = m := by
 rcases Nat.lt_trichotomy n m with h | h | h
 ·exfalso
  have h1 := hm.le; have h2 := hm.len; rcases hn.stop with e | e | e
  ·omega
  ·omega
  ·exact e (hm.eq n h)
 ·exact h
 ·exfalso
  have h1 := hn.le; have h2 := hn.len; rcases hm.stop with e | e | e
  ·omega
  ·omega
  ·exact e (hn.eq m h)
theorem alk_is (b : List UInt8) (k i : Nat) : ∀ (f n : Nat), n + f = 259 -> i + n <= b.length -> (∀ j, j < n -> b.getD (k + j) 0 = b.getD (i + j) 0) -> IsAlike b k i (alk b k i f n)
 | 0, n, h1, h2, h3 => ⟨by rw [alk]; omega, by rw [alk]; exact h2, by rw [alk]; exact h3, by rw [alk]; exact .inl h1⟩
 | f + 1, n, h1, h2, h3 => by
  rw [alk]; split
  ·rename_i h
   refine alk_is b k i f (n + 1) (by omega) (by omega) (fun j hj => ?_)
   by_cases e : j = n
   ·subst e; exact h.2
   ·exact h3 j (by omega)
  ·rename_i h
   refine ⟨by omega, h2, h3, ?_⟩
   by_cases e : i + n = b.length
   ·exact .inr (.inl e)
   ·exact .inr (.inr (fun e' => h ⟨by omega, e'⟩))
theorem alike_is (b : List UInt8) (k i : Nat) (h : i <= b.length) : IsAlike b k i (alike b k i) := alk_is b k i 259 0 rfl h (fun j hj => absurd hj (Nat.not_lt_zero j))
theorem alike_of {b : List UInt8} {k i n : Nat} (h : IsAlike b k i n) : n = alike b k i := h.unique (alike_is b k i (by have := h.len; omega))

/-! ### The longest copy -/
def lng (b : List UInt8) (i : Nat) : Nat -> Nat × Nat
 | 0 => (0, 0)
 | d + 1 => if (lng b i d).1 < alike b (i - (d + 1)) i then (alike b (i - (d + 1)) i, d + 1) else lng b i d
def longest (b : List UInt8) (i : Nat) : Nat × Nat := lng b i (min 4096 i)
theorem lng_le (b : List UInt8) (i : Nat) : ∀ d, (lng b i d).2 <= d
 | 0 => Nat.le_refl _
 | d + 1 => by
  rw [lng]; split
  ·exact Nat.le_refl _
  ·exact Nat.le_succ_of_le (lng_le b i d)
theorem lng_fit (b : List UInt8) (i : Nat) : ∀ d, 0 < (lng b i d).1 -> 0 < (lng b i d).2 /\ alike b (i - (lng b i d).2) i = (lng b i d).1
 | 0, h => absurd h (Nat.lt_irrefl _)
 | d + 1, h => by
  rw [lng] at h |-; split
  ·exact ⟨Nat.succ_pos _, rfl⟩
  ·rename_i hc
   rw [if_neg hc] at h; exact lng_fit b i d h
def lng4 (b : List UInt8) (i d : Nat) : Nat × Nat := if (lng b i d).1 < 4 then (0, 0) else lng b i d
def longest4 (b : List UInt8) (i : Nat) : Nat × Nat := lng4 b i (min 4096 i)
theorem lng4_skip {b : List UInt8} {i d : Nat} (h : alike b (i - (d + 1)) i < 4) : lng4 b i (d + 1) = lng4 b i d := by
 unfold lng4; rw [lng]; by_cases h1 : (lng b i d).1 < alike b (i - (d + 1)) i
 ·rw [if_pos h1, if_pos (show alike b (i - (d + 1)) i < 4 from h), if_pos (by omega)]
 ·rw [if_neg h1]
theorem lng4_take {b : List UInt8} {i d : Nat} (h : 4 <= alike b (i - (d + 1)) i) :
  lng4 b i (d + 1) = if (lng4 b i d).1 < alike b (i - (d + 1)) i then (alike b (i - (d + 1)) i, d + 1) else lng4 b i d := by
 unfold lng4; rw [lng]; by_cases h1 : (lng b i d).1 < alike b (i - (d + 1)) i
 ·rw [if_pos h1, if_neg (show ¬ alike b (i - (d + 1)) i < 4 by omega)]
  by_cases h2 : (lng b i d).1 < 4
  ·rw [if_pos h2, if_pos (show 0 < alike b (i - (d + 1)) i by omega)]
  ·rw [if_neg h2, if_pos h1]
 ·rw [if_neg h1, if_neg (show ¬ (lng b i d).1 < 4 by omega), if_neg h1]
theorem lng4_skips {b : List UInt8} {i : Nat} (d : Nat) : ∀ e, d <= e -> (∀ x, d <= x -> x < e -> alike b (i - (x + 1)) i < 4) -> lng4 b i e = lng4 b i d
 | 0, h, _ => by rw [show d = 0 by omega]
 | e + 1, h, hx => by
  by_cases he : d = e + 1
  ·rw [he]
  ·rw [lng4_skip (hx e (by omega) (by omega)), lng4_skips d e (by omega) (fun x h1 h2 => hx x h1 (by omega))]
theorem lng4_full {b : List UInt8} {i : Nat} (hi : i <= b.length) (d : Nat) (h : 259 <= (lng4 b i d).1 \/ b.length <= i + (lng4 b i d).1) (h4 : 4 <= (lng4 b i d).1) : ∀ e, d <= e -> lng4 b i e = lng4 b i d
 | 0, he => by rw [show d = 0 by omega]
 | e + 1, he => by
  by_cases hd : d = e + 1
  ·rw [hd]
  ·have ih := lng4_full hi d h h4 e (by omega)
   have ha := alike_is b (i - (e + 1)) i hi; have h1 := ha.le; have h2 := ha.len; by_cases h5 : alike b (i - (e + 1)) i < 4
   ·rw [lng4_skip h5, ih]
   ·rw [lng4_take (by omega), ih, if_neg (by omega)]
theorem lng4_ge {b : List UInt8} {i d : Nat} : (lng4 b i d).1 = 0 \/ 4 <= (lng4 b i d).1 := by
 unfold lng4; split
 ·exact .inl rfl
 ·exact .inr (by omega)
theorem lng4_le (b : List UInt8) (i d : Nat) : (lng4 b i d).2 <= d := by
 unfold lng4; split
 ·exact Nat.zero_le _
 ·exact lng_le b i d
theorem lng4_fit {b : List UInt8} {i d : Nat} (h : 4 <= (lng4 b i d).1) : 0 < (lng4 b i d).2 /\ alike b (i - (lng4 b i d).2) i = (lng4 b i d).1 := by
 unfold lng4 at h |-
 split
 ·rename_i hc; rw [if_pos hc] at h; simp at h
 ·rename_i hc; exact lng_fit b i d (by omega)
structure Copies (b : List UInt8) (i n d : Nat) : Prop where
 four : 4 <= n
 most : n <= 259
 len : i + n <= b.length
 pos : 0 < d
 le : d <= i
 win : d <= 4096
 eq : ∀ j, j < n -> b.getD (i - d + j) 0 = b.getD (i + j) 0
theorem longest4_copies {b : List UInt8} {i : Nat} (hi : i <= b.length) (h : 4 <= (longest4 b i).1) : Copies b i (longest4 b i).1 (longest4 b i).2 := by
 obtain ⟨h1, h2⟩ := lng4_fit h; have h3 := lng4_le b i (min 4096 i); have ha := alike_is b (i - (longest4 b i).2) i hi; unfold longest4 at h |-
 unfold longest4 at ha; rw [h2] at ha; exact ⟨h, ha.le, ha.len, h1, by omega, by omega, ha.eq⟩

/-! ### Tokens -/
def runT (r : List UInt8) : List UInt8 := if r.length = 0 then [] else numL (2 * (r.length - 1)) ++ r
def toksF (b : List UInt8) : Nat -> Nat -> Nat -> List UInt8
 | 0, start, _ => runT (b.drop start)
 | f + 1, start, i =>
  if i < b.length then
   if (longest4 b i).1 < 4 then toksF b f start (i + 1)
   else runT ((b.drop start).take (i - start)) ++ (numL (2 * ((longest4 b i).1 - 4) + 1) ++ (numL (longest4 b i).2 ++ toksF b f (i + (longest4 b i).1) (i + (longest4 b i).1)))
  else runT (b.drop start)
def toks (b : List UInt8) (start i : Nat) : List UInt8 := toksF b (b.length - i) start i
def pressL (b : List UInt8) : List UInt8 := numL b.length ++ toks b 0 0
theorem toksF_same (b : List UInt8) : ∀ (f g start i : Nat), b.length - i <= f -> b.length - i <= g -> toksF b f start i = toksF b g start i
 | 0, g, start, i, h1, h2 => by
  cases g with
  | zero => rfl
  | succ g => rw [toksF, toksF, if_neg (by omega)]
 | f + 1, g, start, i, h1, h2 => by
  cases g with
  | zero => rw [toksF, toksF, if_neg (by omega)]
  | succ g =>
   rw [toksF, toksF]; by_cases h : i < b.length
   ·rw [if_pos h, if_pos h]
    by_cases h4 : (longest4 b i).1 < 4
    ·rw [if_pos h4, if_pos h4, toksF_same b f g start (i + 1) (by omega) (by omega)]
    ·rw [if_neg h4, if_neg h4, toksF_same b f g (i + (longest4 b i).1) (i + (longest4 b i).1) (by omega) (by omega)]
   ·rw [if_neg h, if_neg h]
theorem toks_step {b : List UInt8} {start i : Nat} (h : i < b.length) (h4 : (longest4 b i).1 < 4) : toks b start i = toks b start (i + 1) := by
 unfold toks; rw [show b.length - i = (b.length - (i + 1)) + 1 by omega, toksF, if_pos h, if_pos h4]
theorem toks_copy {b : List UInt8} {start i : Nat} (h : i < b.length) (h4 : ¬ (longest4 b i).1 < 4) :
  toks b start i = runT ((b.drop start).take (i - start)) ++ (numL (2 * ((longest4 b i).1 - 4) + 1) ++ (numL (longest4 b i).2 ++ toks b (i + (longest4 b i).1) (i + (longest4 b i).1))) := by
 unfold toks; rw [show b.length - i = (b.length - (i + 1)) + 1 by omega, toksF, if_pos h, if_neg h4, toksF_same b (b.length - (i + 1)) (b.length - (i + (longest4 b i).1)) _ _ (by omega) (by omega)]
theorem toks_end {b : List UInt8} {start i : Nat} (h : ¬ i < b.length) : toks b start i = runT (b.drop start) := by
 unfold toks; rw [show b.length - i = 0 by omega, toksF]
theorem toks_all_of (b : List UInt8) (P : Nat -> Nat -> Prop) (h1 : ∀ start i, i < b.length -> (longest4 b i).1 < 4 -> P start (i + 1) -> P start i)
  (h2 : ∀ start i, i < b.length -> ¬ (longest4 b i).1 < 4 -> P (i + (longest4 b i).1) (i + (longest4 b i).1) -> P start i) (h3 : ∀ start i, ¬ i < b.length -> P start i) : ∀ (m start i : Nat), b.length - i <= m -> P start i
 | 0, start, i, hm => h3 start i (by omega)
 | m + 1, start, i, hm => by
  by_cases h : i < b.length
  ·by_cases h4 : (longest4 b i).1 < 4
   ·exact h1 start i h h4 (toks_all_of b P h1 h2 h3 m start (i + 1) (by omega))
   ·exact h2 start i h h4 (toks_all_of b P h1 h2 h3 m _ _ (by omega))
  ·exact h3 start i h

/-! ### Bytes again -/
def copyL (d : Nat) : Nat -> List UInt8 -> List UInt8
 | 0, out => out
 | n + 1, out => copyL d n (out ++ [out.getD (out.length - d) 0])
theorem copyL_length (d : Nat) : ∀ (n : Nat) (out : List UInt8), (copyL d n out).length = out.length + n
 | 0, out => rfl
 | n + 1, out => by rw [copyL, copyL_length d n]; simp; omega
def tok (size : Nat) : Nat -> List UInt8 -> List UInt8 -> Option (List UInt8)
 | 0, out, p => if p.length = 0 /\ out.length = size then some out else none
 | f + 1, out, p => if p.length = 0 then (if out.length = size then some out else none) else
  match parse p with
  | none => none
  | some (t, k) =>
   if t % 2 = 1 then
    match parse (p.drop k) with
    | none => none
    | some (d, k2) => if d = 0 \/ min out.length 4096 < d \/ min (size - out.length) 259 < t / 2 + 4 then none else tok size f (copyL d (t / 2 + 4) out) ((p.drop k).drop k2)
   else if min (size - out.length) (p.drop k).length < t / 2 + 1 then none else tok size f (out ++ (p.drop k).take (t / 2 + 1)) ((p.drop k).drop (t / 2 + 1))
def openL (p : List UInt8) (most : Int) : Option (List UInt8) :=
 match parse p with
 | none => none
 | some (s, k) => if most < (s : Int) then none else tok s (p.drop k).length [] (p.drop k)
theorem tok_end (size f : Nat) (out : List UInt8) : tok size f out [] = if out.length = size then some out else none := by
 cases f <;> simp [tok]
theorem tok_run {size f : Nat} {out : List UInt8} {t : Nat} {q : List UInt8} (ht : t <= 4611686018427387903) (h2 : t % 2 = 0) :
  tok size (f + 1) out (numL t ++ q) = if min (size - out.length) q.length < t / 2 + 1 then none else tok size f (out ++ q.take (t / 2 + 1)) (q.drop (t / 2 + 1)) := by
 have hp := numL_pos t; rw [tok, if_neg (by rw [List.length_append]; omega), parse_numL t q ht]
 simp only [List.drop_left]; rw [if_neg (by omega)]
theorem tok_copy {size f : Nat} {out : List UInt8} {t d : Nat} {r : List UInt8} (ht : t <= 4611686018427387903) (h2 : t % 2 = 1) (hd : d <= 4611686018427387903) :
  tok size (f + 1) out (numL t ++ (numL d ++ r)) = if d = 0 \/ min out.length 4096 < d \/ min (size - out.length) 259 < t / 2 + 4 then none else tok size f (copyL d (t / 2 + 4) out) r := by
 have hp := numL_pos t; rw [tok, if_neg (by rw [List.length_append]; omega), parse_numL t _ ht]
 simp only [List.drop_left]; rw [if_pos h2, parse_numL d r hd]; simp only [List.drop_left]
theorem tok_length (size : Nat) : ∀ (f : Nat) (out p r : List UInt8), tok size f out p = some r -> r.length = size
 | 0, out, p, r, h => by
  rw [tok] at h; split at h
  ·rename_i hc; cases h; exact hc.2
  ·cases h
 | f + 1, out, p, r, h => by
  rw [tok] at h; split at h
  ·split at h
   ·rename_i hc; cases h; exact hc
   ·cases h
  ·split at h
   ·cases h
   ·split at h
    ·split at h
     ·cases h
     ·split at h
      ·cases h
      ·exact tok_length size f _ _ r h
    ·split at h
     ·cases h
     ·exact tok_length size f _ _ r h
end
section
theorem take_snoc8 (b : List UInt8) (i : Nat) (h : i < b.length) : b.take (i + 1) = b.take i ++ [b.getD i 0] := by
 rw [List.take_succ_eq_append_getElem h]; simp [List.getD, h]
theorem copyL_take (b : List UInt8) (i d : Nat) (hd0 : 0 < d) (hdi : d <= i) : ∀ (m n : Nat), i + n + m <= b.length -> (∀ j, j < n + m -> b.getD (i - d + j) 0 = b.getD (i + j) 0) -> copyL d m (b.take (i + n)) = b.take (i + n + m)
 | 0, n, _, _ => rfl
 | m + 1, n, hl, he => by
  have e1 : (b.take (i + n)).length = i + n := by rw [List.length_take]; omega
  have e2 : (b.take (i + n)).getD (i + n - d) 0 = b.getD (i + n) 0 := by
   rw [<- he n (by omega)]
   simp only [List.getD, List.getElem?_take]; rw [if_pos (by omega), show i + n - d = i - d + n by omega]
  rw [copyL, e1, e2, <- take_snoc8 b (i + n) (by omega)]
  have := copyL_take b i d hd0 hdi m (n + 1) (by omega) (fun j hj => he j (by omega))
  rw [show i + (n + 1) = i + n + 1 by omega] at this
  rw [this]; congr 1
  omega
theorem runT_pos {r : List UInt8} (h : 0 < r.length) : runT r = numL (2 * (r.length - 1)) ++ r := by rw [runT, if_neg (by omega)]
theorem runT_nil : runT [] = [] := rfl
theorem tok_runT {b : List UInt8} {start i : Nat} {R : List UInt8} (hb : b.length <= 281474976710656) (h1 : start <= i) (h2 : i <= b.length) (f : Nat) (hf : (runT ((b.drop start).take (i - start)) ++ R).length <= f) :
  ∃ f', R.length <= f' /\ f' <= f /\ tok b.length f (b.take start) (runT ((b.drop start).take (i - start)) ++ R) = tok b.length f' (b.take i) R := by
 have hl : ((b.drop start).take (i - start)).length = i - start := by rw [List.length_take, List.length_drop]; omega
 by_cases h : start = i
 ·subst h
  have e : (b.drop start).take (start - start) = [] := by rw [Nat.sub_self, List.take_zero]
  rw [e, runT_nil, List.nil_append] at hf |-; exact ⟨f, hf, Nat.le_refl _, rfl⟩
 ·rw [runT_pos (by omega), List.append_assoc] at hf |-
  have hp := numL_pos (2 * (((b.drop start).take (i - start)).length - 1))
  cases f with
  | zero => rw [List.length_append] at hf; omega
  | succ f =>
   rw [tok_run (by omega) (by omega)]
   have hs : (b.take start).length = start := by rw [List.length_take]; omega
   have ht : 2 * (((b.drop start).take (i - start)).length - 1) / 2 + 1 = ((b.drop start).take (i - start)).length := by omega
   rw [if_neg (by rw [hs, List.length_append]; omega), ht, List.take_left, List.drop_left]
   rw [List.length_append, List.length_append] at hf; refine ⟨f, by omega, by omega, ?_⟩
   congr 1
   have e := List.take_add (l := b) (i := start) (j := i - start)
   rw [show start + (i - start) = i by omega] at e
   exact e.symm
theorem tok_toks (b : List UInt8) (hb : b.length <= 281474976710656) (start i : Nat) : start <= i -> i <= b.length -> ∀ f, (toks b start i).length <= f -> tok b.length f (b.take start) (toks b start i) = some b := by
 refine toks_all_of b (fun start i => start <= i -> i <= b.length -> ∀ f, (toks b start i).length <= f -> tok b.length f (b.take start) (toks b start i) = some b) ?_ ?_ ?_ _ start i (Nat.le_refl _)
 ·intro start i h h4 ih h1 h2 f hf
  rw [toks_step h h4] at hf |-; exact ih (by omega) (by omega) f hf
 ·intro start i h h4 ih h1 h2 f hf
  have hc := longest4_copies (b := b) (i := i) (by omega) (by omega)
  rw [toks_copy h h4] at hf |-; generalize (longest4 b i).1 = n at *
  generalize (longest4 b i).2 = d at *
  obtain ⟨f1, g1, g2, e1⟩ := tok_runT hb h1 h2 f hf; rw [e1]; have hp := numL_pos (2 * (n - 4) + 1); have hq := numL_pos d
  cases f1 with
  | zero => rw [List.length_append] at g1; omega
  | succ f1 =>
   have c1 := hc.four; have c2 := hc.most; have c3 := hc.len; have c4 := hc.pos; have c5 := hc.le; have c6 := hc.win; have hs : (b.take i).length = i := by rw [List.length_take]; omega
   have ht : (2 * (n - 4) + 1) / 2 + 4 = n := by omega
   rw [tok_copy (by omega) (by omega) (by omega), ht, if_neg (by rw [hs]; omega)]
   have hcp := copyL_take b i d c4 c5 n 0 (by omega) (fun j hj => hc.eq j (by omega))
   rw [Nat.add_zero] at hcp; rw [hcp]; rw [List.length_append, List.length_append] at g1; exact ih (Nat.le_refl _) c3 f1 (by omega)
 ·intro start i h h1 h2 f hf
  obtain rfl : i = b.length := by omega
  rw [toks_end h] at hf |-; have e : b.drop start = (b.drop start).take (b.length - start) := by rw [List.take_of_length_le (by rw [List.length_drop]; omega)]
  rw [e, <- List.append_nil (runT _)] at hf |-; obtain ⟨f1, g1, g2, e1⟩ := tok_runT hb h1 h2 f hf; rw [e1, tok_end, List.take_length, if_pos rfl]
theorem open_press (b : List UInt8) (hb : b.length <= 281474976710656) (most : Int) : openL (pressL b) most = if most < (b.length : Int) then none else some b := by
 unfold openL pressL; rw [parse_numL b.length _ (by omega)]
 simp only [List.drop_left]; split
 ·rfl
 ·exact tok_toks b hb 0 0 (Nat.le_refl _) (Nat.zero_le _) _ (Nat.le_refl _)

/-! ### How long they are -/
theorem numL_short {n : Nat} (i : Nat) (h : n < 128 ^ (i + 1)) : (numL n).length <= i + 1 := numF_short 8 n i h
theorem runT_ge (r : List UInt8) : r.length <= (runT r).length := by
 unfold runT; split
 ·omega
 ·rw [List.length_append]; omega
theorem runT_le (r : List UInt8) : 64 * (runT r).length <= 65 * r.length + 64 := by
 unfold runT; split
 ·simp
 ·rw [List.length_append]
  by_cases h1 : r.length <= 64
  ·have := numL_short (n := 2 * (r.length - 1)) 0 (by omega)
   omega
  ·by_cases h2 : r.length <= 8192
   ·have := numL_short (n := 2 * (r.length - 1)) 1 (by omega)
    omega
   ·have := numL_le (2 * (r.length - 1))
    omega
theorem toks_le (b : List UInt8) (start i : Nat) : start <= i -> i <= b.length -> 64 * (toks b start i).length <= 65 * (b.length - start) + 64 := by
 refine toks_all_of b (fun start i => start <= i -> i <= b.length -> 64 * (toks b start i).length <= 65 * (b.length - start) + 64) ?_ ?_ ?_ _ start i (Nat.le_refl _)
 ·intro start i h h4 ih h1 h2
  rw [toks_step h h4]; exact ih (by omega) (by omega)
 ·intro start i h h4 ih h1 h2
  have hc := longest4_copies (b := b) (i := i) (by omega) (by omega)
  rw [toks_copy h h4]; generalize (longest4 b i).1 = n at *
  generalize (longest4 b i).2 = d at *
  have c1 := hc.four; have c2 := hc.most; have c3 := hc.len; have c6 := hc.win; have hl : ((b.drop start).take (i - start)).length = i - start := by rw [List.length_take, List.length_drop]; omega
  have hr := runT_le ((b.drop start).take (i - start)); rw [hl] at hr; have hi := ih (Nat.le_refl _) c3; have hd := numL_short (n := d) 1 (by omega)
  rw [List.length_append, List.length_append, List.length_append]; by_cases h5 : n <= 67
  ·have := numL_short (n := 2 * (n - 4) + 1) 0 (by omega)
   omega
  ·have := numL_short (n := 2 * (n - 4) + 1) 1 (by omega)
   omega
 ·intro start i h h1 h2
  rw [toks_end h]; have := runT_le (b.drop start)
  rw [List.length_drop] at this; omega
theorem press_wide (b : List UInt8) : (pressL b).length <= b.length + b.length / 64 + 10 := by
 have h1 := toks_le b 0 0 (Nat.le_refl _) (Nat.zero_le _); have h2 := numL_le b.length; unfold pressL; rw [List.length_append]; omega

end
section
abbrev OB := List UInt8
structure EntR where
 nm : OB
 dir : Bool
 id : OB
structure ObjR where
 kind : Int
 data : OB
 ents : List EntR
 tree : OB
 ups : List OB
 target : OB
 name : OB
 who : OB
 stamp : Int
 text : OB
def zeroO (k : Int) : ObjR := ⟨k, [], [], [], [], [], [], [], 0, []⟩
/-! ### Which may be -/
def partB (s : OB) : Bool := s.all (fun x => x != 0 && x != 47) && decide (1 <= s.length) && decide (s.length <= 100) && !(s == [46]) && !(s == [46, 46])
def risingB : List EntR -> Bool
 | [] => true
 | [_] => true
 | a :: b :: r => decide (a.nm < b.nm) && risingB (b :: r)
def entB (e : EntR) : Bool := partB e.nm && decide (e.id.length = 32)
def entsB (l : List EntR) : Bool := l.all entB && risingB l && decide (l.length <= 4096)
def onceB : List OB -> Bool
 | [] => true
 | a :: r => r.all (fun x => !(x == a)) && onceB r
def upsB (l : List OB) : Bool := l.all (fun u => decide (u.length = 32)) && onceB l && decide (l.length <= 4)
def toldB (o : ObjR) : Bool := decide (o.who.length <= 1000) && decide (o.text.length <= 1000) && decide (0 <= o.stamp) && decide (o.stamp <= 1099511627776)
def bareB (o : ObjR) (d e c t w : Bool) : Bool :=
 !(d && decide (0 < o.data.length)) && !(e && decide (0 < o.ents.length)) && !(c && (!(o.tree == []) || decide (0 < o.ups.length))) && !(t && (!(o.target == []) || !(o.name == []))) && (!w || (o.who == [] && o.text == [] && decide (o.stamp = 0)))
def okO (o : ObjR) : Bool :=
 if o.kind = 1 then decide (o.data.length <= 1048576) && bareB o false true true true true
 else if o.kind = 2 then entsB o.ents && bareB o true false true true true
 else if o.kind = 3 then decide (o.tree.length = 32) && upsB o.ups && toldB o && bareB o true true false true false
 else if o.kind = 4 then decide (o.target.length = 32) && (decide (1 <= o.name.length) && decide (o.name.length <= 200)) && toldB o && bareB o true true true false false
 else false
/-! ### Bytes -/
def txtL (t : OB) : OB := numL t.length ++ t
def entL (e : EntR) : OB := txtL e.nm ++ ((if e.dir = true then 1 else 0) :: e.id)
def tailO (o : ObjR) : OB := txtL o.who ++ (numL o.stamp.toNat ++ txtL o.text)
def bodyL (o : ObjR) : OB :=
 if o.kind = 1 then o.data
 else if o.kind = 2 then numL o.ents.length ++ (o.ents.map entL).flatten
 else if o.kind = 3 then o.tree ++ (numL o.ups.length ++ (o.ups.flatten ++ tailO o))
 else o.target ++ (txtL o.name ++ tailO o)
def encO (o : ObjR) : OB := UInt8.ofNat o.kind.toNat :: bodyL o
/-! ### Reading -/
abbrev RS := OB × Bool
def rdBytes (n : Nat) (s : RS) : OB × RS := if s.1.length < n then ([], (s.1, true)) else (s.1.take n, (s.1.drop n, s.2))
def rdNum (s : RS) : Nat × RS := match parse s.1 with
 | none => (0, (s.1, true))
 | some p => (p.1, (s.1.drop p.2, s.2))
def rdText (s : RS) : OB × RS := match parse s.1 with
 | none => ([], (s.1, true))
 | some p => if 1048576 < p.1 \/ s.1.length < p.2 + p.1 then ([], (s.1, true)) else ((s.1.drop p.2).take p.1, ((s.1.drop p.2).drop p.1, s.2))
def rdEnt (s : RS) : EntR × RS := (⟨(rdText s).1, (rdBytes 1 (rdText s).2).1 == [1], (rdBytes 32 (rdBytes 1 (rdText s).2).2).1⟩, (rdBytes 32 (rdBytes 1 (rdText s).2).2).2)
def rdEnts : Nat -> RS -> List EntR × RS
 | 0, s => ([], s)
 | n + 1, s => if s.2 = true then ([], s) else ((rdEnt s).1 :: (rdEnts n (rdEnt s).2).1, (rdEnts n (rdEnt s).2).2)
def rdUps : Nat -> RS -> List OB × RS
 | 0, s => ([], s)
 | n + 1, s => if s.2 = true then ([], s) else ((rdBytes 32 s).1 :: (rdUps n (rdBytes 32 s).2).1, (rdUps n (rdBytes 32 s).2).2)
def rdTail (o : ObjR) (s : RS) : ObjR × RS := ({ o with who := (rdText s).1, stamp := ((rdNum (rdText s).2).1 : Int), text := (rdText (rdNum (rdText s).2).2).1 }, (rdText (rdNum (rdText s).2).2).2)
def rdTree (s : RS) : ObjR × RS := ({ zeroO 2 with ents := (rdEnts (rdNum s).1 (rdNum s).2).1 }, (rdEnts (rdNum s).1 (rdNum s).2).2)
def rdCommit (s : RS) : ObjR × RS :=
 rdTail { zeroO 3 with tree := (rdBytes 32 s).1, ups := (rdUps (rdNum (rdBytes 32 s).2).1 (rdNum (rdBytes 32 s).2).2).1 } (rdUps (rdNum (rdBytes 32 s).2).1 (rdNum (rdBytes 32 s).2).2).2
def rdTag (s : RS) : ObjR × RS := rdTail { zeroO 4 with target := (rdBytes 32 s).1, name := (rdText (rdBytes 32 s).2).1 } (rdText (rdBytes 32 s).2).2
def rdO (k : Nat) (r : OB) : ObjR × RS :=
 if k = 1 then ({ zeroO 1 with data := r }, (r, false)) else if k = 2 then rdTree (r, false) else if k = 3 then rdCommit (r, false) else if k = 4 then rdTag (r, false) else (zeroO (k : Int), (r, false))
def decO : OB -> Option ObjR
 | [] => none
 | c :: r => if (rdO c.toNat r).2.2 = true \/ okO (rdO c.toNat r).1 = false \/ encO (rdO c.toNat r).1 ≠ c :: r then none else some (rdO c.toNat r).1
theorem decO_cons (c : UInt8) (r : OB) : decO (c :: r) = if (rdO c.toNat r).2.2 = true \/ okO (rdO c.toNat r).1 = false \/ encO (rdO c.toNat r).1 ≠ c :: r then none else some (rdO c.toNat r).1 := rfl
/-! ### There and back -/
theorem rdBytes_app {t r : OB} {n : Nat} (h : t.length = n) (x : Bool) : rdBytes n (t ++ r, x) = (t, (r, x)) := by
 subst h; unfold rdBytes; rw [if_neg (by simp)]
 simp
theorem rdNum_app {n : Nat} (h : n <= 4611686018427387903) (r : OB) (x : Bool) : rdNum (numL n ++ r, x) = (n, (r, x)) := by
 unfold rdNum; simp only [parse_numL n r h]; simp
theorem rdText_app {t : OB} (h : t.length <= 1048576) (r : OB) (x : Bool) : rdText (txtL t ++ r, x) = (t, (r, x)) := by
 unfold rdText txtL; simp only [List.append_assoc, parse_numL t.length (t ++ r) (by omega)]
 rw [if_neg (by simp; omega)]
 simp
theorem rdEnt_app {e : EntR} (h : entB e = true) (r : OB) : rdEnt (entL e ++ r, false) = (e, (r, false)) := by
 unfold entB at h; rw [Bool.and_eq_true, decide_eq_true_eq] at h; have hp : e.nm.length <= 1048576 := by
  have := h.1
  unfold partB at this; simp only [Bool.and_eq_true, decide_eq_true_eq] at this; omega
 obtain ⟨nm, dir, id⟩ := e; simp only at h hp
 unfold rdEnt entL; simp only [List.append_assoc]; rw [rdText_app hp]; simp only
 have e1 : ((if dir = true then (1 : UInt8) else 0) :: id ++ r) = [if dir = true then (1 : UInt8) else 0] ++ (id ++ r) := rfl
 rw [e1, rdBytes_app (n := 1) rfl]
 simp only
 rw [rdBytes_app h.2]
 cases dir <;> rfl
theorem rdEnts_app : ∀ {l : List EntR}, l.all entB = true -> ∀ r : OB, rdEnts l.length ((l.map entL).flatten ++ r, false) = (l, (r, false))
 | [], _, r => rfl
 | e :: l, h, r => by
  rw [List.all_cons, Bool.and_eq_true] at h; simp only [List.length_cons, List.map_cons, List.flatten_cons, List.append_assoc]; unfold rdEnts; rw [rdEnt_app h.1]; simp only [Bool.false_eq_true, if_false]; rw [rdEnts_app h.2]
theorem rdUps_app : ∀ {l : List OB}, l.all (fun u => decide (u.length = 32)) = true -> ∀ r : OB, rdUps l.length (l.flatten ++ r, false) = (l, (r, false))
 | [], _, r => rfl
 | e :: l, h, r => by
  rw [List.all_cons, Bool.and_eq_true, decide_eq_true_eq] at h; simp only [List.length_cons, List.flatten_cons, List.append_assoc]; unfold rdUps; rw [rdBytes_app h.1]; simp only [Bool.false_eq_true, if_false]; rw [rdUps_app h.2]
theorem told_is {o : ObjR} (h : toldB o = true) : o.who.length <= 1000 /\ o.text.length <= 1000 /\ 0 <= o.stamp /\ o.stamp <= 1099511627776 := by
 unfold toldB at h; simp only [Bool.and_eq_true, decide_eq_true_eq] at h; omega
theorem rdTail_app {o : ObjR} (h : toldB o = true) (p : ObjR) (r : OB) : rdTail p (tailO o ++ r, false) = ({ p with who := o.who, stamp := o.stamp, text := o.text }, (r, false)) := by
 obtain ⟨h1, h2, h3, h4⟩ := told_is h; unfold rdTail tailO; simp only [List.append_assoc]; rw [rdText_app (by omega)]
 simp only
 rw [rdNum_app (by omega)]
 simp only
 rw [rdText_app (by omega)]
 have : ((o.stamp.toNat : Nat) : Int) = o.stamp := by omega
 rw [this]
theorem bare_is {o : ObjR} {d e c t w : Bool} (h : bareB o d e c t w = true) : (d = true -> o.data = []) /\ (e = true -> o.ents = []) /\ (c = true -> o.tree = [] /\ o.ups = []) /\ (t = true -> o.target = [] /\ o.name = []) /\ (w = true -> o.who = [] /\ o.text = [] /\ o.stamp = 0) := by
 obtain ⟨kind, data, ents, tree, ups, target, name, who, stamp, text⟩ := o; unfold bareB at h; simp only at h |-
 cases d <;> cases e <;> cases c <;> cases t <;> cases w <;> simp_all [Nat.pos_iff_ne_zero]
theorem ok_cases {o : ObjR} (h : okO o = true) :
  (∃ d : OB, d.length <= 1048576 /\ o = { zeroO 1 with data := d }) \/ (∃ l, entsB l = true /\ o = { zeroO 2 with ents := l }) \/
  (o = { zeroO 3 with tree := o.tree, ups := o.ups, who := o.who, stamp := o.stamp, text := o.text } /\ o.tree.length = 32 /\ upsB o.ups = true /\ toldB o = true) \/
  (o = { zeroO 4 with target := o.target, name := o.name, who := o.who, stamp := o.stamp, text := o.text } /\ o.target.length = 32 /\ 1 <= o.name.length /\ o.name.length <= 200 /\ toldB o = true) := by
 unfold okO at h; split at h
 ·rename_i hk
  rw [Bool.and_eq_true, decide_eq_true_eq] at h; obtain ⟨_, b2, b3, b4, b5⟩ := bare_is h.2; refine .inl ⟨o.data, h.1, ?_⟩; obtain ⟨kind, data, ents, tree, ups, target, name, who, stamp, text⟩ := o; simp_all [zeroO]
 ·split at h
  ·rename_i hk
   rw [Bool.and_eq_true] at h; obtain ⟨b1, _, b3, b4, b5⟩ := bare_is h.2; refine .inr (.inl ⟨o.ents, h.1, ?_⟩); obtain ⟨kind, data, ents, tree, ups, target, name, who, stamp, text⟩ := o; simp_all [zeroO]
  ·split at h
   ·rename_i hk
    simp only [Bool.and_eq_true, decide_eq_true_eq] at h; obtain ⟨⟨⟨h1, h2⟩, h3⟩, h4⟩ := h; obtain ⟨b1, b2, _, b4, _⟩ := bare_is h4; refine .inr (.inr (.inl ⟨?_, h1, h2, h3⟩)); obtain ⟨kind, data, ents, tree, ups, target, name, who, stamp, text⟩ := o; simp_all [zeroO]
   ·split at h
    ·rename_i hk
     simp only [Bool.and_eq_true, decide_eq_true_eq] at h; obtain ⟨⟨⟨h1, h2, h2'⟩, h3⟩, h4⟩ := h; obtain ⟨b1, b2, b3, _, _⟩ := bare_is h4; refine .inr (.inr (.inr ⟨?_, h1, h2, h2', h3⟩)); obtain ⟨kind, data, ents, tree, ups, target, name, who, stamp, text⟩ := o; simp_all [zeroO]
    ·cases h
theorem ups_is {l : List OB} (h : upsB l = true) : l.all (fun u => decide (u.length = 32)) = true /\ l.length <= 4 := by
 unfold upsB at h; simp only [Bool.and_eq_true, decide_eq_true_eq] at h; exact ⟨h.1.1, h.2⟩
theorem ents_is {l : List EntR} (h : entsB l = true) : l.all entB = true /\ l.length <= 4096 := by
 unfold entsB at h; simp only [Bool.and_eq_true, decide_eq_true_eq] at h; exact ⟨h.1.1, h.2⟩
theorem read_enc {o : ObjR} (h : okO o = true) : ∃ k, encO o = UInt8.ofNat k :: bodyL o /\ (UInt8.ofNat k).toNat = k /\ (rdO k (bodyL o)).1 = o /\ (rdO k (bodyL o)).2.2 = false := by
 rcases ok_cases h with ⟨d, hd, rfl⟩ | ⟨l, hl, rfl⟩ | ⟨e, h1, h2, h3⟩ | ⟨e, h1, h2, h2', h3⟩
 ·exact ⟨1, rfl, rfl, rfl, rfl⟩
 ·obtain ⟨k1, k2⟩ := ents_is hl
  have e : rdTree (numL l.length ++ (l.map entL).flatten, false) = ({ zeroO 2 with ents := l }, ([], false)) := by
   unfold rdTree; rw [rdNum_app (by omega)]
   simp only
   have := rdEnts_app k1 []
   rw [List.append_nil] at this; rw [this]
  exact ⟨2, rfl, rfl, by show (rdTree (numL l.length ++ (l.map entL).flatten, false)).1 = _; rw [e], by show (rdTree (numL l.length ++ (l.map entL).flatten, false)).2.2 = _; rw [e]⟩
 ·obtain ⟨k1, k2⟩ := ups_is h2
  have hk : o.kind = 3 := by rw [e]; rfl
  have hb : bodyL o = o.tree ++ (numL o.ups.length ++ (o.ups.flatten ++ tailO o)) := by unfold bodyL; rw [hk]; rfl
  have er : rdCommit (o.tree ++ (numL o.ups.length ++ (o.ups.flatten ++ tailO o)), false) = (o, ([], false)) := by
   unfold rdCommit; rw [rdBytes_app h1]; simp only
   rw [rdNum_app (by omega)]
   simp only
   rw [rdUps_app k1]; simp only
   have := rdTail_app h3 { zeroO 3 with tree := o.tree, ups := o.ups } []
   rw [List.append_nil] at this; rw [this]; exact congrArg (fun x => (x, (([], false) : RS))) e.symm
  exact ⟨3, by unfold encO; rw [hk]; rfl, rfl, by rw [hb]; show (rdCommit _).1 = _; rw [er], by rw [hb]; show (rdCommit _).2.2 = _; rw [er]⟩
 ·have hk : o.kind = 4 := by rw [e]; rfl
  have hb : bodyL o = o.target ++ (txtL o.name ++ tailO o) := by unfold bodyL; rw [hk]; rfl
  have er : rdTag (o.target ++ (txtL o.name ++ tailO o), false) = (o, ([], false)) := by
   unfold rdTag; rw [rdBytes_app h1]; simp only
   rw [rdText_app (by omega)]
   simp only
   have := rdTail_app h3 { zeroO 4 with target := o.target, name := o.name } []
   rw [List.append_nil] at this; rw [this]; exact congrArg (fun x => (x, (([], false) : RS))) e.symm
  exact ⟨4, by unfold encO; rw [hk]; rfl, rfl, by rw [hb]; show (rdTag _).1 = _; rw [er], by rw [hb]; show (rdTag _).2.2 = _; rw [er]⟩
theorem dec_enc {o : ObjR} (h : okO o = true) : decO (encO o) = some o := by
 obtain ⟨k, h1, h2, h3, h4⟩ := read_enc h; rw [h1, decO_cons, h2, h3, h4, if_neg]; rintro (k1 | k1 | k1)
 ·cases k1
 ·rw [h] at k1; cases k1
 ·exact k1 h1
theorem dec_iff {b : OB} {o : ObjR} : decO b = some o ↔ okO o = true /\ encO o = b := by
 constructor
 ·intro h
  cases b with
  | nil => cases h
  | cons c r =>
   rw [decO_cons] at h; split at h
   ·cases h
   ·rename_i hn
    have e := Option.some.inj h; rw [e] at hn; refine ⟨?_, Classical.byContradiction fun k => hn (.inr (.inr k))⟩
    cases hk : okO o with
    | true => rfl
    | false => exact absurd (.inr (.inl hk)) hn
 ·rintro ⟨h, rfl⟩
  exact dec_enc h
end
section
def copyStep (size : Nat) (O q : List UInt8) (n : Nat) : Option (List UInt8 × List UInt8) :=
 match parse q with
 | none => none
 | some (d, k2) => if d = 0 \/ min O.length 4096 < d \/ min (size - O.length) 259 < n then none else some (copyL d n O, q.drop k2)
def stepT (size : Nat) (O p : List UInt8) : Option (List UInt8 × List UInt8) :=
 match parse p with
 | none => none
 | some (t, k) =>
  if t % 2 = 1 then copyStep size O (p.drop k) (t / 2 + 4)
  else if min (size - O.length) (p.drop k).length < t / 2 + 1 then none else some (O ++ (p.drop k).take (t / 2 + 1), (p.drop k).drop (t / 2 + 1))
theorem tok_stepT {size f : Nat} {O p : List UInt8} (hp : 0 < p.length) : tok size (f + 1) O p = (stepT size O p).bind fun x => tok size f x.1 x.2 := by
 rw [tok, if_neg (by omega)]
 unfold stepT copyStep
 cases parse p with
 | none => rfl
 | some x =>
  obtain ⟨t, k⟩ := x; simp only
  split
  ·cases parse (p.drop k) with
   | none => rfl
   | some y =>
    obtain ⟨d, k2⟩ := y; simp only
    split
    ·rfl
    ·rfl
  ·split
   ·rfl
   ·rfl
theorem copyStep_bad {size : Nat} {O q : List UInt8} {n : Nat} (h : parse q = none) : copyStep size O q n = none := by unfold copyStep; rw [h]
theorem copyStep_num {size : Nat} {O r : List UInt8} {n d : Nat} (hd : d <= 4611686018427387903) : copyStep size O (numL d ++ r) n = if d = 0 \/ min O.length 4096 < d \/ min (size - O.length) 259 < n then none else some (copyL d n O, r) := by
 unfold copyStep; rw [parse_numL d r hd]; simp only [List.drop_left]
theorem stepT_bad {size : Nat} {O p : List UInt8} (h : parse p = none) : stepT size O p = none := by unfold stepT; rw [h]
theorem stepT_copy {size : Nat} {O q : List UInt8} {t : Nat} (ht : t <= 4611686018427387903) (h : t % 2 = 1) : stepT size O (numL t ++ q) = copyStep size O q (t / 2 + 4) := by
 unfold stepT; rw [parse_numL t q ht]; simp only [List.drop_left]; rw [if_pos h]
theorem stepT_run {size : Nat} {O q : List UInt8} {t : Nat} (ht : t <= 4611686018427387903) (h : ¬ t % 2 = 1) : stepT size O (numL t ++ q) = if min (size - O.length) q.length < t / 2 + 1 then none else some (O ++ q.take (t / 2 + 1), q.drop (t / 2 + 1)) := by
 unfold stepT; rw [parse_numL t q ht]; simp only [List.drop_left]; rw [if_neg h]
theorem copyStep_le {size : Nat} {O q O' q' : List UInt8} {n : Nat} (h : copyStep size O q n = some (O', q')) (hO : O.length <= size) : q'.length < q.length /\ O'.length <= size := by
 rcases parse_cases q with hq | ⟨d, r, hd, rfl⟩
 ·rw [copyStep_bad hq] at h; cases h
 ·rw [copyStep_num hd] at h
  split at h
  ·cases h
  ·rename_i hc
   simp only [Option.some.injEq, Prod.mk.injEq] at h; obtain ⟨rfl, rfl⟩ := h; have := numL_pos d
   rw [List.length_append, copyL_length]; omega
theorem stepT_le {size : Nat} {O p O' p' : List UInt8} (h : stepT size O p = some (O', p')) (hO : O.length <= size) : p'.length < p.length /\ O'.length <= size := by
 rcases parse_cases p with hp | ⟨t, q, ht, rfl⟩
 ·rw [stepT_bad hp] at h; cases h
 ·have hpos := numL_pos t
  rw [List.length_append]; by_cases hodd : t % 2 = 1
  ·rw [stepT_copy ht hodd] at h
   have := copyStep_le h hO
   omega
  ·rw [stepT_run ht hodd] at h
   split at h
   ·cases h
   ·rename_i hc
    simp only [Option.some.injEq, Prod.mk.injEq] at h; obtain ⟨rfl, rfl⟩ := h; rw [List.length_append, List.length_take, List.length_drop]; omega
theorem copyL_step {d m : Nat} {O : List UInt8} : copyL d (m + 1) O = copyL d m (O ++ [O.getD (O.length - d) 0]) := rfl
end
section
def gone : RS := ([], true)
def wBytes (n : Nat) (s : RS) : OB × RS := if s.1.length < n then ([], gone) else (s.1.take n, (s.1.drop n, s.2))
def wNum (m : Nat) (s : RS) : Nat × RS := match parse s.1 with
 | none => (0, gone)
 | some p => if m < p.1 then (0, gone) else (p.1, (s.1.drop p.2, s.2))
def wText (m : Nat) (s : RS) : OB × RS := wBytes (wNum m s).1 (wNum m s).2
def wByte (s : RS) : UInt8 × RS := match s.1 with
 | [] => (0, gone)
 | c :: r => (c, (r, s.2))
def wDir (s : RS) : Bool × RS := ((wByte s).1 == 1, if (wByte s).1 = 1 \/ (wByte s).1 = 0 then (wByte s).2 else gone)
def wEnt (s : RS) : EntR × RS := (⟨(wText 100 s).1, (wDir (wText 100 s).2).1, (wBytes 32 (wDir (wText 100 s).2).2).1⟩, (wBytes 32 (wDir (wText 100 s).2).2).2)
def wEnts : Nat -> RS -> List EntR × RS
 | 0, s => ([], s)
 | n + 1, s => ((wEnt s).1 :: (wEnts n (wEnt s).2).1, (wEnts n (wEnt s).2).2)
def wUps : Nat -> RS -> List OB × RS
 | 0, s => ([], s)
 | n + 1, s => ((wBytes 32 s).1 :: (wUps n (wBytes 32 s).2).1, (wUps n (wBytes 32 s).2).2)
def wNote (o : ObjR) (s : RS) : ObjR × RS := ({ o with who := (wText 1000 s).1, stamp := ((wNum 1099511627776 (wText 1000 s).2).1 : Int), text := (wText 1000 (wNum 1099511627776 (wText 1000 s).2).2).1 }, (wText 1000 (wNum 1099511627776 (wText 1000 s).2).2).2)
def wTree (s : RS) : ObjR × RS := ({ zeroO 2 with ents := (wEnts (wNum 4096 s).1 (wNum 4096 s).2).1 }, (wEnts (wNum 4096 s).1 (wNum 4096 s).2).2)
def wCommit (s : RS) : ObjR × RS :=
 wNote { zeroO 3 with tree := (wBytes 32 s).1, ups := (wUps (wNum 4 (wBytes 32 s).2).1 (wNum 4 (wBytes 32 s).2).2).1 } (wUps (wNum 4 (wBytes 32 s).2).1 (wNum 4 (wBytes 32 s).2).2).2
def wTag (s : RS) : ObjR × RS := wNote { zeroO 4 with target := (wBytes 32 s).1, name := (wText 200 (wBytes 32 s).2).1 } (wText 200 (wBytes 32 s).2).2
def wBody (c : UInt8) (s : RS) : ObjR × RS :=
 if c = 1 then ({ zeroO 1 with data := (wBytes s.1.length s).1 }, (wBytes s.1.length s).2) else if c = 2 then wTree s else if c = 3 then wCommit s else if c = 4 then wTag s else (zeroO 0, s)
def wO (s : RS) : ObjR × RS := wBody (wByte s).1 (wByte s).2
def wDec (b : OB) : Option ObjR := if (wO (b, false)).2.2 = true \/ (wO (b, false)).2.1 ≠ [] \/ okO (wO (b, false)).1 = false then none else some (wO (b, false)).1
/-! ### Back: what could be taken was there -/
theorem wBytes_inv {n : Nat} {s : RS} (h : (wBytes n s).2.2 = false) : s.2 = false /\ s.1 = (wBytes n s).1 ++ (wBytes n s).2.1 /\ (wBytes n s).1.length = n := by
 unfold wBytes at h |-
 split at h
 ·cases h
 ·rename_i hn
  rw [if_neg hn]; exact ⟨h, (List.take_append_drop n s.1).symm, by rw [List.length_take]; omega⟩
theorem wNum_inv {m : Nat} {s : RS} (h : (wNum m s).2.2 = false) : s.2 = false /\ s.1 = numL (wNum m s).1 ++ (wNum m s).2.1 /\ (wNum m s).1 <= m /\ (wNum m s).1 <= 4611686018427387903 := by
 unfold wNum at h |-
 cases hp : parse s.1 with
 | none => rw [hp] at h; cases h
 | some p =>
  rw [hp] at h; simp only at h |-
  split at h
  ·cases h
  ·rename_i hn
   rw [if_neg hn]; obtain ⟨h1, r, h2, h3⟩ := parse_some (n := p.1) (k := p.2) hp
   refine ⟨h, ?_, by omega, h1⟩
   simp only
   rw [h2, h3]; simp
theorem wText_inv {m : Nat} {s : RS} (h : (wText m s).2.2 = false) : s.2 = false /\ s.1 = txtL (wText m s).1 ++ (wText m s).2.1 /\ (wText m s).1.length <= m := by
 unfold wText at h |-
 obtain ⟨h1, h2, h3⟩ := wBytes_inv h; obtain ⟨h4, h5, h6, _⟩ := wNum_inv h1; refine ⟨h4, ?_, by omega⟩
 unfold txtL; rw [List.append_assoc, <- h2, h3]; exact h5
theorem wByte_inv {s : RS} (h : (wByte s).2.2 = false) : s.2 = false /\ s.1 = (wByte s).1 :: (wByte s).2.1 := by
 unfold wByte at h |-
 obtain ⟨b, x⟩ := s
 cases b with
 | nil => cases h
 | cons c r => exact ⟨h, rfl⟩
theorem wDir_inv {s : RS} (h : (wDir s).2.2 = false) : s.2 = false /\ s.1 = (if (wDir s).1 = true then 1 else 0) :: (wDir s).2.1 := by
 unfold wDir at h |-
 simp only at h |-
 by_cases hc : (wByte s).1 = 1 \/ (wByte s).1 = 0
 ·rw [if_pos hc] at h |-
  obtain ⟨h1, h2⟩ := wByte_inv h; refine ⟨h1, ?_⟩; rcases hc with hc | hc
  ·rw [hc] at h2 |-
   exact h2
  ·rw [hc] at h2 |-
   exact h2
 ·rw [if_neg hc] at h
  cases h
theorem wEnt_inv {s : RS} (h : (wEnt s).2.2 = false) : s.2 = false /\ s.1 = entL (wEnt s).1 ++ (wEnt s).2.1 := by
 unfold wEnt at h |-
 obtain ⟨h1, h2, h3⟩ := wBytes_inv h; obtain ⟨h4, h5⟩ := wDir_inv h1; obtain ⟨h6, h7, _⟩ := wText_inv h4; refine ⟨h6, ?_⟩; unfold entL; simp only [List.append_assoc, List.cons_append]; rw [<- h2, <- h5]; exact h7
theorem wEnts_inv : ∀ {n : Nat} {s : RS}, (wEnts n s).2.2 = false -> s.2 = false /\ s.1 = ((wEnts n s).1.map entL).flatten ++ (wEnts n s).2.1 /\ (wEnts n s).1.length = n
 | 0, s, h => ⟨h, by simp [wEnts], rfl⟩
 | n + 1, s, h => by
  unfold wEnts at h |-
  obtain ⟨h1, h2, h3⟩ := wEnts_inv (n := n) h
  obtain ⟨h4, h5⟩ := wEnt_inv h1; refine ⟨h4, ?_, by rw [List.length_cons, h3]⟩
  simp only [List.map_cons, List.flatten_cons, List.append_assoc]; rw [<- h2]; exact h5
theorem wUps_inv : ∀ {n : Nat} {s : RS}, (wUps n s).2.2 = false -> s.2 = false /\ s.1 = (wUps n s).1.flatten ++ (wUps n s).2.1 /\ (wUps n s).1.length = n
 | 0, s, h => ⟨h, by simp [wUps], rfl⟩
 | n + 1, s, h => by
  unfold wUps at h |-
  obtain ⟨h1, h2, h3⟩ := wUps_inv (n := n) h
  obtain ⟨h4, h5, _⟩ := wBytes_inv h1; refine ⟨h4, ?_, by rw [List.length_cons, h3]⟩
  simp only [List.flatten_cons, List.append_assoc]; rw [<- h2]; exact h5
theorem wNote_inv {o : ObjR} {s : RS} (h : (wNote o s).2.2 = false) : s.2 = false /\ s.1 = tailO (wNote o s).1 ++ (wNote o s).2.1 := by
 unfold wNote at h |-
 obtain ⟨h1, h2, _⟩ := wText_inv h; obtain ⟨h3, h4, _⟩ := wNum_inv h1; obtain ⟨h5, h6, _⟩ := wText_inv h3; refine ⟨h5, ?_⟩; unfold tailO; simp only [List.append_assoc, Int.toNat_natCast]; rw [<- h2, <- h4]; exact h6
theorem wO_inv {b : OB} (h : (wO (b, false)).2.2 = false) (h0 : (wO (b, false)).2.1 = []) (hk : okO (wO (b, false)).1 = true) : encO (wO (b, false)).1 = b := by
 unfold wO at h h0 hk |-
 obtain ⟨c, hc⟩ := nm_ ((wByte (b, false)).1); obtain ⟨s, hs⟩ := nm_ ((wByte (b, false)).2); rw [<- hc, <- hs] at h h0 hk |-; have hb : s.2 = false -> b = c :: s.1 := fun hf => by
  have := (wByte_inv (s := (b, false)) (by rw [<- hs]; exact hf)).2
  rw [<- hc, <- hs] at this; exact this
 clear hc hs; unfold wBody at h h0 hk |-
 by_cases h1 : c = 1
 ·subst h1
  simp only [if_true] at h h0 hk |-; obtain ⟨e1, e2, _⟩ := wBytes_inv h; rw [hb e1]; show UInt8.ofNat 1 :: (wBytes s.1.length s).1 = 1 :: s.1
  rw [h0, List.append_nil] at e2; rw [<- e2]; rfl
 ·rw [if_neg h1] at h h0 hk |-
  by_cases h2 : c = 2
  ·subst h2
   simp only [if_true] at h h0 hk |-; unfold wTree at h h0 |-
   obtain ⟨e1, e2, e3⟩ := wEnts_inv h; obtain ⟨e4, e5, _⟩ := wNum_inv e1; rw [hb e4]; rw [h0, List.append_nil] at e2; show UInt8.ofNat 2 :: (numL (wEnts (wNum 4096 s).1 (wNum 4096 s).2).1.length ++ ((wEnts (wNum 4096 s).1 (wNum 4096 s).2).1.map entL).flatten) = 2 :: s.1
   rw [e3, <- e2, <- e5]; rfl
  ·rw [if_neg h2] at h h0 hk |-
   by_cases h3 : c = 3
   ·subst h3
    simp only [if_true] at h h0 hk |-; unfold wCommit at h h0 |-
    obtain ⟨e1, e2⟩ := wNote_inv h; obtain ⟨e3, e4, e5⟩ := wUps_inv e1; obtain ⟨e6, e7, _⟩ := wNum_inv e3; obtain ⟨e8, e9, _⟩ := wBytes_inv e6; rw [hb e8]; rw [h0, List.append_nil] at e2; obtain ⟨o, ho⟩ : ∃ o, o = (wNote { zeroO 3 with tree := (wBytes 32 s).1, ups := (wUps (wNum 4 (wBytes 32 s).2).1 (wNum 4 (wBytes 32 s).2).2).1 } (wUps (wNum 4 (wBytes 32 s).2).1 (wNum 4 (wBytes 32 s).2).2).2).1 := ⟨_, rfl⟩
    rw [<- ho] at e2 |-; have o1 : o.kind = 3 := by rw [ho]; rfl
    have o2 : o.tree = (wBytes 32 s).1 := by rw [ho]; rfl
    have o3 : o.ups = (wUps (wNum 4 (wBytes 32 s).2).1 (wNum 4 (wBytes 32 s).2).2).1 := by rw [ho]; rfl
    have hb2 : bodyL o = o.tree ++ (numL o.ups.length ++ (o.ups.flatten ++ tailO o)) := by unfold bodyL; rw [o1]; rfl
    unfold encO; rw [hb2, o1, o2, o3, e5, <- e2, <- e4, <- e7, <- e9]; rfl
   ·rw [if_neg h3] at h h0 hk |-
    by_cases h4 : c = 4
    ·subst h4
     simp only [if_true] at h h0 hk |-; unfold wTag at h h0 |-
     obtain ⟨e1, e2⟩ := wNote_inv h; obtain ⟨e3, e4, _⟩ := wText_inv e1; obtain ⟨e8, e9, _⟩ := wBytes_inv e3; rw [hb e8]; rw [h0, List.append_nil] at e2; obtain ⟨o, ho⟩ : ∃ o, o = (wNote { zeroO 4 with target := (wBytes 32 s).1, name := (wText 200 (wBytes 32 s).2).1 } (wText 200 (wBytes 32 s).2).2).1 := ⟨_, rfl⟩
     rw [<- ho] at e2 |-; have o1 : o.kind = 4 := by rw [ho]; rfl
     have o2 : o.target = (wBytes 32 s).1 := by rw [ho]; rfl
     have o3 : o.name = (wText 200 (wBytes 32 s).2).1 := by rw [ho]; rfl
     have hb2 : bodyL o = o.target ++ (txtL o.name ++ tailO o) := by unfold bodyL; rw [o1]; rfl
     unfold encO; rw [hb2, o1, o2, o3, <- e2, <- e4, <- e9]; rfl
    ·rw [if_neg h4] at hk
     simp [okO, zeroO] at hk
/-! ### There: what was laid is taken as it was -/
theorem wBytes_app {t r : OB} {n : Nat} (h : t.length = n) (x : Bool) : wBytes n (t ++ r, x) = (t, (r, x)) := by
 subst h; unfold wBytes; rw [if_neg (by simp)]
 simp
theorem wNum_app {n m : Nat} (h : n <= 4611686018427387903) (hm : n <= m) (r : OB) (x : Bool) : wNum m (numL n ++ r, x) = (n, (r, x)) := by
 unfold wNum; simp only [parse_numL n r h]; rw [if_neg (by omega)]
 simp
theorem wText_app {t : OB} {m : Nat} (h : t.length <= m) (h2 : t.length <= 1048576) (r : OB) (x : Bool) : wText m (txtL t ++ r, x) = (t, (r, x)) := by
 unfold wText txtL; rw [List.append_assoc, wNum_app (by omega) h]
 exact wBytes_app rfl x
theorem wEnt_app {e : EntR} (h : entB e = true) (r : OB) : wEnt (entL e ++ r, false) = (e, (r, false)) := by
 unfold entB at h; rw [Bool.and_eq_true, decide_eq_true_eq] at h; have hp : e.nm.length <= 100 := by
  have := h.1
  unfold partB at this; simp only [Bool.and_eq_true, decide_eq_true_eq] at this; omega
 obtain ⟨nm, dir, id⟩ := e; simp only at h hp
 unfold wEnt entL; simp only [List.append_assoc]; rw [wText_app hp (by omega)]
 have hd : wDir ((if dir = true then (1 : UInt8) else 0) :: id ++ r, false) = (dir, (id ++ r, false)) := by cases dir <;> rfl
 simp only
 rw [hd]; simp only
 rw [wBytes_app h.2]
theorem wEnts_app : ∀ {l : List EntR}, l.all entB = true -> ∀ r : OB, wEnts l.length ((l.map entL).flatten ++ r, false) = (l, (r, false))
 | [], _, r => rfl
 | e :: l, h, r => by
  rw [List.all_cons, Bool.and_eq_true] at h; simp only [List.length_cons, List.map_cons, List.flatten_cons, List.append_assoc]; unfold wEnts; rw [wEnt_app h.1]; simp only
  rw [wEnts_app h.2]
theorem wUps_app : ∀ {l : List OB}, l.all (fun u => decide (u.length = 32)) = true -> ∀ r : OB, wUps l.length (l.flatten ++ r, false) = (l, (r, false))
 | [], _, r => rfl
 | e :: l, h, r => by
  rw [List.all_cons, Bool.and_eq_true, decide_eq_true_eq] at h; simp only [List.length_cons, List.flatten_cons, List.append_assoc]; unfold wUps; rw [wBytes_app h.1]; simp only
  rw [wUps_app h.2]
theorem wNote_app {o : ObjR} (h : toldB o = true) (p : ObjR) (r : OB) : wNote p (tailO o ++ r, false) = ({ p with who := o.who, stamp := o.stamp, text := o.text }, (r, false)) := by
 obtain ⟨h1, h2, h3, h4⟩ := told_is h; unfold wNote tailO; simp only [List.append_assoc]; rw [wText_app h1 (by omega)]
 simp only
 rw [wNum_app (by omega) (by omega)]
 simp only
 rw [wText_app h2 (by omega)]
 have : ((o.stamp.toNat : Nat) : Int) = o.stamp := by omega
 rw [this]
theorem wO_enc {o : ObjR} (h : okO o = true) : wO (encO o, false) = (o, ([], false)) := by
 rcases ok_cases h with ⟨d, hd, rfl⟩ | ⟨l, hl, rfl⟩ | ⟨e, h1, h2, h3⟩ | ⟨e, h1, h2, h2', h3⟩
 ·show wBody 1 (d, false) = _
  unfold wBody; simp only [if_true]; have := wBytes_app (t := d) (r := []) (n := d.length) rfl false
  rw [List.append_nil] at this; rw [this]
 ·obtain ⟨k1, k2⟩ := ents_is hl
  show wTree (numL l.length ++ (l.map entL).flatten, false) = _
  unfold wTree; rw [wNum_app (by omega) (by omega)]
  simp only
  have := wEnts_app k1 []
  rw [List.append_nil] at this; rw [this]
 ·obtain ⟨k1, k2⟩ := ups_is h2
  have hk : o.kind = 3 := by rw [e]; rfl
  have hb : encO o = 3 :: (o.tree ++ (numL o.ups.length ++ (o.ups.flatten ++ tailO o))) := by unfold encO bodyL; rw [hk]; rfl
  rw [hb]; show wCommit (o.tree ++ (numL o.ups.length ++ (o.ups.flatten ++ tailO o)), false) = _
  unfold wCommit; rw [wBytes_app h1]; simp only
  rw [wNum_app (by omega) (by omega)]
  simp only
  rw [wUps_app k1]; simp only
  have := wNote_app h3 { zeroO 3 with tree := o.tree, ups := o.ups } []
  rw [List.append_nil] at this; rw [this]; exact congrArg (fun x => (x, (([], false) : RS))) e.symm
 ·have hk : o.kind = 4 := by rw [e]; rfl
  have hb : encO o = 4 :: (o.target ++ (txtL o.name ++ tailO o)) := by unfold encO bodyL; rw [hk]; rfl
  rw [hb]; show wTag (o.target ++ (txtL o.name ++ tailO o), false) = _
  unfold wTag; rw [wBytes_app h1]; simp only
  rw [wText_app (by omega) (by omega)]
  simp only
  have := wNote_app h3 { zeroO 4 with target := o.target, name := o.name } []
  rw [List.append_nil] at this; rw [this]; exact congrArg (fun x => (x, (([], false) : RS))) e.symm
theorem wDec_eq (b : OB) : wDec b = decO b := by
 cases hd : decO b with
 | some o =>
  obtain ⟨h1, h2⟩ := dec_iff.1 hd; subst h2; unfold wDec; rw [wO_enc h1, if_neg]; rintro (k | k | k)
  ·cases k
  ·exact k rfl
  ·rw [h1] at k; cases k
 | none =>
  unfold wDec; split
  ·rfl
  ·rename_i hn
   exfalso
   have a1 : (wO (b, false)).2.2 = false := by cases h : (wO (b, false)).2.2 with | false => rfl | true => exact absurd (.inl h) hn
   have a2 : (wO (b, false)).2.1 = [] := Classical.byContradiction fun h => hn (.inr (.inl h))
   have a3 : okO (wO (b, false)).1 = true := by cases h : okO (wO (b, false)).1 with | true => rfl | false => exact absurd (.inr (.inr h)) hn
   have := dec_iff.2 ⟨a3, wO_inv a1 a2 a3⟩
   rw [hd] at this
   cases this
end
end Go.Proofs.YtomgijcbekjlaaaGreat
