/- Plain mathematics of package code: numbers in groups of 7 bits, what a row of bytes begins with. No program here. -/
namespace Go.Proofs.Ytjieljmlpbiidaa
/-- n in groups of 7 bits, in f + 1 groups at most. -/
def numF : Nat → Nat → List UInt8
  | 0, n => [UInt8.ofNat n]
  | f + 1, n => if n < 128 then [UInt8.ofNat n] else UInt8.ofNat (n % 128 + 128) :: numF f (n / 128)
def numL (n : Nat) : List UInt8 := numF 8 n
theorem numF_pos (f n : Nat) : 0 < (numF f n).length := by
  cases f with
  | zero => simp [numF]
  | succ f => rw [numF]; split <;> simp
theorem numF_le (f n : Nat) : (numF f n).length ≤ f + 1 := by
  induction f generalizing n with
  | zero => simp [numF]
  | succ f ih => rw [numF]; split <;> simp; exact ih _
theorem numL_pos (n : Nat) : 0 < (numL n).length := numF_pos 8 n
theorem numL_le (n : Nat) : (numL n).length ≤ 9 := numF_le 8 n
/-- Few groups where the number is small. -/
theorem numF_short (f n i : Nat) (h : n < 128 ^ (i + 1)) : (numF f n).length ≤ i + 1 := by
  induction f generalizing n i with
  | zero => simp [numF]
  | succ f ih =>
    rw [numF]
    split
    · simp
    · rename_i hn
      cases i with
      | zero => simp at h; omega
      | succ i =>
        have := ih (n / 128) i (by rw [Nat.pow_succ] at h; omega)
        simp; omega
/-- What a row of bytes begins with: the number, and how many bytes tell it. f: how many groups may still follow the next one; at: is it the first one? -/
def parseF : Nat → Bool → List UInt8 → Option (Nat × Nat)
  | _, _, [] => none
  | 0, first, c :: _ => if 63 < c.toNat then none else if c.toNat = 0 ∧ first = false then none else some (c.toNat, 1)
  | f + 1, first, c :: r =>
    if 128 ≤ c.toNat then (parseF f false r).map fun p => (c.toNat % 128 + 128 * p.1, p.2 + 1)
    else if c.toNat = 0 ∧ first = false then none else some (c.toNat, 1)
def parse (b : List UInt8) : Option (Nat × Nat) := parseF 8 true b
theorem parseF_numF (f : Nat) : ∀ (n : Nat) (first : Bool) (r : List UInt8), n < 64 * 128 ^ f → (first = false → n ≠ 0) → parseF f first (numF f n ++ r) = some (n, (numF f n).length) := by
  induction f with
  | zero =>
    intro n first r hn h0
    have e : (UInt8.ofNat n).toNat = n := UInt8.toNat_ofNat_of_lt' (by show n < 256; omega)
    simp only [numF, List.cons_append, List.nil_append, parseF, e]
    rw [if_neg (by omega), if_neg (fun h => h0 h.2 h.1)]
    rfl
  | succ f ih =>
    intro n first r hn h0
    rw [numF]
    by_cases h : n < 128
    · have e : (UInt8.ofNat n).toNat = n := UInt8.toNat_ofNat_of_lt' (by show n < 256; omega)
      simp only [if_pos h, List.cons_append, List.nil_append, parseF, e]
      rw [if_neg (by omega), if_neg (fun h => h0 h.2 h.1)]
      rfl
    · have e : (UInt8.ofNat (n % 128 + 128)).toNat = n % 128 + 128 := UInt8.toNat_ofNat_of_lt' (by show _ < 256; omega)
      simp only [if_neg h, List.cons_append, parseF, e]
      rw [if_pos (by omega), ih (n / 128) false r (by rw [Nat.pow_succ] at hn; omega) (fun _ => by omega)]
      simp only [Option.map_some, List.length_cons]
      congr 2
      omega
theorem parse_numL (n : Nat) (r : List UInt8) (h : n ≤ 4611686018427387903) : parse (numL n ++ r) = some (n, (numL n).length) :=
  parseF_numF 8 n true r (by omega) (fun h => by cases h)
theorem byte_self (c : UInt8) : UInt8.ofNat c.toNat = c := by simp
theorem parseF_some (f : Nat) : ∀ (first : Bool) (b : List UInt8) (n k : Nat), parseF f first b = some (n, k) → n < 64 * 128 ^ f ∧ (first = false → n ≠ 0) ∧ ∃ r, b = numF f n ++ r ∧ k = (numF f n).length := by
  induction f with
  | zero =>
    intro first b n k h
    cases b with
    | nil => simp [parseF] at h
    | cons c r =>
      rw [parseF] at h
      split at h
      · cases h
      · rename_i h1
        split at h
        · cases h
        · rename_i h2
          simp only [Option.some.injEq, Prod.mk.injEq] at h
          obtain ⟨rfl, rfl⟩ := h
          refine ⟨by omega, fun hf h0 => h2 ⟨h0, hf⟩, r, ?_, rfl⟩
          simp [numF]
  | succ f ih =>
    intro first b n k h
    cases b with
    | nil => simp [parseF] at h
    | cons c r =>
      have hc : c.toNat < 256 := c.toNat_lt
      rw [parseF] at h
      split at h
      · rename_i h1
        obtain ⟨⟨n', k'⟩, hp, he⟩ := Option.map_eq_some_iff.1 h
        simp only [Prod.mk.injEq] at he
        obtain ⟨rfl, rfl⟩ := he
        obtain ⟨i1, i2, s, rfl, rfl⟩ := ih false r n' k' hp
        have hn' := i2 rfl
        have e1 : (c.toNat % 128 + 128 * n') / 128 = n' := by omega
        have e2 : (c.toNat % 128 + 128 * n') % 128 + 128 = c.toNat := by omega
        have e3 : numF (f + 1) (c.toNat % 128 + 128 * n') = c :: numF f n' := by
          rw [numF, if_neg (by omega), e1, e2, byte_self]
        refine ⟨by rw [Nat.pow_succ]; omega, fun _ => by omega, s, by rw [e3]; rfl, by rw [e3]; rfl⟩
      · rename_i h1
        split at h
        · cases h
        · rename_i h2
          simp only [Option.some.injEq, Prod.mk.injEq] at h
          obtain ⟨rfl, rfl⟩ := h
          have e3 : numF (f + 1) c.toNat = [c] := by rw [numF, if_pos (by omega), byte_self]
          refine ⟨?_, fun hf h0 => h2 ⟨h0, hf⟩, r, by rw [e3]; rfl, by rw [e3]; rfl⟩
          have : 0 < 128 ^ f := Nat.pow_pos (by omega)
          rw [Nat.pow_succ]; omega
theorem parse_some {b : List UInt8} {n k : Nat} (h : parse b = some (n, k)) : n ≤ 4611686018427387903 ∧ ∃ r, b = numL n ++ r ∧ k = (numL n).length := by
  obtain ⟨h1, _, r, h2, h3⟩ := parseF_some 8 true b n k h
  exact ⟨by omega, r, h2, h3⟩
/-- One number, one row. -/
theorem numL_inj {n m : Nat} {r s : List UInt8} (hn : n ≤ 4611686018427387903) (hm : m ≤ 4611686018427387903) (h : numL n ++ r = numL m ++ s) : n = m ∧ r = s := by
  have h1 := parse_numL n r hn
  rw [h, parse_numL m s hm] at h1
  obtain rfl : m = n := by simpa using congrArg (Option.map Prod.fst) h1
  exact ⟨rfl, List.append_cancel_left h⟩
/-- A row that is cut off begins with none. -/
theorem parse_cut {n j : Nat} {r : List UInt8} (hn : n ≤ 4611686018427387903) (h : j < (numL n).length) : parse ((numL n ++ r).take j) = none := by
  cases hp : parse ((numL n ++ r).take j) with
  | none => rfl
  | some p =>
    obtain ⟨m, k⟩ := p
    obtain ⟨hm, s, e, rfl⟩ := parse_some hp
    have e1 : numL n ++ r = numL m ++ (s ++ (numL n ++ r).drop j) := by
      rw [← List.append_assoc, ← e, List.take_append_drop]
    obtain ⟨rfl, _⟩ := numL_inj hn hm e1
    have := congrArg List.length e
    simp only [List.length_take, List.length_append] at this
    omega
/-! ### Numbers that may be below 0 -/
def clampN (n : Int) : Nat := if n < 0 then 0 else if 4611686018427387903 < n then 4611686018427387903 else n.toNat
theorem clampN_le (n : Int) : clampN n ≤ 4611686018427387903 := by unfold clampN; split <;> (try split) <;> omega
theorem clampN_nat (n : Nat) (h : n ≤ 4611686018427387903) : clampN (n : Int) = n := by unfold clampN; rw [if_neg (by omega), if_neg (by omega)]; rfl
def clampI (n : Int) : Int := if n < -2305843009213693952 then -2305843009213693952 else if 2305843009213693951 < n then 2305843009213693951 else n
theorem clampI_in (n : Int) : -2305843009213693952 ≤ clampI n ∧ clampI n ≤ 2305843009213693951 := by unfold clampI; split <;> (try split) <;> omega
def zig (n : Int) : Nat := if n < 0 then (-2 * n - 1).toNat else (2 * n).toNat
theorem zig_le (n : Int) (h : -2305843009213693952 ≤ n ∧ n ≤ 2305843009213693951) : zig n ≤ 4611686018427387903 := by unfold zig; split <;> omega
def unzig (n : Nat) : Int := if n % 2 = 1 then -(((n + 1) / 2 : Nat) : Int) else ((n / 2 : Nat) : Int)
theorem unzig_zig (n : Int) : unzig (zig n) = n := by unfold unzig zig; split <;> split <;> omega
theorem zig_unzig (n : Nat) : zig (unzig n) = n := by unfold unzig zig; split <;> split <;> omega
theorem unzig_in (n : Nat) (h : n ≤ 4611686018427387903) : -2305843009213693952 ≤ unzig n ∧ unzig n ≤ 2305843009213693951 := by unfold unzig; split <;> omega
theorem clampI_in_self (n : Int) (h : -2305843009213693952 ≤ n ∧ n ≤ 2305843009213693951) : clampI n = n := by unfold clampI; rw [if_neg (by omega), if_neg (by omega)]
def intL (n : Int) : List UInt8 := numL (zig (clampI n))
theorem intL_pos (n : Int) : 0 < (intL n).length := numL_pos _
theorem intL_le (n : Int) : (intL n).length ≤ 9 := numL_le _
theorem clamp_min_max (n : Int) : ∃ q : Int, (if (4611686018427387903 : Int) < n then 4611686018427387903 else n) = q ∧ (if q > 0 then q else 0) = (clampN n : Int) := by
  refine ⟨_, rfl, ?_⟩
  unfold clampN
  split <;> split <;> split <;> (try split) <;> omega
/-- One group is laid. -/
theorem numF_more {f n : Nat} (h : 128 ≤ n) (hn : n < 64 * 128 ^ f) : ∃ f', f = f' + 1 ∧ numF f n = UInt8.ofNat (n % 128 + 128) :: numF f' (n / 128) ∧ n / 128 < 64 * 128 ^ f' := by
  cases f with
  | zero => omega
  | succ f => exact ⟨f, rfl, by rw [numF, if_neg (by omega)], by rw [Nat.pow_succ] at hn; omega⟩
theorem numF_last {f n : Nat} (h : n < 128) (hn : n < 64 * 128 ^ f) : numF f n = [UInt8.ofNat n] := by
  cases f with
  | zero => rfl
  | succ f => rw [numF, if_pos h]
theorem clamp_max_min (n : Int) : ∃ q : Int, (if (0 : Int) > n then 0 else n) = q ∧ (if (4611686018427387903 : Int) < q then 4611686018427387903 else q) = (clampN n : Int) := by
  refine ⟨_, rfl, ?_⟩
  unfold clampN
  split <;> split <;> (try split) <;> (try split) <;> omega
theorem clamp_int2 (n : Int) : ∃ q : Int, (if (-2305843009213693952 : Int) > n then -2305843009213693952 else n) = q ∧ (if (2305843009213693951 : Int) < q then 2305843009213693951 else q) = clampI n := by
  refine ⟨_, rfl, ?_⟩
  unfold clampI
  split <;> split <;> (try split) <;> (try split) <;> omega
theorem clamp_int (n : Int) : ∃ q : Int, (if (2305843009213693951 : Int) < n then 2305843009213693951 else n) = q ∧ (if q > -2305843009213693952 then q else -2305843009213693952) = clampI n := by
  refine ⟨_, rfl, ?_⟩
  unfold clampI
  split <;> split <;> split <;> (try split) <;> omega
theorem clampN_zig_neg (m : Int) (h : m < 0) (h2 : -2305843009213693952 ≤ m) : clampN (-2 * m - 1) = zig m := by unfold clampN zig; rw [if_neg (by omega), if_neg (by omega), if_pos h]
theorem clampN_zig_pos (m : Int) (h : 0 ≤ m) (h2 : m ≤ 2305843009213693951) : clampN (2 * m) = zig m := by unfold clampN zig; rw [if_neg (by omega), if_neg (by omega), if_neg (by omega)]
/-- What is known of a row behind its first k bytes, each of which said that one more comes. -/
structure Behind (bs : List UInt8) (k x : Nat) : Prop where
  lt : x < 128 ^ k
  eq : parse bs = (parseF (8 - k) (k == 0) (bs.drop k)).map fun p => (x + 128 ^ k * p.1, k + p.2)
theorem behind_zero (bs : List UInt8) : Behind bs 0 0 := ⟨by simp, by
  rw [List.drop_zero]
  unfold parse
  show parseF 8 true bs = Option.map _ (parseF 8 true bs)
  cases parseF 8 true bs <;> simp⟩
theorem drop_at (bs : List UInt8) (k : Nat) (h : k < bs.length) : bs.drop k = bs.getD k 0 :: bs.drop (k + 1) := by
  rw [List.drop_eq_getElem_cons h]
  simp [List.getD, h]
theorem behind_end {bs : List UInt8} {k x : Nat} (h : Behind bs k x) (hk : bs.length ≤ k) : parse bs = none := by
  rw [h.eq, List.drop_eq_nil_of_le hk]
  cases 8 - k <;> rfl
theorem behind_more {bs : List UInt8} {k x : Nat} (h : Behind bs k x) (hk : k < bs.length) (h8 : k < 8) (hc : 128 ≤ (bs.getD k 0).toNat) : Behind bs (k + 1) (x + (bs.getD k 0).toNat % 128 * 128 ^ k) := by
  refine ⟨?_, ?_⟩
  · have h1 := h.lt
    have h2 : (bs.getD k 0).toNat % 128 * 128 ^ k ≤ 127 * 128 ^ k := Nat.mul_le_mul_right _ (by omega)
    rw [Nat.pow_succ]; omega
  · obtain ⟨f, hf⟩ : ∃ f, 8 - k = f + 1 := ⟨7 - k, by omega⟩
    have e1 : (k + 1 == 0) = false := by simp
    rw [h.eq, drop_at bs k hk, hf, parseF, if_pos hc, show 8 - (k + 1) = f by omega, e1]
    rw [Option.map_map]
    congr 1
    funext p
    simp only [Function.comp, Prod.mk.injEq]
    refine ⟨?_, by omega⟩
    rw [Nat.mul_add, Nat.pow_succ, Nat.mul_comm ((bs.getD k 0).toNat % 128), Nat.mul_assoc, Nat.add_assoc]
theorem behind_bad {bs : List UInt8} {k x : Nat} (h : Behind bs k x) (hk : k < bs.length) (h8 : k = 8) (hc : 63 < (bs.getD k 0).toNat) : parse bs = none := by
  subst h8
  rw [h.eq, drop_at bs 8 hk]
  show Option.map _ (parseF 0 false _) = none
  rw [parseF, if_pos hc]
  rfl
theorem behind_nought {bs : List UInt8} {k x : Nat} (h : Behind bs k x) (hk : k < bs.length) (h8 : k ≤ 8) (h0 : 0 < k) (hc : (bs.getD k 0).toNat = 0) : parse bs = none := by
  have e1 : (k == 0) = false := by simp; omega
  rw [h.eq, drop_at bs k hk, e1]
  cases 8 - k with
  | zero => rw [parseF, if_neg (by omega), if_pos ⟨hc, rfl⟩]; rfl
  | succ f => rw [parseF, if_neg (by omega), if_pos ⟨hc, rfl⟩]; rfl
theorem behind_done {bs : List UInt8} {k x : Nat} (h : Behind bs k x) (hk : k < bs.length) (h8 : k ≤ 8) (h63 : k = 8 → (bs.getD k 0).toNat ≤ 63) (hc : (bs.getD k 0).toNat < 128) (h0 : 0 < k → (bs.getD k 0).toNat ≠ 0) :
    parse bs = some (x + (bs.getD k 0).toNat % 128 * 128 ^ k, k + 1) := by
  have hn : ¬ ((bs.getD k 0).toNat = 0 ∧ (k == 0) = false) := fun ⟨a, b⟩ => h0 (by simp at b; omega) a
  have e : (bs.getD k 0).toNat % 128 = (bs.getD k 0).toNat := Nat.mod_eq_of_lt hc
  rw [h.eq, drop_at bs k hk, e, Nat.mul_comm]
  rcases Nat.eq_or_lt_of_le h8 with rfl | hlt
  · show Option.map _ (parseF 0 _ _) = _
    rw [parseF, if_neg (by have := h63 rfl; omega), if_neg hn]
    rfl
  · obtain ⟨f, hf⟩ : ∃ f, 8 - k = f + 1 := ⟨7 - k, by omega⟩
    rw [hf, parseF, if_neg (by omega), if_neg hn]
    rfl
theorem shl_val (k : Nat) (c : Nat) (h : k ≤ 8) (hc : c < 128) : ((c * 128 ^ k : Nat) : Int) ≤ 9151314442816847872 ∧ (c : Int) * 2 ^ (7 * k) = ((c * 128 ^ k : Nat) : Int) := by
  have h1 : 128 ^ k ≤ 128 ^ 8 := Nat.pow_le_pow_right (by omega) h
  have h2 : c * 128 ^ k ≤ 127 * 128 ^ 8 := Nat.mul_le_mul (by omega) h1
  refine ⟨by omega, ?_⟩
  rw [Int.pow_mul]
  simp
theorem numF_bytes (f : Nat) : ∀ (n i : Nat), n < 64 * 128 ^ f → i < (numF f n).length → (128 ≤ ((numF f n).getD i 0).toNat ↔ i + 1 < (numF f n).length) := by
  induction f with
  | zero =>
    intro n i hn hi
    have e : (UInt8.ofNat n).toNat = n := UInt8.toNat_ofNat_of_lt' (by show n < 256; omega)
    simp [numF] at hi ⊢
    subst hi
    simp [e]; omega
  | succ f ih =>
    intro n i hn hi
    rw [numF] at hi ⊢
    split at hi
    · rename_i h
      have e : (UInt8.ofNat n).toNat = n := UInt8.toNat_ofNat_of_lt' (by show n < 256; omega)
      rw [if_pos h]
      simp at hi
      subst hi
      simp [e]; omega
    · rename_i h
      rw [if_neg h]
      have e : (UInt8.ofNat (n % 128 + 128)).toNat = n % 128 + 128 := UInt8.toNat_ofNat_of_lt' (by show _ < 256; omega)
      have hp := numF_pos f (n / 128)
      cases i with
      | zero => simp; omega
      | succ i =>
        have h1 := ih (n / 128) i (by rw [Nat.pow_succ] at hn; omega) (by simpa using hi)
        simp only [List.getD_cons_succ, List.length_cons]
        omega
theorem flat_take (ls : List (List UInt8)) (k : Nat) (h : k < ls.length) : (ls.take (k + 1)).flatten = (ls.take k).flatten ++ ls.getD k [] := by
  rw [List.take_succ_eq_append_getElem h, List.flatten_append]
  simp [List.getD, h]
theorem flat_take_le (ls : List (List UInt8)) (k : Nat) : (ls.take k).flatten.length ≤ ls.flatten.length := by
  have e : ls.flatten = (ls.take k).flatten ++ (ls.drop k).flatten := by rw [← List.flatten_append, List.take_append_drop]
  rw [e, List.length_append]
  omega
/-- Bytes that begin with no text of at most most bytes. -/
def NoText (bs : List UInt8) (most : Int) : Prop := parse bs = none ∨ ∃ n k, parse bs = some (n, k) ∧ k ≤ bs.length ∧ n ≤ 4611686018427387903 ∧ (most < (n : Int) ∨ bs.length < k + n)
/-- Whatever a row begins with. -/
theorem parse_cases (bs : List UInt8) : parse bs = none ∨ ∃ n rest, n ≤ 4611686018427387903 ∧ bs = numL n ++ rest := by
  cases h : parse bs with
  | none => exact .inl rfl
  | some p =>
    obtain ⟨h1, r, h2, _⟩ := parse_some (n := p.1) (k := p.2) h
    exact .inr ⟨p.1, r, h1, h2⟩
theorem text_cases (bs : List UInt8) (most : Int) : NoText bs most ∨ ∃ t rest, bs = numL t.length ++ (t ++ rest) ∧ (t.length : Int) ≤ most := by
  cases h : parse bs with
  | none => exact .inl (.inl h)
  | some p =>
    obtain ⟨h1, r, h2, h3⟩ := parse_some (n := p.1) (k := p.2) h
    have hl : bs.length = p.2 + r.length := by rw [h3, h2, List.length_append]
    by_cases hc : most < (p.1 : Int) ∨ bs.length < p.2 + p.1
    · exact .inl (.inr ⟨p.1, p.2, h, by omega, h1, hc⟩)
    · have hlen : (r.take p.1).length = p.1 := by rw [List.length_take]; omega
      refine .inr ⟨r.take p.1, r.drop p.1, ?_, by omega⟩
      rw [hlen, List.take_append_drop]
      exact h2
theorem noText_cut (s : List UInt8) (j : Nat) (most : Int) (hs : s.length ≤ 4611686018427387903) (hj : j < (numL s.length ++ s).length) : NoText ((numL s.length ++ s).take j) most := by
  by_cases hk : j < (numL s.length).length
  · exact .inl (parse_cut hs hk)
  · have e : (numL s.length ++ s).take j = numL s.length ++ s.take (j - (numL s.length).length) := by
      rw [List.take_append, List.take_of_length_le (by omega)]
    rw [List.length_append] at hj
    rw [e]
    exact .inr ⟨s.length, _, parse_numL _ _ hs, by rw [List.length_append]; omega, hs, .inr (by rw [List.length_append, List.length_take]; omega)⟩
theorem noText_less (s : List UInt8) (hs : s.length ≤ 4611686018427387903) : NoText (numL s.length ++ s) ((s.length : Int) - 1) :=
  .inr ⟨s.length, _, parse_numL _ _ hs, by rw [List.length_append]; omega, hs, .inl (by omega)⟩
end Go.Proofs.Ytjieljmlpbiidaa
