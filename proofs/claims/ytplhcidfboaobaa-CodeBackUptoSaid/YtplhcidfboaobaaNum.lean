/- Plain mathematics for the statements of package code: numbers in groups of 7 bits. No program here. -/
namespace Go.Proofs.Ytplhcidfboaobaa

/-- n in groups of 7 bits, in f + 1 groups at most. -/
def numF : Nat → Nat → List UInt8
  | 0, n => [UInt8.ofNat n]
  | f + 1, n => if n < 128 then [UInt8.ofNat n] else UInt8.ofNat (n % 128 + 128) :: numF f (n / 128)
def numL (n : Nat) : List UInt8 := numF 8 n
theorem numF_pos (f n : Nat) : 0 < (numF f n).length := by
  cases f with
  | zero => simp [numF]
  | succ f => rw [numF]; split <;> simp
theorem numF_le (f n : Nat) : (numF f n).length ≤ f + 1 := by
  induction f generalizing n with
  | zero => simp [numF]
  | succ f ih => rw [numF]; split <;> simp; exact ih _
theorem numL_pos (n : Nat) : 0 < (numL n).length := numF_pos 8 n
theorem numL_le (n : Nat) : (numL n).length ≤ 9 := numF_le 8 n
/-- Few groups where the number is small. -/
theorem numF_short (f n i : Nat) (h : n < 128 ^ (i + 1)) : (numF f n).length ≤ i + 1 := by
  induction f generalizing n i with
  | zero => simp [numF]
  | succ f ih =>
    rw [numF]
    split
    · simp
    · rename_i hn
      cases i with
      | zero => simp at h; omega
      | succ i =>
        have := ih (n / 128) i (by rw [Nat.pow_succ] at h; omega)
        simp; omega

/-- What a row of bytes begins with: the number, and how many bytes tell it. f: how many groups may still follow the next one; at: is it the first one? -/
def parseF : Nat → Bool → List UInt8 → Option (Nat × Nat)
  | _, _, [] => none
  | 0, first, c :: _ => if 63 < c.toNat then none else if c.toNat = 0 ∧ first = false then none else some (c.toNat, 1)
  | f + 1, first, c :: r =>
    if 128 ≤ c.toNat then (parseF f false r).map fun p => (c.toNat % 128 + 128 * p.1, p.2 + 1)
    else if c.toNat = 0 ∧ first = false then none else some (c.toNat, 1)
def parse (b : List UInt8) : Option (Nat × Nat) := parseF 8 true b

theorem parseF_numF (f : Nat) : ∀ (n : Nat) (first : Bool) (r : List UInt8), n < 64 * 128 ^ f → (first = false → n ≠ 0) → parseF f first (numF f n ++ r) = some (n, (numF f n).length) := by
  induction f with
  | zero =>
    intro n first r hn h0
    have e : (UInt8.ofNat n).toNat = n := UInt8.toNat_ofNat_of_lt' (by show n < 256; omega)
    simp only [numF, List.cons_append, List.nil_append, parseF, e]
    rw [if_neg (by omega), if_neg (fun h => h0 h.2 h.1)]
    rfl
  | succ f ih =>
    intro n first r hn h0
    rw [numF]
    by_cases h : n < 128
    · have e : (UInt8.ofNat n).toNat = n := UInt8.toNat_ofNat_of_lt' (by show n < 256; omega)
      simp only [if_pos h, List.cons_append, List.nil_append, parseF, e]
      rw [if_neg (by omega), if_neg (fun h => h0 h.2 h.1)]
      rfl
    · have e : (UInt8.ofNat (n % 128 + 128)).toNat = n % 128 + 128 := UInt8.toNat_ofNat_of_lt' (by show _ < 256; omega)
      simp only [if_neg h, List.cons_append, parseF, e]
      rw [if_pos (by omega), ih (n / 128) false r (by rw [Nat.pow_succ] at hn; omega) (fun _ => by omega)]
      simp only [Option.map_some, List.length_cons]
      congr 2
      omega
theorem parse_numL (n : Nat) (r : List UInt8) (h : n ≤ 4611686018427387903) : parse (numL n ++ r) = some (n, (numL n).length) :=
  parseF_numF 8 n true r (by omega) (fun h => by cases h)

theorem byte_self (c : UInt8) : UInt8.ofNat c.toNat = c := by simp
theorem parseF_some (f : Nat) : ∀ (first : Bool) (b : List UInt8) (n k : Nat), parseF f first b = some (n, k) → n < 64 * 128 ^ f ∧ (first = false → n ≠ 0) ∧ ∃ r, b = numF f n ++ r ∧ k = (numF f n).length := by
  induction f with
  | zero =>
    intro first b n k h
    cases b with
    | nil => simp [parseF] at h
    | cons c r =>
      rw [parseF] at h
      split at h
      · cases h
      · rename_i h1
        split at h
        · cases h
        · rename_i h2
          simp only [Option.some.injEq, Prod.mk.injEq] at h
          obtain ⟨rfl, rfl⟩ := h
          refine ⟨by omega, fun hf h0 => h2 ⟨h0, hf⟩, r, ?_, rfl⟩
          simp [numF]
  | succ f ih =>
    intro first b n k h
    cases b with
    | nil => simp [parseF] at h
    | cons c r =>
      have hc : c.toNat < 256 := c.toNat_lt
      rw [parseF] at h
      split at h
      · rename_i h1
        obtain ⟨⟨n', k'⟩, hp, he⟩ := Option.map_eq_some_iff.1 h
        simp only [Prod.mk.injEq] at he
        obtain ⟨rfl, rfl⟩ := he
        obtain ⟨i1, i2, s, rfl, rfl⟩ := ih false r n' k' hp
        have hn' := i2 rfl
        have e1 : (c.toNat % 128 + 128 * n') / 128 = n' := by omega
        have e2 : (c.toNat % 128 + 128 * n') % 128 + 128 = c.toNat := by omega
        have e3 : numF (f + 1) (c.toNat % 128 + 128 * n') = c :: numF f n' := by
          rw [numF, if_neg (by omega), e1, e2, byte_self]
        refine ⟨by rw [Nat.pow_succ]; omega, fun _ => by omega, s, by rw [e3]; rfl, by rw [e3]; rfl⟩
      · rename_i h1
        split at h
        · cases h
        · rename_i h2
          simp only [Option.some.injEq, Prod.mk.injEq] at h
          obtain ⟨rfl, rfl⟩ := h
          have e3 : numF (f + 1) c.toNat = [c] := by rw [numF, if_pos (by omega), byte_self]
          refine ⟨?_, fun hf h0 => h2 ⟨h0, hf⟩, r, by rw [e3]; rfl, by rw [e3]; rfl⟩
          have : 0 < 128 ^ f := Nat.pow_pos (by omega)
          rw [Nat.pow_succ]; omega
theorem parse_some {b : List UInt8} {n k : Nat} (h : parse b = some (n, k)) : n ≤ 4611686018427387903 ∧ ∃ r, b = numL n ++ r ∧ k = (numL n).length := by
  obtain ⟨h1, _, r, h2, h3⟩ := parseF_some 8 true b n k h
  exact ⟨by omega, r, h2, h3⟩
/-- One number, one row. -/
theorem numL_inj {n m : Nat} {r s : List UInt8} (hn : n ≤ 4611686018427387903) (hm : m ≤ 4611686018427387903) (h : numL n ++ r = numL m ++ s) : n = m ∧ r = s := by
  have h1 := parse_numL n r hn
  rw [h, parse_numL m s hm] at h1
  obtain rfl : m = n := by simpa using congrArg (Option.map Prod.fst) h1
  exact ⟨rfl, List.append_cancel_left h⟩
/-- A row that is cut off begins with none. -/
theorem parse_cut {n j : Nat} {r : List UInt8} (hn : n ≤ 4611686018427387903) (h : j < (numL n).length) : parse ((numL n ++ r).take j) = none := by
  cases hp : parse ((numL n ++ r).take j) with
  | none => rfl
  | some p =>
    obtain ⟨m, k⟩ := p
    obtain ⟨hm, s, e, rfl⟩ := parse_some hp
    have e1 : numL n ++ r = numL m ++ (s ++ (numL n ++ r).drop j) := by
      rw [← List.append_assoc, ← e, List.take_append_drop]
    obtain ⟨rfl, _⟩ := numL_inj hn hm e1
    have := congrArg List.length e
    simp only [List.length_take, List.length_append] at this
    omega

/-! ### Numbers that may be below 0 -/
def clampN (n : Int) : Nat := if n < 0 then 0 else if 4611686018427387903 < n then 4611686018427387903 else n.toNat
theorem clampN_le (n : Int) : clampN n ≤ 4611686018427387903 := by unfold clampN; split <;> (try split) <;> omega
theorem clampN_nat (n : Nat) (h : n ≤ 4611686018427387903) : clampN (n : Int) = n := by unfold clampN; rw [if_neg (by omega), if_neg (by omega)]; rfl
def clampI (n : Int) : Int := if n < -2305843009213693952 then -2305843009213693952 else if 2305843009213693951 < n then 2305843009213693951 else n
theorem clampI_in (n : Int) : -2305843009213693952 ≤ clampI n ∧ clampI n ≤ 2305843009213693951 := by unfold clampI; split <;> (try split) <;> omega
def zig (n : Int) : Nat := if n < 0 then (-2 * n - 1).toNat else (2 * n).toNat
theorem zig_le (n : Int) (h : -2305843009213693952 ≤ n ∧ n ≤ 2305843009213693951) : zig n ≤ 4611686018427387903 := by unfold zig; split <;> omega
def unzig (n : Nat) : Int := if n % 2 = 1 then -(((n + 1) / 2 : Nat) : Int) else ((n / 2 : Nat) : Int)
theorem unzig_zig (n : Int) : unzig (zig n) = n := by unfold unzig zig; split <;> split <;> omega
theorem zig_unzig (n : Nat) : zig (unzig n) = n := by unfold unzig zig; split <;> split <;> omega
theorem unzig_in (n : Nat) (h : n ≤ 4611686018427387903) : -2305843009213693952 ≤ unzig n ∧ unzig n ≤ 2305843009213693951 := by unfold unzig; split <;> omega
theorem clampI_in_self (n : Int) (h : -2305843009213693952 ≤ n ∧ n ≤ 2305843009213693951) : clampI n = n := by unfold clampI; rw [if_neg (by omega), if_neg (by omega)]
def intL (n : Int) : List UInt8 := numL (zig (clampI n))
theorem intL_pos (n : Int) : 0 < (intL n).length := numL_pos _
theorem intL_le (n : Int) : (intL n).length ≤ 9 := numL_le _
end Go.Proofs.Ytplhcidfboaobaa
