/- Plain mathematics of package press: one token at a time. No program here. -/
import Derived.Test.YtjieljmlpbiidaaPressPure2
namespace Go.Proofs.Ytjieljmlpbiidaa
/-- Nine bytes tell whether a number is there. -/
theorem parse_nine (p : List UInt8) (h : parse p = none) : parse (p.take 9) = none := by
  rcases parse_cases (p.take 9) with h1 | ⟨n, r, hn, he⟩
  · exact h1
  · exfalso
    have e : p = numL n ++ (r ++ p.drop 9) := by rw [← List.append_assoc, ← he, List.take_append_drop]
    rw [e, parse_numL n _ hn] at h
    cases h
theorem take_nine (n : Nat) (r : List UInt8) : (numL n ++ r).take 9 = numL n ++ r.take (9 - (numL n).length) := by
  have := numL_le n
  rw [List.take_append, List.take_of_length_le this]
/-- A copy's rest: its distance, and what it lays. -/
def copyStep (size : Nat) (O q : List UInt8) (n : Nat) : Option (List UInt8 × List UInt8) :=
  match parse q with
  | none => none
  | some (d, k2) => if d = 0 ∨ min O.length 4096 < d ∨ min (size - O.length) 259 < n then none else some (copyL d n O, q.drop k2)
/-- One token. -/
def stepT (size : Nat) (O p : List UInt8) : Option (List UInt8 × List UInt8) :=
  match parse p with
  | none => none
  | some (t, k) =>
    if t % 2 = 1 then copyStep size O (p.drop k) (t / 2 + 4)
    else if min (size - O.length) (p.drop k).length < t / 2 + 1 then none else some (O ++ (p.drop k).take (t / 2 + 1), (p.drop k).drop (t / 2 + 1))
theorem tok_stepT {size f : Nat} {O p : List UInt8} (hp : 0 < p.length) : tok size (f + 1) O p = (stepT size O p).bind fun x => tok size f x.1 x.2 := by
  rw [tok, if_neg (by omega)]
  unfold stepT copyStep
  cases parse p with
  | none => rfl
  | some x =>
    obtain ⟨t, k⟩ := x
    simp only
    split
    · cases parse (p.drop k) with
      | none => rfl
      | some y =>
        obtain ⟨d, k2⟩ := y
        simp only
        split
        · rfl
        · rfl
    · split
      · rfl
      · rfl
theorem copyStep_bad {size : Nat} {O q : List UInt8} {n : Nat} (h : parse q = none) : copyStep size O q n = none := by unfold copyStep; rw [h]
theorem copyStep_num {size : Nat} {O r : List UInt8} {n d : Nat} (hd : d ≤ 4611686018427387903) : copyStep size O (numL d ++ r) n = if d = 0 ∨ min O.length 4096 < d ∨ min (size - O.length) 259 < n then none else some (copyL d n O, r) := by
  unfold copyStep
  rw [parse_numL d r hd]
  simp only [List.drop_left]
theorem stepT_bad {size : Nat} {O p : List UInt8} (h : parse p = none) : stepT size O p = none := by unfold stepT; rw [h]
theorem stepT_copy {size : Nat} {O q : List UInt8} {t : Nat} (ht : t ≤ 4611686018427387903) (h : t % 2 = 1) : stepT size O (numL t ++ q) = copyStep size O q (t / 2 + 4) := by
  unfold stepT
  rw [parse_numL t q ht]
  simp only [List.drop_left]
  rw [if_pos h]
theorem stepT_run {size : Nat} {O q : List UInt8} {t : Nat} (ht : t ≤ 4611686018427387903) (h : ¬ t % 2 = 1) : stepT size O (numL t ++ q) = if min (size - O.length) q.length < t / 2 + 1 then none else some (O ++ q.take (t / 2 + 1), q.drop (t / 2 + 1)) := by
  unfold stepT
  rw [parse_numL t q ht]
  simp only [List.drop_left]
  rw [if_neg h]
theorem copyStep_le {size : Nat} {O q O' q' : List UInt8} {n : Nat} (h : copyStep size O q n = some (O', q')) (hO : O.length ≤ size) : q'.length < q.length ∧ O'.length ≤ size := by
  rcases parse_cases q with hq | ⟨d, r, hd, rfl⟩
  · rw [copyStep_bad hq] at h; cases h
  · rw [copyStep_num hd] at h
    split at h
    · cases h
    · rename_i hc
      simp only [Option.some.injEq, Prod.mk.injEq] at h
      obtain ⟨rfl, rfl⟩ := h
      have := numL_pos d
      rw [List.length_append, copyL_length]
      omega
theorem stepT_le {size : Nat} {O p O' p' : List UInt8} (h : stepT size O p = some (O', p')) (hO : O.length ≤ size) : p'.length < p.length ∧ O'.length ≤ size := by
  rcases parse_cases p with hp | ⟨t, q, ht, rfl⟩
  · rw [stepT_bad hp] at h; cases h
  · have hpos := numL_pos t
    rw [List.length_append]
    by_cases hodd : t % 2 = 1
    · rw [stepT_copy ht hodd] at h
      have := copyStep_le h hO
      omega
    · rw [stepT_run ht hodd] at h
      split at h
      · cases h
      · rename_i hc
        simp only [Option.some.injEq, Prod.mk.injEq] at h
        obtain ⟨rfl, rfl⟩ := h
        rw [List.length_append, List.length_take, List.length_drop]
        omega
/-- A copy goes on. -/
theorem copyL_step {d m : Nat} {O : List UInt8} : copyL d (m + 1) O = copyL d m (O ++ [O.getD (O.length - d) 0]) := rfl
end Go.Proofs.Ytjieljmlpbiidaa
