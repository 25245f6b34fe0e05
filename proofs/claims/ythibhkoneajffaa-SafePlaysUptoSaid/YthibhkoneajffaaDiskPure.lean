/- Package disk as plain mathematics: files in the order of their names, what each raw write makes of them. No function of the program here. -/
import Derived.Test.YthibhkoneajffaaMem
namespace Go.Proofs.Ythibhkoneajffaa
abbrev Bs := List UInt8
abbrev Files := List (Bs × Bs)
theorem bs_lt_irrefl (a : Bs) : ¬ a < a := List.lt_irrefl a
theorem bs_lt_trans {a b c : Bs} (h : a < b) (k : b < c) : a < c := List.lt_trans h k
theorem bs_tri (a b : Bs) : a < b ∨ a = b ∨ b < a := by
  by_cases h : a < b
  · exact .inl h
  · by_cases k : b < a
    · exact .inr (.inr k)
    · exact .inr (.inl (List.le_antisymm (List.not_lt.1 k) (List.not_lt.1 h)))
/-! ### Lists in the order of their names -/
section
variable {α : Type}
def findF (n : Bs) : List (Bs × α) → Option α
  | [] => none
  | p :: r => if p.1 = n then some p.2 else findF n r
def putF (n : Bs) (x : α) : List (Bs × α) → List (Bs × α)
  | [] => [(n, x)]
  | p :: r => if p.1 = n then (n, x) :: r else if p.1 < n then p :: putF n x r else (n, x) :: p :: r
def delF (n : Bs) : List (Bs × α) → List (Bs × α)
  | [] => []
  | p :: r => if p.1 = n then r else p :: delF n r
/-- In order, no name twice. -/
def Rising (l : List (Bs × α)) : Prop := l.Pairwise (fun p q => p.1 < q.1)
theorem Rising.nil : Rising ([] : List (Bs × α)) := List.Pairwise.nil
theorem findF_mem {n : Bs} {x : α} : ∀ {l : List (Bs × α)}, findF n l = some x → (n, x) ∈ l
  | [], h => by cases h
  | p :: r, h => by
    unfold findF at h
    split at h
    · rename_i e
      cases h
      subst e
      exact List.mem_cons_self
    · exact List.mem_cons_of_mem _ (findF_mem h)
theorem findF_none {n : Bs} : ∀ {l : List (Bs × α)}, findF n l = none ↔ ∀ p ∈ l, p.1 ≠ n
  | [] => by simp [findF]
  | p :: r => by
    unfold findF
    split
    · rename_i e
      simp [e]
    · rename_i e
      simp [findF_none (l := r), e]
theorem findF_of_mem {n : Bs} {x : α} : ∀ {l : List (Bs × α)}, Rising l → (n, x) ∈ l → findF n l = some x
  | [], _, h => by cases h
  | p :: r, hr, h => by
    obtain ⟨h1, h2⟩ := List.pairwise_cons.1 hr
    unfold findF
    rcases List.mem_cons.1 h with rfl | h
    · simp
    · have := h1 _ h
      rw [if_neg (fun e => by rw [e] at this; exact bs_lt_irrefl _ this)]
      exact findF_of_mem h2 h
theorem findF_low {n : Bs} : ∀ {l : List (Bs × α)}, (∀ p ∈ l, n < p.1) → findF n l = none := fun h => findF_none.2 fun p hp e => by
  have := h p hp
  rw [e] at this
  exact bs_lt_irrefl _ this
theorem mem_putF {n : Bs} {x : α} {q : Bs × α} : ∀ {l : List (Bs × α)}, q ∈ putF n x l → q = (n, x) ∨ q ∈ l
  | [], h => by
    simp only [putF, List.mem_cons, List.not_mem_nil, or_false] at h
    exact .inl h
  | p :: r, h => by
    unfold putF at h
    split at h
    · rcases List.mem_cons.1 h with h | h
      · exact .inl h
      · exact .inr (List.mem_cons_of_mem _ h)
    · split at h
      · rcases List.mem_cons.1 h with h | h
        · exact .inr (by rw [h]; exact List.mem_cons_self)
        · rcases mem_putF h with h | h
          · exact .inl h
          · exact .inr (List.mem_cons_of_mem _ h)
      · rcases List.mem_cons.1 h with h | h
        · exact .inl h
        · exact .inr h
theorem Rising.put {n : Bs} {x : α} : ∀ {l : List (Bs × α)}, Rising l → Rising (putF n x l)
  | [], _ => by simp [putF, Rising]
  | p :: r, hr => by
    obtain ⟨h1, h2⟩ := List.pairwise_cons.1 hr
    unfold putF
    split
    · rename_i e
      exact List.pairwise_cons.2 ⟨fun q hq => by have := h1 q hq; rw [e] at this; exact this, h2⟩
    · rename_i e
      split
      · rename_i hlt
        refine List.pairwise_cons.2 ⟨fun q hq => ?_, Rising.put h2⟩
        rcases mem_putF hq with rfl | hq
        · exact hlt
        · exact h1 q hq
      · rename_i hlt
        have hnp : n < p.1 := by
          rcases bs_tri p.1 n with h | h | h
          · exact absurd h hlt
          · exact absurd h e
          · exact h
        refine List.pairwise_cons.2 ⟨fun q hq => ?_, hr⟩
        rcases List.mem_cons.1 hq with rfl | hq
        · exact hnp
        · exact bs_lt_trans hnp (h1 q hq)
theorem mem_delF {n : Bs} {q : Bs × α} : ∀ {l : List (Bs × α)}, q ∈ delF n l → q ∈ l
  | [], h => h
  | p :: r, h => by
    unfold delF at h
    split at h
    · exact List.mem_cons_of_mem _ h
    · rcases List.mem_cons.1 h with h | h
      · rw [h]; exact List.mem_cons_self
      · exact List.mem_cons_of_mem _ (mem_delF h)
theorem Rising.del {n : Bs} : ∀ {l : List (Bs × α)}, Rising l → Rising (delF n l)
  | [], h => h
  | p :: r, hr => by
    obtain ⟨h1, h2⟩ := List.pairwise_cons.1 hr
    unfold delF
    split
    · exact h2
    · exact List.pairwise_cons.2 ⟨fun q hq => h1 q (mem_delF hq), Rising.del h2⟩
theorem findF_put_same (n : Bs) (x : α) : ∀ (l : List (Bs × α)), findF n (putF n x l) = some x
  | [] => by simp [putF, findF]
  | p :: r => by
    unfold putF
    split
    · simp [findF]
    · rename_i e
      split
      · simp only [findF, if_neg e]; exact findF_put_same n x r
      · simp [findF]
theorem findF_put_other {n m : Bs} (x : α) (h : m ≠ n) : ∀ (l : List (Bs × α)), findF m (putF n x l) = findF m l
  | [] => by simp [putF, findF, h.symm]
  | p :: r => by
    unfold putF
    split
    · rename_i e
      have e2 : p.1 ≠ m := fun k => h (k.symm.trans e)
      simp [findF, h.symm, e2]
    · split
      · simp only [findF]
        rw [findF_put_other x h r]
      · simp [findF, h.symm]
theorem findF_del_other {n m : Bs} (h : m ≠ n) : ∀ (l : List (Bs × α)), findF m (delF n l) = findF m l
  | [] => rfl
  | p :: r => by
    unfold delF
    split
    · rename_i e
      have e2 : p.1 ≠ m := fun k => h (k.symm.trans e)
      simp [findF, e2]
    · simp only [findF]
      rw [findF_del_other h r]
theorem findF_del_same {n : Bs} : ∀ {l : List (Bs × α)}, Rising l → findF n (delF n l) = none
  | [], _ => rfl
  | p :: r, hr => by
    obtain ⟨h1, h2⟩ := List.pairwise_cons.1 hr
    unfold delF
    split
    · rename_i e
      exact findF_low (fun q hq => by rw [← e]; exact h1 q hq)
    · rename_i e
      simp only [findF, if_neg e]
      exact findF_del_same h2
/-- What is found by each name says the whole list. -/
theorem rising_ext : ∀ {a b : List (Bs × α)}, Rising a → Rising b → (∀ n, findF n a = findF n b) → a = b
  | [], [], _, _, _ => rfl
  | [], q :: s, _, _, h => by have := h q.1; simp [findF] at this
  | p :: r, [], _, _, h => by have := h p.1; simp [findF] at this
  | p :: r, q :: s, ha, hb, h => by
    obtain ⟨a1, a2⟩ := List.pairwise_cons.1 ha
    obtain ⟨b1, b2⟩ := List.pairwise_cons.1 hb
    have hn : p.1 = q.1 := by
      rcases bs_tri p.1 q.1 with k | k | k
      · have h1 := h p.1
        rw [findF_low (l := q :: s) (fun y hy => by
          rcases List.mem_cons.1 hy with rfl | hy
          · exact k
          · exact bs_lt_trans k (b1 y hy))] at h1
        simp [findF] at h1
      · exact k
      · have h1 := h q.1
        rw [findF_low (l := p :: r) (fun y hy => by
          rcases List.mem_cons.1 hy with rfl | hy
          · exact k
          · exact bs_lt_trans k (a1 y hy))] at h1
        simp [findF] at h1
    have hx : p.2 = q.2 := by
      have h1 := h p.1
      simpa [findF, hn] using h1
    have hpq : p = q := Prod.ext hn hx
    subst hpq
    congr 1
    refine rising_ext a2 b2 fun n => ?_
    by_cases e : p.1 = n
    · rw [← e, findF_low a1, findF_low b1]
    · have h1 := h n
      simpa [findF, e] using h1
/-- A name that is new: how long the list is then. -/
theorem putF_length_new {n : Bs} {x : α} : ∀ {l : List (Bs × α)}, findF n l = none → (putF n x l).length = l.length + 1
  | [], _ => rfl
  | p :: r, h => by
    unfold findF at h
    split at h
    · cases h
    · rename_i e
      unfold putF
      rw [if_neg e]
      split
      · simp [putF_length_new h]
      · rfl
theorem putF_length_le {n : Bs} {x : α} : ∀ {l : List (Bs × α)}, (putF n x l).length ≤ l.length + 1
  | [] => Nat.le_refl _
  | p :: r => by
    unfold putF
    split
    · simp
    · split
      · simp [putF_length_le (l := r)]
      · simp
theorem putF_old {n : Bs} {x : α} : ∀ {l : List (Bs × α)}, findF n l = some x → Rising l → putF n x l = l
  | [], h, _ => by cases h
  | p :: r, h, hr => by
    obtain ⟨h1, h2⟩ := List.pairwise_cons.1 hr
    unfold findF at h
    split at h
    · rename_i e
      cases h
      subst e
      simp [putF]
    · rename_i e
      have hm := findF_mem h
      have := h1 _ hm
      simp only at this
      unfold putF
      rw [if_neg e, if_pos this, putF_old h h2]
/-! ### The place of a name -/
def posF (n : Bs) : List (Bs × α) → Nat
  | [] => 0
  | p :: r => if p.1 < n then posF n r + 1 else 0
theorem posF_le (n : Bs) : ∀ l : List (Bs × α), posF n l ≤ l.length
  | [] => Nat.le_refl _
  | p :: r => by
    unfold posF
    split
    · simp [posF_le n r]
    · omega
theorem posF_before {n : Bs} : ∀ {l : List (Bs × α)} {i : Nat} {p : Bs × α}, i < posF n l → l[i]? = some p → p.1 < n
  | [], i, p, h, _ => by simp [posF] at h
  | q :: r, i, p, h, hp => by
    unfold posF at h
    split at h
    · cases i with
      | zero => simp at hp; subst hp; assumption
      | succ i => exact posF_before (l := r) (i := i) (by omega) (by simpa using hp)
    · omega
theorem posF_at {n : Bs} : ∀ {l : List (Bs × α)} {p : Bs × α}, l[posF n l]? = some p → ¬ p.1 < n
  | [], p, h => by simp at h
  | q :: r, p, h => by
    unfold posF at h
    split at h
    · exact posF_at (l := r) (by simpa using h)
    · simp at h; subst h; assumption
/-- Where places before i hold lesser names, and i none: it is that place. -/
theorem posF_is {n : Bs} : ∀ {l : List (Bs × α)} {i : Nat}, i ≤ l.length → (∀ j p, j < i → l[j]? = some p → p.1 < n) → (∀ p, l[i]? = some p → ¬ p.1 < n) → posF n l = i
  | [], i, h, _, _ => by simp at h; simp [posF, h]
  | q :: r, i, h, h1, h2 => by
    unfold posF
    cases i with
    | zero =>
      have := h2 q (by simp)
      rw [if_neg this]
    | succ i =>
      have := h1 0 q (by omega) (by simp)
      rw [if_pos this, posF_is (l := r) (i := i) (by simpa using h) (fun j p hj hp => h1 (j + 1) p (by omega) (by simpa using hp)) (fun p hp => h2 p (by simpa using hp))]
/-- Is it there? -/
def thereF (n : Bs) (l : List (Bs × α)) : Bool := (findF n l).isSome
theorem there_of {n : Bs} : ∀ {l : List (Bs × α)}, Rising l → (thereF n l = true ↔ ∃ p, l[posF n l]? = some p ∧ p.1 = n)
  | [], _ => by simp [thereF, findF]
  | q :: r, hr => by
    obtain ⟨h1, h2⟩ := List.pairwise_cons.1 hr
    unfold thereF findF posF
    by_cases e : q.1 = n
    · have : ¬ q.1 < n := fun h => by rw [e] at h; exact bs_lt_irrefl _ h
      simp [e, bs_lt_irrefl]
    · rw [if_neg e]
      by_cases hlt : q.1 < n
      · rw [if_pos hlt]
        have := there_of (n := n) h2
        simpa [thereF] using this
      · rw [if_neg hlt]
        have hnq : n < q.1 := by
          rcases bs_tri q.1 n with h | h | h
          · exact absurd h hlt
          · exact absurd h e
          · exact h
        have : findF n r = none := findF_low (fun y hy => bs_lt_trans hnq (h1 y hy))
        simp [this, e]
theorem putF_place {n : Bs} (x : α) : ∀ {l : List (Bs × α)}, Rising l → putF n x l = l.take (posF n l) ++ (n, x) :: l.drop (if thereF n l = true then posF n l + 1 else posF n l)
  | [], _ => by simp [putF, posF]
  | q :: r, hr => by
    obtain ⟨h1, h2⟩ := List.pairwise_cons.1 hr
    by_cases e : q.1 = n
    · have hl : ¬ q.1 < n := fun h => by rw [e] at h; exact bs_lt_irrefl _ h
      simp [putF, posF, thereF, findF, e, bs_lt_irrefl]
    · by_cases hlt : q.1 < n
      · have ht : thereF n (q :: r) = thereF n r := by simp [thereF, findF, e]
        rw [ht]
        unfold putF posF
        rw [if_neg e, if_pos hlt, if_pos hlt, putF_place x h2]
        split <;> simp
      · have hnq : n < q.1 := by
          rcases bs_tri q.1 n with h | h | h
          · exact absurd h hlt
          · exact absurd h e
          · exact h
        have hf : findF n r = none := findF_low (fun y hy => bs_lt_trans hnq (h1 y hy))
        simp [putF, posF, thereF, findF, e, hlt, hf]
theorem delF_place {n : Bs} : ∀ {l : List (Bs × α)}, Rising l → thereF n l = true → delF n l = l.take (posF n l) ++ l.drop (posF n l + 1)
  | [], _, h => by simp [thereF, findF] at h
  | q :: r, hr, h => by
    obtain ⟨h1, h2⟩ := List.pairwise_cons.1 hr
    by_cases e : q.1 = n
    · simp [delF, posF, e, bs_lt_irrefl]
    · by_cases hlt : q.1 < n
      · have ht : thereF n r = true := by simpa [thereF, findF, e] using h
        unfold delF posF
        rw [if_neg e, if_pos hlt, delF_place h2 ht]
        simp
      · have hnq : n < q.1 := by
          rcases bs_tri q.1 n with h | h | h
          · exact absurd h hlt
          · exact absurd h e
          · exact h
        have hf : findF n r = none := findF_low (fun y hy => bs_lt_trans hnq (h1 y hy))
        simp [thereF, findF, e, hf] at h
theorem find_place {n : Bs} : ∀ {l : List (Bs × α)} {x : α}, Rising l → findF n l = some x → l[posF n l]? = some (n, x)
  | [], x, _, h => by cases h
  | q :: r, x, hr, h => by
    obtain ⟨h1, h2⟩ := List.pairwise_cons.1 hr
    by_cases e : q.1 = n
    · simp only [findF, if_pos e] at h
      cases h
      simp only [posF, e, bs_lt_irrefl, if_false]
      simp [← e]
    · simp only [findF, if_neg e] at h
      have := h1 _ (findF_mem h)
      simp only at this
      simp only [posF, if_pos this]
      simpa using find_place h2 h
theorem del_gone {n : Bs} : ∀ {l : List (Bs × α)}, findF n l = none → delF n l = l
  | [], _ => rfl
  | p :: r, h => by
    unfold findF at h
    split at h
    · cases h
    · rename_i e
      simp only [delF, if_neg e, del_gone h]
end
/-! ### What files cost -/
def costF (n b : Bs) : Nat := 16 + n.length + b.length
def costs : Files → Nat
  | [] => 0
  | p :: r => costF p.1 p.2 + costs r
theorem costs_put_new {n b : Bs} : ∀ {l : Files}, findF n l = none → costs (putF n b l) = costs l + costF n b
  | [], _ => by simp [putF, costs]
  | p :: r, h => by
    unfold findF at h
    split at h
    · cases h
    · rename_i e
      unfold putF
      rw [if_neg e]
      split
      · simp only [costs, costs_put_new h]; omega
      · simp only [costs]; omega
theorem costs_put_old {n b c : Bs} : ∀ {l : Files}, Rising l → findF n l = some c → costs (putF n b l) + c.length = costs l + b.length
  | [], _, h => by cases h
  | p :: r, hr, h => by
    obtain ⟨h1, h2⟩ := List.pairwise_cons.1 hr
    unfold findF at h
    split at h
    · rename_i e
      cases h
      unfold putF
      rw [if_pos e]
      simp only [costs, costF, e]
      omega
    · rename_i e
      have := h1 _ (findF_mem h)
      simp only at this
      simp only [putF, if_neg e, if_pos this, costs]
      have := costs_put_old (b := b) h2 h
      omega
theorem costs_del {n c : Bs} : ∀ {l : Files}, findF n l = some c → costs (delF n l) + costF n c = costs l
  | [], h => by cases h
  | p :: r, h => by
    unfold findF at h
    split at h
    · rename_i e
      cases h
      unfold delF
      rw [if_pos e]
      simp only [costs, e]
      omega
    · rename_i e
      simp only [delF, if_neg e, costs]
      have := costs_del h
      omega
theorem costs_mem {n c : Bs} : ∀ {l : Files}, (n, c) ∈ l → costF n c ≤ costs l
  | [], h => by cases h
  | p :: r, h => by
    rcases List.mem_cons.1 h with rfl | h
    · simp only [costs]; omega
    · have := costs_mem h
      simp only [costs]; omega
theorem costs_length : ∀ (l : Files), 16 * l.length ≤ costs l
  | [] => Nat.le_refl _
  | p :: r => by
    have := costs_length r
    simp only [costs, costF, List.length_cons]
    omega
theorem costs_append : ∀ (a b : Files), costs (a ++ b) = costs a + costs b
  | [], b => by simp [costs]
  | p :: r, b => by
    have := costs_append r b
    simp only [List.cons_append, costs, this]
    omega
end Go.Proofs.Ythibhkoneajffaa
