/- Files laid one after the other: plain mathematics. -/
import Derived.Test.YthibhkoneajffaaDiskSt
namespace Go.Proofs.Ythibhkoneajffaa
/-- Files laid one after the other upon others. -/
def layOn (s : Files) (l : Files) : Files := l.foldl (fun s f => putF f.1 f.2 s) s
def layF (l : Files) : Files := layOn [] l
/-- The same names, without bytes. -/
def bareF (l : Files) : Files := l.map fun f => (f.1, [])
theorem layOn_rising : ∀ (l s : Files), Rising s → Rising (layOn s l)
  | [], _, h => h
  | _ :: r, _, h => layOn_rising r _ h.put
theorem layF_rising (l : Files) : Rising (layF l) := layOn_rising l [] Rising.nil
theorem layF_one (l : Files) (f : Bs × Bs) : layF (l ++ [f]) = putF f.1 f.2 (layF l) := by
  unfold layF layOn
  rw [List.foldl_append]
  rfl
theorem layOn_find (m : Bs) : ∀ (l s : Files), (∀ f ∈ l, f.1 ≠ m) → findF m (layOn s l) = findF m s
  | [], _, _ => rfl
  | f :: r, s, h => by
    show findF m (layOn (putF f.1 f.2 s) r) = _
    rw [layOn_find m r _ (fun g hg => h g (List.mem_cons_of_mem _ hg)), findF_put_other _ (fun e => h f List.mem_cons_self e.symm)]
theorem layOn_mem (m : Bs) : ∀ (l s : Files), (∃ f ∈ l, f.1 = m) → ∃ b, (m, b) ∈ l ∧ findF m (layOn s l) = some b
  | [], _, h => by obtain ⟨_, h, _⟩ := h; cases h
  | f :: r, s, h => by
    by_cases hr : ∃ g ∈ r, g.1 = m
    · obtain ⟨b, h1, h2⟩ := layOn_mem m r (putF f.1 f.2 s) hr
      exact ⟨b, List.mem_cons_of_mem _ h1, h2⟩
    · obtain ⟨g, hg, he⟩ := h
      rcases List.mem_cons.1 hg with rfl | hg
      · refine ⟨g.2, by rw [← he]; exact List.mem_cons_self, ?_⟩
        show findF m (layOn (putF g.1 g.2 s) r) = _
        rw [layOn_find m r _ (fun k hk e => hr ⟨k, hk, e⟩), ← he, findF_put_same]
      · exact absurd ⟨g, hg, he⟩ hr
theorem layF_there (m : Bs) (l : Files) : thereF m (layF l) = true ↔ ∃ f ∈ l, f.1 = m := by
  by_cases h : ∃ f ∈ l, f.1 = m
  · obtain ⟨b, _, h2⟩ := layOn_mem m l [] h
    simp only [thereF, layF, h2, Option.isSome_some, true_iff]
    exact h
  · have h2 := layOn_find m l [] (fun f hf e => h ⟨f, hf, e⟩)
    simp only [thereF, layF, h2, h, iff_false]
    simp [findF]
theorem layF_bare (m : Bs) (l : Files) : thereF m (layF (bareF l)) = thereF m (layF l) := by
  have h : (∃ f ∈ bareF l, f.1 = m) ↔ ∃ f ∈ l, f.1 = m := by
    unfold bareF
    constructor
    · rintro ⟨f, hf, e⟩
      obtain ⟨g, hg, rfl⟩ := List.mem_map.1 hf
      exact ⟨g, hg, e⟩
    · rintro ⟨f, hf, e⟩
      exact ⟨_, List.mem_map.2 ⟨f, hf, rfl⟩, e⟩
  have h1 := layF_there m (bareF l)
  have h2 := layF_there m l
  rw [h] at h1
  cases h3 : thereF m (layF (bareF l)) <;> cases h4 : thereF m (layF l) <;> simp_all
theorem layF_in {n b : Bs} {l : Files} (h : findF n (layF l) = some b) : (n, b) ∈ l := by
  by_cases hm : ∃ f ∈ l, f.1 = n
  · obtain ⟨c, h1, h2⟩ := layOn_mem n l [] hm
    have : findF n (layF l) = some c := h2
    rw [h] at this
    rw [Option.some.inj this]
    exact h1
  · have h2 : findF n (layF l) = findF n [] := layOn_find n l [] (fun f hf e => hm ⟨f, hf, e⟩)
    rw [h] at h2
    cases h2
theorem layOn_ext : ∀ (l s t : Files), (∀ m, (∀ f ∈ l, f.1 ≠ m) → findF m s = findF m t) → ∀ m, findF m (layOn s l) = findF m (layOn t l)
  | [], _, _, h, m => h m (fun f hf => by cases hf)
  | f :: r, s, t, h, m => by
    refine layOn_ext r (putF f.1 f.2 s) (putF f.1 f.2 t) (fun k hk => ?_) m
    by_cases e : k = f.1
    · rw [e, findF_put_same, findF_put_same]
    · rw [findF_put_other _ e, findF_put_other _ e]
      refine h k (fun g hg => ?_)
      rcases List.mem_cons.1 hg with rfl | hg
      · exact fun e2 => e e2.symm
      · exact hk g hg
/-- First the names, then the bytes. -/
theorem layF_twice (l : Files) : layF (bareF l ++ l) = layF l := by
  refine rising_ext (layF_rising _) (layF_rising _) fun m => ?_
  have h : layF (bareF l ++ l) = layOn (layF (bareF l)) l := by
    unfold layF layOn
    rw [List.foldl_append]
  rw [h]
  refine layOn_ext l _ [] (fun k hk => ?_) m
  refine layOn_find k (bareF l) [] (fun f hf => ?_)
  unfold bareF at hf
  obtain ⟨g, hg, rfl⟩ := List.mem_map.1 hf
  exact hk g hg
theorem layF_length (l : Files) : (layF l).length ≤ l.length := by
  have h : ∀ (l s : Files), (layOn s l).length ≤ s.length + l.length := by
    intro l
    induction l with
    | nil => intro s; exact Nat.le_refl _
    | cons f r ih =>
      intro s
      have h1 := ih (putF f.1 f.2 s)
      have h2 := putF_length_le (n := f.1) (x := f.2) (l := s)
      show (layOn (putF f.1 f.2 s) r).length ≤ _
      simp only [List.length_cons]
      omega
  have := h l []
  simp at this
  exact this
/-- The first k may be, and none comes twice. -/
def Fit (L : Files) (k : Nat) : Prop := ∀ i, i < k → ∀ n b, L[i]? = some (n, b) → named n = true ∧ thereF n (layF (L.take i)) = false
theorem fit_zero (L : Files) : Fit L 0 := fun _ hi => absurd hi (Nat.not_lt_zero _)
theorem Fit.more {L : Files} {k : Nat} (h : Fit L k) {n b : Bs} (hf : L[k]? = some (n, b)) (h1 : named n = true) (h2 : thereF n (layF (L.take k)) = false) : Fit L (k + 1) := fun i hi m c hm => by
  by_cases e : i = k
  · subst e
    rw [hf] at hm
    cases hm
    exact ⟨h1, h2⟩
  · exact h i (by omega) m c hm
theorem fit_not {L : Files} {k : Nat} {n b : Bs} (hf : L[k]? = some (n, b)) (h : ¬ (named n = true ∧ thereF n (layF (L.take k)) = false)) : ¬ Fit L L.length := fun hF => h (hF k (List.getElem?_eq_some_iff.1 hf).1 n b hf)
theorem take_one {L : Files} {k : Nat} {n b : Bs} (hf : L[k]? = some (n, b)) : L.take (k + 1) = L.take k ++ [(n, b)] := by rw [List.take_add_one, hf]; rfl
theorem Fit.costs {L : Files} : ∀ {k : Nat}, Fit L k → k ≤ L.length → costs (layF (L.take k)) = costs (L.take k)
  | 0, _, _ => by simp [layF, layOn]
  | k + 1, h, hk => by
    obtain ⟨⟨n, b⟩, hf⟩ : ∃ f, L[k]? = some f := ⟨_, List.getElem?_eq_getElem (by omega)⟩
    have ih := Fit.costs (k := k) (fun i hi => h i (by omega)) (by omega)
    have h2 := (h k (by omega) n b hf).2
    rw [take_one hf, layF_one, costs_append]
    have h3 : findF n (layF (L.take k)) = none := by
      unfold thereF at h2
      cases hh : findF n (layF (L.take k)) with
      | none => rfl
      | some x => rw [hh] at h2; cases h2
    rw [costs_put_new h3, ih]
    rfl
end Go.Proofs.Ythibhkoneajffaa
