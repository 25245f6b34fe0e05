/- Four bytes as a key of a map; the places of package press as mathematics: which place is the last one with four bytes, and how far back the one ahead of it stood. -/
import Derived.Test.YtjieljmlpbiidaaPressPure2
import Derived.Test.YtjieljmlpbiidaaMem
import Derived.DeepKeys4
import Derived.Maps.OwnSet
import Derived.Deep.MidRow
namespace Go.Proofs.Ytjieljmlpbiidaa
open Go.RowKit
theorem row53 : (55 : TypeId) < Try.prog.types.size := of_decide_eq_true (by kernel_rfl)
theorem wide53 : (match Try.prog.underlying 55 with | some (.array _ _) | some (.struct _) => true | _ => false) = true := by rw [Try.underlying55]
theorem K53 : Maps.Keyed Try.prog 55 := Maps.Keyed.of_law (deep_law_laid Try.laidOut (m := 2) (by omega) row53 (by kernel_rfl) wide53)
theorem key53 : Try.prog.keyType 55 = true := by kernel_rfl
theorem cells53 : Try.prog.cellsOf 55 = 4 := by kernel_rfl
theorem byteWf (x : UInt8) : (Lit.int .u8 (x.toNat : Int)).wf = true := by
  have := x.toNat_lt
  have e1 : IntKind.min .u8 = 0 := rfl
  have e2 : IntKind.max .u8 = 255 := rfl
  show (decide (IntKind.min .u8 ≤ (x.toNat : Int)) && decide ((x.toNat : Int) ≤ IntKind.max .u8)) = true
  rw [e1, e2, decide_eq_true (by omega), decide_eq_true (by omega)]
  rfl
theorem keyLits_byte (d : Nat) (x : UInt8) : Try.prog.keyLits (d + 1) 5 [B8 x] = some [.int .u8 (x.toNat : Int)] := by
  have := byteWf x
  simp [Program.keyLits, Try.underlying5, B8, this]
theorem keyLits_four (d : Nat) (x0 x1 x2 x3 : UInt8) : Try.prog.keyLits (d + 2) 55 [B8 x0, B8 x1, B8 x2, B8 x3] = some [.int .u8 (x0.toNat : Int), .int .u8 (x1.toNat : Int), .int .u8 (x2.toNat : Int), .int .u8 (x3.toNat : Int)] := by
  have h := keyLits_byte d
  rw [Program.keyLits.eq_def]
  simp only [Try.underlying55, cells5, cells53]
  simp [List.range, List.range.loop, h]
def fourV (f : List UInt8) : Value := .agg (cells8 f)
theorem fourV_key (f : List UInt8) (hf : f.length = 4) : ∃ l, keyOf Try.prog 55 (fourV f) = some l := by
  match f, hf with
  | [x0, x1, x2, x3], _ =>
    unfold keyOf
    rw [Try.underlying55]
    have hs : Try.prog.types.size + 1 = (Try.prog.types.size - 1) + 2 := by
      have h := row53
      have h2 : (55 : Nat) < Try.prog.types.size := h
      omega
    have e : (fourV [x0, x1, x2, x3]).cells.toList = [B8 x0, B8 x1, B8 x2, B8 x3] := rfl
    have hform : (fourV [x0, x1, x2, x3]).formed Try.prog 55 = true := by
      simp [Value.formed, fourV, Try.underlying55, cells53, cells8]
    simp only [key53, hform, Bool.and_self, if_true, e]
    rw [hs, keyLits_four]
    exact ⟨_, rfl⟩
theorem fourV_inj {f g : List UInt8} (h : fourV f = fourV g) : f = g := by
  unfold fourV cells8 at h
  have h1 : f.map B8 = g.map B8 := by simpa using h
  refine (List.map_inj_right ?_).1 h1
  intro x y hxy
  unfold B8 at hxy
  have : (x.toNat : Int) = y.toNat := by simpa using hxy
  exact UInt8.toNat_inj.1 (by omega)
noncomputable def fourK (f : List UInt8) : Lit := (keyOf Try.prog 55 (fourV f)).getD (.bool false)
theorem fourK_is {f : List UInt8} (hf : f.length = 4) : keyOf Try.prog 55 (fourV f) = some (fourK f) := by
  obtain ⟨l, h⟩ := fourV_key f hf
  unfold fourK
  rw [h]; rfl
theorem fourK_ne {f g : List UInt8} (hf : f.length = 4) (hg : g.length = 4) (h : f ≠ g) : fourK f ≠ fourK g := fun e =>
  h (fourV_inj (K53.inj (fourK_is hf) (by rw [e]; exact fourK_is hg)))

/-! ### Places of four bytes -/
def four (b : List UInt8) (k : Nat) : List UInt8 := [b.getD k 0, b.getD (k + 1) 0, b.getD (k + 2) 0, b.getD (k + 3) 0]
theorem four_length (b : List UInt8) (k : Nat) : (four b k).length = 4 := rfl
theorem four_alike {b : List UInt8} {k i : Nat} (hi : i + 4 ≤ b.length) : four b k = four b i ↔ 4 ≤ alike b k i := by
  have ha := alike_is b k i (by omega)
  constructor
  · intro h
    unfold four at h
    simp only [List.cons.injEq, and_true] at h
    obtain ⟨h0, h1, h2, h3⟩ := h
    refine Nat.le_of_not_lt fun hlt => ?_
    rcases ha.stop with e | e | e
    · omega
    · omega
    · have h4 : alike b k i = 0 ∨ alike b k i = 1 ∨ alike b k i = 2 ∨ alike b k i = 3 := by omega
      rcases h4 with h4 | h4 | h4 | h4 <;> rw [h4] at e
      · exact e h0
      · exact e h1
      · exact e h2
      · exact e h3
  · intro h
    have h0 := ha.eq 0 (by omega)
    have h1 := ha.eq 1 (by omega)
    have h2 := ha.eq 2 (by omega)
    have h3 := ha.eq 3 (by omega)
    simp only [Nat.add_zero] at h0
    unfold four
    rw [h0, h1, h2, h3]
/-- The last place below m with these four bytes. -/
def lastAt (b f : List UInt8) : Nat → Option Nat
  | 0 => none
  | m + 1 => if four b m = f then some m else lastAt b f m
theorem lastAt_some {b f : List UInt8} : ∀ {m k : Nat}, lastAt b f m = some k → k < m ∧ four b k = f ∧ ∀ j, k < j → j < m → four b j ≠ f
  | 0, k, h => by cases h
  | m + 1, k, h => by
    rw [lastAt] at h
    split at h
    · rename_i hf
      cases h
      exact ⟨Nat.lt_succ_self _, hf, fun j h1 h2 => by omega⟩
    · rename_i hf
      obtain ⟨h1, h2, h3⟩ := lastAt_some h
      refine ⟨by omega, h2, fun j h4 h5 => ?_⟩
      by_cases e : j = m
      · rw [e]; exact hf
      · exact h3 j h4 (by omega)
theorem lastAt_none {b f : List UInt8} : ∀ {m : Nat}, lastAt b f m = none → ∀ j, j < m → four b j ≠ f
  | 0, _, j, hj => by omega
  | m + 1, h, j, hj => by
    rw [lastAt] at h
    split at h
    · cases h
    · rename_i hf
      by_cases e : j = m
      · rw [e]; exact hf
      · exact lastAt_none h j (by omega)
/-- .. if it is no more than 4096 ahead of m. -/
def reach (m : Nat) : Option Nat → Option Nat
  | some k => if m ≤ k + 4096 then some k else none
  | none => none
def near (b f : List UInt8) (m : Nat) : Option Nat := reach m (lastAt b f m)
def ago (k : Nat) : Option Nat → Nat
  | some j => k - j
  | none => 0
/-- How far ahead of k the same four bytes stood last; 0, if nowhere in reach. -/
def backOf (b : List UInt8) (k : Nat) : Nat := ago k (reach (k + 1) (lastAt b (four b k) k))
theorem near_some {b f : List UInt8} {m k : Nat} (h : near b f m = some k) : k < m ∧ m ≤ k + 4096 ∧ four b k = f ∧ ∀ j, k < j → j < m → four b j ≠ f := by
  unfold near reach at h
  cases hl : lastAt b f m with
  | none => rw [hl] at h; cases h
  | some j =>
    rw [hl] at h
    simp only at h
    split at h
    · cases h
      obtain ⟨h1, h2, h3⟩ := lastAt_some hl
      exact ⟨h1, by assumption, h2, h3⟩
    · cases h
theorem near_none {b f : List UInt8} {m : Nat} (h : near b f m = none) : ∀ j, j < m → m ≤ j + 4096 → four b j ≠ f := by
  unfold near reach at h
  cases hl : lastAt b f m with
  | none => exact fun j h1 _ => lastAt_none hl j h1
  | some k =>
    rw [hl] at h
    simp only at h
    split at h
    · cases h
    · obtain ⟨h1, h2, h3⟩ := lastAt_some hl
      intro j h4 h5
      exact h3 j (by omega) h4
theorem reach_cases (b f : List UInt8) (m r : Nat) : reach r (lastAt b f m) = none ∧ (∀ j, j < m → r ≤ j + 4096 → four b j ≠ f) ∨ ∃ k, reach r (lastAt b f m) = some k ∧ k < m ∧ r ≤ k + 4096 ∧ four b k = f ∧ ∀ j, k < j → j < m → four b j ≠ f := by
  cases hl : lastAt b f m with
  | none => exact .inl ⟨rfl, fun j h1 _ => lastAt_none hl j h1⟩
  | some k =>
    obtain ⟨h1, h2, h3⟩ := lastAt_some hl
    by_cases hr : r ≤ k + 4096
    · exact .inr ⟨k, if_pos hr, h1, hr, h2, h3⟩
    · exact .inl ⟨if_neg hr, fun j h4 h5 => h3 j (by omega) h4⟩
theorem backOf_some {b : List UInt8} {k : Nat} (h : 0 < backOf b k) : backOf b k ≤ k ∧ backOf b k ≤ 4095 ∧ four b (k - backOf b k) = four b k ∧ ∀ j, k - backOf b k < j → j < k → four b j ≠ four b k := by
  unfold backOf at h ⊢
  rcases reach_cases b (four b k) k (k + 1) with ⟨e, _⟩ | ⟨j, e, h1, h2, h3, h4⟩
  · rw [e] at h; exact absurd h (Nat.lt_irrefl _)
  · rw [e]
    show k - j ≤ k ∧ k - j ≤ 4095 ∧ four b (k - (k - j)) = four b k ∧ ∀ i, k - (k - j) < i → i < k → four b i ≠ four b k
    rw [show k - (k - j) = j by omega]
    exact ⟨by omega, by omega, h3, h4⟩
theorem backOf_none {b : List UInt8} {k : Nat} (h : backOf b k = 0) : ∀ j, j < k → k ≤ j + 4095 → four b j ≠ four b k := by
  unfold backOf at h
  rcases reach_cases b (four b k) k (k + 1) with ⟨_, h1⟩ | ⟨j, e, h1, h2, h3, h4⟩
  · exact fun j h2 h3 => h1 j h2 (by omega)
  · rw [e] at h
    have : k - j = 0 := h
    omega

/-! ### The map -/
open Go.Maps
section
variable {H : Type}
/-- The map says of four bytes what o is. -/
def SaysOf (D : DataW H) (f : List UInt8) : Option Nat → Prop
  | some k => has D (fourK f) = true ∧ D.atKey (fourK f) (.lit (.int .i64 0)) = .lit (.int .i64 (k : Int))
  | none => has D (fourK f) = false
structure NearIs (D : DataW H) (b : List UInt8) (m : Nat) : Prop where
  map : IsMap D
  says : ∀ f, f.length = 4 → SaysOf D f (near b f m)
/-- .. behind the place that goes is forgotten. -/
structure NearGone (D : DataW H) (b : List UInt8) (m : Nat) : Prop where
  map : IsMap D
  says : ∀ f, f.length = 4 → SaysOf D f (reach (m + 1) (lastAt b f m))
theorem nearIs_new (b : List UInt8) : NearIs (.map [] : DataW H) b 0 := ⟨isMap_empty, fun _ _ => rfl⟩
theorem key_lit {f : List UInt8} (hf : f.length = 4) : WideAt.IsKeyLit (fourK f) := K53.key (fourK_is hf)
theorem near_few {D : DataW H} {b : List UInt8} {m : Nat} (h : NearIs D b m) (hm : m < 4096) : NearGone D b m := by
  refine ⟨h.map, fun f hf => ?_⟩
  have e : reach (m + 1) (lastAt b f m) = near b f m := by
    unfold near reach
    cases lastAt b f m with
    | none => rfl
    | some k => simp only; rw [if_pos (by omega), if_pos (by omega)]
  rw [e]
  exact h.says f hf
theorem near_other {b f : List UInt8} {m : Nat} (hm : 4096 ≤ m) (hf : four b (m - 4096) ≠ f) : reach (m + 1) (lastAt b f m) = near b f m := by
  unfold near reach
  cases hl : lastAt b f m with
  | none => rfl
  | some k =>
    obtain ⟨h1, h2, h3⟩ := lastAt_some hl
    simp only
    by_cases h4 : m ≤ k + 4096
    · rw [if_pos h4, if_pos ?_]
      by_cases h5 : m + 1 ≤ k + 4096
      · exact h5
      · exfalso
        have : k = m - 4096 := by omega
        rw [← this] at hf
        exact hf h2
    · rw [if_neg h4, if_neg (by omega)]
theorem near_gone {b : List UInt8} {m : Nat} (hm : 4096 ≤ m) : ∃ k, near b (four b (m - 4096)) m = some k ∧ m - 4096 ≤ k := by
  cases hn : near b (four b (m - 4096)) m with
  | none => exact absurd rfl (near_none hn (m - 4096) (by omega) (by omega))
  | some k => exact ⟨k, rfl, by have := near_some hn; omega⟩
/-- What the look-up at the place that goes says. -/
theorem near_look {D : DataW H} {b : List UInt8} {m : Nat} (h : NearIs D b m) (hm : 4096 ≤ m) {c : Int} (hc : D.atKey (fourK (four b (m - 4096))) (.lit (.int .i64 0)) = .lit (.int .i64 c)) :
    ∃ k : Nat, c = k ∧ near b (four b (m - 4096)) m = some k ∧ m - 4096 ≤ k := by
  obtain ⟨k, h1, h2⟩ := near_gone (b := b) hm
  have h3 := h.says (four b (m - 4096)) rfl
  rw [h1] at h3
  have h4 := h3.2
  rw [hc] at h4
  simp only [DataW.lit.injEq, Lit.int.injEq, true_and] at h4
  exact ⟨k, h4, h1, h2⟩
theorem near_del {D : DataW H} {b : List UInt8} {m : Nat} (h : NearIs D b m) (hm : 4096 ≤ m) (hn : near b (four b (m - 4096)) m = some (m - 4096)) : NearGone (D.del (fourK (four b (m - 4096)))) b m := by
  refine ⟨h.map.del _, fun f hf => ?_⟩
  by_cases e : four b (m - 4096) = f
  · subst e
    have e1 : reach (m + 1) (lastAt b (four b (m - 4096)) m) = none := by
      unfold near reach at hn
      unfold reach
      cases hl : lastAt b (four b (m - 4096)) m with
      | none => rfl
      | some k =>
        rw [hl] at hn
        simp only at hn ⊢
        split at hn
        · have hk := Option.some.inj hn; rw [if_neg (by omega)]
        · cases hn
    rw [e1]
    exact has_del_same
  · rw [near_other hm e]
    have hne : fourK f ≠ fourK (four b (m - 4096)) := fourK_ne hf rfl (fun x => e x.symm)
    have h1 := h.says f hf
    cases hk : near b f m with
    | none =>
      rw [hk] at h1
      show has _ _ = false
      rw [has_del_other hne]; exact h1
    | some k =>
      rw [hk] at h1
      exact ⟨by rw [has_del_other hne]; exact h1.1, by rw [atKey_del_other hne]; exact h1.2⟩
theorem near_keep {D : DataW H} {b : List UInt8} {m k : Nat} (h : NearIs D b m) (hm : 4096 ≤ m) (hn : near b (four b (m - 4096)) m = some k) (hk : k ≠ m - 4096) : NearGone D b m := by
  refine ⟨h.map, fun f hf => ?_⟩
  by_cases e : four b (m - 4096) = f
  · subst e
    have h2 := near_some hn
    have e1 : reach (m + 1) (lastAt b (four b (m - 4096)) m) = some k := by
      unfold near reach at hn
      unfold reach
      cases hl : lastAt b (four b (m - 4096)) m with
      | none => rw [hl] at hn; cases hn
      | some j =>
        rw [hl] at hn
        simp only at hn ⊢
        split at hn
        · cases hn; rw [if_pos (by omega)]
        · cases hn
    rw [e1, ← hn]
    exact h.says _ hf
  · rw [near_other hm e]
    exact h.says f hf
theorem near_put {D : DataW H} {b : List UInt8} {m : Nat} (h : NearGone D b m) : NearIs (D.put (fourK (four b m)) (.lit (.int .i64 (m : Int)))) b (m + 1) := by
  refine ⟨h.map.put _ _, fun f hf => ?_⟩
  unfold near
  rw [lastAt]
  by_cases e : four b m = f
  · subst e
    rw [if_pos rfl]
    show SaysOf _ _ (if m + 1 ≤ m + 4096 then some m else none)
    rw [if_pos (by omega)]
    exact ⟨has_put_same h.map (key_lit rfl) _, atKey_put_same h.map (key_lit rfl) _ _⟩
  · rw [if_neg e]
    have hne : fourK f ≠ fourK (four b m) := fourK_ne hf rfl (fun x => e x.symm)
    have h1 := h.says f hf
    cases hk : reach (m + 1) (lastAt b f m) with
    | none =>
      rw [hk] at h1
      show has _ _ = false
      rw [has_put_other hne]; exact h1
    | some k =>
      rw [hk] at h1
      exact ⟨by rw [has_put_other hne]; exact h1.1, by rw [atKey_put_other hne]; exact h1.2⟩
end
/-- How far back each place's beginning stood. -/
def BackIs (tab : Nat → Int) (b : List UInt8) (m : Nat) : Prop := ∀ k, k < m → m ≤ k + 4096 → tab (k % 4096) = (backOf b k : Int)
theorem back_put {tab tab' : Nat → Int} {b : List UInt8} {m : Nat} (h : BackIs tab b m) (h1 : tab' (m % 4096) = (backOf b m : Int)) (h2 : ∀ j, j < 4096 → j ≠ m % 4096 → tab' j = tab j) : BackIs tab' b (m + 1) := by
  intro k hk hr
  by_cases e : k = m
  · rw [e]; exact h1
  · rw [h2 _ (by omega) (by omega)]
    exact h k (by omega) (by omega)
end Go.Proofs.Ytjieljmlpbiidaa
