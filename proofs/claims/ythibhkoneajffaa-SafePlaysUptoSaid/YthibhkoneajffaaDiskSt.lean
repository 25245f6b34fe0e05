/- The disk as plain mathematics: its state, and what each call makes of it. No function of the program here. -/
import Derived.Test.YthibhkoneajffaaDiskPure
namespace Go.Proofs.Ythibhkoneajffaa
/-- May a name be? -/
def named (s : Bs) : Bool := decide (1 ≤ s.length) && decide (s.length ≤ 200) && s.all (fun x => x != 0)
structure St where
  fs : Files
  cap : Nat
  done : Nat
  left : Int
  dark : Bool
def St.free (S : St) : Int := (S.cap : Int) - (costs S.fs : Int)
/-- What holds of a disk that raw writes alone have made. -/
structure Good (S : St) : Prop where
  rise : Rising S.fs
  cost : costs S.fs ≤ S.cap
  top : S.cap ≤ 1099511627776
  low : -1 ≤ S.left
  high : S.left ≤ 9223372036854775807
def newS (cap : Nat) : St := ⟨[], cap, 0, -1, false⟩
theorem good_new {cap : Nat} (h : cap ≤ 1099511627776) : Good (newS cap) := ⟨Rising.nil, Nat.zero_le _, h, by show (-1 : Int) ≤ -1; omega, by show (-1 : Int) ≤ _; omega⟩
/-- The power goes. -/
def cutNow (S : St) : St := { S with left := -1, dark := true }
/-- A raw write is done. -/
def tick (S : St) : St := { S with left := if S.left = -1 then -1 else S.left - 1, done := S.done + 1 }
/-- A raw write that nothing hinders any more: the cut comes, or its files. -/
def writeS (S : St) (fs : Files) : Int × St := if S.left = 0 then (5, cutNow S) else (0, { tick S with fs := fs })
def moreS (S : St) (n b : Bs) : Int := match findF n S.fs with | some _ => (b.length : Int) | none => ((costF n b : Nat) : Int)
def readyS (S : St) (n : Bs) : Int := if named n = false then 1 else if S.dark = true then 5 else 0
def touchS (S : St) (n : Bs) : Int := if named n = false then 1 else if S.dark = true then 5 else if findF n S.fs = none then 3 else 0
def appendS (S : St) (n b : Bs) : Int × St :=
  if 64 < b.length then (1, S) else if readyS S n ≠ 0 then (readyS S n, S) else if S.free < moreS S n b then (4, S) else writeS S (putF n ((findF n S.fs).getD [] ++ b) S.fs)
def removeS (S : St) (n : Bs) : Int × St := if touchS S n ≠ 0 then (touchS S n, S) else writeS S (delF n S.fs)
def renamed (S : St) (f t : Bs) : Files := putF t ((findF f S.fs).getD []) (delF f S.fs)
def renameS (S : St) (f t : Bs) : Int × St :=
  if named t = false then (1, S) else if touchS S f ≠ 0 then (touchS S f, S) else if findF t S.fs = none ∧ S.free < (t.length : Int) - (f.length : Int) then (4, S) else writeS S (renamed S f t)
def syncS (S : St) (n : Bs) : Int × St := if touchS S n ≠ 0 then (touchS S n, S) else writeS S S.fs
def readS (S : St) (n : Bs) : Int × Bs := if named n = false then (1, []) else match findF n S.fs with | none => (3, []) | some b => (0, b)
def cutS (S : St) (z : Int) : Int × St := if z < 0 then (1, S) else (0, if S.dark = true then S else { S with left := z })
def onS (S : St) : St := { S with left := -1, dark := false }
theorem Good.cutNow {S : St} (h : Good S) : Good (cutNow S) := ⟨h.rise, h.cost, h.top, by show (-1 : Int) ≤ -1; omega, by show (-1 : Int) ≤ _; omega⟩
theorem Good.on {S : St} (h : Good S) : Good (onS S) := ⟨h.rise, h.cost, h.top, by show (-1 : Int) ≤ -1; omega, by show (-1 : Int) ≤ _; omega⟩
theorem Good.cut {S : St} (h : Good S) {z : Int} (hz : z ≤ 9223372036854775807) : Good (cutS S z).2 := by
  unfold cutS
  split
  · exact h
  · split
    · exact h
    · exact ⟨h.rise, h.cost, h.top, by show (-1 : Int) ≤ z; omega, hz⟩
theorem Good.write {S : St} (h : Good S) {fs : Files} (hr : Rising fs) (hc : costs fs ≤ S.cap) : Good (writeS S fs).2 := by
  have h1 := h.low
  have h2 := h.high
  unfold writeS
  split
  · exact h.cutNow
  · refine ⟨hr, hc, h.top, ?_, ?_⟩
    · show (-1 : Int) ≤ if S.left = -1 then -1 else S.left - 1
      split <;> omega
    · show (if S.left = -1 then -1 else S.left - 1) ≤ (9223372036854775807 : Int)
      split <;> omega
theorem Good.append {S : St} (h : Good S) (n b : Bs) : Good (appendS S n b).2 := by
  have hc := h.cost
  unfold appendS
  split
  · exact h
  · split
    · exact h
    · split
      · exact h
      · rename_i hm
        refine h.write h.rise.put ?_
        unfold moreS St.free at hm
        cases hf : findF n S.fs with
        | none =>
          rw [hf] at hm
          simp only [Option.getD_none, List.nil_append]
          rw [costs_put_new hf]
          simp only at hm
          omega
        | some c =>
          rw [hf] at hm
          simp only [Option.getD_some]
          have := costs_put_old (b := c ++ b) h.rise hf
          rw [List.length_append] at this
          simp only at hm
          omega
theorem touch_there {S : St} {n : Bs} (h : touchS S n = 0) : named n = true ∧ S.dark = false ∧ ∃ b, findF n S.fs = some b := by
  unfold touchS at h
  split at h
  · omega
  · rename_i h1
    split at h
    · omega
    · rename_i h2
      split at h
      · omega
      · rename_i h3
        refine ⟨by simpa using h1, by simpa using h2, ?_⟩
        cases hf : findF n S.fs with
        | none => exact absurd hf h3
        | some b => exact ⟨b, rfl⟩
theorem Good.remove {S : St} (h : Good S) (n : Bs) : Good (removeS S n).2 := by
  have hc := h.cost
  unfold removeS
  split
  · exact h
  · rename_i ht
    have ht : touchS S n = 0 := Classical.not_not.1 ht
    obtain ⟨_, _, b, hb⟩ := touch_there ht
    have := costs_del hb
    exact h.write h.rise.del (by omega)
/-- What files cost behind a Rename. -/
theorem costs_renamed {S : St} (h : Good S) {f t b : Bs} (hf : findF f S.fs = some b) :
    (f = t ∧ renamed S f t = S.fs) ∨ (f ≠ t ∧ findF t S.fs = none ∧ costs (renamed S f t) + f.length = costs S.fs + t.length) ∨ (f ≠ t ∧ ∃ c, findF t S.fs = some c ∧ costs (renamed S f t) + f.length + costF t c = costs S.fs + t.length) := by
  have hd := costs_del hf
  unfold renamed
  rw [hf, Option.getD_some]
  by_cases e : f = t
  · refine .inl ⟨e, ?_⟩
    subst e
    refine rising_ext h.rise.del.put h.rise fun n => ?_
    by_cases hn : n = f
    · rw [hn, findF_put_same, hf]
    · rw [findF_put_other _ hn, findF_del_other hn]
  · have h1 : findF t (delF f S.fs) = findF t S.fs := findF_del_other (fun k => e k.symm) _
    cases ht : findF t S.fs with
    | none =>
      refine .inr (.inl ⟨e, rfl, ?_⟩)
      rw [costs_put_new (by rw [h1, ht])]
      simp only [costF] at hd ⊢
      omega
    | some c =>
      refine .inr (.inr ⟨e, c, rfl, ?_⟩)
      have := costs_put_old (b := b) h.rise.del (by rw [h1, ht])
      simp only [costF] at hd ⊢
      omega
theorem Rising.renamed {S : St} (h : Rising S.fs) (f t : Bs) : Rising (renamed S f t) := h.del.put
theorem Good.rename {S : St} (h : Good S) (f t : Bs) : Good (renameS S f t).2 := by
  have hc := h.cost
  unfold renameS
  split
  · exact h
  · split
    · exact h
    · rename_i ht
      have ht : touchS S f = 0 := Classical.not_not.1 ht
      obtain ⟨_, _, b, hb⟩ := touch_there ht
      split
      · exact h
      · rename_i hq
        refine h.write (h.rise.renamed f t) ?_
        rcases costs_renamed (t := t) h hb with ⟨_, e⟩ | ⟨_, e1, e2⟩ | ⟨_, c, e1, e2⟩
        · rw [e]; exact hc
        · have : ¬ S.free < (t.length : Int) - (f.length : Int) := fun k => hq ⟨e1, k⟩
          unfold St.free at this
          omega
        · simp only [costF] at e2
          omega
theorem Good.sync {S : St} (h : Good S) (n : Bs) : Good (syncS S n).2 := by
  unfold syncS
  split
  · exact h
  · exact h.write h.rise h.cost
/-! ### How many raw writes -/
theorem write_done (S : St) (fs : Files) : (writeS S fs).2.done ≤ S.done + 1 := by
  unfold writeS
  split
  · show S.done ≤ _; omega
  · exact Nat.le_refl _
theorem append_done (S : St) (n b : Bs) : (appendS S n b).2.done ≤ S.done + 1 := by
  unfold appendS
  repeat' split
  all_goals first | exact write_done _ _ | exact Nat.le_succ _
theorem remove_done (S : St) (n : Bs) : (removeS S n).2.done ≤ S.done + 1 := by
  unfold removeS
  split
  · exact Nat.le_succ _
  · exact write_done _ _
theorem rename_done (S : St) (f t : Bs) : (renameS S f t).2.done ≤ S.done + 1 := by
  unfold renameS
  repeat' split
  all_goals first | exact write_done _ _ | exact Nat.le_succ _
theorem sync_done (S : St) (n : Bs) : (syncS S n).2.done ≤ S.done + 1 := by
  unfold syncS
  split
  · exact Nat.le_succ _
  · exact write_done _ _
theorem cut_done (S : St) (z : Int) : (cutS S z).2.done ≤ S.done := by
  unfold cutS
  repeat' split
  all_goals exact Nat.le_refl _
theorem write_cap (S : St) (fs : Files) : (writeS S fs).2.cap = S.cap := by
  unfold writeS
  split <;> rfl
theorem append_cap (S : St) (n b : Bs) : (appendS S n b).2.cap = S.cap := by
  unfold appendS
  repeat' split
  all_goals first | exact write_cap _ _ | rfl
theorem remove_cap (S : St) (n : Bs) : (removeS S n).2.cap = S.cap := by
  unfold removeS
  split
  · rfl
  · exact write_cap _ _
theorem rename_cap (S : St) (f t : Bs) : (renameS S f t).2.cap = S.cap := by
  unfold renameS
  repeat' split
  all_goals first | exact write_cap _ _ | rfl
theorem sync_cap (S : St) (n : Bs) : (syncS S n).2.cap = S.cap := by
  unfold syncS
  split
  · rfl
  · exact write_cap _ _
theorem cut_cap (S : St) (z : Int) : (cutS S z).2.cap = S.cap := by
  unfold cutS
  repeat' split
  all_goals rfl
/-- A file of a good disk is not long. -/
theorem Good.file_le {S : St} (h : Good S) {n b : Bs} (hb : findF n S.fs = some b) : costF n b ≤ 1099511627776 := by
  have h1 := costs_mem (findF_mem hb)
  have h2 := h.cost
  have h3 := h.top
  omega
theorem Good.many {S : St} (h : Good S) : 16 * S.fs.length ≤ 1099511627776 := by
  have h1 := costs_length S.fs
  have h2 := h.cost
  have h3 := h.top
  omega
end Go.Proofs.Ythibhkoneajffaa
