/- The short functions of package disk: made, mayBe, cost, Has, ready, readyAt, Free, Off, Ops, Cut, On, write. -/
import Derived.Test.YthibhkoneajffaaDiskMem
import Derived.Laws.LoneSync
import Derived.Lib.Bytealg
namespace Go.Proofs.Ythibhkoneajffaa
open Go.RowKit
abbrev ptr (p : Nat) : Value := .pointer (some ⟨p, 0, none⟩)
abbrev err (k : Int) : Value := .int .i64 k
set_option maxRecDepth 100000 in
theorem indexByte_any (s : ByteArray) (w : World) : Calls Try.prog 73 #[.string s, .int .u8 0] w fun e w' => e = .returned (.int .i64 (Lib.indexByte s.data.toList 0)) ∧ w' = w := by
  go_enter Try.func73, Try.ntmps73
  go_wp2
  rw [run_callFunc_extern Try.func83 (by kernel_rfl) (by kernel_rfl) (by kernel_rfl) (e := Extern.BytealgIndexByte.indexByte) (by kernel_rfl), Lib.run_indexByteString]
  simp only [Result.andThen]
  rw [Oper.upon_value]
  go_wp2
  go_ret
  exact ⟨rfl, rfl⟩
theorem indexByte_no (l : Bs) : (Lib.indexByte l 0 < 0) ↔ l.all (fun x => x != 0) = true := by
  induction l with
  | nil => simp [Lib.indexByte]
  | cons x r ih =>
    have hg := Lib.indexByte_ge r 0
    unfold Lib.indexByte
    by_cases hx : x = 0
    · simp [hx]
    · have hx2 : (x == 0) = false := by simpa using hx
      simp only [hx2, Bool.false_eq_true, if_false, List.all_cons]
      by_cases h1 : Lib.indexByte r 0 = -1
      · have h2 : Lib.indexByte r 0 < 0 := by omega
        have h3 := ih.1 h2
        simp [h1, h3, hx]
      · have h2 : ¬ Lib.indexByte r 0 < 0 := by omega
        have h3 : ¬ r.all (fun x => x != 0) = true := fun k => h2 (ih.2 k)
        have h4 : (Lib.indexByte r 0 == -1) = false := by simpa using h1
        simp only [h4, Bool.false_eq_true, if_false]
        constructor
        · intro k; omega
        · intro k
          rw [Bool.and_eq_true] at k
          exact absurd k.2 h3
set_option maxRecDepth 100000 in
theorem mayBe_any (n : Bs) (w : World) : Calls Try.prog 62 #[.string (SL n)] w fun e w' => e = .returned (.bool (named n)) ∧ w' = w := by
  obtain ⟨k, hk⟩ : ∃ k, k = n.length := ⟨_, rfl⟩
  have hs : (SL n).size = k := by rw [SL_size, hk]
  by_cases h1 : 1 ≤ k
  · by_cases h2 : k ≤ 200
    · have hi : (Int.ofNat k ≥ 1) := by simp; omega
      have g1 : (k : Int) ≥ 1 := by omega
      have g2 : (k : Int) ≤ 200 := by omega
      have HI := indexByte_any (SL n) w
      have e1 : (SL n).data.toList = n := rfl
      rw [e1] at HI
      obtain ⟨z, hz⟩ : ∃ z, z = Lib.indexByte n 0 := ⟨_, rfl⟩
      rw [← hz] at HI
      have hno := indexByte_no n
      rw [← hz] at hno
      have hv : named n = decide (z < 0) := by
        unfold named
        rw [← hk]
        simp only [h1, h2, decide_true, Bool.true_and]
        by_cases h3 : z < 0
        · rw [hno.1 h3]; simp [h3]
        · have : n.all (fun x => x != 0) = false := by
            cases hq : n.all (fun x => x != 0)
            · rfl
            · exact absurd (hno.2 hq) h3
          rw [this]; simp [h3]
      rw [hv]
      clear hv hno hz hi hk
      go_enter Try.func62, Try.ntmps62
      go_wp2_with (go_at_call 73; refine HI.mono ?_; rintro e w' ⟨rfl, rfl⟩)
      go_ret
      exact ⟨by simp, rfl⟩
    · have hv : named n = false := by unfold named; rw [← hk]; simp [h2]
      rw [hv]
      have g1 : (k : Int) ≥ 1 := by omega
      have g2 : ¬ (k : Int) ≤ 200 := by omega
      clear hk hv
      go_enter Try.func62, Try.ntmps62
      go_wp2
      go_ret
      exact ⟨by simp, rfl⟩
  · have hv : named n = false := by unfold named; rw [← hk]; simp [h1]
    rw [hv]
    have g1 : ¬ (k : Int) ≥ 1 := by omega
    clear hk hv
    go_enter Try.func62, Try.ntmps62
    go_wp2
    go_ret
    exact ⟨by simp, rfl⟩
set_option maxRecDepth 100000 in
theorem cost_any (n : Bs) (k : Nat) (w : World) (hn : n.length ≤ 281474976710656) (hk : k ≤ 281474976710656) : Calls Try.prog 39 #[.string (SL n), .int .i64 (k : Int)] w fun e w' => e = .returned (.int .i64 (16 + (n.length : Int) + (k : Int))) ∧ w' = w := by
  have hs : (SL n).size = n.length := SL_size n
  go_enter Try.func39, Try.ntmps39
  go_wp2
  go_ret
  exact ⟨rfl, rfl⟩
set_option maxRecDepth 100000 in
theorem made_any {p mb : Nat} {w : World} (c0 : w.cell? ⟨p, 0, none⟩ = some (.map (some mb))) : Calls Try.prog 54 #[ptr p] w fun e w' => e = .returned (.bool true) ∧ w' = w := by
  have hq : (binOp .neq 67 (.map (some mb)) (.map none)).run Try.prog w = .ok (.bool true) w := run_neq_map_nil w 67 9 29 (some mb) Try.underlying67
  go_enter Try.func54, Try.ntmps54
  go_wp2
  go_ret
  exact ⟨rfl, rfl⟩
section
variable {F : Nat → Prop} {p mb : Nat} {V : Bs → Value} {lf : Int} {S : St} {w : World}
set_option maxRecDepth 100000 in
theorem has_any (h : DiskIn w F p mb V lf S) (n : Bs) (hn : n.length ≤ maxLen) : Calls Try.prog 33 #[ptr p, .string (SL n)] w fun e w' => e = .returned (.bool (thereF n S.fs)) ∧ w' = w := by
  obtain ⟨c0, _⟩ := head_cells h.head
  have hl := h.map.look hn
  rw [es_there] at hl
  have hm := made_any c0
  go_enter Try.func33, Try.ntmps33
  go_wp2_with (go_at_call 54; refine hm.mono ?_; rintro e w' ⟨rfl, rfl⟩)
  go_ret
  exact ⟨rfl, rfl⟩
set_option maxRecDepth 100000 in
theorem ready_any (h : DiskIn w F p mb V lf S) (n : Bs) : Calls Try.prog 38 #[ptr p, .string (SL n)] w fun e w' => e = .returned (err (readyS S n)) ∧ w' = w := by
  obtain ⟨c0, _, _, _, c4, _⟩ := head_cells h.head
  have hm := made_any c0
  have hb := mayBe_any n w
  unfold readyS
  cases hN : named n with
  | false =>
    rw [hN] at hb
    go_enter Try.func38, Try.ntmps38
    go_wp2_with (first | (go_at_call 54; refine hm.mono ?_; rintro e w' ⟨rfl, rfl⟩) | (go_at_call 62; refine hb.mono ?_; rintro e w' ⟨rfl, rfl⟩))
    go_ret
    exact ⟨rfl, rfl⟩
  | true =>
    rw [hN] at hb
    cases hd : S.dark with
    | true =>
      rw [hd] at c4
      go_enter Try.func38, Try.ntmps38
      go_wp2_with (first | (go_at_call 54; refine hm.mono ?_; rintro e w' ⟨rfl, rfl⟩) | (go_at_call 62; refine hb.mono ?_; rintro e w' ⟨rfl, rfl⟩))
      go_ret
      exact ⟨rfl, rfl⟩
    | false =>
      rw [hd] at c4
      go_enter Try.func38, Try.ntmps38
      go_wp2_with (first | (go_at_call 54; refine hm.mono ?_; rintro e w' ⟨rfl, rfl⟩) | (go_at_call 62; refine hb.mono ?_; rintro e w' ⟨rfl, rfl⟩))
      go_ret
      exact ⟨rfl, rfl⟩
theorem named_le {n : Bs} (h : named n = true) : n.length ≤ 200 ∧ 1 ≤ n.length := by
  unfold named at h
  simp only [Bool.and_eq_true, decide_eq_true_eq] at h
  exact ⟨h.1.2, h.1.1⟩
theorem touch_ready (S : St) (n : Bs) : (readyS S n ≠ 0 ∧ touchS S n = readyS S n) ∨ (readyS S n = 0 ∧ named n = true ∧ S.dark = false ∧ touchS S n = if thereF n S.fs = true then 0 else 3) := by
  unfold readyS touchS thereF
  cases hN : named n with
  | false => simp
  | true =>
    cases hd : S.dark with
    | true => simp
    | false => cases hf : findF n S.fs <;> simp
set_option maxRecDepth 100000 in
theorem readyAt_any (h : DiskIn w F p mb V lf S) (n : Bs) : Calls Try.prog 46 #[ptr p, .string (SL n)] w fun e w' => e = .returned (err (touchS S n)) ∧ w' = w := by
  have hr := ready_any h n
  rcases touch_ready S n with ⟨h1, h2⟩ | ⟨h1, h2, h3, h4⟩
  · rw [h2]
    obtain ⟨z, hz⟩ : ∃ z, z = readyS S n := ⟨_, rfl⟩
    rw [← hz] at hr h1 ⊢
    clear hz h2
    go_enter Try.func46, Try.ntmps46
    go_wp2_with (go_at_call 38; refine hr.mono ?_; rintro e w' ⟨rfl, rfl⟩)
    go_ret
    exact ⟨rfl, rfl⟩
  · rw [h4]
    rw [h1] at hr
    have hl := (named_le h2).1
    have hh := has_any h n (by unfold maxLen; omega)
    cases ht : thereF n S.fs with
    | true =>
      rw [ht] at hh
      clear h4
      go_enter Try.func46, Try.ntmps46
      go_wp2_with (first | (go_at_call 38; refine hr.mono ?_; rintro e w' ⟨rfl, rfl⟩) | (go_at_call 33; refine hh.mono ?_; rintro e w' ⟨rfl, rfl⟩))
      go_ret
      exact ⟨rfl, rfl⟩
    | false =>
      rw [ht] at hh
      clear h4
      go_enter Try.func46, Try.ntmps46
      go_wp2_with (first | (go_at_call 38; refine hr.mono ?_; rintro e w' ⟨rfl, rfl⟩) | (go_at_call 33; refine hh.mono ?_; rintro e w' ⟨rfl, rfl⟩))
      go_ret
      exact ⟨rfl, rfl⟩
set_option maxRecDepth 100000 in
theorem free_in (h : DiskIn w F p mb V lf S) : Calls Try.prog 34 #[ptr p] w fun e w' => e = .returned (.int .i64 (wrap64 S.free)) ∧ w' = w := by
  obtain ⟨c0, c1, _⟩ := head_cells h.head
  obtain ⟨z, hz⟩ : ∃ z, z = wrap64 S.free := ⟨_, rfl⟩
  rw [← hz] at c1 ⊢
  clear hz
  have hm := made_any c0
  go_enter Try.func34, Try.ntmps34
  go_wp2_with (go_at_call 54; refine hm.mono ?_; rintro e w' ⟨rfl, rfl⟩)
  go_ret
  exact ⟨rfl, rfl⟩
set_option maxRecDepth 100000 in
theorem off_in (h : DiskIn w F p mb V lf S) : Calls Try.prog 32 #[ptr p] w fun e w' => e = .returned (.bool S.dark) ∧ w' = w := by
  obtain ⟨c0, _, _, _, c4, _⟩ := head_cells h.head
  have hm := made_any c0
  go_enter Try.func32, Try.ntmps32
  go_wp2_with (go_at_call 54; refine hm.mono ?_; rintro e w' ⟨rfl, rfl⟩)
  go_ret
  exact ⟨by simp, rfl⟩
set_option maxRecDepth 100000 in
theorem ops_in (h : DiskIn w F p mb V lf S) : Calls Try.prog 23 #[ptr p] w fun e w' => e = .returned (.int .i64 (S.done : Int)) ∧ w' = w := by
  obtain ⟨c0, _, c2, _⟩ := head_cells h.head
  have hm := made_any c0
  have hload := run_call_load (P := Try.prog) Try.func72 (by kernel_rfl) (by kernel_rfl) (by kernel_rfl) .i64 (by kernel_rfl) c2
  go_enter Try.func23, Try.ntmps23
  go_wp2_with (first | (go_at_call 54; refine hm.mono ?_; rintro e w' ⟨rfl, rfl⟩) | (go_at_call 60; go_in))
  go_ret
  exact ⟨rfl, rfl⟩
end
end Go.Proofs.Ythibhkoneajffaa
