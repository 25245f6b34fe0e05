/- The document's Part. The document's entries and parents: may a tree's, a commit's list be? The document's parents: may a commit's list of ids be? The document's SameTexts. -/
import Derived.Test.YtckbeeadkiiccaaCObjM
import Derived.Deep.QuietTactic
namespace Go.Proofs.Ytckbeeadkiiccaa
open Go.RowKit
def pc (x : UInt8) : Bool := x != 0 && x != 47
theorem text_at (s : OB) (k : Nat) (hk : k < s.length) (W : World) : (Instr.index 9 (.string (SL s)) (.int .i64 (k : Int))).run Try.prog W = .ok (.int .u8 ((s.getD k 0).toNat : Int)) W := by
  have h0 : (0 ≤ (k : Int)) := by omega
  have h : (SL s)[k]? = some (s.getD k 0) := by
    rw [getElem?_pos (SL s) k (by rw [SL_size]; exact hk)]
    simp only [List.getD, List.getElem?_eq_getElem hk, Option.getD_some]
    rfl
  simp only [Instr.index, asIntOf, Sem.run_bind, Sem.run_pure, Result.andThen_ok, run_underlying Try.underlying9, if_pos h0, Int.toNat_natCast, h]
set_option maxRecDepth 100000 in
set_option maxHeartbeats 800000 in
theorem refPart_any (s : OB) (hs : s.length ≤ 9223372036854775807) (w : World) : Calls Try.prog 12 #[.string (SL s)] w fun e w' => e = .returned (.bool (partB s)) ∧ w' = w := by
  obtain ⟨n, hn⟩ : ∃ n, n = s.length := ⟨_, rfl⟩
  have hsz : (SL s).size = n := by rw [SL_size, hn]
  rw [← hn] at hs
  have HN := Lib.hid hn
  clear hn
  go_enter Try.func12, Try.ntmps12
  go_wp2
  go_loopw [3] (fun i W => ∃ k : Nat, i = .int .i64 (k : Int) ∧ k ≤ n ∧ (s.take k).all pc = true ∧ W = w) (fun i _ => n - (intOf i).toNat)
  case atStart => exact ⟨0, rfl, Nat.zero_le _, by simp, rfl⟩
  case round =>
    obtain ⟨k, rfl, hk, ha, rfl⟩ := hrel
    by_cases hlt : k < n
    · have i0 : (0 : Int) ≤ (k : Int) := by omega
      have i1 : (k : Int) < (n : Int) := by omega
      have hidx := text_at s k (by rw [← HN.out]; exact hlt)
      obtain ⟨c, hc⟩ : ∃ c, c = s.getD k 0 := ⟨_, rfl⟩
      have htk : s.take (k + 1) = s.take k ++ [c] := by
        have h1 : k < s.length := by rw [← HN.out]; exact hlt
        rw [List.take_add_one, List.getElem?_eq_getElem h1, hc]
        simp [List.getD, h1]
      rw [← hc] at hidx
      obtain ⟨x, hx⟩ : ∃ x, x = c.toNat := ⟨_, rfl⟩
      rw [← hx] at hidx
      have hbad : (x = 0 ∨ x = 47) → s.all pc = false := fun hb => by
        have hm : c ∈ s := by
          have h1 : k < s.length := by rw [← HN.out]; exact hlt
          have : c ∈ s.take (k + 1) := by rw [htk]; simp
          exact List.mem_of_mem_take this
        have hp : pc c = false := by
          unfold pc
          rcases hb with h0 | h0
          · have : c = 0 := UInt8.toNat_inj.1 (by rw [← hx, h0]; rfl)
            rw [this]; rfl
          · have : c = 47 := UInt8.toNat_inj.1 (by rw [← hx, h0]; rfl)
            rw [this]; rfl
        cases hq : s.all pc with
        | false => rfl
        | true => rw [List.all_eq_true.1 hq c hm] at hp; cases hp
      have hgood : ¬ x = 0 → ¬ x = 47 → (s.take (k + 1)).all pc = true := fun h0 h1 => by
        rw [htk, List.all_append, ha]
        have e0 : c ≠ 0 := fun e => h0 (by rw [hx, e]; rfl)
        have e1 : c ≠ 47 := fun e => h1 (by rw [hx, e]; rfl)
        simp [pc, e0, e1]
      have hpb : s.all pc = false → partB s = false := fun h => by unfold partB; rw [show s.all (fun x => x != 0 && x != 47) = false from h]; rfl
      have HB := Lib.hid hbad
      have HG := Lib.hid hgood
      have HP := Lib.hid hpb
      clear hbad hgood hpb hc htk ha hx
      by_cases h0 : x = 0
      · have j0 : (x : Int) = 0 := by omega
        have hpf := HP.out (HB.out (.inl h0))
        clear h0
        go_wp2
        go_ret
        first | exact ⟨rfl, rfl⟩ | exact ⟨by rw [hpf]; rfl, rfl⟩
      · have j0 : ¬ (x : Int) = 0 := by omega
        by_cases h1 : x = 47
        · have j1 : (x : Int) = 47 := by omega
          have hpf := HP.out (HB.out (.inr h1))
          clear h1
          go_wp2
          go_ret
          first | exact ⟨rfl, rfl⟩ | exact ⟨by rw [hpf]; rfl, rfl⟩
        · have j1 : ¬ (x : Int) = 47 := by omega
          have hgd := HG.out h0 h1
          have jb : ((x : Int) == 0 || (x : Int) == 47) = false := by simp [h0]; exact j1
          clear h0 h1
          go_wp2
          go_roundw
          case rel => exact ⟨k + 1, by go_num, by omega, hgd, trivial⟩
          case measure => simp [intOf]; omega
    · obtain rfl : k = n := by omega
      have i1 : ¬ (k : Int) < (k : Int) := by omega
      have hall : s.all pc = true := by rw [← ha, List.take_of_length_le (by rw [← HN.out]; exact Nat.le_refl _)]
      have e1 := SL_toList s
      obtain ⟨b1, hb1⟩ : ∃ b, b = (s == ([46] : OB)) := ⟨_, rfl⟩
      obtain ⟨b2, hb2⟩ : ∃ b, b = (s == ([46, 46] : OB)) := ⟨_, rfl⟩
      have hpv : partB s = (decide (1 ≤ k) && decide (k ≤ 100) && !b1 && !b2) := by
        unfold partB
        rw [show s.all (fun x => x != 0 && x != 47) = true from hall, ← HN.out, hb1, hb2]
        simp
      have HV := Lib.hid hpv
      clear hpv hall ha hk hlt
      by_cases c1 : 1 ≤ k
      · have q1 : (k : Int) ≥ 1 := by omega
        by_cases c2 : k ≤ 100
        · have q2 : (k : Int) ≤ 100 := by omega
          have hv : partB s = (!b1 && !b2) := by rw [HV.out]; simp [c1, c2]
          clear c1 c2 HV
          cases b1 with
          | true =>
            have hb3 : (s == ([46] : OB)) = true := hb1.symm
            clear hb1 hb2
            go_wp2
            go_ret
            first | exact ⟨rfl, rfl⟩ | exact ⟨by rw [hv]; rfl, rfl⟩
          | false =>
            have hb3 : (s == ([46] : OB)) = false := hb1.symm
            cases b2 with
            | true =>
              have hb4 : (s == ([46, 46] : OB)) = true := hb2.symm
              clear hb1 hb2
              go_wp2
              go_ret
              first | exact ⟨rfl, rfl⟩ | exact ⟨by rw [hv]; rfl, rfl⟩
            | false =>
              have hb4 : (s == ([46, 46] : OB)) = false := hb2.symm
              clear hb1 hb2
              go_wp2
              go_ret
              first | exact ⟨rfl, rfl⟩ | exact ⟨by rw [hv]; rfl, rfl⟩
        · have q2 : ¬ (k : Int) ≤ 100 := by omega
          have hv : partB s = false := by rw [HV.out]; simp [c2]
          clear c1 c2 HV hb1 hb2
          go_wp2
          go_ret
          first | exact ⟨rfl, rfl⟩ | exact ⟨by rw [hv]; rfl, rfl⟩
      · have q1 : ¬ (k : Int) ≥ 1 := by omega
        have hv : partB s = false := by rw [HV.out]; simp [c1]
        clear c1 HV hb1 hb2
        go_wp2
        go_ret
        first | exact ⟨rfl, rfl⟩ | exact ⟨by rw [hv]; rfl, rfl⟩
end Go.Proofs.Ytckbeeadkiiccaa
namespace Go.Proofs.Ytckbeeadkiiccaa
open Go.RowKit
theorem rising_step : ∀ {l : List EntR} {k : Nat} {a b : EntR}, l[k]? = some a → l[k + 1]? = some b → risingB (l.take (k + 2)) = (risingB (l.take (k + 1)) && decide (a.nm < b.nm))
  | [], k, a, b, ha, _ => by simp at ha
  | [x], 0, a, b, _, hb => by simp at hb
  | x :: y :: r, 0, a, b, ha, hb => by
    simp at ha hb
    subst ha hb
    simp [risingB]
  | [x], k + 1, a, b, ha, _ => by simp at ha
  | x :: y :: r, k + 1, a, b, ha, hb => by
    have h := rising_step (l := y :: r) (k := k) (a := a) (b := b) (by simpa using ha) (by simpa using hb)
    show risingB (x :: (y :: r).take (k + 2)) = (risingB (x :: (y :: r).take (k + 1)) && decide (a.nm < b.nm))
    have e1 : risingB (x :: (y :: r).take (k + 2)) = (decide (x.nm < y.nm) && risingB ((y :: r).take (k + 2))) := rfl
    have e2 : risingB (x :: (y :: r).take (k + 1)) = (decide (x.nm < y.nm) && risingB ((y :: r).take (k + 1))) := rfl
    rw [e1, e2, h, Bool.and_assoc]
theorem rising_at : ∀ {l : List EntR}, risingB l = true → ∀ {k : Nat} {a b : EntR}, l[k]? = some a → l[k + 1]? = some b → a.nm < b.nm
  | [], _, k, a, b, ha, _ => by simp at ha
  | [x], _, k, a, b, _, hb => by simp at hb
  | x :: y :: r, h, 0, a, b, ha, hb => by
    simp at ha hb
    subst ha hb
    unfold risingB at h
    rw [Bool.and_eq_true, decide_eq_true_eq] at h
    exact h.1
  | x :: y :: r, h, k + 1, a, b, ha, hb => by
    unfold risingB at h
    rw [Bool.and_eq_true] at h
    exact rising_at h.2 (k := k) (by simpa using ha) (by simpa using hb)
theorem ents_not {l : List EntR} {k : Nat} {e : EntR} (he : l[k]? = some e) (h : entB e = false) : entsB l = false := by
  unfold entsB
  cases hq : l.all entB with
  | false => rfl
  | true => rw [List.all_eq_true.1 hq e (List.mem_of_getElem? he)] at h; cases h
theorem ents_falls {l : List EntR} {k : Nat} {a b : EntR} (ha : l[k]? = some a) (hb : l[k + 1]? = some b) (h : ¬ a.nm < b.nm) : entsB l = false := by
  unfold entsB
  cases hq : risingB l with
  | false => rw [Bool.and_false, Bool.false_and]
  | true => exact absurd (rising_at hq ha hb) h
/-- So many of the entries may be. -/
def EntsTo (l : List EntR) (k : Nat) : Prop := (l.take k).all entB = true ∧ risingB (l.take k) = true
theorem entsTo_zero (l : List EntR) : EntsTo l 0 := ⟨rfl, rfl⟩
theorem all_step {α : Type} {p : α → Bool} {l : List α} {k : Nat} {e : α} (he : l[k]? = some e) (h : (l.take k).all p = true) (h2 : p e = true) : (l.take (k + 1)).all p = true := by
  rw [List.take_add_one, he, List.all_append, h]
  simp [h2]
theorem EntsTo.first {l : List EntR} {e : EntR} (he : l[0]? = some e) (h2 : entB e = true) : EntsTo l 1 := by
  refine ⟨all_step he (entsTo_zero l).1 h2, ?_⟩
  rw [List.take_add_one, he]
  rfl
theorem EntsTo.next {l : List EntR} {k : Nat} {a e : EntR} (h : EntsTo l (k + 1)) (ha : l[k]? = some a) (he : l[k + 1]? = some e) (h2 : entB e = true) (h3 : a.nm < e.nm) : EntsTo l (k + 2) :=
  ⟨all_step he h.1 h2, by rw [rising_step ha he, h.2, decide_eq_true h3]; rfl⟩
theorem EntsTo.all {l : List EntR} (h : EntsTo l l.length) : entsB l = decide (l.length ≤ 4096) := by
  have h1 := h.1
  have h2 := h.2
  rw [List.take_length] at h1 h2
  unfold entsB
  rw [h1, h2]
  simp
theorem SlAt.entry {w : World} {F : Nat → Prop} {ao : Option Addr} {n cap g off : Nat} {l : List EntR} (h : SlAt w F ao n cap g off (ecells l)) {k : Nat} {e : EntR} (he : l[k]? = some e) (hk : k < n) :
    ao = some ⟨g, off, none⟩ ∧ w.cell? ⟨g, off + k * 3, none⟩ = some (.string (SL e.nm)) ∧ w.cell? ⟨g, off + k * 3 + 1, none⟩ = some (.bool e.dir) ∧ w.cell? ⟨g, off + k * 3 + 2, none⟩ = some (.string (SL e.id)) := by
  obtain ⟨a, b, c⟩ := ecells_get he
  exact ⟨(h.src (by omega)).1, h.cell _ _ a, by rw [Nat.add_assoc]; exact h.cell _ _ b, by rw [Nat.add_assoc]; exact h.cell _ _ c⟩
set_option maxRecDepth 100000 in
set_option maxHeartbeats 4000000 in
theorem refEntries_any (F : Nat → Prop) (v : Value) (l : List EntR) (w : World) (h : EntsAt w F v l) (hl : l.length ≤ 9223372036854775807) (hs : ∀ e ∈ l, e.nm.length ≤ 9223372036854775807 ∧ e.id.length ≤ 9223372036854775807) :
    Calls Try.prog 49 #[v] w fun e w' => e = .returned (.bool (entsB l)) ∧ ∃ m, w' = w.drewN m := by
  obtain ⟨ao, cap, g, off, rfl, hsl⟩ := h
  obtain ⟨N, hN⟩ : ∃ N, N = l.length := ⟨_, rfl⟩
  rw [← hN] at hsl hl ⊢
  have HN := Lib.hid hN
  have HS := Lib.hid hsl
  have HB := Lib.hid hs
  clear hN hsl hs
  go_enter Try.func49, Try.ntmps49
  go_wp2
  go_loopw [3] (fun i W => ∃ (k j : Nat), i = .int .i64 (k : Int) ∧ k ≤ N ∧ EntsTo l k ∧ W = w.drewN j) (fun i _ => N - (intOf i).toNat)
  case atStart => exact ⟨0, 0, rfl, Nat.zero_le _, entsTo_zero l, rfl⟩
  case round =>
    obtain ⟨k, j, rfl, hk, ht, rfl⟩ := hrel
    by_cases hlt : k < N
    · have i0 : (0 : Int) ≤ (k : Int) := by omega
      have i1 : (k : Int) < (N : Int) := by omega
      have hk1 : k < l.length := by rw [← HN.out]; exact hlt
      obtain ⟨e, he⟩ : ∃ e, l[k]? = some e := ⟨_, List.getElem?_eq_getElem hk1⟩
      obtain ⟨hn1, hn2⟩ := HB.out e (List.mem_of_getElem? he)
      obtain ⟨rfl, c0, _, c2⟩ := HS.out.entry he hlt
      obtain ⟨W0, hW0⟩ : ∃ W0, W0 = w.drewN j := ⟨_, rfl⟩
      have d0 : W0.cell? ⟨g, off + k * 3, none⟩ = some (.string (SL e.nm)) := by rw [hW0]; exact c0
      have d2 : W0.cell? ⟨g, off + k * 3 + 2, none⟩ = some (.string (SL e.id)) := by rw [hW0]; exact c2
      have HW0 : Hid (∀ n, ∃ j', W0.drewN n = w.drewN j') := Lib.hid (fun n => ⟨j + n, by rw [hW0, World.drewN_drewN]⟩)
      have HC : Hid (∀ m a, l[m]? = some a → m < N → W0.cell? ⟨g, off + m * 3, none⟩ = some (.string (SL a.nm))) := Lib.hid (fun m a ha hm => by rw [hW0]; exact (HS.out.entry ha hm).2.1)
      rw [← hW0]
      clear hW0
      have hz := SL_size e.id
      have HP := Lib.hid (fun W => refPart_any e.nm hn1 W)
      obtain ⟨M, hM⟩ : ∃ M, M = e.id.length := ⟨_, rfl⟩
      rw [← hM] at hz hn2
      have HE := Lib.hid he
      have HT := Lib.hid ht
      have HM := Lib.hid hM
      clear c0 c2 hn1 he ht hM hk1
      cases hp : partB e.nm with
      | false =>
        have hv : entsB l = false := ents_not HE.out (by unfold entB; rw [hp]; rfl)
        have HV := Lib.hid hv
        rw [hp] at HP
        clear hv hp
        go_wp2
        go_quiet ((go_at_call 12; exact Calls.quiet_of_same (HP.out _)))
        go_wp2
        go_ret
        exact ⟨by rw [HV.out]; rfl, HW0.out _⟩
      | true =>
        rw [hp] at HP
        by_cases hm : M = 32
        · have m1 : (M : Int) = 32 := by omega
          have m2 : ((M : Int) != 32) = false := by simp; omega
          have heb : entB e = true := by unfold entB; rw [hp, ← HM.out, hm]; rfl
          have HEB := Lib.hid heb
          clear heb hp hm
          by_cases hk0 : k = 0
          · have z1 : ¬ (k : Int) > 0 := by omega
            have z2 : decide ((k : Int) > 0) = false := by simp; omega
            have z7 : decide (0 < k) = false := by simp; omega
            have z8 : ¬ 0 < k := by omega
            have hnx : EntsTo l (k + 1) := by
              have h1 := HE.out
              subst hk0
              exact EntsTo.first h1 HEB.out
            clear hk0
            go_wp2
            go_quiet ((go_at_call 12; exact Calls.quiet_of_same (HP.out _)))
            go_wp2
            go_roundw
            case rel =>
              obtain ⟨j', hj'⟩ := HW0.out nq
              exact ⟨k + 1, j', by go_num, by omega, hnx, hj'⟩
            case measure => simp [intOf]; omega
          · obtain ⟨m, hkm⟩ : ∃ m, k = m + 1 := ⟨k - 1, by omega⟩
            have z1 : (k : Int) > 0 := by omega
            have z2 : decide ((k : Int) > 0) = true := by simp; omega
            have z7 : decide (0 < k) = true := by simp; omega
            have z8 : 0 < k := by omega
            have z3 : (k : Int) - 1 = (m : Int) := by omega
            have z4 : IntKind.i64.wrap ((k : Int) - 1) = (m : Int) := by rw [z3]; exact IntWalk.i64_in _ (by omega)
            have z5 : (0 : Int) ≤ (m : Int) := by omega
            have z6 : (m : Int) < (N : Int) := by omega
            have hml : m < l.length := by have := HN.out; omega
            obtain ⟨a, hea⟩ : ∃ a, l[m]? = some a := ⟨_, List.getElem?_eq_getElem hml⟩
            have d3 : W0.cell? ⟨g, off + m * 3, none⟩ = some (.string (SL a.nm)) := HC.out m a hea (by omega)
            have ln := SL_toList a.nm
            have lm := SL_toList e.nm
            have hnx : a.nm < e.nm → EntsTo l (k + 1) := fun h => by
              have h1 := HE.out
              have h2 := HT.out
              subst hkm
              exact EntsTo.next h2 hea h1 HEB.out h
            have hfl : ¬ a.nm < e.nm → entsB l = false := fun h => by
              have h1 := HE.out
              subst hkm
              exact ents_falls hea h1 h
            have HNX := Lib.hid hnx
            have HFL := Lib.hid hfl
            clear hnx hfl hkm hml hea hk0
            by_cases hless : a.nm < e.nm
            · have hb : Op.bytesLess a.nm e.nm = true := by rw [bytesLess_eq]; simpa using hless
              have hnx := HNX.out hless
              clear hless
              go_wp2
              go_quiet ((go_at_call 12; exact Calls.quiet_of_same (HP.out _)))
              go_wp2
              go_roundw
              case rel =>
                obtain ⟨j', hj'⟩ := HW0.out nq
                exact ⟨k + 1, j', by go_num, by omega, hnx, hj'⟩
              case measure => simp [intOf]; omega
            · have hb : Op.bytesLess a.nm e.nm = false := by rw [bytesLess_eq]; simpa using hless
              have hv := HFL.out hless
              have HV := Lib.hid hv
              clear hless hv
              go_wp2
              go_quiet ((go_at_call 12; exact Calls.quiet_of_same (HP.out _)))
              go_wp2
              go_ret
              exact ⟨by rw [HV.out]; rfl, HW0.out _⟩
        · have m1 : ¬ (M : Int) = 32 := by omega
          have m2 : ((M : Int) != 32) = true := by simp; omega
          have hv : entsB l = false := ents_not HE.out (by unfold entB; rw [← HM.out]; simp [hm])
          have HV := Lib.hid hv
          clear hv hp hm
          go_wp2
          go_quiet ((go_at_call 12; exact Calls.quiet_of_same (HP.out _)))
          go_wp2
          go_ret
          exact ⟨by rw [HV.out]; rfl, HW0.out _⟩
    · obtain rfl : k = N := by omega
      have i1 : ¬ (k : Int) < (k : Int) := by omega
      have i2 : decide ((k : Int) < (k : Int)) = false := by simp
      have ht2 : EntsTo l l.length := by rw [← HN.out]; exact ht
      have hv : entsB l = decide (k ≤ 4096) := by rw [ht2.all, ← HN.out]
      have HV := Lib.hid hv
      clear hv ht ht2
      by_cases hq : k ≤ 4096
      · have q1 : (k : Int) ≤ 4096 := by omega
        go_wp2
        go_ret
        exact ⟨by rw [HV.out, decide_eq_true hq]; rfl, j, rfl⟩
      · have q1 : ¬ (k : Int) ≤ 4096 := by omega
        go_wp2
        go_ret
        exact ⟨by rw [HV.out, decide_eq_false hq]; rfl, j, rfl⟩
end Go.Proofs.Ytckbeeadkiiccaa
namespace Go.Proofs.Ytckbeeadkiiccaa
open Go.RowKit
theorem once_iff : ∀ (l : List OB), onceB l = true ↔ l.Pairwise (fun a b => a ≠ b)
  | [] => by simp [onceB]
  | a :: r => by
    unfold onceB
    rw [Bool.and_eq_true, once_iff r, List.pairwise_cons, List.all_eq_true]
    constructor
    · rintro ⟨h1, h2⟩
      exact ⟨fun x hx e => by have := h1 x hx; rw [e] at this; simp at this, h2⟩
    · rintro ⟨h1, h2⟩
      exact ⟨fun x hx => by simpa using fun e => h1 x hx e.symm, h2⟩
def is32 (u : OB) : Bool := decide (u.length = 32)
/-- So many of the parents may be. -/
def UpsTo (l : List OB) (k : Nat) : Prop := (l.take k).all is32 = true ∧ (l.take k).Pairwise (fun a b => a ≠ b)
theorem upsTo_zero (l : List OB) : UpsTo l 0 := ⟨rfl, by simp⟩
theorem ups_not {l : List OB} {k : Nat} {u : OB} (hu : l[k]? = some u) (h : u.length ≠ 32) : upsB l = false := by
  unfold upsB
  cases hq : l.all (fun u => decide (u.length = 32)) with
  | false => rfl
  | true => exact absurd (by simpa using List.all_eq_true.1 hq u (List.mem_of_getElem? hu)) h
theorem ups_twice {l : List OB} {j k : Nat} {t u : OB} (hj : j < k) (ht : l[j]? = some t) (hu : l[k]? = some u) (h : t = u) : upsB l = false := by
  unfold upsB
  cases hq : onceB l with
  | false => rw [Bool.and_false, Bool.false_and]
  | true =>
    have h1 := (once_iff l).1 hq
    obtain ⟨hj1, hj2⟩ := List.getElem?_eq_some_iff.1 ht
    obtain ⟨hk1, hk2⟩ := List.getElem?_eq_some_iff.1 hu
    exact absurd (by rw [hj2, hk2]; exact h) (List.pairwise_iff_getElem.1 h1 j k hj1 hk1 hj)
theorem UpsTo.next {l : List OB} {k : Nat} {u : OB} (h : UpsTo l k) (hu : l[k]? = some u) (h1 : u.length = 32) (h2 : ∀ t ∈ l.take k, t ≠ u) : UpsTo l (k + 1) := by
  refine ⟨all_step hu h.1 (by unfold is32; exact decide_eq_true h1), ?_⟩
  rw [List.take_add_one, hu, List.pairwise_append]
  exact ⟨h.2, by simp, fun a ha b hb => by simp at hb; rw [hb]; exact h2 a ha⟩
theorem UpsTo.all {l : List OB} (h : UpsTo l l.length) : upsB l = decide (l.length ≤ 4) := by
  have h1 := h.1
  have h2 := h.2
  rw [List.take_length] at h1 h2
  unfold upsB
  rw [show l.all (fun u => decide (u.length = 32)) = true from h1, (once_iff l).2 h2]
  simp
theorem SlAt.text {w : World} {F : Nat → Prop} {ao : Option Addr} {n cap g off : Nat} {l : List OB} (h : SlAt w F ao n cap g off (tcells l)) {k : Nat} {t : OB} (he : l[k]? = some t) (hk : k < n) :
    ao = some ⟨g, off, none⟩ ∧ w.cell? ⟨g, off + k, none⟩ = some (.string (SL t)) := ⟨(h.src (by omega)).1, h.cell _ _ (tcells_get he)⟩
set_option maxRecDepth 100000 in
set_option maxHeartbeats 4000000 in
theorem refParents_any (F : Nat → Prop) (v : Value) (l : List OB) (w : World) (h : TextsAt w F v l) (hl : l.length ≤ 9223372036854775807) (hs : ∀ t ∈ l, t.length ≤ 9223372036854775807) :
    Calls Try.prog 50 #[v] w fun e w' => e = .returned (.bool (upsB l)) ∧ ∃ m, w' = w.drewN m := by
  obtain ⟨ao, cap, g, off, rfl, hsl⟩ := h
  obtain ⟨N, hN⟩ : ∃ N, N = l.length := ⟨_, rfl⟩
  rw [← hN] at hsl hl ⊢
  have HN := Lib.hid hN
  have HS := Lib.hid hsl
  have HB := Lib.hid hs
  clear hN hsl hs
  go_enter Try.func50, Try.ntmps50
  go_wp2
  go_loopw [3, 4] (fun i q W => ∃ (k j : Nat), i = .int .i64 (k : Int) ∧ k ≤ N ∧ UpsTo l k ∧ q = q ∧ W = w.drewN j) (fun i _ _ => N - (intOf i).toNat)
  case atStart => exact ⟨0, 0, rfl, Nat.zero_le _, upsTo_zero l, rfl, rfl⟩
  case round =>
    obtain ⟨k, j, rfl, hk, ht, _, rfl⟩ := hrel
    by_cases hlt : k < N
    · have i0 : (0 : Int) ≤ (k : Int) := by omega
      have i1 : (k : Int) < (N : Int) := by omega
      have hk1 : k < l.length := by rw [← HN.out]; exact hlt
      obtain ⟨e, he⟩ : ∃ e, l[k]? = some e := ⟨_, List.getElem?_eq_getElem hk1⟩
      have hn2 := HB.out e (List.mem_of_getElem? he)
      obtain ⟨rfl, c0⟩ := HS.out.text he hlt
      have hz := SL_size e
      obtain ⟨W0, hW0⟩ : ∃ W0, W0 = w.drewN j := ⟨_, rfl⟩
      have d0 : W0.cell? ⟨g, off + k, none⟩ = some (.string (SL e)) := by rw [hW0]; exact c0
      have HW0 : Hid (∀ n, ∃ j', W0.drewN n = w.drewN j') := Lib.hid (fun n => ⟨j + n, by rw [hW0, World.drewN_drewN]⟩)
      have HC : Hid (∀ m a, l[m]? = some a → m < N → W0.cell? ⟨g, off + m, none⟩ = some (.string (SL a))) := Lib.hid (fun m a ha hm => by rw [hW0]; exact (HS.out.text ha hm).2)
      rw [← hW0]
      clear hW0
      obtain ⟨M, hM⟩ : ∃ M, M = e.length := ⟨_, rfl⟩
      rw [← hM] at hz hn2
      have HE := Lib.hid he
      have HT := Lib.hid ht
      have HM := Lib.hid hM
      clear c0 he ht hM hk1
      by_cases hm : M = 32
      · have m1 : (M : Int) = 32 := by omega
        have m2 : ((M : Int) != 32) = false := by simp; omega
        have he32 : e.length = 32 := by rw [← HM.out]; exact hm
        have H32 := Lib.hid he32
        clear he32 hm
        go_wp2
        go_loopw [4] (fun q W => ∃ (p j' : Nat), q = .int .i64 (p : Int) ∧ p ≤ k ∧ (∀ t ∈ l.take p, t ≠ e) ∧ W = W0.drewN j') (fun q _ => k - (intOf q).toNat)
        case atStart => exact ⟨0, 0, rfl, Nat.zero_le _, by simp, rfl⟩
        case round =>
          obtain ⟨p, j', rfl, hp, hno, rfl⟩ := hrel
          by_cases hpk : p < k
          · have p0 : (0 : Int) ≤ (p : Int) := by omega
            have p1 : (p : Int) < (k : Int) := by omega
            have p2 : (p : Int) < (N : Int) := by omega
            have hp1 : p < l.length := by have := HN.out; omega
            obtain ⟨t, ht⟩ : ∃ t, l[p]? = some t := ⟨_, List.getElem?_eq_getElem hp1⟩
            have d3 := HC.out p t ht (by omega)
            obtain ⟨W1, hW1⟩ : ∃ W1, W1 = W0.drewN j' := ⟨_, rfl⟩
            have f0 : W1.cell? ⟨g, off + k, none⟩ = some (.string (SL e)) := by rw [hW1]; exact d0
            have f3 : W1.cell? ⟨g, off + p, none⟩ = some (.string (SL t)) := by rw [hW1]; exact d3
            have HW1 : Hid (∀ n, ∃ j2, W1.drewN n = W0.drewN j2) := Lib.hid (fun n => ⟨j' + n, by rw [hW1, World.drewN_drewN]⟩)
            rw [← hW1]
            have ln := SL_toList t
            have lm := SL_toList e
            have HTP := Lib.hid ht
            have HNO := Lib.hid hno
            clear hW1 d3 ht hno hp1
            by_cases hq : t = e
            · have hb : (t == e) = true := by rw [hq]; exact beq_self_eq_true _
              have hv : upsB l = false := ups_twice hpk HTP.out HE.out hq
              have HV := Lib.hid hv
              clear hv hq
              go_wp2
              go_quiet (fail)
              go_wp2
              go_ret
              obtain ⟨j2, hj2⟩ := HW1.out nq
              obtain ⟨j3, hj3⟩ := HW0.out j2
              exact ⟨by rw [HV.out]; rfl, j3, by rw [hj2]; exact hj3⟩
            · have hb : (t == e) = false := by simpa using hq
              have hnx : ∀ x ∈ l.take (p + 1), x ≠ e := fun x hx => by
                rw [List.take_add_one, HTP.out] at hx
                simp at hx
                rcases hx with hx | rfl
                · exact HNO.out x hx
                · exact hq
              have HNX := Lib.hid hnx
              clear hq hnx
              go_wp2
              go_quiet (fail)
              go_wp2
              go_roundw
              case rel =>
                obtain ⟨j2, hj2⟩ := HW1.out nq
                exact ⟨p + 1, j2, by go_num, by omega, HNX.out, hj2⟩
              case measure => simp [intOf]; omega
          · obtain rfl : p = k := by omega
            have p1 : ¬ (p : Int) < (p : Int) := by omega
            have hnx := HT.out.next HE.out H32.out hno
            have HNX := Lib.hid hnx
            clear hno hnx
            go_wp2
            go_roundw
            case rel =>
              obtain ⟨j2, hj2⟩ := HW0.out j'
              exact ⟨p + 1, j2, by go_num, by omega, HNX.out, trivial, hj2⟩
            case measure => simp [intOf]; omega
      · have m1 : ¬ (M : Int) = 32 := by omega
        have m2 : ((M : Int) != 32) = true := by simp; omega
        have hv : upsB l = false := ups_not HE.out (by rw [← HM.out]; exact hm)
        have HV := Lib.hid hv
        clear hv hm
        go_wp2
        go_ret
        exact ⟨by rw [HV.out]; rfl, HW0.out 0⟩
    · obtain rfl : k = N := by omega
      have i1 : ¬ (k : Int) < (k : Int) := by omega
      have ht2 : UpsTo l l.length := by rw [← HN.out]; exact ht
      have hv : upsB l = decide (k ≤ 4) := by rw [ht2.all, ← HN.out]
      have HV := Lib.hid hv
      clear hv ht ht2
      by_cases hq : k ≤ 4
      · have q1 : (k : Int) ≤ 4 := by omega
        go_wp2
        go_ret
        exact ⟨by rw [HV.out, decide_eq_true hq]; rfl, j, rfl⟩
      · have q1 : ¬ (k : Int) ≤ 4 := by omega
        go_wp2
        go_ret
        exact ⟨by rw [HV.out, decide_eq_false hq]; rfl, j, rfl⟩
end Go.Proofs.Ytckbeeadkiiccaa
namespace Go.Proofs.Ytckbeeadkiiccaa
open Go.RowKit
theorem texts_differ {A B : List OB} {k : Nat} {t u : OB} (ha : A[k]? = some t) (hb : B[k]? = some u) (h : ¬ t = u) : A ≠ B := fun e => by
  rw [e, hb] at ha
  exact h (Option.some.inj ha).symm
theorem texts_alike {A B : List OB} (hl : A.length = B.length) (h : A.take A.length = B.take A.length) : A = B := by
  rw [List.take_length, hl, List.take_length] at h
  exact h
theorem take_alike {α : Type} {A B : List α} {k : Nat} {t : α} (h : A.take k = B.take k) (ha : A[k]? = some t) (hb : B[k]? = some t) : A.take (k + 1) = B.take (k + 1) := by rw [List.take_add_one, List.take_add_one, h, ha, hb]
set_option maxRecDepth 100000 in
set_option maxHeartbeats 4000000 in
theorem refSameTexts_any (F G : Nat → Prop) (v u : Value) (A B : List OB) (w : World) (h : TextsAt w F v A) (h' : TextsAt w G u B) (hl : A.length ≤ 9223372036854775807) :
    Calls Try.prog 19 #[v, u] w fun e w' => e = .returned (.bool (decide (A = B))) ∧ ∃ m, w' = w.drewN m := by
  obtain ⟨ao, cap, g, off, rfl, hs⟩ := h
  obtain ⟨ao', cap', g', off', rfl, hs'⟩ := h'
  obtain ⟨N, hN⟩ : ∃ N, N = A.length := ⟨_, rfl⟩
  obtain ⟨M, hM⟩ : ∃ M, M = B.length := ⟨_, rfl⟩
  rw [← hN] at hs hl ⊢
  rw [← hM] at hs' ⊢
  have HN := Lib.hid hN
  have HM := Lib.hid hM
  have HS := Lib.hid hs
  have HS' := Lib.hid hs'
  clear hN hM hs hs'
  by_cases hnm : N = M
  · obtain rfl := hnm
    go_enter Try.func19, Try.ntmps19
    go_wp2
    go_loopw [5] (fun i W => ∃ (k j : Nat), i = .int .i64 (k : Int) ∧ k ≤ N ∧ A.take k = B.take k ∧ W = w.drewN j) (fun i _ => N - (intOf i).toNat)
    case atStart => exact ⟨0, 0, rfl, Nat.zero_le _, by simp, rfl⟩
    case round =>
      obtain ⟨k, j, rfl, hk, ht, rfl⟩ := hrel
      by_cases hlt : k < N
      · have i0 : (0 : Int) ≤ (k : Int) := by omega
        have i1 : (k : Int) < (N : Int) := by omega
        obtain ⟨e, he⟩ : ∃ e, A[k]? = some e := ⟨_, List.getElem?_eq_getElem (by rw [← HN.out]; exact hlt)⟩
        obtain ⟨e', he'⟩ : ∃ e, B[k]? = some e := ⟨_, List.getElem?_eq_getElem (by rw [← HM.out]; exact hlt)⟩
        obtain ⟨rfl, c0⟩ := HS.out.text he hlt
        obtain ⟨rfl, c0'⟩ := HS'.out.text he' hlt
        obtain ⟨W0, hW0⟩ : ∃ W0, W0 = w.drewN j := ⟨_, rfl⟩
        have d0 : W0.cell? ⟨g, off + k, none⟩ = some (.string (SL e)) := by rw [hW0]; exact c0
        have d1 : W0.cell? ⟨g', off' + k, none⟩ = some (.string (SL e')) := by rw [hW0]; exact c0'
        have HW0 : Hid (∀ n, ∃ j', W0.drewN n = w.drewN j') := Lib.hid (fun n => ⟨j + n, by rw [hW0, World.drewN_drewN]⟩)
        rw [← hW0]
        have ln := SL_toList e
        have lm := SL_toList e'
        have HE := Lib.hid he
        have HE' := Lib.hid he'
        have HT := Lib.hid ht
        clear hW0 c0 c0' he he' ht
        by_cases hq : e = e'
        · subst hq
          have hb : (e == e) = true := beq_self_eq_true _
          have hnx := take_alike HT.out HE.out HE'.out
          have HNX := Lib.hid hnx
          clear hnx
          go_wp2
          go_quiet (fail)
          go_wp2
          go_roundw
          case rel =>
            obtain ⟨j', hj'⟩ := HW0.out nq
            exact ⟨k + 1, j', by go_num, by omega, HNX.out, hj'⟩
          case measure => simp [intOf]; omega
        · have hb : (e == e') = false := by simpa using hq
          have hv : decide (A = B) = false := decide_eq_false (texts_differ HE.out HE'.out hq)
          have HV := Lib.hid hv
          clear hv hq
          go_wp2
          go_quiet (fail)
          go_wp2
          go_ret
          exact ⟨by rw [HV.out]; rfl, HW0.out _⟩
      · obtain rfl : k = N := by omega
        have i1 : ¬ (k : Int) < (k : Int) := by omega
        have hv : decide (A = B) = true := decide_eq_true (texts_alike (by rw [← HN.out, ← HM.out]) (by rw [← HN.out]; exact ht))
        have HV := Lib.hid hv
        clear hv ht
        go_wp2
        go_ret
        exact ⟨by rw [HV.out]; rfl, j, rfl⟩
  · have hv : decide (A = B) = false := decide_eq_false (fun e => hnm (by rw [HN.out, HM.out, e]))
    have HV := Lib.hid hv
    have i0 : ¬ (N : Int) = (M : Int) := by omega
    have i1 : ((N : Int) != (M : Int)) = true := by simp; omega
    have i2 : (N != M) = true := by simpa using hnm
    clear hv
    go_enter Try.func19, Try.ntmps19
    go_wp2
    go_ret
    exact ⟨by rw [HV.out]; rfl, 0, rfl⟩
end Go.Proofs.Ytckbeeadkiiccaa
