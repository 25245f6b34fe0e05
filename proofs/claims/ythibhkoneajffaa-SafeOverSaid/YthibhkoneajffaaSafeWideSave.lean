/- lay and Save of package safe, and the law's helper both, where what is free may have gone round. -/
import Derived.Test.YthibhkoneajffaaSafeWide
import Derived.Test.YthibhkoneajffaaSafeSave
import Derived.Test.YthibhkoneajffaaSafeBoth
namespace Go.Proofs.Ythibhkoneajffaa
open Go.RowKit Go.Shelf
attribute [local go_sem] Oper.semAt_some
/-! ### Plain mathematics -/
theorem putF_put {n x y : Bs} {fs : Files} (h : Rising fs) : putF n x (putF n y fs) = putF n x fs := rising_ext h.put.put h.put fun m => by
  by_cases e : m = n
  · rw [e, findF_put_same, findF_put_same]
  · rw [findF_put_other _ e, findF_put_other _ e, findF_put_other _ e]
theorem appendW_cases (S : St) (n c : Bs) : ((appendW S n c).1 ≠ 0 ∧ (appendW S n c).2 = S) ∨ (c.length ≤ 64 ∧ appendW S n c = (0, stepW S (putF n ((findF n S.fs).getD [] ++ c) S.fs))) := by
  unfold appendW writeW
  split
  · exact .inl ⟨by simp, rfl⟩
  · split
    · rename_i h
      exact .inl ⟨h, rfl⟩
    · split
      · exact .inl ⟨by simp, rfl⟩
      · exact .inr ⟨by omega, rfl⟩
/-- Appends, one after the other, till one is refused. -/
def appendsW (n : Bs) : St → List Bs → Int × St
  | S, [] => (0, S)
  | S, c :: r => if (appendW S n c).1 ≠ 0 then appendW S n c else appendsW n (appendW S n c).2 r
theorem appends_oneW (n : Bs) (c : Bs) : ∀ (L : List Bs) (S : St), appendsW n S (L ++ [c]) = if (appendsW n S L).1 ≠ 0 then appendsW n S L else appendW (appendsW n S L).2 n c
  | [], S => by
    simp only [List.nil_append, appendsW]
    by_cases h : (appendW S n c).1 = 0
    · simp only [h, ne_eq, not_true_eq_false, if_false]
      rw [← h]
    · simp [h]
  | d :: r, S => by
    simp only [List.cons_append, appendsW]
    by_cases h : (appendW S n d).1 = 0
    · simp only [h, ne_eq, not_true_eq_false, if_false]
      exact appends_oneW n c r _
    · simp [h]
theorem appends_stopW (n : Bs) : ∀ (L M : List Bs) (S : St), (appendsW n S L).1 ≠ 0 → appendsW n S (L ++ M) = appendsW n S L
  | [], M, S, h => absurd rfl h
  | d :: r, M, S, h => by
    simp only [List.cons_append, appendsW] at h ⊢
    by_cases h1 : (appendW S n d).1 = 0
    · simp only [h1, ne_eq, not_true_eq_false, if_false] at h ⊢
      exact appends_stopW n r M _ h
    · simp [h1]
theorem appends_grown (n : Bs) : ∀ (L : List Bs) (S : St), Rising S.fs → (appendsW n S L).2.cap = S.cap ∧ (appendsW n S L).2.dark = S.dark ∧ (appendsW n S L).2.left = S.left ∧ (appendsW n S L).2.done ≤ S.done + L.length ∧
    ((appendsW n S L).2.fs = S.fs ∨ ∃ c, c.length ≤ ((findF n S.fs).getD []).length + 64 * L.length ∧ (appendsW n S L).2.fs = putF n c S.fs)
  | [], S, _ => ⟨rfl, rfl, rfl, Nat.le_refl _, .inl rfl⟩
  | c :: r, S, hr => by
    unfold appendsW
    rcases appendW_cases S n c with ⟨h1, h2⟩ | ⟨h1, h2⟩
    · rw [if_pos h1, h2]
      exact ⟨rfl, rfl, rfl, by simp only [List.length_cons]; omega, .inl rfl⟩
    · rw [h2, if_neg (by simp)]
      obtain ⟨k1, k2, k3, k4, k5⟩ := appends_grown n r (stepW S (putF n ((findF n S.fs).getD [] ++ c) S.fs)) hr.put
      refine ⟨k1, k2, k3, ?_, .inr ?_⟩
      · have : (stepW S (putF n ((findF n S.fs).getD [] ++ c) S.fs)).done = S.done + 1 := rfl
        simp only [List.length_cons]
        omega
      · rcases k5 with k5 | ⟨d, d1, d2⟩
        · exact ⟨_, by simp only [List.length_append, List.length_cons]; omega, k5⟩
        · refine ⟨d, ?_, d2.trans (putF_put hr)⟩
          rw [show (stepW S (putF n ((findF n S.fs).getD [] ++ c) S.fs)).fs = putF n ((findF n S.fs).getD [] ++ c) S.fs from rfl, findF_put_same, Option.getD_some, List.length_append] at d1
          simp only [List.length_cons]
          omega
theorem Wide.appends {S : St} (hg : Wide S) {n : Bs} (hn : findF n S.fs = none) (hl : S.fs.length + 1 ≤ 4000000000000) {L : List Bs} (hL : 64 * L.length ≤ 140737488355328) : Wide (appendsW n S L).2 := by
  obtain ⟨k1, k2, k3, k4, k5⟩ := appends_grown n L S hg.rise
  rw [hn, Option.getD_none, List.length_nil] at k5
  rcases k5 with k5 | ⟨c, d1, d2⟩
  · exact ⟨by rw [k5]; exact hg.rise, k2.trans hg.dark, k3.trans hg.left, by rw [k5]; exact hg.size, by rw [k5]; exact hg.many⟩
  · refine ⟨by rw [d2]; exact hg.rise.put, k2.trans hg.dark, k3.trans hg.left, fun m b hb => ?_, ?_⟩
    · rw [d2] at hb
      by_cases e : m = n
      · subst e
        rw [findF_put_same] at hb
        cases hb
        omega
      · rw [findF_put_other _ e] at hb
        exact hg.size m b hb
    · have := putF_length_le (n := n) (x := c) (l := S.fs)
      rw [d2]
      omega
theorem Wide.step {S : St} (hg : Wide S) : Wide (stepW S S.fs) := ⟨hg.rise, hg.dark, hg.left, hg.size, hg.many⟩
/-- A shadow is laid. -/
def layW (n b : Bs) (S : St) : Int × St := if (appendsW n S (chunksL b)).1 ≠ 0 then appendsW n S (chunksL b) else syncW (appendsW n S (chunksL b)).2 n
def saveTW (n b : Bs) (T : St) : Int × St :=
  if T.room < needS n b.length then (4, T) else if (layW (shadowN n) b T).1 ≠ 0 then layW (shadowN n) b T else renameW (layW (shadowN n) b T).2 (shadowN n) n
def saveW (S : St) (n b : Bs) : Int × St :=
  if (removeW S (shadowN n)).1 ≠ 0 ∧ (removeW S (shadowN n)).1 ≠ 3 then removeW S (shadowN n) else saveTW n b (removeW S (shadowN n)).2
theorem chunks_bound {b : Bs} (h : b.length ≤ 140737488355328) : 64 * (chunksL b).length ≤ 140737488355328 := by
  rw [chunks_count]
  split <;> omega
theorem syncW_state (S : St) (n : Bs) : (syncW S n).2 = S ∨ (syncW S n).2 = stepW S S.fs := by
  unfold syncW writeW
  split
  · exact .inl rfl
  · split
    · exact .inl rfl
    · exact .inr rfl
theorem Wide.lay {S : St} (hg : Wide S) {n b : Bs} (hn : findF n S.fs = none) (hl : S.fs.length + 1 ≤ 4000000000000) (hb : b.length ≤ 140737488355328) : Wide (layW n b S).2 ∧ (layW n b S).2.done ≤ S.done + (chunksL b).length + 1 := by
  have h1 := hg.appends hn hl (chunks_bound hb)
  have h2 := (appends_grown n (chunksL b) S hg.rise).2.2.2.1
  unfold layW
  split
  · exact ⟨h1, by omega⟩
  · rcases syncW_state (appendsW n S (chunksL b)).2 n with e | e
    · rw [e]; exact ⟨h1, by omega⟩
    · rw [e]; exact ⟨h1.step, by show (appendsW n S (chunksL b)).2.done + 1 ≤ _; omega⟩
/-- What a Remove makes of a disk. -/
theorem removeW_says {S : St} (hg : Wide S) {n : Bs} (hn : named n = true) : ((removeW S n).1 = 4 ∧ (removeW S n).2 = S) ∨ (((removeW S n).1 = 3 ∨ (removeW S n).1 = 0) ∧ findF n (removeW S n).2.fs = none ∧ (removeW S n).2.fs = delF n S.fs ∧ Wide (removeW S n).2 ∧ (removeW S n).2.done ≤ S.done + 1) := by
  unfold removeW
  have e : touchS S n = if findF n S.fs = none then 3 else 0 := by unfold touchS; rw [hn, hg.dark]; rfl
  rw [e]
  cases hf : findF n S.fs with
  | none =>
    simp only [if_true]
    rw [if_pos (by decide)]
    exact .inr ⟨.inl rfl, hf, (del_gone hf).symm, hg, Nat.le_succ _⟩
  | some b =>
    simp only [reduceCtorEq, if_false, Option.getD_some]
    rw [if_neg (by decide)]
    unfold writeW
    split
    · exact .inl ⟨rfl, rfl⟩
    · have hd : Rising (delF n S.fs) := hg.rise.del
      refine .inr ⟨.inr rfl, findF_del_same hg.rise, rfl, ⟨hd, hg.dark, hg.left, fun m c hc => ?_, ?_⟩, Nat.le_refl _⟩
      · have hc : findF m (delF n S.fs) = some c := hc
        by_cases em : m = n
        · subst em; rw [findF_del_same hg.rise] at hc; cases hc
        · rw [findF_del_other em] at hc; exact hg.size m c hc
      · have := delF_length_le (n := n) (l := S.fs)
        have := hg.many
        show (delF n S.fs).length ≤ _
        omega
theorem moreS_app (S : St) (n a b : Bs) : moreS S n (a ++ b) = moreS S n a + (b.length : Int) := by
  unfold moreS costF
  cases findF n S.fs with
  | none => simp only [List.length_append]; omega
  | some c => simp only [List.length_append]; omega
theorem moreS_pos (S : St) (n a : Bs) : 0 ≤ moreS S n a := by
  unfold moreS
  cases findF n S.fs with
  | none => simp only; omega
  | some c => simp only; omega
/-- Where there is room for all of them, all are appended. -/
theorem appends_all {n : Bs} (hn : named n = true) : ∀ (L : List Bs) (S : St), S.dark = false → Rising S.fs → (∀ c ∈ L, c.length ≤ 64) → L ≠ [] → moreS S n L.flatten ≤ S.room →
    (appendsW n S L).1 = 0 ∧ (appendsW n S L).2.fs = putF n ((findF n S.fs).getD [] ++ L.flatten) S.fs ∧ (appendsW n S L).2.room = S.room - moreS S n L.flatten
  | [], _, _, _, _, h, _ => absurd rfl h
  | c :: r, S, hd, hr, hL, _, hm => by
    have hrd : readyS S n = 0 := by unfold readyS; rw [hn, hd]; rfl
    have hc := hL c List.mem_cons_self
    rw [List.flatten_cons, moreS_app] at hm ⊢
    have h0 := moreS_pos S n c
    have hin := room_in S
    have e1 : appendW S n c = (0, stepW S (putF n ((findF n S.fs).getD [] ++ c) S.fs)) := by
      unfold appendW writeW
      rw [if_neg (by omega), if_neg (by simp [hrd]), if_neg (by omega)]
    have e2 : (stepW S (putF n ((findF n S.fs).getD [] ++ c) S.fs)).room = S.room - moreS S n c := by
      rw [step_room (append_costsW hr n c)]
      exact IntWalk.wrap64_in _ ⟨by omega, by omega⟩
    unfold appendsW
    rw [e1, if_neg (by simp)]
    cases r with
    | nil =>
      unfold appendsW
      rw [e2]
      simp
      rfl
    | cons d r =>
      have e3 : findF n (stepW S (putF n ((findF n S.fs).getD [] ++ c) S.fs)).fs = some ((findF n S.fs).getD [] ++ c) := findF_put_same _ _ _
      have e4 : moreS (stepW S (putF n ((findF n S.fs).getD [] ++ c) S.fs)) n (d :: r).flatten = ((d :: r).flatten.length : Int) := by unfold moreS; rw [e3]
      obtain ⟨k1, k2, k3⟩ := appends_all hn (d :: r) (stepW S (putF n ((findF n S.fs).getD [] ++ c) S.fs)) hd hr.put (fun x hx => hL x (List.mem_cons_of_mem _ hx)) (by simp) (by rw [e4, e2]; omega)
      refine ⟨k1, ?_, ?_⟩
      · rw [k2, e3, Option.getD_some, List.append_assoc]
        exact putF_put hr
      · rw [k3, e4, e2]
        omega
/-- What a Save makes of a disk whose power stays. -/
theorem saveW_says {S : St} {n b : Bs} (h1 : named (shadowN n) = true) (h2 : named n = true) (hg : Wide S) (hl : S.fs.length + 1 ≤ 4000000000000) (hb : b.length ≤ 140737488355328) :
    Wide (saveW S n b).2 ∧ (saveW S n b).2.fs.length ≤ S.fs.length + 1 ∧ (saveW S n b).2.done ≤ S.done + (chunksL b).length + 3 ∧ ((saveW S n b).1 = 4 ∨ ((saveW S n b).1 = 0 ∧ (saveW S n b).2.fs = putF n b (delF (shadowN n) S.fs))) := by
  have hne : shadowN n ≠ n := shadow_ne n
  unfold saveW
  rcases removeW_says hg h1 with ⟨r1, r2⟩ | ⟨r1, r2, r3, r4, r5⟩
  · rw [if_pos (by rw [r1]; decide)]
    exact ⟨by rw [r2]; exact hg, by rw [r2]; omega, by rw [r2]; omega, .inl r1⟩
  · rw [if_neg (by omega)]
    obtain ⟨T, hT⟩ : ∃ T, T = (removeW S (shadowN n)).2 := ⟨_, rfl⟩
    rw [← hT] at r2 r3 r4 r5 ⊢
    have hTl : T.fs.length ≤ S.fs.length := by rw [r3]; exact delF_length_le
    unfold saveTW
    split
    · exact ⟨r4, by show T.fs.length ≤ _; omega, by show T.done ≤ _; omega, .inl rfl⟩
    · rename_i hroom
      have hmore : moreS T (shadowN n) (chunksL b).flatten = needS n b.length := by
        rw [chunks_flat]
        unfold moreS needS costF
        rw [r2, shadow_length]
        simp only
        omega
      obtain ⟨a1, a2, a3⟩ := appends_all h1 (chunksL b) T r4.dark r4.rise (chunks_le64 b) (chunks_ne b) (by rw [hmore]; omega)
      rw [r2, Option.getD_none, List.nil_append, chunks_flat] at a2
      rw [hmore] at a3
      have g1 := appends_grown (shadowN n) (chunksL b) T r4.rise
      have gd := g1.2.1
      have gl := g1.2.2.1
      have gn := g1.2.2.2.1
      obtain ⟨A, hA⟩ : ∃ A, A = (appendsW (shadowN n) T (chunksL b)).2 := ⟨_, rfl⟩
      have hthere : findF (shadowN n) A.fs = some b := by rw [hA, a2, findF_put_same]
      have hts : touchS A (shadowN n) = 0 := by unfold touchS; rw [h1, hthere, hA, gd, r4.dark]; rfl
      have hAr : 0 ≤ A.room := by rw [hA, a3]; omega
      have hlay : layW (shadowN n) b T = (0, stepW A A.fs) := by
        unfold layW
        rw [if_neg (by rw [a1]; decide), ← hA]
        unfold syncW writeW
        rw [if_neg (by rw [hts]; decide), if_neg (by omega)]
      rw [hlay, if_neg (by simp)]
      obtain ⟨B, hB⟩ : ∃ B, B = stepW A A.fs := ⟨_, rfl⟩
      rw [← hB]
      have hBfs : B.fs = putF (shadowN n) b T.fs := by rw [hB, ← a2, hA]; rfl
      have hBr : B.room = A.room := by
        have := room_in A
        rw [hB, step_room (m := 0) (by omega), IntWalk.wrap64_in _ ⟨by omega, by omega⟩]
        omega
      have hBd : B.dark = false := by rw [hB]; show A.dark = false; rw [hA, gd, r4.dark]
      have hBl : B.left = -1 := by rw [hB]; show A.left = -1; rw [hA, gl, r4.left]
      have hBn : B.done ≤ T.done + (chunksL b).length + 1 := by rw [hB]; show A.done + 1 ≤ _; rw [hA]; omega
      have hthB : findF (shadowN n) B.fs = some b := by rw [hBfs, findF_put_same]
      have htB : touchS B (shadowN n) = 0 := by unfold touchS; rw [h1, hthB, hBd]; rfl
      have hm : renameMore B (shadowN n) n ≤ 0 := by
        unfold renameMore
        rw [if_neg hne, shadow_length]
        split
        · omega
        · omega
      have hren : renamed B (shadowN n) n = putF n b (delF (shadowN n) S.fs) := by
        unfold renamed
        rw [hthB, Option.getD_some, hBfs, r3]
        have hrS := hg.rise
        refine rising_ext (hrS.del.put.del.put) (hrS.del.put) fun m => ?_
        by_cases e : m = n
        · rw [e, findF_put_same, findF_put_same]
        · rw [findF_put_other _ e, findF_put_other _ e]
          by_cases e2 : m = shadowN n
          · rw [e2, findF_del_same hrS.del.put, findF_del_same hrS]
          · rw [findF_del_other e2, findF_put_other _ e2]
      have hrw : renameW B (shadowN n) n = (0, stepW B (putF n b (delF (shadowN n) S.fs))) := by
        unfold renameW writeW
        rw [if_neg (by rw [h2]; decide), if_neg (by rw [htB]; decide), if_neg (by omega), hren]
      rw [hrw]
      have hpl := putF_length_le (n := n) (x := b) (l := T.fs)
      rw [r3] at hpl hTl
      refine ⟨⟨hg.rise.del.put, hBd, hBl, fun m c hc => ?_, ?_⟩, ?_, ?_, .inr ⟨rfl, rfl⟩⟩
      · have hc : findF m (putF n b (delF (shadowN n) S.fs)) = some c := hc
        by_cases e : m = n
        · subst e; rw [findF_put_same] at hc; cases hc; exact hb
        · rw [findF_put_other _ e, ← r3] at hc
          exact r4.size m c hc
      · show (putF n b (delF (shadowN n) S.fs)).length ≤ _
        omega
      · show (putF n b (delF (shadowN n) S.fs)).length ≤ _
        omega
      · show B.done + 1 ≤ _
        omega
/-! ### One disk -/
section
variable {w0 w : World} {Z : Nat → Prop} {p : Nat} {S : St}
theorem One.removeW (h : One w0 Z w p S) (hg : Wide S) (hb : S.done ≤ 1000000000000000) (n : Bs) : Calls Try.prog 13 #[ptr p, .string (SL n)] w (OneTo w0 Z p (removeW S n)) := by
  obtain ⟨F, ⟨mb, V, lf, h1⟩, h2, h3, h4⟩ := h
  refine (remove_W h1 hg hb n).mono ?_
  rintro e w' ⟨he, hd, ht⟩
  exact ⟨he, one_acts h2 h3 h4 hd ht⟩
theorem One.renameW (h : One w0 Z w p S) (hg : Wide S) (hb : S.done ≤ 1000000000000000) (f t : Bs) : Calls Try.prog 56 #[ptr p, .string (SL f), .string (SL t)] w (OneTo w0 Z p (renameW S f t)) := by
  obtain ⟨F, ⟨mb, V, lf, h1⟩, h2, h3, h4⟩ := h
  refine (rename_W h1 hg hb f t).mono ?_
  rintro e w' ⟨he, hd, ht⟩
  exact ⟨he, one_acts h2 h3 h4 hd ht⟩
theorem One.readW (h : One w0 Z w p S) (hg : Wide S) (n : Bs) : Calls Try.prog 30 #[ptr p, .string (SL n)] w fun e w' => ∃ v, e = .returned (.tuple #[v, err (readS S n).1]) ∧ w'.ownsRow w.heap.size 5 1 v (readS S n).2.length ((readS S n).2.map B8) ∧ Below w.heap.size w w' := by
  obtain ⟨F, ⟨mb, V, lf, h1⟩, _⟩ := h
  exact read_any h1 n (hg.size n)
end
def MidIW {ao : Option Addr} {cap : Nat} {b : Bs} {B off : Nat} (w0 : World) (Z : Nat → Prop) (lo p mb : Nat) (n : Bs) (S : St) (pre : List (Piece ao cap b B off)) (W : World) : Prop :=
  (appendsW n S (pre.map fun x => x.t)).1 = 0 ∧ Midst w0 Z lo p mb n 0 (appendsW n S (pre.map fun x => x.t)).2 W
def MidXW {ao : Option Addr} {cap : Nat} {b : Bs} {B off : Nat} (w0 : World) (Z : Nat → Prop) (lo p mb : Nat) (n : Bs) (S : St) (c : Code) (pre : List (Piece ao cap b B off)) (W : World) : Prop :=
  c = .ret ∧ (appendsW n S (pre.map fun x => x.t)).1 ≠ 0 ∧ Midst w0 Z lo p mb n (appendsW n S (pre.map fun x => x.t)).1 (appendsW n S (pre.map fun x => x.t)).2 W
theorem midIW_own {ao : Option Addr} {cap : Nat} {b : Bs} {B off : Nat} (w0 : World) (Z : Nat → Prop) (lo p mb : Nat) (n : Bs) (S : St) : OwnFrom (lo + 4) (MidIW (ao := ao) (cap := cap) (b := b) (B := B) (off := off) w0 Z lo p mb n S) :=
  fun _ _ _ _ hs hg hr => ⟨hs.1, hs.2.own hg hr⟩
theorem midXW_own {ao : Option Addr} {cap : Nat} {b : Bs} {B off : Nat} (w0 : World) (Z : Nat → Prop) (lo p mb : Nat) (n : Bs) (S : St) (c : Code) : OwnFrom (lo + 4) (MidXW (ao := ao) (cap := cap) (b := b) (B := B) (off := off) w0 Z lo p mb n S c) :=
  fun _ _ _ _ hs hg hr => ⟨hs.1, hs.2.1, hs.2.2.own hg hr⟩
section
variable {w0 w : World} {Z : Nat → Prop} {p : Nat} {S : St}
set_option maxRecDepth 100000 in
set_option maxHeartbeats 4000000 in
theorem lay_W (h : One w0 Z w p S) (hg : Wide S) (n b : Bs) (hb : S.done + (chunksL b).length ≤ 1000000000000000) (hnone : findF n S.fs = none) (hfl : S.fs.length + 1 ≤ 4000000000000) (hbl : b.length ≤ 140737488355328) (v : Value) (hv : BytesAt w Z v b) :
    Calls Try.prog 55 #[ptr p, .string (SL n), v] w (OneTo w0 Z p (layW n b S)) := by
  obtain ⟨F, ⟨mb, V, lf, h1⟩, h2, h3, h4⟩ := h
  obtain ⟨ao, cap, B, off, rfl, hs, hB⟩ := hv
  have hmb : mb < w.heap.size := (h2 mb h1.inM).2
  have hw0 := h3.size
  obtain ⟨W1, hW1⟩ : ∃ W1, W1 = boxT w p n (.slice ao b.length cap) := ⟨_, rfl⟩
  have hb1 : Below w.heap.size w W1 := by
    rw [hW1]
    exact ((((Below.refl _ w).alloc (Nat.le_refl _) _).alloc (by simp) _).alloc (by simp; omega) _).alloc (by simp; omega) _
  have hsz : W1.heap.size = w.heap.size + 4 := by rw [hW1]; simp [boxT]
  have hM : Midst w0 Z w.heap.size p mb n 0 S W1 := by
    refine ⟨⟨⟨V, lf, (h1.tight).turn (Turn.of_below (fun _ => False) hb1) (fun _ _ h => h), fun k hk => ?_⟩, hmb, h3.trans (Turn.of_below _ hb1), h4, by omega⟩, ?_, ?_, ?_⟩
    · have hk2 := h2 k (h1.foot_in hk)
      exact ⟨hk2.1, by omega, .inl hk2.2⟩
    · rw [hW1]; exact ((Boxed.new w _ _).alloc _).alloc _ |>.alloc _
    · have := Boxed.new (w.alloc (.cells #[ptr p] 25)) 9 (.string (SL n))
      rw [World.size_alloc] at this
      rw [hW1]; exact (this.alloc _).alloc _
    · have := Boxed.new ((w.alloc (.cells #[ptr p] 25)).alloc (.cells #[.string (SL n)] 9)) 32 (err 0)
      rw [World.size_alloc, World.size_alloc] at this
      rw [hW1]; exact this.alloc _
  have hbx : W1.cell? ⟨w.heap.size + 3, 0, none⟩ = some (.slice ao b.length cap) := by
    have := Boxed.new (((w.alloc (.cells #[ptr p] 25)).alloc (.cells #[.string (SL n)] 9)).alloc (.cells #[err 0] 32)) 29 (.slice ao b.length cap)
    rw [World.size_alloc, World.size_alloc, World.size_alloc] at this
    rw [hW1]; exact this.cell
  have HCF := Lib.hid (chunks_bound hbl)
  have hst := chunks_stops (ao := ao) (cap := cap) (bs := b) (B := B) (off := off) (3 - 1) (by omega) (w.heap.size + 3) hs.le W1 (by omega) hbx
  have hsrc : ∀ W, Turn (fun k => ¬ Z k) w0 W → SrcAt W ao cap b B off := fun W ht => src_zone hs hB h3 ht h4
  obtain ⟨K, hK⟩ : ∃ K, K = b.length := ⟨_, rfl⟩
  obtain ⟨r, hr⟩ : ∃ r, r = layW n b S := ⟨_, rfl⟩
  rw [← hK] at hW1
  have hW1' : (((w.alloc (.cells #[ptr p] 25)).alloc (.cells #[.string (SL n)] 9)).alloc (.cells #[.int .i64 0] 32)).alloc (.cells #[.slice ao K cap] 29) = W1 := hW1.symm
  rw [← hr, ← hK]
  have HW := Lib.hid hW1'
  have HM := Lib.hid hM
  have HST := Lib.hid hst
  have HSRC := Lib.hid hsrc
  have HR := Lib.hid hr
  have HB := Lib.hid hB
  have HK := Lib.hid hK
  have HH4 := Lib.hid h4
  have HSZ := Lib.hid hsz
  clear hW1 hW1' hM hst hsrc hr hK hbx h1 h2 h3 hB hs hb1 h4
  obtain ⟨lo, hlo⟩ : ∃ lo, lo = w.heap.size := ⟨_, rfl⟩
  refine (callsIn_wide (n := 3)).1 ?_
  refine callsIn_of_wp_marks Try.func55 rfl trivial ?_ rfl
  simp only [Try.ntmps55, List.size_toArray, List.length_cons, List.length_nil, Nat.reduceAdd, Nat.reduceSub, Array.replicate_succ, Array.replicate_zero, List.push_toArray, List.append_toArray, List.nil_append, List.cons_append]
  gi_wp2_with (refine ⟨trivial, ?_⟩; gi_at_call 69; refine (chunks_in _ _ _ _ _).mono ?_; rintro e w' ⟨rfl, rfl⟩)
  rw [HW.out]
  have hsz := HSZ.out
  have hms := HST.out
  refine wpIn_rangeFunc_ownG rfl (by omega) (gf := 78) (lb := #[.pointer (some ⟨w.heap.size + 3, 0, none⟩)]) rfl trivial (enters_of Try.func78 (by kernel_rfl) rfl)
    hms (fun _ _ => trivial) (fun _ _ _ _ _ _ _ _ => trivial) (Below.refl _ _) (fun _ => rfl)
    (MidIW w0 Z w.heap.size p mb n S) (MidXW w0 Z w.heap.size p mb n S) (by rw [hsz]; exact midIW_own _ _ _ _ _ _ _) (fun c => by rw [hsz]; exact midXW_own _ _ _ _ _ _ _ c)
    ⟨rfl, HM.out⟩
    (fun x => { tmps := #[ptr p, .string (SL n), .slice ao K cap, .pointer (some ⟨w.heap.size, 0, none⟩), .pointer (some ⟨w.heap.size + 1, 0, none⟩), undef, .pointer (some ⟨w.heap.size + 1 + 1, 0, none⟩), x.val, undef, .slice ao K cap, .func (.func 78) #[] #[.pointer (some ⟨w.heap.size + 3, 0, none⟩)], x.val, undef, undef, undef, undef, undef, undef, undef, undef, undef, undef], defers := [] }) ?assign ?body ?done ?stop
  case assign =>
    intro l x W K hK
    gi_wp2
    exact hK
  case body =>
    clear hms HST HM
    rw [hsz]
    rintro l pre x W ⟨h0, hm⟩ hlen
    obtain ⟨V2, lf2, d1, d2⟩ := hm.lay.ex
    have e1 : appendsW n S ((pre ++ [x]).map fun x => x.t) = appendW (appendsW n S (pre.map fun x => x.t)).2 n x.t := by
      rw [List.map_append, List.map_singleton, appends_oneW, if_neg (by simp [h0])]
    have hdn := (appends_grown n (pre.map fun x => x.t) S hg.rise).2.2.2.1
    rw [List.length_map] at hdn
    have hgT : Wide (appendsW n S (pre.map fun x => x.t)).2 := hg.appends hnone hfl (by rw [List.length_map]; have := HCF.out; omega)
    obtain ⟨T, hT⟩ : ∃ T, T = (appendsW n S (pre.map fun x => x.t)).2 := ⟨_, rfl⟩
    rw [← hT] at e1 hdn hgT hm d1 d2
    have hap := append_W d1 hgT (fun k hk => (d2 k hk).2.1) (by omega) n x.a x.c x.t B (off + x.l) (x.src W (HSRC.out W hm.lay.turn)) (fun hp hF => (d2 B hF).1 (HB.out (by have := x.le; omega)))
    have hact := fun (W' : World) (V' : Bs → Value) (lf' : Int) (T' : St) => hm.acts (W' := W') (V' := V') (lf' := lf') (T' := T') d1 d2
    have hxv : x.val = .slice x.a x.t.length x.c := rfl
    have c0 := hm.b0.cell
    have c1 := hm.b1.cell
    obtain ⟨q, hq⟩ : ∃ q, q = appendW T n x.t := ⟨_, rfl⟩
    rw [← hq] at e1 hap
    obtain ⟨M, hM⟩ : ∃ M, M = x.t.length := ⟨_, rfl⟩
    rw [hxv, ← hM]
    rw [← hM] at hap
    have HAP := Lib.hid hap
    have HACT := Lib.hid hact
    have HE := Lib.hid e1
    clear hap hact e1 hxv hM hq hT d1 d2 hgT hdn hlen h0 hm hsz
    by_cases hz : q.1 = 0
    · gi_wp2_with (refine ⟨trivial, ?_⟩; gi_at_call 11; refine (CallsIn.inRound l (callsIn_wide.2 HAP.out)).mono ?_; rintro e W' ⟨rfl, ⟨V', lf', hd⟩, ht⟩; have HX := Lib.hid (HACT.out W' V' lf' q.2 hd ht); clear hd ht; rw [hz])
      exact ⟨HX.out.2, trivial, by rw [HE.out]; exact hz, by rw [HE.out]; exact HX.out.1⟩
    · obtain ⟨z, hzz⟩ : ∃ z, z = q.1 := ⟨_, rfl⟩
      have hz2 : ¬ z = 0 := by rw [hzz]; exact hz
      have HZ := Lib.hid hzz
      clear hzz hz
      gi_wp2_with (refine ⟨trivial, ?_⟩; gi_at_call 11; refine (CallsIn.inRound l (callsIn_wide.2 HAP.out)).mono ?_; rintro e W' ⟨rfl, ⟨V', lf', hd⟩, ht⟩; have HX := Lib.hid (HACT.out W' V' lf' q.2 hd ht); clear hd ht; have f2 := HX.out.1.b2.frozen; have k2 := HX.out.1.b2.cell; rw [← HZ.out])
      have hset := HX.out.1.set z
      exact ⟨HX.out.2.trans ((KeepsOthers.setCell _ _ _).from _), rfl, by rw [HE.out, ← HZ.out]; exact hz2, by rw [HE.out, ← HZ.out]; exact hset⟩
  case done =>
    rintro D xs W hD hxs ⟨h0, hm⟩ hK
    rw [hxs] at h0 hm
    have hDlo : w.heap.size + 4 ≤ D := by omega
    obtain ⟨V2, lf2, d1, d2⟩ := hm.lay.ex
    have hgT : Wide (appendsW n S (chunksL b)).2 := hg.appends hnone hfl HCF.out
    have hdn := (appends_grown n (chunksL b) S hg.rise).2.2.2.1
    have hr : r = syncW (appendsW n S (chunksL b)).2 n := by
      rw [HR.out]
      unfold layW
      rw [if_neg (by simp [h0])]
    obtain ⟨T, hT⟩ : ∃ T, T = (appendsW n S (chunksL b)).2 := ⟨_, rfl⟩
    rw [← hT] at hgT hdn hr hm d1 d2
    have hsy := sync_W d1 hgT (by omega) n
    rw [← hr] at hsy
    have hlast := fun (W' : World) => hm.last (W' := W') (S' := r.2) d1 d2
    have c0 := hm.b0.cell
    have c1 := hm.b1.cell
    have HS := Lib.hid hsy
    have HL := Lib.hid hlast
    have HKD := Lib.hid hK
    obtain ⟨z, hzz⟩ : ∃ z, z = r.1 := ⟨_, rfl⟩
    have HZ := Lib.hid hzz
    clear hms HST HM hsz hr hT hdn hgT d1 d2 hm h0 hxs hsy hlast hK hzz
    gi_wp2_with (refine ⟨trivial, ?_⟩; gi_at_call 70; refine (callsIn_wide.2 HS.out).mono ?_; rintro e W' ⟨rfl, hd, ht⟩; have HX := Lib.hid (HL.out W' hd ht HKD.out hDlo rfl); clear hd ht; have f2 := HX.out.2.1.frozen; have k2 := HX.out.2.1.cell; rw [← HZ.out])
    have hK' := (KeepsOthers.setCell W' ⟨w.heap.size + 1 + 1, 0, none⟩ (err z)).same D _ HX.out.2.2 rfl
    refine ⟨by simp, .inl ⟨_, _, rfl, run_takeDeferred hK', ?_⟩⟩
    have hc5 := cell_kept (HX.out.2.1.set (err z)).cell (grownBy_putObj' _ D (.deferred none)) (fun r e => by cases e; exact ⟨_, hK', rfl⟩)
    refine ⟨err z, ?_, by rw [HZ.out], HX.out.1 _ _⟩
    simp [results, Try.f55, go_sem, hc5]
  case stop =>
    rintro D c pre W hD ⟨rest, hpre⟩ ⟨rfl, h0, hm⟩ hK
    have hDlo : w.heap.size + 4 ≤ D := by omega
    have hr : r = appendsW n S (pre.map fun x => x.t) := by
      rw [HR.out]
      have e : appendsW n S (chunksL b) = appendsW n S (pre.map fun x => x.t) := by rw [← hpre, appends_stopW _ _ _ _ h0]
      unfold layW
      rw [e, if_pos h0]
    rw [← hr] at h0 hm
    obtain ⟨z, hzz⟩ : ∃ z, z = r.1 := ⟨_, rfl⟩
    have c2 := hm.b2.cell
    rw [← hzz] at c2
    have hone := (hm.lay.own (grownBy_putObj' W D (.deferred none)) (fun r e => by cases e; exact ⟨hDlo, _, hK, rfl⟩)).one
    have HO := Lib.hid hone
    have HZ := Lib.hid hzz
    have HC := Lib.hid c2
    clear hms HST HM hsz hr hm hone hzz c2
    gi_wp2
    refine ⟨by simp, .inl ⟨_, _, rfl, run_takeDeferred hK, ?_⟩⟩
    have hc5 := cell_kept HC.out (grownBy_putObj' _ D (.deferred none)) (fun r e => by cases e; exact ⟨_, hK, rfl⟩)
    refine ⟨err z, ?_, by rw [HZ.out], HO.out⟩
    simp [results, Try.f55, go_sem, hc5]
set_option maxRecDepth 100000 in
set_option maxHeartbeats 4000000 in
theorem save_W (h : One w0 Z w p S) (hg : Wide S) (hb : S.done ≤ 100000000000000) (n b : Bs) (h1n : named (shadowN n) = true) (h2n : named n = true) (hm : marked n = false) (hfl : S.fs.length + 1 ≤ 4000000000000) (v : Value) (hv : BytesAt w Z v b) (hbl : b.length ≤ 140737488355328) :
    Calls Try.prog 21 #[ptr p, .string (SL n), v] w (OneTo w0 Z p (saveW S n b)) := by
  have hn := (named_le h2n).1
  have hs : (SL n).size = n.length := SL_size n
  have hsx := suffix_any n (by omega) w
  obtain ⟨ao, cap, B, off, rfl, hsr, hB⟩ := hv
  have hv : BytesAt w Z (.slice ao b.length cap) b := ⟨ao, cap, B, off, rfl, hsr, hB⟩
  obtain ⟨K, hK⟩ : ∃ K, K = b.length := ⟨_, rfl⟩
  rw [← hK] at hv ⊢
  clear hsr hB
  have hn0 : n ≠ [] := fun e => by rw [e] at h2n; cases h2n
  have hne := SL_nil_eq hn0
  have hne2 : (SL n).toList ≠ [] := by rw [SL_toList]; exact hn0
  rw [hm] at hsx
  have hcat := SL_shadow n
  have h1 : (⟨#[126]⟩ : ByteArray).size = 1 := rfl
  have hrem := h.removeW hg (by omega) (shadowN n)
  have hsay := removeW_says hg h1n
  obtain ⟨r, hr⟩ : ∃ r, r = saveW S n b := ⟨_, rfl⟩
  obtain ⟨q, hq⟩ : ∃ q, q = removeW S (shadowN n) := ⟨_, rfl⟩
  rw [← hr]
  rw [← hq] at hrem hsay
  have hr2 : r = if q.1 ≠ 0 ∧ q.1 ≠ 3 then q else saveTW n b q.2 := by
    rw [hr, hq]
    rfl
  obtain ⟨z, hz⟩ : ∃ z, z = q.1 := ⟨_, rfl⟩
  rw [← hz] at hr2 hsay
  have HREM := Lib.hid hrem
  have HR2 := Lib.hid hr2
  have HSAY := Lib.hid hsay
  have HV := Lib.hid (fun (w' : World) (S' : St) (h' : One w0 Z w' p S') => h.bytes h' hv)
  have HZ := Lib.hid hz
  have HK := Lib.hid hK
  clear hr hrem hm hq hr2 hv h hz hK h1n h2n hsay
  go_enter Try.func21, Try.ntmps21
  go_wp2_with (first | (go_at_call 51; refine hsx.mono ?_; rintro e w' ⟨rfl, rfl⟩) | (go_at_call 13; fail))
  refine HREM.out.mono ?_
  rintro e w1 ⟨rfl, h1'⟩
  rw [← HZ.out]
  have H1 := Lib.hid h1'
  clear h1' HREM hsx
  rcases HSAY.out with ⟨hz4, _⟩ | ⟨hz3, hgone, hdel, hgq, hdq⟩
  · subst hz4
    have hr3 : r = q := by rw [HR2.out, if_pos ⟨by decide, by decide⟩]
    have HR3 := Lib.hid hr3
    clear hr3
    go_wp2
    go_ret
    rw [HR3.out]
    exact ⟨by rw [← HZ.out]; rfl, H1.out⟩
  · have hql : q.2.fs.length + 1 ≤ 4000000000000 := by
      have h1 := delF_length_le (n := shadowN n) (l := S.fs)
      rw [hdel]
      omega
    have hr3 : r = saveTW n b q.2 := by rw [HR2.out, if_neg (by omega)]
    have hfree : Calls Try.prog 34 #[ptr p] w1 fun e w' => e = .returned (.int .i64 q.2.room) ∧ w' = w1 := H1.out.free
    have hneed := need_any n (K : Int) w1
    rw [needI_nat (by omega) (by rw [HK.out]; omega)] at hneed
    obtain ⟨x, hx⟩ : ∃ x, x = q.2.room := ⟨_, rfl⟩
    obtain ⟨y, hy⟩ : ∃ y, y = needS n K := ⟨_, rfl⟩
    rw [← hx] at hfree
    rw [← hy] at hneed
    have hr4 : r = if x < y then (4, q.2) else if (layW (shadowN n) b q.2).1 ≠ 0 then layW (shadowN n) b q.2 else renameW (layW (shadowN n) b q.2).2 (shadowN n) n := by rw [hr3, hx, hy, HK.out]; rfl
    have HR4 := Lib.hid hr4
    have HX := Lib.hid hx
    have HY := Lib.hid hy
    clear hr3 hr4 hx hy HR2 HSAY hdel
    by_cases hlt : x < y
    · have hr5 : r = (4, q.2) := by rw [HR4.out, if_pos hlt]
      have HS : OneTo w0 Z p r (.returned (err 4)) w1 := by rw [hr5]; exact ⟨rfl, H1.out⟩
      clear hr5
      rcases hz3 with rfl | rfl
      all_goals (go_wp2_with (first | (go_at_call 34; refine hfree.mono ?_; rintro e w' ⟨rfl, rfl⟩) | (go_at_call 28; refine hneed.mono ?_; rintro e w' ⟨rfl, rfl⟩)); go_ret; exact HS)
    · have hcb := chunks_bound hbl
      have hlay := lay_W H1.out hgq (shadowN n) b (by omega) hgone hql hbl _ (HV.out _ _ H1.out)
      have hlw := hgq.lay hgone hql hbl
      obtain ⟨l, hl⟩ : ∃ l, l = layW (shadowN n) b q.2 := ⟨_, rfl⟩
      have hr5 : r = if l.1 ≠ 0 then l else renameW l.2 (shadowN n) n := by rw [HR4.out, if_neg hlt, hl]
      rw [← hl] at hlay hlw
      have hgl : Wide l.2 := hlw.1
      have hdl : l.2.done ≤ 1000000000000000 := by have := hlw.2; omega
      obtain ⟨y2, hy2⟩ : ∃ y, y = l.1 := ⟨_, rfl⟩
      rw [← hy2] at hr5
      have HR5 := Lib.hid hr5
      have HLAY := Lib.hid hlay
      have HY2 := Lib.hid hy2
      clear hr5 hlay hl hy2 hcb hlw hgone
      have hcase : ∀ w2, One w0 Z w2 p l.2 → Hid (One w0 Z w2 p l.2 ∧ Calls Try.prog 56 #[ptr p, .string (SL (shadowN n)), .string (SL n)] w2 (OneTo w0 Z p (renameW l.2 (shadowN n) n))) := fun w2 h2 => Lib.hid ⟨h2, h2.renameW hgl hdl _ _⟩
      by_cases hl0 : y2 = 0
      · have hr6 : r = renameW l.2 (shadowN n) n := by rw [HR5.out, if_neg (by omega)]
        have HR6 := Lib.hid hr6
        clear hr6
        rcases hz3 with rfl | rfl
        all_goals (go_wp2_with (first | (go_at_call 34; refine hfree.mono ?_; rintro e w' ⟨rfl, rfl⟩) | (go_at_call 28; refine hneed.mono ?_; rintro e w' ⟨rfl, rfl⟩) | (go_at_call 55; refine HLAY.out.mono ?_; rintro e w2 ⟨rfl, h2⟩; rw [← HY2.out, hl0]; have HC := hcase w2 h2; clear h2) | (go_at_call 56; refine HC.out.2.mono ?_; rintro e w3 ⟨rfl, h3⟩; rw [← HR6.out] at h3 ⊢)); go_ret; exact ⟨rfl, h3⟩)
      · have hr6 : r = l := by rw [HR5.out, if_pos hl0]
        have HR6 := Lib.hid hr6
        clear hr6
        rcases hz3 with rfl | rfl
        all_goals (go_wp2_with (first | (go_at_call 34; refine hfree.mono ?_; rintro e w' ⟨rfl, rfl⟩) | (go_at_call 28; refine hneed.mono ?_; rintro e w' ⟨rfl, rfl⟩) | (go_at_call 55; refine HLAY.out.mono ?_; rintro e w2 ⟨rfl, h2⟩; rw [← HY2.out]; have HC := hcase w2 h2; clear h2)); go_ret; rw [HR6.out]; exact ⟨by rw [HY2.out] <;> rfl, HC.out.1⟩)
end
def BothW (w : World) (L : Files) (_ : Int) (e : Ending) (w' : World) : Prop :=
  (e = .returned (.tuple #[.pointer none, .pointer none]) ∧ Below w.heap.size w w') ∨ ∃ p q C, e = .returned (.tuple #[ptr p, ptr q]) ∧ Two w w.heap.size w' p q (loadS L C) ∧ Fit L L.length ∧ C ≤ 1048575
set_option maxRecDepth 100000 in
set_option maxHeartbeats 4000000 in
theorem both_W (c : Int) (v0 : Value) (L : Files) (w : World) (h : FilesAt w (elder w) v0 L) (hL : L.length ≤ 4000000000000) (hb : ∀ n b, (n, b) ∈ L → n.length ≤ 9223372036854775807 ∧ b.length ≤ 140737488355328) :
    Calls Try.prog 10 #[.int .i64 c, v0] w (BothW w L c) := by
  have h0 := h
  obtain ⟨ao, cap, P, g, off, rfl, hraw, hhas⟩ := h
  have hF : ∀ k, elder w k → k < w.heap.size := fun _ h => h
  have H0 := Lib.hid h0
  have HLb := Lib.hid hb
  clear h0 hb
  obtain ⟨N, hN⟩ : ∃ N, N = L.length := ⟨_, rfl⟩
  obtain ⟨B, hB⟩ : ∃ B, B = w.heap.size := ⟨_, rfl⟩
  have hPN : P.length = N := by rw [hN]; exact hhas.1
  rw [← hN] at hL ⊢
  have hwB : w.heap.size ≤ B := by omega
  have hBw : B ≤ w.heap.size := by omega
  have HN := Lib.hid hN
  have HB := Lib.hid hB
  have HR := Lib.hid hraw
  have HH := Lib.hid hhas
  have HPN := Lib.hid hPN
  have HFl := Lib.hid hF
  clear hN hB hraw hhas hPN hF
  go_enter Try.func10, Try.ntmps10
  go_wp2
  go_loopw [6, 7] (fun x i W => ∃ (v : Value) (Q : List (Bs × Value)) (k : Nat), v = x ∧ i = .int .i64 (k : Int) ∧ k ≤ N ∧ FilesOwn W 63 B (fun k => elder w k ∨ B ≤ k) v Q (L.take k) ∧ Below B w W) (fun _ i _ => N - (intOf i).toNat)
  case atStart => exact ⟨.slice none 0 0, [], 0, rfl, rfl, Nat.zero_le _, FilesOwn.nil _ _ _ _, Below.refl _ _⟩
  case round =>
    obtain ⟨v, Q, k, rfl, rfl, hk, hQ, hW⟩ := hrel
    by_cases hlt : k < N
    · have hk2 : k < L.length := by rw [← HN.out]; exact hlt
      have hk3 : k < P.length := by rw [HPN.out]; exact hlt
      obtain ⟨⟨n, b⟩, hf⟩ : ∃ f, L[k]? = some f := ⟨_, List.getElem?_eq_getElem hk2⟩
      obtain ⟨⟨n', bv⟩, hp⟩ : ∃ p, P[k]? = some p := ⟨_, List.getElem?_eq_getElem hk3⟩
      obtain ⟨hnn, hby⟩ := HH.out.2 k _ _ hp hf
      simp only at hnn hby
      subst hnn
      obtain ⟨e1, c1, c2⟩ := HR.out.get hp
      subst e1
      have hgl : g < w.heap.size := World.block_lt_of_cell? w _ c1
      have d1 := (hW.cell (p := ⟨g, off + k * 2, none⟩) (by show g < B; omega)).trans c1
      have d2 := (hW.cell (p := ⟨g, off + k * 2 + 1, none⟩) (by show g < B; omega)).trans c2
      have i0 : (0 : Int) ≤ (k : Int) := by omega
      have i1 : (k : Int) < (N : Int) := by omega
      obtain ⟨ao3, cap3, B3, off3, rfl, s3, hB3⟩ := hby
      obtain ⟨M, hM⟩ : ∃ M, M = b.length := ⟨_, rfl⟩
      rw [← hM] at d2
      have htl : (L.take k).length = k := by rw [List.length_take]; omega
      have hown := hQ.own
      rw [htl] at hown
      have hz := hW.size
      have hgB : g < B := by omega
      have ex1 : ∀ o : Obj, (wr.alloc o).drew.cell? ⟨g, off + k * 2, none⟩ = some (.string (SL n')) := fun o => (World.cell?_of_block (w := wr) (a := ⟨g, off + k * 2, none⟩) (Below.heap_alloc wr o g (by omega))).trans d1
      have ex2 : ∀ o : Obj, (wr.alloc o).drew.cell? ⟨g, off + k * 2 + 1, none⟩ = some (.slice ao3 M cap3) := fun o => (World.cell?_of_block (w := wr) (a := ⟨g, off + k * 2 + 1, none⟩) (Below.heap_alloc wr o g (by omega))).trans d2
      have exo : ∀ o : Obj, (wr.alloc o).drew.ownsRow B 63 2 v k (fcells Q) := fun o => hown.alloc o
      have exb : ∀ j, v.ownBlock = some j → B ≤ j := fun j hj => (hown.lt j hj).1
      have HQ := Lib.hid hQ
      have HM := Lib.hid hM
      have HTL := Lib.hid htl
      have HS3 := Lib.hid s3
      have HB3 := Lib.hid hB3
      have HF := Lib.hid hf
      clear hQ c1 c2 hM htl s3 hB3 hf hp hown
      go_wp2_with fail
      go_region_held3 (fun W => W.cell? ⟨g, off + k * 2, none⟩ = some (.string (SL n')) ∧ W.cell? ⟨g, off + k * 2 + 1, none⟩ = some (.slice ao3 M cap3)) (first | exact ⟨d1, d2⟩ | exact ⟨ex1 _, ex2 _⟩ | exact hS4) ((refine step_append_files files72 rfl _ _ rfl B v k (fcells Q) rfl (exo _) (some ⟨_, 0, none⟩) 1 1 rfl (fcells [(n', .slice ao3 M cap3)]) rfl (fun hh => by cases hh) (fun ad had j u hu => by cases had; exact cells_new wr _ _ j u hu) (by intro u hu; simp [fcells] at hu; rcases hu with rfl | rfl <;> rfl) (by omega) (by show B ≤ (wr.alloc _).heap.size; simp; omega) ?_; intro v4 w4 hown4 hg4 hnew4; have hS4 : w4.cell? ⟨g, off + k * 2, none⟩ = some (.string (SL n')) ∧ w4.cell? ⟨g, off + k * 2 + 1, none⟩ = some (.slice ao3 M cap3) := ⟨hg4.out.cell (ex1 _) (fun e => by have := exb g e.symm; omega), hg4.out.cell (ex2 _) (fun e => by have := exb g e.symm; omega)⟩))
      obtain ⟨w3, hw3⟩ : ∃ w3, w3 = (wr.alloc (Obj.cells #[Value.string (SL n'), Value.slice ao3 M cap3] 63)).drew := ⟨_, rfl⟩
      have h3b : Below wr.heap.size wr w3 := by rw [hw3]; exact ((Below.refl _ _).alloc (Nat.le_refl _) _).drew
      rw [← hw3] at hg4 hnew4
      have hg4 := hg4.out
      have h3s := h3b.size
      have h4s := hg4.size
      have hbytes : BytesAt w3 (fun i => (elder w i ∨ B ≤ i) ∧ v.ownBlock ≠ some i) (.slice ao3 M cap3) b := by
        refine ⟨ao3, cap3, B3, off3, by rw [HM.out], (HS3.out.below (W' := wr) ?_).below h3b, fun hp => ⟨.inl (HB3.out hp), fun e => ?_⟩⟩
        · rw [← HB.out]; exact hW
        · have h5 := exb B3 e
          have h6 := HFl.out B3 (HB3.out hp)
          omega
      have FO4 := HQ.out.more (Turn.of_below _ h3b) hbytes HTL.out hown4.out hg4 hnew4.out HF.out
      have hWn : Below B w w4 := (hW.trans (h3b.mono (by omega))).trans ⟨hg4.os, hg4.tape, hg4.output, hg4.size, fun i hi => hg4.block i (by omega) (fun e => by have := exb i e.symm; omega)⟩
      clear hS4 hown4 hg4 hnew4 hbytes hw3 ex1 ex2 exo d1 d2
      go_wp2
      go_roundw
      case rel => exact ⟨v4, _, k + 1, rfl, by go_num, by omega, FO4, hWn⟩
      case measure => simp [intOf]; omega
    · obtain rfl : k = N := by omega
      rw [List.take_of_length_le (by rw [← HN.out]; exact Nat.le_refl _)] at hQ
      have hBe := HB.out
      have hfiles : FilesAt wr (elder wr) v L := (hQ.files (F := fun i => elder w i ∨ B ≤ i) (fun g hg _ _ => .inr hg)).mono (fun i hi _ => hi)
      have hWw : Below w.heap.size w wr := by rw [← hBe]; exact hW
      have h0 : ∀ W : World, Below w.heap.size w W → FilesAt W (elder W) (.slice ao L.length cap) L := fun W hb =>
        (H0.out.turn (Turn.of_below (fun _ => False) hb) (fun _ _ h => h)).mono (fun i _ hi => by have := hb.size; have : i < w.heap.size := hi; show i < W.heap.size; omega)
      obtain ⟨C, hC, hand⟩ := and_mask c 1048575 (by omega)
      have hand2 : bits BinOp.and IntKind.i64 c 1048575 = (C : Int) := hand
      have hld := load_any C (by omega) v L wr hfiles (by rw [← HN.out]; exact hL) (fun n b hm => (HLb.out n b hm).2)
      have hrl := fun (W : World) (hb : Below w.heap.size w W) => refLoad_any C (by omega) _ L W (h0 W hb) (by rw [← HN.out]; exact hL) HLb.out
      rw [← HN.out] at hrl
      have HLD := Lib.hid hld
      have HRL := Lib.hid hrl
      have HW := Lib.hid hWw
      have i1 : ¬ ((k : Int) < (k : Int)) := by omega
      clear hQ hBe hfiles h0 hld hrl hWw hW hand
      by_cases hgood : Fit L L.length ∧ 0 ≤ wrap64 ((C : Int) - (costs L : Int))
      · obtain ⟨hF, hz⟩ := hgood
        go_wp2_with (first
          | (go_at_call 36; refine HLD.out.mono ?_; intro e w2 hl; obtain ⟨p, rfl, hb2, hd⟩ := hl.makes hF hz; have HD := Lib.hid hd; have HB2 := Lib.hid hb2; have HW2 := Lib.hid (HW.out.trans (hb2.mono HW.out.size)); clear hd hb2 hl)
          | (go_at_call 37; refine (HRL.out w2 HW2.out).mono ?_; intro e w3 hl; obtain ⟨q, rfl, hb3, hd⟩ := hl.makes hF hz; have HD3 := Lib.hid hd; have HB3 := Lib.hid hb3; clear hd hb3 hl))
        go_ret2
        exact .inr ⟨p, q, C, rfl, pair_made HW.out HD.out HB2.out HD3.out HB3.out, hF, hC⟩
      · obtain ⟨y, hy, hr1, hr2⟩ := both_refuse hgood
        have hy0 : ¬ y = 0 := by omega
        have HGD := Lib.hid hgood
        clear hgood hy
        go_wp2_with (first
          | (go_at_call 36; refine HLD.out.mono ?_; intro e w2 hl; obtain ⟨rfl, hb2⟩ := hr1 _ _ _ hl; have HW2 := Lib.hid (HW.out.trans (hb2.mono HW.out.size)); clear hb2 hl)
          | (go_at_call 37; refine (HRL.out w2 HW2.out).mono ?_; intro e w3 hl; obtain ⟨rfl, hb3⟩ := hr2 _ _ _ hl; have HW3 := Lib.hid (HW2.out.trans (hb3.mono HW2.out.size)); clear hb3 hl))
        go_ret2
        exact .inl ⟨rfl, HW3.out⟩
end Go.Proofs.Ythibhkoneajffaa
