/- spend, Has, Read, touch, Cut, On, Sync, Remove of the document's disk. -/
import Derived.Test.YthibhkoneajffaaDiskRefDrop
import Derived.Test.YthibhkoneajffaaDiskOps
namespace Go.Proofs.Ythibhkoneajffaa
open Go.RowKit
structure RefIn (w : World) (F : Nat → Prop) (q : Nat) (ao : Option Addr) (cap : Nat) (P : List (Bs × Value)) (g off : Nat) (S : St) : Prop where
  head : w.heap[q]? = some (refO (S.cap : Int) (S.done : Int) S.left (.slice ao S.fs.length cap) S.dark)
  inQ : F q
  raw : RawAt w (fun k => F k ∧ k ≠ q) ao cap P g off
  has : Has w (fun k => F k ∧ k ≠ q) P S.fs
theorem RefAt.opened {w : World} {F : Nat → Prop} {q : Nat} {S : St} (h : RefAt w F q S) : ∃ ao cap P g off, RefIn w F q ao cap P g off S := by
  obtain ⟨lv, h1, h2, ao, cap, P, g, off, rfl, h3, h4⟩ := h
  exact ⟨ao, cap, P, g, off, h1, h2, h3, h4⟩
/-- A call on the document's disk. -/
def RActs (F : Nat → Prop) (q : Nat) (w : World) (r : Int × St) (e : Ending) (w' : World) : Prop := e = .returned (err r.1) ∧ RefAt w' (grow F w w') q r.2 ∧ Turn F w w'
section
variable {w : World} {F : Nat → Prop} {q : Nat} {ao : Option Addr} {cap : Nat} {P : List (Bs × Value)} {g off : Nat} {S : St}
theorem RefIn.shut (h : RefIn w F q ao cap P g off S) : RefAt w F q S := ⟨_, h.head, h.inQ, ao, cap, P, g, off, rfl, h.raw, h.has⟩
theorem RefIn.list (h : RefIn w F q ao cap P g off S) : ListAt w q (fun k => F k ∧ k ≠ q) ao cap P g off S.fs := ⟨(ref_cells h.head).2.1, h.raw, h.has⟩
theorem RefIn.drewN (h : RefIn w F q ao cap P g off S) (n : Nat) : RefIn (w.drewN n) F q ao cap P g off S :=
  ⟨h.head, h.inQ, h.raw.turn (Turn.drewN (G := fun _ => False) w n) (fun _ _ h => h), h.has.turn (Turn.drewN (G := fun _ => False) w n) (fun _ _ h => h)⟩
theorem ract_same (h : RefIn w F q ao cap P g off S) (k : Int) (n : Nat) : RActs F q w (k, S) (.returned (err k)) (w.drewN n) := ⟨rfl, (h.drewN n).shut.mono fun _ h => .inl h, Turn.drewN w n⟩
theorem ref_foot {w' : World} {o : Obj} (ho : OnlyHead q o w w') (h : RefIn w F q ao cap P g off S) : Turn F w w' := (Turn.refl F w).then ho.turn (fun i _ e => by subst e; exact h.inQ)
theorem ref_list {w' : World} {o : Obj} (ho : OnlyHead q o w w') (h : RefIn w F q ao cap P g off S) : RawAt w' (fun k => F k ∧ k ≠ q) ao cap P g off ∧ Has w' (fun k => F k ∧ k ≠ q) P S.fs :=
  ⟨h.raw.turn ho.turn (fun _ hk e => hk.2 e), h.has.turn ho.turn (fun _ hk e => hk.2 e)⟩
set_option maxRecDepth 100000 in
theorem spend_cut (h : RefIn w F q ao cap P g off S) (h0 : S.left = 0) : Calls Try.prog 44 #[ptr q] w fun e w' => e = .returned (.bool false) ∧ RefIn w' F q ao cap P g off (cutNow S) ∧ Turn F w w' := by
  have hh := h.head
  rw [h0] at hh
  obtain ⟨c0, c1, c2, c3, c4, fr⟩ := ref_cells hh
  have f3 := fr 3
  have f4 := fr 4
  have hset := heap_setCell_same _ q 3 _ 42 (.int .i64 (-1)) (heap_setCell_same w q 4 _ 42 (.bool true) hh)
  have ht : Turn (fun k => k = q) w ((w.setCell ⟨q, 4, none⟩ (.bool true)).setCell ⟨q, 3, none⟩ (.int .i64 (-1))) := (turn_set q 4 w _).trans (turn_set q 3 _ _)
  have HO := Lib.hid (OnlyHead.mk hset ht)
  clear hset ht hh
  go_enter Try.func44, Try.ntmps44
  go_wp2
  go_ret
  obtain ⟨r1, r2⟩ := ref_list HO.out h
  exact ⟨rfl, ⟨HO.out.head, h.inQ, r1, r2⟩, ref_foot HO.out h⟩
set_option maxRecDepth 100000 in
theorem spend_done (h : RefIn w F q ao cap P g off S) (hg : Good S) (hb : S.done ≤ 1000000000000) (h0 : S.left ≠ 0) : Calls Try.prog 44 #[ptr q] w fun e w' => e = .returned (.bool true) ∧ RefIn w' F q ao cap P g off (tick S) ∧ Turn F w w' := by
  have hh := h.head
  obtain ⟨c0, c1, c2, c3, c4, fr⟩ := ref_cells hh
  have f3 := fr 3
  have f2 := fr 2
  have g1 := hg.low
  have g2 := hg.high
  obtain ⟨l, hl⟩ : ∃ l, l = S.left := ⟨_, rfl⟩
  obtain ⟨d, hd⟩ : ∃ d : Int, d = (S.done : Int) := ⟨_, rfl⟩
  have hfin : ∀ w', OnlyHead q (refO (S.cap : Int) (d + 1) (tick S).left (.slice ao S.fs.length cap) S.dark) w w' → RefIn w' F q ao cap P g off (tick S) ∧ Turn F w w' := fun w' ho => by
    obtain ⟨r1, r2⟩ := ref_list ho h
    rw [hd] at ho
    exact ⟨⟨ho.head, h.inQ, r1, r2⟩, ref_foot ho h⟩
  have hdb : 0 ≤ d ∧ d ≤ 1000000000000 := by omega
  have htl : (tick S).left = if l = -1 then -1 else l - 1 := by rw [hl]; rfl
  rw [htl] at hfin
  rw [← hl] at c3 h0 g1 g2 hh
  rw [← hd] at c2 hh
  have HF := Lib.hid hfin
  clear hfin htl hl hd
  by_cases h1 : l = -1
  · subst h1
    have hset := heap_setCell_same w q 2 _ 42 (.int .i64 (d + 1)) hh
    have HO := Lib.hid (HF.out _ ⟨by rw [if_pos rfl]; exact hset, turn_set q 2 w _⟩)
    clear hset hh HF
    go_enter Try.func44, Try.ntmps44
    go_wp2
    go_ret
    exact ⟨rfl, HO.out⟩
  · have hgt : l > 0 := by omega
    have hset := heap_setCell_same _ q 2 _ 42 (.int .i64 (d + 1)) (heap_setCell_same w q 3 _ 42 (.int .i64 (l - 1)) hh)
    have HO := Lib.hid (HF.out _ ⟨by rw [if_neg h1]; exact hset, (turn_set q 3 w _).trans (turn_set q 2 _ _)⟩)
    clear hset hh HF
    go_enter Try.func44, Try.ntmps44
    go_wp2
    go_ret
    exact ⟨rfl, HO.out⟩
set_option maxRecDepth 100000 in
theorem refHas_any (h : RefIn w F q ao cap P g off S) (hr : Rising S.fs) (hL : S.fs.length ≤ 4000000000000) (n : Bs) : Calls Try.prog 57 #[ptr q, .string (SL n)] w fun e w' => e = .returned (.bool (thereF n S.fs)) ∧ ∃ m, w' = w.drewN m := by
  have hf := find_any h.list hr (by omega) n
  go_enter Try.func57, Try.ntmps57
  go_wp2_with (go_at_call 65; refine hf.mono ?_; rintro e w' ⟨rfl, m, rfl⟩)
  go_ret
  exact ⟨rfl, m, rfl⟩
set_option maxRecDepth 100000 in
theorem touch_any (h : RefIn w F q ao cap P g off S) (hr : Rising S.fs) (hL : S.fs.length ≤ 4000000000000) (n : Bs) (hn : n.length ≤ 9223372036854775807) : Calls Try.prog 47 #[ptr q, .string (SL n)] w fun e w' => e = .returned (err (touchS S n)) ∧ ∃ m, w' = w.drewN m := by
  have hN := refNamed_any n w hn
  have hH := refHas_any h hr hL n
  obtain ⟨c0, c1, c2, c3, c4, fr⟩ := ref_cells h.head
  unfold touchS
  cases hnn : named n with
  | false =>
    rw [hnn] at hN
    go_enter Try.func47, Try.ntmps47
    go_wp2_with (go_at_call 41; refine hN.mono ?_; rintro e w' ⟨rfl, rfl⟩)
    go_ret
    exact ⟨rfl, 0, rfl⟩
  | true =>
    rw [hnn] at hN
    cases hd : S.dark with
    | true =>
      rw [hd] at c4
      go_enter Try.func47, Try.ntmps47
      go_wp2_with (go_at_call 41; refine hN.mono ?_; rintro e w' ⟨rfl, rfl⟩)
      go_ret
      exact ⟨rfl, 0, rfl⟩
    | false =>
      rw [hd] at c4
      cases hf : findF n S.fs with
      | none =>
        have ht : thereF n S.fs = false := by simp [thereF, hf]
        rw [ht] at hH
        clear hf ht
        go_enter Try.func47, Try.ntmps47
        go_wp2_with (first | (go_at_call 41; refine hN.mono ?_; rintro e w' ⟨rfl, rfl⟩) | (go_at_call 57; refine hH.mono ?_; rintro e w' ⟨rfl, m, rfl⟩))
        go_ret
        exact ⟨rfl, m, rfl⟩
      | some b =>
        have ht : thereF n S.fs = true := by simp [thereF, hf]
        rw [ht] at hH
        clear hf ht
        go_enter Try.func47, Try.ntmps47
        go_wp2_with (first | (go_at_call 41; refine hN.mono ?_; rintro e w' ⟨rfl, rfl⟩) | (go_at_call 57; refine hH.mono ?_; rintro e w' ⟨rfl, m, rfl⟩))
        go_ret
        exact ⟨rfl, m, rfl⟩
theorem ract_cut {w' : World} (h : RefIn w' F q ao cap P g off (cutNow S)) (ht : Turn F w w') : RActs F q w (5, cutNow S) (.returned (err 5)) w' := ⟨rfl, h.shut.mono fun _ h => .inl h, ht⟩
/-! ### Sync -/
set_option maxRecDepth 100000 in
theorem refSync_any (h : RefIn w F q ao cap P g off S) (hg : Good S) (hb : S.done ≤ 1000000000000) (n : Bs) (hn : n.length ≤ 9223372036854775807) : Calls Try.prog 58 #[ptr q, .string (SL n)] w (RActs F q w (syncS S n)) := by
  have hL : S.fs.length ≤ 4000000000000 := by have := hg.many; omega
  have hr := touch_any h hg.rise hL n hn
  unfold syncS
  by_cases ht : touchS S n = 0
  · rw [if_neg (by simp [ht])]
    rw [ht] at hr
    unfold writeS
    by_cases h0 : S.left = 0
    · rw [if_pos h0]
      go_enter Try.func58, Try.ntmps58
      go_wp2_with (first | (go_at_call 47; refine hr.mono ?_; rintro e w' ⟨rfl, m, rfl⟩) | (go_at_call 44; refine (spend_cut (h.drewN m) h0).mono ?_; rintro e w' ⟨rfl, h1, h2⟩))
      go_ret
      exact ract_cut h1 ((Turn.drewN w m).trans h2)
    · rw [if_neg h0]
      go_enter Try.func58, Try.ntmps58
      go_wp2_with (first | (go_at_call 47; refine hr.mono ?_; rintro e w' ⟨rfl, m, rfl⟩) | (go_at_call 44; refine (spend_done (h.drewN m) hg hb h0).mono ?_; rintro e w' ⟨rfl, h1, h2⟩))
      go_ret
      exact ⟨rfl, h1.shut.mono fun _ h => .inl h, (Turn.drewN w m).trans h2⟩
  · rw [if_pos ht]
    obtain ⟨z, hz⟩ : ∃ z, z = touchS S n := ⟨_, rfl⟩
    rw [← hz] at hr ht ⊢
    have HS := Lib.hid (fun m => ract_same h z m)
    clear hz
    go_enter Try.func58, Try.ntmps58
    go_wp2_with (first | (go_at_call 47; refine hr.mono ?_; rintro e w' ⟨rfl, m, rfl⟩))
    go_ret
    exact HS.out m
/-! ### Cut, On -/
set_option maxRecDepth 100000 in
theorem refCut_any (h : RefIn w F q ao cap P g off S) (z : Int) : Calls Try.prog 18 #[ptr q, .int .i64 z] w (RActs F q w (cutS S z)) := by
  have hh := h.head
  obtain ⟨c0, c1, c2, c3, c4, fr⟩ := ref_cells hh
  have f3 := fr 3
  unfold cutS
  by_cases h0 : z < 0
  · rw [if_pos h0]
    have HS := Lib.hid (ract_same h 1 0)
    go_enter Try.func18, Try.ntmps18
    go_wp2
    go_ret
    exact HS.out
  · rw [if_neg h0]
    cases hd : S.dark with
    | true =>
      rw [if_pos rfl]
      rw [hd] at c4
      have HS := Lib.hid (ract_same h 0 0)
      go_enter Try.func18, Try.ntmps18
      go_wp2
      go_ret
      exact HS.out
    | false =>
      rw [if_neg (by simp)]
      rw [hd] at c4 hh
      have hset := heap_setCell_same w q 3 _ 42 (.int .i64 z) hh
      have HO := Lib.hid (OnlyHead.mk hset (turn_set q 3 w (.int .i64 z)))
      clear hset hh
      go_enter Try.func18, Try.ntmps18
      go_wp2
      go_ret
      obtain ⟨r1, r2⟩ := ref_list HO.out h
      exact ⟨rfl, RefAt.mono (RefIn.shut (S := { S with left := z, dark := false }) ⟨HO.out.head, h.inQ, r1, r2⟩) (fun _ h => .inl h), ref_foot HO.out h⟩
set_option maxRecDepth 100000 in
theorem refOn_any (h : RefIn w F q ao cap P g off S) : Calls Try.prog 20 #[ptr q] w fun e w' => e = .returned (.tuple #[]) ∧ RefAt w' (grow F w w') q (onS S) ∧ Turn F w w' := by
  have hh := h.head
  obtain ⟨c0, c1, c2, c3, c4, fr⟩ := ref_cells hh
  have f3 := fr 3
  have f4 := fr 4
  have hset := heap_setCell_same _ q 3 _ 42 (.int .i64 (-1)) (heap_setCell_same w q 4 _ 42 (.bool false) hh)
  have HO := Lib.hid (OnlyHead.mk hset ((turn_set q 4 w (.bool false)).trans (turn_set q 3 _ (.int .i64 (-1)))))
  clear hset hh
  go_enter Try.func20, Try.ntmps20
  go_wp2
  go_end0
  obtain ⟨r1, r2⟩ := ref_list HO.out h
  exact ⟨rfl, RefAt.mono (RefIn.shut (S := onS S) ⟨HO.out.head, h.inQ, r1, r2⟩) (fun _ h => .inl h), ref_foot HO.out h⟩
/-- The list is laid anew behind a raw write that is done. -/
theorem ract_relaid {w1 w2 : World} {L' : Files} {k : Int} (h1 : RefIn w1 F q ao cap P g off (tick S)) (ht : Turn F w w1) (hr : Relaid w1 q (fun k => F k ∧ k ≠ q) (S.cap : Int) ((tick S).done : Int) (tick S).left S.dark L' w2) (hs : w.heap.size ≤ w1.heap.size)
    (hF : ∀ k, F k → k < w.heap.size) : RActs F q w (k, { tick S with fs := L' }) (.returned (err k)) w2 := by
  obtain ⟨lv, h2, h3⟩ := hr.head
  have hsz := hr.turn.size
  have hq1 := hF _ h1.inQ
  refine ⟨rfl, ⟨lv, h2, .inl h1.inQ, h3.mono fun i hi h => ?_⟩, ht.then hr.turn (fun i _ e => by subst e; exact h1.inQ)⟩
  rcases h with h | h
  · exact ⟨.inl h.1.1, h.1.2⟩
  · exact ⟨.inr ⟨by omega, h.2⟩, by omega⟩
/-! ### Remove -/
set_option maxRecDepth 100000 in
theorem refRemove_any (h : RefIn w F q ao cap P g off S) (hF : ∀ k, F k → k < w.heap.size) (hg : Good S) (hb : S.done ≤ 1000000000000) (n : Bs) (hn : n.length ≤ 9223372036854775807) : Calls Try.prog 14 #[ptr q, .string (SL n)] w (RActs F q w (removeS S n)) := by
  have hL : S.fs.length ≤ 4000000000000 := by have := hg.many; omega
  have hr := touch_any h hg.rise hL n hn
  unfold removeS
  by_cases ht : touchS S n = 0
  · obtain ⟨_, hd, b, hbb⟩ := touch_there ht
    have hth : thereF n S.fs = true := by simp [thereF, hbb]
    rw [if_neg (by simp [ht])]
    rw [ht] at hr
    unfold writeS
    by_cases h0 : S.left = 0
    · rw [if_pos h0]
      go_enter Try.func14, Try.ntmps14
      go_wp2_with (first | (go_at_call 47; refine hr.mono ?_; rintro e w' ⟨rfl, m, rfl⟩) | (go_at_call 44; refine (spend_cut (h.drewN m) h0).mono ?_; rintro e w' ⟨rfl, h1, h2⟩))
      go_ret
      exact ract_cut h1 ((Turn.drewN w m).trans h2)
    · rw [if_neg h0]
      go_enter Try.func14, Try.ntmps14
      go_wp2_with (first | (go_at_call 47; refine hr.mono ?_; rintro e w' ⟨rfl, m, rfl⟩) | (go_at_call 44; refine (spend_done (h.drewN m) hg hb h0).mono ?_; rintro e w1 ⟨rfl, h1, h2⟩) | (go_at_call 48; refine (drop_any h1.head h1.raw h1.has (fun k hk => hk.2) hg.rise hL n hth).mono ?_; rintro e w2 ⟨rfl, h3⟩))
      go_ret
      exact ract_relaid h1 ((Turn.drewN w m).trans h2) h3 ((Turn.drewN (G := F) w m).trans h2).size hF
  · rw [if_pos ht]
    obtain ⟨z, hz⟩ : ∃ z, z = touchS S n := ⟨_, rfl⟩
    rw [← hz] at hr ht ⊢
    have HS := Lib.hid (fun m => ract_same h z m)
    clear hz
    go_enter Try.func14, Try.ntmps14
    go_wp2_with (first | (go_at_call 47; refine hr.mono ?_; rintro e w' ⟨rfl, m, rfl⟩))
    go_ret
    exact HS.out m
end
end Go.Proofs.Ythibhkoneajffaa
