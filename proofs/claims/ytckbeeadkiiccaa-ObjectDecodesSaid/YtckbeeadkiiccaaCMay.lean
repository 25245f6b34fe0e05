/- The program's note.mayBe, tree.mayBe, mayBe. The program's mayBe: is a body as its row says? The program's Check. -/
import Derived.Test.YtckbeeadkiiccaaCObjA
import Derived.Test.YtckbeeadkiiccaaCBody
import Derived.Test.YtckbeeadkiiccaaCAll
import Derived.Deep.RegionHeld3
namespace Go.Proofs.Ytckbeeadkiiccaa
open Go.RowKit
set_option maxRecDepth 100000 in
set_option maxHeartbeats 1600000 in
theorem noteMay_any (o : ObjR) (w : World) :
    Calls Try.prog 56 #[.agg #[.string (SL o.who), .int .i64 o.stamp, .string (SL o.text)]] w fun e w' => e = .returned (.bool (toldB o)) ∧ Below w.heap.size w w' := by
  have hw := Lib.hid (fun W => isShort_any o.who 0 1000 W)
  have ht := Lib.hid (fun W => isShort_any o.text 0 1000 W)
  have hn := Lib.hid (fun v : Obj => (Below.refl w.heap.size w).alloc (Nat.le_refl _) v)
  have hv : toldB o = (decide (o.who.length ≤ 1000) && decide (o.text.length ≤ 1000) && decide (0 ≤ o.stamp) && decide (o.stamp ≤ 1099511627776)) := rfl
  rw [hv]
  obtain ⟨b1, hb1⟩ : ∃ b, b = decide (o.who.length ≤ 1000) := ⟨_, rfl⟩
  obtain ⟨b2, hb2⟩ : ∃ b, b = decide (o.text.length ≤ 1000) := ⟨_, rfl⟩
  rw [← hb1, ← hb2]
  simp only [Nat.zero_le, decide_true, Bool.true_and, ← hb1] at hw
  simp only [Nat.zero_le, decide_true, Bool.true_and, ← hb2] at ht
  obtain ⟨z, hz⟩ : ∃ z, z = o.stamp := ⟨_, rfl⟩
  rw [← hz]
  clear hb1 hb2 hz hv
  cases b1 with
  | false =>
    go_enter Try.func56, Try.ntmps56
    go_wp2_with (go_at_call_of 27 (SL o.who); refine (hw.out _).mono ?_; rintro e w1 ⟨rfl, rfl⟩)
    go_ret
    exact ⟨rfl, hn.out _⟩
  | true =>
    cases b2 with
    | false =>
      go_enter Try.func56, Try.ntmps56
      go_wp2_with (first
        | (go_at_call_of 27 (SL o.who); refine (hw.out _).mono ?_; rintro e w1 ⟨rfl, rfl⟩)
        | (go_at_call_of 27 (SL o.text); refine (ht.out _).mono ?_; rintro e w1 ⟨rfl, rfl⟩))
      go_ret
      exact ⟨rfl, hn.out _⟩
    | true =>
      by_cases h3 : 0 ≤ z
      · rw [decide_eq_true h3]
        go_enter Try.func56, Try.ntmps56
        go_wp2_with (first
          | (go_at_call_of 27 (SL o.who); refine (hw.out _).mono ?_; rintro e w1 ⟨rfl, rfl⟩)
          | (go_at_call_of 27 (SL o.text); refine (ht.out _).mono ?_; rintro e w1 ⟨rfl, rfl⟩))
        go_ret
        exact ⟨rfl, hn.out _⟩
      · rw [decide_eq_false h3]
        go_enter Try.func56, Try.ntmps56
        go_wp2_with (first
          | (go_at_call_of 27 (SL o.who); refine (hw.out _).mono ?_; rintro e w1 ⟨rfl, rfl⟩)
          | (go_at_call_of 27 (SL o.text); refine (ht.out _).mono ?_; rintro e w1 ⟨rfl, rfl⟩))
        go_ret
        exact ⟨rfl, hn.out _⟩
/-! ### A tree's entries -/
/-- The name ahead: empty ahead of the first. -/
def aheadOf (l : List EntR) (k : Nat) : OB := match k with | 0 => [] | k + 1 => (l[k]?.map (fun e => e.nm)).getD []
theorem ahead_zero (l : List EntR) : aheadOf l 0 = [] := rfl
theorem ahead_succ {l : List EntR} {k : Nat} {e : EntR} (h : l[k]? = some e) : aheadOf l (k + 1) = e.nm := by
  show (l[k]?.map (fun e => e.nm)).getD [] = e.nm
  rw [h]
  rfl
theorem name_some {e : EntR} (h : partB e.nm = true) : ([] : OB) < e.nm := by
  cases hn : e.nm with
  | nil => rw [hn] at h; simp [partB] at h
  | cons a r => exact List.nil_lt_cons a r
theorem ents_next {l : List EntR} {k : Nat} {e : EntR} (h : EntsTo l k) (he : l[k]? = some e) (h2 : entB e = true) (h3 : aheadOf l k < e.nm) : EntsTo l (k + 1) := by
  cases k with
  | zero => exact EntsTo.first he h2
  | succ k =>
    have hk : k < l.length := by have := (List.getElem?_eq_some_iff.1 he).1; omega
    obtain ⟨a, ha⟩ : ∃ a, l[k]? = some a := ⟨_, List.getElem?_eq_getElem hk⟩
    rw [ahead_succ ha] at h3
    exact h.next ha he h2 h3
theorem ents_back {l : List EntR} {k : Nat} {e : EntR} (he : l[k]? = some e) (hp : partB e.nm = true) (h3 : ¬ aheadOf l k < e.nm) : entsB l = false := by
  cases k with
  | zero => exact absurd (name_some hp) h3
  | succ k =>
    have hk : k < l.length := by have := (List.getElem?_eq_some_iff.1 he).1; omega
    obtain ⟨a, ha⟩ : ∃ a, l[k]? = some a := ⟨_, List.getElem?_eq_getElem hk⟩
    rw [ahead_succ ha] at h3
    exact ents_falls ha he h3
set_option maxRecDepth 100000 in
set_option maxHeartbeats 4000000 in
theorem treeMay_any (F : Nat → Prop) (v : Value) (l : List EntR) (w : World) (h : EntsAt w F v l) :
    Calls Try.prog 53 #[v] w fun e w' => e = .returned (.bool (entsB l)) ∧ Below w.heap.size w w' := by
  obtain ⟨ao, cap, g, off, rfl, hsl⟩ := h
  obtain ⟨N, hN⟩ : ∃ N, N = l.length := ⟨_, rfl⟩
  rw [← hN] at hsl ⊢
  have HN := Lib.hid hN
  have HS := Lib.hid hsl
  clear hN hsl
  by_cases hbig : N > 4096
  · have i0 : (N : Int) > 4096 := by omega
    have hv : entsB l = false := by
      unfold entsB
      rw [← HN.out, decide_eq_false (by omega : ¬ N ≤ 4096), Bool.and_false]
    rw [hv]
    clear hbig hv
    go_enter Try.func53, Try.ntmps53
    go_wp2
    go_ret
    exact ⟨rfl, Below.refl _ _⟩
  · have i0 : ¬ (N : Int) > 4096 := by omega
    obtain ⟨x, hx⟩ : ∃ x, x = w.heap.size := ⟨_, rfl⟩
    rw [← hx]
    have HX := Lib.hid hx
    have HS2 := Lib.hid (fun (W : World) (hb : Below x w W) => HS.out.turn (Turn.of_below (fun _ => False) (by rw [← hx]; exact hb)) (fun _ _ h => h))
    clear hx
    go_enter Try.func53, Try.ntmps53
    go_wp2
    go_loopw [3, 11] (fun a i W => ∃ k : Nat, i = .int .i64 (k : Int) ∧ a = .string (SL (aheadOf l k)) ∧ k ≤ N ∧ EntsTo l k ∧ Below x w W) (fun _ i _ => N - (intOf i).toNat)
    case atStart => exact ⟨0, rfl, rfl, Nat.zero_le _, entsTo_zero l, by rw [HX.out]; exact Below.refl _ _⟩
    case round =>
      obtain ⟨k, rfl, rfl, hk, ht, hB⟩ := hrel
      have HT := Lib.hid ht
      have BB := Lib.hid hB
      clear ht hB
      by_cases hlt : k < N
      · have j0 : (0 : Int) ≤ (k : Int) := by omega
        have j1 : (k : Int) < (N : Int) := by omega
        obtain ⟨e, he⟩ : ∃ e, l[k]? = some e := ⟨_, List.getElem?_eq_getElem (by rw [← HN.out]; exact hlt)⟩
        obtain ⟨rfl, c0, c1, c2⟩ := (HS2.out wr BB.out).entry he hlt
        have hpt := Lib.hid (fun W => part_any e.nm W)
        have hid := Lib.hid (fun W => isId_any e.id W)
        have hbl := BB.out.alloc (by have := BB.out.size; have := HX.out; omega) (.cells #[.string (SL e.nm), .bool e.dir, .string (SL e.id)] 30)
        obtain ⟨W1, hW1⟩ : ∃ W1, W1 = wr.alloc (.cells #[.string (SL e.nm), .bool e.dir, .string (SL e.id)] 30) := ⟨_, rfl⟩
        have hrow : ∀ W, Below W1.heap.size W1 W → W.cell? ⟨wr.heap.size, 0, none⟩ = some (.string (SL e.nm)) ∧ W.cell? ⟨wr.heap.size, 2, none⟩ = some (.string (SL e.id)) := fun W hb => by
          have h0 : W1.heap[wr.heap.size]? = some (.cells #[.string (SL e.nm), .bool e.dir, .string (SL e.id)] 30 (0, 0)) := by rw [hW1]; exact heap_alloc_new _ _
          have h1 := below_turn hb h0
          exact ⟨cell_of_row _ _ _ _ _ _ h1, cell_of_row _ _ _ _ _ _ h1⟩
        rw [← hW1] at hbl
        have ROW := Lib.hid hrow
        have HBL := Lib.hid hbl
        have HE := Lib.hid he
        have la := SL_toList e.nm
        have lb := SL_toList (aheadOf l k)
        obtain ⟨q, hq⟩ : ∃ q, q = aheadOf l k := ⟨_, rfl⟩
        rw [← hq] at lb ⊢
        have HQ := Lib.hid hq
        have HW1 := Lib.hid hW1
        clear hrow hbl he hq hW1
        cases hp : partB e.nm with
        | false =>
          rw [hp] at hpt
          have hv : entsB l = false := ents_not HE.out (by unfold entB; rw [hp]; rfl)
          have HV := Lib.hid hv
          clear hv hp
          go_wp2_with fail
          rw [← HW1.out]
          go_wp2_with (first
            | (go_at_call 11; refine (hpt.out _).mono ?_; rintro e1 w2 ⟨rfl, b2⟩; obtain ⟨r0, r2⟩ := ROW.out w2 b2; have BB2 := Lib.hid (HBL.out.trans (b2.mono (by have := HBL.out.size; have := HX.out; omega))); clear b2)
            | (go_at_call 54; refine (hid.out _).mono ?_; rintro e1 w3 ⟨rfl, rfl⟩))
          go_ret
          exact ⟨by rw [HV.out]; rfl, BB2.out⟩
        | true =>
          rw [hp] at hpt
          have HP := Lib.hid hp
          clear hp
          cases hm : is32 e.id with
          | false =>
            rw [hm] at hid
            have hv : entsB l = false := ents_not HE.out (by unfold entB; rw [show decide (e.id.length = 32) = false from hm, Bool.and_false])
            have HV := Lib.hid hv
            clear hv hm
            go_wp2_with fail
            rw [← HW1.out]
            go_wp2_with (first
            | (go_at_call 11; refine (hpt.out _).mono ?_; rintro e1 w2 ⟨rfl, b2⟩; obtain ⟨r0, r2⟩ := ROW.out w2 b2; have BB2 := Lib.hid (HBL.out.trans (b2.mono (by have := HBL.out.size; have := HX.out; omega))); clear b2)
            | (go_at_call 54; refine (hid.out _).mono ?_; rintro e1 w3 ⟨rfl, rfl⟩))
            go_ret
            exact ⟨by rw [HV.out]; rfl, BB2.out⟩
          | true =>
            rw [hm] at hid
            have heb : entB e = true := by unfold entB; rw [HP.out, show decide (e.id.length = 32) = true from hm]; rfl
            have HEB := Lib.hid heb
            clear hm heb
            by_cases hl : q < e.nm
            · have hb : Op.bytesLess e.nm q = false := by rw [bytesLess_eq]; exact decide_eq_false (List.lt_asymm hl)
              have hc : (e.nm == q) = false := by
                rw [beq_eq_false_iff_ne]
                intro e1
                rw [e1] at hl
                exact List.lt_irrefl _ hl
              have hnx : EntsTo l (k + 1) := ents_next HT.out HE.out HEB.out (by rw [← HQ.out]; exact hl)
              have hah : aheadOf l (k + 1) = e.nm := ahead_succ HE.out
              have HNX := Lib.hid hnx
              have HAH := Lib.hid hah
              clear hl hnx hah
              go_wp2_with fail
              rw [← HW1.out]
              go_wp2_with (first
            | (go_at_call 11; refine (hpt.out _).mono ?_; rintro e1 w2 ⟨rfl, b2⟩; obtain ⟨r0, r2⟩ := ROW.out w2 b2; have BB2 := Lib.hid (HBL.out.trans (b2.mono (by have := HBL.out.size; have := HX.out; omega))); clear b2)
            | (go_at_call 54; refine (hid.out _).mono ?_; rintro e1 w3 ⟨rfl, rfl⟩))
              go_roundw
              case rel => exact ⟨k + 1, by go_num, by rw [HAH.out], by omega, HNX.out, BB2.out⟩
              case measure => simp [intOf]; omega
            · have hv : entsB l = false := ents_back HE.out HP.out (by rw [← HQ.out]; exact hl)
              have HV := Lib.hid hv
              by_cases hl2 : e.nm < q
              · have hb : Op.bytesLess e.nm q = true := by rw [bytesLess_eq]; exact decide_eq_true hl2
                clear hl hl2 hv
                go_wp2_with fail
                rw [← HW1.out]
                go_wp2_with (first
            | (go_at_call 11; refine (hpt.out _).mono ?_; rintro e1 w2 ⟨rfl, b2⟩; obtain ⟨r0, r2⟩ := ROW.out w2 b2; have BB2 := Lib.hid (HBL.out.trans (b2.mono (by have := HBL.out.size; have := HX.out; omega))); clear b2)
            | (go_at_call 54; refine (hid.out _).mono ?_; rintro e1 w3 ⟨rfl, rfl⟩))
                go_ret
                exact ⟨by rw [HV.out]; rfl, BB2.out⟩
              · have hc : (e.nm == q) = true := by
                  rw [beq_iff_eq]
                  exact List.le_antisymm (List.not_lt.1 hl) (List.not_lt.1 hl2)
                have hb : Op.bytesLess e.nm q = false := by rw [bytesLess_eq]; exact decide_eq_false hl2
                clear hl hl2 hv
                go_wp2_with fail
                rw [← HW1.out]
                go_wp2_with (first
            | (go_at_call 11; refine (hpt.out _).mono ?_; rintro e1 w2 ⟨rfl, b2⟩; obtain ⟨r0, r2⟩ := ROW.out w2 b2; have BB2 := Lib.hid (HBL.out.trans (b2.mono (by have := HBL.out.size; have := HX.out; omega))); clear b2)
            | (go_at_call 54; refine (hid.out _).mono ?_; rintro e1 w3 ⟨rfl, rfl⟩))
                go_ret
                exact ⟨by rw [HV.out]; rfl, BB2.out⟩
      · obtain rfl : k = N := by omega
        have i1 : ¬ (k : Int) < (k : Int) := by omega
        have hv : entsB l = true := by
          have := HT.out
          rw [HN.out] at this
          rw [this.all]
          exact decide_eq_true (by rw [← HN.out]; omega)
        have HV := Lib.hid hv
        clear hv
        go_wp2
        go_ret
        exact ⟨by rw [HV.out]; rfl, BB.out⟩
end Go.Proofs.Ytckbeeadkiiccaa
namespace Go.Proofs.Ytckbeeadkiiccaa
open Go.RowKit
attribute [local go_sem] as_blob as_blob_tree as_blob_commit as_blob_tag as_blob_nil as_tree as_tree_blob as_tree_commit as_tree_tag as_tree_nil as_commit as_commit_blob as_commit_tree as_commit_tag as_commit_nil as_tag as_tag_blob as_tag_tree as_tag_commit as_tag_nil
theorem may_one {o : ObjR} (h : o.kind = 1) : mayO o = decide (o.data.length ≤ 1048576) := by unfold mayO; rw [if_pos h]
theorem may_two {o : ObjR} (h : o.kind = 2) : mayO o = entsB o.ents := by unfold mayO; rw [if_neg (by omega), if_pos h]
theorem may_three {o : ObjR} (h : o.kind = 3) : mayO o = (decide (o.tree.length = 32) && upsB o.ups && toldB o) := by unfold mayO; rw [if_neg (by omega), if_neg (by omega), if_pos h]
theorem may_four {o : ObjR} (h : o.kind = 4) : mayO o = (decide (o.target.length = 32) && (decide (1 ≤ o.name.length) && decide (o.name.length ≤ 200)) && toldB o) := by unfold mayO; rw [if_neg (by omega), if_neg (by omega), if_neg (by omega), if_pos h]
theorem may_none {o : ObjR} (h1 : ¬ o.kind = 1) (h2 : ¬ o.kind = 2) (h3 : ¬ o.kind = 3) (h4 : ¬ o.kind = 4) : mayO o = false := by unfold mayO; rw [if_neg h1, if_neg h2, if_neg h3, if_neg h4]
set_option maxRecDepth 100000 in
set_option maxHeartbeats 8000000 in
theorem mayBe_any (F : Nat → Prop) (o : ObjR) (a1 : Option Addr) (c1 : Nat) (a2 : Option Addr) (c2 : Nat) (a3 : Option Addr) (c3 : Nat) (w : World)
    (h : ObjIn w F o (.slice a1 o.data.length c1) (.slice a2 o.ents.length c2) (.slice a3 o.ups.length c3)) :
    Calls Try.prog 34 #[bodyV o (.slice a1 o.data.length c1) (.slice a2 o.ents.length c2) (.slice a3 o.ups.length c3)] w fun e w' => e = .returned (.bool (mayO o)) ∧ Below w.heap.size w w' := by
  have hents := treeMay_any F (.slice a2 o.ents.length c2) o.ents w h.ents
  have hups : ∀ W, Below w.heap.size w W → o.ups.length ≤ 4 → Calls Try.prog 55 #[.slice a3 o.ups.length c3] W fun e w' => e = .returned (.bool (o.ups.all is32 && onceB o.ups)) ∧ w' = W := fun W hb hl => by
    obtain ⟨ao, cap, g, off, e, hs⟩ := h.ups
    cases e
    exact areIds_any F _ _ g off o.ups W (hs.turn (Turn.of_below (fun _ => False) hb) (fun _ _ h => h)) (by omega)
  have hnote := noteMay_any o
  have hid := isId_any
  have hsh := fun W => isShort_any o.name 1 200 W
  have hn := Lib.hid (fun v : Obj => (Below.refl w.heap.size w).alloc (Nat.le_refl _) v)
  clear h
  obtain ⟨n1, hn1⟩ : ∃ n, n = o.data.length := ⟨_, rfl⟩
  obtain ⟨n2, hn2⟩ : ∃ n, n = o.ents.length := ⟨_, rfl⟩
  obtain ⟨n3, hn3⟩ : ∃ n, n = o.ups.length := ⟨_, rfl⟩
  rw [← hn1, ← hn2, ← hn3]
  rw [← hn2] at hents
  rw [← hn3] at hups
  by_cases h1 : o.kind = 1
  · unfold bodyV
    rw [may_one h1, if_pos h1, ← hn1]
    clear hents hups hnote hid hsh hn1 hn2 hn3 h1
    by_cases hq : n1 ≤ 1048576
    · have i1 : (n1 : Int) ≤ 1048576 := by omega
      rw [decide_eq_true hq]
      clear hq
      go_enter Try.func34, Try.ntmps34
      go_wp2
      go_ret
      exact ⟨rfl, Below.refl _ _⟩
    · have i1 : ¬ (n1 : Int) ≤ 1048576 := by omega
      have i2 : decide ((n1 : Int) ≤ 1048576) = false := by simpa using i1
      rw [decide_eq_false hq]
      clear hq
      go_enter Try.func34, Try.ntmps34
      go_wp2
      go_ret
      exact ⟨rfl, Below.refl _ _⟩
  · by_cases h2 : o.kind = 2
    · unfold bodyV
      rw [may_two h2, if_neg h1, if_pos h2]
      have HE := Lib.hid hents
      clear hents hups hnote hid hsh hn1 hn2 hn3 h1 h2
      go_enter Try.func34, Try.ntmps34
      go_wp2_with (go_at_call 53; refine HE.out.mono ?_; rintro e w1 ⟨rfl, b1⟩; have B1 := Lib.hid b1; clear b1)
      go_ret
      exact ⟨rfl, B1.out⟩
    · by_cases h3 : o.kind = 3
      · unfold bodyV
        rw [may_three h3, if_neg h1, if_neg h2, if_pos h3]
        have hbl := (Below.refl w.heap.size w).alloc (Nat.le_refl _) (.cells #[.string (SL o.tree), .slice a3 n3 c3, .string (SL o.who), .int .i64 o.stamp, .string (SL o.text)] 63)
        have HB := Lib.hid hbl
        have HI := Lib.hid (fun W => hid o.tree W)
        have hu : upsB o.ups = ((o.ups.all is32 && onceB o.ups) && decide (n3 ≤ 4)) := by unfold upsB; rw [← hn3]; rfl
        rw [hu, show decide (o.tree.length = 32) = is32 o.tree from rfl]
        obtain ⟨bi, hbi⟩ : ∃ b, b = is32 o.tree := ⟨_, rfl⟩
        obtain ⟨ba, hba⟩ : ∃ b, b = (o.ups.all is32 && onceB o.ups) := ⟨_, rfl⟩
        obtain ⟨bt, hbt⟩ : ∃ b, b = toldB o := ⟨_, rfl⟩
        rw [← hbi, ← hba, ← hbt]
        rw [← hbi] at HI
        rw [← hba] at hups
        rw [← hbt] at hnote
        have HU := Lib.hid hups
        have HT := Lib.hid hnote
        clear hents hups hnote hid hsh hn1 hn2 hn3 h1 h2 h3 hu hbi hba hbt hbl
        cases bi with
        | false =>
          go_enter Try.func34, Try.ntmps34
          go_wp2_with (go_at_call 54; refine (HI.out _).mono ?_; rintro e w1 ⟨rfl, rfl⟩)
          go_ret
          exact ⟨rfl, HB.out⟩
        | true =>
          by_cases hq : n3 ≤ 4
          · have i1 : (n3 : Int) ≤ 4 := by omega
            have HU2 := Lib.hid (fun W hb => HU.out W hb hq)
            rw [decide_eq_true hq]
            clear hq
            cases ba with
            | false =>
              go_enter Try.func34, Try.ntmps34
              go_wp2_with (first
                | (go_at_call 54; refine (HI.out _).mono ?_; rintro e w1 ⟨rfl, rfl⟩)
                | (go_at_call 55; refine (HU2.out _ HB.out).mono ?_; rintro e w1 ⟨rfl, rfl⟩))
              go_ret
              exact ⟨rfl, HB.out⟩
            | true =>
              go_enter Try.func34, Try.ntmps34
              go_wp2_with (first
                | (go_at_call 54; refine (HI.out _).mono ?_; rintro e w1 ⟨rfl, rfl⟩)
                | (go_at_call 55; refine (HU2.out _ HB.out).mono ?_; rintro e w1 ⟨rfl, rfl⟩)
                | (go_at_call 56; refine (HT.out _).mono ?_; rintro e w2 ⟨rfl, b2⟩; have B2 := Lib.hid (HB.out.trans (b2.mono HB.out.size)); clear b2))
              go_ret
              exact ⟨rfl, B2.out⟩
          · have i1 : ¬ (n3 : Int) ≤ 4 := by omega
            rw [decide_eq_false hq, Bool.and_false, Bool.and_false]
            clear hq
            go_enter Try.func34, Try.ntmps34
            go_wp2_with (go_at_call 54; refine (HI.out _).mono ?_; rintro e w1 ⟨rfl, rfl⟩)
            go_ret
            exact ⟨rfl, HB.out⟩
      · by_cases h4 : o.kind = 4
        · unfold bodyV
          rw [may_four h4, if_neg h1, if_neg h2, if_neg h3, if_pos h4]
          have hbl := (Below.refl w.heap.size w).alloc (Nat.le_refl _) (.cells #[.string (SL o.target), .string (SL o.name), .string (SL o.who), .int .i64 o.stamp, .string (SL o.text)] 65)
          have HB := Lib.hid hbl
          have HI := Lib.hid (fun W => hid o.target W)
          have HS := Lib.hid hsh
          rw [show decide (o.target.length = 32) = is32 o.target from rfl]
          obtain ⟨bi, hbi⟩ : ∃ b, b = is32 o.target := ⟨_, rfl⟩
          obtain ⟨ba, hba⟩ : ∃ b, b = (decide (1 ≤ o.name.length) && decide (o.name.length ≤ 200)) := ⟨_, rfl⟩
          obtain ⟨bt, hbt⟩ : ∃ b, b = toldB o := ⟨_, rfl⟩
          rw [← hbi, ← hba, ← hbt]
          rw [← hbi] at HI
          rw [← hba] at HS
          rw [← hbt] at hnote
          have HT := Lib.hid hnote
          clear hents hups hnote hid hsh hn1 hn2 hn3 h1 h2 h3 h4 hbi hba hbt hbl
          cases bi with
          | false =>
            go_enter Try.func34, Try.ntmps34
            go_wp2_with (go_at_call 54; refine (HI.out _).mono ?_; rintro e w1 ⟨rfl, rfl⟩)
            go_ret
            exact ⟨rfl, HB.out⟩
          | true =>
            cases ba with
            | false =>
              go_enter Try.func34, Try.ntmps34
              go_wp2_with (first
                | (go_at_call 54; refine (HI.out _).mono ?_; rintro e w1 ⟨rfl, rfl⟩)
                | (go_at_call 27; refine (HS.out _).mono ?_; rintro e w1 ⟨rfl, rfl⟩))
              go_ret
              exact ⟨rfl, HB.out⟩
            | true =>
              go_enter Try.func34, Try.ntmps34
              go_wp2_with (first
                | (go_at_call 54; refine (HI.out _).mono ?_; rintro e w1 ⟨rfl, rfl⟩)
                | (go_at_call 27; refine (HS.out _).mono ?_; rintro e w1 ⟨rfl, rfl⟩)
                | (go_at_call 56; refine (HT.out _).mono ?_; rintro e w2 ⟨rfl, b2⟩; have B2 := Lib.hid (HB.out.trans (b2.mono HB.out.size)); clear b2))
              go_ret
              exact ⟨rfl, B2.out⟩
        · unfold bodyV
          rw [may_none h1 h2 h3 h4, if_neg h1, if_neg h2, if_neg h3, if_neg h4]
          clear hents hups hnote hid hsh hn1 hn2 hn3 h1 h2 h3 h4
          go_enter Try.func34, Try.ntmps34
          go_wp2
          go_ret
          exact ⟨rfl, Below.refl _ _⟩
end Go.Proofs.Ytckbeeadkiiccaa
namespace Go.Proofs.Ytckbeeadkiiccaa
open Go.RowKit
theorem core_data (o : ObjR) (F : Nat → Prop) (dv ev uv : Value) (w : World) (h : ObjIn w F o dv ev uv) : ObjIn w F (coreO o) (coreD o dv) (coreE o ev) (coreU o uv) := by
  unfold coreD coreE coreU
  by_cases h1 : o.kind = 1
  · rw [core_one h1, if_pos h1, if_neg (by omega), if_neg (by omega)]
    exact ⟨h.data, entsAt_nil _ _, textsAt_nil _ _⟩
  · by_cases h2 : o.kind = 2
    · rw [core_two h2, if_neg h1, if_pos h2, if_neg (by omega)]
      exact ⟨bytesAt_nil _ _, h.ents, textsAt_nil _ _⟩
    · by_cases h3 : o.kind = 3
      · rw [core_three h3, if_neg h1, if_neg h2, if_pos h3]
        exact ⟨bytesAt_nil _ _, entsAt_nil _ _, h.ups⟩
      · by_cases h4 : o.kind = 4
        · rw [core_four h4, if_neg h1, if_neg h2, if_neg h3]
          exact ⟨bytesAt_nil _ _, entsAt_nil _ _, textsAt_nil _ _⟩
        · rw [core_none h1 h2 h3 h4, if_neg h1, if_neg h2, if_neg h3]
          exact ⟨bytesAt_nil _ _, entsAt_nil _ _, textsAt_nil _ _⟩
set_option maxRecDepth 100000 in
set_option maxHeartbeats 4000000 in
theorem check_any (F : Nat → Prop) (o : ObjR) (dv ev uv : Value) (w : World) (h : ObjIn w F o dv ev uv) :
    Calls Try.prog 18 #[objV o dv ev uv] w fun e w' => e = .returned (.int .i64 (errO o)) ∧ Below w.heap.size w w' := by
  have hcore := core_data o F dv ev uv w h
  obtain ⟨x1, k1, g1, q1, e1, _, _⟩ := hcore.data
  obtain ⟨x2, k2, g2, q2, e2, _⟩ := hcore.ents
  obtain ⟨x3, k3, g3, q3, e3, _⟩ := hcore.ups
  have hh := h
  obtain ⟨a1, c1, B1, o1, rfl, _, _⟩ := h.data
  obtain ⟨a2, c2, G2, o2, rfl, _⟩ := h.ents
  obtain ⟨a3, c3, G3, o3, rfl, _⟩ := h.ups
  have hbody := fun W => bodyOf_any o a1 o.data.length c1 a2 o.ents.length c2 a3 o.ups.length c3 W
  have hobj := fun W => objectOf_any o a1 o.data.length c1 a2 o.ents.length c2 a3 o.ups.length c3 W
  have hmay := fun W (hb : Below w.heap.size w W) => mayBe_any F o a1 c1 a2 c2 a3 c3 W (hh.turn (Turn.of_below (fun _ => False) hb) (fun _ _ h => h))
  have hall := fun W => isAll_any o (coreO o) a1 c1 a2 c2 a3 c3 x1 k1 x2 k2 x3 k3 W
  rw [← e1, ← e2, ← e3] at hall
  have hv : errO o = if (mayO o && allB o (coreO o)) = true then 0 else 1 := by unfold errO; rw [ok_split]
  rw [hv]
  obtain ⟨V, hV⟩ : ∃ V, V = bodyV o (.slice a1 o.data.length c1) (.slice a2 o.ents.length c2) (.slice a3 o.ups.length c3) := ⟨_, rfl⟩
  obtain ⟨OV, hOV⟩ : ∃ V, V = objV (coreO o) (coreD o (.slice a1 o.data.length c1)) (coreE o (.slice a2 o.ents.length c2)) (coreU o (.slice a3 o.ups.length c3)) := ⟨_, rfl⟩
  obtain ⟨bm, hbm⟩ : ∃ b, b = mayO o := ⟨_, rfl⟩
  obtain ⟨ba, hba⟩ : ∃ b, b = allB o (coreO o) := ⟨_, rfl⟩
  rw [← hV] at hbody hobj hmay
  rw [← hOV] at hobj hall
  rw [← hbm] at hmay
  rw [← hba] at hall
  rw [← hbm, ← hba]
  unfold objV at hbody hall ⊢
  obtain ⟨n1, hn1⟩ : ∃ n, n = o.data.length := ⟨_, rfl⟩
  obtain ⟨n2, hn2⟩ : ∃ n, n = o.ents.length := ⟨_, rfl⟩
  obtain ⟨n3, hn3⟩ : ∃ n, n = o.ups.length := ⟨_, rfl⟩
  rw [← hn1, ← hn2, ← hn3] at hbody hall ⊢
  obtain ⟨W1, hW1⟩ : ∃ W1, W1 = w.alloc (.cells #[.int .i64 o.kind, .slice a1 n1 c1, .slice a2 n2 c2, .string (SL o.tree), .slice a3 n3 c3, .string (SL o.target), .string (SL o.name), .string (SL o.who), .int .i64 o.stamp, .string (SL o.text)] 26) := ⟨_, rfl⟩
  obtain ⟨x, hx⟩ : ∃ x, x = w.heap.size := ⟨_, rfl⟩
  have hbl : Below x w W1 := by rw [hW1, hx]; exact (Below.refl _ _).alloc (Nat.le_refl _) _
  have hrow : ∀ W, Below W1.heap.size W1 W → _ := fun W hb => obj_cells (below_turn hb (by rw [hW1]; exact heap_alloc_new w _))
  rw [← hx] at hmay ⊢
  have HBODY := Lib.hid hbody
  have HOBJ := Lib.hid hobj
  have HMAY := Lib.hid hmay
  have HALL := Lib.hid hall
  have HW := Lib.hid hW1
  have BB := Lib.hid hbl
  have ROW := Lib.hid hrow
  have HX := Lib.hid hx
  obtain ⟨r0, r1, r2, r3, r4, r5, r6, r7, r8, r9⟩ := hrow W1 (Below.refl _ _)
  have BW := Lib.hid (Below.refl W1.heap.size W1)
  clear hbody hobj hmay hall hW1 hbl hrow hv hcore hh h e1 e2 e3 hV hOV hbm hba hn1 hn2 hn3 hx
  cases bm with
  | false =>
    go_enter Try.func18, Try.ntmps18
    go_wp2_with fail
    rw [← HW.out]
    go_wp2_with (go_at_call 29; refine (HBODY.out _).mono ?_; rintro e w2 ⟨rfl, b2⟩; have BW := Lib.hid (BW.out.trans (b2.mono BW.out.size)); obtain ⟨r0, r1, r2, r3, r4, r5, r6, r7, r8, r9⟩ := ROW.out w2 BW.out; clear b2)
    have BW := Lib.hid BW.out.drew
    first
      | go_region_with (first | (go_at_call 34; refine (HMAY.out _ (BB.out.trans (BW.out.mono (by have := BB.out.size; have := HX.out; omega)))).mono ?_; rintro e w3 ⟨rfl, b2⟩; have BW := Lib.hid (BW.out.trans (b2.mono BW.out.size)); obtain ⟨r0, r1, r2, r3, r4, r5, r6, r7, r8, r9⟩ := ROW.out w3 BW.out; clear b2))
      | fail "with"
    all_goals (go_wp2; go_ret; exact ⟨rfl, BB.out.trans (BW.out.mono (by have := BB.out.size; have := HX.out; omega))⟩)
  | true =>
    cases ba with
    | false =>
      go_enter Try.func18, Try.ntmps18
      go_wp2_with fail
      rw [← HW.out]
      go_wp2_with (go_at_call 29; refine (HBODY.out _).mono ?_; rintro e w2 ⟨rfl, b2⟩; have BW := Lib.hid (BW.out.trans (b2.mono BW.out.size)); obtain ⟨r0, r1, r2, r3, r4, r5, r6, r7, r8, r9⟩ := ROW.out w2 BW.out; clear b2)
      have BW := Lib.hid BW.out.drew
      first
        | go_region_held3 (fun W => W.cell? ⟨w.heap.size, 0, none⟩ = some (.int .i64 o.kind) ∧ W.cell? ⟨w.heap.size, 1, none⟩ = some (.slice a1 n1 c1) ∧ W.cell? ⟨w.heap.size, 2, none⟩ = some (.slice a2 n2 c2) ∧ W.cell? ⟨w.heap.size, 3, none⟩ = some (.string (SL o.tree)) ∧ W.cell? ⟨w.heap.size, 4, none⟩ = some (.slice a3 n3 c3) ∧ W.cell? ⟨w.heap.size, 5, none⟩ = some (.string (SL o.target)) ∧ W.cell? ⟨w.heap.size, 6, none⟩ = some (.string (SL o.name)) ∧ W.cell? ⟨w.heap.size, 7, none⟩ = some (.string (SL o.who)) ∧ W.cell? ⟨w.heap.size, 8, none⟩ = some (.int .i64 o.stamp) ∧ W.cell? ⟨w.heap.size, 9, none⟩ = some (.string (SL o.text))) (first | exact ROW.out _ BW.out) ((first | (go_at_call 34; refine (HMAY.out _ (BB.out.trans (BW.out.mono (by have := BB.out.size; have := HX.out; omega)))).mono ?_; rintro e w3 ⟨rfl, b2⟩; have BW := Lib.hid (BW.out.trans (b2.mono BW.out.size)); obtain ⟨r0, r1, r2, r3, r4, r5, r6, r7, r8, r9⟩ := ROW.out w3 BW.out; clear b2) | (go_at_call 36; refine (HOBJ.out _).mono ?_; rintro e w4 ⟨rfl, b2⟩; have BW := Lib.hid (BW.out.trans (b2.mono BW.out.size)); obtain ⟨r0, r1, r2, r3, r4, r5, r6, r7, r8, r9⟩ := ROW.out w4 BW.out; clear b2) | (go_at_call 35; refine (HALL.out _).mono ?_; rintro e w5 ⟨rfl, b2⟩; have BW := Lib.hid (BW.out.trans (b2.mono BW.out.size)); obtain ⟨r0, r1, r2, r3, r4, r5, r6, r7, r8, r9⟩ := ROW.out w5 BW.out; clear b2)))
        | fail "held3"
      go_wp2
      go_ret
      exact ⟨rfl, BB.out.trans (BW.out.mono (by have := BB.out.size; have := HX.out; omega))⟩
    | true =>
      go_enter Try.func18, Try.ntmps18
      go_wp2_with fail
      rw [← HW.out]
      go_wp2_with (go_at_call 29; refine (HBODY.out _).mono ?_; rintro e w2 ⟨rfl, b2⟩; have BW := Lib.hid (BW.out.trans (b2.mono BW.out.size)); obtain ⟨r0, r1, r2, r3, r4, r5, r6, r7, r8, r9⟩ := ROW.out w2 BW.out; clear b2)
      have BW := Lib.hid BW.out.drew
      first
        | go_region_held3 (fun W => W.cell? ⟨w.heap.size, 0, none⟩ = some (.int .i64 o.kind) ∧ W.cell? ⟨w.heap.size, 1, none⟩ = some (.slice a1 n1 c1) ∧ W.cell? ⟨w.heap.size, 2, none⟩ = some (.slice a2 n2 c2) ∧ W.cell? ⟨w.heap.size, 3, none⟩ = some (.string (SL o.tree)) ∧ W.cell? ⟨w.heap.size, 4, none⟩ = some (.slice a3 n3 c3) ∧ W.cell? ⟨w.heap.size, 5, none⟩ = some (.string (SL o.target)) ∧ W.cell? ⟨w.heap.size, 6, none⟩ = some (.string (SL o.name)) ∧ W.cell? ⟨w.heap.size, 7, none⟩ = some (.string (SL o.who)) ∧ W.cell? ⟨w.heap.size, 8, none⟩ = some (.int .i64 o.stamp) ∧ W.cell? ⟨w.heap.size, 9, none⟩ = some (.string (SL o.text))) (first | exact ROW.out _ BW.out) ((first | (go_at_call 34; refine (HMAY.out _ (BB.out.trans (BW.out.mono (by have := BB.out.size; have := HX.out; omega)))).mono ?_; rintro e w3 ⟨rfl, b2⟩; have BW := Lib.hid (BW.out.trans (b2.mono BW.out.size)); obtain ⟨r0, r1, r2, r3, r4, r5, r6, r7, r8, r9⟩ := ROW.out w3 BW.out; clear b2) | (go_at_call 36; refine (HOBJ.out _).mono ?_; rintro e w4 ⟨rfl, b2⟩; have BW := Lib.hid (BW.out.trans (b2.mono BW.out.size)); obtain ⟨r0, r1, r2, r3, r4, r5, r6, r7, r8, r9⟩ := ROW.out w4 BW.out; clear b2) | (go_at_call 35; refine (HALL.out _).mono ?_; rintro e w5 ⟨rfl, b2⟩; have BW := Lib.hid (BW.out.trans (b2.mono BW.out.size)); obtain ⟨r0, r1, r2, r3, r4, r5, r6, r7, r8, r9⟩ := ROW.out w5 BW.out; clear b2)))
        | fail "held3"
      go_wp2
      go_ret
      exact ⟨rfl, BB.out.trans (BW.out.mono (by have := BB.out.size; have := HX.out; omega))⟩
end Go.Proofs.Ytckbeeadkiiccaa
