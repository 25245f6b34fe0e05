/- The program's disk where what is free may have gone round: it is what the costs leave of the room, modulo 2^64. The power stays on. -/
import Derived.Test.YthibhkoneajffaaDiskOps3
import Derived.Test.YthibhkoneajffaaSafePure
namespace Go.Proofs.Ythibhkoneajffaa
open Go.RowKit
open Go.Maps (has)
/-- What the disk says is free. -/
def St.room (S : St) : Int := wrap64 S.free
theorem room_in (S : St) : -9223372036854775808 ≤ S.room ∧ S.room ≤ 9223372036854775807 := by unfold St.room wrap64; omega
structure Wide (S : St) : Prop where
  rise : Rising S.fs
  dark : S.dark = false
  left : S.left = -1
  size : ∀ n b, findF n S.fs = some b → b.length ≤ 140737488355328
  many : S.fs.length ≤ 4000000000000
/-- A raw write is done. -/
def stepW (S : St) (fs : Files) : St := { S with fs := fs, done := S.done + 1 }
def writeW (S : St) (m : Int) (fs : Files) : Int × St := if S.room < m then (4, S) else (0, stepW S fs)
def removeW (S : St) (n : Bs) : Int × St := if touchS S n ≠ 0 then (touchS S n, S) else writeW S (-((costF n ((findF n S.fs).getD []) : Nat) : Int)) (delF n S.fs)
def syncW (S : St) (n : Bs) : Int × St := if touchS S n ≠ 0 then (touchS S n, S) else writeW S 0 S.fs
def renameW (S : St) (f t : Bs) : Int × St := if named t = false then (1, S) else if touchS S f ≠ 0 then (touchS S f, S) else writeW S (renameMore S f t) (renamed S f t)
def appendW (S : St) (n b : Bs) : Int × St :=
  if 64 < b.length then (1, S) else if readyS S n ≠ 0 then (readyS S n, S) else writeW S (moreS S n b) (putF n ((findF n S.fs).getD [] ++ b) S.fs)
theorem step_room {S : St} {fs : Files} {m : Int} (h : (costs fs : Int) = (costs S.fs : Int) + m) : (stepW S fs).room = wrap64 (S.room - m) := by
  have e : (stepW S fs).free = S.free - m := by
    show (S.cap : Int) - (costs fs : Int) = (S.cap : Int) - (costs S.fs : Int) - m
    omega
  unfold St.room
  rw [e]
  unfold wrap64
  omega
section
variable {F : Nat → Prop} {p mb : Nat} {V : Bs → Value} {lf : Int} {S : St} {w : World}
set_option maxRecDepth 100000 in
theorem write_round {a b : Int} {d : Bool} (h : w.heap[p]? = some (headO mb a b (-1) d)) (m : Int) (hm : ¬ a < m) (hb : 0 ≤ b ∧ b ≤ 1000000000000000) :
    Calls Try.prog 40 #[ptr p, .int .i64 m] w fun e w' => e = .returned (err 0) ∧ OnlyHead p (headO mb (wrap64 (a - m)) (b + 1) (-1) d) w w' := by
  obtain ⟨c0, c1, c2, c3, c4, fr⟩ := head_cells h
  have hg : ¬ m > a := hm
  have f1 := fr 1
  have f2 := fr 2
  obtain ⟨f, hf⟩ : ∃ f, f = wrap64 (a - m) := ⟨_, rfl⟩
  have hw : wrap64 (a - m) = f := hf.symm
  obtain ⟨g, hgg⟩ : ∃ g, g = b + 1 := ⟨_, rfl⟩
  have hw2 : (Op.intArith .add .i64 b 1).run Try.prog (w.setCell ⟨p, 1, none⟩ (.int .i64 f)) = .ok (.int .i64 g) (w.setCell ⟨p, 1, none⟩ (.int .i64 f)) := by
    rw [hgg]
    simp [go_sem, IntKind.wrap_i64]
    omega
  have k2 : (w.setCell ⟨p, 1, none⟩ (.int .i64 f)).cell? ⟨p, 2, none⟩ = some (.int .i64 b) := by
    rw [cell_of_row _ _ _ _ _ _ (heap_setCell_same w p 1 _ 74 _ h)]; rfl
  have g2 : (w.setCell ⟨p, 1, none⟩ (.int .i64 f)).frozen? ⟨p, 2, none⟩ = false := frozen_of_row _ _ _ _ _ (heap_setCell_same w p 1 _ 74 _ h)
  have hadd := run_call_add (P := Try.prog) Try.func74 (by kernel_rfl) (by kernel_rfl) (by kernel_rfl) .i64 (by kernel_rfl) k2 g2 hw2
  have hh := heap_set3 h 1 2 (.int .i64 f) (.int .i64 g)
  rw [← hf, ← hgg]
  clear hgg hf hw2
  go_enter Try.func40, Try.ntmps40
  go_wp2
  go_ret
  exact ⟨rfl, hh, (turn_set p 1 _ _).trans (turn_set p 2 _ _)⟩
theorem write_W (h : DiskIn w F p mb V lf S) (hg : Wide S) (hb : S.done ≤ 1000000000000000) (m : Int) (hm : m ≤ S.room) :
    Calls Try.prog 40 #[ptr p, .int .i64 m] w fun e w' => e = .returned (err 0) ∧ OnlyHead p (headO mb (wrap64 (S.room - m)) ((S.done : Int) + 1) (-1) false) w w' := by
  have hh := h.head
  rw [h.left hg.dark, hg.left, hg.dark] at hh
  exact write_round hh m (by show ¬ S.room < m; omega) ⟨by omega, by omega⟩
theorem write_W_full (h : DiskIn w F p mb V lf S) (m : Int) (hm : S.room < m) : Calls Try.prog 40 #[ptr p, .int .i64 m] w fun e w' => e = .returned (err 4) ∧ w' = w := write_full h.head m hm
/-- The state behind a raw write that is done, its files laid. -/
theorem step_in {w' : World} {V' : Bs → Value} {F' : Nat → Prop} {fs : Files} {m : Int} (hg : Wide S)
    (hh : w'.heap[p]? = some (headO mb (wrap64 (S.room - m)) ((S.done : Int) + 1) (-1) false)) (hz : (costs fs : Int) = (costs S.fs : Int) + m) (hm : DiskMapAt w' mb (esOf V' fs)) (hr : RowsAt w' F' V' fs) (hp : F' p) (hmb : F' mb) :
    DiskIn w' F' p mb V' (-1) (stepW S fs) := by
  refine ⟨?_, fun _ => hg.left.symm, ⟨by omega, by omega⟩, hm, hr, hp, hmb⟩
  have e1 : wrap64 (stepW S fs).free = wrap64 (S.room - m) := step_room hz
  rw [e1]
  have e3 : (stepW S fs).dark = false := hg.dark
  rw [e3]
  exact hh
set_option maxRecDepth 100000 in
theorem sync_W (h : DiskIn w F p mb V lf S) (hg : Wide S) (hb : S.done ≤ 1000000000000000) (n : Bs) : Calls Try.prog 70 #[ptr p, .string (SL n)] w (Acts F p w (syncW S n)) := by
  have hr := readyAt_any h n
  unfold syncW
  by_cases ht : touchS S n = 0
  · obtain ⟨hn, hd, b, hbb⟩ := touch_there ht
    rw [if_neg (by simp [ht])]
    rw [ht] at hr
    unfold writeW
    by_cases hq : S.room < 0
    · rw [if_pos hq]
      have hw := write_W_full h 0 hq
      have HS := act_same h 4
      go_enter Try.func70, Try.ntmps70
      go_wp2_with (first | (go_at_call 46; refine hr.mono ?_; rintro e w' ⟨rfl, rfl⟩) | (go_at_call 40; refine hw.mono ?_; rintro e w' ⟨rfl, rfl⟩))
      go_ret
      exact HS
    · rw [if_neg hq]
      have hw := write_W h hg hb 0 (by omega)
      go_enter Try.func70, Try.ntmps70
      go_wp2_with (first | (go_at_call 46; refine hr.mono ?_; rintro e w' ⟨rfl, rfl⟩) | (go_at_call 40; refine hw.mono ?_; rintro e w' ⟨rfl, ho⟩))
      go_ret
      obtain ⟨m1, r1⟩ := ho.parts h
      exact ⟨rfl, ⟨_, _, _, (step_in hg ho.head (by omega) m1 r1 h.inP h.inM).mono fun _ h => .inl h⟩, ho.foot h⟩
  · rw [if_pos ht]
    obtain ⟨z, hz⟩ : ∃ z, z = touchS S n := ⟨_, rfl⟩
    rw [← hz] at hr ht ⊢
    have HS := act_same h z
    clear hz
    go_enter Try.func70, Try.ntmps70
    go_wp2_with (first | (go_at_call 46; refine hr.mono ?_; rintro e w' ⟨rfl, rfl⟩))
    go_ret
    exact HS
set_option maxRecDepth 100000 in
set_option maxHeartbeats 800000 in
theorem remove_W (h : DiskIn w F p mb V lf S) (hg : Wide S) (hb : S.done ≤ 1000000000000000) (n : Bs) : Calls Try.prog 13 #[ptr p, .string (SL n)] w (Acts F p w (removeW S n)) := by
  have hr := readyAt_any h n
  obtain ⟨c0, _⟩ := head_cells h.head
  unfold removeW
  by_cases ht : touchS S n = 0
  · obtain ⟨hn, hd, b, hbb⟩ := touch_there ht
    rw [if_neg (by simp [ht])]
    rw [ht] at hr
    have hnl := (named_le hn).1
    have hl := h.map.look1 (n := n) (by unfold maxLen; omega)
    have hfl := hg.size n b hbb
    rw [es_find, hbb, Option.map_some, Option.getD_some] at hl
    obtain ⟨ao, cap, B, hV, hsrc, _⟩ := src_of_own (h.rows.own n b hbb)
    rw [hV] at hl
    have hcost := cost_any n b.length w (by omega) (by omega)
    have hdel := costs_del hbb
    obtain ⟨k, hk⟩ : ∃ k : Nat, k = costF n b := ⟨_, rfl⟩
    have hk2 : 16 + (n.length : Int) + (b.length : Int) = (k : Int) := by rw [hk]; unfold costF; omega
    rw [hk2] at hcost
    have hkl : k ≤ 150000000000000 := by omega
    have hkd : costs (delF n S.fs) + k = costs S.fs := by omega
    have HK := Lib.hid hkd
    have hkk : costF n b = k := hk.symm
    clear hk hk2 hdel hkd
    unfold writeW
    rw [hbb, Option.getD_some]
    rw [hkk]
    clear hkk
    by_cases hq : S.room < -(k : Int)
    · rw [if_pos hq]
      have hw := write_W_full h (-(k : Int)) hq
      have HS := act_same h 4
      go_enter Try.func13, Try.ntmps13
      go_wp2_with (first | (go_at_call 46; refine hr.mono ?_; rintro e w' ⟨rfl, rfl⟩) | (go_at_call 39; refine hcost.mono ?_; rintro e w' ⟨rfl, rfl⟩) | (go_at_call 40; refine hw.mono ?_; rintro e w' ⟨rfl, rfl⟩))
      go_ret
      exact HS
    · rw [if_neg hq]
      have hw := write_W h hg hb (-(k : Int)) (by omega)
      go_enter Try.func13, Try.ntmps13
      go_wp2_with (first | (go_at_call 46; refine hr.mono ?_; rintro e w' ⟨rfl, rfl⟩) | (go_at_call 39; refine hcost.mono ?_; rintro e w' ⟨rfl, rfl⟩) | (go_at_call 40; fail))
      refine hw.mono ?_
      rintro e w1 ⟨rfl, ho⟩
      obtain ⟨m1, r1⟩ := ho.parts h
      obtain ⟨d0, _⟩ := head_cells ho.head
      have hkey := key9 (n := n) (by unfold maxLen; omega)
      have HO := Lib.hid ho
      clear ho hl
      go_wp2_with (at_delete; refine wpList_delete_own _ rfl _ _ 67 9 rfl 29 K9 Try.underlying67 rawR mb _ _ rfl m1.1 _ (.string n) rfl hkey ?_; intro w2 m2 hturn)
      go_ret
      have ho := HO.out
      have m3 := DiskMapAt.del (es_rising hg.rise) m1.2.2 m2
      rw [es_del hg.rise] at m3
      have hgr := hturn.grown
      have t2 : Turn F w1 w2 := Turn.of_grown hgr (fun g hg => by cases hg; exact h.inM)
      have r2 : RowsAt w2 F V S.fs := ⟨fun m c hc => own_turn (r1.own m c hc) (Turn.of_grown (G := fun k => k = mb) hgr (fun g hg => by cases hg; rfl)) (fun g hg e => (h.row_ne hc hg).2 e), r1.foot, r1.apart⟩
      refine ⟨rfl, ⟨_, _, _, (step_in (m := -(k : Int)) hg ?_ ?_ m3 (r2.del hg.rise) h.inP h.inM).mono fun _ h => .inl h⟩, (ho.foot h).trans t2⟩
      · rw [hgr.block p (Array.getElem?_eq_some_iff.1 ho.head).1 (fun e => h.ne (Option.some.inj e))]
        exact ho.head
      · have := HK.out
        omega
  · rw [if_pos ht]
    obtain ⟨z, hz⟩ : ∃ z, z = touchS S n := ⟨_, rfl⟩
    rw [← hz] at hr ht ⊢
    have HS := act_same h z
    clear hz
    go_enter Try.func13, Try.ntmps13
    go_wp2_with (first | (go_at_call 46; refine hr.mono ?_; rintro e w' ⟨rfl, rfl⟩))
    go_ret
    exact HS
theorem delF_length_le {α : Type} {n : Bs} : ∀ {l : List (Bs × α)}, (delF n l).length ≤ l.length
  | [] => Nat.le_refl _
  | p :: r => by
    unfold delF
    split
    · simp
    · have := delF_length_le (n := n) (l := r)
      simp only [List.length_cons]
      omega
set_option maxRecDepth 100000 in
theorem renameCost_W (h : DiskIn w F p mb V lf S) (f t : Bs) (hf : f.length ≤ 200) (ht : t.length ≤ 200) (hs : ∀ b, findF t S.fs = some b → b.length ≤ 140737488355328) :
    Calls Try.prog 71 #[ptr p, .string (SL f), .string (SL t)] w fun e w' => e = .returned (.int .i64 (renameMore S f t)) ∧ w' = w := by
  obtain ⟨c0, _⟩ := head_cells h.head
  have e1 := SL_toList f
  have e2 := SL_toList t
  have e3 := SL_size f
  have e4 := SL_size t
  unfold renameMore
  by_cases hq : f = t
  · rw [if_pos hq]
    have hb : (f == t) = true := by simp [hq]
    clear hq
    go_enter Try.func71, Try.ntmps71
    go_wp2
    go_ret
    exact ⟨rfl, rfl⟩
  · rw [if_neg hq]
    have hb : (f == t) = false := by simp [hq]
    have hl := h.map.look (n := t) (by unfold maxLen; omega)
    rw [es_find, es_there] at hl
    cases hc : findF t S.fs with
    | none =>
      have e5 : thereF t S.fs = false := by simp [thereF, hc]
      rw [hc, e5] at hl
      clear hq hc
      go_enter Try.func71, Try.ntmps71
      go_wp2
      go_ret
      exact ⟨rfl, rfl⟩
    | some c =>
      have e5 : thereF t S.fs = true := by simp [thereF, hc]
      rw [hc, e5, Option.map_some, Option.getD_some] at hl
      obtain ⟨ao, cap, B, hV, hsrc, _⟩ := src_of_own (h.rows.own t c hc)
      rw [hV] at hl
      have hcl := hs c hc
      have hcost := cost_any t c.length w (by omega) (by omega)
      clear hq hc hV
      go_enter Try.func71, Try.ntmps71
      go_wp2_with (go_at_call 39; refine hcost.mono ?_; rintro e w' ⟨rfl, rfl⟩)
      go_ret
      exact ⟨rfl, rfl⟩
/-- What files cost behind a Rename. -/
theorem costs_moved {S : St} (h : Rising S.fs) {f t b : Bs} (hf : findF f S.fs = some b) :
    (f = t ∧ renamed S f t = S.fs) ∨ (f ≠ t ∧ findF t S.fs = none ∧ costs (renamed S f t) + f.length = costs S.fs + t.length) ∨ (f ≠ t ∧ ∃ c, findF t S.fs = some c ∧ costs (renamed S f t) + f.length + costF t c = costs S.fs + t.length) := by
  have hd := costs_del hf
  unfold renamed
  rw [hf, Option.getD_some]
  by_cases e : f = t
  · refine .inl ⟨e, ?_⟩
    subst e
    refine rising_ext h.del.put h fun n => ?_
    by_cases hn : n = f
    · rw [hn, findF_put_same, hf]
    · rw [findF_put_other _ hn, findF_del_other hn]
  · have h1 : findF t (delF f S.fs) = findF t S.fs := findF_del_other (fun k => e k.symm) _
    cases ht : findF t S.fs with
    | none =>
      refine .inr (.inl ⟨e, rfl, ?_⟩)
      rw [costs_put_new (by rw [h1, ht])]
      simp only [costF] at hd ⊢
      omega
    | some c =>
      refine .inr (.inr ⟨e, c, rfl, ?_⟩)
      have := costs_put_old (b := b) h.del (by rw [h1, ht])
      simp only [costF] at hd ⊢
      omega
theorem rename_moreW (hg : Rising S.fs) {f t b : Bs} (hb : findF f S.fs = some b) : (costs (renamed S f t) : Int) = (costs S.fs : Int) + renameMore S f t := by
  unfold renameMore
  rcases costs_moved (t := t) hg hb with ⟨e, e1⟩ | ⟨e, e1, e2⟩ | ⟨e, c, e1, e2⟩
  · rw [if_pos e, e1]; omega
  · rw [if_neg e, e1]
    simp only
    omega
  · rw [if_neg e, e1]
    simp only [costF] at e2 ⊢
    omega
set_option maxRecDepth 100000 in
set_option maxHeartbeats 800000 in
theorem rename_W (h : DiskIn w F p mb V lf S) (hg : Wide S) (hb : S.done ≤ 1000000000000000) (f t : Bs) : Calls Try.prog 56 #[ptr p, .string (SL f), .string (SL t)] w (Acts F p w (renameW S f t)) := by
  have hr := readyAt_any h f
  have hmb := mayBe_any t w
  obtain ⟨c0, _⟩ := head_cells h.head
  unfold renameW
  by_cases hN : named t = false
  · rw [if_pos hN]
    rw [hN] at hmb
    have HS := act_same h 1
    clear hN
    go_enter Try.func56, Try.ntmps56
    go_wp2_with (first | (go_at_call 62; refine hmb.mono ?_; rintro e w' ⟨rfl, rfl⟩))
    go_ret
    exact HS
  · rw [if_neg hN]
    have hN : named t = true := by simpa using hN
    rw [hN] at hmb
    by_cases ht : touchS S f = 0
    · obtain ⟨hn, hd, b, hbb⟩ := touch_there ht
      rw [if_neg (by simp [ht])]
      rw [ht] at hr
      have hfl := (named_le hn).1
      have htl := (named_le hN).1
      have hmore := renameCost_W h f t hfl htl (fun c hc => hg.size t c hc)
      have hsum := rename_moreW (t := t) hg.rise hbb
      obtain ⟨m, hm⟩ : ∃ m, m = renameMore S f t := ⟨_, rfl⟩
      rw [← hm] at hmore hsum
      unfold writeW
      rw [← hm]
      clear hm
      by_cases hq : S.room < m
      · rw [if_pos hq]
        have hw := write_W_full h m hq
        have HS := act_same h 4
        clear hsum
        go_enter Try.func56, Try.ntmps56
        go_wp2_with (first | (go_at_call 62; refine hmb.mono ?_; rintro e w' ⟨rfl, rfl⟩) | (go_at_call 46; refine hr.mono ?_; rintro e w' ⟨rfl, rfl⟩) | (go_at_call 71; refine hmore.mono ?_; rintro e w' ⟨rfl, rfl⟩) | (go_at_call 40; refine hw.mono ?_; rintro e w' ⟨rfl, rfl⟩))
        go_ret
        exact HS
      · rw [if_neg hq]
        have HSUM := Lib.hid hsum
        clear hsum
        · have hw := write_W h hg hb m (by omega)
          go_enter Try.func56, Try.ntmps56
          go_wp2_with (first | (go_at_call 62; refine hmb.mono ?_; rintro e w' ⟨rfl, rfl⟩) | (go_at_call 46; refine hr.mono ?_; rintro e w' ⟨rfl, rfl⟩) | (go_at_call 71; refine hmore.mono ?_; rintro e w' ⟨rfl, rfl⟩) | (go_at_call 40; fail))
          refine hw.mono ?_
          rintro e w1 ⟨rfl, ho⟩
          obtain ⟨m1, r1⟩ := ho.parts h
          obtain ⟨d0, _⟩ := head_cells ho.head
          have hl := m1.look1 (n := f) (by unfold maxLen; omega)
          rw [es_find, hbb, Option.map_some, Option.getD_some] at hl
          have hkey := key9 (n := f) (by unfold maxLen; omega)
          have hkey2 := key9 (n := t) (by unfold maxLen; omega)
          have hraw : Raw (V f) := raw_own (r1.own f b hbb)
          obtain ⟨v, hv⟩ : ∃ v, v = V f := ⟨_, rfl⟩
          rw [← hv] at hl
          have hnf : p ≠ mb := h.ne
          have hlen : (esOf V (delF f S.fs)).length < maxLen := by
            simp only [esOf, List.length_map]
            have h3 := delF_length_le (n := f) (l := S.fs)
            have h4 := hg.many
            unfold maxLen
            omega
          have HO := Lib.hid ho
          have HV := Lib.hid hv
          clear ho hv
          go_wp2_with (first | (at_delete; refine wpList_delete_own _ rfl _ _ 67 9 rfl 29 K9 Try.underlying67 rawR mb _ _ rfl m1.1 _ (.string f) rfl hkey ?_; intro w2 m2 hturn; have d2 : w2.cell? ⟨p, 0, none⟩ = some (.map (some mb)) := hturn.grown.cell d0 (fun e => hnf (Option.some.inj e)); have ms := DiskMapAt.del (es_rising hg.rise) m1.2.2 m2; rw [es_del hg.rise] at ms; have HT := Lib.hid hturn; clear hturn hl) | (at_mapUpdate; refine wpList_mapUpdate_in _ rfl _ _ _ 67 rfl 9 29 K9 Try.underlying67 rawR mb _ _ rfl ms.1 hlen _ _ (.string t) rfl rfl hkey2 (rawD v) [] (by rw [HV.out]; exact rawR_of hraw) ?_; intro w3 m3 hturn3; have HT3 := Lib.hid hturn3; clear hturn3))
          go_ret
          have ho := HO.out
          have hturn := HT.out
          have hturn3 := HT3.out
          have hv := HV.out
          subst hv
          have mu := DiskMapAt.put (es_rising hg.rise.del) (by intro q hq; exact ms.2.2 q hq) hraw m3
          rw [es_put (b := b) hg.rise.del] at mu
          have g2 := hturn.grown
          have g3 := hturn3.grown
          have tm : ∀ {a b : World}, a.grownBy b (some mb) → Turn (fun k => k = mb) a b := fun hgr => Turn.of_grown hgr (fun g hg => by cases hg; rfl)
          have t23 : Turn (fun k => k = mb) w1 w3 := (tm g2).trans (tm g3)
          have hne : ∀ n c, findF n S.fs = some c → ∀ g, (V n).ownBlock = some g → ¬ g = mb := fun n c hc g hg => (h.row_ne hc hg).2
          have r3 : RowsAt w3 F V S.fs := ⟨fun n c hc => own_turn (r1.own n c hc) t23 (hne n c hc), r1.foot, r1.apart⟩
          have r4 := (r3.del (n := f) hg.rise).put (n := t) (b := b) (v := V f) (r3.own f b hbb) (r3.foot f b hbb) (fun n c hnt hc g hg2 => by
            by_cases e : n = f
            · subst e; rw [findF_del_same hg.rise] at hc; cases hc
            · rw [findF_del_other e] at hc
              exact r3.apart f n b c hbb hc (fun k => e k.symm) g hg2)
          have hfs : renamed S f t = putF t b (delF f S.fs) := by unfold renamed; rw [hbb]; rfl
          rw [hfs]
          refine ⟨rfl, ⟨_, _, _, (step_in (m := m) hg ?_ ?_ mu r4 h.inP h.inM).mono fun _ h => .inl h⟩, (ho.foot h).then t23 (fun i _ e => by subst e; exact h.inM)⟩
          · exact t23.keep ho.head hnf
          · have := HSUM.out
            rw [hfs] at this
            exact this
    · rw [if_pos ht]
      obtain ⟨z, hz⟩ : ∃ z, z = touchS S f := ⟨_, rfl⟩
      rw [← hz] at hr ht ⊢
      have HS := act_same h z
      clear hz
      go_enter Try.func56, Try.ntmps56
      go_wp2_with (first | (go_at_call 62; refine hmb.mono ?_; rintro e w' ⟨rfl, rfl⟩) | (go_at_call 46; refine hr.mono ?_; rintro e w' ⟨rfl, rfl⟩))
      go_ret
      exact HS
theorem append_costsW (hg : Rising S.fs) (n b : Bs) : (costs (putF n ((findF n S.fs).getD [] ++ b) S.fs) : Int) = (costs S.fs : Int) + moreS S n b := by
  unfold moreS
  cases hf : findF n S.fs with
  | none =>
    simp only [Option.getD_none, List.nil_append]
    rw [costs_put_new hf]
    omega
  | some c =>
    simp only [Option.getD_some]
    have := costs_put_old (b := c ++ b) hg hf
    rw [List.length_append] at this
    omega
set_option maxRecDepth 100000 in
set_option maxHeartbeats 1600000 in
theorem append_W (h : DiskIn w F p mb V lf S) (hg : Wide S) (hF : ∀ k, F k → k < w.heap.size) (hb : S.done ≤ 1000000000000000) (n : Bs) (ao : Option Addr) (cap : Nat) (b : Bs) (B off : Nat) (hs : SrcAt w ao cap b B off) (hB : 0 < b.length → ¬ F B) :
    Calls Try.prog 11 #[ptr p, .string (SL n), .slice ao b.length cap] w (ActsIn F p mb w (appendW S n b)) := by
  have hr := ready_any h n
  obtain ⟨c0, _⟩ := head_cells h.head
  unfold appendW
  obtain ⟨k, hk⟩ : ∃ k, k = b.length := ⟨_, rfl⟩
  rw [← hk]
  by_cases h64 : 64 < k
  · rw [if_pos h64]
    have HS := act_in_same h 1
    have g1 : (k : Int) > 64 := by omega
    clear hk h64
    go_enter Try.func11, Try.ntmps11
    go_wp2
    go_ret
    exact HS
  · rw [if_neg h64]
    have g1 : ¬ (k : Int) > 64 := by omega
    rcases touch_ready S n with ⟨h1, h2⟩ | ⟨h1, hN, hd, h4⟩
    · rw [if_pos h1]
      obtain ⟨z, hz⟩ : ∃ z, z = readyS S n := ⟨_, rfl⟩
      rw [← hz] at hr h1 ⊢
      have HS := act_in_same h z
      clear hz h2 hk h64
      go_enter Try.func11, Try.ntmps11
      go_wp2_with (go_at_call 38; refine hr.mono ?_; rintro e w' ⟨rfl, rfl⟩)
      go_ret
      exact HS
    · rw [if_neg (by simp [h1])]
      rw [h1] at hr
      have hnl := (named_le hN).1
      have hhas := has_any h n (by unfold maxLen; omega)
      have hcost := cost_any n k w (by omega) (by omega)
      have hsum := append_costsW hg.rise n b
      have hmore : moreS S n b = if thereF n S.fs = true then (k : Int) else 16 + (n.length : Int) + (k : Int) := by
        unfold moreS thereF
        cases hff : findF n S.fs with
        | none => simp [costF, hk]
        | some c => simp [hk]
      have hm0 : 0 ≤ moreS S n b := by rw [hmore]; split <;> omega
      obtain ⟨m, hm⟩ : ∃ m, m = moreS S n b := ⟨_, rfl⟩
      unfold writeW
      rw [← hm] at hsum hmore hm0 ⊢
      have HSUM := Lib.hid hsum
      have HK := Lib.hid hk
      clear hsum hm hk
      by_cases hq : S.room < m
      · rw [if_pos hq]
        have hw := write_W_full h m hq
        have HS := act_in_same h 4
        cases hthere : thereF n S.fs with
        | true =>
          rw [hthere] at hhas hmore
          simp only [if_true] at hmore
          subst hmore
          clear h4
          go_enter Try.func11, Try.ntmps11
          go_wp2_with (first | (go_at_call 38; refine hr.mono ?_; rintro e w' ⟨rfl, rfl⟩) | (go_at_call 33; refine hhas.mono ?_; rintro e w' ⟨rfl, rfl⟩) | (go_at_call 40; refine hw.mono ?_; rintro e w' ⟨rfl, rfl⟩))
          go_ret
          exact HS
        | false =>
          rw [hthere] at hhas hmore
          simp only [Bool.false_eq_true, if_false] at hmore
          rw [← hmore] at hcost
          clear hmore h4
          go_enter Try.func11, Try.ntmps11
          go_wp2_with (first | (go_at_call 38; refine hr.mono ?_; rintro e w' ⟨rfl, rfl⟩) | (go_at_call 33; refine hhas.mono ?_; rintro e w' ⟨rfl, rfl⟩) | (go_at_call 39; refine hcost.mono ?_; rintro e w' ⟨rfl, rfl⟩) | (go_at_call 40; refine hw.mono ?_; rintro e w' ⟨rfl, rfl⟩))
          go_ret
          exact HS
      · rw [if_neg hq]
        · have hw := write_W h hg hb m (by omega)
          have hd := hg.dark
          have hkey := key9 (n := n) (by unfold maxLen; omega)
          -- what stands behind write, once for both ways
          have hrest : ∀ w1, OnlyHead p (headO mb (wrap64 (S.room - m)) ((S.done : Int) + 1) (-1) false) w w1 → ∃ v, w1.cell? ⟨p, 0, none⟩ = some (.map (some mb)) ∧ (∀ W : World, W.heap = w1.heap → (Instr.lookup 67 (.map (some mb)) (.string (SL n)) false).run Try.prog W = .ok v W) ∧
              SrcAt w1 ao cap b B off ∧ w1.ownsRow 0 5 1 v ((findF n S.fs).getD []).length (((findF n S.fs).getD []).map B8) ∧ DiskMapAt w1 mb (esOf V S.fs) ∧ p ≠ mb ∧ (∀ g, v.ownBlock = some g → g ≠ p ∧ g ≠ mb ∧ F g) ∧
              (∀ (v' : Value) (w2 w3 : World), w1.grownBy w2 v.ownBlock → (∀ g, v'.ownBlock = some g → v.ownBlock = some g ∨ g = w1.heap.size) → w2.ownsRow 0 5 1 v' (((findF n S.fs).getD []).length + b.length) (((findF n S.fs).getD []).map B8 ++ b.map B8) →
                (∃ k, w3.ownsMap Try.prog 9 rawR mb k ((toD (esOf V S.fs)).put (.string n) (rawD v'))) → w2.mapTurned w3 mb → ActsIn F p mb w (0, stepW S (putF n ((findF n S.fs).getD [] ++ b) S.fs)) (.returned (err 0)) w3) := by
            intro w1 ho
            obtain ⟨m1, r1⟩ := ho.parts h
            obtain ⟨v, hv, hown, hblk⟩ := row_or_nil r1 n
            have hpm := h.ne
            have hvb : ∀ g, v.ownBlock = some g → g ≠ p ∧ g ≠ mb ∧ F g := fun g hg2 => by
              obtain ⟨c, hc, hg3⟩ := hblk g hg2
              exact ⟨(h.row_ne hc hg3).1, (h.row_ne hc hg3).2, r1.foot n c hc g hg3⟩
            refine ⟨v, (head_cells ho.head).1, fun W hW => ?_, hs.turn ho.turn (fun hp e => hB hp (by rw [e]; exact h.inP)), hown, m1, hpm, hvb, ?_⟩
            · have := (m1.of_block (w' := W) (by rw [hW])).look1 (n := n) (by unfold maxLen; omega)
              rw [this, hv]
            · intro v' w2 w3 hg2 hnew hown2 hmap hturn
              obtain ⟨kk, hmap⟩ := hmap
              have g3 := hturn.grown
              have hsz1 := ho.turn.size
              have hraw : Raw v' := raw_own hown2
              have m3 := DiskMapAt.put (es_rising hg.rise) m1.2.2 hraw hmap
              rw [es_put (b := (findF n S.fs).getD [] ++ b) hg.rise] at m3
              have tf : Turn F w w1 := ho.foot h
              have t2 : Turn F w1 w2 := Turn.of_grown hg2 (fun g hg => (hvb g hg).2.2)
              have t3 : Turn F w2 w3 := Turn.of_grown g3 (fun g hg => by cases hg; exact h.inM)
              have hmlt := m1.lt
              have hsz2 := hg2.size
              have hsz3 := g3.size
              -- the other rows
              have hrow : ∀ nn c, nn ≠ n → findF nn S.fs = some c → w3.ownsRow 0 5 1 (V nn) c.length (c.map B8) := fun nn c hnn hc => by
                have q1 := own_turn (r1.own nn c hc) (Turn.of_grown (G := fun k => v.ownBlock = some k) hg2 (fun g hg => hg)) (fun g hg hvg => by
                  obtain ⟨d, hd2, hg4⟩ := hblk g hvg
                  exact r1.apart nn n c d hc hd2 hnn g hg hg4)
                exact own_turn q1 (Turn.of_grown (G := fun k => k = mb) g3 (fun g hg => by cases hg; rfl)) (fun g hg e => (h.row_ne hc hg).2 e)
              have hv'mb : ∀ g, v'.ownBlock = some g → g ≠ mb := fun g hg2' => by
                rcases hnew g hg2' with h5 | h5
                · exact (hvb g h5).2.1
                · omega
              have hown3 : w3.ownsRow 0 5 1 v' ((findF n S.fs).getD [] ++ b).length (((findF n S.fs).getD [] ++ b).map B8) := by
                rw [List.length_append, List.map_append]
                exact own_turn hown2 (Turn.of_grown (G := fun k => k = mb) g3 (fun g hg => by cases hg; rfl)) (fun g hg e => hv'mb g hg e)
              -- the rows without n, then n's own
              have hr3 : RowsAt w3 (grow F w w3) V (delF n S.fs) := by
                refine ⟨fun nn c hc => ?_, fun nn c hc g hg2 => ?_, fun nn kk c d hc hd2 hne g hg2 => ?_⟩
                · by_cases e : nn = n
                  · subst e; rw [findF_del_same hg.rise] at hc; cases hc
                  · rw [findF_del_other e] at hc; exact hrow nn c e hc
                · by_cases e : nn = n
                  · subst e; rw [findF_del_same hg.rise] at hc; cases hc
                  · rw [findF_del_other e] at hc; exact .inl (r1.foot nn c hc g hg2)
                · by_cases e : nn = n
                  · subst e; rw [findF_del_same hg.rise] at hc; cases hc
                  · rw [findF_del_other e] at hc
                    by_cases e2 : kk = n
                    · subst e2; rw [findF_del_same hg.rise] at hd2; cases hd2
                    · rw [findF_del_other e2] at hd2
                      exact r1.apart nn kk c d hc hd2 hne g hg2
              have hsz : w1.heap.size < w3.heap.size ∨ ∀ g, v'.ownBlock = some g → v.ownBlock = some g := by
                by_cases hx : ∃ g, v'.ownBlock = some g ∧ g = w1.heap.size
                · obtain ⟨g, hg1, hg2'⟩ := hx
                  have := (hown3.lt g hg1).2
                  exact .inl (by omega)
                · refine .inr fun g hg1 => ?_
                  rcases hnew g hg1 with h5 | h5
                  · exact h5
                  · exact absurd ⟨g, hg1, h5⟩ hx
              have hr4 := hr3.put (n := n) (b := (findF n S.fs).getD [] ++ b) (v := v') hown3
                (fun g hg1 => by
                  rcases hnew g hg1 with h5 | h5
                  · exact .inl (hvb g h5).2.2
                  · have := (hown3.lt g hg1).2
                    exact .inr ⟨by omega, this⟩)
                (fun nn c hnn hc g hg1 => by
                  rw [findF_del_other hnn] at hc
                  rcases hnew g hg1 with h5 | h5
                  · obtain ⟨d, hd2, hg4⟩ := hblk g h5
                    exact fun hx => r1.apart nn n c d hc hd2 hnn g hx hg4
                  · intro hx
                    have := ((r1.own nn c hc).lt g hx).2
                    omega)
              have hfs : putF n ((findF n S.fs).getD [] ++ b) (delF n S.fs) = putF n ((findF n S.fs).getD [] ++ b) S.fs := by
                refine rising_ext hg.rise.del.put hg.rise.put fun x => ?_
                by_cases e : x = n
                · rw [e, findF_put_same, findF_put_same]
                · rw [findF_put_other _ e, findF_put_other _ e, findF_del_other e]
              rw [hfs] at hr4
              refine ⟨rfl, ⟨_, _, step_in (m := m) hg ?_ ?_ m3 hr4 (.inl h.inP) (.inl h.inM)⟩, (tf.trans t2).trans t3⟩
              · have hlt : p < w1.heap.size := (Array.getElem?_eq_some_iff.1 ho.head).1
                rw [g3.block p (by omega) (fun e => hpm (Option.some.inj e)), hg2.block p hlt (fun e => (hvb p e.symm).1 rfl)]
                exact ho.head
              · exact HSUM.out
          have HREST := Lib.hid hrest
          have hol : ((findF n S.fs).getD []).length ≤ 140737488355328 := by
            cases hff : findF n S.fs with
            | none => simp
            | some c => exact hg.size n c hff
          have hlen : (esOf V S.fs).length < maxLen := by
            simp only [esOf, List.length_map]
            have := hg.many
            unfold maxLen
            omega
          obtain ⟨O, hO⟩ : ∃ O, O = (findF n S.fs).getD [] := ⟨_, rfl⟩
          rw [← hO] at HREST hol ⊢
          clear hrest hO HSUM
          cases hthere : thereF n S.fs with
          | true =>
            rw [hthere] at hhas hmore
            simp only [if_true] at hmore
            subst hmore
            clear h4
            go_enter Try.func11, Try.ntmps11
            go_wp2_with (first | (go_at_call 38; refine hr.mono ?_; rintro e w' ⟨rfl, rfl⟩) | (go_at_call 33; refine hhas.mono ?_; rintro e w' ⟨rfl, rfl⟩) | (go_at_call 40; fail))
            refine hw.mono ?_
            rintro e w1 ⟨rfl, ho⟩
            obtain ⟨v, d0, hl, s1, o1, m1, hpm, hvb, hfin⟩ := HREST.out w1 ho
            clear HREST ho
            have HF := Lib.hid hfin
            clear hfin
            go_wp2_with fail
            have hl2 := hl w1.drew rfl
            have d2 : w1.drew.cell? ⟨p, 0, none⟩ = some (.map (some mb)) := d0
            have o2 : w1.drew.ownsRow 0 5 1 v O.length (O.map B8) := o1
            have s2 : SrcAt w1.drew ao cap b B off := ⟨s1.le, s1.top, s1.src, s1.bare, s1.old, s1.cell⟩
            have m2 : DiskMapAt w1.drew mb (esOf V S.fs) := m1
            have HK2 := HK
            go_region_held3 (fun W => W.cell? ⟨p, 0, none⟩ = some (.map (some mb))) (first | exact d2 | assumption) ((refine step_append_new rfl _ _ rfl 0 v O.length _ rfl o2 ao k cap rfl (b.map B8) (by rw [List.length_map]; exact HK.out.symm) (fun hh => by rw [HK.out]; exact s2.bare hh) s2.cells (B8_one _) (by omega) (Nat.zero_le _) ?_; intro v' w2 hown2 hg2 hnew; have d3 : w2.cell? ⟨p, 0, none⟩ = some (.map (some mb)) := hg2.cell d2 (fun e => (hvb p e.symm).1 rfl); have m3 : DiskMapAt w2 mb (esOf V S.fs) := m2.of_block (hg2.block mb m2.lt (fun e => (hvb mb e.symm).2.1 rfl)); obtain ⟨w3, hrun3, hmap3, hturn3⟩ := m3.1.store (val := v') K9 Try.underlying67 hlen hkey (rawR_of (raw_own hown2.out)); have HF2 := Lib.hid (HF.out v' w2 w3 ⟨hg2.os, hg2.tape, hg2.output, hg2.size, hg2.block⟩ hnew.out (by rw [← HK.out]; exact hown2.out) ⟨_, hmap3⟩ hturn3); have d4 : w3.cell? ⟨p, 0, none⟩ = some (.map (some mb)) := hturn3.grown.cell d3 (fun e => hpm (Option.some.inj e)); clear hmap3 hturn3 hg2 hnew hown2 m3))
            go_wp2_with fail
            go_ret
            exact HF2.out
          | false =>
            rw [hthere] at hhas hmore
            simp only [Bool.false_eq_true, if_false] at hmore
            rw [← hmore] at hcost
            clear hmore h4
            go_enter Try.func11, Try.ntmps11
            go_wp2_with (first | (go_at_call 38; refine hr.mono ?_; rintro e w' ⟨rfl, rfl⟩) | (go_at_call 33; refine hhas.mono ?_; rintro e w' ⟨rfl, rfl⟩) | (go_at_call 39; refine hcost.mono ?_; rintro e w' ⟨rfl, rfl⟩) | (go_at_call 40; fail))
            refine hw.mono ?_
            rintro e w1 ⟨rfl, ho⟩
            obtain ⟨v, d0, hl, s1, o1, m1, hpm, hvb, hfin⟩ := HREST.out w1 ho
            clear HREST ho
            have HF := Lib.hid hfin
            clear hfin
            go_wp2_with fail
            have hl2 := hl w1.drew rfl
            have d2 : w1.drew.cell? ⟨p, 0, none⟩ = some (.map (some mb)) := d0
            have o2 : w1.drew.ownsRow 0 5 1 v O.length (O.map B8) := o1
            have s2 : SrcAt w1.drew ao cap b B off := ⟨s1.le, s1.top, s1.src, s1.bare, s1.old, s1.cell⟩
            have m2 : DiskMapAt w1.drew mb (esOf V S.fs) := m1
            have HK2 := HK
            go_region_held3 (fun W => W.cell? ⟨p, 0, none⟩ = some (.map (some mb))) (first | exact d2 | assumption) ((refine step_append_new rfl _ _ rfl 0 v O.length _ rfl o2 ao k cap rfl (b.map B8) (by rw [List.length_map]; exact HK.out.symm) (fun hh => by rw [HK.out]; exact s2.bare hh) s2.cells (B8_one _) (by omega) (Nat.zero_le _) ?_; intro v' w2 hown2 hg2 hnew; have d3 : w2.cell? ⟨p, 0, none⟩ = some (.map (some mb)) := hg2.cell d2 (fun e => (hvb p e.symm).1 rfl); have m3 : DiskMapAt w2 mb (esOf V S.fs) := m2.of_block (hg2.block mb m2.lt (fun e => (hvb mb e.symm).2.1 rfl)); obtain ⟨w3, hrun3, hmap3, hturn3⟩ := m3.1.store (val := v') K9 Try.underlying67 hlen hkey (rawR_of (raw_own hown2.out)); have HF2 := Lib.hid (HF.out v' w2 w3 ⟨hg2.os, hg2.tape, hg2.output, hg2.size, hg2.block⟩ hnew.out (by rw [← HK.out]; exact hown2.out) ⟨_, hmap3⟩ hturn3); have d4 : w3.cell? ⟨p, 0, none⟩ = some (.map (some mb)) := hturn3.grown.cell d3 (fun e => hpm (Option.some.inj e)); clear hmap3 hturn3 hg2 hnew hown2 m3))
            go_wp2_with fail
            go_ret
            exact HF2.out
end
end Go.Proofs.Ythibhkoneajffaa
