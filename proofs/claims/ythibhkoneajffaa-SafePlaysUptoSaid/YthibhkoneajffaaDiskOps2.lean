/- Rename and Append of package disk. -/
import Derived.Test.YthibhkoneajffaaDiskOps
import Derived.Test.YthibhkoneajffaaAppNew
import Derived.Test.YthibhkoneajffaaDiskStill
namespace Go.Proofs.Ythibhkoneajffaa
open Go.RowKit
section
variable {F : Nat → Prop} {p mb : Nat} {V : Bs → Value} {lf : Int} {S : St} {w : World}
/-- By how much the files' cost grows. -/
def renameMore (S : St) (f t : Bs) : Int := if f = t then 0 else match findF t S.fs with | none => (t.length : Int) - (f.length : Int) | some c => (t.length : Int) - (f.length : Int) - (16 + (t.length : Int) + (c.length : Int))
set_option maxRecDepth 100000 in
theorem renameCost_any (h : DiskIn w F p mb V lf S) (f t : Bs) (hf : f.length ≤ 200) (ht : t.length ≤ 200) (hs : ∀ b, findF t S.fs = some b → b.length ≤ 1099511627776) :
    Calls Try.prog 71 #[ptr p, .string (SL f), .string (SL t)] w fun e w' => e = .returned (.int .i64 (renameMore S f t)) ∧ w' = w := by
  obtain ⟨c0, _⟩ := head_cells h.head
  have e1 := SL_toList f
  have e2 := SL_toList t
  have e3 := SL_size f
  have e4 := SL_size t
  unfold renameMore
  by_cases hq : f = t
  · rw [if_pos hq]
    have hb : (f == t) = true := by simp [hq]
    clear hq
    go_enter Try.func71, Try.ntmps71
    go_wp2
    go_ret
    exact ⟨rfl, rfl⟩
  · rw [if_neg hq]
    have hb : (f == t) = false := by simp [hq]
    have hl := h.map.look (n := t) (by unfold maxLen; omega)
    rw [es_find, es_there] at hl
    cases hc : findF t S.fs with
    | none =>
      have e5 : thereF t S.fs = false := by simp [thereF, hc]
      rw [hc, e5] at hl
      clear hq hc
      go_enter Try.func71, Try.ntmps71
      go_wp2
      go_ret
      exact ⟨rfl, rfl⟩
    | some c =>
      have e5 : thereF t S.fs = true := by simp [thereF, hc]
      rw [hc, e5, Option.map_some, Option.getD_some] at hl
      obtain ⟨ao, cap, B, hV, hsrc, _⟩ := src_of_own (h.rows.own t c hc)
      rw [hV] at hl
      have hcl := hs c hc
      have hcost := cost_any t c.length w (by omega) (by omega)
      clear hq hc hV
      go_enter Try.func71, Try.ntmps71
      go_wp2_with (go_at_call 39; refine hcost.mono ?_; rintro e w' ⟨rfl, rfl⟩)
      go_ret
      exact ⟨rfl, rfl⟩
theorem rename_more (hg : Good S) {f t b : Bs} (hb : findF f S.fs = some b) : (costs (renamed S f t) : Int) = (costs S.fs : Int) + renameMore S f t := by
  unfold renameMore
  rcases costs_renamed (t := t) hg hb with ⟨e, e1⟩ | ⟨e, e1, e2⟩ | ⟨e, c, e1, e2⟩
  · rw [if_pos e, e1]; omega
  · rw [if_neg e, e1]
    simp only
    omega
  · rw [if_neg e, e1]
    simp only [costF] at e2 ⊢
    omega
theorem rename_full (hg : Good S) {f t b : Bs} (hb : findF f S.fs = some b) : (findF t S.fs = none ∧ S.free < (t.length : Int) - (f.length : Int)) ↔ S.free < renameMore S f t := by
  have h0 := hg.free_in.1
  unfold renameMore
  by_cases e : f = t
  · subst e
    rw [if_pos rfl, hb]
    simp
    omega
  · rw [if_neg e]
    cases hc : findF t S.fs with
    | none => simp
    | some c =>
      simp
      omega
set_option maxRecDepth 100000 in
set_option maxHeartbeats 800000 in
theorem rename_any (h : DiskIn w F p mb V lf S) (hg : Good S) (hb : S.done ≤ 1000000000000) (f t : Bs) : Calls Try.prog 56 #[ptr p, .string (SL f), .string (SL t)] w (Acts F p w (renameS S f t)) := by
  have hr := readyAt_any h f
  have hmb := mayBe_any t w
  obtain ⟨c0, _⟩ := head_cells h.head
  unfold renameS
  by_cases hN : named t = false
  · rw [if_pos hN]
    rw [hN] at hmb
    have HS := act_same h 1
    clear hN
    go_enter Try.func56, Try.ntmps56
    go_wp2_with (first | (go_at_call 62; refine hmb.mono ?_; rintro e w' ⟨rfl, rfl⟩))
    go_ret
    exact HS
  · rw [if_neg hN]
    have hN : named t = true := by simpa using hN
    rw [hN] at hmb
    by_cases ht : touchS S f = 0
    · obtain ⟨hn, hd, b, hbb⟩ := touch_there ht
      rw [if_neg (by simp [ht])]
      rw [ht] at hr
      have hfl := (named_le hn).1
      have htl := (named_le hN).1
      have hmore := renameCost_any h f t hfl htl (fun c hc => by have := hg.file_le hc; unfold costF at this; omega)
      have hsum := rename_more (t := t) hg hbb
      have hfull := rename_full (t := t) hg hbb
      have hf := hg.free_in
      have hlow : -2199023255552 ≤ renameMore S f t := by
        unfold renameMore
        split
        · omega
        · cases hc : findF t S.fs with
          | none => simp only; omega
          | some c => have := hg.file_le hc; unfold costF at this; simp only; omega
      obtain ⟨m, hm⟩ : ∃ m, m = renameMore S f t := ⟨_, rfl⟩
      rw [← hm] at hmore hsum hfull hlow
      clear hm
      by_cases hq : S.free < m
      · rw [if_pos (hfull.2 hq)]
        have hw := write_S_full h hg m hq
        have HS := act_same h 4
        clear hsum hfull
        go_enter Try.func56, Try.ntmps56
        go_wp2_with (first | (go_at_call 62; refine hmb.mono ?_; rintro e w' ⟨rfl, rfl⟩) | (go_at_call 46; refine hr.mono ?_; rintro e w' ⟨rfl, rfl⟩) | (go_at_call 71; refine hmore.mono ?_; rintro e w' ⟨rfl, rfl⟩) | (go_at_call 40; refine hw.mono ?_; rintro e w' ⟨rfl, rfl⟩))
        go_ret
        exact HS
      · rw [if_neg (fun k => hq (hfull.1 k))]
        have HSUM := Lib.hid hsum
        clear hsum hfull
        unfold writeS
        by_cases h0 : S.left = 0
        · rw [if_pos h0]
          have hw := write_S_cut h hg hd h0 m (by omega)
          go_enter Try.func56, Try.ntmps56
          go_wp2_with (first | (go_at_call 62; refine hmb.mono ?_; rintro e w' ⟨rfl, rfl⟩) | (go_at_call 46; refine hr.mono ?_; rintro e w' ⟨rfl, rfl⟩) | (go_at_call 71; refine hmore.mono ?_; rintro e w' ⟨rfl, rfl⟩) | (go_at_call 40; refine hw.mono ?_; rintro e w' ⟨rfl, h1, h2⟩))
          go_ret
          exact ⟨rfl, ⟨_, _, _, h1.mono fun _ h => .inl h⟩, h2⟩
        · rw [if_neg h0]
          have hw := write_S_done h hg hd hb h0 m (by omega) (by omega)
          go_enter Try.func56, Try.ntmps56
          go_wp2_with (first | (go_at_call 62; refine hmb.mono ?_; rintro e w' ⟨rfl, rfl⟩) | (go_at_call 46; refine hr.mono ?_; rintro e w' ⟨rfl, rfl⟩) | (go_at_call 71; refine hmore.mono ?_; rintro e w' ⟨rfl, rfl⟩) | (go_at_call 40; fail))
          refine hw.mono ?_
          rintro e w1 ⟨rfl, ho⟩
          obtain ⟨m1, r1⟩ := ho.parts h
          obtain ⟨d0, _⟩ := head_cells ho.head
          have hl := m1.look1 (n := f) (by unfold maxLen; omega)
          rw [es_find, hbb, Option.map_some, Option.getD_some] at hl
          have hkey := key9 (n := f) (by unfold maxLen; omega)
          have hkey2 := key9 (n := t) (by unfold maxLen; omega)
          have hraw : Raw (V f) := raw_own (r1.own f b hbb)
          obtain ⟨v, hv⟩ : ∃ v, v = V f := ⟨_, rfl⟩
          rw [← hv] at hl
          have hnf : p ≠ mb := h.ne
          have hlen : (esOf V (delF f S.fs)).length < maxLen := by
            simp only [esOf, List.length_map]
            have h3 := costs_length (delF f S.fs)
            have h4 := costs_del hbb
            have h5 := hg.cost
            have h6 := hg.top
            unfold maxLen
            omega
          have HO := Lib.hid ho
          have HV := Lib.hid hv
          clear ho hv
          go_wp2_with (first | (at_delete; refine wpList_delete_own _ rfl _ _ 67 9 rfl 29 K9 Try.underlying67 rawR mb _ _ rfl m1.1 _ (.string f) rfl hkey ?_; intro w2 m2 hturn; have d2 : w2.cell? ⟨p, 0, none⟩ = some (.map (some mb)) := hturn.grown.cell d0 (fun e => hnf (Option.some.inj e)); have ms := DiskMapAt.del (es_rising hg.rise) m1.2.2 m2; rw [es_del hg.rise] at ms; have HT := Lib.hid hturn; clear hturn hl) | (at_mapUpdate; refine wpList_mapUpdate_in _ rfl _ _ _ 67 rfl 9 29 K9 Try.underlying67 rawR mb _ _ rfl ms.1 hlen _ _ (.string t) rfl rfl hkey2 (rawD v) [] (by rw [HV.out]; exact rawR_of hraw) ?_; intro w3 m3 hturn3; have HT3 := Lib.hid hturn3; clear hturn3))
          go_ret
          have ho := HO.out
          have hturn := HT.out
          have hturn3 := HT3.out
          have hv := HV.out
          subst hv
          have mu := DiskMapAt.put (es_rising hg.rise.del) (by intro q hq; exact ms.2.2 q hq) hraw m3
          rw [es_put (b := b) hg.rise.del] at mu
          have g2 := hturn.grown
          have g3 := hturn3.grown
          have tm : ∀ {a b : World}, a.grownBy b (some mb) → Turn (fun k => k = mb) a b := fun hgr => Turn.of_grown hgr (fun g hg => by cases hg; rfl)
          have t23 : Turn (fun k => k = mb) w1 w3 := (tm g2).trans (tm g3)
          have hne : ∀ n c, findF n S.fs = some c → ∀ g, (V n).ownBlock = some g → ¬ g = mb := fun n c hc g hg => (h.row_ne hc hg).2
          have r3 : RowsAt w3 F V S.fs := ⟨fun n c hc => own_turn (r1.own n c hc) t23 (hne n c hc), r1.foot, r1.apart⟩
          have r4 := (r3.del (n := f) hg.rise).put (n := t) (b := b) (v := V f) (r3.own f b hbb) (r3.foot f b hbb) (fun n c hnt hc g hg2 => by
            by_cases e : n = f
            · subst e; rw [findF_del_same hg.rise] at hc; cases hc
            · rw [findF_del_other e] at hc
              exact r3.apart f n b c hbb hc (fun k => e k.symm) g hg2)
          have hfs : renamed S f t = putF t b (delF f S.fs) := by unfold renamed; rw [hbb]; rfl
          rw [hfs]
          refine ⟨rfl, ⟨_, _, _, (tick_in (z := S.free - m) hd hg ?_ ?_ ?_ mu r4 h.inP h.inM).mono fun _ h => .inl h⟩, (ho.foot h).then t23 (fun i _ e => by subst e; exact h.inM)⟩
          · exact t23.keep ho.head hnf
          · have := HSUM.out
            rw [hfs] at this
            unfold St.free
            omega
          · omega
    · rw [if_pos ht]
      obtain ⟨z, hz⟩ : ∃ z, z = touchS S f := ⟨_, rfl⟩
      rw [← hz] at hr ht ⊢
      have HS := act_same h z
      clear hz
      go_enter Try.func56, Try.ntmps56
      go_wp2_with (first | (go_at_call 62; refine hmb.mono ?_; rintro e w' ⟨rfl, rfl⟩) | (go_at_call 46; refine hr.mono ?_; rintro e w' ⟨rfl, rfl⟩))
      go_ret
      exact HS
end
end Go.Proofs.Ythibhkoneajffaa
