/- Sync, Remove, Rename, Read of package disk, and Cut and On over a whole disk. -/
import Derived.Test.YthibhkoneajffaaDiskWrite
import Derived.Test.YthibhkoneajffaaClone
namespace Go.Proofs.Ythibhkoneajffaa
open Go.RowKit
open Go.Maps (has)
/-! ### What a call leaves -/
/-- A call on the program's disk: its answer, the disk behind it, and nothing but the disk has turned. -/
def Acts (F : Nat → Prop) (p : Nat) (w : World) (r : Int × St) (e : Ending) (w' : World) : Prop := e = .returned (err r.1) ∧ DiskAt w' (grow F w w') p r.2 ∧ Turn F w w'
section
variable {F : Nat → Prop} {p mb : Nat} {V : Bs → Value} {lf : Int} {S : St} {w : World}
theorem act_same (h : DiskIn w F p mb V lf S) (k : Int) : Acts F p w (k, S) (.returned (err k)) w := ⟨rfl, ⟨mb, V, lf, h.mono fun _ h => .inl h⟩, Turn.refl _ _⟩
theorem RowsAt.put {n b : Bs} {v : Value} {fs : Files} (h : RowsAt w F V fs) (ho : w.ownsRow 0 5 1 v b.length (b.map B8)) (hf : ∀ g, v.ownBlock = some g → F g)
    (ha : ∀ m c, m ≠ n → findF m fs = some c → ∀ g, v.ownBlock = some g → (V m).ownBlock ≠ some g) : RowsAt w F (setV V n v) (putF n b fs) := by
  refine ⟨fun m c hc => ?_, fun m c hc g hg => ?_, fun m k c d hc hd hmk g hg => ?_⟩
  · by_cases e : m = n
    · subst e
      rw [findF_put_same] at hc
      cases hc
      simpa [setV] using ho
    · rw [findF_put_other _ e] at hc
      simpa [setV, e] using h.own m c hc
  · by_cases e : m = n
    · subst e
      exact hf g (by simpa [setV] using hg)
    · rw [findF_put_other _ e] at hc
      exact h.foot m c hc g (by simpa [setV, e] using hg)
  · by_cases e : m = n
    · subst e
      have e2 : k ≠ m := fun h => hmk h.symm
      rw [findF_put_other _ e2] at hd
      have := ha k d e2 hd g (by simpa [setV] using hg)
      simpa [setV, e2] using this
    · rw [findF_put_other _ e] at hc
      by_cases e2 : k = n
      · subst e2
        intro hk
        exact ha m c e hc g (by simpa [setV] using hk) (by simpa [setV, e] using hg)
      · rw [findF_put_other _ e2] at hd
        have := h.apart m k c d hc hd hmk g (by simpa [setV, e] using hg)
        simpa [setV, e2] using this
theorem RowsAt.del {n : Bs} {fs : Files} (h : RowsAt w F V fs) (hr : Rising fs) : RowsAt w F V (delF n fs) := by
  have hold : ∀ m c, findF m (delF n fs) = some c → findF m fs = some c := fun m c hc => by
    by_cases e : m = n
    · subst e; rw [findF_del_same hr] at hc; cases hc
    · rwa [findF_del_other e] at hc
  exact ⟨fun m c hc => h.own m c (hold m c hc), fun m c hc => h.foot m c (hold m c hc), fun m k c d hc hd => h.apart m k c d (hold m c hc) (hold k d hd)⟩
/-- The struct's block alone has turned: the map and the rows are what they were. -/
theorem OnlyHead.parts {w' : World} {o : Obj} (ho : OnlyHead p o w w') (h : DiskIn w F p mb V lf S) : DiskMapAt w' mb (esOf V S.fs) ∧ RowsAt w' F V S.fs := by
  refine ⟨h.map.turn ho.turn (fun e => h.ne e.symm), ⟨fun n b hb => own_turn (h.rows.own n b hb) ho.turn (fun g hg e => (h.row_ne hb hg).1 e), h.rows.foot, h.rows.apart⟩⟩
theorem OnlyHead.foot {w' : World} {o : Obj} (ho : OnlyHead p o w w') (h : DiskIn w F p mb V lf S) : Turn F w w' := (Turn.refl F w).then ho.turn (fun i _ e => by subst e; exact h.inP)
theorem Good.free_in {S : St} (h : Good S) : 0 ≤ S.free ∧ S.free ≤ 1099511627776 ∧ wrap64 S.free = S.free := by
  have h1 := h.cost
  have h2 := h.top
  unfold St.free
  exact ⟨by omega, by omega, IntWalk.wrap64_in _ ⟨by omega, by omega⟩⟩
theorem lf_of (h : DiskIn w F p mb V lf S) (hd : S.dark = false) : lf = S.left := h.left hd
/-- write, where the cut comes. -/
theorem write_S_cut (h : DiskIn w F p mb V lf S) (hg : Good S) (hd : S.dark = false) (h0 : S.left = 0) (m : Int) (hm : m ≤ S.free) :
    Calls Try.prog 40 #[ptr p, .int .i64 m] w fun e w' => e = .returned (err 5) ∧ DiskIn w' F p mb V 0 (cutNow S) ∧ Turn F w w' := by
  obtain ⟨f0, f1, f2⟩ := hg.free_in
  have hh := h.head
  rw [f2, h.left hd, h0] at hh
  refine (write_cut hh m (by omega)).mono ?_
  rintro e w' ⟨rfl, ho⟩
  obtain ⟨m1, r1⟩ := ho.parts h
  refine ⟨rfl, ⟨?_, fun hk => by simp [cutNow] at hk, ⟨by omega, by omega⟩, m1, r1, h.inP, h.inM⟩, ho.foot h⟩
  have e1 : wrap64 (cutNow S).free = S.free := f2
  rw [e1]
  exact ho.head
/-- write, done. -/
theorem write_S_done (h : DiskIn w F p mb V lf S) (hg : Good S) (hd : S.dark = false) (hb : S.done ≤ 1000000000000) (h0 : S.left ≠ 0) (m : Int) (hm : m ≤ S.free) (hm2 : -2199023255552 ≤ m) :
    Calls Try.prog 40 #[ptr p, .int .i64 m] w fun e w' => e = .returned (err 0) ∧ OnlyHead p (headO mb (S.free - m) ((S.done : Int) + 1) (tick S).left false) w w' := by
  obtain ⟨f0, f1, f2⟩ := hg.free_in
  have g1 := hg.low
  have g2 := hg.high
  have hh := h.head
  rw [f2, h.left hd, hd] at hh
  by_cases hl : S.left = -1
  · have e1 : (tick S).left = -1 := by simp [tick, hl]
    rw [e1]
    rw [hl] at hh
    exact write_done0 hh m (by omega) (by omega) (by omega)
  · have e1 : (tick S).left = S.left - 1 := by simp [tick, hl]
    rw [e1]
    exact write_done1 hh m (by omega) (by omega) (by omega) (by omega)
theorem write_S_full (h : DiskIn w F p mb V lf S) (hg : Good S) (m : Int) (hm : S.free < m) : Calls Try.prog 40 #[ptr p, .int .i64 m] w fun e w' => e = .returned (err 4) ∧ w' = w := by
  obtain ⟨f0, f1, f2⟩ := hg.free_in
  have hh := h.head
  rw [f2] at hh
  exact write_full hh m hm
/-- The state behind a raw write that is done, its files laid. -/
theorem tick_in {w' : World} {V' : Bs → Value} {F' : Nat → Prop} {fs : Files} {z : Int} (hd : S.dark = false) (hg : Good S)
    (hh : w'.heap[p]? = some (headO mb z ((S.done : Int) + 1) (tick S).left false)) (hz : z = (S.cap : Int) - (costs fs : Int)) (hz2 : 0 ≤ z) (hm : DiskMapAt w' mb (esOf V' fs)) (hr : RowsAt w' F' V' fs) (hp : F' p) (hmb : F' mb) :
    DiskIn w' F' p mb V' (tick S).left { tick S with fs := fs } := by
  have g1 := hg.low
  have g2 := hg.high
  have g3 := hg.top
  refine ⟨?_, fun _ => rfl, ?_, hm, hr, hp, hmb⟩
  · have e1 : (({ tick S with fs := fs } : St)).free = z := hz.symm
    have e2 : wrap64 z = z := IntWalk.wrap64_in _ ⟨by omega, by omega⟩
    rw [e1, e2]
    have e3 : (({ tick S with fs := fs } : St)).dark = false := hd
    rw [e3]
    exact hh
  · show -1 ≤ (if S.left = -1 then -1 else S.left - 1) ∧ (if S.left = -1 then -1 else S.left - 1) ≤ (9223372036854775807 : Int)
    split <;> constructor <;> omega
/-! ### Sync -/
set_option maxRecDepth 100000 in
theorem sync_any (h : DiskIn w F p mb V lf S) (hg : Good S) (hb : S.done ≤ 1000000000000) (n : Bs) : Calls Try.prog 70 #[ptr p, .string (SL n)] w (Acts F p w (syncS S n)) := by
  have hr := readyAt_any h n
  unfold syncS
  by_cases ht : touchS S n = 0
  · obtain ⟨hn, hd, b, hbb⟩ := touch_there ht
    rw [if_neg (by simp [ht])]
    rw [ht] at hr
    unfold writeS
    by_cases h0 : S.left = 0
    · rw [if_pos h0]
      have hw := write_S_cut h hg hd h0 0 hg.free_in.1
      go_enter Try.func70, Try.ntmps70
      go_wp2_with (first | (go_at_call 46; refine hr.mono ?_; rintro e w' ⟨rfl, rfl⟩) | (go_at_call 40; refine hw.mono ?_; rintro e w' ⟨rfl, h1, h2⟩))
      go_ret
      exact ⟨rfl, ⟨_, _, _, h1.mono fun _ h => .inl h⟩, h2⟩
    · rw [if_neg h0]
      have hw := write_S_done h hg hd hb h0 0 hg.free_in.1 (by omega)
      go_enter Try.func70, Try.ntmps70
      go_wp2_with (first | (go_at_call 46; refine hr.mono ?_; rintro e w' ⟨rfl, rfl⟩) | (go_at_call 40; refine hw.mono ?_; rintro e w' ⟨rfl, ho⟩))
      go_ret
      obtain ⟨m1, r1⟩ := ho.parts h
      have hc := hg.cost
      exact ⟨rfl, ⟨_, _, _, (tick_in hd hg ho.head (by unfold St.free; omega) (by have := hg.free_in.1; omega) m1 r1 h.inP h.inM).mono fun _ h => .inl h⟩, ho.foot h⟩
  · rw [if_pos ht]
    obtain ⟨z, hz⟩ : ∃ z, z = touchS S n := ⟨_, rfl⟩
    rw [← hz] at hr ht ⊢
    have HS := act_same h z
    clear hz
    go_enter Try.func70, Try.ntmps70
    go_wp2_with (first | (go_at_call 46; refine hr.mono ?_; rintro e w' ⟨rfl, rfl⟩))
    go_ret
    exact HS
/-! ### Cut, On -/
theorem cut_any (h : DiskIn w F p mb V lf S) (z : Int) (hz : z ≤ 9223372036854775807) : Calls Try.prog 17 #[ptr p, .int .i64 z] w (Acts F p w (cutS S z)) := by
  unfold cutS
  by_cases h0 : z < 0
  · rw [if_pos h0]
    refine (cut_bad h.head z h0).mono ?_
    rintro e w' ⟨rfl, rfl⟩
    exact act_same h 1
  · rw [if_neg h0]
    refine (cut_head h.head z (by omega)).mono ?_
    rintro e w' ⟨rfl, ho⟩
    obtain ⟨m1, r1⟩ := ho.parts h
    refine ⟨rfl, ⟨mb, V, z, ?_⟩, ho.foot h⟩
    cases hd : S.dark with
    | true =>
      rw [if_pos rfl]
      exact ⟨ho.head, (fun hk => by rw [hd] at hk; cases hk), ⟨by omega, hz⟩, m1, r1.mono fun _ h => .inl h, .inl h.inP, .inl h.inM⟩
    | false =>
      rw [if_neg (by simp)]
      exact ⟨(by have := ho.head; rw [hd] at this; exact this), fun _ => rfl, ⟨by omega, hz⟩, m1, r1.mono fun _ h => .inl h, .inl h.inP, .inl h.inM⟩
theorem on_any (h : DiskIn w F p mb V lf S) : Calls Try.prog 19 #[ptr p] w fun e w' => e = .returned (.tuple #[]) ∧ DiskAt w' (grow F w w') p (onS S) ∧ Turn F w w' := by
  refine (on_head h.head).mono ?_
  rintro e w' ⟨rfl, ho⟩
  obtain ⟨m1, r1⟩ := ho.parts h
  exact ⟨rfl, ⟨mb, V, -1, ⟨ho.head, fun _ => rfl, ⟨by omega, by omega⟩, m1, r1.mono fun _ h => .inl h, .inl h.inP, .inl h.inM⟩⟩, ho.foot h⟩
/-! ### Remove -/
set_option maxRecDepth 100000 in
set_option maxHeartbeats 800000 in
theorem remove_any (h : DiskIn w F p mb V lf S) (hg : Good S) (hb : S.done ≤ 1000000000000) (n : Bs) : Calls Try.prog 13 #[ptr p, .string (SL n)] w (Acts F p w (removeS S n)) := by
  have hr := readyAt_any h n
  obtain ⟨c0, _⟩ := head_cells h.head
  unfold removeS
  by_cases ht : touchS S n = 0
  · obtain ⟨hn, hd, b, hbb⟩ := touch_there ht
    rw [if_neg (by simp [ht])]
    rw [ht] at hr
    have hnl := (named_le hn).1
    have hl := h.map.look1 (n := n) (by unfold maxLen; omega)
    have hfl := hg.file_le hbb
    have hfl2 := hfl
    unfold costF at hfl
    rw [es_find, hbb, Option.map_some, Option.getD_some] at hl
    obtain ⟨ao, cap, B, hV, hsrc, _⟩ := src_of_own (h.rows.own n b hbb)
    rw [hV] at hl
    have hcost := cost_any n b.length w (by omega) (by omega)
    have hdel := costs_del hbb
    obtain ⟨k, hk⟩ : ∃ k : Nat, k = costF n b := ⟨_, rfl⟩
    have hk2 : 16 + (n.length : Int) + (b.length : Int) = (k : Int) := by rw [hk]; unfold costF; omega
    rw [hk2] at hcost
    have hf := hg.free_in
    have hkl : k ≤ 1099511627776 := by omega
    have hkd : costs (delF n S.fs) + k = costs S.fs := by omega
    have HK := Lib.hid hkd
    clear hk hk2 hdel hkd
    unfold writeS
    by_cases h0 : S.left = 0
    · rw [if_pos h0]
      have hw := write_S_cut h hg hd h0 (-(k : Int)) (by omega)
      go_enter Try.func13, Try.ntmps13
      go_wp2_with (first | (go_at_call 46; refine hr.mono ?_; rintro e w' ⟨rfl, rfl⟩) | (go_at_call 39; refine hcost.mono ?_; rintro e w' ⟨rfl, rfl⟩) | (go_at_call 40; refine hw.mono ?_; rintro e w' ⟨rfl, h1, h2⟩))
      go_ret
      exact ⟨rfl, ⟨_, _, _, h1.mono fun _ h => .inl h⟩, h2⟩
    · rw [if_neg h0]
      have hw := write_S_done h hg hd hb h0 (-(k : Int)) (by omega) (by omega)
      go_enter Try.func13, Try.ntmps13
      go_wp2_with (first | (go_at_call 46; refine hr.mono ?_; rintro e w' ⟨rfl, rfl⟩) | (go_at_call 39; refine hcost.mono ?_; rintro e w' ⟨rfl, rfl⟩) | (go_at_call 40; fail))
      refine hw.mono ?_
      rintro e w1 ⟨rfl, ho⟩
      obtain ⟨m1, r1⟩ := ho.parts h
      obtain ⟨d0, _⟩ := head_cells ho.head
      have hkey := key9 (n := n) (by unfold maxLen; omega)
      have HO := Lib.hid ho
      clear ho hl
      go_wp2_with (at_delete; refine wpList_delete_own _ rfl _ _ 67 9 rfl 29 K9 Try.underlying67 rawR mb _ _ rfl m1.1 _ (.string n) rfl hkey ?_; intro w2 m2 hturn)
      go_ret
      have ho := HO.out
      have m3 := DiskMapAt.del (es_rising hg.rise) m1.2.2 m2
      rw [es_del hg.rise] at m3
      have hgr := hturn.grown
      have t2 : Turn F w1 w2 := Turn.of_grown hgr (fun g hg => by cases hg; exact h.inM)
      have r2 : RowsAt w2 F V S.fs := ⟨fun m c hc => own_turn (r1.own m c hc) (Turn.of_grown (G := fun k => k = mb) hgr (fun g hg => by cases hg; rfl)) (fun g hg e => (h.row_ne hc hg).2 e), r1.foot, r1.apart⟩
      refine ⟨rfl, ⟨_, _, _, (tick_in (z := S.free - -(k : Int)) hd hg ?_ ?_ ?_ m3 (r2.del hg.rise) h.inP h.inM).mono fun _ h => .inl h⟩, (ho.foot h).trans t2⟩
      · rw [hgr.block p (Array.getElem?_eq_some_iff.1 ho.head).1 (fun e => h.ne (Option.some.inj e))]
        exact ho.head
      · have := HK.out
        unfold St.free
        omega
      · omega
  · rw [if_pos ht]
    obtain ⟨z, hz⟩ : ∃ z, z = touchS S n := ⟨_, rfl⟩
    rw [← hz] at hr ht ⊢
    have HS := act_same h z
    clear hz
    go_enter Try.func13, Try.ntmps13
    go_wp2_with (first | (go_at_call 46; refine hr.mono ?_; rintro e w' ⟨rfl, rfl⟩))
    go_ret
    exact HS
/-! ### Read -/
set_option maxRecDepth 100000 in
theorem read_any (h : DiskIn w F p mb V lf S) (n : Bs) (hs : ∀ b, findF n S.fs = some b → b.length ≤ 140737488355328) :
    Calls Try.prog 30 #[ptr p, .string (SL n)] w fun e w' => ∃ v, e = .returned (.tuple #[v, err (readS S n).1]) ∧ w'.ownsRow w.heap.size 5 1 v (readS S n).2.length ((readS S n).2.map B8) ∧ Below w.heap.size w w' := by
  obtain ⟨c0, _⟩ := head_cells h.head
  have hm := made_any c0
  have hb := mayBe_any n w
  unfold readS
  cases hN : named n with
  | false =>
    rw [hN] at hb
    go_enter Try.func30, Try.ntmps30
    go_wp2_with (first | (go_at_call 54; refine hm.mono ?_; rintro e w' ⟨rfl, rfl⟩) | (go_at_call 62; refine hb.mono ?_; rintro e w' ⟨rfl, rfl⟩))
    go_ret2
    exact ⟨_, rfl, World.ownsRow_nil _ _ _ _, Below.refl _ _⟩
  | true =>
    rw [hN] at hb
    have hnl := (named_le hN).1
    have hl := h.map.look (n := n) (by unfold maxLen; omega)
    rw [es_find, es_there] at hl
    cases hf : findF n S.fs with
    | none =>
      have e1 : thereF n S.fs = false := by simp [thereF, hf]
      rw [hf, e1] at hl
      go_enter Try.func30, Try.ntmps30
      go_wp2_with (first | (go_at_call 54; refine hm.mono ?_; rintro e w' ⟨rfl, rfl⟩) | (go_at_call 62; refine hb.mono ?_; rintro e w' ⟨rfl, rfl⟩))
      go_ret2
      exact ⟨_, rfl, World.ownsRow_nil _ _ _ _, Below.refl _ _⟩
    | some b =>
      have e1 : thereF n S.fs = true := by simp [thereF, hf]
      rw [hf, e1, Option.map_some, Option.getD_some] at hl
      obtain ⟨ao, cap, B, hV, hsrc, _⟩ := src_of_own (h.rows.own n b hf)
      rw [hV] at hl
      have hc := clone_any ao cap b B 0 w hsrc (hs b hf)
      have HC := Lib.hid hc
      clear hc hf hV
      go_enter Try.func30, Try.ntmps30
      go_wp2_with (first | (go_at_call 54; refine hm.mono ?_; rintro e w' ⟨rfl, rfl⟩) | (go_at_call 62; refine hb.mono ?_; rintro e w' ⟨rfl, rfl⟩) | (go_at_call 61; refine HC.out.mono ?_; rintro e w' ⟨v, rfl, h1, h2⟩))
      go_ret2
      exact ⟨_, rfl, h1, h2⟩
end
end Go.Proofs.Ythibhkoneajffaa
