/- What the proofs stand on: DiskSmall, DiskWrite, DiskOps, DiskUnmade. -/
import Derived.Laws.LoneSync
import Derived.Lib.Bytealg
import Derived.Test.YtomgijcbekjlaaaGreatP7
import Derived.Test.YtomgijcbekjlaaaGreatP0
import Derived.Test.YtomgijcbekjlaaaGreatPB0
import Derived.Test.YtomgijcbekjlaaaGreatPB1
set_option maxRecDepth 100000
set_option maxHeartbeats 40000000
namespace Go.Proofs.YtomgijcbekjlaaaGreat
section
open Go.RowKit
abbrev ptr (p : Nat) : Value := .pointer (some ⟨p, 0, none⟩)
abbrev err (k : Int) : Value := .int .i64 k
theorem indexByte_any (s : ByteArray) (w : World) : Calls Tryz.prog 126 #[.string s, .int .u8 0] w fun e w' => e = .returned (.int .i64 (Lib.indexByte s.data.toList 0)) /\ w' = w := by
 go_enter Tryz.func126, Tryz.ntmps126; go_wp2; rw [run_callFunc_extern Tryz.func179 (by kernel_rfl) (by kernel_rfl) (by kernel_rfl) (e := Extern.BytealgIndexByte.indexByte) (by kernel_rfl), Lib.run_indexByteString]
 simp only [Result.andThen]; rw [Oper.upon_value]; go_wp2; go_ret; exact ⟨rfl, rfl⟩
theorem indexByte_no (l : Bs) : (Lib.indexByte l 0 < 0) ↔ l.all (fun x => x != 0) = true := by
 induction l with
 | nil => simp [Lib.indexByte]
 | cons x r ih =>
  have hg := Lib.indexByte_ge r 0; unfold Lib.indexByte; by_cases hx : x = 0
  ·simp [hx]
  ·have hx2 : (x == 0) = false := by simpa using hx
   simp only [hx2, Bool.false_eq_true, if_false, List.all_cons]; by_cases h1 : Lib.indexByte r 0 = -1
   ·have h2 : Lib.indexByte r 0 < 0 := by omega
    have h3 := ih.1 h2; simp [h1, h3, hx]
   ·have h2 : ¬ Lib.indexByte r 0 < 0 := by omega
    have h3 : ¬ r.all (fun x => x != 0) = true := fun k => h2 (ih.2 k)
    have h4 : (Lib.indexByte r 0 == -1) = false := by simpa using h1
    simp only [h4, Bool.false_eq_true, if_false]; constructor
    ·intro k; omega
    ·intro k
     rw [Bool.and_eq_true] at k; exact absurd k.2 h3
theorem mayBe_any (n : Bs) (w : World) : Calls Tryz.prog 71 #[.string (SL n)] w fun e w' => e = .returned (.bool (named n)) /\ w' = w := by
 obtain ⟨k, hk⟩ := nm_ (n.length); have hs : (SL n).size = k := by rw [SL_size, hk]
 by_cases h1 : 1 <= k
 ·by_cases h2 : k <= 200
  ·have hi : (Int.ofNat k >= 1) := by simp; omega
   have g1 : (k : Int) >= 1 := by omega
   have g2 : (k : Int) <= 200 := by omega
   have HI := indexByte_any (SL n) w; have e1 : (SL n).data.toList = n := rfl
   rw [e1] at HI; obtain ⟨z, hz⟩ := nm_ (Lib.indexByte n 0); rw [<- hz] at HI; have hno := indexByte_no n; rw [<- hz] at hno; have hv : named n = decide (z < 0) := by
    unfold named; rw [<- hk]; simp only [h1, h2, decide_true, Bool.true_and]; by_cases h3 : z < 0
    ·rw [hno.1 h3]; simp [h3]
    ·have : n.all (fun x => x != 0) = false := by
      cases hq : n.all (fun x => x != 0)
      ·rfl
      ·exact absurd (hno.2 hq) h3
     rw [this]; simp [h3]
   rw [hv]; clear hv hno hz hi hk; go_enter Tryz.func71, Tryz.ntmps71; go_wp2_with (go_at_call 126; refine HI.mono ?_; rintro e w' ⟨rfl, rfl⟩)
   go_ret; exact ⟨by simp, rfl⟩
  ·have hv : named n = false := by unfold named; rw [<- hk]; simp [h2]
   rw [hv]; have g1 : (k : Int) >= 1 := by omega
   have g2 : ¬ (k : Int) <= 200 := by omega
   clear hk hv; go_enter Tryz.func71, Tryz.ntmps71; go_wp2; go_ret; exact ⟨by simp, rfl⟩
 ·have hv : named n = false := by unfold named; rw [<- hk]; simp [h1]
  rw [hv]; have g1 : ¬ (k : Int) >= 1 := by omega
  clear hk hv; go_enter Tryz.func71, Tryz.ntmps71; go_wp2; go_ret; exact ⟨by simp, rfl⟩
theorem cost_any (n : Bs) (k : Nat) (w : World) (hn : n.length <= 281474976710656) (hk : k <= 281474976710656) : Calls Tryz.prog 74 #[.string (SL n), .int .i64 (k : Int)] w fun e w' => e = .returned (.int .i64 (16 + (n.length : Int) + (k : Int))) /\ w' = w := by
 have hs : (SL n).size = n.length := SL_size n
 go_enter Tryz.func74, Tryz.ntmps74; go_wp2; go_ret; exact ⟨rfl, rfl⟩
theorem made_any {p mb : Nat} {w : World} (c0 : w.cell? ⟨p, 0, none⟩ = some (.map (some mb))) : Calls Tryz.prog 54 #[ptr p] w fun e w' => e = .returned (.bool true) /\ w' = w := by
 have hq : (binOp .neq 89 (.map (some mb)) (.map none)).run Tryz.prog w = .ok (.bool true) w := run_neq_map_nil w 89 9 29 (some mb) Tryz.underlying89
 go_enter Tryz.func54, Tryz.ntmps54; go_wp2; go_ret; exact ⟨rfl, rfl⟩
section
variable {F : Nat -> Prop} {p mb : Nat} {V : Bs -> Value} {lf : Int} {S : St} {w : World}
theorem has_any (h : DiskIn w F p mb V lf S) (n : Bs) (hn : n.length <= maxLen) : Calls Tryz.prog 76 #[ptr p, .string (SL n)] w fun e w' => e = .returned (.bool (thereF n S.fs)) /\ w' = w := by
 obtain ⟨c0, _⟩ := head_cells h.head; have hl := h.map.look hn; rw [es_there] at hl; have hm := made_any c0; go_enter Tryz.func76, Tryz.ntmps76; go_wp2_with (go_at_call 54; refine hm.mono ?_; rintro e w' ⟨rfl, rfl⟩)
 go_ret; exact ⟨rfl, rfl⟩
theorem ready_any (h : DiskIn w F p mb V lf S) (n : Bs) : Calls Tryz.prog 75 #[ptr p, .string (SL n)] w fun e w' => e = .returned (err (readyS S n)) /\ w' = w := by
 obtain ⟨c0, _, _, _, c4, _⟩ := head_cells h.head; have hm := made_any c0; have hb := mayBe_any n w; unfold readyS
 cases hN : named n with
 | false =>
  rw [hN] at hb; go_enter Tryz.func75, Tryz.ntmps75; go_wp2_with (first | (go_at_call 54; refine hm.mono ?_; rintro e w' ⟨rfl, rfl⟩) | (go_at_call 71; refine hb.mono ?_; rintro e w' ⟨rfl, rfl⟩))
  go_ret; exact ⟨rfl, rfl⟩
 | true =>
  rw [hN] at hb
  cases hd : S.dark with
  | true =>
   rw [hd] at c4; go_enter Tryz.func75, Tryz.ntmps75; go_wp2_with (first | (go_at_call 54; refine hm.mono ?_; rintro e w' ⟨rfl, rfl⟩) | (go_at_call 71; refine hb.mono ?_; rintro e w' ⟨rfl, rfl⟩))
   go_ret; exact ⟨rfl, rfl⟩
  | false =>
   rw [hd] at c4; go_enter Tryz.func75, Tryz.ntmps75; go_wp2_with (first | (go_at_call 54; refine hm.mono ?_; rintro e w' ⟨rfl, rfl⟩) | (go_at_call 71; refine hb.mono ?_; rintro e w' ⟨rfl, rfl⟩))
   go_ret; exact ⟨rfl, rfl⟩
theorem named_le {n : Bs} (h : named n = true) : n.length <= 200 /\ 1 <= n.length := by
 unfold named at h; simp only [Bool.and_eq_true, decide_eq_true_eq] at h; exact ⟨h.1.2, h.1.1⟩
theorem touch_ready (S : St) (n : Bs) : (readyS S n ≠ 0 /\ touchS S n = readyS S n) \/ (readyS S n = 0 /\ named n = true /\ S.dark = false /\ touchS S n = if thereF n S.fs = true then 0 else 3) := by
 unfold readyS touchS thereF
 cases hN : named n with
 | false => simp
 | true =>
  cases hd : S.dark with
  | true => simp
  | false => cases hf : findF n S.fs <;> simp
theorem readyAt_any (h : DiskIn w F p mb V lf S) (n : Bs) : Calls Tryz.prog 72 #[ptr p, .string (SL n)] w fun e w' => e = .returned (err (touchS S n)) /\ w' = w := by
 have hr := ready_any h n; rcases touch_ready S n with ⟨h1, h2⟩ | ⟨h1, h2, h3, h4⟩
 ·rw [h2]
  obtain ⟨z, hz⟩ := nm_ (readyS S n); rw [<- hz] at hr h1 |-; clear hz h2; go_enter Tryz.func72, Tryz.ntmps72; go_wp2_with (go_at_call 75; refine hr.mono ?_; rintro e w' ⟨rfl, rfl⟩)
  go_ret; exact ⟨rfl, rfl⟩
 ·rw [h4]
  rw [h1] at hr; have hl := (named_le h2).1; have hh := has_any h n (by unfold maxLen; omega)
  cases ht : thereF n S.fs with
  | true =>
   rw [ht] at hh; clear h4; go_enter Tryz.func72, Tryz.ntmps72; go_wp2_with (first | (go_at_call 75; refine hr.mono ?_; rintro e w' ⟨rfl, rfl⟩) | (go_at_call 76; refine hh.mono ?_; rintro e w' ⟨rfl, rfl⟩))
   go_ret; exact ⟨rfl, rfl⟩
  | false =>
   rw [ht] at hh; clear h4; go_enter Tryz.func72, Tryz.ntmps72; go_wp2_with (first | (go_at_call 75; refine hr.mono ?_; rintro e w' ⟨rfl, rfl⟩) | (go_at_call 76; refine hh.mono ?_; rintro e w' ⟨rfl, rfl⟩))
   go_ret; exact ⟨rfl, rfl⟩
theorem free_in (h : DiskIn w F p mb V lf S) : Calls Tryz.prog 141 #[ptr p] w fun e w' => e = .returned (.int .i64 (wrap64 S.free)) /\ w' = w := by
 obtain ⟨c0, c1, _⟩ := head_cells h.head; obtain ⟨z, hz⟩ := nm_ (wrap64 S.free); rw [<- hz] at c1 |-; clear hz; have hm := made_any c0; go_enter Tryz.func141, Tryz.ntmps141; go_wp2_with (go_at_call 54; refine hm.mono ?_; rintro e w' ⟨rfl, rfl⟩)
 go_ret; exact ⟨rfl, rfl⟩
theorem ops_in (h : DiskIn w F p mb V lf S) : Calls Tryz.prog 22 #[ptr p] w fun e w' => e = .returned (.int .i64 (S.done : Int)) /\ w' = w := by
 obtain ⟨c0, _, c2, _⟩ := head_cells h.head; have hm := made_any c0; have hload := run_call_load (P := Tryz.prog) Tryz.func113 (by kernel_rfl) (by kernel_rfl) (by kernel_rfl) .i64 (by kernel_rfl) c2
 go_enter Tryz.func22, Tryz.ntmps22; go_wp2_with (first | (go_at_call 54; refine hm.mono ?_; rintro e w' ⟨rfl, rfl⟩) | (go_at_call 58; go_in))
 go_ret; exact ⟨rfl, rfl⟩
end
end
section
open Go.RowKit
structure OnlyHead (p : Nat) (o : Obj) (w w' : World) : Prop where
 head : w'.heap[p]? = some o
 turn : Turn (fun k => k = p) w w'
theorem turn_set (p i : Nat) (w : World) (v : Value) : Turn (fun k => k = p) w (w.setCell ⟨p, i, none⟩ v) := Turn.setCell w _ v rfl
section
variable {p mb : Nat} {a b c : Int} {d : Bool} {w : World}
theorem write_full (h : w.heap[p]? = some (headO mb a b c d)) (m : Int) (hm : a < m) : Calls Tryz.prog 73 #[ptr p, .int .i64 m] w fun e w' => e = .returned (err 4) /\ w' = w := by
 obtain ⟨c0, c1, c2, c3, c4, fr⟩ := head_cells h; have hg : m > a := hm; go_enter Tryz.func73, Tryz.ntmps73; go_wp2; go_ret; exact ⟨rfl, rfl⟩
theorem write_cut (h : w.heap[p]? = some (headO mb a b 0 d)) (m : Int) (hm : ¬ a < m) : Calls Tryz.prog 73 #[ptr p, .int .i64 m] w fun e w' => e = .returned (err 5) /\ OnlyHead p (headO mb a b 0 true) w w' := by
 obtain ⟨c0, c1, c2, c3, c4, fr⟩ := head_cells h; have hg : ¬ m > a := hm; have f4 := fr 4; have hh := heap_setCell_same w p 4 _ 96 (.bool true) h; go_enter Tryz.func73, Tryz.ntmps73; go_wp2; go_ret; exact ⟨rfl, hh, turn_set _ _ _ _⟩
theorem heap_set3 {cs : Array Value} {t : TypeId} (h : w.heap[p]? = some (.cells cs t (0, 0))) (i j : Nat) (u v : Value) :
  ((w.setCell ⟨p, i, none⟩ u).setCell ⟨p, j, none⟩ v).heap[p]? = some (.cells ((cs.setIfInBounds i u).setIfInBounds j v) t (0, 0)) := heap_setCell_same _ p j _ t v (heap_setCell_same w p i cs t u h)
theorem write_done0 (h : w.heap[p]? = some (headO mb a b (-1) d)) (m : Int) (hm : ¬ a < m) (ha : -9223372036854775808 <= a - m /\ a - m <= 9223372036854775807) (hb : 0 <= b /\ b <= 4000000000000000) :
  Calls Tryz.prog 73 #[ptr p, .int .i64 m] w fun e w' => e = .returned (err 0) /\ OnlyHead p (headO mb (a - m) (b + 1) (-1) d) w w' := by
 obtain ⟨c0, c1, c2, c3, c4, fr⟩ := head_cells h; have hg : ¬ m > a := hm; have f1 := fr 1; have f2 := fr 2; obtain ⟨f, hf⟩ := nm_ (a - m); have hw : wrap64 (a - m) = f := by rw [hf]; exact IntWalk.wrap64_in _ ⟨by omega, by omega⟩
 have hf2 : a - m = f := hf.symm
 obtain ⟨g, hgg⟩ := nm_ (b + 1); have hw2 : (Op.intArith .add .i64 b 1).run Tryz.prog (w.setCell ⟨p, 1, none⟩ (.int .i64 f)) = .ok (.int .i64 g) (w.setCell ⟨p, 1, none⟩ (.int .i64 f)) := by
  rw [hgg]; simp [go_sem, IntKind.wrap_i64]; omega
 have k2 : (w.setCell ⟨p, 1, none⟩ (.int .i64 f)).cell? ⟨p, 2, none⟩ = some (.int .i64 b) := by
  rw [cell_of_row _ _ _ _ _ _ (heap_setCell_same w p 1 _ 96 _ h)]; rfl
 have g2 : (w.setCell ⟨p, 1, none⟩ (.int .i64 f)).frozen? ⟨p, 2, none⟩ = false := frozen_of_row _ _ _ _ _ (heap_setCell_same w p 1 _ 96 _ h)
 have hadd := run_call_add (P := Tryz.prog) Tryz.func163 (by kernel_rfl) (by kernel_rfl) (by kernel_rfl) .i64 (by kernel_rfl) k2 g2 hw2
 have hh := heap_set3 h 1 2 (.int .i64 f) (.int .i64 g); rw [<- hf, <- hgg]; clear hgg hf hw2; go_enter Tryz.func73, Tryz.ntmps73; go_wp2; go_ret; exact ⟨rfl, hh, (turn_set p 1 _ _).trans (turn_set p 2 _ _)⟩
theorem write_done1 (h : w.heap[p]? = some (headO mb a b c d)) (m : Int) (hm : ¬ a < m) (hc : 0 < c /\ c <= 9223372036854775807) (ha : -9223372036854775808 <= a - m /\ a - m <= 9223372036854775807) (hb : 0 <= b /\ b <= 4000000000000000) :
  Calls Tryz.prog 73 #[ptr p, .int .i64 m] w fun e w' => e = .returned (err 0) /\ OnlyHead p (headO mb (a - m) (b + 1) (c - 1) d) w w' := by
 obtain ⟨c0, c1, c2, c3, c4, fr⟩ := head_cells h; have hg : ¬ m > a := hm; have f1 := fr 1; have f2 := fr 2; have f3 := fr 3; have hc0 : ¬ c = 0 := by omega
 have hc1 : ¬ c = -1 := by omega
 obtain ⟨l, hl⟩ := nm_ (c - 1); have hwl : wrap64 (c - 1) = l := by rw [hl]; exact IntWalk.wrap64_in _ ⟨by omega, by omega⟩
 obtain ⟨f, hf⟩ := nm_ (a - m); have hw : wrap64 (a - m) = f := by rw [hf]; exact IntWalk.wrap64_in _ ⟨by omega, by omega⟩
 have hf2 : a - m = f := hf.symm
 have hl2 : c - 1 = l := hl.symm
 obtain ⟨g, hgg⟩ := nm_ (b + 1); obtain ⟨W, hW⟩ := nm_ ((w.setCell ⟨p, 3, none⟩ (.int .i64 l)).setCell ⟨p, 1, none⟩ (.int .i64 f)); have hw2 : (Op.intArith .add .i64 b 1).run Tryz.prog W = .ok (.int .i64 g) W := by
  rw [hgg]; simp [go_sem, IntKind.wrap_i64]; omega
 have hrow : W.heap[p]? = some (.cells ((#[.map (some mb), .int .i64 a, .int .i64 b, .int .i64 c, .bool d].setIfInBounds 3 (.int .i64 l)).setIfInBounds 1 (.int .i64 f)) 96 (0, 0)) := by
  rw [hW]; exact heap_set3 h 3 1 (.int .i64 l) (.int .i64 f)
 have k2 : W.cell? ⟨p, 2, none⟩ = some (.int .i64 b) := by
  rw [cell_of_row _ _ _ _ _ _ hrow]; rfl
 have g2 : W.frozen? ⟨p, 2, none⟩ = false := frozen_of_row _ _ _ _ _ hrow
 have hadd := run_call_add (P := Tryz.prog) Tryz.func163 (by kernel_rfl) (by kernel_rfl) (by kernel_rfl) .i64 (by kernel_rfl) k2 g2 hw2
 have hh := heap_setCell_same W p 2 _ 96 (.int .i64 g) hrow; have ht : Turn (fun k => k = p) w W := by
  rw [hW]; exact (turn_set p 3 _ _).trans (turn_set p 1 _ _)
 rw [<- hf, <- hgg, <- hl]; clear hgg hf hw2 hl; subst hW; go_enter Tryz.func73, Tryz.ntmps73; go_wp2; go_ret; exact ⟨rfl, hh, ht.trans (turn_set p 2 _ _)⟩
theorem cut_head (h : w.heap[p]? = some (headO mb a b c d)) (z : Int) (hz : 0 <= z) : Calls Tryz.prog 16 #[ptr p, .int .i64 z] w fun e w' => e = .returned (err 0) /\ OnlyHead p (headO mb a b z d) w w' := by
 obtain ⟨c0, c1, c2, c3, c4, fr⟩ := head_cells h; have f3 := fr 3; have hm := made_any c0; have hz2 : ¬ z < 0 := by omega
 have hh := heap_setCell_same w p 3 _ 96 (.int .i64 z) h; go_enter Tryz.func16, Tryz.ntmps16; go_wp2_with (go_at_call 54; refine hm.mono ?_; rintro e w' ⟨rfl, rfl⟩)
 go_ret; exact ⟨rfl, hh, turn_set _ _ _ _⟩
theorem cut_bad (h : w.heap[p]? = some (headO mb a b c d)) (z : Int) (hz : z < 0) : Calls Tryz.prog 16 #[ptr p, .int .i64 z] w fun e w' => e = .returned (err 1) /\ w' = w := by
 obtain ⟨c0, c1, c2, c3, c4, fr⟩ := head_cells h; have hm := made_any c0; go_enter Tryz.func16, Tryz.ntmps16; go_wp2_with (go_at_call 54; refine hm.mono ?_; rintro e w' ⟨rfl, rfl⟩)
 go_ret; exact ⟨rfl, rfl⟩
theorem on_head (h : w.heap[p]? = some (headO mb a b c d)) : Calls Tryz.prog 18 #[ptr p] w fun e w' => e = .returned (.tuple #[]) /\ OnlyHead p (headO mb a b (-1) false) w w' := by
 obtain ⟨c0, c1, c2, c3, c4, fr⟩ := head_cells h; have f3 := fr 3; have f4 := fr 4; have hm := made_any c0; have hh := heap_set3 h 4 3 (.bool false) (.int .i64 (-1)); go_enter Tryz.func18, Tryz.ntmps18; go_wp2_with (go_at_call 54; refine hm.mono ?_; rintro e w' ⟨rfl, rfl⟩)
 go_end0
 exact ⟨rfl, hh, (turn_set p 4 _ _).trans (turn_set p 3 _ _)⟩
theorem new_yes (c : Nat) (hc : c <= 1099511627776) (w : World) : Calls Tryz.prog 32 #[.int .i64 (c : Int)] w fun e w' => e = .returned (.tuple #[ptr (w.heap.size + 1), err 0]) /\ w' = (w.alloc (.map #[] 0)).alloc (headO w.heap.size (c : Int) 0 (-1) false) := by
 have hmm := @run_makeMap Tryz.prog; have h1 : ¬ ((c : Int) < 0) := by omega
 have h2 : ¬ ((c : Int) > 1099511627776) := by omega
 go_enter Tryz.func32, Tryz.ntmps32; go_wp2; go_ret2; exact ⟨rfl, rfl⟩
end
end
section
open Go.RowKit
open Go.Maps (has)
/-! ### What a call leaves -/
def Acts (F : Nat -> Prop) (p : Nat) (w : World) (r : Int × St) (e : Ending) (w' : World) : Prop := e = .returned (err r.1) /\ DiskAt w' (grow F w w') p r.2 /\ Turn F w w'
section
variable {F : Nat -> Prop} {p mb : Nat} {V : Bs -> Value} {lf : Int} {S : St} {w : World}
theorem act_same (h : DiskIn w F p mb V lf S) (k : Int) : Acts F p w (k, S) (.returned (err k)) w := ⟨rfl, ⟨mb, V, lf, h.mono fun _ h => .inl h⟩, Turn.refl _ _⟩
theorem RowsAt.put {n b : Bs} {v : Value} {fs : Files} (h : RowsAt w F V fs) (ho : w.ownsRow 0 5 1 v b.length (b.map B8)) (hf : ∀ g, v.ownBlock = some g -> F g)
  (ha : ∀ m c, m ≠ n -> findF m fs = some c -> ∀ g, v.ownBlock = some g -> (V m).ownBlock ≠ some g) : RowsAt w F (setV V n v) (putF n b fs) := by
 refine ⟨fun m c hc => ?_, fun m c hc g hg => ?_, fun m k c d hc hd hmk g hg => ?_⟩
 ·by_cases e : m = n
  ·subst e
   rw [findF_put_same] at hc
   cases hc
   simpa [setV] using ho
  ·rw [findF_put_other _ e] at hc
   simpa [setV, e] using h.own m c hc
 ·by_cases e : m = n
  ·subst e
   exact hf g (by simpa [setV] using hg)
  ·rw [findF_put_other _ e] at hc
   exact h.foot m c hc g (by simpa [setV, e] using hg)
 ·by_cases e : m = n
  ·subst e
   have e2 : k ≠ m := fun h => hmk h.symm
   rw [findF_put_other _ e2] at hd; have := ha k d e2 hd g (by simpa [setV] using hg)
   simpa [setV, e2] using this
  ·rw [findF_put_other _ e] at hc
   by_cases e2 : k = n
   ·subst e2
    intro hk
    exact ha m c e hc g (by simpa [setV] using hk) (by simpa [setV, e] using hg)
   ·rw [findF_put_other _ e2] at hd
    have := h.apart m k c d hc hd hmk g (by simpa [setV, e] using hg)
    simpa [setV, e2] using this
theorem RowsAt.del {n : Bs} {fs : Files} (h : RowsAt w F V fs) (hr : Rising fs) : RowsAt w F V (delF n fs) := by
 have hold : ∀ m c, findF m (delF n fs) = some c -> findF m fs = some c := fun m c hc => by
  by_cases e : m = n
  ·subst e; rw [findF_del_same hr] at hc; cases hc
  ·rwa [findF_del_other e] at hc
 exact ⟨fun m c hc => h.own m c (hold m c hc), fun m c hc => h.foot m c (hold m c hc), fun m k c d hc hd => h.apart m k c d (hold m c hc) (hold k d hd)⟩
theorem OnlyHead.parts {w' : World} {o : Obj} (ho : OnlyHead p o w w') (h : DiskIn w F p mb V lf S) : DiskMapAt w' mb (esOf V S.fs) /\ RowsAt w' F V S.fs := by
 refine ⟨h.map.turn ho.turn (fun e => h.ne e.symm), ⟨fun n b hb => own_turn (h.rows.own n b hb) ho.turn (fun g hg e => (h.row_ne hb hg).1 e), h.rows.foot, h.rows.apart⟩⟩
theorem OnlyHead.foot {w' : World} {o : Obj} (ho : OnlyHead p o w w') (h : DiskIn w F p mb V lf S) : Turn F w w' := (Turn.refl F w).then ho.turn (fun i _ e => by subst e; exact h.inP)
theorem Good.free_in {S : St} (h : Good S) : 0 <= S.free /\ S.free <= 1099511627776 /\ wrap64 S.free = S.free := by
 have h1 := h.cost; have h2 := h.top; unfold St.free; exact ⟨by omega, by omega, IntWalk.wrap64_in _ ⟨by omega, by omega⟩⟩
theorem write_S_cut (h : DiskIn w F p mb V lf S) (hg : Good S) (hd : S.dark = false) (h0 : S.left = 0) (m : Int) (hm : m <= S.free) :
  Calls Tryz.prog 73 #[ptr p, .int .i64 m] w fun e w' => e = .returned (err 5) /\ DiskIn w' F p mb V 0 (cutNow S) /\ Turn F w w' := by
 obtain ⟨f0, f1, f2⟩ := hg.free_in; have hh := h.head; rw [f2, h.left hd, h0] at hh; refine (write_cut hh m (by omega)).mono ?_
 rintro e w' ⟨rfl, ho⟩; obtain ⟨m1, r1⟩ := ho.parts h; refine ⟨rfl, ⟨?_, fun hk => by simp [cutNow] at hk, ⟨by omega, by omega⟩, m1, r1, h.inP, h.inM⟩, ho.foot h⟩
 have e1 : wrap64 (cutNow S).free = S.free := f2
 rw [e1]; exact ho.head
theorem write_S_done (h : DiskIn w F p mb V lf S) (hg : Good S) (hd : S.dark = false) (hb : S.done <= 4000000000000000) (h0 : S.left ≠ 0) (m : Int) (hm : m <= S.free) (hm2 : -2199023255552 <= m) :
  Calls Tryz.prog 73 #[ptr p, .int .i64 m] w fun e w' => e = .returned (err 0) /\ OnlyHead p (headO mb (S.free - m) ((S.done : Int) + 1) (tick S).left false) w w' := by
 obtain ⟨f0, f1, f2⟩ := hg.free_in; have g1 := hg.low; have g2 := hg.high; have hh := h.head; rw [f2, h.left hd, hd] at hh; by_cases hl : S.left = -1
 ·have e1 : (tick S).left = -1 := by simp [tick, hl]
  rw [e1]; rw [hl] at hh; exact write_done0 hh m (by omega) (by omega) (by omega)
 ·have e1 : (tick S).left = S.left - 1 := by simp [tick, hl]
  rw [e1]; exact write_done1 hh m (by omega) (by omega) (by omega) (by omega)
theorem write_S_full (h : DiskIn w F p mb V lf S) (hg : Good S) (m : Int) (hm : S.free < m) : Calls Tryz.prog 73 #[ptr p, .int .i64 m] w fun e w' => e = .returned (err 4) /\ w' = w := by
 obtain ⟨f0, f1, f2⟩ := hg.free_in; have hh := h.head; rw [f2] at hh; exact write_full hh m hm
theorem tick_in {w' : World} {V' : Bs -> Value} {F' : Nat -> Prop} {fs : Files} {z : Int} (hd : S.dark = false) (hg : Good S)
  (hh : w'.heap[p]? = some (headO mb z ((S.done : Int) + 1) (tick S).left false)) (hz : z = (S.cap : Int) - (costs fs : Int)) (hz2 : 0 <= z) (hm : DiskMapAt w' mb (esOf V' fs)) (hr : RowsAt w' F' V' fs) (hp : F' p) (hmb : F' mb) :
  DiskIn w' F' p mb V' (tick S).left { tick S with fs := fs } := by
 have g1 := hg.low; have g2 := hg.high; have g3 := hg.top; refine ⟨?_, fun _ => rfl, ?_, hm, hr, hp, hmb⟩
 ·have e1 : (({ tick S with fs := fs } : St)).free = z := hz.symm
  have e2 : wrap64 z = z := IntWalk.wrap64_in _ ⟨by omega, by omega⟩
  rw [e1, e2]; have e3 : (({ tick S with fs := fs } : St)).dark = false := hd
  rw [e3]; exact hh
 ·show -1 <= (if S.left = -1 then -1 else S.left - 1) /\ (if S.left = -1 then -1 else S.left - 1) <= (9223372036854775807 : Int)
  split <;> constructor <;> omega
/-! ### Sync -/
theorem sync_any (h : DiskIn w F p mb V lf S) (hg : Good S) (hb : S.done <= 4000000000000000) (n : Bs) : Calls Tryz.prog 167 #[ptr p, .string (SL n)] w (Acts F p w (syncS S n)) := by
 have hr := readyAt_any h n; unfold syncS; by_cases ht : touchS S n = 0
 ·obtain ⟨hn, hd, b, hbb⟩ := touch_there ht
  rw [if_neg (by simp [ht])]
  rw [ht] at hr; unfold writeS; by_cases h0 : S.left = 0
  ·rw [if_pos h0]
   have hw := write_S_cut h hg hd h0 0 hg.free_in.1; go_enter Tryz.func167, Tryz.ntmps167; go_wp2_with (first | (go_at_call 72; refine hr.mono ?_; rintro e w' ⟨rfl, rfl⟩) | (go_at_call 73; refine hw.mono ?_; rintro e w' ⟨rfl, h1, h2⟩))
   go_ret; exact ⟨rfl, ⟨_, _, _, h1.mono fun _ h => .inl h⟩, h2⟩
  ·rw [if_neg h0]
   have hw := write_S_done h hg hd hb h0 0 hg.free_in.1 (by omega)
   go_enter Tryz.func167, Tryz.ntmps167; go_wp2_with (first | (go_at_call 72; refine hr.mono ?_; rintro e w' ⟨rfl, rfl⟩) | (go_at_call 73; refine hw.mono ?_; rintro e w' ⟨rfl, ho⟩))
   go_ret; obtain ⟨m1, r1⟩ := ho.parts h; have hc := hg.cost; exact ⟨rfl, ⟨_, _, _, (tick_in hd hg ho.head (by unfold St.free; omega) (by have := hg.free_in.1; omega) m1 r1 h.inP h.inM).mono fun _ h => .inl h⟩, ho.foot h⟩
 ·rw [if_pos ht]
  obtain ⟨z, hz⟩ := nm_ (touchS S n); rw [<- hz] at hr ht |-; have HS := act_same h z; clear hz; go_enter Tryz.func167, Tryz.ntmps167; go_wp2_with (first | (go_at_call 72; refine hr.mono ?_; rintro e w' ⟨rfl, rfl⟩))
  go_ret; exact HS
/-! ### Cut, On -/
theorem cut_any (h : DiskIn w F p mb V lf S) (z : Int) (hz : z <= 9223372036854775807) : Calls Tryz.prog 16 #[ptr p, .int .i64 z] w (Acts F p w (cutS S z)) := by
 unfold cutS; by_cases h0 : z < 0
 ·rw [if_pos h0]
  refine (cut_bad h.head z h0).mono ?_; rintro e w' ⟨rfl, rfl⟩; exact act_same h 1
 ·rw [if_neg h0]
  refine (cut_head h.head z (by omega)).mono ?_
  rintro e w' ⟨rfl, ho⟩; obtain ⟨m1, r1⟩ := ho.parts h; refine ⟨rfl, ⟨mb, V, z, ?_⟩, ho.foot h⟩
  cases hd : S.dark with
  | true =>
   rw [if_pos rfl]; exact ⟨ho.head, (fun hk => by rw [hd] at hk; cases hk), ⟨by omega, hz⟩, m1, r1.mono fun _ h => .inl h, .inl h.inP, .inl h.inM⟩
  | false =>
   rw [if_neg (by simp)]
   exact ⟨(by have := ho.head; rw [hd] at this; exact this), fun _ => rfl, ⟨by omega, hz⟩, m1, r1.mono fun _ h => .inl h, .inl h.inP, .inl h.inM⟩
theorem on_any (h : DiskIn w F p mb V lf S) : Calls Tryz.prog 18 #[ptr p] w fun e w' => e = .returned (.tuple #[]) /\ DiskAt w' (grow F w w') p (onS S) /\ Turn F w w' := by
 refine (on_head h.head).mono ?_; rintro e w' ⟨rfl, ho⟩; obtain ⟨m1, r1⟩ := ho.parts h; exact ⟨rfl, ⟨mb, V, -1, ⟨ho.head, fun _ => rfl, ⟨by omega, by omega⟩, m1, r1.mono fun _ h => .inl h, .inl h.inP, .inl h.inM⟩⟩, ho.foot h⟩
/-! ### Remove -/
theorem remove_any (h : DiskIn w F p mb V lf S) (hg : Good S) (hb : S.done <= 4000000000000000) (n : Bs) : Calls Tryz.prog 36 #[ptr p, .string (SL n)] w (Acts F p w (removeS S n)) := by
 have hr := readyAt_any h n; obtain ⟨c0, _⟩ := head_cells h.head; unfold removeS; by_cases ht : touchS S n = 0
 ·obtain ⟨hn, hd, b, hbb⟩ := touch_there ht
  rw [if_neg (by simp [ht])]
  rw [ht] at hr; have hnl := (named_le hn).1; have hl := h.map.look1 (n := n) (by unfold maxLen; omega)
  have hfl := hg.file_le hbb; have hfl2 := hfl; unfold costF at hfl; rw [es_find, hbb, Option.map_some, Option.getD_some] at hl; obtain ⟨ao, cap, B, hV, hsrc, _⟩ := src_of_own (h.rows.own n b hbb); rw [hV] at hl; have hcost := cost_any n b.length w (by omega) (by omega)
  have hdel := costs_del hbb; obtain ⟨k, hk⟩ : ∃ k : Nat, k = costF n b := ⟨_, rfl⟩
  have hk2 : 16 + (n.length : Int) + (b.length : Int) = (k : Int) := by rw [hk]; unfold costF; omega
  rw [hk2] at hcost; have hf := hg.free_in; have hkl : k <= 1099511627776 := by omega
  have hkd : costs (delF n S.fs) + k = costs S.fs := by omega
  have HK := h_ hkd; clear hk hk2 hdel hkd; unfold writeS; by_cases h0 : S.left = 0
  ·rw [if_pos h0]
   have hw := write_S_cut h hg hd h0 (-(k : Int)) (by omega)
   go_enter Tryz.func36, Tryz.ntmps36; go_wp2_with (first | (go_at_call 72; refine hr.mono ?_; rintro e w' ⟨rfl, rfl⟩) | (go_at_call 74; refine hcost.mono ?_; rintro e w' ⟨rfl, rfl⟩) | (go_at_call 73; refine hw.mono ?_; rintro e w' ⟨rfl, h1, h2⟩))
   go_ret; exact ⟨rfl, ⟨_, _, _, h1.mono fun _ h => .inl h⟩, h2⟩
  ·rw [if_neg h0]
   have hw := write_S_done h hg hd hb h0 (-(k : Int)) (by omega) (by omega)
   go_enter Tryz.func36, Tryz.ntmps36; go_wp2_with (first | (go_at_call 72; refine hr.mono ?_; rintro e w' ⟨rfl, rfl⟩) | (go_at_call 74; refine hcost.mono ?_; rintro e w' ⟨rfl, rfl⟩) | (go_at_call 73; fail))
   refine hw.mono ?_; rintro e w1 ⟨rfl, ho⟩; obtain ⟨m1, r1⟩ := ho.parts h; obtain ⟨d0, _⟩ := head_cells ho.head; have hkey := key9 (n := n) (by unfold maxLen; omega)
   have HO := h_ ho; clear ho hl; go_wp2_with (at_delete; refine wpList_delete_own _ rfl _ _ 89 9 rfl 29 K9 Tryz.underlying89 rawR mb _ _ rfl m1.1 _ (.string n) rfl hkey ?_; intro w2 m2 hturn)
   go_ret; have ho := HO.out; have m3 := DiskMapAt.del (es_rising hg.rise) m1.2.2 m2; rw [es_del hg.rise] at m3; have hgr := hturn.grown; have t2 : Turn F w1 w2 := Turn.of_grown hgr (fun g hg => by cases hg; exact h.inM)
   have r2 : RowsAt w2 F V S.fs := ⟨fun m c hc => own_turn (r1.own m c hc) (Turn.of_grown (G := fun k => k = mb) hgr (fun g hg => by cases hg; rfl)) (fun g hg e => (h.row_ne hc hg).2 e), r1.foot, r1.apart⟩
   refine ⟨rfl, ⟨_, _, _, (tick_in (z := S.free - -(k : Int)) hd hg ?_ ?_ ?_ m3 (r2.del hg.rise) h.inP h.inM).mono fun _ h => .inl h⟩, (ho.foot h).trans t2⟩
   ·rw [hgr.block p (ge_ ho.head).1 (fun e => h.ne (Option.some.inj e))]
    exact ho.head
   ·have := HK.out
    unfold St.free; omega
   ·omega
 ·rw [if_pos ht]
  obtain ⟨z, hz⟩ := nm_ (touchS S n); rw [<- hz] at hr ht |-; have HS := act_same h z; clear hz; go_enter Tryz.func36, Tryz.ntmps36; go_wp2_with (first | (go_at_call 72; refine hr.mono ?_; rintro e w' ⟨rfl, rfl⟩))
  go_ret; exact HS
/-! ### Read -/
theorem read_any (h : DiskIn w F p mb V lf S) (n : Bs) (hs : ∀ b, findF n S.fs = some b -> b.length <= 140737488355328) :
  Calls Tryz.prog 35 #[ptr p, .string (SL n)] w fun e w' => ∃ v, e = .returned (.tuple #[v, err (readS S n).1]) /\ w'.ownsRow w.heap.size 5 1 v (readS S n).2.length ((readS S n).2.map B8) /\ Below w.heap.size w w' := by
 obtain ⟨c0, _⟩ := head_cells h.head; have hm := made_any c0; have hb := mayBe_any n w; unfold readS
 cases hN : named n with
 | false =>
  rw [hN] at hb; go_enter Tryz.func35, Tryz.ntmps35; go_wp2_with (first | (go_at_call 54; refine hm.mono ?_; rintro e w' ⟨rfl, rfl⟩) | (go_at_call 71; refine hb.mono ?_; rintro e w' ⟨rfl, rfl⟩))
  go_ret2; exact ⟨_, rfl, World.ownsRow_nil _ _ _ _, Below.refl _ _⟩
 | true =>
  rw [hN] at hb; have hnl := (named_le hN).1; have hl := h.map.look (n := n) (by unfold maxLen; omega)
  rw [es_find, es_there] at hl
  cases hf : findF n S.fs with
  | none =>
   have e1 : thereF n S.fs = false := by simp [thereF, hf]
   rw [hf, e1] at hl; go_enter Tryz.func35, Tryz.ntmps35; go_wp2_with (first | (go_at_call 54; refine hm.mono ?_; rintro e w' ⟨rfl, rfl⟩) | (go_at_call 71; refine hb.mono ?_; rintro e w' ⟨rfl, rfl⟩))
   go_ret2; exact ⟨_, rfl, World.ownsRow_nil _ _ _ _, Below.refl _ _⟩
  | some b =>
   have e1 : thereF n S.fs = true := by simp [thereF, hf]
   rw [hf, e1, Option.map_some, Option.getD_some] at hl; obtain ⟨ao, cap, B, hV, hsrc, _⟩ := src_of_own (h.rows.own n b hf); rw [hV] at hl; have hc := clone_any ao cap b B 0 w hsrc (hs b hf); have HC := h_ hc; clear hc hf hV; go_enter Tryz.func35, Tryz.ntmps35; go_wp2_with (first | (go_at_call 54; refine hm.mono ?_; rintro e w' ⟨rfl, rfl⟩) | (go_at_call 71; refine hb.mono ?_; rintro e w' ⟨rfl, rfl⟩) | (go_at_call 61; refine HC.out.mono ?_; rintro e w' ⟨v, rfl, h1, h2⟩))
   go_ret2; exact ⟨_, rfl, h1, h2⟩
end
end
section
open Go.RowKit
def Unmade (w : World) (x : Value) : Prop := ∀ m, Calls Tryz.prog 54 #[x] (w.drewN m) fun e w' => e = .returned (.bool false) /\ w' = w.drewN m
theorem Unmade.one {w : World} {x : Value} (h : Unmade w x) : Calls Tryz.prog 54 #[x] w fun e w' => e = .returned (.bool false) /\ w' = w := h 0
theorem unmade_nil (w : World) : Unmade w (.pointer none) := fun m => by
 go_enter Tryz.func54, Tryz.ntmps54; go_wp2; go_ret; exact ⟨rfl, rfl⟩
section
variable {w : World} {x : Value}
theorem unmade_names (h : Unmade w x) : Calls Tryz.prog 60 #[x] w fun e w' => e = .returned (.slice none 0 0) /\ w' = w := by
 have H := h.one; go_enter Tryz.func60, Tryz.ntmps60; go_wp2_with (go_at_call 54; refine H.mono ?_; rintro e _ ⟨rfl, rfl⟩)
 go_ret; exact ⟨rfl, rfl⟩
theorem unmade_read (h : Unmade w x) (s : Value) : Calls Tryz.prog 35 #[x, s] w fun e w' => e = .returned (.tuple #[.slice none 0 0, err 1]) /\ w' = w := by
 have H := h.one; go_enter Tryz.func35, Tryz.ntmps35; go_wp2_with (go_at_call 54; refine H.mono ?_; rintro e _ ⟨rfl, rfl⟩)
 go_ret2; exact ⟨rfl, rfl⟩
end
end
end Go.Proofs.YtomgijcbekjlaaaGreat
