/- What the proofs stand on: RefId, RefDec0, RefDecS, RefDec4, RefDecN. -/
import Derived.Test.YtomgijcbekjlaaaGreatP22
import Derived.Test.YtomgijcbekjlaaaGreatP18
import Derived.Test.YtomgijcbekjlaaaGreatP9
import Derived.Test.YtomgijcbekjlaaaGreatP0
import Derived.Deep.RegionHeld3
import Derived.Test.YtomgijcbekjlaaaGreatPB0
import Derived.Test.YtomgijcbekjlaaaGreatPB1
set_option maxRecDepth 100000
set_option maxHeartbeats 40000000
namespace Go.Proofs.YtomgijcbekjlaaaGreat
section
open Go.RowKit
def bytesO (o : ObjR) : OB := if okO o = true then encO o else []
theorem kind_of_ok {o : ObjR} (h : okO o = true) : o.kind = 1 \/ o.kind = 2 \/ o.kind = 3 \/ o.kind = 4 := by
 by_cases h1 : o.kind = 1
 ·exact .inl h1
 by_cases h2 : o.kind = 2
 ·exact .inr (.inl h2)
 by_cases h3 : o.kind = 3
 ·exact .inr (.inr (.inl h3))
 by_cases h4 : o.kind = 4
 ·exact .inr (.inr (.inr h4))
 rw [ok_kind h1 h2 h3 h4] at h
 cases h
theorem refEncode_any (F : Nat -> Prop) (o : ObjR) (dv ev uv : Value) (w : World) (h : ObjIn w F o dv ev uv) (hf : ObjFits o) :
  Calls Tryz.prog 11 #[objV o dv ev uv] w fun e w' => ∃ v, e = .returned (.tuple #[v, .int .i64 (errO o)]) /\ OutAt w.heap.size w' v (bytesO o) /\ Below w.heap.size w w' := by
 cases hok : okO o with
 | false =>
  have e1 : errO o = 1 := by unfold errO; rw [hok]; rfl
  have e2 : bytesO o = [] := by unfold bytesO; rw [hok]; rfl
  rw [e1, e2]; refine (refEncode_no F o dv ev uv w h hf hok).mono ?_; rintro e w' ⟨he, hb⟩; exact ⟨_, he, World.ownsRow_nil _ _ _ _, hb⟩
 | true =>
  have e1 : errO o = 0 := by unfold errO; rw [hok]; rfl
  have e2 : bytesO o = encO o := by unfold bytesO; rw [hok]; rfl
  rw [e1, e2]; rcases kind_of_ok hok with hk | hk | hk | hk
  ·exact refEncode_1 F o dv ev uv w h hf hok hk
  ·exact refEncode_2 F o dv ev uv w h hf hok hk
  ·exact refEncode_3 F o dv ev uv w h hf hok hk
  ·exact refEncode_4 F o dv ev uv w h hf hok hk
theorem enc_length {o : ObjR} (h : okO o = true) : (encO o).length <= 1100000 := by
 rcases ok_cases h with ⟨d, hd, rfl⟩ | ⟨l, hl, rfl⟩ | ⟨e, h1, h2, h3⟩ | ⟨e, h1, h2, h2', h3⟩
 ·show (UInt8.ofNat 1 :: d).length <= _
  rw [List.length_cons]; omega
 ·obtain ⟨k1, k2⟩ := ents_is hl
  have h2 : ∀ l : List EntR, l.all entB = true -> ((l.map entL).flatten).length <= 142 * l.length := fun l => by
   induction l with
   | nil => intro _; simp
   | cons a r ih =>
    intro h
    rw [List.all_cons, Bool.and_eq_true] at h; have h3 := ih h.2; have h4 := h.1; unfold entB partB at h4; simp only [Bool.and_eq_true, decide_eq_true_eq] at h4; have h5 := numL_le a.nm.length; have h6 : (entL a).length = (numL a.nm.length).length + a.nm.length + (1 + a.id.length) := by
     unfold entL txtL; simp only [List.length_append, List.length_cons]; omega
    rw [List.map_cons, List.flatten_cons, List.length_append, List.length_cons, h6]; omega
  have h3 := h2 l k1; have h4 := numL_le l.length; show (UInt8.ofNat 2 :: (numL l.length ++ (l.map entL).flatten)).length <= _
  rw [List.length_cons, List.length_append]; omega
 ·obtain ⟨k1, k2⟩ := ups_is h2
  have h4 : ∀ l : List OB, l.all (fun u => decide (u.length = 32)) = true -> l.flatten.length = 32 * l.length := fun l => by
   induction l with
   | nil => intro _; rfl
   | cons a r ih =>
    intro h
    rw [List.all_cons, Bool.and_eq_true, decide_eq_true_eq] at h; rw [List.flatten_cons, List.length_append, ih h.2, h.1, List.length_cons]; omega
  have h5 := h4 o.ups k1; obtain ⟨t1, t2, t3, t4⟩ := told_is h3; have q1 := numL_le o.ups.length; have q2 := numL_le o.who.length; have q3 := numL_le o.stamp.toNat; have q4 := numL_le o.text.length; have hk : o.kind = 3 := by rw [e]; rfl
  have hb : bodyL o = o.tree ++ (numL o.ups.length ++ (o.ups.flatten ++ tailO o)) := by unfold bodyL; rw [hk]; rfl
  unfold encO; rw [hb, List.length_cons]; unfold tailO txtL; simp only [List.length_append]; omega
 ·obtain ⟨t1, t2, t3, t4⟩ := told_is h3
  have q1 := numL_le o.name.length; have q2 := numL_le o.who.length; have q3 := numL_le o.stamp.toNat; have q4 := numL_le o.text.length; have hk : o.kind = 4 := by rw [e]; rfl
  have hb : bodyL o = o.target ++ (txtL o.name ++ tailO o) := by unfold bodyL; rw [hk]; rfl
  unfold encO; rw [hb, List.length_cons]; unfold tailO txtL; simp only [List.length_append]; omega
end
section
open Go.RowKit
theorem rdBytes_le {n : Nat} {s : RS} : (rdBytes n s).2.1.length <= s.1.length := by
 unfold rdBytes; split
 ·exact Nat.le_refl _
 ·simp
theorem rdBytes_bad {n : Nat} {s : RS} (h : s.2 = true) : (rdBytes n s).2.2 = true := by
 unfold rdBytes; split
 ·rfl
 ·exact h
theorem rdBytes_eat {n : Nat} {s : RS} : (rdBytes n s).2.2 = true \/ (rdBytes n s).2.1.length + n <= s.1.length := by
 unfold rdBytes; split
 ·exact .inl rfl
 ·right
  simp; omega
theorem rdBytes_len {n : Nat} {s : RS} : (rdBytes n s).1.length <= n := by
 unfold rdBytes; split
 ·exact Nat.zero_le _
 ·simp only [List.length_take]
  exact Nat.min_le_left _ _
theorem rdNum_le {s : RS} : (rdNum s).2.1.length <= s.1.length := by
 unfold rdNum
 cases parse s.1 with
 | none => exact Nat.le_refl _
 | some p => simp
theorem rdNum_max {s : RS} : (rdNum s).1 <= 4611686018427387903 := by
 unfold rdNum; rcases parse_cases s.1 with hp | ⟨n, rest, hn, he⟩
 ·simp only [hp]
  omega
 ·rw [he]
  simp only [parse_numL n rest hn]; exact hn
theorem rdText_le {s : RS} : (rdText s).2.1.length <= s.1.length := by
 unfold rdText
 cases parse s.1 with
 | none => exact Nat.le_refl _
 | some p =>
  simp only
  split
  ·exact Nat.le_refl _
  ·simp
theorem rdText_len {s : RS} : (rdText s).1.length <= 1048576 := by
 unfold rdText
 cases parse s.1 with
 | none => exact Nat.zero_le _
 | some p =>
  simp only
  split
  ·exact Nat.zero_le _
  ·rename_i h
   simp only [List.length_take]; omega
theorem rdEnt_le {s : RS} : (rdEnt s).2.1.length <= s.1.length := Nat.le_trans rdBytes_le (Nat.le_trans rdBytes_le rdText_le)
theorem rdEnt_eat {s : RS} : (rdEnt s).2.2 = true \/ (rdEnt s).2.1.length + 33 <= s.1.length := by
 show (rdBytes 32 (rdBytes 1 (rdText s).2).2).2.2 = true \/ (rdBytes 32 (rdBytes 1 (rdText s).2).2).2.1.length + 33 <= s.1.length
 have h1 := rdText_le (s := s)
 rcases rdBytes_eat (n := 1) (s := (rdText s).2) with h | h
 ·exact .inl (rdBytes_bad h)
 ·rcases rdBytes_eat (n := 32) (s := (rdBytes 1 (rdText s).2).2) with k | k
  ·exact .inl k
  ·right; omega
theorem rdEnts_bad {n : Nat} {s : RS} (h : s.2 = true) : rdEnts n s = ([], s) := by
 cases n with
 | zero => rfl
 | succ n => unfold rdEnts; rw [if_pos h]
theorem rdUps_bad {n : Nat} {s : RS} (h : s.2 = true) : rdUps n s = ([], s) := by
 cases n with
 | zero => rfl
 | succ n => unfold rdUps; rw [if_pos h]
theorem rdEnts_next {n : Nat} {s : RS} (h : ¬ s.2 = true) : rdEnts (n + 1) s = ((rdEnt s).1 :: (rdEnts n (rdEnt s).2).1, (rdEnts n (rdEnt s).2).2) := by
 rw [rdEnts, if_neg h]
theorem rdUps_next {n : Nat} {s : RS} (h : ¬ s.2 = true) : rdUps (n + 1) s = ((rdBytes 32 s).1 :: (rdUps n (rdBytes 32 s).2).1, (rdUps n (rdBytes 32 s).2).2) := by
 rw [rdUps, if_neg h]
theorem rdEnts_fits : ∀ (n : Nat) (s : RS), (rdEnts n s).1.length * 33 <= s.1.length + 33 /\ (rdEnts n s).2.1.length <= s.1.length /\ ∀ e ∈ (rdEnts n s).1, e.nm.length <= 9223372036854775807 /\ e.id.length <= 9223372036854775807
 | 0, s => ⟨by simp [rdEnts], Nat.le_refl _, fun e he => by simp [rdEnts] at he⟩
 | n + 1, s => by
  by_cases hb : s.2 = true
  ·rw [rdEnts_bad hb]
   exact ⟨by simp, Nat.le_refl _, fun e he => by simp at he⟩
  ·rw [rdEnts_next hb]
   have ih := rdEnts_fits n (rdEnt s).2; refine ⟨?_, Nat.le_trans ih.2.1 rdEnt_le, fun e he => ?_⟩
   ·simp only [List.length_cons]
    rcases rdEnt_eat (s := s) with h | h
    ·rw [rdEnts_bad h]
     simp
    ·have := ih.1
     omega
   ·rcases List.mem_cons.1 he with rfl | he
    ·have h1 : (rdEnt s).1.nm.length <= 1048576 := rdText_len
     have h2 : (rdEnt s).1.id.length <= 32 := rdBytes_len
     exact ⟨by omega, by omega⟩
    ·exact ih.2.2 e he
theorem rdUps_fits : ∀ (n : Nat) (s : RS), (rdUps n s).1.length * 32 <= s.1.length + 32 /\ (rdUps n s).2.1.length <= s.1.length /\ ∀ t ∈ (rdUps n s).1, t.length <= 9223372036854775807
 | 0, s => ⟨by simp [rdUps], Nat.le_refl _, fun e he => by simp [rdUps] at he⟩
 | n + 1, s => by
  by_cases hb : s.2 = true
  ·rw [rdUps_bad hb]
   exact ⟨by simp, Nat.le_refl _, fun e he => by simp at he⟩
  ·rw [rdUps_next hb]
   have ih := rdUps_fits n (rdBytes 32 s).2; refine ⟨?_, Nat.le_trans ih.2.1 rdBytes_le, fun t ht => ?_⟩
   ·simp only [List.length_cons]
    rcases rdBytes_eat (n := 32) (s := s) with h | h
    ·rw [rdUps_bad h]
     simp
    ·have := ih.1
     omega
   ·rcases List.mem_cons.1 ht with rfl | ht
    ·have h2 : (rdBytes 32 s).1.length <= 32 := rdBytes_len
     omega
    ·exact ih.2.2 t ht
theorem fits_zero (k : Int) : ObjFits (zeroO k) := ⟨Nat.zero_le _, (fun e he => by cases he), Nat.zero_le _, (fun t ht => by cases ht)⟩
theorem rdO_fits (k : Nat) (r : OB) (hr : r.length <= 140737488355328) : ObjFits (rdO k r).1 := by
 unfold rdO; split
 ·exact ⟨Nat.zero_le _, (fun e he => by cases he), Nat.zero_le _, (fun t ht => by cases ht)⟩
 ·split
  ·have h := rdEnts_fits (rdNum (r, false)).1 (rdNum (r, false)).2
   have h2 : (rdNum (r, false)).2.1.length <= r.length := rdNum_le (s := (r, false))
   refine ⟨?_, h.2.2, Nat.zero_le _, (fun t ht => by cases ht)⟩
   show (rdEnts (rdNum (r, false)).1 (rdNum (r, false)).2).1.length <= _
   have := h.1
   omega
  ·split
   ·have h := rdUps_fits (rdNum (rdBytes 32 (r, false)).2).1 (rdNum (rdBytes 32 (r, false)).2).2
    have h2 : (rdNum (rdBytes 32 (r, false)).2).2.1.length <= r.length := Nat.le_trans rdNum_le (rdBytes_le (s := (r, false)))
    refine ⟨Nat.zero_le _, (fun e he => by cases he), ?_, h.2.2⟩
    show (rdUps (rdNum (rdBytes 32 (r, false)).2).1 (rdNum (rdBytes 32 (r, false)).2).2).1.length <= _
    have := h.1
    omega
   ·split
    ·exact ⟨Nat.zero_le _, (fun e he => by cases he), Nat.zero_le _, (fun t ht => by cases ht)⟩
    ·exact fits_zero _
/-! ### In memory -/
def objC (o : ObjR) (dv ev uv : Value) : Array Value := #[.int .i64 o.kind, dv, ev, .string (SL o.tree), uv, .string (SL o.target), .string (SL o.name), .string (SL o.who), .int .i64 o.stamp, .string (SL o.text)]
structure DecSt (w0 : World) (q p x : Nat) (G : Nat -> Prop) (s : RS) (cs : Array Value) (w : World) : Prop where
 res : w.heap[q]? = some (.cells (objC (zeroO 0) (.slice none 0 0) (.slice none 0 0) (.slice none 0 0)) 33 (0, 0))
 rd : RdG G w p s
 obj : w.heap[x]? = some (.cells cs 33 (0, 0))
 below : Below q w0 w
 qp : q < p
 px : p < x
 out : G x
theorem DecSt.lt {w0 w : World} {q p x : Nat} {G : Nat -> Prop} {s : RS} {cs : Array Value} (h : DecSt w0 q p x G s cs w) : x < w.heap.size := (ge_ h.obj).1
theorem DecSt.step {w0 w w' : World} {q p x : Nat} {G : Nat -> Prop} {s s' : RS} {cs : Array Value} (h : DecSt w0 q p x G s cs w) (r : RdG G w' p s') (t : Turn (fun k => k = p) w w') : DecSt w0 q p x G s' cs w' :=
 ⟨t.keep h.res (fun e => by have := h.qp; omega), r, t.keep h.obj (fun e => by have := h.px; omega), h.below.trans (t.below (Nat.le_of_lt (Nat.lt_trans (Nat.lt_trans h.qp h.px) h.lt)) (fun k e => by have := h.qp; omega)), h.qp, h.px, h.out⟩
theorem RdG.turn {G H : Nat -> Prop} {w w' : World} {p : Nat} {s : RS} (h : RdG G w p s) (t : Turn H w w') (hp : ¬ H p) (hH : ∀ k, H k -> G k) : RdG G w' p s := by
 obtain ⟨ao, cap, B, off, h1, h2, h3⟩ := h; exact ⟨ao, cap, B, off, t.keep h1 hp, h2.turn t (fun hb hk => (h3 hb).2 (hH _ hk)), h3⟩
theorem DecSt.set {w0 w : World} {q p x : Nat} {G : Nat -> Prop} {s : RS} {cs : Array Value} (h : DecSt w0 q p x G s cs w) (i : Nat) (v : Value) : DecSt w0 q p x G s (cs.setIfInBounds i v) (w.setCell ⟨x, i, none⟩ v) := by
 have t : Turn (fun k => k = x) w (w.setCell ⟨x, i, none⟩ v) := Turn.setCell w _ v rfl
 exact ⟨t.keep h.res (fun e => by have := h.qp; have := h.px; omega), h.rd.turn t (fun e => by have := h.px; omega) (fun k e => by rw [e]; exact h.out), heap_setCell_same w x i _ _ _ h.obj, h.below.trans (t.below (Nat.le_of_lt (Nat.lt_trans (Nat.lt_trans h.qp h.px) h.lt)) (fun k e => by have := h.qp; have := h.px; omega)), h.qp, h.px, h.out⟩
theorem DecSt.low {w0 w w' : World} {q p x : Nat} {G : Nat -> Prop} {s : RS} {cs : Array Value} (h : DecSt w0 q p x G s cs w) {H : Nat -> Prop} (t : Turn H w w') (hH : ∀ k, H k -> x < k /\ G k) : DecSt w0 q p x G s cs w' :=
 ⟨t.keep h.res (fun e => by have := (hH _ e).1; have := h.qp; have := h.px; omega), h.rd.turn t (fun e => by have := (hH _ e).1; have := h.px; omega) (fun k e => (hH k e).2), t.keep h.obj (fun e => by have := (hH _ e).1; omega), h.below.trans (t.below (Nat.le_of_lt (Nat.lt_trans (Nat.lt_trans h.qp h.px) h.lt)) (fun k e => by have := (hH _ e).1; have := h.qp; have := h.px; omega)), h.qp, h.px, h.out⟩
theorem DecSt.more {w0 w : World} {q p x : Nat} {G G' : Nat -> Prop} {s : RS} {cs : Array Value} (h : DecSt w0 q p x G s cs w) (hG : ∀ k, k < w.heap.size -> G' k -> G k) (hx : G' x) : DecSt w0 q p x G' s cs w := by
 obtain ⟨ao, cap, B, off, h1, h2, h3⟩ := h.rd; exact ⟨h.res, ⟨ao, cap, B, off, h1, h2, fun hb => ⟨(h3 hb).1, fun hk => (h3 hb).2 (hG _ (h2.old hb) hk)⟩⟩, h.obj, h.below, h.qp, h.px, hx⟩
theorem set_row {w : World} {q i : Nat} {cs : Array Value} {t : TypeId} {v : Value} (h : w.heap[q]? = some (.cells cs t (0, 0))) (cs' : Array Value) (e : cs.setIfInBounds i v = cs') : (w.setCell ⟨q, i, none⟩ v).heap[q]? = some (.cells cs' t (0, 0)) := by
 rw [<- e]; exact heap_setCell_same _ q i _ _ _ h
theorem ten_set (w : World) (q : Nat) (t : TypeId) (z0 z1 z2 z3 z4 z5 z6 z7 z8 z9 v0 v1 v2 v3 v4 v5 v6 v7 v8 v9 : Value) (h : w.heap[q]? = some (.cells #[z0, z1, z2, z3, z4, z5, z6, z7, z8, z9] t (0, 0))) :
  ((((((((((w.setCell ⟨q, 0, none⟩ v0).setCell ⟨q, 1, none⟩ v1).setCell ⟨q, 2, none⟩ v2).setCell ⟨q, 3, none⟩ v3).setCell ⟨q, 4, none⟩ v4).setCell ⟨q, 5, none⟩ v5).setCell ⟨q, 6, none⟩ v6).setCell ⟨q, 7, none⟩ v7).setCell ⟨q, 8, none⟩ v8).setCell ⟨q, 9, none⟩ v9).heap[q]? = some (.cells #[v0, v1, v2, v3, v4, v5, v6, v7, v8, v9] t (0, 0))
  /\ Turn (fun k => k = q) w ((((((((((w.setCell ⟨q, 0, none⟩ v0).setCell ⟨q, 1, none⟩ v1).setCell ⟨q, 2, none⟩ v2).setCell ⟨q, 3, none⟩ v3).setCell ⟨q, 4, none⟩ v4).setCell ⟨q, 5, none⟩ v5).setCell ⟨q, 6, none⟩ v6).setCell ⟨q, 7, none⟩ v7).setCell ⟨q, 8, none⟩ v8).setCell ⟨q, 9, none⟩ v9) := by
 have g0 := set_row (i := 0) (v := v0) h #[v0, z1, z2, z3, z4, z5, z6, z7, z8, z9] rfl
 have g1 := set_row (i := 1) (v := v1) g0 #[v0, v1, z2, z3, z4, z5, z6, z7, z8, z9] rfl
 have g2 := set_row (i := 2) (v := v2) g1 #[v0, v1, v2, z3, z4, z5, z6, z7, z8, z9] rfl
 have g3 := set_row (i := 3) (v := v3) g2 #[v0, v1, v2, v3, z4, z5, z6, z7, z8, z9] rfl
 have g4 := set_row (i := 4) (v := v4) g3 #[v0, v1, v2, v3, v4, z5, z6, z7, z8, z9] rfl
 have g5 := set_row (i := 5) (v := v5) g4 #[v0, v1, v2, v3, v4, v5, z6, z7, z8, z9] rfl
 have g6 := set_row (i := 6) (v := v6) g5 #[v0, v1, v2, v3, v4, v5, v6, z7, z8, z9] rfl
 have g7 := set_row (i := 7) (v := v7) g6 #[v0, v1, v2, v3, v4, v5, v6, v7, z8, z9] rfl
 have g8 := set_row (i := 8) (v := v8) g7 #[v0, v1, v2, v3, v4, v5, v6, v7, v8, z9] rfl
 have g9 := set_row (i := 9) (v := v9) g8 #[v0, v1, v2, v3, v4, v5, v6, v7, v8, v9] rfl
 refine ⟨g9, ?_⟩; have s : ∀ (W : World) (i : Nat) (v : Value), Turn (fun k => k = q) W (W.setCell ⟨q, i, none⟩ v) := fun W i v => Turn.setCell W _ v rfl
 exact (((((((((s _ _ _).trans (s _ _ _)).trans (s _ _ _)).trans (s _ _ _)).trans (s _ _ _)).trans (s _ _ _)).trans (s _ _ _)).trans (s _ _ _)).trans (s _ _ _)).trans (s _ _ _)
theorem zero_set (y : World) (q : Nat) (v0 v1 v2 v3 v4 v5 v6 v7 v8 v9 : Value) (qr : y.heap[q]? = some (.cells #[.int .i64 0, .slice none 0 0, .slice none 0 0, .string ⟨#[]⟩, .slice none 0 0, .string ⟨#[]⟩, .string ⟨#[]⟩, .string ⟨#[]⟩, .int .i64 0, .string ⟨#[]⟩] 33 (0, 0))) :
  (loadVar 33 ⟨q, 0, none⟩).run Tryz.prog ((((((((((y.setCell ⟨q, 0, none⟩ v0).setCell ⟨q, 1, none⟩ v1).setCell ⟨q, 2, none⟩ v2).setCell ⟨q, 3, none⟩ v3).setCell ⟨q, 4, none⟩ v4).setCell ⟨q, 5, none⟩ v5).setCell ⟨q, 6, none⟩ v6).setCell ⟨q, 7, none⟩ v7).setCell ⟨q, 8, none⟩ v8).setCell ⟨q, 9, none⟩ v9) = .ok (.agg #[v0, v1, v2, v3, v4, v5, v6, v7, v8, v9]) ((((((((((y.setCell ⟨q, 0, none⟩ v0).setCell ⟨q, 1, none⟩ v1).setCell ⟨q, 2, none⟩ v2).setCell ⟨q, 3, none⟩ v3).setCell ⟨q, 4, none⟩ v4).setCell ⟨q, 5, none⟩ v5).setCell ⟨q, 6, none⟩ v6).setCell ⟨q, 7, none⟩ v7).setCell ⟨q, 8, none⟩ v8).setCell ⟨q, 9, none⟩ v9) /\ Turn (fun k => k = q) y ((((((((((y.setCell ⟨q, 0, none⟩ v0).setCell ⟨q, 1, none⟩ v1).setCell ⟨q, 2, none⟩ v2).setCell ⟨q, 3, none⟩ v3).setCell ⟨q, 4, none⟩ v4).setCell ⟨q, 5, none⟩ v5).setCell ⟨q, 6, none⟩ v6).setCell ⟨q, 7, none⟩ v7).setCell ⟨q, 8, none⟩ v8).setCell ⟨q, 9, none⟩ v9) :=
 have g := ten_set y q 33 (.int .i64 0) (.slice none 0 0) (.slice none 0 0) (.string ⟨#[]⟩) (.slice none 0 0) (.string ⟨#[]⟩) (.string ⟨#[]⟩) (.string ⟨#[]⟩) (.int .i64 0) (.string ⟨#[]⟩) v0 v1 v2 v3 v4 v5 v6 v7 v8 v9 qr
 ⟨run_loadVar_row (P := Tryz.prog) _ q 33 33 #[v0, v1, v2, v3, v4, v5, v6, v7, v8, v9] (0, 0) _ g.1 Tryz.underlying33 rfl (by kernel_rfl), g.2⟩
theorem zero_load {y : World} {q : Nat} (qr : y.heap[q]? = some (.cells #[.int .i64 0, .slice none 0 0, .slice none 0 0, .string ⟨#[]⟩, .slice none 0 0, .string ⟨#[]⟩, .string ⟨#[]⟩, .string ⟨#[]⟩, .int .i64 0, .string ⟨#[]⟩] 33 (0, 0))) :
  (loadVar 33 ⟨q, 0, none⟩).run Tryz.prog ((((((((((y.setCell ⟨q, 0, none⟩ (.int .i64 0)).setCell ⟨q, 1, none⟩ (.slice none 0 0)).setCell ⟨q, 2, none⟩ (.slice none 0 0)).setCell ⟨q, 3, none⟩ (.string ⟨#[]⟩)).setCell ⟨q, 4, none⟩ (.slice none 0 0)).setCell ⟨q, 5, none⟩ (.string ⟨#[]⟩)).setCell ⟨q, 6, none⟩ (.string ⟨#[]⟩)).setCell ⟨q, 7, none⟩ (.string ⟨#[]⟩)).setCell ⟨q, 8, none⟩ (.int .i64 0)).setCell ⟨q, 9, none⟩ (.string ⟨#[]⟩)) = .ok (.agg #[.int .i64 0, .slice none 0 0, .slice none 0 0, .string ⟨#[]⟩, .slice none 0 0, .string ⟨#[]⟩, .string ⟨#[]⟩, .string ⟨#[]⟩, .int .i64 0, .string ⟨#[]⟩]) ((((((((((y.setCell ⟨q, 0, none⟩ (.int .i64 0)).setCell ⟨q, 1, none⟩ (.slice none 0 0)).setCell ⟨q, 2, none⟩ (.slice none 0 0)).setCell ⟨q, 3, none⟩ (.string ⟨#[]⟩)).setCell ⟨q, 4, none⟩ (.slice none 0 0)).setCell ⟨q, 5, none⟩ (.string ⟨#[]⟩)).setCell ⟨q, 6, none⟩ (.string ⟨#[]⟩)).setCell ⟨q, 7, none⟩ (.string ⟨#[]⟩)).setCell ⟨q, 8, none⟩ (.int .i64 0)).setCell ⟨q, 9, none⟩ (.string ⟨#[]⟩)) /\ Turn (fun k => k = q) y ((((((((((y.setCell ⟨q, 0, none⟩ (.int .i64 0)).setCell ⟨q, 1, none⟩ (.slice none 0 0)).setCell ⟨q, 2, none⟩ (.slice none 0 0)).setCell ⟨q, 3, none⟩ (.string ⟨#[]⟩)).setCell ⟨q, 4, none⟩ (.slice none 0 0)).setCell ⟨q, 5, none⟩ (.string ⟨#[]⟩)).setCell ⟨q, 6, none⟩ (.string ⟨#[]⟩)).setCell ⟨q, 7, none⟩ (.string ⟨#[]⟩)).setCell ⟨q, 8, none⟩ (.int .i64 0)).setCell ⟨q, 9, none⟩ (.string ⟨#[]⟩)) := zero_set y q (.int .i64 0) (.slice none 0 0) (.slice none 0 0) (.string ⟨#[]⟩) (.slice none 0 0) (.string ⟨#[]⟩) (.string ⟨#[]⟩) (.string ⟨#[]⟩) (.int .i64 0) (.string ⟨#[]⟩) qr
theorem DecSt.zrow {w0 w : World} {q p x : Nat} {G : Nat -> Prop} {s : RS} {cs : Array Value} (h : DecSt w0 q p x G s cs w) : w.heap[q]? = some (.cells #[.int .i64 0, .slice none 0 0, .slice none 0 0, .string ⟨#[]⟩, .slice none 0 0, .string ⟨#[]⟩, .string ⟨#[]⟩, .string ⟨#[]⟩, .int .i64 0, .string ⟨#[]⟩] 33 (0, 0)) := h.res
theorem dec_c0 {w : World} {B off : Nat} {v : Value} (al : Option Addr) (m cap : Nat) (hold : B < w.heap.size) (hc0 : w.cell? ⟨B, off, none⟩ = some v) : ((w.alloc (.cells #[.int .i64 0, .slice none 0 0, .slice none 0 0, .string ⟨#[]⟩, .slice none 0 0, .string ⟨#[]⟩, .string ⟨#[]⟩, .string ⟨#[]⟩, .int .i64 0, .string ⟨#[]⟩] 33)).alloc (.cells #[.slice al m (cap - 1), .bool false] 139)).cell? ⟨B, off, none⟩ = some v :=
 ((((Below.refl w.heap.size w).alloc (Nat.le_refl _) _).alloc (by simp) _).cell (p := ⟨B, off, none⟩) hold).trans hc0
theorem dec_st (w : World) (K : Int) (al : Option Addr) (m cap B off : Nat) (r : OB) (hm : m = r.length) (sl : SrcAt w al (cap - 1) r B (off + 1)) (hold : B < w.heap.size) (W3 : World) (hW3 : W3 = ((w.alloc (.cells #[.int .i64 0, .slice none 0 0, .slice none 0 0, .string ⟨#[]⟩, .slice none 0 0, .string ⟨#[]⟩, .string ⟨#[]⟩, .string ⟨#[]⟩, .int .i64 0, .string ⟨#[]⟩] 33)).alloc (.cells #[.slice al m (cap - 1), .bool false] 139)).alloc (.cells #[.int .i64 K, .slice none 0 0, .slice none 0 0, .string ⟨#[]⟩, .slice none 0 0, .string ⟨#[]⟩, .string ⟨#[]⟩, .string ⟨#[]⟩, .int .i64 0, .string ⟨#[]⟩] 33)) : DecSt w w.heap.size (w.heap.size + 1) (w.heap.size + 1 + 1) (fun k => k = w.heap.size + 1 + 1) (r, false) (objC (zeroO K) (.slice none 0 0) (.slice none 0 0) (.slice none 0 0)) W3 := by
 have b1 : Below w.heap.size w (w.alloc (.cells #[.int .i64 0, .slice none 0 0, .slice none 0 0, .string ⟨#[]⟩, .slice none 0 0, .string ⟨#[]⟩, .string ⟨#[]⟩, .string ⟨#[]⟩, .int .i64 0, .string ⟨#[]⟩] 33)) := (Below.refl _ _).alloc (Nat.le_refl _) _; have b2 : Below w.heap.size w ((w.alloc (.cells #[.int .i64 0, .slice none 0 0, .slice none 0 0, .string ⟨#[]⟩, .slice none 0 0, .string ⟨#[]⟩, .string ⟨#[]⟩, .string ⟨#[]⟩, .int .i64 0, .string ⟨#[]⟩] 33)).alloc (.cells #[.slice al m (cap - 1), .bool false] 139)) := b1.alloc b1.size _; have s1 : (w.alloc (.cells #[.int .i64 0, .slice none 0 0, .slice none 0 0, .string ⟨#[]⟩, .slice none 0 0, .string ⟨#[]⟩, .string ⟨#[]⟩, .string ⟨#[]⟩, .int .i64 0, .string ⟨#[]⟩] 33)).heap.size = w.heap.size + 1 := by simp
 have s2 : ((w.alloc (.cells #[.int .i64 0, .slice none 0 0, .slice none 0 0, .string ⟨#[]⟩, .slice none 0 0, .string ⟨#[]⟩, .string ⟨#[]⟩, .string ⟨#[]⟩, .int .i64 0, .string ⟨#[]⟩] 33)).alloc (.cells #[.slice al m (cap - 1), .bool false] 139)).heap.size = w.heap.size + 1 + 1 := by simp
 have d2 : Below (w.heap.size + 1) (w.alloc (.cells #[.int .i64 0, .slice none 0 0, .slice none 0 0, .string ⟨#[]⟩, .slice none 0 0, .string ⟨#[]⟩, .string ⟨#[]⟩, .string ⟨#[]⟩, .int .i64 0, .string ⟨#[]⟩] 33)) ((w.alloc (.cells #[.int .i64 0, .slice none 0 0, .slice none 0 0, .string ⟨#[]⟩, .slice none 0 0, .string ⟨#[]⟩, .string ⟨#[]⟩, .string ⟨#[]⟩, .int .i64 0, .string ⟨#[]⟩] 33)).alloc (.cells #[.slice al m (cap - 1), .bool false] 139)) := (Below.refl _ _).alloc (by simp) _
 have d3 : Below (w.heap.size + 1 + 1) ((w.alloc (.cells #[.int .i64 0, .slice none 0 0, .slice none 0 0, .string ⟨#[]⟩, .slice none 0 0, .string ⟨#[]⟩, .string ⟨#[]⟩, .string ⟨#[]⟩, .int .i64 0, .string ⟨#[]⟩] 33)).alloc (.cells #[.slice al m (cap - 1), .bool false] 139)) W3 := by rw [hW3]; exact (Below.refl _ _).alloc (by simp) _
 have x1 : (w.alloc (.cells #[.int .i64 0, .slice none 0 0, .slice none 0 0, .string ⟨#[]⟩, .slice none 0 0, .string ⟨#[]⟩, .string ⟨#[]⟩, .string ⟨#[]⟩, .int .i64 0, .string ⟨#[]⟩] 33)).heap[w.heap.size]? = some (.cells #[.int .i64 0, .slice none 0 0, .slice none 0 0, .string ⟨#[]⟩, .slice none 0 0, .string ⟨#[]⟩, .string ⟨#[]⟩, .string ⟨#[]⟩, .int .i64 0, .string ⟨#[]⟩] 33 (0, 0)) := heap_alloc_new w _
 have x2 : ((w.alloc (.cells #[.int .i64 0, .slice none 0 0, .slice none 0 0, .string ⟨#[]⟩, .slice none 0 0, .string ⟨#[]⟩, .string ⟨#[]⟩, .string ⟨#[]⟩, .int .i64 0, .string ⟨#[]⟩] 33)).alloc (.cells #[.slice al m (cap - 1), .bool false] 139)).heap[w.heap.size + 1]? = some (.cells #[.slice al m (cap - 1), .bool false] 139 (0, 0)) := by
  have := heap_alloc_new (w.alloc (.cells #[.int .i64 0, .slice none 0 0, .slice none 0 0, .string ⟨#[]⟩, .slice none 0 0, .string ⟨#[]⟩, .string ⟨#[]⟩, .string ⟨#[]⟩, .int .i64 0, .string ⟨#[]⟩] 33)) (.cells #[.slice al m (cap - 1), .bool false] 139)
  rw [s1] at this; exact this
 have x3 : W3.heap[w.heap.size + 1 + 1]? = some (.cells #[.int .i64 K, .slice none 0 0, .slice none 0 0, .string ⟨#[]⟩, .slice none 0 0, .string ⟨#[]⟩, .string ⟨#[]⟩, .string ⟨#[]⟩, .int .i64 0, .string ⟨#[]⟩] 33 (0, 0)) := by
  have := heap_alloc_new ((w.alloc (.cells #[.int .i64 0, .slice none 0 0, .slice none 0 0, .string ⟨#[]⟩, .slice none 0 0, .string ⟨#[]⟩, .string ⟨#[]⟩, .string ⟨#[]⟩, .int .i64 0, .string ⟨#[]⟩] 33)).alloc (.cells #[.slice al m (cap - 1), .bool false] 139)) (.cells #[.int .i64 K, .slice none 0 0, .slice none 0 0, .string ⟨#[]⟩, .slice none 0 0, .string ⟨#[]⟩, .string ⟨#[]⟩, .string ⟨#[]⟩, .int .i64 0, .string ⟨#[]⟩] 33)
  rw [s2, <- hW3] at this; exact this
 rw [<- s2] at d3; rw [<- s1] at d2; have bb : Below w.heap.size w W3 := b2.trans (d3.mono (by rw [s2]; omega))
 refine ⟨below_turn d3 (below_turn d2 x1), ⟨al, cap - 1, B, off + 1, by rw [<- hm]; exact below_turn d3 x2, sl.below bb, fun _ => ⟨by omega, by omega⟩⟩, x3, bb, by omega, by omega, rfl⟩
def decBad : Value := .tuple #[.agg #[.int .i64 0, .slice none 0 0, .slice none 0 0, .string ⟨#[]⟩, .slice none 0 0, .string ⟨#[]⟩, .string ⟨#[]⟩, .string ⟨#[]⟩, .int .i64 0, .string ⟨#[]⟩], .int .i64 2]
end
section
open Go.RowKit
theorem step_clone {ops : Array Oper} {o : Oper} {a : Act} {w : World} {K : Act -> World -> Prop} {Q : Exit -> Act -> World -> Prop} {E : Prop}
  (hgd : o.guard = none) (s x : Operand) (hop : o.op = Op.call { callee := Callee.builtin Builtin.append, args := #[s, x], argTypes := #[29, 29] })
  (hS : a.eval s = .slice none 0 0) (ao : Option Addr) (cp B off m : Nat) (b : OB) (hm : m = b.length) (hX : a.eval x = .slice ao m cp) (hs : SrcAt w ao cp b B off) (hl : b.length <= 140737488355328)
  (hK : ∀ a4 c4 w', Hid (BytesAt w' (fun k => w.heap.size <= k) (.slice a4 m c4) b) -> Hid (Below w.heap.size w w') -> K (a.put o.dst (.slice a4 m c4)) w') :
  if Region.wanted o (yielded ops a.tmps) = true then Oper.wp Tryz.prog o a w K Q else E := by
 refine step_append_src hgd s x hop w.heap.size _ 0 [] hS (World.ownsRow_nil _ _ _ _) ao m cp hX (b.map B8) (by rw [List.length_map]; exact hm.symm) (fun hh => by have := hs.bare hh; rw [hm]; exact this) hs.cells (B8_one _) (by omega) (Nat.le_refl _) ?_
 intro v' w' h1 h2
 have hB : Below w.heap.size w w' := (Below.refl _ _).grown h2.out (Nat.le_refl _) (fun k hk => by cases hk)
 have h3 := h1.out; rw [List.nil_append, Nat.zero_add, hm] at h3; obtain ⟨ao', c', B', rfl, s', hb'⟩ := src_of_own h3; subst hm; exact hK ao' c' w' (h_ ⟨_, _, _, _, rfl, s', hb'⟩) (h_ hB)
theorem own_where (w : World) (base : Nat) (t ty e : TypeId) (i : TypeInfo) (z : Value) (size bytes : Nat) (ht : Tryz.prog.underlying t = some (.slice e)) (hi : Tryz.prog.info? e = some i) (hz : i.zero = some z)
  (hsize : i.size = size) (hby : i.bytes = bytes) (v : Value) (n : Nat) (xs : List Value) (hown : w.ownsRow base e size v n xs)
  (a : Addr) (m c : Nat) (news : List Value) (hl : news.length = m * size) (hnews : ∀ j u, news[j]? = some u -> w.cell? (a.add j) = some u) (h1 : ∀ u ∈ news, u.oneCell' = true)
  (h63 : n + m <= maxLen) (hm : 0 < m) (hbytes : ((n + m) + (n + m) / 4 + 192) * bytes <= 281474976710656) (v' : Value) (w' : World) (hrun : (Builtin.append_ #[t, t] ty #[v, .slice (some a) m c]).run Tryz.prog w = .ok v' w') :
  ∀ k, v'.ownBlock = some k -> v.ownBlock = some k \/ k = w.heap.size := by
 intro k hk
 subst hsize; subst hby; have hsmall : n + m <= 9223372036854775807 := by simp only [maxLen] at h63; omega
 rcases hown.2 with ⟨rfl, hn0⟩ | ⟨g, cap, cur, rfl, hbg, hg, hnc, hcm, hcs, htake⟩
 ·subst hn0
  have h2 := run_append_nil (P := Tryz.prog) w t ty e i z ht hi hz a m c news hl hnews (by omega) (by omega) (by have hb := hbytes; simp only [Nat.zero_add] at hb; exact Nat.le_trans (Nat.mul_le_mul_right _ (by omega)) hb)
  have h3 := hrun.symm.trans h2; injection h3 with e1 _
  rw [e1] at hk; exact .inr (Option.some.inj hk).symm
 ·by_cases hroom : n + m <= cap
  ·have hfit : n * i.size + news.length <= cur.size := by rw [hl, hcs, <- Nat.add_mul]; exact Nat.mul_le_mul_right _ hroom
   have h2 := run_append_room (P := Tryz.prog) w t ty e i ht hi g n cap cur hg a m c news hl hnews h1 hroom hfit
   have h3 := hrun.symm.trans h2; injection h3 with e1 _
   rw [e1] at hk; exact .inl hk
  ·have holds : ∀ j u, xs[j]? = some u -> w.cell? ((⟨g, 0, none⟩ : Addr).add j) = some u := hown.cells (g := g) rfl
   have h2 := run_append_grow (P := Tryz.prog) w t ty e i z ht hi hz ⟨g, 0, none⟩ n cap xs hown.1 holds a m c news hl hnews (by omega) (by omega) (growslice_fits_wide (by omega) hbytes)
   have h3 := hrun.symm.trans h2; injection h3 with e1 _
   rw [e1] at hk; exact .inr (Option.some.inj hk).symm
theorem row_turn {G : Nat -> Prop} {w w' : World} {base e s n : Nat} {v : Value} {xs : List Value} (h : w.ownsRow base e s v n xs) (ht : Turn G w w') (hn : ∀ g, v.ownBlock = some g -> ¬ G g) : w'.ownsRow base e s v n xs := by
 rcases h with ⟨h1, h2 | ⟨g, cap, cur, rfl, h3, h4, h5⟩⟩
 ·exact ⟨h1, .inl h2⟩
 ·exact ⟨h1, .inr ⟨g, cap, cur, rfl, h3, ht.keep h4 (hn g rfl), h5⟩⟩
structure OwnTo (x : Nat) (w : World) (v v' : Value) (w' : World) : Prop where
 turn : Turn (fun k => v.ownBlock = some k) w w'
 lies : ∀ k, v'.ownBlock = some k -> v.ownBlock = some k \/ k = w.heap.size
 low : ∀ k, v.ownBlock = some k -> x <= k
 high : ∀ k, v.ownBlock = some k -> k < w.heap.size
theorem run_text_to (w : World) (ty : TypeId) (x : Nat) (v : Value) (l : List OB) (h : TxtsOwn x w v l) (ad : Addr) (c : Nat) (t : OB) (hc : ∀ j u, (tcells [t])[j]? = some u -> w.cell? (ad.add j) = some u) (hb : l.length + 1 <= 8000000000000) (hx : x <= w.heap.size) :
  ∃ a' c' w', (Builtin.append_ #[31, 31] ty #[v, .slice (some ad) 1 c]).run Tryz.prog w = .ok (.slice a' (l.length + 1) c') w' /\ TxtsOwn x w' (.slice a' (l.length + 1) c') (l ++ [t]) /\ OwnTo x w v (.slice a' (l.length + 1) c') w' := by
 obtain ⟨i0, hi, hz0, hz1, hz2⟩ := info_parts info_text; have h1 : ∀ u ∈ tcells [t], u.oneCell' = true := fun u hu => by obtain ⟨t, _, rfl⟩ := List.mem_map.1 hu; rfl
 obtain ⟨v', w', hrun, r1, r2, _⟩ := run_append_own_wide (P := Tryz.prog) w x 31 ty 9 i0 (.string ByteArray.empty) 1 16 Tryz.underlying31 hi hz0 hz1 hz2 rfl (by decide) v l.length _ h ad 1 c (tcells [t]) rfl hc h1 (by unfold maxLen; omega) (by omega) hx
 have hw := own_where w x 31 ty 9 i0 (.string ByteArray.empty) 1 16 Tryz.underlying31 hi hz0 hz1 hz2 v l.length _ h ad 1 c (tcells [t]) rfl hc h1 (by unfold maxLen; omega) (by decide) (by omega) v' w' hrun
 have r3 : TxtsOwn x w' v' (l ++ [t]) := by unfold TxtsOwn; rw [List.length_append, tcells_app]; exact r1
 obtain ⟨a', c', g', rfl, _⟩ := SlAt.of_own (F := fun _ => True) r1 (fun h0 => by omega) (fun _ _ => trivial)
 exact ⟨a', c', w', hrun, r3, Turn.of_grown r2 (fun g hg => hg), hw, fun k hk => (h.lt k hk).1, fun k hk => (h.lt k hk).2⟩
theorem step_own_text {ops : Array Oper} {o : Oper} {a : Act} {w : World} {K : Act -> World -> Prop} {Q : Exit -> Act -> World -> Prop} {E : Prop}
  (hgd : o.guard = none) (s y : Operand) (hop : o.op = Op.call { callee := Callee.builtin Builtin.append, args := #[s, y], argTypes := #[31, 31] })
  (x : Nat) (v : Value) (l : List OB) (hS : a.eval s = v) (h : TxtsOwn x w v l) (ad : Addr) (c : Nat) (t : OB) (hX : a.eval y = .slice (some ad) 1 c) (hc : ∀ j u, (tcells [t])[j]? = some u -> w.cell? (ad.add j) = some u) (hb : l.length + 1 <= 8000000000000) (hx : x <= w.heap.size) (n' : Nat) (hn' : n' = l.length + 1)
  (hK : ∀ a' c' w', Hid (TxtsOwn x w' (.slice a' n' c') (l ++ [t])) -> Hid (OwnTo x w v (.slice a' n' c') w') -> K (a.put o.dst (.slice a' n' c')) w') :
  if Region.wanted o (yielded ops a.tmps) = true then Oper.wp Tryz.prog o a w K Q else E := by
 have hw : Region.wanted o (yielded ops a.tmps) = true := by simp [Region.wanted, hgd]
 rw [if_pos hw]; subst hn'; obtain ⟨a', c', w', hrun, r1, r2⟩ := run_text_to w o.type x v l h ad c t hc hb hx; unfold Oper.wp; simp [execOp, hop, resolve, invoke, builtin, hS, hX, hrun, Result.andThen]; exact hK a' c' w' (h_ r1) (h_ r2)
theorem run_entry_to (w : World) (ty : TypeId) (x : Nat) (v : Value) (l : List EntR) (h : EntsOwn x w v l) (ad : Addr) (c : Nat) (e : EntR) (hc : ∀ j u, (ecells [e])[j]? = some u -> w.cell? (ad.add j) = some u) (hb : l.length + 1 <= 5000000000000) (hx : x <= w.heap.size) :
  ∃ a' c' w', (Builtin.append_ #[30, 30] ty #[v, .slice (some ad) 1 c]).run Tryz.prog w = .ok (.slice a' (l.length + 1) c') w' /\ EntsOwn x w' (.slice a' (l.length + 1) c') (l ++ [e]) /\ OwnTo x w v (.slice a' (l.length + 1) c') w' := by
 obtain ⟨i0, hi, hz0, hz1, hz2⟩ := info_parts info_entry; have h1 : ∀ u ∈ ecells [e], u.oneCell' = true := fun u hu => by simp [ecells] at hu; rcases hu with rfl | rfl | rfl <;> rfl
 obtain ⟨v', w', hrun, r1, r2, _⟩ := run_append_own_wide (P := Tryz.prog) w x 30 ty 84 i0 _ 3 40 Tryz.underlying30 hi hz0 hz1 hz2 rfl (by decide) v l.length _ h ad 1 c (ecells [e]) rfl hc h1 (by unfold maxLen; omega) (by omega) hx
 have hw := own_where w x 30 ty 84 i0 _ 3 40 Tryz.underlying30 hi hz0 hz1 hz2 v l.length _ h ad 1 c (ecells [e]) rfl hc h1 (by unfold maxLen; omega) (by decide) (by omega) v' w' hrun
 have r3 : EntsOwn x w' v' (l ++ [e]) := by unfold EntsOwn; rw [List.length_append, ecells_append]; exact r1
 obtain ⟨a', c', g', rfl, _⟩ := SlAt.of_own (F := fun _ => True) r1 (fun h0 => by omega) (fun _ _ => trivial)
 exact ⟨a', c', w', hrun, r3, Turn.of_grown r2 (fun g hg => hg), hw, fun k hk => (h.lt k hk).1, fun k hk => (h.lt k hk).2⟩
theorem wpList_dec_entry {ops : Array Oper} {rest : List Oper} {o : Oper} {a : Act} {w : World} {Q : Exit -> Act -> World -> Prop}
  (hgd : o.guard = none) (s y : Operand) (hop : o.op = Op.call { callee := Callee.builtin Builtin.append, args := #[s, y], argTypes := #[30, 30] })
  (x : Nat) (v : Value) (l : List EntR) (hS : a.eval s = v) (h : EntsOwn x w v l) (ad : Addr) (c : Nat) (e : EntR) (hX : a.eval y = .slice (some ad) 1 c) (hc : ∀ j u, (ecells [e])[j]? = some u -> w.cell? (ad.add j) = some u) (hb : l.length + 1 <= 5000000000000) (hx : x <= w.heap.size) (n' : Nat) (hn' : n' = l.length + 1)
  (hK : ∀ a' c' w', Hid (EntsOwn x w' (.slice a' n' c') (l ++ [e])) -> Hid (OwnTo x w v (.slice a' n' c') w') -> wpList Tryz.prog ops Q rest (a.put o.dst (.slice a' n' c')) w') : wpList Tryz.prog ops Q (o :: rest) a w := by
 refine wpList_plain hgd fun K hK' => ?_
 subst hn'; obtain ⟨a', c', w', hrun, r1, r2⟩ := run_entry_to w o.type x v l h ad c e hc hb hx; unfold Oper.wp; simp [execOp, hop, resolve, invoke, builtin, hS, hX, hrun, Result.andThen]; exact hK' _ _ (hK a' c' w' (h_ r1) (h_ r2))
theorem lit_ent (w : World) (e : EntR) : ∀ j u, (ecells [e])[j]? = some u -> (w.alloc (.cells #[.string (SL e.nm), .bool e.dir, .string (SL e.id)] 84)).cell? ((⟨w.heap.size, 0, none⟩ : Addr).add j) = some u := by
 intro j u hu
 rw [Addr.add_lit]; match j, hu with
 | 0, hu =>
  rw [cell_of_row _ _ _ _ _ _ (heap_alloc_new w _)]; simpa [ecells] using hu
 | 1, hu =>
  rw [cell_of_row _ _ _ _ _ _ (heap_alloc_new w _)]; simpa [ecells] using hu
 | 2, hu =>
  rw [cell_of_row _ _ _ _ _ _ (heap_alloc_new w _)]; simpa [ecells] using hu
 | j + 3, hu => simp [ecells] at hu
theorem DecSt.own {w0 w w' : World} {q p x : Nat} {s : RS} {cs : Array Value} {v v' : Value} (h : DecSt w0 q p x (fun k => k = x \/ v.ownBlock = some k) s cs w) (t : OwnTo (x + 1) w v v' w') : DecSt w0 q p x (fun k => k = x \/ v'.ownBlock = some k) s cs w' := by
 have h1 : DecSt w0 q p x (fun k => k = x \/ v.ownBlock = some k \/ v'.ownBlock = some k) s cs w := h.more (fun k hk hg => by
  rcases hg with e | e | e
  ·exact .inl e
  ·exact .inr e
  ·rcases t.lies k e with e | e
   ·exact .inr e
   ·omega) (.inl rfl)
 have h2 := h1.low t.turn (fun k hk => ⟨by have := t.low k hk; omega, .inr (.inl hk)⟩)
 exact h2.more (fun k _ hg => by
  rcases hg with e | e
  ·exact .inl e
  ·exact .inr (.inr e)) (.inl rfl)
end
section
open Go.RowKit
theorem refDec_4 (ao : Option Addr) (cap B off : Nat) (c : UInt8) (r : OB) (w : World) (h : SrcAt w ao cap (c :: r) B off) (hl : (c :: r).length <= 140737488355328) (hk : c.toNat = 4) :
  Calls Tryz.prog 51 #[.slice ao (c :: r).length cap] w (DecTo (c :: r) w) := by
 have hrl : r.length <= 140737488355328 := by rw [List.length_cons] at hl; omega
 have hfit := rdO_fits c.toNat r hrl; have hdd := decO_cons c r; rw [hk, show rdO 4 r = rdTag (r, false) from rfl] at hfit hdd
 obtain ⟨P1, eP1⟩ := nm_ (rdBytes 32 (r, false)); obtain ⟨P2, eP2⟩ := nm_ (rdText P1.2); obtain ⟨P3, eP3⟩ := nm_ (rdText P2.2); obtain ⟨P4, eP4⟩ := nm_ (rdNum P3.2); obtain ⟨P5, eP5⟩ := nm_ (rdText P4.2); replace hdd : decO (c :: r) = if P5.2.2 = true \/ okO ({ zeroO 4 with target := P1.1, name := P2.1, who := P3.1, stamp := (P4.1 : Int), text := P5.1 } : ObjR) = false \/ encO ({ zeroO 4 with target := P1.1, name := P2.1, who := P3.1, stamp := (P4.1 : Int), text := P5.1 } : ObjR) ≠ c :: r then none else some ({ zeroO 4 with target := P1.1, name := P2.1, who := P3.1, stamp := (P4.1 : Int), text := P5.1 } : ObjR) := by
  subst eP1; subst eP2; subst eP3; subst eP4; subst eP5; exact hdd
 replace hfit : ObjFits ({ zeroO 4 with target := P1.1, name := P2.1, who := P3.1, stamp := (P4.1 : Int), text := P5.1 } : ObjR) := by
  subst eP1; subst eP2; subst eP3; subst eP4; subst eP5; exact hfit
 have lP1 : P1.2.1.length <= 140737488355328 := by rw [eP1]; exact Nat.le_trans rdBytes_le hrl
 have lP2 : P2.2.1.length <= 140737488355328 := by rw [eP2]; exact Nat.le_trans rdText_le lP1
 have lP3 : P3.2.1.length <= 140737488355328 := by rw [eP3]; exact Nat.le_trans rdText_le lP2
 have lP4 : P4.2.1.length <= 140737488355328 := by rw [eP4]; exact Nat.le_trans rdNum_le lP3
 have lP5 : P5.2.1.length <= 140737488355328 := by rw [eP5]; exact Nat.le_trans rdText_le lP4
 obtain ⟨o, ho⟩ : ∃ o, o = ({ zeroO 4 with target := P1.1, name := P2.1, who := P3.1, stamp := (P4.1 : Int), text := P5.1 } : ObjR) := ⟨_, rfl⟩
 rw [<- ho] at hdd; have HO := h_ ho; have EP1 := h_ eP1; have HP1 := h_ lP1; have EP2 := h_ eP2; have HP2 := h_ lP2; have EP3 := h_ eP3; have HP3 := h_ lP3; have EP4 := h_ eP4; have HP4 := h_ lP4; have EP5 := h_ eP5; have HP5 := h_ lP5; clear ho eP1 lP1 eP2 lP2 eP3 lP3 eP4 lP4 eP5 lP5; obtain ⟨al, hsl, sl⟩ := h.slice_l 1 (by simp)
 have hsrc := h.src (by simp)
 have hold := h.old (by simp)
 have hc0 := h.cell 0 (by simp)
 simp only [List.getD_cons_zero, Nat.add_zero] at hc0; rw [List.drop_succ_cons, List.drop_zero] at sl; rw [hk] at hc0; have hc0 : w.cell? ⟨B, off, none⟩ = some (.int .u8 4) := hc0
 subst hsrc; have hsb := fun (W : World) (hb : Below w.heap.size w W) => h.below hb
 obtain ⟨m, hm⟩ := nm_ (r.length); obtain ⟨n, hn⟩ := nm_ ((c :: r).length); have hnm : n - 1 = m := by rw [hn, hm]; simp
 have hn0 : 0 < n := by rw [hn]; simp
 rw [<- hn, hnm] at hsl; rw [<- hn]; have i0 : ((n : Int) == 0) = false := by simp; omega
 have i1 : (0 : Int) < (n : Int) := by omega
 have hsl : ∀ W : World, (Instr.slice 29 (.slice (some ⟨B, off, none⟩) n cap) (some (.int .i64 1)) none none).run Tryz.prog W = .ok (.slice al m (cap - 1)) W := hsl
 have c0 := dec_c0 al m cap hold hc0; obtain ⟨W3, hW3⟩ := nm_ (((w.alloc (.cells #[.int .i64 0, .slice none 0 0, .slice none 0 0, .string ⟨#[]⟩, .slice none 0 0, .string ⟨#[]⟩, .string ⟨#[]⟩, .string ⟨#[]⟩, .int .i64 0, .string ⟨#[]⟩] 33)).alloc (.cells #[.slice al m (cap - 1), .bool false] 139)).alloc (.cells #[.int .i64 4, .slice none 0 0, .slice none 0 0, .string ⟨#[]⟩, .slice none 0 0, .string ⟨#[]⟩, .string ⟨#[]⟩, .string ⟨#[]⟩, .int .i64 0, .string ⟨#[]⟩] 33)); have hst := dec_st w 4 al m cap B off r hm sl hold W3 hW3; have SB := h_ hsb; have HW := h_ hW3; have ST := h_ hst; have FIT := h_ hfit; have DD := h_ hdd; have HN := h_ hn; have HL := h_ hrl; have HM := h_ hm; clear hsb hW3 hst hfit hdd hc0 h sl hl hn hrl hold hnm hm hk; go_enter Tryz.func51, Tryz.ntmps51; go_wp2_with fail; rw [<- HW.out]
 have g := rdBytes_g (fun k => k = w.heap.size + 1 + 1) (w.heap.size + 1) (r, false) 32 (by omega) W3 ST.out.rd HL.out
 rw [<- EP1.out] at g; have GG := h_ g; clear g; refine GG.out.mono ?_; rintro e w4 ⟨rfl, r1, t1⟩; have ST : Hid (DecSt w w.heap.size (w.heap.size + 1) (w.heap.size + 1 + 1) (fun k => k = w.heap.size + 1 + 1) P1.2 #[.int .i64 4, .slice none 0 0, .slice none 0 0, .string ⟨#[]⟩, .slice none 0 0, .string ⟨#[]⟩, .string ⟨#[]⟩, .string ⟨#[]⟩, .int .i64 0, .string ⟨#[]⟩] w4) := h_ (ST.out.step r1 t1)
 clear r1 t1 GG; have d0 : w4.cell? ⟨w.heap.size + 1 + 1, 5, none⟩ = some (.string ⟨#[]⟩) := cell_of_row _ _ _ _ _ _ ST.out.obj
 have d1 : w4.frozen? ⟨w.heap.size + 1 + 1, 5, none⟩ = false := frozen_of_row _ _ _ _ _ ST.out.obj
 go_wp2_with fail; obtain ⟨V1, hV⟩ := nm_ (World.setCell w4 ⟨w.heap.size + 1 + 1, 5, none⟩ (.string (SL P1.1))); rw [<- hV]; have ST : Hid (DecSt w w.heap.size (w.heap.size + 1) (w.heap.size + 1 + 1) (fun k => k = w.heap.size + 1 + 1) P1.2 #[.int .i64 4, .slice none 0 0, .slice none 0 0, .string ⟨#[]⟩, .slice none 0 0, .string (SL P1.1), .string ⟨#[]⟩, .string ⟨#[]⟩, .int .i64 0, .string ⟨#[]⟩] V1) := h_ (by rw [hV]; exact ST.out.set 5 (.string (SL P1.1)))
 clear hV d0 d1; have g := rdText_g (fun k => k = w.heap.size + 1 + 1) (w.heap.size + 1) P1.2 V1 (fun k e => by rw [e]; exact ST.out.lt) ST.out.rd HP1.out
 rw [<- EP2.out] at g; have GG := h_ g; clear g; refine GG.out.mono ?_; rintro e w5 ⟨rfl, r1, t1⟩; have ST : Hid (DecSt w w.heap.size (w.heap.size + 1) (w.heap.size + 1 + 1) (fun k => k = w.heap.size + 1 + 1) P2.2 #[.int .i64 4, .slice none 0 0, .slice none 0 0, .string ⟨#[]⟩, .slice none 0 0, .string (SL P1.1), .string ⟨#[]⟩, .string ⟨#[]⟩, .int .i64 0, .string ⟨#[]⟩] w5) := h_ (ST.out.step r1 t1)
 clear r1 t1 GG; have d0 : w5.cell? ⟨w.heap.size + 1 + 1, 6, none⟩ = some (.string ⟨#[]⟩) := cell_of_row _ _ _ _ _ _ ST.out.obj
 have d1 : w5.frozen? ⟨w.heap.size + 1 + 1, 6, none⟩ = false := frozen_of_row _ _ _ _ _ ST.out.obj
 go_wp2_with fail; obtain ⟨V2, hV⟩ := nm_ (World.setCell w5 ⟨w.heap.size + 1 + 1, 6, none⟩ (.string (SL P2.1))); rw [<- hV]; have ST : Hid (DecSt w w.heap.size (w.heap.size + 1) (w.heap.size + 1 + 1) (fun k => k = w.heap.size + 1 + 1) P2.2 #[.int .i64 4, .slice none 0 0, .slice none 0 0, .string ⟨#[]⟩, .slice none 0 0, .string (SL P1.1), .string (SL P2.1), .string ⟨#[]⟩, .int .i64 0, .string ⟨#[]⟩] V2) := h_ (by rw [hV]; exact ST.out.set 6 (.string (SL P2.1)))
 clear hV d0 d1; have g := rdText_g (fun k => k = w.heap.size + 1 + 1) (w.heap.size + 1) P2.2 V2 (fun k e => by rw [e]; exact ST.out.lt) ST.out.rd HP2.out
 rw [<- EP3.out] at g; have GG := h_ g; clear g; refine GG.out.mono ?_; rintro e w6 ⟨rfl, r1, t1⟩; have ST : Hid (DecSt w w.heap.size (w.heap.size + 1) (w.heap.size + 1 + 1) (fun k => k = w.heap.size + 1 + 1) P3.2 #[.int .i64 4, .slice none 0 0, .slice none 0 0, .string ⟨#[]⟩, .slice none 0 0, .string (SL P1.1), .string (SL P2.1), .string ⟨#[]⟩, .int .i64 0, .string ⟨#[]⟩] w6) := h_ (ST.out.step r1 t1)
 clear r1 t1 GG; have d0 : w6.cell? ⟨w.heap.size + 1 + 1, 7, none⟩ = some (.string ⟨#[]⟩) := cell_of_row _ _ _ _ _ _ ST.out.obj
 have d1 : w6.frozen? ⟨w.heap.size + 1 + 1, 7, none⟩ = false := frozen_of_row _ _ _ _ _ ST.out.obj
 go_wp2_with fail; obtain ⟨V3, hV⟩ := nm_ (World.setCell w6 ⟨w.heap.size + 1 + 1, 7, none⟩ (.string (SL P3.1))); rw [<- hV]; have ST : Hid (DecSt w w.heap.size (w.heap.size + 1) (w.heap.size + 1 + 1) (fun k => k = w.heap.size + 1 + 1) P3.2 #[.int .i64 4, .slice none 0 0, .slice none 0 0, .string ⟨#[]⟩, .slice none 0 0, .string (SL P1.1), .string (SL P2.1), .string (SL P3.1), .int .i64 0, .string ⟨#[]⟩] V3) := h_ (by rw [hV]; exact ST.out.set 7 (.string (SL P3.1)))
 clear hV d0 d1; have g := rdNum_g (fun k => k = w.heap.size + 1 + 1) (w.heap.size + 1) P3.2 V3 (fun k e => by rw [e]; exact ST.out.lt) ST.out.rd HP3.out
 rw [<- EP4.out] at g; have GG := h_ g; clear g; refine GG.out.mono ?_; rintro e w7 ⟨rfl, r1, t1⟩; have ST : Hid (DecSt w w.heap.size (w.heap.size + 1) (w.heap.size + 1 + 1) (fun k => k = w.heap.size + 1 + 1) P4.2 #[.int .i64 4, .slice none 0 0, .slice none 0 0, .string ⟨#[]⟩, .slice none 0 0, .string (SL P1.1), .string (SL P2.1), .string (SL P3.1), .int .i64 0, .string ⟨#[]⟩] w7) := h_ (ST.out.step r1 t1)
 clear r1 t1 GG; have d0 : w7.cell? ⟨w.heap.size + 1 + 1, 8, none⟩ = some (.int .i64 0) := cell_of_row _ _ _ _ _ _ ST.out.obj
 have d1 : w7.frozen? ⟨w.heap.size + 1 + 1, 8, none⟩ = false := frozen_of_row _ _ _ _ _ ST.out.obj
 go_wp2_with fail; obtain ⟨V4, hV⟩ : ∃ V, V = World.setCell w7 ⟨w.heap.size + 1 + 1, 8, none⟩ (.int .i64 (P4.1 : Int)) := ⟨_, rfl⟩
 rw [<- hV]; have ST : Hid (DecSt w w.heap.size (w.heap.size + 1) (w.heap.size + 1 + 1) (fun k => k = w.heap.size + 1 + 1) P4.2 #[.int .i64 4, .slice none 0 0, .slice none 0 0, .string ⟨#[]⟩, .slice none 0 0, .string (SL P1.1), .string (SL P2.1), .string (SL P3.1), .int .i64 (P4.1 : Int), .string ⟨#[]⟩] V4) := h_ (by rw [hV]; exact ST.out.set 8 (.int .i64 (P4.1 : Int)))
 clear hV d0 d1; have g := rdText_g (fun k => k = w.heap.size + 1 + 1) (w.heap.size + 1) P4.2 V4 (fun k e => by rw [e]; exact ST.out.lt) ST.out.rd HP4.out
 rw [<- EP5.out] at g; have GG := h_ g; clear g; refine GG.out.mono ?_; rintro e w8 ⟨rfl, r1, t1⟩; have ST : Hid (DecSt w w.heap.size (w.heap.size + 1) (w.heap.size + 1 + 1) (fun k => k = w.heap.size + 1 + 1) P5.2 #[.int .i64 4, .slice none 0 0, .slice none 0 0, .string ⟨#[]⟩, .slice none 0 0, .string (SL P1.1), .string (SL P2.1), .string (SL P3.1), .int .i64 (P4.1 : Int), .string ⟨#[]⟩] w8) := h_ (ST.out.step r1 t1)
 clear r1 t1 GG; have d0 : w8.cell? ⟨w.heap.size + 1 + 1, 9, none⟩ = some (.string ⟨#[]⟩) := cell_of_row _ _ _ _ _ _ ST.out.obj
 have d1 : w8.frozen? ⟨w.heap.size + 1 + 1, 9, none⟩ = false := frozen_of_row _ _ _ _ _ ST.out.obj
 obtain ⟨V5, hV⟩ := nm_ (World.setCell w8 ⟨w.heap.size + 1 + 1, 9, none⟩ (.string (SL P5.1))); have ST : Hid (DecSt w w.heap.size (w.heap.size + 1) (w.heap.size + 1 + 1) (fun k => k = w.heap.size + 1 + 1) P5.2 #[.int .i64 4, .slice none 0 0, .slice none 0 0, .string ⟨#[]⟩, .slice none 0 0, .string (SL P1.1), .string (SL P2.1), .string (SL P3.1), .int .i64 (P4.1 : Int), .string (SL P5.1)] V5) := h_ (by rw [hV]; exact ST.out.set 9 (.string (SL P5.1)))
 have I0 : Hid (ObjIn V5 (fun k => w.heap.size + 1 + 1 < k) ({ zeroO 4 with target := P1.1, name := P2.1, who := P3.1, stamp := (P4.1 : Int), text := P5.1 } : ObjR) (.slice none 0 0) (.slice none 0 0) (.slice none 0 0)) := h_ ⟨bytesAt_nil _ _, entsAt_nil _ _, textsAt_nil _ _⟩
 have HV := h_ hV; have hrow := ST.out.obj; have hrow : V5.heap[w.heap.size + 1 + 1]? = some (.cells #[.int .i64 4, .slice none 0 0, .slice none 0 0, .string ⟨#[]⟩, .slice none 0 0, .string (SL P1.1), .string (SL P2.1), .string (SL P3.1), .int .i64 (P4.1 : Int), .string (SL P5.1)] 33 (0, 0)) := hrow
 have henc : Calls Tryz.prog 11 #[.agg #[.int .i64 4, .slice none 0 0, .slice none 0 0, .string ⟨#[]⟩, .slice none 0 0, .string (SL P1.1), .string (SL P2.1), .string (SL P3.1), .int .i64 (P4.1 : Int), .string (SL P5.1)]] V5 fun e w' => ∃ v, e = .returned (.tuple #[v, .int .i64 (errO o)]) /\ OutAt V5.heap.size w' v (bytesO o) /\ Below V5.heap.size V5 w' := by
  rw [HO.out]; exact refEncode_any (fun k => w.heap.size + 1 + 1 < k) ({ zeroO 4 with target := P1.1, name := P2.1, who := P3.1, stamp := (P4.1 : Int), text := P5.1 } : ObjR) (.slice none 0 0) (.slice none 0 0) (.slice none 0 0) V5 I0.out FIT.out
 rw [hV] at hrow; obtain ⟨s0, s1, s2, s3, s4, s5, s6, s7, s8, s9⟩ := obj_cells hrow; clear hV; obtain ⟨bad, hbad⟩ := nm_ (P5.2.2); have HBAD := h_ hbad; rw [<- hbad] at DD; clear hrow hbad
 cases hb : bad with
 | true =>
  have HENC := h_ henc; clear henc; go_wp2_with fail; rw [<- HV.out]; refine HENC.out.mono ?_; rintro e y1 ⟨v1, rfl, o1, b1⟩; obtain ⟨ay, cy, By, rfl, sy, _⟩ := OutAt.src o1; have S7 := h_ (ST.out.low (Turn.of_below (fun _ => False) b1) (fun k hk => hk.elim))
  have B7 := h_ b1; obtain ⟨_, _, _, _, hrd, _, _⟩ := S7.out.rd; obtain ⟨_, p1, _⟩ := rd_cells hrd; rw [<- HBAD.out, hb] at p1; have qr := S7.out.zrow; obtain ⟨u0, u1, u2, u3, u4, u5, u6, u7, u8, u9⟩ := obj_cells qr; have f0 := obj_fz qr; clear b1 o1 sy hrd; go_wp2_with fail; obtain ⟨hld, gt⟩ := zero_load qr; have BQz := S7.out.below.trans (gt.below (Nat.le_of_lt (ge_ qr).1) (fun k e => Nat.le_of_eq e.symm))
  refine bodyPost_ret (v := decBad) ?_ rfl ?_
  ·rw [results_cell_tmp rfl]
   simp [asAddr, Result.andThen, hld, decBad]
  ·refine ⟨BQz, ?_⟩
   rw [DD.out, if_pos (.inl hb)]; rfl
 | false =>
  cases hok : okO o with
  | false =>
   have e1 : errO o = 1 := by unfold errO; rw [hok]; rfl
   rw [e1] at henc; have HENC := h_ henc; clear henc; go_wp2_with fail; rw [<- HV.out]; refine HENC.out.mono ?_; rintro e y1 ⟨v1, rfl, o1, b1⟩; obtain ⟨ay, cy, By, rfl, sy, _⟩ := OutAt.src o1; have S7 := h_ (ST.out.low (Turn.of_below (fun _ => False) b1) (fun k hk => hk.elim))
   have B7 := h_ b1; obtain ⟨_, _, _, _, hrd, _, _⟩ := S7.out.rd; obtain ⟨_, p1, _⟩ := rd_cells hrd; rw [<- HBAD.out, hb] at p1; have qr := S7.out.zrow; obtain ⟨u0, u1, u2, u3, u4, u5, u6, u7, u8, u9⟩ := obj_cells qr; have f0 := obj_fz qr; clear b1 o1 sy hrd; go_wp2_with fail; obtain ⟨hld, gt⟩ := zero_load qr; have BQz := S7.out.below.trans (gt.below (Nat.le_of_lt (ge_ qr).1) (fun k e => Nat.le_of_eq e.symm))
   refine bodyPost_ret (v := decBad) ?_ rfl ?_
   ·rw [results_cell_tmp rfl]
    simp [asAddr, Result.andThen, hld, decBad]
   ·refine ⟨BQz, ?_⟩
    rw [DD.out, if_pos (.inr (.inl hok))]; rfl
  | true =>
   have e1 : errO o = 0 := by unfold errO; rw [hok]; rfl
   have e2 : bytesO o = encO o := by unfold bytesO; rw [hok]; rfl
   rw [e1, e2] at henc; by_cases heq : encO o = c :: r
   ·have HEQ := h_ heq
    have HENC := h_ henc; clear henc; go_wp2_with fail; rw [<- HV.out]; refine HENC.out.mono ?_; rintro e y1 ⟨v1, rfl, o1, b1⟩; obtain ⟨ay, cy, By, rfl, sy, _⟩ := OutAt.src o1; have S7 := h_ (ST.out.low (Turn.of_below (fun _ => False) b1) (fun k hk => hk.elim))
    have B7 := h_ b1; obtain ⟨_, _, _, _, hrd, _, _⟩ := S7.out.rd; obtain ⟨_, p1, _⟩ := rd_cells hrd; rw [<- HBAD.out, hb] at p1; have hsame := same_any y1 sy (SB.out y1 S7.out.below); rw [decide_eq_true heq, <- HN.out] at hsame; have HS := h_ hsame; clear hsame heq; have qr := S7.out.zrow; obtain ⟨u0, u1, u2, u3, u4, u5, u6, u7, u8, u9⟩ := obj_cells qr; have f0 := obj_fz qr; have hrow : y1.heap[w.heap.size + 1 + 1]? = some (.cells #[.int .i64 4, .slice none 0 0, .slice none 0 0, .string ⟨#[]⟩, .slice none 0 0, .string (SL P1.1), .string (SL P2.1), .string (SL P3.1), .int .i64 (P4.1 : Int), .string (SL P5.1)] 33 (0, 0)) := S7.out.obj
    obtain ⟨s0, s1, s2, s3, s4, s5, s6, s7, s8, s9⟩ := obj_cells hrow; clear b1 o1 sy hrd hrow; go_wp2_with (go_at_call 99; refine HS.out.mono ?_; rintro e y2 ⟨rfl, hy⟩; have hy := hy.symm; subst hy)
    obtain ⟨hld, gt⟩ := zero_set y1 w.heap.size (.int .i64 4) (.slice none 0 0) (.slice none 0 0) (.string ⟨#[]⟩) (.slice none 0 0) (.string (SL P1.1)) (.string (SL P2.1)) (.string (SL P3.1)) (.int .i64 (P4.1 : Int)) (.string (SL P5.1)) qr; have BQz := S7.out.below.trans (gt.below (Nat.le_of_lt (ge_ qr).1) (fun k e => Nat.le_of_eq e.symm))
    refine bodyPost_ret (v := .tuple #[.agg #[.int .i64 4, .slice none 0 0, .slice none 0 0, .string ⟨#[]⟩, .slice none 0 0, .string (SL P1.1), .string (SL P2.1), .string (SL P3.1), .int .i64 (P4.1 : Int), .string (SL P5.1)], .int .i64 0]) ?_ rfl ?_
    ·rw [results_cell_tmp rfl]
     simp [asAddr, Result.andThen, hld]
    ·refine ⟨BQz, ?_⟩
     rw [DD.out, if_neg (by rw [hb, hok]; rintro (h | h | h) <;> first | exact Bool.noConfusion h | exact h HEQ.out)]
     refine ⟨.slice none 0 0, .slice none 0 0, .slice none 0 0, ?_, ?_⟩
     ·rw [HO.out]; rfl
     ·rw [HO.out]
      exact (I0.out.turn ((Turn.of_below (fun k => k = w.heap.size) B7.out).trans gt) (fun k hk e => by have h1 : w.heap.size + 1 + 1 < k := hk; have h2 : k = w.heap.size := e; omega)).mono (fun k _ hk => by have h1 : w.heap.size + 1 + 1 < k := hk; show w.heap.size <= k; omega)
   ·have hne := heq
    have HNE := h_ hne; have HENC := h_ henc; clear henc; go_wp2_with fail; rw [<- HV.out]; refine HENC.out.mono ?_; rintro e y1 ⟨v1, rfl, o1, b1⟩; obtain ⟨ay, cy, By, rfl, sy, _⟩ := OutAt.src o1; have S7 := h_ (ST.out.low (Turn.of_below (fun _ => False) b1) (fun k hk => hk.elim))
    have B7 := h_ b1; obtain ⟨_, _, _, _, hrd, _, _⟩ := S7.out.rd; obtain ⟨_, p1, _⟩ := rd_cells hrd; rw [<- HBAD.out, hb] at p1; have hsame := same_any y1 sy (SB.out y1 S7.out.below); rw [decide_eq_false hne, <- HN.out] at hsame; have HS := h_ hsame; clear hsame hne heq; have qr := S7.out.zrow; obtain ⟨u0, u1, u2, u3, u4, u5, u6, u7, u8, u9⟩ := obj_cells qr; have f0 := obj_fz qr; clear b1 o1 sy hrd; go_wp2_with (go_at_call 99; refine HS.out.mono ?_; rintro e y2 ⟨rfl, hy⟩; have hy := hy.symm; subst hy)
    obtain ⟨hld, gt⟩ := zero_load qr; have BQz := S7.out.below.trans (gt.below (Nat.le_of_lt (ge_ qr).1) (fun k e => Nat.le_of_eq e.symm))
    refine bodyPost_ret (v := decBad) ?_ rfl ?_
    ·rw [results_cell_tmp rfl]
     simp [asAddr, Result.andThen, hld, decBad]
    ·refine ⟨BQz, ?_⟩
     rw [DD.out, if_pos (.inr (.inr HNE.out))]; rfl
end
section
open Go.RowKit
theorem refDec_N (ao : Option Addr) (cap B off : Nat) (c : UInt8) (r : OB) (w : World) (h : SrcAt w ao cap (c :: r) B off) (hl : (c :: r).length <= 140737488355328) (k1 : ¬ c.toNat = 1) (k2 : ¬ c.toNat = 2) (k3 : ¬ c.toNat = 3) (k4 : ¬ c.toNat = 4) :
  Calls Tryz.prog 51 #[.slice ao (c :: r).length cap] w (DecTo (c :: r) w) := by
 have hrl : r.length <= 140737488355328 := by rw [List.length_cons] at hl; omega
 have hfit := rdO_fits c.toNat r hrl; have hdd := decO_cons c r; rw [show rdO c.toNat r = (zeroO (c.toNat : Int), (r, false)) by unfold rdO; rw [if_neg k1, if_neg k2, if_neg k3, if_neg k4]] at hfit hdd
 obtain ⟨K, hK⟩ : ∃ K : Int, K = (c.toNat : Int) := ⟨_, rfl⟩
 rw [<- hK] at hfit hdd; have q1 : (K == 1) = false := by simp; omega
 have p1 : ¬ K = 1 := by omega
 have q2 : (K == 2) = false := by simp; omega
 have p2 : ¬ K = 2 := by omega
 have q3 : (K == 3) = false := by simp; omega
 have p3 : ¬ K = 3 := by omega
 have q4 : (K == 4) = false := by simp; omega
 have p4 : ¬ K = 4 := by omega
 have q0 : wrap64 K = K := IntWalk.wrap64_in _ ⟨by omega, by have := c.toNat_lt; omega⟩
 replace hdd : decO (c :: r) = if (r, false).2 = true \/ okO (zeroO K : ObjR) = false \/ encO (zeroO K : ObjR) ≠ c :: r then none else some (zeroO K : ObjR) := by
  exact hdd
 replace hfit : ObjFits (zeroO K : ObjR) := by
  exact hfit
 obtain ⟨o, ho⟩ : ∃ o, o = (zeroO K : ObjR) := ⟨_, rfl⟩
 rw [<- ho] at hdd; have HO := h_ ho; clear ho; obtain ⟨al, hsl, sl⟩ := h.slice_l 1 (by simp)
 have hsrc := h.src (by simp)
 have hold := h.old (by simp)
 have hc0 := h.cell 0 (by simp)
 simp only [List.getD_cons_zero, Nat.add_zero] at hc0; rw [List.drop_succ_cons, List.drop_zero] at sl; rw [<- hK] at hc0; subst hsrc; have hsb := fun (W : World) (hb : Below w.heap.size w W) => h.below hb
 obtain ⟨m, hm⟩ := nm_ (r.length); obtain ⟨n, hn⟩ := nm_ ((c :: r).length); have hnm : n - 1 = m := by rw [hn, hm]; simp
 have hn0 : 0 < n := by rw [hn]; simp
 rw [<- hn, hnm] at hsl; rw [<- hn]; have i0 : ((n : Int) == 0) = false := by simp; omega
 have i1 : (0 : Int) < (n : Int) := by omega
 have hsl : ∀ W : World, (Instr.slice 29 (.slice (some ⟨B, off, none⟩) n cap) (some (.int .i64 1)) none none).run Tryz.prog W = .ok (.slice al m (cap - 1)) W := hsl
 have c0 := dec_c0 al m cap hold hc0; obtain ⟨W3, hW3⟩ := nm_ (((w.alloc (.cells #[.int .i64 0, .slice none 0 0, .slice none 0 0, .string ⟨#[]⟩, .slice none 0 0, .string ⟨#[]⟩, .string ⟨#[]⟩, .string ⟨#[]⟩, .int .i64 0, .string ⟨#[]⟩] 33)).alloc (.cells #[.slice al m (cap - 1), .bool false] 139)).alloc (.cells #[.int .i64 K, .slice none 0 0, .slice none 0 0, .string ⟨#[]⟩, .slice none 0 0, .string ⟨#[]⟩, .string ⟨#[]⟩, .string ⟨#[]⟩, .int .i64 0, .string ⟨#[]⟩] 33)); have hst := dec_st w K al m cap B off r hm sl hold W3 hW3; have SB := h_ hsb; have HW := h_ hW3; have ST := h_ hst; have FIT := h_ hfit; have DD := h_ hdd; have HN := h_ hn; have HL := h_ hrl; have HM := h_ hm; clear hsb hW3 hst hfit hdd hc0 h sl hl hn hrl hold hnm hm k1 k2 k3 k4 hK; go_enter Tryz.func51, Tryz.ntmps51; go_wp2_with fail; rw [<- HW.out]
 have I0 : Hid (ObjIn W3 (fun k => w.heap.size + 1 + 1 < k) (zeroO K : ObjR) (.slice none 0 0) (.slice none 0 0) (.slice none 0 0)) := h_ ⟨bytesAt_nil _ _, entsAt_nil _ _, textsAt_nil _ _⟩
 have hrow := ST.out.obj; have hrow : W3.heap[w.heap.size + 1 + 1]? = some (.cells #[.int .i64 K, .slice none 0 0, .slice none 0 0, .string ⟨#[]⟩, .slice none 0 0, .string ⟨#[]⟩, .string ⟨#[]⟩, .string ⟨#[]⟩, .int .i64 0, .string ⟨#[]⟩] 33 (0, 0)) := hrow
 have henc : Calls Tryz.prog 11 #[.agg #[.int .i64 K, .slice none 0 0, .slice none 0 0, .string ⟨#[]⟩, .slice none 0 0, .string ⟨#[]⟩, .string ⟨#[]⟩, .string ⟨#[]⟩, .int .i64 0, .string ⟨#[]⟩]] W3 fun e w' => ∃ v, e = .returned (.tuple #[v, .int .i64 (errO o)]) /\ OutAt W3.heap.size w' v (bytesO o) /\ Below W3.heap.size W3 w' := by
  rw [HO.out]; exact refEncode_any (fun k => w.heap.size + 1 + 1 < k) (zeroO K : ObjR) (.slice none 0 0) (.slice none 0 0) (.slice none 0 0) W3 I0.out FIT.out
 obtain ⟨s0, s1, s2, s3, s4, s5, s6, s7, s8, s9⟩ := obj_cells hrow; obtain ⟨bad, hbad⟩ := nm_ ((r, false).2); have HBAD := h_ hbad; have DD : Hid (decO (c :: r) = if bad = true \/ okO o = false \/ encO o ≠ c :: r then none else some o) := h_ (by subst hbad; exact DD.out)
 clear hrow hbad
 cases hb : bad with
 | true =>
  have HENC := h_ henc; clear henc; go_wp2_with fail; refine HENC.out.mono ?_; rintro e y1 ⟨v1, rfl, o1, b1⟩; obtain ⟨ay, cy, By, rfl, sy, _⟩ := OutAt.src o1; have S7 := h_ (ST.out.low (Turn.of_below (fun _ => False) b1) (fun k hk => hk.elim))
  have B7 := h_ b1; obtain ⟨_, _, _, _, hrd, _, _⟩ := S7.out.rd; obtain ⟨_, p1, _⟩ := rd_cells hrd; rw [<- HBAD.out, hb] at p1; have qr := S7.out.zrow; obtain ⟨u0, u1, u2, u3, u4, u5, u6, u7, u8, u9⟩ := obj_cells qr; have f0 := obj_fz qr; clear b1 o1 sy hrd; go_wp2_with fail; obtain ⟨hld, gt⟩ := zero_load qr; have BQz := S7.out.below.trans (gt.below (Nat.le_of_lt (ge_ qr).1) (fun k e => Nat.le_of_eq e.symm))
  refine bodyPost_ret (v := decBad) ?_ rfl ?_
  ·rw [results_cell_tmp rfl]
   simp [asAddr, Result.andThen, hld, decBad]
  ·refine ⟨BQz, ?_⟩
   rw [DD.out, if_pos (.inl hb)]; rfl
 | false =>
  cases hok : okO o with
  | false =>
   have e1 : errO o = 1 := by unfold errO; rw [hok]; rfl
   rw [e1] at henc; have HENC := h_ henc; clear henc; go_wp2_with fail; refine HENC.out.mono ?_; rintro e y1 ⟨v1, rfl, o1, b1⟩; obtain ⟨ay, cy, By, rfl, sy, _⟩ := OutAt.src o1; have S7 := h_ (ST.out.low (Turn.of_below (fun _ => False) b1) (fun k hk => hk.elim))
   have B7 := h_ b1; obtain ⟨_, _, _, _, hrd, _, _⟩ := S7.out.rd; obtain ⟨_, p1, _⟩ := rd_cells hrd; rw [<- HBAD.out, hb] at p1; have qr := S7.out.zrow; obtain ⟨u0, u1, u2, u3, u4, u5, u6, u7, u8, u9⟩ := obj_cells qr; have f0 := obj_fz qr; clear b1 o1 sy hrd; go_wp2_with fail; obtain ⟨hld, gt⟩ := zero_load qr; have BQz := S7.out.below.trans (gt.below (Nat.le_of_lt (ge_ qr).1) (fun k e => Nat.le_of_eq e.symm))
   refine bodyPost_ret (v := decBad) ?_ rfl ?_
   ·rw [results_cell_tmp rfl]
    simp [asAddr, Result.andThen, hld, decBad]
   ·refine ⟨BQz, ?_⟩
    rw [DD.out, if_pos (.inr (.inl hok))]; rfl
  | true => exact absurd hok (by rw [HO.out, ok_kind p1 p2 p3 p4]; decide)
end
end Go.Proofs.YtomgijcbekjlaaaGreat
