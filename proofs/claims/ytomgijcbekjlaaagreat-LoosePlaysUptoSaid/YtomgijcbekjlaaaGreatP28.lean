/- What the proofs stand on: SafeFoot, SafeLay, SafeSave, SafeSweep, LooseIds, LooseAwake. -/
import Derived.RangeFuncNested
import Derived.Test.YtomgijcbekjlaaaGreatP15
import Derived.Test.YtomgijcbekjlaaaGreatP27
import Derived.Test.YtomgijcbekjlaaaGreatP10
import Derived.RangeFuncBound
import Derived.RangeFuncCalls
import Derived.RangeFuncLeaves
import Derived.Shelf.Abstract
import Derived.Shelf.RegionOpen
import Derived.WalkKit
import Derived.OwnWalkIn
import Derived.TacticsInMore
import Derived.LoopNIn
import Derived.LoopIn
import Derived.Maps.AppendAt
import Derived.Test.YtomgijcbekjlaaaGreatP9
import Derived.Test.YtomgijcbekjlaaaGreatP8
import Derived.Test.YtomgijcbekjlaaaGreatP6
import Derived.Test.YtomgijcbekjlaaaGreatPB0
import Derived.Test.YtomgijcbekjlaaaGreatPB1
set_option maxRecDepth 100000
set_option maxHeartbeats 40000000
namespace Go.Proofs.YtomgijcbekjlaaaGreat
section
open Go.RowKit
def foot (p mb : Nat) (V : Bs -> Value) (fs : Files) : Nat -> Prop := fun k => k = p \/ k = mb \/ ∃ n b, findF n fs = some b /\ (V n).ownBlock = some k
section
variable {F : Nat -> Prop} {p mb : Nat} {V : Bs -> Value} {lf : Int} {S : St} {w w' : World}
theorem DiskIn.tight (h : DiskIn w F p mb V lf S) : DiskIn w (foot p mb V S.fs) p mb V lf S :=
 ⟨h.head, h.left, h.wf, h.map, ⟨h.rows.own, fun n b hb _ hg => .inr (.inr ⟨n, b, hb, hg⟩), h.rows.apart⟩, .inl rfl, .inr (.inl rfl)⟩
theorem DiskIn.foot_in (h : DiskIn w F p mb V lf S) {k : Nat} (hk : foot p mb V S.fs k) : F k := by
 rcases hk with rfl | rfl | ⟨n, b, hb, hg⟩
 ·exact h.inP
 ·exact h.inM
 ·exact h.rows.foot n b hb k hg
theorem DiskIn.foot_cells (h : DiskIn w F p mb V lf S) {k : Nat} (hk : foot p mb V S.fs k) : k = mb \/ ∃ o : Obj, w.heap[k]? = some o /\ o.isCells = true := by
 rcases hk with rfl | rfl | ⟨n, b, hb, hg⟩
 ·exact .inr ⟨_, h.head, rfl⟩
 ·exact .inl rfl
 ·rcases (h.rows.own n b hb).2 with ⟨e, _⟩ | ⟨g, cap, cur, e, _, h3, _⟩
  ·rw [e] at hg; cases hg
  ·rw [e] at hg
   have e2 : g = k := Option.some.inj hg
   subst e2; exact .inr ⟨_, h3, rfl⟩
structure LayAt (w0 : World) (Z : Nat -> Prop) (lo hi : Nat) (p mb : Nat) (S : St) (W : World) : Prop where
 ex : ∃ V lf, DiskIn W (foot p mb V S.fs) p mb V lf S /\ ∀ k, foot p mb V S.fs k -> ¬ Z k /\ k < W.heap.size /\ (k < lo \/ hi <= k)
 map : mb < lo
 turn : Turn (fun k => ¬ Z k) w0 W
 old : ∀ k, Z k -> k < w0.heap.size
 size : w0.heap.size <= lo /\ lo <= hi /\ hi <= W.heap.size
variable {w0 W W' : World} {Z : Nat -> Prop} {lo hi : Nat} {S' : St}
theorem LayAt.one (h : LayAt w0 Z lo hi p mb S W) : One w0 Z W p S := by
 obtain ⟨V, lf, h1, h2⟩ := h.ex; exact ⟨_, ⟨mb, V, lf, h1⟩, fun k hk => ⟨(h2 k hk).1, (h2 k hk).2.1⟩, h.turn, h.old⟩
theorem LayAt.own (h : LayAt w0 Z lo hi p mb S W) {row : Option Nat} (hg : W.grownBy W' row) (hr : ∀ r, row = some r -> hi <= r /\ ∃ o : Obj, W.heap[r]? = some o /\ o.isCells = false) : LayAt w0 Z lo hi p mb S W' := by
 have hs := hg.size; obtain ⟨⟨V, lf, h1, h2⟩, h3, h4, h5, h6⟩ := h; have hn : ∀ k, foot p mb V S.fs k -> row ≠ some k := fun k hk e => by
  obtain ⟨q1, o, q2, q3⟩ := hr k e; rcases h1.foot_cells hk with rfl | ⟨o', q4, q5⟩
  ·omega
  ·rw [q2] at q4; cases q4; rw [q3] at q5; cases q5
 exact ⟨⟨V, lf, h1.turn (G := fun k => row = some k) (Turn.of_grown hg (fun g hg => hg)) hn, fun k hk => ⟨(h2 k hk).1, by have := (h2 k hk).2.1; omega, (h2 k hk).2.2⟩⟩, h3,
  h4.then (Turn.of_grown (G := fun k => row = some k) hg (fun g hg => hg)) (fun k hk hk2 hz => by have := (hr k hk2).1; have := h5 k hz; omega), h5, ⟨h6.1, h6.2.1, by omega⟩⟩
theorem LayAt.set (h : LayAt w0 Z lo hi p mb S W) {g : Nat} (hg : lo <= g /\ g < hi) (j : Nat) (v : Value) : LayAt w0 Z lo hi p mb S (W.setCell ⟨g, j, none⟩ v) := by
 have ht : Turn (fun k => k = g) W (W.setCell ⟨g, j, none⟩ v) := Turn.setCell W _ v rfl
 have hs := ht.size; obtain ⟨⟨V, lf, h1, h2⟩, h3, h4, h5, h6⟩ := h; exact ⟨⟨V, lf, h1.turn ht (fun k hk e => by have := (h2 k hk).2.2; omega), fun k hk => ⟨(h2 k hk).1, by have := (h2 k hk).2.1; omega, (h2 k hk).2.2⟩⟩, h3,
  h4.then ht (fun k _ hk2 hz => by have := h5 k hz; omega), h5, ⟨h6.1, h6.2.1, by omega⟩⟩
theorem LayAt.acts (h4 : Turn (fun k => ¬ Z k) w0 W) (h3 : mb < lo) (h5 : ∀ k, Z k -> k < w0.heap.size) (h6 : w0.heap.size <= lo /\ lo <= hi /\ hi <= W.heap.size) {G : Nat -> Prop} (h2 : ∀ k, G k -> ¬ Z k /\ k < W.heap.size /\ (k < lo \/ hi <= k))
  {V' : Bs -> Value} {lf' : Int} (hd : DiskIn W' (grow G W W') p mb V' lf' S') (ht : Turn G W W') : LayAt w0 Z lo hi p mb S' W' := by
 have hs := ht.size; refine ⟨⟨V', lf', hd.tight, fun k hk => ?_⟩, h3, h4.then ht (fun k _ hk hz => (h2 k hk).1 hz), h5, ⟨h6.1, h6.2.1, by omega⟩⟩
 rcases hd.foot_in hk with hk | hk
 ·exact ⟨(h2 k hk).1, by have := (h2 k hk).2.1; omega, (h2 k hk).2.2⟩
 ·exact ⟨fun hz => by have := h5 k hz; omega, hk.2, .inr (by omega)⟩
theorem keepsFrom_of {G : Nat -> Prop} (ht : Turn G W W') (hG : ∀ k, G k -> k < hi \/ ∃ o : Obj, W.heap[k]? = some o /\ o.isCells = true) : KeepsFrom hi W W' :=
 ⟨ht.size, fun k o hk ho hc => ht.keep ho (fun hg => by
  rcases hG k hg with h | ⟨o', h1, h2⟩
  ·omega
  ·rw [ho] at h1; cases h1; rw [hc] at h2; cases h2)⟩
end
end
section
open Go.RowKit Go.Shelf
attribute [local go_sem] Oper.semAt_some
theorem src_zone {w0 w W : World} {Z : Nat -> Prop} {ao : Option Addr} {cap : Nat} {bs : Bs} {B off : Nat} (hs : SrcAt w ao cap bs B off) (hB : 0 < bs.length -> Z B) (t : Turn (fun k => ¬ Z k) w0 w) (t' : Turn (fun k => ¬ Z k) w0 W) (ho : ∀ k, Z k -> k < w0.heap.size) : SrcAt W ao cap bs B off := by
 refine ⟨hs.le, hs.top, hs.src, hs.bare, fun p => Nat.lt_of_lt_of_le (ho B (hB p)) t'.size, fun j hj => ?_⟩
 have hz := hB (by omega)
 have h1 := t.block B (ho B hz) (fun h => h hz)
 have h2 := t'.block B (ho B hz) (fun h => h hz)
 rw [World.cell?_of_block (w := w) (w' := W) (a := ⟨B, off + j, none⟩) (h2.trans h1.symm)]
 exact hs.cell j hj
theorem boxed_own' {W W' : World} {B g hi : Nat} {t : TypeId} {v : Value} {row : Option Nat} (h : Boxed W g t v) (hg : W.grownBy W' row) (hr : ∀ r, row = some r -> hi <= r /\ ∃ o : Obj, W.heap[r]? = some o /\ o.isCells = false) (_ : B = g) : Boxed W' g t v :=
 h.kept hg (fun e => by
  obtain ⟨_, o, h1, h2⟩ := hr g e.symm; rw [show W.heap[g]? = _ from h] at h1
  cases h1
  cases h2)
def boxT (w : World) (p : Nat) (n : Bs) (v : Value) : World := (((w.alloc (.cells #[ptr p] 25)).alloc (.cells #[.string (SL n)] 9)).alloc (.cells #[err 0] 37)).alloc (.cells #[v] 29)
structure Midst (w0 : World) (Z : Nat -> Prop) (lo p mb : Nat) (n : Bs) (z : Int) (T : St) (W : World) : Prop where
 lay : LayAt w0 Z lo (lo + 4) p mb T W
 b0 : Boxed W lo 25 (ptr p)
 b1 : Boxed W (lo + 1) 9 (.string (SL n))
 b2 : Boxed W (lo + 1 + 1) 37 (err z)
theorem Midst.own {w0 W W' : World} {Z : Nat -> Prop} {lo p mb : Nat} {n : Bs} {z : Int} {T : St} (h : Midst w0 Z lo p mb n z T W) {row : Option Nat} (hg : W.grownBy W' row) (hr : ∀ r, row = some r -> lo + 4 <= r /\ ∃ o : Obj, W.heap[r]? = some o /\ o.isCells = false) : Midst w0 Z lo p mb n z T W' :=
 ⟨h.lay.own hg hr, boxed_own' h.b0 hg hr rfl, boxed_own' h.b1 hg hr rfl, boxed_own' h.b2 hg hr rfl⟩
theorem Midst.acts {w0 W W' : World} {Z : Nat -> Prop} {lo p mb : Nat} {n : Bs} {z : Int} {T T' : St} (h : Midst w0 Z lo p mb n z T W) {V V' : Bs -> Value} {lf lf' : Int} (h1 : DiskIn W (foot p mb V T.fs) p mb V lf T) (h2 : ∀ k, foot p mb V T.fs k -> ¬ Z k /\ k < W.heap.size /\ (k < lo \/ lo + 4 <= k))
  (hd : DiskIn W' (grow (foot p mb V T.fs) W W') p mb V' lf' T') (ht : Turn (foot p mb V T.fs) W W') : Midst w0 Z lo p mb n z T' W' /\ KeepsFrom (lo + 4) W W' := by
 have hb : ∀ g, lo <= g /\ g < lo + 4 -> ¬ foot p mb V T.fs g := fun g hg hk => by have := (h2 g hk).2.2; omega
 have hm := h.lay.map; refine ⟨⟨LayAt.acts h.lay.turn h.lay.map h.lay.old h.lay.size h2 hd ht, ht.keep h.b0 (hb _ (by omega)), ht.keep h.b1 (hb _ (by omega)), ht.keep h.b2 (hb _ (by omega))⟩, keepsFrom_of ht fun k hk => ?_⟩
 rcases h1.foot_cells hk with rfl | h
 ·exact .inl (by omega)
 ·exact .inr h
theorem Midst.set {w0 W : World} {Z : Nat -> Prop} {lo p mb : Nat} {n : Bs} {z : Int} {T : St} (h : Midst w0 Z lo p mb n z T W) (y : Int) : Midst w0 Z lo p mb n y T (W.setCell ⟨lo + 1 + 1, 0, none⟩ (err y)) :=
 ⟨h.lay.set (by omega) 0 _, h.b0.other (by omega) _, h.b1.other (by omega) _, h.b2.set _⟩
theorem Midst.last {w0 W W' : World} {Z : Nat -> Prop} {lo p mb : Nat} {n : Bs} {z : Int} {T S' : St} (h : Midst w0 Z lo p mb n z T W) {V : Bs -> Value} {lf : Int} (h1 : DiskIn W (foot p mb V T.fs) p mb V lf T) (h2 : ∀ k, foot p mb V T.fs k -> ¬ Z k /\ k < W.heap.size /\ (k < lo \/ lo + 4 <= k))
  (hd : DiskAt W' (grow (foot p mb V T.fs) W W') p S') (ht : Turn (foot p mb V T.fs) W W') {D : Nat} {o : Obj} (hD : W.heap[D]? = some o) (hDlo : lo + 4 <= D) (ho : o.isCells = false) :
  (∀ v : Value, ∀ o' : Obj, One w0 Z ((W'.setCell ⟨lo + 1 + 1, 0, none⟩ v).putObj D o') p S') /\ Boxed W' (lo + 1 + 1) 37 (err z) /\ W'.heap[D]? = some o := by
 have hDn : ¬ foot p mb V T.fs D := fun hk => by
  rcases h1.foot_cells hk with e | ⟨o', e1, e2⟩
  ·have := h.lay.map; omega
  ·rw [hD] at e1; cases e1; rw [ho] at e2; cases e2
 have hbn : ¬ foot p mb V T.fs (lo + 1 + 1) := fun hk => by have := (h2 _ hk).2.2; omega
 have hDs := (ge_ hD).1; have hs := ht.size; have hsz := h.lay.size; have hold := h.lay.old; refine ⟨fun v o' => ?_, ht.keep h.b2 hbn, ht.keep hD hDn⟩
 have t1 : Turn (fun k => k = lo + 1 + 1) W' (W'.setCell ⟨lo + 1 + 1, 0, none⟩ v) := Turn.setCell W' _ v rfl
 have t2 : Turn (fun k => k = D) (W'.setCell ⟨lo + 1 + 1, 0, none⟩ v) ((W'.setCell ⟨lo + 1 + 1, 0, none⟩ v).putObj D o') := Turn.of_grown (grownBy_putObj' _ D o') (fun g hg => by cases hg; rfl)
 have hn1 : ∀ k, grow (foot p mb V T.fs) W W' k -> k ≠ lo + 1 + 1 /\ k ≠ D := fun k hk => by
  rcases hk with hk | hk
  ·exact ⟨fun e => hbn (e ▸ hk), fun e => hDn (e ▸ hk)⟩
  ·omega
 have s1 := t1.size; have s2 := t2.size; refine ⟨_, (hd.turn t1 (fun k hk e => (hn1 k hk).1 e)).turn t2 (fun k hk e => (hn1 k hk).2 e), fun k hk => ?_, ((h.lay.turn.then ht (fun k _ hk hz => (h2 k hk).1 hz)).then t1 (fun k _ e hz => by have := hold k hz; omega)).then t2 (fun k _ e hz => by have := hold k hz; omega), hold⟩
 rcases hk with hk | hk
 ·exact ⟨(h2 k hk).1, by have := (h2 k hk).2.1; omega⟩
 ·exact ⟨fun hz => by have := hold k hz; omega, by omega⟩
def MidI {ao : Option Addr} {cap : Nat} {b : Bs} {B off : Nat} (w0 : World) (Z : Nat -> Prop) (lo p mb : Nat) (n : Bs) (S : St) (pre : List (Piece ao cap b B off)) (W : World) : Prop :=
 (appendsS n S (pre.map fun x => x.t)).1 = 0 /\ Midst w0 Z lo p mb n 0 (appendsS n S (pre.map fun x => x.t)).2 W
def MidX {ao : Option Addr} {cap : Nat} {b : Bs} {B off : Nat} (w0 : World) (Z : Nat -> Prop) (lo p mb : Nat) (n : Bs) (S : St) (c : Code) (pre : List (Piece ao cap b B off)) (W : World) : Prop :=
 c = .ret /\ (appendsS n S (pre.map fun x => x.t)).1 ≠ 0 /\ Midst w0 Z lo p mb n (appendsS n S (pre.map fun x => x.t)).1 (appendsS n S (pre.map fun x => x.t)).2 W
theorem midI_own {ao : Option Addr} {cap : Nat} {b : Bs} {B off : Nat} (w0 : World) (Z : Nat -> Prop) (lo p mb : Nat) (n : Bs) (S : St) : OwnFrom (lo + 4) (MidI (ao := ao) (cap := cap) (b := b) (B := B) (off := off) w0 Z lo p mb n S) :=
 fun _ _ _ _ hs hg hr => ⟨hs.1, hs.2.own hg hr⟩
theorem midX_own {ao : Option Addr} {cap : Nat} {b : Bs} {B off : Nat} (w0 : World) (Z : Nat -> Prop) (lo p mb : Nat) (n : Bs) (S : St) (c : Code) : OwnFrom (lo + 4) (MidX (ao := ao) (cap := cap) (b := b) (B := B) (off := off) w0 Z lo p mb n S c) :=
 fun _ _ _ _ hs hg hr => ⟨hs.1, hs.2.1, hs.2.2.own hg hr⟩
section
variable {w0 w : World} {Z : Nat -> Prop} {p : Nat} {S : St}
theorem lay_any (h : One w0 Z w p S) (hg : Good S) (n b : Bs) (hb : S.done + (chunksL b).length <= 4000000000000000) (v : Value) (hv : BytesAt w Z v b) :
  Calls Tryz.prog 143 #[ptr p, .string (SL n), v] w (OneTo w0 Z p (layS n b S)) := by
 obtain ⟨F, ⟨mb, V, lf, h1⟩, h2, h3, h4⟩ := h; obtain ⟨ao, cap, B, off, rfl, hs, hB⟩ := hv; have hmb : mb < w.heap.size := (h2 mb h1.inM).2; have hw0 := h3.size; obtain ⟨W1, hW1⟩ := nm_ (boxT w p n (.slice ao b.length cap)); have hb1 : Below w.heap.size w W1 := by
  rw [hW1]; exact ((((Below.refl _ w).alloc (Nat.le_refl _) _).alloc (by simp) _).alloc (by simp; omega) _).alloc (by simp; omega) _
 have hsz : W1.heap.size = w.heap.size + 4 := by rw [hW1]; simp [boxT]
 have hM : Midst w0 Z w.heap.size p mb n 0 S W1 := by
  refine ⟨⟨⟨V, lf, (h1.tight).turn (Turn.of_below (fun _ => False) hb1) (fun _ _ h => h), fun k hk => ?_⟩, hmb, h3.trans (Turn.of_below _ hb1), h4, by omega⟩, ?_, ?_, ?_⟩
  ·have hk2 := h2 k (h1.foot_in hk)
   exact ⟨hk2.1, by omega, .inl hk2.2⟩
  ·rw [hW1]; exact ((Boxed.new w _ _).alloc _).alloc _ |>.alloc _
  ·have := Boxed.new (w.alloc (.cells #[ptr p] 25)) 9 (.string (SL n))
   rw [World.size_alloc] at this; rw [hW1]; exact (this.alloc _).alloc _
  ·have := Boxed.new ((w.alloc (.cells #[ptr p] 25)).alloc (.cells #[.string (SL n)] 9)) 37 (err 0)
   rw [World.size_alloc, World.size_alloc] at this; rw [hW1]; exact this.alloc _
 have hbx : W1.cell? ⟨w.heap.size + 3, 0, none⟩ = some (.slice ao b.length cap) := by
  have := Boxed.new (((w.alloc (.cells #[ptr p] 25)).alloc (.cells #[.string (SL n)] 9)).alloc (.cells #[err 0] 37)) 29 (.slice ao b.length cap)
  rw [World.size_alloc, World.size_alloc, World.size_alloc] at this; rw [hW1]; exact this.cell
 have hst := chunks_stops (ao := ao) (cap := cap) (bs := b) (B := B) (off := off) (3 - 1) (by omega) (w.heap.size + 3) hs.le W1 (by omega) hbx
 have hsrc : ∀ W, Turn (fun k => ¬ Z k) w0 W -> SrcAt W ao cap b B off := fun W ht => src_zone hs hB h3 ht h4
 obtain ⟨K, hK⟩ := nm_ (b.length); obtain ⟨r, hr⟩ := nm_ (layS n b S); rw [<- hK] at hW1; have hW1' : (((w.alloc (.cells #[ptr p] 25)).alloc (.cells #[.string (SL n)] 9)).alloc (.cells #[.int .i64 0] 37)).alloc (.cells #[.slice ao K cap] 29) = W1 := hW1.symm
 rw [<- hr, <- hK]; have HW := h_ hW1'; have HM := h_ hM; have HST := h_ hst; have HSRC := h_ hsrc; have HR := h_ hr; have HB := h_ hB; have HK := h_ hK; have HH4 := h_ h4; have HSZ := h_ hsz; clear hW1 hW1' hM hst hsrc hr hK hbx h1 h2 h3 hB hs hb1 h4; obtain ⟨lo, hlo⟩ := nm_ (w.heap.size); refine (callsIn_wide (n := 3)).1 ?_
 refine callsIn_of_wp_marks Tryz.func143 rfl trivial ?_ rfl; simp only [Tryz.ntmps143, List.size_toArray, List.length_cons, List.length_nil, Nat.reduceAdd, Nat.reduceSub, Array.replicate_succ, Array.replicate_zero, List.push_toArray, List.append_toArray, List.nil_append, List.cons_append]; gi_wp2_with (refine ⟨trivial, ?_⟩; gi_at_call 166; refine (chunks_in _ _ _ _ _).mono ?_; rintro e w' ⟨rfl, rfl⟩)
 rw [HW.out]; have hsz := HSZ.out; have hms := HST.out; refine wpIn_rangeFunc_ownG rfl (by omega) (gf := 180) (lb := #[.pointer (some ⟨w.heap.size + 3, 0, none⟩)]) rfl trivial (enters_of Tryz.func180 (by kernel_rfl) rfl)
  hms (fun _ _ => trivial) (fun _ _ _ _ _ _ _ _ => trivial) (Below.refl _ _) (fun _ => rfl)
  (MidI w0 Z w.heap.size p mb n S) (MidX w0 Z w.heap.size p mb n S) (by rw [hsz]; exact midI_own _ _ _ _ _ _ _) (fun c => by rw [hsz]; exact midX_own _ _ _ _ _ _ _ c)
  ⟨rfl, HM.out⟩
  (fun x => { tmps := #[ptr p, .string (SL n), .slice ao K cap, .pointer (some ⟨w.heap.size, 0, none⟩), .pointer (some ⟨w.heap.size + 1, 0, none⟩), undef, .pointer (some ⟨w.heap.size + 1 + 1, 0, none⟩), x.val, undef, .slice ao K cap, .func (.func 180) #[] #[.pointer (some ⟨w.heap.size + 3, 0, none⟩)], x.val, undef, undef, undef, undef, undef, undef, undef, undef, undef, undef], defers := [] }) ?assign ?body ?done ?stop
 case assign =>
  intro l x W K hK
  gi_wp2
  exact hK
 case body =>
  clear hms HST HM; rw [hsz]; rintro l pre x W ⟨h0, hm⟩ hlen; obtain ⟨V2, lf2, d1, d2⟩ := hm.lay.ex; have e1 : appendsS n S ((pre ++ [x]).map fun x => x.t) = appendS (appendsS n S (pre.map fun x => x.t)).2 n x.t := by
   rw [List.map_append, List.map_singleton, appends_one, if_neg (by simp [h0])]
  have hdn := appends_done n (pre.map fun x => x.t) S
  rw [List.length_map] at hdn; have hgT : Good (appendsS n S (pre.map fun x => x.t)).2 := hg.appends
  obtain ⟨T, hT⟩ := nm_ ((appendsS n S (pre.map fun x => x.t)).2)
  rw [<- hT] at e1 hdn hgT hm d1 d2; have hap := append_in d1 hgT (fun k hk => (d2 k hk).2.1) (by omega) n x.a x.c x.t B (off + x.l) (x.src W (HSRC.out W hm.lay.turn)) (fun hp hF => (d2 B hF).1 (HB.out (by have := x.le; omega)))
  have hact := fun (W' : World) (V' : Bs -> Value) (lf' : Int) (T' : St) => hm.acts (W' := W') (V' := V') (lf' := lf') (T' := T') d1 d2
  have hxv : x.val = .slice x.a x.t.length x.c := rfl
  have c0 := hm.b0.cell; have c1 := hm.b1.cell; obtain ⟨q, hq⟩ := nm_ (appendS T n x.t); rw [<- hq] at e1 hap; obtain ⟨M, hM⟩ := nm_ (x.t.length); rw [hxv, <- hM]; rw [<- hM] at hap; have HAP := h_ hap; have HACT := h_ hact; have HE := h_ e1; clear hap hact e1 hxv hM hq hT d1 d2 hgT hdn hlen h0 hm hsz; by_cases hz : q.1 = 0
  ·gi_wp2_with (refine ⟨trivial, ?_⟩; gi_at_call 37; refine (CallsIn.inRound l (callsIn_wide.2 HAP.out)).mono ?_; rintro e W' ⟨rfl, ⟨V', lf', hd⟩, ht⟩; have HX := h_ (HACT.out W' V' lf' q.2 hd ht); clear hd ht; rw [hz])
   exact ⟨HX.out.2, trivial, by rw [HE.out]; exact hz, by rw [HE.out]; exact HX.out.1⟩
  ·obtain ⟨z, hzz⟩ := nm_ (q.1)
   have hz2 : ¬ z = 0 := by rw [hzz]; exact hz
   have HZ := h_ hzz; clear hzz hz; gi_wp2_with (refine ⟨trivial, ?_⟩; gi_at_call 37; refine (CallsIn.inRound l (callsIn_wide.2 HAP.out)).mono ?_; rintro e W' ⟨rfl, ⟨V', lf', hd⟩, ht⟩; have HX := h_ (HACT.out W' V' lf' q.2 hd ht); clear hd ht; have f2 := HX.out.1.b2.frozen; have k2 := HX.out.1.b2.cell; rw [<- HZ.out])
   have hset := HX.out.1.set z; exact ⟨HX.out.2.trans ((KeepsOthers.setCell _ _ _).from _), rfl, by rw [HE.out, <- HZ.out]; exact hz2, by rw [HE.out, <- HZ.out]; exact hset⟩
 case done =>
  rintro D xs W hD hxs ⟨h0, hm⟩ hK; rw [hxs] at h0 hm; have hDlo : w.heap.size + 4 <= D := by omega
  obtain ⟨V2, lf2, d1, d2⟩ := hm.lay.ex; have hgT : Good (appendsS n S (chunksL b)).2 := hg.appends; have hdn := appends_done n (chunksL b) S; have hr : r = syncS (appendsS n S (chunksL b)).2 n := by
   rw [HR.out]; unfold layS; rw [if_neg (by simp [h0])]
  obtain ⟨T, hT⟩ := nm_ ((appendsS n S (chunksL b)).2); rw [<- hT] at hgT hdn hr hm d1 d2; have hsy := sync_any d1 hgT (by omega) n
  rw [<- hr] at hsy; have hlast := fun (W' : World) => hm.last (W' := W') (S' := r.2) d1 d2
  have c0 := hm.b0.cell; have c1 := hm.b1.cell; have HS := h_ hsy; have HL := h_ hlast; have HKD := h_ hK; obtain ⟨z, hzz⟩ := nm_ (r.1); have HZ := h_ hzz; clear hms HST HM hsz hr hT hdn hgT d1 d2 hm h0 hxs hsy hlast hK hzz; gi_wp2_with (refine ⟨trivial, ?_⟩; gi_at_call 167; refine (callsIn_wide.2 HS.out).mono ?_; rintro e W' ⟨rfl, hd, ht⟩; have HX := h_ (HL.out W' hd ht HKD.out hDlo rfl); clear hd ht; have f2 := HX.out.2.1.frozen; have k2 := HX.out.2.1.cell; rw [<- HZ.out])
  have hK' := (KeepsOthers.setCell W' ⟨w.heap.size + 1 + 1, 0, none⟩ (err z)).same D _ HX.out.2.2 rfl; refine ⟨by simp, .inl ⟨_, _, rfl, run_takeDeferred hK', ?_⟩⟩
  have hc5 := cell_kept (HX.out.2.1.set (err z)).cell (grownBy_putObj' _ D (.deferred none)) (fun r e => by cases e; exact ⟨_, hK', rfl⟩)
  refine ⟨err z, ?_, by rw [HZ.out], HX.out.1 _ _⟩
  simp [results, Tryz.f143, go_sem, hc5]
 case stop =>
  rintro D c pre W hD ⟨rest, hpre⟩ ⟨rfl, h0, hm⟩ hK; have hDlo : w.heap.size + 4 <= D := by omega
  have hr : r = appendsS n S (pre.map fun x => x.t) := by
   rw [HR.out]; have e : appendsS n S (chunksL b) = appendsS n S (pre.map fun x => x.t) := by rw [<- hpre, appends_stop _ _ _ _ h0]
   unfold layS; rw [e, if_pos h0]
  rw [<- hr] at h0 hm; obtain ⟨z, hzz⟩ := nm_ (r.1); have c2 := hm.b2.cell; rw [<- hzz] at c2; have hone := (hm.lay.own (grownBy_putObj' W D (.deferred none)) (fun r e => by cases e; exact ⟨hDlo, _, hK, rfl⟩)).one
  have HO := h_ hone; have HZ := h_ hzz; have HC := h_ c2; clear hms HST HM hsz hr hm hone hzz c2; gi_wp2
  refine ⟨by simp, .inl ⟨_, _, rfl, run_takeDeferred hK, ?_⟩⟩
  have hc5 := cell_kept HC.out (grownBy_putObj' _ D (.deferred none)) (fun r e => by cases e; exact ⟨_, hK, rfl⟩)
  refine ⟨err z, ?_, by rw [HZ.out], HO.out⟩
  simp [results, Tryz.f143, go_sem, hc5]
end
end
section
open Go.RowKit
theorem One.bytes {w0 w w' : World} {Z : Nat -> Prop} {p : Nat} {S S' : St} (h : One w0 Z w p S) (h' : One w0 Z w' p S') {v : Value} {b : Bs} (hv : BytesAt w Z v b) : BytesAt w' Z v b := by
 obtain ⟨ao, cap, B, off, rfl, hs, hB⟩ := hv; have t' := h'.turned; obtain ⟨_, _, _, t, ho⟩ := h; exact ⟨ao, cap, B, off, rfl, src_zone hs hB t t' ho, hB⟩
theorem SL_nil_eq {n : Bs} (h : n ≠ []) : ((SL n).toList == ([] : List UInt8)) = false := by
 rw [SL_toList]
 cases n with
 | nil => exact absurd rfl h
 | cons a r => rfl
section
variable {w0 w : World} {Z : Nat -> Prop} {p : Nat} {S : St}
theorem save_any (h : One w0 Z w p S) (hg : Good S) (hb : S.done + S.cap + 10 <= 4000000000000000) (n b : Bs) (hn : n.length <= 281474976710656) (v : Value) (hv : BytesAt w Z v b) (hbl : b.length <= 281474976710656) :
  Calls Tryz.prog 103 #[ptr p, .string (SL n), v] w (OneTo w0 Z p (saveS S n b)) := by
 have hs : (SL n).size = n.length := SL_size n
 have hsx := suffix_any n (by omega) w
 obtain ⟨ao, cap, B, off, rfl, hsr, hB⟩ := hv; have hv : BytesAt w Z (.slice ao b.length cap) b := ⟨ao, cap, B, off, rfl, hsr, hB⟩; obtain ⟨K, hK⟩ := nm_ (b.length); rw [<- hK] at hv |-; clear hsr hB; by_cases hn0 : n = []
 ·subst hn0
  have e : saveS S [] b = (1, S) := save_bad (.inr (.inl rfl))
  rw [e]; have HS : OneTo w0 Z p (1, S) (.returned (err 1)) w := ⟨rfl, h⟩; have hz : (SL []).toList.isEmpty = true := by rw [SL_toList]; rfl
  go_enter Tryz.func103, Tryz.ntmps103; go_wp2; go_ret; exact HS
 ·have hne := SL_nil_eq hn0
  have hne2 : (SL n).toList ≠ [] := by rw [SL_toList]; exact hn0
  cases hm : marked n with
  | true =>
   have e : saveS S n b = (1, S) := save_bad (.inr (.inr hm))
   rw [e]; rw [hm] at hsx; have HS : OneTo w0 Z p (1, S) (.returned (err 1)) w := ⟨rfl, h⟩; clear e hm; go_enter Tryz.func103, Tryz.ntmps103; go_wp2_with (go_at_call 70; refine hsx.mono ?_; rintro e w' ⟨rfl, rfl⟩)
   go_ret; exact HS
  | false =>
   rw [hm] at hsx; have hcat := SL_shadow n; have h1 : (⟨#[126]⟩ : ByteArray).size = 1 := rfl
   have hrem := h.remove hg (by omega) (shadowN n)
   obtain ⟨r, hr⟩ := nm_ (saveS S n b); obtain ⟨q, hq⟩ := nm_ (removeS S (shadowN n)); rw [<- hr]; rw [<- hq] at hrem; have hr2 : r = if q.1 ≠ 0 /\ q.1 ≠ 3 then q else saveT n b q.2 := by
    rw [hr, hq]; unfold saveS; rw [if_neg (by simp [hn0, hm])]
   have hgq : Good q.2 := by rw [hq]; exact hg.remove _
   have hdq : q.2.done <= S.done + 1 := by rw [hq]; exact remove_done _ _
   have hcq : q.2.cap = S.cap := by rw [hq]; exact remove_cap _ _
   obtain ⟨z, hz⟩ := nm_ (q.1); rw [<- hz] at hr2; have HREM := h_ hrem; have HR2 := h_ hr2; have HV := h_ (fun (w' : World) (S' : St) (h' : One w0 Z w' p S') => h.bytes h' hv)
   have HZ := h_ hz; have HK := h_ hK; clear hr hrem hm hq hr2 hv h hz hK; go_enter Tryz.func103, Tryz.ntmps103; go_wp2_with (first | (go_at_call 70; refine hsx.mono ?_; rintro e w' ⟨rfl, rfl⟩) | (go_at_call 36; fail))
   refine HREM.out.mono ?_; rintro e w1 ⟨rfl, h1'⟩; rw [<- HZ.out]; have H1 := h_ h1'; clear h1' HREM hsx; by_cases hz3 : z = 3 \/ z = 0
   ·have hr3 : r = saveT n b q.2 := by rw [HR2.out, if_neg (by omega)]
    have hfree := H1.out.free; obtain ⟨f0, f1, f2⟩ := hgq.free_in; rw [f2] at hfree; have hneed := need_any n (K : Int) w1; rw [needI_nat hn (by rw [HK.out]; exact hbl)] at hneed
    obtain ⟨x, hx⟩ := nm_ (q.2.free); obtain ⟨y, hy⟩ := nm_ (needS n K); rw [<- hx] at hfree; rw [<- hy] at hneed; have hr4 : r = if x < y then (4, q.2) else if (layS (shadowN n) b q.2).1 ≠ 0 then layS (shadowN n) b q.2 else renameS (layS (shadowN n) b q.2).2 (shadowN n) n := by rw [hr3, hx, hy, HK.out]; rfl
    have HR4 := h_ hr4; have HX := h_ hx; have HY := h_ hy; clear hr3 hr4 hx hy f0 f1 f2 HR2; by_cases hlt : x < y
    ·have hr5 : r = (4, q.2) := by rw [HR4.out, if_pos hlt]
     have HS : OneTo w0 Z p r (.returned (err 4)) w1 := by rw [hr5]; exact ⟨rfl, H1.out⟩
     clear hr5; rcases hz3 with rfl | rfl
     all_goals (go_wp2_with (first | (go_at_call 141; refine hfree.mono ?_; rintro e w' ⟨rfl, rfl⟩) | (go_at_call 142; refine hneed.mono ?_; rintro e w' ⟨rfl, rfl⟩)); go_ret; exact HS)
    ·have hfit : b.length <= S.cap := by
      have h1 := hgq.free_in; have h2 := HX.out; have h3 := HY.out; have h4 := HK.out; unfold St.free at h2; unfold needS at h3; omega
     have hcf := chunks_few b; have hlay := lay_any H1.out hgq (shadowN n) b (by omega) _ (HV.out _ _ H1.out)
     obtain ⟨l, hl⟩ := nm_ (layS (shadowN n) b q.2); have hr5 : r = if l.1 ≠ 0 then l else renameS l.2 (shadowN n) n := by rw [HR4.out, if_neg hlt, hl]
     have hgl : Good l.2 := by rw [hl]; exact hgq.lay
     have hdl : l.2.done <= 4000000000000000 := by have := lay_done (shadowN n) b q.2; rw [hl]; omega
     rw [<- hl] at hlay; obtain ⟨y2, hy2⟩ := nm_ (l.1); rw [<- hy2] at hr5; have HR5 := h_ hr5; have HLAY := h_ hlay; have HY2 := h_ hy2; clear hr5 hlay hl hy2 hcf hfit; have hcase : ∀ w2, One w0 Z w2 p l.2 -> Hid (One w0 Z w2 p l.2 /\ Calls Tryz.prog 144 #[ptr p, .string (SL (shadowN n)), .string (SL n)] w2 (OneTo w0 Z p (renameS l.2 (shadowN n) n))) := fun w2 h2 => h_ ⟨h2, h2.rename hgl hdl _ _⟩
     by_cases hl0 : y2 = 0
     ·have hr6 : r = renameS l.2 (shadowN n) n := by rw [HR5.out, if_neg (by omega)]
      have HR6 := h_ hr6; clear hr6; rcases hz3 with rfl | rfl
      all_goals (go_wp2_with (first | (go_at_call 141; refine hfree.mono ?_; rintro e w' ⟨rfl, rfl⟩) | (go_at_call 142; refine hneed.mono ?_; rintro e w' ⟨rfl, rfl⟩) | (go_at_call 143; refine HLAY.out.mono ?_; rintro e w2 ⟨rfl, h2⟩; rw [<- HY2.out, hl0]; have HC := hcase w2 h2; clear h2) | (go_at_call 144; refine HC.out.2.mono ?_; rintro e w3 ⟨rfl, h3⟩; rw [<- HR6.out] at h3 |-)); go_ret; exact ⟨rfl, h3⟩)
     ·have hr6 : r = l := by rw [HR5.out, if_pos hl0]
      have HR6 := h_ hr6; clear hr6; rcases hz3 with rfl | rfl
      all_goals (go_wp2_with (first | (go_at_call 141; refine hfree.mono ?_; rintro e w' ⟨rfl, rfl⟩) | (go_at_call 142; refine hneed.mono ?_; rintro e w' ⟨rfl, rfl⟩) | (go_at_call 143; refine HLAY.out.mono ?_; rintro e w2 ⟨rfl, h2⟩; rw [<- HY2.out]; have HC := hcase w2 h2; clear h2)); go_ret; rw [HR6.out]; exact ⟨by rw [HY2.out] <;> rfl, HC.out.1⟩)
   ·have hz0 : ¬ z = 0 := fun e => hz3 (.inr e)
    have hz30 : ¬ z = 3 := fun e => hz3 (.inl e)
    have hr3 : r = q := by rw [HR2.out, if_pos ⟨hz0, hz30⟩]
    have HR3 := h_ hr3; clear hr3 hz3; have hb0 : (z != 0) = true := by simpa using hz0
    have hb3 : (z != 3) = true := by simpa using hz30
    have hb : (z != 0 && z != 3) = true := by rw [hb0, hb3]; rfl
    go_wp2; go_ret; rw [HR3.out]; exact ⟨by rw [HZ.out] <;> rfl, H1.out⟩
end
end
section
open Go.RowKit
theorem One.names {w0 w : World} {Z : Nat -> Prop} {p : Nat} {S : St} (h : One w0 Z w p S) (hg : Good S) : Calls Tryz.prog 60 #[ptr p] w fun e w' => ∃ v, e = .returned v /\ w'.ownsRow w.heap.size 9 1 v S.fs.length (S.fs.map fun f => .string (SL f.1)) /\ Below w.heap.size w w' := by
 obtain ⟨F, ⟨mb, V, lf, h⟩, _⟩ := h; exact names_any h hg.rise (by have := hg.many; omega)
theorem One.back {w0 w1 w2 w3 : World} {Z Y : Nat -> Prop} {p : Nat} {S T : St} (h : One w0 Z w1 p S) (hb : Below w1.heap.size w1 w2) (h' : One w2 (fun k => Z k \/ Y k) w3 p T) : One w0 Z w3 p T := by
 have t := h.turned; obtain ⟨_, _, _, _, ho⟩ := h; obtain ⟨F, h1, h2, h3, h4⟩ := h'; exact ⟨F, h1, fun k hk => ⟨fun hz => (h2 k hk).1 (.inl hz), (h2 k hk).2⟩, (t.trans (Turn.of_below _ hb)).then h3 (fun k _ hk hz => hk (.inl hz)), ho⟩
theorem names_short {S : St} (hg : Good S) {k : Nat} {n : Bs} (h : (namesF S.fs)[k]? = some n) : n.length <= 1099511627776 := by
 obtain ⟨p, hp, rfl⟩ := List.mem_map.1 (List.mem_of_getElem? h); have := hg.file_le (findF_of_mem hg.rise hp)
 unfold costF at this; omega
section
variable {w0 w : World} {Z : Nat -> Prop} {p : Nat} {S : St}
end
end
section
open Go.RowKit Go.Shelf
attribute [local go_sem] Oper.semAt_some
def idsOf (L : List Bs) : List Bs := L.filterMap unnameL
theorem idsOf_step {l : List Bs} {k : Nat} {n : Bs} (h : l[k]? = some n) : idsOf (l.take (k + 1)) = idsOf (l.take k) ++ (unnameL n).toList := by
 unfold idsOf; rw [List.take_add_one, h, List.filterMap_append]
 cases hu : unnameL n <;> simp [hu]
theorem idsOf_pre (l : List Bs) (k : Nat) : idsOf (l.take k) <+: idsOf l := ⟨idsOf (l.drop k), by unfold idsOf; rw [<- List.filterMap_append, List.take_append_drop]⟩
theorem idsOf_names (fs : Files) : idsOf (namesF fs) = idsL fs := by unfold idsOf namesF idsL; rw [List.filterMap_map]; rfl
def GI (lo hi : Nat) : Nat -> Prop := fun k => k = lo \/ hi <= k
theorem names_cells {x N : Nat} {w : World} {v : Value} {L : List Bs} (h : w.ownsRow x 9 1 v N (L.map fun n => .string (SL n))) (hN : L.length = N) :
  ∃ ao cap, v = .slice ao N cap /\ ∀ (G : Nat -> Prop) (W : World), Turn G w W -> (∀ g, x <= g -> g < w.heap.size -> ¬ G g) -> ∀ (k : Nat) (n : Bs), L[k]? = some n -> ∃ g, ao = some ⟨g, 0, none⟩ /\ W.cell? ⟨g, k, none⟩ = some (.string (SL n)) := by
 have hown := h; rcases h.2 with ⟨e, h0⟩ | ⟨g, cap, cur, e, _⟩
 ·refine ⟨none, 0, by rw [e, h0], fun G W _ _ k n hk => ?_⟩
  have := (List.getElem?_eq_some_iff.1 hk).1
  omega
 ·refine ⟨some ⟨g, 0, none⟩, cap, e, fun G W ht hg k n hk => ⟨g, rfl, ?_⟩⟩
  have hl := hown.lt g (by rw [e]; rfl)
  have h1 := hown.cells (g := g) (by rw [e]; rfl) k (.string (SL n)) (by rw [List.getElem?_map, hk]; rfl)
  rw [Addr.add_lit, Nat.zero_add] at h1; exact ht.cell h1 (hg g hl.1 hl.2)
theorem below_grown {w w' : World} (h : Below w.heap.size w w') : w.grownBy w' none := ⟨h.os, h.tape, h.output, h.size, fun k hk _ => h.block k hk⟩
theorem ids_stops (n : Nat) (hn : 1 <= n) (Bx lo hi N : Nat) (L : List Bs) (ao : Option Addr) (cap : Nat) (w : World) (hBx : Bx < w.heap.size) (hc : w.cell? ⟨Bx, 0, none⟩ = some (.slice ao N cap)) (hN : L.length = N)
  (hcell : ∀ W, Turn (GI lo hi) w W -> ∀ (k : Nat) (n : Bs), L[k]? = some n -> ∃ g, ao = some ⟨g, 0, none⟩ /\ W.cell? ⟨g, k, none⟩ = some (.string (SL n))) (hlen : ∀ (k : Nat) (n : Bs), L[k]? = some n -> n.length <= 281474976710656) (hb : N <= 4000000000000) :
  SeqStopsK Fence.wide n Tryz.prog 114 #[.pointer (some ⟨Bx, 0, none⟩)] (fun x : Bs => #[.string (SL x)]) (Turn (GI lo hi)) (fun xs => xs = idsOf L) (fun pre => pre <+: idsOf L) (idsOf L).length w := fun l J Jx W hW hJ hJx hY h0 => by
 have hc' := (hW.cell (p := ⟨Bx, 0, none⟩) hBx).trans hc
 have HN := h_ hN; have HY := h_ hY; have HC := h_ hcell; have HL := h_ hlen; have HJ := h_ hJ; have HW := h_ hW; clear hN hc hY hcell hlen hJ hJx hW; refine callsIn_of_wp Tryz.func114 rfl trivial ?_ rfl; simp only [Tryz.ntmps114, List.size_toArray, List.length_cons, List.length_nil, Nat.reduceAdd, Nat.reduceSub, Array.replicate_succ, Array.replicate_zero, List.push_toArray, List.append_toArray, List.nil_append, List.cons_append]; gi_wp2
 gi_loopw [9] (fun i wr => ∃ k : Nat, i = .int .i64 (k : Int) /\ k <= N /\ Hid (J (idsOf (L.take k)) wr) /\ Hid (Turn (GI lo hi) w wr) /\ Hid (W.heap.size <= wr.heap.size)) (fun i _ => N - (intOf i).toNat)
 case atStart =>
  exact ⟨0, rfl, Nat.zero_le _, h_ h0, h_ (Turn.of_below _ HW.out), h_ (Nat.le_refl _)⟩
 case round =>
  clear h0; obtain ⟨k, rfl, hk, HJs, HT, HS⟩ := hrel; have i0 : (0 : Int) <= (k : Int) := by omega
  by_cases hlt : k < N
  ·have i1 : (k : Int) < (N : Int) := by omega
   obtain ⟨n, hn⟩ : ∃ n, L[k]? = some n := ⟨_, List.getElem?_eq_getElem (by rw [HN.out]; exact hlt)⟩
   obtain ⟨g, rfl, c1⟩ := HC.out wr HT.out k n hn; have hst := idsOf_step hn; have hid := idOf_any n (HL.out k n hn) wr
   cases hu : unnameL n with
   | none =>
    rw [hu] at hst; simp only [Option.toList, List.append_nil] at hst; have hno : Calls Tryz.prog 115 #[.string (SL n)] wr fun e w' => (∃ x, e = .returned (.tuple #[.string (SL x), .bool false])) /\ Below wr.heap.size wr w' := by
     refine hid.mono ?_; rintro e w' ⟨⟨x, b, rfl, ⟨_, h2⟩ | ⟨rfl, _⟩⟩, hb⟩
     ·rw [hu] at h2; cases h2
     ·exact ⟨⟨x, rfl⟩, hb⟩
    have HST := h_ hst; have HI := h_ hno; clear hst hid hno hu hn; gi_wp2_with (refine ⟨trivial, ?_⟩; gi_at_call 115; refine (callsIn_wide.2 HI.out).mono ?_; rintro e w3 ⟨⟨x, rfl⟩, b3⟩; have B3 := h_ b3; clear b3)
    refine ⟨fun _ h => (by cases h), ?_⟩
    gi_wp2
    go_roundw
    case rel => exact ⟨k + 1, by go_num, by omega, by rw [HST.out]; exact h_ (HJ.out _ _ _ none HJs.out (below_grown B3.out) (fun r e => by cases e)), h_ (HT.out.trans (Turn.of_below _ B3.out)), h_ (Nat.le_trans HS.out B3.out.size)⟩
    case measure => simp [intOf]; omega
   | some id =>
    rw [hu] at hst; simp only [Option.toList] at hst; have hyes : Calls Tryz.prog 115 #[.string (SL n)] wr fun e w' => e = .returned (.tuple #[.string (SL id), .bool true]) /\ Below wr.heap.size wr w' := by
     refine hid.mono ?_; rintro e w' ⟨⟨x, b, rfl, ⟨rfl, h2⟩ | ⟨_, h2⟩⟩, hb⟩
     ·rw [hu] at h2
      obtain rfl := Option.some.inj h2
      exact ⟨rfl, hb⟩
     ·rw [hu] at h2; cases h2
    have hpl : (idsOf (L.take k)).length < (idsOf L).length := by
     have h1 := (idsOf_pre L (k + 1)).length_le; rw [hst, List.length_append] at h1; simp only [List.length_cons, List.length_nil] at h1; omega
    have hpx := idsOf_pre L (k + 1); rw [hst] at hpx; have HST := h_ hst; have HI := h_ hyes; have HPL := h_ hpl; have HPX := h_ hpx; clear hst hid hyes hu hn hpl hpx; gi_wp2_with (refine ⟨trivial, ?_⟩; gi_at_call 115; refine (callsIn_wide.2 HI.out).mono ?_; rintro e w3 ⟨rfl, b3⟩; have B3 := h_ b3; clear b3; obtain ⟨fn, tmps, assign, body, hy, hR⟩ := HY.out _ id w3 (HJ.out _ _ _ none HJs.out (below_grown B3.out) (fun r e => by cases e)) HPL.out)
    refine hR.mono ?_; rintro e W3 (⟨rfl, hJ3, hk3⟩ | ⟨rfl, hJx3⟩)
    ·have HJ3 := h_ hJ3
     have HK3 := h_ hk3; clear hJ3 hk3; gi_wp2
     go_roundw
     case rel => exact ⟨k + 1, by go_num, by omega, by rw [HST.out]; exact HJ3, h_ ((HT.out.trans (Turn.of_below _ B3.out)).trans HK3.out), h_ (Nat.le_trans HS.out (Nat.le_trans B3.out.size HK3.out.size))⟩
     case measure => simp [intOf]; omega
    ·have HX3 := h_ hJx3
     clear hJx3; gi_wp2
     refine bodyPost_ret (results_none rfl _ _ _) rfl ?_; exact ⟨⟨_, rfl⟩, .inr ⟨_, HPX.out, HX3.out⟩⟩
  ·obtain rfl : k = N := by omega
   have i1 : ¬ ((k : Int) < (k : Int)) := by omega
   rw [List.take_of_length_le (by rw [HN.out]; exact Nat.le_refl _)] at HJs
   gi_wp2
   go_end0
   exact ⟨⟨_, rfl⟩, .inl HJs.out⟩
theorem ids_in (n : Nat) (a : Option Addr) (len cap : Nat) (w : World) :
  CallsIn Fence.wide n Tryz.prog 59 #[.slice a len cap] w fun e w' => e = .returned (.func (.func 114) #[] #[.pointer (some ⟨w.heap.size, 0, none⟩)]) /\ w' = w.alloc (.cells #[.slice a len cap] 31) := by
 refine callsIn_of_wp Tryz.func59 rfl trivial ?_ rfl; simp only [Tryz.ntmps59, List.size_toArray, List.length_cons, List.length_nil, Nat.reduceAdd, Nat.reduceSub, Array.replicate_succ, Array.replicate_zero, List.push_toArray, List.append_toArray, List.nil_append, List.cons_append]; gi_wp2
 go_ret; exact ⟨rfl, rfl⟩
theorem looseIds_of (x : Value) (L : List Bs) (N : Nat) (w : World)
  (hnm : ∀ wB, Below w.heap.size w wB -> Calls Tryz.prog 60 #[x] wB fun e w' => ∃ v, e = .returned v /\ w'.ownsRow wB.heap.size 9 1 v N (L.map fun n => .string (SL n)) /\ Below wB.heap.size wB w')
  (hLN : L.length = N) (hshort : ∀ (k : Nat) (n : Bs), L[k]? = some n -> n.length <= 1099511627776) (hmany : N <= 4000000000000) :
  Calls Tryz.prog 24 #[x] w fun e w' => ∃ v, e = .returned v /\ TxtsOwn w.heap.size w' v (idsOf L) /\ Below w.heap.size w w' := by
 obtain ⟨wB, hwB⟩ := nm_ (w.alloc (.cells #[.slice none 0 0] 31)); have hbB : Below w.heap.size w wB := by rw [hwB]; exact (Below.refl _ _).alloc (Nat.le_refl _) _
 have hszB : wB.heap.size = w.heap.size + 1 := by rw [hwB]; simp
 have hboxB : Boxed wB w.heap.size 31 (.slice none 0 0) := by rw [hwB]; exact Boxed.new w _ _
 have hnames := hnm wB hbB; have HWB := h_ hwB; have HNM := h_ hnames; have HLN := h_ hLN; have HSH := h_ hshort; have HBB := h_ hbB; have HBX := h_ hboxB; clear hwB hnames hLN hshort hnm hbB hboxB; obtain ⟨i0, hi, hz0, hz1, hz2⟩ := info_parts info_text; refine (callsIn_wide (n := 3)).1 ?_
 refine callsIn_of_wp_marks Tryz.func24 rfl trivial ?_ rfl; simp only [Tryz.ntmps24, List.size_toArray, List.length_cons, List.length_nil, Nat.reduceAdd, Nat.reduceSub, Array.replicate_succ, Array.replicate_zero, List.push_toArray, List.append_toArray, List.nil_append, List.cons_append]; gi_wp2_with (first
  | (refine ⟨trivial, ?_⟩; gi_at_call 60; rw [<- HWB.out]; refine (callsIn_wide.2 HNM.out).mono ?_; rintro e w1 ⟨v, rfl, ho, b1⟩; obtain ⟨ao, cap, rfl, hcell⟩ := names_cells ho HLN.out; have HC := h_ hcell; have B1 := h_ b1; clear ho hcell b1 HNM)
  | (refine ⟨trivial, ?_⟩; gi_at_call 59; refine (ids_in _ _ _ _ _).mono ?_; rintro e w' ⟨rfl, rfl⟩))
 obtain ⟨W1, hW1⟩ := nm_ (w1.alloc (.cells #[.slice ao N cap] 31)); have hs1 := B1.out.size; have hsB := HBB.out.size; have hszW : W1.heap.size = w1.heap.size + 1 := by rw [hW1]; simp
 have hbW : Below w1.heap.size w1 W1 := by rw [hW1]; exact (Below.refl _ _).alloc (Nat.le_refl _) _
 have hbxN : Boxed W1 w1.heap.size 31 (.slice ao N cap) := by rw [hW1]; exact Boxed.new w1 _ _
 have hlo := HBX.out.lt; have hboxW : Boxed W1 w.heap.size 31 (.slice none 0 0) := (hbW.block _ (by omega)).trans ((B1.out.block _ hlo).trans HBX.out)
 have hst := ids_stops (3 - 1) (by omega) w1.heap.size w.heap.size W1.heap.size N L ao cap W1 (by omega) hbxN.cell HLN.out
  (fun W hT => HC.out _ W ((Turn.of_below _ hbW).trans hT) (fun g h1 h2 hg => by
   rcases hg with hg | hg
   ·omega
   ·omega)) (fun k n hk => Nat.le_trans (HSH.out k n hk) (by decide)) (by omega)
 have hbel : Below w.heap.size w W1 := (HBB.out.trans (B1.out.mono hsB)).trans (hbW.mono (by omega))
 have hil : (idsOf L).length <= N := by have := List.length_filterMap_le unnameL L; unfold idsOf; have := HLN.out; omega
 have HW := h_ hW1; have HST := h_ hst; have HBW := h_ hboxW; have HBE := h_ hbel; have HSZ := h_ hszW; have HIL := h_ hil; clear hst hboxW hbel hszW hil hbW hbxN HC HSH HLN; rw [<- HW.out]; obtain ⟨lo, hloe⟩ := nm_ (w.heap.size); have HLO : lo < W1.heap.size := by have := HSZ.out; omega
 rw [<- hloe] at HST HBW hlo hsB; have HLE := h_ hloe; have hbe : Below lo w W1 := by rw [HLE.out]; exact HBE.out
 clear HW hW1 hloe; rw [<- HLE.out]; refine wpIn_rangeFunc_ownG rfl (by omega) (gf := 114) (lb := #[.pointer (some ⟨w1.heap.size, 0, none⟩)]) rfl trivial (enters_of Tryz.func114 (by kernel_rfl) rfl)
  HST.out (fun h k => h.trans k) (fun W l o o' hl hk ho _ => Turn.of_grown (grownBy_putObj' W l o') (fun g hg => by cases hg; exact .inr hl)) (Below.refl _ _) (fun _ => rfl)
  (fun pre W => (∃ v, Boxed W lo 31 v /\ W.ownsRow W1.heap.size 9 1 v pre.length (tcells pre)) /\ Turn (GI lo W1.heap.size) W1 W)
  (fun _ _ _ => False)
  (OwnFrom.and (fun s A B row hs hg hr => by
   obtain ⟨v, h1, h2⟩ := hs; refine ⟨v, h1.kept hg (fun e => by have := (hr _ e.symm).1; omega), h2.kept hg ?_⟩
   rcases h2.2 with ⟨rfl, _⟩ | ⟨g, cap, cur, rfl, _, hgb, _⟩
   ·exact .inl rfl
   ·refine .inr fun e' => ?_
    obtain ⟨_, o, ho, hc⟩ := hr g (by simpa [Value.ownBlock] using e'.symm)
    rw [hgb] at ho; cases ho; cases hc)
   (fun s A B row hs hg hr => hs.trans (Turn.of_grown hg (fun g e => .inr (hr g e).1))))
  (fun _ _ _ _ _ hs _ _ => hs)
  ⟨⟨_, HBW.out, World.ownsRow_nil _ _ _ _⟩, Turn.refl _ _⟩
  (fun y => { tmps := #[x, undef, .slice none 0 0, .pointer (some ⟨lo, 0, none⟩), .string (SL y), x, .slice ao N cap, .func (.func 114) #[] #[.pointer (some ⟨w1.heap.size, 0, none⟩)], .string (SL y), undef, undef, undef, undef, undef], defers := [] }) ?assign ?body ?done ?stop
 case assign =>
  intro l y W K hK
  gi_wp2
  exact hK
 case body =>
  rintro l pre y W ⟨⟨v, hv, hrow⟩, hT⟩ hlt; have hc := hv.cell; have hwz := hT.size; have hpl : pre.length + 1 <= 4000000000001 := by have := HIL.out; omega
  gi_wp2_with (gi_at_builtin; refine wpListIn_append_own _ rfl _ _ 31 rfl W1.heap.size 9 i0 (.string ByteArray.empty) 1 16 Tryz.underlying31 hi hz0 hz1 hz2 rfl (by decide) _ _ _ rfl (hrow.alloc _) ⟨W.heap.size, 0, none⟩ 1 1 [.string (SL y)] rfl rfl (cell_one_new _ _ _) (by simp [Value.oneCell']) (by unfold maxLen; omega) (by omega) (by simp; omega) ?_; intro v' w2 hown' hgrow _; obtain ⟨g', cap', rfl⟩ := ownsRow_succ hown'; obtain ⟨hv1, hv2, _, hk2, _⟩ := hv.appended (by decide) (own_down hrow (show lo <= W1.heap.size by omega)) (by omega) (Nat.le_refl _) (own_down hown' (show lo <= W1.heap.size by omega)) hgrow; have hr2 := hown'.kept (grownBy_setCell' w2 lo (.slice (some ⟨g', 0, none⟩) (pre.length + 1) cap')) (.inr (hv1.not_row (by decide) hown').symm); have hc1 := hv1.cell; have hf1 := hv1.frozen)
  have hT2 : Turn (GI lo W1.heap.size) W (w2.setCell ⟨lo, 0, none⟩ (.slice (some ⟨g', 0, none⟩) (pre.length + 1) cap')) :=
   ((Turn.of_below _ ((Below.refl W.heap.size W).alloc (Nat.le_refl _) _)).trans (Turn.of_grown hgrow (fun g e => .inr (hrow.lt g e).1))).trans (Turn.setCell _ _ _ (.inl rfl))
  exact ⟨hk2.from _, hT2, ⟨_, hv2, by rw [List.length_append, tcells_app]; exact hr2⟩, hT.trans hT2⟩
 case done =>
  rintro D ys W hD rfl ⟨⟨v, hv, hrow⟩, hT⟩ hK; have hc := hv.cell; gi_wp2
  refine ⟨by simp, .inl ⟨_, _, rfl, run_takeDeferred hK, ?_⟩⟩
  rw [<- HLE.out]; refine ⟨_, results_tmp rfl _ _ _, v, rfl, own_down (ownsRow_putObj hrow _ hK rfl) (show lo <= W1.heap.size by omega), ?_⟩
  have hT2 : Turn (GI lo W1.heap.size) W1 (W.putObj D (.deferred none)) := hT.trans (Turn.of_grown (grownBy_putObj' W D (.deferred none)) (fun g hg => by cases hg; exact .inr hD))
  exact hbe.trans (hT2.below (by omega) (fun k hk => by rcases hk with rfl | hk; exact Nat.le_refl _; omega))
 case stop =>
  rintro D c pre W _ _ h _; exact h.elim
theorem looseIds_any : IdsSpec := fun w0 w Z p S h hg => by
 have hL : (S.fs.map fun f => Value.string (SL f.1)) = (namesF S.fs).map fun n => Value.string (SL n) := by unfold namesF; rw [List.map_map]; rfl
 have h1 := looseIds_of (ptr p) (namesF S.fs) S.fs.length w (fun wB hb => by have := (h.below hb).names hg; rw [hL] at this; exact this) (by unfold namesF; rw [List.length_map]) (fun k n hk => names_short hg hk) (by have := hg.many; omega)
 rw [idsOf_names] at h1; exact h1
theorem looseIds_nil (w : World) : Calls Tryz.prog 24 #[.pointer none] w fun e w' => (∃ ao cap, e = .returned (.slice ao 0 cap)) /\ Below w.heap.size w w' := by
 refine (looseIds_of (.pointer none) [] 0 w (fun wB _ => (unmade_names (unmade_nil wB)).mono fun e w' ⟨he, hw⟩ => ⟨_, he, World.ownsRow_nil _ _ _ _, by rw [hw]; exact Below.refl _ _⟩) rfl (fun k n hk => by cases hk) (Nat.zero_le _)).mono ?_
 rintro e w' ⟨v, rfl, ho, hb⟩; obtain ⟨ao, cap, rfl⟩ := texts_form ho; exact ⟨⟨ao, cap, rfl⟩, hb⟩
end
section
open Go.RowKit
theorem press_two : pressL [2, 0] = [2, 2, 2, 0] := by decide
theorem dec_two : decO [2, 0] = some (zeroO 2) := dec_iff.2 ⟨by decide, by decide⟩
theorem findF_one (n b : Bs) : findF n [(n, b)] = some b := by simp [findF]
theorem read_there {S : St} {n b : Bs} (hn : named n = true) (hf : findF n S.fs = some b) : readS S n = (0, b) := by unfold readS; rw [if_neg (by rw [hn]; decide), hf]
theorem first_put {c : Nat} (hc : c <= 1099511627776) {raw : Bs} {o : ObjR} (hdec : decO raw = some o) (hroom : 100 + (pressL raw).length <= c) :
  ∃ S, putL (newS c) raw = (0, sumL raw, S) /\ S.dark = false /\ S.left = -1 /\ S.fs = [(nameL (sumL raw), pressL raw)] /\ Good S /\ S.cap = c /\ S.done <= c + 4 := by
 obtain ⟨S, h1, h2, h3, h4⟩ := put_new (S := newS c) (good_new hc) rfl rfl hdec rfl (by show costs [] + 100 + _ <= c; simp only [costs]; omega)
 have g := put_good (raw := raw) (good_new hc)
 have k := put_cap (newS c) raw; have d := put_done (newS c) raw; rw [h1] at g k d; exact ⟨S, h1, h2, h3, h4, g, k, by have : (newS c).done = 0 := rfl; have e : (newS c).cap = c := rfl; simp only at d; omega⟩
theorem awake_any (SP : LooseSpec) (w : World) : Calls Tryz.prog 8 #[] w fun e w' => e = .returned (.bool true) /\ Below w.heap.size w w' := by
 have hnew := one_new w 1000 (by decide)
 obtain ⟨S, hput, hd, hl, hfs, hg, hcap, hdone⟩ := first_put (c := 1000) (by decide) dec_two (by rw [press_two]; decide)
 have hidl := sumL_length [2, 0]; have hnn : named (nameL (sumL [2, 0])) = true := name_named (by omega)
 rw [press_two] at hfs; obtain ⟨id, hid⟩ := nm_ (sumL [2, 0]); rw [<- hid] at hput hfs hnn hidl; have hrd : readS S (nameL id) = (0, [2, 2, 2, 0]) := read_there hnn (by rw [hfs]; exact findF_one _ _)
 have hgt : getL S.fs id = (0, [2, 0]) := by
  rw [hfs, getL_some hidl (findF_one _ _), hid]; have := tell_press dec_two (by decide)
  rw [press_two] at this; exact this
 have hids : idsL S.fs = [id] := by rw [hfs]; simp [idsL, unname_name hidl]
 have hdr : dropL S id = (0, { tick S with fs := [] }) := by
  unfold dropL; rw [if_pos hidl, if_pos (by unfold thereF; rw [hfs, findF_one]; rfl), remove_there hd hl hnn (b := [2, 2, 2, 0]) (by rw [hfs]; exact findF_one _ _)]
  rw [hfs]; simp [delF]
 have hg2 : Good ({ tick S with fs := [] } : St) := by
  have := hg.remove (nameL id)
  rw [remove_there hd hl hnn (b := [2, 2, 2, 0]) (by rw [hfs]; exact findF_one _ _), hfs] at this
  simpa [delF] using this
 have HN := h_ hnew; have HSP := h_ SP; have PUT := h_ hput; have RD := h_ hrd; have GT := h_ hgt; have IDS := h_ hids; have DR := h_ hdr; have HG := h_ hg; have HG2 := h_ hg2; have HDN := h_ hdone; have HIL := h_ hidl; clear hnew SP hput hrd hgt hids hdr hg hg2 hdone hidl hid hfs hd hl hcap hnn; go_enter Tryz.func8, Tryz.ntmps8; go_wp2_with fail; refine HN.out.mono ?_; rintro e w1 ⟨p, rfl, h1⟩; have H1 := h_ h1; clear h1; go_wp2_with fail; have hb2 : Below w1.heap.size w1 (w1.alloc (.cells (cells8 [2, 0]) 5)) := (Below.refl _ _).alloc (Nat.le_refl _) _; obtain ⟨Y, h2, hv2⟩ := H1.out.with_new hb2 (made_bytes w1 [2, 0] (0, 0) (by decide))
 refine (HSP.out.put _ _ _ p (newS 1000) _ [2, 0] h2 (good_new (by decide)) (by decide) hv2 (by decide)).mono ?_
 rintro e w3 ⟨rfl, h3⟩; rw [PUT.out] at h3; rw [PUT.out]; have H3 : Hid (One w (elder w) w3 p S) := h_ (H1.out.back hb2 h3); clear h2 hv2 h3 hb2 PUT; go_wp2_with fail; refine (HSP.out.name id w3 (by have := HIL.out; omega)).mono ?_
 rintro e w4 ⟨rfl, b4⟩; have H4 := h_ (H3.out.below b4); clear b4; have hread := H4.out.tells HG.out (nameL id); rw [RD.out] at hread; have HRD := h_ hread; clear hread; go_wp2_with fail; refine HRD.out.mono ?_; rintro e w5 ⟨a5, c5, g5, rfl, s5, _, b5⟩; have H5 := h_ (H4.out.below b5); have S5 := h_ s5; clear b5 s5; have hget := HSP.out.get w w5 (elder w) p S id H5.out HG.out (by have := HIL.out; omega)
 rw [GT.out] at hget; have HGT := h_ hget; clear hget; go_wp2_with fail; refine HGT.out.mono ?_; rintro e w6 ⟨a6, c6, g6, o6, rfl, s6, _, b6⟩; have H6 := h_ (H5.out.below b6); have S56 := h_ (S5.out.below b6); have S6 := h_ s6; clear b6 s6; have hget := HSP.out.get w w6 (elder w) p S [120] H6.out HG.out (by decide)
 rw [getL_arg (by decide)] at hget
 have HGT := h_ hget; clear hget; go_wp2_with fail; refine HGT.out.mono ?_; rintro e w7 ⟨a7, c7, g7, o7, rfl, s7, _, b7⟩; have H7 := h_ (H6.out.below b7); have cv5 : (convert 29 9 (.slice a5 4 c5)).run Tryz.prog w7 = .ok (.string ⟨#[2, 2, 2, 0]⟩) w7 := convert_src (S56.out.below b7)
 have cv6 : (convert 29 9 (.slice a6 2 c6)).run Tryz.prog w7 = .ok (.string ⟨#[2, 0]⟩) w7 := convert_src (S6.out.below b7)
 clear b7 s7; have hids := HSP.out.ids w w7 (elder w) p S H7.out HG.out; rw [IDS.out] at hids; have HI := h_ hids; clear hids; go_wp2_with fail; refine HI.out.mono ?_; rintro e w8 ⟨v8, rfl, o8, b8⟩; obtain ⟨a8, c8, rfl⟩ := texts_form o8; have H8 := h_ (H7.out.below b8); clear b8 o8 HI; have hdrop := HSP.out.drop w w8 (elder w) p S id H8.out HG.out (by have := HDN.out; omega) (by have := HIL.out; omega)
 rw [DR.out] at hdrop; have HDRP := h_ hdrop; clear hdrop; go_wp2_with fail; refine HDRP.out.mono ?_; rintro e w9 ⟨rfl, h9⟩; have H9 := h_ h9; clear h9; have hids := HSP.out.ids w w9 (elder w) p _ H9.out HG2.out; have HI := h_ hids; clear hids; go_wp2_with fail; refine HI.out.mono ?_; rintro e w10 ⟨v10, rfl, o10, b10⟩; obtain ⟨a10, c10, rfl⟩ := texts_form o10; have B10 := h_ (H9.out.old.trans (b10.mono H9.out.old.size)); clear b10 o10 HI; go_wp2_with fail; go_ret; exact ⟨rfl, B10.out⟩
end
end Go.Proofs.YtomgijcbekjlaaaGreat
