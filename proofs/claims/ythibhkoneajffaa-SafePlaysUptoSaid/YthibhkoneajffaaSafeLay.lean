/- lay of package safe: a range over the chunks, each of them appended. -/
import Derived.Test.YthibhkoneajffaaSafeChunks
import Derived.Test.YthibhkoneajffaaSafeFoot
namespace Go.Proofs.Ythibhkoneajffaa
open Go.RowKit Go.Shelf
attribute [local go_sem] Oper.semAt_some
theorem src_zone {w0 w W : World} {Z : Nat → Prop} {ao : Option Addr} {cap : Nat} {bs : Bs} {B off : Nat} (hs : SrcAt w ao cap bs B off) (hB : 0 < bs.length → Z B) (t : Turn (fun k => ¬ Z k) w0 w) (t' : Turn (fun k => ¬ Z k) w0 W) (ho : ∀ k, Z k → k < w0.heap.size) : SrcAt W ao cap bs B off := by
  refine ⟨hs.le, hs.top, hs.src, hs.bare, fun p => Nat.lt_of_lt_of_le (ho B (hB p)) t'.size, fun j hj => ?_⟩
  have hz := hB (by omega)
  have h1 := t.block B (ho B hz) (fun h => h hz)
  have h2 := t'.block B (ho B hz) (fun h => h hz)
  rw [World.cell?_of_block (w := w) (w' := W) (a := ⟨B, off + j, none⟩) (h2.trans h1.symm)]
  exact hs.cell j hj
theorem boxed_own' {W W' : World} {B g hi : Nat} {t : TypeId} {v : Value} {row : Option Nat} (h : Boxed W g t v) (hg : W.grownBy W' row) (hr : ∀ r, row = some r → hi ≤ r ∧ ∃ o : Obj, W.heap[r]? = some o ∧ o.isCells = false) (_ : B = g) : Boxed W' g t v :=
  h.kept hg (fun e => by
    obtain ⟨_, o, h1, h2⟩ := hr g e.symm
    rw [show W.heap[g]? = _ from h] at h1
    cases h1
    cases h2)
def boxT (w : World) (p : Nat) (n : Bs) (v : Value) : World := (((w.alloc (.cells #[ptr p] 25)).alloc (.cells #[.string (SL n)] 9)).alloc (.cells #[err 0] 32)).alloc (.cells #[v] 29)
/-- What stands between two rounds. -/
structure Midst (w0 : World) (Z : Nat → Prop) (lo p mb : Nat) (n : Bs) (z : Int) (T : St) (W : World) : Prop where
  lay : LayAt w0 Z lo (lo + 4) p mb T W
  b0 : Boxed W lo 25 (ptr p)
  b1 : Boxed W (lo + 1) 9 (.string (SL n))
  b2 : Boxed W (lo + 1 + 1) 32 (err z)
theorem Midst.own {w0 W W' : World} {Z : Nat → Prop} {lo p mb : Nat} {n : Bs} {z : Int} {T : St} (h : Midst w0 Z lo p mb n z T W) {row : Option Nat} (hg : W.grownBy W' row) (hr : ∀ r, row = some r → lo + 4 ≤ r ∧ ∃ o : Obj, W.heap[r]? = some o ∧ o.isCells = false) : Midst w0 Z lo p mb n z T W' :=
  ⟨h.lay.own hg hr, boxed_own' h.b0 hg hr rfl, boxed_own' h.b1 hg hr rfl, boxed_own' h.b2 hg hr rfl⟩
theorem Midst.acts {w0 W W' : World} {Z : Nat → Prop} {lo p mb : Nat} {n : Bs} {z : Int} {T T' : St} (h : Midst w0 Z lo p mb n z T W) {V V' : Bs → Value} {lf lf' : Int} (h1 : DiskIn W (foot p mb V T.fs) p mb V lf T) (h2 : ∀ k, foot p mb V T.fs k → ¬ Z k ∧ k < W.heap.size ∧ (k < lo ∨ lo + 4 ≤ k))
    (hd : DiskIn W' (grow (foot p mb V T.fs) W W') p mb V' lf' T') (ht : Turn (foot p mb V T.fs) W W') : Midst w0 Z lo p mb n z T' W' ∧ KeepsFrom (lo + 4) W W' := by
  have hb : ∀ g, lo ≤ g ∧ g < lo + 4 → ¬ foot p mb V T.fs g := fun g hg hk => by have := (h2 g hk).2.2; omega
  have hm := h.lay.map
  refine ⟨⟨LayAt.acts h.lay.turn h.lay.map h.lay.old h.lay.size h2 hd ht, ht.keep h.b0 (hb _ (by omega)), ht.keep h.b1 (hb _ (by omega)), ht.keep h.b2 (hb _ (by omega))⟩, keepsFrom_of ht fun k hk => ?_⟩
  rcases h1.foot_cells hk with rfl | h
  · exact .inl (by omega)
  · exact .inr h
theorem Midst.set {w0 W : World} {Z : Nat → Prop} {lo p mb : Nat} {n : Bs} {z : Int} {T : St} (h : Midst w0 Z lo p mb n z T W) (y : Int) : Midst w0 Z lo p mb n y T (W.setCell ⟨lo + 1 + 1, 0, none⟩ (err y)) :=
  ⟨h.lay.set (by omega) 0 _, h.b0.other (by omega) _, h.b1.other (by omega) _, h.b2.set _⟩
/-- Behind the last call: the result is stored, the block for deferred calls is taken. -/
theorem Midst.last {w0 W W' : World} {Z : Nat → Prop} {lo p mb : Nat} {n : Bs} {z : Int} {T S' : St} (h : Midst w0 Z lo p mb n z T W) {V : Bs → Value} {lf : Int} (h1 : DiskIn W (foot p mb V T.fs) p mb V lf T) (h2 : ∀ k, foot p mb V T.fs k → ¬ Z k ∧ k < W.heap.size ∧ (k < lo ∨ lo + 4 ≤ k))
    (hd : DiskAt W' (grow (foot p mb V T.fs) W W') p S') (ht : Turn (foot p mb V T.fs) W W') {D : Nat} {o : Obj} (hD : W.heap[D]? = some o) (hDlo : lo + 4 ≤ D) (ho : o.isCells = false) :
    (∀ v : Value, ∀ o' : Obj, One w0 Z ((W'.setCell ⟨lo + 1 + 1, 0, none⟩ v).putObj D o') p S') ∧ Boxed W' (lo + 1 + 1) 32 (err z) ∧ W'.heap[D]? = some o := by
  have hDn : ¬ foot p mb V T.fs D := fun hk => by
    rcases h1.foot_cells hk with e | ⟨o', e1, e2⟩
    · have := h.lay.map; omega
    · rw [hD] at e1; cases e1; rw [ho] at e2; cases e2
  have hbn : ¬ foot p mb V T.fs (lo + 1 + 1) := fun hk => by have := (h2 _ hk).2.2; omega
  have hDs := (Array.getElem?_eq_some_iff.1 hD).1
  have hs := ht.size
  have hsz := h.lay.size
  have hold := h.lay.old
  refine ⟨fun v o' => ?_, ht.keep h.b2 hbn, ht.keep hD hDn⟩
  have t1 : Turn (fun k => k = lo + 1 + 1) W' (W'.setCell ⟨lo + 1 + 1, 0, none⟩ v) := Turn.setCell W' _ v rfl
  have t2 : Turn (fun k => k = D) (W'.setCell ⟨lo + 1 + 1, 0, none⟩ v) ((W'.setCell ⟨lo + 1 + 1, 0, none⟩ v).putObj D o') := Turn.of_grown (grownBy_putObj' _ D o') (fun g hg => by cases hg; rfl)
  have hn1 : ∀ k, grow (foot p mb V T.fs) W W' k → k ≠ lo + 1 + 1 ∧ k ≠ D := fun k hk => by
    rcases hk with hk | hk
    · exact ⟨fun e => hbn (e ▸ hk), fun e => hDn (e ▸ hk)⟩
    · omega
  have s1 := t1.size
  have s2 := t2.size
  refine ⟨_, (hd.turn t1 (fun k hk e => (hn1 k hk).1 e)).turn t2 (fun k hk e => (hn1 k hk).2 e), fun k hk => ?_, ((h.lay.turn.then ht (fun k _ hk hz => (h2 k hk).1 hz)).then t1 (fun k _ e hz => by have := hold k hz; omega)).then t2 (fun k _ e hz => by have := hold k hz; omega), hold⟩
  rcases hk with hk | hk
  · exact ⟨(h2 k hk).1, by have := (h2 k hk).2.1; omega⟩
  · exact ⟨fun hz => by have := hold k hz; omega, by omega⟩
def MidI {ao : Option Addr} {cap : Nat} {b : Bs} {B off : Nat} (w0 : World) (Z : Nat → Prop) (lo p mb : Nat) (n : Bs) (S : St) (pre : List (Piece ao cap b B off)) (W : World) : Prop :=
  (appendsS n S (pre.map fun x => x.t)).1 = 0 ∧ Midst w0 Z lo p mb n 0 (appendsS n S (pre.map fun x => x.t)).2 W
def MidX {ao : Option Addr} {cap : Nat} {b : Bs} {B off : Nat} (w0 : World) (Z : Nat → Prop) (lo p mb : Nat) (n : Bs) (S : St) (c : Code) (pre : List (Piece ao cap b B off)) (W : World) : Prop :=
  c = .ret ∧ (appendsS n S (pre.map fun x => x.t)).1 ≠ 0 ∧ Midst w0 Z lo p mb n (appendsS n S (pre.map fun x => x.t)).1 (appendsS n S (pre.map fun x => x.t)).2 W
theorem midI_own {ao : Option Addr} {cap : Nat} {b : Bs} {B off : Nat} (w0 : World) (Z : Nat → Prop) (lo p mb : Nat) (n : Bs) (S : St) : OwnFrom (lo + 4) (MidI (ao := ao) (cap := cap) (b := b) (B := B) (off := off) w0 Z lo p mb n S) :=
  fun _ _ _ _ hs hg hr => ⟨hs.1, hs.2.own hg hr⟩
theorem midX_own {ao : Option Addr} {cap : Nat} {b : Bs} {B off : Nat} (w0 : World) (Z : Nat → Prop) (lo p mb : Nat) (n : Bs) (S : St) (c : Code) : OwnFrom (lo + 4) (MidX (ao := ao) (cap := cap) (b := b) (B := B) (off := off) w0 Z lo p mb n S c) :=
  fun _ _ _ _ hs hg hr => ⟨hs.1, hs.2.1, hs.2.2.own hg hr⟩
section
variable {w0 w : World} {Z : Nat → Prop} {p : Nat} {S : St}
set_option maxRecDepth 100000 in
set_option maxHeartbeats 4000000 in
theorem lay_any (h : One w0 Z w p S) (hg : Good S) (n b : Bs) (hb : S.done + (chunksL b).length ≤ 1000000000000) (v : Value) (hv : BytesAt w Z v b) :
    Calls Try.prog 55 #[ptr p, .string (SL n), v] w (OneTo w0 Z p (layS n b S)) := by
  obtain ⟨F, ⟨mb, V, lf, h1⟩, h2, h3, h4⟩ := h
  obtain ⟨ao, cap, B, off, rfl, hs, hB⟩ := hv
  have hmb : mb < w.heap.size := (h2 mb h1.inM).2
  have hw0 := h3.size
  obtain ⟨W1, hW1⟩ : ∃ W1, W1 = boxT w p n (.slice ao b.length cap) := ⟨_, rfl⟩
  have hb1 : Below w.heap.size w W1 := by
    rw [hW1]
    exact ((((Below.refl _ w).alloc (Nat.le_refl _) _).alloc (by simp) _).alloc (by simp; omega) _).alloc (by simp; omega) _
  have hsz : W1.heap.size = w.heap.size + 4 := by rw [hW1]; simp [boxT]
  have hM : Midst w0 Z w.heap.size p mb n 0 S W1 := by
    refine ⟨⟨⟨V, lf, (h1.tight).turn (Turn.of_below (fun _ => False) hb1) (fun _ _ h => h), fun k hk => ?_⟩, hmb, h3.trans (Turn.of_below _ hb1), h4, by omega⟩, ?_, ?_, ?_⟩
    · have hk2 := h2 k (h1.foot_in hk)
      exact ⟨hk2.1, by omega, .inl hk2.2⟩
    · rw [hW1]; exact ((Boxed.new w _ _).alloc _).alloc _ |>.alloc _
    · have := Boxed.new (w.alloc (.cells #[ptr p] 25)) 9 (.string (SL n))
      rw [World.size_alloc] at this
      rw [hW1]; exact (this.alloc _).alloc _
    · have := Boxed.new ((w.alloc (.cells #[ptr p] 25)).alloc (.cells #[.string (SL n)] 9)) 32 (err 0)
      rw [World.size_alloc, World.size_alloc] at this
      rw [hW1]; exact this.alloc _
  have hbx : W1.cell? ⟨w.heap.size + 3, 0, none⟩ = some (.slice ao b.length cap) := by
    have := Boxed.new (((w.alloc (.cells #[ptr p] 25)).alloc (.cells #[.string (SL n)] 9)).alloc (.cells #[err 0] 32)) 29 (.slice ao b.length cap)
    rw [World.size_alloc, World.size_alloc, World.size_alloc] at this
    rw [hW1]; exact this.cell
  have hst := chunks_stops (ao := ao) (cap := cap) (bs := b) (B := B) (off := off) (3 - 1) (by omega) (w.heap.size + 3) hs.le W1 (by omega) hbx
  have hsrc : ∀ W, Turn (fun k => ¬ Z k) w0 W → SrcAt W ao cap b B off := fun W ht => src_zone hs hB h3 ht h4
  obtain ⟨K, hK⟩ : ∃ K, K = b.length := ⟨_, rfl⟩
  obtain ⟨r, hr⟩ : ∃ r, r = layS n b S := ⟨_, rfl⟩
  rw [← hK] at hW1
  have hW1' : (((w.alloc (.cells #[ptr p] 25)).alloc (.cells #[.string (SL n)] 9)).alloc (.cells #[.int .i64 0] 32)).alloc (.cells #[.slice ao K cap] 29) = W1 := hW1.symm
  rw [← hr, ← hK]
  have HW := Lib.hid hW1'
  have HM := Lib.hid hM
  have HST := Lib.hid hst
  have HSRC := Lib.hid hsrc
  have HR := Lib.hid hr
  have HB := Lib.hid hB
  have HK := Lib.hid hK
  have HH4 := Lib.hid h4
  have HSZ := Lib.hid hsz
  clear hW1 hW1' hM hst hsrc hr hK hbx h1 h2 h3 hB hs hb1 h4
  obtain ⟨lo, hlo⟩ : ∃ lo, lo = w.heap.size := ⟨_, rfl⟩
  refine (callsIn_wide (n := 3)).1 ?_
  refine callsIn_of_wp_marks Try.func55 rfl trivial ?_ rfl
  simp only [Try.ntmps55, List.size_toArray, List.length_cons, List.length_nil, Nat.reduceAdd, Nat.reduceSub, Array.replicate_succ, Array.replicate_zero, List.push_toArray, List.append_toArray, List.nil_append, List.cons_append]
  gi_wp2_with (refine ⟨trivial, ?_⟩; gi_at_call 69; refine (chunks_in _ _ _ _ _).mono ?_; rintro e w' ⟨rfl, rfl⟩)
  rw [HW.out]
  have hsz := HSZ.out
  have hms := HST.out
  refine wpIn_rangeFunc_ownG rfl (by omega) (gf := 78) (lb := #[.pointer (some ⟨w.heap.size + 3, 0, none⟩)]) rfl trivial (enters_of Try.func78 (by kernel_rfl) rfl)
    hms (fun _ _ => trivial) (fun _ _ _ _ _ _ _ _ => trivial) (Below.refl _ _) (fun _ => rfl)
    (MidI w0 Z w.heap.size p mb n S) (MidX w0 Z w.heap.size p mb n S) (by rw [hsz]; exact midI_own _ _ _ _ _ _ _) (fun c => by rw [hsz]; exact midX_own _ _ _ _ _ _ _ c)
    ⟨rfl, HM.out⟩
    (fun x => { tmps := #[ptr p, .string (SL n), .slice ao K cap, .pointer (some ⟨w.heap.size, 0, none⟩), .pointer (some ⟨w.heap.size + 1, 0, none⟩), undef, .pointer (some ⟨w.heap.size + 1 + 1, 0, none⟩), x.val, undef, .slice ao K cap, .func (.func 78) #[] #[.pointer (some ⟨w.heap.size + 3, 0, none⟩)], x.val, undef, undef, undef, undef, undef, undef, undef, undef, undef, undef], defers := [] }) ?assign ?body ?done ?stop
  case assign =>
    intro l x W K hK
    gi_wp2
    exact hK
  case body =>
    clear hms HST HM
    rw [hsz]
    rintro l pre x W ⟨h0, hm⟩ hlen
    obtain ⟨V2, lf2, d1, d2⟩ := hm.lay.ex
    have e1 : appendsS n S ((pre ++ [x]).map fun x => x.t) = appendS (appendsS n S (pre.map fun x => x.t)).2 n x.t := by
      rw [List.map_append, List.map_singleton, appends_one, if_neg (by simp [h0])]
    have hdn := appends_done n (pre.map fun x => x.t) S
    rw [List.length_map] at hdn
    have hgT : Good (appendsS n S (pre.map fun x => x.t)).2 := hg.appends
    obtain ⟨T, hT⟩ : ∃ T, T = (appendsS n S (pre.map fun x => x.t)).2 := ⟨_, rfl⟩
    rw [← hT] at e1 hdn hgT hm d1 d2
    have hap := append_in d1 hgT (fun k hk => (d2 k hk).2.1) (by omega) n x.a x.c x.t B (off + x.l) (x.src W (HSRC.out W hm.lay.turn)) (fun hp hF => (d2 B hF).1 (HB.out (by have := x.le; omega)))
    have hact := fun (W' : World) (V' : Bs → Value) (lf' : Int) (T' : St) => hm.acts (W' := W') (V' := V') (lf' := lf') (T' := T') d1 d2
    have hxv : x.val = .slice x.a x.t.length x.c := rfl
    have c0 := hm.b0.cell
    have c1 := hm.b1.cell
    obtain ⟨q, hq⟩ : ∃ q, q = appendS T n x.t := ⟨_, rfl⟩
    rw [← hq] at e1 hap
    obtain ⟨M, hM⟩ : ∃ M, M = x.t.length := ⟨_, rfl⟩
    rw [hxv, ← hM]
    rw [← hM] at hap
    have HAP := Lib.hid hap
    have HACT := Lib.hid hact
    have HE := Lib.hid e1
    clear hap hact e1 hxv hM hq hT d1 d2 hgT hdn hlen h0 hm hsz
    by_cases hz : q.1 = 0
    · gi_wp2_with (refine ⟨trivial, ?_⟩; gi_at_call 11; refine (CallsIn.inRound l (callsIn_wide.2 HAP.out)).mono ?_; rintro e W' ⟨rfl, ⟨V', lf', hd⟩, ht⟩; have HX := Lib.hid (HACT.out W' V' lf' q.2 hd ht); clear hd ht; rw [hz])
      exact ⟨HX.out.2, trivial, by rw [HE.out]; exact hz, by rw [HE.out]; exact HX.out.1⟩
    · obtain ⟨z, hzz⟩ : ∃ z, z = q.1 := ⟨_, rfl⟩
      have hz2 : ¬ z = 0 := by rw [hzz]; exact hz
      have HZ := Lib.hid hzz
      clear hzz hz
      gi_wp2_with (refine ⟨trivial, ?_⟩; gi_at_call 11; refine (CallsIn.inRound l (callsIn_wide.2 HAP.out)).mono ?_; rintro e W' ⟨rfl, ⟨V', lf', hd⟩, ht⟩; have HX := Lib.hid (HACT.out W' V' lf' q.2 hd ht); clear hd ht; have f2 := HX.out.1.b2.frozen; have k2 := HX.out.1.b2.cell; rw [← HZ.out])
      have hset := HX.out.1.set z
      exact ⟨HX.out.2.trans ((KeepsOthers.setCell _ _ _).from _), rfl, by rw [HE.out, ← HZ.out]; exact hz2, by rw [HE.out, ← HZ.out]; exact hset⟩
  case done =>
    rintro D xs W hD hxs ⟨h0, hm⟩ hK
    rw [hxs] at h0 hm
    have hDlo : w.heap.size + 4 ≤ D := by omega
    obtain ⟨V2, lf2, d1, d2⟩ := hm.lay.ex
    have hgT : Good (appendsS n S (chunksL b)).2 := hg.appends
    have hdn := appends_done n (chunksL b) S
    have hr : r = syncS (appendsS n S (chunksL b)).2 n := by
      rw [HR.out]
      unfold layS
      rw [if_neg (by simp [h0])]
    obtain ⟨T, hT⟩ : ∃ T, T = (appendsS n S (chunksL b)).2 := ⟨_, rfl⟩
    rw [← hT] at hgT hdn hr hm d1 d2
    have hsy := sync_any d1 hgT (by omega) n
    rw [← hr] at hsy
    have hlast := fun (W' : World) => hm.last (W' := W') (S' := r.2) d1 d2
    have c0 := hm.b0.cell
    have c1 := hm.b1.cell
    have HS := Lib.hid hsy
    have HL := Lib.hid hlast
    have HKD := Lib.hid hK
    obtain ⟨z, hzz⟩ : ∃ z, z = r.1 := ⟨_, rfl⟩
    have HZ := Lib.hid hzz
    clear hms HST HM hsz hr hT hdn hgT d1 d2 hm h0 hxs hsy hlast hK hzz
    gi_wp2_with (refine ⟨trivial, ?_⟩; gi_at_call 70; refine (callsIn_wide.2 HS.out).mono ?_; rintro e W' ⟨rfl, hd, ht⟩; have HX := Lib.hid (HL.out W' hd ht HKD.out hDlo rfl); clear hd ht; have f2 := HX.out.2.1.frozen; have k2 := HX.out.2.1.cell; rw [← HZ.out])
    have hK' := (KeepsOthers.setCell W' ⟨w.heap.size + 1 + 1, 0, none⟩ (err z)).same D _ HX.out.2.2 rfl
    refine ⟨by simp, .inl ⟨_, _, rfl, run_takeDeferred hK', ?_⟩⟩
    have hc5 := cell_kept (HX.out.2.1.set (err z)).cell (grownBy_putObj' _ D (.deferred none)) (fun r e => by cases e; exact ⟨_, hK', rfl⟩)
    refine ⟨err z, ?_, by rw [HZ.out], HX.out.1 _ _⟩
    simp [results, Try.f55, go_sem, hc5]
  case stop =>
    rintro D c pre W hD ⟨rest, hpre⟩ ⟨rfl, h0, hm⟩ hK
    have hDlo : w.heap.size + 4 ≤ D := by omega
    have hr : r = appendsS n S (pre.map fun x => x.t) := by
      rw [HR.out]
      have e : appendsS n S (chunksL b) = appendsS n S (pre.map fun x => x.t) := by rw [← hpre, appends_stop _ _ _ _ h0]
      unfold layS
      rw [e, if_pos h0]
    rw [← hr] at h0 hm
    obtain ⟨z, hzz⟩ : ∃ z, z = r.1 := ⟨_, rfl⟩
    have c2 := hm.b2.cell
    rw [← hzz] at c2
    have hone := (hm.lay.own (grownBy_putObj' W D (.deferred none)) (fun r e => by cases e; exact ⟨hDlo, _, hK, rfl⟩)).one
    have HO := Lib.hid hone
    have HZ := Lib.hid hzz
    have HC := Lib.hid c2
    clear hms HST HM hsz hr hm hone hzz c2
    gi_wp2
    refine ⟨by simp, .inl ⟨_, _, rfl, run_takeDeferred hK, ?_⟩⟩
    have hc5 := cell_kept HC.out (grownBy_putObj' _ D (.deferred none)) (fun r e => by cases e; exact ⟨_, hK, rfl⟩)
    refine ⟨err z, ?_, by rw [HZ.out], HO.out⟩
    simp [results, Try.f55, go_sem, hc5]
end
end Go.Proofs.Ythibhkoneajffaa
