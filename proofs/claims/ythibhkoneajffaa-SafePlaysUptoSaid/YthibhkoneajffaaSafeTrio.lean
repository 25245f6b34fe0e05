/- Both disks and a block beside them, through one operation of a script. -/
import Derived.Test.YthibhkoneajffaaSafeRefSave
import Derived.Test.YthibhkoneajffaaSafeRefSweep
import Derived.Test.YthibhkoneajffaaSafeSweep
import Derived.Test.YthibhkoneajffaaSafeScript
import Derived.Test.YthibhkoneajffaaDiskUnmade
namespace Go.Proofs.Ythibhkoneajffaa
open Go.RowKit
def stepP (y : Int) (S : St) (o : SopR) : Int × St :=
  if y = 3 then appendS S o.nm o.l else if y = 4 then removeS S o.nm else if y = 5 then sweepS S else if y = 6 then cutS S o.n else if y = 7 then (0, onS S) else saveS S o.nm o.l
theorem Good.stepP {S : St} (h : Good S) (y : Int) (o : SopR) (hn : o.n ≤ 9223372036854775807) : Good (stepP y S o).2 := by
  unfold Go.Proofs.Ythibhkoneajffaa.stepP
  repeat' split
  all_goals first | exact h.append _ _ | exact h.remove _ | exact Good.sweep h | exact h.cut hn | exact h.on | exact h.save
theorem stepP_cap (y : Int) (S : St) (o : SopR) : (stepP y S o).2.cap = S.cap := by
  unfold stepP
  repeat' split
  all_goals first | exact append_cap _ _ _ | exact remove_cap _ _ | exact sweep_cap _ _ | exact cut_cap _ _ | rfl | exact save_cap _ _ _
theorem stepP_done (y : Int) {S : St} (o : SopR) (hg : Good S) : (stepP y S o).2.done ≤ S.done + S.cap + 4 := by
  have hm := costs_length S.fs
  have hc := hg.cost
  unfold stepP
  repeat' split
  · have := append_done S o.nm o.l; omega
  · have := remove_done S o.nm; omega
  · have := sweep_done (namesF S.fs) S
    have e : (namesF S.fs).length = S.fs.length := by unfold namesF; rw [List.length_map]
    show (sweepL S (namesF S.fs)).2.done ≤ _
    omega
  · have := cut_done S o.n; omega
  · show S.done ≤ _; omega
  · exact save_done
def Trio (w0 : World) (base x : Nat) (O : Obj) (p q : Nat) (S T : St) (w : World) : Prop := ∃ Fd Fr, Pair w0 base w Fd Fr p q S T ∧ w.heap[x]? = some O ∧ base ≤ x ∧ ¬ Fd x ∧ ¬ Fr x
section
variable {w0 w w' : World} {base x p q : Nat} {O : Obj} {S T S' T' : St}
theorem Trio.d (h : Trio w0 base x O p q S T w) : ∃ Z, One w Z w p S ∧ (∀ k, k < base → Z k) ∧ ∀ w' S', One w Z w' p S' → Trio w0 base x O p q S' T w' := by
  obtain ⟨Fd, Fr, h1, h2, hx, h3, h4⟩ := h
  have hxl := (Array.getElem?_eq_some_iff.1 h2).1
  obtain ⟨F, d1, d2, _, d4⟩ := h1.one
  refine ⟨fun k => beside base Fr k ∨ k = x, ⟨Fd, h1.d, fun k hk => ⟨fun hz => ?_, (h1.fd k hk).2⟩, Turn.refl _ _, fun k hk => ?_⟩, fun k hk => .inl (.inl hk), fun w' S' h' => ?_⟩
  · rcases hz with (hz | hz) | hz
    · have := (h1.fd k hk).1; omega
    · exact h1.ap k hk hz
    · exact h3 (hz ▸ hk)
  · rcases hk with (hk | hk) | hk
    · have := h1.bs; omega
    · exact (h1.fr k hk).2
    · omega
  · have ht := h'.turned
    obtain ⟨G, g1, g2, _, _⟩ := h'
    have hone : One w (beside base Fr) w' p S' := ⟨G, g1, fun k hk => ⟨fun hz => (g2 k hk).1 (.inl hz), (g2 k hk).2⟩, (Turn.refl _ w).then ht (fun k _ hk hz => hk (.inl hz)), fun k hk => by
      rcases hk with hk | hk
      · have := h1.bs; omega
      · exact (h1.fr k hk).2⟩
    have hs := ht.size
    refine ⟨G, Fr, ⟨g1, h1.r.turn ht (fun k hk hn => hn (.inl (.inr hk))), fun k hk => ⟨Nat.le_of_not_lt fun hl => (g2 k hk).1 (.inl (.inl hl)), (g2 k hk).2⟩, fun k hk => ⟨(h1.fr k hk).1, by have := (h1.fr k hk).2; omega⟩, fun k hk hr => (g2 k hk).1 (.inl (.inr hr)), h1.old.trans ⟨ht.os, ht.tape, ht.output, ht.size, fun k hk => ht.block k (by have := h1.bs; omega) (fun hn => hn (.inl (.inl hk)))⟩, by have := h1.bs; omega⟩, ht.keep h2 (fun hn => hn (.inr rfl)), hx, fun hk => (g2 x hk).1 (.inr rfl), h4⟩
theorem Trio.r (h : Trio w0 base x O p q S T w) : ∃ Z, ROne w Z w q T ∧ (∀ k, k < base → Z k) ∧ ∀ w' T', ROne w Z w' q T' → Trio w0 base x O p q S T' w' := by
  obtain ⟨Fd, Fr, h1, h2, hx, h3, h4⟩ := h
  have hxl := (Array.getElem?_eq_some_iff.1 h2).1
  refine ⟨fun k => beside base Fd k ∨ k = x, ⟨Fr, h1.r, fun k hk => ⟨fun hz => ?_, (h1.fr k hk).2⟩, Turn.refl _ _, fun k hk => ?_⟩, fun k hk => .inl (.inl hk), fun w' T' h' => ?_⟩
  · rcases hz with (hz | hz) | hz
    · have := (h1.fr k hk).1; omega
    · exact h1.ap k hz hk
    · exact h4 (hz ▸ hk)
  · rcases hk with (hk | hk) | hk
    · have := h1.bs; omega
    · exact (h1.fd k hk).2
    · omega
  · have ht := h'.turned
    obtain ⟨G, g1, g2, _, _⟩ := h'
    have hs := ht.size
    refine ⟨Fd, G, ⟨h1.d.turn ht (fun k hk hn => hn (.inl (.inr hk))), g1, fun k hk => ⟨(h1.fd k hk).1, by have := (h1.fd k hk).2; omega⟩, fun k hk => ⟨Nat.le_of_not_lt fun hl => (g2 k hk).1 (.inl (.inl hl)), (g2 k hk).2⟩, fun k hk hr => (g2 k hr).1 (.inl (.inr hk)), h1.old.trans ⟨ht.os, ht.tape, ht.output, ht.size, fun k hk => ht.block k (by have := h1.bs; omega) (fun hn => hn (.inl (.inl hk)))⟩, by have := h1.bs; omega⟩, ht.keep h2 (fun hn => hn (.inr rfl)), hx, h3, fun hk => (g2 x hk).1 (.inr rfl)⟩
theorem Trio.old (h : Trio w0 base x O p q S T w) : Below base w0 w := by
  obtain ⟨_, _, h, _⟩ := h
  exact h.old
theorem Trio.obj (h : Trio w0 base x O p q S T w) : w.heap[x]? = some O := by
  obtain ⟨_, _, _, h, _⟩ := h
  exact h
def DTo (w0 : World) (base x : Nat) (O : Obj) (p q : Nat) (r : Int × St) (T : St) (e : Ending) (w' : World) : Prop := e = .returned (err r.1) ∧ Trio w0 base x O p q r.2 T w'
def RTo (w0 : World) (base x : Nat) (O : Obj) (p q : Nat) (S : St) (r : Int × St) (e : Ending) (w' : World) : Prop := e = .returned (err r.1) ∧ Trio w0 base x O p q S r.2 w'
theorem Trio.dRemove (h : Trio w0 base x O p q S T w) (hg : Good S) (hb : S.done ≤ 1000000000000) (n : Bs) : Calls Try.prog 13 #[ptr p, .string (SL n)] w (DTo w0 base x O p q (removeS S n) T) := by
  obtain ⟨Z, h1, _, hk⟩ := h.d
  exact (h1.remove hg hb n).mono fun e w' h' => ⟨h'.1, hk _ _ h'.2⟩
theorem Trio.dAppend (h : Trio w0 base x O p q S T w) (hg : Good S) (hb : S.done ≤ 1000000000000) (n : Bs) (v : Value) (b : Bs) (hv : BytesAt w (fun k => k < base) v b) : Calls Try.prog 11 #[ptr p, .string (SL n), v] w (DTo w0 base x O p q (appendS S n b) T) := by
  obtain ⟨Z, h1, hz, hk⟩ := h.d
  exact (h1.append hg hb n v b (hv.mono fun k _ hk => hz k hk)).mono fun e w' h' => ⟨h'.1, hk _ _ h'.2⟩
theorem Trio.dCut (h : Trio w0 base x O p q S T w) (z : Int) (hz : z ≤ 9223372036854775807) : Calls Try.prog 17 #[ptr p, .int .i64 z] w (DTo w0 base x O p q (cutS S z) T) := by
  obtain ⟨Z, h1, _, hk⟩ := h.d
  exact (h1.cut z hz).mono fun e w' h' => ⟨h'.1, hk _ _ h'.2⟩
theorem Trio.dOn (h : Trio w0 base x O p q S T w) : Calls Try.prog 19 #[ptr p] w fun e w' => e = .returned (.tuple #[]) ∧ Trio w0 base x O p q (onS S) T w' := by
  obtain ⟨Z, h1, _, hk⟩ := h.d
  exact h1.on.mono fun e w' h' => ⟨h'.1, hk _ _ h'.2⟩
theorem Trio.dSweep (h : Trio w0 base x O p q S T w) (hg : Good S) (hb : S.done + S.cap ≤ 1000000000000) : Calls Try.prog 15 #[ptr p] w (DTo w0 base x O p q (sweepS S) T) := by
  obtain ⟨Z, h1, _, hk⟩ := h.d
  exact (sweep_any h1 hg hb).mono fun e w' h' => ⟨h'.1, hk _ _ h'.2⟩
theorem Trio.dSave (h : Trio w0 base x O p q S T w) (hg : Good S) (hb : S.done + S.cap + 10 ≤ 1000000000000) (n : Bs) (hn : n.length ≤ 281474976710656) (v : Value) (b : Bs) (hv : BytesAt w (fun k => k < base) v b) (hbl : b.length ≤ 281474976710656) : Calls Try.prog 21 #[ptr p, .string (SL n), v] w (DTo w0 base x O p q (saveS S n b) T) := by
  obtain ⟨Z, h1, hz, hk⟩ := h.d
  exact (save_any h1 hg hb n b hn v (hv.mono fun k _ hk => hz k hk) hbl).mono fun e w' h' => ⟨h'.1, hk _ _ h'.2⟩
theorem Trio.rRemove (h : Trio w0 base x O p q S T w) (hg : Good T) (hb : T.done ≤ 1000000000000) (n : Bs) (hn : n.length ≤ 281474976710656) : Calls Try.prog 14 #[ptr q, .string (SL n)] w (RTo w0 base x O p q S (removeS T n)) := by
  obtain ⟨Z, h1, _, hk⟩ := h.r
  exact (h1.remove hg hb n (by omega)).mono fun e w' h' => ⟨h'.1, hk _ _ h'.2⟩
theorem Trio.rAppend (h : Trio w0 base x O p q S T w) (hg : Good T) (hb : T.done ≤ 1000000000000) (n : Bs) (hn : n.length ≤ 281474976710656) (v : Value) (b : Bs) (hv : BytesAt w (fun k => k < base) v b) : Calls Try.prog 12 #[ptr q, .string (SL n), v] w (RTo w0 base x O p q S (appendS T n b)) := by
  obtain ⟨Z, h1, hz, hk⟩ := h.r
  exact (h1.append hg hb n (by omega) v b (hv.mono fun k _ hk => hz k hk)).mono fun e w' h' => ⟨h'.1, hk _ _ h'.2⟩
theorem Trio.rCut (h : Trio w0 base x O p q S T w) (z : Int) : Calls Try.prog 18 #[ptr q, .int .i64 z] w (RTo w0 base x O p q S (cutS T z)) := by
  obtain ⟨Z, ⟨F, h1, h2, h3, h4⟩, _, hk⟩ := h.r
  refine (Go.Proofs.Ythibhkoneajffaa.rCut h1 z).mono fun e w' h' => ⟨h'.1, hk _ _ (rone_acts h2 h3 h4 h'.2.1 h'.2.2)⟩
theorem Trio.rOn (h : Trio w0 base x O p q S T w) : Calls Try.prog 20 #[ptr q] w fun e w' => e = .returned (.tuple #[]) ∧ Trio w0 base x O p q S (onS T) w' := by
  obtain ⟨Z, ⟨F, h1, h2, h3, h4⟩, _, hk⟩ := h.r
  refine (Go.Proofs.Ythibhkoneajffaa.rOn h1).mono fun e w' h' => ⟨h'.1, hk _ _ (rone_acts h2 h3 h4 h'.2.1 h'.2.2)⟩
theorem Trio.rSweep (h : Trio w0 base x O p q S T w) (hg : Good T) (hb : T.done + T.cap ≤ 1000000000000) : Calls Try.prog 16 #[ptr q] w (RTo w0 base x O p q S (sweepS T)) := by
  obtain ⟨Z, h1, _, hk⟩ := h.r
  exact (refSweep_any h1 hg hb).mono fun e w' h' => ⟨h'.1, hk _ _ h'.2⟩
theorem Trio.rSave (h : Trio w0 base x O p q S T w) (hg : Good T) (hb : T.done + T.cap + 10 ≤ 1000000000000) (n : Bs) (hn : n.length ≤ 281474976710656) (v : Value) (b : Bs) (hv : BytesAt w (fun k => k < base) v b) (hbl : b.length ≤ 281474976710656) : Calls Try.prog 22 #[ptr q, .string (SL n), v] w (RTo w0 base x O p q S (saveS T n b)) := by
  obtain ⟨Z, h1, hz, hk⟩ := h.r
  exact (refSave_any h1 hg hb n b hn v (hv.mono fun k _ hk => hz k hk) hbl).mono fun e w' h' => ⟨h'.1, hk _ _ h'.2⟩
end
set_option maxRecDepth 100000 in
theorem save_none (w : World) : Calls Try.prog 21 #[.pointer none, .string ⟨#[97]⟩, .slice none 0 0] w fun e w' => e = .returned (err 1) ∧ w' = w := by
  have hx := suffix_any [97] (by decide) w
  have hr := fun s => unmade_remove (unmade_nil w) s
  go_enter Try.func21, Try.ntmps21
  go_wp2_with (first | (go_at_call 51; refine hx.mono ?_; rintro e w' ⟨rfl, rfl⟩) | (go_at_call 13; refine (hr _).mono ?_; rintro e w' ⟨rfl, rfl⟩))
  go_ret
  exact ⟨rfl, rfl⟩
set_option maxRecDepth 100000 in
theorem sweep_none (w : World) : Calls Try.prog 15 #[.pointer none] w fun e w' => e = .returned (err 1) ∧ w' = w := by
  have hr := fun s => unmade_read (unmade_nil w) s
  have hi : Calls Try.prog 49 #[.pointer none] w fun e w' => e = .returned (.bool true) ∧ w' = w := by
    go_enter Try.func49, Try.ntmps49
    go_wp2_with (go_at_call 30; refine (hr _).mono ?_; rintro e w' ⟨rfl, rfl⟩)
    go_ret
    exact ⟨rfl, rfl⟩
  go_enter Try.func15, Try.ntmps15
  go_wp2_with (go_at_call 49; refine hi.mono ?_; rintro e w' ⟨rfl, rfl⟩)
  go_ret
  exact ⟨rfl, rfl⟩
end Go.Proofs.Ythibhkoneajffaa
