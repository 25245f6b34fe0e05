/- What the proofs stand on: LooseDuet. -/
import Derived.Test.YtomgijcbekjlaaaGreatP15
import Derived.Test.YtomgijcbekjlaaaGreatP25
import Derived.Test.YtomgijcbekjlaaaGreatP28
set_option maxRecDepth 100000
set_option maxHeartbeats 40000000
namespace Go.Proofs.YtomgijcbekjlaaaGreat
section
open Go.RowKit
def Duet (wz : World) (Z : Nat -> Prop) (p q : Nat) (S T : St) (w : World) : Prop := ∃ Fd Fr, DiskAt w Fd p S /\ RefAt w Fr q T /\ (∀ k, Fd k -> ¬ Z k /\ ¬ Fr k /\ k < w.heap.size) /\ (∀ k, Fr k -> ¬ Z k /\ k < w.heap.size) /\ Turn (fun k => ¬ Z k) wz w /\ ∀ k, Z k -> k < wz.heap.size
section
variable {wz w w' : World} {Z : Nat -> Prop} {p q : Nat} {S T S' T' : St}
theorem Duet.below (h : Duet wz Z p q S T w) (hb : Below w.heap.size w w') : Duet wz Z p q S T w' := by
 obtain ⟨Fd, Fr, h1, h2, h3, h4, h5, h6⟩ := h; have hs := hb.size; exact ⟨Fd, Fr, h1.turn (Turn.of_below (fun _ => False) hb) (fun _ _ h => h), h2.turn (Turn.of_below (fun _ => False) hb) (fun _ _ h => h), fun k hk => ⟨(h3 k hk).1, (h3 k hk).2.1, by have := (h3 k hk).2.2; omega⟩, fun k hk => ⟨(h4 k hk).1, by have := (h4 k hk).2; omega⟩, h5.trans (Turn.of_below _ hb), h6⟩
theorem Duet.turned (h : Duet wz Z p q S T w) : Turn (fun k => ¬ Z k) wz w := by
 obtain ⟨_, _, _, _, _, _, h, _⟩ := h; exact h
theorem Duet.zone (h : Duet wz Z p q S T w) : ∀ k, Z k -> k < wz.heap.size := by
 obtain ⟨_, _, _, _, _, _, _, h⟩ := h; exact h
theorem Duet.d (h : Duet wz Z p q S T w) : ∃ Z' : Nat -> Prop, One w Z' w p S /\ (∀ k, Z k -> Z' k) /\ ∀ w' S', One w Z' w' p S' -> Duet wz Z p q S' T w' := by
 obtain ⟨Fd, Fr, h1, h2, h3, h4, h5, h6⟩ := h; have hs := h5.size; refine ⟨fun k => k < w.heap.size /\ ¬ Fd k, ⟨Fd, h1, fun k hk => ⟨fun hz => hz.2 hk, (h3 k hk).2.2⟩, Turn.refl _ _, fun k hk => hk.1⟩, fun k hk => ⟨by have := h6 k hk; omega, fun hf => (h3 k hf).1 hk⟩, fun w' S' h' => ?_⟩
 obtain ⟨G, g1, g2, g3, g4⟩ := h'; have hs' := g3.size; refine ⟨G, Fr, g1, h2.turn g3 (fun k hk hn => hn ⟨(h4 k hk).2, fun hf => (h3 k hf).2.1 hk⟩), fun k hk => ⟨fun hz => (g2 k hk).1 ⟨by have := h6 k hz; omega, fun hf => (h3 k hf).1 hz⟩, fun hr => (g2 k hk).1 ⟨(h4 k hr).2, fun hf => (h3 k hf).2.1 hr⟩, (g2 k hk).2⟩, fun k hk => ⟨(h4 k hk).1, by have := (h4 k hk).2; omega⟩, h5.then g3 (fun k _ hk hz => hk ⟨by have := h6 k hz; omega, fun hf => (h3 k hf).1 hz⟩), h6⟩
theorem Duet.r (h : Duet wz Z p q S T w) : ∃ Z' : Nat -> Prop, ROne w Z' w q T /\ (∀ k, Z k -> Z' k) /\ ∀ w' T', ROne w Z' w' q T' -> Duet wz Z p q S T' w' := by
 obtain ⟨Fd, Fr, h1, h2, h3, h4, h5, h6⟩ := h; have hs := h5.size; refine ⟨fun k => k < w.heap.size /\ ¬ Fr k, ⟨Fr, h2, fun k hk => ⟨fun hz => hz.2 hk, (h4 k hk).2⟩, Turn.refl _ _, fun k hk => hk.1⟩, fun k hk => ⟨by have := h6 k hk; omega, fun hf => (h4 k hf).1 hk⟩, fun w' T' h' => ?_⟩
 obtain ⟨G, g1, g2, g3, g4⟩ := h'; have hs' := g3.size; refine ⟨Fd, G, h1.turn g3 (fun k hk hn => hn ⟨(h3 k hk).2.2, (h3 k hk).2.1⟩), g1, fun k hk => ⟨(h3 k hk).1, fun hr => (g2 k hr).1 ⟨(h3 k hk).2.2, (h3 k hk).2.1⟩, by have := (h3 k hk).2.2; omega⟩, fun k hk => ⟨fun hz => (g2 k hk).1 ⟨by have := h6 k hz; omega, fun hf => (h4 k hf).1 hz⟩, (g2 k hk).2⟩, h5.then g3 (fun k _ hk hz => hk ⟨by have := h6 k hz; omega, fun hf => (h4 k hf).1 hz⟩), h6⟩
theorem Duet.snap {w1 : World} (h : Duet wz Z p q S T w) (hb : Below w.heap.size w w1) : Duet w1 (fun k => Z k \/ (w.heap.size <= k /\ k < w1.heap.size)) p q S T w1 := by
 obtain ⟨Fd, Fr, h1, h2, h3, h4, h5, h6⟩ := h; have hs := hb.size; have h7 := h5.size; refine ⟨Fd, Fr, h1.turn (Turn.of_below (fun _ => False) hb) (fun _ _ h => h), h2.turn (Turn.of_below (fun _ => False) hb) (fun _ _ h => h), fun k hk => ⟨fun hz => ?_, (h3 k hk).2.1, by have := (h3 k hk).2.2; omega⟩, fun k hk => ⟨fun hz => ?_, by have := (h4 k hk).2; omega⟩, Turn.refl _ _, fun k hk => ?_⟩
 ·rcases hz with hz | hz
  ·exact (h3 k hk).1 hz
  ·have := (h3 k hk).2.2; omega
 ·rcases hz with hz | hz
  ·exact (h4 k hk).1 hz
  ·have := (h4 k hk).2; omega
 ·rcases hk with hk | hk
  ·have := h6 k hk; omega
  ·exact hk.2
theorem Duet.back {w1 w2 w3 : World} {Y : Nat -> Prop} (h : Duet wz Z p q S T w1) (hb : Below w1.heap.size w1 w2) (h' : Duet w2 (fun k => Z k \/ Y k) p q S' T' w3) : Duet wz Z p q S' T' w3 := by
 have t := h.turned; have z := h.zone; obtain ⟨Fd, Fr, h1, h2, h3, h4, h5, h6⟩ := h'; exact ⟨Fd, Fr, h1, h2, fun k hk => ⟨fun hz => (h3 k hk).1 (.inl hz), (h3 k hk).2⟩, fun k hk => ⟨fun hz => (h4 k hk).1 (.inl hz), (h4 k hk).2⟩, (t.trans (Turn.of_below _ hb)).then h5 (fun k _ hk hz => hk (.inl hz)), z⟩
theorem Duet.old (h : Duet wz (elder wz) p q S T w) : Below wz.heap.size wz w := by
 have t := h.turned; exact ⟨t.os, t.tape, t.output, t.size, fun k hk => t.block k hk (fun hn => hn hk)⟩
theorem Two.duet {w0 : World} (h : Two w0 w0.heap.size w p q S) : Duet w0 (elder w0) p q S S w := by
 obtain ⟨Fd, Fr, h⟩ := h; exact ⟨Fd, Fr, h.d, h.r, fun k hk => ⟨fun hz => by have := (h.fd k hk).1; have : k < w0.heap.size := hz; omega, h.ap k hk, (h.fd k hk).2⟩, fun k hk => ⟨fun hz => by have := (h.fr k hk).1; have : k < w0.heap.size := hz; omega, (h.fr k hk).2⟩, ⟨h.old.os, h.old.tape, h.old.output, h.old.size, fun k hk hn => h.old.block k hk⟩, fun k hk => hk⟩
theorem Duet.bytes (h : Duet wz Z p q S T w) {v : Value} {b : Bs} (hv : BytesAt wz Z v b) : BytesAt w Z v b := by
 obtain ⟨ao, cap, B, off, rfl, hs, hB⟩ := hv; have t := h.turned; refine ⟨ao, cap, B, off, rfl, ⟨hs.le, hs.top, hs.src, hs.bare, fun p => Nat.lt_of_lt_of_le (hs.old p) t.size, fun j hj => ?_⟩, hB⟩
 have hz := hB (by omega)
 exact t.cell (hs.cell j hj) (fun hn => hn hz)
theorem Duet.block (h : Duet wz Z p q S T w) {k : Nat} {o : Obj} (hk : wz.heap[k]? = some o) (hz : Z k) : w.heap[k]? = some o := h.turned.keep hk (fun hn => hn hz)
theorem Duet.dGet (h : Duet wz Z p q S T w) (hg : Good S) (SP : LooseSpec) (id : Bs) (hl : id.length <= 35184372088832) : Calls Tryz.prog 12 #[ptr p, .string (SL id)] w (GotTo w (getL S.fs id)) := by
 obtain ⟨Z', h1, _⟩ := h.d; exact SP.get w w Z' p S id h1 hg hl
theorem Duet.rGet (h : Duet wz Z p q S T w) (hg : Good T) (id : Bs) (hl : id.length <= 35184372088832) : Calls Tryz.prog 13 #[ptr q, .string (SL id)] w (GetTo w (getL T.fs id)) := by
 obtain ⟨Z', h1, _⟩ := h.r; exact refGet_any h1 hg id hl
theorem Duet.dDrop (h : Duet wz Z p q S T w) (hg : Good S) (hb : S.done <= 4000000000000000) (SP : LooseSpec) (id : Bs) (hl : id.length <= 35184372088832) : Calls Tryz.prog 14 #[ptr p, .string (SL id)] w fun e w' => e = .returned (err (dropL S id).1) /\ Duet wz Z p q (dropL S id).2 T w' := by
 obtain ⟨Z', h1, _, h3⟩ := h.d; exact (SP.drop w w Z' p S id h1 hg hb hl).mono fun e w' h' => ⟨h'.1, h3 _ _ h'.2⟩
theorem Duet.rDrop (h : Duet wz Z p q S T w) (hg : Good T) (hb : T.done <= 4000000000000000) (id : Bs) (hl : id.length <= 35184372088832) : Calls Tryz.prog 15 #[ptr q, .string (SL id)] w fun e w' => e = .returned (err (dropL T id).1) /\ Duet wz Z p q S (dropL T id).2 w' := by
 obtain ⟨Z', h1, _, h3⟩ := h.r; exact (refDrop_any h1 hg hb id hl).mono fun e w' h' => ⟨h'.1, h3 _ _ h'.2⟩
theorem Duet.dCut (h : Duet wz Z p q S T w) (z : Int) (hz : z <= 9223372036854775807) : Calls Tryz.prog 16 #[ptr p, .int .i64 z] w fun e w' => e = .returned (err (cutS S z).1) /\ Duet wz Z p q (cutS S z).2 T w' := by
 obtain ⟨Z', h1, _, h3⟩ := h.d; exact (h1.cut z hz).mono fun e w' h' => ⟨h'.1, h3 _ _ h'.2⟩
theorem Duet.rCut (h : Duet wz Z p q S T w) (z : Int) : Calls Tryz.prog 17 #[ptr q, .int .i64 z] w fun e w' => e = .returned (err (cutS T z).1) /\ Duet wz Z p q S (cutS T z).2 w' := by
 obtain ⟨Z', ⟨F, h1, h2, h3, h4⟩, _, h5⟩ := h.r; refine (Go.Proofs.YtomgijcbekjlaaaGreat.rCut h1 z).mono fun e w' h' => ⟨h'.1, h5 _ _ (rone_acts h2 h3 h4 h'.2.1 h'.2.2)⟩
theorem Duet.dOn (h : Duet wz Z p q S T w) : Calls Tryz.prog 18 #[ptr p] w fun e w' => e = .returned (.tuple #[]) /\ Duet wz Z p q (onS S) T w' := by
 obtain ⟨Z', h1, _, h3⟩ := h.d; exact h1.on.mono fun e w' h' => ⟨h'.1, h3 _ _ h'.2⟩
theorem Duet.rOn (h : Duet wz Z p q S T w) : Calls Tryz.prog 19 #[ptr q] w fun e w' => e = .returned (.tuple #[]) /\ Duet wz Z p q S (onS T) w' := by
 obtain ⟨Z', ⟨F, h1, h2, h3, h4⟩, _, h5⟩ := h.r; refine (Go.Proofs.YtomgijcbekjlaaaGreat.rOn h1).mono fun e w' h' => ⟨h'.1, h5 _ _ (rone_acts h2 h3 h4 h'.2.1 h'.2.2)⟩
theorem Duet.dPut (h : Duet wz Z p q S T w) (hg : Good S) (hb : S.done + S.cap + 10 <= 4000000000000000) (SP : LooseSpec) (v : Value) (raw : Bs) (hv : BytesAt wz Z v raw) (hl : raw.length <= 140737488351232) : Calls Tryz.prog 20 #[ptr p, v] w fun e w' => e = .returned (.tuple #[.string (SL (putL S raw).2.1), err (putL S raw).1]) /\ Duet wz Z p q (putL S raw).2.2 T w' := by
 have hv2 := h.bytes hv; obtain ⟨Z', h1, hz, h3⟩ := h.d; exact (SP.put w w Z' p S v raw h1 hg hb (hv2.mono fun k _ hk => hz k hk) hl).mono fun e w' h' => ⟨h'.1, h3 _ _ h'.2⟩
theorem Duet.rPut (h : Duet wz Z p q S T w) (hg : Good T) (hb : T.done + T.cap + 10 <= 4000000000000000) (v : Value) (raw : Bs) (hv : BytesAt wz Z v raw) (hl : raw.length <= 140737488351232) : Calls Tryz.prog 21 #[ptr q, v] w fun e w' => e = .returned (.tuple #[.string (SL (putL T raw).2.1), err (putL T raw).1]) /\ Duet wz Z p q S (putL T raw).2.2 w' := by
 have hv2 := h.bytes hv; obtain ⟨Z', h1, hz, h3⟩ := h.r; exact (refPut_any h1 hg hb v raw (hv2.mono fun k _ hk => hz k hk) hl).mono fun e w' h' => ⟨h'.1, h3 _ _ h'.2⟩
theorem Duet.dIds (h : Duet wz Z p q S T w) (hg : Good S) (SP : LooseSpec) : Calls Tryz.prog 24 #[ptr p] w fun e w' => ∃ v, e = .returned v /\ TxtsOwn w.heap.size w' v (idsL S.fs) /\ Below w.heap.size w w' := by
 obtain ⟨Z', h1, _⟩ := h.d; exact SP.ids w w Z' p S h1 hg
theorem Duet.rIds (h : Duet wz Z p q S T w) (hg : Good T) : Calls Tryz.prog 10 #[ptr q] w fun e w' => ∃ v, e = .returned v /\ TxtsOwn w.heap.size w' v (idsL T.fs) /\ Below w.heap.size w w' := by
 obtain ⟨Z', h1, _⟩ := h.r; exact refIds_any h1 hg
theorem Duet.dOps (h : Duet wz Z p q S T w) : Calls Tryz.prog 22 #[ptr p] w fun e w' => e = .returned (.int .i64 (S.done : Int)) /\ w' = w := by
 obtain ⟨Z', h1, _⟩ := h.d; exact h1.ops
theorem Duet.dDump (h : Duet wz Z p q S T w) (hg : Good S) : Calls Tryz.prog 27 #[ptr p] w fun e w' => ∃ v, e = .returned v /\ FilesAt w' (elder w') v S.fs /\ Below w.heap.size w w' := by
 obtain ⟨Z', h1, _⟩ := h.d; refine (h1.dump hg.rise (by have := hg.many; omega) (fun n b hb => by have := hg.file_le hb; unfold costF at this; omega)).mono ?_
 rintro e w' ⟨v, he, hF, hb'⟩; exact ⟨v, he, hF.mono (fun k _ hk => hk.2), hb'⟩
theorem Duet.rDump (h : Duet wz Z p q S T w) (hg : Good T) : Calls Tryz.prog 28 #[ptr q] w fun e w' => ∃ v, e = .returned v /\ FilesAt w' (elder w') v T.fs /\ Below w.heap.size w w' := by
 obtain ⟨Fd, Fr, _, h2, _⟩ := h; obtain ⟨ao, cap, P, g, off, hrf⟩ := h2.opened; refine (refDump_any hrf.list (by have := hg.many; omega) (fun i n b hi => by have := hg.file_le (findF_of_mem hg.rise (List.mem_of_getElem? hi)); unfold costF at this; omega)).mono ?_
 rintro e w' ⟨v, he, hF, hb'⟩; exact ⟨v, he, hF.mono (fun k _ hk => hk.2), hb'⟩
theorem Duet.rDone (h : Duet wz Z p q S T w) : w.cell? ⟨q, 2, none⟩ = some (.int .i64 (T.done : Int)) := by
 obtain ⟨Fd, Fr, _, h2, _⟩ := h; obtain ⟨ao, cap, P, g, off, hrf⟩ := h2.opened; exact (ref_cells hrf.head).2.2.1
end
theorem texts_own {x : Nat} {w : World} {v : Value} {l : List OB} (h : TxtsOwn x w v l) : TextsAt w (fun k => k < w.heap.size) v l := by
 obtain ⟨ao, cap, g, e, hs⟩ := SlAt.of_own (F := fun k => k < w.heap.size) h (fun h0 => by rw [List.eq_nil_of_length_eq_zero h0]; rfl) (fun g hg => (h.lt g hg).2)
 exact ⟨ao, cap, g, 0, e, hs⟩
end
end Go.Proofs.YtomgijcbekjlaaaGreat
