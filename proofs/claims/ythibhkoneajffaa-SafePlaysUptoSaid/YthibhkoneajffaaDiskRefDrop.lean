/- drop of the document's disk. -/
import Derived.Test.YthibhkoneajffaaDiskRefPut
namespace Go.Proofs.Ythibhkoneajffaa
open Go.RowKit
section
variable {w : World} {q : Nat} {G : Nat → Prop} {ao : Option Addr} {cap : Nat} {P : List (Bs × Value)} {g off : Nat} {L : Files}
set_option maxRecDepth 100000 in
set_option maxHeartbeats 3200000 in
theorem drop_any {c d l : Int} {dk : Bool} (hh : w.heap[q]? = some (refO c d l (.slice ao L.length cap) dk)) (hraw : RawAt w G ao cap P g off) (hhas : Has w G P L) (hq : ∀ k, G k → k ≠ q) (hr : Rising L) (hL : L.length ≤ 4000000000000)
    (n : Bs) (ht : thereF n L = true) :
    Calls Try.prog 48 #[ptr q, .string (SL n)] w fun e w' => e = .returned (.tuple #[]) ∧ Relaid w q G c d l dk (delF n L) w' := by
  obtain ⟨c0, c1, c2, c3, c4, fr⟩ := ref_cells hh
  have hlist : ListAt w q G ao cap P g off L := ⟨c1, hraw, hhas⟩
  have hfind := find_any hlist hr (by omega) n
  have hput := delF_place (n := n) hr ht
  obtain ⟨pp, hpp, _⟩ := (there_of hr).1 ht
  have hpl := (List.getElem?_eq_some_iff.1 hpp).1
  obtain ⟨N, hN⟩ : ∃ N, N = L.length := ⟨_, rfl⟩
  obtain ⟨J, hJ⟩ : ∃ J, J = posF n L := ⟨_, rfl⟩
  rw [← hJ, ht] at hfind
  rw [← hJ] at hput
  rw [← hJ, ← hN] at hpl
  rw [← hN] at c1 hL
  have hPN : P.length = N := by rw [hN]; exact hhas.1
  obtain ⟨aoH, hslH, hrawH⟩ := hraw.slice_h J (by omega)
  rw [hPN] at hslH
  obtain ⟨R, hR⟩ : ∃ R, R = J + 1 := ⟨_, rfl⟩
  have hJ2 : R ≤ N := by omega
  rw [← hR] at hput
  obtain ⟨aoT, hslT, hrawT⟩ := hraw.slice_l R (by omega)
  rw [hPN] at hslT
  obtain ⟨B, hB⟩ : ∃ B, B = w.heap.size := ⟨_, rfl⟩
  have hwB : w.heap.size ≤ B := by omega
  have hBw : B ≤ w.heap.size := by omega
  have hqB : q < B := by rw [hB]; exact (Array.getElem?_eq_some_iff.1 hh).1
  -- what lies in old memory stays
  have hold : ∀ W, Below B w W → RawAt W (fun k => G k ∧ k < B) aoH cap (P.take J) g off ∧ Has W (fun k => G k ∧ k < B) (P.take J) (L.take J) ∧ RawAt W (fun k => G k ∧ k < B) aoT (cap - R) (P.drop R) g (off + R * 2) ∧ Has W (fun k => G k ∧ k < B) (P.drop R) (L.drop R) := fun W hW => by
    have tt : Turn (fun _ => False) w W := Turn.of_below _ (by rw [← hB]; exact hW)
    have mm : ∀ k, k < w.heap.size → G k → G k ∧ k < B := fun k hk hg => ⟨hg, by omega⟩
    exact ⟨(hrawH.mono mm).turn tt (fun _ _ h => h), ((hhas.mono mm).turn tt (fun _ _ h => h)).take J, (hrawT.mono mm).turn tt (fun _ _ h => h), ((hhas.mono mm).turn tt (fun _ _ h => h)).drop R⟩
  have HOLD := Lib.hid hold
  have HPUT := Lib.hid hput
  have HHD := Lib.hid hh
  have HFI := Lib.hid hfind
  have HB := Lib.hid hB
  have hlJ : (P.take J).length = J := by rw [List.length_take]; omega
  have hlR : (P.drop R).length = N - R := by rw [List.length_drop]; omega
  have hlJ2 : (L.take J).length = J := by rw [List.length_take]; omega
  have HL1 := Lib.hid hlJ
  have HL2 := Lib.hid hlR
  have HL3 := Lib.hid hlJ2
  have HNL := Lib.hid hN
  have f1 := fr 1
  clear hold hput hraw hhas hN hh hPN hJ ht hpp hfind hlist hrawT hrawH hlJ hlR hlJ2 hB
  have hJR : (J : Int) + 1 = (R : Int) := by omega
  clear hR
  go_enter Try.func48, Try.ntmps48
  go_wp2_with (first
    | (go_at_call 65; refine HFI.out.mono ?_; rintro e w1 ⟨rfl, m0, rfl⟩; have b0 : Below B w (w.drewN m0) := below_drewN (Below.refl _ _) m0; obtain ⟨r1, r2, _, _⟩ := HOLD.out _ b0; have HR1 := Lib.hid r1; have HR2 := Lib.hid r2; clear r1 r2)
    | (at_builtin; refine wpList_append_piece files74 rfl _ _ rfl B (.slice none 0 0) (fun k => (G k ∧ k < B) ∨ B ≤ k) _ [] _ [] _ rfl (FilesOwn.nil _ _ _ _) aoH J cap g off rfl HR1.out HR2.out HL1.out (fun k _ hk => ⟨.inl hk, (fun e => by cases e)⟩) (by simp only [List.length_nil]; omega) (by exact hBw) ?_; intro v1 w1 o1 b1; have bw1 := b0.trans b1; have O1 := Lib.hid o1; have k1 : w1.cell? ⟨q, 1, none⟩ = some (.slice ao N cap) := (bw1.cell (p := ⟨q, 1, none⟩) hqB).trans c1; obtain ⟨_, _, r3, r4⟩ := HOLD.out _ bw1; have HR3 := Lib.hid r3; have HR4 := Lib.hid r4; clear r3 r4 o1 b1 b0 HR1 HR2)
    | (at_builtin; refine wpList_append_piece files74 rfl _ _ rfl B v1 (fun k => (G k ∧ k < B) ∨ B ≤ k) _ _ _ _ _ rfl O1.out aoT (N - R) (cap - R) g (off + R * 2) rfl HR3.out HR4.out HL2.out (fun k _ hk => ⟨.inl hk, (fun e => by have := (O1.out.own.lt _ e).1; omega)⟩) (by have h1 := HL3.out; simp only [List.nil_append, h1]; omega) (Nat.le_trans hBw bw1.size) ?_; intro v4 w4 o4 b4; obtain ⟨ao4, n4, cap4, hv4⟩ : ∃ a n c, v4 = .slice a n c := slice_shape o4.own; subst hv4; have bw4 := bw1.trans b4; have O4 := Lib.hid o4; clear o4 b4; have k4 : w4.cell? ⟨q, 1, none⟩ = some (.slice ao N cap) := (bw4.cell (p := ⟨q, 1, none⟩) hqB).trans c1; have f4 : w4.frozen? ⟨q, 1, none⟩ = false := (bw4.frozen (p := ⟨q, 1, none⟩) hqB).trans f1))
  go_end0
  have hq4 : w4.heap[q]? = some (refO c d l (.slice ao L.length cap) dk) := (bw4.block q hqB).trans HHD.out
  have hset := heap_setCell_same w4 q 1 _ 42 (.slice ao4 n4 cap4) hq4
  have hfiles := O4.out.files (F := fun k => (G k ∧ k < B) ∨ B ≤ k) (fun g hg _ _ => .inr hg)
  have hput := HPUT.out
  rw [List.nil_append] at hfiles
  rw [← hput] at hfiles
  have hBe := HB.out
  refine ⟨rfl, ⟨(Turn.of_below _ (by rw [← hBe]; exact bw4)).trans (turn_set q 1 w4 _), _, hset, ?_⟩⟩
  have hsz : (w4.setCell ⟨q, 1, none⟩ (.slice ao4 n4 cap4)).heap.size = w4.heap.size := by simp [World.setCell]
  have h5 := hfiles.mono (F' := fun k => (G k ∧ k < B) ∨ (B ≤ k ∧ k < w4.heap.size)) (fun k hk h => h.imp id (fun h => ⟨h, hk⟩))
  rw [← hBe, hsz]
  exact h5.turn (turn_set q 1 w4 _) (fun k hk => by rcases hk with h | h; exact hq k h.1; intro e; omega)
end
end Go.Proofs.Ythibhkoneajffaa
