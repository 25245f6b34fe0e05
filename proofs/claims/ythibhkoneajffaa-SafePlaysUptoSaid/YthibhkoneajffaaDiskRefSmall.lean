/- Named, New, find, Free of the document's answer for package disk. -/
import Derived.Test.YthibhkoneajffaaDiskSmall
import Derived.Test.YthibhkoneajffaaDiskFileApp
import Derived.Test.YthibhkoneajffaaDiskStill
import Derived.Sort.Walk0
namespace Go.Proofs.Ythibhkoneajffaa
open Go.RowKit
set_option maxRecDepth 100000 in
set_option maxHeartbeats 800000 in
theorem refNamed_any (n : Bs) (w : World) (hn : n.length ≤ 9223372036854775807) : Calls Try.prog 41 #[.string (SL n)] w fun e w' => e = .returned (.bool (named n)) ∧ w' = w := by
  have hs : (SL n).size = n.length := SL_size n
  obtain ⟨N, hN⟩ : ∃ N, N = n.length := ⟨_, rfl⟩
  rw [← hN] at hs hn
  have HN := Lib.hid hN
  clear hN
  go_enter Try.func41, Try.ntmps41
  go_wp2
  go_loopw [3] (fun i W => ∃ (k : Nat), i = .int .i64 (k : Int) ∧ k ≤ N ∧ (n.take k).all (fun x => x != 0) = true ∧ W = w) (fun i _ => N - (intOf i).toNat)
  case atStart => exact ⟨0, rfl, Nat.zero_le _, rfl, rfl⟩
  case round =>
    obtain ⟨k, rfl, hk, ha, rfl⟩ := hrel
    by_cases hlt : k < N
    · have hk1 : k < n.length := by rw [← HN.out]; exact hlt
      have i0 : (0 : Int) ≤ (k : Int) := by omega
      have i1 : (k : Int) < (N : Int) := by omega
      obtain ⟨x, hx⟩ : ∃ x, x = n[k] := ⟨_, rfl⟩
      have hsx : (SL n)[k]'(by rw [hs]; exact hlt) = x := by rw [hx]; rfl
      have htk : n.take (k + 1) = n.take k ++ [x] := by rw [List.take_add_one, List.getElem?_eq_getElem hk1, hx]; rfl
      have HX := Lib.hid hx
      have HTK := Lib.hid htk
      have HA := Lib.hid ha
      clear hx htk ha
      by_cases h0 : x = 0
      · have hq : ((x.toNat : Int) == 0) = true := by rw [h0]; rfl
        have hv : named n = false := by
          have : n.all (fun x => x != 0) = false := by
            cases hh : n.all (fun x => x != 0)
            · rfl
            · have := List.all_eq_true.1 hh n[k] (List.getElem_mem hk1)
              rw [← HX.out, h0] at this
              simp at this
          unfold named
          rw [this]
          simp
        have HV := Lib.hid hv
        clear h0 hv
        go_wp2
        go_ret
        exact ⟨by rw [HV.out] <;> rfl, rfl⟩
      · have hx0 : ¬ x.toNat = 0 := fun e => h0 (by apply UInt8.toNat_inj.1; rw [e]; rfl)
        have hq : ((x.toNat : Int) == 0) = false := by simp; omega
        have ha2 : (n.take (k + 1)).all (fun x => x != 0) = true := by
          rw [HTK.out, List.all_append, HA.out]
          simp [h0]
        clear h0 hx0
        go_wp2
        go_roundw
        case rel => exact ⟨k + 1, by go_num, by omega, ha2, trivial⟩
        case measure => simp [intOf]; omega
    · obtain rfl : k = N := by omega
      rw [List.take_of_length_le (by rw [← HN.out]; exact Nat.le_refl _)] at ha
      have i1 : ¬ ((k : Int) < (k : Int)) := by omega
      by_cases h1 : 1 ≤ k
      · have g1 : (k : Int) ≥ 1 := by omega
        by_cases h2 : k ≤ 200
        · have g2 : (k : Int) ≤ 200 := by omega
          have hv : named n = true := by unfold named; rw [← HN.out, ha]; simp [h1, h2]
          have HV := Lib.hid hv
          clear ha hv
          go_wp2
          go_ret
          exact ⟨by rw [HV.out] <;> rfl, rfl⟩
        · have g2 : ¬ (k : Int) ≤ 200 := by omega
          have hv : named n = false := by unfold named; rw [← HN.out]; simp [h2]
          have HV := Lib.hid hv
          clear ha hv
          go_wp2
          go_ret
          exact ⟨by rw [HV.out] <;> rfl, rfl⟩
      · have g1 : ¬ (k : Int) ≥ 1 := by omega
        have hv : named n = false := by unfold named; rw [← HN.out]; simp [h1]
        have HV := Lib.hid hv
        clear ha hv
        go_wp2
        go_ret
        exact ⟨by rw [HV.out] <;> rfl, rfl⟩
def refO (cap done left : Int) (lv : Value) (dark : Bool) : Obj := .cells #[.int .i64 cap, lv, .int .i64 done, .int .i64 left, .bool dark] 42 (0, 0)
theorem ref_cells {w : World} {q : Nat} {a b c : Int} {lv : Value} {d : Bool} (h : w.heap[q]? = some (refO a b c lv d)) :
    w.cell? ⟨q, 0, none⟩ = some (.int .i64 a) ∧ w.cell? ⟨q, 1, none⟩ = some lv ∧ w.cell? ⟨q, 2, none⟩ = some (.int .i64 b) ∧ w.cell? ⟨q, 3, none⟩ = some (.int .i64 c) ∧ w.cell? ⟨q, 4, none⟩ = some (.bool d) ∧
      (∀ j, w.frozen? ⟨q, j, none⟩ = false) :=
  ⟨cell_of_row _ _ _ _ _ _ h, cell_of_row _ _ _ _ _ _ h, cell_of_row _ _ _ _ _ _ h, cell_of_row _ _ _ _ _ _ h, cell_of_row _ _ _ _ _ _ h, fun j => frozen_of_row _ _ j _ _ h⟩
set_option maxRecDepth 100000 in
theorem refNew_yes (c : Nat) (hc : c ≤ 1099511627776) (w : World) : Calls Try.prog 63 #[.int .i64 (c : Int)] w fun e w' => e = .returned (.tuple #[ptr w.heap.size, err 0]) ∧ w' = w.alloc (refO (c : Int) 0 (-1) (.slice none 0 0) false) := by
  have h1 : ¬ ((c : Int) < 0) := by omega
  have h2 : ¬ ((c : Int) > 1099511627776) := by omega
  go_enter Try.func63, Try.ntmps63
  go_wp2
  go_ret2
  exact ⟨rfl, rfl⟩
set_option maxRecDepth 100000 in
theorem refNew_no (c : Int) (hc : c < 0 ∨ 1099511627776 < c) (w : World) : Calls Try.prog 63 #[.int .i64 c] w fun e w' => e = .returned (.tuple #[.pointer none, err 1]) ∧ w' = w := by
  by_cases h1 : c < 0
  · go_enter Try.func63, Try.ntmps63
    go_wp2
    go_ret2
    exact ⟨rfl, rfl⟩
  · have h2 : c > 1099511627776 := by omega
    go_enter Try.func63, Try.ntmps63
    go_wp2
    go_ret2
    exact ⟨rfl, rfl⟩
/-- What of the document's disk the readers look at: its list. -/
structure ListAt (w : World) (q : Nat) (G : Nat → Prop) (ao : Option Addr) (cap : Nat) (P : List (Bs × Value)) (g off : Nat) (L : Files) : Prop where
  cell : w.cell? ⟨q, 1, none⟩ = some (.slice ao L.length cap)
  raw : RawAt w G ao cap P g off
  has : Has w G P L
theorem ListAt.drewN {w : World} {q : Nat} {G : Nat → Prop} {ao : Option Addr} {cap : Nat} {P : List (Bs × Value)} {g off : Nat} {L : Files} (h : ListAt w q G ao cap P g off L) (n : Nat) : ListAt (w.drewN n) q G ao cap P g off L :=
  ⟨h.cell, h.raw.turn (Turn.drewN (G := fun _ => False) w n) (fun _ _ h => h), h.has.turn (Turn.drewN (G := fun _ => False) w n) (fun _ _ h => h)⟩
theorem ListAt.name {w : World} {q : Nat} {G : Nat → Prop} {ao : Option Addr} {cap : Nat} {P : List (Bs × Value)} {g off : Nat} {L : Files} (h : ListAt w q G ao cap P g off L) {i : Nat} {n b : Bs} (hi : L[i]? = some (n, b)) :
    ao = some ⟨g, off, none⟩ ∧ w.cell? ⟨g, off + i * 2, none⟩ = some (.string (SL n)) ∧ ∃ x c, w.cell? ⟨g, off + i * 2 + 1, none⟩ = some (.slice x b.length c) ∧ BytesAt w G (.slice x b.length c) b := by
  have hl := (List.getElem?_eq_some_iff.1 hi).1
  obtain ⟨⟨n', bv⟩, hp⟩ : ∃ p, P[i]? = some p := ⟨_, List.getElem?_eq_getElem (by rw [h.has.1]; exact hl)⟩
  obtain ⟨hnn, hby⟩ := h.has.2 i _ _ hp hi
  simp only at hnn hby
  subst hnn
  obtain ⟨e1, c1, c2⟩ := h.raw.get hp
  obtain ⟨x, c, B, o, rfl, h5⟩ := hby
  exact ⟨e1, c1, x, c, c2, ⟨x, c, B, o, rfl, h5⟩⟩
section
variable {w : World} {q : Nat} {G : Nat → Prop} {ao : Option Addr} {cap : Nat} {P : List (Bs × Value)} {g off : Nat} {L : Files}
set_option maxRecDepth 100000 in
set_option maxHeartbeats 1600000 in
theorem find_any (h : ListAt w q G ao cap P g off L) (hr : Rising L) (hL : L.length ≤ 140737488355328) (n : Bs) :
    Calls Try.prog 65 #[ptr q, .string (SL n)] w fun e w' => e = .returned (.tuple #[.int .i64 (posF n L : Int), .bool (thereF n L)]) ∧ ∃ m, w' = w.drewN m := by
  obtain ⟨N, hN⟩ : ∃ N, N = L.length := ⟨_, rfl⟩
  have hcell := h.cell
  rw [← hN] at hcell hL
  have ln := SL_toList n
  have hpl := posF_le n L
  obtain ⟨J, hJ⟩ : ∃ J, J = posF n L := ⟨_, rfl⟩
  rw [← hJ] at hpl ⊢
  rw [← hN] at hpl
  have HN := Lib.hid hN
  have HJ := Lib.hid hJ
  have HH := Lib.hid h
  clear hN hJ h
  go_enter Try.func65, Try.ntmps65
  go_wp2
  go_loopw [6] (fun i W => ∃ (k : Nat), i = .int .i64 (k : Int) ∧ k ≤ J ∧ W = w) (fun i _ => N - (intOf i).toNat)
  case atStart => exact ⟨0, rfl, Nat.zero_le _, rfl⟩
  case round =>
    obtain ⟨k, rfl, hk, rfl⟩ := hrel
    have i0 : (0 : Int) ≤ (k : Int) := by omega
    by_cases hlt : k < N
    · have hk1 : k < L.length := by rw [← HN.out]; exact hlt
      obtain ⟨⟨m, b⟩, hf⟩ : ∃ f, L[k]? = some f := ⟨_, List.getElem?_eq_getElem hk1⟩
      obtain ⟨e1, c1, x, c, c2, _⟩ := HH.out.name hf
      subst e1
      have lm := SL_toList m
      have i1 : (k : Int) < (N : Int) := by omega
      by_cases hq : k < J
      · have hmn : m < n := posF_before (l := L) (i := k) (p := (m, b)) (by rw [← HJ.out]; exact hq) hf
        have hb : Op.bytesLess m n = true := by rw [bytesLess_eq]; simpa using hmn
        have HF := Lib.hid hf
        clear hmn hf
        go_wp2
        go_roundw
        case rel => exact ⟨k + 1, by go_num, by omega, trivial⟩
        case measure => simp [intOf]; omega
      · obtain rfl : k = J := by omega
        have hmn : ¬ m < n := posF_at (l := L) (p := (m, b)) (by rw [← HJ.out]; exact hf)
        have hb : Op.bytesLess m n = false := by rw [bytesLess_eq]; simpa using hmn
        have hth : thereF n L = (m == n) := by
          have := there_of (n := n) hr
          rw [← HJ.out] at this
          by_cases e : m = n
          · rw [this.2 ⟨_, hf, e⟩]; simp [e]
          · have h1 : ¬ thereF n L = true := fun h1 => by
              obtain ⟨p, hp, hpn⟩ := this.1 h1
              rw [hf] at hp
              cases hp
              exact e hpn
            have h2 : thereF n L = false := by simpa using h1
            rw [h2]
            simp [e]
        obtain ⟨t, ht⟩ : ∃ t, t = (m == n) := ⟨_, rfl⟩
        rw [← ht] at hth
        have ht2 := ht.symm
        have HTH := Lib.hid hth
        clear hmn hf hth ht
        go_wp2
        go_quiet (fail)
        go_wp2
        go_ret2
        exact ⟨by rw [HTH.out] <;> rfl, nq, rfl⟩
    · obtain rfl : k = N := by omega
      obtain rfl : k = J := by omega
      have hth : thereF n L = false := by
        have := there_of (n := n) hr
        rw [← HJ.out] at this
        cases hx : thereF n L
        · rfl
        · obtain ⟨p, hp, _⟩ := this.1 hx
          have := (List.getElem?_eq_some_iff.1 hp).1
          have h2 := HN.out
          omega
      have HTH := Lib.hid hth
      have i1 : ¬ ((k : Int) < (k : Int)) := by omega
      have i2 : decide ((k : Int) < (k : Int)) = false := by simp
      clear hth
      go_wp2
      go_quiet (fail)
      go_wp2
      go_ret2
      exact ⟨by rw [HTH.out] <;> rfl, nq, rfl⟩
set_option maxRecDepth 100000 in
set_option maxHeartbeats 1600000 in
theorem refFree_any (h : ListAt w q G ao cap P g off L) (hL : L.length ≤ 140737488355328) (c : Int) (hw : wrap64 c = c) (c0 : w.cell? ⟨q, 0, none⟩ = some (.int .i64 c)) :
    Calls Try.prog 43 #[ptr q] w fun e w' => e = .returned (.int .i64 (wrap64 (c - (costs L : Int)))) ∧ ∃ m, w' = w.drewN m := by
  obtain ⟨N, hN⟩ : ∃ N, N = L.length := ⟨_, rfl⟩
  have hcell := h.cell
  rw [← hN] at hcell hL
  have HN := Lib.hid hN
  have HH := Lib.hid h
  clear hN h
  · have HW := Lib.hid hw
    clear hw
    go_enter Try.func43, Try.ntmps43
    go_wp2
    go_loopw [3, 4] (fun z i W => ∃ (k m : Nat), z = .int .i64 (wrap64 (c - (costs (L.take k) : Int))) ∧ i = .int .i64 (k : Int) ∧ k ≤ N ∧ W = w.drewN m) (fun _ i _ => N - (intOf i).toNat)
    case atStart => exact ⟨0, 0, by simp [costs, HW.out], rfl, Nat.zero_le _, rfl⟩
    case round =>
      obtain ⟨k, m, rfl, rfl, hk, rfl⟩ := hrel
      have i0 : (0 : Int) ≤ (k : Int) := by omega
      have HH2 := HH.out
      by_cases hlt : k < N
      · have hk1 : k < L.length := by rw [← HN.out]; exact hlt
        obtain ⟨⟨n, b⟩, hf⟩ : ∃ f, L[k]? = some f := ⟨_, List.getElem?_eq_getElem hk1⟩
        obtain ⟨e1, c1, x, cc, c2, _⟩ := HH2.name hf
        subst e1
        have i1 : (k : Int) < (N : Int) := by omega
        have hsz : (SL n).size = n.length := SL_size n
        have htk : L.take (k + 1) = L.take k ++ [(n, b)] := by rw [List.take_add_one, hf]; rfl
        obtain ⟨z, hz⟩ : ∃ z, z = wrap64 (c - (costs (L.take k) : Int)) := ⟨_, rfl⟩
        obtain ⟨z1, hz1⟩ : ∃ y, y = wrap64 (z - 16) := ⟨_, rfl⟩
        obtain ⟨z2, hz2⟩ : ∃ y, y = wrap64 (z1 - (n.length : Int)) := ⟨_, rfl⟩
        obtain ⟨z3, hz3⟩ : ∃ y, y = wrap64 (z2 - (b.length : Int)) := ⟨_, rfl⟩
        have hend : z3 = wrap64 (c - (costs (L.take (k + 1)) : Int)) := by
          rw [htk, costs_append]
          simp only [costs, costF]
          rw [hz3, hz2, hz1, hz]
          unfold wrap64
          omega
        have q1 : IntKind.i64.wrap (z - 16) = z1 := by rw [IntKind.wrap_i64, hz1]; unfold wrap64; rfl
        have q2 : IntKind.i64.wrap (z1 - (n.length : Int)) = z2 := by rw [IntKind.wrap_i64, hz2]; unfold wrap64; rfl
        have q3 : IntKind.i64.wrap (z2 - (b.length : Int)) = z3 := by rw [IntKind.wrap_i64, hz3]; unfold wrap64; rfl
        have p1 := hz1.symm
        have p2 := hz2.symm
        have p3 := hz3.symm
        rw [← hz]
        have HE := Lib.hid hend
        clear hz hz1 hz2 hz3 htk hf hend HH2
        go_wp2_with fail
        go_quiet (fail)
        go_wp2
        go_roundw
        case rel => exact ⟨k + 1, m + nq, by rw [← HE.out] <;> rfl, by go_num, by omega, rfl⟩
        case measure => simp [intOf]; omega
      · obtain rfl : k = N := by omega
        have i1 : ¬ ((k : Int) < (k : Int)) := by omega
        rw [List.take_of_length_le (by rw [← HN.out]; exact Nat.le_refl _)]
        clear HH2
        go_wp2
        go_ret
        exact ⟨rfl, m, rfl⟩
end
end Go.Proofs.Ythibhkoneajffaa
