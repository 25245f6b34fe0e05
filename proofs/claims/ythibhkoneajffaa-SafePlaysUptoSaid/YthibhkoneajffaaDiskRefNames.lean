/- Names of the document's disk; append of one text to a row of texts. -/
import Derived.Test.YthibhkoneajffaaDiskRefDump
namespace Go.Proofs.Ythibhkoneajffaa
open Go.RowKit
theorem info9 : (Try.prog.info? 9).map (fun i => (i.zero, i.size, i.bytes)) = some (some (.string ByteArray.empty), 1, 16) := by kernel_rfl
theorem run_append_text (w : World) (ty : TypeId) (base : Nat) (v : Value) (n : Nat) (xs : List Value) (hown : w.ownsRow base 9 1 v n xs) (ad : Addr) (c : Nat) (u : Value) (hc : ∀ j x, ([u] : List Value)[j]? = some x → w.cell? (ad.add j) = some x) (h1c : u.oneCell' = true) (hb : n + 1 ≤ 8000000000000) (hbase : base ≤ w.heap.size) :
    ∃ v' w', (Builtin.append_ #[78, 78] ty #[v, .slice (some ad) 1 c]).run Try.prog w = .ok v' w' ∧ w'.ownsRow base 9 1 v' (n + 1) (xs ++ [u]) ∧ w.grownBy w' v.ownBlock := by
  obtain ⟨i0, hi, hz0, hz1, hz2⟩ := info_parts info9
  obtain ⟨v', w', hrun, r1, r2, _⟩ := run_append_own_wide (P := Try.prog) w base 78 ty 9 i0 (.string ByteArray.empty) 1 16 Try.underlying78 hi hz0 hz1 hz2 rfl (by decide) v n xs hown ad 1 c [u] rfl hc (fun x hx => by simp at hx; subst hx; exact h1c) (by unfold maxLen; omega) (by omega) hbase
  exact ⟨v', w', hrun, r1, r2⟩
theorem wpList_append_text {ops : Array Oper} {rest : List Oper} {o : Oper} {a : Act} {w : World} {Q : Exit → Act → World → Prop}
    (hgd : o.guard = none) (s x : Operand) (hop : o.op = Op.call { callee := Callee.builtin Builtin.append, args := #[s, x], argTypes := #[78, 78] })
    (base : Nat) (v : Value) (n : Nat) (xs : List Value) (hS : a.eval s = v) (hown : w.ownsRow base 9 1 v n xs) (ad : Addr) (c : Nat) (hX : a.eval x = .slice (some ad) 1 c) (u : Value) (hc : ∀ j x, ([u] : List Value)[j]? = some x → w.cell? (ad.add j) = some x) (h1c : u.oneCell' = true) (hb : n + 1 ≤ 8000000000000) (hbase : base ≤ w.heap.size)
    (hK : ∀ v' w', Hid (w'.ownsRow base 9 1 v' (n + 1) (xs ++ [u])) → Hid (w.grownBy w' v.ownBlock) → wpList Try.prog ops Q rest (a.put o.dst v') w') : wpList Try.prog ops Q (o :: rest) a w := by
  refine wpList_plain hgd fun K hK' => ?_
  obtain ⟨v', w', hrun, r1, r2⟩ := run_append_text w o.type base v n xs hown ad c u hc h1c hb hbase
  unfold Oper.wp
  simp [execOp, hop, resolve, invoke, builtin, hS, hX, hrun, Result.andThen]
  exact hK' _ _ (hK v' w' r1 r2)
section
variable {w : World} {q : Nat} {G : Nat → Prop} {ao : Option Addr} {cap : Nat} {P : List (Bs × Value)} {g off : Nat} {L : Files}
set_option maxRecDepth 100000 in
set_option maxHeartbeats 1600000 in
theorem refNames_any (h : ListAt w q G ao cap P g off L) (hL : L.length ≤ 4000000000000) :
    Calls Try.prog 52 #[ptr q] w fun e w' => ∃ v, e = .returned v ∧ w'.ownsRow w.heap.size 9 1 v L.length (L.map fun f => .string (SL f.1)) ∧ Below w.heap.size w w' := by
  have hcell := h.cell
  obtain ⟨N, hN⟩ : ∃ N, N = L.length := ⟨_, rfl⟩
  obtain ⟨B, hB⟩ : ∃ B, B = w.heap.size := ⟨_, rfl⟩
  rw [← hN] at hL hcell ⊢
  rw [← hB]
  have hqB : q < B := by rw [hB]; exact World.block_lt_of_cell? w _ hcell
  have hwB : B ≤ w.heap.size := by omega
  have HN := Lib.hid hN
  have HB := Lib.hid hB
  have HH := Lib.hid h
  clear hN hB h
  go_enter Try.func52, Try.ntmps52
  go_wp2
  go_loopw [3, 4] (fun x i W => ∃ (v : Value) (k : Nat), v = x ∧ i = .int .i64 (k : Int) ∧ k ≤ N ∧ W.ownsRow B 9 1 v k ((L.take k).map fun f => .string (SL f.1)) ∧ Below B w W) (fun _ i _ => N - (intOf i).toNat)
  case atStart => exact ⟨.slice none 0 0, 0, rfl, rfl, Nat.zero_le _, World.ownsRow_nil _ _ _ _, Below.refl _ _⟩
  case round =>
    obtain ⟨v, k, rfl, rfl, hk, hown, hW⟩ := hrel
    have d0 : wr.cell? ⟨q, 1, none⟩ = some (.slice ao N cap) := (hW.cell (p := ⟨q, 1, none⟩) hqB).trans hcell
    by_cases hlt : k < N
    · have hk2 : k < L.length := by rw [← HN.out]; exact hlt
      obtain ⟨⟨n, b⟩, hf⟩ : ∃ f, L[k]? = some f := ⟨_, List.getElem?_eq_getElem hk2⟩
      obtain ⟨e1, c1, _⟩ := HH.out.name hf
      subst e1
      have hgl : g < B := by rw [HB.out]; exact World.block_lt_of_cell? w _ c1
      have d1 := (hW.cell (p := ⟨g, off + k * 2, none⟩) hgl).trans c1
      have i0 : (0 : Int) ≤ (k : Int) := by omega
      have i1 : (k : Int) < (N : Int) := by omega
      have hz := hW.size
      have htake : (L.take (k + 1)).map (fun f => Value.string (SL f.1)) = (L.take k).map (fun f => Value.string (SL f.1)) ++ [.string (SL n)] := by rw [List.take_add_one, hf, List.map_append]; rfl
      have HT := Lib.hid htake
      have HO := Lib.hid hown
      clear htake c1 hf hown
      go_wp2_with (at_builtin; refine wpList_append_text rfl _ _ rfl B v k _ rfl (HO.out.alloc _) ⟨_, 0, none⟩ 1 rfl (.string (SL n)) (cells_new wr _ _) rfl (by omega) (by simp; omega) ?_; intro v4 w4 hown4 hg4; have HB4 := Lib.hid (((Below.refl B wr).alloc (by omega) (Obj.cells #[.string (SL n)] 9)).trans (below_appends (HO.out.alloc _) hg4.out (by simp; omega))); clear hg4)
      have ho4 := hown4.out
      rw [← HT.out] at ho4
      have HO4 := Lib.hid ho4
      have hWn := hW.trans HB4.out
      clear hown4 ho4 HB4
      go_roundw
      case rel => exact ⟨v4, k + 1, rfl, by go_num, by omega, HO4.out, hWn⟩
      case measure => simp [intOf]; omega
    · obtain rfl : k = N := by omega
      rw [List.take_of_length_le (by rw [← HN.out]; exact Nat.le_refl _)] at hown
      have HO := Lib.hid hown
      have i1 : ¬ ((k : Int) < (k : Int)) := by omega
      clear hown
      go_wp2
      go_ret
      exact ⟨_, rfl, HO.out, hW⟩
end
end Go.Proofs.Ythibhkoneajffaa
