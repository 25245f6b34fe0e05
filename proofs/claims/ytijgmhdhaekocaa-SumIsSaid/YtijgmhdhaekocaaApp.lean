/- append of a slice that came in, to one that the call owns: nil, empty or not. -/
import Derived.Test.YtijgmhdhaekocaaOpen
import Derived.Laws.OwnMore
namespace Go.Proofs.Ytijgmhdhaekocaa
open Go.RowKit

theorem run_append_src (w : World) (ty : TypeId) (base : Nat) (v : Value) (n : Nat) (xs : List Value) (hown : w.ownsRow base 5 1 v n xs) (ao : Option Addr) (m c : Nat) (news : List Value) (hn : news.length = m)
    (hbare : ao = none → m = 0 ∧ c = 0) (hc : ∀ ad, ao = some ad → ∀ j u, news[j]? = some u → w.cell? (ad.add j) = some u) (h1c : ∀ u ∈ news, u.oneCell' = true) (hb : n + m ≤ 140737488355328) (hbase : base ≤ w.heap.size) :
    ∃ v' w', (Builtin.append_ #[22, 22] ty #[v, .slice ao m c]).run Try.prog w = .ok v' w' ∧ w'.ownsRow base 5 1 v' (n + m) (xs ++ news) ∧ w.grownBy w' v.ownBlock ∧ (v' = .slice none 0 0 ↔ v = .slice none 0 0 ∧ m = 0) := by
  obtain ⟨i0, hi, hz0, hz1, hz2⟩ := info_parts info5
  cases ao with
  | none =>
    obtain ⟨rfl, rfl⟩ := hbare rfl
    obtain rfl : news = [] := List.eq_nil_of_length_eq_zero hn
    exact ⟨v, w, run_append_owned_none (P := Try.prog) w base 22 ty 5 i0 1 Try.underlying22 hi v n xs hown, by rw [Nat.add_zero, List.append_nil]; exact hown, World.grownBy.refl _ _, by simp⟩
  | some ad =>
    exact run_append_own (P := Try.prog) w base 22 ty 5 i0 (.int .u8 0) 1 1 Try.underlying22 hi hz0 hz1 hz2 rfl (by decide) v n xs hown ad m c news (by rw [hn, Nat.mul_one]) (hc ad rfl) h1c (by unfold maxLen; omega) (by omega) hbase

theorem wpList_append_src {ops : Array Oper} {rest : List Oper} {o : Oper} {a : Act} {w : World} {Q : Exit → Act → World → Prop}
    (hgd : o.guard = none) (s x : Operand) (hop : o.op = Op.call { callee := Callee.builtin Builtin.append, args := #[s, x], argTypes := #[22, 22] })
    (base : Nat) (v : Value) (n : Nat) (xs : List Value) (hS : a.eval s = v) (hown : w.ownsRow base 5 1 v n xs) (ao : Option Addr) (m c : Nat) (hX : a.eval x = .slice ao m c) (news : List Value) (hn : news.length = m)
    (hbare : ao = none → m = 0 ∧ c = 0) (hc : ∀ ad, ao = some ad → ∀ j u, news[j]? = some u → w.cell? (ad.add j) = some u) (h1c : ∀ u ∈ news, u.oneCell' = true) (hb : n + m ≤ 140737488355328) (hbase : base ≤ w.heap.size)
    (hK : ∀ v' w', Hid (w'.ownsRow base 5 1 v' (n + m) (xs ++ news)) → w.grownBy w' v.ownBlock → Hid (v' = .slice none 0 0 ↔ v = .slice none 0 0 ∧ m = 0) → wpList Try.prog ops Q rest (a.put o.dst v') w') : wpList Try.prog ops Q (o :: rest) a w := by
  refine wpList_plain hgd fun K hK' => ?_
  obtain ⟨v', w', hrun, r1, r2, r3⟩ := run_append_src w o.type base v n xs hown ao m c news hn hbare hc h1c hb hbase
  unfold Oper.wp
  simp [execOp, hop, resolve, invoke, builtin, hS, hX, hrun, Result.andThen]
  exact hK' _ _ (hK v' w' r1 r2 r3)

theorem SrcAt.cells {W : World} {ao : Option Addr} {cap : Nat} {bs : List UInt8} {B off : Nat} (h : SrcAt W ao cap bs B off) : ∀ ad, ao = some ad → ∀ j u, (bs.map B8)[j]? = some u → W.cell? (ad.add j) = some u := by
  intro ad had j u hu
  have hj : j < bs.length := by have := (List.getElem?_eq_some_iff.1 hu).1; rwa [List.length_map] at this
  have e := h.src (by omega)
  rw [had] at e
  obtain rfl := Option.some.inj e
  rw [Addr.add_lit, h.cell j hj, ← hu]
  simp [B8, hj]
end Go.Proofs.Ytijgmhdhaekocaa
