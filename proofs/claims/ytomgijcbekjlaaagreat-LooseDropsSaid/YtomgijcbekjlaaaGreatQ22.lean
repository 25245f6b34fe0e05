/- What the proofs stand on: LooseRest. -/
import Derived.Test.YtomgijcbekjlaaaGreatQ15
import Derived.Test.YtomgijcbekjlaaaGreatQ21
namespace Go.Proofs.YtomgijcbekjlaaaGreat
open Go.RowKit
/-- A disk whose blocks lie at base or behind it, and are none of G's. -/
def Rest (base : Nat) (w : World) (p : Nat) (S : St) (G : Nat → Prop) : Prop := ∃ Fd, DiskAt w Fd p S ∧ (∀ k, Fd k → base ≤ k ∧ k < w.heap.size) ∧ ∀ k, G k → ¬ Fd k
theorem Rest.below {base p : Nat} {w w' : World} {S : St} {G : Nat → Prop} (h : Rest base w p S G) (hb : Below w.heap.size w w') : Rest base w' p S (fun k => G k ∨ w.heap.size ≤ k) := by
  obtain ⟨Fd, h1, h2, h3⟩ := h
  exact ⟨Fd, h1.turn (Turn.of_below (fun _ => False) hb) (fun _ _ h => h), fun k hk => ⟨(h2 k hk).1, Nat.lt_of_lt_of_le (h2 k hk).2 hb.size⟩, fun k hk hf => hk.elim (fun hg => h3 k hg hf) (fun hg => by have := (h2 k hf).2; omega)⟩
theorem Rest.mono {base p : Nat} {w : World} {S : St} {G G' : Nat → Prop} (h : Rest base w p S G) (hG : ∀ k, k < w.heap.size → G' k → G k) : Rest base w p S G' := by
  obtain ⟨Fd, h1, h2, h3⟩ := h
  exact ⟨Fd, h1, h2, fun k hk hf => h3 k (hG k (h2 k hf).2 hk) hf⟩
/-- For a call: all that is not the disk's is its zone. -/
theorem Rest.one {base p : Nat} {w : World} {S : St} {G : Nat → Prop} (h : Rest base w p S G) : ∃ Z : Nat → Prop, One w Z w p S ∧ (∀ k, k < w.heap.size → k < base → Z k) ∧ (∀ k, k < w.heap.size → G k → Z k) := by
  obtain ⟨Fd, h1, h2, h3⟩ := h
  exact ⟨fun k => k < w.heap.size ∧ ¬ Fd k, ⟨Fd, h1, fun k hk => ⟨fun hz => hz.2 hk, (h2 k hk).2⟩, Turn.refl _ _, fun k hk => hk.1⟩, fun k hk hb => ⟨hk, fun hf => by have := (h2 k hf).1; omega⟩, fun k hk hg => ⟨hk, h3 k hg⟩⟩
/-- Behind a call. -/
theorem Rest.of_one {base p : Nat} {w w' : World} {S : St} {Z : Nat → Prop} (h : One w Z w' p S) (hb : base ≤ w.heap.size) (hz : ∀ k, k < w.heap.size → k < base → Z k) : Rest base w' p S Z ∧ Turn (fun k => ¬ Z k) w w' ∧ Below base w w' := by
  obtain ⟨F, h1, h2, h3, h4⟩ := h
  refine ⟨⟨F, h1, fun k hk => ⟨Nat.le_of_not_lt fun hl => (h2 k hk).1 (hz k (by omega) hl), (h2 k hk).2⟩, fun k hk hf => (h2 k hf).1 hk⟩, h3, ⟨h3.os, h3.tape, h3.output, h3.size, fun k hk => h3.block k (by omega) (fun hn => hn (hz k (by omega) hk))⟩⟩
/-- Behind an append to a row of the call's own. -/
theorem Rest.own {base p x : Nat} {w w' : World} {S : St} {G : Nat → Prop} {v v' : Value} (h : Rest base w p S (fun k => G k ∨ v.ownBlock = some k)) (t : OwnTo x w v v' w') : Rest base w' p S (fun k => G k ∨ v'.ownBlock = some k) := by
  obtain ⟨Fd, h1, h2, h3⟩ := h
  refine ⟨Fd, h1.turn t.turn (fun k hk hv => h3 k (.inr hv) hk), fun k hk => ⟨(h2 k hk).1, Nat.lt_of_lt_of_le (h2 k hk).2 t.turn.size⟩, fun k hk hf => ?_⟩
  rcases hk with hk | hk
  · exact h3 k (.inl hk) hf
  · rcases t.lies k hk with e | e
    · exact h3 k (.inr e) hf
    · have := (h2 k hf).2; omega
theorem Rest.swap {base p : Nat} {w : World} {S : St} {G H : Nat → Prop} (h : Rest base w p S (fun k => G k ∨ H k)) : Rest base w p S (fun k => H k ∨ G k) := h.mono fun _ _ h => h.symm
/-- A new disk. -/
theorem rest_new {w w1 : World} {p : Nat} {S : St} (h : One w (elder w) w1 p S) : Rest w.heap.size w1 p S (elder w) ∧ Below w.heap.size w w1 :=
  let r := Rest.of_one h (Nat.le_refl _) (fun _ hk _ => hk)
  ⟨r.1, r.2.2⟩
theorem wpList_own_text {ops : Array Oper} {rest : List Oper} {o : Oper} {a : Act} {w : World} {Q : Exit → Act → World → Prop}
    (hgd : o.guard = none) (s y : Operand) (hop : o.op = Op.call { callee := Callee.builtin Builtin.append, args := #[s, y], argTypes := #[31, 31] })
    (x : Nat) (v : Value) (l : List OB) (hS : a.eval s = v) (h : TxtsOwn x w v l) (ad : Addr) (c : Nat) (t : OB) (hX : a.eval y = .slice (some ad) 1 c) (hc : ∀ j u, (tcells [t])[j]? = some u → w.cell? (ad.add j) = some u) (hb : l.length + 1 ≤ 8000000000000) (hx : x ≤ w.heap.size) (n' : Nat) (hn' : n' = l.length + 1)
    (hK : ∀ a' c' w', Hid (TxtsOwn x w' (.slice a' n' c') (l ++ [t])) → Hid (OwnTo x w v (.slice a' n' c') w') → wpList Tryz.prog ops Q rest (a.put o.dst (.slice a' n' c')) w') : wpList Tryz.prog ops Q (o :: rest) a w := by
  refine wpList_plain hgd fun K hK' => ?_
  subst hn'
  obtain ⟨a', c', w', hrun, r1, r2⟩ := run_text_to w o.type x v l h ad c t hc hb hx
  unfold Oper.wp
  simp [execOp, hop, resolve, invoke, builtin, hS, hX, hrun, Result.andThen]
  exact hK' _ _ (hK a' c' w' (Lib.hid r1) (Lib.hid r2))
theorem texts_src {x m c : Nat} {W : World} {a : Option Addr} {l : List OB} (h : TxtsOwn x W (.slice a m c) l) (hm : 0 < m) : ∃ g, a = some ⟨g, 0, none⟩ := by
  rcases h.2 with ⟨e, _⟩ | ⟨g, _, _, e, _⟩
  · simp only [Value.slice.injEq] at e
    omega
  · simp only [Value.slice.injEq] at e
    exact ⟨g, e.1⟩
theorem texts_cell {x m c g j : Nat} {W : World} {l : List OB} {t : OB} (h : TxtsOwn x W (.slice (some ⟨g, 0, none⟩) m c) l) (hj : l[j]? = some t) : W.cell? ⟨g, j, none⟩ = some (.string (SL t)) := by
  have := h.cells (g := g) rfl j _ (tcells_get hj)
  rw [Addr.add_lit, Nat.zero_add] at this
  exact this
end Go.Proofs.YtomgijcbekjlaaaGreat
