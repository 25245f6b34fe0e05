/- append to a slice of the call's own, and where the new one lies: in the old block, or in a new one. Appends of the document's Decode: one step of a region that draws, and where the new rows lie. -/
import Derived.Test.YtckbeeadkiiccaaCBase
import Derived.Test.YtckbeeadkiiccaaCRefD
namespace Go.Proofs.Ytckbeeadkiiccaa
open Go.RowKit
theorem run_append_new (w : World) (ty : TypeId) (base : Nat) (v : Value) (n : Nat) (xs : List Value) (hown : w.ownsRow base 5 1 v n xs) (ao : Option Addr) (m c : Nat) (news : List Value) (hn : news.length = m)
    (hbare : ao = none → m = 0 ∧ c = 0) (hc : ∀ ad, ao = some ad → ∀ j u, news[j]? = some u → w.cell? (ad.add j) = some u) (h1c : ∀ u ∈ news, u.oneCell' = true) (hb : n + m ≤ 225000000000000) (hbase : base ≤ w.heap.size) :
    ∃ v' w', (Builtin.append_ #[22, 22] ty #[v, .slice ao m c]).run Try.prog w = .ok v' w' ∧ w'.ownsRow base 5 1 v' (n + m) (xs ++ news) ∧ w.grownBy w' v.ownBlock ∧ (∀ k, v'.ownBlock = some k → v.ownBlock = some k ∨ k = w.heap.size) := by
  obtain ⟨i0, hi, hz0, hz1, hz2⟩ := info_parts info5
  obtain ⟨v', w', hrun, r1, r2, r3⟩ := run_append_src w ty base v n xs hown ao m c news hn hbare hc h1c hb hbase
  refine ⟨v', w', hrun, r1, r2, fun k hk => ?_⟩
  cases ao with
  | none =>
    obtain ⟨rfl, rfl⟩ := hbare rfl
    have h2 := run_append_owned_none (P := Try.prog) w base 22 ty 5 i0 1 Try.underlying22 hi v n xs hown
    have h3 := hrun.symm.trans h2
    injection h3 with e1 _
    rw [e1] at hk
    exact .inl hk
  | some ad =>
    have hnews := hc ad rfl
    have hnl : news.length = m * i0.size := by rw [hn, hz1, Nat.mul_one]
    rcases hown.2 with ⟨rfl, hn0⟩ | ⟨g, cap, cur, rfl, hbg, hg, hnc, hcm, hcs, htake⟩
    · subst hn0
      by_cases hm : m = 0
      · have h4 := r3.2 ⟨rfl, hm⟩
        rw [h4] at hk
        cases hk
      · have h2 := run_append_nil (P := Try.prog) w 22 ty 5 i0 (.int .u8 0) Try.underlying22 hi hz0 ad m c news hnl hnews (by omega) (by omega) (by rw [hz2]; omega)
        have h3 := hrun.symm.trans h2
        injection h3 with e1 _
        rw [e1] at hk
        exact .inr (Option.some.inj hk).symm
    · by_cases hroom : n + m ≤ cap
      · have hfit : n * i0.size + news.length ≤ cur.size := by rw [hn, hz1, hcs]; omega
        have h2 := run_append_room (P := Try.prog) w 22 ty 5 i0 Try.underlying22 hi g n cap cur hg ad m c news hnl hnews h1c hroom hfit
        have h3 := hrun.symm.trans h2
        injection h3 with e1 _
        rw [e1] at hk
        exact .inl hk
      · have holds : ∀ j u, xs[j]? = some u → w.cell? ((⟨g, 0, none⟩ : Addr).add j) = some u := hown.cells (g := g) rfl
        have h2 := run_append_grow (P := Try.prog) w 22 ty 5 i0 (.int .u8 0) Try.underlying22 hi hz0 ⟨g, 0, none⟩ n cap xs (by rw [hown.1, hz1]) holds ad m c news hnl hnews (by omega) (by omega) (by rw [hz2]; exact growslice_fits_wide (by omega) (by omega))
        have h3 := hrun.symm.trans h2
        injection h3 with e1 _
        rw [e1] at hk
        exact .inr (Option.some.inj hk).symm
theorem wpList_append_new {ops : Array Oper} {rest : List Oper} {o : Oper} {a : Act} {w : World} {Q : Exit → Act → World → Prop}
    (hgd : o.guard = none) (s x : Operand) (hop : o.op = Op.call { callee := Callee.builtin Builtin.append, args := #[s, x], argTypes := #[22, 22] })
    (base : Nat) (v : Value) (n : Nat) (xs : List Value) (hS : a.eval s = v) (hown : w.ownsRow base 5 1 v n xs) (ao : Option Addr) (m c : Nat) (hX : a.eval x = .slice ao m c) (news : List Value) (hn : news.length = m)
    (hbare : ao = none → m = 0 ∧ c = 0) (hc : ∀ ad, ao = some ad → ∀ j u, news[j]? = some u → w.cell? (ad.add j) = some u) (h1c : ∀ u ∈ news, u.oneCell' = true) (hb : n + m ≤ 225000000000000) (hbase : base ≤ w.heap.size)
    (hK : ∀ v' w', Hid (w'.ownsRow base 5 1 v' (n + m) (xs ++ news)) → Hid (w.grownBy w' v.ownBlock) → Hid (∀ k, v'.ownBlock = some k → v.ownBlock = some k ∨ k = w.heap.size) → wpList Try.prog ops Q rest (a.put o.dst v') w') : wpList Try.prog ops Q (o :: rest) a w := by
  refine wpList_plain hgd fun K hK' => ?_
  obtain ⟨v', w', hrun, r1, r2, r3⟩ := run_append_new w o.type base v n xs hown ao m c news hn hbare hc h1c hb hbase
  unfold Oper.wp
  simp [execOp, hop, resolve, invoke, builtin, hS, hX, hrun, Result.andThen]
  exact hK' _ _ (hK v' w' r1 r2 r3)
/-- append as one step of a region that draws its order. -/
theorem step_append_src {ops : Array Oper} {o : Oper} {a : Act} {w : World} {K : Act → World → Prop} {Q : Exit → Act → World → Prop} {E : Prop}
    (hgd : o.guard = none) (s x : Operand) (hop : o.op = Op.call { callee := Callee.builtin Builtin.append, args := #[s, x], argTypes := #[22, 22] })
    (base : Nat) (v : Value) (n : Nat) (xs : List Value) (hS : a.eval s = v) (hown : w.ownsRow base 5 1 v n xs) (ao : Option Addr) (m c : Nat) (hX : a.eval x = .slice ao m c) (news : List Value) (hn : news.length = m)
    (hbare : ao = none → m = 0 ∧ c = 0) (hc : ∀ ad, ao = some ad → ∀ j u, news[j]? = some u → w.cell? (ad.add j) = some u) (h1c : ∀ u ∈ news, u.oneCell' = true) (hb : n + m ≤ 225000000000000) (hbase : base ≤ w.heap.size)
    (hK : ∀ v' w', Hid (w'.ownsRow base 5 1 v' (n + m) (xs ++ news)) → Hid (w.grownBy w' v.ownBlock) → K (a.put o.dst v') w') :
    if Region.wanted o (yielded ops a.tmps) = true then Oper.wp Try.prog o a w K Q else E := by
  have hw : Region.wanted o (yielded ops a.tmps) = true := by simp [Region.wanted, hgd]
  rw [if_pos hw]
  obtain ⟨v', w', hrun, r1, r2, r3⟩ := run_append_src w o.type base v n xs hown ao m c news hn hbare hc h1c hb hbase
  unfold Oper.wp
  simp [execOp, hop, resolve, invoke, builtin, hS, hX, hrun, Result.andThen]
  exact hK v' w' r1 r2
end Go.Proofs.Ytckbeeadkiiccaa
namespace Go.Proofs.Ytckbeeadkiiccaa
open Go.RowKit
theorem step_clone {ops : Array Oper} {o : Oper} {a : Act} {w : World} {K : Act → World → Prop} {Q : Exit → Act → World → Prop} {E : Prop}
    (hgd : o.guard = none) (s x : Operand) (hop : o.op = Op.call { callee := Callee.builtin Builtin.append, args := #[s, x], argTypes := #[22, 22] })
    (hS : a.eval s = .slice none 0 0) (ao : Option Addr) (cp B off m : Nat) (b : OB) (hm : m = b.length) (hX : a.eval x = .slice ao m cp) (hs : SrcAt w ao cp b B off) (hl : b.length ≤ 140737488355328)
    (hK : ∀ a4 c4 w', Hid (BytesAt w' (fun k => w.heap.size ≤ k) (.slice a4 m c4) b) → Hid (Below w.heap.size w w') → K (a.put o.dst (.slice a4 m c4)) w') :
    if Region.wanted o (yielded ops a.tmps) = true then Oper.wp Try.prog o a w K Q else E := by
  refine step_append_src hgd s x hop w.heap.size _ 0 [] hS (World.ownsRow_nil _ _ _ _) ao m cp hX (b.map B8) (by rw [List.length_map]; exact hm.symm) (fun hh => by have := hs.bare hh; rw [hm]; exact this) hs.cells (B8_one _) (by omega) (Nat.le_refl _) ?_
  intro v' w' h1 h2
  have hB : Below w.heap.size w w' := (Below.refl _ _).grown h2.out (Nat.le_refl _) (fun k hk => by cases hk)
  have h3 := h1.out
  rw [List.nil_append, Nat.zero_add, hm] at h3
  obtain ⟨ao', c', B', rfl, s', hb'⟩ := src_of_own h3
  subst hm
  exact hK ao' c' w' (Lib.hid ⟨_, _, _, _, rfl, s', hb'⟩) (Lib.hid hB)
theorem own_where (w : World) (base : Nat) (t ty e : TypeId) (i : TypeInfo) (z : Value) (size bytes : Nat) (ht : Try.prog.underlying t = some (.slice e)) (hi : Try.prog.info? e = some i) (hz : i.zero = some z)
    (hsize : i.size = size) (hby : i.bytes = bytes) (v : Value) (n : Nat) (xs : List Value) (hown : w.ownsRow base e size v n xs)
    (a : Addr) (m c : Nat) (news : List Value) (hl : news.length = m * size) (hnews : ∀ j u, news[j]? = some u → w.cell? (a.add j) = some u) (h1 : ∀ u ∈ news, u.oneCell' = true)
    (h63 : n + m ≤ maxLen) (hm : 0 < m) (hbytes : ((n + m) + (n + m) / 4 + 192) * bytes ≤ 281474976710656) (v' : Value) (w' : World) (hrun : (Builtin.append_ #[t, t] ty #[v, .slice (some a) m c]).run Try.prog w = .ok v' w') :
    ∀ k, v'.ownBlock = some k → v.ownBlock = some k ∨ k = w.heap.size := by
  intro k hk
  subst hsize
  subst hby
  have hsmall : n + m ≤ 9223372036854775807 := by simp only [maxLen] at h63; omega
  rcases hown.2 with ⟨rfl, hn0⟩ | ⟨g, cap, cur, rfl, hbg, hg, hnc, hcm, hcs, htake⟩
  · subst hn0
    have h2 := run_append_nil (P := Try.prog) w t ty e i z ht hi hz a m c news hl hnews (by omega) (by omega) (by have hb := hbytes; simp only [Nat.zero_add] at hb; exact Nat.le_trans (Nat.mul_le_mul_right _ (by omega)) hb)
    have h3 := hrun.symm.trans h2
    injection h3 with e1 _
    rw [e1] at hk
    exact .inr (Option.some.inj hk).symm
  · by_cases hroom : n + m ≤ cap
    · have hfit : n * i.size + news.length ≤ cur.size := by rw [hl, hcs, ← Nat.add_mul]; exact Nat.mul_le_mul_right _ hroom
      have h2 := run_append_room (P := Try.prog) w t ty e i ht hi g n cap cur hg a m c news hl hnews h1 hroom hfit
      have h3 := hrun.symm.trans h2
      injection h3 with e1 _
      rw [e1] at hk
      exact .inl hk
    · have holds : ∀ j u, xs[j]? = some u → w.cell? ((⟨g, 0, none⟩ : Addr).add j) = some u := hown.cells (g := g) rfl
      have h2 := run_append_grow (P := Try.prog) w t ty e i z ht hi hz ⟨g, 0, none⟩ n cap xs hown.1 holds a m c news hl hnews (by omega) (by omega) (growslice_fits_wide (by omega) hbytes)
      have h3 := hrun.symm.trans h2
      injection h3 with e1 _
      rw [e1] at hk
      exact .inr (Option.some.inj hk).symm
theorem row_turn {G : Nat → Prop} {w w' : World} {base e s n : Nat} {v : Value} {xs : List Value} (h : w.ownsRow base e s v n xs) (ht : Turn G w w') (hn : ∀ g, v.ownBlock = some g → ¬ G g) : w'.ownsRow base e s v n xs := by
  rcases h with ⟨h1, h2 | ⟨g, cap, cur, rfl, h3, h4, h5⟩⟩
  · exact ⟨h1, .inl h2⟩
  · exact ⟨h1, .inr ⟨g, cap, cur, rfl, h3, ht.keep h4 (hn g rfl), h5⟩⟩
/-- What an append of one element leaves. -/
structure OwnTo (x : Nat) (w : World) (v v' : Value) (w' : World) : Prop where
  turn : Turn (fun k => v.ownBlock = some k) w w'
  lies : ∀ k, v'.ownBlock = some k → v.ownBlock = some k ∨ k = w.heap.size
  low : ∀ k, v.ownBlock = some k → x ≤ k
  high : ∀ k, v.ownBlock = some k → k < w.heap.size
theorem run_text_to (w : World) (ty : TypeId) (x : Nat) (v : Value) (l : List OB) (h : TxtsOwn x w v l) (ad : Addr) (c : Nat) (t : OB) (hc : ∀ j u, (tcells [t])[j]? = some u → w.cell? (ad.add j) = some u) (hb : l.length + 1 ≤ 8000000000000) (hx : x ≤ w.heap.size) :
    ∃ a' c' w', (Builtin.append_ #[24, 24] ty #[v, .slice (some ad) 1 c]).run Try.prog w = .ok (.slice a' (l.length + 1) c') w' ∧ TxtsOwn x w' (.slice a' (l.length + 1) c') (l ++ [t]) ∧ OwnTo x w v (.slice a' (l.length + 1) c') w' := by
  obtain ⟨i0, hi, hz0, hz1, hz2⟩ := info_parts info_text
  have h1 : ∀ u ∈ tcells [t], u.oneCell' = true := fun u hu => by obtain ⟨t, _, rfl⟩ := List.mem_map.1 hu; rfl
  obtain ⟨v', w', hrun, r1, r2, _⟩ := run_append_own_wide (P := Try.prog) w x 24 ty 9 i0 (.string ByteArray.empty) 1 16 Try.underlying24 hi hz0 hz1 hz2 rfl (by decide) v l.length _ h ad 1 c (tcells [t]) rfl hc h1 (by unfold maxLen; omega) (by omega) hx
  have hw := own_where w x 24 ty 9 i0 (.string ByteArray.empty) 1 16 Try.underlying24 hi hz0 hz1 hz2 v l.length _ h ad 1 c (tcells [t]) rfl hc h1 (by unfold maxLen; omega) (by decide) (by omega) v' w' hrun
  have r3 : TxtsOwn x w' v' (l ++ [t]) := by unfold TxtsOwn; rw [List.length_append, tcells_app]; exact r1
  obtain ⟨a', c', g', rfl, _⟩ := SlAt.of_own (F := fun _ => True) r1 (fun h0 => by omega) (fun _ _ => trivial)
  exact ⟨a', c', w', hrun, r3, Turn.of_grown r2 (fun g hg => hg), hw, fun k hk => (h.lt k hk).1, fun k hk => (h.lt k hk).2⟩
theorem step_own_text {ops : Array Oper} {o : Oper} {a : Act} {w : World} {K : Act → World → Prop} {Q : Exit → Act → World → Prop} {E : Prop}
    (hgd : o.guard = none) (s y : Operand) (hop : o.op = Op.call { callee := Callee.builtin Builtin.append, args := #[s, y], argTypes := #[24, 24] })
    (x : Nat) (v : Value) (l : List OB) (hS : a.eval s = v) (h : TxtsOwn x w v l) (ad : Addr) (c : Nat) (t : OB) (hX : a.eval y = .slice (some ad) 1 c) (hc : ∀ j u, (tcells [t])[j]? = some u → w.cell? (ad.add j) = some u) (hb : l.length + 1 ≤ 8000000000000) (hx : x ≤ w.heap.size) (n' : Nat) (hn' : n' = l.length + 1)
    (hK : ∀ a' c' w', Hid (TxtsOwn x w' (.slice a' n' c') (l ++ [t])) → Hid (OwnTo x w v (.slice a' n' c') w') → K (a.put o.dst (.slice a' n' c')) w') :
    if Region.wanted o (yielded ops a.tmps) = true then Oper.wp Try.prog o a w K Q else E := by
  have hw : Region.wanted o (yielded ops a.tmps) = true := by simp [Region.wanted, hgd]
  rw [if_pos hw]
  subst hn'
  obtain ⟨a', c', w', hrun, r1, r2⟩ := run_text_to w o.type x v l h ad c t hc hb hx
  unfold Oper.wp
  simp [execOp, hop, resolve, invoke, builtin, hS, hX, hrun, Result.andThen]
  exact hK a' c' w' (Lib.hid r1) (Lib.hid r2)
theorem run_entry_to (w : World) (ty : TypeId) (x : Nat) (v : Value) (l : List EntR) (h : EntsOwn x w v l) (ad : Addr) (c : Nat) (e : EntR) (hc : ∀ j u, (ecells [e])[j]? = some u → w.cell? (ad.add j) = some u) (hb : l.length + 1 ≤ 5000000000000) (hx : x ≤ w.heap.size) :
    ∃ a' c' w', (Builtin.append_ #[23, 23] ty #[v, .slice (some ad) 1 c]).run Try.prog w = .ok (.slice a' (l.length + 1) c') w' ∧ EntsOwn x w' (.slice a' (l.length + 1) c') (l ++ [e]) ∧ OwnTo x w v (.slice a' (l.length + 1) c') w' := by
  obtain ⟨i0, hi, hz0, hz1, hz2⟩ := info_parts info_entry
  have h1 : ∀ u ∈ ecells [e], u.oneCell' = true := fun u hu => by simp [ecells] at hu; rcases hu with rfl | rfl | rfl <;> rfl
  obtain ⟨v', w', hrun, r1, r2, _⟩ := run_append_own_wide (P := Try.prog) w x 23 ty 30 i0 _ 3 40 Try.underlying23 hi hz0 hz1 hz2 rfl (by decide) v l.length _ h ad 1 c (ecells [e]) rfl hc h1 (by unfold maxLen; omega) (by omega) hx
  have hw := own_where w x 23 ty 30 i0 _ 3 40 Try.underlying23 hi hz0 hz1 hz2 v l.length _ h ad 1 c (ecells [e]) rfl hc h1 (by unfold maxLen; omega) (by decide) (by omega) v' w' hrun
  have r3 : EntsOwn x w' v' (l ++ [e]) := by unfold EntsOwn; rw [List.length_append, ecells_append]; exact r1
  obtain ⟨a', c', g', rfl, _⟩ := SlAt.of_own (F := fun _ => True) r1 (fun h0 => by omega) (fun _ _ => trivial)
  exact ⟨a', c', w', hrun, r3, Turn.of_grown r2 (fun g hg => hg), hw, fun k hk => (h.lt k hk).1, fun k hk => (h.lt k hk).2⟩
theorem wpList_dec_entry {ops : Array Oper} {rest : List Oper} {o : Oper} {a : Act} {w : World} {Q : Exit → Act → World → Prop}
    (hgd : o.guard = none) (s y : Operand) (hop : o.op = Op.call { callee := Callee.builtin Builtin.append, args := #[s, y], argTypes := #[23, 23] })
    (x : Nat) (v : Value) (l : List EntR) (hS : a.eval s = v) (h : EntsOwn x w v l) (ad : Addr) (c : Nat) (e : EntR) (hX : a.eval y = .slice (some ad) 1 c) (hc : ∀ j u, (ecells [e])[j]? = some u → w.cell? (ad.add j) = some u) (hb : l.length + 1 ≤ 5000000000000) (hx : x ≤ w.heap.size) (n' : Nat) (hn' : n' = l.length + 1)
    (hK : ∀ a' c' w', Hid (EntsOwn x w' (.slice a' n' c') (l ++ [e])) → Hid (OwnTo x w v (.slice a' n' c') w') → wpList Try.prog ops Q rest (a.put o.dst (.slice a' n' c')) w') : wpList Try.prog ops Q (o :: rest) a w := by
  refine wpList_plain hgd fun K hK' => ?_
  subst hn'
  obtain ⟨a', c', w', hrun, r1, r2⟩ := run_entry_to w o.type x v l h ad c e hc hb hx
  unfold Oper.wp
  simp [execOp, hop, resolve, invoke, builtin, hS, hX, hrun, Result.andThen]
  exact hK' _ _ (hK a' c' w' (Lib.hid r1) (Lib.hid r2))
/-- One entry, built as a slice. -/
theorem lit_ent (w : World) (e : EntR) : ∀ j u, (ecells [e])[j]? = some u → (w.alloc (.cells #[.string (SL e.nm), .bool e.dir, .string (SL e.id)] 30)).cell? ((⟨w.heap.size, 0, none⟩ : Addr).add j) = some u := by
  intro j u hu
  rw [Addr.add_lit]
  match j, hu with
  | 0, hu =>
    rw [cell_of_row _ _ _ _ _ _ (heap_alloc_new w _)]
    simpa [ecells] using hu
  | 1, hu =>
    rw [cell_of_row _ _ _ _ _ _ (heap_alloc_new w _)]
    simpa [ecells] using hu
  | 2, hu =>
    rw [cell_of_row _ _ _ _ _ _ (heap_alloc_new w _)]
    simpa [ecells] using hu
  | j + 3, hu => simp [ecells] at hu
/-- An append to a row of the call's own, behind the object: the state stands, and what is left of the bytes keeps out of the new row. -/
theorem DecSt.own {w0 w w' : World} {q p x : Nat} {s : RS} {cs : Array Value} {v v' : Value} (h : DecSt w0 q p x (fun k => k = x ∨ v.ownBlock = some k) s cs w) (t : OwnTo (x + 1) w v v' w') : DecSt w0 q p x (fun k => k = x ∨ v'.ownBlock = some k) s cs w' := by
  have h1 : DecSt w0 q p x (fun k => k = x ∨ v.ownBlock = some k ∨ v'.ownBlock = some k) s cs w := h.more (fun k hk hg => by
    rcases hg with e | e | e
    · exact .inl e
    · exact .inr e
    · rcases t.lies k e with e | e
      · exact .inr e
      · omega) (.inl rfl)
  have h2 := h1.low t.turn (fun k hk => ⟨by have := t.low k hk; omega, .inr (.inl hk)⟩)
  exact h2.more (fun k _ hg => by
    rcases hg with e | e
    · exact .inl e
    · exact .inr (.inr e)) (.inl rfl)
end Go.Proofs.Ytckbeeadkiiccaa
