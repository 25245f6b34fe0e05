/- append to a slice of files of the call's own, and where the new one lies. No function of the program here. -/
import Derived.Test.YthibhkoneajffaaDiskMem
namespace Go.Proofs.Ythibhkoneajffaa
open Go.RowKit
def zfile : Value := .agg #[.string ByteArray.empty, .slice none 0 0]
structure FileType (T E : TypeId) : Prop where
  slice : Try.prog.underlying T = some (.slice E)
  info : (Try.prog.info? E).map (fun i => (i.zero, i.size, i.bytes)) = some (some zfile, 2, 40)
theorem files72 : FileType 45 63 := ⟨Try.underlying45, by kernel_rfl⟩
theorem files74 : FileType 22 57 := ⟨Try.underlying22, by kernel_rfl⟩
theorem fcells_one {P : List (Bs × Value)} (h : ∀ p ∈ P, p.2.oneCell' = true) : ∀ u ∈ fcells P, u.oneCell' = true := by
  induction P with
  | nil => intro u hu; cases hu
  | cons p r ih =>
    intro u hu
    simp only [fcells, List.mem_cons] at hu
    rcases hu with rfl | rfl | hu
    · rfl
    · exact h p List.mem_cons_self
    · exact ih (fun q hq => h q (List.mem_cons_of_mem _ hq)) u hu
theorem bytes_one {w : World} {F : Nat → Prop} {v : Value} {b : Bs} (h : BytesAt w F v b) : v.oneCell' = true := by
  obtain ⟨ao, cap, B, off, rfl, _⟩ := h
  rfl
theorem Has.one' {w : World} {F : Nat → Prop} {P : List (Bs × Value)} {L : Files} (h : Has w F P L) : ∀ p ∈ P, p.2.oneCell' = true := by
  intro p hp
  obtain ⟨i, hi, rfl⟩ := List.mem_iff_getElem.1 hp
  have hl : i < L.length := by rw [← h.1]; exact hi
  exact bytes_one (h.2 i _ _ (List.getElem?_eq_getElem hi) (List.getElem?_eq_getElem hl)).2
theorem run_append_files {T E : TypeId} (ht : FileType T E) (w : World) (ty : TypeId) (base : Nat) (v : Value) (n : Nat) (xs : List Value) (hown : w.ownsRow base E 2 v n xs) (ao : Option Addr) (m c : Nat) (news : List Value) (hn : news.length = m * 2)
    (hbare : ao = none → m = 0 ∧ c = 0) (hc : ∀ ad, ao = some ad → ∀ j u, news[j]? = some u → w.cell? (ad.add j) = some u) (h1c : ∀ u ∈ news, u.oneCell' = true) (hb : n + m ≤ 5000000000000) (hbase : base ≤ w.heap.size) :
    ∃ v' w', (Builtin.append_ #[T, T] ty #[v, .slice ao m c]).run Try.prog w = .ok v' w' ∧ w'.ownsRow base E 2 v' (n + m) (xs ++ news) ∧ w.grownBy w' v.ownBlock ∧ (∀ k, v'.ownBlock = some k → v.ownBlock = some k ∨ k = w.heap.size) := by
  obtain ⟨i0, hi, hz0, hz1, hz2⟩ := info_parts ht.info
  cases ao with
  | none =>
    obtain ⟨rfl, rfl⟩ := hbare rfl
    obtain rfl : news = [] := List.eq_nil_of_length_eq_zero (by simpa using hn)
    exact ⟨v, w, run_append_owned_none (P := Try.prog) w base T ty E i0 2 ht.slice hi v n xs hown, by rw [Nat.add_zero, List.append_nil]; exact hown, World.grownBy.refl _ _, fun k hk => .inl hk⟩
  | some ad =>
    have hnews := hc ad rfl
    obtain ⟨v', w', hrun, r1, r2, r3⟩ := run_append_own_wide (P := Try.prog) w base T ty E i0 zfile 2 40 ht.slice hi hz0 hz1 hz2 rfl (by decide) v n xs hown ad m c news hn hnews h1c (by unfold maxLen; omega) (by omega) hbase
    refine ⟨v', w', hrun, r1, r2, fun k hk => ?_⟩
    have hnl : news.length = m * i0.size := by rw [hn, hz1]
    rcases hown.2 with ⟨rfl, hn0⟩ | ⟨g, cap, cur, rfl, hbg, hg, hnc, hcm, hcs, htake⟩
    · subst hn0
      by_cases hm : m = 0
      · have h4 := r3.2 ⟨rfl, hm⟩
        rw [h4] at hk
        cases hk
      · have h2 := run_append_nil (P := Try.prog) w T ty E i0 zfile ht.slice hi hz0 ad m c news hnl hnews (by omega) (by omega) (by rw [hz2]; omega)
        have h3 := hrun.symm.trans h2
        injection h3 with e1 _
        rw [e1] at hk
        exact .inr (Option.some.inj hk).symm
    · by_cases hroom : n + m ≤ cap
      · have hfit : n * i0.size + news.length ≤ cur.size := by rw [hn, hz1, hcs]; omega
        have h2 := run_append_room (P := Try.prog) w T ty E i0 ht.slice hi g n cap cur hg ad m c news hnl hnews h1c hroom hfit
        have h3 := hrun.symm.trans h2
        injection h3 with e1 _
        rw [e1] at hk
        exact .inl hk
      · have holds : ∀ j u, xs[j]? = some u → w.cell? ((⟨g, 0, none⟩ : Addr).add j) = some u := hown.cells (g := g) rfl
        have h2 := run_append_grow (P := Try.prog) w T ty E i0 zfile ht.slice hi hz0 ⟨g, 0, none⟩ n cap xs (by rw [hown.1, hz1]) holds ad m c news hnl hnews (by omega) (by omega) (by rw [hz2]; exact growslice_fits_wide (by omega) (by omega))
        have h3 := hrun.symm.trans h2
        injection h3 with e1 _
        rw [e1] at hk
        exact .inr (Option.some.inj hk).symm
theorem wpList_append_files {T E : TypeId} (ht : FileType T E) {ops : Array Oper} {rest : List Oper} {o : Oper} {a : Act} {w : World} {Q : Exit → Act → World → Prop}
    (hgd : o.guard = none) (s x : Operand) (hop : o.op = Op.call { callee := Callee.builtin Builtin.append, args := #[s, x], argTypes := #[T, T] })
    (base : Nat) (v : Value) (n : Nat) (xs : List Value) (hS : a.eval s = v) (hown : w.ownsRow base E 2 v n xs) (ao : Option Addr) (m c : Nat) (hX : a.eval x = .slice ao m c) (news : List Value) (hn : news.length = m * 2)
    (hbare : ao = none → m = 0 ∧ c = 0) (hc : ∀ ad, ao = some ad → ∀ j u, news[j]? = some u → w.cell? (ad.add j) = some u) (h1c : ∀ u ∈ news, u.oneCell' = true) (hb : n + m ≤ 5000000000000) (hbase : base ≤ w.heap.size)
    (hK : ∀ v' w', Hid (w'.ownsRow base E 2 v' (n + m) (xs ++ news)) → Hid (w.grownBy w' v.ownBlock) → Hid (∀ k, v'.ownBlock = some k → v.ownBlock = some k ∨ k = w.heap.size) → wpList Try.prog ops Q rest (a.put o.dst v') w') : wpList Try.prog ops Q (o :: rest) a w := by
  refine wpList_plain hgd fun K hK' => ?_
  obtain ⟨v', w', hrun, r1, r2, r3⟩ := run_append_files ht w o.type base v n xs hown ao m c news hn hbare hc h1c hb hbase
  unfold Oper.wp
  simp [execOp, hop, resolve, invoke, builtin, hS, hX, hrun, Result.andThen]
  exact hK' _ _ (hK v' w' r1 r2 r3)
theorem step_append_files {T E : TypeId} (ht : FileType T E) {ops : Array Oper} {o : Oper} {a : Act} {w : World} {K : Act → World → Prop} {Q : Exit → Act → World → Prop} {X : Prop}
    (hgd : o.guard = none) (s x : Operand) (hop : o.op = Op.call { callee := Callee.builtin Builtin.append, args := #[s, x], argTypes := #[T, T] })
    (base : Nat) (v : Value) (n : Nat) (xs : List Value) (hS : a.eval s = v) (hown : w.ownsRow base E 2 v n xs) (ao : Option Addr) (m c : Nat) (hX : a.eval x = .slice ao m c) (news : List Value) (hn : news.length = m * 2)
    (hbare : ao = none → m = 0 ∧ c = 0) (hc : ∀ ad, ao = some ad → ∀ j u, news[j]? = some u → w.cell? (ad.add j) = some u) (h1c : ∀ u ∈ news, u.oneCell' = true) (hb : n + m ≤ 5000000000000) (hbase : base ≤ w.heap.size)
    (hK : ∀ v' w', Hid (w'.ownsRow base E 2 v' (n + m) (xs ++ news)) → Hid (w.grownBy w' v.ownBlock) → Hid (∀ k, v'.ownBlock = some k → v.ownBlock = some k ∨ k = w.heap.size) → K (a.put o.dst v') w') :
    if Region.wanted o (yielded ops a.tmps) = true then Oper.wp Try.prog o a w K Q else X := by
  have hw : Region.wanted o (yielded ops a.tmps) = true := by simp [Region.wanted, hgd]
  rw [if_pos hw]
  obtain ⟨v', w', hrun, r1, r2, r3⟩ := run_append_files ht w o.type base v n xs hown ao m c news hn hbare hc h1c hb hbase
  unfold Oper.wp
  simp [execOp, hop, resolve, invoke, builtin, hS, hX, hrun, Result.andThen]
  exact hK v' w' r1 r2 r3
/-- One more file behind those that are there: the raw values, and where they lie. -/
structure FilesOwn (w : World) (E base : Nat) (F : Nat → Prop) (v : Value) (P : List (Bs × Value)) (L : Files) : Prop where
  own : w.ownsRow base E 2 v L.length (fcells P)
  has : Has w (fun k => F k ∧ v.ownBlock ≠ some k) P L
theorem FilesOwn.nil (w : World) (E base : Nat) (F : Nat → Prop) : FilesOwn w E base F (.slice none 0 0) [] [] := ⟨World.ownsRow_nil _ _ _ _, Has.nil _ _⟩
theorem FilesOwn.len {w : World} {E base : Nat} {F : Nat → Prop} {v : Value} {P : List (Bs × Value)} {L : Files} (h : FilesOwn w E base F v P L) : P.length = L.length := h.has.1
theorem FilesOwn.files {w : World} {E base : Nat} {F : Nat → Prop} {v : Value} {P : List (Bs × Value)} {L : Files} (h : FilesOwn w E base F v P L) (hF : ∀ g, base ≤ g → g < w.heap.size → v.ownBlock = some g → F g) : FilesAt w F v L := by
  have h1 := h.own
  rw [← h.len] at h1
  exact filesAt_of_own h1 (fun g hg => hF g (h.own.lt g hg).1 (h.own.lt g hg).2 hg) (h.has.mono fun k _ hk => hk.1)
/-- What stands while nothing but what is none of its blocks turns. -/
theorem FilesOwn.turn {G : Nat → Prop} {w w' : World} {E base : Nat} {F : Nat → Prop} {v : Value} {P : List (Bs × Value)} {L : Files} (h : FilesOwn w E base F v P L) (ht : Turn G w w') (hF : ∀ k, F k → ¬ G k) (hv : ∀ g, v.ownBlock = some g → ¬ G g) : FilesOwn w' E base F v P L :=
  ⟨own_turn h.own ht hv, h.has.turn ht fun k hk => hF k hk.1⟩
/-- append has laid more behind. -/
theorem FilesOwn.grown {w w' : World} {E base : Nat} {F : Nat → Prop} {v v' : Value} {P P' : List (Bs × Value)} {L L' : Files} (h : FilesOwn w E base F v P L) (h' : Has w (fun k => F k ∧ v.ownBlock ≠ some k) P' L')
    (hown : w'.ownsRow base E 2 v' (L.length + L'.length) (fcells P ++ fcells P')) (hg : w.grownBy w' v.ownBlock) (hnew : ∀ k, v'.ownBlock = some k → v.ownBlock = some k ∨ k = w.heap.size) : FilesOwn w' E base F v' (P ++ P') (L ++ L') := by
  refine ⟨by rw [fcells_append, List.length_append]; exact hown, ?_⟩
  have h1 := (h.has.append h')
  refine ⟨h1.1, fun i p f hp hf => ⟨(h1.2 i p f hp hf).1, ?_⟩⟩
  obtain ⟨ao, cap, B, off, h2, h3, h4⟩ := (h1.2 i p f hp hf).2
  have t : Turn (fun k => v.ownBlock = some k) w w' := Turn.of_grown hg (fun g hg => hg)
  refine ⟨ao, cap, B, off, h2, h3.turn t (fun hp => (h4 hp).2), fun hp => ⟨(h4 hp).1, fun e => ?_⟩⟩
  rcases hnew B e with h5 | h5
  · exact (h4 hp).2 h5
  · have := h3.old hp
    omega
end Go.Proofs.Ythibhkoneajffaa
