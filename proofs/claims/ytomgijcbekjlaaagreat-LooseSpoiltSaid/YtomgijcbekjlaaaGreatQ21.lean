/- What the proofs stand on: RefId, RefDec0, RefDecS, RefDec4, RefDecN. -/
import Derived.Test.YtomgijcbekjlaaaGreatQ18
import Derived.Test.YtomgijcbekjlaaaGreatQ20
import Derived.Test.YtomgijcbekjlaaaGreatQ9
import Derived.Test.YtomgijcbekjlaaaGreatQ0
import Derived.Deep.RegionHeld3
namespace Go.Proofs.YtomgijcbekjlaaaGreat
open Go.RowKit
/-- What Encode answers. -/
def bytesO (o : ObjR) : OB := if okO o = true then encO o else []
theorem kind_of_ok {o : ObjR} (h : okO o = true) : o.kind = 1 ∨ o.kind = 2 ∨ o.kind = 3 ∨ o.kind = 4 := by
  by_cases h1 : o.kind = 1
  · exact .inl h1
  by_cases h2 : o.kind = 2
  · exact .inr (.inl h2)
  by_cases h3 : o.kind = 3
  · exact .inr (.inr (.inl h3))
  by_cases h4 : o.kind = 4
  · exact .inr (.inr (.inr h4))
  rw [ok_kind h1 h2 h3 h4] at h
  cases h
theorem enc_length {o : ObjR} (h : okO o = true) : (encO o).length ≤ 1100000 := by
  rcases ok_cases h with ⟨d, hd, rfl⟩ | ⟨l, hl, rfl⟩ | ⟨e, h1, h2, h3⟩ | ⟨e, h1, h2, h2', h3⟩
  · show (UInt8.ofNat 1 :: d).length ≤ _
    rw [List.length_cons]
    omega
  · obtain ⟨k1, k2⟩ := ents_is hl
    have h2 : ∀ l : List EntR, l.all entB = true → ((l.map entL).flatten).length ≤ 142 * l.length := fun l => by
      induction l with
      | nil => intro _; simp
      | cons a r ih =>
        intro h
        rw [List.all_cons, Bool.and_eq_true] at h
        have h3 := ih h.2
        have h4 := h.1
        unfold entB partB at h4
        simp only [Bool.and_eq_true, decide_eq_true_eq] at h4
        have h5 := numL_le a.nm.length
        have h6 : (entL a).length = (numL a.nm.length).length + a.nm.length + (1 + a.id.length) := by
          unfold entL txtL
          simp only [List.length_append, List.length_cons]
          omega
        rw [List.map_cons, List.flatten_cons, List.length_append, List.length_cons, h6]
        omega
    have h3 := h2 l k1
    have h4 := numL_le l.length
    show (UInt8.ofNat 2 :: (numL l.length ++ (l.map entL).flatten)).length ≤ _
    rw [List.length_cons, List.length_append]
    omega
  · obtain ⟨k1, k2⟩ := ups_is h2
    have h4 : ∀ l : List OB, l.all (fun u => decide (u.length = 32)) = true → l.flatten.length = 32 * l.length := fun l => by
      induction l with
      | nil => intro _; rfl
      | cons a r ih =>
        intro h
        rw [List.all_cons, Bool.and_eq_true, decide_eq_true_eq] at h
        rw [List.flatten_cons, List.length_append, ih h.2, h.1, List.length_cons]
        omega
    have h5 := h4 o.ups k1
    obtain ⟨t1, t2, t3, t4⟩ := told_is h3
    have q1 := numL_le o.ups.length
    have q2 := numL_le o.who.length
    have q3 := numL_le o.stamp.toNat
    have q4 := numL_le o.text.length
    have hk : o.kind = 3 := by rw [e]; rfl
    have hb : bodyL o = o.tree ++ (numL o.ups.length ++ (o.ups.flatten ++ tailO o)) := by unfold bodyL; rw [hk]; rfl
    unfold encO
    rw [hb, List.length_cons]
    unfold tailO txtL
    simp only [List.length_append]
    omega
  · obtain ⟨t1, t2, t3, t4⟩ := told_is h3
    have q1 := numL_le o.name.length
    have q2 := numL_le o.who.length
    have q3 := numL_le o.stamp.toNat
    have q4 := numL_le o.text.length
    have hk : o.kind = 4 := by rw [e]; rfl
    have hb : bodyL o = o.target ++ (txtL o.name ++ tailO o) := by unfold bodyL; rw [hk]; rfl
    unfold encO
    rw [hb, List.length_cons]
    unfold tailO txtL
    simp only [List.length_append]
    omega
end Go.Proofs.YtomgijcbekjlaaaGreat
namespace Go.Proofs.YtomgijcbekjlaaaGreat
open Go.RowKit
/-! ### In memory -/
def objC (o : ObjR) (dv ev uv : Value) : Array Value := #[.int .i64 o.kind, dv, ev, .string (SL o.tree), uv, .string (SL o.target), .string (SL o.name), .string (SL o.who), .int .i64 o.stamp, .string (SL o.text)]
/-- The state of Decode: the result's block q, the reader's p, the object's x, which what is left of the bytes keeps out of, as of G. -/
structure DecSt (w0 : World) (q p x : Nat) (G : Nat → Prop) (s : RS) (cs : Array Value) (w : World) : Prop where
  res : w.heap[q]? = some (.cells (objC (zeroO 0) (.slice none 0 0) (.slice none 0 0) (.slice none 0 0)) 33 (0, 0))
  rd : RdG G w p s
  obj : w.heap[x]? = some (.cells cs 33 (0, 0))
  below : Below q w0 w
  qp : q < p
  px : p < x
  out : G x
theorem DecSt.lt {w0 w : World} {q p x : Nat} {G : Nat → Prop} {s : RS} {cs : Array Value} (h : DecSt w0 q p x G s cs w) : x < w.heap.size := (Array.getElem?_eq_some_iff.1 h.obj).1
theorem DecSt.step {w0 w w' : World} {q p x : Nat} {G : Nat → Prop} {s s' : RS} {cs : Array Value} (h : DecSt w0 q p x G s cs w) (r : RdG G w' p s') (t : Turn (fun k => k = p) w w') : DecSt w0 q p x G s' cs w' :=
  ⟨t.keep h.res (fun e => by have := h.qp; omega), r, t.keep h.obj (fun e => by have := h.px; omega), h.below.trans (t.below (Nat.le_of_lt (Nat.lt_trans (Nat.lt_trans h.qp h.px) h.lt)) (fun k e => by have := h.qp; omega)), h.qp, h.px, h.out⟩
theorem RdG.turn {G H : Nat → Prop} {w w' : World} {p : Nat} {s : RS} (h : RdG G w p s) (t : Turn H w w') (hp : ¬ H p) (hH : ∀ k, H k → G k) : RdG G w' p s := by
  obtain ⟨ao, cap, B, off, h1, h2, h3⟩ := h
  exact ⟨ao, cap, B, off, t.keep h1 hp, h2.turn t (fun hb hk => (h3 hb).2 (hH _ hk)), h3⟩
theorem DecSt.set {w0 w : World} {q p x : Nat} {G : Nat → Prop} {s : RS} {cs : Array Value} (h : DecSt w0 q p x G s cs w) (i : Nat) (v : Value) : DecSt w0 q p x G s (cs.setIfInBounds i v) (w.setCell ⟨x, i, none⟩ v) := by
  have t : Turn (fun k => k = x) w (w.setCell ⟨x, i, none⟩ v) := Turn.setCell w _ v rfl
  exact ⟨t.keep h.res (fun e => by have := h.qp; have := h.px; omega), h.rd.turn t (fun e => by have := h.px; omega) (fun k e => by rw [e]; exact h.out), heap_setCell_same w x i _ _ _ h.obj, h.below.trans (t.below (Nat.le_of_lt (Nat.lt_trans (Nat.lt_trans h.qp h.px) h.lt)) (fun k e => by have := h.qp; have := h.px; omega)), h.qp, h.px, h.out⟩
/-- What is made behind the object turns nothing. -/
theorem DecSt.low {w0 w w' : World} {q p x : Nat} {G : Nat → Prop} {s : RS} {cs : Array Value} (h : DecSt w0 q p x G s cs w) {H : Nat → Prop} (t : Turn H w w') (hH : ∀ k, H k → x < k ∧ G k) : DecSt w0 q p x G s cs w' :=
  ⟨t.keep h.res (fun e => by have := (hH _ e).1; have := h.qp; have := h.px; omega), h.rd.turn t (fun e => by have := (hH _ e).1; have := h.px; omega) (fun k e => (hH k e).2), t.keep h.obj (fun e => by have := (hH _ e).1; omega), h.below.trans (t.below (Nat.le_of_lt (Nat.lt_trans (Nat.lt_trans h.qp h.px) h.lt)) (fun k e => by have := (hH _ e).1; have := h.qp; have := h.px; omega)), h.qp, h.px, h.out⟩
/-- What is left of the bytes keeps out of one block more: one that is new. -/
theorem DecSt.more {w0 w : World} {q p x : Nat} {G G' : Nat → Prop} {s : RS} {cs : Array Value} (h : DecSt w0 q p x G s cs w) (hG : ∀ k, k < w.heap.size → G' k → G k) (hx : G' x) : DecSt w0 q p x G' s cs w := by
  obtain ⟨ao, cap, B, off, h1, h2, h3⟩ := h.rd
  exact ⟨h.res, ⟨ao, cap, B, off, h1, h2, fun hb => ⟨(h3 hb).1, fun hk => (h3 hb).2 (hG _ (h2.old hb) hk)⟩⟩, h.obj, h.below, h.qp, h.px, hx⟩
end Go.Proofs.YtomgijcbekjlaaaGreat
namespace Go.Proofs.YtomgijcbekjlaaaGreat
open Go.RowKit
theorem own_where (w : World) (base : Nat) (t ty e : TypeId) (i : TypeInfo) (z : Value) (size bytes : Nat) (ht : Tryz.prog.underlying t = some (.slice e)) (hi : Tryz.prog.info? e = some i) (hz : i.zero = some z)
    (hsize : i.size = size) (hby : i.bytes = bytes) (v : Value) (n : Nat) (xs : List Value) (hown : w.ownsRow base e size v n xs)
    (a : Addr) (m c : Nat) (news : List Value) (hl : news.length = m * size) (hnews : ∀ j u, news[j]? = some u → w.cell? (a.add j) = some u) (h1 : ∀ u ∈ news, u.oneCell' = true)
    (h63 : n + m ≤ maxLen) (hm : 0 < m) (hbytes : ((n + m) + (n + m) / 4 + 192) * bytes ≤ 281474976710656) (v' : Value) (w' : World) (hrun : (Builtin.append_ #[t, t] ty #[v, .slice (some a) m c]).run Tryz.prog w = .ok v' w') :
    ∀ k, v'.ownBlock = some k → v.ownBlock = some k ∨ k = w.heap.size := by
  intro k hk
  subst hsize
  subst hby
  have hsmall : n + m ≤ 9223372036854775807 := by simp only [maxLen] at h63; omega
  rcases hown.2 with ⟨rfl, hn0⟩ | ⟨g, cap, cur, rfl, hbg, hg, hnc, hcm, hcs, htake⟩
  · subst hn0
    have h2 := run_append_nil (P := Tryz.prog) w t ty e i z ht hi hz a m c news hl hnews (by omega) (by omega) (by have hb := hbytes; simp only [Nat.zero_add] at hb; exact Nat.le_trans (Nat.mul_le_mul_right _ (by omega)) hb)
    have h3 := hrun.symm.trans h2
    injection h3 with e1 _
    rw [e1] at hk
    exact .inr (Option.some.inj hk).symm
  · by_cases hroom : n + m ≤ cap
    · have hfit : n * i.size + news.length ≤ cur.size := by rw [hl, hcs, ← Nat.add_mul]; exact Nat.mul_le_mul_right _ hroom
      have h2 := run_append_room (P := Tryz.prog) w t ty e i ht hi g n cap cur hg a m c news hl hnews h1 hroom hfit
      have h3 := hrun.symm.trans h2
      injection h3 with e1 _
      rw [e1] at hk
      exact .inl hk
    · have holds : ∀ j u, xs[j]? = some u → w.cell? ((⟨g, 0, none⟩ : Addr).add j) = some u := hown.cells (g := g) rfl
      have h2 := run_append_grow (P := Tryz.prog) w t ty e i z ht hi hz ⟨g, 0, none⟩ n cap xs hown.1 holds a m c news hl hnews (by omega) (by omega) (growslice_fits_wide (by omega) hbytes)
      have h3 := hrun.symm.trans h2
      injection h3 with e1 _
      rw [e1] at hk
      exact .inr (Option.some.inj hk).symm
theorem row_turn {G : Nat → Prop} {w w' : World} {base e s n : Nat} {v : Value} {xs : List Value} (h : w.ownsRow base e s v n xs) (ht : Turn G w w') (hn : ∀ g, v.ownBlock = some g → ¬ G g) : w'.ownsRow base e s v n xs := by
  rcases h with ⟨h1, h2 | ⟨g, cap, cur, rfl, h3, h4, h5⟩⟩
  · exact ⟨h1, .inl h2⟩
  · exact ⟨h1, .inr ⟨g, cap, cur, rfl, h3, ht.keep h4 (hn g rfl), h5⟩⟩
/-- What an append of one element leaves. -/
structure OwnTo (x : Nat) (w : World) (v v' : Value) (w' : World) : Prop where
  turn : Turn (fun k => v.ownBlock = some k) w w'
  lies : ∀ k, v'.ownBlock = some k → v.ownBlock = some k ∨ k = w.heap.size
  low : ∀ k, v.ownBlock = some k → x ≤ k
  high : ∀ k, v.ownBlock = some k → k < w.heap.size
theorem run_text_to (w : World) (ty : TypeId) (x : Nat) (v : Value) (l : List OB) (h : TxtsOwn x w v l) (ad : Addr) (c : Nat) (t : OB) (hc : ∀ j u, (tcells [t])[j]? = some u → w.cell? (ad.add j) = some u) (hb : l.length + 1 ≤ 8000000000000) (hx : x ≤ w.heap.size) :
    ∃ a' c' w', (Builtin.append_ #[31, 31] ty #[v, .slice (some ad) 1 c]).run Tryz.prog w = .ok (.slice a' (l.length + 1) c') w' ∧ TxtsOwn x w' (.slice a' (l.length + 1) c') (l ++ [t]) ∧ OwnTo x w v (.slice a' (l.length + 1) c') w' := by
  obtain ⟨i0, hi, hz0, hz1, hz2⟩ := info_parts info_text
  have h1 : ∀ u ∈ tcells [t], u.oneCell' = true := fun u hu => by obtain ⟨t, _, rfl⟩ := List.mem_map.1 hu; rfl
  obtain ⟨v', w', hrun, r1, r2, _⟩ := run_append_own_wide (P := Tryz.prog) w x 31 ty 9 i0 (.string ByteArray.empty) 1 16 Tryz.underlying31 hi hz0 hz1 hz2 rfl (by decide) v l.length _ h ad 1 c (tcells [t]) rfl hc h1 (by unfold maxLen; omega) (by omega) hx
  have hw := own_where w x 31 ty 9 i0 (.string ByteArray.empty) 1 16 Tryz.underlying31 hi hz0 hz1 hz2 v l.length _ h ad 1 c (tcells [t]) rfl hc h1 (by unfold maxLen; omega) (by decide) (by omega) v' w' hrun
  have r3 : TxtsOwn x w' v' (l ++ [t]) := by unfold TxtsOwn; rw [List.length_append, tcells_app]; exact r1
  obtain ⟨a', c', g', rfl, _⟩ := SlAt.of_own (F := fun _ => True) r1 (fun h0 => by omega) (fun _ _ => trivial)
  exact ⟨a', c', w', hrun, r3, Turn.of_grown r2 (fun g hg => hg), hw, fun k hk => (h.lt k hk).1, fun k hk => (h.lt k hk).2⟩
/-- An append to a row of the call's own, behind the object: the state stands, and what is left of the bytes keeps out of the new row. -/
theorem DecSt.own {w0 w w' : World} {q p x : Nat} {s : RS} {cs : Array Value} {v v' : Value} (h : DecSt w0 q p x (fun k => k = x ∨ v.ownBlock = some k) s cs w) (t : OwnTo (x + 1) w v v' w') : DecSt w0 q p x (fun k => k = x ∨ v'.ownBlock = some k) s cs w' := by
  have h1 : DecSt w0 q p x (fun k => k = x ∨ v.ownBlock = some k ∨ v'.ownBlock = some k) s cs w := h.more (fun k hk hg => by
    rcases hg with e | e | e
    · exact .inl e
    · exact .inr e
    · rcases t.lies k e with e | e
      · exact .inr e
      · omega) (.inl rfl)
  have h2 := h1.low t.turn (fun k hk => ⟨by have := t.low k hk; omega, .inr (.inl hk)⟩)
  exact h2.more (fun k _ hg => by
    rcases hg with e | e
    · exact .inl e
    · exact .inr (.inr e)) (.inl rfl)
end Go.Proofs.YtomgijcbekjlaaaGreat
namespace Go.Proofs.YtomgijcbekjlaaaGreat
open Go.RowKit
end Go.Proofs.YtomgijcbekjlaaaGreat
namespace Go.Proofs.YtomgijcbekjlaaaGreat
open Go.RowKit
end Go.Proofs.YtomgijcbekjlaaaGreat
