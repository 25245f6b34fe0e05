/- Values, texts and slices of bytes as walks want them. No function of the program here. Plain mathematics of package code: numbers in groups of 7 bits, what a row of bytes begins with. No program here. -/
import Derived.Test.YtckbeeadkiiccaaRows
import Derived.WalkKit
import Derived.WalkSpells
import Derived.WalkLawsBesides
import Derived.Deep.QuietTactic
import Derived.BigQuiet
import Derived.Deep.RegionLaw
import Derived.Deep.RegionWith
import Derived.Laws.CopyOwn
import Derived.Deep.DeepAppendWide
import Derived.Laws.OwnMore
import Derived.Laws.IdiomStrings
import Derived.Lib.ConvBytes
import Derived.Lib.AppendStr
import Derived.Room.AppendFits
import Derived.Lib.Hide
namespace Go.Proofs.Ytckbeeadkiiccaa
open Go.RowKit
/-! ### Values -/
def B8 (x : UInt8) : Value := .int .u8 (x.toNat : Int)
def cells8 (l : List UInt8) : Array Value := (l.map B8).toArray
theorem cells8_size (l : List UInt8) : (cells8 l).size = l.length := by simp [cells8]
theorem B8_one (l : List UInt8) : ∀ v ∈ l.map B8, v.oneCell' = true := fun v hv => by
  obtain ⟨x, _, rfl⟩ := List.mem_map.1 hv
  rfl
/-- A text's bytes as the model holds them. -/
def SL (bs : List UInt8) : ByteArray := ⟨bs.toArray⟩
theorem SL_size (bs : List UInt8) : (SL bs).size = bs.length := by simp [SL, ByteArray.size]
theorem SL_data (s : ByteArray) : SL s.data.toList = s := by
  unfold SL
  rfl
theorem strCells_SL (l : List UInt8) : Lib.strCells (SL l) = l.map B8 := rfl
theorem strCells_B8 (s : ByteArray) : Lib.strCells s = s.data.toList.map B8 := rfl
theorem strOfNums_map (bs : List UInt8) : strOfNums (bs.map fun x => (x.toNat : Int)) = SL bs := by
  simp only [strOfNums, SL, List.map_map]
  congr 2
  conv => rhs; rw [← List.map_id bs]
  refine List.map_congr_left fun x _ => ?_
  simp
theorem zeros_made (m : Nat) : madeCells #[.int .u8 0] m = cells8 (List.replicate m 0) := by
  simp only [madeCells, cells8, List.map_replicate]
  apply Array.ext
  · simp
  · intro i h1 h2
    simp [B8, Nat.mod_one]
theorem heap_drewN (w : World) (n : Nat) : (w.drewN n).heap = w.heap := rfl
theorem below_drewN {B : Nat} {a w : World} (h : Below B a w) (n : Nat) : Below B a (w.drewN n) := ⟨h.os, h.tape, h.output, h.size, h.block⟩
theorem below_heap {w w' : World} {k : Nat} {o : Obj} (h : Below w.heap.size w w') (hk : w.heap[k]? = some o) : w'.heap[k]? = some o :=
  (h.block k (Array.getElem?_eq_some_iff.1 hk).1).trans hk
theorem grown_heap {w w' : World} {g k : Nat} {o : Obj} (h : w.grownBy w' (some g)) (hk : w.heap[k]? = some o) (hne : k ≠ g) : w'.heap[k]? = some o :=
  (h.block k (Array.getElem?_eq_some_iff.1 hk).1 (fun e => hne (Option.some.inj e))).trans hk
theorem cells_new (w : World) (cs : Array Value) (e : TypeId) : ∀ j u, cs.toList[j]? = some u → (w.alloc (.cells cs e)).cell? ((⟨w.heap.size, 0, none⟩ : Addr).add j) = some u := by
  intro j u hu
  rw [Addr.add_lit, Nat.zero_add, cell_of_row _ _ _ _ _ _ (heap_alloc_new w _)]
  simpa using hu
theorem news_one (w : World) (x : Value) : ∀ j u, ([x] : List Value)[j]? = some u → (w.alloc (.cells #[x] 5)).cell? ((⟨w.heap.size, 0, none⟩ : Addr).add j) = some u := cells_new w #[x] 5
theorem owns_of_row {w : World} {base g n cap : Nat} {cur : Array Value} {xs : List Value} (hg : w.heap[g]? = some (.cells cur 5 (0, 0))) (hb : base ≤ g) (hn : n ≤ cap) (hcap : cap ≤ maxLen)
    (hs : cur.size = cap) (hl : xs.length = n) (hx : cur.toList.take n = xs) : w.ownsRow base 5 1 (.slice (some ⟨g, 0, none⟩) n cap) n xs :=
  ⟨by rw [hl, Nat.mul_one], .inr ⟨g, cap, cur, rfl, hb, hg, hn, hcap, by rw [Nat.mul_one]; exact hs, by rw [Nat.mul_one]; exact hx⟩⟩
theorem own_base {w : World} {b b' e s m : Nat} {v : Value} {xs : List Value} (h : w.ownsRow b e s v m xs) (hb : b' ≤ b) : w.ownsRow b' e s v m xs := by
  refine ⟨h.1, ?_⟩
  rcases h.2 with h4 | ⟨g2, c2, cur2, h4, h6, h5⟩
  · exact .inl h4
  · exact .inr ⟨g2, c2, cur2, h4, Nat.le_trans hb h6, h5⟩
theorem own_some {w : World} {base e n : Nat} {v : Value} {xs : List Value} (h : w.ownsRow base e 1 v n xs) (hn : 0 < n) : ∃ g cap, v = .slice (some ⟨g, 0, none⟩) n cap ∧ base ≤ g ∧ g < w.heap.size := by
  rcases h.2 with ⟨_, h0⟩ | ⟨g, cap, cur, h1, h2, h3, _⟩
  · omega
  · exact ⟨g, cap, h1, h2, (Array.getElem?_eq_some_iff.1 h3).1⟩
theorem own_below {w w' : World} {base e s m : Nat} {v : Value} {xs : List Value} (h : w.ownsRow base e s v m xs) (hb : Below w.heap.size w w') : w'.ownsRow base e s v m xs := by
  refine ⟨h.1, ?_⟩
  rcases h.2 with h4 | ⟨g2, c2, cur2, h4, h6, h7, h5⟩
  · exact .inl h4
  · exact .inr ⟨g2, c2, cur2, h4, h6, below_heap hb h7, h5⟩
/-! ### Facts of the program's table -/
theorem info5 : (Try.prog.info? 5).map (fun i => (i.zero, i.size, i.bytes)) = some (some (.int .u8 0), 1, 1) := by kernel_rfl
theorem cells5 : Try.prog.cellsOf 5 = 1 := by kernel_rfl
theorem bytes5 : Try.prog.bytesOf 5 = 1 := by kernel_rfl
theorem Try.own : ownKnob Try.prog.godebug = Option.none := by kernel_rfl
theorem Try.laidOut : laidOutB Try.prog = true := by kernel_rfl
/-- A slice with these bytes. -/
structure SrcAt (W : World) (ao : Option Addr) (cap : Nat) (bs : List UInt8) (B off : Nat) : Prop where
  le : bs.length ≤ cap
  top : cap ≤ maxLen
  src : 0 < bs.length → ao = some ⟨B, off, none⟩
  bare : ao = Option.none → bs.length = 0 ∧ cap = 0
  old : 0 < bs.length → B < W.heap.size
  cell : ∀ j, j < bs.length → W.cell? ⟨B, off + j, none⟩ = some (.int .u8 ((bs.getD j 0).toNat : Int))
theorem SrcAt.below {W W' : World} {ao : Option Addr} {cap : Nat} {bs : List UInt8} {B off : Nat} (h : SrcAt W ao cap bs B off) (hb : Below W.heap.size W W') : SrcAt W' ao cap bs B off :=
  ⟨h.le, h.top, h.src, h.bare, fun p => Nat.lt_of_lt_of_le (h.old p) hb.size, fun j hj => (hb.cell (h.old (by omega))).trans (h.cell j hj)⟩
theorem SrcAt.grown {W W' : World} {ao : Option Addr} {cap : Nat} {g : Option Nat} {bs : List UInt8} {B off : Nat} (h : SrcAt W ao cap bs B off) (hg : W.grownBy W' g) (hne : 0 < bs.length → g ≠ some B) : SrcAt W' ao cap bs B off :=
  ⟨h.le, h.top, h.src, h.bare, fun p => Nat.lt_of_lt_of_le (h.old p) hg.size, fun j hj => hg.cell (h.cell j hj) (fun e => hne (by omega) e.symm)⟩
theorem src_nil (w : World) : SrcAt w none 0 [] 0 0 :=
  ⟨Nat.le_refl _, Nat.zero_le _, fun h => absurd h (Nat.lt_irrefl _), fun _ => ⟨rfl, rfl⟩, fun h => absurd h (Nat.lt_irrefl _), fun _ hj => absurd hj (Nat.not_lt_zero _)⟩
/-- A slice of the call's own, as a source. -/
theorem src_of_own {w : World} {base : Nat} {v : Value} {bs : List UInt8} (h : w.ownsRow base 5 1 v bs.length (bs.map B8)) : ∃ ao cap B, v = .slice ao bs.length cap ∧ SrcAt w ao cap bs B 0 ∧ (0 < bs.length → base ≤ B) := by
  rcases h.2 with ⟨rfl, h0⟩ | ⟨g, cap, cur, rfl, h2, h3, h4, h5, h6, h7⟩
  · obtain rfl : bs = [] := List.eq_nil_of_length_eq_zero h0
    exact ⟨none, 0, 0, rfl, src_nil w, fun h => absurd h (Nat.lt_irrefl _)⟩
  · refine ⟨_, cap, g, rfl, ⟨h4, h5, fun _ => rfl, fun h => by (cases h), fun _ => (Array.getElem?_eq_some_iff.1 h3).1, fun j hj => ?_⟩, fun _ => h2⟩
    rw [Nat.zero_add, cell_of_row _ _ _ _ _ _ h3]
    have e : (cur.toList.take (bs.length * 1))[j]? = (bs.map B8)[j]? := by rw [h7]
    rw [Nat.mul_one, List.getElem?_take, if_pos hj, Array.getElem?_toList] at e
    rw [e]
    simp [B8, hj]
theorem SrcAt.cells {W : World} {ao : Option Addr} {cap : Nat} {bs : List UInt8} {B off : Nat} (h : SrcAt W ao cap bs B off) : ∀ ad, ao = some ad → ∀ j u, (bs.map B8)[j]? = some u → W.cell? (ad.add j) = some u := by
  intro ad had j u hu
  have hj : j < bs.length := by have := (List.getElem?_eq_some_iff.1 hu).1; rwa [List.length_map] at this
  have e := h.src (by omega)
  rw [had] at e
  obtain rfl := Option.some.inj e
  rw [Addr.add_lit, h.cell j hj, ← hu]
  simp [B8, hj]
/-- A piece of a slice. -/
theorem SrcAt.piece {W : World} {ao : Option Addr} {cap : Nat} {bs : List UInt8} {B off : Nat} (h : SrcAt W ao cap bs B off) (l n : Nat) (hl : l + n ≤ bs.length) :
    SrcAt W (if cap = l then ao else ao.map (·.add (l * 1))) (cap - l) ((bs.drop l).take n) B (off + l) := by
  have hle := h.le
  have hlen : ((bs.drop l).take n).length = n := by rw [List.length_take, List.length_drop]; omega
  have htop := h.top
  refine ⟨by omega, by omega, fun hp => ?_, fun hn => ?_, fun hp => h.old (by omega), fun j hj => ?_⟩
  · rw [if_neg (by omega), h.src (by omega), Option.map_some, Addr.add_lit, Nat.mul_one]
  · by_cases hc : cap = l
    · rw [if_pos hc] at hn
      have := h.bare hn
      omega
    · rw [if_neg hc] at hn
      have := h.bare (by cases ao with
        | none => rfl
        | some a => cases hn)
      omega
  · rw [Nat.add_assoc, h.cell (l + j) (by omega)]
    rw [hlen] at hj
    have e : ((bs.drop l).take n).getD j 0 = bs.getD (l + j) 0 := by
      simp [List.getD, hj]
    rw [e]
theorem sizeOf22 (w : World) : (sizeOf (Try.prog.elem 22)).run Try.prog w = .ok 1 w := by kernel_rfl
/-- s[l:l+n] of a slice of bytes: its value, and what it holds. -/
theorem SrcAt.slice_lh {W : World} {ao : Option Addr} {cap : Nat} {bs : List UInt8} {B off : Nat} (h : SrcAt W ao cap bs B off) (l n : Nat) (hl : l + n ≤ bs.length) :
    ∃ ao' : Option Addr, (∀ w : World, (Instr.slice 22 (.slice ao bs.length cap) (some (.int .i64 (l : Int))) (some (.int .i64 ((l : Int) + (n : Int)))) none).run Try.prog w = .ok (.slice ao' n (cap - l)) w) ∧ SrcAt W ao' (cap - l) ((bs.drop l).take n) B (off + l) := by
  have hle := h.le
  refine ⟨_, fun w => ?_, h.piece l n hl⟩
  rw [run_slice_lh w 22 ao _ cap (by kernel_rfl) .i64 .i64 (l : Int) ((l : Int) + (n : Int)) (by omega) (by omega) (by omega), sizeOf22]
  have e1 : ((l : Int) + (n : Int)).toNat = l + n := by omega
  simp only [Result.andThen_ok, sliced, Int.toNat_natCast, e1, Nat.add_sub_cancel_left]
/-- s[l:]. -/
theorem SrcAt.slice_l {W : World} {ao : Option Addr} {cap : Nat} {bs : List UInt8} {B off : Nat} (h : SrcAt W ao cap bs B off) (l : Nat) (hl : l ≤ bs.length) :
    ∃ ao' : Option Addr, (∀ w : World, (Instr.slice 22 (.slice ao bs.length cap) (some (.int .i64 (l : Int))) none none).run Try.prog w = .ok (.slice ao' (bs.length - l) (cap - l)) w) ∧ SrcAt W ao' (cap - l) (bs.drop l) B (off + l) := by
  have hp := h.piece l (bs.length - l) (by omega)
  rw [List.take_of_length_le (by rw [List.length_drop]; omega)] at hp
  refine ⟨_, fun w => ?_, hp⟩
  rw [run_slice_l w 22 ao _ cap (by kernel_rfl) .i64 (l : Int) (by omega) (by omega), sizeOf22]
  simp only [Result.andThen_ok, sliced, Int.toNat_natCast]
/-- s[:n]. -/
theorem SrcAt.slice_h {W : World} {ao : Option Addr} {cap : Nat} {bs : List UInt8} {B off : Nat} (h : SrcAt W ao cap bs B off) (n : Nat) (hl : n ≤ bs.length) :
    ∃ ao' : Option Addr, (∀ w : World, (Instr.slice 22 (.slice ao bs.length cap) none (some (.int .i64 (n : Int))) none).run Try.prog w = .ok (.slice ao' n cap) w) ∧ SrcAt W ao' cap (bs.take n) B off := by
  have hle := h.le
  have hp := h.piece 0 n (by omega)
  rw [List.drop_zero, Nat.sub_zero, Nat.add_zero] at hp
  refine ⟨_, fun w => ?_, hp⟩
  rw [run_slice_h w 22 ao _ cap (by kernel_rfl) .i64 (n : Int) (by omega) (by omega), sizeOf22]
  simp only [Result.andThen_ok, sliced, Int.toNat_natCast, Nat.sub_zero]
theorem getD_map (bs : List UInt8) (i : Nat) (h : i < bs.length) : (bs.map fun x => (x.toNat : Int)).getD i 0 = ((bs.getD i 0).toNat : Int) := by
  simp only [List.getD, List.getElem?_map, List.getElem?_eq_getElem h, Option.map_some, Option.getD_some]
/-- string(v) at such a slice. -/
theorem convert_src {w : World} {ao : Option Addr} {cap : Nat} {bs : List UInt8} {B off : Nat} (h : SrcAt w ao cap bs B off) : (convert 22 9 (.slice ao bs.length cap)).run Try.prog w = .ok (.string (SL bs)) w := by
  cases bs with
  | nil =>
    rw [run_convert_bytes_string w 22 9 5 ao _ cap Try.underlying22 Try.underlying5 Try.underlying9]
    cases ao with
    | none => simp [Conv.bytesToString]; rfl
    | some a =>
      rw [run_bytesToString w a _ cap [] (by simp [loadCells, loadCellsFrom])]
      rfl
  | cons x r =>
    rw [h.src (by simp)]
    rw [run_convert_bytes_arg (P := Try.prog) w 22 5 Try.underlying22 Try.underlying5 B off (x :: r).length cap ((x :: r).map fun x => (x.toNat : Int)) (by simp) (fun i hi => ?_) 9 Try.underlying9, strOfNums_map]
    rw [h.cell i hi, getD_map _ i hi]
/-! ### append of a slice that came in, to one that the call owns: nil, empty or not -/
theorem run_append_src (w : World) (ty : TypeId) (base : Nat) (v : Value) (n : Nat) (xs : List Value) (hown : w.ownsRow base 5 1 v n xs) (ao : Option Addr) (m c : Nat) (news : List Value) (hn : news.length = m)
    (hbare : ao = none → m = 0 ∧ c = 0) (hc : ∀ ad, ao = some ad → ∀ j u, news[j]? = some u → w.cell? (ad.add j) = some u) (h1c : ∀ u ∈ news, u.oneCell' = true) (hb : n + m ≤ 225000000000000) (hbase : base ≤ w.heap.size) :
    ∃ v' w', (Builtin.append_ #[22, 22] ty #[v, .slice ao m c]).run Try.prog w = .ok v' w' ∧ w'.ownsRow base 5 1 v' (n + m) (xs ++ news) ∧ w.grownBy w' v.ownBlock ∧ (v' = .slice none 0 0 ↔ v = .slice none 0 0 ∧ m = 0) := by
  obtain ⟨i0, hi, hz0, hz1, hz2⟩ := info_parts info5
  cases ao with
  | none =>
    obtain ⟨rfl, rfl⟩ := hbare rfl
    obtain rfl : news = [] := List.eq_nil_of_length_eq_zero hn
    exact ⟨v, w, run_append_owned_none (P := Try.prog) w base 22 ty 5 i0 1 Try.underlying22 hi v n xs hown, by rw [Nat.add_zero, List.append_nil]; exact hown, World.grownBy.refl _ _, by simp⟩
  | some ad =>
    exact run_append_own_wide (P := Try.prog) w base 22 ty 5 i0 (.int .u8 0) 1 1 Try.underlying22 hi hz0 hz1 hz2 rfl (by decide) v n xs hown ad m c news (by rw [hn, Nat.mul_one]) (hc ad rfl) h1c (by unfold maxLen; omega) (by omega) hbase
theorem wpList_append_src {ops : Array Oper} {rest : List Oper} {o : Oper} {a : Act} {w : World} {Q : Exit → Act → World → Prop}
    (hgd : o.guard = none) (s x : Operand) (hop : o.op = Op.call { callee := Callee.builtin Builtin.append, args := #[s, x], argTypes := #[22, 22] })
    (base : Nat) (v : Value) (n : Nat) (xs : List Value) (hS : a.eval s = v) (hown : w.ownsRow base 5 1 v n xs) (ao : Option Addr) (m c : Nat) (hX : a.eval x = .slice ao m c) (news : List Value) (hn : news.length = m)
    (hbare : ao = none → m = 0 ∧ c = 0) (hc : ∀ ad, ao = some ad → ∀ j u, news[j]? = some u → w.cell? (ad.add j) = some u) (h1c : ∀ u ∈ news, u.oneCell' = true) (hb : n + m ≤ 225000000000000) (hbase : base ≤ w.heap.size)
    (hK : ∀ v' w', Hid (w'.ownsRow base 5 1 v' (n + m) (xs ++ news)) → w.grownBy w' v.ownBlock → Hid (v' = .slice none 0 0 ↔ v = .slice none 0 0 ∧ m = 0) → wpList Try.prog ops Q rest (a.put o.dst v') w') : wpList Try.prog ops Q (o :: rest) a w := by
  refine wpList_plain hgd fun K hK' => ?_
  obtain ⟨v', w', hrun, r1, r2, r3⟩ := run_append_src w o.type base v n xs hown ao m c news hn hbare hc h1c hb hbase
  unfold Oper.wp
  simp [execOp, hop, resolve, invoke, builtin, hS, hX, hrun, Result.andThen]
  exact hK' _ _ (hK v' w' r1 r2 r3)
/-- What the append law leaves, as the walks want it. -/
theorem own_first {w1 : World} {base n : Nat} {v : Value} {xs : List Value} (h : Hid (w1.ownsRow base 5 1 v (0 + n) ([] ++ xs))) : w1.ownsRow base 5 1 v n xs := by
  have h1 := h.out
  rw [Nat.zero_add, List.nil_append] at h1
  exact h1
theorem below_first {w w1 : World} (h : w.grownBy w1 (Value.ownBlock (.slice none 0 0))) : Below w.heap.size w w1 :=
  ⟨h.os, h.tape, h.output, h.size, fun k hk => h.block k hk (fun e => by cases e)⟩
theorem below_of_none {w w1 : World} (h : w.grownBy w1 none) : Below w.heap.size w w1 := ⟨h.os, h.tape, h.output, h.size, fun k hk => h.block k hk (fun e => by cases e)⟩
theorem src_new (w : World) (bs : List UInt8) (hm : bs.length ≤ maxLen) : SrcAt (w.alloc (.cells (cells8 bs) 5)) (some ⟨w.heap.size, 0, none⟩) bs.length bs w.heap.size 0 :=
  ⟨Nat.le_refl _, hm, fun _ => rfl, fun h => by (cases h), fun _ => by simp, fun j hj => by
    rw [Nat.zero_add, cell_of_row _ _ _ _ _ _ (heap_alloc_new w _)]
    simp [cells8, B8, hj]⟩
/-- A slice that string() turns into this text. -/
def Says (w : World) (e : Ending) (w' : World) (s : ByteArray) : Prop := ∃ ao n cap, e = .returned (.slice ao n cap) ∧ (∀ W, Below w'.heap.size w' W → (convert 22 9 (.slice ao n cap)).run Try.prog W = .ok (.string s) W) ∧ Below w.heap.size w w'
theorem says_of {w w' : World} {e : Ending} {base : Nat} {l : List UInt8} (h : ∃ v, e = .returned v ∧ w'.ownsRow base 5 1 v l.length (l.map B8) ∧ Below w.heap.size w w') : Says w e w' (SL l) := by
  obtain ⟨v, rfl, ho, hb⟩ := h
  obtain ⟨ao, cap, B, rfl, hs, _⟩ := src_of_own ho
  exact ⟨ao, _, cap, rfl, fun W hW => convert_src (hs.below hW), hb⟩
/-- append of a slice that came in, where a guard said yes. -/
theorem wpList_append_src_yes {ops : Array Oper} {rest : List Oper} {o : Oper} {a : Act} {w : World} {Q : Exit → Act → World → Prop}
    (hgd : Region.wanted o (yielded ops a.tmps) = true) (s x : Operand) (hop : o.op = Op.call { callee := Callee.builtin Builtin.append, args := #[s, x], argTypes := #[22, 22] })
    (base : Nat) (v : Value) (n : Nat) (xs : List Value) (hS : a.eval s = v) (hown : w.ownsRow base 5 1 v n xs) (ao : Option Addr) (m c : Nat) (hX : a.eval x = .slice ao m c) (news : List Value) (hn : news.length = m)
    (hbare : ao = none → m = 0 ∧ c = 0) (hc : ∀ ad, ao = some ad → ∀ j u, news[j]? = some u → w.cell? (ad.add j) = some u) (h1c : ∀ u ∈ news, u.oneCell' = true) (hb : n + m ≤ 225000000000000) (hbase : base ≤ w.heap.size)
    (hK : ∀ v' w', Hid (w'.ownsRow base 5 1 v' (n + m) (xs ++ news)) → w.grownBy w' v.ownBlock → wpList Try.prog ops Q rest (a.put o.dst v') w') : wpList Try.prog ops Q (o :: rest) a w := by
  refine wpList_step fun K hK' => ?_
  rw [if_pos hgd]
  obtain ⟨v', w', hrun, r1, r2, r3⟩ := run_append_src w o.type base v n xs hown ao m c news hn hbare hc h1c hb hbase
  unfold Oper.wp
  simp [execOp, hop, resolve, invoke, builtin, hS, hX, hrun, Result.andThen]
  exact hK' _ _ (hK v' w' r1 r2)
/-- What append of the rest leaves. -/
theorem own_back {w : World} {base l m : Nat} {v : Value} {L R bs : List UInt8} (h : Hid (w.ownsRow base 5 1 v (l + m) (L.map B8 ++ R.map B8))) (hl : l = L.length) (hm : m = R.length) (he : bs = L ++ R) :
    ∃ ao cap B, v = .slice ao bs.length cap ∧ SrcAt w ao cap bs B 0 := by
  have h1 := h.out
  rw [← List.map_append, ← he, hl, hm, ← List.length_append, ← he] at h1
  obtain ⟨ao, cap, B, h2, h3, _⟩ := src_of_own h1
  exact ⟨ao, cap, B, h2, h3⟩
theorem below_bytesWorld (w : World) (s : ByteArray) : Below w.heap.size w (Lib.bytesWorld w 5 s) :=
  ⟨rfl, rfl, rfl, by rw [Lib.bytesWorld_size]; omega, fun k hk => Lib.bytesWorld_at_old w 5 s k hk⟩
theorem src_bytesWorld (w : World) (s : ByteArray) (hs : s.size ≤ maxLen) : SrcAt (Lib.bytesWorld w 5 s) (some ⟨w.heap.size, 0, none⟩) (grownCap w s.size 0 5) s.data.toList w.heap.size 0 :=
  ⟨grownCap_ge w s.size 0 5, grownCap_le_maxLen w s.size 0 5 hs, fun _ => rfl, fun h => by (cases h), fun _ => by rw [Lib.bytesWorld_size]; omega, fun j hj => by rw [Nat.zero_add]; exact Lib.bytesWorld_cell w 5 s j hj⟩
/-- What both Puts leave, as a source. -/
def PutsAt (w : World) (l : List UInt8) (e : Ending) (w' : World) : Prop := ∃ ao cap B, e = .returned (.slice ao l.length cap) ∧ SrcAt w' ao cap l B 0 ∧ Below w.heap.size w w'
theorem putsAt_of {w w' : World} {e : Ending} {base : Nat} {l : List UInt8} (h : ∃ v, e = .returned v ∧ w'.ownsRow base 5 1 v l.length (l.map B8) ∧ Below w.heap.size w w') : PutsAt w l e w' := by
  obtain ⟨v, rfl, ho, hb⟩ := h
  obtain ⟨ao, cap, B, rfl, hs, _⟩ := src_of_own ho
  exact ⟨ao, cap, B, rfl, hs, hb⟩
end Go.Proofs.Ytckbeeadkiiccaa
namespace Go.Proofs.Ytckbeeadkiiccaa
/-- n in groups of 7 bits, in f + 1 groups at most. -/
def numF : Nat → Nat → List UInt8
  | 0, n => [UInt8.ofNat n]
  | f + 1, n => if n < 128 then [UInt8.ofNat n] else UInt8.ofNat (n % 128 + 128) :: numF f (n / 128)
def numL (n : Nat) : List UInt8 := numF 8 n
theorem numF_pos (f n : Nat) : 0 < (numF f n).length := by
  cases f with
  | zero => simp [numF]
  | succ f => rw [numF]; split <;> simp
theorem numF_le (f n : Nat) : (numF f n).length ≤ f + 1 := by
  induction f generalizing n with
  | zero => simp [numF]
  | succ f ih => rw [numF]; split <;> simp; exact ih _
theorem numL_pos (n : Nat) : 0 < (numL n).length := numF_pos 8 n
theorem numL_le (n : Nat) : (numL n).length ≤ 9 := numF_le 8 n
/-- Few groups where the number is small. -/
theorem numF_short (f n i : Nat) (h : n < 128 ^ (i + 1)) : (numF f n).length ≤ i + 1 := by
  induction f generalizing n i with
  | zero => simp [numF]
  | succ f ih =>
    rw [numF]
    split
    · simp
    · rename_i hn
      cases i with
      | zero => simp at h; omega
      | succ i =>
        have := ih (n / 128) i (by rw [Nat.pow_succ] at h; omega)
        simp; omega
/-- What a row of bytes begins with: the number, and how many bytes tell it. f: how many groups may still follow the next one; at: is it the first one? -/
def parseF : Nat → Bool → List UInt8 → Option (Nat × Nat)
  | _, _, [] => none
  | 0, first, c :: _ => if 63 < c.toNat then none else if c.toNat = 0 ∧ first = false then none else some (c.toNat, 1)
  | f + 1, first, c :: r =>
    if 128 ≤ c.toNat then (parseF f false r).map fun p => (c.toNat % 128 + 128 * p.1, p.2 + 1)
    else if c.toNat = 0 ∧ first = false then none else some (c.toNat, 1)
def parse (b : List UInt8) : Option (Nat × Nat) := parseF 8 true b
theorem parseF_numF (f : Nat) : ∀ (n : Nat) (first : Bool) (r : List UInt8), n < 64 * 128 ^ f → (first = false → n ≠ 0) → parseF f first (numF f n ++ r) = some (n, (numF f n).length) := by
  induction f with
  | zero =>
    intro n first r hn h0
    have e : (UInt8.ofNat n).toNat = n := UInt8.toNat_ofNat_of_lt' (by show n < 256; omega)
    simp only [numF, List.cons_append, List.nil_append, parseF, e]
    rw [if_neg (by omega), if_neg (fun h => h0 h.2 h.1)]
    rfl
  | succ f ih =>
    intro n first r hn h0
    rw [numF]
    by_cases h : n < 128
    · have e : (UInt8.ofNat n).toNat = n := UInt8.toNat_ofNat_of_lt' (by show n < 256; omega)
      simp only [if_pos h, List.cons_append, List.nil_append, parseF, e]
      rw [if_neg (by omega), if_neg (fun h => h0 h.2 h.1)]
      rfl
    · have e : (UInt8.ofNat (n % 128 + 128)).toNat = n % 128 + 128 := UInt8.toNat_ofNat_of_lt' (by show _ < 256; omega)
      simp only [if_neg h, List.cons_append, parseF, e]
      rw [if_pos (by omega), ih (n / 128) false r (by rw [Nat.pow_succ] at hn; omega) (fun _ => by omega)]
      simp only [Option.map_some, List.length_cons]
      congr 2
      omega
theorem parse_numL (n : Nat) (r : List UInt8) (h : n ≤ 4611686018427387903) : parse (numL n ++ r) = some (n, (numL n).length) :=
  parseF_numF 8 n true r (by omega) (fun h => by cases h)
theorem byte_self (c : UInt8) : UInt8.ofNat c.toNat = c := by simp
theorem parseF_some (f : Nat) : ∀ (first : Bool) (b : List UInt8) (n k : Nat), parseF f first b = some (n, k) → n < 64 * 128 ^ f ∧ (first = false → n ≠ 0) ∧ ∃ r, b = numF f n ++ r ∧ k = (numF f n).length := by
  induction f with
  | zero =>
    intro first b n k h
    cases b with
    | nil => simp [parseF] at h
    | cons c r =>
      rw [parseF] at h
      split at h
      · cases h
      · rename_i h1
        split at h
        · cases h
        · rename_i h2
          simp only [Option.some.injEq, Prod.mk.injEq] at h
          obtain ⟨rfl, rfl⟩ := h
          refine ⟨by omega, fun hf h0 => h2 ⟨h0, hf⟩, r, ?_, rfl⟩
          simp [numF]
  | succ f ih =>
    intro first b n k h
    cases b with
    | nil => simp [parseF] at h
    | cons c r =>
      have hc : c.toNat < 256 := c.toNat_lt
      rw [parseF] at h
      split at h
      · rename_i h1
        obtain ⟨⟨n', k'⟩, hp, he⟩ := Option.map_eq_some_iff.1 h
        simp only [Prod.mk.injEq] at he
        obtain ⟨rfl, rfl⟩ := he
        obtain ⟨i1, i2, s, rfl, rfl⟩ := ih false r n' k' hp
        have hn' := i2 rfl
        have e1 : (c.toNat % 128 + 128 * n') / 128 = n' := by omega
        have e2 : (c.toNat % 128 + 128 * n') % 128 + 128 = c.toNat := by omega
        have e3 : numF (f + 1) (c.toNat % 128 + 128 * n') = c :: numF f n' := by
          rw [numF, if_neg (by omega), e1, e2, byte_self]
        refine ⟨by rw [Nat.pow_succ]; omega, fun _ => by omega, s, by rw [e3]; rfl, by rw [e3]; rfl⟩
      · rename_i h1
        split at h
        · cases h
        · rename_i h2
          simp only [Option.some.injEq, Prod.mk.injEq] at h
          obtain ⟨rfl, rfl⟩ := h
          have e3 : numF (f + 1) c.toNat = [c] := by rw [numF, if_pos (by omega), byte_self]
          refine ⟨?_, fun hf h0 => h2 ⟨h0, hf⟩, r, by rw [e3]; rfl, by rw [e3]; rfl⟩
          have : 0 < 128 ^ f := Nat.pow_pos (by omega)
          rw [Nat.pow_succ]; omega
theorem parse_some {b : List UInt8} {n k : Nat} (h : parse b = some (n, k)) : n ≤ 4611686018427387903 ∧ ∃ r, b = numL n ++ r ∧ k = (numL n).length := by
  obtain ⟨h1, _, r, h2, h3⟩ := parseF_some 8 true b n k h
  exact ⟨by omega, r, h2, h3⟩
/-- One number, one row. -/
theorem numL_inj {n m : Nat} {r s : List UInt8} (hn : n ≤ 4611686018427387903) (hm : m ≤ 4611686018427387903) (h : numL n ++ r = numL m ++ s) : n = m ∧ r = s := by
  have h1 := parse_numL n r hn
  rw [h, parse_numL m s hm] at h1
  obtain rfl : m = n := by simpa using congrArg (Option.map Prod.fst) h1
  exact ⟨rfl, List.append_cancel_left h⟩
/-- A row that is cut off begins with none. -/
theorem parse_cut {n j : Nat} {r : List UInt8} (hn : n ≤ 4611686018427387903) (h : j < (numL n).length) : parse ((numL n ++ r).take j) = none := by
  cases hp : parse ((numL n ++ r).take j) with
  | none => rfl
  | some p =>
    obtain ⟨m, k⟩ := p
    obtain ⟨hm, s, e, rfl⟩ := parse_some hp
    have e1 : numL n ++ r = numL m ++ (s ++ (numL n ++ r).drop j) := by
      rw [← List.append_assoc, ← e, List.take_append_drop]
    obtain ⟨rfl, _⟩ := numL_inj hn hm e1
    have := congrArg List.length e
    simp only [List.length_take, List.length_append] at this
    omega
/-! ### Numbers that may be below 0 -/
def clampN (n : Int) : Nat := if n < 0 then 0 else if 4611686018427387903 < n then 4611686018427387903 else n.toNat
theorem clampN_le (n : Int) : clampN n ≤ 4611686018427387903 := by unfold clampN; split <;> (try split) <;> omega
theorem clampN_nat (n : Nat) (h : n ≤ 4611686018427387903) : clampN (n : Int) = n := by unfold clampN; rw [if_neg (by omega), if_neg (by omega)]; rfl
def clampI (n : Int) : Int := if n < -2305843009213693952 then -2305843009213693952 else if 2305843009213693951 < n then 2305843009213693951 else n
theorem clampI_in (n : Int) : -2305843009213693952 ≤ clampI n ∧ clampI n ≤ 2305843009213693951 := by unfold clampI; split <;> (try split) <;> omega
def zig (n : Int) : Nat := if n < 0 then (-2 * n - 1).toNat else (2 * n).toNat
theorem zig_le (n : Int) (h : -2305843009213693952 ≤ n ∧ n ≤ 2305843009213693951) : zig n ≤ 4611686018427387903 := by unfold zig; split <;> omega
def unzig (n : Nat) : Int := if n % 2 = 1 then -(((n + 1) / 2 : Nat) : Int) else ((n / 2 : Nat) : Int)
theorem unzig_zig (n : Int) : unzig (zig n) = n := by unfold unzig zig; split <;> split <;> omega
theorem zig_unzig (n : Nat) : zig (unzig n) = n := by unfold unzig zig; split <;> split <;> omega
theorem unzig_in (n : Nat) (h : n ≤ 4611686018427387903) : -2305843009213693952 ≤ unzig n ∧ unzig n ≤ 2305843009213693951 := by unfold unzig; split <;> omega
theorem clampI_in_self (n : Int) (h : -2305843009213693952 ≤ n ∧ n ≤ 2305843009213693951) : clampI n = n := by unfold clampI; rw [if_neg (by omega), if_neg (by omega)]
def intL (n : Int) : List UInt8 := numL (zig (clampI n))
theorem intL_pos (n : Int) : 0 < (intL n).length := numL_pos _
theorem intL_le (n : Int) : (intL n).length ≤ 9 := numL_le _
theorem clamp_min_max (n : Int) : ∃ q : Int, (if (4611686018427387903 : Int) < n then 4611686018427387903 else n) = q ∧ (if q > 0 then q else 0) = (clampN n : Int) := by
  refine ⟨_, rfl, ?_⟩
  unfold clampN
  split <;> split <;> split <;> (try split) <;> omega
/-- One group is laid. -/
theorem numF_more {f n : Nat} (h : 128 ≤ n) (hn : n < 64 * 128 ^ f) : ∃ f', f = f' + 1 ∧ numF f n = UInt8.ofNat (n % 128 + 128) :: numF f' (n / 128) ∧ n / 128 < 64 * 128 ^ f' := by
  cases f with
  | zero => omega
  | succ f => exact ⟨f, rfl, by rw [numF, if_neg (by omega)], by rw [Nat.pow_succ] at hn; omega⟩
theorem numF_last {f n : Nat} (h : n < 128) (hn : n < 64 * 128 ^ f) : numF f n = [UInt8.ofNat n] := by
  cases f with
  | zero => rfl
  | succ f => rw [numF, if_pos h]
theorem clamp_max_min (n : Int) : ∃ q : Int, (if (0 : Int) > n then 0 else n) = q ∧ (if (4611686018427387903 : Int) < q then 4611686018427387903 else q) = (clampN n : Int) := by
  refine ⟨_, rfl, ?_⟩
  unfold clampN
  split <;> split <;> (try split) <;> (try split) <;> omega
theorem clamp_int2 (n : Int) : ∃ q : Int, (if (-2305843009213693952 : Int) > n then -2305843009213693952 else n) = q ∧ (if (2305843009213693951 : Int) < q then 2305843009213693951 else q) = clampI n := by
  refine ⟨_, rfl, ?_⟩
  unfold clampI
  split <;> split <;> (try split) <;> (try split) <;> omega
theorem clamp_int (n : Int) : ∃ q : Int, (if (2305843009213693951 : Int) < n then 2305843009213693951 else n) = q ∧ (if q > -2305843009213693952 then q else -2305843009213693952) = clampI n := by
  refine ⟨_, rfl, ?_⟩
  unfold clampI
  split <;> split <;> split <;> (try split) <;> omega
theorem clampN_zig_neg (m : Int) (h : m < 0) (h2 : -2305843009213693952 ≤ m) : clampN (-2 * m - 1) = zig m := by unfold clampN zig; rw [if_neg (by omega), if_neg (by omega), if_pos h]
theorem clampN_zig_pos (m : Int) (h : 0 ≤ m) (h2 : m ≤ 2305843009213693951) : clampN (2 * m) = zig m := by unfold clampN zig; rw [if_neg (by omega), if_neg (by omega), if_neg (by omega)]
/-- What is known of a row behind its first k bytes, each of which said that one more comes. -/
structure Behind (bs : List UInt8) (k x : Nat) : Prop where
  lt : x < 128 ^ k
  eq : parse bs = (parseF (8 - k) (k == 0) (bs.drop k)).map fun p => (x + 128 ^ k * p.1, k + p.2)
theorem behind_zero (bs : List UInt8) : Behind bs 0 0 := ⟨by simp, by
  rw [List.drop_zero]
  unfold parse
  show parseF 8 true bs = Option.map _ (parseF 8 true bs)
  cases parseF 8 true bs <;> simp⟩
theorem drop_at (bs : List UInt8) (k : Nat) (h : k < bs.length) : bs.drop k = bs.getD k 0 :: bs.drop (k + 1) := by
  rw [List.drop_eq_getElem_cons h]
  simp [List.getD, h]
theorem behind_end {bs : List UInt8} {k x : Nat} (h : Behind bs k x) (hk : bs.length ≤ k) : parse bs = none := by
  rw [h.eq, List.drop_eq_nil_of_le hk]
  cases 8 - k <;> rfl
theorem behind_more {bs : List UInt8} {k x : Nat} (h : Behind bs k x) (hk : k < bs.length) (h8 : k < 8) (hc : 128 ≤ (bs.getD k 0).toNat) : Behind bs (k + 1) (x + (bs.getD k 0).toNat % 128 * 128 ^ k) := by
  refine ⟨?_, ?_⟩
  · have h1 := h.lt
    have h2 : (bs.getD k 0).toNat % 128 * 128 ^ k ≤ 127 * 128 ^ k := Nat.mul_le_mul_right _ (by omega)
    rw [Nat.pow_succ]; omega
  · obtain ⟨f, hf⟩ : ∃ f, 8 - k = f + 1 := ⟨7 - k, by omega⟩
    have e1 : (k + 1 == 0) = false := by simp
    rw [h.eq, drop_at bs k hk, hf, parseF, if_pos hc, show 8 - (k + 1) = f by omega, e1]
    rw [Option.map_map]
    congr 1
    funext p
    simp only [Function.comp, Prod.mk.injEq]
    refine ⟨?_, by omega⟩
    rw [Nat.mul_add, Nat.pow_succ, Nat.mul_comm ((bs.getD k 0).toNat % 128), Nat.mul_assoc, Nat.add_assoc]
theorem behind_bad {bs : List UInt8} {k x : Nat} (h : Behind bs k x) (hk : k < bs.length) (h8 : k = 8) (hc : 63 < (bs.getD k 0).toNat) : parse bs = none := by
  subst h8
  rw [h.eq, drop_at bs 8 hk]
  show Option.map _ (parseF 0 false _) = none
  rw [parseF, if_pos hc]
  rfl
theorem behind_nought {bs : List UInt8} {k x : Nat} (h : Behind bs k x) (hk : k < bs.length) (h8 : k ≤ 8) (h0 : 0 < k) (hc : (bs.getD k 0).toNat = 0) : parse bs = none := by
  have e1 : (k == 0) = false := by simp; omega
  rw [h.eq, drop_at bs k hk, e1]
  cases 8 - k with
  | zero => rw [parseF, if_neg (by omega), if_pos ⟨hc, rfl⟩]; rfl
  | succ f => rw [parseF, if_neg (by omega), if_pos ⟨hc, rfl⟩]; rfl
theorem behind_done {bs : List UInt8} {k x : Nat} (h : Behind bs k x) (hk : k < bs.length) (h8 : k ≤ 8) (h63 : k = 8 → (bs.getD k 0).toNat ≤ 63) (hc : (bs.getD k 0).toNat < 128) (h0 : 0 < k → (bs.getD k 0).toNat ≠ 0) :
    parse bs = some (x + (bs.getD k 0).toNat % 128 * 128 ^ k, k + 1) := by
  have hn : ¬ ((bs.getD k 0).toNat = 0 ∧ (k == 0) = false) := fun ⟨a, b⟩ => h0 (by simp at b; omega) a
  have e : (bs.getD k 0).toNat % 128 = (bs.getD k 0).toNat := Nat.mod_eq_of_lt hc
  rw [h.eq, drop_at bs k hk, e, Nat.mul_comm]
  rcases Nat.eq_or_lt_of_le h8 with rfl | hlt
  · show Option.map _ (parseF 0 _ _) = _
    rw [parseF, if_neg (by have := h63 rfl; omega), if_neg hn]
    rfl
  · obtain ⟨f, hf⟩ : ∃ f, 8 - k = f + 1 := ⟨7 - k, by omega⟩
    rw [hf, parseF, if_neg (by omega), if_neg hn]
    rfl
theorem shl_val (k : Nat) (c : Nat) (h : k ≤ 8) (hc : c < 128) : ((c * 128 ^ k : Nat) : Int) ≤ 9151314442816847872 ∧ (c : Int) * 2 ^ (7 * k) = ((c * 128 ^ k : Nat) : Int) := by
  have h1 : 128 ^ k ≤ 128 ^ 8 := Nat.pow_le_pow_right (by omega) h
  have h2 : c * 128 ^ k ≤ 127 * 128 ^ 8 := Nat.mul_le_mul (by omega) h1
  refine ⟨by omega, ?_⟩
  rw [Int.pow_mul]
  simp
theorem numF_bytes (f : Nat) : ∀ (n i : Nat), n < 64 * 128 ^ f → i < (numF f n).length → (128 ≤ ((numF f n).getD i 0).toNat ↔ i + 1 < (numF f n).length) := by
  induction f with
  | zero =>
    intro n i hn hi
    have e : (UInt8.ofNat n).toNat = n := UInt8.toNat_ofNat_of_lt' (by show n < 256; omega)
    simp [numF] at hi ⊢
    subst hi
    simp [e]; omega
  | succ f ih =>
    intro n i hn hi
    rw [numF] at hi ⊢
    split at hi
    · rename_i h
      have e : (UInt8.ofNat n).toNat = n := UInt8.toNat_ofNat_of_lt' (by show n < 256; omega)
      rw [if_pos h]
      simp at hi
      subst hi
      simp [e]; omega
    · rename_i h
      rw [if_neg h]
      have e : (UInt8.ofNat (n % 128 + 128)).toNat = n % 128 + 128 := UInt8.toNat_ofNat_of_lt' (by show _ < 256; omega)
      have hp := numF_pos f (n / 128)
      cases i with
      | zero => simp; omega
      | succ i =>
        have h1 := ih (n / 128) i (by rw [Nat.pow_succ] at hn; omega) (by simpa using hi)
        simp only [List.getD_cons_succ, List.length_cons]
        omega
theorem flat_take (ls : List (List UInt8)) (k : Nat) (h : k < ls.length) : (ls.take (k + 1)).flatten = (ls.take k).flatten ++ ls.getD k [] := by
  rw [List.take_succ_eq_append_getElem h, List.flatten_append]
  simp [List.getD, h]
theorem flat_take_le (ls : List (List UInt8)) (k : Nat) : (ls.take k).flatten.length ≤ ls.flatten.length := by
  have e : ls.flatten = (ls.take k).flatten ++ (ls.drop k).flatten := by rw [← List.flatten_append, List.take_append_drop]
  rw [e, List.length_append]
  omega
/-- Bytes that begin with no text of at most most bytes. -/
def NoText (bs : List UInt8) (most : Int) : Prop := parse bs = none ∨ ∃ n k, parse bs = some (n, k) ∧ k ≤ bs.length ∧ n ≤ 4611686018427387903 ∧ (most < (n : Int) ∨ bs.length < k + n)
/-- Whatever a row begins with. -/
theorem parse_cases (bs : List UInt8) : parse bs = none ∨ ∃ n rest, n ≤ 4611686018427387903 ∧ bs = numL n ++ rest := by
  cases h : parse bs with
  | none => exact .inl rfl
  | some p =>
    obtain ⟨h1, r, h2, _⟩ := parse_some (n := p.1) (k := p.2) h
    exact .inr ⟨p.1, r, h1, h2⟩
theorem text_cases (bs : List UInt8) (most : Int) : NoText bs most ∨ ∃ t rest, bs = numL t.length ++ (t ++ rest) ∧ (t.length : Int) ≤ most := by
  cases h : parse bs with
  | none => exact .inl (.inl h)
  | some p =>
    obtain ⟨h1, r, h2, h3⟩ := parse_some (n := p.1) (k := p.2) h
    have hl : bs.length = p.2 + r.length := by rw [h3, h2, List.length_append]
    by_cases hc : most < (p.1 : Int) ∨ bs.length < p.2 + p.1
    · exact .inl (.inr ⟨p.1, p.2, h, by omega, h1, hc⟩)
    · have hlen : (r.take p.1).length = p.1 := by rw [List.length_take]; omega
      refine .inr ⟨r.take p.1, r.drop p.1, ?_, by omega⟩
      rw [hlen, List.take_append_drop]
      exact h2
theorem noText_cut (s : List UInt8) (j : Nat) (most : Int) (hs : s.length ≤ 4611686018427387903) (hj : j < (numL s.length ++ s).length) : NoText ((numL s.length ++ s).take j) most := by
  by_cases hk : j < (numL s.length).length
  · exact .inl (parse_cut hs hk)
  · have e : (numL s.length ++ s).take j = numL s.length ++ s.take (j - (numL s.length).length) := by
      rw [List.take_append, List.take_of_length_le (by omega)]
    rw [List.length_append] at hj
    rw [e]
    exact .inr ⟨s.length, _, parse_numL _ _ hs, by rw [List.length_append]; omega, hs, .inr (by rw [List.length_append, List.length_take]; omega)⟩
theorem noText_less (s : List UInt8) (hs : s.length ≤ 4611686018427387903) : NoText (numL s.length ++ s) ((s.length : Int) - 1) :=
  .inr ⟨s.length, _, parse_numL _ _ hs, by rw [List.length_append]; omega, hs, .inl (by omega)⟩
end Go.Proofs.Ytckbeeadkiiccaa
