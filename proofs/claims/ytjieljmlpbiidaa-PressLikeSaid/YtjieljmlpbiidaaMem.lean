/- Values, texts and slices of bytes as walks want them. No function of the program here. -/
import Derived.Test.YtjieljmlpbiidaaRows
import Derived.WalkKit
import Derived.WalkSpells
import Derived.WalkLawsBesides
import Derived.Deep.QuietTactic
import Derived.BigQuiet
import Derived.Deep.RegionLaw
import Derived.Deep.RegionWith
import Derived.Laws.CopyOwn
import Derived.Deep.DeepAppendWide
import Derived.Laws.OwnMore
import Derived.Laws.IdiomStrings
import Derived.Lib.ConvBytes
import Derived.Lib.AppendStr
import Derived.Room.AppendFits
import Derived.Lib.Hide
namespace Go.Proofs.Ytjieljmlpbiidaa
open Go.RowKit
/-! ### Values -/
def B8 (x : UInt8) : Value := .int .u8 (x.toNat : Int)
def cells8 (l : List UInt8) : Array Value := (l.map B8).toArray
theorem cells8_size (l : List UInt8) : (cells8 l).size = l.length := by simp [cells8]
theorem B8_one (l : List UInt8) : ∀ v ∈ l.map B8, v.oneCell' = true := fun v hv => by
  obtain ⟨x, _, rfl⟩ := List.mem_map.1 hv
  rfl
/-- A text's bytes as the model holds them. -/
def SL (bs : List UInt8) : ByteArray := ⟨bs.toArray⟩
theorem SL_size (bs : List UInt8) : (SL bs).size = bs.length := by simp [SL, ByteArray.size]
theorem SL_data (s : ByteArray) : SL s.data.toList = s := by
  unfold SL
  rfl
theorem strCells_SL (l : List UInt8) : Lib.strCells (SL l) = l.map B8 := rfl
theorem strCells_B8 (s : ByteArray) : Lib.strCells s = s.data.toList.map B8 := rfl
theorem strOfNums_map (bs : List UInt8) : strOfNums (bs.map fun x => (x.toNat : Int)) = SL bs := by
  simp only [strOfNums, SL, List.map_map]
  congr 2
  conv => rhs; rw [← List.map_id bs]
  refine List.map_congr_left fun x _ => ?_
  simp
theorem zeros_made (m : Nat) : madeCells #[.int .u8 0] m = cells8 (List.replicate m 0) := by
  simp only [madeCells, cells8, List.map_replicate]
  apply Array.ext
  · simp
  · intro i h1 h2
    simp [B8, Nat.mod_one]
theorem heap_drewN (w : World) (n : Nat) : (w.drewN n).heap = w.heap := rfl
theorem below_drewN {B : Nat} {a w : World} (h : Below B a w) (n : Nat) : Below B a (w.drewN n) := ⟨h.os, h.tape, h.output, h.size, h.block⟩
theorem below_heap {w w' : World} {k : Nat} {o : Obj} (h : Below w.heap.size w w') (hk : w.heap[k]? = some o) : w'.heap[k]? = some o :=
  (h.block k (Array.getElem?_eq_some_iff.1 hk).1).trans hk
theorem grown_heap {w w' : World} {g k : Nat} {o : Obj} (h : w.grownBy w' (some g)) (hk : w.heap[k]? = some o) (hne : k ≠ g) : w'.heap[k]? = some o :=
  (h.block k (Array.getElem?_eq_some_iff.1 hk).1 (fun e => hne (Option.some.inj e))).trans hk
theorem cells_new (w : World) (cs : Array Value) (e : TypeId) : ∀ j u, cs.toList[j]? = some u → (w.alloc (.cells cs e)).cell? ((⟨w.heap.size, 0, none⟩ : Addr).add j) = some u := by
  intro j u hu
  rw [Addr.add_lit, Nat.zero_add, cell_of_row _ _ _ _ _ _ (heap_alloc_new w _)]
  simpa using hu
theorem news_one (w : World) (x : Value) : ∀ j u, ([x] : List Value)[j]? = some u → (w.alloc (.cells #[x] 5)).cell? ((⟨w.heap.size, 0, none⟩ : Addr).add j) = some u := cells_new w #[x] 5
theorem owns_of_row {w : World} {base g n cap : Nat} {cur : Array Value} {xs : List Value} (hg : w.heap[g]? = some (.cells cur 5 (0, 0))) (hb : base ≤ g) (hn : n ≤ cap) (hcap : cap ≤ maxLen)
    (hs : cur.size = cap) (hl : xs.length = n) (hx : cur.toList.take n = xs) : w.ownsRow base 5 1 (.slice (some ⟨g, 0, none⟩) n cap) n xs :=
  ⟨by rw [hl, Nat.mul_one], .inr ⟨g, cap, cur, rfl, hb, hg, hn, hcap, by rw [Nat.mul_one]; exact hs, by rw [Nat.mul_one]; exact hx⟩⟩
theorem own_base {w : World} {b b' e s m : Nat} {v : Value} {xs : List Value} (h : w.ownsRow b e s v m xs) (hb : b' ≤ b) : w.ownsRow b' e s v m xs := by
  refine ⟨h.1, ?_⟩
  rcases h.2 with h4 | ⟨g2, c2, cur2, h4, h6, h5⟩
  · exact .inl h4
  · exact .inr ⟨g2, c2, cur2, h4, Nat.le_trans hb h6, h5⟩
theorem own_some {w : World} {base e n : Nat} {v : Value} {xs : List Value} (h : w.ownsRow base e 1 v n xs) (hn : 0 < n) : ∃ g cap, v = .slice (some ⟨g, 0, none⟩) n cap ∧ base ≤ g ∧ g < w.heap.size := by
  rcases h.2 with ⟨_, h0⟩ | ⟨g, cap, cur, h1, h2, h3, _⟩
  · omega
  · exact ⟨g, cap, h1, h2, (Array.getElem?_eq_some_iff.1 h3).1⟩
theorem own_below {w w' : World} {base e s m : Nat} {v : Value} {xs : List Value} (h : w.ownsRow base e s v m xs) (hb : Below w.heap.size w w') : w'.ownsRow base e s v m xs := by
  refine ⟨h.1, ?_⟩
  rcases h.2 with h4 | ⟨g2, c2, cur2, h4, h6, h7, h5⟩
  · exact .inl h4
  · exact .inr ⟨g2, c2, cur2, h4, h6, below_heap hb h7, h5⟩
/-! ### Facts of the program's table -/
theorem info5 : (Try.prog.info? 5).map (fun i => (i.zero, i.size, i.bytes)) = some (some (.int .u8 0), 1, 1) := by kernel_rfl
theorem cells5 : Try.prog.cellsOf 5 = 1 := by kernel_rfl
theorem bytes5 : Try.prog.bytesOf 5 = 1 := by kernel_rfl
theorem Try.own : ownKnob Try.prog.godebug = Option.none := by kernel_rfl
theorem Try.laidOut : laidOutB Try.prog = true := by kernel_rfl
/-- A slice with these bytes. -/
structure SrcAt (W : World) (ao : Option Addr) (cap : Nat) (bs : List UInt8) (B off : Nat) : Prop where
  le : bs.length ≤ cap
  top : cap ≤ maxLen
  src : 0 < bs.length → ao = some ⟨B, off, none⟩
  bare : ao = Option.none → bs.length = 0 ∧ cap = 0
  old : 0 < bs.length → B < W.heap.size
  cell : ∀ j, j < bs.length → W.cell? ⟨B, off + j, none⟩ = some (.int .u8 ((bs.getD j 0).toNat : Int))
theorem SrcAt.below {W W' : World} {ao : Option Addr} {cap : Nat} {bs : List UInt8} {B off : Nat} (h : SrcAt W ao cap bs B off) (hb : Below W.heap.size W W') : SrcAt W' ao cap bs B off :=
  ⟨h.le, h.top, h.src, h.bare, fun p => Nat.lt_of_lt_of_le (h.old p) hb.size, fun j hj => (hb.cell (h.old (by omega))).trans (h.cell j hj)⟩
theorem SrcAt.grown {W W' : World} {ao : Option Addr} {cap : Nat} {g : Option Nat} {bs : List UInt8} {B off : Nat} (h : SrcAt W ao cap bs B off) (hg : W.grownBy W' g) (hne : 0 < bs.length → g ≠ some B) : SrcAt W' ao cap bs B off :=
  ⟨h.le, h.top, h.src, h.bare, fun p => Nat.lt_of_lt_of_le (h.old p) hg.size, fun j hj => hg.cell (h.cell j hj) (fun e => hne (by omega) e.symm)⟩
theorem src_nil (w : World) : SrcAt w none 0 [] 0 0 :=
  ⟨Nat.le_refl _, Nat.zero_le _, fun h => absurd h (Nat.lt_irrefl _), fun _ => ⟨rfl, rfl⟩, fun h => absurd h (Nat.lt_irrefl _), fun _ hj => absurd hj (Nat.not_lt_zero _)⟩
/-- A slice of the call's own, as a source. -/
theorem src_of_own {w : World} {base : Nat} {v : Value} {bs : List UInt8} (h : w.ownsRow base 5 1 v bs.length (bs.map B8)) : ∃ ao cap B, v = .slice ao bs.length cap ∧ SrcAt w ao cap bs B 0 ∧ (0 < bs.length → base ≤ B) := by
  rcases h.2 with ⟨rfl, h0⟩ | ⟨g, cap, cur, rfl, h2, h3, h4, h5, h6, h7⟩
  · obtain rfl : bs = [] := List.eq_nil_of_length_eq_zero h0
    exact ⟨none, 0, 0, rfl, src_nil w, fun h => absurd h (Nat.lt_irrefl _)⟩
  · refine ⟨_, cap, g, rfl, ⟨h4, h5, fun _ => rfl, fun h => by (cases h), fun _ => (Array.getElem?_eq_some_iff.1 h3).1, fun j hj => ?_⟩, fun _ => h2⟩
    rw [Nat.zero_add, cell_of_row _ _ _ _ _ _ h3]
    have e : (cur.toList.take (bs.length * 1))[j]? = (bs.map B8)[j]? := by rw [h7]
    rw [Nat.mul_one, List.getElem?_take, if_pos hj, Array.getElem?_toList] at e
    rw [e]
    simp [B8, hj]
theorem SrcAt.cells {W : World} {ao : Option Addr} {cap : Nat} {bs : List UInt8} {B off : Nat} (h : SrcAt W ao cap bs B off) : ∀ ad, ao = some ad → ∀ j u, (bs.map B8)[j]? = some u → W.cell? (ad.add j) = some u := by
  intro ad had j u hu
  have hj : j < bs.length := by have := (List.getElem?_eq_some_iff.1 hu).1; rwa [List.length_map] at this
  have e := h.src (by omega)
  rw [had] at e
  obtain rfl := Option.some.inj e
  rw [Addr.add_lit, h.cell j hj, ← hu]
  simp [B8, hj]
/-- A piece of a slice. -/
theorem SrcAt.piece {W : World} {ao : Option Addr} {cap : Nat} {bs : List UInt8} {B off : Nat} (h : SrcAt W ao cap bs B off) (l n : Nat) (hl : l + n ≤ bs.length) :
    SrcAt W (if cap = l then ao else ao.map (·.add (l * 1))) (cap - l) ((bs.drop l).take n) B (off + l) := by
  have hle := h.le
  have hlen : ((bs.drop l).take n).length = n := by rw [List.length_take, List.length_drop]; omega
  have htop := h.top
  refine ⟨by omega, by omega, fun hp => ?_, fun hn => ?_, fun hp => h.old (by omega), fun j hj => ?_⟩
  · rw [if_neg (by omega), h.src (by omega), Option.map_some, Addr.add_lit, Nat.mul_one]
  · by_cases hc : cap = l
    · rw [if_pos hc] at hn
      have := h.bare hn
      omega
    · rw [if_neg hc] at hn
      have := h.bare (by cases ao with
        | none => rfl
        | some a => cases hn)
      omega
  · rw [Nat.add_assoc, h.cell (l + j) (by omega)]
    rw [hlen] at hj
    have e : ((bs.drop l).take n).getD j 0 = bs.getD (l + j) 0 := by
      simp [List.getD, hj]
    rw [e]
theorem sizeOf22 (w : World) : (sizeOf (Try.prog.elem 22)).run Try.prog w = .ok 1 w := by kernel_rfl
/-- s[l:l+n] of a slice of bytes: its value, and what it holds. -/
theorem SrcAt.slice_lh {W : World} {ao : Option Addr} {cap : Nat} {bs : List UInt8} {B off : Nat} (h : SrcAt W ao cap bs B off) (l n : Nat) (hl : l + n ≤ bs.length) :
    ∃ ao' : Option Addr, (∀ w : World, (Instr.slice 22 (.slice ao bs.length cap) (some (.int .i64 (l : Int))) (some (.int .i64 ((l : Int) + (n : Int)))) none).run Try.prog w = .ok (.slice ao' n (cap - l)) w) ∧ SrcAt W ao' (cap - l) ((bs.drop l).take n) B (off + l) := by
  have hle := h.le
  refine ⟨_, fun w => ?_, h.piece l n hl⟩
  rw [run_slice_lh w 22 ao _ cap (by kernel_rfl) .i64 .i64 (l : Int) ((l : Int) + (n : Int)) (by omega) (by omega) (by omega), sizeOf22]
  have e1 : ((l : Int) + (n : Int)).toNat = l + n := by omega
  simp only [Result.andThen_ok, sliced, Int.toNat_natCast, e1, Nat.add_sub_cancel_left]
/-- s[l:]. -/
theorem SrcAt.slice_l {W : World} {ao : Option Addr} {cap : Nat} {bs : List UInt8} {B off : Nat} (h : SrcAt W ao cap bs B off) (l : Nat) (hl : l ≤ bs.length) :
    ∃ ao' : Option Addr, (∀ w : World, (Instr.slice 22 (.slice ao bs.length cap) (some (.int .i64 (l : Int))) none none).run Try.prog w = .ok (.slice ao' (bs.length - l) (cap - l)) w) ∧ SrcAt W ao' (cap - l) (bs.drop l) B (off + l) := by
  have hp := h.piece l (bs.length - l) (by omega)
  rw [List.take_of_length_le (by rw [List.length_drop]; omega)] at hp
  refine ⟨_, fun w => ?_, hp⟩
  rw [run_slice_l w 22 ao _ cap (by kernel_rfl) .i64 (l : Int) (by omega) (by omega), sizeOf22]
  simp only [Result.andThen_ok, sliced, Int.toNat_natCast]
/-- s[:n]. -/
theorem SrcAt.slice_h {W : World} {ao : Option Addr} {cap : Nat} {bs : List UInt8} {B off : Nat} (h : SrcAt W ao cap bs B off) (n : Nat) (hl : n ≤ bs.length) :
    ∃ ao' : Option Addr, (∀ w : World, (Instr.slice 22 (.slice ao bs.length cap) none (some (.int .i64 (n : Int))) none).run Try.prog w = .ok (.slice ao' n cap) w) ∧ SrcAt W ao' cap (bs.take n) B off := by
  have hle := h.le
  have hp := h.piece 0 n (by omega)
  rw [List.drop_zero, Nat.sub_zero, Nat.add_zero] at hp
  refine ⟨_, fun w => ?_, hp⟩
  rw [run_slice_h w 22 ao _ cap (by kernel_rfl) .i64 (n : Int) (by omega) (by omega), sizeOf22]
  simp only [Result.andThen_ok, sliced, Int.toNat_natCast, Nat.sub_zero]
theorem getD_map (bs : List UInt8) (i : Nat) (h : i < bs.length) : (bs.map fun x => (x.toNat : Int)).getD i 0 = ((bs.getD i 0).toNat : Int) := by
  simp only [List.getD, List.getElem?_map, List.getElem?_eq_getElem h, Option.map_some, Option.getD_some]
/-- string(v) at such a slice. -/
theorem convert_src {w : World} {ao : Option Addr} {cap : Nat} {bs : List UInt8} {B off : Nat} (h : SrcAt w ao cap bs B off) : (convert 22 9 (.slice ao bs.length cap)).run Try.prog w = .ok (.string (SL bs)) w := by
  cases bs with
  | nil =>
    rw [run_convert_bytes_string w 22 9 5 ao _ cap Try.underlying22 Try.underlying5 Try.underlying9]
    cases ao with
    | none => simp [Conv.bytesToString]; rfl
    | some a =>
      rw [run_bytesToString w a _ cap [] (by simp [loadCells, loadCellsFrom])]
      rfl
  | cons x r =>
    rw [h.src (by simp)]
    rw [run_convert_bytes_arg (P := Try.prog) w 22 5 Try.underlying22 Try.underlying5 B off (x :: r).length cap ((x :: r).map fun x => (x.toNat : Int)) (by simp) (fun i hi => ?_) 9 Try.underlying9, strOfNums_map]
    rw [h.cell i hi, getD_map _ i hi]
/-! ### append of a slice that came in, to one that the call owns: nil, empty or not -/
theorem run_append_src (w : World) (ty : TypeId) (base : Nat) (v : Value) (n : Nat) (xs : List Value) (hown : w.ownsRow base 5 1 v n xs) (ao : Option Addr) (m c : Nat) (news : List Value) (hn : news.length = m)
    (hbare : ao = none → m = 0 ∧ c = 0) (hc : ∀ ad, ao = some ad → ∀ j u, news[j]? = some u → w.cell? (ad.add j) = some u) (h1c : ∀ u ∈ news, u.oneCell' = true) (hb : n + m ≤ 225000000000000) (hbase : base ≤ w.heap.size) :
    ∃ v' w', (Builtin.append_ #[22, 22] ty #[v, .slice ao m c]).run Try.prog w = .ok v' w' ∧ w'.ownsRow base 5 1 v' (n + m) (xs ++ news) ∧ w.grownBy w' v.ownBlock ∧ (v' = .slice none 0 0 ↔ v = .slice none 0 0 ∧ m = 0) := by
  obtain ⟨i0, hi, hz0, hz1, hz2⟩ := info_parts info5
  cases ao with
  | none =>
    obtain ⟨rfl, rfl⟩ := hbare rfl
    obtain rfl : news = [] := List.eq_nil_of_length_eq_zero hn
    exact ⟨v, w, run_append_owned_none (P := Try.prog) w base 22 ty 5 i0 1 Try.underlying22 hi v n xs hown, by rw [Nat.add_zero, List.append_nil]; exact hown, World.grownBy.refl _ _, by simp⟩
  | some ad =>
    exact run_append_own_wide (P := Try.prog) w base 22 ty 5 i0 (.int .u8 0) 1 1 Try.underlying22 hi hz0 hz1 hz2 rfl (by decide) v n xs hown ad m c news (by rw [hn, Nat.mul_one]) (hc ad rfl) h1c (by unfold maxLen; omega) (by omega) hbase
theorem wpList_append_src {ops : Array Oper} {rest : List Oper} {o : Oper} {a : Act} {w : World} {Q : Exit → Act → World → Prop}
    (hgd : o.guard = none) (s x : Operand) (hop : o.op = Op.call { callee := Callee.builtin Builtin.append, args := #[s, x], argTypes := #[22, 22] })
    (base : Nat) (v : Value) (n : Nat) (xs : List Value) (hS : a.eval s = v) (hown : w.ownsRow base 5 1 v n xs) (ao : Option Addr) (m c : Nat) (hX : a.eval x = .slice ao m c) (news : List Value) (hn : news.length = m)
    (hbare : ao = none → m = 0 ∧ c = 0) (hc : ∀ ad, ao = some ad → ∀ j u, news[j]? = some u → w.cell? (ad.add j) = some u) (h1c : ∀ u ∈ news, u.oneCell' = true) (hb : n + m ≤ 225000000000000) (hbase : base ≤ w.heap.size)
    (hK : ∀ v' w', Hid (w'.ownsRow base 5 1 v' (n + m) (xs ++ news)) → w.grownBy w' v.ownBlock → Hid (v' = .slice none 0 0 ↔ v = .slice none 0 0 ∧ m = 0) → wpList Try.prog ops Q rest (a.put o.dst v') w') : wpList Try.prog ops Q (o :: rest) a w := by
  refine wpList_plain hgd fun K hK' => ?_
  obtain ⟨v', w', hrun, r1, r2, r3⟩ := run_append_src w o.type base v n xs hown ao m c news hn hbare hc h1c hb hbase
  unfold Oper.wp
  simp [execOp, hop, resolve, invoke, builtin, hS, hX, hrun, Result.andThen]
  exact hK' _ _ (hK v' w' r1 r2 r3)
/-- What the append law leaves, as the walks want it. -/
theorem own_first {w1 : World} {base n : Nat} {v : Value} {xs : List Value} (h : Hid (w1.ownsRow base 5 1 v (0 + n) ([] ++ xs))) : w1.ownsRow base 5 1 v n xs := by
  have h1 := h.out
  rw [Nat.zero_add, List.nil_append] at h1
  exact h1
theorem below_first {w w1 : World} (h : w.grownBy w1 (Value.ownBlock (.slice none 0 0))) : Below w.heap.size w w1 :=
  ⟨h.os, h.tape, h.output, h.size, fun k hk => h.block k hk (fun e => by cases e)⟩
theorem below_of_none {w w1 : World} (h : w.grownBy w1 none) : Below w.heap.size w w1 := ⟨h.os, h.tape, h.output, h.size, fun k hk => h.block k hk (fun e => by cases e)⟩
theorem src_new (w : World) (bs : List UInt8) (hm : bs.length ≤ maxLen) : SrcAt (w.alloc (.cells (cells8 bs) 5)) (some ⟨w.heap.size, 0, none⟩) bs.length bs w.heap.size 0 :=
  ⟨Nat.le_refl _, hm, fun _ => rfl, fun h => by (cases h), fun _ => by simp, fun j hj => by
    rw [Nat.zero_add, cell_of_row _ _ _ _ _ _ (heap_alloc_new w _)]
    simp [cells8, B8, hj]⟩
/-- A slice that string() turns into this text. -/
def Says (w : World) (e : Ending) (w' : World) (s : ByteArray) : Prop := ∃ ao n cap, e = .returned (.slice ao n cap) ∧ (∀ W, Below w'.heap.size w' W → (convert 22 9 (.slice ao n cap)).run Try.prog W = .ok (.string s) W) ∧ Below w.heap.size w w'
theorem says_of {w w' : World} {e : Ending} {base : Nat} {l : List UInt8} (h : ∃ v, e = .returned v ∧ w'.ownsRow base 5 1 v l.length (l.map B8) ∧ Below w.heap.size w w') : Says w e w' (SL l) := by
  obtain ⟨v, rfl, ho, hb⟩ := h
  obtain ⟨ao, cap, B, rfl, hs, _⟩ := src_of_own ho
  exact ⟨ao, _, cap, rfl, fun W hW => convert_src (hs.below hW), hb⟩
/-- append of a slice that came in, where a guard said yes. -/
theorem wpList_append_src_yes {ops : Array Oper} {rest : List Oper} {o : Oper} {a : Act} {w : World} {Q : Exit → Act → World → Prop}
    (hgd : Region.wanted o (yielded ops a.tmps) = true) (s x : Operand) (hop : o.op = Op.call { callee := Callee.builtin Builtin.append, args := #[s, x], argTypes := #[22, 22] })
    (base : Nat) (v : Value) (n : Nat) (xs : List Value) (hS : a.eval s = v) (hown : w.ownsRow base 5 1 v n xs) (ao : Option Addr) (m c : Nat) (hX : a.eval x = .slice ao m c) (news : List Value) (hn : news.length = m)
    (hbare : ao = none → m = 0 ∧ c = 0) (hc : ∀ ad, ao = some ad → ∀ j u, news[j]? = some u → w.cell? (ad.add j) = some u) (h1c : ∀ u ∈ news, u.oneCell' = true) (hb : n + m ≤ 225000000000000) (hbase : base ≤ w.heap.size)
    (hK : ∀ v' w', Hid (w'.ownsRow base 5 1 v' (n + m) (xs ++ news)) → w.grownBy w' v.ownBlock → wpList Try.prog ops Q rest (a.put o.dst v') w') : wpList Try.prog ops Q (o :: rest) a w := by
  refine wpList_step fun K hK' => ?_
  rw [if_pos hgd]
  obtain ⟨v', w', hrun, r1, r2, r3⟩ := run_append_src w o.type base v n xs hown ao m c news hn hbare hc h1c hb hbase
  unfold Oper.wp
  simp [execOp, hop, resolve, invoke, builtin, hS, hX, hrun, Result.andThen]
  exact hK' _ _ (hK v' w' r1 r2)
/-- What append of the rest leaves. -/
theorem own_back {w : World} {base l m : Nat} {v : Value} {L R bs : List UInt8} (h : Hid (w.ownsRow base 5 1 v (l + m) (L.map B8 ++ R.map B8))) (hl : l = L.length) (hm : m = R.length) (he : bs = L ++ R) :
    ∃ ao cap B, v = .slice ao bs.length cap ∧ SrcAt w ao cap bs B 0 := by
  have h1 := h.out
  rw [← List.map_append, ← he, hl, hm, ← List.length_append, ← he] at h1
  obtain ⟨ao, cap, B, h2, h3, _⟩ := src_of_own h1
  exact ⟨ao, cap, B, h2, h3⟩
theorem below_bytesWorld (w : World) (s : ByteArray) : Below w.heap.size w (Lib.bytesWorld w 5 s) :=
  ⟨rfl, rfl, rfl, by rw [Lib.bytesWorld_size]; omega, fun k hk => Lib.bytesWorld_at_old w 5 s k hk⟩
theorem src_bytesWorld (w : World) (s : ByteArray) (hs : s.size ≤ maxLen) : SrcAt (Lib.bytesWorld w 5 s) (some ⟨w.heap.size, 0, none⟩) (grownCap w s.size 0 5) s.data.toList w.heap.size 0 :=
  ⟨grownCap_ge w s.size 0 5, grownCap_le_maxLen w s.size 0 5 hs, fun _ => rfl, fun h => by (cases h), fun _ => by rw [Lib.bytesWorld_size]; omega, fun j hj => by rw [Nat.zero_add]; exact Lib.bytesWorld_cell w 5 s j hj⟩
/-- What both Puts leave, as a source. -/
def PutsAt (w : World) (l : List UInt8) (e : Ending) (w' : World) : Prop := ∃ ao cap B, e = .returned (.slice ao l.length cap) ∧ SrcAt w' ao cap l B 0 ∧ Below w.heap.size w w'
theorem putsAt_of {w w' : World} {e : Ending} {base : Nat} {l : List UInt8} (h : ∃ v, e = .returned v ∧ w'.ownsRow base 5 1 v l.length (l.map B8) ∧ Below w.heap.size w w') : PutsAt w l e w' := by
  obtain ⟨v, rfl, ho, hb⟩ := h
  obtain ⟨ao, cap, B, rfl, hs, _⟩ := src_of_own ho
  exact ⟨ao, cap, B, rfl, hs, hb⟩
end Go.Proofs.Ytjieljmlpbiidaa
