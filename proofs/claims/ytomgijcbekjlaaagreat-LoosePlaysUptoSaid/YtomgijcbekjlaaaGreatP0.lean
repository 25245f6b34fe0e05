/- What the proofs stand on: Mem, Turn, DiskPure, DiskSt, SafePure, SumPure, SumRun, SumStep, Clone, AppNew, RefPutNum, RefPutText. -/
import Derived.Test.YtomgijcbekjlaaaGreatRows
import Derived.WalkKit
import Derived.WalkSpells
import Derived.WalkLawsBesides
import Derived.Deep.QuietTactic
import Derived.BigQuiet
import Derived.Deep.RegionLaw
import Derived.Deep.RegionWith
import Derived.Laws.CopyOwn
import Derived.Deep.DeepAppendWide
import Derived.Laws.OwnMore
import Derived.Laws.IdiomStrings
import Derived.Lib.ConvBytes
import Derived.Lib.AppendStr
import Derived.Room.AppendFits
import Derived.Lib.Hide
import Derived.Test.YtomgijcbekjlaaaGreatP2
import Derived.Test.YtomgijcbekjlaaaGreatPB0
import Derived.Test.YtomgijcbekjlaaaGreatPB1
set_option maxRecDepth 100000
set_option maxHeartbeats 40000000
namespace Go.Proofs.YtomgijcbekjlaaaGreat
section
open Go.RowKit
/-! ### Values -/
def B8 (x : UInt8) : Value := .int .u8 (x.toNat : Int)
def cells8 (l : List UInt8) : Array Value := (l.map B8).toArray
theorem cells8_size (l : List UInt8) : (cells8 l).size = l.length := by simp [cells8]
theorem B8_one (l : List UInt8) : ∀ v ∈ l.map B8, v.oneCell' = true := fun v hv => by
 obtain ⟨x, _, rfl⟩ := List.mem_map.1 hv; rfl
def SL (bs : List UInt8) : ByteArray := ⟨bs.toArray⟩
theorem SL_size (bs : List UInt8) : (SL bs).size = bs.length := by simp [SL, ByteArray.size]
theorem SL_data (s : ByteArray) : SL s.data.toList = s := by
 unfold SL; rfl
theorem strCells_B8 (s : ByteArray) : Lib.strCells s = s.data.toList.map B8 := rfl
theorem strOfNums_map (bs : List UInt8) : strOfNums (bs.map fun x => (x.toNat : Int)) = SL bs := by
 simp only [strOfNums, SL, List.map_map]; congr 2
 conv => rhs; rw [<- List.map_id bs]
 refine List.map_congr_left fun x _ => ?_
 simp
theorem zeros_made (m : Nat) : madeCells #[.int .u8 0] m = cells8 (List.replicate m 0) := by
 simp only [madeCells, cells8, List.map_replicate]; apply Array.ext
 ·simp
 ·intro i h1 h2
  simp [B8, Nat.mod_one]
theorem heap_drewN (w : World) (n : Nat) : (w.drewN n).heap = w.heap := rfl
theorem below_drewN {B : Nat} {a w : World} (h : Below B a w) (n : Nat) : Below B a (w.drewN n) := ⟨h.os, h.tape, h.output, h.size, h.block⟩
theorem below_heap {w w' : World} {k : Nat} {o : Obj} (h : Below w.heap.size w w') (hk : w.heap[k]? = some o) : w'.heap[k]? = some o :=
 (h.block k (ge_ hk).1).trans hk
theorem cells_new (w : World) (cs : Array Value) (e : TypeId) : ∀ j u, cs.toList[j]? = some u -> (w.alloc (.cells cs e)).cell? ((⟨w.heap.size, 0, none⟩ : Addr).add j) = some u := by
 intro j u hu
 rw [Addr.add_lit, Nat.zero_add, cell_of_row _ _ _ _ _ _ (heap_alloc_new w _)]; simpa using hu
theorem news_one (w : World) (x : Value) : ∀ j u, ([x] : List Value)[j]? = some u -> (w.alloc (.cells #[x] 5)).cell? ((⟨w.heap.size, 0, none⟩ : Addr).add j) = some u := cells_new w #[x] 5
theorem owns_of_row {w : World} {base g n cap : Nat} {cur : Array Value} {xs : List Value} (hg : w.heap[g]? = some (.cells cur 5 (0, 0))) (hb : base <= g) (hn : n <= cap) (hcap : cap <= maxLen)
  (hs : cur.size = cap) (hl : xs.length = n) (hx : cur.toList.take n = xs) : w.ownsRow base 5 1 (.slice (some ⟨g, 0, none⟩) n cap) n xs :=
 ⟨by rw [hl, Nat.mul_one], .inr ⟨g, cap, cur, rfl, hb, hg, hn, hcap, by rw [Nat.mul_one]; exact hs, by rw [Nat.mul_one]; exact hx⟩⟩
theorem own_base {w : World} {b b' e s m : Nat} {v : Value} {xs : List Value} (h : w.ownsRow b e s v m xs) (hb : b' <= b) : w.ownsRow b' e s v m xs := by
 refine ⟨h.1, ?_⟩; rcases h.2 with h4 | ⟨g2, c2, cur2, h4, h6, h5⟩
 ·exact .inl h4
 ·exact .inr ⟨g2, c2, cur2, h4, Nat.le_trans hb h6, h5⟩
theorem own_some {w : World} {base e n : Nat} {v : Value} {xs : List Value} (h : w.ownsRow base e 1 v n xs) (hn : 0 < n) : ∃ g cap, v = .slice (some ⟨g, 0, none⟩) n cap /\ base <= g /\ g < w.heap.size := by
 rcases h.2 with ⟨_, h0⟩ | ⟨g, cap, cur, h1, h2, h3, _⟩
 ·omega
 ·exact ⟨g, cap, h1, h2, (ge_ h3).1⟩
theorem own_below {w w' : World} {base e s m : Nat} {v : Value} {xs : List Value} (h : w.ownsRow base e s v m xs) (hb : Below w.heap.size w w') : w'.ownsRow base e s v m xs := by
 refine ⟨h.1, ?_⟩; rcases h.2 with h4 | ⟨g2, c2, cur2, h4, h6, h7, h5⟩
 ·exact .inl h4
 ·exact .inr ⟨g2, c2, cur2, h4, h6, below_heap hb h7, h5⟩
/-! ### Facts of the program's table -/
theorem info5 : (Tryz.prog.info? 5).map (fun i => (i.zero, i.size, i.bytes)) = some (some (.int .u8 0), 1, 1) := by kernel_rfl
theorem cells5 : Tryz.prog.cellsOf 5 = 1 := by kernel_rfl
theorem Tryz.own : ownKnob Tryz.prog.godebug = Option.none := by kernel_rfl
theorem Tryz.laidOut : laidOutB Tryz.prog = true := by kernel_rfl
structure SrcAt (W : World) (ao : Option Addr) (cap : Nat) (bs : List UInt8) (B off : Nat) : Prop where
 le : bs.length <= cap
 top : cap <= maxLen
 src : 0 < bs.length -> ao = some ⟨B, off, none⟩
 bare : ao = Option.none -> bs.length = 0 /\ cap = 0
 old : 0 < bs.length -> B < W.heap.size
 cell : ∀ j, j < bs.length -> W.cell? ⟨B, off + j, none⟩ = some (.int .u8 ((bs.getD j 0).toNat : Int))
theorem SrcAt.below {W W' : World} {ao : Option Addr} {cap : Nat} {bs : List UInt8} {B off : Nat} (h : SrcAt W ao cap bs B off) (hb : Below W.heap.size W W') : SrcAt W' ao cap bs B off :=
 ⟨h.le, h.top, h.src, h.bare, fun p => Nat.lt_of_lt_of_le (h.old p) hb.size, fun j hj => (hb.cell (h.old (by omega))).trans (h.cell j hj)⟩
theorem SrcAt.grown {W W' : World} {ao : Option Addr} {cap : Nat} {g : Option Nat} {bs : List UInt8} {B off : Nat} (h : SrcAt W ao cap bs B off) (hg : W.grownBy W' g) (hne : 0 < bs.length -> g ≠ some B) : SrcAt W' ao cap bs B off :=
 ⟨h.le, h.top, h.src, h.bare, fun p => Nat.lt_of_lt_of_le (h.old p) hg.size, fun j hj => hg.cell (h.cell j hj) (fun e => hne (by omega) e.symm)⟩
theorem src_nil (w : World) : SrcAt w none 0 [] 0 0 :=
 ⟨Nat.le_refl _, Nat.zero_le _, fun h => absurd h (Nat.lt_irrefl _), fun _ => ⟨rfl, rfl⟩, fun h => absurd h (Nat.lt_irrefl _), fun _ hj => absurd hj (Nat.not_lt_zero _)⟩
theorem src_of_own {w : World} {base : Nat} {v : Value} {bs : List UInt8} (h : w.ownsRow base 5 1 v bs.length (bs.map B8)) : ∃ ao cap B, v = .slice ao bs.length cap /\ SrcAt w ao cap bs B 0 /\ (0 < bs.length -> base <= B) := by
 rcases h.2 with ⟨rfl, h0⟩ | ⟨g, cap, cur, rfl, h2, h3, h4, h5, h6, h7⟩
 ·obtain rfl : bs = [] := List.eq_nil_of_length_eq_zero h0
  exact ⟨none, 0, 0, rfl, src_nil w, fun h => absurd h (Nat.lt_irrefl _)⟩
 ·refine ⟨_, cap, g, rfl, ⟨h4, h5, fun _ => rfl, fun h => by (cases h), fun _ => (ge_ h3).1, fun j hj => ?_⟩, fun _ => h2⟩
  rw [Nat.zero_add, cell_of_row _ _ _ _ _ _ h3]; have e : (cur.toList.take (bs.length * 1))[j]? = (bs.map B8)[j]? := by rw [h7]
  rw [Nat.mul_one, List.getElem?_take, if_pos hj, Array.getElem?_toList] at e; rw [e]; simp [B8, hj]
theorem SrcAt.cells {W : World} {ao : Option Addr} {cap : Nat} {bs : List UInt8} {B off : Nat} (h : SrcAt W ao cap bs B off) : ∀ ad, ao = some ad -> ∀ j u, (bs.map B8)[j]? = some u -> W.cell? (ad.add j) = some u := by
 intro ad had j u hu
 have hj : j < bs.length := by have := (List.getElem?_eq_some_iff.1 hu).1; rwa [List.length_map] at this
 have e := h.src (by omega)
 rw [had] at e; obtain rfl := Option.some.inj e
 rw [Addr.add_lit, h.cell j hj, <- hu]; simp [B8, hj]
theorem SrcAt.piece {W : World} {ao : Option Addr} {cap : Nat} {bs : List UInt8} {B off : Nat} (h : SrcAt W ao cap bs B off) (l n : Nat) (hl : l + n <= bs.length) :
  SrcAt W (if cap = l then ao else ao.map (·.add (l * 1))) (cap - l) ((bs.drop l).take n) B (off + l) := by
 have hle := h.le; have hlen : ((bs.drop l).take n).length = n := by rw [List.length_take, List.length_drop]; omega
 have htop := h.top; refine ⟨by omega, by omega, fun hp => ?_, fun hn => ?_, fun hp => h.old (by omega), fun j hj => ?_⟩
 ·rw [if_neg (by omega), h.src (by omega), Option.map_some, Addr.add_lit, Nat.mul_one]
 ·by_cases hc : cap = l
  ·rw [if_pos hc] at hn
   have := h.bare hn
   omega
  ·rw [if_neg hc] at hn
   have := h.bare (by cases ao with
    | none => rfl
    | some a => cases hn)
   omega
 ·rw [Nat.add_assoc, h.cell (l + j) (by omega)]
  rw [hlen] at hj; have e : ((bs.drop l).take n).getD j 0 = bs.getD (l + j) 0 := by
   simp [List.getD, hj]
  rw [e]
theorem sizeOf22 (w : World) : (sizeOf (Tryz.prog.elem 29)).run Tryz.prog w = .ok 1 w := by kernel_rfl
theorem SrcAt.slice_lh {W : World} {ao : Option Addr} {cap : Nat} {bs : List UInt8} {B off : Nat} (h : SrcAt W ao cap bs B off) (l n : Nat) (hl : l + n <= bs.length) :
  ∃ ao' : Option Addr, (∀ w : World, (Instr.slice 29 (.slice ao bs.length cap) (some (.int .i64 (l : Int))) (some (.int .i64 ((l : Int) + (n : Int)))) none).run Tryz.prog w = .ok (.slice ao' n (cap - l)) w) /\ SrcAt W ao' (cap - l) ((bs.drop l).take n) B (off + l) := by
 have hle := h.le; refine ⟨_, fun w => ?_, h.piece l n hl⟩
 rw [run_slice_lh w 29 ao _ cap (by kernel_rfl) .i64 .i64 (l : Int) ((l : Int) + (n : Int)) (by omega) (by omega) (by omega), sizeOf22]
 have e1 : ((l : Int) + (n : Int)).toNat = l + n := by omega
 simp only [Result.andThen_ok, sliced, Int.toNat_natCast, e1, Nat.add_sub_cancel_left]
theorem SrcAt.slice_l {W : World} {ao : Option Addr} {cap : Nat} {bs : List UInt8} {B off : Nat} (h : SrcAt W ao cap bs B off) (l : Nat) (hl : l <= bs.length) :
  ∃ ao' : Option Addr, (∀ w : World, (Instr.slice 29 (.slice ao bs.length cap) (some (.int .i64 (l : Int))) none none).run Tryz.prog w = .ok (.slice ao' (bs.length - l) (cap - l)) w) /\ SrcAt W ao' (cap - l) (bs.drop l) B (off + l) := by
 have hp := h.piece l (bs.length - l) (by omega)
 rw [List.take_of_length_le (by rw [List.length_drop]; omega)] at hp
 refine ⟨_, fun w => ?_, hp⟩
 rw [run_slice_l w 29 ao _ cap (by kernel_rfl) .i64 (l : Int) (by omega) (by omega), sizeOf22]
 simp only [Result.andThen_ok, sliced, Int.toNat_natCast]
theorem SrcAt.slice_h {W : World} {ao : Option Addr} {cap : Nat} {bs : List UInt8} {B off : Nat} (h : SrcAt W ao cap bs B off) (n : Nat) (hl : n <= bs.length) :
  ∃ ao' : Option Addr, (∀ w : World, (Instr.slice 29 (.slice ao bs.length cap) none (some (.int .i64 (n : Int))) none).run Tryz.prog w = .ok (.slice ao' n cap) w) /\ SrcAt W ao' cap (bs.take n) B off := by
 have hle := h.le; have hp := h.piece 0 n (by omega)
 rw [List.drop_zero, Nat.sub_zero, Nat.add_zero] at hp; refine ⟨_, fun w => ?_, hp⟩
 rw [run_slice_h w 29 ao _ cap (by kernel_rfl) .i64 (n : Int) (by omega) (by omega), sizeOf22]
 simp only [Result.andThen_ok, sliced, Int.toNat_natCast, Nat.sub_zero]
theorem getD_map (bs : List UInt8) (i : Nat) (h : i < bs.length) : (bs.map fun x => (x.toNat : Int)).getD i 0 = ((bs.getD i 0).toNat : Int) := by
 simp only [List.getD, List.getElem?_map, List.getElem?_eq_getElem h, Option.map_some, Option.getD_some]
theorem convert_src {w : World} {ao : Option Addr} {cap : Nat} {bs : List UInt8} {B off : Nat} (h : SrcAt w ao cap bs B off) : (convert 29 9 (.slice ao bs.length cap)).run Tryz.prog w = .ok (.string (SL bs)) w := by
 cases bs with
 | nil =>
  rw [run_convert_bytes_string w 29 9 5 ao _ cap Tryz.underlying29 Tryz.underlying5 Tryz.underlying9]
  cases ao with
  | none => simp [Conv.bytesToString]; rfl
  | some a =>
   rw [run_bytesToString w a _ cap [] (by simp [loadCells, loadCellsFrom])]
   rfl
 | cons x r =>
  rw [h.src (by simp)]
  rw [run_convert_bytes_arg (P := Tryz.prog) w 29 5 Tryz.underlying29 Tryz.underlying5 B off (x :: r).length cap ((x :: r).map fun x => (x.toNat : Int)) (by simp) (fun i hi => ?_) 9 Tryz.underlying9, strOfNums_map]
  rw [h.cell i hi, getD_map _ i hi]
/-! ### append of a slice that came in, to one that the call owns: nil, empty or not -/
theorem run_append_src (w : World) (ty : TypeId) (base : Nat) (v : Value) (n : Nat) (xs : List Value) (hown : w.ownsRow base 5 1 v n xs) (ao : Option Addr) (m c : Nat) (news : List Value) (hn : news.length = m)
  (hbare : ao = none -> m = 0 /\ c = 0) (hc : ∀ ad, ao = some ad -> ∀ j u, news[j]? = some u -> w.cell? (ad.add j) = some u) (h1c : ∀ u ∈ news, u.oneCell' = true) (hb : n + m <= 225000000000000) (hbase : base <= w.heap.size) :
  ∃ v' w', (Builtin.append_ #[29, 29] ty #[v, .slice ao m c]).run Tryz.prog w = .ok v' w' /\ w'.ownsRow base 5 1 v' (n + m) (xs ++ news) /\ w.grownBy w' v.ownBlock /\ (v' = .slice none 0 0 ↔ v = .slice none 0 0 /\ m = 0) := by
 obtain ⟨i0, hi, hz0, hz1, hz2⟩ := info_parts info5
 cases ao with
 | none =>
  obtain ⟨rfl, rfl⟩ := hbare rfl; obtain rfl : news = [] := List.eq_nil_of_length_eq_zero hn
  exact ⟨v, w, run_append_owned_none (P := Tryz.prog) w base 29 ty 5 i0 1 Tryz.underlying29 hi v n xs hown, by rw [Nat.add_zero, List.append_nil]; exact hown, World.grownBy.refl _ _, by simp⟩
 | some ad =>
  exact run_append_own_wide (P := Tryz.prog) w base 29 ty 5 i0 (.int .u8 0) 1 1 Tryz.underlying29 hi hz0 hz1 hz2 rfl (by decide) v n xs hown ad m c news (by rw [hn, Nat.mul_one]) (hc ad rfl) h1c (by unfold maxLen; omega) (by omega) hbase
theorem wpList_append_src {ops : Array Oper} {rest : List Oper} {o : Oper} {a : Act} {w : World} {Q : Exit -> Act -> World -> Prop}
  (hgd : o.guard = none) (s x : Operand) (hop : o.op = Op.call { callee := Callee.builtin Builtin.append, args := #[s, x], argTypes := #[29, 29] })
  (base : Nat) (v : Value) (n : Nat) (xs : List Value) (hS : a.eval s = v) (hown : w.ownsRow base 5 1 v n xs) (ao : Option Addr) (m c : Nat) (hX : a.eval x = .slice ao m c) (news : List Value) (hn : news.length = m)
  (hbare : ao = none -> m = 0 /\ c = 0) (hc : ∀ ad, ao = some ad -> ∀ j u, news[j]? = some u -> w.cell? (ad.add j) = some u) (h1c : ∀ u ∈ news, u.oneCell' = true) (hb : n + m <= 225000000000000) (hbase : base <= w.heap.size)
  (hK : ∀ v' w', Hid (w'.ownsRow base 5 1 v' (n + m) (xs ++ news)) -> w.grownBy w' v.ownBlock -> Hid (v' = .slice none 0 0 ↔ v = .slice none 0 0 /\ m = 0) -> wpList Tryz.prog ops Q rest (a.put o.dst v') w') : wpList Tryz.prog ops Q (o :: rest) a w := by
 refine wpList_plain hgd fun K hK' => ?_
 obtain ⟨v', w', hrun, r1, r2, r3⟩ := run_append_src w o.type base v n xs hown ao m c news hn hbare hc h1c hb hbase; unfold Oper.wp; simp [execOp, hop, resolve, invoke, builtin, hS, hX, hrun, Result.andThen]; exact hK' _ _ (hK v' w' r1 r2 r3)
theorem own_first {w1 : World} {base n : Nat} {v : Value} {xs : List Value} (h : Hid (w1.ownsRow base 5 1 v (0 + n) ([] ++ xs))) : w1.ownsRow base 5 1 v n xs := by
 have h1 := h.out; rw [Nat.zero_add, List.nil_append] at h1; exact h1
theorem below_first {w w1 : World} (h : w.grownBy w1 (Value.ownBlock (.slice none 0 0))) : Below w.heap.size w w1 :=
 ⟨h.os, h.tape, h.output, h.size, fun k hk => h.block k hk (fun e => by cases e)⟩
theorem below_of_none {w w1 : World} (h : w.grownBy w1 none) : Below w.heap.size w w1 := ⟨h.os, h.tape, h.output, h.size, fun k hk => h.block k hk (fun e => by cases e)⟩
end
section
open Go.RowKit
abbrev Bs := List UInt8
/-! ### What a call may turn -/
structure Turn (G : Nat -> Prop) (w w' : World) : Prop where
 os : w'.os = w.os
 tape : w'.tape = w.tape
 output : w'.output = w.output
 size : w.heap.size <= w'.heap.size
 block : ∀ k, k < w.heap.size -> ¬ G k -> w'.heap[k]? = w.heap[k]?
def grow (F : Nat -> Prop) (w w' : World) : Nat -> Prop := fun k => F k \/ (w.heap.size <= k /\ k < w'.heap.size)
theorem Turn.refl (G : Nat -> Prop) (w : World) : Turn G w w := ⟨rfl, rfl, rfl, Nat.le_refl _, fun _ _ _ => rfl⟩
theorem Turn.then {G G' : Nat -> Prop} {a b c : World} (h : Turn G a b) (k : Turn G' b c) (hG : ∀ i, i < a.heap.size -> G' i -> G i) : Turn G a c :=
 ⟨k.os.trans h.os, k.tape.trans h.tape, k.output.trans h.output, Nat.le_trans h.size k.size, fun i hi hn => (k.block i (Nat.lt_of_lt_of_le hi h.size) (fun hg => hn (hG i hi hg))).trans (h.block i hi hn)⟩
theorem Turn.trans {G : Nat -> Prop} {a b c : World} (h : Turn G a b) (k : Turn G b c) : Turn G a c := h.then k fun _ _ h => h
theorem Turn.of_below {w w' : World} (G : Nat -> Prop) (h : Below w.heap.size w w') : Turn G w w' := ⟨h.os, h.tape, h.output, h.size, fun k hk _ => h.block k hk⟩
theorem Turn.of_grown {w w' : World} {G : Nat -> Prop} {r : Option Nat} (h : w.grownBy w' r) (hr : ∀ g, r = some g -> G g) : Turn G w w' := ⟨h.os, h.tape, h.output, h.size, fun k hk hn => h.block k hk (fun e => hn (hr k e.symm))⟩
theorem Turn.setCell {G : Nat -> Prop} (w : World) (a : Addr) (v : Value) (h : G a.block) : Turn G w (w.setCell a v) :=
 ⟨rfl, rfl, rfl, by simp [World.setCell], fun k _ hn => heap_setCell_other w a k v (fun e => hn (by rw [e]; exact h))⟩
theorem Turn.drewN {G : Nat -> Prop} (w : World) (n : Nat) : Turn G w (w.drewN n) := ⟨rfl, rfl, rfl, Nat.le_refl _, fun _ _ _ => rfl⟩
theorem Turn.below {G : Nat -> Prop} {w w' : World} {B : Nat} (h : Turn G w w') (hB : B <= w.heap.size) (hG : ∀ k, G k -> B <= k) : Below B w w' :=
 ⟨h.os, h.tape, h.output, h.size, fun k hk => h.block k (by omega) (fun g => by have := hG k g; omega)⟩
theorem Turn.keep {G : Nat -> Prop} {w w' : World} (h : Turn G w w') {k : Nat} {o : Obj} (hk : w.heap[k]? = some o) (hn : ¬ G k) : w'.heap[k]? = some o := (h.block k (ge_ hk).1 hn).trans hk
theorem Turn.cell {G : Nat -> Prop} {w w' : World} (h : Turn G w w') {a : Addr} {v : Value} (hc : w.cell? a = some v) (hn : ¬ G a.block) : w'.cell? a = some v :=
 (World.cell?_of_block (h.block a.block (World.block_lt_of_cell? w a hc) hn)).trans hc
theorem below_turn {w w' : World} (h : Below w.heap.size w w') {k : Nat} {o : Obj} (hk : w.heap[k]? = some o) : w'.heap[k]? = some o := below_heap h hk
/-! ### Slices of bytes, to be read -/
def BytesAt (w : World) (F : Nat -> Prop) (v : Value) (b : Bs) : Prop := ∃ ao cap B off, v = .slice ao b.length cap /\ SrcAt w ao cap b B off /\ (0 < b.length -> F B)
theorem SrcAt.turn {G : Nat -> Prop} {w w' : World} {ao : Option Addr} {cap : Nat} {bs : List UInt8} {B off : Nat} (h : SrcAt w ao cap bs B off) (ht : Turn G w w') (hn : 0 < bs.length -> ¬ G B) : SrcAt w' ao cap bs B off :=
 ⟨h.le, h.top, h.src, h.bare, fun p => Nat.lt_of_lt_of_le (h.old p) ht.size, fun j hj => ht.cell (h.cell j hj) (hn (by omega))⟩
theorem BytesAt.turn {F G : Nat -> Prop} {w w' : World} {v : Value} {b : Bs} (h : BytesAt w F v b) (ht : Turn G w w') (hn : ∀ k, F k -> ¬ G k) : BytesAt w' F v b := by
 obtain ⟨ao, cap, B, off, rfl, h1, h2⟩ := h; exact ⟨ao, cap, B, off, rfl, h1.turn ht (fun p => hn _ (h2 p)), h2⟩
theorem BytesAt.mono {F F' : Nat -> Prop} {w : World} {v : Value} {b : Bs} (h : BytesAt w F v b) (hF : ∀ k, k < w.heap.size -> F k -> F' k) : BytesAt w F' v b := by
 obtain ⟨ao, cap, B, off, rfl, h1, h2⟩ := h; exact ⟨ao, cap, B, off, rfl, h1, fun p => hF _ (h1.old p) (h2 p)⟩
theorem BytesAt.of_own {w : World} {base : Nat} {v : Value} {b : Bs} {F : Nat -> Prop} (h : w.ownsRow base 5 1 v b.length (b.map B8)) (hF : ∀ g, v.ownBlock = some g -> F g) : BytesAt w F v b := by
 obtain ⟨ao, cap, B, rfl, h1, _⟩ := src_of_own h; refine ⟨ao, cap, B, 0, rfl, h1, fun p => hF _ ?_⟩
 rw [h1.src p]; rfl
theorem BytesAt.text {w : World} {F : Nat -> Prop} {v : Value} {b : Bs} (h : BytesAt w F v b) : (convert 29 9 v).run Tryz.prog w = .ok (.string (SL b)) w := by
 obtain ⟨ao, cap, B, off, rfl, h1, _⟩ := h; exact convert_src h1
end
section
abbrev Files := List (Bs × Bs)
theorem bs_lt_irrefl (a : Bs) : ¬ a < a := List.lt_irrefl a
theorem bs_lt_trans {a b c : Bs} (h : a < b) (k : b < c) : a < c := List.lt_trans h k
theorem bs_tri (a b : Bs) : a < b \/ a = b \/ b < a := by
 by_cases h : a < b
 ·exact .inl h
 ·by_cases k : b < a
  ·exact .inr (.inr k)
  ·exact .inr (.inl (List.le_antisymm (List.not_lt.1 k) (List.not_lt.1 h)))
/-! ### Lists in the order of their names -/
section
variable {α : Type}
def findF (n : Bs) : List (Bs × α) -> Option α
 | [] => none
 | p :: r => if p.1 = n then some p.2 else findF n r
def putF (n : Bs) (x : α) : List (Bs × α) -> List (Bs × α)
 | [] => [(n, x)]
 | p :: r => if p.1 = n then (n, x) :: r else if p.1 < n then p :: putF n x r else (n, x) :: p :: r
def delF (n : Bs) : List (Bs × α) -> List (Bs × α)
 | [] => []
 | p :: r => if p.1 = n then r else p :: delF n r
def Rising (l : List (Bs × α)) : Prop := l.Pairwise (fun p q => p.1 < q.1)
theorem Rising.nil : Rising ([] : List (Bs × α)) := List.Pairwise.nil
theorem findF_mem {n : Bs} {x : α} : ∀ {l : List (Bs × α)}, findF n l = some x -> (n, x) ∈ l
 | [], h => by cases h
 | p :: r, h => by
  unfold findF at h; split at h
  ·rename_i e
   cases h
   subst e; exact List.mem_cons_self
  ·exact List.mem_cons_of_mem _ (findF_mem h)
theorem findF_none {n : Bs} : ∀ {l : List (Bs × α)}, findF n l = none ↔ ∀ p ∈ l, p.1 ≠ n
 | [] => by simp [findF]
 | p :: r => by
  unfold findF; split
  ·rename_i e
   simp [e]
  ·rename_i e
   simp [findF_none (l := r), e]
theorem findF_of_mem {n : Bs} {x : α} : ∀ {l : List (Bs × α)}, Rising l -> (n, x) ∈ l -> findF n l = some x
 | [], _, h => by cases h
 | p :: r, hr, h => by
  obtain ⟨h1, h2⟩ := List.pairwise_cons.1 hr; unfold findF; rcases List.mem_cons.1 h with rfl | h
  ·simp
  ·have := h1 _ h
   rw [if_neg (fun e => by rw [e] at this; exact bs_lt_irrefl _ this)]
   exact findF_of_mem h2 h
theorem findF_low {n : Bs} : ∀ {l : List (Bs × α)}, (∀ p ∈ l, n < p.1) -> findF n l = none := fun h => findF_none.2 fun p hp e => by
 have := h p hp
 rw [e] at this; exact bs_lt_irrefl _ this
theorem mem_putF {n : Bs} {x : α} {q : Bs × α} : ∀ {l : List (Bs × α)}, q ∈ putF n x l -> q = (n, x) \/ q ∈ l
 | [], h => by
  simp only [putF, List.mem_cons, List.not_mem_nil, or_false] at h; exact .inl h
 | p :: r, h => by
  unfold putF at h; split at h
  ·rcases List.mem_cons.1 h with h | h
   ·exact .inl h
   ·exact .inr (List.mem_cons_of_mem _ h)
  ·split at h
   ·rcases List.mem_cons.1 h with h | h
    ·exact .inr (by rw [h]; exact List.mem_cons_self)
    ·rcases mem_putF h with h | h
     ·exact .inl h
     ·exact .inr (List.mem_cons_of_mem _ h)
   ·rcases List.mem_cons.1 h with h | h
    ·exact .inl h
    ·exact .inr h
theorem Rising.put {n : Bs} {x : α} : ∀ {l : List (Bs × α)}, Rising l -> Rising (putF n x l)
 | [], _ => by simp [putF, Rising]
 | p :: r, hr => by
  obtain ⟨h1, h2⟩ := List.pairwise_cons.1 hr; unfold putF; split
  ·rename_i e
   exact List.pairwise_cons.2 ⟨fun q hq => by have := h1 q hq; rw [e] at this; exact this, h2⟩
  ·rename_i e
   split
   ·rename_i hlt
    refine List.pairwise_cons.2 ⟨fun q hq => ?_, Rising.put h2⟩
    rcases mem_putF hq with rfl | hq
    ·exact hlt
    ·exact h1 q hq
   ·rename_i hlt
    have hnp : n < p.1 := by
     rcases bs_tri p.1 n with h | h | h
     ·exact absurd h hlt
     ·exact absurd h e
     ·exact h
    refine List.pairwise_cons.2 ⟨fun q hq => ?_, hr⟩
    rcases List.mem_cons.1 hq with rfl | hq
    ·exact hnp
    ·exact bs_lt_trans hnp (h1 q hq)
theorem mem_delF {n : Bs} {q : Bs × α} : ∀ {l : List (Bs × α)}, q ∈ delF n l -> q ∈ l
 | [], h => h
 | p :: r, h => by
  unfold delF at h; split at h
  ·exact List.mem_cons_of_mem _ h
  ·rcases List.mem_cons.1 h with h | h
   ·rw [h]; exact List.mem_cons_self
   ·exact List.mem_cons_of_mem _ (mem_delF h)
theorem Rising.del {n : Bs} : ∀ {l : List (Bs × α)}, Rising l -> Rising (delF n l)
 | [], h => h
 | p :: r, hr => by
  obtain ⟨h1, h2⟩ := List.pairwise_cons.1 hr; unfold delF; split
  ·exact h2
  ·exact List.pairwise_cons.2 ⟨fun q hq => h1 q (mem_delF hq), Rising.del h2⟩
theorem findF_put_same (n : Bs) (x : α) : ∀ (l : List (Bs × α)), findF n (putF n x l) = some x
 | [] => by simp [putF, findF]
 | p :: r => by
  unfold putF; split
  ·simp [findF]
  ·rename_i e
   split
   ·simp only [findF, if_neg e]; exact findF_put_same n x r
   ·simp [findF]
theorem findF_put_other {n m : Bs} (x : α) (h : m ≠ n) : ∀ (l : List (Bs × α)), findF m (putF n x l) = findF m l
 | [] => by simp [putF, findF, h.symm]
 | p :: r => by
  unfold putF; split
  ·rename_i e
   have e2 : p.1 ≠ m := fun k => h (k.symm.trans e)
   simp [findF, h.symm, e2]
  ·split
   ·simp only [findF]
    rw [findF_put_other x h r]
   ·simp [findF, h.symm]
theorem findF_del_other {n m : Bs} (h : m ≠ n) : ∀ (l : List (Bs × α)), findF m (delF n l) = findF m l
 | [] => rfl
 | p :: r => by
  unfold delF; split
  ·rename_i e
   have e2 : p.1 ≠ m := fun k => h (k.symm.trans e)
   simp [findF, e2]
  ·simp only [findF]
   rw [findF_del_other h r]
theorem findF_del_same {n : Bs} : ∀ {l : List (Bs × α)}, Rising l -> findF n (delF n l) = none
 | [], _ => rfl
 | p :: r, hr => by
  obtain ⟨h1, h2⟩ := List.pairwise_cons.1 hr; unfold delF; split
  ·rename_i e
   exact findF_low (fun q hq => by rw [<- e]; exact h1 q hq)
  ·rename_i e
   simp only [findF, if_neg e]; exact findF_del_same h2
theorem rising_ext : ∀ {a b : List (Bs × α)}, Rising a -> Rising b -> (∀ n, findF n a = findF n b) -> a = b
 | [], [], _, _, _ => rfl
 | [], q :: s, _, _, h => by have := h q.1; simp [findF] at this
 | p :: r, [], _, _, h => by have := h p.1; simp [findF] at this
 | p :: r, q :: s, ha, hb, h => by
  obtain ⟨a1, a2⟩ := List.pairwise_cons.1 ha; obtain ⟨b1, b2⟩ := List.pairwise_cons.1 hb; have hn : p.1 = q.1 := by
   rcases bs_tri p.1 q.1 with k | k | k
   ·have h1 := h p.1
    rw [findF_low (l := q :: s) (fun y hy => by
     rcases List.mem_cons.1 hy with rfl | hy
     ·exact k
     ·exact bs_lt_trans k (b1 y hy))] at h1
    simp [findF] at h1
   ·exact k
   ·have h1 := h q.1
    rw [findF_low (l := p :: r) (fun y hy => by
     rcases List.mem_cons.1 hy with rfl | hy
     ·exact k
     ·exact bs_lt_trans k (a1 y hy))] at h1
    simp [findF] at h1
  have hx : p.2 = q.2 := by
   have h1 := h p.1; simpa [findF, hn] using h1
  have hpq : p = q := Prod.ext hn hx
  subst hpq; congr 1
  refine rising_ext a2 b2 fun n => ?_
  by_cases e : p.1 = n
  ·rw [<- e, findF_low a1, findF_low b1]
  ·have h1 := h n
   simpa [findF, e] using h1
theorem putF_length_new {n : Bs} {x : α} : ∀ {l : List (Bs × α)}, findF n l = none -> (putF n x l).length = l.length + 1
 | [], _ => rfl
 | p :: r, h => by
  unfold findF at h; split at h
  ·cases h
  ·rename_i e
   unfold putF; rw [if_neg e]; split
   ·simp [putF_length_new h]
   ·rfl
theorem putF_length_le {n : Bs} {x : α} : ∀ {l : List (Bs × α)}, (putF n x l).length <= l.length + 1
 | [] => Nat.le_refl _
 | p :: r => by
  unfold putF; split
  ·simp
  ·split
   ·simp [putF_length_le (l := r)]
   ·simp
/-! ### The place of a name -/
def posF (n : Bs) : List (Bs × α) -> Nat
 | [] => 0
 | p :: r => if p.1 < n then posF n r + 1 else 0
theorem posF_le (n : Bs) : ∀ l : List (Bs × α), posF n l <= l.length
 | [] => Nat.le_refl _
 | p :: r => by
  unfold posF; split
  ·simp [posF_le n r]
  ·omega
theorem posF_before {n : Bs} : ∀ {l : List (Bs × α)} {i : Nat} {p : Bs × α}, i < posF n l -> l[i]? = some p -> p.1 < n
 | [], i, p, h, _ => by simp [posF] at h
 | q :: r, i, p, h, hp => by
  unfold posF at h; split at h
  ·cases i with
   | zero => simp at hp; subst hp; assumption
   | succ i => exact posF_before (l := r) (i := i) (by omega) (by simpa using hp)
  ·omega
theorem posF_at {n : Bs} : ∀ {l : List (Bs × α)} {p : Bs × α}, l[posF n l]? = some p -> ¬ p.1 < n
 | [], p, h => by simp at h
 | q :: r, p, h => by
  unfold posF at h; split at h
  ·exact posF_at (l := r) (by simpa using h)
  ·simp at h; subst h; assumption
def thereF (n : Bs) (l : List (Bs × α)) : Bool := (findF n l).isSome
theorem there_of {n : Bs} : ∀ {l : List (Bs × α)}, Rising l -> (thereF n l = true ↔ ∃ p, l[posF n l]? = some p /\ p.1 = n)
 | [], _ => by simp [thereF, findF]
 | q :: r, hr => by
  obtain ⟨h1, h2⟩ := List.pairwise_cons.1 hr; unfold thereF findF posF; by_cases e : q.1 = n
  ·have : ¬ q.1 < n := fun h => by rw [e] at h; exact bs_lt_irrefl _ h
   simp [e, bs_lt_irrefl]
  ·rw [if_neg e]
   by_cases hlt : q.1 < n
   ·rw [if_pos hlt]
    have := there_of (n := n) h2
    simpa [thereF] using this
   ·rw [if_neg hlt]
    have hnq : n < q.1 := by
     rcases bs_tri q.1 n with h | h | h
     ·exact absurd h hlt
     ·exact absurd h e
     ·exact h
    have : findF n r = none := findF_low (fun y hy => bs_lt_trans hnq (h1 y hy))
    simp [this, e]
theorem putF_place {n : Bs} (x : α) : ∀ {l : List (Bs × α)}, Rising l -> putF n x l = l.take (posF n l) ++ (n, x) :: l.drop (if thereF n l = true then posF n l + 1 else posF n l)
 | [], _ => by simp [putF, posF]
 | q :: r, hr => by
  obtain ⟨h1, h2⟩ := List.pairwise_cons.1 hr; by_cases e : q.1 = n
  ·have hl : ¬ q.1 < n := fun h => by rw [e] at h; exact bs_lt_irrefl _ h
   simp [putF, posF, thereF, findF, e, bs_lt_irrefl]
  ·by_cases hlt : q.1 < n
   ·have ht : thereF n (q :: r) = thereF n r := by simp [thereF, findF, e]
    rw [ht]; unfold putF posF; rw [if_neg e, if_pos hlt, if_pos hlt, putF_place x h2]; split <;> simp
   ·have hnq : n < q.1 := by
     rcases bs_tri q.1 n with h | h | h
     ·exact absurd h hlt
     ·exact absurd h e
     ·exact h
    have hf : findF n r = none := findF_low (fun y hy => bs_lt_trans hnq (h1 y hy))
    simp [putF, posF, thereF, findF, e, hlt, hf]
theorem delF_place {n : Bs} : ∀ {l : List (Bs × α)}, Rising l -> thereF n l = true -> delF n l = l.take (posF n l) ++ l.drop (posF n l + 1)
 | [], _, h => by simp [thereF, findF] at h
 | q :: r, hr, h => by
  obtain ⟨h1, h2⟩ := List.pairwise_cons.1 hr; by_cases e : q.1 = n
  ·simp [delF, posF, e, bs_lt_irrefl]
  ·by_cases hlt : q.1 < n
   ·have ht : thereF n r = true := by simpa [thereF, findF, e] using h
    unfold delF posF; rw [if_neg e, if_pos hlt, delF_place h2 ht]; simp
   ·have hnq : n < q.1 := by
     rcases bs_tri q.1 n with h | h | h
     ·exact absurd h hlt
     ·exact absurd h e
     ·exact h
    have hf : findF n r = none := findF_low (fun y hy => bs_lt_trans hnq (h1 y hy))
    simp [thereF, findF, e, hf] at h
theorem find_place {n : Bs} : ∀ {l : List (Bs × α)} {x : α}, Rising l -> findF n l = some x -> l[posF n l]? = some (n, x)
 | [], x, _, h => by cases h
 | q :: r, x, hr, h => by
  obtain ⟨h1, h2⟩ := List.pairwise_cons.1 hr; by_cases e : q.1 = n
  ·simp only [findF, if_pos e] at h
   cases h
   simp only [posF, e, bs_lt_irrefl, if_false]; simp [<- e]
  ·simp only [findF, if_neg e] at h
   have := h1 _ (findF_mem h)
   simp only at this
   simp only [posF, if_pos this]; simpa using find_place h2 h
theorem del_gone {n : Bs} : ∀ {l : List (Bs × α)}, findF n l = none -> delF n l = l
 | [], _ => rfl
 | p :: r, h => by
  unfold findF at h; split at h
  ·cases h
  ·rename_i e
   simp only [delF, if_neg e, del_gone h]
end
/-! ### What files cost -/
def costF (n b : Bs) : Nat := 16 + n.length + b.length
def costs : Files -> Nat
 | [] => 0
 | p :: r => costF p.1 p.2 + costs r
theorem costs_put_new {n b : Bs} : ∀ {l : Files}, findF n l = none -> costs (putF n b l) = costs l + costF n b
 | [], _ => by simp [putF, costs]
 | p :: r, h => by
  unfold findF at h; split at h
  ·cases h
  ·rename_i e
   unfold putF; rw [if_neg e]; split
   ·simp only [costs, costs_put_new h]; omega
   ·simp only [costs]; omega
theorem costs_put_old {n b c : Bs} : ∀ {l : Files}, Rising l -> findF n l = some c -> costs (putF n b l) + c.length = costs l + b.length
 | [], _, h => by cases h
 | p :: r, hr, h => by
  obtain ⟨h1, h2⟩ := List.pairwise_cons.1 hr; unfold findF at h; split at h
  ·rename_i e
   cases h
   unfold putF; rw [if_pos e]; simp only [costs, costF, e]; omega
  ·rename_i e
   have := h1 _ (findF_mem h)
   simp only at this
   simp only [putF, if_neg e, if_pos this, costs]; have := costs_put_old (b := b) h2 h
   omega
theorem costs_del {n c : Bs} : ∀ {l : Files}, findF n l = some c -> costs (delF n l) + costF n c = costs l
 | [], h => by cases h
 | p :: r, h => by
  unfold findF at h; split at h
  ·rename_i e
   cases h
   unfold delF; rw [if_pos e]; simp only [costs, e]; omega
  ·rename_i e
   simp only [delF, if_neg e, costs]; have := costs_del h
   omega
theorem costs_mem {n c : Bs} : ∀ {l : Files}, (n, c) ∈ l -> costF n c <= costs l
 | [], h => by cases h
 | p :: r, h => by
  rcases List.mem_cons.1 h with rfl | h
  ·simp only [costs]; omega
  ·have := costs_mem h
   simp only [costs]; omega
theorem costs_length : ∀ (l : Files), 16 * l.length <= costs l
 | [] => Nat.le_refl _
 | p :: r => by
  have := costs_length r
  simp only [costs, costF, List.length_cons]; omega
theorem costs_append : ∀ (a b : Files), costs (a ++ b) = costs a + costs b
 | [], b => by simp [costs]
 | p :: r, b => by
  have := costs_append r b
  simp only [List.cons_append, costs, this]; omega
end
section
def named (s : Bs) : Bool := decide (1 <= s.length) && decide (s.length <= 200) && s.all (fun x => x != 0)
structure St where
 fs : Files
 cap : Nat
 done : Nat
 left : Int
 dark : Bool
def St.free (S : St) : Int := (S.cap : Int) - (costs S.fs : Int)
structure Good (S : St) : Prop where
 rise : Rising S.fs
 cost : costs S.fs <= S.cap
 top : S.cap <= 1099511627776
 low : -1 <= S.left
 high : S.left <= 9223372036854775807
def newS (cap : Nat) : St := ⟨[], cap, 0, -1, false⟩
theorem good_new {cap : Nat} (h : cap <= 1099511627776) : Good (newS cap) := ⟨Rising.nil, Nat.zero_le _, h, by show (-1 : Int) <= -1; omega, by show (-1 : Int) <= _; omega⟩
def cutNow (S : St) : St := { S with left := -1, dark := true }
def tick (S : St) : St := { S with left := if S.left = -1 then -1 else S.left - 1, done := S.done + 1 }
def writeS (S : St) (fs : Files) : Int × St := if S.left = 0 then (5, cutNow S) else (0, { tick S with fs := fs })
def moreS (S : St) (n b : Bs) : Int := match findF n S.fs with | some _ => (b.length : Int) | none => ((costF n b : Nat) : Int)
def readyS (S : St) (n : Bs) : Int := if named n = false then 1 else if S.dark = true then 5 else 0
def touchS (S : St) (n : Bs) : Int := if named n = false then 1 else if S.dark = true then 5 else if findF n S.fs = none then 3 else 0
def appendS (S : St) (n b : Bs) : Int × St :=
 if 64 < b.length then (1, S) else if readyS S n ≠ 0 then (readyS S n, S) else if S.free < moreS S n b then (4, S) else writeS S (putF n ((findF n S.fs).getD [] ++ b) S.fs)
def removeS (S : St) (n : Bs) : Int × St := if touchS S n ≠ 0 then (touchS S n, S) else writeS S (delF n S.fs)
def renamed (S : St) (f t : Bs) : Files := putF t ((findF f S.fs).getD []) (delF f S.fs)
def renameS (S : St) (f t : Bs) : Int × St :=
 if named t = false then (1, S) else if touchS S f ≠ 0 then (touchS S f, S) else if findF t S.fs = none /\ S.free < (t.length : Int) - (f.length : Int) then (4, S) else writeS S (renamed S f t)
def syncS (S : St) (n : Bs) : Int × St := if touchS S n ≠ 0 then (touchS S n, S) else writeS S S.fs
def readS (S : St) (n : Bs) : Int × Bs := if named n = false then (1, []) else match findF n S.fs with | none => (3, []) | some b => (0, b)
def cutS (S : St) (z : Int) : Int × St := if z < 0 then (1, S) else (0, if S.dark = true then S else { S with left := z })
def onS (S : St) : St := { S with left := -1, dark := false }
theorem Good.cutNow {S : St} (h : Good S) : Good (cutNow S) := ⟨h.rise, h.cost, h.top, by show (-1 : Int) <= -1; omega, by show (-1 : Int) <= _; omega⟩
theorem Good.on {S : St} (h : Good S) : Good (onS S) := ⟨h.rise, h.cost, h.top, by show (-1 : Int) <= -1; omega, by show (-1 : Int) <= _; omega⟩
theorem Good.cut {S : St} (h : Good S) {z : Int} (hz : z <= 9223372036854775807) : Good (cutS S z).2 := by
 unfold cutS; split
 ·exact h
 ·split
  ·exact h
  ·exact ⟨h.rise, h.cost, h.top, by show (-1 : Int) <= z; omega, hz⟩
theorem Good.write {S : St} (h : Good S) {fs : Files} (hr : Rising fs) (hc : costs fs <= S.cap) : Good (writeS S fs).2 := by
 have h1 := h.low; have h2 := h.high; unfold writeS; split
 ·exact h.cutNow
 ·refine ⟨hr, hc, h.top, ?_, ?_⟩
  ·show (-1 : Int) <= if S.left = -1 then -1 else S.left - 1
   split <;> omega
  ·show (if S.left = -1 then -1 else S.left - 1) <= (9223372036854775807 : Int)
   split <;> omega
theorem Good.append {S : St} (h : Good S) (n b : Bs) : Good (appendS S n b).2 := by
 have hc := h.cost; unfold appendS; split
 ·exact h
 ·split
  ·exact h
  ·split
   ·exact h
   ·rename_i hm
    refine h.write h.rise.put ?_; unfold moreS St.free at hm
    cases hf : findF n S.fs with
    | none =>
     rw [hf] at hm; simp only [Option.getD_none, List.nil_append]; rw [costs_put_new hf]; simp only at hm
     omega
    | some c =>
     rw [hf] at hm; simp only [Option.getD_some]; have := costs_put_old (b := c ++ b) h.rise hf
     rw [List.length_append] at this; simp only at hm
     omega
theorem touch_there {S : St} {n : Bs} (h : touchS S n = 0) : named n = true /\ S.dark = false /\ ∃ b, findF n S.fs = some b := by
 unfold touchS at h; split at h
 ·omega
 ·rename_i h1
  split at h
  ·omega
  ·rename_i h2
   split at h
   ·omega
   ·rename_i h3
    refine ⟨by simpa using h1, by simpa using h2, ?_⟩
    cases hf : findF n S.fs with
    | none => exact absurd hf h3
    | some b => exact ⟨b, rfl⟩
theorem Good.remove {S : St} (h : Good S) (n : Bs) : Good (removeS S n).2 := by
 have hc := h.cost; unfold removeS; split
 ·exact h
 ·rename_i ht
  have ht : touchS S n = 0 := Classical.not_not.1 ht
  obtain ⟨_, _, b, hb⟩ := touch_there ht; have := costs_del hb
  exact h.write h.rise.del (by omega)
theorem costs_renamed {S : St} (h : Good S) {f t b : Bs} (hf : findF f S.fs = some b) :
  (f = t /\ renamed S f t = S.fs) \/ (f ≠ t /\ findF t S.fs = none /\ costs (renamed S f t) + f.length = costs S.fs + t.length) \/ (f ≠ t /\ ∃ c, findF t S.fs = some c /\ costs (renamed S f t) + f.length + costF t c = costs S.fs + t.length) := by
 have hd := costs_del hf; unfold renamed; rw [hf, Option.getD_some]; by_cases e : f = t
 ·refine .inl ⟨e, ?_⟩
  subst e; refine rising_ext h.rise.del.put h.rise fun n => ?_
  by_cases hn : n = f
  ·rw [hn, findF_put_same, hf]
  ·rw [findF_put_other _ hn, findF_del_other hn]
 ·have h1 : findF t (delF f S.fs) = findF t S.fs := findF_del_other (fun k => e k.symm) _
  cases ht : findF t S.fs with
  | none =>
   refine .inr (.inl ⟨e, rfl, ?_⟩); rw [costs_put_new (by rw [h1, ht])]
   simp only [costF] at hd |-; omega
  | some c =>
   refine .inr (.inr ⟨e, c, rfl, ?_⟩); have := costs_put_old (b := b) h.rise.del (by rw [h1, ht])
   simp only [costF] at hd |-; omega
theorem Rising.renamed {S : St} (h : Rising S.fs) (f t : Bs) : Rising (renamed S f t) := h.del.put
theorem Good.rename {S : St} (h : Good S) (f t : Bs) : Good (renameS S f t).2 := by
 have hc := h.cost; unfold renameS; split
 ·exact h
 ·split
  ·exact h
  ·rename_i ht
   have ht : touchS S f = 0 := Classical.not_not.1 ht
   obtain ⟨_, _, b, hb⟩ := touch_there ht; split
   ·exact h
   ·rename_i hq
    refine h.write (h.rise.renamed f t) ?_; rcases costs_renamed (t := t) h hb with ⟨_, e⟩ | ⟨_, e1, e2⟩ | ⟨_, c, e1, e2⟩
    ·rw [e]; exact hc
    ·have : ¬ S.free < (t.length : Int) - (f.length : Int) := fun k => hq ⟨e1, k⟩
     unfold St.free at this; omega
    ·simp only [costF] at e2
     omega
theorem Good.sync {S : St} (h : Good S) (n : Bs) : Good (syncS S n).2 := by
 unfold syncS; split
 ·exact h
 ·exact h.write h.rise h.cost
/-! ### How many raw writes -/
theorem write_done (S : St) (fs : Files) : (writeS S fs).2.done <= S.done + 1 := by
 unfold writeS; split
 ·show S.done <= _; omega
 ·exact Nat.le_refl _
theorem append_done (S : St) (n b : Bs) : (appendS S n b).2.done <= S.done + 1 := by
 unfold appendS
 repeat' split
 all_goals first | exact write_done _ _ | exact Nat.le_succ _
theorem remove_done (S : St) (n : Bs) : (removeS S n).2.done <= S.done + 1 := by
 unfold removeS; split
 ·exact Nat.le_succ _
 ·exact write_done _ _
theorem rename_done (S : St) (f t : Bs) : (renameS S f t).2.done <= S.done + 1 := by
 unfold renameS
 repeat' split
 all_goals first | exact write_done _ _ | exact Nat.le_succ _
theorem sync_done (S : St) (n : Bs) : (syncS S n).2.done <= S.done + 1 := by
 unfold syncS; split
 ·exact Nat.le_succ _
 ·exact write_done _ _
theorem cut_done (S : St) (z : Int) : (cutS S z).2.done <= S.done := by
 unfold cutS
 repeat' split
 all_goals exact Nat.le_refl _
theorem write_cap (S : St) (fs : Files) : (writeS S fs).2.cap = S.cap := by
 unfold writeS; split <;> rfl
theorem append_cap (S : St) (n b : Bs) : (appendS S n b).2.cap = S.cap := by
 unfold appendS
 repeat' split
 all_goals first | exact write_cap _ _ | rfl
theorem remove_cap (S : St) (n : Bs) : (removeS S n).2.cap = S.cap := by
 unfold removeS; split
 ·rfl
 ·exact write_cap _ _
theorem rename_cap (S : St) (f t : Bs) : (renameS S f t).2.cap = S.cap := by
 unfold renameS
 repeat' split
 all_goals first | exact write_cap _ _ | rfl
theorem sync_cap (S : St) (n : Bs) : (syncS S n).2.cap = S.cap := by
 unfold syncS; split
 ·rfl
 ·exact write_cap _ _
theorem cut_cap (S : St) (z : Int) : (cutS S z).2.cap = S.cap := by
 unfold cutS
 repeat' split
 all_goals rfl
theorem Good.file_le {S : St} (h : Good S) {n b : Bs} (hb : findF n S.fs = some b) : costF n b <= 1099511627776 := by
 have h1 := costs_mem (findF_mem hb); have h2 := h.cost; have h3 := h.top; omega
theorem Good.many {S : St} (h : Good S) : 16 * S.fs.length <= 1099511627776 := by
 have h1 := costs_length S.fs; have h2 := h.cost; have h3 := h.top; omega
end
section
def shadowN (n : Bs) : Bs := n ++ [126]
def marked (n : Bs) : Bool := decide (n.getLast? = some 126)
theorem shadow_length (n : Bs) : (shadowN n).length = n.length + 1 := by simp [shadowN]
def chunksF : Nat -> Bs -> List Bs
 | 0, b => [b]
 | k + 1, b => if 64 < b.length then b.take 64 :: chunksF k (b.drop 64) else [b]
def chunksL (b : Bs) : List Bs := chunksF b.length b
theorem chunksF_fuel : ∀ (k j : Nat) (b : Bs), b.length <= k -> b.length <= j -> chunksF k b = chunksF j b
 | 0, 0, _, _, _ => rfl
 | 0, j + 1, b, h, _ => by
  have : ¬ 64 < b.length := by omega
  simp [chunksF, this]
 | k + 1, 0, b, _, h => by
  have : ¬ 64 < b.length := by omega
  simp [chunksF, this]
 | k + 1, j + 1, b, h, h' => by
  unfold chunksF; split
  ·rw [chunksF_fuel k j (b.drop 64) (by simp; omega) (by simp; omega)]
  ·rfl
theorem chunks_long {b : Bs} (h : 64 < b.length) : chunksL b = b.take 64 :: chunksL (b.drop 64) := by
 unfold chunksL; obtain ⟨k, hk⟩ : ∃ k, b.length = k + 1 := ⟨b.length - 1, by omega⟩
 rw [hk]; conv => lhs; unfold chunksF
 rw [if_pos h, chunksF_fuel k (b.drop 64).length _ (by simp; omega) (Nat.le_refl _)]
theorem chunks_short {b : Bs} (h : b.length <= 64) : chunksL b = [b] := by
 unfold chunksL
 cases hk : b.length with
 | zero => rfl
 | succ k =>
  unfold chunksF; rw [if_neg (by omega)]
theorem chunks_all : ∀ (k : Nat) (b : Bs), b.length <= k -> (∀ c ∈ chunksL b, c.length <= 64) /\ (chunksL b).flatten = b /\ chunksL b ≠ [] /\ (chunksL b).length = if b.length <= 64 then 1 else (b.length + 63) / 64
 | k, b, h => by
  by_cases hb : 64 < b.length
  ·obtain ⟨j, rfl⟩ : ∃ j, k = j + 1 := ⟨k - 1, by omega⟩
   obtain ⟨h1, h2, h3, h4⟩ := chunks_all j (b.drop 64) (by simp; omega)
   rw [chunks_long hb]; refine ⟨fun c hc => ?_, ?_, by simp, ?_⟩
   ·rcases List.mem_cons.1 hc with rfl | hc
    ·simp; omega
    ·exact h1 c hc
   ·rw [List.flatten_cons, h2, List.take_append_drop]
   ·rw [List.length_cons, h4, if_neg (show ¬ b.length <= 64 by omega), List.length_drop]
    split <;> omega
  ·rw [chunks_short (by omega), if_pos (by omega)]
   exact ⟨fun c hc => by simp at hc; subst hc; omega, by simp, by simp, rfl⟩
theorem chunks_le64 (b : Bs) : ∀ c ∈ chunksL b, c.length <= 64 := (chunks_all _ b (Nat.le_refl _)).1
theorem chunks_flat (b : Bs) : (chunksL b).flatten = b := (chunks_all _ b (Nat.le_refl _)).2.1
theorem chunks_ne (b : Bs) : chunksL b ≠ [] := (chunks_all _ b (Nat.le_refl _)).2.2.1
theorem chunks_count (b : Bs) : (chunksL b).length = if b.length <= 64 then 1 else (b.length + 63) / 64 := (chunks_all _ b (Nat.le_refl _)).2.2.2
def appendsS (n : Bs) : St -> List Bs -> Int × St
 | S, [] => (0, S)
 | S, c :: r => if (appendS S n c).1 ≠ 0 then appendS S n c else appendsS n (appendS S n c).2 r
theorem appends_one (n : Bs) (c : Bs) : ∀ (L : List Bs) (S : St), appendsS n S (L ++ [c]) = if (appendsS n S L).1 ≠ 0 then appendsS n S L else appendS (appendsS n S L).2 n c
 | [], S => by
  simp only [List.nil_append, appendsS]; by_cases h : (appendS S n c).1 = 0
  ·simp only [h, ne_eq, not_true_eq_false, if_false]
   rw [<- h]
  ·simp [h]
 | d :: r, S => by
  simp only [List.cons_append, appendsS]; by_cases h : (appendS S n d).1 = 0
  ·simp only [h, ne_eq, not_true_eq_false, if_false]
   exact appends_one n c r _
  ·simp [h]
theorem appends_stop (n : Bs) : ∀ (L M : List Bs) (S : St), (appendsS n S L).1 ≠ 0 -> appendsS n S (L ++ M) = appendsS n S L
 | [], M, S, h => absurd rfl h
 | d :: r, M, S, h => by
  simp only [List.cons_append, appendsS] at h |-; by_cases h1 : (appendS S n d).1 = 0
  ·simp only [h1, ne_eq, not_true_eq_false, if_false] at h |-
   exact appends_stop n r M _ h
  ·simp [h1]
theorem Good.appends {n : Bs} : ∀ {L : List Bs} {S : St}, Good S -> Good (appendsS n S L).2
 | [], _, h => h
 | c :: r, S, h => by
  unfold appendsS; split
  ·exact h.append n c
  ·exact (h.append n c).appends
theorem appends_done (n : Bs) : ∀ (L : List Bs) (S : St), (appendsS n S L).2.done <= S.done + L.length
 | [], _ => Nat.le_refl _
 | c :: r, S => by
  have h1 := append_done S n c; unfold appendsS; split
  ·simp only [List.length_cons]; omega
  ·have := appends_done n r (appendS S n c).2
   simp only [List.length_cons]; omega
theorem appends_cap (n : Bs) : ∀ (L : List Bs) (S : St), (appendsS n S L).2.cap = S.cap
 | [], _ => rfl
 | c :: r, S => by
  unfold appendsS; split
  ·exact append_cap _ _ _
  ·rw [appends_cap n r, append_cap]
def layS (n b : Bs) (S : St) : Int × St := if (appendsS n S (chunksL b)).1 ≠ 0 then appendsS n S (chunksL b) else syncS (appendsS n S (chunksL b)).2 n
def needS (n : Bs) (k : Nat) : Int := 17 + (n.length : Int) + (k : Int)
def saveT (n b : Bs) (T : St) : Int × St :=
 if T.free < needS n b.length then (4, T) else if (layS (shadowN n) b T).1 ≠ 0 then layS (shadowN n) b T else renameS (layS (shadowN n) b T).2 (shadowN n) n
def saveS (S : St) (n b : Bs) : Int × St :=
 if n = [] \/ marked n = true then (1, S) else
  if (removeS S (shadowN n)).1 ≠ 0 /\ (removeS S (shadowN n)).1 ≠ 3 then removeS S (shadowN n) else saveT n b (removeS S (shadowN n)).2
def namesF (fs : Files) : List Bs := fs.map (·.1)
/-! ### What holds behind them -/
theorem Good.lay {n b : Bs} {S : St} (h : Good S) : Good (layS n b S).2 := by
 unfold layS; split
 ·exact h.appends
 ·exact h.appends.sync n
theorem Good.saveT {n b : Bs} {S : St} (h : Good S) : Good (saveT n b S).2 := by
 unfold Go.Proofs.YtomgijcbekjlaaaGreat.saveT; split
 ·exact h
 ·split
  ·exact h.lay
  ·exact h.lay.rename _ _
theorem Good.save {n b : Bs} {S : St} (h : Good S) : Good (saveS S n b).2 := by
 unfold saveS; split
 ·exact h
 ·split
  ·exact h.remove _
  ·exact (h.remove _).saveT
theorem lay_cap (n b : Bs) (S : St) : (layS n b S).2.cap = S.cap := by
 unfold layS; split
 ·exact appends_cap _ _ _
 ·rw [sync_cap, appends_cap]
theorem saveT_cap (n b : Bs) (S : St) : (saveT n b S).2.cap = S.cap := by
 unfold saveT
 repeat' split
 ·rfl
 ·exact lay_cap _ _ _
 ·rw [rename_cap, lay_cap]
theorem save_cap (n b : Bs) (S : St) : (saveS S n b).2.cap = S.cap := by
 unfold saveS
 repeat' split
 ·rfl
 ·exact remove_cap _ _
 ·rw [saveT_cap, remove_cap]
theorem lay_done (n b : Bs) (S : St) : (layS n b S).2.done <= S.done + (chunksL b).length + 1 := by
 have h1 := appends_done n (chunksL b) S; unfold layS; split
 ·omega
 ·have := sync_done (appendsS n S (chunksL b)).2 n; omega
theorem chunks_few (b : Bs) : (chunksL b).length <= b.length / 64 + 1 := by
 rw [chunks_count]; split <;> omega
theorem saveT_done {n b : Bs} {S : St} : (saveT n b S).2.done <= S.done + S.cap + 3 := by
 have h1 := chunks_few b; unfold saveT; split
 ·show S.done <= _; omega
 ·rename_i hf
  have hb : b.length <= S.cap := by unfold St.free needS at hf; omega
  have h2 := lay_done (shadowN n) b S; split
  ·omega
  ·have := rename_done (layS (shadowN n) b S).2 (shadowN n) n; omega
theorem save_done {n b : Bs} {S : St} : (saveS S n b).2.done <= S.done + S.cap + 4 := by
 have h1 := remove_done S (shadowN n); unfold saveS
 repeat' split
 ·show S.done <= _; omega
 ·omega
 ·have := @saveT_done n b (removeS S (shadowN n)).2
  rw [remove_cap] at this; omega
theorem tick_left {S : St} (h : S.left = -1) : (tick S).left = -1 := by simp [tick, h]
theorem put_put {n a b : Bs} {fs : Files} (hr : Rising fs) : putF n a (putF n b fs) = putF n a fs := by
 refine rising_ext hr.put.put hr.put fun m => ?_
 by_cases e : m = n
 ·rw [e, findF_put_same, findF_put_same]
 ·rw [findF_put_other _ e, findF_put_other _ e, findF_put_other _ e]
structure Laid (n : Bs) (T : St) (L : List Bs) (r : Int × St) : Prop where
 err : r.1 = 0
 dark : r.2.dark = false
 done : r.2.done = T.done + L.length
 left : T.left = -1 -> r.2.left = -1
 fs : r.2.fs = if L = [] then T.fs else putF n ((findF n T.fs).getD [] ++ L.flatten) T.fs
structure Gone (n : Bs) (T : St) (r : Int × St) : Prop where
 err : r.1 = 5
 dark : r.2.dark = true
 left : T.left ≠ -1
 other : ∀ m, m ≠ n -> findF m r.2.fs = findF m T.fs
theorem append_fits {S : St} {n c : Bs} (hn : named n = true) (hd : S.dark = false) (hc : c.length <= 64) (hm : moreS S n c <= S.free) : appendS S n c = writeS S (putF n ((findF n S.fs).getD [] ++ c) S.fs) := by
 have hr : readyS S n = 0 := by unfold readyS; rw [if_neg (by simp [hn]), if_neg (by simp [hd])]
 unfold appendS; rw [if_neg (by omega), if_neg (by omega), if_neg (by omega)]
theorem appends_says {n : Bs} (hn : named n = true) : ∀ (L : List Bs) (T : St), Good T -> T.dark = false -> (∀ c ∈ L, c.length <= 64) -> moreS T n L.flatten <= T.free \/ L = [] -> Laid n T L (appendsS n T L) \/ Gone n T (appendsS n T L)
 | [], T, _, hd, _, _ => .inl ⟨rfl, hd, rfl, fun h => h, rfl⟩
 | c :: r, T, hg, hd, h64, hm => by
  have hm : moreS T n (c ++ r.flatten) <= T.free := by
   rcases hm with hm | hm
   ·exact hm
   ·cases hm
  have hmc : moreS T n (c ++ r.flatten) = moreS T n c + (r.flatten.length : Int) := by
   unfold moreS costF
   cases findF n T.fs with
   | none => simp only [List.length_append]; omega
   | some _ => simp only [List.length_append]; omega
  have hap := append_fits hn hd (h64 c (by simp)) (by omega)
  unfold appendsS; rw [hap]; by_cases h0 : T.left = 0
  ·have e : writeS T (putF n ((findF n T.fs).getD [] ++ c) T.fs) = (5, cutNow T) := by unfold writeS; rw [if_pos h0]
   rw [e, if_pos (by simp)]
   exact .inr ⟨rfl, rfl, by omega, fun _ _ => rfl⟩
  ·have e : writeS T (putF n ((findF n T.fs).getD [] ++ c) T.fs) = (0, { tick T with fs := putF n ((findF n T.fs).getD [] ++ c) T.fs }) := by unfold writeS; rw [if_neg h0]
   rw [e, if_neg (by simp)]
   obtain ⟨T1, hT1⟩ : ∃ T1 : St, T1 = { tick T with fs := putF n ((findF n T.fs).getD [] ++ c) T.fs } := ⟨_, rfl⟩
   have hg1 : Good T1 := by
    have := hg.append n c
    rw [hap, e] at this; rw [hT1]; exact this
   have hfs : T1.fs = putF n ((findF n T.fs).getD [] ++ c) T.fs := by rw [hT1]
   have hf1 : findF n T1.fs = some ((findF n T.fs).getD [] ++ c) := by rw [hfs, findF_put_same]
   have hfree : T1.free = T.free - moreS T n c := by
    unfold St.free moreS; rw [hfs]; have hcap : T1.cap = T.cap := by rw [hT1]; rfl
    rw [hcap]
    cases hff : findF n T.fs with
    | none =>
     simp only [Option.getD_none, List.nil_append]; rw [costs_put_new hff]; omega
    | some o =>
     simp only [Option.getD_some]; have := costs_put_old (b := o ++ c) hg.rise hff
     rw [List.length_append] at this; omega
   have hm1 : moreS T1 n r.flatten <= T1.free := by
    have : moreS T1 n r.flatten = (r.flatten.length : Int) := by unfold moreS; rw [hf1]
    omega
   have hd1 : T1.dark = false := by rw [hT1]; exact hd
   have hl1 : T.left = -1 -> T1.left = -1 := fun h => by rw [hT1]; exact tick_left h
   have hdn : T1.done = T.done + 1 := by rw [hT1]; rfl
   rw [<- hT1]; rcases appends_says hn r T1 hg1 hd1 (fun c hc => h64 c (List.mem_cons_of_mem _ hc)) (.inl hm1) with k | k
   ·refine .inl ⟨k.err, k.dark, by rw [k.done, hdn, List.length_cons]; omega, fun h => k.left (hl1 h), ?_⟩
    rw [k.fs, if_neg (show ¬ c :: r = [] by simp)]
    split
    ·rename_i hr
     rw [hfs, hr]; simp
    ·rw [hf1, Option.getD_some, hfs, put_put hg.rise, List.flatten_cons, List.append_assoc]
   ·refine .inr ⟨k.err, k.dark, fun h => k.left (hl1 h), fun m hm => ?_⟩
    rw [k.other m hm, hfs, findF_put_other _ hm]
theorem touch_is {S : St} {n b : Bs} (hn : named n = true) (hd : S.dark = false) (hf : findF n S.fs = some b) : touchS S n = 0 := by
 unfold touchS; rw [if_neg (by simp [hn]), if_neg (by simp [hd]), if_neg (by simp [hf])]
theorem touch_no {S : St} {n : Bs} (hn : named n = true) (hd : S.dark = false) (hf : findF n S.fs = none) : touchS S n = 3 := by
 unfold touchS; rw [if_neg (by simp [hn]), if_neg (by simp [hd]), if_pos hf]
theorem lay_says {n b : Bs} {T : St} (hn : named n = true) (hg : Good T) (hd : T.dark = false) (hm : moreS T n b <= T.free) (hf : findF n T.fs = none) :
  (((layS n b T).1 = 0 /\ (layS n b T).2.dark = false /\ (layS n b T).2.done = T.done + (chunksL b).length + 1 /\ (T.left = -1 -> (layS n b T).2.left = -1) /\ (layS n b T).2.fs = putF n b T.fs)) \/ Gone n T (layS n b T) := by
 have hlaid := appends_says hn (chunksL b) T hg hd (chunks_le64 b) (.inl (by rw [chunks_flat]; exact hm))
 unfold layS; rcases hlaid with k | k
 ·rw [if_neg (by simp [k.err])]
  have kfs := k.fs; rw [if_neg (chunks_ne b), chunks_flat, hf, Option.getD_none, List.nil_append] at kfs; obtain ⟨U, hU⟩ := nm_ ((appendsS n T (chunksL b)).2); have kd := k.dark; have kdn := k.done; have kl := k.left; rw [<- hU] at kfs kd kdn kl |-; have ht : touchS U n = 0 := touch_is hn kd (b := b) (by rw [kfs, findF_put_same])
  unfold syncS; rw [if_neg (by simp [ht])]
  unfold writeS; by_cases h0 : U.left = 0
  ·rw [if_pos h0]
   exact .inr ⟨rfl, rfl, fun h => by have := kl h; omega, fun m hm => by show findF m U.fs = _; rw [kfs, findF_put_other _ hm]⟩
  ·rw [if_neg h0]
   exact .inl ⟨rfl, kd, by show U.done + 1 = _; rw [kdn], fun h => tick_left (kl h), kfs⟩
 ·rw [if_pos (by rw [k.err]; decide)]
  exact .inr k
theorem saveT_says {n b : Bs} {T : St} (hn : named (shadowN n) = true) (hn' : named n = true) (hg : Good T) (hd : T.dark = false) (hf : findF (shadowN n) T.fs = none) :
  ((saveT n b T).1 = 0 /\ needS n b.length <= T.free /\ (saveT n b T).2.dark = false /\ (saveT n b T).2.done = T.done + (chunksL b).length + 2 /\ (T.left = -1 -> (saveT n b T).2.left = -1) /\ (saveT n b T).2.fs = putF n b T.fs) \/
  (saveT n b T = (4, T) /\ T.free < needS n b.length) \/ Gone (shadowN n) T (saveT n b T) := by
 unfold saveT; by_cases h4 : T.free < needS n b.length
 ·rw [if_pos h4]; exact .inr (.inl ⟨rfl, h4⟩)
 ·rw [if_neg h4]
  have hm : moreS T (shadowN n) b <= T.free := by
   unfold moreS costF; rw [hf, shadow_length]; unfold needS at h4; simp only
   omega
  rcases lay_says hn hg hd hm hf with ⟨k1, k2, k3, k4, k5⟩ | k
  ·rw [if_neg (by simp [k1])]
   obtain ⟨U, hU⟩ := nm_ ((layS (shadowN n) b T).2); have hgU : Good U := by rw [hU]; exact hg.lay
   rw [<- hU] at k2 k3 k4 k5 |-; have hfU : findF (shadowN n) U.fs = some b := by rw [k5, findF_put_same]
   have ht : touchS U (shadowN n) = 0 := touch_is hn k2 hfU
   have hfr := hgU.cost; unfold renameS; rw [if_neg (by simp [hn']), if_neg (by simp [ht]), if_neg (by rw [shadow_length]; unfold St.free; intro h; omega)]
   have hren : renamed U (shadowN n) n = putF n b T.fs := by
    unfold renamed; rw [hfU, Option.getD_some]; refine rising_ext hgU.rise.del.put hg.rise.put fun m => ?_
    by_cases e : m = n
    ·rw [e, findF_put_same, findF_put_same]
    ·rw [findF_put_other _ e, findF_put_other _ e]
     by_cases e2 : m = shadowN n
     ·rw [e2, findF_del_same hgU.rise, hf]
     ·rw [findF_del_other e2, k5, findF_put_other _ e2]
   rw [hren]; unfold writeS; by_cases h0 : U.left = 0
   ·rw [if_pos h0]
    exact .inr (.inr ⟨rfl, rfl, fun h => by have := k4 h; omega, fun m hm => by show findF m U.fs = _; rw [k5, findF_put_other _ hm]⟩)
   ·rw [if_neg h0]
    exact .inl ⟨rfl, by omega, k2, by show U.done + 1 = _; rw [k3], fun h => tick_left (k4 h), rfl⟩
  ·rw [if_pos (by rw [k.err]; decide)]
   exact .inr (.inr k)
theorem save_says {n b : Bs} {S : St} (hn : named (shadowN n) = true) (hn' : named n = true) (hk : marked n = false) (hg : Good S) (hd : S.dark = false) :
  ((saveS S n b).1 = 0 /\ needS n b.length <= St.free { S with fs := delF (shadowN n) S.fs } /\ (saveS S n b).2.dark = false /\ (saveS S n b).2.done = S.done + (if thereF (shadowN n) S.fs = true then 1 else 0) + (chunksL b).length + 2 /\ (S.left = -1 -> (saveS S n b).2.left = -1) /\ (saveS S n b).2.fs = putF n b (delF (shadowN n) S.fs)) \/
  ((saveS S n b).1 = 4 /\ St.free { S with fs := delF (shadowN n) S.fs } < needS n b.length /\ (saveS S n b).2.dark = false /\ (S.left = -1 -> (saveS S n b).2.left = -1) /\ (saveS S n b).2.fs = delF (shadowN n) S.fs) \/ Gone (shadowN n) S (saveS S n b) := by
 have hne : n ≠ [] := fun h => by subst h; simp [named] at hn'
 unfold saveS; rw [if_neg (by simp [hne, hk])]
 cases hf : findF (shadowN n) S.fs with
 | none =>
  have ht := touch_no hn hd hf; have hr : removeS S (shadowN n) = (3, S) := by unfold removeS; rw [ht, if_pos (by decide)]
  have hdel : delF (shadowN n) S.fs = S.fs := del_gone hf
  have hth : thereF (shadowN n) S.fs = false := by simp [thereF, hf]
  rw [hr, if_neg (by simp), hdel, hth]
  rcases saveT_says (b := b) hn hn' hg hd hf with ⟨k1, k2, k3, k4, k5, k6⟩ | ⟨k1, k2⟩ | k
  ·exact .inl ⟨k1, k2, k3, by rw [k4]; simp, k5, k6⟩
  ·rw [k1]
   exact .inr (.inl ⟨rfl, k2, hd, fun h => h, rfl⟩)
  ·exact .inr (.inr k)
 | some o =>
  have ht := touch_is hn hd hf; have hth : thereF (shadowN n) S.fs = true := by simp [thereF, hf]
  by_cases h0 : S.left = 0
  ·have hr : removeS S (shadowN n) = (5, cutNow S) := by unfold removeS writeS; rw [if_neg (by simp [ht]), if_pos h0]
   rw [hr, if_pos (by simp)]
   exact .inr (.inr ⟨rfl, rfl, by omega, fun _ _ => rfl⟩)
  ·have hr : removeS S (shadowN n) = (0, { tick S with fs := delF (shadowN n) S.fs }) := by unfold removeS writeS; rw [if_neg (by simp [ht]), if_neg h0]
   have hg1 := hg.remove (shadowN n); rw [hr] at hg1; rw [hr, if_neg (by simp), hth]
   obtain ⟨T, hT⟩ : ∃ T : St, T = { tick S with fs := delF (shadowN n) S.fs } := ⟨_, rfl⟩
   have e1 : T.fs = delF (shadowN n) S.fs := by rw [hT]
   have e2 : T.done = S.done + 1 := by rw [hT]; rfl
   have e3 : S.left = -1 -> T.left = -1 := fun h => by rw [hT]; exact tick_left h
   have e4 : T.free = St.free { S with fs := delF (shadowN n) S.fs } := by rw [hT]; rfl
   have e5 : T.dark = false := by rw [hT]; exact hd
   have e6 : findF (shadowN n) T.fs = none := by rw [e1, findF_del_same hg.rise]
   simp only
   simp only at hg1
   rw [<- hT] at hg1 |-; rw [<- e4, <- e1]; rcases saveT_says (b := b) hn hn' hg1 e5 e6 with ⟨k1, k2, k3, k4, k5, k6⟩ | ⟨k1, k2⟩ | k
   ·exact .inl ⟨k1, k2, k3, by rw [k4, e2]; simp only [if_true], fun h => k5 (e3 h), k6⟩
   ·rw [k1]
    exact .inr (.inl ⟨rfl, k2, e5, e3, rfl⟩)
   ·refine .inr (.inr ⟨k.err, k.dark, fun h => k.left (e3 h), fun m hm => ?_⟩)
    rw [k.other m hm, e1, findF_del_other hm]
theorem save_bad {n b : Bs} {S : St} (h : named (shadowN n) = false \/ n = [] \/ marked n = true) : saveS S n b = (1, S) := by
 unfold saveS; by_cases h1 : n = [] \/ marked n = true
 ·rw [if_pos h1]
 ·rw [if_neg h1]
  have h2 : named (shadowN n) = false := by
   rcases h with h | h | h
   ·exact h
   ·exact absurd (.inl h) h1
   ·exact absurd (.inr h) h1
  have hr : removeS S (shadowN n) = (1, S) := by unfold removeS touchS; rw [if_pos h2, if_pos (by decide)]
  rw [hr, if_pos (by simp)]
theorem save_dark {n b : Bs} {S : St} (hn : named (shadowN n) = true) (hne : n ≠ []) (hk : marked n = false) (hd : S.dark = true) : saveS S n b = (5, S) := by
 unfold saveS; rw [if_neg (by simp [hne, hk])]
 have ht : touchS S (shadowN n) = 5 := by unfold touchS; rw [if_neg (by simp [hn]), if_pos hd]
 have hr : removeS S (shadowN n) = (5, S) := by unfold removeS; rw [ht, if_pos (by decide)]
 rw [hr, if_pos (by simp)]
/-! ### What a Sweep makes -/
def AllNamed (S : St) : Prop := ∀ n b, findF n S.fs = some b -> named n = true
end
section
open Go.RowKit
/-! ### Values -/
def W32 (x : UInt32) : Value := .int .u32 (x.toNat : Int)
def cells32 (l : List UInt32) : Array Value := (l.map W32).toArray
theorem cells32_size (l : List UInt32) : (cells32 l).size = l.length := by simp [cells32]
theorem cells32_at (l : List UInt32) (k : Nat) (h : k < l.length) : (cells32 l)[k]? = some (.int .u32 ((l.getD k 0).toNat : Int)) := by
 simp [cells32, W32, h]
theorem cells32_set (l : List UInt32) (k : Nat) (x : UInt32) : (cells32 l).setIfInBounds k (.int .u32 (x.toNat : Int)) = cells32 (l.set k x) := by
 simp [cells32, List.setIfInBounds_toArray, List.map_set, W32]
theorem cells32_one (l : List UInt32) : (cells32 l).all (·.oneCell') = true := by
 refine Array.all_eq_true_iff_forall_mem.2 fun v hv => ?_
 simp only [cells32, List.mem_toArray, List.mem_map] at hv; obtain ⟨x, _, rfl⟩ := hv; rfl
/-! ### Turning a word -/
def rotl (x : UInt32) (n : Nat) : UInt32 := UInt32.ofNat ((x.toNat * 2 ^ n % 4294967296) ||| (x.toNat / 2 ^ (32 - n)))
theorem rotl_val (x : UInt32) (n : Nat) : bits .or .u32 ((x.toNat : Int) * 2 ^ n % 4294967296) ((x.toNat : Int) / 2 ^ (32 - n)) = ((rotl x n).toNat : Int) := by
 have hx : x.toNat < 4294967296 := x.toNat_lt; have e1 : ((x.toNat : Int) * 2 ^ n % 4294967296) = ((x.toNat * 2 ^ n % 4294967296 : Nat) : Int) := by simp
 have e2 : ((x.toNat : Int) / 2 ^ (32 - n)) = ((x.toNat / 2 ^ (32 - n) : Nat) : Int) := by simp
 have ha : x.toNat * 2 ^ n % 4294967296 < 2 ^ 32 := Nat.mod_lt _ (by decide)
 have hb : x.toNat / 2 ^ (32 - n) < 2 ^ 32 := Nat.lt_of_le_of_lt (Nat.div_le_self _ _) hx; rw [e1, e2, (bits_nat .u32 32 (by decide) (fun n h0 h1 => by rw [IntKind.wrap_u32]; omega) _ _ ha hb).2]
 unfold rotl; rw [UInt32.toNat_ofNat_of_lt' (Nat.or_lt_two_pow ha hb)]
theorem and31 (n : Nat) (h26 : n <= 26) : bits .and .u64 (n : Int) 31 = (n : Int) := by
 have h := (bits_nat .u64 5 (by decide) (fun n h0 h1 => IntWalk.u64_in n ⟨h0, by omega⟩) n 31 (by omega) (by omega)).1
 have e := Nat.and_two_pow_sub_one_eq_mod n 5; rw [show (31 : Int) = ((31 : Nat) : Int) from rfl, h, show (31 : Nat) = 2 ^ 5 - 1 from rfl, e, Nat.mod_eq_of_lt (by omega)]

/-! ### The state at first -/
def startW (i : Nat) : UInt32 := UInt32.ofNat ((i + 1) * 2654435769)
theorem startW_val (k : Nat) : ((k : Int) + 1) * 2654435769 % 4294967296 = ((startW k).toNat : Int) := by
 unfold startW; have e : (UInt32.ofNat ((k + 1) * 2654435769)).toNat = (k + 1) * 2654435769 % 4294967296 := by simp [UInt32.toNat_ofNat']
 rw [e]; omega
def startTo (k : Nat) : List UInt32 := (List.range 8).map fun i => if i < k then startW i else 0
def startL : List UInt32 := (List.range 8).map startW
theorem startTo_length (k : Nat) : (startTo k).length = 8 := by simp [startTo]
theorem startTo_end : startTo 8 = startL := by
 unfold startTo startL; refine List.map_congr_left fun i hi => ?_
 rw [if_pos (List.mem_range.1 hi)]
theorem startTo_set (k : Nat) : (startTo k).set k (startW k) = startTo (k + 1) := by
 apply List.ext_getElem
 ·simp [startTo]
 ·intro i h1 h2
  simp only [startTo, List.getElem_set, List.getElem_map, List.getElem_range]; by_cases e : k = i
  ·subst e; simp
  ·have : (i < k) = (i < k + 1) := by simp; omega
   simp [e, this]
theorem startTo_zero : startTo 0 = [0, 0, 0, 0, 0, 0, 0, 0] := by
 simp only [startTo, Nat.not_lt_zero, if_false]; rfl
theorem zero_cells : cells32 (startTo 0) = #[.int .u32 0, .int .u32 0, .int .u32 0, .int .u32 0, .int .u32 0, .int .u32 0, .int .u32 0, .int .u32 0] := by
 rw [startTo_zero]; rfl
theorem startL_length : startL.length = 8 := by simp [startL]

/-! ### A block is taken -/
def stepI (b : List UInt32) (r : Nat) (s : List UInt32) (i : Nat) : List UInt32 :=
 s.set i (rotl (s.getD i 0 ^^^ b.getD ((i + r) % 8) 0) (5 + 3 * i) + s.getD ((i + 1) % 8) 0 * 2246822507 + UInt32.ofNat (i + r))
def stepsTo (b : List UInt32) (r : Nat) (s : List UInt32) (i : Nat) : List UInt32 := (List.range i).foldl (stepI b r) s
def roundsTo (b : List UInt32) (s : List UInt32) (r : Nat) : List UInt32 := (List.range r).foldl (fun s r => stepsTo b r s 8) s
theorem stepI_length (b s : List UInt32) (r i : Nat) : (stepI b r s i).length = s.length := by simp [stepI]
theorem stepsTo_succ (b s : List UInt32) (r i : Nat) : stepsTo b r s (i + 1) = stepI b r (stepsTo b r s i) i := by simp [stepsTo, List.range_succ]
theorem stepsTo_length (b s : List UInt32) (r i : Nat) : (stepsTo b r s i).length = s.length := by
 induction i with
 | zero => rfl
 | succ i ih => rw [stepsTo_succ, stepI_length, ih]
theorem roundsTo_succ (b s : List UInt32) (r : Nat) : roundsTo b s (r + 1) = stepsTo b r (roundsTo b s r) 8 := by simp [roundsTo, List.range_succ]
theorem roundsTo_length (b s : List UInt32) (r : Nat) : (roundsTo b s r).length = s.length := by
 induction r with
 | zero => rfl
 | succ i ih => rw [roundsTo_succ, stepsTo_length, ih]
theorem xor_val (x y : UInt32) : bits .xor .u32 (x.toNat : Int) (y.toNat : Int) = ((x ^^^ y).toNat : Int) := by
 have hx : x.toNat < 2 ^ 32 := x.toNat_lt; have hy : y.toNat < 2 ^ 32 := y.toNat_lt; have hz : x.toNat ^^^ y.toNat < 2 ^ 32 := Nat.xor_lt_two_pow hx hy; have hb : ((BitVec.ofNat 32 x.toNat) ^^^ (BitVec.ofNat 32 y.toNat)).toNat = x.toNat ^^^ y.toNat := by
  rw [BitVec.toNat_xor, BitVec.toNat_ofNat, BitVec.toNat_ofNat, Nat.mod_eq_of_lt hx, Nat.mod_eq_of_lt hy]
 have hw : bits .xor .u32 (x.toNat : Int) (y.toNat : Int) = IntKind.u32.wrap (((BitVec.ofNat 32 x.toNat) ^^^ (BitVec.ofNat 32 y.toNat)).toNat : Int) := rfl
 rw [hw, hb, IntKind.wrap_u32, UInt32.toNat_xor]; omega
theorem step_val (x y : UInt32) (k r : Nat) : (((x.toNat : Int) + (y.toNat : Int) * 2246822507 + ((k : Int) + (r : Int))) % 4294967296) = ((x + y * 2246822507 + UInt32.ofNat (k + r)).toNat : Int) := by
 rw [UInt32.toNat_add, UInt32.toNat_add, UInt32.toNat_mul]; have e : (UInt32.ofNat (k + r)).toNat = (k + r) % 4294967296 := by simp [UInt32.toNat_ofNat']
 have e2 : (2246822507 : UInt32).toNat = 2246822507 := rfl
 rw [e, e2]; omega
/-! ### A block of bytes as words -/
def wordAt (p : List UInt8) (i : Nat) : UInt32 := UInt32.ofNat ((p.getD (4 * i) 0).toNat + 256 * (p.getD (4 * i + 1) 0).toNat + 65536 * (p.getD (4 * i + 2) 0).toNat + 16777216 * (p.getD (4 * i + 3) 0).toNat)
def blockTo (p : List UInt8) (k : Nat) : List UInt32 := (List.range 8).map fun i => if i < k then wordAt p i else 0
def blockL (p : List UInt8) : List UInt32 := (List.range 8).map (wordAt p)
theorem blockTo_length (p : List UInt8) (k : Nat) : (blockTo p k).length = 8 := by simp [blockTo]
theorem blockL_length (p : List UInt8) : (blockL p).length = 8 := by simp [blockL]
theorem blockTo_end (p : List UInt8) : blockTo p 8 = blockL p := by
 unfold blockTo blockL; refine List.map_congr_left fun i hi => ?_
 rw [if_pos (List.mem_range.1 hi)]
theorem blockTo_zero (p : List UInt8) : blockTo p 0 = [0, 0, 0, 0, 0, 0, 0, 0] := by
 simp only [blockTo, Nat.not_lt_zero, if_false]; rfl
theorem blockTo_set (p : List UInt8) (k : Nat) : (blockTo p k).set k (wordAt p k) = blockTo p (k + 1) := by
 apply List.ext_getElem
 ·simp [blockTo]
 ·intro i h1 h2
  simp only [blockTo, List.getElem_set, List.getElem_map, List.getElem_range]; by_cases e : k = i
  ·subst e; simp
  ·have : (i < k) = (i < k + 1) := by simp; omega
   simp [e, this]
theorem cells8_at (l : List UInt8) (k : Nat) (h : k < l.length) : (cells8 l)[k]? = some (.int .u8 ((l.getD k 0).toNat : Int)) := by
 simp [cells8, B8, h]
theorem or_up (i a b : Nat) (h : b < 2 ^ i) : b ||| a * 2 ^ i = b + a * 2 ^ i := by
 rw [Nat.or_comm, Nat.mul_comm a, <- Nat.two_pow_add_eq_or_of_lt h a, Nat.add_comm]
theorem bits_or32 (a b : Nat) (ha : a < 4294967296) (hb : b < 4294967296) : bits .or .u32 (a : Int) (b : Int) = ((a ||| b : Nat) : Int) :=
 (bits_nat .u32 32 (by decide) (fun n h0 h1 => by rw [IntKind.wrap_u32]; omega) a b ha hb).2
theorem or4_val (x0 x1 x2 x3 : UInt8) :
  bits .or .u32 (bits .or .u32 (bits .or .u32 (x0.toNat : Int) ((x1.toNat : Int) * 256 % 4294967296)) ((x2.toNat : Int) * 65536 % 4294967296)) ((x3.toNat : Int) * 16777216 % 4294967296) =
   ((UInt32.ofNat (x0.toNat + 256 * x1.toNat + 65536 * x2.toNat + 16777216 * x3.toNat)).toNat : Int) := by
 have h0 : x0.toNat < 256 := x0.toNat_lt; have h1 : x1.toNat < 256 := x1.toNat_lt; have h2 : x2.toNat < 256 := x2.toNat_lt; have h3 : x3.toNat < 256 := x3.toNat_lt; generalize x0.toNat = a at *
 generalize x1.toNat = b at *
 generalize x2.toNat = c at *
 generalize x3.toNat = d at *
 have e1 : (b : Int) * 256 % 4294967296 = ((b * 2 ^ 8 : Nat) : Int) := by omega
 have e2 : (c : Int) * 65536 % 4294967296 = ((c * 2 ^ 16 : Nat) : Int) := by omega
 have e3 : (d : Int) * 16777216 % 4294967296 = ((d * 2 ^ 24 : Nat) : Int) := by omega
 have o1 := or_up 8 b a (by omega)
 have o2 := or_up 16 c (a + b * 2 ^ 8) (by omega)
 have o3 := or_up 24 d (a + b * 2 ^ 8 + c * 2 ^ 16) (by omega)
 rw [e1, bits_or32 _ _ (by omega) (by omega), o1, e2, bits_or32 _ _ (by omega) (by omega), o2, e3, bits_or32 _ _ (by omega) (by omega), o3,
  UInt32.toNat_ofNat_of_lt' (by show _ < 4294967296; omega)]
 congr 1
 omega
theorem heap_alloc3 (w : World) (A B C : Obj) : (((w.alloc A).alloc B).alloc C).heap[w.heap.size]? = some A /\ (((w.alloc A).alloc B).alloc C).heap[w.heap.size + 1]? = some B /\ (((w.alloc A).alloc B).alloc C).heap[w.heap.size + 2]? = some C := by
 refine ⟨?_, ?_, ?_⟩
 ·rw [heap_alloc_old _ _ (by simp; omega), heap_alloc2_old]
 ·rw [heap_alloc_old _ _ (by simp), heap_alloc2_new]
 ·have h := heap_alloc_new ((w.alloc A).alloc B) C
  have e : ((w.alloc A).alloc B).heap.size = w.heap.size + 2 := by simp
  rwa [e] at h

/-! ### What closes a row of bytes -/
def noughts (n : Nat) : Nat := (32 - (n + 9) % 32) % 32
theorem noughts_val (n : Nat) : (32 - ((n : Int) + 1 + 8) % 32) % 32 = (noughts n : Int) := by unfold noughts; omega
theorem noughts_lt (n : Nat) : noughts n < 32 := Nat.mod_lt _ (by decide)
def zeros8 (m : Nat) : List UInt8 := List.replicate m 0
theorem zeros8_length (m : Nat) : (zeros8 m).length = m := by simp [zeros8]
theorem zeros8_add (a b : Nat) : zeros8 (a + b) = zeros8 a ++ zeros8 b := by simp [zeros8, List.replicate_append_replicate]
theorem zeros8_succ (a : Nat) : zeros8 (a + 1) = 0 :: zeros8 a := by simp [zeros8, List.replicate_succ]
theorem made8 (m : Nat) : madeCells #[.int .u8 0] m = cells8 (zeros8 m) := by
 simp only [madeCells, cells8, zeros8, List.map_replicate]; apply Array.ext
 ·simp
 ·intro i h1 h2
  simp [B8, Nat.mod_one]
theorem cells8_set (l : List UInt8) (k : Nat) (x : UInt8) : (cells8 l).setIfInBounds k (.int .u8 (x.toNat : Int)) = cells8 (l.set k x) := by
 simp [cells8, List.setIfInBounds_toArray, List.map_set, B8]
theorem cells8_toList (l : List UInt8) : (cells8 l).toList = l.map B8 := rfl
def numBytes (n k : Nat) : List UInt8 := (List.range k).map fun i => UInt8.ofNat (n / 2 ^ (8 * i))
theorem numBytes_succ (n k : Nat) : numBytes n (k + 1) = numBytes n k ++ [UInt8.ofNat (n / 2 ^ (8 * k))] := by simp [numBytes, List.range_succ]
theorem numBytes_length (n k : Nat) : (numBytes n k).length = k := by simp [numBytes]
def tailTo (n k : Nat) : List UInt8 := (1 :: zeros8 (noughts n)) ++ numBytes n k
def tailL (n : Nat) : List UInt8 := tailTo n 8 ++ zeros8 32
def wordBytes (x : UInt32) : List UInt8 := [UInt8.ofNat x.toNat, UInt8.ofNat (x.toNat / 256), UInt8.ofNat (x.toNat / 65536), UInt8.ofNat (x.toNat / 16777216)]
def wordsBytes (l : List UInt32) : List UInt8 := l.flatMap wordBytes
theorem wordsBytes_succ (l : List UInt32) (k : Nat) (h : k < l.length) : wordsBytes (l.take (k + 1)) = wordsBytes (l.take k) ++ wordBytes (l.getD k 0) := by
 have e : l.getD k 0 = l[k] := by simp [h]
 rw [List.take_succ_eq_append_getElem h, e, wordsBytes, List.flatMap_append]; simp [wordsBytes]
theorem wordsBytes_length (l : List UInt32) : (wordsBytes l).length = 4 * l.length := by
 induction l with
 | nil => rfl
 | cons x l ih => simp only [wordsBytes, List.flatMap_cons, List.length_append] at *; rw [ih]; simp [wordBytes]; omega
theorem wordBytes_val (x : UInt32) : ([.int .u8 ((x.toNat : Int) % 256), .int .u8 ((x.toNat : Int) / 256 % 256), .int .u8 ((x.toNat : Int) / 65536 % 256), .int .u8 ((x.toNat : Int) / 16777216 % 256)] : List Value) = (wordBytes x).map B8 := by
 simp [wordBytes, B8, UInt8.toNat_ofNat']
end
section
open Go.RowKit
def absorbTo (l : List UInt8) (k : Nat) : List UInt32 := (List.range k).foldl (fun s i => roundsTo (blockL ((l.drop (32 * i)).take 32)) s 8) startL
def absorb (l : List UInt8) : List UInt32 := absorbTo l (l.length / 32)
def sumL (l : List UInt8) : List UInt8 := wordsBytes (absorb (l ++ tailL l.length))

theorem absorbTo_succ (l : List UInt8) (k : Nat) : absorbTo l (k + 1) = roundsTo (blockL ((l.drop (32 * k)).take 32)) (absorbTo l k) 8 := by simp [absorbTo, List.range_succ]
theorem absorbTo_zero (l : List UInt8) : absorbTo l 0 = startL := by simp only [absorbTo, List.range_zero, List.foldl_nil]
theorem absorbTo_length (l : List UInt8) (k : Nat) : (absorbTo l k).length = 8 := by
 induction k with
 | zero => rw [absorbTo_zero]; exact startL_length
 | succ k ih => rw [absorbTo_succ, roundsTo_length, ih]
theorem absorb_length (l : List UInt8) : (absorb l).length = 8 := absorbTo_length _ _
theorem sumL_length (l : List UInt8) : (sumL l).length = 32 := by rw [sumL, wordsBytes_length, absorb_length]
theorem absorbTo_append (l m : List UInt8) (k : Nat) (h : 32 * k <= l.length) : absorbTo (l ++ m) k = absorbTo l k := by
 induction k with
 | zero => rw [absorbTo_zero, absorbTo_zero]
 | succ k ih =>
  have e : ((l ++ m).drop (32 * k)).take 32 = (l.drop (32 * k)).take 32 := by
   rw [List.drop_append_of_le_length (by omega), List.take_append_of_le_length (by simp; omega)]
  rw [absorbTo_succ, absorbTo_succ, ih (by omega), e]
theorem absorb_nil : absorb [] = startL := absorbTo_zero _

def restOf (l : List UInt8) : List UInt8 := l.drop (32 * (l.length / 32))
theorem absorb_less (l c : List UInt8) (h : l.length % 32 + c.length < 32) : absorb (l ++ c) = absorb l /\ restOf (l ++ c) = restOf l ++ c := by
 have e : (l ++ c).length / 32 = l.length / 32 := by simp; omega
 refine ⟨?_, ?_⟩
 ·unfold absorb; rw [e, absorbTo_append _ _ _ (by omega)]
 ·unfold restOf; rw [e, List.drop_append_of_le_length (by omega)]
theorem absorb_full (l c : List UInt8) (h : l.length % 32 + c.length = 32) : absorb (l ++ c) = roundsTo (blockL (restOf l ++ c)) (absorb l) 8 /\ restOf (l ++ c) = [] := by
 have e : (l ++ c).length / 32 = l.length / 32 + 1 := by simp; omega
 refine ⟨?_, ?_⟩
 ·unfold absorb
  have e2 : ((l ++ c).drop (32 * (l.length / 32))).take 32 = restOf l ++ c := by
   rw [List.drop_append_of_le_length (by omega), List.take_of_length_le (by simp; omega), restOf]
  rw [e, absorbTo_succ, absorbTo_append _ _ _ (by omega), e2]
 ·unfold restOf; rw [e]; apply List.drop_eq_nil_of_le; simp; omega

def runCells (n : Nat) (st : List UInt32) (rest : List UInt8) : List Value := .int .u64 (n : Int) :: (st.map W32 ++ rest.map B8)
structure RunIs (l : List UInt8) (st : List UInt32) (rest : List UInt8) : Prop where
 st8 : st.length = 8
 rest32 : rest.length = 32
 state : l ≠ [] -> st = absorb l
 tail : rest.take (l.length % 32) = restOf l
theorem RunIs.zero : RunIs [] [0, 0, 0, 0, 0, 0, 0, 0] (zeros8 32) := ⟨rfl, rfl, fun h => absurd rfl h, rfl⟩

def RunAt (w : World) (g : Nat) (l : List UInt8) : Prop := ∃ st rest, RunIs l st rest /\ w.heap[g]? = some (.cells (runCells l.length st rest).toArray 159 (0, 0))

def laid (rest : List UInt8) (o : Nat) (c : List UInt8) : List UInt8 := rest.take o ++ (c ++ rest.drop (o + c.length))
theorem laid_length (rest : List UInt8) (o : Nat) (c : List UInt8) (h : o + c.length <= rest.length) : (laid rest o c).length = rest.length := by simp [laid]; omega
theorem laid_take (rest : List UInt8) (o : Nat) (c : List UInt8) (h : o + c.length <= rest.length) : (laid rest o c).take (o + c.length) = rest.take o ++ c := by
 have e : (rest.take o ++ c).length = o + c.length := by simp; omega
 rw [laid, <- List.append_assoc, List.take_left' e]

theorem RunIs.less {l : List UInt8} {st : List UInt32} {rest c : List UInt8} (h : RunIs l st rest) (hs : st = absorb l) (hc : l.length % 32 + c.length < 32) : RunIs (l ++ c) st (laid rest (l.length % 32) c) := by
 have hl := h.rest32; obtain ⟨h1, h2⟩ := absorb_less l c hc; refine ⟨h.st8, by rw [laid_length _ _ _ (by omega), hl], fun _ => by rw [hs, h1], ?_⟩
 have e : (l ++ c).length % 32 = l.length % 32 + c.length := by simp; omega
 rw [e, laid_take _ _ _ (by omega), h.tail, h2]
theorem RunIs.full {l : List UInt8} {st : List UInt32} {rest c : List UInt8} (h : RunIs l st rest) (hs : st = absorb l) (hc : l.length % 32 + c.length = 32) :
  RunIs (l ++ c) (roundsTo (blockL (laid rest (l.length % 32) c)) st 8) (laid rest (l.length % 32) c) := by
 have hl := h.rest32; obtain ⟨h1, h2⟩ := absorb_full l c hc; have e1 : laid rest (l.length % 32) c = restOf l ++ c := by
  have := laid_take rest (l.length % 32) c (by omega)
  rw [hc, List.take_of_length_le (by rw [laid_length _ _ _ (by omega)]; omega), h.tail] at this
  exact this
 refine ⟨by rw [roundsTo_length, h.st8], by rw [laid_length _ _ _ (by omega), hl], fun _ => by rw [h1, e1, hs], ?_⟩
 have e : (l ++ c).length % 32 = 0 := by simp; omega
 rw [e, h2]; rfl

theorem runCells_length (n : Nat) (st : List UInt32) (rest : List UInt8) : (runCells n st rest).length = 1 + (st.length + rest.length) := by simp [runCells]; omega
theorem runCells_laid (n : Nat) (st : List UInt32) (rest : List UInt8) (o : Nat) (c : List UInt8) (hst : st.length = 8) :
  splice (runCells n st rest) (9 + o) (c.map B8) = runCells n st (laid rest o c) := by
 have e : (st.map W32).length = 8 := by rw [List.length_map, hst]
 have h1 : (runCells n st rest).take (9 + o) = .int .u64 (n : Int) :: (st.map W32 ++ (rest.take o).map B8) := by
  rw [runCells, show 9 + o = (8 + o) + 1 by omega, List.take_succ_cons, List.take_append, e, List.take_of_length_le (by omega), show 8 + o - 8 = o by omega, List.map_take]
 have h2 : (runCells n st rest).drop (9 + o + (c.map B8).length) = (rest.drop (o + c.length)).map B8 := by
  rw [runCells, List.length_map, show 9 + o + c.length = (8 + (o + c.length)) + 1 by omega, List.drop_succ_cons, List.drop_append, e, List.drop_eq_nil_of_le (by omega), List.nil_append, show 8 + (o + c.length) - 8 = o + c.length by omega, List.map_drop]
 rw [splice, h1, h2, runCells, laid]; simp
theorem runCells_count (n m : Nat) (st : List UInt32) (rest : List UInt8) : (runCells n st rest).toArray.setIfInBounds 0 (.int .u64 ((n : Int) + (m : Int))) = (runCells (n + m) st rest).toArray := by
 simp [runCells]

def Ready (w : World) (g : Nat) (l : List UInt8) : Prop := ∃ st rest, RunIs l st rest /\ st = absorb l /\ w.heap[g]? = some (.cells (runCells l.length st rest).toArray 159 (0, 0))
theorem ready_less {w : World} {g : Nat} {l c : List UInt8} {st : List UInt32} {rest : List UInt8} (hr : RunIs l st rest) (hs : st = absorb l) (hc : l.length % 32 + c.length < 32)
  (hg : w.heap[g]? = some (.cells (runCells (l.length + c.length) st (laid rest (l.length % 32) c)).toArray 159 (0, 0))) : Ready w g (l ++ c) :=
 ⟨st, _, hr.less hs hc, by rw [hs, (absorb_less l c hc).1], by rw [List.length_append]; exact hg⟩
theorem ready_full {w : World} {g : Nat} {l c : List UInt8} {st : List UInt32} {rest : List UInt8} (hr : RunIs l st rest) (hs : st = absorb l) (hc : l.length % 32 + c.length = 32)
  (hg : w.heap[g]? = some (.cells (runCells (l.length + c.length) (roundsTo (blockL (laid rest (l.length % 32) c)) st 8) (laid rest (l.length % 32) c)).toArray 159 (0, 0))) : Ready w g (l ++ c) :=
 ⟨_, _, hr.full hs hc, (hr.full hs hc).state (fun h => by have := congrArg List.length h; rw [List.length_append, List.length_nil] at this; omega), by rw [List.length_append]; exact hg⟩
theorem take_next (bs : List UInt8) (k n : Nat) : bs.take (k + n) = bs.take k ++ (bs.drop k).take n := List.take_add
end
section
open Go.RowKit
theorem step_append_fits {P : Program} {ops : Array Oper} {o : Oper} {a : Act} {w : World} {K : Act -> World -> Prop} {Q : Exit -> Act -> World -> Prop} {E : Prop}
  (hg : o.guard = none) (s x : Operand) (t : TypeId) (hop : o.op = Op.call { callee := Callee.builtin Builtin.append, args := #[s, x], argTypes := #[t, t] })
  (base : Nat) (e : TypeId) (i : TypeInfo) (size : Nat) (h1 : P.underlying t = some (.slice e)) (h2 : P.info? e = some i) (h4 : i.size = size)
  (g k cap : Nat) (xs : List Value) (hs : a.eval s = .slice (some ⟨g, 0, none⟩) k cap) (hown : w.ownsRow base e size (.slice (some ⟨g, 0, none⟩) k cap) k xs) (ad : Addr) (m c : Nat) (news : List Value) (hx : a.eval x = .slice (some ad) m c) (hn : news.length = m * size)
  (hc : ∀ j u, news[j]? = some u -> w.cell? (ad.add j) = some u) (h1c : ∀ u ∈ news, u.oneCell' = true) (b1 : k + m <= cap)
  (hK : ∀ w', Hid (w'.ownsRow base e size (.slice (some ⟨g, 0, none⟩) (k + m) cap) (k + m) (xs ++ news)) -> w.grownBy w' (some g) -> K (a.put o.dst (.slice (some ⟨g, 0, none⟩) (k + m) cap)) w') :
  if Region.wanted o (yielded ops a.tmps) = true then Oper.wp P o a w K Q else E := by
 have hw : Region.wanted o (yielded ops a.tmps) = true := by simp [Region.wanted, hg]
 rw [if_pos hw]; obtain ⟨w', hrun, r1, r2⟩ := run_append_fits (P := P) w base t o.type e i size h1 h2 h4 g k cap xs hown ad m c news hn hc h1c b1
 unfold Oper.wp; simp [execOp, hop, resolve, invoke, builtin, hs, hx, hrun, Result.andThen]; exact hK w' r1 r2

theorem step_append_own {P : Program} {ops : Array Oper} {o : Oper} {a : Act} {w : World} {K : Act -> World -> Prop} {Q : Exit -> Act -> World -> Prop} {E : Prop}
  (hg : o.guard = none) (s x : Operand) (t : TypeId) (hop : o.op = Op.call { callee := Callee.builtin Builtin.append, args := #[s, x], argTypes := #[t, t] })
  (base : Nat) (e : TypeId) (i : TypeInfo) (z : Value) (size bytes : Nat) (h1 : P.underlying t = some (.slice e)) (h2 : P.info? e = some i) (h3 : i.zero = some z) (h4 : i.size = size) (h5 : i.bytes = bytes) (h6 : z.cells.size = size) (h7 : 0 < size)
  (v : Value) (n : Nat) (xs : List Value) (hs : a.eval s = v) (hown : w.ownsRow base e size v n xs) (ad : Addr) (m c : Nat) (news : List Value) (hx : a.eval x = .slice (some ad) m c) (hn : news.length = m * size)
  (hc : ∀ j u, news[j]? = some u -> w.cell? (ad.add j) = some u) (h1c : ∀ u ∈ news, u.oneCell' = true) (b1 : n + m <= maxLen) (b2 : (n + m) * bytes <= 140737488355328) (b3 : base <= w.heap.size)
  (hK : ∀ v' w', Hid (w'.ownsRow base e size v' (n + m) (xs ++ news)) -> w.grownBy w' v.ownBlock -> K (a.put o.dst v') w') :
  if Region.wanted o (yielded ops a.tmps) = true then Oper.wp P o a w K Q else E := by
 have hw : Region.wanted o (yielded ops a.tmps) = true := by simp [Region.wanted, hg]
 rw [if_pos hw]; obtain ⟨v', w', hrun, r1, r2, _⟩ := run_append_own (P := P) w base t o.type e i z size bytes h1 h2 h3 h4 h5 h6 h7 v n xs hown ad m c news hn hc h1c b1 b2 b3
 unfold Oper.wp; simp [execOp, hop, resolve, invoke, builtin, hs, hx, hrun, Result.andThen]; exact hK v' w' r1 r2
end
section
open Go.RowKit
theorem clone_any (ao : Option Addr) (cap : Nat) (bs : List UInt8) (B off : Nat) (w : World) (h : SrcAt w ao cap bs B off) (hs : bs.length <= 140737488355328) :
  Calls Tryz.prog 61 #[.slice ao bs.length cap] w fun e w' => ∃ v, e = .returned v /\ w'.ownsRow w.heap.size 5 1 v bs.length (bs.map B8) /\ Below w.heap.size w w' := by
 obtain ⟨n, hn⟩ := nm_ (bs.length); rw [<- hn] at hs |-; have HN := h_ hn; clear hn
 cases ao with
 | none =>
  obtain ⟨h1, h2⟩ := h.bare rfl; obtain rfl : bs = [] := List.eq_nil_of_length_eq_zero h1
  obtain rfl : n = 0 := HN.out
  subst h2; have hq := fun W => Lib.run_eql_slice_nil (P := Tryz.prog) W 29 5 none 0 0 0 0 Tryz.underlying29
  go_enter Tryz.func61, Tryz.ntmps61; go_wp2; go_ret; exact ⟨_, rfl, World.ownsRow_nil _ _ _ _, Below.refl _ _⟩
 | some a =>
  have hq := fun W => Lib.run_eql_slice_nil (P := Tryz.prog) W 29 5 (some a) n cap 0 0 Tryz.underlying29
  go_enter Tryz.func61, Tryz.ntmps61; go_wp2_with (at_builtin; refine wpList_append_src rfl _ _ rfl w.heap.size _ 0 [] rfl (owns_of_row (heap_alloc_new _ _) (Nat.le_refl _) (Nat.le_refl _) (Nat.zero_le _) rfl rfl rfl) (some a) n cap rfl (bs.map B8) (by rw [List.length_map]; exact HN.out.symm) (fun hh => by cases hh) (fun ad had j u hu => (h.below ((Below.refl _ _).alloc (Nat.le_refl _) _)).cells ad had j u hu) (B8_one _) (by omega) (by simp) ?_; intro v2 w2 hown2 hg2 hv2)
  go_ret; exact ⟨_, rfl, own_first hown2, ((Below.refl _ _).alloc (Nat.le_refl _) _).grown hg2 (by simp) (fun k hk => by cases hk; exact Nat.le_refl _)⟩
end
section
open Go.RowKit
theorem run_append_new (w : World) (ty : TypeId) (base : Nat) (v : Value) (n : Nat) (xs : List Value) (hown : w.ownsRow base 5 1 v n xs) (ao : Option Addr) (m c : Nat) (news : List Value) (hn : news.length = m)
  (hbare : ao = none -> m = 0 /\ c = 0) (hc : ∀ ad, ao = some ad -> ∀ j u, news[j]? = some u -> w.cell? (ad.add j) = some u) (h1c : ∀ u ∈ news, u.oneCell' = true) (hb : n + m <= 225000000000000) (hbase : base <= w.heap.size) :
  ∃ v' w', (Builtin.append_ #[29, 29] ty #[v, .slice ao m c]).run Tryz.prog w = .ok v' w' /\ w'.ownsRow base 5 1 v' (n + m) (xs ++ news) /\ w.grownBy w' v.ownBlock /\ (∀ k, v'.ownBlock = some k -> v.ownBlock = some k \/ k = w.heap.size) := by
 obtain ⟨i0, hi, hz0, hz1, hz2⟩ := info_parts info5; obtain ⟨v', w', hrun, r1, r2, r3⟩ := run_append_src w ty base v n xs hown ao m c news hn hbare hc h1c hb hbase; refine ⟨v', w', hrun, r1, r2, fun k hk => ?_⟩
 cases ao with
 | none =>
  obtain ⟨rfl, rfl⟩ := hbare rfl; have h2 := run_append_owned_none (P := Tryz.prog) w base 29 ty 5 i0 1 Tryz.underlying29 hi v n xs hown
  have h3 := hrun.symm.trans h2; injection h3 with e1 _
  rw [e1] at hk; exact .inl hk
 | some ad =>
  have hnews := hc ad rfl; have hnl : news.length = m * i0.size := by rw [hn, hz1, Nat.mul_one]
  rcases hown.2 with ⟨rfl, hn0⟩ | ⟨g, cap, cur, rfl, hbg, hg, hnc, hcm, hcs, htake⟩
  ·subst hn0
   by_cases hm : m = 0
   ·have h4 := r3.2 ⟨rfl, hm⟩
    rw [h4] at hk
    cases hk
   ·have h2 := run_append_nil (P := Tryz.prog) w 29 ty 5 i0 (.int .u8 0) Tryz.underlying29 hi hz0 ad m c news hnl hnews (by omega) (by omega) (by rw [hz2]; omega)
    have h3 := hrun.symm.trans h2; injection h3 with e1 _
    rw [e1] at hk; exact .inr (Option.some.inj hk).symm
  ·by_cases hroom : n + m <= cap
   ·have hfit : n * i0.size + news.length <= cur.size := by rw [hn, hz1, hcs]; omega
    have h2 := run_append_room (P := Tryz.prog) w 29 ty 5 i0 Tryz.underlying29 hi g n cap cur hg ad m c news hnl hnews h1c hroom hfit
    have h3 := hrun.symm.trans h2; injection h3 with e1 _
    rw [e1] at hk; exact .inl hk
   ·have holds : ∀ j u, xs[j]? = some u -> w.cell? ((⟨g, 0, none⟩ : Addr).add j) = some u := hown.cells (g := g) rfl
    have h2 := run_append_grow (P := Tryz.prog) w 29 ty 5 i0 (.int .u8 0) Tryz.underlying29 hi hz0 ⟨g, 0, none⟩ n cap xs (by rw [hown.1, hz1]) holds ad m c news hnl hnews (by omega) (by omega) (by rw [hz2]; exact growslice_fits_wide (by omega) (by omega))
    have h3 := hrun.symm.trans h2; injection h3 with e1 _
    rw [e1] at hk; exact .inr (Option.some.inj hk).symm
theorem wpList_append_new {ops : Array Oper} {rest : List Oper} {o : Oper} {a : Act} {w : World} {Q : Exit -> Act -> World -> Prop}
  (hgd : o.guard = none) (s x : Operand) (hop : o.op = Op.call { callee := Callee.builtin Builtin.append, args := #[s, x], argTypes := #[29, 29] })
  (base : Nat) (v : Value) (n : Nat) (xs : List Value) (hS : a.eval s = v) (hown : w.ownsRow base 5 1 v n xs) (ao : Option Addr) (m c : Nat) (hX : a.eval x = .slice ao m c) (news : List Value) (hn : news.length = m)
  (hbare : ao = none -> m = 0 /\ c = 0) (hc : ∀ ad, ao = some ad -> ∀ j u, news[j]? = some u -> w.cell? (ad.add j) = some u) (h1c : ∀ u ∈ news, u.oneCell' = true) (hb : n + m <= 225000000000000) (hbase : base <= w.heap.size)
  (hK : ∀ v' w', Hid (w'.ownsRow base 5 1 v' (n + m) (xs ++ news)) -> Hid (w.grownBy w' v.ownBlock) -> Hid (∀ k, v'.ownBlock = some k -> v.ownBlock = some k \/ k = w.heap.size) -> wpList Tryz.prog ops Q rest (a.put o.dst v') w') : wpList Tryz.prog ops Q (o :: rest) a w := by
 refine wpList_plain hgd fun K hK' => ?_
 obtain ⟨v', w', hrun, r1, r2, r3⟩ := run_append_new w o.type base v n xs hown ao m c news hn hbare hc h1c hb hbase; unfold Oper.wp; simp [execOp, hop, resolve, invoke, builtin, hS, hX, hrun, Result.andThen]; exact hK' _ _ (hK v' w' r1 r2 r3)
theorem step_append_src {ops : Array Oper} {o : Oper} {a : Act} {w : World} {K : Act -> World -> Prop} {Q : Exit -> Act -> World -> Prop} {E : Prop}
  (hgd : o.guard = none) (s x : Operand) (hop : o.op = Op.call { callee := Callee.builtin Builtin.append, args := #[s, x], argTypes := #[29, 29] })
  (base : Nat) (v : Value) (n : Nat) (xs : List Value) (hS : a.eval s = v) (hown : w.ownsRow base 5 1 v n xs) (ao : Option Addr) (m c : Nat) (hX : a.eval x = .slice ao m c) (news : List Value) (hn : news.length = m)
  (hbare : ao = none -> m = 0 /\ c = 0) (hc : ∀ ad, ao = some ad -> ∀ j u, news[j]? = some u -> w.cell? (ad.add j) = some u) (h1c : ∀ u ∈ news, u.oneCell' = true) (hb : n + m <= 225000000000000) (hbase : base <= w.heap.size)
  (hK : ∀ v' w', Hid (w'.ownsRow base 5 1 v' (n + m) (xs ++ news)) -> Hid (w.grownBy w' v.ownBlock) -> K (a.put o.dst v') w') :
  if Region.wanted o (yielded ops a.tmps) = true then Oper.wp Tryz.prog o a w K Q else E := by
 have hw : Region.wanted o (yielded ops a.tmps) = true := by simp [Region.wanted, hgd]
 rw [if_pos hw]; obtain ⟨v', w', hrun, r1, r2, r3⟩ := run_append_src w o.type base v n xs hown ao m c news hn hbare hc h1c hb hbase; unfold Oper.wp; simp [execOp, hop, resolve, invoke, builtin, hS, hX, hrun, Result.andThen]; exact hK v' w' r1 r2
end
section
open Go.RowKit
theorem refPutNum_any (ao : Option Addr) (cap : Nat) (bs : List UInt8) (B off : Nat) (n : Int) (w : World) (h : SrcAt w ao cap bs B off) (hs : bs.length + 9 <= 225000000000000) :
  Calls Tryz.prog 43 #[.slice ao bs.length cap, .int .i64 n] w fun e w' => ∃ v, e = .returned v /\ w'.ownsRow w.heap.size 5 1 v (bs ++ numL (clampN n)).length ((bs ++ numL (clampN n)).map B8) /\ Below w.heap.size w w' := by
 obtain ⟨i0, hi, hz0, hz1, hz2⟩ := info_parts info5; obtain ⟨q, hc1, hc2⟩ := clamp_max_min n; have hcl := clampN_le n; obtain ⟨m, hm⟩ : ∃ m : Nat, m = clampN n := ⟨_, rfl⟩
 rw [<- hm] at hc2 hcl |-; obtain ⟨L, hL⟩ : ∃ L : List UInt8, L = numL m := ⟨_, rfl⟩
 rw [<- hL]; obtain ⟨b, hb⟩ := nm_ (bs.length); rw [<- hb] at hs |-; have HB := h_ hb; have HL := h_ hL; clear hm hL hb; go_enter Tryz.func43, Tryz.ntmps43; go_wp2_with (at_builtin; refine wpList_append_src rfl _ _ rfl w.heap.size (.slice none 0 0) 0 [] rfl (World.ownsRow_nil _ _ _ _) ao b cap rfl (bs.map B8) (by rw [List.length_map]; exact HB.out.symm) (fun hh => by rw [HB.out]; exact h.bare hh) h.cells (B8_one _) (by omega) (Nat.le_refl _) ?_; intro v1 w1 hown1 hg1 hv1; have O1 := h_ (own_first hown1); have hbel := below_first hg1; clear hown1 hg1 hv1)
 clear hc1 hc2; go_loopw [1, 5] (fun x v wr => ∃ (f k : Nat) (p : List UInt8), x = .int .i64 (k : Int) /\ p.length + f = 8 /\ k < 64 * 128 ^ f /\ L = p ++ numF f k /\ wr.ownsRow w.heap.size 5 1 v (b + p.length) ((bs ++ p).map B8) /\ Below w.heap.size w wr) (fun x _ _ => (intOf x).toNat)
 case atStart => exact ⟨8, m, [], rfl, rfl, by omega, HL.out, by simpa using O1.out, hbel⟩
 case round =>
  clear O1 hbel hcl; obtain ⟨f, k, p, rfl, hpf, hk, hLp, hown, hbel⟩ := hrel; have HO := h_ hown; have HP := h_ hLp; have hkb : (k : Int) <= 4611686018427387903 := by
   have h1 : 128 ^ f <= 128 ^ 8 := Nat.pow_le_pow_right (by omega) (by omega)
   omega
  have HK := h_ hk; have hpl : p.length <= 8 := by omega
  have HF := h_ hpf; obtain ⟨u, hu⟩ := nm_ (b + p.length); have hub : u + 1 <= 225000000000000 := by omega
  rw [<- hu] at HO; have HU := h_ hu; clear hown hLp hk hpf hu; by_cases hlt : 128 <= k
  ·obtain ⟨f', rfl, hmore, hless⟩ := numF_more hlt HK.out
   have hcell : (.int .u8 (128 + (k : Int) % 128) : Value) = B8 (UInt8.ofNat (k % 128 + 128)) := by
    unfold B8; rw [UInt8.toNat_ofNat_of_lt' (by show _ < 256; omega)]
    congr 1
    omega
   have HC := h_ hcell; have HM := h_ hmore; have HS := h_ hless; clear hcell hmore hless; go_wp2_with (at_builtin; refine wpList_append_own_wide _ rfl _ _ 29 rfl w.heap.size 5 i0 (.int .u8 0) 1 1 Tryz.underlying29 hi hz0 hz1 hz2 rfl (by decide) _ u _ rfl (HO.out.alloc _) ⟨_, 0, none⟩ 1 1 _ rfl rfl (news_one _ _) (by simp [Value.oneCell']) (by unfold maxLen; omega) (by omega) (by have := hbel.size; simp; omega) ?_; intro v3 w3 hown3 hgrow3 _; have O3 := h_ hown3; have G3 := h_ hgrow3; clear hown3 hgrow3)
   go_roundw
   case rel =>
    refine ⟨f', k / 128, p ++ [UInt8.ofNat (k % 128 + 128)], by congr 1, ?_, HS.out, ?_, ?_, ?_⟩
    ·have := HF.out
     simp; omega
    ·rw [HP.out, HM.out, List.append_assoc]; rfl
    ·have h := O3.out
     rw [HC.out, HU.out] at h; simpa [Nat.add_assoc] using h
    ·exact (hbel.alloc hbel.size _).grown G3.out (by have := hbel.size; simp; omega) (fun k hk => (HO.out.lt k hk).1)
   case measure => simp [intOf]; omega
  ·have hlast := numF_last (Nat.lt_of_not_le hlt) HK.out
   have hcell : (.int .u8 (k : Int) : Value) = B8 (UInt8.ofNat k) := by
    unfold B8; rw [UInt8.toNat_ofNat_of_lt' (by show _ < 256; omega)]
   have HC := h_ hcell; have HL1 := h_ hlast; clear hcell hlast; go_wp2_with (at_builtin; refine wpList_append_own_wide _ rfl _ _ 29 rfl w.heap.size 5 i0 (.int .u8 0) 1 1 Tryz.underlying29 hi hz0 hz1 hz2 rfl (by decide) _ u _ rfl (HO.out.alloc _) ⟨_, 0, none⟩ 1 1 _ rfl rfl (news_one _ _) (by simp [Value.oneCell']) (by unfold maxLen; omega) (by omega) (by have := hbel.size; simp; omega) ?_; intro v3 w3 hown3 hgrow3 _; have O3 := h_ hown3; have G3 := h_ hgrow3; clear hown3 hgrow3)
   go_ret; refine ⟨_, rfl, ?_, ?_⟩
   ·have h := O3.out
    rw [HC.out, HU.out, HB.out] at h; rw [HP.out, HL1.out]; simpa [Nat.add_assoc] using h
   ·exact (hbel.alloc hbel.size _).grown G3.out (by have := hbel.size; simp; omega) (fun k hk => (HO.out.lt k hk).1)
end
section
open Go.RowKit
theorem refPutText_any (ao : Option Addr) (cap : Nat) (bs : List UInt8) (B off : Nat) (s : ByteArray) (w : World) (h : SrcAt w ao cap bs B off) (hs : bs.length + 9 + s.size <= 140737488355328) :
  Calls Tryz.prog 44 #[.slice ao bs.length cap, .string s] w fun e w' => ∃ v, e = .returned v /\ w'.ownsRow w.heap.size 5 1 v (bs ++ (numL s.size ++ s.data.toList)).length ((bs ++ (numL s.size ++ s.data.toList)).map B8) /\ Below w.heap.size w w' := by
 obtain ⟨i0, hi, hz0, hz1, hz2⟩ := info_parts info5; have hl := numL_le s.size; obtain ⟨L, hL⟩ := nm_ (numL s.size); have hg : ∀ W : World, SrcAt W ao cap bs B off -> Calls Tryz.prog 43 #[.slice ao bs.length cap, .int .i64 (s.size : Int)] W fun e w' => ∃ v, e = .returned v /\ w'.ownsRow W.heap.size 5 1 v (bs ++ L).length ((bs ++ L).map B8) /\ Below W.heap.size W w' := fun W hW => by
  have h1 := refPutNum_any ao cap bs B off (s.size : Int) W hW (by omega)
  rw [clampN_nat _ (by omega)] at h1
  rw [hL]; exact h1
 rw [<- hL] at hl |-; have HG := h_ hg; clear hL hg; go_enter Tryz.func44, Tryz.ntmps44; go_wp2_with fail; refine (HG.out _ h).mono ?_; rintro e w1 ⟨v1, rfl, o1, b1⟩; obtain ⟨m, hm⟩ := nm_ ((bs ++ L).length); have hmb : m + s.size <= 140737488355328 := by rw [hm, List.length_append]; omega
 rw [<- hm] at o1; have HM := h_ hm; have O1 := h_ o1; clear hm o1; go_wp2_with (at_builtin; refine Lib.wpList_append_own_string _ rfl _ _ 29 9 rfl w.heap.size 5 i0 Tryz.underlying29 Tryz.underlying9 hi hz0 hz1 hz2 _ m _ rfl O1.out s rfl (by unfold maxLen; omega) hmb b1.size ?_; intro v3 w3 hown3 hgrow3 _; have O3 := h_ hown3; have G3 := h_ hgrow3; clear hown3 hgrow3)
 go_ret; refine ⟨_, rfl, ?_, b1.grown G3.out b1.size (fun k hk => (O1.out.lt k hk).1)⟩
 have h1 := O3.out; rw [strCells_B8, <- List.map_append, HM.out, List.append_assoc] at h1; have e : (bs ++ L).length + s.size = (bs ++ (L ++ s.data.toList)).length := by
  have : s.data.toList.length = s.size := rfl
  simp only [List.length_append, this]; omega
 rw [e] at h1; exact h1
end
end Go.Proofs.YtomgijcbekjlaaaGreat
