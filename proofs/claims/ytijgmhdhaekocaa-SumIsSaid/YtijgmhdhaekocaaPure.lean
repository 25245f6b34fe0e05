/- Plain mathematics for the statements of package sum: words, bytes, blocks, the hash as a function of lists. No program here. -/
import Derived.Test.YtijgmhdhaekocaaRows
import Derived.WalkKit
import Derived.WalkSpells
import Derived.WalkLawsBesides
import Derived.Deep.QuietTactic
import Derived.BigQuiet
import Derived.Laws.CopyOwn
import Derived.Lib.Hide
namespace Go.Proofs.Ytijgmhdhaekocaa
open Go.RowKit

/-! ### Values -/
def W32 (x : UInt32) : Value := .int .u32 (x.toNat : Int)
def B8 (x : UInt8) : Value := .int .u8 (x.toNat : Int)
def cells32 (l : List UInt32) : Array Value := (l.map W32).toArray
def cells8 (l : List UInt8) : Array Value := (l.map B8).toArray

theorem cells32_size (l : List UInt32) : (cells32 l).size = l.length := by simp [cells32]
theorem cells8_size (l : List UInt8) : (cells8 l).size = l.length := by simp [cells8]
theorem cells32_at (l : List UInt32) (k : Nat) (h : k < l.length) : (cells32 l)[k]? = some (.int .u32 ((l.getD k 0).toNat : Int)) := by
  simp [cells32, W32, h]
theorem cells32_set (l : List UInt32) (k : Nat) (x : UInt32) : (cells32 l).setIfInBounds k (.int .u32 (x.toNat : Int)) = cells32 (l.set k x) := by
  simp [cells32, List.setIfInBounds_toArray, List.map_set, W32]
theorem cells32_one (l : List UInt32) : (cells32 l).all (·.oneCell') = true := by
  refine Array.all_eq_true_iff_forall_mem.2 fun v hv => ?_
  simp only [cells32, List.mem_toArray, List.mem_map] at hv
  obtain ⟨x, _, rfl⟩ := hv
  rfl
theorem cells8_one (l : List UInt8) : (cells8 l).all (·.oneCell') = true := by
  refine Array.all_eq_true_iff_forall_mem.2 fun v hv => ?_
  simp only [cells8, List.mem_toArray, List.mem_map] at hv
  obtain ⟨x, _, rfl⟩ := hv
  rfl

/-! ### Turning a word -/
def rotl (x : UInt32) (n : Nat) : UInt32 := UInt32.ofNat ((x.toNat * 2 ^ n % 4294967296) ||| (x.toNat / 2 ^ (32 - n)))
theorem rotl_val (x : UInt32) (n : Nat) : bits .or .u32 ((x.toNat : Int) * 2 ^ n % 4294967296) ((x.toNat : Int) / 2 ^ (32 - n)) = ((rotl x n).toNat : Int) := by
  have hx : x.toNat < 4294967296 := x.toNat_lt
  have e1 : ((x.toNat : Int) * 2 ^ n % 4294967296) = ((x.toNat * 2 ^ n % 4294967296 : Nat) : Int) := by simp
  have e2 : ((x.toNat : Int) / 2 ^ (32 - n)) = ((x.toNat / 2 ^ (32 - n) : Nat) : Int) := by simp
  have ha : x.toNat * 2 ^ n % 4294967296 < 2 ^ 32 := Nat.mod_lt _ (by decide)
  have hb : x.toNat / 2 ^ (32 - n) < 2 ^ 32 := Nat.lt_of_le_of_lt (Nat.div_le_self _ _) hx
  rw [e1, e2, (bits_nat .u32 32 (by decide) (fun n h0 h1 => by rw [IntKind.wrap_u32]; omega) _ _ ha hb).2]
  unfold rotl
  rw [UInt32.toNat_ofNat_of_lt' (Nat.or_lt_two_pow ha hb)]
theorem and31 (n : Nat) (h26 : n ≤ 26) : bits .and .u64 (n : Int) 31 = (n : Int) := by
  have h := (bits_nat .u64 5 (by decide) (fun n h0 h1 => IntWalk.u64_in n ⟨h0, by omega⟩) n 31 (by omega) (by omega)).1
  have e := Nat.and_two_pow_sub_one_eq_mod n 5
  rw [show (31 : Int) = ((31 : Nat) : Int) from rfl, h, show (31 : Nat) = 2 ^ 5 - 1 from rfl, e, Nat.mod_eq_of_lt (by omega)]

/-! ### The state at first -/
def startW (i : Nat) : UInt32 := UInt32.ofNat ((i + 1) * 2654435769)
theorem startW_val (k : Nat) : ((k : Int) + 1) * 2654435769 % 4294967296 = ((startW k).toNat : Int) := by
  unfold startW
  have e : (UInt32.ofNat ((k + 1) * 2654435769)).toNat = (k + 1) * 2654435769 % 4294967296 := by simp [UInt32.toNat_ofNat']
  rw [e]
  omega
def startTo (k : Nat) : List UInt32 := (List.range 8).map fun i => if i < k then startW i else 0
def startL : List UInt32 := (List.range 8).map startW
theorem startTo_length (k : Nat) : (startTo k).length = 8 := by simp [startTo]
theorem startTo_end : startTo 8 = startL := by
  unfold startTo startL
  refine List.map_congr_left fun i hi => ?_
  rw [if_pos (List.mem_range.1 hi)]
theorem startTo_set (k : Nat) : (startTo k).set k (startW k) = startTo (k + 1) := by
  apply List.ext_getElem
  · simp [startTo]
  · intro i h1 h2
    simp only [startTo, List.getElem_set, List.getElem_map, List.getElem_range]
    by_cases e : k = i
    · subst e; simp
    · have : (i < k) = (i < k + 1) := by simp; omega
      simp [e, this]
theorem startTo_zero : startTo 0 = [0, 0, 0, 0, 0, 0, 0, 0] := by
  simp only [startTo, Nat.not_lt_zero, if_false]
  rfl
theorem zero_cells : cells32 (startTo 0) = #[.int .u32 0, .int .u32 0, .int .u32 0, .int .u32 0, .int .u32 0, .int .u32 0, .int .u32 0, .int .u32 0] := by
  rw [startTo_zero]; rfl
theorem startL_length : startL.length = 8 := by simp [startL]

/-! ### A block is taken -/
def stepI (b : List UInt32) (r : Nat) (s : List UInt32) (i : Nat) : List UInt32 :=
  s.set i (rotl (s.getD i 0 ^^^ b.getD ((i + r) % 8) 0) (5 + 3 * i) + s.getD ((i + 1) % 8) 0 * 2246822507 + UInt32.ofNat (i + r))
def stepsTo (b : List UInt32) (r : Nat) (s : List UInt32) (i : Nat) : List UInt32 := (List.range i).foldl (stepI b r) s
def roundsTo (b : List UInt32) (s : List UInt32) (r : Nat) : List UInt32 := (List.range r).foldl (fun s r => stepsTo b r s 8) s
theorem stepI_length (b s : List UInt32) (r i : Nat) : (stepI b r s i).length = s.length := by simp [stepI]
theorem stepsTo_succ (b s : List UInt32) (r i : Nat) : stepsTo b r s (i + 1) = stepI b r (stepsTo b r s i) i := by simp [stepsTo, List.range_succ]
theorem stepsTo_length (b s : List UInt32) (r i : Nat) : (stepsTo b r s i).length = s.length := by
  induction i with
  | zero => rfl
  | succ i ih => rw [stepsTo_succ, stepI_length, ih]
theorem roundsTo_succ (b s : List UInt32) (r : Nat) : roundsTo b s (r + 1) = stepsTo b r (roundsTo b s r) 8 := by simp [roundsTo, List.range_succ]
theorem roundsTo_length (b s : List UInt32) (r : Nat) : (roundsTo b s r).length = s.length := by
  induction r with
  | zero => rfl
  | succ i ih => rw [roundsTo_succ, stepsTo_length, ih]
theorem xor_val (x y : UInt32) : bits .xor .u32 (x.toNat : Int) (y.toNat : Int) = ((x ^^^ y).toNat : Int) := by
  have hx : x.toNat < 2 ^ 32 := x.toNat_lt
  have hy : y.toNat < 2 ^ 32 := y.toNat_lt
  have hz : x.toNat ^^^ y.toNat < 2 ^ 32 := Nat.xor_lt_two_pow hx hy
  have hb : ((BitVec.ofNat 32 x.toNat) ^^^ (BitVec.ofNat 32 y.toNat)).toNat = x.toNat ^^^ y.toNat := by
    rw [BitVec.toNat_xor, BitVec.toNat_ofNat, BitVec.toNat_ofNat, Nat.mod_eq_of_lt hx, Nat.mod_eq_of_lt hy]
  have hw : bits .xor .u32 (x.toNat : Int) (y.toNat : Int) = IntKind.u32.wrap (((BitVec.ofNat 32 x.toNat) ^^^ (BitVec.ofNat 32 y.toNat)).toNat : Int) := rfl
  rw [hw, hb, IntKind.wrap_u32, UInt32.toNat_xor]
  omega
theorem step_val (x y : UInt32) (k r : Nat) : (((x.toNat : Int) + (y.toNat : Int) * 2246822507 + ((k : Int) + (r : Int))) % 4294967296) = ((x + y * 2246822507 + UInt32.ofNat (k + r)).toNat : Int) := by
  rw [UInt32.toNat_add, UInt32.toNat_add, UInt32.toNat_mul]
  have e : (UInt32.ofNat (k + r)).toNat = (k + r) % 4294967296 := by simp [UInt32.toNat_ofNat']
  have e2 : (2246822507 : UInt32).toNat = 2246822507 := rfl
  rw [e, e2]
  omega
theorem heap_drewN (w : World) (n : Nat) : (w.drewN n).heap = w.heap := rfl
theorem below_drewN {B : Nat} {a w : World} (h : Below B a w) (n : Nat) : Below B a (w.drewN n) := ⟨h.os, h.tape, h.output, h.size, h.block⟩

/-! ### A block of bytes as words -/
def wordAt (p : List UInt8) (i : Nat) : UInt32 := UInt32.ofNat ((p.getD (4 * i) 0).toNat + 256 * (p.getD (4 * i + 1) 0).toNat + 65536 * (p.getD (4 * i + 2) 0).toNat + 16777216 * (p.getD (4 * i + 3) 0).toNat)
def blockTo (p : List UInt8) (k : Nat) : List UInt32 := (List.range 8).map fun i => if i < k then wordAt p i else 0
def blockL (p : List UInt8) : List UInt32 := (List.range 8).map (wordAt p)
theorem blockTo_length (p : List UInt8) (k : Nat) : (blockTo p k).length = 8 := by simp [blockTo]
theorem blockL_length (p : List UInt8) : (blockL p).length = 8 := by simp [blockL]
theorem blockTo_end (p : List UInt8) : blockTo p 8 = blockL p := by
  unfold blockTo blockL
  refine List.map_congr_left fun i hi => ?_
  rw [if_pos (List.mem_range.1 hi)]
theorem blockTo_zero (p : List UInt8) : blockTo p 0 = [0, 0, 0, 0, 0, 0, 0, 0] := by
  simp only [blockTo, Nat.not_lt_zero, if_false]
  rfl
theorem blockTo_set (p : List UInt8) (k : Nat) : (blockTo p k).set k (wordAt p k) = blockTo p (k + 1) := by
  apply List.ext_getElem
  · simp [blockTo]
  · intro i h1 h2
    simp only [blockTo, List.getElem_set, List.getElem_map, List.getElem_range]
    by_cases e : k = i
    · subst e; simp
    · have : (i < k) = (i < k + 1) := by simp; omega
      simp [e, this]
theorem cells8_at (l : List UInt8) (k : Nat) (h : k < l.length) : (cells8 l)[k]? = some (.int .u8 ((l.getD k 0).toNat : Int)) := by
  simp [cells8, B8, h]
theorem or_up (i a b : Nat) (h : b < 2 ^ i) : b ||| a * 2 ^ i = b + a * 2 ^ i := by
  rw [Nat.or_comm, Nat.mul_comm a, ← Nat.two_pow_add_eq_or_of_lt h a, Nat.add_comm]
theorem bits_or32 (a b : Nat) (ha : a < 4294967296) (hb : b < 4294967296) : bits .or .u32 (a : Int) (b : Int) = ((a ||| b : Nat) : Int) :=
  (bits_nat .u32 32 (by decide) (fun n h0 h1 => by rw [IntKind.wrap_u32]; omega) a b ha hb).2
theorem or4_val (x0 x1 x2 x3 : UInt8) :
    bits .or .u32 (bits .or .u32 (bits .or .u32 (x0.toNat : Int) ((x1.toNat : Int) * 256 % 4294967296)) ((x2.toNat : Int) * 65536 % 4294967296)) ((x3.toNat : Int) * 16777216 % 4294967296) =
      ((UInt32.ofNat (x0.toNat + 256 * x1.toNat + 65536 * x2.toNat + 16777216 * x3.toNat)).toNat : Int) := by
  have h0 : x0.toNat < 256 := x0.toNat_lt
  have h1 : x1.toNat < 256 := x1.toNat_lt
  have h2 : x2.toNat < 256 := x2.toNat_lt
  have h3 : x3.toNat < 256 := x3.toNat_lt
  generalize x0.toNat = a at *
  generalize x1.toNat = b at *
  generalize x2.toNat = c at *
  generalize x3.toNat = d at *
  have e1 : (b : Int) * 256 % 4294967296 = ((b * 2 ^ 8 : Nat) : Int) := by omega
  have e2 : (c : Int) * 65536 % 4294967296 = ((c * 2 ^ 16 : Nat) : Int) := by omega
  have e3 : (d : Int) * 16777216 % 4294967296 = ((d * 2 ^ 24 : Nat) : Int) := by omega
  have o1 := or_up 8 b a (by omega)
  have o2 := or_up 16 c (a + b * 2 ^ 8) (by omega)
  have o3 := or_up 24 d (a + b * 2 ^ 8 + c * 2 ^ 16) (by omega)
  rw [e1, bits_or32 _ _ (by omega) (by omega), o1, e2, bits_or32 _ _ (by omega) (by omega), o2, e3, bits_or32 _ _ (by omega) (by omega), o3,
    UInt32.toNat_ofNat_of_lt' (by show _ < 4294967296; omega)]
  congr 1
  omega
theorem heap_alloc3 (w : World) (A B C : Obj) : (((w.alloc A).alloc B).alloc C).heap[w.heap.size]? = some A ∧ (((w.alloc A).alloc B).alloc C).heap[w.heap.size + 1]? = some B ∧ (((w.alloc A).alloc B).alloc C).heap[w.heap.size + 2]? = some C := by
  refine ⟨?_, ?_, ?_⟩
  · rw [heap_alloc_old _ _ (by simp; omega), heap_alloc2_old]
  · rw [heap_alloc_old _ _ (by simp), heap_alloc2_new]
  · have h := heap_alloc_new ((w.alloc A).alloc B) C
    have e : ((w.alloc A).alloc B).heap.size = w.heap.size + 2 := by simp
    rwa [e] at h

/-! ### What closes a row of bytes -/
def noughts (n : Nat) : Nat := (32 - (n + 9) % 32) % 32
theorem noughts_val (n : Nat) : (32 - ((n : Int) + 1 + 8) % 32) % 32 = (noughts n : Int) := by unfold noughts; omega
theorem noughts_lt (n : Nat) : noughts n < 32 := Nat.mod_lt _ (by decide)
def zeros8 (m : Nat) : List UInt8 := List.replicate m 0
theorem zeros8_length (m : Nat) : (zeros8 m).length = m := by simp [zeros8]
theorem zeros8_add (a b : Nat) : zeros8 (a + b) = zeros8 a ++ zeros8 b := by simp [zeros8, List.replicate_append_replicate]
theorem zeros8_succ (a : Nat) : zeros8 (a + 1) = 0 :: zeros8 a := by simp [zeros8, List.replicate_succ]
theorem made8 (m : Nat) : madeCells #[.int .u8 0] m = cells8 (zeros8 m) := by
  simp only [madeCells, cells8, zeros8, List.map_replicate]
  apply Array.ext
  · simp
  · intro i h1 h2
    simp [B8, Nat.mod_one]
theorem cells8_set (l : List UInt8) (k : Nat) (x : UInt8) : (cells8 l).setIfInBounds k (.int .u8 (x.toNat : Int)) = cells8 (l.set k x) := by
  simp [cells8, List.setIfInBounds_toArray, List.map_set, B8]
theorem cells8_toList (l : List UInt8) : (cells8 l).toList = l.map B8 := rfl
def numBytes (n k : Nat) : List UInt8 := (List.range k).map fun i => UInt8.ofNat (n / 2 ^ (8 * i))
theorem numBytes_succ (n k : Nat) : numBytes n (k + 1) = numBytes n k ++ [UInt8.ofNat (n / 2 ^ (8 * k))] := by simp [numBytes, List.range_succ]
theorem numBytes_length (n k : Nat) : (numBytes n k).length = k := by simp [numBytes]
def tailTo (n k : Nat) : List UInt8 := (1 :: zeros8 (noughts n)) ++ numBytes n k
def tailL (n : Nat) : List UInt8 := tailTo n 8 ++ zeros8 32
theorem owns_of_row {w : World} {base g n cap : Nat} {cur : Array Value} {xs : List Value} (hg : w.heap[g]? = some (.cells cur 5 (0, 0))) (hb : base ≤ g) (hn : n ≤ cap) (hcap : cap ≤ maxLen)
    (hs : cur.size = cap) (hl : xs.length = n) (hx : cur.toList.take n = xs) : w.ownsRow base 5 1 (.slice (some ⟨g, 0, none⟩) n cap) n xs :=
  ⟨by rw [hl, Nat.mul_one], .inr ⟨g, cap, cur, rfl, hb, hg, hn, hcap, by rw [Nat.mul_one]; exact hs, by rw [Nat.mul_one]; exact hx⟩⟩

/-! ### Texts, and words as bytes -/
/-- A text's bytes as the model holds them. -/
def SL (bs : List UInt8) : ByteArray := ⟨bs.toArray⟩
theorem SL_size (bs : List UInt8) : (SL bs).size = bs.length := by simp [SL, ByteArray.size]
theorem strOfNums_map (bs : List UInt8) : strOfNums (bs.map fun x => (x.toNat : Int)) = SL bs := by
  simp only [strOfNums, SL, List.map_map]
  congr 2
  conv => rhs; rw [← List.map_id bs]
  refine List.map_congr_left fun x _ => ?_
  simp
theorem map_B8 (bs : List UInt8) : bs.map B8 = (bs.map fun x => (x.toNat : Int)).map (Value.int .u8) := by
  rw [List.map_map]; rfl
def wordBytes (x : UInt32) : List UInt8 := [UInt8.ofNat x.toNat, UInt8.ofNat (x.toNat / 256), UInt8.ofNat (x.toNat / 65536), UInt8.ofNat (x.toNat / 16777216)]
def wordsBytes (l : List UInt32) : List UInt8 := l.flatMap wordBytes
theorem wordsBytes_succ (l : List UInt32) (k : Nat) (h : k < l.length) : wordsBytes (l.take (k + 1)) = wordsBytes (l.take k) ++ wordBytes (l.getD k 0) := by
  have e : l.getD k 0 = l[k] := by simp [h]
  rw [List.take_succ_eq_append_getElem h, e, wordsBytes, List.flatMap_append]
  simp [wordsBytes]
theorem wordsBytes_length (l : List UInt32) : (wordsBytes l).length = 4 * l.length := by
  induction l with
  | nil => rfl
  | cons x l ih => simp only [wordsBytes, List.flatMap_cons, List.length_append] at *; rw [ih]; simp [wordBytes]; omega
theorem cells_new (w : World) (cs : Array Value) (e : TypeId) : ∀ j u, cs.toList[j]? = some u → (w.alloc (.cells cs e)).cell? ((⟨w.heap.size, 0, none⟩ : Addr).add j) = some u := by
  intro j u hu
  rw [Addr.add_lit, Nat.zero_add, cell_of_row _ _ _ _ _ _ (heap_alloc_new w _)]
  simpa using hu
theorem wordBytes_val (x : UInt32) : ([.int .u8 ((x.toNat : Int) % 256), .int .u8 ((x.toNat : Int) / 256 % 256), .int .u8 ((x.toNat : Int) / 65536 % 256), .int .u8 ((x.toNat : Int) / 16777216 % 256)] : List Value) = (wordBytes x).map B8 := by
  simp [wordBytes, B8, UInt8.toNat_ofNat']
end Go.Proofs.Ytijgmhdhaekocaa
