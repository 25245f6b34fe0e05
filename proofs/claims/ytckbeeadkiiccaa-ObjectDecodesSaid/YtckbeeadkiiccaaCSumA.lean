/- Plain mathematics for the statements of package sum: words, bytes, blocks, the hash as a function of lists. No program here. Laws on single operations that the walks of package sum want: append of noughts, within the capacity. No program here. The walks of the leaves of package sum: turning a word, the state at first, a block that is taken. Plain mathematics: what a run of package sum holds after it was given bytes; the hash of a list of bytes. No program here. -/
import Derived.Test.YtckbeeadkiiccaaCBase
import Derived.WalkKit
import Derived.WalkSpells
import Derived.WalkLawsBesides
import Derived.Deep.QuietTactic
import Derived.BigQuiet
import Derived.Laws.CopyOwn
import Derived.Lib.Hide
import Derived.Deep.MidRow
import Derived.StillTailTactics
namespace Go.Proofs.Ytckbeeadkiiccaa
open Go.RowKit

/-! ### Values -/
def W32 (x : UInt32) : Value := .int .u32 (x.toNat : Int)
def cells32 (l : List UInt32) : Array Value := (l.map W32).toArray
theorem cells32_size (l : List UInt32) : (cells32 l).size = l.length := by simp [cells32]
theorem cells32_at (l : List UInt32) (k : Nat) (h : k < l.length) : (cells32 l)[k]? = some (.int .u32 ((l.getD k 0).toNat : Int)) := by
  simp [cells32, W32, h]
theorem cells32_set (l : List UInt32) (k : Nat) (x : UInt32) : (cells32 l).setIfInBounds k (.int .u32 (x.toNat : Int)) = cells32 (l.set k x) := by
  simp [cells32, List.setIfInBounds_toArray, List.map_set, W32]
theorem cells32_one (l : List UInt32) : (cells32 l).all (·.oneCell') = true := by
  refine Array.all_eq_true_iff_forall_mem.2 fun v hv => ?_
  simp only [cells32, List.mem_toArray, List.mem_map] at hv
  obtain ⟨x, _, rfl⟩ := hv
  rfl
theorem cells8_one (l : List UInt8) : (cells8 l).all (·.oneCell') = true := by
  refine Array.all_eq_true_iff_forall_mem.2 fun v hv => ?_
  simp only [cells8, List.mem_toArray, List.mem_map] at hv
  obtain ⟨x, _, rfl⟩ := hv
  rfl

/-! ### Turning a word -/
def rotl (x : UInt32) (n : Nat) : UInt32 := UInt32.ofNat ((x.toNat * 2 ^ n % 4294967296) ||| (x.toNat / 2 ^ (32 - n)))
theorem rotl_val (x : UInt32) (n : Nat) : bits .or .u32 ((x.toNat : Int) * 2 ^ n % 4294967296) ((x.toNat : Int) / 2 ^ (32 - n)) = ((rotl x n).toNat : Int) := by
  have hx : x.toNat < 4294967296 := x.toNat_lt
  have e1 : ((x.toNat : Int) * 2 ^ n % 4294967296) = ((x.toNat * 2 ^ n % 4294967296 : Nat) : Int) := by simp
  have e2 : ((x.toNat : Int) / 2 ^ (32 - n)) = ((x.toNat / 2 ^ (32 - n) : Nat) : Int) := by simp
  have ha : x.toNat * 2 ^ n % 4294967296 < 2 ^ 32 := Nat.mod_lt _ (by decide)
  have hb : x.toNat / 2 ^ (32 - n) < 2 ^ 32 := Nat.lt_of_le_of_lt (Nat.div_le_self _ _) hx
  rw [e1, e2, (bits_nat .u32 32 (by decide) (fun n h0 h1 => by rw [IntKind.wrap_u32]; omega) _ _ ha hb).2]
  unfold rotl
  rw [UInt32.toNat_ofNat_of_lt' (Nat.or_lt_two_pow ha hb)]
theorem and31 (n : Nat) (h26 : n ≤ 26) : bits .and .u64 (n : Int) 31 = (n : Int) := by
  have h := (bits_nat .u64 5 (by decide) (fun n h0 h1 => IntWalk.u64_in n ⟨h0, by omega⟩) n 31 (by omega) (by omega)).1
  have e := Nat.and_two_pow_sub_one_eq_mod n 5
  rw [show (31 : Int) = ((31 : Nat) : Int) from rfl, h, show (31 : Nat) = 2 ^ 5 - 1 from rfl, e, Nat.mod_eq_of_lt (by omega)]

/-! ### The state at first -/
def startW (i : Nat) : UInt32 := UInt32.ofNat ((i + 1) * 2654435769)
theorem startW_val (k : Nat) : ((k : Int) + 1) * 2654435769 % 4294967296 = ((startW k).toNat : Int) := by
  unfold startW
  have e : (UInt32.ofNat ((k + 1) * 2654435769)).toNat = (k + 1) * 2654435769 % 4294967296 := by simp [UInt32.toNat_ofNat']
  rw [e]
  omega
def startTo (k : Nat) : List UInt32 := (List.range 8).map fun i => if i < k then startW i else 0
def startL : List UInt32 := (List.range 8).map startW
theorem startTo_length (k : Nat) : (startTo k).length = 8 := by simp [startTo]
theorem startTo_end : startTo 8 = startL := by
  unfold startTo startL
  refine List.map_congr_left fun i hi => ?_
  rw [if_pos (List.mem_range.1 hi)]
theorem startTo_set (k : Nat) : (startTo k).set k (startW k) = startTo (k + 1) := by
  apply List.ext_getElem
  · simp [startTo]
  · intro i h1 h2
    simp only [startTo, List.getElem_set, List.getElem_map, List.getElem_range]
    by_cases e : k = i
    · subst e; simp
    · have : (i < k) = (i < k + 1) := by simp; omega
      simp [e, this]
theorem startTo_zero : startTo 0 = [0, 0, 0, 0, 0, 0, 0, 0] := by
  simp only [startTo, Nat.not_lt_zero, if_false]
  rfl
theorem zero_cells : cells32 (startTo 0) = #[.int .u32 0, .int .u32 0, .int .u32 0, .int .u32 0, .int .u32 0, .int .u32 0, .int .u32 0, .int .u32 0] := by
  rw [startTo_zero]; rfl
theorem startL_length : startL.length = 8 := by simp [startL]

/-! ### A block is taken -/
def stepI (b : List UInt32) (r : Nat) (s : List UInt32) (i : Nat) : List UInt32 :=
  s.set i (rotl (s.getD i 0 ^^^ b.getD ((i + r) % 8) 0) (5 + 3 * i) + s.getD ((i + 1) % 8) 0 * 2246822507 + UInt32.ofNat (i + r))
def stepsTo (b : List UInt32) (r : Nat) (s : List UInt32) (i : Nat) : List UInt32 := (List.range i).foldl (stepI b r) s
def roundsTo (b : List UInt32) (s : List UInt32) (r : Nat) : List UInt32 := (List.range r).foldl (fun s r => stepsTo b r s 8) s
theorem stepI_length (b s : List UInt32) (r i : Nat) : (stepI b r s i).length = s.length := by simp [stepI]
theorem stepsTo_succ (b s : List UInt32) (r i : Nat) : stepsTo b r s (i + 1) = stepI b r (stepsTo b r s i) i := by simp [stepsTo, List.range_succ]
theorem stepsTo_length (b s : List UInt32) (r i : Nat) : (stepsTo b r s i).length = s.length := by
  induction i with
  | zero => rfl
  | succ i ih => rw [stepsTo_succ, stepI_length, ih]
theorem roundsTo_succ (b s : List UInt32) (r : Nat) : roundsTo b s (r + 1) = stepsTo b r (roundsTo b s r) 8 := by simp [roundsTo, List.range_succ]
theorem roundsTo_length (b s : List UInt32) (r : Nat) : (roundsTo b s r).length = s.length := by
  induction r with
  | zero => rfl
  | succ i ih => rw [roundsTo_succ, stepsTo_length, ih]
theorem xor_val (x y : UInt32) : bits .xor .u32 (x.toNat : Int) (y.toNat : Int) = ((x ^^^ y).toNat : Int) := by
  have hx : x.toNat < 2 ^ 32 := x.toNat_lt
  have hy : y.toNat < 2 ^ 32 := y.toNat_lt
  have hz : x.toNat ^^^ y.toNat < 2 ^ 32 := Nat.xor_lt_two_pow hx hy
  have hb : ((BitVec.ofNat 32 x.toNat) ^^^ (BitVec.ofNat 32 y.toNat)).toNat = x.toNat ^^^ y.toNat := by
    rw [BitVec.toNat_xor, BitVec.toNat_ofNat, BitVec.toNat_ofNat, Nat.mod_eq_of_lt hx, Nat.mod_eq_of_lt hy]
  have hw : bits .xor .u32 (x.toNat : Int) (y.toNat : Int) = IntKind.u32.wrap (((BitVec.ofNat 32 x.toNat) ^^^ (BitVec.ofNat 32 y.toNat)).toNat : Int) := rfl
  rw [hw, hb, IntKind.wrap_u32, UInt32.toNat_xor]
  omega
theorem step_val (x y : UInt32) (k r : Nat) : (((x.toNat : Int) + (y.toNat : Int) * 2246822507 + ((k : Int) + (r : Int))) % 4294967296) = ((x + y * 2246822507 + UInt32.ofNat (k + r)).toNat : Int) := by
  rw [UInt32.toNat_add, UInt32.toNat_add, UInt32.toNat_mul]
  have e : (UInt32.ofNat (k + r)).toNat = (k + r) % 4294967296 := by simp [UInt32.toNat_ofNat']
  have e2 : (2246822507 : UInt32).toNat = 2246822507 := rfl
  rw [e, e2]
  omega
/-! ### A block of bytes as words -/
def wordAt (p : List UInt8) (i : Nat) : UInt32 := UInt32.ofNat ((p.getD (4 * i) 0).toNat + 256 * (p.getD (4 * i + 1) 0).toNat + 65536 * (p.getD (4 * i + 2) 0).toNat + 16777216 * (p.getD (4 * i + 3) 0).toNat)
def blockTo (p : List UInt8) (k : Nat) : List UInt32 := (List.range 8).map fun i => if i < k then wordAt p i else 0
def blockL (p : List UInt8) : List UInt32 := (List.range 8).map (wordAt p)
theorem blockTo_length (p : List UInt8) (k : Nat) : (blockTo p k).length = 8 := by simp [blockTo]
theorem blockL_length (p : List UInt8) : (blockL p).length = 8 := by simp [blockL]
theorem blockTo_end (p : List UInt8) : blockTo p 8 = blockL p := by
  unfold blockTo blockL
  refine List.map_congr_left fun i hi => ?_
  rw [if_pos (List.mem_range.1 hi)]
theorem blockTo_zero (p : List UInt8) : blockTo p 0 = [0, 0, 0, 0, 0, 0, 0, 0] := by
  simp only [blockTo, Nat.not_lt_zero, if_false]
  rfl
theorem blockTo_set (p : List UInt8) (k : Nat) : (blockTo p k).set k (wordAt p k) = blockTo p (k + 1) := by
  apply List.ext_getElem
  · simp [blockTo]
  · intro i h1 h2
    simp only [blockTo, List.getElem_set, List.getElem_map, List.getElem_range]
    by_cases e : k = i
    · subst e; simp
    · have : (i < k) = (i < k + 1) := by simp; omega
      simp [e, this]
theorem cells8_at (l : List UInt8) (k : Nat) (h : k < l.length) : (cells8 l)[k]? = some (.int .u8 ((l.getD k 0).toNat : Int)) := by
  simp [cells8, B8, h]
theorem or_up (i a b : Nat) (h : b < 2 ^ i) : b ||| a * 2 ^ i = b + a * 2 ^ i := by
  rw [Nat.or_comm, Nat.mul_comm a, ← Nat.two_pow_add_eq_or_of_lt h a, Nat.add_comm]
theorem bits_or32 (a b : Nat) (ha : a < 4294967296) (hb : b < 4294967296) : bits .or .u32 (a : Int) (b : Int) = ((a ||| b : Nat) : Int) :=
  (bits_nat .u32 32 (by decide) (fun n h0 h1 => by rw [IntKind.wrap_u32]; omega) a b ha hb).2
theorem or4_val (x0 x1 x2 x3 : UInt8) :
    bits .or .u32 (bits .or .u32 (bits .or .u32 (x0.toNat : Int) ((x1.toNat : Int) * 256 % 4294967296)) ((x2.toNat : Int) * 65536 % 4294967296)) ((x3.toNat : Int) * 16777216 % 4294967296) =
      ((UInt32.ofNat (x0.toNat + 256 * x1.toNat + 65536 * x2.toNat + 16777216 * x3.toNat)).toNat : Int) := by
  have h0 : x0.toNat < 256 := x0.toNat_lt
  have h1 : x1.toNat < 256 := x1.toNat_lt
  have h2 : x2.toNat < 256 := x2.toNat_lt
  have h3 : x3.toNat < 256 := x3.toNat_lt
  generalize x0.toNat = a at *
  generalize x1.toNat = b at *
  generalize x2.toNat = c at *
  generalize x3.toNat = d at *
  have e1 : (b : Int) * 256 % 4294967296 = ((b * 2 ^ 8 : Nat) : Int) := by omega
  have e2 : (c : Int) * 65536 % 4294967296 = ((c * 2 ^ 16 : Nat) : Int) := by omega
  have e3 : (d : Int) * 16777216 % 4294967296 = ((d * 2 ^ 24 : Nat) : Int) := by omega
  have o1 := or_up 8 b a (by omega)
  have o2 := or_up 16 c (a + b * 2 ^ 8) (by omega)
  have o3 := or_up 24 d (a + b * 2 ^ 8 + c * 2 ^ 16) (by omega)
  rw [e1, bits_or32 _ _ (by omega) (by omega), o1, e2, bits_or32 _ _ (by omega) (by omega), o2, e3, bits_or32 _ _ (by omega) (by omega), o3,
    UInt32.toNat_ofNat_of_lt' (by show _ < 4294967296; omega)]
  congr 1
  omega
theorem heap_alloc3 (w : World) (A B C : Obj) : (((w.alloc A).alloc B).alloc C).heap[w.heap.size]? = some A ∧ (((w.alloc A).alloc B).alloc C).heap[w.heap.size + 1]? = some B ∧ (((w.alloc A).alloc B).alloc C).heap[w.heap.size + 2]? = some C := by
  refine ⟨?_, ?_, ?_⟩
  · rw [heap_alloc_old _ _ (by simp; omega), heap_alloc2_old]
  · rw [heap_alloc_old _ _ (by simp), heap_alloc2_new]
  · have h := heap_alloc_new ((w.alloc A).alloc B) C
    have e : ((w.alloc A).alloc B).heap.size = w.heap.size + 2 := by simp
    rwa [e] at h

/-! ### What closes a row of bytes -/
def noughts (n : Nat) : Nat := (32 - (n + 9) % 32) % 32
theorem noughts_val (n : Nat) : (32 - ((n : Int) + 1 + 8) % 32) % 32 = (noughts n : Int) := by unfold noughts; omega
theorem noughts_lt (n : Nat) : noughts n < 32 := Nat.mod_lt _ (by decide)
def zeros8 (m : Nat) : List UInt8 := List.replicate m 0
theorem zeros8_length (m : Nat) : (zeros8 m).length = m := by simp [zeros8]
theorem zeros8_add (a b : Nat) : zeros8 (a + b) = zeros8 a ++ zeros8 b := by simp [zeros8, List.replicate_append_replicate]
theorem zeros8_succ (a : Nat) : zeros8 (a + 1) = 0 :: zeros8 a := by simp [zeros8, List.replicate_succ]
theorem made8 (m : Nat) : madeCells #[.int .u8 0] m = cells8 (zeros8 m) := by
  simp only [madeCells, cells8, zeros8, List.map_replicate]
  apply Array.ext
  · simp
  · intro i h1 h2
    simp [B8, Nat.mod_one]
theorem cells8_set (l : List UInt8) (k : Nat) (x : UInt8) : (cells8 l).setIfInBounds k (.int .u8 (x.toNat : Int)) = cells8 (l.set k x) := by
  simp [cells8, List.setIfInBounds_toArray, List.map_set, B8]
theorem cells8_toList (l : List UInt8) : (cells8 l).toList = l.map B8 := rfl
def numBytes (n k : Nat) : List UInt8 := (List.range k).map fun i => UInt8.ofNat (n / 2 ^ (8 * i))
theorem numBytes_succ (n k : Nat) : numBytes n (k + 1) = numBytes n k ++ [UInt8.ofNat (n / 2 ^ (8 * k))] := by simp [numBytes, List.range_succ]
theorem numBytes_length (n k : Nat) : (numBytes n k).length = k := by simp [numBytes]
def tailTo (n k : Nat) : List UInt8 := (1 :: zeros8 (noughts n)) ++ numBytes n k
def tailL (n : Nat) : List UInt8 := tailTo n 8 ++ zeros8 32
/-! ### Texts, and words as bytes -/
theorem map_B8 (bs : List UInt8) : bs.map B8 = (bs.map fun x => (x.toNat : Int)).map (Value.int .u8) := by
  rw [List.map_map]; rfl
def wordBytes (x : UInt32) : List UInt8 := [UInt8.ofNat x.toNat, UInt8.ofNat (x.toNat / 256), UInt8.ofNat (x.toNat / 65536), UInt8.ofNat (x.toNat / 16777216)]
def wordsBytes (l : List UInt32) : List UInt8 := l.flatMap wordBytes
theorem wordsBytes_succ (l : List UInt32) (k : Nat) (h : k < l.length) : wordsBytes (l.take (k + 1)) = wordsBytes (l.take k) ++ wordBytes (l.getD k 0) := by
  have e : l.getD k 0 = l[k] := by simp [h]
  rw [List.take_succ_eq_append_getElem h, e, wordsBytes, List.flatMap_append]
  simp [wordsBytes]
theorem wordsBytes_length (l : List UInt32) : (wordsBytes l).length = 4 * l.length := by
  induction l with
  | nil => rfl
  | cons x l ih => simp only [wordsBytes, List.flatMap_cons, List.length_append] at *; rw [ih]; simp [wordBytes]; omega
theorem wordBytes_val (x : UInt32) : ([.int .u8 ((x.toNat : Int) % 256), .int .u8 ((x.toNat : Int) / 256 % 256), .int .u8 ((x.toNat : Int) / 65536 % 256), .int .u8 ((x.toNat : Int) / 16777216 % 256)] : List Value) = (wordBytes x).map B8 := by
  simp [wordBytes, B8, UInt8.toNat_ofNat']
end Go.Proofs.Ytckbeeadkiiccaa
namespace Go.Proofs.Ytckbeeadkiiccaa
open Go.RowKit

theorem zeroCells_one (z : Value) (m : Nat) : Builtin.zeroCells #[z] m = (List.replicate m z).toArray := by
  apply Array.ext
  · simp [Builtin.zeroCells]
  · intro i h1 h2
    simp [Builtin.zeroCells, Nat.mod_one]

section
variable {P : Program} (w : World)

theorem run_append_zeros_room (t u ty e : TypeId) (k : IntKind) (i : TypeInfo) (z : Value) (ht : P.underlying t = some (.slice e)) (hu : P.underlying u = some (.int k)) (hi : P.info? e = some i)
    (hz : i.zero = some z) (hzc : z.cells = #[z]) (hs : i.size = 1) (hb : i.bytes = 1)
    (g sLen sCap m : Nat) (cur : Array Value) (hg : w.heap[g]? = some (.cells cur e (0, 0))) (hm0 : 0 < m) (hm : m ≤ 281474976710656) (h1 : z.oneCell' = true)
    (hroom : sLen + m ≤ sCap) (hfit : sLen + m ≤ cur.size) :
    (Builtin.append_ #[t, u] ty #[.slice (some ⟨g, 0, none⟩) sLen sCap, .int .i64 (m : Int)]).run P w =
      .ok (.slice (some ⟨g, 0, none⟩) (sLen + m) sCap) (w.setRow g (cur.toList.take sLen ++ List.replicate m z ++ cur.toList.drop (sLen + m)).toArray) := by
  have hw : IntKind.i64.wrap (m : Int) = (m : Int) := IntWalk.i64_in _ (by omega)
  have hlt : ¬ ((m : Int) < 0) := by omega
  have hbig : ¬ ((m : Int) > 281474976710656) := by omega
  have hst := run_storeCells_at P g sLen e (List.replicate m z) 0 cur w hg (by simpa using hfit) (fun v hv => by rw [(List.mem_replicate.1 hv).2]; exact h1)
  simp only [Nat.add_zero, List.length_replicate] at hst
  have hm1 : m ≠ 0 := by omega
  simp [Builtin.append_, run_underlying ht, run_underlying hu, sizeOf, typeInfo, hi, hs, hb, asInt, asIntOf, hw, hlt, hbig, hroom, hm1, zeroValue, hz, hzc, zeroCells_one, Addr.add_lit, hst]

theorem run_append_zeros (base : Nat) (t u ty e : TypeId) (k : IntKind) (i : TypeInfo) (z : Value) (ht : P.underlying t = some (.slice e)) (hu : P.underlying u = some (.int k)) (hi : P.info? e = some i)
    (hz : i.zero = some z) (hzc : z.cells = #[z]) (hs : i.size = 1) (hb : i.bytes = 1)
    (g n cap m : Nat) (xs : List Value) (hown : w.ownsRow base e 1 (.slice (some ⟨g, 0, none⟩) n cap) n xs) (hm0 : 0 < m) (hm : m ≤ 281474976710656) (h1 : z.oneCell' = true) (hroom : n + m ≤ cap) :
    ∃ w', (Builtin.append_ #[t, u] ty #[.slice (some ⟨g, 0, none⟩) n cap, .int .i64 (m : Int)]).run P w = .ok (.slice (some ⟨g, 0, none⟩) (n + m) cap) w' ∧
      w'.ownsRow base e 1 (.slice (some ⟨g, 0, none⟩) (n + m) cap) (n + m) (xs ++ List.replicate m z) ∧ w.grownBy w' (some g) := by
  have hlen : (xs ++ List.replicate m z).length = (n + m) * 1 := by rw [List.length_append, hown.1, List.length_replicate, Nat.mul_one, Nat.mul_one]
  rcases hown.2 with ⟨h, _⟩ | ⟨g', cap', cur, h, hbg, hg, hnc, hcm, hcs, htake⟩
  · simp at h
  · simp only [Value.slice.injEq, Option.some.injEq, Addr.mk.injEq, and_true, true_and] at h
    obtain ⟨rfl, rfl⟩ := h
    rw [Nat.mul_one] at hcs htake
    have hfit : n + m ≤ cur.size := by omega
    have hr := run_append_zeros_room (P := P) w t u ty e k i z ht hu hi hz hzc hs hb g n cap m cur hg hm0 hm h1 hroom hfit
    refine ⟨_, hr, ⟨hlen, .inr ⟨g, cap, _, rfl, hbg, setRow_heap w g cur _ e _ hg, hroom, hcm, ?_, ?_⟩⟩, ⟨rfl, rfl, rfl, by simp, fun k _ hk => setRow_other w g k _ (fun e => hk (by simp [e]))⟩⟩
    · simp only [List.size_toArray, List.length_append, List.length_take, List.length_drop, Array.length_toList, List.length_replicate]
      omega
    · rw [htake, ← hlen]
      exact List.take_left
end

/-- 'append(t, make([]T, m)...)' within the capacity, as the walk meets it. -/
theorem wpList_append_zeros {P : Program} (w : World) {ops : Array Oper} {rest : List Oper} {o : Oper} {a : Act} {Q : Exit → Act → World → Prop}
    (hgd : o.guard = none) (s x : Operand) (t u : TypeId) (hop : o.op = Op.call { callee := Callee.builtin Builtin.append, args := #[s, x], argTypes := #[t, u] })
    (base : Nat) (e : TypeId) (k : IntKind) (i : TypeInfo) (z : Value) (ht : P.underlying t = some (.slice e)) (hu : P.underlying u = some (.int k)) (hi : P.info? e = some i)
    (hz : i.zero = some z) (hzc : z.cells = #[z]) (hs : i.size = 1) (hb : i.bytes = 1)
    (g n cap m : Nat) (xs : List Value) (hS : a.eval s = .slice (some ⟨g, 0, none⟩) n cap) (hX : a.eval x = .int .i64 (m : Int))
    (hown : w.ownsRow base e 1 (.slice (some ⟨g, 0, none⟩) n cap) n xs) (hm0 : 0 < m) (hm : m ≤ 281474976710656) (h1 : z.oneCell' = true) (hroom : n + m ≤ cap)
    (hK : ∀ w', w'.ownsRow base e 1 (.slice (some ⟨g, 0, none⟩) (n + m) cap) (n + m) (xs ++ List.replicate m z) → w.grownBy w' (some g) → wpList P ops Q rest (a.put o.dst (.slice (some ⟨g, 0, none⟩) (n + m) cap)) w') :
    wpList P ops Q (o :: rest) a w := by
  refine wpList_plain hgd fun K hK' => ?_
  obtain ⟨w', hrun, r1, r2⟩ := run_append_zeros (P := P) w base t u o.type e k i z ht hu hi hz hzc hs hb g n cap m xs hown hm0 hm h1 hroom
  unfold Oper.wp
  simp [execOp, hop, resolve, invoke, builtin, hS, hX, hrun, Result.andThen]
  exact hK' _ _ (hK w' r1 r2)

/-! ### A part of a row that is known whole: read by value, written by value -/
theorem run_loadVar_part {P : Program} (w : World) (g o : Nat) (t ty : TypeId) (A B C : List Value) (fr : Nat × Nat) (d : TypeDesc) (hg : w.heap[g]? = some (.cells (A ++ (B ++ C)).toArray t fr)) (ho : A.length = o)
    (hu : P.underlying ty = some d) (hd : d.isRow = true) (hi : (P.info? ty).map (·.size) = some B.length) :
    (loadVar ty ⟨g, o, none⟩).run P w = .ok (.agg B.toArray) w :=
  run_loadVar_mid w g o ty B d (fun j v hv => by
    rw [cell_of_row w g (o + j) _ t fr hg]
    subst ho
    have hj : j < B.length := (List.getElem?_eq_some_iff.1 hv).1
    simpa [List.getElem?_append, hj] using hv) hu hd hi
theorem run_loadAt_part {P : Program} (w : World) (g o : Nat) (t ty : TypeId) (A B C : List Value) (fr : Nat × Nat) (d : TypeDesc) (hg : w.heap[g]? = some (.cells (A ++ (B ++ C)).toArray t fr)) (ho : A.length = o)
    (hu : P.underlying ty = some d) (hd : d.isRow = true) (hi : (P.info? ty).map (·.size) = some B.length) :
    (Instr.loadAt ty (.pointer (some ⟨g, o, none⟩))).run P w = .ok (.agg B.toArray) w := by
  simp only [Instr.loadAt, Instr.sureAddr, Sem.run_bind, Sem.run_pure, Result.andThen_ok, run_loadVar_part w g o t ty A B C fr d hg ho hu hd hi]
theorem wpList_load_part {P : Program} {ops : Array Oper} {rest : List Oper} {op : Oper} {a : Act} {w : World} {Q : Exit → Act → World → Prop} (hgd : op.guard = none) (ty : TypeId) (x : Operand) (hop : op.op = .load ty x)
    (g o : Nat) (hx : a.eval x = .pointer (some ⟨g, o, none⟩)) (t : TypeId) (A B C : List Value) (fr : Nat × Nat) (d : TypeDesc) (hg : w.heap[g]? = some (.cells (A ++ (B ++ C)).toArray t fr)) (ho : A.length = o)
    (hu : P.underlying ty = some d) (hd : d.isRow = true) (hi : (P.info? ty).map (·.size) = some B.length)
    (h : wpList P ops Q rest (a.put op.dst (.agg B.toArray)) w) : wpList P ops Q (op :: rest) a w :=
  wpList_plain hgd fun _ hK => by
    unfold Oper.wp execOp
    simp only [hop, hx, run_loadAt_part w g o t ty A B C fr d hg ho hu hd hi, Sem.run_bind, Sem.run_pure, Result.andThen_ok]
    exact hK _ _ h

theorem run_storeVar_part {P : Program} (w : World) (g o : Nat) (t ty : TypeId) (A B C B' : List Value) (hg : w.heap[g]? = some (.cells (A ++ (B ++ C)).toArray t (0, 0))) (ho : A.length = o) (hB : B'.length = B.length)
    (hi : (P.info? ty).map (·.size) = some B.length) (h1 : ∀ v ∈ B', v.oneCell' = true) :
    (storeVar ty ⟨g, o, none⟩ (.agg B'.toArray)).run P w = .ok () (w.setRow g (A ++ (B' ++ C)).toArray) := by
  have hst := run_storeCells_at P g o t B' 0 _ w hg (by simp; omega) h1
  subst ho
  have e : (A ++ (B ++ C)).take (A.length + 0) ++ B' ++ (A ++ (B ++ C)).drop (A.length + 0 + B'.length) = A ++ (B' ++ C) := by
    rw [Nat.add_zero, List.take_left, hB, ← List.drop_drop, List.drop_left, List.drop_left, List.append_assoc]
  rw [e] at hst
  cases hq : P.info? ty with
  | none => simp [hq] at hi
  | some i =>
    have hs : B'.length = i.size := by simp [hq] at hi; omega
    simp [storeVar, sizeOf, typeInfo, hq, Value.cells, hs, hst]
theorem run_storeAt_part {P : Program} (w : World) (g o : Nat) (t ty : TypeId) (A B C B' : List Value) (hg : w.heap[g]? = some (.cells (A ++ (B ++ C)).toArray t (0, 0))) (ho : A.length = o) (hB : B'.length = B.length)
    (hi : (P.info? ty).map (·.size) = some B.length) (h1 : ∀ v ∈ B', v.oneCell' = true) :
    (Instr.storeAt ty (.pointer (some ⟨g, o, none⟩)) (.agg B'.toArray)).run P w = .ok () (w.setRow g (A ++ (B' ++ C)).toArray) := by
  simp only [Instr.storeAt, Instr.sureAddr, Sem.run_bind, Sem.run_pure, Result.andThen_ok, run_storeVar_part w g o t ty A B C B' hg ho hB hi h1]
theorem wpList_store_part {P : Program} {ops : Array Oper} {rest : List Oper} {op : Oper} {a : Act} {w : World} {Q : Exit → Act → World → Prop} (hgd : op.guard = none) (ty : TypeId) (x y : Operand) (hop : op.op = .store ty x y)
    (g o : Nat) (B' : List Value) (hx : a.eval x = .pointer (some ⟨g, o, none⟩)) (hy : a.eval y = .agg B'.toArray) (t : TypeId) (A B C : List Value)
    (hg : w.heap[g]? = some (.cells (A ++ (B ++ C)).toArray t (0, 0))) (ho : A.length = o) (hB : B'.length = B.length) (hi : (P.info? ty).map (·.size) = some B.length) (h1 : ∀ v ∈ B', v.oneCell' = true)
    (h : wpList P ops Q rest (a.put op.dst undef) (w.setRow g (A ++ (B' ++ C)).toArray)) : wpList P ops Q (op :: rest) a w :=
  wpList_plain hgd fun _ hK => by
    unfold Oper.wp execOp
    simp only [hop, hx, hy, run_storeAt_part w g o t ty A B C B' hg ho hB hi h1, Sem.run_bind, Sem.run_pure, Result.andThen_ok]
    exact hK _ _ h

/-! ### The frame: one block may have been written, new ones may have come -/
theorem grown_trans {a b c : World} {g : Option Nat} (h : a.grownBy b g) (k : b.grownBy c g) : a.grownBy c g :=
  ⟨k.os.trans h.os, k.tape.trans h.tape, k.output.trans h.output, Nat.le_trans h.size k.size, fun i hi hne => (k.block i (Nat.lt_of_lt_of_le hi h.size) hne).trans (h.block i hi hne)⟩
theorem grown_of_below {w w' : World} (h : Below w.heap.size w w') (g : Option Nat) : w.grownBy w' g := ⟨h.os, h.tape, h.output, h.size, fun k hk _ => h.block k hk⟩
theorem grown_setRow (w : World) (g : Nat) (cs : Array Value) : w.grownBy (w.setRow g cs) (some g) :=
  ⟨rfl, rfl, rfl, by simp, fun k _ hk => setRow_other w g k cs (fun e => hk (by rw [e]))⟩
theorem grown_setCell (w : World) (g j : Nat) (v : Value) : w.grownBy (w.setCell ⟨g, j, none⟩ v) (some g) :=
  ⟨rfl, rfl, rfl, by simp [World.setCell], fun k _ hk => heap_setCell_other w _ k v (fun e => hk (by rw [e]))⟩
theorem grown_drewN (w : World) (n : Nat) (g : Option Nat) : w.grownBy (w.drewN n) g := ⟨rfl, rfl, rfl, Nat.le_refl _, fun _ _ _ => rfl⟩
theorem grown_drew (w : World) (g : Option Nat) : w.grownBy w.drew g := ⟨rfl, rfl, rfl, Nat.le_refl _, fun _ _ _ => rfl⟩
/-- copy into the middle of a row that is known whole: the row behind it, and the frame. -/
theorem wpList_copy_grown {P : Program} {w : World} {ops : Array Oper} {rest : List Oper} {o : Oper} {a : Act} {Q : Exit → Act → World → Prop} (hgd : o.guard = none) (d s : Operand) (dT sT : TypeId)
    (ho : o.op = .call { callee := .builtin .copy, args := #[d, s], argTypes := #[dT, sT] }) (elem : TypeId) (hu : P.underlying dT = some (.slice elem)) (hsz : (P.info? elem).map (·.size) = some 1)
    (g off dLen dCap : Nat) (ad : Addr) (sLen sCap : Nat) (hd : a.eval d = .slice (some ⟨g, off, none⟩) dLen dCap) (hs : a.eval s = .slice (some ad) sLen sCap)
    (cur : List Value) (t : TypeId) (hg : w.heap[g]? = some (.cells cur.toArray t (0, 0))) (cs : List Value) (n : Nat) (hcs : cs.length = n) (hn : n = Nat.min sLen dLen)
    (hsrc : ∀ j v, cs[j]? = some v → w.cell? (ad.add j) = some v) (hfit : off + n ≤ cur.length) (h1 : ∀ v ∈ cs, v.oneCell' = true)
    (h : ∀ w', Hid (w'.heap[g]? = some (.cells (splice cur off cs).toArray t (0, 0))) → w.grownBy w' (some g) → wpList P ops Q rest (a.put o.dst (.int .i64 (n : Int))) w') : wpList P ops Q (o :: rest) a w := by
  subst hcs
  refine wpList_copy_own hgd d s dT sT ho elem hu hsz g off dLen dCap ad sLen sCap hd hs cur.toArray t hg cs hn hsrc (by simpa using hfit) h1 ?_
  exact h _ (show _ = _ by simpa [splice] using setRow_heap w g _ _ t _ hg) (grown_setRow _ _ _)
end Go.Proofs.Ytckbeeadkiiccaa
namespace Go.Proofs.Ytckbeeadkiiccaa
open Go.RowKit
set_option maxRecDepth 100000 in
theorem size34 : (Try.prog.info? 101).map (·.size) = some 8 := by kernel_rfl
set_option maxRecDepth 100000 in
theorem size50 : (Try.prog.info? 107).map (·.size) = some 8 := by kernel_rfl
set_option maxHeartbeats 400000 in
set_option maxRecDepth 100000 in
theorem rot_any (x : Nat) (hx : x < 4294967296) (n : Int) (h5 : 5 ≤ n) (h26 : n ≤ 26) (w : World) :
    Calls Try.prog 82 #[.int .u32 (x : Int), .int .i64 n] w fun e w' => e = .returned (.int .u32 ((rotl (UInt32.ofNat x) n.toNat).toNat : Int)) ∧ w' = w := by
  obtain ⟨n, rfl⟩ := Int.eq_ofNat_of_zero_le (show 0 ≤ n by omega)
  rw [Int.toNat_natCast]
  have hv := and31 n (by omega)
  have hr := rotl_val (UInt32.ofNat x) n
  rw [UInt32.toNat_ofNat_of_lt' hx] at hr
  go_enter Try.func82, Try.ntmps82
  go_wp2
  go_ret
  exact ⟨rfl, rfl⟩
set_option maxHeartbeats 400000 in
set_option maxRecDepth 100000 in
theorem start_any (w : World) :
    Calls Try.prog 68 #[] w fun e w' => e = .returned (.agg (cells32 startL)) ∧ Below w.heap.size w w' := by
  go_enter Try.func68, Try.ntmps68
  go_wp2
  rw [← zero_cells]
  go_loopw [2,3] (fun s i wr => ∃ k : Nat, k ≤ 8 ∧ i = .int .i64 k ∧ wr = (w.alloc (.cells (cells32 (startTo 0)) 101)).alloc (.cells (cells32 (startTo k)) 101)) (fun _ i _ => 8 - (intOf i).toNat)
  case atStart => exact ⟨0, by decide, rfl, rfl⟩
  case round =>
    obtain ⟨k, hk, rfl, rfl⟩ := hrel
    by_cases h : k < 8
    · have hc := cells32_at (startTo k) k (by rw [startTo_length]; exact h)
      go_wp2
      go_roundw
      case rel => exact ⟨k + 1, by omega, by go_num, by rw [startW_val, cells32_set, startTo_set]⟩
      case measure => simp [intOf]; omega
    · obtain rfl : k = 8 := by omega
      obtain ⟨wx, hwx⟩ : ∃ wx, wx = (w.alloc (.cells (cells32 (startTo 0)) 101)).alloc (.cells (cells32 (startTo 8)) 101) := ⟨_, rfl⟩
      have h0 : wx.heap[w.heap.size]? = some (.cells (cells32 (startTo 0)) 101 (0, 0)) := by rw [hwx]; exact heap_alloc2_old _ _ _
      have h1 : wx.heap[w.heap.size + 1]? = some (.cells (cells32 startL) 101 (0, 0)) := by rw [hwx, ← startTo_end]; exact heap_alloc2_new _ _ _
      have hb : Below w.heap.size w wx := by rw [hwx]; exact ((Below.refl _ _).alloc (Nat.le_refl _) _).alloc (by simp) _
      have s8 : (Try.prog.info? 101).map (·.size) = some (cells32 startL).size := by rw [cells32_size, startL_length]; exact size34
      rw [← hwx]
      clear hwx
      have H0 := Lib.hid h0
      have H1 := Lib.hid h1
      have S8 := Lib.hid s8
      clear h0 h1 s8
      go_wp2_with (first | (refine wpList_load_row rfl 101 _ rfl _ rfl _ _ _ _ H1.out Try.underlying101 rfl S8.out ?_) | (refine wpList_store_row rfl 101 _ _ rfl _ _ rfl rfl _ _ H0.out S8.out (by rw [cells32_size, cells32_size, startTo_length, startL_length]) (cells32_one _) ?_))
      try simp only [Exit.inBlock, Exit.then]
      refine bodyPost_ret (results_cell_row Try.results68 _ _ w.heap.size 101 (cells32 startL) (0,0) _ rfl (setRow_heap _ _ _ _ _ _ H0.out) Try.underlying101 rfl S8.out) rfl ?_
      exact ⟨rfl, below_setRow hb (Nat.le_refl _) _⟩
set_option maxHeartbeats 400000 in
set_option maxRecDepth 100000 in
theorem take_any (s b : List UInt32) (hs : s.length = 8) (hb : b.length = 8) (w : World) :
    Calls Try.prog 69 #[.agg (cells32 s), .agg (cells32 b)] w fun e w' => e = .returned (.agg (cells32 (roundsTo b s 8))) ∧ Below w.heap.size w w' := by
  go_enter Try.func69, Try.ntmps69
  go_wp2
  obtain ⟨wx, hwx⟩ : ∃ wx, wx = ((w.alloc (.cells (cells32 s) 101)).alloc (.cells (cells32 b) 107)).alloc (.cells #[.int .u32 0, .int .u32 0, .int .u32 0, .int .u32 0, .int .u32 0, .int .u32 0, .int .u32 0, .int .u32 0] 101) := ⟨_, rfl⟩
  have h0 : wx.heap[w.heap.size]? = some (.cells (cells32 (roundsTo b s 0)) 101 (0, 0)) := by
    rw [hwx, heap_alloc_old _ _ (by simp; omega), heap_alloc2_old]; rfl
  have h1 : wx.heap[w.heap.size + 1]? = some (.cells (cells32 b) 107 (0, 0)) := by
    rw [hwx, heap_alloc_old _ _ (by simp), heap_alloc2_new]
  have h2 : ∃ C, C.size = 8 ∧ wx.heap[w.heap.size + 2]? = some (.cells C 101 (0, 0)) := by
    rw [hwx]
    exact ⟨_, rfl, by simpa using heap_alloc_new ((w.alloc (.cells (cells32 s) 101)).alloc (.cells (cells32 b) 107)) _⟩
  have hbel : Below w.heap.size w wx := by rw [hwx]; exact (((Below.refl _ _).alloc (Nat.le_refl _) _).alloc (by simp) _).alloc (by simp; omega) _
  rw [← hwx]
  clear hwx
  go_loopw [8] (fun i wr => ∃ r : Nat, r ≤ 8 ∧ i = .int .i64 r ∧ wr.heap[w.heap.size]? = some (.cells (cells32 (roundsTo b s r)) 101 (0, 0)) ∧ wr.heap[w.heap.size + 1]? = some (.cells (cells32 b) 107 (0, 0)) ∧ (∃ C, C.size = 8 ∧ wr.heap[w.heap.size + 2]? = some (.cells C 101 (0, 0))) ∧ Below w.heap.size w wr) (fun i _ => 8 - (intOf i).toNat)
  case atStart => exact ⟨0, by omega, rfl, h0, h1, h2, hbel⟩
  case round =>
    clear h0 h1 h2 hbel
    obtain ⟨r, hr, rfl, h0, h1, h2, hbel⟩ := hrel
    by_cases hlt : r < 8
    · have H0 := Lib.hid h0
      have H1 := Lib.hid h1
      have H2 := Lib.hid h2
      clear h0 h1 h2
      obtain ⟨wo, rfl⟩ : ∃ wo : World, wo = wr := ⟨_, rfl⟩
      go_wp2
      go_loopw [6, 7, 11] (fun _ _ i wr => ∃ k : Nat, k ≤ 8 ∧ i = .int .i64 k ∧ wr.heap[w.heap.size]? = some (.cells (cells32 (stepsTo b r (roundsTo b s r) k)) 101 (0, 0)) ∧ wr.heap[w.heap.size + 1]? = some (.cells (cells32 b) 107 (0, 0)) ∧ (∃ C, C.size = 8 ∧ wr.heap[w.heap.size + 2]? = some (.cells C 101 (0, 0))) ∧ Below w.heap.size w wr) (fun _ _ i _ => 8 - (intOf i).toNat)
      case atStart => exact ⟨0, by omega, rfl, H0.out, H1.out, H2.out, hbel⟩
      case round =>
        clear H0 H1 H2 hbel
        obtain ⟨k, hk, rfl, h0, h1, h2, hbel⟩ := hrel
        by_cases hlt2 : k < 8
        · generalize hS : stepsTo b r (roundsTo b s r) k = S at *
          have lS : S.length = 8 := by rw [← hS, stepsTo_length, roundsTo_length, hs]
          have c1 : wr.cell? ⟨w.heap.size, k, none⟩ = some (.int .u32 ((S.getD k 0).toNat : Int)) := by
            rw [cell_of_row _ _ _ _ _ _ h0]; exact cells32_at _ _ (by omega)
          have c2 : wr.cell? ⟨w.heap.size + 1, (k + r) % 8, none⟩ = some (.int .u32 ((b.getD ((k + r) % 8) 0).toNat : Int)) := by
            rw [cell_of_row _ _ _ _ _ _ h1]; exact cells32_at _ _ (by omega)
          have c3 : wr.cell? ⟨w.heap.size, (k + 1) % 8, none⟩ = some (.int .u32 ((S.getD ((k + 1) % 8) 0).toNat : Int)) := by
            rw [cell_of_row _ _ _ _ _ _ h0]; exact cells32_at _ _ (by omega)
          have f1 : wr.frozen? ⟨w.heap.size, k, none⟩ = false := frozen_of_row _ _ _ _ _ h0
          have xv := xor_val (S.getD k 0) (b.getD ((k + r) % 8) 0)
          have hm1 : ((k + r) % 8 : Nat) < 8 := Nat.mod_lt _ (by decide)
          have hm2 : ((k + 1) % 8 : Nat) < 8 := Nat.mod_lt _ (by decide)
          have e4 : ((k : Int) + r).tmod 8 = ((((k + r) % 8 : Nat)) : Int) := by rw [Int.tmod_eq_emod_of_nonneg (by omega)]; omega
          have e5 : ((k : Int) + 1).tmod 8 = ((((k + 1) % 8 : Nat)) : Int) := by rw [Int.tmod_eq_emod_of_nonneg (by omega)]; omega
          have e6 : ((k : Int) + 1) % 8 = ((((k + 1) % 8 : Nat)) : Int) := by omega
          have e1 : IntKind.i64.wrap ((k : Int) + r) = (k : Int) + r := IntWalk.i64_in _ (by omega)
          have e2 : IntKind.i64.wrap (3 * (k : Int)) = 3 * (k : Int) := IntWalk.i64_in _ (by omega)
          have e3 : IntKind.i64.wrap (5 + 3 * (k : Int)) = 5 + 3 * (k : Int) := IntWalk.i64_in _ (by omega)
          have H0 := Lib.hid h0
          have H1 := Lib.hid h1
          have H2 := Lib.hid h2
          have HS := Lib.hid hS
          have LS := Lib.hid lS
          clear h0 h1 h2 hS lS
          generalize hX1 : S.getD k 0 = x1 at *
          generalize hX2 : b.getD ((k + r) % 8) 0 = x2 at *
          generalize hX3 : S.getD ((k + 1) % 8) 0 = x3 at *
          have hfin : S.set k (rotl (x1 ^^^ x2) (5 + 3 * k) + x3 * 2246822507 + UInt32.ofNat (k + r)) = stepI b r S k := by
            unfold stepI; rw [hX1, hX2, hX3]
          have HF := Lib.hid hfin
          clear hfin hX1 hX2 hX3
          generalize hM1 : (k + r) % 8 = m1 at *
          generalize hM2 : (k + 1) % 8 = m2 at *
          have HM1 := Lib.hid hM1
          have HM2 := Lib.hid hM2
          clear hM1 hM2
          go_wp2
          go_quiet ((go_at_call 82; exact Calls.quiet_of_same (rot_any (x1 ^^^ x2).toNat (x1 ^^^ x2).toNat_lt _ (by omega) (by omega) _)))
          rw [UInt32.ofNat_toNat]
          go_wp2
          go_roundw
          case rel =>
            refine ⟨k + 1, by omega, by go_num, ?_, ?_, ?_, ?_⟩
            · rw [step_val, heap_setCell_same _ _ _ _ _ _ (by rw [heap_drewN]; exact H0.out), cells32_set, stepsTo_succ, HS.out, HF.out]
            · rw [heap_setCell_other _ _ _ _ (by simp), heap_drewN]; exact H1.out
            · obtain ⟨C, hC, h2⟩ := H2.out
              exact ⟨C, hC, by rw [heap_setCell_other _ _ _ _ (by simp), heap_drewN]; exact h2⟩
            · exact (below_drewN hbel _).setCell (Nat.le_refl _) _
          case measure => simp [intOf]; omega
        · obtain rfl : k = 8 := by omega
          have H0 := Lib.hid h0
          have H1 := Lib.hid h1
          have H2 := Lib.hid h2
          clear h0 h1 h2
          go_wp2
          go_roundw
          case rel => exact ⟨r + 1, by omega, by go_num, by rw [roundsTo_succ]; exact H0.out, H1.out, H2.out, hbel⟩
          case measure => simp [intOf]; omega
    · obtain rfl : r = 8 := by omega
      obtain ⟨C, hC, h2⟩ := h2
      have H0 := Lib.hid h0
      have H2 := Lib.hid h2
      have hC' := Lib.hid hC
      have s8 : (Try.prog.info? 101).map (·.size) = some (cells32 (roundsTo b s 8)).size := by rw [cells32_size, roundsTo_length, hs]; exact size34
      have S8 := Lib.hid s8
      have s9 : C.size = (cells32 (roundsTo b s 8)).size := by rw [cells32_size, roundsTo_length, hs, hC]
      have S9 := Lib.hid s9
      clear h0 h1 h2 s8 hC s9
      go_wp2_with (first | (refine wpList_load_row rfl 101 _ rfl _ rfl _ _ _ _ H0.out Try.underlying101 rfl S8.out ?_) | (refine wpList_store_row rfl 101 _ _ rfl _ _ rfl rfl _ _ H2.out S8.out S9.out (cells32_one _) ?_))
      try simp only [Exit.inBlock, Exit.then]
      refine bodyPost_ret (results_cell_row Try.results69 _ _ (w.heap.size + 2) 101 (cells32 (roundsTo b s 8)) (0,0) _ rfl (setRow_heap _ _ _ _ _ _ H2.out) Try.underlying101 rfl S8.out) rfl ?_
      exact ⟨rfl, below_setRow hbel (by omega) _⟩
set_option maxRecDepth 100000 in
theorem arrayLen35 : Try.prog.arrayLen 102 = 32 := by kernel_rfl
set_option maxRecDepth 100000 in
theorem slice32_any (ki : IntKind) (a : Addr) (l : Nat) (hl : l < 32) (W : World) : (Instr.sliceAt 102 (.pointer (some a)) (some (.int ki (l : Int))) none none).run Try.prog W = .ok (.slice (some (a.add l)) (32 - l) (32 - l)) W := by
  rw [run_sliceAt_array_l W 102 a (by kernel_rfl) ki (l : Int) (by omega) (by rw [arrayLen35]; omega)]
  have e : sizeOf (Try.prog.elem 102) = sizeOf 5 := by congr 1
  have h1 : ∀ w, (sizeOf 5).run Try.prog w = .ok 1 w := fun w => by kernel_rfl
  rw [e, arrayLen35, h1]
  simp only [Result.andThen_ok, slicedAt, Int.toNat_natCast, Nat.mul_one]
  rw [if_neg (by omega)]
set_option maxHeartbeats 400000 in
set_option maxRecDepth 100000 in
theorem blockOf_any (p : List UInt8) (hp : p.length = 32) (w : World) :
    Calls Try.prog 70 #[.agg (cells8 p)] w fun e w' => e = .returned (.agg (cells32 (blockL p))) ∧ Below w.heap.size w w' := by
  go_enter Try.func70, Try.ntmps70
  go_wp2
  obtain ⟨wx, hwx⟩ : ∃ wx, wx = ((w.alloc (.cells (cells8 p) 102)).alloc (.cells #[.int .u32 0, .int .u32 0, .int .u32 0, .int .u32 0, .int .u32 0, .int .u32 0, .int .u32 0, .int .u32 0] 107)).alloc (.cells #[.int .u32 0, .int .u32 0, .int .u32 0, .int .u32 0, .int .u32 0, .int .u32 0, .int .u32 0, .int .u32 0] 107) := ⟨_, rfl⟩
  have h0 : wx.heap[w.heap.size]? = some (.cells (cells8 p) 102 (0, 0)) := by rw [hwx]; exact (heap_alloc3 _ _ _ _).1
  have h1 : ∃ C, C.size = 8 ∧ wx.heap[w.heap.size + 1]? = some (.cells C 107 (0, 0)) := by rw [hwx]; exact ⟨_, rfl, (heap_alloc3 _ _ _ _).2.1⟩
  have h2 : wx.heap[w.heap.size + 2]? = some (.cells (cells32 (blockTo p 0)) 107 (0, 0)) := by rw [hwx, blockTo_zero]; exact (heap_alloc3 _ _ _ _).2.2
  have hbel : Below w.heap.size w wx := by rw [hwx]; exact (((Below.refl _ _).alloc (Nat.le_refl _) _).alloc (by simp) _).alloc (by simp; omega) _
  rw [← hwx]
  clear hwx
  go_loopw [6] (fun i wr => ∃ k : Nat, k ≤ 8 ∧ i = .int .i64 k ∧ wr.heap[w.heap.size]? = some (.cells (cells8 p) 102 (0, 0)) ∧ (∃ C, C.size = 8 ∧ wr.heap[w.heap.size + 1]? = some (.cells C 107 (0, 0))) ∧ wr.heap[w.heap.size + 2]? = some (.cells (cells32 (blockTo p k)) 107 (0, 0)) ∧ Below w.heap.size w wr) (fun i _ => 8 - (intOf i).toNat)
  case atStart => exact ⟨0, by omega, rfl, h0, h1, h2, hbel⟩
  case round =>
    clear h0 h1 h2 hbel
    obtain ⟨k, hk, rfl, h0, h1, h2, hbel⟩ := hrel
    by_cases hlt : k < 8
    · have c0 : wr.cell? ⟨w.heap.size, 4 * k, none⟩ = some (.int .u8 ((p.getD (4 * k) 0).toNat : Int)) := by
        rw [cell_of_row _ _ _ _ _ _ h0]; exact cells8_at _ _ (by omega)
      have c1 : wr.cell? ⟨w.heap.size, 4 * k + 1, none⟩ = some (.int .u8 ((p.getD (4 * k + 1) 0).toNat : Int)) := by
        rw [cell_of_row _ _ _ _ _ _ h0]; exact cells8_at _ _ (by omega)
      have c2 : wr.cell? ⟨w.heap.size, 4 * k + 2, none⟩ = some (.int .u8 ((p.getD (4 * k + 2) 0).toNat : Int)) := by
        rw [cell_of_row _ _ _ _ _ _ h0]; exact cells8_at _ _ (by omega)
      have c3 : wr.cell? ⟨w.heap.size, 4 * k + 3, none⟩ = some (.int .u8 ((p.getD (4 * k + 3) 0).toNat : Int)) := by
        rw [cell_of_row _ _ _ _ _ _ h0]; exact cells8_at _ _ (by omega)
      have c4 : wr.cell? ⟨w.heap.size + 2, k, none⟩ = some (.int .u32 (((blockTo p k).getD k 0).toNat : Int)) := by
        rw [cell_of_row _ _ _ _ _ _ h2]; exact cells32_at _ _ (by rw [blockTo_length]; exact hlt)
      have f4 : wr.frozen? ⟨w.heap.size + 2, k, none⟩ = false := frozen_of_row _ _ _ _ _ h2
      have hsl : ∀ W, (Instr.sliceAt 102 (.pointer (some ⟨w.heap.size, 0, none⟩)) (some (.int .i64 (4 * (k : Int)))) none none).run Try.prog W = .ok (.slice (some ⟨w.heap.size, 4 * k, none⟩) (32 - 4 * k) (32 - 4 * k)) W := fun W => by
        have h := slice32_any .i64 ⟨w.heap.size, 0, none⟩ (4 * k) (by omega) W
        rw [Addr.add_lit] at h
        simpa using h
      obtain ⟨L, hL⟩ : ∃ L, L = 32 - 4 * k := ⟨_, rfl⟩
      rw [← hL] at hsl
      have l0 : 0 < L := by omega
      have l1 : 1 < L := by omega
      have l2 : 2 < L := by omega
      have l3 : 3 < L := by omega
      have l0i : (0 : Int) < (L : Int) := by omega
      have l1i : (1 : Int) < (L : Int) := by omega
      have l2i : (2 : Int) < (L : Int) := by omega
      have l3i : (3 : Int) < (L : Int) := by omega
      have HL := Lib.hid hL
      clear hL
      have e0 : (4 * k : Nat) < 32 := by omega
      generalize hx0 : p.getD (4 * k) 0 = x0 at *
      generalize hx1 : p.getD (4 * k + 1) 0 = x1 at *
      generalize hx2 : p.getD (4 * k + 2) 0 = x2 at *
      generalize hx3 : p.getD (4 * k + 3) 0 = x3 at *
      have hwr : ∀ x : UInt8, IntKind.u32.wrap (x.toNat : Int) = (x.toNat : Int) := fun x => IntWalk.u32_in _ (by have := x.toNat_lt; omega)
      have hw0 := hwr x0
      have hw1 := hwr x1
      have hw2 := hwr x2
      have hw3 := hwr x3
      clear hwr
      have hfin : UInt32.ofNat (x0.toNat + 256 * x1.toNat + 65536 * x2.toNat + 16777216 * x3.toNat) = wordAt p k := by
        unfold wordAt; rw [hx0, hx1, hx2, hx3]
      have HF := Lib.hid hfin
      clear hx0 hx1 hx2 hx3 hfin
      have H0 := Lib.hid h0
      have H1 := Lib.hid h1
      have H2 := Lib.hid h2
      clear h0 h1 h2
      go_wp2
      refine wp_region_still_tail 24 (by kernel_rfl) (by kernel_rfl) ?_
      simp only [List.take_succ_cons, List.take_zero, List.drop_succ_cons, List.drop_zero]
      change wpStill _ _ wr.drew (fun a' => wpList _ _ _ _ a' wr.drew) _ _
      repeat still_step
      refine wpStill_nil ?_
      go_wp2
      go_roundw
      case rel =>
        refine ⟨k + 1, by omega, by go_num, ?_, ?_, ?_, ?_⟩
        · show (World.setCell _ _ _).heap[_]? = _
          rw [heap_setCell_other _ _ _ _ (by simp; omega)]; exact H0.out
        · obtain ⟨C, hC, h1⟩ := H1.out
          refine ⟨C, hC, ?_⟩
          show (World.setCell _ _ _).heap[_]? = _
          rw [heap_setCell_other _ _ _ _ (by simp)]; exact h1
        · show (World.setCell _ _ _).heap[_]? = _
          rw [or4_val, heap_setCell_same _ _ _ _ _ _ H2.out, cells32_set, HF.out, blockTo_set]
        · exact (hbel.setCell (by simp; omega) _).drew
      case measure => simp [intOf]; omega
    · obtain rfl : k = 8 := by omega
      obtain ⟨C, hC, h1⟩ := h1
      rw [blockTo_end] at h2
      have H1 := Lib.hid h1
      have H2 := Lib.hid h2
      have s8 : (Try.prog.info? 107).map (·.size) = some (cells32 (blockL p)).size := by rw [cells32_size, blockL_length]; exact size50
      have S8 := Lib.hid s8
      have s9 : C.size = (cells32 (blockL p)).size := by rw [cells32_size, blockL_length, hC]
      have S9 := Lib.hid s9
      clear h0 h1 h2 s8 hC s9
      go_wp2_with (first | (refine wpList_load_row rfl 107 _ rfl _ rfl _ _ _ _ H2.out Try.underlying107 rfl S8.out ?_) | (refine wpList_store_row rfl 107 _ _ rfl _ _ rfl rfl _ _ H1.out S8.out S9.out (cells32_one _) ?_))
      try simp only [Exit.inBlock, Exit.then]
      refine bodyPost_ret (results_cell_row Try.results70 _ _ (w.heap.size + 1) 107 (cells32 (blockL p)) (0,0) _ rfl (setRow_heap _ _ _ _ _ _ H1.out) Try.underlying107 rfl S8.out) rfl ?_
      exact ⟨rfl, below_setRow hbel (by omega) _⟩
set_option maxHeartbeats 400000 in
set_option maxRecDepth 100000 in
theorem tail_any (n : Nat) (hn : n ≤ 562949953421312) (w : World) :
    Calls Try.prog 71 #[.int .u64 (n : Int)] w fun e w' => ∃ v, e = .returned v ∧ w'.ownsRow w.heap.size 5 1 v (tailL n).length ((tailL n).map B8) ∧ Below w.heap.size w w' := by
  obtain ⟨i0, hi, hz0, hz1, hz2⟩ := info_parts info5
  have hN := noughts_val n
  have hN2 := noughts_lt n
  have hz := zeros8_length (41 + noughts n)
  have hc0 : (cells8 (zeros8 (41 + noughts n)))[0]? = some (.int .u8 (((zeros8 (41 + noughts n)).getD 0 0).toNat : Int)) := cells8_at _ _ (by rw [hz]; omega)
  have hset : (cells8 (zeros8 (41 + noughts n))).setIfInBounds 0 (.int .u8 1) = cells8 ((1 :: zeros8 (noughts n)) ++ zeros8 40) := by
    rw [show (.int .u8 1 : Value) = .int .u8 ((1 : UInt8).toNat : Int) from rfl, cells8_set]
    congr 1
    rw [show 41 + noughts n = (noughts n + 40) + 1 by omega, zeros8_succ, zeros8_add]
    rfl
  generalize hN3 : noughts n = N at *
  have HN3 := Lib.hid hN3
  have HZ := Lib.hid hz
  have HS := Lib.hid hset
  clear hN3 hz hset
  have hmk : ∀ u : World, (Instr.makeSlice 22 (.int .u64 (1 + (N : Int))) (.int .u64 (1 + (N : Int) + 8 + 32))).run Try.prog u =
      .ok (.slice (some ⟨u.heap.size, 0, none⟩) (1 + N) (41 + N)) (u.alloc (.cells (cells8 (zeros8 (41 + N))) 5)) := fun u => by
    have h := run_make (P := Try.prog) u 22 5 i0 (.int .u8 0) Try.underlying22 hi hz0 .u64 .u64 (1 + (N : Int)) (1 + (N : Int) + 8 + 32) (by omega) (by omega) (by rw [hz2]; omega) (by omega)
    have e1 : (1 + (N : Int)).toNat = 1 + N := by omega
    have e2 : (1 + (N : Int) + 8 + 32).toNat = 41 + N := by omega
    rw [e1, e2] at h
    simpa [hz1, Value.cells, made8] using h
  go_enter Try.func71, Try.ntmps71
  go_wp2
  rw [HS.out]
  obtain ⟨wx, hwx⟩ : ∃ wx, wx = w.alloc (.cells (cells8 ((1 :: zeros8 N) ++ zeros8 40)) 5) := ⟨_, rfl⟩
  have hown : wx.ownsRow w.heap.size 5 1 (.slice (some ⟨w.heap.size, 0, none⟩) (1 + N) (41 + N)) (1 + N) ((tailTo n 0).map B8) := by
    rw [hwx]
    refine owns_of_row (heap_alloc_new _ _) (Nat.le_refl _) (by omega) (by unfold maxLen; omega) (by simp [cells8_size, zeros8_length]; omega) (by simp [tailTo, HN3.out, zeros8_length, numBytes_length]; omega) ?_
    rw [cells8_toList, ← List.map_take, List.take_left' (by simp [zeros8_length]; omega)]
    simp [tailTo, HN3.out, numBytes]
  have hbel : Below w.heap.size w wx := by rw [hwx]; exact (Below.refl _ _).alloc (Nat.le_refl _) _
  rw [← hwx]
  clear hwx
  have HO := Lib.hid hown
  clear hown
  rw [hN]
  clear hN
  go_loopw [4, 5, 21] (fun v _ i wr => ∃ k : Nat, k ≤ 8 ∧ i = .int .i64 k ∧ v = .slice (some ⟨w.heap.size, 0, none⟩) (1 + N + k) (41 + N) ∧ wr.ownsRow w.heap.size 5 1 (.slice (some ⟨w.heap.size, 0, none⟩) (1 + N + k) (41 + N)) (1 + N + k) ((tailTo n k).map B8) ∧ Below w.heap.size w wr) (fun _ _ i _ => 8 - (intOf i).toNat)
  case atStart => exact ⟨0, by omega, rfl, rfl, HO.out, hbel⟩
  case round =>
    clear HO hbel
    obtain ⟨k, hk, rfl, rfl, hown, hbel⟩ := hrel
    have HO := Lib.hid hown
    clear hown
    by_cases hlt : k < 8
    · go_wp2_with (at_builtin; refine wpList_append_fits _ rfl _ _ 22 rfl w.heap.size 5 i0 1 Try.underlying22 hi hz1 w.heap.size (1 + N + k) (41 + N) _ rfl (HO.out.alloc _) ⟨wr.heap.size, 0, none⟩ 1 1 [.int .u8 ((n : Int) / 2 ^ (8 * k) % 256)] rfl rfl (cell_one_new _ _ _) (by simp [Value.oneCell']) (by omega) ?_; intro w1 hown1 hgrow1; have HO1 := Lib.hid hown1; have HG1 := Lib.hid hgrow1; clear hown1 hgrow1)
      go_roundw
      case rel =>
        refine ⟨k + 1, by omega, by go_num, by rw [Nat.add_assoc], ?_, ?_⟩
        · have h := HO1.out
          have e : (.int .u8 ((n : Int) / 2 ^ (8 * k) % 256) : Value) = B8 (UInt8.ofNat (n / 2 ^ (8 * k))) := by
            unfold B8
            congr 1
          rw [e] at h
          rw [Nat.add_assoc] at h
          simpa [tailTo, numBytes_succ] using h
        · exact (hbel.alloc hbel.size _).grown HG1.out (by have := hbel.size; simp; omega) (fun k hk => by cases hk; exact Nat.le_refl _)
      case measure => simp [intOf]; omega
    · obtain rfl : k = 8 := by omega
      go_wp2_with (refine wpList_append_zeros _ rfl _ _ 22 3 rfl w.heap.size 5 .i64 i0 _ Try.underlying22 Try.underlying3 hi hz0 rfl hz1 hz2 w.heap.size (1 + N + 8) (41 + N) 32 _ rfl rfl HO.out (by decide) (by decide) rfl (by omega) ?_; intro w1 hown1 hgrow1; have HO1 := Lib.hid hown1; have HG1 := Lib.hid hgrow1; clear hown1 hgrow1)
      go_ret
      refine ⟨_, rfl, ?_, ?_⟩
      · have h := HO1.out
        have e : (tailL n).length = 1 + N + 8 + 32 := by simp [tailL, tailTo, zeros8_length, numBytes_length, HN3.out]; omega
        rw [e]
        simpa [tailL, zeros8, B8] using h
      · exact hbel.grown HG1.out (by have := hbel.size; omega) (fun k hk => by cases hk; exact Nat.le_refl _)
/-- string(v) of a slice that the call owns. -/
theorem convert_own {w : World} {base : Nat} {v : Value} {bs : List UInt8} (h : w.ownsRow base 5 1 v bs.length (bs.map B8)) : (convert 22 9 v).run Try.prog w = .ok (.string (SL bs)) w := by
  rcases h.2 with ⟨rfl, hn⟩ | ⟨g, cap, cur, rfl, _, hg, hnc, _, hcs, htake⟩
  · have : bs = [] := List.eq_nil_of_length_eq_zero hn
    subst this
    rw [run_convert_bytes_nil (P := Try.prog) w 22 5 Try.underlying22 Try.underlying5 0 0 9 Try.underlying9]
    rfl
  · rw [run_convert_bytes_arg (P := Try.prog) w 22 5 Try.underlying22 Try.underlying5 g 0 bs.length cap (bs.map fun x => (x.toNat : Int)) (by simp) (fun i hi => ?_) 9 Try.underlying9, strOfNums_map]
    rw [Nat.zero_add, h.cellAt i (by simpa using hi)]
    simp [B8, hi]
set_option maxRecDepth 100000 in
theorem index34 (cs : Array Value) (k : Nat) (v : Value) (hk : k < 8) (hv : cs[k]? = some v) (W : World) : (Instr.index 101 (.agg cs) (.int .i64 (k : Int))).run Try.prog W = .ok v W := by
  have h1 : (isAgg 86).run Try.prog W = .ok false W := by kernel_rfl
  have h2 : (sizeOf 86).run Try.prog W = .ok 1 W := by kernel_rfl
  have h3 : (0 ≤ (k : Int) ∧ (k : Int) < (8 : Nat)) := by omega
  simp only [Instr.index, asIntOf, Sem.run_bind, Sem.run_pure, Result.andThen_ok, run_underlying Try.underlying101, if_pos h3, h2, part, h1]
  simp [hv]
set_option maxHeartbeats 400000 in
set_option maxRecDepth 100000 in
theorem text_any (s : List UInt32) (hs : s.length = 8) (w : World) :
    Calls Try.prog 72 #[.agg (cells32 s)] w fun e w' => e = .returned (.string (SL (wordsBytes s))) ∧ Below w.heap.size w w' := by
  obtain ⟨i0, hi, hz0, hz1, hz2⟩ := info_parts info5
  have hmk : ∀ u : World, (Instr.makeSlice 22 (.int .i64 0) (.int .i64 32)).run Try.prog u =
      .ok (.slice (some ⟨u.heap.size, 0, none⟩) 0 32) (u.alloc (.cells (cells8 (zeros8 32)) 5)) := fun u => by
    have h := run_make (P := Try.prog) u 22 5 i0 (.int .u8 0) Try.underlying22 hi hz0 .i64 .i64 0 32 (by omega) (by omega) (by rw [hz2]; omega) (by omega)
    simpa [hz1, Value.cells, made8] using h
  have s8 : (Try.prog.info? 101).map (·.size) = some (cells32 s).size := by rw [cells32_size, hs]; exact size34
  have S8 := Lib.hid s8
  clear s8
  go_enter Try.func72, Try.ntmps72
  go_wp2_with (refine wpList_load_row rfl 101 _ rfl _ rfl _ _ _ _ (heap_alloc2_old _ _ _) Try.underlying101 rfl S8.out ?_)
  obtain ⟨wx, hwx⟩ : ∃ wx, wx = (w.alloc (.cells (cells32 s) 101)).alloc (.cells (cells8 (zeros8 32)) 5) := ⟨_, rfl⟩
  have hown : wx.ownsRow w.heap.size 5 1 (.slice (some ⟨w.heap.size + 1, 0, none⟩) 0 32) 0 ((wordsBytes (s.take 0)).map B8) := by
    rw [hwx]
    exact owns_of_row (heap_alloc2_new _ _ _) (by omega) (by omega) (by unfold maxLen; omega) (by simp [cells8_size, zeros8_length]) (by simp [wordsBytes]) (by simp [wordsBytes])
  have hbel : Below w.heap.size w wx := by rw [hwx]; exact ((Below.refl _ _).alloc (Nat.le_refl _) _).alloc (by simp) _
  rw [← hwx]
  clear hwx
  have HO := Lib.hid hown
  clear hown
  have HS := Lib.hid hs
  clear hs
  go_loopw [3, 8] (fun v i wr => ∃ k : Nat, k ≤ 8 ∧ i = .int .i64 k ∧ v = .slice (some ⟨w.heap.size + 1, 0, none⟩) (4 * k) 32 ∧ wr.ownsRow w.heap.size 5 1 (.slice (some ⟨w.heap.size + 1, 0, none⟩) (4 * k) 32) (4 * k) ((wordsBytes (s.take k)).map B8) ∧ Below w.heap.size w wr) (fun _ i _ => 8 - (intOf i).toNat)
  case atStart => exact ⟨0, by omega, rfl, rfl, HO.out, hbel⟩
  case round =>
    clear HO hbel
    obtain ⟨k, hk, rfl, rfl, hown, hbel⟩ := hrel
    have HO := Lib.hid hown
    clear hown
    by_cases hlt : k < 8
    · have hix := index34 (cells32 s) k _ hlt (cells32_at s k (by rw [HS.out]; exact hlt))
      generalize hX : s.getD k 0 = x at *
      have HX := Lib.hid hX
      clear hX
      go_wp2_with (at_builtin; refine wpList_append_fits _ rfl _ _ 22 rfl w.heap.size 5 i0 1 Try.underlying22 hi hz1 (w.heap.size + 1) (4 * k) 32 _ rfl (HO.out.alloc _) ⟨wr.heap.size, 0, none⟩ 4 4 _ rfl rfl (cells_new _ _ _) (by simp [Value.oneCell']) (by omega) ?_; intro w1 hown1 hgrow1; have HO1 := Lib.hid hown1; have HG1 := Lib.hid hgrow1; clear hown1 hgrow1)
      go_roundw
      case rel =>
        refine ⟨k + 1, by omega, by go_num, rfl, ?_, ?_⟩
        · have h := HO1.out
          rw [wordBytes_val, ← List.map_append, ← HX.out, ← wordsBytes_succ _ _ (by rw [HS.out]; exact hlt)] at h
          exact h
        · exact (hbel.alloc hbel.size _).grown HG1.out (by have := hbel.size; simp; omega) (fun k hk => by cases hk; omega)
      case measure => simp [intOf]; omega
    · obtain rfl : k = 8 := by omega
      have h := HO.out
      rw [List.take_of_length_le (by rw [HS.out]; exact Nat.le_refl _)] at h
      have hl := wordsBytes_length s
      rw [HS.out] at hl
      have hcv := convert_own (w := wr) (base := w.heap.size) (v := .slice (some ⟨w.heap.size + 1, 0, none⟩) 32 32) (bs := wordsBytes s) (by rw [hl]; exact h)
      clear h hl
      go_wp2
      go_ret
      exact ⟨rfl, hbel⟩
end Go.Proofs.Ytckbeeadkiiccaa
namespace Go.Proofs.Ytckbeeadkiiccaa
open Go.RowKit

/-- The state behind the first k blocks of l. -/
def absorbTo (l : List UInt8) (k : Nat) : List UInt32 := (List.range k).foldl (fun s i => roundsTo (blockL ((l.drop (32 * i)).take 32)) s 8) startL
def absorb (l : List UInt8) : List UInt32 := absorbTo l (l.length / 32)
/-- The hash. -/
def sumL (l : List UInt8) : List UInt8 := wordsBytes (absorb (l ++ tailL l.length))

set_option maxRecDepth 100000 in
theorem startL_len : startL.length = 8 := startL_length
set_option maxRecDepth 100000 in
theorem absorbTo_succ (l : List UInt8) (k : Nat) : absorbTo l (k + 1) = roundsTo (blockL ((l.drop (32 * k)).take 32)) (absorbTo l k) 8 := by simp [absorbTo, List.range_succ]
set_option maxRecDepth 100000 in
theorem absorbTo_zero (l : List UInt8) : absorbTo l 0 = startL := by simp only [absorbTo, List.range_zero, List.foldl_nil]
set_option maxRecDepth 100000 in
theorem absorbTo_length (l : List UInt8) (k : Nat) : (absorbTo l k).length = 8 := by
  induction k with
  | zero => rw [absorbTo_zero]; exact startL_length
  | succ k ih => rw [absorbTo_succ, roundsTo_length, ih]
set_option maxRecDepth 100000 in
theorem absorb_length (l : List UInt8) : (absorb l).length = 8 := absorbTo_length _ _
set_option maxRecDepth 100000 in
theorem sumL_length (l : List UInt8) : (sumL l).length = 32 := by rw [sumL, wordsBytes_length, absorb_length]
set_option maxRecDepth 100000 in
theorem absorbTo_append (l m : List UInt8) (k : Nat) (h : 32 * k ≤ l.length) : absorbTo (l ++ m) k = absorbTo l k := by
  induction k with
  | zero => rw [absorbTo_zero, absorbTo_zero]
  | succ k ih =>
    have e : ((l ++ m).drop (32 * k)).take 32 = (l.drop (32 * k)).take 32 := by
      rw [List.drop_append_of_le_length (by omega), List.take_append_of_le_length (by simp; omega)]
    rw [absorbTo_succ, absorbTo_succ, ih (by omega), e]
set_option maxRecDepth 100000 in
theorem absorb_nil : absorb [] = startL := absorbTo_zero _

/-- What lies behind the last whole block. -/
def restOf (l : List UInt8) : List UInt8 := l.drop (32 * (l.length / 32))
set_option maxRecDepth 100000 in
theorem restOf_length (l : List UInt8) : (restOf l).length = l.length % 32 := by simp [restOf]; omega

/-- More bytes come, and no block is filled. -/
theorem absorb_less (l c : List UInt8) (h : l.length % 32 + c.length < 32) : absorb (l ++ c) = absorb l ∧ restOf (l ++ c) = restOf l ++ c := by
  have e : (l ++ c).length / 32 = l.length / 32 := by simp; omega
  refine ⟨?_, ?_⟩
  · unfold absorb; rw [e, absorbTo_append _ _ _ (by omega)]
  · unfold restOf; rw [e, List.drop_append_of_le_length (by omega)]
/-- More bytes come, and just one block is filled. -/
theorem absorb_full (l c : List UInt8) (h : l.length % 32 + c.length = 32) : absorb (l ++ c) = roundsTo (blockL (restOf l ++ c)) (absorb l) 8 ∧ restOf (l ++ c) = [] := by
  have e : (l ++ c).length / 32 = l.length / 32 + 1 := by simp; omega
  refine ⟨?_, ?_⟩
  · unfold absorb
    have e2 : ((l ++ c).drop (32 * (l.length / 32))).take 32 = restOf l ++ c := by
      rw [List.drop_append_of_le_length (by omega), List.take_of_length_le (by simp; omega), restOf]
    rw [e, absorbTo_succ, absorbTo_append _ _ _ (by omega), e2]
  · unfold restOf; rw [e]; apply List.drop_eq_nil_of_le; simp; omega

/-- The cells of a run. -/
def runCells (n : Nat) (st : List UInt32) (rest : List UInt8) : List Value := .int .u64 (n : Int) :: (st.map W32 ++ rest.map B8)
/-- A run that was given the bytes l, as far as its cells tell: behind the first byte its state is what the whole blocks have made. -/
structure RunIs (l : List UInt8) (st : List UInt32) (rest : List UInt8) : Prop where
  st8 : st.length = 8
  rest32 : rest.length = 32
  state : l ≠ [] → st = absorb l
  tail : rest.take (l.length % 32) = restOf l
set_option maxRecDepth 100000 in
theorem RunIs.zero : RunIs [] [0, 0, 0, 0, 0, 0, 0, 0] (zeros8 32) := ⟨rfl, rfl, fun h => absurd rfl h, rfl⟩

def RunAt (w : World) (g : Nat) (l : List UInt8) : Prop := ∃ st rest, RunIs l st rest ∧ w.heap[g]? = some (.cells (runCells l.length st rest).toArray 104 (0, 0))

/-- Bytes that come are laid behind those that wait. -/
def laid (rest : List UInt8) (o : Nat) (c : List UInt8) : List UInt8 := rest.take o ++ (c ++ rest.drop (o + c.length))
set_option maxRecDepth 100000 in
theorem laid_length (rest : List UInt8) (o : Nat) (c : List UInt8) (h : o + c.length ≤ rest.length) : (laid rest o c).length = rest.length := by simp [laid]; omega
set_option maxRecDepth 100000 in
theorem laid_take (rest : List UInt8) (o : Nat) (c : List UInt8) (h : o + c.length ≤ rest.length) : (laid rest o c).take (o + c.length) = rest.take o ++ c := by
  have e : (rest.take o ++ c).length = o + c.length := by simp; omega
  rw [laid, ← List.append_assoc, List.take_left' e]

/-- A step of Add: no block is filled. -/
theorem RunIs.less {l : List UInt8} {st : List UInt32} {rest c : List UInt8} (h : RunIs l st rest) (hs : st = absorb l) (hc : l.length % 32 + c.length < 32) : RunIs (l ++ c) st (laid rest (l.length % 32) c) := by
  have hl := h.rest32
  obtain ⟨h1, h2⟩ := absorb_less l c hc
  refine ⟨h.st8, by rw [laid_length _ _ _ (by omega), hl], fun _ => by rw [hs, h1], ?_⟩
  have e : (l ++ c).length % 32 = l.length % 32 + c.length := by simp; omega
  rw [e, laid_take _ _ _ (by omega), h.tail, h2]
/-- A step of Add: a block is filled. -/
theorem RunIs.full {l : List UInt8} {st : List UInt32} {rest c : List UInt8} (h : RunIs l st rest) (hs : st = absorb l) (hc : l.length % 32 + c.length = 32) :
    RunIs (l ++ c) (roundsTo (blockL (laid rest (l.length % 32) c)) st 8) (laid rest (l.length % 32) c) := by
  have hl := h.rest32
  obtain ⟨h1, h2⟩ := absorb_full l c hc
  have e1 : laid rest (l.length % 32) c = restOf l ++ c := by
    have := laid_take rest (l.length % 32) c (by omega)
    rw [hc, List.take_of_length_le (by rw [laid_length _ _ _ (by omega)]; omega), h.tail] at this
    exact this
  refine ⟨by rw [roundsTo_length, h.st8], by rw [laid_length _ _ _ (by omega), hl], fun _ => by rw [h1, e1, hs], ?_⟩
  have e : (l ++ c).length % 32 = 0 := by simp; omega
  rw [e, h2]; rfl

set_option maxRecDepth 100000 in
theorem runCells_length (n : Nat) (st : List UInt32) (rest : List UInt8) : (runCells n st rest).length = 1 + (st.length + rest.length) := by simp [runCells]; omega
/-- What copy makes of the cells. -/
theorem runCells_laid (n : Nat) (st : List UInt32) (rest : List UInt8) (o : Nat) (c : List UInt8) (hst : st.length = 8) :
    splice (runCells n st rest) (9 + o) (c.map B8) = runCells n st (laid rest o c) := by
  have e : (st.map W32).length = 8 := by rw [List.length_map, hst]
  have h1 : (runCells n st rest).take (9 + o) = .int .u64 (n : Int) :: (st.map W32 ++ (rest.take o).map B8) := by
    rw [runCells, show 9 + o = (8 + o) + 1 by omega, List.take_succ_cons, List.take_append, e, List.take_of_length_le (by omega), show 8 + o - 8 = o by omega, List.map_take]
  have h2 : (runCells n st rest).drop (9 + o + (c.map B8).length) = (rest.drop (o + c.length)).map B8 := by
    rw [runCells, List.length_map, show 9 + o + c.length = (8 + (o + c.length)) + 1 by omega, List.drop_succ_cons, List.drop_append, e, List.drop_eq_nil_of_le (by omega), List.nil_append, show 8 + (o + c.length) - 8 = o + c.length by omega, List.map_drop]
  rw [splice, h1, h2, runCells, laid]
  simp
set_option maxRecDepth 100000 in
theorem runCells_count (n m : Nat) (st : List UInt32) (rest : List UInt8) : (runCells n st rest).toArray.setIfInBounds 0 (.int .u64 ((n : Int) + (m : Int))) = (runCells (n + m) st rest).toArray := by
  simp [runCells]

/-- Behind the head of Add: the state is what the blocks so far have made, also where nothing was given. -/
def Ready (w : World) (g : Nat) (l : List UInt8) : Prop := ∃ st rest, RunIs l st rest ∧ st = absorb l ∧ w.heap[g]? = some (.cells (runCells l.length st rest).toArray 104 (0, 0))
set_option maxRecDepth 100000 in
theorem Ready.run {w : World} {g : Nat} {l : List UInt8} (h : Ready w g l) : RunAt w g l := let ⟨st, rest, h1, _, h3⟩ := h; ⟨st, rest, h1, h3⟩
set_option maxRecDepth 100000 in
theorem ready_less {w : World} {g : Nat} {l c : List UInt8} {st : List UInt32} {rest : List UInt8} (hr : RunIs l st rest) (hs : st = absorb l) (hc : l.length % 32 + c.length < 32)
    (hg : w.heap[g]? = some (.cells (runCells (l.length + c.length) st (laid rest (l.length % 32) c)).toArray 104 (0, 0))) : Ready w g (l ++ c) :=
  ⟨st, _, hr.less hs hc, by rw [hs, (absorb_less l c hc).1], by rw [List.length_append]; exact hg⟩
set_option maxRecDepth 100000 in
theorem ready_full {w : World} {g : Nat} {l c : List UInt8} {st : List UInt32} {rest : List UInt8} (hr : RunIs l st rest) (hs : st = absorb l) (hc : l.length % 32 + c.length = 32)
    (hg : w.heap[g]? = some (.cells (runCells (l.length + c.length) (roundsTo (blockL (laid rest (l.length % 32) c)) st 8) (laid rest (l.length % 32) c)).toArray 104 (0, 0))) : Ready w g (l ++ c) :=
  ⟨_, _, hr.full hs hc, (hr.full hs hc).state (fun h => by have := congrArg List.length h; rw [List.length_append, List.length_nil] at this; omega), by rw [List.length_append]; exact hg⟩
set_option maxRecDepth 100000 in
theorem take_next (bs : List UInt8) (k n : Nat) : bs.take (k + n) = bs.take k ++ (bs.drop k).take n := List.take_add
end Go.Proofs.Ytckbeeadkiiccaa
