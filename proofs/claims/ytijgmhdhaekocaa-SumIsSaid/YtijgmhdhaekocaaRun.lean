/- Plain mathematics: what a run of package sum holds after it was given bytes; the hash of a list of bytes. No program here. -/
import Derived.Test.YtijgmhdhaekocaaPure
namespace Go.Proofs.Ytijgmhdhaekocaa
open Go.RowKit

/-- The state behind the first k blocks of l. -/
def absorbTo (l : List UInt8) (k : Nat) : List UInt32 := (List.range k).foldl (fun s i => roundsTo (blockL ((l.drop (32 * i)).take 32)) s 8) startL
def absorb (l : List UInt8) : List UInt32 := absorbTo l (l.length / 32)
/-- The hash. -/
def sumL (l : List UInt8) : List UInt8 := wordsBytes (absorb (l ++ tailL l.length))

theorem startL_len : startL.length = 8 := startL_length
theorem absorbTo_succ (l : List UInt8) (k : Nat) : absorbTo l (k + 1) = roundsTo (blockL ((l.drop (32 * k)).take 32)) (absorbTo l k) 8 := by simp [absorbTo, List.range_succ]
theorem absorbTo_zero (l : List UInt8) : absorbTo l 0 = startL := by simp only [absorbTo, List.range_zero, List.foldl_nil]
theorem absorbTo_length (l : List UInt8) (k : Nat) : (absorbTo l k).length = 8 := by
  induction k with
  | zero => rw [absorbTo_zero]; exact startL_length
  | succ k ih => rw [absorbTo_succ, roundsTo_length, ih]
theorem absorb_length (l : List UInt8) : (absorb l).length = 8 := absorbTo_length _ _
theorem sumL_length (l : List UInt8) : (sumL l).length = 32 := by rw [sumL, wordsBytes_length, absorb_length]
theorem absorbTo_append (l m : List UInt8) (k : Nat) (h : 32 * k ≤ l.length) : absorbTo (l ++ m) k = absorbTo l k := by
  induction k with
  | zero => rw [absorbTo_zero, absorbTo_zero]
  | succ k ih =>
    have e : ((l ++ m).drop (32 * k)).take 32 = (l.drop (32 * k)).take 32 := by
      rw [List.drop_append_of_le_length (by omega), List.take_append_of_le_length (by simp; omega)]
    rw [absorbTo_succ, absorbTo_succ, ih (by omega), e]
theorem absorb_nil : absorb [] = startL := absorbTo_zero _

/-- What lies behind the last whole block. -/
def restOf (l : List UInt8) : List UInt8 := l.drop (32 * (l.length / 32))
theorem restOf_length (l : List UInt8) : (restOf l).length = l.length % 32 := by simp [restOf]; omega

/-- More bytes come, and no block is filled. -/
theorem absorb_less (l c : List UInt8) (h : l.length % 32 + c.length < 32) : absorb (l ++ c) = absorb l ∧ restOf (l ++ c) = restOf l ++ c := by
  have e : (l ++ c).length / 32 = l.length / 32 := by simp; omega
  refine ⟨?_, ?_⟩
  · unfold absorb; rw [e, absorbTo_append _ _ _ (by omega)]
  · unfold restOf; rw [e, List.drop_append_of_le_length (by omega)]
/-- More bytes come, and just one block is filled. -/
theorem absorb_full (l c : List UInt8) (h : l.length % 32 + c.length = 32) : absorb (l ++ c) = roundsTo (blockL (restOf l ++ c)) (absorb l) 8 ∧ restOf (l ++ c) = [] := by
  have e : (l ++ c).length / 32 = l.length / 32 + 1 := by simp; omega
  refine ⟨?_, ?_⟩
  · unfold absorb
    have e2 : ((l ++ c).drop (32 * (l.length / 32))).take 32 = restOf l ++ c := by
      rw [List.drop_append_of_le_length (by omega), List.take_of_length_le (by simp; omega), restOf]
    rw [e, absorbTo_succ, absorbTo_append _ _ _ (by omega), e2]
  · unfold restOf; rw [e]; apply List.drop_eq_nil_of_le; simp; omega

/-- The cells of a run. -/
def runCells (n : Nat) (st : List UInt32) (rest : List UInt8) : List Value := .int .u64 (n : Int) :: (st.map W32 ++ rest.map B8)
/-- A run that was given the bytes l, as far as its cells tell: behind the first byte its state is what the whole blocks have made. -/
structure RunIs (l : List UInt8) (st : List UInt32) (rest : List UInt8) : Prop where
  st8 : st.length = 8
  rest32 : rest.length = 32
  state : l ≠ [] → st = absorb l
  tail : rest.take (l.length % 32) = restOf l
theorem RunIs.zero : RunIs [] [0, 0, 0, 0, 0, 0, 0, 0] (zeros8 32) := ⟨rfl, rfl, fun h => absurd rfl h, rfl⟩

def RunAt (w : World) (g : Nat) (l : List UInt8) : Prop := ∃ st rest, RunIs l st rest ∧ w.heap[g]? = some (.cells (runCells l.length st rest).toArray 37 (0, 0))

/-- Bytes that come are laid behind those that wait. -/
def laid (rest : List UInt8) (o : Nat) (c : List UInt8) : List UInt8 := rest.take o ++ (c ++ rest.drop (o + c.length))
theorem laid_length (rest : List UInt8) (o : Nat) (c : List UInt8) (h : o + c.length ≤ rest.length) : (laid rest o c).length = rest.length := by simp [laid]; omega
theorem laid_take (rest : List UInt8) (o : Nat) (c : List UInt8) (h : o + c.length ≤ rest.length) : (laid rest o c).take (o + c.length) = rest.take o ++ c := by
  have e : (rest.take o ++ c).length = o + c.length := by simp; omega
  rw [laid, ← List.append_assoc, List.take_left' e]

/-- A step of Add: no block is filled. -/
theorem RunIs.less {l : List UInt8} {st : List UInt32} {rest c : List UInt8} (h : RunIs l st rest) (hs : st = absorb l) (hc : l.length % 32 + c.length < 32) : RunIs (l ++ c) st (laid rest (l.length % 32) c) := by
  have hl := h.rest32
  obtain ⟨h1, h2⟩ := absorb_less l c hc
  refine ⟨h.st8, by rw [laid_length _ _ _ (by omega), hl], fun _ => by rw [hs, h1], ?_⟩
  have e : (l ++ c).length % 32 = l.length % 32 + c.length := by simp; omega
  rw [e, laid_take _ _ _ (by omega), h.tail, h2]
/-- A step of Add: a block is filled. -/
theorem RunIs.full {l : List UInt8} {st : List UInt32} {rest c : List UInt8} (h : RunIs l st rest) (hs : st = absorb l) (hc : l.length % 32 + c.length = 32) :
    RunIs (l ++ c) (roundsTo (blockL (laid rest (l.length % 32) c)) st 8) (laid rest (l.length % 32) c) := by
  have hl := h.rest32
  obtain ⟨h1, h2⟩ := absorb_full l c hc
  have e1 : laid rest (l.length % 32) c = restOf l ++ c := by
    have := laid_take rest (l.length % 32) c (by omega)
    rw [hc, List.take_of_length_le (by rw [laid_length _ _ _ (by omega)]; omega), h.tail] at this
    exact this
  refine ⟨by rw [roundsTo_length, h.st8], by rw [laid_length _ _ _ (by omega), hl], fun _ => by rw [h1, e1, hs], ?_⟩
  have e : (l ++ c).length % 32 = 0 := by simp; omega
  rw [e, h2]; rfl

theorem runCells_length (n : Nat) (st : List UInt32) (rest : List UInt8) : (runCells n st rest).length = 1 + (st.length + rest.length) := by simp [runCells]; omega
/-- What copy makes of the cells. -/
theorem runCells_laid (n : Nat) (st : List UInt32) (rest : List UInt8) (o : Nat) (c : List UInt8) (hst : st.length = 8) :
    splice (runCells n st rest) (9 + o) (c.map B8) = runCells n st (laid rest o c) := by
  have e : (st.map W32).length = 8 := by rw [List.length_map, hst]
  have h1 : (runCells n st rest).take (9 + o) = .int .u64 (n : Int) :: (st.map W32 ++ (rest.take o).map B8) := by
    rw [runCells, show 9 + o = (8 + o) + 1 by omega, List.take_succ_cons, List.take_append, e, List.take_of_length_le (by omega), show 8 + o - 8 = o by omega, List.map_take]
  have h2 : (runCells n st rest).drop (9 + o + (c.map B8).length) = (rest.drop (o + c.length)).map B8 := by
    rw [runCells, List.length_map, show 9 + o + c.length = (8 + (o + c.length)) + 1 by omega, List.drop_succ_cons, List.drop_append, e, List.drop_eq_nil_of_le (by omega), List.nil_append, show 8 + (o + c.length) - 8 = o + c.length by omega, List.map_drop]
  rw [splice, h1, h2, runCells, laid]
  simp
theorem runCells_count (n m : Nat) (st : List UInt32) (rest : List UInt8) : (runCells n st rest).toArray.setIfInBounds 0 (.int .u64 ((n : Int) + (m : Int))) = (runCells (n + m) st rest).toArray := by
  simp [runCells]

/-- Behind the head of Add: the state is what the blocks so far have made, also where nothing was given. -/
def Ready (w : World) (g : Nat) (l : List UInt8) : Prop := ∃ st rest, RunIs l st rest ∧ st = absorb l ∧ w.heap[g]? = some (.cells (runCells l.length st rest).toArray 37 (0, 0))
theorem Ready.run {w : World} {g : Nat} {l : List UInt8} (h : Ready w g l) : RunAt w g l := let ⟨st, rest, h1, _, h3⟩ := h; ⟨st, rest, h1, h3⟩
theorem ready_less {w : World} {g : Nat} {l c : List UInt8} {st : List UInt32} {rest : List UInt8} (hr : RunIs l st rest) (hs : st = absorb l) (hc : l.length % 32 + c.length < 32)
    (hg : w.heap[g]? = some (.cells (runCells (l.length + c.length) st (laid rest (l.length % 32) c)).toArray 37 (0, 0))) : Ready w g (l ++ c) :=
  ⟨st, _, hr.less hs hc, by rw [hs, (absorb_less l c hc).1], by rw [List.length_append]; exact hg⟩
theorem ready_full {w : World} {g : Nat} {l c : List UInt8} {st : List UInt32} {rest : List UInt8} (hr : RunIs l st rest) (hs : st = absorb l) (hc : l.length % 32 + c.length = 32)
    (hg : w.heap[g]? = some (.cells (runCells (l.length + c.length) (roundsTo (blockL (laid rest (l.length % 32) c)) st 8) (laid rest (l.length % 32) c)).toArray 37 (0, 0))) : Ready w g (l ++ c) :=
  ⟨_, _, hr.full hs hc, (hr.full hs hc).state (fun h => by have := congrArg List.length h; rw [List.length_append, List.length_nil] at this; omega), by rw [List.length_append]; exact hg⟩
theorem take_next (bs : List UInt8) (k n : Nat) : bs.take (k + n) = bs.take k ++ (bs.drop k).take n := List.take_add
end Go.Proofs.Ytijgmhdhaekocaa
