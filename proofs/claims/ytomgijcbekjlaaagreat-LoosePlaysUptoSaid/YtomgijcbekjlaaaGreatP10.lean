/- What the proofs stand on: DiskRefSmall, DiskRefPut, DiskRefDrop, DiskRefOps, DiskRefOps2, DiskRefOps3, DiskOps2, SafeSmall. -/
import Derived.Sort.Walk0
import Derived.Test.YtomgijcbekjlaaaGreatP8
import Derived.Test.YtomgijcbekjlaaaGreatP7
import Derived.Test.YtomgijcbekjlaaaGreatP9
import Derived.Test.YtomgijcbekjlaaaGreatP0
import Derived.LoopTactic
import Derived.Test.YtomgijcbekjlaaaGreatPB0
import Derived.Test.YtomgijcbekjlaaaGreatPB1
set_option maxRecDepth 100000
set_option maxHeartbeats 40000000
namespace Go.Proofs.YtomgijcbekjlaaaGreat
section
open Go.RowKit
theorem refNamed_any (n : Bs) (w : World) (hn : n.length <= 9223372036854775807) : Calls Tryz.prog 78 #[.string (SL n)] w fun e w' => e = .returned (.bool (named n)) /\ w' = w := by
 have hs : (SL n).size = n.length := SL_size n
 obtain ⟨N, hN⟩ := nm_ (n.length); rw [<- hN] at hs hn; have HN := h_ hN; clear hN; go_enter Tryz.func78, Tryz.ntmps78; go_wp2; go_loopw [3] (fun i W => ∃ (k : Nat), i = .int .i64 (k : Int) /\ k <= N /\ (n.take k).all (fun x => x != 0) = true /\ W = w) (fun i _ => N - (intOf i).toNat)
 case atStart => exact ⟨0, rfl, Nat.zero_le _, rfl, rfl⟩
 case round =>
  obtain ⟨k, rfl, hk, ha, rfl⟩ := hrel; by_cases hlt : k < N
  ·have hk1 : k < n.length := by rw [<- HN.out]; exact hlt
   have i0 : (0 : Int) <= (k : Int) := by omega
   have i1 : (k : Int) < (N : Int) := by omega
   obtain ⟨x, hx⟩ := nm_ (n[k]); have hsx : (SL n)[k]'(by rw [hs]; exact hlt) = x := by rw [hx]; rfl
   have htk : n.take (k + 1) = n.take k ++ [x] := by rw [List.take_add_one, List.getElem?_eq_getElem hk1, hx]; rfl
   have HX := h_ hx; have HTK := h_ htk; have HA := h_ ha; clear hx htk ha; by_cases h0 : x = 0
   ·have hq : ((x.toNat : Int) == 0) = true := by rw [h0]; rfl
    have hv : named n = false := by
     have : n.all (fun x => x != 0) = false := by
      cases hh : n.all (fun x => x != 0)
      ·rfl
      ·have := List.all_eq_true.1 hh n[k] (List.getElem_mem hk1)
       rw [<- HX.out, h0] at this; simp at this
     unfold named; rw [this]; simp
    have HV := h_ hv; clear h0 hv; go_wp2; go_ret; exact ⟨by rw [HV.out] <;> rfl, rfl⟩
   ·have hx0 : ¬ x.toNat = 0 := fun e => h0 (by apply UInt8.toNat_inj.1; rw [e]; rfl)
    have hq : ((x.toNat : Int) == 0) = false := by simp; omega
    have ha2 : (n.take (k + 1)).all (fun x => x != 0) = true := by
     rw [HTK.out, List.all_append, HA.out]; simp [h0]
    clear h0 hx0; go_wp2; go_roundw
    case rel => exact ⟨k + 1, by go_num, by omega, ha2, trivial⟩
    case measure => simp [intOf]; omega
  ·obtain rfl : k = N := by omega
   rw [List.take_of_length_le (by rw [<- HN.out]; exact Nat.le_refl _)] at ha
   have i1 : ¬ ((k : Int) < (k : Int)) := by omega
   by_cases h1 : 1 <= k
   ·have g1 : (k : Int) >= 1 := by omega
    by_cases h2 : k <= 200
    ·have g2 : (k : Int) <= 200 := by omega
     have hv : named n = true := by unfold named; rw [<- HN.out, ha]; simp [h1, h2]
     have HV := h_ hv; clear ha hv; go_wp2; go_ret; exact ⟨by rw [HV.out] <;> rfl, rfl⟩
    ·have g2 : ¬ (k : Int) <= 200 := by omega
     have hv : named n = false := by unfold named; rw [<- HN.out]; simp [h2]
     have HV := h_ hv; clear ha hv; go_wp2; go_ret; exact ⟨by rw [HV.out] <;> rfl, rfl⟩
   ·have g1 : ¬ (k : Int) >= 1 := by omega
    have hv : named n = false := by unfold named; rw [<- HN.out]; simp [h1]
    have HV := h_ hv; clear ha hv; go_wp2; go_ret; exact ⟨by rw [HV.out] <;> rfl, rfl⟩
def refO (cap done left : Int) (lv : Value) (dark : Bool) : Obj := .cells #[.int .i64 cap, lv, .int .i64 done, .int .i64 left, .bool dark] 50 (0, 0)
theorem ref_cells {w : World} {q : Nat} {a b c : Int} {lv : Value} {d : Bool} (h : w.heap[q]? = some (refO a b c lv d)) :
  w.cell? ⟨q, 0, none⟩ = some (.int .i64 a) /\ w.cell? ⟨q, 1, none⟩ = some lv /\ w.cell? ⟨q, 2, none⟩ = some (.int .i64 b) /\ w.cell? ⟨q, 3, none⟩ = some (.int .i64 c) /\ w.cell? ⟨q, 4, none⟩ = some (.bool d) /\
   (∀ j, w.frozen? ⟨q, j, none⟩ = false) :=
 ⟨cell_of_row _ _ _ _ _ _ h, cell_of_row _ _ _ _ _ _ h, cell_of_row _ _ _ _ _ _ h, cell_of_row _ _ _ _ _ _ h, cell_of_row _ _ _ _ _ _ h, fun j => frozen_of_row _ _ j _ _ h⟩
theorem refNew_yes (c : Nat) (hc : c <= 1099511627776) (w : World) : Calls Tryz.prog 77 #[.int .i64 (c : Int)] w fun e w' => e = .returned (.tuple #[ptr w.heap.size, err 0]) /\ w' = w.alloc (refO (c : Int) 0 (-1) (.slice none 0 0) false) := by
 have h1 : ¬ ((c : Int) < 0) := by omega
 have h2 : ¬ ((c : Int) > 1099511627776) := by omega
 go_enter Tryz.func77, Tryz.ntmps77; go_wp2; go_ret2; exact ⟨rfl, rfl⟩
structure ListAt (w : World) (q : Nat) (G : Nat -> Prop) (ao : Option Addr) (cap : Nat) (P : List (Bs × Value)) (g off : Nat) (L : Files) : Prop where
 cell : w.cell? ⟨q, 1, none⟩ = some (.slice ao L.length cap)
 raw : RawAt w G ao cap P g off
 has : Has w G P L
theorem ListAt.name {w : World} {q : Nat} {G : Nat -> Prop} {ao : Option Addr} {cap : Nat} {P : List (Bs × Value)} {g off : Nat} {L : Files} (h : ListAt w q G ao cap P g off L) {i : Nat} {n b : Bs} (hi : L[i]? = some (n, b)) :
  ao = some ⟨g, off, none⟩ /\ w.cell? ⟨g, off + i * 2, none⟩ = some (.string (SL n)) /\ ∃ x c, w.cell? ⟨g, off + i * 2 + 1, none⟩ = some (.slice x b.length c) /\ BytesAt w G (.slice x b.length c) b := by
 have hl := (List.getElem?_eq_some_iff.1 hi).1; obtain ⟨⟨n', bv⟩, hp⟩ : ∃ p, P[i]? = some p := ⟨_, List.getElem?_eq_getElem (by rw [h.has.1]; exact hl)⟩
 obtain ⟨hnn, hby⟩ := h.has.2 i _ _ hp hi; simp only at hnn hby
 subst hnn; obtain ⟨e1, c1, c2⟩ := h.raw.get hp; obtain ⟨x, c, B, o, rfl, h5⟩ := hby; exact ⟨e1, c1, x, c, c2, ⟨x, c, B, o, rfl, h5⟩⟩
section
variable {w : World} {q : Nat} {G : Nat -> Prop} {ao : Option Addr} {cap : Nat} {P : List (Bs × Value)} {g off : Nat} {L : Files}
theorem find_any (h : ListAt w q G ao cap P g off L) (hr : Rising L) (hL : L.length <= 140737488355328) (n : Bs) :
  Calls Tryz.prog 93 #[ptr q, .string (SL n)] w fun e w' => e = .returned (.tuple #[.int .i64 (posF n L : Int), .bool (thereF n L)]) /\ ∃ m, w' = w.drewN m := by
 obtain ⟨N, hN⟩ := nm_ (L.length); have hcell := h.cell; rw [<- hN] at hcell hL; have ln := SL_toList n; have hpl := posF_le n L; obtain ⟨J, hJ⟩ := nm_ (posF n L); rw [<- hJ] at hpl |-; rw [<- hN] at hpl; have HN := h_ hN; have HJ := h_ hJ; have HH := h_ h; clear hN hJ h; go_enter Tryz.func93, Tryz.ntmps93; go_wp2; go_loopw [6] (fun i W => ∃ (k : Nat), i = .int .i64 (k : Int) /\ k <= J /\ W = w) (fun i _ => N - (intOf i).toNat)
 case atStart => exact ⟨0, rfl, Nat.zero_le _, rfl⟩
 case round =>
  obtain ⟨k, rfl, hk, rfl⟩ := hrel; have i0 : (0 : Int) <= (k : Int) := by omega
  by_cases hlt : k < N
  ·have hk1 : k < L.length := by rw [<- HN.out]; exact hlt
   obtain ⟨⟨m, b⟩, hf⟩ : ∃ f, L[k]? = some f := ⟨_, List.getElem?_eq_getElem hk1⟩
   obtain ⟨e1, c1, x, c, c2, _⟩ := HH.out.name hf; subst e1; have lm := SL_toList m; have i1 : (k : Int) < (N : Int) := by omega
   by_cases hq : k < J
   ·have hmn : m < n := posF_before (l := L) (i := k) (p := (m, b)) (by rw [<- HJ.out]; exact hq) hf
    have hb : Op.bytesLess m n = true := by rw [bytesLess_eq]; simpa using hmn
    have HF := h_ hf; clear hmn hf; go_wp2; go_roundw
    case rel => exact ⟨k + 1, by go_num, by omega, trivial⟩
    case measure => simp [intOf]; omega
   ·obtain rfl : k = J := by omega
    have hmn : ¬ m < n := posF_at (l := L) (p := (m, b)) (by rw [<- HJ.out]; exact hf)
    have hb : Op.bytesLess m n = false := by rw [bytesLess_eq]; simpa using hmn
    have hth : thereF n L = (m == n) := by
     have := there_of (n := n) hr
     rw [<- HJ.out] at this; by_cases e : m = n
     ·rw [this.2 ⟨_, hf, e⟩]; simp [e]
     ·have h1 : ¬ thereF n L = true := fun h1 => by
       obtain ⟨p, hp, hpn⟩ := this.1 h1; rw [hf] at hp
       cases hp
       exact e hpn
      have h2 : thereF n L = false := by simpa using h1
      rw [h2]; simp [e]
    obtain ⟨t, ht⟩ := nm_ ((m == n))
    rw [<- ht] at hth; have ht2 := ht.symm; have HTH := h_ hth; clear hmn hf hth ht; go_wp2; go_quiet (fail)
    go_wp2; go_ret2; exact ⟨by rw [HTH.out] <;> rfl, nq, rfl⟩
  ·obtain rfl : k = N := by omega
   obtain rfl : k = J := by omega
   have hth : thereF n L = false := by
    have := there_of (n := n) hr
    rw [<- HJ.out] at this
    cases hx : thereF n L
    ·rfl
    ·obtain ⟨p, hp, _⟩ := this.1 hx
     have := (List.getElem?_eq_some_iff.1 hp).1
     have h2 := HN.out; omega
   have HTH := h_ hth; have i1 : ¬ ((k : Int) < (k : Int)) := by omega
   have i2 : decide ((k : Int) < (k : Int)) = false := by simp
   clear hth; go_wp2; go_quiet (fail)
   go_wp2; go_ret2; exact ⟨by rw [HTH.out] <;> rfl, nq, rfl⟩
theorem refFree_any (h : ListAt w q G ao cap P g off L) (hL : L.length <= 140737488355328) (c : Int) (hw : wrap64 c = c) (c0 : w.cell? ⟨q, 0, none⟩ = some (.int .i64 c)) :
  Calls Tryz.prog 80 #[ptr q] w fun e w' => e = .returned (.int .i64 (wrap64 (c - (costs L : Int)))) /\ ∃ m, w' = w.drewN m := by
 obtain ⟨N, hN⟩ := nm_ (L.length); have hcell := h.cell; rw [<- hN] at hcell hL; have HN := h_ hN; have HH := h_ h; clear hN h
 ·have HW := h_ hw
  clear hw; go_enter Tryz.func80, Tryz.ntmps80; go_wp2; go_loopw [3, 4] (fun z i W => ∃ (k m : Nat), z = .int .i64 (wrap64 (c - (costs (L.take k) : Int))) /\ i = .int .i64 (k : Int) /\ k <= N /\ W = w.drewN m) (fun _ i _ => N - (intOf i).toNat)
  case atStart => exact ⟨0, 0, by simp [costs, HW.out], rfl, Nat.zero_le _, rfl⟩
  case round =>
   obtain ⟨k, m, rfl, rfl, hk, rfl⟩ := hrel; have i0 : (0 : Int) <= (k : Int) := by omega
   have HH2 := HH.out; by_cases hlt : k < N
   ·have hk1 : k < L.length := by rw [<- HN.out]; exact hlt
    obtain ⟨⟨n, b⟩, hf⟩ : ∃ f, L[k]? = some f := ⟨_, List.getElem?_eq_getElem hk1⟩
    obtain ⟨e1, c1, x, cc, c2, _⟩ := HH2.name hf; subst e1; have i1 : (k : Int) < (N : Int) := by omega
    have hsz : (SL n).size = n.length := SL_size n
    have htk : L.take (k + 1) = L.take k ++ [(n, b)] := by rw [List.take_add_one, hf]; rfl
    obtain ⟨z, hz⟩ : ∃ z, z = wrap64 (c - (costs (L.take k) : Int)) := ⟨_, rfl⟩
    obtain ⟨z1, hz1⟩ := nm_ (wrap64 (z - 16)); obtain ⟨z2, hz2⟩ : ∃ y, y = wrap64 (z1 - (n.length : Int)) := ⟨_, rfl⟩
    obtain ⟨z3, hz3⟩ : ∃ y, y = wrap64 (z2 - (b.length : Int)) := ⟨_, rfl⟩
    have hend : z3 = wrap64 (c - (costs (L.take (k + 1)) : Int)) := by
     rw [htk, costs_append]; simp only [costs, costF]; rw [hz3, hz2, hz1, hz]; unfold wrap64; omega
    have q1 : IntKind.i64.wrap (z - 16) = z1 := by rw [IntKind.wrap_i64, hz1]; unfold wrap64; rfl
    have q2 : IntKind.i64.wrap (z1 - (n.length : Int)) = z2 := by rw [IntKind.wrap_i64, hz2]; unfold wrap64; rfl
    have q3 : IntKind.i64.wrap (z2 - (b.length : Int)) = z3 := by rw [IntKind.wrap_i64, hz3]; unfold wrap64; rfl
    have p1 := hz1.symm; have p2 := hz2.symm; have p3 := hz3.symm; rw [<- hz]; have HE := h_ hend; clear hz hz1 hz2 hz3 htk hf hend HH2; go_wp2_with fail; go_quiet (fail)
    go_wp2; go_roundw
    case rel => exact ⟨k + 1, m + nq, by rw [<- HE.out] <;> rfl, by go_num, by omega, rfl⟩
    case measure => simp [intOf]; omega
   ·obtain rfl : k = N := by omega
    have i1 : ¬ ((k : Int) < (k : Int)) := by omega
    rw [List.take_of_length_le (by rw [<- HN.out]; exact Nat.le_refl _)]
    clear HH2; go_wp2; go_ret; exact ⟨rfl, m, rfl⟩
end
end
section
open Go.RowKit
theorem sizeOf36 (w : World) : (sizeOf (Tryz.prog.elem 22)).run Tryz.prog w = .ok 2 w := by kernel_rfl
section
variable {w : World} {F : Nat -> Prop} {ao : Option Addr} {cap : Nat} {P : List (Bs × Value)} {g off : Nat}
theorem fcells_take (P : List (Bs × Value)) (n : Nat) : fcells (P.take n) = (fcells P).take (n * 2) := by
 induction P generalizing n with
 | nil => simp [fcells]
 | cons p r ih =>
  cases n with
  | zero => simp [fcells]
  | succ n =>
   have e : (n + 1) * 2 = n * 2 + 1 + 1 := by omega
   rw [e]; simp only [List.take_succ_cons, fcells, ih]
theorem fcells_drop (P : List (Bs × Value)) (n : Nat) : fcells (P.drop n) = (fcells P).drop (n * 2) := by
 induction P generalizing n with
 | nil => simp [fcells]
 | cons p r ih =>
  cases n with
  | zero => simp [fcells]
  | succ n =>
   have e : (n + 1) * 2 = n * 2 + 1 + 1 := by omega
   rw [e]; simp only [List.drop_succ_cons, fcells, ih]
theorem RawAt.piece (h : RawAt w F ao cap P g off) (l n : Nat) (hl : l + n <= P.length) : RawAt w F (if cap = l then ao else ao.map (·.add (l * 2))) (cap - l) ((P.drop l).take n) g (off + l * 2) := by
 have hle := h.le; have htop := h.top; have hlen : ((P.drop l).take n).length = n := by rw [List.length_take, List.length_drop]; omega
 refine ⟨by omega, by omega, fun hp => ?_, fun hb => ?_, fun j u hu => ?_⟩
 ·obtain ⟨h1, h2⟩ := h.src (by omega)
  exact ⟨by rw [if_neg (by omega), h1, Option.map_some, Addr.add_lit], h2⟩
 ·by_cases hc : cap = l
  ·rw [if_pos hc] at hb
   have := h.bare hb
   omega
  ·rw [if_neg hc] at hb
   have := h.bare (by cases ao with
    | none => rfl
    | some a => cases hb)
   omega
 ·rw [fcells_take, fcells_drop, List.getElem?_take] at hu
  split at hu
  ·rw [List.getElem?_drop] at hu
   have := h.cell _ u hu
   rwa [<- Nat.add_assoc] at this
  ·cases hu
theorem RawAt.slice_h (h : RawAt w F ao cap P g off) (n : Nat) (hn : n <= P.length) :
  ∃ ao', (∀ W : World, (Instr.slice 22 (.slice ao P.length cap) none (some (.int .i64 (n : Int))) none).run Tryz.prog W = .ok (.slice ao' n cap) W) /\ RawAt w F ao' cap (P.take n) g off := by
 have hle := h.le; have hp := h.piece 0 n (by omega)
 rw [List.drop_zero, Nat.sub_zero, Nat.zero_mul, Nat.add_zero] at hp; refine ⟨_, fun W => ?_, hp⟩
 rw [run_slice_h W 22 ao _ cap (by kernel_rfl) .i64 (n : Int) (by omega) (by omega), sizeOf36]
 simp only [Result.andThen_ok, sliced, Int.toNat_natCast, Nat.sub_zero, Nat.zero_mul]
theorem RawAt.slice_l (h : RawAt w F ao cap P g off) (n : Nat) (hn : n <= P.length) :
  ∃ ao', (∀ W : World, (Instr.slice 22 (.slice ao P.length cap) (some (.int .i64 (n : Int))) none none).run Tryz.prog W = .ok (.slice ao' (P.length - n) (cap - n)) W) /\ RawAt w F ao' (cap - n) (P.drop n) g (off + n * 2) := by
 have hle := h.le; have hp := h.piece n (P.length - n) (by omega)
 rw [List.take_of_length_le (by rw [List.length_drop]; omega)] at hp
 refine ⟨_, fun W => ?_, hp⟩
 rw [run_slice_l W 22 ao _ cap (by kernel_rfl) .i64 (n : Int) (by omega) (by omega), sizeOf36]
 simp only [Result.andThen_ok, sliced, Int.toNat_natCast]
theorem RawAt.cells (h : RawAt w F ao cap P g off) : ∀ ad, ao = some ad -> ∀ j u, (fcells P)[j]? = some u -> w.cell? (ad.add j) = some u := by
 intro ad had j u hu
 have hp : 0 < P.length := by have := (List.getElem?_eq_some_iff.1 hu).1; rw [fcells_length] at this; omega
 rw [(h.src hp).1] at had
 cases had
 rw [Addr.add_lit]; exact h.cell j u hu
end
theorem wpList_append_piece {T E : TypeId} (ht : FileType T E) {ops : Array Oper} {rest : List Oper} {o : Oper} {a : Act} {w : World} {Q : Exit -> Act -> World -> Prop}
  (hgd : o.guard = none) (s x : Operand) (hop : o.op = Op.call { callee := Callee.builtin Builtin.append, args := #[s, x], argTypes := #[T, T] })
  (B : Nat) (v : Value) (F F1 : Nat -> Prop) (Q1 P2 : List (Bs × Value)) (L1 L2 : Files) (hS : a.eval s = v) (hown : FilesOwn w E B F v Q1 L1) (ao : Option Addr) (m c g off : Nat) (hX : a.eval x = .slice ao m c)
  (hraw : RawAt w F1 ao c P2 g off) (hhas : Has w F1 P2 L2) (hm : P2.length = m) (hF : ∀ k, k < w.heap.size -> F1 k -> F k /\ v.ownBlock ≠ some k) (hb : L1.length + m <= 5000000000000) (hB : B <= w.heap.size)
  (hK : ∀ v' w', FilesOwn w' E B F v' (Q1 ++ P2) (L1 ++ L2) -> Below B w w' -> wpList Tryz.prog ops Q rest (a.put o.dst v') w') : wpList Tryz.prog ops Q (o :: rest) a w := by
 refine wpList_append_files ht hgd s x hop B v L1.length (fcells Q1) hS hown.own ao m c hX (fcells P2) (by rw [fcells_length, hm]) (fun hn => by rw [<- hm]; exact hraw.bare hn) hraw.cells (fcells_one hhas.one') hb hB ?_
 intro v' w' h1 h2 h3
 have hml : L2.length = m := by rw [<- hhas.1]; exact hm
 refine hK v' w' (hown.grown (hhas.mono hF) (by rw [hml]; exact h1.out) h2.out h3.out) ⟨h2.out.os, h2.out.tape, h2.out.output, h2.out.size, fun k hk => h2.out.block k (by omega) (fun e => ?_)⟩
 have := (hown.own.lt k e.symm).1
 omega
theorem slice_shape {w : World} {base e s n : Nat} {v : Value} {xs : List Value} (h : w.ownsRow base e s v n xs) : ∃ a n c, v = .slice a n c := by
 rcases h.2 with ⟨rfl, _⟩ | ⟨g, cap, cur, rfl, _⟩
 ·exact ⟨_, _, _, rfl⟩
 ·exact ⟨_, _, _, rfl⟩
theorem raw_new (w : World) (E : TypeId) (n : Bs) (v : Value) : RawAt (w.alloc (.cells #[.string (SL n), v] E)) (fun k => k = w.heap.size) (some ⟨w.heap.size, 0, none⟩) 1 [(n, v)] w.heap.size 0 :=
 ⟨Nat.le_refl _, by unfold maxLen; omega, fun _ => ⟨rfl, rfl⟩, (fun h => by cases h), fun j u hu => by
  have := cells_new w #[.string (SL n), v] E j u hu
  rw [Addr.add_lit] at this; exact this⟩
section
variable {w : World} {q : Nat} {G : Nat -> Prop} {ao : Option Addr} {cap : Nat} {P : List (Bs × Value)} {g off : Nat} {L : Files}
structure Relaid (w : World) (q : Nat) (G : Nat -> Prop) (c d l : Int) (dk : Bool) (L' : Files) (w' : World) : Prop where
 turn : Turn (fun k => k = q) w w'
 head : ∃ lv, w'.heap[q]? = some (refO c d l lv dk) /\ FilesAt w' (fun k => (G k /\ k < w.heap.size) \/ (w.heap.size <= k /\ k < w'.heap.size)) lv L'
theorem put_any {c d l : Int} {dk : Bool} (hh : w.heap[q]? = some (refO c d l (.slice ao L.length cap) dk)) (hraw : RawAt w G ao cap P g off) (hhas : Has w G P L) (hq : ∀ k, G k -> k ≠ q) (hr : Rising L) (hL : L.length <= 4000000000000)
  (n : Bs) (ao2 : Option Addr) (cap2 : Nat) (b : Bs) (B2 off2 : Nat) (hs : SrcAt w ao2 cap2 b B2 off2) (hb : b.length <= 140737488355328) :
  Calls Tryz.prog 79 #[ptr q, .string (SL n), .slice ao2 b.length cap2] w fun e w' => e = .returned (.tuple #[]) /\ Relaid w q G c d l dk (putF n b L) w' := by
 obtain ⟨c0, c1, c2, c3, c4, fr⟩ := ref_cells hh; have hlist : ListAt w q G ao cap P g off L := ⟨c1, hraw, hhas⟩; have hfind := find_any hlist hr (by omega) n
 have hpl := posF_le n L; have hput := putF_place (n := n) b hr
 obtain ⟨N, hN⟩ := nm_ (L.length); obtain ⟨J, hJ⟩ := nm_ (posF n L); obtain ⟨t, ht⟩ := nm_ (thereF n L); obtain ⟨M, hM⟩ := nm_ (b.length); rw [<- hJ, <- ht] at hfind hput; rw [<- hJ, <- hN] at hpl; rw [<- hN] at c1 hL; rw [<- hM] at hb |-; have hPN : P.length = N := by rw [hN]; exact hhas.1
 obtain ⟨aoH, hslH, hrawH⟩ := hraw.slice_h J (by omega)
 rw [hPN] at hslH; have hJ2 : (if t = true then J + 1 else J) <= N := by
  by_cases htt : t = true
  ·rw [if_pos htt]
   rw [ht] at htt; obtain ⟨p, hp, _⟩ := (there_of hr).1 htt; have := (List.getElem?_eq_some_iff.1 hp).1
   omega
  ·rw [if_neg htt]; exact hpl
 obtain ⟨R, hR⟩ := nm_ (if t = true then J + 1 else J)
 rw [<- hR] at hput hJ2; obtain ⟨aoT, hslT, hrawT⟩ := hraw.slice_l R (by omega)
 rw [hPN] at hslT; obtain ⟨B, hB⟩ := nm_ (w.heap.size); have hwB : w.heap.size <= B := by omega
 have hBw : B <= w.heap.size := by omega
 have hqB : q < B := by rw [hB]; exact (ge_ hh).1
 -- what lies in old memory stays
 have hold : ∀ W, Below B w W -> RawAt W (fun k => G k /\ k < B) aoH cap (P.take J) g off /\ Has W (fun k => G k /\ k < B) (P.take J) (L.take J) /\ RawAt W (fun k => G k /\ k < B) aoT (cap - R) (P.drop R) g (off + R * 2) /\ Has W (fun k => G k /\ k < B) (P.drop R) (L.drop R) := fun W hW => by
  have tt : Turn (fun _ => False) w W := Turn.of_below _ (by rw [<- hB]; exact hW)
  have mm : ∀ k, k < w.heap.size -> G k -> G k /\ k < B := fun k hk hg => ⟨hg, by omega⟩
  exact ⟨(hrawH.mono mm).turn tt (fun _ _ h => h), ((hhas.mono mm).turn tt (fun _ _ h => h)).take J, (hrawT.mono mm).turn tt (fun _ _ h => h), ((hhas.mono mm).turn tt (fun _ _ h => h)).drop R⟩
 have HOLD := h_ hold; have HPUT := h_ hput; have HM := h_ hM; have HHD := h_ hh; have HS := h_ hs; have HFI := h_ hfind; have HB := h_ hB; have hlJ : (P.take J).length = J := by rw [List.length_take]; omega
 have hlR : (P.drop R).length = N - R := by rw [List.length_drop]; omega
 have hlJ2 : (L.take J).length = J := by rw [List.length_take]; omega
 have HL1 := h_ hlJ; have HL2 := h_ hlR; have HL3 := h_ hlJ2; have HNL := h_ hN; have f1 := fr 1; clear hold hput hraw hhas hN hM hh hPN hs hJ ht hfind hlist hrawT hrawH hlJ hlR hlJ2 hB
 cases t with
 | true =>
  rw [if_pos rfl] at hR; have hJR : (J : Int) + 1 = (R : Int) := by omega
  clear hR; go_enter Tryz.func79, Tryz.ntmps79; go_wp2_with (first
   | (go_at_call 93; refine HFI.out.mono ?_; rintro e w1 ⟨rfl, m0, rfl⟩; have b0 : Below B w (w.drewN m0) := below_drewN (Below.refl _ _) m0; obtain ⟨r1, r2, _, _⟩ := HOLD.out _ b0; have HR1 := h_ r1; have HR2 := h_ r2; clear r1 r2)
   | (at_builtin; refine wpList_append_piece files74 rfl _ _ rfl B (.slice none 0 0) (fun k => (G k /\ k < B) \/ B <= k) _ [] _ [] _ rfl (FilesOwn.nil _ _ _ _) aoH J cap g off rfl HR1.out HR2.out HL1.out (fun k _ hk => ⟨.inl hk, (fun e => by cases e)⟩) (by simp only [List.length_nil]; omega) (by exact hBw) ?_; intro v1 w1 o1 b1; have bw1 := b0.trans b1; have O1 := h_ o1; have k1 : w1.cell? ⟨q, 1, none⟩ = some (.slice ao N cap) := (bw1.cell (p := ⟨q, 1, none⟩) hqB).trans c1; clear o1 b1 b0 HR1 HR2)
   | (at_builtin; refine wpList_append_src rfl _ _ rfl w1.heap.size _ 0 [] rfl (owns_of_row (heap_alloc_new _ _) (Nat.le_refl _) (Nat.le_refl _) (Nat.zero_le _) rfl rfl rfl) ao2 M cap2 rfl (b.map B8) (by rw [List.length_map]; exact HM.out.symm) (fun hh => by rw [HM.out]; exact HS.out.bare hh) ((HS.out.below (by rw [<- HB.out]; exact bw1.alloc (Nat.le_trans hBw bw1.size) _)).cells) (B8_one _) (by omega) (by simp) ?_; intro v2 w2 hown2 hg2 hv2; have b2 : Below w1.heap.size w1 w2 := ((Below.refl _ _).alloc (Nat.le_refl _) _).grown hg2 (by simp) (fun k hk => by cases hk; exact Nat.le_refl _); have o2 := own_first hown2; rw [HM.out] at o2; obtain ⟨ao3, cap3, B3, rfl, s3, hB3⟩ := src_of_own o2; have S3 := h_ s3; have HB3 := h_ hB3; clear s3 hB3 o2 hown2 hg2 hv2; rw [<- HM.out]; have bw2 := bw1.trans (b2.mono (Nat.le_trans hBw bw1.size)); have k2 : w2.cell? ⟨q, 1, none⟩ = some (.slice ao N cap) := (bw2.cell (p := ⟨q, 1, none⟩) hqB).trans c1)
   | (at_builtin; refine wpList_append_piece files74 rfl _ _ rfl B v1 (fun k => (G k /\ k < B) \/ B <= k) (fun k => B <= k /\ v1.ownBlock ≠ some k) _ [(n, .slice ao3 M cap3)] _ [(n, b)] rfl (O1.out.turn (Turn.of_below (fun _ => False) (b2.alloc b2.size _)) (fun _ _ h => h) (fun _ _ h => h)) (some ⟨w2.heap.size, 0, none⟩) 1 1 w2.heap.size 0 rfl ((raw_new w2 73 n (.slice ao3 M cap3)).mono (fun k _ hk => by subst hk; have h1 := b2.size; have h2 := bw1.size; exact ⟨by omega, fun e => by have h3 := (O1.out.own.lt _ e).2; omega⟩)) (Has.one (by refine ⟨ao3, cap3, B3, 0, by rw [HM.out], S3.out.below ((Below.refl _ _).alloc (Nat.le_refl _) _), fun hp => ?_⟩; have h0 := HB3.out hp; have h2 := bw1.size; exact ⟨by omega, fun e => by have h3 := (O1.out.own.lt _ e).2; omega⟩)) rfl (fun k _ hk => ⟨.inr hk.1, hk.2⟩) (by have h1 := HL3.out; rw [List.nil_append, h1]; omega) (by have h1 := b2.size; have h2 := bw1.size; simp; omega) ?_; intro v3 w3 o3 b3; have bw3 := (bw2.alloc (Nat.le_trans hBw bw2.size) _).trans b3; have O3 := h_ o3; clear o3 b3; obtain ⟨_, _, r3, r4⟩ := HOLD.out _ bw3; have HR3 := h_ r3; have HR4 := h_ r4; have k3 : w3.cell? ⟨q, 1, none⟩ = some (.slice ao N cap) := (bw3.cell (p := ⟨q, 1, none⟩) hqB).trans c1; clear r3 r4)
   | (at_builtin; refine wpList_append_piece files74 rfl _ _ rfl B v3 (fun k => (G k /\ k < B) \/ B <= k) _ _ _ _ _ rfl O3.out aoT (N - R) (cap - R) g (off + R * 2) rfl HR3.out HR4.out HL2.out (fun k _ hk => ⟨.inl hk, (fun e => by have := (O3.out.own.lt _ e).1; omega)⟩) (by have h1 := HL3.out; simp only [List.nil_append, List.length_append, List.length_cons, List.length_nil, h1]; omega) (Nat.le_trans hBw bw3.size) ?_; intro v4 w4 o4 b4; obtain ⟨ao4, n4, cap4, hv4⟩ : ∃ a n c, v4 = .slice a n c := slice_shape o4.own; subst hv4; have bw4 := bw3.trans b4; have O4 := h_ o4; clear o4 b4; have k4 : w4.cell? ⟨q, 1, none⟩ = some (.slice ao N cap) := (bw4.cell (p := ⟨q, 1, none⟩) hqB).trans c1; have f4 : w4.frozen? ⟨q, 1, none⟩ = false := (bw4.frozen (p := ⟨q, 1, none⟩) hqB).trans f1))
  go_end0
  have hq4 : w4.heap[q]? = some (refO c d l (.slice ao L.length cap) dk) := (bw4.block q hqB).trans HHD.out
  have hset := heap_setCell_same w4 q 1 _ 50 (.slice ao4 n4 cap4) hq4; have hfiles := O4.out.files (F := fun k => (G k /\ k < B) \/ B <= k) (fun g hg _ _ => .inr hg)
  have hput := HPUT.out; rw [List.nil_append, List.append_assoc, List.singleton_append] at hfiles; rw [<- hput] at hfiles; have hBe := HB.out; refine ⟨rfl, ⟨(Turn.of_below _ (by rw [<- hBe]; exact bw4)).trans (turn_set q 1 w4 _), _, hset, ?_⟩⟩
  have hsz : (w4.setCell ⟨q, 1, none⟩ (.slice ao4 n4 cap4)).heap.size = w4.heap.size := by simp [World.setCell]
  have h5 := hfiles.mono (F' := fun k => (G k /\ k < B) \/ (B <= k /\ k < w4.heap.size)) (fun k hk h => h.imp id (fun h => ⟨h, hk⟩))
  rw [<- hBe, hsz]; exact h5.turn (turn_set q 1 w4 _) (fun k hk => by rcases hk with h | h; exact hq k h.1; intro e; omega)
 | false =>
  rw [if_neg (by simp)] at hR
  obtain rfl : J = R := hR.symm
  go_enter Tryz.func79, Tryz.ntmps79; go_wp2_with (first
   | (go_at_call 93; refine HFI.out.mono ?_; rintro e w1 ⟨rfl, m0, rfl⟩; have b0 : Below B w (w.drewN m0) := below_drewN (Below.refl _ _) m0; obtain ⟨r1, r2, _, _⟩ := HOLD.out _ b0; have HR1 := h_ r1; have HR2 := h_ r2; clear r1 r2)
   | (at_builtin; refine wpList_append_piece files74 rfl _ _ rfl B (.slice none 0 0) (fun k => (G k /\ k < B) \/ B <= k) _ [] _ [] _ rfl (FilesOwn.nil _ _ _ _) aoH J cap g off rfl HR1.out HR2.out HL1.out (fun k _ hk => ⟨.inl hk, (fun e => by cases e)⟩) (by simp only [List.length_nil]; omega) (by exact hBw) ?_; intro v1 w1 o1 b1; have bw1 := b0.trans b1; have O1 := h_ o1; have k1 : w1.cell? ⟨q, 1, none⟩ = some (.slice ao N cap) := (bw1.cell (p := ⟨q, 1, none⟩) hqB).trans c1; clear o1 b1 b0 HR1 HR2)
   | (at_builtin; refine wpList_append_src rfl _ _ rfl w1.heap.size _ 0 [] rfl (owns_of_row (heap_alloc_new _ _) (Nat.le_refl _) (Nat.le_refl _) (Nat.zero_le _) rfl rfl rfl) ao2 M cap2 rfl (b.map B8) (by rw [List.length_map]; exact HM.out.symm) (fun hh => by rw [HM.out]; exact HS.out.bare hh) ((HS.out.below (by rw [<- HB.out]; exact bw1.alloc (Nat.le_trans hBw bw1.size) _)).cells) (B8_one _) (by omega) (by simp) ?_; intro v2 w2 hown2 hg2 hv2; have b2 : Below w1.heap.size w1 w2 := ((Below.refl _ _).alloc (Nat.le_refl _) _).grown hg2 (by simp) (fun k hk => by cases hk; exact Nat.le_refl _); have o2 := own_first hown2; rw [HM.out] at o2; obtain ⟨ao3, cap3, B3, rfl, s3, hB3⟩ := src_of_own o2; have S3 := h_ s3; have HB3 := h_ hB3; clear s3 hB3 o2 hown2 hg2 hv2; rw [<- HM.out]; have bw2 := bw1.trans (b2.mono (Nat.le_trans hBw bw1.size)); have k2 : w2.cell? ⟨q, 1, none⟩ = some (.slice ao N cap) := (bw2.cell (p := ⟨q, 1, none⟩) hqB).trans c1)
   | (at_builtin; refine wpList_append_piece files74 rfl _ _ rfl B v1 (fun k => (G k /\ k < B) \/ B <= k) (fun k => B <= k /\ v1.ownBlock ≠ some k) _ [(n, .slice ao3 M cap3)] _ [(n, b)] rfl (O1.out.turn (Turn.of_below (fun _ => False) (b2.alloc b2.size _)) (fun _ _ h => h) (fun _ _ h => h)) (some ⟨w2.heap.size, 0, none⟩) 1 1 w2.heap.size 0 rfl ((raw_new w2 73 n (.slice ao3 M cap3)).mono (fun k _ hk => by subst hk; have h1 := b2.size; have h2 := bw1.size; exact ⟨by omega, fun e => by have h3 := (O1.out.own.lt _ e).2; omega⟩)) (Has.one (by refine ⟨ao3, cap3, B3, 0, by rw [HM.out], S3.out.below ((Below.refl _ _).alloc (Nat.le_refl _) _), fun hp => ?_⟩; have h0 := HB3.out hp; have h2 := bw1.size; exact ⟨by omega, fun e => by have h3 := (O1.out.own.lt _ e).2; omega⟩)) rfl (fun k _ hk => ⟨.inr hk.1, hk.2⟩) (by have h1 := HL3.out; rw [List.nil_append, h1]; omega) (by have h1 := b2.size; have h2 := bw1.size; simp; omega) ?_; intro v3 w3 o3 b3; have bw3 := (bw2.alloc (Nat.le_trans hBw bw2.size) _).trans b3; have O3 := h_ o3; clear o3 b3; obtain ⟨_, _, r3, r4⟩ := HOLD.out _ bw3; have HR3 := h_ r3; have HR4 := h_ r4; have k3 : w3.cell? ⟨q, 1, none⟩ = some (.slice ao N cap) := (bw3.cell (p := ⟨q, 1, none⟩) hqB).trans c1; clear r3 r4)
   | (at_builtin; refine wpList_append_piece files74 rfl _ _ rfl B v3 (fun k => (G k /\ k < B) \/ B <= k) _ _ _ _ _ rfl O3.out aoT (N - J) (cap - J) g (off + J * 2) rfl HR3.out HR4.out HL2.out (fun k _ hk => ⟨.inl hk, (fun e => by have := (O3.out.own.lt _ e).1; omega)⟩) (by have h1 := HL3.out; simp only [List.nil_append, List.length_append, List.length_cons, List.length_nil, h1]; omega) (Nat.le_trans hBw bw3.size) ?_; intro v4 w4 o4 b4; obtain ⟨ao4, n4, cap4, hv4⟩ : ∃ a n c, v4 = .slice a n c := slice_shape o4.own; subst hv4; have bw4 := bw3.trans b4; have O4 := h_ o4; clear o4 b4; have k4 : w4.cell? ⟨q, 1, none⟩ = some (.slice ao N cap) := (bw4.cell (p := ⟨q, 1, none⟩) hqB).trans c1; have f4 : w4.frozen? ⟨q, 1, none⟩ = false := (bw4.frozen (p := ⟨q, 1, none⟩) hqB).trans f1))
  go_end0
  have hq4 : w4.heap[q]? = some (refO c d l (.slice ao L.length cap) dk) := (bw4.block q hqB).trans HHD.out
  have hset := heap_setCell_same w4 q 1 _ 50 (.slice ao4 n4 cap4) hq4; have hfiles := O4.out.files (F := fun k => (G k /\ k < B) \/ B <= k) (fun g hg _ _ => .inr hg)
  have hput := HPUT.out; rw [List.nil_append, List.append_assoc, List.singleton_append] at hfiles; rw [<- hput] at hfiles; have hBe := HB.out; refine ⟨rfl, ⟨(Turn.of_below _ (by rw [<- hBe]; exact bw4)).trans (turn_set q 1 w4 _), _, hset, ?_⟩⟩
  have hsz : (w4.setCell ⟨q, 1, none⟩ (.slice ao4 n4 cap4)).heap.size = w4.heap.size := by simp [World.setCell]
  have h5 := hfiles.mono (F' := fun k => (G k /\ k < B) \/ (B <= k /\ k < w4.heap.size)) (fun k hk h => h.imp id (fun h => ⟨h, hk⟩))
  rw [<- hBe, hsz]; exact h5.turn (turn_set q 1 w4 _) (fun k hk => by rcases hk with h | h; exact hq k h.1; intro e; omega)
end
end
section
open Go.RowKit
section
variable {w : World} {q : Nat} {G : Nat -> Prop} {ao : Option Addr} {cap : Nat} {P : List (Bs × Value)} {g off : Nat} {L : Files}
theorem drop_any {c d l : Int} {dk : Bool} (hh : w.heap[q]? = some (refO c d l (.slice ao L.length cap) dk)) (hraw : RawAt w G ao cap P g off) (hhas : Has w G P L) (hq : ∀ k, G k -> k ≠ q) (hr : Rising L) (hL : L.length <= 4000000000000)
  (n : Bs) (ht : thereF n L = true) :
  Calls Tryz.prog 102 #[ptr q, .string (SL n)] w fun e w' => e = .returned (.tuple #[]) /\ Relaid w q G c d l dk (delF n L) w' := by
 obtain ⟨c0, c1, c2, c3, c4, fr⟩ := ref_cells hh; have hlist : ListAt w q G ao cap P g off L := ⟨c1, hraw, hhas⟩; have hfind := find_any hlist hr (by omega) n
 have hput := delF_place (n := n) hr ht
 obtain ⟨pp, hpp, _⟩ := (there_of hr).1 ht; have hpl := (List.getElem?_eq_some_iff.1 hpp).1; obtain ⟨N, hN⟩ := nm_ (L.length); obtain ⟨J, hJ⟩ := nm_ (posF n L); rw [<- hJ, ht] at hfind; rw [<- hJ] at hput; rw [<- hJ, <- hN] at hpl; rw [<- hN] at c1 hL; have hPN : P.length = N := by rw [hN]; exact hhas.1
 obtain ⟨aoH, hslH, hrawH⟩ := hraw.slice_h J (by omega)
 rw [hPN] at hslH; obtain ⟨R, hR⟩ := nm_ (J + 1); have hJ2 : R <= N := by omega
 rw [<- hR] at hput; obtain ⟨aoT, hslT, hrawT⟩ := hraw.slice_l R (by omega)
 rw [hPN] at hslT; obtain ⟨B, hB⟩ := nm_ (w.heap.size); have hwB : w.heap.size <= B := by omega
 have hBw : B <= w.heap.size := by omega
 have hqB : q < B := by rw [hB]; exact (ge_ hh).1
 -- what lies in old memory stays
 have hold : ∀ W, Below B w W -> RawAt W (fun k => G k /\ k < B) aoH cap (P.take J) g off /\ Has W (fun k => G k /\ k < B) (P.take J) (L.take J) /\ RawAt W (fun k => G k /\ k < B) aoT (cap - R) (P.drop R) g (off + R * 2) /\ Has W (fun k => G k /\ k < B) (P.drop R) (L.drop R) := fun W hW => by
  have tt : Turn (fun _ => False) w W := Turn.of_below _ (by rw [<- hB]; exact hW)
  have mm : ∀ k, k < w.heap.size -> G k -> G k /\ k < B := fun k hk hg => ⟨hg, by omega⟩
  exact ⟨(hrawH.mono mm).turn tt (fun _ _ h => h), ((hhas.mono mm).turn tt (fun _ _ h => h)).take J, (hrawT.mono mm).turn tt (fun _ _ h => h), ((hhas.mono mm).turn tt (fun _ _ h => h)).drop R⟩
 have HOLD := h_ hold; have HPUT := h_ hput; have HHD := h_ hh; have HFI := h_ hfind; have HB := h_ hB; have hlJ : (P.take J).length = J := by rw [List.length_take]; omega
 have hlR : (P.drop R).length = N - R := by rw [List.length_drop]; omega
 have hlJ2 : (L.take J).length = J := by rw [List.length_take]; omega
 have HL1 := h_ hlJ; have HL2 := h_ hlR; have HL3 := h_ hlJ2; have HNL := h_ hN; have f1 := fr 1; clear hold hput hraw hhas hN hh hPN hJ ht hpp hfind hlist hrawT hrawH hlJ hlR hlJ2 hB; have hJR : (J : Int) + 1 = (R : Int) := by omega
 clear hR; go_enter Tryz.func102, Tryz.ntmps102; go_wp2_with (first
  | (go_at_call 93; refine HFI.out.mono ?_; rintro e w1 ⟨rfl, m0, rfl⟩; have b0 : Below B w (w.drewN m0) := below_drewN (Below.refl _ _) m0; obtain ⟨r1, r2, _, _⟩ := HOLD.out _ b0; have HR1 := h_ r1; have HR2 := h_ r2; clear r1 r2)
  | (at_builtin; refine wpList_append_piece files74 rfl _ _ rfl B (.slice none 0 0) (fun k => (G k /\ k < B) \/ B <= k) _ [] _ [] _ rfl (FilesOwn.nil _ _ _ _) aoH J cap g off rfl HR1.out HR2.out HL1.out (fun k _ hk => ⟨.inl hk, (fun e => by cases e)⟩) (by simp only [List.length_nil]; omega) (by exact hBw) ?_; intro v1 w1 o1 b1; have bw1 := b0.trans b1; have O1 := h_ o1; have k1 : w1.cell? ⟨q, 1, none⟩ = some (.slice ao N cap) := (bw1.cell (p := ⟨q, 1, none⟩) hqB).trans c1; obtain ⟨_, _, r3, r4⟩ := HOLD.out _ bw1; have HR3 := h_ r3; have HR4 := h_ r4; clear r3 r4 o1 b1 b0 HR1 HR2)
  | (at_builtin; refine wpList_append_piece files74 rfl _ _ rfl B v1 (fun k => (G k /\ k < B) \/ B <= k) _ _ _ _ _ rfl O1.out aoT (N - R) (cap - R) g (off + R * 2) rfl HR3.out HR4.out HL2.out (fun k _ hk => ⟨.inl hk, (fun e => by have := (O1.out.own.lt _ e).1; omega)⟩) (by have h1 := HL3.out; simp only [List.nil_append, h1]; omega) (Nat.le_trans hBw bw1.size) ?_; intro v4 w4 o4 b4; obtain ⟨ao4, n4, cap4, hv4⟩ : ∃ a n c, v4 = .slice a n c := slice_shape o4.own; subst hv4; have bw4 := bw1.trans b4; have O4 := h_ o4; clear o4 b4; have k4 : w4.cell? ⟨q, 1, none⟩ = some (.slice ao N cap) := (bw4.cell (p := ⟨q, 1, none⟩) hqB).trans c1; have f4 : w4.frozen? ⟨q, 1, none⟩ = false := (bw4.frozen (p := ⟨q, 1, none⟩) hqB).trans f1))
 go_end0
 have hq4 : w4.heap[q]? = some (refO c d l (.slice ao L.length cap) dk) := (bw4.block q hqB).trans HHD.out
 have hset := heap_setCell_same w4 q 1 _ 50 (.slice ao4 n4 cap4) hq4; have hfiles := O4.out.files (F := fun k => (G k /\ k < B) \/ B <= k) (fun g hg _ _ => .inr hg)
 have hput := HPUT.out; rw [List.nil_append] at hfiles; rw [<- hput] at hfiles; have hBe := HB.out; refine ⟨rfl, ⟨(Turn.of_below _ (by rw [<- hBe]; exact bw4)).trans (turn_set q 1 w4 _), _, hset, ?_⟩⟩
 have hsz : (w4.setCell ⟨q, 1, none⟩ (.slice ao4 n4 cap4)).heap.size = w4.heap.size := by simp [World.setCell]
 have h5 := hfiles.mono (F' := fun k => (G k /\ k < B) \/ (B <= k /\ k < w4.heap.size)) (fun k hk h => h.imp id (fun h => ⟨h, hk⟩))
 rw [<- hBe, hsz]; exact h5.turn (turn_set q 1 w4 _) (fun k hk => by rcases hk with h | h; exact hq k h.1; intro e; omega)
end
end
section
open Go.RowKit
structure RefIn (w : World) (F : Nat -> Prop) (q : Nat) (ao : Option Addr) (cap : Nat) (P : List (Bs × Value)) (g off : Nat) (S : St) : Prop where
 head : w.heap[q]? = some (refO (S.cap : Int) (S.done : Int) S.left (.slice ao S.fs.length cap) S.dark)
 inQ : F q
 raw : RawAt w (fun k => F k /\ k ≠ q) ao cap P g off
 has : Has w (fun k => F k /\ k ≠ q) P S.fs
theorem RefAt.opened {w : World} {F : Nat -> Prop} {q : Nat} {S : St} (h : RefAt w F q S) : ∃ ao cap P g off, RefIn w F q ao cap P g off S := by
 obtain ⟨lv, h1, h2, ao, cap, P, g, off, rfl, h3, h4⟩ := h; exact ⟨ao, cap, P, g, off, h1, h2, h3, h4⟩
def RActs (F : Nat -> Prop) (q : Nat) (w : World) (r : Int × St) (e : Ending) (w' : World) : Prop := e = .returned (err r.1) /\ RefAt w' (grow F w w') q r.2 /\ Turn F w w'
section
variable {w : World} {F : Nat -> Prop} {q : Nat} {ao : Option Addr} {cap : Nat} {P : List (Bs × Value)} {g off : Nat} {S : St}
theorem RefIn.shut (h : RefIn w F q ao cap P g off S) : RefAt w F q S := ⟨_, h.head, h.inQ, ao, cap, P, g, off, rfl, h.raw, h.has⟩
theorem RefIn.list (h : RefIn w F q ao cap P g off S) : ListAt w q (fun k => F k /\ k ≠ q) ao cap P g off S.fs := ⟨(ref_cells h.head).2.1, h.raw, h.has⟩
theorem RefIn.drewN (h : RefIn w F q ao cap P g off S) (n : Nat) : RefIn (w.drewN n) F q ao cap P g off S :=
 ⟨h.head, h.inQ, h.raw.turn (Turn.drewN (G := fun _ => False) w n) (fun _ _ h => h), h.has.turn (Turn.drewN (G := fun _ => False) w n) (fun _ _ h => h)⟩
theorem ract_same (h : RefIn w F q ao cap P g off S) (k : Int) (n : Nat) : RActs F q w (k, S) (.returned (err k)) (w.drewN n) := ⟨rfl, (h.drewN n).shut.mono fun _ h => .inl h, Turn.drewN w n⟩
theorem ref_foot {w' : World} {o : Obj} (ho : OnlyHead q o w w') (h : RefIn w F q ao cap P g off S) : Turn F w w' := (Turn.refl F w).then ho.turn (fun i _ e => by subst e; exact h.inQ)
theorem ref_list {w' : World} {o : Obj} (ho : OnlyHead q o w w') (h : RefIn w F q ao cap P g off S) : RawAt w' (fun k => F k /\ k ≠ q) ao cap P g off /\ Has w' (fun k => F k /\ k ≠ q) P S.fs :=
 ⟨h.raw.turn ho.turn (fun _ hk e => hk.2 e), h.has.turn ho.turn (fun _ hk e => hk.2 e)⟩
theorem spend_cut (h : RefIn w F q ao cap P g off S) (h0 : S.left = 0) : Calls Tryz.prog 101 #[ptr q] w fun e w' => e = .returned (.bool false) /\ RefIn w' F q ao cap P g off (cutNow S) /\ Turn F w w' := by
 have hh := h.head; rw [h0] at hh; obtain ⟨c0, c1, c2, c3, c4, fr⟩ := ref_cells hh; have f3 := fr 3; have f4 := fr 4; have hset := heap_setCell_same _ q 3 _ 50 (.int .i64 (-1)) (heap_setCell_same w q 4 _ 50 (.bool true) hh); have ht : Turn (fun k => k = q) w ((w.setCell ⟨q, 4, none⟩ (.bool true)).setCell ⟨q, 3, none⟩ (.int .i64 (-1))) := (turn_set q 4 w _).trans (turn_set q 3 _ _)
 have HO := h_ (OnlyHead.mk hset ht); clear hset ht hh; go_enter Tryz.func101, Tryz.ntmps101; go_wp2; go_ret; obtain ⟨r1, r2⟩ := ref_list HO.out h; exact ⟨rfl, ⟨HO.out.head, h.inQ, r1, r2⟩, ref_foot HO.out h⟩
theorem spend_done (h : RefIn w F q ao cap P g off S) (hg : Good S) (hb : S.done <= 4000000000000000) (h0 : S.left ≠ 0) : Calls Tryz.prog 101 #[ptr q] w fun e w' => e = .returned (.bool true) /\ RefIn w' F q ao cap P g off (tick S) /\ Turn F w w' := by
 have hh := h.head; obtain ⟨c0, c1, c2, c3, c4, fr⟩ := ref_cells hh; have f3 := fr 3; have f2 := fr 2; have g1 := hg.low; have g2 := hg.high; obtain ⟨l, hl⟩ := nm_ (S.left); obtain ⟨d, hd⟩ : ∃ d : Int, d = (S.done : Int) := ⟨_, rfl⟩
 have hfin : ∀ w', OnlyHead q (refO (S.cap : Int) (d + 1) (tick S).left (.slice ao S.fs.length cap) S.dark) w w' -> RefIn w' F q ao cap P g off (tick S) /\ Turn F w w' := fun w' ho => by
  obtain ⟨r1, r2⟩ := ref_list ho h; rw [hd] at ho; exact ⟨⟨ho.head, h.inQ, r1, r2⟩, ref_foot ho h⟩
 have hdb : 0 <= d /\ d <= 4000000000000000 := by omega
 have htl : (tick S).left = if l = -1 then -1 else l - 1 := by rw [hl]; rfl
 rw [htl] at hfin; rw [<- hl] at c3 h0 g1 g2 hh; rw [<- hd] at c2 hh; have HF := h_ hfin; clear hfin htl hl hd; by_cases h1 : l = -1
 ·subst h1
  have hset := heap_setCell_same w q 2 _ 50 (.int .i64 (d + 1)) hh; have HO := h_ (HF.out _ ⟨by rw [if_pos rfl]; exact hset, turn_set q 2 w _⟩)
  clear hset hh HF; go_enter Tryz.func101, Tryz.ntmps101; go_wp2; go_ret; exact ⟨rfl, HO.out⟩
 ·have hgt : l > 0 := by omega
  have hset := heap_setCell_same _ q 2 _ 50 (.int .i64 (d + 1)) (heap_setCell_same w q 3 _ 50 (.int .i64 (l - 1)) hh); have HO := h_ (HF.out _ ⟨by rw [if_neg h1]; exact hset, (turn_set q 3 w _).trans (turn_set q 2 _ _)⟩)
  clear hset hh HF; go_enter Tryz.func101, Tryz.ntmps101; go_wp2; go_ret; exact ⟨rfl, HO.out⟩
theorem refHas_any (h : RefIn w F q ao cap P g off S) (hr : Rising S.fs) (hL : S.fs.length <= 4000000000000) (n : Bs) : Calls Tryz.prog 52 #[ptr q, .string (SL n)] w fun e w' => e = .returned (.bool (thereF n S.fs)) /\ ∃ m, w' = w.drewN m := by
 have hf := find_any h.list hr (by omega) n
 go_enter Tryz.func52, Tryz.ntmps52; go_wp2_with (go_at_call 93; refine hf.mono ?_; rintro e w' ⟨rfl, m, rfl⟩)
 go_ret; exact ⟨rfl, m, rfl⟩
theorem touch_any (h : RefIn w F q ao cap P g off S) (hr : Rising S.fs) (hL : S.fs.length <= 4000000000000) (n : Bs) (hn : n.length <= 9223372036854775807) : Calls Tryz.prog 100 #[ptr q, .string (SL n)] w fun e w' => e = .returned (err (touchS S n)) /\ ∃ m, w' = w.drewN m := by
 have hN := refNamed_any n w hn; have hH := refHas_any h hr hL n; obtain ⟨c0, c1, c2, c3, c4, fr⟩ := ref_cells h.head; unfold touchS
 cases hnn : named n with
 | false =>
  rw [hnn] at hN; go_enter Tryz.func100, Tryz.ntmps100; go_wp2_with (go_at_call 78; refine hN.mono ?_; rintro e w' ⟨rfl, rfl⟩)
  go_ret; exact ⟨rfl, 0, rfl⟩
 | true =>
  rw [hnn] at hN
  cases hd : S.dark with
  | true =>
   rw [hd] at c4; go_enter Tryz.func100, Tryz.ntmps100; go_wp2_with (go_at_call 78; refine hN.mono ?_; rintro e w' ⟨rfl, rfl⟩)
   go_ret; exact ⟨rfl, 0, rfl⟩
  | false =>
   rw [hd] at c4
   cases hf : findF n S.fs with
   | none =>
    have ht : thereF n S.fs = false := by simp [thereF, hf]
    rw [ht] at hH; clear hf ht; go_enter Tryz.func100, Tryz.ntmps100; go_wp2_with (first | (go_at_call 78; refine hN.mono ?_; rintro e w' ⟨rfl, rfl⟩) | (go_at_call 52; refine hH.mono ?_; rintro e w' ⟨rfl, m, rfl⟩))
    go_ret; exact ⟨rfl, m, rfl⟩
   | some b =>
    have ht : thereF n S.fs = true := by simp [thereF, hf]
    rw [ht] at hH; clear hf ht; go_enter Tryz.func100, Tryz.ntmps100; go_wp2_with (first | (go_at_call 78; refine hN.mono ?_; rintro e w' ⟨rfl, rfl⟩) | (go_at_call 52; refine hH.mono ?_; rintro e w' ⟨rfl, m, rfl⟩))
    go_ret; exact ⟨rfl, m, rfl⟩
theorem ract_cut {w' : World} (h : RefIn w' F q ao cap P g off (cutNow S)) (ht : Turn F w w') : RActs F q w (5, cutNow S) (.returned (err 5)) w' := ⟨rfl, h.shut.mono fun _ h => .inl h, ht⟩
/-! ### Sync -/
theorem refSync_any (h : RefIn w F q ao cap P g off S) (hg : Good S) (hb : S.done <= 4000000000000000) (n : Bs) (hn : n.length <= 9223372036854775807) : Calls Tryz.prog 109 #[ptr q, .string (SL n)] w (RActs F q w (syncS S n)) := by
 have hL : S.fs.length <= 4000000000000 := by have := hg.many; omega
 have hr := touch_any h hg.rise hL n hn; unfold syncS; by_cases ht : touchS S n = 0
 ·rw [if_neg (by simp [ht])]
  rw [ht] at hr; unfold writeS; by_cases h0 : S.left = 0
  ·rw [if_pos h0]
   go_enter Tryz.func109, Tryz.ntmps109; go_wp2_with (first | (go_at_call 100; refine hr.mono ?_; rintro e w' ⟨rfl, m, rfl⟩) | (go_at_call 101; refine (spend_cut (h.drewN m) h0).mono ?_; rintro e w' ⟨rfl, h1, h2⟩))
   go_ret; exact ract_cut h1 ((Turn.drewN w m).trans h2)
  ·rw [if_neg h0]
   go_enter Tryz.func109, Tryz.ntmps109; go_wp2_with (first | (go_at_call 100; refine hr.mono ?_; rintro e w' ⟨rfl, m, rfl⟩) | (go_at_call 101; refine (spend_done (h.drewN m) hg hb h0).mono ?_; rintro e w' ⟨rfl, h1, h2⟩))
   go_ret; exact ⟨rfl, h1.shut.mono fun _ h => .inl h, (Turn.drewN w m).trans h2⟩
 ·rw [if_pos ht]
  obtain ⟨z, hz⟩ := nm_ (touchS S n); rw [<- hz] at hr ht |-; have HS := h_ (fun m => ract_same h z m)
  clear hz; go_enter Tryz.func109, Tryz.ntmps109; go_wp2_with (first | (go_at_call 100; refine hr.mono ?_; rintro e w' ⟨rfl, m, rfl⟩))
  go_ret; exact HS.out m
/-! ### Cut, On -/
theorem refCut_any (h : RefIn w F q ao cap P g off S) (z : Int) : Calls Tryz.prog 17 #[ptr q, .int .i64 z] w (RActs F q w (cutS S z)) := by
 have hh := h.head; obtain ⟨c0, c1, c2, c3, c4, fr⟩ := ref_cells hh; have f3 := fr 3; unfold cutS; by_cases h0 : z < 0
 ·rw [if_pos h0]
  have HS := h_ (ract_same h 1 0); go_enter Tryz.func17, Tryz.ntmps17; go_wp2; go_ret; exact HS.out
 ·rw [if_neg h0]
  cases hd : S.dark with
  | true =>
   rw [if_pos rfl]; rw [hd] at c4; have HS := h_ (ract_same h 0 0); go_enter Tryz.func17, Tryz.ntmps17; go_wp2; go_ret; exact HS.out
  | false =>
   rw [if_neg (by simp)]
   rw [hd] at c4 hh; have hset := heap_setCell_same w q 3 _ 50 (.int .i64 z) hh; have HO := h_ (OnlyHead.mk hset (turn_set q 3 w (.int .i64 z))); clear hset hh; go_enter Tryz.func17, Tryz.ntmps17; go_wp2; go_ret; obtain ⟨r1, r2⟩ := ref_list HO.out h; exact ⟨rfl, RefAt.mono (RefIn.shut (S := { S with left := z, dark := false }) ⟨HO.out.head, h.inQ, r1, r2⟩) (fun _ h => .inl h), ref_foot HO.out h⟩
theorem refOn_any (h : RefIn w F q ao cap P g off S) : Calls Tryz.prog 19 #[ptr q] w fun e w' => e = .returned (.tuple #[]) /\ RefAt w' (grow F w w') q (onS S) /\ Turn F w w' := by
 have hh := h.head; obtain ⟨c0, c1, c2, c3, c4, fr⟩ := ref_cells hh; have f3 := fr 3; have f4 := fr 4; have hset := heap_setCell_same _ q 3 _ 50 (.int .i64 (-1)) (heap_setCell_same w q 4 _ 50 (.bool false) hh); have HO := h_ (OnlyHead.mk hset ((turn_set q 4 w (.bool false)).trans (turn_set q 3 _ (.int .i64 (-1))))); clear hset hh; go_enter Tryz.func19, Tryz.ntmps19; go_wp2; go_end0
 obtain ⟨r1, r2⟩ := ref_list HO.out h; exact ⟨rfl, RefAt.mono (RefIn.shut (S := onS S) ⟨HO.out.head, h.inQ, r1, r2⟩) (fun _ h => .inl h), ref_foot HO.out h⟩
theorem ract_relaid {w1 w2 : World} {L' : Files} {k : Int} (h1 : RefIn w1 F q ao cap P g off (tick S)) (ht : Turn F w w1) (hr : Relaid w1 q (fun k => F k /\ k ≠ q) (S.cap : Int) ((tick S).done : Int) (tick S).left S.dark L' w2) (hs : w.heap.size <= w1.heap.size)
  (hF : ∀ k, F k -> k < w.heap.size) : RActs F q w (k, { tick S with fs := L' }) (.returned (err k)) w2 := by
 obtain ⟨lv, h2, h3⟩ := hr.head; have hsz := hr.turn.size; have hq1 := hF _ h1.inQ; refine ⟨rfl, ⟨lv, h2, .inl h1.inQ, h3.mono fun i hi h => ?_⟩, ht.then hr.turn (fun i _ e => by subst e; exact h1.inQ)⟩
 rcases h with h | h
 ·exact ⟨.inl h.1.1, h.1.2⟩
 ·exact ⟨.inr ⟨by omega, h.2⟩, by omega⟩
/-! ### Remove -/
theorem refRemove_any (h : RefIn w F q ao cap P g off S) (hF : ∀ k, F k -> k < w.heap.size) (hg : Good S) (hb : S.done <= 4000000000000000) (n : Bs) (hn : n.length <= 9223372036854775807) : Calls Tryz.prog 53 #[ptr q, .string (SL n)] w (RActs F q w (removeS S n)) := by
 have hL : S.fs.length <= 4000000000000 := by have := hg.many; omega
 have hr := touch_any h hg.rise hL n hn; unfold removeS; by_cases ht : touchS S n = 0
 ·obtain ⟨_, hd, b, hbb⟩ := touch_there ht
  have hth : thereF n S.fs = true := by simp [thereF, hbb]
  rw [if_neg (by simp [ht])]
  rw [ht] at hr; unfold writeS; by_cases h0 : S.left = 0
  ·rw [if_pos h0]
   go_enter Tryz.func53, Tryz.ntmps53; go_wp2_with (first | (go_at_call 100; refine hr.mono ?_; rintro e w' ⟨rfl, m, rfl⟩) | (go_at_call 101; refine (spend_cut (h.drewN m) h0).mono ?_; rintro e w' ⟨rfl, h1, h2⟩))
   go_ret; exact ract_cut h1 ((Turn.drewN w m).trans h2)
  ·rw [if_neg h0]
   go_enter Tryz.func53, Tryz.ntmps53; go_wp2_with (first | (go_at_call 100; refine hr.mono ?_; rintro e w' ⟨rfl, m, rfl⟩) | (go_at_call 101; refine (spend_done (h.drewN m) hg hb h0).mono ?_; rintro e w1 ⟨rfl, h1, h2⟩) | (go_at_call 102; refine (drop_any h1.head h1.raw h1.has (fun k hk => hk.2) hg.rise hL n hth).mono ?_; rintro e w2 ⟨rfl, h3⟩))
   go_ret; exact ract_relaid h1 ((Turn.drewN w m).trans h2) h3 ((Turn.drewN (G := F) w m).trans h2).size hF
 ·rw [if_pos ht]
  obtain ⟨z, hz⟩ := nm_ (touchS S n); rw [<- hz] at hr ht |-; have HS := h_ (fun m => ract_same h z m)
  clear hz; go_enter Tryz.func53, Tryz.ntmps53; go_wp2_with (first | (go_at_call 100; refine hr.mono ?_; rintro e w' ⟨rfl, m, rfl⟩))
  go_ret; exact HS.out m
end
end
section
open Go.RowKit
theorem cell_drewN_alloc {w : World} {a : Addr} {v : Value} (h : w.cell? a = some v) (m : Nat) (o : Obj) : ((w.drewN m).alloc o).cell? a = some v :=
 (World.cell?_of_block (w := w.drewN m) (Below.heap_alloc _ o a.block (World.block_lt_of_cell? w a h))).trans h
section
variable {w : World} {F : Nat -> Prop} {q : Nat} {ao : Option Addr} {cap : Nat} {P : List (Bs × Value)} {g off : Nat} {S : St}
theorem refRead_any (h : RefIn w F q ao cap P g off S) (hr : Rising S.fs) (hL : S.fs.length <= 4000000000000) (n : Bs) (hn : n.length <= 9223372036854775807) (hs : ∀ b, findF n S.fs = some b -> b.length <= 140737488355328) :
  Calls Tryz.prog 48 #[ptr q, .string (SL n)] w fun e w' => ∃ v, e = .returned (.tuple #[v, err (readS S n).1]) /\ w'.ownsRow w.heap.size 5 1 v (readS S n).2.length ((readS S n).2.map B8) /\ Below w.heap.size w w' := by
 have hN := refNamed_any n w hn; have hf := find_any h.list hr (by omega) n
 unfold readS
 cases hnn : named n with
 | false =>
  rw [hnn] at hN; go_enter Tryz.func48, Tryz.ntmps48; go_wp2_with (go_at_call 78; refine hN.mono ?_; rintro e w' ⟨rfl, rfl⟩)
  go_ret2; exact ⟨_, rfl, World.ownsRow_nil _ _ _ _, Below.refl _ _⟩
 | true =>
  rw [hnn] at hN; obtain ⟨J, hJ⟩ := nm_ (posF n S.fs); rw [<- hJ] at hf
  cases hff : findF n S.fs with
  | none =>
   have ht : thereF n S.fs = false := by simp [thereF, hff]
   rw [ht] at hf; clear hff ht hJ; go_enter Tryz.func48, Tryz.ntmps48; go_wp2_with (first | (go_at_call 78; refine hN.mono ?_; rintro e w' ⟨rfl, rfl⟩) | (go_at_call 93; refine hf.mono ?_; rintro e w' ⟨rfl, m, rfl⟩))
   go_ret2; exact ⟨_, rfl, World.ownsRow_nil _ _ _ _, below_drewN (Below.refl _ _) m⟩
  | some b =>
   have ht : thereF n S.fs = true := by simp [thereF, hff]
   rw [ht] at hf; have hat := find_place hr hff; rw [<- hJ] at hat; have hbl := hs b hff; have hcell := h.list.cell; obtain ⟨e1, c1, x, cc, c2, hby⟩ := h.list.name hat; subst e1; have hJl := (List.getElem?_eq_some_iff.1 hat).1; obtain ⟨N, hN2⟩ := nm_ (S.fs.length); obtain ⟨M, hM⟩ := nm_ (b.length); rw [<- hN2] at hcell hJl; rw [<- hM] at c2 hbl; have i0 : (0 : Int) <= (J : Int) := by omega
   have i1 : (J : Int) < (N : Int) := by omega
   obtain ⟨x2, cc2, B2, off2, hxx, hsrc, _⟩ := hby
   cases hxx
   have HS := h_ hsrc; have HM := h_ hM; simp only [Bool.true_eq_false, if_false]; rw [<- hM]; have k1 := cell_drewN_alloc hcell; have k3 := cell_drewN_alloc c2; clear hff ht hJ hat hN2 hM hsrc; go_enter Tryz.func48, Tryz.ntmps48
   go_wp2_with (first | (go_at_call 78; refine hN.mono ?_; rintro e wa ⟨rfl, rfl⟩) | (go_at_call 93; refine hf.mono ?_; rintro e w' ⟨rfl, m, rfl⟩) | (at_builtin; refine wpList_append_src rfl _ _ rfl wa.heap.size _ 0 [] rfl (owns_of_row (heap_alloc_new _ _) (Nat.le_refl _) (Nat.le_refl _) (Nat.zero_le _) rfl rfl rfl) x M cc rfl (b.map B8) (by rw [List.length_map]; exact HM.out.symm) (fun hh => by rw [HM.out]; exact HS.out.bare hh) ((HS.out.below ((below_drewN (Below.refl _ _) m).alloc (Nat.le_refl _) _)).cells) (B8_one _) (by omega) (by simp) ?_; intro v2 w2 hown2 hg2 hv2; have hb2 : Below wa.heap.size wa w2 := ((below_drewN (Below.refl _ _) m).alloc (Nat.le_refl _) _).grown hg2 (by simp) (fun k hk => by cases hk; exact Nat.le_refl _); clear hg2 hv2))
   go_ret2; exact ⟨_, rfl, own_first hown2, hb2⟩
theorem RefIn.turn {G : Nat -> Prop} {w' : World} (h : RefIn w F q ao cap P g off S) (ht : Turn G w w') (hn : ∀ k, F k -> ¬ G k) : RefIn w' F q ao cap P g off S :=
 ⟨ht.keep h.head (hn _ h.inQ), h.inQ, h.raw.turn ht fun k hk => hn k hk.1, h.has.turn ht fun k hk => hn k hk.1⟩
theorem RefIn.below {w' : World} (h : RefIn w F q ao cap P g off S) (hb : Below w.heap.size w w') : RefIn w' F q ao cap P g off S := h.turn (Turn.of_below (fun _ => False) hb) (fun _ _ h => h)
theorem refFree_in (h : RefIn w F q ao cap P g off S) (hL : S.fs.length <= 4000000000000) (hc : S.cap <= 1099511627776) : Calls Tryz.prog 80 #[ptr q] w fun e w' => e = .returned (.int .i64 (wrap64 S.free)) /\ ∃ m, w' = w.drewN m :=
 refFree_any h.list (by omega) (S.cap : Int) (IntWalk.wrap64_in _ ⟨by omega, by omega⟩) (ref_cells h.head).1
theorem ract_below {w' : World} (h : RefIn w F q ao cap P g off S) (k : Int) (hb : Below w.heap.size w w') : RActs F q w (k, S) (.returned (err k)) w' := ⟨rfl, (h.below hb).shut.mono fun _ h => .inl h, Turn.of_below F hb⟩
theorem refAppend_any (h : RefIn w F q ao cap P g off S) (hF : ∀ k, F k -> k < w.heap.size) (hg : Good S) (hb : S.done <= 4000000000000000) (n : Bs) (hn : n.length <= 9223372036854775807) (aoB : Option Addr) (capB : Nat) (b : Bs) (B offB : Nat) (hs : SrcAt w aoB capB b B offB) (hB : 0 < b.length -> ¬ F B) :
  Calls Tryz.prog 108 #[ptr q, .string (SL n), .slice aoB b.length capB] w (RActs F q w (appendS S n b)) := by
 have hL : S.fs.length <= 4000000000000 := by have := hg.many; omega
 have hN := refNamed_any n w hn; obtain ⟨c0, c1, c2, c3, c4, fr⟩ := ref_cells h.head; have hsn : (SL n).size = n.length := SL_size n
 have hfit : ∀ c, findF n S.fs = some c -> c.length <= 1099511627776 := fun c hc => by have := hg.file_le hc; unfold costF at this; omega
 have hR := refRead_any h hg.rise hL n hn (fun c hc => by have := hfit c hc; omega)
 obtain ⟨k, hk⟩ := nm_ (b.length); rw [<- hk]; have HK := h_ hk; unfold appendS; rw [<- hk]; by_cases h64 : 64 < k
 ·rw [if_pos h64]
  have HS := h_ (ract_same h 1 0); have g1 : (k : Int) > 64 := by omega
  clear hk h64 hR
  cases hnn : named n with
  | false =>
   rw [hnn] at hN; go_enter Tryz.func108, Tryz.ntmps108; go_wp2_with (go_at_call 78; refine hN.mono ?_; rintro e w' ⟨rfl, rfl⟩)
   go_ret; exact HS.out
  | true =>
   rw [hnn] at hN; go_enter Tryz.func108, Tryz.ntmps108; go_wp2_with (go_at_call 78; refine hN.mono ?_; rintro e w' ⟨rfl, rfl⟩)
   go_ret; exact HS.out
 ·rw [if_neg h64]
  have g1 : ¬ (k : Int) > 64 := by omega
  clear hk
  cases hnn : named n with
  | false =>
   have hrd : readyS S n = 1 := by simp [readyS, hnn]
   rw [hrd, if_pos (by decide)]
   rw [hnn] at hN; have HS := h_ (ract_same h 1 0); clear hrd hR; go_enter Tryz.func108, Tryz.ntmps108; go_wp2_with (go_at_call 78; refine hN.mono ?_; rintro e w' ⟨rfl, rfl⟩)
   go_ret; exact HS.out
  | true =>
   rw [hnn] at hN
   cases hd : S.dark with
   | true =>
    have hrd : readyS S n = 5 := by simp [readyS, hnn, hd]
    rw [hrd, if_pos (by decide)]
    rw [hd] at c4; have HS := h_ (ract_same h 5 0); clear hrd hR; go_enter Tryz.func108, Tryz.ntmps108; go_wp2_with (go_at_call 78; refine hN.mono ?_; rintro e w' ⟨rfl, rfl⟩)
    go_ret; exact HS.out
   | false =>
    have hrd : readyS S n = 0 := by simp [readyS, hnn, hd]
    rw [hrd, if_neg (by decide)]
    rw [hd] at c4; have hnl := (named_le hnn).1; have hf := hg.free_in
    -- what Read answers
    obtain ⟨rc, hrc⟩ := nm_ ((readS S n).1); obtain ⟨O, hO⟩ := nm_ ((readS S n).2); rw [<- hrc, <- hO] at hR; have hO2 : (findF n S.fs).getD [] = O := by
     rw [hO]; unfold readS; rw [hnn]
     cases findF n S.fs <;> rfl
    have hOl : O.length <= 1099511627776 := by
     rw [<- hO2]
     cases hff : findF n S.fs with
     | none => simp
     | some c => exact hfit c hff
    have hmore : (rc ≠ 0 /\ moreS S n b = (k : Int) + 16 + (n.length : Int)) \/ (rc = 0 /\ moreS S n b = (k : Int)) := by
     rw [hrc]; unfold readS moreS; rw [hnn]
     cases hff : findF n S.fs with
     | none => left; simp [costF, HK.out]; omega
     | some c => right; simp [HK.out]
    have hrc2 : rc = 3 \/ rc = 0 := by
     rw [hrc]; unfold readS; rw [hnn]
     cases hff : findF n S.fs <;> simp
    rw [hO2]; obtain ⟨X, hX⟩ := nm_ (O ++ b); rw [<- hX]; have hXl : X.length <= 140737488355328 := by rw [hX, List.length_append, <- HK.out]; omega
    have HX := h_ hX.symm; obtain ⟨m, hm⟩ := nm_ (moreS S n b); rw [<- hm] at hmore |-; have HR := h_ hR; have HB := h_ hB; have HSRC := h_ hs; clear hrd hrc hO hR hm hB hs hO2 hX; have hm0 : 0 <= m := by omega
    by_cases hq : S.free < m
    ·rw [if_pos hq]
     have hq1 : m > S.free := hq; have hq2 : m > 0 := by omega
     rcases hmore with ⟨hne, hm1⟩ | ⟨h00, hm1⟩
     ·skip
      obtain rfl : rc = 3 := by omega
      have hmm : (k : Int) + 16 + (n.length : Int) = m := hm1.symm
      clear hm1 hrc2 hne; have HS := h_ h; go_enter Tryz.func108, Tryz.ntmps108; go_wp2_with (first | (go_at_call 78; refine hN.mono ?_; rintro e wa ⟨rfl, rfl⟩) | (go_at_call 48; refine HR.out.mono ?_; rintro e w1 ⟨v1, rfl, o1, b1⟩; obtain ⟨ao1, cap1, B1, rfl, s1, hB1⟩ := src_of_own o1; have H1 := h_ (h.below b1); have O1 := h_ o1; have d4 : w1.cell? ⟨q, 4, none⟩ = some (.bool S.dark) := (ref_cells H1.out.head).2.2.2.2.1; rw [hd] at d4; clear s1 hB1 o1) | (go_at_call 80; refine (refFree_in H1.out hL hg.top).mono ?_; rintro e w2 ⟨rfl, m1, rfl⟩; rw [hf.2.2]))
      go_ret; exact ract_below h 4 (below_drewN b1 m1)
     ·skip
      subst hm1; obtain rfl : rc = 0 := h00
      clear hrc2; have HS := h_ h; go_enter Tryz.func108, Tryz.ntmps108; go_wp2_with (first | (go_at_call 78; refine hN.mono ?_; rintro e wa ⟨rfl, rfl⟩) | (go_at_call 48; refine HR.out.mono ?_; rintro e w1 ⟨v1, rfl, o1, b1⟩; obtain ⟨ao1, cap1, B1, rfl, s1, hB1⟩ := src_of_own o1; have H1 := h_ (h.below b1); have O1 := h_ o1; have d4 : w1.cell? ⟨q, 4, none⟩ = some (.bool S.dark) := (ref_cells H1.out.head).2.2.2.2.1; rw [hd] at d4; clear s1 hB1 o1) | (go_at_call 80; refine (refFree_in H1.out hL hg.top).mono ?_; rintro e w2 ⟨rfl, m1, rfl⟩; rw [hf.2.2]))
      go_ret; exact ract_below h 4 (below_drewN b1 m1)
    ·rw [if_neg hq]
     have hq1 : ¬ m > S.free := hq; unfold writeS; by_cases h0 : S.left = 0
     ·rw [if_pos h0]
      rcases hmore with ⟨hne, hm1⟩ | ⟨h00, hm1⟩
      ·skip
       obtain rfl : rc = 3 := by omega
       have hmm : (k : Int) + 16 + (n.length : Int) = m := hm1.symm
       clear hm1 hrc2 hne; go_enter Tryz.func108, Tryz.ntmps108; go_wp2_with (first | (go_at_call 78; refine hN.mono ?_; rintro e wa ⟨rfl, rfl⟩) | (go_at_call 48; refine HR.out.mono ?_; rintro e w1 ⟨v1, rfl, o1, b1⟩; obtain ⟨ao1, cap1, B1, rfl, s1, hB1⟩ := src_of_own o1; have H1 := h_ (h.below b1); have O1 := h_ o1; have d4 : w1.cell? ⟨q, 4, none⟩ = some (.bool S.dark) := (ref_cells H1.out.head).2.2.2.2.1; rw [hd] at d4; clear s1 hB1 o1) | (go_at_call 80; refine (refFree_in H1.out hL hg.top).mono ?_; rintro e w2 ⟨rfl, m1, rfl⟩; rw [hf.2.2]) | (go_at_call 101; refine (spend_cut (H1.out.drewN m1) h0).mono ?_; rintro e w3 ⟨rfl, h3, t3⟩))
       go_ret; exact ract_cut h3 ((Turn.of_below F (below_drewN b1 m1)).trans t3)
      ·skip
       subst hm1; obtain rfl : rc = 0 := h00
       clear hrc2; go_enter Tryz.func108, Tryz.ntmps108; go_wp2_with (first | (go_at_call 78; refine hN.mono ?_; rintro e wa ⟨rfl, rfl⟩) | (go_at_call 48; refine HR.out.mono ?_; rintro e w1 ⟨v1, rfl, o1, b1⟩; obtain ⟨ao1, cap1, B1, rfl, s1, hB1⟩ := src_of_own o1; have H1 := h_ (h.below b1); have O1 := h_ o1; have d4 : w1.cell? ⟨q, 4, none⟩ = some (.bool S.dark) := (ref_cells H1.out.head).2.2.2.2.1; rw [hd] at d4; clear s1 hB1 o1) | (go_at_call 80; refine (refFree_in H1.out hL hg.top).mono ?_; rintro e w2 ⟨rfl, m1, rfl⟩; rw [hf.2.2]) | (go_at_call 101; refine (spend_cut (H1.out.drewN m1) h0).mono ?_; rintro e w3 ⟨rfl, h3, t3⟩))
       go_ret; exact ract_cut h3 ((Turn.of_below F (below_drewN b1 m1)).trans t3)
     ·rw [if_neg h0]
      rcases hmore with ⟨hne, hm1⟩ | ⟨h00, hm1⟩
      ·skip
       obtain rfl : rc = 3 := by omega
       have hmm : (k : Int) + 16 + (n.length : Int) = m := hm1.symm
       clear hm1 hrc2 hne; go_enter Tryz.func108, Tryz.ntmps108
       go_wp2_with (first | (go_at_call 78; refine hN.mono ?_; rintro e wa ⟨rfl, rfl⟩) | (go_at_call 48; refine HR.out.mono ?_; rintro e w1 ⟨v1, rfl, o1, b1⟩; obtain ⟨ao1, cap1, B1, rfl, s1, hB1⟩ := src_of_own o1; have H1 := h_ (h.below b1); have O1 := h_ o1; have d4 : w1.cell? ⟨q, 4, none⟩ = some (.bool S.dark) := (ref_cells H1.out.head).2.2.2.2.1; rw [hd] at d4; clear s1 hB1 o1) | (go_at_call 80; refine (refFree_in H1.out hL hg.top).mono ?_; rintro e w2 ⟨rfl, m1, rfl⟩; rw [hf.2.2]) | (go_at_call 101; refine (spend_done (H1.out.drewN m1) hg hb h0).mono ?_; rintro e w3 ⟨rfl, h3, t3⟩; have tw3 := (Turn.of_below F (below_drewN b1 m1)).trans t3; have o3 := own_turn O1.out ((Turn.drewN (G := F) w1 m1).trans t3) (fun j hj hFj => by have h5 := (O1.out.lt j hj).1; have h6 := hF j hFj; omega); have s3 := HSRC.out.turn tw3 (fun hp => HB.out hp); have O3 := h_ o3; have S3 := h_ s3; have H3 := h_ h3; have TW3 := h_ tw3; clear o3 s3 h3 t3 tw3) | (at_builtin; refine wpList_append_src rfl _ _ rfl wa.heap.size _ O.length (O.map B8) rfl O3.out aoB k capB rfl (b.map B8) (by rw [List.length_map]; exact HK.out.symm) (fun hh => by rw [HK.out]; exact S3.out.bare hh) S3.out.cells (B8_one _) (by omega) TW3.out.size ?_; intro v4 w4 o4 hg4 hv4; have o5 := o4.out; rw [<- List.map_append, HK.out, <- List.length_append, HX.out] at o5; have hF4 : ∀ j, F j -> ¬ (some j = Value.ownBlock (.slice ao1 O.length cap1)) := (fun j hFj e => by have h5 := (O3.out.lt j e.symm).1; have h6 := hF j hFj; omega); have t4 : Turn (fun j => some j = Value.ownBlock (.slice ao1 O.length cap1)) w3 w4 := Turn.of_grown hg4 (fun j hj => hj.symm); have h4 := H3.out.turn t4 hF4; have tw4 : Turn F wa w4 := TW3.out.then t4 (fun i hi e => absurd hi (by have h5 := (O3.out.lt i e.symm).1; omega)); obtain ⟨ao5, cap5, B5, rfl, s5, _⟩ := src_of_own o5; have S5 := h_ s5; have H4 := h_ h4; have TW4 := h_ tw4; clear o4 hg4 hv4 o5 hF4 t4 h4 tw4 s5) | (go_at_call 79; refine (put_any H4.out.head H4.out.raw H4.out.has (fun j hj => hj.2) hg.rise hL n ao5 cap5 X B5 0 S5.out hXl).mono ?_; rintro e w6 ⟨rfl, h6⟩))
       go_ret; exact ract_relaid H4.out TW4.out h6 TW4.out.size hF
      ·skip
       subst hm1; obtain rfl : rc = 0 := h00
       clear hrc2; go_enter Tryz.func108, Tryz.ntmps108
       go_wp2_with (first | (go_at_call 78; refine hN.mono ?_; rintro e wa ⟨rfl, rfl⟩) | (go_at_call 48; refine HR.out.mono ?_; rintro e w1 ⟨v1, rfl, o1, b1⟩; obtain ⟨ao1, cap1, B1, rfl, s1, hB1⟩ := src_of_own o1; have H1 := h_ (h.below b1); have O1 := h_ o1; have d4 : w1.cell? ⟨q, 4, none⟩ = some (.bool S.dark) := (ref_cells H1.out.head).2.2.2.2.1; rw [hd] at d4; clear s1 hB1 o1) | (go_at_call 80; refine (refFree_in H1.out hL hg.top).mono ?_; rintro e w2 ⟨rfl, m1, rfl⟩; rw [hf.2.2]) | (go_at_call 101; refine (spend_done (H1.out.drewN m1) hg hb h0).mono ?_; rintro e w3 ⟨rfl, h3, t3⟩; have tw3 := (Turn.of_below F (below_drewN b1 m1)).trans t3; have o3 := own_turn O1.out ((Turn.drewN (G := F) w1 m1).trans t3) (fun j hj hFj => by have h5 := (O1.out.lt j hj).1; have h6 := hF j hFj; omega); have s3 := HSRC.out.turn tw3 (fun hp => HB.out hp); have O3 := h_ o3; have S3 := h_ s3; have H3 := h_ h3; have TW3 := h_ tw3; clear o3 s3 h3 t3 tw3) | (at_builtin; refine wpList_append_src rfl _ _ rfl wa.heap.size _ O.length (O.map B8) rfl O3.out aoB k capB rfl (b.map B8) (by rw [List.length_map]; exact HK.out.symm) (fun hh => by rw [HK.out]; exact S3.out.bare hh) S3.out.cells (B8_one _) (by omega) TW3.out.size ?_; intro v4 w4 o4 hg4 hv4; have o5 := o4.out; rw [<- List.map_append, HK.out, <- List.length_append, HX.out] at o5; have hF4 : ∀ j, F j -> ¬ (some j = Value.ownBlock (.slice ao1 O.length cap1)) := (fun j hFj e => by have h5 := (O3.out.lt j e.symm).1; have h6 := hF j hFj; omega); have t4 : Turn (fun j => some j = Value.ownBlock (.slice ao1 O.length cap1)) w3 w4 := Turn.of_grown hg4 (fun j hj => hj.symm); have h4 := H3.out.turn t4 hF4; have tw4 : Turn F wa w4 := TW3.out.then t4 (fun i hi e => absurd hi (by have h5 := (O3.out.lt i e.symm).1; omega)); obtain ⟨ao5, cap5, B5, rfl, s5, _⟩ := src_of_own o5; have S5 := h_ s5; have H4 := h_ h4; have TW4 := h_ tw4; clear o4 hg4 hv4 o5 hF4 t4 h4 tw4 s5) | (go_at_call 79; refine (put_any H4.out.head H4.out.raw H4.out.has (fun j hj => hj.2) hg.rise hL n ao5 cap5 X B5 0 S5.out hXl).mono ?_; rintro e w6 ⟨rfl, h6⟩))
       go_ret; exact ract_relaid H4.out TW4.out h6 TW4.out.size hF
end
end
section
open Go.RowKit
section
variable {w : World} {F : Nat -> Prop} {q : Nat} {ao : Option Addr} {cap : Nat} {P : List (Bs × Value)} {g off : Nat} {S : St}
theorem Relaid.opened {G : Nat -> Prop} {c d l : Int} {dk : Bool} {L' : Files} {w' : World} (h : Relaid w q G c d l dk L' w') : ∃ ao cap P g off, w'.heap[q]? = some (refO c d l (.slice ao L'.length cap) dk) /\
  RawAt w' (fun k => (G k /\ k < w.heap.size) \/ (w.heap.size <= k /\ k < w'.heap.size)) ao cap P g off /\ Has w' (fun k => (G k /\ k < w.heap.size) \/ (w.heap.size <= k /\ k < w'.heap.size)) P L' := by
 obtain ⟨lv, h1, ao, cap, P, g, off, rfl, h2, h3⟩ := h.head; exact ⟨ao, cap, P, g, off, h1, h2, h3⟩
theorem refRename_any (h : RefIn w F q ao cap P g off S) (hF : ∀ k, F k -> k < w.heap.size) (hg : Good S) (hb : S.done <= 4000000000000000) (f t : Bs) (hfl : f.length <= 9223372036854775807) (htl : t.length <= 9223372036854775807) :
  Calls Tryz.prog 110 #[ptr q, .string (SL f), .string (SL t)] w (RActs F q w (renameS S f t)) := by
 have hL : S.fs.length <= 4000000000000 := by have := hg.many; omega
 have hNf := refNamed_any f w hfl; have hNt := refNamed_any t w htl; have hT := touch_any h hg.rise hL f hfl; have s1 : (SL f).size = f.length := SL_size f
 have s2 : (SL t).size = t.length := SL_size t
 unfold renameS
 cases hnt : named t with
 | false =>
  rw [if_pos rfl]; rw [hnt] at hNt; have HS := h_ (ract_same h 1 0); clear hT
  cases hnf : named f with
  | false =>
   rw [hnf] at hNf; go_enter Tryz.func110, Tryz.ntmps110; go_wp2_with (first | (go_at_call_of 78 (SL f); refine hNf.mono ?_; rintro e wa ⟨rfl, rfl⟩))
   go_ret; exact HS.out
  | true =>
   rw [hnf] at hNf; go_enter Tryz.func110, Tryz.ntmps110; go_wp2_with (first | (go_at_call_of 78 (SL f); refine hNf.mono ?_; rintro e wa ⟨rfl, rfl⟩) | (go_at_call_of 78 (SL t); refine hNt.mono ?_; rintro e wb ⟨rfl, rfl⟩))
   go_ret; exact HS.out
 | true =>
  rw [if_neg (by simp)]
  rw [hnt] at hNt
  cases hnf : named f with
  | false =>
   have ht1 : touchS S f = 1 := by simp [touchS, hnf]
   rw [ht1, if_pos (by decide)]
   rw [hnf] at hNf; have HS := h_ (ract_same h 1 0); clear hT; go_enter Tryz.func110, Tryz.ntmps110; go_wp2_with (first | (go_at_call_of 78 (SL f); refine hNf.mono ?_; rintro e wa ⟨rfl, rfl⟩))
   go_ret; exact HS.out
  | true =>
   rw [hnf] at hNf; by_cases htc : touchS S f = 0
   ·obtain ⟨_, hd, b, hbb⟩ := touch_there htc
    rw [if_neg (by simp [htc])]
    rw [htc] at hT; have hf := hg.free_in; have hthf : thereF f S.fs = true := by simp [thereF, hbb]
    have hbl := hg.file_le hbb; unfold costF at hbl; have hrd : (readS S f).2 = b := by simp [readS, hnf, hbb]
    have hrc : (readS S f).1 = 0 := by simp [readS, hnf, hbb]
    have hren : renamed S f t = putF t b (delF f S.fs) := by unfold renamed; rw [hbb]; rfl
    rw [hren]; have hdl : (delF f S.fs).length <= 4000000000000 := by
     have h3 := costs_length (delF f S.fs); have h4 := costs_del hbb; have h5 := hg.cost; have h6 := hg.top; omega
    have hfit : ∀ c, findF f S.fs = some c -> c.length <= 140737488355328 := fun c hc => by have := hg.file_le hc; unfold costF at this; omega
    have HH := h_ h; clear h
    cases hth : thereF t S.fs with
    | false =>
     have hnone : findF t S.fs = none := by
      cases hx : findF t S.fs with
      | none => rfl
      | some c => simp [thereF, hx] at hth
     by_cases hq : S.free < (t.length : Int) - (f.length : Int)
     ·rw [if_pos ⟨hnone, hq⟩]
      have q1 : (t.length : Int) - (f.length : Int) > S.free := hq; have q2 : (t.length : Int) > (f.length : Int) := by omega
      clear hrd hrc hren hnone; go_enter Tryz.func110, Tryz.ntmps110; go_wp2_with (first | (go_at_call_of 78 (SL f); refine hNf.mono ?_; rintro e wa ⟨rfl, rfl⟩) | (go_at_call_of 78 (SL t); refine hNt.mono ?_; rintro e wb ⟨rfl, rfl⟩) | (go_at_call 100; refine hT.mono ?_; rintro e wc ⟨rfl, m, rfl⟩) | (go_at_call 52; refine (refHas_any (HH.out.drewN _) hg.rise hL t).mono ?_; rintro e wd ⟨rfl, m2, rfl⟩; rw [hth]) | (go_at_call 80; refine (refFree_in (HH.out.drewN _) hL hg.top).mono ?_; rintro e we ⟨rfl, m3, rfl⟩; rw [hf.2.2]))
      go_ret; exact ract_below HH.out 4 (below_drewN (Below.refl _ _) _)
     ·rw [if_neg (fun k => hq k.2)]
      have q1 : ¬ (t.length : Int) - (f.length : Int) > S.free := hq; clear hnone; unfold writeS; by_cases h0 : S.left = 0
      ·rw [if_pos h0]
       clear hrd hrc hren; go_enter Tryz.func110, Tryz.ntmps110; go_wp2_with (first | (go_at_call_of 78 (SL f); refine hNf.mono ?_; rintro e wa ⟨rfl, rfl⟩) | (go_at_call_of 78 (SL t); refine hNt.mono ?_; rintro e wb ⟨rfl, rfl⟩) | (go_at_call 100; refine hT.mono ?_; rintro e wc ⟨rfl, m, rfl⟩) | (go_at_call 52; refine (refHas_any (HH.out.drewN _) hg.rise hL t).mono ?_; rintro e wd ⟨rfl, m2, rfl⟩; rw [hth]) | (go_at_call 80; refine (refFree_in (HH.out.drewN _) hL hg.top).mono ?_; rintro e we ⟨rfl, m3, rfl⟩; rw [hf.2.2]) | (go_at_call 101; refine (spend_cut (HH.out.drewN _) h0).mono ?_; rintro e w3 ⟨rfl, h3, t3⟩))
       go_ret; exact ract_cut h3 ((Turn.of_below F (below_drewN (Below.refl _ _) _)).trans t3)
      ·rw [if_neg h0]
       go_enter Tryz.func110, Tryz.ntmps110
       go_wp2_with (first | (go_at_call_of 78 (SL f); refine hNf.mono ?_; rintro e wa ⟨rfl, rfl⟩) | (go_at_call_of 78 (SL t); refine hNt.mono ?_; rintro e wb ⟨rfl, rfl⟩) | (go_at_call 100; refine hT.mono ?_; rintro e wc ⟨rfl, m, rfl⟩) | (go_at_call 52; refine (refHas_any (HH.out.drewN _) hg.rise hL t).mono ?_; rintro e wd ⟨rfl, m2, rfl⟩; rw [hth]) | (go_at_call 80; refine (refFree_in (HH.out.drewN _) hL hg.top).mono ?_; rintro e we ⟨rfl, m3, rfl⟩; rw [hf.2.2]) | (go_at_call 101; refine (spend_done (HH.out.drewN _) hg hb h0).mono ?_; rintro e w3 ⟨rfl, h3, t3⟩; have tw3 := (Turn.of_below F (below_drewN (Below.refl _ _) _)).trans t3; have H3 := h_ h3; have TW3 := h_ tw3; clear h3 t3 tw3) | (go_at_call 48; refine (refRead_any H3.out hg.rise hL f hfl hfit).mono ?_; rintro e w4 ⟨v4, hv4, o4, b4⟩; have e4 : (readS (tick S) f).2 = b := hrd; have e5 : (readS (tick S) f).1 = 0 := hrc; rw [e4] at o4; rw [e5] at hv4; subst hv4; obtain ⟨ao4, cap4, B4, rfl, s4, hB4⟩ := src_of_own o4; have H4 := h_ (H3.out.below b4); have TW4 := h_ (TW3.out.trans (Turn.of_below F b4)); have S4 := h_ s4; have HB4 := h_ hB4; clear s4 hB4 o4 e4 e5) | (go_at_call 102; refine (drop_any H4.out.head H4.out.raw H4.out.has (fun j hj => hj.2) hg.rise hL f hthf).mono ?_; rintro e w5 ⟨rfl, h5⟩; obtain ⟨ao5, cap5, P5, g5, off5, hh5, hr5, hs5⟩ := h5.opened; have s5 := S4.out.turn h5.turn (fun hp e => by have i1 := HB4.out hp; have i2 := hF q H4.out.inQ; have i3 := TW3.out.size; omega); have S5 := h_ s5; have HH5 := h_ hh5; have HR5 := h_ hr5; have HS5 := h_ hs5; have T5 := h_ h5.turn; clear hh5 hr5 hs5 s5 h5) | (go_at_call 79; refine (put_any HH5.out HR5.out HS5.out (fun j hj => (by rcases hj with hj | hj; exact hj.1.2; intro e; have i2 := hF q H4.out.inQ; have i3 := TW4.out.size; omega)) hg.rise.del hdl t ao4 cap4 b B4 0 S5.out (by omega)).mono ?_; rintro e w6 ⟨rfl, h6⟩))
       go_ret; obtain ⟨lv6, hh6, hf6⟩ := h6.head; have i2 := hF q H4.out.inQ; have z4 := TW4.out.size; have z5 := T5.out.size; have z6 := h6.turn.size; have hq : ∀ {x y : World}, Turn (fun k => k = q) x y -> Turn F x y := fun tt => (Turn.refl F _).then tt (fun i _ e => by subst e; exact H4.out.inQ)
       refine ⟨rfl, ⟨lv6, hh6, .inl H4.out.inQ, hf6.mono fun i hi hx => ?_⟩, (TW4.out.trans (hq T5.out)).trans (hq h6.turn)⟩
       rcases hx with hx | hx
       ·rcases hx.1 with hy | hy
        ·exact ⟨.inl hy.1.1, hy.1.2⟩
        ·exact ⟨.inr ⟨by omega, hi⟩, by omega⟩
       ·exact ⟨.inr ⟨by omega, hi⟩, by omega⟩
    | true =>
     have hsome : findF t S.fs ≠ none := by
      intro hx
      simp [thereF, hx] at hth
     rw [if_neg (fun k => hsome k.1)]
     clear hsome; unfold writeS; by_cases h0 : S.left = 0
     ·rw [if_pos h0]
      clear hrd hrc hren; go_enter Tryz.func110, Tryz.ntmps110; go_wp2_with (first | (go_at_call_of 78 (SL f); refine hNf.mono ?_; rintro e wa ⟨rfl, rfl⟩) | (go_at_call_of 78 (SL t); refine hNt.mono ?_; rintro e wb ⟨rfl, rfl⟩) | (go_at_call 100; refine hT.mono ?_; rintro e wc ⟨rfl, m, rfl⟩) | (go_at_call 52; refine (refHas_any (HH.out.drewN _) hg.rise hL t).mono ?_; rintro e wd ⟨rfl, m2, rfl⟩; rw [hth]) | (go_at_call 101; refine (spend_cut (HH.out.drewN _) h0).mono ?_; rintro e w3 ⟨rfl, h3, t3⟩))
      go_ret; exact ract_cut h3 ((Turn.of_below F (below_drewN (Below.refl _ _) _)).trans t3)
     ·rw [if_neg h0]
      go_enter Tryz.func110, Tryz.ntmps110
      go_wp2_with (first | (go_at_call_of 78 (SL f); refine hNf.mono ?_; rintro e wa ⟨rfl, rfl⟩) | (go_at_call_of 78 (SL t); refine hNt.mono ?_; rintro e wb ⟨rfl, rfl⟩) | (go_at_call 100; refine hT.mono ?_; rintro e wc ⟨rfl, m, rfl⟩) | (go_at_call 52; refine (refHas_any (HH.out.drewN _) hg.rise hL t).mono ?_; rintro e wd ⟨rfl, m2, rfl⟩; rw [hth]) | (go_at_call 101; refine (spend_done (HH.out.drewN _) hg hb h0).mono ?_; rintro e w3 ⟨rfl, h3, t3⟩; have tw3 := (Turn.of_below F (below_drewN (Below.refl _ _) _)).trans t3; have H3 := h_ h3; have TW3 := h_ tw3; clear h3 t3 tw3) | (go_at_call 48; refine (refRead_any H3.out hg.rise hL f hfl hfit).mono ?_; rintro e w4 ⟨v4, hv4, o4, b4⟩; have e4 : (readS (tick S) f).2 = b := hrd; have e5 : (readS (tick S) f).1 = 0 := hrc; rw [e4] at o4; rw [e5] at hv4; subst hv4; obtain ⟨ao4, cap4, B4, rfl, s4, hB4⟩ := src_of_own o4; have H4 := h_ (H3.out.below b4); have TW4 := h_ (TW3.out.trans (Turn.of_below F b4)); have S4 := h_ s4; have HB4 := h_ hB4; clear s4 hB4 o4 e4 e5) | (go_at_call 102; refine (drop_any H4.out.head H4.out.raw H4.out.has (fun j hj => hj.2) hg.rise hL f hthf).mono ?_; rintro e w5 ⟨rfl, h5⟩; obtain ⟨ao5, cap5, P5, g5, off5, hh5, hr5, hs5⟩ := h5.opened; have s5 := S4.out.turn h5.turn (fun hp e => by have i1 := HB4.out hp; have i2 := hF q H4.out.inQ; have i3 := TW3.out.size; omega); have S5 := h_ s5; have HH5 := h_ hh5; have HR5 := h_ hr5; have HS5 := h_ hs5; have T5 := h_ h5.turn; clear hh5 hr5 hs5 s5 h5) | (go_at_call 79; refine (put_any HH5.out HR5.out HS5.out (fun j hj => (by rcases hj with hj | hj; exact hj.1.2; intro e; have i2 := hF q H4.out.inQ; have i3 := TW4.out.size; omega)) hg.rise.del hdl t ao4 cap4 b B4 0 S5.out (by omega)).mono ?_; rintro e w6 ⟨rfl, h6⟩))
      go_ret; obtain ⟨lv6, hh6, hf6⟩ := h6.head; have i2 := hF q H4.out.inQ; have z4 := TW4.out.size; have z5 := T5.out.size; have z6 := h6.turn.size; have hq : ∀ {x y : World}, Turn (fun k => k = q) x y -> Turn F x y := fun tt => (Turn.refl F _).then tt (fun i _ e => by subst e; exact H4.out.inQ)
      refine ⟨rfl, ⟨lv6, hh6, .inl H4.out.inQ, hf6.mono fun i hi hx => ?_⟩, (TW4.out.trans (hq T5.out)).trans (hq h6.turn)⟩
      rcases hx with hx | hx
      ·rcases hx.1 with hy | hy
       ·exact ⟨.inl hy.1.1, hy.1.2⟩
       ·exact ⟨.inr ⟨by omega, hi⟩, by omega⟩
      ·exact ⟨.inr ⟨by omega, hi⟩, by omega⟩
   ·rw [if_pos htc]
    obtain ⟨z, hz⟩ := nm_ (touchS S f); rw [<- hz] at hT htc |-; have HS := h_ (fun m => ract_same h z m)
    clear hz; go_enter Tryz.func110, Tryz.ntmps110; go_wp2_with (first | (go_at_call_of 78 (SL f); refine hNf.mono ?_; rintro e wa ⟨rfl, rfl⟩) | (go_at_call_of 78 (SL t); refine hNt.mono ?_; rintro e wb ⟨rfl, rfl⟩) | (go_at_call 100; refine hT.mono ?_; rintro e wc ⟨rfl, m, rfl⟩))
    go_ret; exact HS.out m
end
end
section
open Go.RowKit
section
variable {F : Nat -> Prop} {p mb : Nat} {V : Bs -> Value} {lf : Int} {S : St} {w : World}
def renameMore (S : St) (f t : Bs) : Int := if f = t then 0 else match findF t S.fs with | none => (t.length : Int) - (f.length : Int) | some c => (t.length : Int) - (f.length : Int) - (16 + (t.length : Int) + (c.length : Int))
theorem renameCost_any (h : DiskIn w F p mb V lf S) (f t : Bs) (hf : f.length <= 200) (ht : t.length <= 200) (hs : ∀ b, findF t S.fs = some b -> b.length <= 1099511627776) :
  Calls Tryz.prog 168 #[ptr p, .string (SL f), .string (SL t)] w fun e w' => e = .returned (.int .i64 (renameMore S f t)) /\ w' = w := by
 obtain ⟨c0, _⟩ := head_cells h.head; have e1 := SL_toList f; have e2 := SL_toList t; have e3 := SL_size f; have e4 := SL_size t; unfold renameMore; by_cases hq : f = t
 ·rw [if_pos hq]
  have hb : (f == t) = true := by simp [hq]
  clear hq; go_enter Tryz.func168, Tryz.ntmps168; go_wp2; go_ret; exact ⟨rfl, rfl⟩
 ·rw [if_neg hq]
  have hb : (f == t) = false := by simp [hq]
  have hl := h.map.look (n := t) (by unfold maxLen; omega)
  rw [es_find, es_there] at hl
  cases hc : findF t S.fs with
  | none =>
   have e5 : thereF t S.fs = false := by simp [thereF, hc]
   rw [hc, e5] at hl; clear hq hc; go_enter Tryz.func168, Tryz.ntmps168; go_wp2; go_ret; exact ⟨rfl, rfl⟩
  | some c =>
   have e5 : thereF t S.fs = true := by simp [thereF, hc]
   rw [hc, e5, Option.map_some, Option.getD_some] at hl; obtain ⟨ao, cap, B, hV, hsrc, _⟩ := src_of_own (h.rows.own t c hc); rw [hV] at hl; have hcl := hs c hc; have hcost := cost_any t c.length w (by omega) (by omega)
   clear hq hc hV; go_enter Tryz.func168, Tryz.ntmps168; go_wp2_with (go_at_call 74; refine hcost.mono ?_; rintro e w' ⟨rfl, rfl⟩)
   go_ret; exact ⟨rfl, rfl⟩
theorem rename_more (hg : Good S) {f t b : Bs} (hb : findF f S.fs = some b) : (costs (renamed S f t) : Int) = (costs S.fs : Int) + renameMore S f t := by
 unfold renameMore; rcases costs_renamed (t := t) hg hb with ⟨e, e1⟩ | ⟨e, e1, e2⟩ | ⟨e, c, e1, e2⟩
 ·rw [if_pos e, e1]; omega
 ·rw [if_neg e, e1]
  simp only
  omega
 ·rw [if_neg e, e1]
  simp only [costF] at e2 |-; omega
theorem rename_full (hg : Good S) {f t b : Bs} (hb : findF f S.fs = some b) : (findF t S.fs = none /\ S.free < (t.length : Int) - (f.length : Int)) ↔ S.free < renameMore S f t := by
 have h0 := hg.free_in.1; unfold renameMore; by_cases e : f = t
 ·subst e
  rw [if_pos rfl, hb]; simp; omega
 ·rw [if_neg e]
  cases hc : findF t S.fs with
  | none => simp
  | some c =>
   simp; omega
theorem rename_any (h : DiskIn w F p mb V lf S) (hg : Good S) (hb : S.done <= 4000000000000000) (f t : Bs) : Calls Tryz.prog 144 #[ptr p, .string (SL f), .string (SL t)] w (Acts F p w (renameS S f t)) := by
 have hr := readyAt_any h f; have hmb := mayBe_any t w; obtain ⟨c0, _⟩ := head_cells h.head; unfold renameS; by_cases hN : named t = false
 ·rw [if_pos hN]
  rw [hN] at hmb; have HS := act_same h 1; clear hN; go_enter Tryz.func144, Tryz.ntmps144; go_wp2_with (first | (go_at_call 71; refine hmb.mono ?_; rintro e w' ⟨rfl, rfl⟩))
  go_ret; exact HS
 ·rw [if_neg hN]
  have hN : named t = true := by simpa using hN
  rw [hN] at hmb; by_cases ht : touchS S f = 0
  ·obtain ⟨hn, hd, b, hbb⟩ := touch_there ht
   rw [if_neg (by simp [ht])]
   rw [ht] at hr; have hfl := (named_le hn).1; have htl := (named_le hN).1; have hmore := renameCost_any h f t hfl htl (fun c hc => by have := hg.file_le hc; unfold costF at this; omega)
   have hsum := rename_more (t := t) hg hbb
   have hfull := rename_full (t := t) hg hbb
   have hf := hg.free_in; have hlow : -2199023255552 <= renameMore S f t := by
    unfold renameMore; split
    ·omega
    ·cases hc : findF t S.fs with
     | none => simp only; omega
     | some c => have := hg.file_le hc; unfold costF at this; simp only; omega
   obtain ⟨m, hm⟩ := nm_ (renameMore S f t); rw [<- hm] at hmore hsum hfull hlow; clear hm; by_cases hq : S.free < m
   ·rw [if_pos (hfull.2 hq)]
    have hw := write_S_full h hg m hq; have HS := act_same h 4; clear hsum hfull; go_enter Tryz.func144, Tryz.ntmps144; go_wp2_with (first | (go_at_call 71; refine hmb.mono ?_; rintro e w' ⟨rfl, rfl⟩) | (go_at_call 72; refine hr.mono ?_; rintro e w' ⟨rfl, rfl⟩) | (go_at_call 168; refine hmore.mono ?_; rintro e w' ⟨rfl, rfl⟩) | (go_at_call 73; refine hw.mono ?_; rintro e w' ⟨rfl, rfl⟩))
    go_ret; exact HS
   ·rw [if_neg (fun k => hq (hfull.1 k))]
    have HSUM := h_ hsum; clear hsum hfull; unfold writeS; by_cases h0 : S.left = 0
    ·rw [if_pos h0]
     have hw := write_S_cut h hg hd h0 m (by omega)
     go_enter Tryz.func144, Tryz.ntmps144; go_wp2_with (first | (go_at_call 71; refine hmb.mono ?_; rintro e w' ⟨rfl, rfl⟩) | (go_at_call 72; refine hr.mono ?_; rintro e w' ⟨rfl, rfl⟩) | (go_at_call 168; refine hmore.mono ?_; rintro e w' ⟨rfl, rfl⟩) | (go_at_call 73; refine hw.mono ?_; rintro e w' ⟨rfl, h1, h2⟩))
     go_ret; exact ⟨rfl, ⟨_, _, _, h1.mono fun _ h => .inl h⟩, h2⟩
    ·rw [if_neg h0]
     have hw := write_S_done h hg hd hb h0 m (by omega) (by omega)
     go_enter Tryz.func144, Tryz.ntmps144; go_wp2_with (first | (go_at_call 71; refine hmb.mono ?_; rintro e w' ⟨rfl, rfl⟩) | (go_at_call 72; refine hr.mono ?_; rintro e w' ⟨rfl, rfl⟩) | (go_at_call 168; refine hmore.mono ?_; rintro e w' ⟨rfl, rfl⟩) | (go_at_call 73; fail))
     refine hw.mono ?_; rintro e w1 ⟨rfl, ho⟩; obtain ⟨m1, r1⟩ := ho.parts h; obtain ⟨d0, _⟩ := head_cells ho.head; have hl := m1.look1 (n := f) (by unfold maxLen; omega)
     rw [es_find, hbb, Option.map_some, Option.getD_some] at hl; have hkey := key9 (n := f) (by unfold maxLen; omega)
     have hkey2 := key9 (n := t) (by unfold maxLen; omega)
     have hraw : Raw (V f) := raw_own (r1.own f b hbb); obtain ⟨v, hv⟩ := nm_ (V f); rw [<- hv] at hl; have hnf : p ≠ mb := h.ne; have hlen : (esOf V (delF f S.fs)).length < maxLen := by
      simp only [esOf, List.length_map]; have h3 := costs_length (delF f S.fs); have h4 := costs_del hbb; have h5 := hg.cost; have h6 := hg.top; unfold maxLen; omega
     have HO := h_ ho; have HV := h_ hv; clear ho hv; go_wp2_with (first | (at_delete; refine wpList_delete_own _ rfl _ _ 89 9 rfl 29 K9 Tryz.underlying89 rawR mb _ _ rfl m1.1 _ (.string f) rfl hkey ?_; intro w2 m2 hturn; have d2 : w2.cell? ⟨p, 0, none⟩ = some (.map (some mb)) := hturn.grown.cell d0 (fun e => hnf (Option.some.inj e)); have ms := DiskMapAt.del (es_rising hg.rise) m1.2.2 m2; rw [es_del hg.rise] at ms; have HT := h_ hturn; clear hturn hl) | (at_mapUpdate; refine wpList_mapUpdate_in _ rfl _ _ _ 89 rfl 9 29 K9 Tryz.underlying89 rawR mb _ _ rfl ms.1 hlen _ _ (.string t) rfl rfl hkey2 (rawD v) [] (by rw [HV.out]; exact rawR_of hraw) ?_; intro w3 m3 hturn3; have HT3 := h_ hturn3; clear hturn3))
     go_ret; have ho := HO.out; have hturn := HT.out; have hturn3 := HT3.out; have hv := HV.out; subst hv; have mu := DiskMapAt.put (es_rising hg.rise.del) (by intro q hq; exact ms.2.2 q hq) hraw m3
     rw [es_put (b := b) hg.rise.del] at mu
     have g2 := hturn.grown; have g3 := hturn3.grown; have tm : ∀ {a b : World}, a.grownBy b (some mb) -> Turn (fun k => k = mb) a b := fun hgr => Turn.of_grown hgr (fun g hg => by cases hg; rfl)
     have t23 : Turn (fun k => k = mb) w1 w3 := (tm g2).trans (tm g3)
     have hne : ∀ n c, findF n S.fs = some c -> ∀ g, (V n).ownBlock = some g -> ¬ g = mb := fun n c hc g hg => (h.row_ne hc hg).2
     have r3 : RowsAt w3 F V S.fs := ⟨fun n c hc => own_turn (r1.own n c hc) t23 (hne n c hc), r1.foot, r1.apart⟩
     have r4 := (r3.del (n := f) hg.rise).put (n := t) (b := b) (v := V f) (r3.own f b hbb) (r3.foot f b hbb) (fun n c hnt hc g hg2 => by
      by_cases e : n = f
      ·subst e; rw [findF_del_same hg.rise] at hc; cases hc
      ·rw [findF_del_other e] at hc
       exact r3.apart f n b c hbb hc (fun k => e k.symm) g hg2)
     have hfs : renamed S f t = putF t b (delF f S.fs) := by unfold renamed; rw [hbb]; rfl
     rw [hfs]; refine ⟨rfl, ⟨_, _, _, (tick_in (z := S.free - m) hd hg ?_ ?_ ?_ mu r4 h.inP h.inM).mono fun _ h => .inl h⟩, (ho.foot h).then t23 (fun i _ e => by subst e; exact h.inM)⟩
     ·exact t23.keep ho.head hnf
     ·have := HSUM.out
      rw [hfs] at this; unfold St.free; omega
     ·omega
  ·rw [if_pos ht]
   obtain ⟨z, hz⟩ := nm_ (touchS S f); rw [<- hz] at hr ht |-; have HS := act_same h z; clear hz; go_enter Tryz.func144, Tryz.ntmps144; go_wp2_with (first | (go_at_call 71; refine hmb.mono ?_; rintro e w' ⟨rfl, rfl⟩) | (go_at_call 72; refine hr.mono ?_; rintro e w' ⟨rfl, rfl⟩))
   go_ret; exact HS
end
end
section
open Go.RowKit
theorem SL_extract (n : Bs) (a b : Nat) : (SL n).extract a b = SL ((n.take b).drop a) := by
 apply ByteArray.ext
 rw [ByteArray.data_extract]; simp [SL, List.extract_eq_take_drop, List.drop_take]
theorem SL_cat (a b : Bs) : SL a ++ SL b = SL (a ++ b) := by
 apply ByteArray.ext
 simp [SL]
theorem SL_shadow (n : Bs) : SL n ++ (⟨#[126]⟩ : ByteArray) = SL (shadowN n) := SL_cat n [126]
theorem snoc_of {n : Bs} (h : 1 <= n.length) : ∃ a x, n = a ++ [x] := by
 have hne : n ≠ [] := fun e => by subst e; simp at h
 exact ⟨n.dropLast, n.getLast hne, (List.dropLast_concat_getLast hne).symm⟩
theorem marked_snoc (a : Bs) (x : UInt8) : marked (a ++ [x]) = (x == 126) := by
 unfold marked; rw [List.getLast?_append]; by_cases e : x = 126
 ·simp [e]
 ·simp [e]
theorem marked_eq {n : Bs} (h : 1 <= n.length) : marked n = (((SL n).extract (n.length - 1) n.length).toList == [126]) := by
 rw [SL_extract, List.take_length, SL_toList]; obtain ⟨a, x, rfl⟩ := snoc_of h; rw [marked_snoc]; simp
theorem suffix1_any (n : Bs) (hn : n.length <= 9223372036854775807) (w : World) : Calls Tryz.prog 125 #[.string (SL n), .string ⟨#[126]⟩] w fun e w' => e = .returned (.bool (marked n)) /\ w' = w := by
 have hs : (SL n).size = n.length := SL_size n
 obtain ⟨k, hk⟩ := nm_ (n.length); have h1 : (⟨#[126]⟩ : ByteArray).size = 1 := rfl
 by_cases h0 : 1 <= k
 ·have hm := marked_eq (n := n) (by omega)
  rw [<- hk] at hs hn hm; have g1 : (k : Int) >= 1 := by omega
  have g2 : wrap64 ((k : Int) - 1) = ((k - 1 : Nat) : Int) := by rw [IntWalk.wrap64_in _ ⟨by omega, by omega⟩]; omega
  obtain ⟨t, ht⟩ := nm_ (marked n); rw [<- ht] at hm |-; have HM := h_ hm; clear hm ht hk; go_enter Tryz.func125, Tryz.ntmps125; go_wp2; go_ret; exact ⟨by rw [HM.out] <;> rfl, rfl⟩
 ·have hn0 : n = [] := List.eq_nil_of_length_eq_zero (by omega)
  subst hn0; have hz : (SL []).size = 0 := rfl
  go_enter Tryz.func125, Tryz.ntmps125; go_wp2; go_ret; exact ⟨rfl, rfl⟩
theorem suffix_any (n : Bs) (hn : n.length <= 9223372036854775807) (w : World) : Calls Tryz.prog 70 #[.string (SL n), .string ⟨#[126]⟩] w fun e w' => e = .returned (.bool (marked n)) /\ w' = w := by
 have h := suffix1_any n hn w; go_enter Tryz.func70, Tryz.ntmps70; go_wp2_with (go_at_call 125; refine h.mono ?_; rintro e w' ⟨rfl, rfl⟩)
 go_ret; exact ⟨rfl, rfl⟩
def needI (n : Bs) (m : Int) : Int := wrap64 (wrap64 (wrap64 (16 + (n.length : Int)) + 1) + max m 0)
theorem needI_nat {n : Bs} {k : Nat} (hn : n.length <= 281474976710656) (hk : k <= 281474976710656) : needI n (k : Int) = needS n k := by
 unfold needI needS; rw [IntWalk.wrap64_in (16 + (n.length : Int)) ⟨by omega, by omega⟩, IntWalk.wrap64_in (16 + (n.length : Int) + 1) ⟨by omega, by omega⟩, IntWalk.wrap64_in _ ⟨by omega, by omega⟩]
 omega
theorem need_any (n : Bs) (m : Int) (w : World) : Calls Tryz.prog 142 #[.string (SL n), .int .i64 m] w fun e w' => e = .returned (.int .i64 (needI n m)) /\ w' = w := by
 have hs : (SL n).size = n.length := SL_size n
 unfold needI; go_enter Tryz.func142, Tryz.ntmps142; go_wp2; go_ret; exact ⟨rfl, rfl⟩
theorem refNeed_any (n : Bs) (m : Int) (w : World) : Calls Tryz.prog 107 #[.string (SL n), .int .i64 m] w fun e w' => e = .returned (.int .i64 (needI n m)) /\ w' = w := by
 have hs : (SL n).size = n.length := SL_size n
 unfold needI; go_enter Tryz.func107, Tryz.ntmps107; go_wp2; go_ret; exact ⟨rfl, rfl⟩
theorem marked_last {n : Bs} (h : n.length - 1 < (SL n).size) (h1 : 1 <= n.length) : marked n = ((((SL n)[n.length - 1]'h).toNat : Int) == 126) := by
 obtain ⟨a, y, rfl⟩ := snoc_of h1; have e1 : (SL (a ++ [y]))[(a ++ [y]).length - 1]'h = (a ++ [y])[(a ++ [y]).length - 1]'(by simp) := rfl
 have e2 : (a ++ [y])[(a ++ [y]).length - 1]'(by simp) = y := by simp
 rw [e1, e2, marked_snoc]; by_cases e : y = 126
 ·subst e; rfl
 ·have e3 : ¬ ((y.toNat : Int) = 126) := fun h => e (UInt8.toNat_inj.1 (by show y.toNat = 126; omega))
  rw [beq_false_of_ne e, beq_false_of_ne e3]
theorem refShadow_any (n : Bs) (hn : n.length <= 9223372036854775807) (w : World) : Calls Tryz.prog 106 #[.string (SL n)] w fun e w' => e = .returned (.bool (marked n)) /\ w' = w := by
 have hs : (SL n).size = n.length := SL_size n
 by_cases h0 : 1 <= n.length
 ·have hm := marked_last (n := n) (by omega) h0
  have g1 : (n.length : Int) > 0 := by omega
  have g2 : wrap64 ((n.length : Int) - 1) = ((n.length - 1 : Nat) : Int) := by rw [IntWalk.wrap64_in _ ⟨by omega, by omega⟩]; omega
  have HM := h_ hm; clear hm; go_enter Tryz.func106, Tryz.ntmps106; go_wp2; go_ret; exact ⟨by rw [HM.out] <;> rfl, rfl⟩
 ·have hn0 : n = [] := List.eq_nil_of_length_eq_zero (by omega)
  subst hn0; have hz : (SL []).size = 0 := rfl
  go_enter Tryz.func106, Tryz.ntmps106; go_wp2; go_ret; exact ⟨rfl, rfl⟩
end
end Go.Proofs.YtomgijcbekjlaaaGreat
