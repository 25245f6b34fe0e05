/- What the proofs stand on: ObjTake, ObjTakeT, ObjTakeB. -/
import Derived.Test.YtomgijcbekjlaaaGreatP20
import Derived.Test.YtomgijcbekjlaaaGreatP9
import Derived.Test.YtomgijcbekjlaaaGreatP34
import Derived.Test.YtomgijcbekjlaaaGreatP0
import Derived.Test.YtomgijcbekjlaaaGreatPB0
import Derived.Test.YtomgijcbekjlaaaGreatPB1
set_option maxRecDepth 100000
set_option maxHeartbeats 40000000
namespace Go.Proofs.YtomgijcbekjlaaaGreat
section
open Go.RowKit
theorem RwAt.low {y x : Nat} {w w' : World} {p : Nat} {s : RS} (h : RwAt y w p s) (hb : Below x w w') (hp : p < x) : RwAt y w' p s := by
 obtain ⟨ao, cap, B, off, h1, h2, h3, h4⟩ := h; refine ⟨ao, cap, B, off, (hb.block p hp).trans h1, ⟨h2.le, h2.top, h2.src, h2.bare, fun hq => Nat.lt_of_lt_of_le (h2.old hq) hb.size, fun j hj => (hb.cell (p := ⟨B, off + j, none⟩) (by have := h3 (by omega); show B < x; omega)).trans (h2.cell j hj)⟩, h3, h4⟩
theorem Turn.low {G : Nat -> Prop} {w W W' : World} (h : Turn G w W) (hb : Below w.heap.size W W') : Turn G w W' :=
 ⟨hb.os.trans h.os, hb.tape.trans h.tape, hb.output.trans h.output, Nat.le_trans h.size hb.size, fun k hk hn => (hb.block k hk).trans (h.block k hk hn)⟩
theorem note_at {w : World} {x : Nat} {v0 v1 v2 : Value} (h : w.heap[x]? = some (.cells #[v0, v1, v2] 168 (0, 0))) : w.cell? ⟨x, 0, none⟩ = some v0 /\ w.cell? ⟨x, 1, none⟩ = some v1 /\ w.cell? ⟨x, 2, none⟩ = some v2 :=
 ⟨cell_of_row _ _ _ _ _ _ h, cell_of_row _ _ _ _ _ _ h, cell_of_row _ _ _ _ _ _ h⟩
theorem note_fz {w : World} {x : Nat} {v0 v1 v2 : Value} (h : w.heap[x]? = some (.cells #[v0, v1, v2] 168 (0, 0))) : ∀ j, w.frozen? ⟨x, j, none⟩ = false := fun j => frozen_of_row _ _ j _ _ h
theorem wBytes_le {n : Nat} {s : RS} {L : Nat} (h : s.1.length <= L) : (wBytes n s).2.1.length <= L := by
 unfold wBytes; split
 ·exact Nat.zero_le _
 ·simp only [List.length_drop]
  omega
theorem wText_le {m : Nat} {s : RS} {L : Nat} (h : s.1.length <= L) : (wText m s).2.1.length <= L := wBytes_le (wNum_le h)
theorem wByte_le {s : RS} {L : Nat} (h : s.1.length <= L) : (wByte s).2.1.length <= L := by
 unfold wByte; split
 ·exact Nat.zero_le _
 ·rename_i c r e
  rw [e] at h; simp at h |-
  omega
theorem wDir_le {s : RS} {L : Nat} (h : s.1.length <= L) : (wDir s).2.1.length <= L := by
 unfold wDir; simp only
 split
 ·exact wByte_le h
 ·exact Nat.zero_le _
theorem wEnt_le {s : RS} {L : Nat} (h : s.1.length <= L) : (wEnt s).2.1.length <= L := wBytes_le (wDir_le (wText_le h))
theorem takeDir_any (y p : Nat) (s : RS) (w : World) (h : RwAt y w p s) (hl : s.1.length <= 140737488355328) :
  Calls Tryz.prog 165 #[rwp p] w (RwTo y w p (.bool (wDir s).1) (wDir s).2) := by
 have hb := h_ (rowByte_any y p s w h hl); have hbr := h_ (fun W (hr : RwAt y W p (wByte s).2) => rowBreak_any y p (wByte s).2 W hr)
 unfold wDir; obtain ⟨c, hc⟩ := nm_ ((wByte s).1); obtain ⟨s1, hs1⟩ := nm_ ((wByte s).2); rw [<- hc, <- hs1] at hb |-; rw [<- hs1] at hbr; clear hc hs1 h hl; obtain ⟨x, hx⟩ := nm_ (c.toNat); have hx0 : c = 0 ↔ x = 0 := by rw [hx]; exact ⟨fun e => by rw [e]; rfl, fun e => UInt8.toNat_inj.1 e⟩
 have hx1 : c = 1 ↔ x = 1 := by rw [hx]; exact ⟨fun e => by rw [e]; rfl, fun e => UInt8.toNat_inj.1 e⟩
 rw [<- hx] at hb; clear hx; by_cases h1 : x = 1
 ·have e1 := hx1.2 h1
  subst h1; subst e1; simp only [true_or, if_true]; clear hx0 hx1 hbr; go_enter Tryz.func165, Tryz.ntmps165; go_wp2_with (go_at_call 133; refine hb.out.mono ?_; rintro e w1 ⟨rfl, r1, t1⟩; have R1 := h_ r1; have T1 := h_ t1; clear r1 t1)
  go_ret; exact ⟨rfl, R1.out, T1.out⟩
 ·have n1 : ¬ c = 1 := fun e => h1 (hx1.1 e)
  have m1 : (c == 1) = false := by simpa using n1
  have j1 : ¬ (x : Int) = 1 := by omega
  have k1 : ((x : Int) != 1) = true := by simpa using j1
  have k2 : ((x : Int) == 1) = false := by simpa using j1
  by_cases h0 : x = 0
  ·have e0 := hx0.2 h0
   subst h0; rw [m1, if_pos (.inr e0)]; clear hx0 hx1 hbr h1 n1 m1 e0 k1 k2 j1; go_enter Tryz.func165, Tryz.ntmps165; go_wp2_with (go_at_call 133; refine hb.out.mono ?_; rintro e w1 ⟨rfl, r1, t1⟩; have R1 := h_ r1; have T1 := h_ t1; clear r1 t1)
   go_ret; exact ⟨rfl, R1.out, T1.out⟩
  ·have n0 : ¬ c = 0 := fun e => h0 (hx0.1 e)
   have j0 : ¬ (x : Int) = 0 := by omega
   have k0 : ((x : Int) != 0) = true := by simpa using j0
   rw [m1, if_neg (by rintro (k | k); exact n1 k; exact n0 k)]
   clear hx0 hx1 h1 n1 m1 h0 n0; go_enter Tryz.func165, Tryz.ntmps165; go_wp2_with (first
    | (go_at_call 133; refine hb.out.mono ?_; rintro e w1 ⟨rfl, r1, t1⟩; have R1 := h_ r1; have T1 := h_ t1; clear r1 t1)
    | (go_at_call 130; refine (hbr.out _ R1.out).mono ?_; rintro e w2 ⟨⟨v, rfl⟩, r2, t2⟩; have R2 := h_ r2; have T2 := h_ t2; clear r2 t2))
   go_ret; exact ⟨rfl, R2.out, T1.out.trans T2.out⟩
theorem takeNote_any (y p : Nat) (o : ObjR) (s : RS) (w : World) (h : RwAt y w p s) (hl : s.1.length <= 140737488355328) :
  Calls Tryz.prog 137 #[rwp p] w (RwTo y w p (.agg #[.string (SL (wNote o s).1.who), .int .i64 (wNote o s).1.stamp, .string (SL (wNote o s).1.text)]) (wNote o s).2) := by
 obtain ⟨W1, hW1⟩ := nm_ (w.alloc (.cells #[.string ⟨#[]⟩, .int .i64 0, .string ⟨#[]⟩] 168)); have hbl : Below w.heap.size w W1 := by rw [hW1]; exact (Below.refl _ _).alloc (Nat.le_refl _) _
 have hrow : W1.heap[w.heap.size]? = some (.cells #[.string ⟨#[]⟩, .int .i64 0, .string ⟨#[]⟩] 168 (0, 0)) := by rw [hW1]; exact heap_alloc_new w _
 have hpn : w.heap.size ≠ p := fun e => by have := h.lt; omega
 have h1 := rowText_any y p s 1000 W1 (h.below hbl) hl; have h2 := fun W (hr : RwAt y W p (wText 1000 s).2) => rowNum_any y p (wText 1000 s).2 1099511627776 W hr (wText_le hl)
 have h3 := fun W (hr : RwAt y W p (wNum 1099511627776 (wText 1000 s).2).2) => rowText_any y p (wNum 1099511627776 (wText 1000 s).2).2 1000 W hr (wNum_le (wText_le hl))
 have e1 : (wNote o s).1.who = (wText 1000 s).1 := rfl
 have e2 : (wNote o s).1.stamp = ((wNum 1099511627776 (wText 1000 s).2).1 : Int) := rfl
 have e3 : (wNote o s).1.text = (wText 1000 (wNum 1099511627776 (wText 1000 s).2).2).1 := rfl
 have e4 : (wNote o s).2 = (wText 1000 (wNum 1099511627776 (wText 1000 s).2).2).2 := rfl
 rw [e1, e2, e3, e4]; obtain ⟨A, hA⟩ := nm_ (wText 1000 s); rw [<- hA] at h1 h2 h3 |-; obtain ⟨Bq, hBq⟩ := nm_ (wNum 1099511627776 A.2); rw [<- hBq] at h2 h3 |-; obtain ⟨C, hC⟩ := nm_ (wText 1000 Bq.2); rw [<- hC] at h3 |-; have ROW := h_ (fun (W : World) (ht : Turn (fun k => k = p) W1 W) => ht.keep hrow hpn)
 have H1 := h_ h1; have H2 := h_ h2; have H3 := h_ h3; have HW := h_ hW1; have HP := h_ h.lt; have BL := h_ hbl; clear h1 h2 h3 e1 e2 e3 e4 hA hBq hC hrow hpn hW1 hbl h hl; go_enter Tryz.func137, Tryz.ntmps137; go_wp2_with fail; rw [<- HW.out]; refine H1.out.mono ?_; rintro e w1 ⟨rfl, r1, t1⟩; have R1 := h_ r1; have T1 := h_ t1; clear r1 t1; go_wp2_with (first
  | (go_at_call 87; refine (H2.out _ R1.out).mono ?_; rintro e w2 ⟨rfl, r2, t2⟩; have R2 := h_ r2; have T2 := h_ (T1.out.trans t2); clear r2 t2)
  | (go_at_call 138; refine (H3.out _ R2.out).mono ?_; rintro e w3 ⟨rfl, r3, t3⟩; have R3 := h_ r3; have T3 := h_ (T2.out.trans t3); have hr := ROW.out w3 T3.out; obtain ⟨c0, c1, c2⟩ := note_at hr; have f0 := note_fz hr; clear r3 t3))
 have e1 : (w3.setCell ⟨w.heap.size, 0, none⟩ (.string (SL A.1))).heap[w.heap.size]? = some (.cells #[.string (SL A.1), .int .i64 0, .string ⟨#[]⟩] 168 (0, 0)) := heap_setCell_same _ w.heap.size 0 _ _ _ hr
 have e2 : ((w3.setCell ⟨w.heap.size, 0, none⟩ (.string (SL A.1))).setCell ⟨w.heap.size, 1, none⟩ (.int .i64 (Bq.1 : Int))).heap[w.heap.size]? = some (.cells #[.string (SL A.1), .int .i64 (Bq.1 : Int), .string ⟨#[]⟩] 168 (0, 0)) := heap_setCell_same _ w.heap.size 1 _ _ _ e1
 have e3 : (((w3.setCell ⟨w.heap.size, 0, none⟩ (.string (SL A.1))).setCell ⟨w.heap.size, 1, none⟩ (.int .i64 (Bq.1 : Int))).setCell ⟨w.heap.size, 2, none⟩ (.string (SL C.1))).heap[w.heap.size]? = some (.cells #[.string (SL A.1), .int .i64 (Bq.1 : Int), .string (SL C.1)] 168 (0, 0)) := heap_setCell_same _ w.heap.size 2 _ _ _ e2
 have t4 : Turn (fun k => k = w.heap.size) w3 (((w3.setCell ⟨w.heap.size, 0, none⟩ (.string (SL A.1))).setCell ⟨w.heap.size, 1, none⟩ (.int .i64 (Bq.1 : Int))).setCell ⟨w.heap.size, 2, none⟩ (.string (SL C.1))) :=
  ((turn_rw w.heap.size 0 w3 _).trans (turn_rw w.heap.size 1 _ _)).trans (turn_rw w.heap.size 2 _ _)
 have hz : w.heap.size <= w3.heap.size := Nat.le_trans BL.out.size T3.out.size
 have b4 := t4.below hz (fun k e => Nat.le_of_eq e.symm)
 refine bodyPost_ret (results_cell_row Tryz.results137 _ _ w.heap.size 168 #[.string (SL A.1), .int .i64 (Bq.1 : Int), .string (SL C.1)] (0, 0) _ rfl e3 Tryz.underlying168 rfl (by kernel_rfl)) rfl ?_
 refine ⟨rfl, R3.out.low b4 HP.out, ?_⟩; exact ((Turn.of_below _ BL.out).then T3.out (fun _ _ h => h)).low b4
theorem ups_next {n : Nat} {s : RS} : wUps (n + 1) s = ((wBytes 32 s).1 :: (wUps n (wBytes 32 s).2).1, (wUps n (wBytes 32 s).2).2) := rfl
theorem ents_next2 {n : Nat} {s : RS} : wEnts (n + 1) s = ((wEnt s).1 :: (wEnts n (wEnt s).2).1, (wEnts n (wEnt s).2).2) := rfl
theorem takeIds_any (y p : Nat) (s : RS) (w : World) (h : RwAt y w p s) (hl : s.1.length <= 140737488355328) :
  Calls Tryz.prog 136 #[rwp p] w fun e w' => ∃ v, e = .returned v /\ TxtsOwn w.heap.size w' v (wUps (wNum 4 s).1 (wNum 4 s).2).1 /\ RwAt y w' p (wUps (wNum 4 s).1 (wNum 4 s).2).2 /\ Turn (fun k => k = p) w w' := by
 have hn := h_ (rowNum_any y p s 4 w h hl); have hle := wNum_le (m := 4) hl
 have hm : (wNum 4 s).1 <= 4 := by
  unfold wNum
  cases parse s.1 with
  | none => exact Nat.zero_le _
  | some q =>
   simp only
   split
   ·exact Nat.zero_le _
   ·simp only; omega
 obtain ⟨N, hN⟩ := nm_ ((wNum 4 s).1); obtain ⟨s1, hs1⟩ := nm_ ((wNum 4 s).2); rw [<- hN, <- hs1] at hn |-; rw [<- hs1] at hle; rw [<- hN] at hm; obtain ⟨R, hR⟩ := nm_ (wUps N s1); rw [<- hR]; have HR := h_ hR; have HP := h_ h.lt; have HL := h_ hle; obtain ⟨x, hx⟩ := nm_ (w.heap.size); rw [<- hx]; have HX := h_ hx; clear hN hs1 hR hle h hl hx; go_enter Tryz.func136, Tryz.ntmps136; go_wp2_with (go_at_call 87; refine hn.out.mono ?_; rintro e w1 ⟨rfl, r1, t1⟩; have R1 := h_ r1; have T1 := h_ t1; clear r1 t1)
 go_loopw [3, 6] (fun ov i W => ∃ (k : Nat) (l : List OB) (s' : RS), i = .int .i64 (k : Int) /\ k <= N /\ l.length = k /\ Hid (R = (l ++ (wUps (N - k) s').1, (wUps (N - k) s').2)) /\ Hid (s'.1.length <= 140737488355328) /\ Hid (TxtsOwn x W ov l) /\ Hid (RwAt y W p s') /\ Turn (fun k => k = p) w W) (fun _ i _ => N - (intOf i).toNat)
 case atStart => exact ⟨0, [], s1, rfl, Nat.zero_le _, rfl, h_ (by rw [HR.out]; rfl), HL, h_ (txts_nil _ _), R1, T1.out⟩
 case round =>
  clear R1 T1; obtain ⟨k, l, s', rfl, hk, hlk, hR, hL, O, RW, hT⟩ := hrel; have TT := h_ hT; clear hT; by_cases hlt : k < N
  ·have j0 : (0 : Int) <= (k : Int) := by omega
   have j1 : (k : Int) < (N : Int) := by omega
   have hid := h_ (takeId_any y p s' wr RW.out hL.out); have hnx : R = ((l ++ [(wBytes 32 s').1]) ++ (wUps (N - (k + 1)) (wBytes 32 s').2).1, (wUps (N - (k + 1)) (wBytes 32 s').2).2) := by
    rw [hR.out]; obtain ⟨q, hq⟩ : ∃ q, N - k = q + 1 := ⟨N - k - 1, by omega⟩
    have hq2 : N - (k + 1) = q := by omega
    rw [hq, hq2, ups_next]; simp
   have HNX := h_ hnx; have HL2 := h_ (wBytes_le (n := 32) hL.out)
   obtain ⟨Q, hQ⟩ := nm_ (wBytes 32 s'); rw [<- hQ] at hid HNX HL2; have hll : l.length <= 4 := by omega
   have HLK := h_ hlk; have HLL := h_ hll; clear hnx hQ hlk hll; go_wp2_with (first
    | (go_at_call 135; refine hid.out.mono ?_; rintro e w2 ⟨rfl, r2, t2⟩; have O2 := h_ (own_past O.out t2 (by have := HP.out; have := HX.out; omega)); have R2 := h_ r2; have TT := h_ (TT.out.trans t2); have SZ := h_ (show x <= w2.heap.size by have h1 := TT.out.size; have h2 := HX.out; omega); clear r2 t2)
    | (at_builtin; refine wpList_own_texts rfl _ _ rfl x _ l rfl (h_ (TxtsOwn.below O2.out ((Below.refl _ _).alloc (Nat.le_refl _) _))) _ 1 1 [Q.1] rfl rfl (fun hh => by cases hh) (lit_text _ Q.1) (by have := HLL.out; simp only [List.length_cons, List.length_nil]; omega) (by have := SZ.out; simp; omega) ?_; intro v3 w3 o3 b3; have O3 := o3; have B3 := h_ (((Below.refl x w2).alloc SZ.out _).trans b3.out); clear o3 b3))
   go_roundw
   case rel => exact ⟨k + 1, l ++ [Q.1], Q.2, by go_num, by omega, by rw [List.length_append, HLK.out]; rfl, HNX, HL2, O3, h_ (R2.out.low B3.out (by have := HP.out; have := HX.out; omega)), TT.out.low (by rw [<- HX.out]; exact B3.out)⟩
   case measure => simp [intOf]; omega
  ·obtain rfl : k = N := by omega
   have j1 : ¬ (k : Int) < (k : Int) := by omega
   have hRv := hR.out; rw [Nat.sub_self] at hRv; have hR1 : R = (l, s') := by rw [hRv]; simp [wUps]
   have HR1 := h_ hR1; clear hRv hR1 hR; go_wp2; go_ret; rw [HR1.out]; exact ⟨_, rfl, O.out, RW.out, TT.out⟩
end
section
open Go.RowKit
theorem wpList_own_entry {ops : Array Oper} {rest : List Oper} {o : Oper} {a : Act} {w : World} {Q : Exit -> Act -> World -> Prop}
  (hgd : o.guard = none) (s z : Operand) (hop : o.op = Op.call { callee := Callee.builtin Builtin.append, args := #[s, z], argTypes := #[170, 170] })
  (x : Nat) (v : Value) (l : List EntR) (hS : a.eval s = v) (h : Hid (EntsOwn x w v l)) (ad : Addr) (c : Nat) (e : EntR) (hX : a.eval z = .slice (some ad) 1 c) (hc : ∀ j u, (ecells [e])[j]? = some u -> w.cell? (ad.add j) = some u) (hb : l.length + 1 <= 5000000000000) (hx : x <= w.heap.size)
  (hK : ∀ v' w', Hid (EntsOwn x w' v' (l ++ [e])) -> Hid (Below x w w') -> wpList Tryz.prog ops Q rest (a.put o.dst v') w') : wpList Tryz.prog ops Q (o :: rest) a w := by
 refine wpList_plain hgd fun K hK' => ?_
 obtain ⟨i0, hi, hz0, hz1, hz2⟩ := info_parts info_entry; obtain ⟨v', w', hrun, r1, r2, _⟩ := run_append_own_wide (P := Tryz.prog) w x 170 o.type 84 i0 _ 3 40 Tryz.underlying170 hi hz0 hz1 hz2 rfl (by decide) v l.length _ h.out ad 1 c (ecells [e]) rfl hc (fun u hu => by simp [ecells] at hu; rcases hu with rfl | rfl | rfl <;> rfl) (by unfold maxLen; omega) (by omega) hx
 have r1' : EntsOwn x w' v' (l ++ [e]) := by
  unfold EntsOwn; rw [List.length_append, ecells_append]; exact r1
 unfold Oper.wp; simp [execOp, hop, resolve, invoke, builtin, hS, hX, hrun, Result.andThen]; exact hK' _ _ (hK v' w' (h_ r1') (h_ ((Below.refl x w).grown r2 hx (fun k hk => (h.out.lt k hk).1))))
theorem lit_entry (w : World) (e : EntR) : ∀ j u, (ecells [e])[j]? = some u -> (w.alloc (.cells #[.string (SL e.nm), .bool e.dir, .string (SL e.id)] 84)).cell? ((⟨w.heap.size, 0, none⟩ : Addr).add j) = some u := by
 intro j u hu
 rw [Addr.add_lit, Nat.zero_add, cell_of_row _ _ _ _ _ _ (heap_alloc_new w _)]; simpa [ecells] using hu
theorem takeTree_any (y p : Nat) (s : RS) (w : World) (h : RwAt y w p s) (hl : s.1.length <= 140737488355328) :
  Calls Tryz.prog 134 #[rwp p] w fun e w' => ∃ v, e = .returned v /\ EntsOwn w.heap.size w' v (wEnts (wNum 4096 s).1 (wNum 4096 s).2).1 /\ RwAt y w' p (wEnts (wNum 4096 s).1 (wNum 4096 s).2).2 /\ Turn (fun k => k = p) w w' := by
 have hn := h_ (rowNum_any y p s 4096 w h hl); have hle := wNum_le (m := 4096) hl
 have hm : (wNum 4096 s).1 <= 4096 := by
  unfold wNum
  cases parse s.1 with
  | none => exact Nat.zero_le _
  | some q =>
   simp only
   split
   ·exact Nat.zero_le _
   ·simp only; omega
 obtain ⟨N, hN⟩ := nm_ ((wNum 4096 s).1); obtain ⟨s1, hs1⟩ := nm_ ((wNum 4096 s).2); rw [<- hN, <- hs1] at hn |-; rw [<- hs1] at hle; rw [<- hN] at hm; obtain ⟨R, hR⟩ := nm_ (wEnts N s1); rw [<- hR]; have HR := h_ hR; have HP := h_ h.lt; have HL := h_ hle; obtain ⟨x, hx⟩ := nm_ (w.heap.size); rw [<- hx]; have HX := h_ hx; clear hN hs1 hR hle h hl hx; go_enter Tryz.func134, Tryz.ntmps134; go_wp2_with (go_at_call 87; refine hn.out.mono ?_; rintro e w1 ⟨rfl, r1, t1⟩; have R1 := h_ r1; have T1 := h_ t1; clear r1 t1)
 go_loopw [3, 6] (fun ov i W => ∃ (k : Nat) (l : List EntR) (s' : RS), i = .int .i64 (k : Int) /\ k <= N /\ l.length = k /\ Hid (R = (l ++ (wEnts (N - k) s').1, (wEnts (N - k) s').2)) /\ Hid (s'.1.length <= 140737488355328) /\ Hid (EntsOwn x W ov l) /\ Hid (RwAt y W p s') /\ Turn (fun k => k = p) w W) (fun _ i _ => N - (intOf i).toNat)
 case atStart => exact ⟨0, [], s1, rfl, Nat.zero_le _, rfl, h_ (by rw [HR.out]; rfl), HL, h_ (ents_nil _ _), R1, T1.out⟩
 case round =>
  clear R1 T1; obtain ⟨k, l, s', rfl, hk, hlk, hR, hL, O, RW, hT⟩ := hrel; have TT := h_ hT; clear hT; by_cases hlt : k < N
  ·have j0 : (0 : Int) <= (k : Int) := by omega
   have j1 : (k : Int) < (N : Int) := by omega
   have hnx : R = ((l ++ [(wEnt s').1]) ++ (wEnts (N - (k + 1)) (wEnt s').2).1, (wEnts (N - (k + 1)) (wEnt s').2).2) := by
    rw [hR.out]; obtain ⟨q, hq⟩ : ∃ q, N - k = q + 1 := ⟨N - k - 1, by omega⟩
    have hq2 : N - (k + 1) = q := by omega
    rw [hq, hq2, ents_next2]; simp
   have HL2 := h_ (wEnt_le hL.out); have hc1 := h_ (rowText_any y p s' 100 wr RW.out hL.out); have hc2 := h_ (fun W (hr : RwAt y W p (wText 100 s').2) => takeDir_any y p (wText 100 s').2 W hr (wText_le hL.out))
   have hc3 := h_ (fun W (hr : RwAt y W p (wDir (wText 100 s').2).2) => takeId_any y p (wDir (wText 100 s').2).2 W hr (wDir_le (wText_le hL.out)))
   have he1 : (wEnt s').1 = ⟨(wText 100 s').1, (wDir (wText 100 s').2).1, (wBytes 32 (wDir (wText 100 s').2).2).1⟩ := rfl
   have he2 : (wEnt s').2 = (wBytes 32 (wDir (wText 100 s').2).2).2 := rfl
   rw [he1, he2] at hnx; rw [he2] at HL2; obtain ⟨T, hTq⟩ := nm_ (wText 100 s'); rw [<- hTq] at hc1 hc2 hc3 hnx HL2; obtain ⟨D, hD⟩ := nm_ (wDir T.2); rw [<- hD] at hc2 hc3 hnx HL2; obtain ⟨Q, hQ⟩ := nm_ (wBytes 32 D.2); rw [<- hQ] at hc3 hnx HL2; have HNX := h_ hnx; have hll : l.length <= 4096 := by omega
   have HLK := h_ hlk; have HLL := h_ hll; have PX := h_ (show p < x by have := HP.out; have := HX.out; omega)
   clear hnx hTq hD hQ hlk hll he1 he2; go_wp2_with (first
    | (go_at_call 138; refine hc1.out.mono ?_; rintro e w2 ⟨rfl, r2, t2⟩; have O2 := h_ (own_past O.out t2 PX.out); have R2 := h_ r2; have TT := h_ (TT.out.trans t2); clear r2 t2)
    | (go_at_call 165; refine (hc2.out _ R2.out).mono ?_; rintro e w3 ⟨rfl, r3, t3⟩; have O3 := h_ (own_past O2.out t3 PX.out); have R3 := h_ r3; have TT := h_ (TT.out.trans t3); clear r3 t3)
    | (go_at_call 135; refine (hc3.out _ R3.out).mono ?_; rintro e w4 ⟨rfl, r4, t4⟩; have O4 := h_ (own_past O3.out t4 PX.out); have R4 := h_ r4; have TT := h_ (TT.out.trans t4); have SZ := h_ (show x <= w4.heap.size by have h1 := TT.out.size; have h2 := HX.out; omega); clear r4 t4)
    | (at_builtin; refine wpList_own_entry rfl _ _ rfl x _ l rfl (h_ (EntsOwn.below O4.out ((Below.refl _ _).alloc (Nat.le_refl _) _))) _ 1 ⟨T.1, D.1, Q.1⟩ rfl (lit_entry _ ⟨T.1, D.1, Q.1⟩) (by have := HLL.out; omega) (by have := SZ.out; simp; omega) ?_; intro v5 w5 o5 b5; have O5 := o5; have B5 := h_ (((Below.refl x w4).alloc SZ.out _).trans b5.out); clear o5 b5))
   go_roundw
   case rel => exact ⟨k + 1, l ++ [⟨T.1, D.1, Q.1⟩], Q.2, by go_num, by omega, by rw [List.length_append, HLK.out]; rfl, HNX, HL2, O5, h_ (R4.out.low B5.out PX.out), TT.out.low (by rw [<- HX.out]; exact B5.out)⟩
   case measure => simp [intOf]; omega
  ·obtain rfl : k = N := by omega
   have j1 : ¬ (k : Int) < (k : Int) := by omega
   have hRv := hR.out; rw [Nat.sub_self] at hRv; have hR1 : R = (l, s') := by rw [hRv]; simp [wEnts]
   have HR1 := h_ hR1; clear hRv hR1 hR; go_wp2; go_ret; rw [HR1.out]; exact ⟨_, rfl, O.out, RW.out, TT.out⟩
end
section
open Go.RowKit
def BodyTo (y : Nat) (w : World) (p : Nat) (o : ObjR) (s : RS) (e : Ending) (w' : World) : Prop :=
 ∃ a1 c1 a2 c2 a3 c3, e = .returned (bodyV o (.slice a1 o.data.length c1) (.slice a2 o.ents.length c2) (.slice a3 o.ups.length c3)) /\
  ObjIn w' (fun k => w.heap.size <= k) o (.slice a1 o.data.length c1) (.slice a2 o.ents.length c2) (.slice a3 o.ups.length c3) /\
  (coreO o = o /\ coreD o (.slice a1 o.data.length c1) = .slice a1 o.data.length c1 /\ coreE o (.slice a2 o.ents.length c2) = .slice a2 o.ents.length c2 /\ coreU o (.slice a3 o.ups.length c3) = .slice a3 o.ups.length c3) /\
  RwAt y w' p s /\ Turn (fun k => k = p) w w'
theorem u8_nat {c : UInt8} {n : Nat} (hn : n < 256) : c = UInt8.ofNat n ↔ c.toNat = n :=
 ⟨fun e => by rw [e]; simp; omega, fun e => by rw [<- e]; simp⟩
theorem BytesAt.form {w : World} {F : Nat -> Prop} {v : Value} {b : OB} (h : BytesAt w F v b) : ∃ ao cap, v = .slice ao b.length cap := by
 obtain ⟨ao, cap, _, _, e, _⟩ := h; exact ⟨ao, cap, e⟩
theorem EntsAt.form {w : World} {F : Nat -> Prop} {v : Value} {b : List EntR} (h : EntsAt w F v b) : ∃ ao cap, v = .slice ao b.length cap := by
 obtain ⟨ao, cap, _, _, e, _⟩ := h; exact ⟨ao, cap, e⟩
theorem TextsAt.form {w : World} {F : Nat -> Prop} {v : Value} {b : List OB} (h : TextsAt w F v b) : ∃ ao cap, v = .slice ao b.length cap := by
 obtain ⟨ao, cap, _, _, e, _⟩ := h; exact ⟨ao, cap, e⟩
theorem clone_any2 (ao : Option Addr) (n : Nat) (b : OB) (B off : Nat) (w : World) (hn : n = b.length) (h : SrcAt w ao n b B off) (hl : b.length <= 140737488355328) :
  Calls Tryz.prog 61 #[.slice ao n n] w fun e w' => ∃ v, e = .returned v /\ w'.ownsRow w.heap.size 5 1 v b.length (b.map B8) /\ Below w.heap.size w w' := by
 have := clone_any ao n b B off w h hl
 rw [<- hn] at this |-; exact this
theorem wUps_le : ∀ {n : Nat} {s : RS} {L : Nat}, s.1.length <= L -> (wUps n s).2.1.length <= L
 | 0, _, _, h => h
 | n + 1, s, L, h => by
  rw [ups_next]; exact wUps_le (wBytes_le h)
theorem own_from {w : World} {base e s n : Nat} {v : Value} {xs : List Value} (h : w.ownsRow base e s v n xs) : ∀ g, v.ownBlock = some g -> base <= g := fun g hg => (h.lt g hg).1
theorem take_0 (y p : Nat) (s : RS) (w : World) (h : RwAt y w p s) (hl : s.1.length <= 140737488355328) (h1 : ¬ (wByte s).1 = 1) (h2 : ¬ (wByte s).1 = 2) (h3 : ¬ (wByte s).1 = 3) (h4 : ¬ (wByte s).1 = 4) :
  Calls Tryz.prog 92 #[rwp p] w (BodyTo y w p (zeroO 0) (wByte s).2) := by
 have hb := h_ (rowByte_any y p s w h hl); obtain ⟨c, hc⟩ := nm_ ((wByte s).1); rw [<- hc] at hb h1 h2 h3 h4; obtain ⟨x, hx⟩ := nm_ (c.toNat); rw [<- hx] at hb; have j1 : ¬ (x : Int) = 1 := fun e => h1 ((u8_nat (n := 1) (by omega)).2 (by omega))
 have j2 : ¬ (x : Int) = 2 := fun e => h2 ((u8_nat (n := 2) (by omega)).2 (by omega))
 have j3 : ¬ (x : Int) = 3 := fun e => h3 ((u8_nat (n := 3) (by omega)).2 (by omega))
 have j4 : ¬ (x : Int) = 4 := fun e => h4 ((u8_nat (n := 4) (by omega)).2 (by omega))
 have k1 : ((x : Int) == 1) = false := by simpa using j1
 have k2 : ((x : Int) == 2) = false := by simpa using j2
 have k3 : ((x : Int) == 3) = false := by simpa using j3
 have k4 : ((x : Int) == 4) = false := by simpa using j4
 clear hc hx h1 h2 h3 h4 h hl; go_enter Tryz.func92, Tryz.ntmps92; go_wp2_with (go_at_call 133; refine hb.out.mono ?_; rintro e w1 ⟨rfl, r1, t1⟩; have R1 := h_ r1; have T1 := h_ t1; clear r1 t1)
 go_ret; exact ⟨none, 0, none, 0, none, 0, rfl, ⟨bytesAt_nil _ _, entsAt_nil _ _, textsAt_nil _ _⟩, ⟨rfl, rfl, rfl, rfl⟩, R1.out, T1.out⟩
theorem take_1 (y p : Nat) (s : RS) (w : World) (h : RwAt y w p s) (hl : s.1.length <= 140737488355328) (h1 : (wByte s).1 = 1) :
  Calls Tryz.prog 92 #[rwp p] w (BodyTo y w p { zeroO 1 with data := (wBytes (wByte s).2.1.length (wByte s).2).1 } (wBytes (wByte s).2.1.length (wByte s).2).2) := by
 have hb := rowByte_any y p s w h hl; rw [h1] at hb; have hle := wByte_le hl; have hlf := h_ (fun W (hr : RwAt y W p (wByte s).2) => rowLeft_any y p (wByte s).2 W hr)
 have hby := h_ (fun W (hr : RwAt y W p (wByte s).2) => rowBytes_yes y p (wByte s).2 (wByte s).2.1.length W hr (Nat.le_refl _) hle)
 have e1 : wBytes (wByte s).2.1.length (wByte s).2 = ((wByte s).2.1, ([], (wByte s).2.2)) := by
  unfold wBytes; rw [if_neg (Nat.lt_irrefl _), List.take_length, List.drop_length]
 rw [e1]; simp only [List.take_length, List.drop_length] at hby; obtain ⟨s1, hs1⟩ := nm_ ((wByte s).2); rw [<- hs1] at hb hle hlf hby |-; have HB := h_ hb; have HL := h_ hle; obtain ⟨n, hn⟩ := nm_ (s1.1.length); rw [<- hn] at hlf hby; have HN := h_ hn; clear hb hle hs1 hn e1 h1 h hl; go_enter Tryz.func92, Tryz.ntmps92; go_wp2_with (first
  | (go_at_call 133; refine HB.out.mono ?_; rintro e w1 ⟨rfl, r1, t1⟩; have R1 := h_ r1; have T1 := h_ t1; clear r1 t1)
  | (go_at_call 88; refine (hlf.out _ R1.out).mono ?_; rintro e w2 ⟨rfl, rfl⟩)
  | (go_at_call 132; refine (hby.out _ R1.out).mono ?_; rintro e w3 ⟨ao, B, off, rfl, q3, _, r3, t3⟩; have R3 := h_ r3; have Q3 := h_ q3; have T3 := h_ (T1.out.trans t3); clear q3 r3 t3)
  | (go_at_call 61; refine (clone_any2 ao n s1.1 B off _ HN.out Q3.out HL.out).mono ?_; rintro e w4 ⟨v4, rfl, o4, b4⟩; obtain ⟨a4, c4, rfl⟩ := (BytesAt.of_own (F := fun _ => True) o4 (fun _ _ => trivial)).form; have O4 := h_ o4; have B4 := h_ b4; clear o4 b4))
 go_ret; exact ⟨a4, c4, none, 0, none, 0, rfl, ⟨BytesAt.of_own O4.out (fun g hg => Nat.le_trans T3.out.size (own_from O4.out g hg)), entsAt_nil _ _, textsAt_nil _ _⟩, ⟨rfl, rfl, rfl, rfl⟩, R3.out.below B4.out, T3.out.trans (Turn.of_below _ B4.out)⟩
theorem take_2 (y p : Nat) (s : RS) (w : World) (h : RwAt y w p s) (hl : s.1.length <= 140737488355328) (h1 : (wByte s).1 = 2) :
  Calls Tryz.prog 92 #[rwp p] w (BodyTo y w p (wTree (wByte s).2).1 (wTree (wByte s).2).2) := by
 have hb := rowByte_any y p s w h hl; rw [h1] at hb; have hle := wByte_le hl; have htr := h_ (fun W (hr : RwAt y W p (wByte s).2) => takeTree_any y p (wByte s).2 W hr hle)
 have e1 : wTree (wByte s).2 = ({ zeroO 2 with ents := (wEnts (wNum 4096 (wByte s).2).1 (wNum 4096 (wByte s).2).2).1 }, (wEnts (wNum 4096 (wByte s).2).1 (wNum 4096 (wByte s).2).2).2) := rfl
 rw [e1]; obtain ⟨R, hR⟩ := nm_ (wEnts (wNum 4096 (wByte s).2).1 (wNum 4096 (wByte s).2).2); rw [<- hR] at htr |-; obtain ⟨s1, hs1⟩ := nm_ ((wByte s).2); rw [<- hs1] at hb htr; have HB := h_ hb; clear hb hle hs1 hR e1 h1 h hl; go_enter Tryz.func92, Tryz.ntmps92; go_wp2_with (first
  | (go_at_call 133; refine HB.out.mono ?_; rintro e w1 ⟨rfl, r1, t1⟩; have R1 := h_ r1; have T1 := h_ t1; clear r1 t1)
  | (go_at_call 134; refine (htr.out _ R1.out).mono ?_; rintro e w4 ⟨v4, rfl, o4, r4, t4⟩; obtain ⟨a4, c4, rfl⟩ := (EntsAt.of_own (F := fun _ => True) o4 (fun _ _ => trivial)).form; have O4 := h_ o4; have R4 := h_ r4; have T4 := h_ t4; clear o4 r4 t4))
 go_ret; exact ⟨none, 0, a4, c4, none, 0, rfl, ⟨bytesAt_nil _ _, EntsAt.of_own O4.out (fun g hg => Nat.le_trans T1.out.size (own_from O4.out g hg)), textsAt_nil _ _⟩, ⟨rfl, rfl, rfl, rfl⟩, R4.out, T1.out.trans T4.out⟩
theorem take_3 (y p : Nat) (s : RS) (w : World) (h : RwAt y w p s) (hl : s.1.length <= 140737488355328) (h1 : (wByte s).1 = 3) :
  Calls Tryz.prog 92 #[rwp p] w (BodyTo y w p (wCommit (wByte s).2).1 (wCommit (wByte s).2).2) := by
 have hb := rowByte_any y p s w h hl; rw [h1] at hb; have hle := wByte_le hl; have hid := h_ (fun W (hr : RwAt y W p (wByte s).2) => takeId_any y p (wByte s).2 W hr hle)
 have hids := h_ (fun W (hr : RwAt y W p (wBytes 32 (wByte s).2).2) => takeIds_any y p (wBytes 32 (wByte s).2).2 W hr (wBytes_le hle))
 have hul : (wUps (wNum 4 (wBytes 32 (wByte s).2).2).1 (wNum 4 (wBytes 32 (wByte s).2).2).2).2.1.length <= 140737488355328 := wUps_le (wNum_le (wBytes_le hle))
 have e1 : wCommit (wByte s).2 = wNote { zeroO 3 with tree := (wBytes 32 (wByte s).2).1, ups := (wUps (wNum 4 (wBytes 32 (wByte s).2).2).1 (wNum 4 (wBytes 32 (wByte s).2).2).2).1 } (wUps (wNum 4 (wBytes 32 (wByte s).2).2).1 (wNum 4 (wBytes 32 (wByte s).2).2).2).2 := rfl
 rw [e1]; obtain ⟨s1, hs1⟩ := nm_ ((wByte s).2); rw [<- hs1] at hb hid hids hul |-; obtain ⟨I, hI⟩ := nm_ (wBytes 32 s1); rw [<- hI] at hid hids hul |-; obtain ⟨U, hU⟩ := nm_ (wUps (wNum 4 I.2).1 (wNum 4 I.2).2); rw [<- hU] at hids hul |-; have hno := h_ (fun W (hr : RwAt y W p U.2) => takeNote_any y p { zeroO 3 with tree := I.1, ups := U.1 } U.2 W hr hul)
 have n1 : (wNote { zeroO 3 with tree := I.1, ups := U.1 } U.2).1.kind = 3 := rfl
 have n2 : (wNote { zeroO 3 with tree := I.1, ups := U.1 } U.2).1.tree = I.1 := rfl
 have n3 : (wNote { zeroO 3 with tree := I.1, ups := U.1 } U.2).1.ups = U.1 := rfl
 have n4 : (wNote { zeroO 3 with tree := I.1, ups := U.1 } U.2).1.data = [] := rfl
 have n5 : (wNote { zeroO 3 with tree := I.1, ups := U.1 } U.2).1.ents = [] := rfl
 have n6 : coreO (wNote { zeroO 3 with tree := I.1, ups := U.1 } U.2).1 = (wNote { zeroO 3 with tree := I.1, ups := U.1 } U.2).1 := rfl
 obtain ⟨M, hM⟩ : ∃ x, x = wNote { zeroO 3 with tree := I.1, ups := U.1 } U.2 := ⟨_, rfl⟩
 rw [<- hM] at hno n1 n2 n3 n4 n5 n6 |-; have HB := h_ hb; have NN := h_ (And.intro n1 (And.intro n2 (And.intro n3 (And.intro n4 (And.intro n5 n6))))); clear hb hle hs1 hI hU hM e1 h1 h hl hul n1 n2 n3 n4 n5 n6; go_enter Tryz.func92, Tryz.ntmps92; go_wp2_with (first
  | (go_at_call 133; refine HB.out.mono ?_; rintro e w1 ⟨rfl, r1, t1⟩; have R1 := h_ r1; have T1 := h_ t1; clear r1 t1)
  | (go_at_call 135; refine (hid.out _ R1.out).mono ?_; rintro e w2 ⟨rfl, r2, t2⟩; have R2 := h_ r2; have T2 := h_ (T1.out.trans t2); clear r2 t2)
  | (go_at_call 136; refine (hids.out _ R2.out).mono ?_; rintro e w3 ⟨v3, rfl, o3, r3, t3⟩; obtain ⟨a3, c3, rfl⟩ := (TextsAt.of_own (F := fun _ => True) o3 (fun _ _ => trivial)).form; have TX := h_ (TextsAt.of_own (F := fun k => w.heap.size <= k /\ k ≠ p) o3 (fun g hg => by have h1 := own_from o3 g hg; have h2 := T2.out.size; have h3 := R2.out.lt; exact ⟨Nat.le_trans h2 h1, by omega⟩)); have R3 := h_ r3; have T3 := h_ (T2.out.trans t3); clear o3 r3 t3)
  | (go_at_call 137; refine (hno.out _ R3.out).mono ?_; rintro e w4 ⟨rfl, r4, t4⟩; have TY := h_ (TX.out.turn t4 (fun k hk e => hk.2 e)); have R4 := h_ r4; have T4 := h_ (T3.out.trans t4); clear r4 t4))
 go_ret; obtain ⟨m1, m2, m3, m4, m5, m6⟩ := NN.out; refine ⟨none, 0, none, 0, a3, c3, ?_, ⟨by rw [m4]; exact bytesAt_nil _ _, by rw [m5]; exact entsAt_nil _ _, by rw [m3]; exact TY.out.mono (fun k _ hk => hk.1)⟩, ⟨m6, ?_, ?_, ?_⟩, R4.out, T4.out⟩
 ·unfold bodyV
  rw [if_neg (by omega), if_neg (by omega), if_pos m1, m2, m3]
  rfl
 ·unfold coreD
  rw [if_neg (by omega), m4]
  rfl
 ·unfold coreE
  rw [if_neg (by omega), m5]
  rfl
 ·unfold coreU
  rw [if_pos m1]
theorem take_4 (y p : Nat) (s : RS) (w : World) (h : RwAt y w p s) (hl : s.1.length <= 140737488355328) (h1 : (wByte s).1 = 4) :
  Calls Tryz.prog 92 #[rwp p] w (BodyTo y w p (wTag (wByte s).2).1 (wTag (wByte s).2).2) := by
 have hb := rowByte_any y p s w h hl; rw [h1] at hb; have hle := wByte_le hl; have hid := h_ (fun W (hr : RwAt y W p (wByte s).2) => takeId_any y p (wByte s).2 W hr hle)
 have htx := h_ (fun W (hr : RwAt y W p (wBytes 32 (wByte s).2).2) => rowText_any y p (wBytes 32 (wByte s).2).2 200 W hr (wBytes_le hle))
 have hul : (wText 200 (wBytes 32 (wByte s).2).2).2.1.length <= 140737488355328 := wText_le (wBytes_le hle)
 have e1 : wTag (wByte s).2 = wNote { zeroO 4 with target := (wBytes 32 (wByte s).2).1, name := (wText 200 (wBytes 32 (wByte s).2).2).1 } (wText 200 (wBytes 32 (wByte s).2).2).2 := rfl
 rw [e1]; obtain ⟨s1, hs1⟩ := nm_ ((wByte s).2); rw [<- hs1] at hb hid htx hul |-; obtain ⟨I, hI⟩ := nm_ (wBytes 32 s1); rw [<- hI] at hid htx hul |-; obtain ⟨U, hU⟩ := nm_ (wText 200 I.2); rw [<- hU] at htx hul |-; have hno := h_ (fun W (hr : RwAt y W p U.2) => takeNote_any y p { zeroO 4 with target := I.1, name := U.1 } U.2 W hr hul)
 have n1 : (wNote { zeroO 4 with target := I.1, name := U.1 } U.2).1.kind = 4 := rfl
 have n2 : (wNote { zeroO 4 with target := I.1, name := U.1 } U.2).1.target = I.1 := rfl
 have n3 : (wNote { zeroO 4 with target := I.1, name := U.1 } U.2).1.name = U.1 := rfl
 have n4 : (wNote { zeroO 4 with target := I.1, name := U.1 } U.2).1.data = [] := rfl
 have n5 : (wNote { zeroO 4 with target := I.1, name := U.1 } U.2).1.ents = [] := rfl
 have n7 : (wNote { zeroO 4 with target := I.1, name := U.1 } U.2).1.ups = [] := rfl
 have n6 : coreO (wNote { zeroO 4 with target := I.1, name := U.1 } U.2).1 = (wNote { zeroO 4 with target := I.1, name := U.1 } U.2).1 := rfl
 obtain ⟨M, hM⟩ : ∃ x, x = wNote { zeroO 4 with target := I.1, name := U.1 } U.2 := ⟨_, rfl⟩
 rw [<- hM] at hno n1 n2 n3 n4 n5 n6 n7 |-; have HB := h_ hb; have NN := h_ (And.intro n1 (And.intro n2 (And.intro n3 (And.intro n4 (And.intro n5 (And.intro n6 n7)))))); clear hb hle hs1 hI hU hM e1 h1 h hl hul n1 n2 n3 n4 n5 n6 n7; go_enter Tryz.func92, Tryz.ntmps92; go_wp2_with (first
  | (go_at_call 133; refine HB.out.mono ?_; rintro e w1 ⟨rfl, r1, t1⟩; have R1 := h_ r1; have T1 := h_ t1; clear r1 t1)
  | (go_at_call 135; refine (hid.out _ R1.out).mono ?_; rintro e w2 ⟨rfl, r2, t2⟩; have R2 := h_ r2; have T2 := h_ (T1.out.trans t2); clear r2 t2)
  | (go_at_call 138; refine (htx.out _ R2.out).mono ?_; rintro e w3 ⟨rfl, r3, t3⟩; have R3 := h_ r3; have T3 := h_ (T2.out.trans t3); clear r3 t3)
  | (go_at_call 137; refine (hno.out _ R3.out).mono ?_; rintro e w4 ⟨rfl, r4, t4⟩; have R4 := h_ r4; have T4 := h_ (T3.out.trans t4); clear r4 t4))
 go_ret; obtain ⟨m1, m2, m3, m4, m5, m6, m7⟩ := NN.out; refine ⟨none, 0, none, 0, none, 0, ?_, ⟨by rw [m4]; exact bytesAt_nil _ _, by rw [m5]; exact entsAt_nil _ _, by rw [m7]; exact textsAt_nil _ _⟩, ⟨m6, ?_, ?_, ?_⟩, R4.out, T4.out⟩
 ·unfold bodyV
  rw [if_neg (by omega), if_neg (by omega), if_neg (by omega), if_pos m1, m2, m3]
  rfl
 ·unfold coreD
  rw [if_neg (by omega), m4]
  rfl
 ·unfold coreE
  rw [if_neg (by omega), m5]
  rfl
 ·unfold coreU
  rw [if_neg (by omega), m7]
  rfl
theorem takeBody_any (y p : Nat) (s : RS) (w : World) (h : RwAt y w p s) (hl : s.1.length <= 140737488355328) :
  Calls Tryz.prog 92 #[rwp p] w (BodyTo y w p (wO s).1 (wO s).2) := by
 unfold wO wBody; by_cases h1 : (wByte s).1 = 1
 ·rw [if_pos h1]; exact take_1 y p s w h hl h1
 ·by_cases h2 : (wByte s).1 = 2
  ·rw [if_neg h1, if_pos h2]; exact take_2 y p s w h hl h2
  ·by_cases h3 : (wByte s).1 = 3
   ·rw [if_neg h1, if_neg h2, if_pos h3]; exact take_3 y p s w h hl h3
   ·by_cases h4 : (wByte s).1 = 4
    ·rw [if_neg h1, if_neg h2, if_neg h3, if_pos h4]; exact take_4 y p s w h hl h4
    ·rw [if_neg h1, if_neg h2, if_neg h3, if_neg h4]; exact take_0 y p s w h hl h1 h2 h3 h4
end
end Go.Proofs.YtomgijcbekjlaaaGreat
