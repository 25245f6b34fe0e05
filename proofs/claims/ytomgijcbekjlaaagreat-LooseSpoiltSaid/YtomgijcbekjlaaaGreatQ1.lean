/- What the proofs stand on: CodeGroups, CodeLayB, CodePutNum, RowC, RowPut, CodeNumber, CodeTakeNum, PressPutTo. -/
import Derived.Test.YtomgijcbekjlaaaGreatQ0
import Derived.Test.YtomgijcbekjlaaaGreatQ2
import Derived.WalkMore
namespace Go.Proofs.YtomgijcbekjlaaaGreat
open Go.RowKit
set_option maxRecDepth 100000 in
set_option maxHeartbeats 800000 in
theorem groups_any (n : Int) (w : World) :
    Calls Tryz.prog 182 #[.int .i64 n] w fun e w' => ∃ v, e = .returned v ∧ w'.ownsRow w.heap.size 5 1 v (numL (clampN n)).length ((numL (clampN n)).map B8) ∧ Below w.heap.size w w' := by
  obtain ⟨i0, hi, hz0, hz1, hz2⟩ := info_parts info5
  have hmk : ∀ u : World, (Instr.makeSlice 29 (.int .i64 0) (.int .i64 9)).run Tryz.prog u =
      .ok (.slice (some ⟨u.heap.size, 0, none⟩) 0 9) (u.alloc (.cells (cells8 (List.replicate 9 0)) 5)) := fun u => by
    have h := run_make (P := Tryz.prog) u 29 5 i0 (.int .u8 0) Tryz.underlying29 hi hz0 .i64 .i64 0 9 (by omega) (by omega) (by rw [hz2]; omega) (by omega)
    simpa [hz1, Value.cells, zeros_made] using h
  obtain ⟨q, hc1, hc2⟩ := clamp_min_max n
  have hcl := clampN_le n
  obtain ⟨m, hm⟩ : ∃ m : Nat, m = clampN n := ⟨_, rfl⟩
  rw [← hm] at hc2 hcl ⊢
  obtain ⟨L, hL⟩ : ∃ L : List UInt8, L = numL m := ⟨_, rfl⟩
  rw [← hL]
  have HL := Lib.hid hL
  clear hm hL
  go_enter Tryz.func182, Tryz.ntmps182
  go_wp2
  clear hc1 hc2 hmk
  obtain ⟨wx, hwx⟩ : ∃ wx, wx = w.alloc (.cells (cells8 (List.replicate 9 0)) 5) := ⟨_, rfl⟩
  have hown : wx.ownsRow w.heap.size 5 1 (.slice (some ⟨w.heap.size, 0, none⟩) 0 9) 0 [] := by
    rw [hwx]
    exact owns_of_row (heap_alloc_new _ _) (by omega) (by omega) (by unfold maxLen; omega) (by simp [cells8_size]) rfl rfl
  have hbel : Below w.heap.size w wx := by rw [hwx]; exact (Below.refl _ _).alloc (Nat.le_refl _) _
  have hwx' : w.alloc (.cells (cells8 [0, 0, 0, 0, 0, 0, 0, 0, 0]) 5) = wx := hwx.symm
  rw [hwx']
  clear hwx hwx'
  have HO := Lib.hid hown
  clear hown
  go_loopw [0, 3] (fun x v wr => ∃ (f k : Nat) (p : List UInt8), x = .int .i64 (k : Int) ∧ p.length + f = 8 ∧ k < 64 * 128 ^ f ∧ L = p ++ numF f k ∧ v = .slice (some ⟨w.heap.size, 0, none⟩) p.length 9 ∧ wr.ownsRow w.heap.size 5 1 (.slice (some ⟨w.heap.size, 0, none⟩) p.length 9) p.length (p.map B8) ∧ Below w.heap.size w wr) (fun x _ _ => (intOf x).toNat)
  case atStart => exact ⟨8, m, [], rfl, rfl, by omega, HL.out, rfl, HO.out, hbel⟩
  case round =>
    clear HO hbel hcl
    obtain ⟨f, k, p, rfl, hpf, hk, hLp, rfl, hown, hbel⟩ := hrel
    have HO := Lib.hid hown
    have HP := Lib.hid hLp
    have hkb : (k : Int) ≤ 4611686018427387903 := by
      have h1 : 128 ^ f ≤ 128 ^ 8 := Nat.pow_le_pow_right (by omega) (by omega)
      omega
    have HK := Lib.hid hk
    have hpl : p.length ≤ 8 := by omega
    have HF := Lib.hid hpf
    clear hown hLp hk hpf
    by_cases hlt : 128 ≤ k
    · go_wp2_with (at_builtin; refine wpList_append_fits _ rfl _ _ 29 rfl w.heap.size 5 i0 1 Tryz.underlying29 hi hz1 w.heap.size p.length 9 _ rfl (HO.out.alloc _) ⟨_, 0, none⟩ 1 1 _ rfl rfl (news_one _ _) (by simp [Value.oneCell']) (by omega) ?_; intro w1 hown1 hgrow1; have HO1 := Lib.hid hown1; have HG1 := Lib.hid hgrow1; clear hown1 hgrow1)
      obtain ⟨f', rfl, hmore, hless⟩ := numF_more hlt HK.out
      have hcell : (.int .u8 ((k : Int) % 128 + 128) : Value) = B8 (UInt8.ofNat (k % 128 + 128)) := by
        unfold B8
        rw [UInt8.toNat_ofNat_of_lt' (by show _ < 256; omega)]
        congr 1
      have HC := Lib.hid hcell
      have HM := Lib.hid hmore
      have HS := Lib.hid hless
      clear hcell hmore hless
      go_roundw
      case rel =>
        refine ⟨f', k / 128, p ++ [UInt8.ofNat (k % 128 + 128)], by congr 1, ?_, HS.out, ?_, by simp, ?_, ?_⟩
        · have := HF.out
          simp; omega
        · rw [HP.out, HM.out, List.append_assoc]; rfl
        · have h := HO1.out
          rw [HC.out] at h
          simpa using h
        · exact (hbel.alloc hbel.size _).grown HG1.out (by have := hbel.size; simp; omega) (fun k hk => by cases hk; exact Nat.le_refl _)
      case measure => simp [intOf]; omega
    · have hlast := numF_last (Nat.lt_of_not_le hlt) HK.out
      have hcell : (.int .u8 (k : Int) : Value) = B8 (UInt8.ofNat k) := by
        unfold B8
        rw [UInt8.toNat_ofNat_of_lt' (by show _ < 256; omega)]
      have HC := Lib.hid hcell
      have HL1 := Lib.hid hlast
      clear hcell hlast
      go_wp2_with (at_builtin; refine wpList_append_fits _ rfl _ _ 29 rfl w.heap.size 5 i0 1 Tryz.underlying29 hi hz1 w.heap.size p.length 9 _ rfl (HO.out.alloc _) ⟨_, 0, none⟩ 1 1 _ rfl rfl (news_one _ _) (by simp [Value.oneCell']) (by omega) ?_; intro w1 hown1 hgrow1; have HO1 := Lib.hid hown1; have HG1 := Lib.hid hgrow1; clear hown1 hgrow1)
      go_ret
      refine ⟨_, rfl, ?_, ?_⟩
      · have h := HO1.out
        rw [HC.out] at h
        rw [HP.out, HL1.out]
        simpa using h
      · exact (hbel.alloc hbel.size _).grown HG1.out (by have := hbel.size; simp; omega) (fun k hk => by cases hk; exact Nat.le_refl _)
end Go.Proofs.YtomgijcbekjlaaaGreat
namespace Go.Proofs.YtomgijcbekjlaaaGreat
open Go.RowKit
set_option maxRecDepth 100000 in
set_option maxHeartbeats 800000 in
theorem lay_bytes (ao : Option Addr) (cap : Nat) (bs : List UInt8) (B off g cp : Nat) (ls : List (List UInt8)) (w : World) (h : SrcAt w ao cap bs B off) (hg : g < w.heap.size)
    (hput : ∀ k, k < ls.length → ∃ ao' cap' B' off', w.cell? ⟨g, k, none⟩ = some (.slice ao' (ls.getD k []).length cap') ∧ SrcAt w ao' cap' (ls.getD k []) B' off') (hn : ls.length ≤ 1000) (hs : bs.length + ls.flatten.length ≤ 281474976710656) :
    Calls Tryz.prog 181 #[.slice ao bs.length cap, .slice (some ⟨g, 0, none⟩) ls.length cp] w fun e w' => ∃ v, e = .returned v ∧ w'.ownsRow w.heap.size 5 1 v (bs ++ ls.flatten).length ((bs ++ ls.flatten).map B8) ∧ Below w.heap.size w w' := by
  obtain ⟨i0, hi, hz0, hz1, hz2⟩ := info_parts info5
  obtain ⟨n, hbn⟩ : ∃ n, n = bs.length := ⟨_, rfl⟩
  obtain ⟨m, hm⟩ : ∃ m, m = ls.length := ⟨_, rfl⟩
  obtain ⟨t, ht⟩ : ∃ t, t = ls.flatten.length := ⟨_, rfl⟩
  rw [← ht] at hs
  rw [← hm] at hn
  rw [← hbn] at hs
  rw [← hbn, ← hm]
  have HB := Lib.hid hbn
  have HM := Lib.hid hm
  have HT := Lib.hid ht
  have HP := Lib.hid hput
  clear hbn hm ht hput
  go_enter Tryz.func181, Tryz.ntmps181
  go_wp2
  go_loop [5, 15] (fun x i => ∃ k : Nat, k ≤ m ∧ i = .int .i64 k ∧ x = .int .i64 ((n + (ls.take k).flatten.length : Nat) : Int)) (fun _ i => m - (intOf i).toNat)
  case atStart => exact ⟨0, by omega, rfl, by simp⟩
  case round =>
    obtain ⟨k, hk, rfl, rfl⟩ := hrel
    have hle := flat_take_le ls k
    rw [← HT.out] at hle
    by_cases hlt : k < m
    · obtain ⟨ao', cap', B', off', hcell, hsrc⟩ := HP.out k (by rw [← HM.out]; exact hlt)
      have hstep := flat_take ls k (by rw [← HM.out]; exact hlt)
      have hle2 := flat_take_le ls (k + 1)
      rw [← HT.out, hstep, List.length_append] at hle2
      obtain ⟨q, hq⟩ : ∃ q, q = (ls.take k).flatten.length := ⟨_, rfl⟩
      obtain ⟨r, hr⟩ : ∃ r, r = (ls.getD k []).length := ⟨_, rfl⟩
      have hnext : (ls.take (k + 1)).flatten.length = q + r := by rw [hstep, List.length_append, hq, hr]
      rw [← hq, ← hr] at hle2
      rw [← hq] at hle ⊢
      rw [← hr] at hcell
      have HN := Lib.hid hnext
      clear hnext hq hr hsrc hstep
      go_wp2
      go_round
      case rel => exact ⟨k + 1, by omega, by go_num, by rw [HN.out]; go_num⟩
      case measure => simp [intOf]; omega
    · obtain rfl : k = m := by omega
      rw [List.take_of_length_le (by rw [← HM.out]; omega), ← HT.out]
      go_wp2_with (first
        | (at_make; refine wpList_make_own _ rfl _ _ 29 rfl w.heap.size 5 i0 (.int .u8 0) 1 Tryz.underlying29 hi hz0 hz1 _ _ _ (n + t) rfl rfl (by omega) (by rw [hz2]; omega) (by unfold maxLen; omega) (Nat.le_refl _) ?_; intro w1 hown1 hgrow1; have HO1 := Lib.hid hown1; have HG1 := Lib.hid (below_of_none hgrow1); clear hown1 hgrow1)
        | (at_builtin; refine wpList_append_fits_any _ rfl _ _ 29 rfl w.heap.size 5 i0 1 Tryz.underlying29 hi hz1 w.heap.size 0 (n + t) [] rfl HO1.out ao n cap (bs.map B8) rfl (by rw [List.length_map, Nat.mul_one]; exact HB.out.symm) (fun hh => by rw [HB.out]; exact h.bare hh) (h.below HG1.out).cells (B8_one _) (by omega) ?_; intro w2 hown2 hgrow2; have HO2 := Lib.hid hown2; have HG2 := Lib.hid hgrow2; clear hown2 hgrow2))
      have hw2 : w2.ownsRow w.heap.size 5 1 (.slice (some ⟨w.heap.size, 0, none⟩) n (n + t)) n (bs.map B8) ∧ Below w.heap.size w w2 :=
        ⟨by have h1 := HO2.out; rw [Nat.zero_add, List.nil_append] at h1; exact h1, HG1.out.grown HG2.out HG1.out.size (fun k hk => by cases hk; exact Nat.le_refl _)⟩
      obtain ⟨o2, b2⟩ := hw2
      have O2 := Lib.hid o2
      clear o2 HO1 HG1 HO2 HG2 hle hlt hk
      generalize Value.int IntKind.i64 ((n : Int) + (t : Int)) = y5
      go_loopw [8, 30] (fun v i wr => ∃ j : Nat, j ≤ k ∧ i = .int .i64 j ∧ v = .slice (some ⟨w.heap.size, 0, none⟩) (n + (ls.take j).flatten.length) (n + t) ∧ wr.ownsRow w.heap.size 5 1 (.slice (some ⟨w.heap.size, 0, none⟩) (n + (ls.take j).flatten.length) (n + t)) (n + (ls.take j).flatten.length) ((bs ++ (ls.take j).flatten).map B8) ∧ Below w.heap.size w wr) (fun _ i _ => k - (intOf i).toNat)
      case atStart => exact ⟨0, by omega, rfl, rfl, by simpa using O2.out, b2⟩
      case round =>
        clear O2 b2
        obtain ⟨j, hj, rfl, rfl, hown, hbel⟩ := hrel
        have HO := Lib.hid hown
        have hle := flat_take_le ls j
        rw [← HT.out] at hle
        clear hown
        by_cases hlt : j < k
        · obtain ⟨ao', cap', B', off', hcell, hsrc⟩ := HP.out j (by rw [← HM.out]; exact hlt)
          have hstep := flat_take ls j (by rw [← HM.out]; exact hlt)
          have hle2 := flat_take_le ls (j + 1)
          rw [← HT.out, hstep, List.length_append] at hle2
          obtain ⟨q, hq⟩ : ∃ q, q = (ls.take j).flatten.length := ⟨_, rfl⟩
          obtain ⟨r, hr⟩ : ∃ r, r = (ls.getD j []).length := ⟨_, rfl⟩
          have hnext : (ls.take (j + 1)).flatten.length = q + r := by rw [hstep, List.length_append, hq, hr]
          rw [← hq, ← hr] at hle2
          rw [← hq] at hle HO ⊢
          rw [← hr] at hcell
          have hcell' := (hbel.cell (p := ⟨g, j, none⟩) hg).trans hcell
          have HR := Lib.hid hr
          have HN := Lib.hid hnext
          have HS := Lib.hid hstep
          clear hcell hnext hq hr hstep
          go_wp2_with (at_builtin; refine wpList_append_fits_any _ rfl _ _ 29 rfl w.heap.size 5 i0 1 Tryz.underlying29 hi hz1 w.heap.size (n + q) (n + t) _ rfl HO.out ao' r cap' ((ls.getD j []).map B8) rfl (by rw [List.length_map, Nat.mul_one]; exact HR.out.symm) (fun hh => by rw [HR.out]; exact hsrc.bare hh) (hsrc.below hbel).cells (B8_one _) (by omega) ?_; intro w3 hown3 hgrow3; have HO3 := Lib.hid hown3; have HG3 := Lib.hid hgrow3; clear hown3 hgrow3)
          go_roundw
          case rel =>
            refine ⟨j + 1, by omega, by go_num, by rw [HN.out, Nat.add_assoc], ?_, hbel.grown HG3.out hbel.size (fun k hk => by cases hk; exact Nat.le_refl _)⟩
            have h1 := HO3.out
            rw [← List.map_append, List.append_assoc, Nat.add_assoc] at h1
            rw [HN.out, HS.out]
            exact h1
          case measure => simp [intOf]; omega
        · obtain rfl : j = k := by omega
          rw [List.take_of_length_le (by rw [← HM.out]; omega), ← HT.out] at HO ⊢
          go_wp2
          go_ret
          exact ⟨_, rfl, by rw [List.length_append, ← HT.out, ← HB.out]; exact HO.out, hbel⟩
end Go.Proofs.YtomgijcbekjlaaaGreat
namespace Go.Proofs.YtomgijcbekjlaaaGreat
open Go.RowKit
set_option maxRecDepth 100000 in
set_option maxHeartbeats 800000 in
theorem putNum_any (ao : Option Addr) (cap : Nat) (bs : List UInt8) (B off : Nat) (n : Int) (w : World) (h : SrcAt w ao cap bs B off) (hs : bs.length ≤ 281474976710000) :
    Calls Tryz.prog 169 #[.slice ao bs.length cap, .int .i64 n] w fun e w' => ∃ v, e = .returned v ∧ w'.ownsRow w.heap.size 5 1 v (bs ++ numL (clampN n)).length ((bs ++ numL (clampN n)).map B8) ∧ Below w.heap.size w w' := by
  have hl := numL_le (clampN n)
  obtain ⟨L, hL⟩ : ∃ L, L = numL (clampN n) := ⟨_, rfl⟩
  have hg : ∀ W : World, Calls Tryz.prog 182 #[.int .i64 n] W fun e w' => ∃ v, e = .returned v ∧ w'.ownsRow W.heap.size 5 1 v L.length (L.map B8) ∧ Below W.heap.size W w' := by
    rw [hL]; exact groups_any n
  rw [← hL] at hl ⊢
  have HG := Lib.hid hg
  clear hL hg
  go_enter Tryz.func169, Tryz.ntmps169
  go_wp2_with fail
  refine (HG.out _).mono ?_
  rintro e w1 ⟨v1, rfl, o1, b1⟩
  obtain ⟨ao2, cap2, B2, rfl, s2, _⟩ := src_of_own o1
  go_wp2_with fail
  have bx : Below w.heap.size w (w1.alloc (.cells #[.slice ao2 L.length cap2] 29)) := b1.alloc b1.size _
  have by1 : Below w1.heap.size w1 (w1.alloc (.cells #[.slice ao2 L.length cap2] 29)) := (Below.refl _ _).alloc (Nat.le_refl _) _
  refine (lay_bytes ao cap bs B off w1.heap.size 1 [L] _ (h.below bx) (by simp) (fun k hk => ?_) (by simp) (by simp; omega)).mono ?_
  · obtain rfl : k = 0 := by simpa using hk
    exact ⟨ao2, cap2, B2, 0, by rw [cell_of_row _ _ _ _ _ _ (heap_alloc_new w1 _)]; rfl, s2.below by1⟩
  · rintro e w3 ⟨v3, rfl, o3, b3⟩
    go_wp2_with fail
    go_ret
    have e1 : bs ++ [L].flatten = bs ++ L := by simp
    rw [e1] at o3
    exact ⟨_, rfl, own_base o3 bx.size, bx.trans (b3.mono bx.size)⟩
end Go.Proofs.YtomgijcbekjlaaaGreat
namespace Go.Proofs.YtomgijcbekjlaaaGreat
open Go.RowKit
/-- Below base nothing has turned, and above it nothing but rows of bytes. -/
structure OutTurned (base : Nat) (w w' : World) : Prop where
  below : Below base w w'
  other : ∀ (k : Nat) (o : Obj), w.heap[k]? = some o → (∀ cs fr, o ≠ Obj.cells cs 5 fr) → w'.heap[k]? = some o
theorem OutTurned.refl (base : Nat) (w : World) : OutTurned base w w := ⟨Below.refl _ _, fun _ _ h _ => h⟩
theorem OutTurned.trans {base : Nat} {a b c : World} (h : OutTurned base a b) (k : OutTurned base b c) : OutTurned base a c :=
  ⟨h.below.trans k.below, fun i o h1 h2 => k.other i o (h.other i o h1 h2) h2⟩
theorem OutTurned.of_below {base : Nat} {w w' : World} (hb : base ≤ w.heap.size) (h : Below w.heap.size w w') : OutTurned base w w' :=
  ⟨h.mono hb, fun _ _ h1 _ => below_heap h h1⟩
theorem OutTurned.of_grown {base n : Nat} {v : Value} {xs : List Value} {w w' : World} (hb : base ≤ w.heap.size) (h : w.ownsRow base 5 1 v n xs) (hg : w.grownBy w' v.ownBlock) : OutTurned base w w' := by
  rcases h.2 with ⟨rfl, _⟩ | ⟨g, cap, cur, rfl, h2, h3, _⟩
  · exact ⟨⟨hg.os, hg.tape, hg.output, hg.size, fun k hk => hg.block k (by omega) (fun e => by cases e)⟩, fun k o h1 _ => (hg.block k (Array.getElem?_eq_some_iff.1 h1).1 (fun e => by cases e)).trans h1⟩
  · refine ⟨⟨hg.os, hg.tape, hg.output, hg.size, fun k hk => hg.block k (by omega) (fun e => ?_)⟩, fun k o h1 h4 => (hg.block k (Array.getElem?_eq_some_iff.1 h1).1 (fun e => ?_)).trans h1⟩
    · have e2 : k = g := Option.some.inj e
      omega
    · have e2 : k = g := Option.some.inj e
      rw [e2, h3] at h1
      exact h4 _ _ (Option.some.inj h1).symm
/-- A slice of old is what it was. -/
theorem SrcAt.keep {w w' : World} {ao : Option Addr} {cap : Nat} {bs : List UInt8} {B off base : Nat} (h : SrcAt w ao cap bs B off) (hB : 0 < bs.length → B < base) (hb : Below base w w') : SrcAt w' ao cap bs B off :=
  ⟨h.le, h.top, h.src, h.bare, fun hp => Nat.lt_of_lt_of_le (h.old hp) hb.size, fun j hj => (hb.cell (hB (by omega))).trans (h.cell j hj)⟩
/-- What the three leave: a slice of the call's own with these bytes. -/
def PutTo (base : Nat) (w : World) (l : List UInt8) (e : Ending) (w' : World) : Prop :=
  ∃ v, e = .returned v ∧ w'.ownsRow base 5 1 v l.length (l.map B8) ∧ OutTurned base w w'
set_option maxRecDepth 100000 in
set_option maxHeartbeats 800000 in
theorem rowPutNumTo (base : Nat) (v : Value) (O : List UInt8) (z : Int) (w : World) (hb : base ≤ w.heap.size) (h : w.ownsRow base 5 1 v O.length (O.map B8)) (hs : O.length + 9 ≤ 225000000000000) :
    Calls Tryz.prog 145 #[v, .int .i64 z] w (PutTo base w (O ++ numL (clampN z))) := by
  have hl := numL_le (clampN z)
  obtain ⟨L, hL⟩ : ∃ L, L = numL (clampN z) := ⟨_, rfl⟩
  have hg : Calls Tryz.prog 169 #[.slice none 0 0, .int .i64 z] w fun e w' => ∃ v, e = .returned v ∧ w'.ownsRow w.heap.size 5 1 v L.length (L.map B8) ∧ Below w.heap.size w w' := by
    have h1 := putNum_any none 0 [] 0 0 z w (src_nil w) (by simp)
    rw [List.nil_append, ← hL] at h1
    exact h1
  rw [← hL] at hl ⊢
  obtain ⟨n, hn⟩ : ∃ n, n = O.length := ⟨_, rfl⟩
  rw [← hn] at h hs
  have HN := Lib.hid hn
  have HG := Lib.hid hg
  clear hL hg hn
  go_enter Tryz.func145, Tryz.ntmps145
  go_wp2_with fail
  refine HG.out.mono ?_
  rintro e w1 ⟨v1, rfl, o1, b1⟩
  obtain ⟨ao2, cap2, B2, rfl, s2, _⟩ := src_of_own o1
  have h1 := own_below h b1
  have hz := b1.size
  go_wp2_with (at_builtin; refine wpList_append_src rfl _ _ rfl base v n _ rfl h1 ao2 L.length cap2 rfl (L.map B8) (by simp) s2.bare s2.cells (B8_one _) (by omega) (by omega) ?_; intro v3 w3 hown3 hg3 hv3; clear hv3)
  go_ret
  refine ⟨_, rfl, ?_, (OutTurned.of_below hb b1).trans (OutTurned.of_grown (by omega) h1 hg3)⟩
  have h3 := hown3.out
  rw [← List.map_append, HN.out] at h3
  rw [List.length_append]
  exact h3
end Go.Proofs.YtomgijcbekjlaaaGreat
namespace Go.Proofs.YtomgijcbekjlaaaGreat
open Go.RowKit
/-- append of a string's bytes to a row of the call's own. -/
theorem wpList_to_string {ops : Array Oper} {rest : List Oper} {o : Oper} {a : Act} {w : World} {Q : Exit → Act → World → Prop}
    (hgd : o.guard = none) (s y : Operand) (hop : o.op = Op.call { callee := Callee.builtin Builtin.append, args := #[s, y], argTypes := #[29, 9] })
    (base : Nat) (v : Value) (O : List UInt8) (hS : a.eval s = v) (h : w.ownsRow base 5 1 v O.length (O.map B8)) (t : List UInt8) (hX : a.eval y = .string (SL t)) (hb : O.length + t.length ≤ 140737488355328) (hx : base ≤ w.heap.size)
    (hK : ∀ v' w', Hid (w'.ownsRow base 5 1 v' (O ++ t).length ((O ++ t).map B8)) → Hid (OutTurned base w w') → wpList Tryz.prog ops Q rest (a.put o.dst v') w') : wpList Tryz.prog ops Q (o :: rest) a w := by
  obtain ⟨i0, hi, hz0, hz1, hz2⟩ := info_parts info5
  have hz := SL_size t
  refine Lib.wpList_append_own_string w hgd s y 29 9 hop base 5 i0 Tryz.underlying29 Tryz.underlying9 hi hz0 hz1 hz2 v O.length _ hS h (SL t) hX (by rw [hz]; unfold maxLen; omega) (by rw [hz]; exact hb) hx ?_
  intro v' w' ho hg _
  refine hK v' w' (Lib.hid ?_) (Lib.hid (OutTurned.of_grown hx h hg))
  rw [strCells_B8, hz] at ho
  have e1 : (SL t).data.toList = t := rfl
  rw [e1, ← List.map_append, ← List.length_append] at ho
  exact ho
/-- append of a slice's bytes. -/
theorem wpList_to_bytes {ops : Array Oper} {rest : List Oper} {o : Oper} {a : Act} {w : World} {Q : Exit → Act → World → Prop}
    (hgd : o.guard = none) (s y : Operand) (hop : o.op = Op.call { callee := Callee.builtin Builtin.append, args := #[s, y], argTypes := #[29, 29] })
    (base : Nat) (v : Value) (O : List UInt8) (hS : a.eval s = v) (h : w.ownsRow base 5 1 v O.length (O.map B8)) (ao : Option Addr) (cap B off : Nat) (t : List UInt8) (hu : SrcAt w ao cap t B off) (hX : a.eval y = .slice ao t.length cap) (hb : O.length + t.length ≤ 225000000000000) (hx : base ≤ w.heap.size)
    (hK : ∀ v' w', Hid (w'.ownsRow base 5 1 v' (O ++ t).length ((O ++ t).map B8)) → Hid (OutTurned base w w') → wpList Tryz.prog ops Q rest (a.put o.dst v') w') : wpList Tryz.prog ops Q (o :: rest) a w := by
  refine wpList_append_src hgd s y hop base v O.length _ hS h ao t.length cap hX (t.map B8) (by simp) hu.bare hu.cells (B8_one _) hb hx ?_
  intro v' w' ho hg _
  refine hK v' w' (Lib.hid ?_) (Lib.hid (OutTurned.of_grown hx h hg))
  have := ho.out
  rw [← List.map_append, ← List.length_append] at this
  exact this
set_option maxRecDepth 100000 in
set_option maxHeartbeats 800000 in
theorem rowPutTextTo (base : Nat) (v : Value) (O t : List UInt8) (w : World) (hb : base ≤ w.heap.size) (h : w.ownsRow base 5 1 v O.length (O.map B8)) (hs : O.length + 9 + t.length ≤ 140737488355328) :
    Calls Tryz.prog 229 #[v, .string (SL t)] w (PutTo base w (O ++ (numL t.length ++ t))) := by
  have hsz := SL_size t
  have hl := numL_le t.length
  have hp := rowPutNumTo base v O (t.length : Int) w hb h (by omega)
  rw [clampN_nat _ (by omega)] at hp
  have e0 : O ++ (numL t.length ++ t) = (O ++ numL t.length) ++ t := by rw [List.append_assoc]
  rw [e0]
  have hq : (O ++ numL t.length).length + t.length ≤ 140737488355328 := by rw [List.length_append]; omega
  obtain ⟨n, hn⟩ : ∃ n, n = t.length := ⟨_, rfl⟩
  rw [← hn] at hsz hp hq ⊢
  obtain ⟨O2, hO2⟩ : ∃ O2, O2 = O ++ numL n := ⟨_, rfl⟩
  rw [← hO2] at hp hq ⊢
  have HP := Lib.hid hp
  have HN := Lib.hid hn
  clear hp hn hO2 hl hs h
  go_enter Tryz.func229, Tryz.ntmps229
  go_wp2_with (first
    | (go_at_call 145; refine HP.out.mono ?_; rintro e w1 ⟨v1, rfl, o1, t1⟩; have O1 := Lib.hid o1; have T1 := Lib.hid t1; clear o1 t1)
    | (at_builtin; refine wpList_to_string rfl _ _ rfl base _ O2 rfl O1.out t rfl (by rw [← HN.out]; exact hq) (by have := T1.out.below.size; omega) ?_; intro v2 w2 o2 t2))
  go_ret
  exact ⟨_, rfl, o2.out, T1.out.trans t2.out⟩
end Go.Proofs.YtomgijcbekjlaaaGreat
namespace Go.Proofs.YtomgijcbekjlaaaGreat
open Go.RowKit
/-- What number answers. -/
def numV (bs : List UInt8) : Value := match parse bs with
  | some p => .tuple #[.int .i64 (p.1 : Int), .int .i64 (p.2 : Int)]
  | none => .tuple #[.int .i64 0, .int .i64 0]
theorem numV_none {bs : List UInt8} (h : parse bs = none) : numV bs = .tuple #[.int .i64 0, .int .i64 0] := by unfold numV; rw [h]
theorem numV_some {bs : List UInt8} {n k : Nat} (h : parse bs = some (n, k)) : numV bs = .tuple #[.int .i64 (n : Int), .int .i64 (k : Int)] := by unfold numV; rw [h]
set_option maxRecDepth 100000 in
set_option maxHeartbeats 800000 in
theorem number_any (ao : Option Addr) (cap : Nat) (bs : List UInt8) (B off : Nat) (w : World) (h : SrcAt w ao cap bs B off) (hs : bs.length ≤ 281474976710656) :
    Calls Tryz.prog 164 #[.slice ao bs.length cap] w fun e w' => e = .returned (numV bs) ∧ w' = w := by
  obtain ⟨n, hbn⟩ : ∃ n, n = bs.length := ⟨_, rfl⟩
  rw [← hbn] at hs ⊢
  have HB := Lib.hid hbn
  clear hbn
  go_enter Tryz.func164, Tryz.ntmps164
  go_wp2
  go_step3
  go_wp2
  go_step3
  go_wp2
  go_loop [2, 8] (fun v i => ∃ k x : Nat, k ≤ n ∧ k ≤ 8 ∧ i = .int .i64 k ∧ v = .int .i64 x ∧ Behind bs k x) (fun _ i => n - (intOf i).toNat)
  case atStart => exact ⟨0, 0, by omega, by omega, rfl, rfl, behind_zero bs⟩
  case round =>
    obtain ⟨k, x, hk, hk8, rfl, rfl, hbe⟩ := hrel
    have HBE := Lib.hid hbe
    clear hbe
    by_cases hlt : k < n
    · have hltb : k < bs.length := by rw [← HB.out]; exact hlt
      have hcell := h.cell k hltb
      have hao := h.src (by omega)
      obtain ⟨c, hc⟩ : ∃ c : Nat, c = (bs.getD k 0).toNat := ⟨_, rfl⟩
      have hc256 : c < 256 := by rw [hc]; exact (bs.getD k 0).toNat_lt
      rw [← hc] at hcell
      have HC := Lib.hid hc
      subst hao
      have hbl : k < bs.length := hltb
      obtain ⟨y, hy⟩ : ∃ y : Nat, y = c % 128 * 128 ^ k := ⟨_, rfl⟩
      obtain ⟨s1, s2⟩ := shl_val k (c % 128) hk8 (by omega)
      rw [← hy] at s1 s2
      have hxb : (x : Int) ≤ 72057594037927935 := by
        have h1 := HBE.out.lt
        have h2 : 128 ^ k ≤ 128 ^ 8 := Nat.pow_le_pow_right (by omega) hk8
        omega
      have hw1 : wrap64 ((c : Int) % 128 * 2 ^ (7 * k)) = (y : Int) := by
        rw [show (c : Int) % 128 = ((c % 128 : Nat) : Int) from by omega, s2]
        exact IntWalk.wrap64_in _ ⟨by omega, by omega⟩
      have hy0 : 0 ≤ (y : Int) := by omega
      have hy1 : (y : Int) ≤ 9151314442816847872 := s1
      have HY := Lib.hid hy
      have hks : (0 : Int) ≤ 7 * (k : Int) ∧ 7 * (k : Int) ≤ 64 := by omega
      clear hc hltb s1 s2 hy
      have hkb : k < bs.length := by rw [← HB.out]; exact hlt
      have HKB := Lib.hid hkb
      clear hkb
      by_cases hbad : k = 8 ∧ 63 < c
      · obtain ⟨h8, h63⟩ := hbad
        have b8 : ((k : Int) == 8) = true := by simp; omega
        have hv : numV bs = .tuple #[.int .i64 0, .int .i64 0] := by
          unfold numV
          rw [behind_bad HBE.out HKB.out h8 (by rw [← HC.out]; exact h63)]
        have HV := Lib.hid hv
        have h63' : (63 : Int) < (c : Int) := by omega
        clear hv h8
        go_wp2_with fail
        go_ret2
        exact ⟨by rw [HV.out]; rfl, rfl⟩
      · have hg : (decide ((63 : Int) < (c : Int)) && ((k : Int) == 8)) = false := by
          by_cases h8 : k = 8
          · have : ¬ 63 < c := fun h => hbad ⟨h8, h⟩
            simp; intro h; omega
          · have : ((k : Int) == 8) = false := by simp; omega
            rw [this, Bool.and_false]
        by_cases hmore : 128 ≤ c
        · have h8 : k < 8 := by omega
          have b8 : ((k : Int) == 8) = false := by simp; omega
          have hnext := behind_more HBE.out HKB.out h8 (by rw [← HC.out]; exact hmore)
          rw [← HC.out, ← HY.out] at hnext
          have HN := Lib.hid hnext
          clear hbad hg hnext
          go_wp2_with fail
          go_round
          case rel => exact ⟨k + 1, x + y, by omega, by omega, by go_num, by go_num, HN.out⟩
          case measure => simp [intOf]; omega
        · have h63 : k = 8 → c ≤ 63 := fun h => by
            have : ¬ 63 < c := fun h1 => hbad ⟨h, h1⟩
            omega
          by_cases hno : c = 0 ∧ 0 < k
          · obtain ⟨hc0, hk0⟩ := hno
            have hv : numV bs = .tuple #[.int .i64 0, .int .i64 0] := by
              unfold numV
              rw [behind_nought HBE.out HKB.out hk8 hk0 (by rw [← HC.out]; exact hc0)]
            have HV := Lib.hid hv
            have b0 : ((c : Int) == 0) = true := by simp; omega
            have hle : ¬ (63 : Int) < (c : Int) := by omega
            clear hv hbad hg h63 hc0
            by_cases h8 : k = 8
            · have b8 : ((k : Int) == 8) = true := by simp; omega
              clear h8
              go_wp2_with fail
              go_ret2
              exact ⟨by rw [HV.out]; rfl, rfl⟩
            · have b8 : ((k : Int) == 8) = false := by simp; omega
              go_wp2_with fail
              go_ret2
              exact ⟨by rw [HV.out]; rfl, rfl⟩
          · have hv : numV bs = .tuple #[.int .i64 ((x + y : Nat) : Int), .int .i64 ((k + 1 : Nat) : Int)] := by
              unfold numV
              rw [behind_done HBE.out HKB.out hk8 (fun h => by rw [← HC.out]; exact h63 h) (by rw [← HC.out]; omega) (fun h => by rw [← HC.out]; intro h1; exact hno ⟨h1, h⟩), ← HC.out, ← HY.out]
            have HV := Lib.hid hv
            have fin : Value.tuple #[.int .i64 ((x : Int) + (y : Int)), .int .i64 ((k : Int) + 1)] = numV bs := by
              rw [hv]
              congr 1
            have HF := Lib.hid fin
            clear hv fin
            by_cases h8 : k = 8
            · have b8 : ((k : Int) == 8) = true := by simp; omega
              have hle : ¬ (63 : Int) < (c : Int) := by have := h63 h8; omega
              have hc0 : c ≠ 0 := fun h => hno ⟨h, by omega⟩
              have b0 : ((c : Int) == 0) = false := by simp; omega
              clear h8 hno h63 hbad hg
              go_wp2_with fail
              go_ret2
              exact ⟨by rw [← HF.out]; rfl, rfl⟩
            · have b8 : ((k : Int) == 8) = false := by simp; omega
              by_cases hc0 : c = 0
              · have hk0 : ¬ 0 < k := fun h => hno ⟨hc0, h⟩
                have b0 : ((c : Int) == 0) = true := by simp; omega
                have hlk : ¬ (0 : Int) < (k : Int) := by omega
                clear hno h63 hbad hg hc0
                go_wp2_with fail
                go_ret2
                exact ⟨by rw [← HF.out]; rfl, rfl⟩
              · have b0 : ((c : Int) == 0) = false := by simp; omega
                clear hno h63 hbad hg hc0
                go_wp2_with fail
                go_ret2
                exact ⟨by rw [← HF.out]; rfl, rfl⟩
    · have hv : numV bs = .tuple #[.int .i64 0, .int .i64 0] := by
        unfold numV
        rw [behind_end HBE.out (by rw [← HB.out]; omega)]
      have HV := Lib.hid hv
      clear hv
      go_wp2_with fail
      go_ret2
      exact ⟨by rw [HV.out]; rfl, rfl⟩
end Go.Proofs.YtomgijcbekjlaaaGreat
namespace Go.Proofs.YtomgijcbekjlaaaGreat
open Go.RowKit
set_option maxRecDepth 100000 in
set_option maxHeartbeats 800000 in
theorem takeNum_no (ao : Option Addr) (cap : Nat) (bs : List UInt8) (B off : Nat) (w : World) (h : SrcAt w ao cap bs B off) (hs : bs.length ≤ 281474976710656) (hp : parse bs = none) :
    Calls Tryz.prog 129 #[.slice ao bs.length cap] w fun e w' => e = .returned (.tuple #[.int .i64 0, .slice none 0 0, .int .i64 2]) ∧ w' = w := by
  have hnum := number_any ao cap bs B off w h hs
  rw [numV_none hp] at hnum
  have HN := Lib.hid hnum
  clear hnum hp
  go_enter Tryz.func129, Tryz.ntmps129
  go_wp2_with fail
  refine HN.out.mono ?_
  rintro e w1 ⟨rfl, rfl⟩
  go_wp2_with fail
  go_ret3
  exact ⟨rfl, rfl⟩
set_option maxRecDepth 100000 in
set_option maxHeartbeats 800000 in
theorem takeNum_yes (ao : Option Addr) (cap : Nat) (bs : List UInt8) (B off : Nat) (w : World) (h : SrcAt w ao cap bs B off) (hs : bs.length ≤ 140737488355328) (n : Nat) (rest : List UInt8) (hn : n ≤ 4611686018427387903) (he : bs = numL n ++ rest) :
    Calls Tryz.prog 129 #[.slice ao bs.length cap] w fun e w' => ∃ ao' cap' B', e = .returned (.tuple #[.int .i64 (n : Int), .slice ao' rest.length cap', .int .i64 0]) ∧ SrcAt w' ao' cap' rest B' 0 ∧ Below w.heap.size w w' := by
  have hp := parse_numL n rest hn
  rw [← he] at hp
  obtain ⟨k, hk⟩ : ∃ k, k = (numL n).length := ⟨_, rfl⟩
  rw [← hk] at hp
  have hnum := number_any ao cap bs B off w h (by omega)
  rw [numV_some hp] at hnum
  have hkp : 0 < k := by rw [hk]; exact numL_pos n
  have hkl : k ≤ bs.length := by rw [he, List.length_append, ← hk]; omega
  have hr : rest = bs.drop k := by rw [he, hk, List.drop_left]
  obtain ⟨ao2, hsl, hs2⟩ := h.slice_l k hkl
  rw [← hr] at hs2
  have hrl : rest.length = bs.length - k := by rw [hr, List.length_drop]
  have hcl := clone_any ao2 (cap - k) rest B (off + k) w hs2 (by omega)
  rw [hrl] at hcl
  have HN := Lib.hid hnum
  have HC := Lib.hid hcl
  have HR := Lib.hid hrl
  have hki : ((k : Int) == 0) = false := by simp; omega
  clear hnum hp hk he hr hcl hrl hn
  go_enter Tryz.func129, Tryz.ntmps129
  go_wp2_with fail
  refine HN.out.mono ?_
  rintro e w1 ⟨rfl, rfl⟩
  go_wp2_with fail
  refine HC.out.mono ?_
  rintro e w2 ⟨v, rfl, o2, b2⟩
  rw [← HR.out] at o2 ⊢
  obtain ⟨ao3, cap3, B3, rfl, s3, _⟩ := src_of_own o2
  go_wp2_with fail
  go_ret3
  exact ⟨ao3, cap3, B3, rfl, s3, b2⟩
end Go.Proofs.YtomgijcbekjlaaaGreat
namespace Go.Proofs.YtomgijcbekjlaaaGreat
open Go.RowKit
theorem clampN_run {n : Nat} (h0 : 0 < n) (h : n ≤ 281474976710656) : clampN (2 * ((n : Int) - 1)) = 2 * (n - 1) := by
  have e : 2 * ((n : Int) - 1) = ((2 * (n - 1) : Nat) : Int) := by omega
  rw [e, clampN_nat _ (by omega)]
set_option maxRecDepth 100000 in
set_option maxHeartbeats 800000 in
theorem putRunTo (base : Nat) (v : Value) (O : List UInt8) (ao : Option Addr) (cap : Nat) (r : List UInt8) (B off : Nat) (w : World) (hb : base ≤ w.heap.size) (h : w.ownsRow base 5 1 v O.length (O.map B8)) (hr : SrcAt w ao cap r B off) (hB : 0 < r.length → B < base) (hs : O.length + 9 + r.length ≤ 225000000000000) :
    Calls Tryz.prog 147 #[v, .slice ao r.length cap] w (PutTo base w (O ++ runT r)) := by
  by_cases h0 : r.length = 0
  · have e : runT r = [] := by rw [runT, if_pos h0]
    rw [e, List.append_nil, h0]
    go_enter Tryz.func147, Tryz.ntmps147
    go_wp2
    go_ret
    exact ⟨_, rfl, h, OutTurned.refl _ _⟩
  · have hput := rowPutNumTo base v O (2 * ((r.length : Int) - 1)) w hb h (by omega)
    rw [clampN_run (by omega) (by omega)] at hput
    have hl := numL_le (2 * (r.length - 1))
    rw [runT_pos (by omega)]
    obtain ⟨L, hL⟩ : ∃ L, L = numL (2 * (r.length - 1)) := ⟨_, rfl⟩
    rw [← hL] at hput hl ⊢
    obtain ⟨n, hn⟩ : ∃ n, n = r.length := ⟨_, rfl⟩
    rw [← hn] at hput hs h0 ⊢
    have HP := Lib.hid hput
    have HN := Lib.hid hn
    have hq : ((n : Int) == 0) = false := by simp; omega
    clear hput hL hn h
    go_enter Tryz.func147, Tryz.ntmps147
    go_wp2_with fail
    refine HP.out.mono ?_
    rintro e w1 ⟨v1, rfl, o1, t1⟩
    have hz := t1.below.size
    have r1 := hr.keep hB t1.below
    obtain ⟨m, hm⟩ : ∃ m, m = (O ++ L).length := ⟨_, rfl⟩
    have hml : m ≤ O.length + 9 := by rw [hm, List.length_append]; omega
    rw [← hm] at o1
    have HM := Lib.hid hm
    clear hm
    go_wp2_with (at_builtin; refine wpList_append_src rfl _ _ rfl base v1 m _ rfl o1 ao n cap rfl (r.map B8) (by rw [List.length_map]; exact HN.out.symm) (fun hh => by rw [HN.out]; exact r1.bare hh) r1.cells (B8_one _) (by omega) (by omega) ?_; intro v3 w3 hown3 hg3 hv3; clear hv3)
    go_ret
    refine ⟨_, rfl, ?_, t1.trans (OutTurned.of_grown (by omega) o1 hg3)⟩
    have h3 := hown3.out
    rw [← List.map_append, HM.out, HN.out, ← List.length_append, List.append_assoc] at h3
    exact h3
set_option maxRecDepth 100000 in
set_option maxHeartbeats 800000 in
theorem putCopyTo (base : Nat) (v : Value) (O : List UInt8) (n d : Nat) (w : World) (hb : base ≤ w.heap.size) (h : w.ownsRow base 5 1 v O.length (O.map B8)) (h4 : 4 ≤ n) (hn : n ≤ 259) (hd : d ≤ 4096) (hs : O.length + 18 ≤ 225000000000000) :
    Calls Tryz.prog 148 #[v, .int .i64 (n : Int), .int .i64 (d : Int)] w (PutTo base w (O ++ (numL (2 * (n - 4) + 1) ++ numL d))) := by
  have hl := numL_le (2 * (n - 4) + 1)
  have p1 := rowPutNumTo base v O (2 * ((n : Int) - 4) + 1) w hb h (by omega)
  have e1 : 2 * ((n : Int) - 4) + 1 = ((2 * (n - 4) + 1 : Nat) : Int) := by omega
  have e2 : clampN (2 * ((n : Int) - 4) + 1) = 2 * (n - 4) + 1 := by rw [e1, clampN_nat _ (by omega)]
  rw [e2] at p1
  have hd0 : clampN (d : Int) = d := clampN_nat d (by omega)
  obtain ⟨L, hL⟩ : ∃ L, L = numL (2 * (n - 4) + 1) := ⟨_, rfl⟩
  rw [← hL] at p1 hl ⊢
  have P1 := Lib.hid p1
  have HD := Lib.hid hd0
  have hlo : (4 : Int) ≤ (n : Int) := by omega
  have hhi : (n : Int) ≤ 259 := by omega
  clear p1 e1 e2 hL hd0
  go_enter Tryz.func148, Tryz.ntmps148
  go_wp2_with fail
  refine P1.out.mono ?_
  rintro e w1 ⟨v1, rfl, o1, t1⟩
  have hz := t1.below.size
  go_wp2_with fail
  refine (rowPutNumTo base v1 (O ++ L) (d : Int) w1 (by omega) o1 (by rw [List.length_append]; omega)).mono ?_
  rintro e w2 ⟨v2, rfl, o2, t2⟩
  rw [HD.out] at o2
  clear o1
  go_wp2_with fail
  go_ret
  rw [List.append_assoc] at o2
  exact ⟨_, rfl, o2, t1.trans t2⟩
end Go.Proofs.YtomgijcbekjlaaaGreat
