/- The walk of SumKeeps. -/
import Derived.Test.YtijgmhdhaekocaaApp
namespace Go.Proofs.Ytijgmhdhaekocaa
open Go.RowKit
/-- What a slice of the call's own that is not nil looks like. -/
theorem own_shape {w : World} {base : Nat} {v : Value} {bs : List UInt8} (h : w.ownsRow base 5 1 v bs.length (bs.map B8)) (hn : v ≠ .slice none 0 0) :
    ∃ g cap cur, v = .slice (some ⟨g, 0, none⟩) bs.length cap ∧ base ≤ g ∧ w.heap[g]? = some (.cells cur 5 (0, 0)) ∧ bs.length ≤ cap ∧ cap ≤ maxLen ∧ cur.size = cap ∧ cur.toList.take bs.length = bs.map B8 := by
  rcases h.2 with ⟨h0, _⟩ | ⟨g, cap, cur, h1, h2, h3, h4, h5, h6, h7⟩
  · exact absurd h0 hn
  · rw [Nat.mul_one] at h6 h7
    exact ⟨g, cap, cur, h1, h2, h3, h4, h5, h6, h7⟩
/-- A block of the call's own, as a source. -/
theorem src_own {w : World} {g cap : Nat} {cur : Array Value} {bs : List UInt8} (hg : w.heap[g]? = some (.cells cur 5 (0, 0))) (hcap : bs.length ≤ cap) (hmax : cap ≤ maxLen) (ht : cur.toList.take bs.length = bs.map B8) :
    SrcAt w (some ⟨g, 0, none⟩) cap bs g 0 :=
  ⟨hcap, hmax, fun _ => rfl, fun h => by (cases h), fun _ => (Array.getElem?_eq_some_iff.1 hg).1, fun j hj => by
    rw [Nat.zero_add, cell_of_row _ _ _ _ _ _ hg]
    have e : (cur.toList.take bs.length)[j]? = (bs.map B8)[j]? := by rw [ht]
    rw [List.getElem?_take, if_pos hj, Array.getElem?_toList] at e
    rw [e]
    simp [B8, hj]⟩
set_option maxHeartbeats 800000 in
theorem keeps_any (ao : Option Addr) (cap : Nat) (bs : List UInt8) (B off : Nat) (w : World) (h : SrcAt w ao cap bs B off) (hs : bs.length ≤ 140737488351232) :
    Calls Try.prog 6 #[.slice ao bs.length cap] w fun e w' => e = .returned (.bool true) ∧ Below w.heap.size w w' := by
  obtain ⟨n, hn⟩ : ∃ n, n = bs.length := ⟨_, rfl⟩
  rw [← hn] at hs ⊢
  go_enter Try.func6, Try.ntmps6
  go_wp2_with fail
  refine (awake_any _).mono ?_
  rintro e w1 ⟨rfl, hb1⟩
  have hs1 := h.below hb1
  have hbsl : bs.length ≤ 140737488351232 := by omega
  have HN := Lib.hid hn
  clear hn
  go_wp2_with (at_builtin; refine wpList_append_src rfl _ _ rfl w1.heap.size _ 0 [] rfl (owns_of_row (heap_alloc_new _ _) (Nat.le_refl _) (Nat.le_refl _) (Nat.zero_le _) rfl rfl rfl) ao n cap rfl (bs.map B8) (by rw [List.length_map]; exact HN.out.symm) (fun hh => by rw [HN.out]; exact hs1.bare hh) (fun ad had j u hu => (hs1.below ((Below.refl _ _).alloc (Nat.le_refl _) _)).cells ad had j u hu) (B8_one _) (by omega) (by simp) ?_; intro v2 w2 hown2 hg2 hv2)
  have ho : w2.ownsRow w1.heap.size 5 1 v2 bs.length (bs.map B8) := by
    have := hown2.out
    rw [Nat.zero_add, List.nil_append, HN.out] at this
    exact this
  have hne2 : v2 ≠ .slice none 0 0 := fun e => by
    have := (hv2.out.1 e).1
    cases this
  obtain ⟨g, cap2, cur, rfl, hge, hg, hcap2, hmax2, hcs, htake⟩ := own_shape ho hne2
  have hgl : g < w2.heap.size := (Array.getElem?_eq_some_iff.1 hg).1
  have hb2 : Below w.heap.size w w2 := (hb1.alloc hb1.size _).grown hg2 (by have := hb1.size; simp; omega) (fun k hk => by cases hk; exact hb1.size)
  rw [← HN.out]
  have HG := Lib.hid hg
  clear ho hne2 hown2 hv2 hg hg2
  go_wp2_with fail
  refine (new_any _).mono ?_
  rintro e w3 ⟨rfl, hr3, hb3⟩
  have hs3 := src_own (below_heap hb3 HG.out) hcap2 hmax2 htake
  go_wp2_with fail
  rw [HN.out]
  refine (add_src _ hr3 hs3 (fun _ => by omega) (by rw [List.length_nil]; omega)).mono ?_
  rintro e w4 ⟨rfl, hr4, hg4⟩
  have hgw4 := grown_heap hg4 (below_heap hb3 HG.out) (by omega)
  have hb4 : Below w.heap.size w w4 := (hb2.trans (hb3.mono hb2.size)).grown hg4 (by have := hb2.size; have := hb3.size; omega) (fun k hk => by cases hk; exact hb2.size)
  have hs4 := src_own hgw4 hcap2 hmax2 htake
  have cv1 := convert_src hs4
  have cv2 := convert_src (h.below hb4)
  rw [← HN.out] at cv1 cv2 ⊢
  have HG4 := Lib.hid hgw4
  have hr4' : RunAt w4 w2.heap.size bs := hr4
  have HR4 := Lib.hid hr4'
  clear hgw4 hr4 hr4' hs3 hs4
  go_wp2_with fail
  have hrl : w2.heap.size < w4.heap.size := HR4.out.lt
  have hcur : ∀ j, j < n → ∃ x : UInt8, cur[j]? = some (B8 x) := fun j hj => by
    have hj' : j < bs.length := by rw [← HN.out]; exact hj
    have e : (cur.toList.take bs.length)[j]? = (bs.map B8)[j]? := by rw [htake]
    rw [List.getElem?_take, if_pos hj', Array.getElem?_toList] at e
    exact ⟨bs[j], by rw [e]; simp [hj']⟩
  have hcs' : n ≤ cur.size := by rw [hcs, HN.out]; exact hcap2
  have HCS := Lib.hid hcs
  have HTK := Lib.hid htake
  clear hcs htake
  obtain ⟨rb, hrb⟩ : ∃ rb, rb = w2.heap.size := ⟨_, rfl⟩
  rw [← hrb] at hgl HR4 hrl ⊢
  clear cv1 cv2 hg4 hr3 hrb
  go_loopw [7] (fun i wr => ∃ (k : Nat) (cu : Array Value), k ≤ n ∧ i = .int .i64 k ∧ n ≤ cu.size ∧ (∀ j, j < n → ∃ x : UInt8, cu[j]? = some (B8 x)) ∧ wr.heap[g]? = some (.cells cu 5 (0, 0)) ∧ RunAt wr rb bs ∧ Below w.heap.size w wr) (fun i _ => n - (intOf i).toNat)
  case atStart => exact ⟨0, cur, by omega, rfl, hcs', hcur, HG4.out, HR4.out, hb4⟩
  case round =>
    clear HG4 HR4 hb4 hcur hcs'
    obtain ⟨k, cu, hk, rfl, hcu, hall, hg, hr, hbel⟩ := hrel
    by_cases hlt : k < n
    · obtain ⟨x, hx⟩ := hall k hlt
      have c0 : wr.cell? ⟨g, k, none⟩ = some (.int .u8 (x.toNat : Int)) := (cell_of_row _ _ _ _ _ _ hg).trans hx
      have f0 : wr.frozen? ⟨g, k, none⟩ = false := frozen_of_row _ _ _ _ _ hg
      have HG := Lib.hid hg
      have HR := Lib.hid hr
      have HA := Lib.hid hall
      clear hg hr hall hx
      go_wp2
      go_roundw
      case rel =>
        have e : (.int .u8 (((x.toNat : Int) + 1) % 256) : Value) = B8 (UInt8.ofNat (x.toNat + 1)) := by
          unfold B8
          congr 1
        rw [e]
        refine ⟨k + 1, cu.setIfInBounds k (B8 (UInt8.ofNat (x.toNat + 1))), by omega, by go_num, by rw [Array.size_setIfInBounds]; exact hcu, fun j hj => ?_, heap_setCell_same _ _ _ _ _ _ HG.out, HR.out.grown (grown_setCell _ _ _ _) (by omega), hbel.setCell (by have := hb1.size; simp; omega) _⟩
        by_cases hjk : k = j
        · subst hjk
          exact ⟨_, by rw [Array.getElem?_setIfInBounds_self_of_lt (by omega)]⟩
        · rw [Array.getElem?_setIfInBounds_ne hjk]
          exact HA.out j hj
      case measure => simp [intOf]; omega
    · have HR := Lib.hid hr
      clear hr hall hg
      go_wp2_with fail
      refine (end_any rb bs _ HR.out (by omega)).mono ?_
      rintro e w5 ⟨rfl, hb5⟩
      have hbb := hbel.trans (hb5.mono hbel.size)
      go_wp2_with fail
      rw [HN.out]
      refine (sum_src _ (h.below hbb) (by omega)).mono ?_
      rintro e w6 ⟨rfl, hb6⟩
      have hbc := hbb.trans (hb6.mono hbb.size)
      go_wp2_with fail
      refine (end_any rb bs _ ((HR.out.below hb5).below hb6) (by omega)).mono ?_
      rintro e w7 ⟨rfl, hb7⟩
      have hbd := hbc.trans (hb7.mono hbc.size)
      go_wp2_with fail
      refine (end_any rb bs _ (((HR.out.below hb5).below hb6).below hb7) (by omega)).mono ?_
      rintro e w8 ⟨rfl, hb8⟩
      go_wp2_with fail
      go_ret
      exact ⟨rfl, hbd.trans (hb8.mono hbd.size)⟩
end Go.Proofs.Ytijgmhdhaekocaa
