/- The walk of SumRuns. -/
import Derived.Test.YtijgmhdhaekocaaTail
import Derived.Deep.RegionWith
namespace Go.Proofs.Ytijgmhdhaekocaa
open Go.RowKit
/-- A slice of ints that is read. -/
structure IntsAt (W : World) (co : Option Addr) (cap len : Nat) (C off : Nat) : Prop where
  le : len ≤ cap
  src : 0 < len → co = some ⟨C, off, none⟩
  old : 0 < len → C < W.heap.size
  cell : ∀ j, j < len → ∃ c : Int, W.cell? ⟨C, off + j, none⟩ = some (.int .i64 c)
theorem and255 (c : Int) : ∃ v : Nat, v ≤ 255 ∧ bits .and .i64 c 255 = (v : Int) := by
  have hw : bits .and .i64 c 255 = IntKind.i64.wrap (((BitVec.ofInt 64 c) &&& (BitVec.ofInt 64 255)).toNat : Int) := rfl
  have hle : ((BitVec.ofInt 64 c) &&& (BitVec.ofInt 64 255)).toNat ≤ 255 := by
    rw [BitVec.toNat_and]
    exact Nat.le_trans Nat.and_le_right (by decide)
  exact ⟨_, hle, by rw [hw]; exact IntWalk.i64_in _ (by omega)⟩
/-- A piece of a slice. -/
theorem SrcAt.piece {W : World} {ao : Option Addr} {cap : Nat} {bs : List UInt8} {B off : Nat} (h : SrcAt W ao cap bs B off) (l n : Nat) (hl : l + n ≤ bs.length) :
    SrcAt W (if cap = l then ao else ao.map (·.add (l * 1))) (cap - l) ((bs.drop l).take n) B (off + l) := by
  have hle := h.le
  have hlen : ((bs.drop l).take n).length = n := by rw [List.length_take, List.length_drop]; omega
  have htop := h.top
  refine ⟨by omega, by omega, fun hp => ?_, fun hn => ?_, fun hp => h.old (by omega), fun j hj => ?_⟩
  · rw [if_neg (by omega), h.src (by omega), Option.map_some, Addr.add_lit, Nat.mul_one]
  · by_cases hc : cap = l
    · rw [if_pos hc] at hn
      have := h.bare hn
      omega
    · rw [if_neg hc] at hn
      have := h.bare (by cases ao with
        | none => rfl
        | some a => cases hn)
      omega
  · rw [Nat.add_assoc, h.cell (l + j) (by omega)]
    rw [hlen] at hj
    have e : ((bs.drop l).take n).getD j 0 = bs.getD (l + j) 0 := by
      simp [List.getD, hj]
    rw [e]
theorem sizeOf22 (w : World) : (sizeOf (Try.prog.elem 22)).run Try.prog w = .ok 1 w := by kernel_rfl
theorem slice_lh (ao : Option Addr) (m cap l n : Nat) (h : l + n ≤ cap) (W : World) : (Instr.slice 22 (.slice ao m cap) (some (.int .i64 (l : Int))) (some (.int .i64 ((l : Int) + (n : Int)))) none).run Try.prog W = .ok (.slice (if cap = l then ao else ao.map (·.add (l * 1))) n (cap - l)) W := by
  rw [run_slice_lh W 22 ao m cap (by kernel_rfl) .i64 .i64 (l : Int) ((l : Int) + (n : Int)) (by omega) (by omega) (by omega), sizeOf22]
  have e1 : ((l : Int) + (n : Int)).toNat = l + n := by omega
  simp only [Result.andThen_ok, sliced, Int.toNat_natCast, e1, Nat.add_sub_cancel_left]
theorem slice_l (ao : Option Addr) (m cap l : Nat) (h : l ≤ m) (W : World) : (Instr.slice 22 (.slice ao m cap) (some (.int .i64 (l : Int))) none none).run Try.prog W = .ok (.slice (if cap = l then ao else ao.map (·.add (l * 1))) (m - l) (cap - l)) W := by
  rw [run_slice_l W 22 ao m cap (by kernel_rfl) .i64 (l : Int) (by omega) (by omega), sizeOf22]
  simp only [Result.andThen_ok, sliced, Int.toNat_natCast]
theorem slice_h (ao : Option Addr) (m cap n : Nat) (h : n ≤ cap) (W : World) : (Instr.slice 22 (.slice ao m cap) none (some (.int .i64 (n : Int))) none).run Try.prog W = .ok (.slice (if cap = 0 then ao else ao.map (·.add (0 * 1))) n cap) W := by
  rw [run_slice_h W 22 ao m cap (by kernel_rfl) .i64 (n : Int) (by omega) (by omega), sizeOf22]
  simp only [Result.andThen_ok, sliced, Int.toNat_natCast, Nat.sub_zero]
/-- Add, the length said by itself. -/
theorem add_len {ao : Option Addr} {cap g : Nat} {l bs : List UInt8} {B off : Nat} (n : Nat) (hn : bs.length = n) (w : World) (hr : RunAt w g l) (h : SrcAt w ao cap bs B off) (hne : 0 < bs.length → B ≠ g) (hlen : l.length + bs.length ≤ 562949953421312) :
    Calls Try.prog 13 #[.pointer (some ⟨g, 0, none⟩), .slice ao n cap] w fun e w' => e = .returned (.tuple #[]) ∧ RunAt w' g (l ++ bs) ∧ w.grownBy w' (some g) := by
  subst hn
  exact add_src w hr h hne hlen
theorem sum_len {ao : Option Addr} {cap : Nat} {bs : List UInt8} {B off : Nat} (n : Nat) (hn : bs.length = n) (w : World) (h : SrcAt w ao cap bs B off) (hlen : bs.length ≤ 281474976710656) :
    Calls Try.prog 10 #[.slice ao n cap] w fun e w' => e = .returned (.string (SL (sumL bs))) ∧ Below w.heap.size w w' := by
  subst hn
  exact sum_src w h hlen
theorem below_of_drew {w w' : World} (h : Below w.drew.heap.size w.drew w') : Below w.heap.size w w' := ⟨h.os, h.tape, h.output, h.size, h.block⟩
set_option maxHeartbeats 800000 in
theorem runs_law (ao co : Option Addr) (capa capc cl : Nat) (bs : List UInt8) (B off C offc : Nat) (w : World) (ha : SrcAt w ao capa bs B off) (hc : IntsAt w co capc cl C offc) (hs : bs.length ≤ 140737488355328) (hcl : cl ≤ 140737488355328) :
    Calls Try.prog 4 #[.slice ao bs.length capa, .slice co cl capc] w fun e w' => e = .returned (.bool true) ∧ Below w.heap.size w w' := by
  obtain ⟨n, hn⟩ : ∃ n, n = bs.length := ⟨_, rfl⟩
  rw [← hn] at hs ⊢
  have HN := Lib.hid hn
  have hbl : bs.length ≤ 140737488355328 := by omega
  clear hn
  go_enter Try.func4, Try.ntmps4
  go_wp2_with fail
  refine (awake_any _).mono ?_
  rintro e w1 ⟨rfl, b1⟩
  go_wp2_with fail
  refine (new_any _).mono ?_
  rintro e w2 ⟨rfl, r2, b2⟩
  obtain ⟨g, hg⟩ : ∃ g, g = w1.heap.size := ⟨_, rfl⟩
  rw [← hg] at r2 ⊢
  have hge : w.heap.size ≤ g := by rw [hg]; exact b1.size
  have c2 : Below w.heap.size w w2 := b1.trans (b2.mono b1.size)
  clear hg b2
  go_wp2_with fail
  have R2 := Lib.hid r2
  clear r2
  go_loopw [7, 8, 9] (fun a i _ wr => ∃ k at_ : Nat, k ≤ 50 ∧ i = .int .i64 k ∧ a = .int .i64 at_ ∧ at_ ≤ bs.length ∧ RunAt wr g (bs.take at_) ∧ Below w.heap.size w wr) (fun _ i _ _ => 50 - (intOf i).toNat)
  case atStart => exact ⟨0, 0, by omega, rfl, rfl, by omega, R2.out, c2⟩
  case round =>
    clear R2 c2
    obtain ⟨k, p, hk, rfl, rfl, hp, hr, hb⟩ := hrel
    have HR := Lib.hid hr
    clear hr
    have hpn : p ≤ n := by have := HN.out; omega
    by_cases hlt : k < cl ∧ k < 50
    · obtain ⟨h1, h2⟩ := hlt
      have d1 : decide ((k : Int) < (cl : Int)) = true := by simp; omega
      have d2 : decide ((k : Int) < 50) = true := by simp; omega
      obtain ⟨c, hcell⟩ := hc.cell k h1
      have hco := hc.src (by omega)
      subst hco
      have c0 : w1.cell? ⟨C, 0, none⟩ = w1.cell? ⟨C, 0, none⟩ := rfl
      have cc : wr.cell? ⟨C, offc + k, none⟩ = some (.int .i64 c) := (hb.cell (hc.old (by omega))).trans hcell
      obtain ⟨v, hv, hvb⟩ := and255 c
      clear hcell c0
      obtain ⟨m, hm⟩ : ∃ m, n = p + m := ⟨n - p, by omega⟩
      subst hm
      clear hpn
      have hnb : p + m = bs.length := HN.out
      have hcap : p + m ≤ capa := by rw [hnb]; exact ha.le
      rcases Nat.lt_or_ge m v with hmv | hmv
      case' inl =>
        obtain ⟨q, hq⟩ : ∃ q, q = m := ⟨m, rfl⟩
        have hqm : p + q ≤ bs.length := by omega
        have hqc : p + q ≤ capa := by omega
        have hsl := slice_lh ao (p + m) capa p q hqc
        subst hq
        have e1 : ((p : Int) + (q : Int) - (p : Int)) = (q : Int) := by omega
      case' inr =>
        obtain ⟨q, hq⟩ : ∃ q, q = v := ⟨v, rfl⟩
        have hqm : p + q ≤ bs.length := by omega
        have hqc : p + q ≤ capa := by omega
        have hsl := slice_lh ao (p + m) capa p q hqc
        subst hq
      all_goals
        have hpc := ha.piece p q hqm
        obtain ⟨ao3, hao3⟩ : ∃ ao3 : Option Addr, ao3 = (if capa = 0 then ao else ao.map (·.add (0 * 1))) := ⟨_, rfl⟩
        have hp0 : SrcAt w ao3 capa (bs.take (p + q)) B (off + 0) := by
          have h0 := ha.piece 0 (p + q) (by omega)
          rw [← hao3, Nat.sub_zero, List.drop_zero] at h0
          exact h0
        have hsh : ∀ (len : Nat) (W : World), (Instr.slice 22 (.slice ao len capa) none (some (.int .i64 ((p : Int) + (q : Int)))) none).run Try.prog W = .ok (.slice ao3 (p + q) capa) W := fun len W => by
          have h0 := slice_h ao len capa (p + q) (by omega) W
          rw [← hao3, show ((p + q : Nat) : Int) = (p : Int) + (q : Int) from by omega] at h0
          exact h0
        clear hao3
        have HNB := Lib.hid hnb
        clear hnb
        generalize (if capa = p then ao else ao.map (·.add (p * 1))) = ao2 at *
        go_wp2_with fail
        refine (add_len q (by rw [List.length_take, List.length_drop]; omega) _ HR.out (hpc.below hb) (fun h => by have := hpc.old h; omega) (by rw [List.length_take, List.length_take, List.length_drop]; omega)).mono ?_
        rintro e w3 ⟨rfl, r3, g3⟩
        go_wp2_with fail
        have c3 : Below w.heap.size w w3 := hb.grown g3 hb.size (fun k hk => by cases hk; exact hge)
        rw [← take_next] at r3
        have R3 := Lib.hid r3
        have ltk : (bs.take (p + q)).length = p + q := by rw [List.length_take]; omega
        have LTK := Lib.hid ltk
        clear r3 g3 ltk
        go_region_with (first
          | (go_at_call 14; refine (end_any g (bs.take (p + q)) w3.drew R3.out (by rw [LTK.out]; omega)).mono ?_; rintro e w4 ⟨rfl, b4⟩; have c4 := c3.trans ((below_of_drew b4).mono c3.size))
          | (go_at_call 10; refine (sum_len (p + q) LTK.out _ (hp0.below c4) (by rw [LTK.out]; omega)).mono ?_; rintro e w5 ⟨rfl, b5⟩))
        go_wp2
        go_roundw
        case rel =>
          exact ⟨k + 1, p + q, by omega, by go_num, by go_num, hqm, (R3.out.below (below_of_drew b4)).below b5, c4.trans (b5.mono c4.size)⟩
        case measure => simp [intOf]; omega
    · have hnb : n = bs.length := HN.out
      have hcase : (decide ((k : Int) < (cl : Int)) = false ∧ (cl : Int) ≤ (k : Int)) ∨ (decide ((k : Int) < (cl : Int)) = true ∧ decide ((k : Int) < 50) = false ∧ (k : Int) < (cl : Int) ∧ (50 : Int) ≤ (k : Int)) := by
        by_cases h1 : k < cl
        · exact .inr ⟨by simp; omega, by simp; omega, by omega, by omega⟩
        · exact .inl ⟨by simp; omega, by omega⟩
      have hpc := ha.piece p (n - p) (by omega)
      have hsl := slice_l ao n capa p hpn
      have ltd : ((bs.drop p).take (n - p)).length = n - p := by rw [List.length_take, List.length_drop]; omega
      have etd : bs.take p ++ (bs.drop p).take (n - p) = bs := by
        rw [← take_next, List.take_of_length_le (by omega)]
      generalize (if capa = p then ao else ao.map (·.add (p * 1))) = ao2 at *
      have LTD := Lib.hid ltd
      have ETD := Lib.hid etd
      clear hnb ltd etd
      clear hlt
      rcases hcase with ⟨d1, i1⟩ | ⟨d1, d2, i1, i2⟩
      all_goals
        go_wp2_with fail
        refine (add_len (n - p) LTD.out _ HR.out (hpc.below hb) (fun h => by have := hpc.old h; omega) (by rw [LTD.out, List.length_take]; omega)).mono ?_
        rintro e w3 ⟨rfl, r3, g3⟩
        have c3 : Below w.heap.size w w3 := hb.grown g3 hb.size (fun k hk => by cases hk; exact hge)
        rw [ETD.out] at r3
        have R3 := Lib.hid r3
        clear r3 g3
        go_wp2_with fail
        refine (add_nil _ _).mono ?_
        rintro e w4 ⟨rfl, rfl⟩
        go_wp2_with fail
        refine (end_any w3.heap.size [] _ ⟨_, _, RunIs.zero, by rw [List.length_nil, zero_run]; exact heap_alloc_new _ _⟩ (Nat.zero_le _)).mono ?_
        rintro e w4 ⟨rfl, b4⟩
        obtain ⟨z, hz⟩ : ∃ z, z = w3.heap.size := ⟨_, rfl⟩
        have r4 : RunAt w4 z [] := by
          rw [hz]
          exact RunAt.below ⟨_, _, RunIs.zero, by rw [List.length_nil, zero_run]; exact heap_alloc_new _ _⟩ b4
        have b4' : Below w3.heap.size w3 w4 := ((Below.refl _ _).alloc (Nat.le_refl _) _).trans (b4.mono (by simp))
        have hgz : g < z := by rw [hz]; exact R3.out.lt
        have hwz : w.heap.size ≤ z := by omega
        have c4 : Below w.heap.size w w4 := c3.trans (b4'.mono c3.size)
        have q4 : RunAt w4 g bs := R3.out.below b4'
        rw [← hz]
        clear hz b4 b4'
        go_wp2_with fail
        refine (add_len n HN.out.symm _ r4 (ha.below c4) (fun h => by have := ha.old h; omega) (by simp; omega)).mono ?_
        rintro e w5 ⟨rfl, r5, g5⟩
        have c5 : Below w.heap.size w w5 := c4.grown g5 c4.size (fun k hk => by cases hk; exact hwz)
        rw [List.nil_append] at r5
        have q5 : RunAt w5 g bs := q4.grown g5 (by omega)
        clear g5 r4 q4
        go_wp2_with fail
        refine (end_any g bs _ q5 (by omega)).mono ?_
        rintro e w6 ⟨rfl, b6⟩
        have c6 := c5.trans (b6.mono c5.size)
        go_wp2_with fail
        refine (sum_len n HN.out.symm _ (ha.below c6) (by omega)).mono ?_
        rintro e w7 ⟨rfl, b7⟩
        have c7 := c6.trans (b7.mono c6.size)
        go_wp2_with fail
        refine (end_nil _).mono ?_
        rintro e w8 ⟨rfl, b8⟩
        have c8 := c7.trans (b8.mono c7.size)
        go_wp2_with fail
        refine (sum_nil _).mono ?_
        rintro e w9 ⟨rfl, b9⟩
        have c9 := c8.trans (b9.mono c8.size)
        go_wp2_with fail
        refine (sum_nil _).mono ?_
        rintro e w10 ⟨rfl, b10⟩
        have c10 := c9.trans (b10.mono c9.size)
        go_wp2_with fail
        refine (end_any z bs _ (((((r5.below b6).below b7).below b8).below b9).below b10) (by omega)).mono ?_
        rintro e w11 ⟨rfl, b11⟩
        have c11 := c10.trans (b11.mono c10.size)
        go_wp2_with fail
        refine (sum_len n HN.out.symm _ (ha.below c11) (by omega)).mono ?_
        rintro e w12 ⟨rfl, b12⟩
        go_wp2_with fail
        go_ret
        exact ⟨rfl, c11.trans (b12.mono c11.size)⟩
end Go.Proofs.Ytijgmhdhaekocaa
