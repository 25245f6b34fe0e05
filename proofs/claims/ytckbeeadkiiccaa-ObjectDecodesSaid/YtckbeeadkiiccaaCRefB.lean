/- The document's told and bare: may Who, Text, Stamp be; are the fields empty? The document's bare: are the fields empty? Written by wip/tools/mk_bare.py. The document's Check. Written by wip/tools/mk_check.py. -/
import Derived.Test.YtckbeeadkiiccaaCRefA
namespace Go.Proofs.Ytckbeeadkiiccaa
open Go.RowKit
/-- An object by value, its slices' own values written out. -/
def obj3 (o : ObjR) (a1 : Option Addr) (c1 : Nat) (a2 : Option Addr) (c2 : Nat) (a3 : Option Addr) (c3 : Nat) : Value := objV o (.slice a1 o.data.length c1) (.slice a2 o.ents.length c2) (.slice a3 o.ups.length c3)
set_option maxRecDepth 100000 in
set_option maxHeartbeats 1600000 in
theorem refTold_any (o : ObjR) (a1 : Option Addr) (c1 : Nat) (a2 : Option Addr) (c2 : Nat) (a3 : Option Addr) (c3 : Nat) (w : World) :
    Calls Try.prog 51 #[obj3 o a1 c1 a2 c2 a3 c3] w fun e w' => e = .returned (.bool (toldB o)) ∧ Below w.heap.size w w' := by
  obtain ⟨n1, h1⟩ : ∃ n, n = o.data.length := ⟨_, rfl⟩
  obtain ⟨n2, h2⟩ : ∃ n, n = o.ents.length := ⟨_, rfl⟩
  obtain ⟨n3, h3⟩ : ∃ n, n = o.ups.length := ⟨_, rfl⟩
  have hv : toldB o = (decide (o.who.length ≤ 1000) && decide (o.text.length ≤ 1000) && decide (0 ≤ o.stamp) && decide (o.stamp ≤ 1099511627776)) := rfl
  have s1 := SL_size o.who
  have s2 := SL_size o.text
  obtain ⟨A, hA⟩ : ∃ n, n = o.who.length := ⟨_, rfl⟩
  obtain ⟨B, hB⟩ : ∃ n, n = o.text.length := ⟨_, rfl⟩
  obtain ⟨z, hz⟩ : ∃ z, z = o.stamp := ⟨_, rfl⟩
  unfold obj3 objV
  rw [← hA] at s1
  rw [← hB] at s2
  rw [← hA, ← hB, ← hz] at hv
  rw [← h1, ← h2, ← h3, ← hz]
  have HV := Lib.hid hv
  have hb := (Below.refl w.heap.size w).alloc (Nat.le_refl _) (.cells #[.int .i64 o.kind, .slice a1 n1 c1, .slice a2 n2 c2, .string (SL o.tree), .slice a3 n3 c3, .string (SL o.target), .string (SL o.name), .string (SL o.who), .int .i64 z, .string (SL o.text)] 26)
  have HB := Lib.hid hb
  clear hv h1 h2 h3 hA hB hz hb
  by_cases q1 : A ≤ 1000
  · have q1' : (A : Int) ≤ 1000 := by omega
    by_cases q2 : B ≤ 1000
    · have q2' : (B : Int) ≤ 1000 := by omega
      by_cases q3 : z ≥ 0
      · by_cases q4 : z ≤ 1099511627776
        · have hv : toldB o = true := by rw [HV.out]; simp [q1, q2, q4]; omega
          have HV2 := Lib.hid hv
          clear hv q1 q2
          go_enter Try.func51, Try.ntmps51
          go_wp2
          go_ret
          exact ⟨by rw [HV2.out]; rfl, HB.out⟩
        · have hv : toldB o = false := by rw [HV.out]; simp [q4]
          have HV2 := Lib.hid hv
          clear hv q1 q2
          go_enter Try.func51, Try.ntmps51
          go_wp2
          go_ret
          exact ⟨by rw [HV2.out]; rfl, HB.out⟩
      · have hv : toldB o = false := by rw [HV.out]; simp [show ¬ 0 ≤ z from q3]
        have HV2 := Lib.hid hv
        clear hv q1 q2
        go_enter Try.func51, Try.ntmps51
        go_wp2
        go_ret
        exact ⟨by rw [HV2.out]; rfl, HB.out⟩
    · have q2' : ¬ (B : Int) ≤ 1000 := by omega
      have hv : toldB o = false := by rw [HV.out]; simp [q2]
      have HV2 := Lib.hid hv
      clear hv q1 q2
      go_enter Try.func51, Try.ntmps51
      go_wp2
      go_ret
      exact ⟨by rw [HV2.out]; rfl, HB.out⟩
  · have q1' : ¬ (A : Int) ≤ 1000 := by omega
    have hv : toldB o = false := by rw [HV.out]; simp [q1]
    have HV2 := Lib.hid hv
    clear hv q1
    go_enter Try.func51, Try.ntmps51
    go_wp2
    go_ret
    exact ⟨by rw [HV2.out]; rfl, HB.out⟩
end Go.Proofs.Ytckbeeadkiiccaa
namespace Go.Proofs.Ytckbeeadkiiccaa
open Go.RowKit
theorem SL_empty {t : OB} (h : t = []) : ((SL t).toList == ([] : List UInt8)) = true ∧ (SL t).toList = [] := by rw [SL_toList, h]; exact ⟨rfl, rfl⟩
theorem SL_full {t : OB} (h : ¬ t = []) : ((SL t).toList == ([] : List UInt8)) = false ∧ (SL t).toList ≠ [] := by rw [SL_toList]; exact ⟨by simpa using h, h⟩
set_option maxRecDepth 100000 in
set_option maxHeartbeats 4000000 in
theorem refBare1 (o : ObjR) (a1 : Option Addr) (c1 : Nat) (a2 : Option Addr) (c2 : Nat) (a3 : Option Addr) (c3 : Nat) (w : World) :
    Calls Try.prog 48 #[obj3 o a1 c1 a2 c2 a3 c3, .bool false, .bool true, .bool true, .bool true, .bool true] w fun e w' => e = .returned (.bool (bareB o false true true true true)) ∧ Below w.heap.size w w' := by
  obtain ⟨n1, hn1⟩ : ∃ n, n = o.data.length := ⟨_, rfl⟩
  obtain ⟨n2, hn2⟩ : ∃ n, n = o.ents.length := ⟨_, rfl⟩
  obtain ⟨n3, hn3⟩ : ∃ n, n = o.ups.length := ⟨_, rfl⟩
  obtain ⟨z, hz⟩ : ∃ z, z = o.stamp := ⟨_, rfl⟩
  unfold obj3 objV
  rw [← hn1, ← hn2, ← hn3, ← hz]
  have hb := (Below.refl w.heap.size w).alloc (Nat.le_refl _) (.cells #[.int .i64 o.kind, .slice a1 n1 c1, .slice a2 n2 c2, .string (SL o.tree), .slice a3 n3 c3, .string (SL o.target), .string (SL o.name), .string (SL o.who), .int .i64 z, .string (SL o.text)] 26)
  have HB := Lib.hid hb
  have H1 := Lib.hid hn1
  have H2 := Lib.hid hn2
  have H3 := Lib.hid hn3
  have HZ := Lib.hid hz
  clear hb hn1 hn2 hn3 hz
  by_cases h_ents : o.ents = []
  · have e_ents : n2 = 0 := by rw [H2.out, h_ents]; rfl
    have p_ents : ¬ (n2 : Int) > 0 := by omega
    have r_ents : ¬ 0 < n2 := by omega
    have s_ents : decide (0 < n2) = false := by simp; omega
    clear e_ents
    by_cases h_tree : o.tree = []
    · obtain ⟨p_tree, r_tree⟩ := SL_empty h_tree
      by_cases h_ups : o.ups = []
      · have e_ups : n3 = 0 := by rw [H3.out, h_ups]; rfl
        have p_ups : ¬ (n3 : Int) > 0 := by omega
        have r_ups : ¬ 0 < n3 := by omega
        have s_ups : decide (0 < n3) = false := by simp; omega
        clear e_ups
        by_cases h_target : o.target = []
        · obtain ⟨p_target, r_target⟩ := SL_empty h_target
          by_cases h_name : o.name = []
          · obtain ⟨p_name, r_name⟩ := SL_empty h_name
            by_cases h_who : o.who = []
            · obtain ⟨p_who, r_who⟩ := SL_empty h_who
              by_cases h_text : o.text = []
              · obtain ⟨p_text, r_text⟩ := SL_empty h_text
                by_cases h_stamp : o.stamp = 0
                · have p_stamp : z = 0 := by rw [HZ.out]; exact h_stamp
                  have r_stamp : (z == 0) = true := by rw [p_stamp]; rfl
                  have hv : bareB o false true true true true = true := by unfold bareB; simp [h_ents, h_tree, h_ups, h_target, h_name, h_who, h_text, h_stamp]
                  have HV := Lib.hid hv
                  clear hv h_ents h_tree h_ups h_target h_name h_who h_text h_stamp
                  go_enter Try.func48, Try.ntmps48
                  go_wp2
                  go_ret
                  refine ⟨by rw [HV.out]; rfl, ?_⟩
                  first | exact HB.out | (have hbz := HB.out; rw [p_stamp] at hbz; exact hbz)
                · have p_stamp : ¬ z = 0 := by rw [HZ.out]; exact h_stamp
                  have r_stamp : (z == 0) = false := by simpa using p_stamp
                  have hv : bareB o false true true true true = false := by unfold bareB; simp [h_ents, h_tree, h_ups, h_target, h_name, h_who, h_text, h_stamp]
                  have HV := Lib.hid hv
                  clear hv h_ents h_tree h_ups h_target h_name h_who h_text h_stamp
                  go_enter Try.func48, Try.ntmps48
                  go_wp2
                  go_ret
                  refine ⟨by rw [HV.out]; rfl, ?_⟩
                  first | exact HB.out | (have hbz := HB.out; rw [p_stamp] at hbz; exact hbz)
              · obtain ⟨p_text, r_text⟩ := SL_full h_text
                have hv : bareB o false true true true true = false := by unfold bareB; simp [h_ents, h_tree, h_ups, h_target, h_name, h_who, h_text]
                have HV := Lib.hid hv
                clear hv h_ents h_tree h_ups h_target h_name h_who h_text
                go_enter Try.func48, Try.ntmps48
                go_wp2
                go_ret
                refine ⟨by rw [HV.out]; rfl, ?_⟩
                first | exact HB.out | (have hbz := HB.out; rw [p_stamp] at hbz; exact hbz)
            · obtain ⟨p_who, r_who⟩ := SL_full h_who
              have hv : bareB o false true true true true = false := by unfold bareB; simp [h_ents, h_tree, h_ups, h_target, h_name, h_who]
              have HV := Lib.hid hv
              clear hv h_ents h_tree h_ups h_target h_name h_who
              go_enter Try.func48, Try.ntmps48
              go_wp2
              go_ret
              refine ⟨by rw [HV.out]; rfl, ?_⟩
              first | exact HB.out | (have hbz := HB.out; rw [p_stamp] at hbz; exact hbz)
          · obtain ⟨p_name, r_name⟩ := SL_full h_name
            have hv : bareB o false true true true true = false := by unfold bareB; simp [h_ents, h_tree, h_ups, h_target, h_name]
            have HV := Lib.hid hv
            clear hv h_ents h_tree h_ups h_target h_name
            go_enter Try.func48, Try.ntmps48
            go_wp2
            go_ret
            refine ⟨by rw [HV.out]; rfl, ?_⟩
            first | exact HB.out | (have hbz := HB.out; rw [p_stamp] at hbz; exact hbz)
        · obtain ⟨p_target, r_target⟩ := SL_full h_target
          have hv : bareB o false true true true true = false := by unfold bareB; simp [h_ents, h_tree, h_ups, h_target]
          have HV := Lib.hid hv
          clear hv h_ents h_tree h_ups h_target
          go_enter Try.func48, Try.ntmps48
          go_wp2
          go_ret
          refine ⟨by rw [HV.out]; rfl, ?_⟩
          first | exact HB.out | (have hbz := HB.out; rw [p_stamp] at hbz; exact hbz)
      · have r_ups : 0 < n3 := by rw [H3.out]; exact List.length_pos_iff.2 h_ups
        have p_ups : (n3 : Int) > 0 := by omega
        have s_ups : decide (0 < n3) = true := by simp; omega
        have hv : bareB o false true true true true = false := by unfold bareB; simp [h_ents, h_tree, h_ups]
        have HV := Lib.hid hv
        clear hv h_ents h_tree h_ups
        go_enter Try.func48, Try.ntmps48
        go_wp2
        go_ret
        refine ⟨by rw [HV.out]; rfl, ?_⟩
        first | exact HB.out | (have hbz := HB.out; rw [p_stamp] at hbz; exact hbz)
    · obtain ⟨p_tree, r_tree⟩ := SL_full h_tree
      have hv : bareB o false true true true true = false := by unfold bareB; simp [h_ents, h_tree]
      have HV := Lib.hid hv
      clear hv h_ents h_tree
      go_enter Try.func48, Try.ntmps48
      go_wp2
      go_ret
      refine ⟨by rw [HV.out]; rfl, ?_⟩
      first | exact HB.out | (have hbz := HB.out; rw [p_stamp] at hbz; exact hbz)
  · have r_ents : 0 < n2 := by rw [H2.out]; exact List.length_pos_iff.2 h_ents
    have p_ents : (n2 : Int) > 0 := by omega
    have s_ents : decide (0 < n2) = true := by simp; omega
    have hv : bareB o false true true true true = false := by unfold bareB; simp [h_ents]
    have HV := Lib.hid hv
    clear hv h_ents
    go_enter Try.func48, Try.ntmps48
    go_wp2
    go_ret
    refine ⟨by rw [HV.out]; rfl, ?_⟩
    first | exact HB.out | (have hbz := HB.out; rw [p_stamp] at hbz; exact hbz)
set_option maxRecDepth 100000 in
set_option maxHeartbeats 4000000 in
theorem refBare2 (o : ObjR) (a1 : Option Addr) (c1 : Nat) (a2 : Option Addr) (c2 : Nat) (a3 : Option Addr) (c3 : Nat) (w : World) :
    Calls Try.prog 48 #[obj3 o a1 c1 a2 c2 a3 c3, .bool true, .bool false, .bool true, .bool true, .bool true] w fun e w' => e = .returned (.bool (bareB o true false true true true)) ∧ Below w.heap.size w w' := by
  obtain ⟨n1, hn1⟩ : ∃ n, n = o.data.length := ⟨_, rfl⟩
  obtain ⟨n2, hn2⟩ : ∃ n, n = o.ents.length := ⟨_, rfl⟩
  obtain ⟨n3, hn3⟩ : ∃ n, n = o.ups.length := ⟨_, rfl⟩
  obtain ⟨z, hz⟩ : ∃ z, z = o.stamp := ⟨_, rfl⟩
  unfold obj3 objV
  rw [← hn1, ← hn2, ← hn3, ← hz]
  have hb := (Below.refl w.heap.size w).alloc (Nat.le_refl _) (.cells #[.int .i64 o.kind, .slice a1 n1 c1, .slice a2 n2 c2, .string (SL o.tree), .slice a3 n3 c3, .string (SL o.target), .string (SL o.name), .string (SL o.who), .int .i64 z, .string (SL o.text)] 26)
  have HB := Lib.hid hb
  have H1 := Lib.hid hn1
  have H2 := Lib.hid hn2
  have H3 := Lib.hid hn3
  have HZ := Lib.hid hz
  clear hb hn1 hn2 hn3 hz
  by_cases h_data : o.data = []
  · have e_data : n1 = 0 := by rw [H1.out, h_data]; rfl
    have p_data : ¬ (n1 : Int) > 0 := by omega
    have r_data : ¬ 0 < n1 := by omega
    have s_data : decide (0 < n1) = false := by simp; omega
    clear e_data
    by_cases h_tree : o.tree = []
    · obtain ⟨p_tree, r_tree⟩ := SL_empty h_tree
      by_cases h_ups : o.ups = []
      · have e_ups : n3 = 0 := by rw [H3.out, h_ups]; rfl
        have p_ups : ¬ (n3 : Int) > 0 := by omega
        have r_ups : ¬ 0 < n3 := by omega
        have s_ups : decide (0 < n3) = false := by simp; omega
        clear e_ups
        by_cases h_target : o.target = []
        · obtain ⟨p_target, r_target⟩ := SL_empty h_target
          by_cases h_name : o.name = []
          · obtain ⟨p_name, r_name⟩ := SL_empty h_name
            by_cases h_who : o.who = []
            · obtain ⟨p_who, r_who⟩ := SL_empty h_who
              by_cases h_text : o.text = []
              · obtain ⟨p_text, r_text⟩ := SL_empty h_text
                by_cases h_stamp : o.stamp = 0
                · have p_stamp : z = 0 := by rw [HZ.out]; exact h_stamp
                  have r_stamp : (z == 0) = true := by rw [p_stamp]; rfl
                  have hv : bareB o true false true true true = true := by unfold bareB; simp [h_data, h_tree, h_ups, h_target, h_name, h_who, h_text, h_stamp]
                  have HV := Lib.hid hv
                  clear hv h_data h_tree h_ups h_target h_name h_who h_text h_stamp
                  go_enter Try.func48, Try.ntmps48
                  go_wp2
                  go_ret
                  refine ⟨by rw [HV.out]; rfl, ?_⟩
                  first | exact HB.out | (have hbz := HB.out; rw [p_stamp] at hbz; exact hbz)
                · have p_stamp : ¬ z = 0 := by rw [HZ.out]; exact h_stamp
                  have r_stamp : (z == 0) = false := by simpa using p_stamp
                  have hv : bareB o true false true true true = false := by unfold bareB; simp [h_data, h_tree, h_ups, h_target, h_name, h_who, h_text, h_stamp]
                  have HV := Lib.hid hv
                  clear hv h_data h_tree h_ups h_target h_name h_who h_text h_stamp
                  go_enter Try.func48, Try.ntmps48
                  go_wp2
                  go_ret
                  refine ⟨by rw [HV.out]; rfl, ?_⟩
                  first | exact HB.out | (have hbz := HB.out; rw [p_stamp] at hbz; exact hbz)
              · obtain ⟨p_text, r_text⟩ := SL_full h_text
                have hv : bareB o true false true true true = false := by unfold bareB; simp [h_data, h_tree, h_ups, h_target, h_name, h_who, h_text]
                have HV := Lib.hid hv
                clear hv h_data h_tree h_ups h_target h_name h_who h_text
                go_enter Try.func48, Try.ntmps48
                go_wp2
                go_ret
                refine ⟨by rw [HV.out]; rfl, ?_⟩
                first | exact HB.out | (have hbz := HB.out; rw [p_stamp] at hbz; exact hbz)
            · obtain ⟨p_who, r_who⟩ := SL_full h_who
              have hv : bareB o true false true true true = false := by unfold bareB; simp [h_data, h_tree, h_ups, h_target, h_name, h_who]
              have HV := Lib.hid hv
              clear hv h_data h_tree h_ups h_target h_name h_who
              go_enter Try.func48, Try.ntmps48
              go_wp2
              go_ret
              refine ⟨by rw [HV.out]; rfl, ?_⟩
              first | exact HB.out | (have hbz := HB.out; rw [p_stamp] at hbz; exact hbz)
          · obtain ⟨p_name, r_name⟩ := SL_full h_name
            have hv : bareB o true false true true true = false := by unfold bareB; simp [h_data, h_tree, h_ups, h_target, h_name]
            have HV := Lib.hid hv
            clear hv h_data h_tree h_ups h_target h_name
            go_enter Try.func48, Try.ntmps48
            go_wp2
            go_ret
            refine ⟨by rw [HV.out]; rfl, ?_⟩
            first | exact HB.out | (have hbz := HB.out; rw [p_stamp] at hbz; exact hbz)
        · obtain ⟨p_target, r_target⟩ := SL_full h_target
          have hv : bareB o true false true true true = false := by unfold bareB; simp [h_data, h_tree, h_ups, h_target]
          have HV := Lib.hid hv
          clear hv h_data h_tree h_ups h_target
          go_enter Try.func48, Try.ntmps48
          go_wp2
          go_ret
          refine ⟨by rw [HV.out]; rfl, ?_⟩
          first | exact HB.out | (have hbz := HB.out; rw [p_stamp] at hbz; exact hbz)
      · have r_ups : 0 < n3 := by rw [H3.out]; exact List.length_pos_iff.2 h_ups
        have p_ups : (n3 : Int) > 0 := by omega
        have s_ups : decide (0 < n3) = true := by simp; omega
        have hv : bareB o true false true true true = false := by unfold bareB; simp [h_data, h_tree, h_ups]
        have HV := Lib.hid hv
        clear hv h_data h_tree h_ups
        go_enter Try.func48, Try.ntmps48
        go_wp2
        go_ret
        refine ⟨by rw [HV.out]; rfl, ?_⟩
        first | exact HB.out | (have hbz := HB.out; rw [p_stamp] at hbz; exact hbz)
    · obtain ⟨p_tree, r_tree⟩ := SL_full h_tree
      have hv : bareB o true false true true true = false := by unfold bareB; simp [h_data, h_tree]
      have HV := Lib.hid hv
      clear hv h_data h_tree
      go_enter Try.func48, Try.ntmps48
      go_wp2
      go_ret
      refine ⟨by rw [HV.out]; rfl, ?_⟩
      first | exact HB.out | (have hbz := HB.out; rw [p_stamp] at hbz; exact hbz)
  · have r_data : 0 < n1 := by rw [H1.out]; exact List.length_pos_iff.2 h_data
    have p_data : (n1 : Int) > 0 := by omega
    have s_data : decide (0 < n1) = true := by simp; omega
    have hv : bareB o true false true true true = false := by unfold bareB; simp [h_data]
    have HV := Lib.hid hv
    clear hv h_data
    go_enter Try.func48, Try.ntmps48
    go_wp2
    go_ret
    refine ⟨by rw [HV.out]; rfl, ?_⟩
    first | exact HB.out | (have hbz := HB.out; rw [p_stamp] at hbz; exact hbz)
set_option maxRecDepth 100000 in
set_option maxHeartbeats 4000000 in
theorem refBare3 (o : ObjR) (a1 : Option Addr) (c1 : Nat) (a2 : Option Addr) (c2 : Nat) (a3 : Option Addr) (c3 : Nat) (w : World) :
    Calls Try.prog 48 #[obj3 o a1 c1 a2 c2 a3 c3, .bool true, .bool true, .bool false, .bool true, .bool false] w fun e w' => e = .returned (.bool (bareB o true true false true false)) ∧ Below w.heap.size w w' := by
  obtain ⟨n1, hn1⟩ : ∃ n, n = o.data.length := ⟨_, rfl⟩
  obtain ⟨n2, hn2⟩ : ∃ n, n = o.ents.length := ⟨_, rfl⟩
  obtain ⟨n3, hn3⟩ : ∃ n, n = o.ups.length := ⟨_, rfl⟩
  obtain ⟨z, hz⟩ : ∃ z, z = o.stamp := ⟨_, rfl⟩
  unfold obj3 objV
  rw [← hn1, ← hn2, ← hn3, ← hz]
  have hb := (Below.refl w.heap.size w).alloc (Nat.le_refl _) (.cells #[.int .i64 o.kind, .slice a1 n1 c1, .slice a2 n2 c2, .string (SL o.tree), .slice a3 n3 c3, .string (SL o.target), .string (SL o.name), .string (SL o.who), .int .i64 z, .string (SL o.text)] 26)
  have HB := Lib.hid hb
  have H1 := Lib.hid hn1
  have H2 := Lib.hid hn2
  have H3 := Lib.hid hn3
  have HZ := Lib.hid hz
  clear hb hn1 hn2 hn3 hz
  by_cases h_data : o.data = []
  · have e_data : n1 = 0 := by rw [H1.out, h_data]; rfl
    have p_data : ¬ (n1 : Int) > 0 := by omega
    have r_data : ¬ 0 < n1 := by omega
    have s_data : decide (0 < n1) = false := by simp; omega
    clear e_data
    by_cases h_ents : o.ents = []
    · have e_ents : n2 = 0 := by rw [H2.out, h_ents]; rfl
      have p_ents : ¬ (n2 : Int) > 0 := by omega
      have r_ents : ¬ 0 < n2 := by omega
      have s_ents : decide (0 < n2) = false := by simp; omega
      clear e_ents
      by_cases h_target : o.target = []
      · obtain ⟨p_target, r_target⟩ := SL_empty h_target
        by_cases h_name : o.name = []
        · obtain ⟨p_name, r_name⟩ := SL_empty h_name
          have hv : bareB o true true false true false = true := by unfold bareB; simp [h_data, h_ents, h_target, h_name]
          have HV := Lib.hid hv
          clear hv h_data h_ents h_target h_name
          go_enter Try.func48, Try.ntmps48
          go_wp2
          go_ret
          refine ⟨by rw [HV.out]; rfl, ?_⟩
          first | exact HB.out | (have hbz := HB.out; rw [p_stamp] at hbz; exact hbz)
        · obtain ⟨p_name, r_name⟩ := SL_full h_name
          have hv : bareB o true true false true false = false := by unfold bareB; simp [h_data, h_ents, h_target, h_name]
          have HV := Lib.hid hv
          clear hv h_data h_ents h_target h_name
          go_enter Try.func48, Try.ntmps48
          go_wp2
          go_ret
          refine ⟨by rw [HV.out]; rfl, ?_⟩
          first | exact HB.out | (have hbz := HB.out; rw [p_stamp] at hbz; exact hbz)
      · obtain ⟨p_target, r_target⟩ := SL_full h_target
        have hv : bareB o true true false true false = false := by unfold bareB; simp [h_data, h_ents, h_target]
        have HV := Lib.hid hv
        clear hv h_data h_ents h_target
        go_enter Try.func48, Try.ntmps48
        go_wp2
        go_ret
        refine ⟨by rw [HV.out]; rfl, ?_⟩
        first | exact HB.out | (have hbz := HB.out; rw [p_stamp] at hbz; exact hbz)
    · have r_ents : 0 < n2 := by rw [H2.out]; exact List.length_pos_iff.2 h_ents
      have p_ents : (n2 : Int) > 0 := by omega
      have s_ents : decide (0 < n2) = true := by simp; omega
      have hv : bareB o true true false true false = false := by unfold bareB; simp [h_data, h_ents]
      have HV := Lib.hid hv
      clear hv h_data h_ents
      go_enter Try.func48, Try.ntmps48
      go_wp2
      go_ret
      refine ⟨by rw [HV.out]; rfl, ?_⟩
      first | exact HB.out | (have hbz := HB.out; rw [p_stamp] at hbz; exact hbz)
  · have r_data : 0 < n1 := by rw [H1.out]; exact List.length_pos_iff.2 h_data
    have p_data : (n1 : Int) > 0 := by omega
    have s_data : decide (0 < n1) = true := by simp; omega
    have hv : bareB o true true false true false = false := by unfold bareB; simp [h_data]
    have HV := Lib.hid hv
    clear hv h_data
    go_enter Try.func48, Try.ntmps48
    go_wp2
    go_ret
    refine ⟨by rw [HV.out]; rfl, ?_⟩
    first | exact HB.out | (have hbz := HB.out; rw [p_stamp] at hbz; exact hbz)
set_option maxRecDepth 100000 in
set_option maxHeartbeats 4000000 in
theorem refBare4 (o : ObjR) (a1 : Option Addr) (c1 : Nat) (a2 : Option Addr) (c2 : Nat) (a3 : Option Addr) (c3 : Nat) (w : World) :
    Calls Try.prog 48 #[obj3 o a1 c1 a2 c2 a3 c3, .bool true, .bool true, .bool true, .bool false, .bool false] w fun e w' => e = .returned (.bool (bareB o true true true false false)) ∧ Below w.heap.size w w' := by
  obtain ⟨n1, hn1⟩ : ∃ n, n = o.data.length := ⟨_, rfl⟩
  obtain ⟨n2, hn2⟩ : ∃ n, n = o.ents.length := ⟨_, rfl⟩
  obtain ⟨n3, hn3⟩ : ∃ n, n = o.ups.length := ⟨_, rfl⟩
  obtain ⟨z, hz⟩ : ∃ z, z = o.stamp := ⟨_, rfl⟩
  unfold obj3 objV
  rw [← hn1, ← hn2, ← hn3, ← hz]
  have hb := (Below.refl w.heap.size w).alloc (Nat.le_refl _) (.cells #[.int .i64 o.kind, .slice a1 n1 c1, .slice a2 n2 c2, .string (SL o.tree), .slice a3 n3 c3, .string (SL o.target), .string (SL o.name), .string (SL o.who), .int .i64 z, .string (SL o.text)] 26)
  have HB := Lib.hid hb
  have H1 := Lib.hid hn1
  have H2 := Lib.hid hn2
  have H3 := Lib.hid hn3
  have HZ := Lib.hid hz
  clear hb hn1 hn2 hn3 hz
  by_cases h_data : o.data = []
  · have e_data : n1 = 0 := by rw [H1.out, h_data]; rfl
    have p_data : ¬ (n1 : Int) > 0 := by omega
    have r_data : ¬ 0 < n1 := by omega
    have s_data : decide (0 < n1) = false := by simp; omega
    clear e_data
    by_cases h_ents : o.ents = []
    · have e_ents : n2 = 0 := by rw [H2.out, h_ents]; rfl
      have p_ents : ¬ (n2 : Int) > 0 := by omega
      have r_ents : ¬ 0 < n2 := by omega
      have s_ents : decide (0 < n2) = false := by simp; omega
      clear e_ents
      by_cases h_tree : o.tree = []
      · obtain ⟨p_tree, r_tree⟩ := SL_empty h_tree
        by_cases h_ups : o.ups = []
        · have e_ups : n3 = 0 := by rw [H3.out, h_ups]; rfl
          have p_ups : ¬ (n3 : Int) > 0 := by omega
          have r_ups : ¬ 0 < n3 := by omega
          have s_ups : decide (0 < n3) = false := by simp; omega
          clear e_ups
          have hv : bareB o true true true false false = true := by unfold bareB; simp [h_data, h_ents, h_tree, h_ups]
          have HV := Lib.hid hv
          clear hv h_data h_ents h_tree h_ups
          go_enter Try.func48, Try.ntmps48
          go_wp2
          go_ret
          refine ⟨by rw [HV.out]; rfl, ?_⟩
          first | exact HB.out | (have hbz := HB.out; rw [p_stamp] at hbz; exact hbz)
        · have r_ups : 0 < n3 := by rw [H3.out]; exact List.length_pos_iff.2 h_ups
          have p_ups : (n3 : Int) > 0 := by omega
          have s_ups : decide (0 < n3) = true := by simp; omega
          have hv : bareB o true true true false false = false := by unfold bareB; simp [h_data, h_ents, h_tree]; exact List.length_pos_iff.2 h_ups
          have HV := Lib.hid hv
          clear hv h_data h_ents h_tree h_ups
          go_enter Try.func48, Try.ntmps48
          go_wp2
          go_ret
          refine ⟨by rw [HV.out]; rfl, ?_⟩
          first | exact HB.out | (have hbz := HB.out; rw [p_stamp] at hbz; exact hbz)
      · obtain ⟨p_tree, r_tree⟩ := SL_full h_tree
        have hv : bareB o true true true false false = false := by unfold bareB; simp [h_data, h_ents, h_tree]
        have HV := Lib.hid hv
        clear hv h_data h_ents h_tree
        go_enter Try.func48, Try.ntmps48
        go_wp2
        go_ret
        refine ⟨by rw [HV.out]; rfl, ?_⟩
        first | exact HB.out | (have hbz := HB.out; rw [p_stamp] at hbz; exact hbz)
    · have r_ents : 0 < n2 := by rw [H2.out]; exact List.length_pos_iff.2 h_ents
      have p_ents : (n2 : Int) > 0 := by omega
      have s_ents : decide (0 < n2) = true := by simp; omega
      have hv : bareB o true true true false false = false := by unfold bareB; simp [h_data, h_ents]
      have HV := Lib.hid hv
      clear hv h_data h_ents
      go_enter Try.func48, Try.ntmps48
      go_wp2
      go_ret
      refine ⟨by rw [HV.out]; rfl, ?_⟩
      first | exact HB.out | (have hbz := HB.out; rw [p_stamp] at hbz; exact hbz)
  · have r_data : 0 < n1 := by rw [H1.out]; exact List.length_pos_iff.2 h_data
    have p_data : (n1 : Int) > 0 := by omega
    have s_data : decide (0 < n1) = true := by simp; omega
    have hv : bareB o true true true false false = false := by unfold bareB; simp [h_data]
    have HV := Lib.hid hv
    clear hv h_data
    go_enter Try.func48, Try.ntmps48
    go_wp2
    go_ret
    refine ⟨by rw [HV.out]; rfl, ?_⟩
    first | exact HB.out | (have hbz := HB.out; rw [p_stamp] at hbz; exact hbz)
end Go.Proofs.Ytckbeeadkiiccaa
namespace Go.Proofs.Ytckbeeadkiiccaa
open Go.RowKit
/-- Sizes that any object has that comes in. -/
structure ObjFits (o : ObjR) : Prop where
  ents : o.ents.length ≤ 9223372036854775807
  each : ∀ e ∈ o.ents, e.nm.length ≤ 9223372036854775807 ∧ e.id.length ≤ 9223372036854775807
  ups : o.ups.length ≤ 9223372036854775807
  texts : ∀ t ∈ o.ups, t.length ≤ 9223372036854775807
theorem ok_kind {o : ObjR} (h1 : ¬ o.kind = 1) (h2 : ¬ o.kind = 2) (h3 : ¬ o.kind = 3) (h4 : ¬ o.kind = 4) : okO o = false := by unfold okO; rw [if_neg h1, if_neg h2, if_neg h3, if_neg h4]
theorem ok_one {o : ObjR} (h : o.kind = 1) : okO o = (decide (o.data.length ≤ 1048576) && bareB o false true true true true) := by unfold okO; rw [if_pos h]
theorem ok_two {o : ObjR} (h : o.kind = 2) : okO o = (entsB o.ents && bareB o true false true true true) := by unfold okO; rw [if_neg (by omega), if_pos h]
theorem ok_three {o : ObjR} (h : o.kind = 3) : okO o = (decide (o.tree.length = 32) && upsB o.ups && toldB o && bareB o true true false true false) := by unfold okO; rw [if_neg (by omega), if_neg (by omega), if_pos h]
theorem ok_four {o : ObjR} (h : o.kind = 4) : okO o = (decide (o.target.length = 32) && (decide (1 ≤ o.name.length) && decide (o.name.length ≤ 200)) && toldB o && bareB o true true true false false) := by unfold okO; rw [if_neg (by omega), if_neg (by omega), if_neg (by omega), if_pos h]
/-- The cells of a block that holds an object. -/
theorem obj_cells {w : World} {x : Nat} {v0 v1 v2 v3 v4 v5 v6 v7 v8 v9 : Value} (h : w.heap[x]? = some (.cells #[v0, v1, v2, v3, v4, v5, v6, v7, v8, v9] 26 (0, 0))) :
    w.cell? ⟨x, 0, none⟩ = some v0 ∧ w.cell? ⟨x, 1, none⟩ = some v1 ∧ w.cell? ⟨x, 2, none⟩ = some v2 ∧ w.cell? ⟨x, 3, none⟩ = some v3 ∧ w.cell? ⟨x, 4, none⟩ = some v4 ∧ w.cell? ⟨x, 5, none⟩ = some v5 ∧ w.cell? ⟨x, 6, none⟩ = some v6 ∧ w.cell? ⟨x, 7, none⟩ = some v7 ∧ w.cell? ⟨x, 8, none⟩ = some v8 ∧ w.cell? ⟨x, 9, none⟩ = some v9 :=
  ⟨cell_of_row _ _ _ _ _ _ h, cell_of_row _ _ _ _ _ _ h, cell_of_row _ _ _ _ _ _ h, cell_of_row _ _ _ _ _ _ h, cell_of_row _ _ _ _ _ _ h, cell_of_row _ _ _ _ _ _ h, cell_of_row _ _ _ _ _ _ h, cell_of_row _ _ _ _ _ _ h, cell_of_row _ _ _ _ _ _ h, cell_of_row _ _ _ _ _ _ h⟩
/-- What Check answers. -/
def errO (o : ObjR) : Int := if okO o = true then 0 else 1
set_option maxRecDepth 100000 in
set_option maxHeartbeats 8000000 in
theorem refCheck_any (F : Nat → Prop) (o : ObjR) (dv ev uv : Value) (w : World) (h : ObjIn w F o dv ev uv) (hf : ObjFits o) :
    Calls Try.prog 30 #[objV o dv ev uv] w fun e w' => e = .returned (.int .i64 (errO o)) ∧ Below w.heap.size w w' := by
  have hents := fun (W : World) (hb : Below w.heap.size w W) => refEntries_any F ev o.ents W (h.ents.turn (Turn.of_below (fun _ => False) hb) (fun _ _ h => h)) hf.ents hf.each
  have hups := fun (W : World) (hb : Below w.heap.size w W) => refParents_any F uv o.ups W (h.ups.turn (Turn.of_below (fun _ => False) hb) (fun _ _ h => h)) hf.ups hf.texts
  obtain ⟨a1, c1, B1, o1, rfl, _, _⟩ := h.data
  obtain ⟨a2, c2, g2, o2, rfl, _⟩ := h.ents
  obtain ⟨a3, c3, g3, o3, rfl, _⟩ := h.ups
  have hb1 := refBare1 o a1 c1 a2 c2 a3 c3
  have hb2 := refBare2 o a1 c1 a2 c2 a3 c3
  have hb3 := refBare3 o a1 c1 a2 c2 a3 c3
  have hb4 := refBare4 o a1 c1 a2 c2 a3 c3
  have ht := refTold_any o a1 c1 a2 c2 a3 c3
  unfold obj3 at hb1 hb2 hb3 hb4 ht
  unfold objV at hb1 hb2 hb3 hb4 ht ⊢
  have s1 := SL_size o.tree
  have s2 := SL_size o.target
  have s3 := SL_size o.name
  have hk1 := ok_one (o := o)
  have hk2 := ok_two (o := o)
  have hk3 := ok_three (o := o)
  have hk4 := ok_four (o := o)
  have hk0 := ok_kind (o := o)
  obtain ⟨n1, hn1⟩ : ∃ n, n = o.data.length := ⟨_, rfl⟩
  obtain ⟨n2, hn2⟩ : ∃ n, n = o.ents.length := ⟨_, rfl⟩
  obtain ⟨n3, hn3⟩ : ∃ n, n = o.ups.length := ⟨_, rfl⟩
  obtain ⟨A, hA⟩ : ∃ n, n = o.tree.length := ⟨_, rfl⟩
  obtain ⟨B, hB⟩ : ∃ n, n = o.target.length := ⟨_, rfl⟩
  obtain ⟨C, hC⟩ : ∃ n, n = o.name.length := ⟨_, rfl⟩
  obtain ⟨K, hK⟩ : ∃ k, k = o.kind := ⟨_, rfl⟩
  obtain ⟨b1, hv1⟩ : ∃ b, b = bareB o false true true true true := ⟨_, rfl⟩
  obtain ⟨b2, hv2⟩ : ∃ b, b = bareB o true false true true true := ⟨_, rfl⟩
  obtain ⟨b3, hv3⟩ : ∃ b, b = bareB o true true false true false := ⟨_, rfl⟩
  obtain ⟨b4, hv4⟩ : ∃ b, b = bareB o true true true false false := ⟨_, rfl⟩
  obtain ⟨bt, hvt⟩ : ∃ b, b = toldB o := ⟨_, rfl⟩
  obtain ⟨be, hve⟩ : ∃ b, b = entsB o.ents := ⟨_, rfl⟩
  obtain ⟨bu, hvu⟩ : ∃ b, b = upsB o.ups := ⟨_, rfl⟩
  rw [← hA] at s1
  rw [← hB] at s2
  rw [← hC] at s3
  rw [← hn1, ← hn2, ← hn3, ← hK] at hb1 hb2 hb3 hb4 ht ⊢
  rw [← hn2] at hents
  rw [← hn3] at hups
  rw [← hv1] at hb1
  rw [← hv2] at hb2
  rw [← hv3] at hb3
  rw [← hv4] at hb4
  rw [← hvt] at ht
  rw [← hve] at hents
  rw [← hvu] at hups
  rw [← hK] at hk0 hk1 hk2 hk3 hk4
  rw [← hn1, ← hv1] at hk1
  rw [← hve, ← hv2] at hk2
  rw [← hA, ← hvu, ← hvt, ← hv3] at hk3
  rw [← hB, ← hC, ← hvt, ← hv4] at hk4
  have HE := Lib.hid hents
  have HU := Lib.hid hups
  have HB1 := Lib.hid hb1
  have HB2 := Lib.hid hb2
  have HB3 := Lib.hid hb3
  have HB4 := Lib.hid hb4
  have HT := Lib.hid ht
  have K0 := Lib.hid hk0
  have K1 := Lib.hid hk1
  have K2 := Lib.hid hk2
  have K3 := Lib.hid hk3
  have K4 := Lib.hid hk4
  have hbl := (Below.refl w.heap.size w).alloc (Nat.le_refl _) (.cells #[.int .i64 K, .slice a1 n1 c1, .slice a2 n2 c2, .string (SL o.tree), .slice a3 n3 c3, .string (SL o.target), .string (SL o.name), .string (SL o.who), .int .i64 o.stamp, .string (SL o.text)] 26)
  have hcl := heap_alloc_new w (.cells #[.int .i64 K, .slice a1 n1 c1, .slice a2 n2 c2, .string (SL o.tree), .slice a3 n3 c3, .string (SL o.target), .string (SL o.name), .string (SL o.who), .int .i64 o.stamp, .string (SL o.text)] 26)
  have BL := Lib.hid hbl
  have ROW := Lib.hid (fun (W : World) (hb : Below (w.heap.size + 1) (w.alloc (.cells #[.int .i64 K, .slice a1 n1 c1, .slice a2 n2 c2, .string (SL o.tree), .slice a3 n3 c3, .string (SL o.target), .string (SL o.name), .string (SL o.who), .int .i64 o.stamp, .string (SL o.text)] 26)) W) => obj_cells ((hb.block w.heap.size (by omega)).trans hcl))
  clear h hf hents hups hb1 hb2 hb3 hb4 ht hk0 hk1 hk2 hk3 hk4 hn1 hn2 hn3 hA hB hC hK hv1 hv2 hv3 hv4 hvt hve hvu hbl hcl
  by_cases e1 : K = 1
  · subst e1
    have hk := K1.out rfl
    have HK := Lib.hid hk
    clear hk K0 K1 K2 K3 K4 HE HU HB2 HB3 HB4 HT ROW
    by_cases q1 : n1 ≤ 1048576
    · have q1' : (n1 : Int) ≤ 1048576 := by omega
      cases b1 with
      | true =>
        have hv : errO o = 0 := by unfold errO; rw [HK.out, decide_eq_true q1]; rfl
        have HV := Lib.hid hv
        clear hv q1
        go_enter Try.func30, Try.ntmps30
        go_wp2_with (first | (go_at_call 48; refine (HB1.out _).mono ?_; rintro e wn ⟨rfl, bn⟩; have BL := Lib.hid (BL.out.trans (bn.mono BL.out.size)); clear bn))
        go_ret
        exact ⟨by rw [HV.out]; rfl, BL.out⟩
      | false =>
        have hv : errO o = 1 := by unfold errO; rw [HK.out, decide_eq_true q1]; rfl
        have HV := Lib.hid hv
        clear hv q1
        go_enter Try.func30, Try.ntmps30
        go_wp2_with (first | (go_at_call 48; refine (HB1.out _).mono ?_; rintro e wn ⟨rfl, bn⟩; have BL := Lib.hid (BL.out.trans (bn.mono BL.out.size)); clear bn))
        go_ret
        exact ⟨by rw [HV.out]; rfl, BL.out⟩
    · have q1' : ¬ (n1 : Int) ≤ 1048576 := by omega
      have hv : errO o = 1 := by unfold errO; rw [HK.out, decide_eq_false q1]; rfl
      have HV := Lib.hid hv
      clear hv q1
      go_enter Try.func30, Try.ntmps30
      go_wp2
      go_ret
      exact ⟨by rw [HV.out]; rfl, BL.out⟩
  by_cases e2 : K = 2
  · subst e2
    have hk := K2.out rfl
    have HK := Lib.hid hk
    clear hk K0 K1 K2 K3 K4 HU HB1 HB3 HB4 HT ROW e1
    cases be with
    | true =>
      cases b2 with
      | true =>
        have hv : errO o = 0 := by unfold errO; rw [HK.out]; rfl
        have HV := Lib.hid hv
        clear hv 
        go_enter Try.func30, Try.ntmps30
        go_wp2_with (first | (go_at_call 49; refine (HE.out _ BL.out).mono ?_; rintro e _ ⟨rfl, m1, rfl⟩; have BL := Lib.hid (below_drewN BL.out m1)) | (go_at_call 48; refine (HB2.out _).mono ?_; rintro e wn ⟨rfl, bn⟩; have BL := Lib.hid (BL.out.trans (bn.mono BL.out.size)); clear bn))
        go_ret
        exact ⟨by rw [HV.out]; rfl, BL.out⟩
      | false =>
        have hv : errO o = 1 := by unfold errO; rw [HK.out]; rfl
        have HV := Lib.hid hv
        clear hv 
        go_enter Try.func30, Try.ntmps30
        go_wp2_with (first | (go_at_call 49; refine (HE.out _ BL.out).mono ?_; rintro e _ ⟨rfl, m1, rfl⟩; have BL := Lib.hid (below_drewN BL.out m1)) | (go_at_call 48; refine (HB2.out _).mono ?_; rintro e wn ⟨rfl, bn⟩; have BL := Lib.hid (BL.out.trans (bn.mono BL.out.size)); clear bn))
        go_ret
        exact ⟨by rw [HV.out]; rfl, BL.out⟩
    | false =>
      have hv : errO o = 1 := by unfold errO; rw [HK.out]; rfl
      have HV := Lib.hid hv
      clear hv 
      go_enter Try.func30, Try.ntmps30
      go_wp2_with (first | (go_at_call 49; refine (HE.out _ BL.out).mono ?_; rintro e _ ⟨rfl, m1, rfl⟩; have BL := Lib.hid (below_drewN BL.out m1)))
      go_ret
      exact ⟨by rw [HV.out]; rfl, BL.out⟩
  by_cases e3 : K = 3
  · subst e3
    have hk := K3.out rfl
    have HK := Lib.hid hk
    clear hk K0 K1 K2 K3 K4 HE HB1 HB2 HB4 e1 e2
    by_cases q1 : A = 32
    · have q1' : (A : Int) = 32 := by omega
      cases bu with
      | true =>
        cases bt with
        | true =>
          cases b3 with
          | true =>
            have hv : errO o = 0 := by unfold errO; rw [HK.out, decide_eq_true q1]; rfl
            have HV := Lib.hid hv
            clear hv q1
            go_enter Try.func30, Try.ntmps30
            go_wp2_with (first | (go_at_call 50; refine (HU.out _ BL.out).mono ?_; rintro e _ ⟨rfl, m1, rfl⟩; have BL := Lib.hid (below_drewN BL.out m1)) | (go_at_call 51; refine (HT.out _).mono ?_; rintro e wt ⟨rfl, bt'⟩; obtain ⟨r0, r1, r2, r3, r4, r5, r6, r7, r8, r9⟩ := ROW.out wt ((below_drewN (Below.refl (w.heap.size + 1) _) m1).trans (bt'.mono (by simp))); have BL := Lib.hid (BL.out.trans (bt'.mono BL.out.size)); clear bt') | (go_at_call 48; refine (HB3.out _).mono ?_; rintro e wn ⟨rfl, bn⟩; have BL := Lib.hid (BL.out.trans (bn.mono BL.out.size)); clear bn))
            go_ret
            exact ⟨by rw [HV.out]; rfl, BL.out⟩
          | false =>
            have hv : errO o = 1 := by unfold errO; rw [HK.out, decide_eq_true q1]; rfl
            have HV := Lib.hid hv
            clear hv q1
            go_enter Try.func30, Try.ntmps30
            go_wp2_with (first | (go_at_call 50; refine (HU.out _ BL.out).mono ?_; rintro e _ ⟨rfl, m1, rfl⟩; have BL := Lib.hid (below_drewN BL.out m1)) | (go_at_call 51; refine (HT.out _).mono ?_; rintro e wt ⟨rfl, bt'⟩; obtain ⟨r0, r1, r2, r3, r4, r5, r6, r7, r8, r9⟩ := ROW.out wt ((below_drewN (Below.refl (w.heap.size + 1) _) m1).trans (bt'.mono (by simp))); have BL := Lib.hid (BL.out.trans (bt'.mono BL.out.size)); clear bt') | (go_at_call 48; refine (HB3.out _).mono ?_; rintro e wn ⟨rfl, bn⟩; have BL := Lib.hid (BL.out.trans (bn.mono BL.out.size)); clear bn))
            go_ret
            exact ⟨by rw [HV.out]; rfl, BL.out⟩
        | false =>
          have hv : errO o = 1 := by unfold errO; rw [HK.out, decide_eq_true q1]; rfl
          have HV := Lib.hid hv
          clear hv q1
          go_enter Try.func30, Try.ntmps30
          go_wp2_with (first | (go_at_call 50; refine (HU.out _ BL.out).mono ?_; rintro e _ ⟨rfl, m1, rfl⟩; have BL := Lib.hid (below_drewN BL.out m1)) | (go_at_call 51; refine (HT.out _).mono ?_; rintro e wt ⟨rfl, bt'⟩; obtain ⟨r0, r1, r2, r3, r4, r5, r6, r7, r8, r9⟩ := ROW.out wt ((below_drewN (Below.refl (w.heap.size + 1) _) m1).trans (bt'.mono (by simp))); have BL := Lib.hid (BL.out.trans (bt'.mono BL.out.size)); clear bt'))
          go_ret
          exact ⟨by rw [HV.out]; rfl, BL.out⟩
      | false =>
        have hv : errO o = 1 := by unfold errO; rw [HK.out, decide_eq_true q1]; rfl
        have HV := Lib.hid hv
        clear hv q1
        go_enter Try.func30, Try.ntmps30
        go_wp2_with (first | (go_at_call 50; refine (HU.out _ BL.out).mono ?_; rintro e _ ⟨rfl, m1, rfl⟩; have BL := Lib.hid (below_drewN BL.out m1)))
        go_ret
        exact ⟨by rw [HV.out]; rfl, BL.out⟩
    · have q1' : ¬ (A : Int) = 32 := by omega
      have hv : errO o = 1 := by unfold errO; rw [HK.out, decide_eq_false q1]; rfl
      have HV := Lib.hid hv
      clear hv q1
      go_enter Try.func30, Try.ntmps30
      go_wp2
      go_ret
      exact ⟨by rw [HV.out]; rfl, BL.out⟩
  by_cases e4 : K = 4
  · subst e4
    have hk := K4.out rfl
    have HK := Lib.hid hk
    clear hk K0 K1 K2 K3 K4 HE HU HB1 HB2 HB3 e1 e2 e3
    by_cases q1 : B = 32
    · have q1' : (B : Int) = 32 := by omega
      by_cases q2 : 1 ≤ C
      · have q2' : (C : Int) ≥ 1 := by omega
        by_cases q3 : C ≤ 200
        · have q3' : (C : Int) ≤ 200 := by omega
          cases bt with
          | true =>
            cases b4 with
            | true =>
              have hv : errO o = 0 := by unfold errO; rw [HK.out, decide_eq_true q1, decide_eq_true q2, decide_eq_true q3]; rfl
              have HV := Lib.hid hv
              clear hv q1 q2 q3
              go_enter Try.func30, Try.ntmps30
              go_wp2_with (first | (go_at_call 51; refine (HT.out _).mono ?_; rintro e wt ⟨rfl, bt'⟩; obtain ⟨r0, r1, r2, r3, r4, r5, r6, r7, r8, r9⟩ := ROW.out wt (bt'.mono (by simp)); have BL := Lib.hid (BL.out.trans (bt'.mono BL.out.size)); clear bt') | (go_at_call 48; refine (HB4.out _).mono ?_; rintro e wn ⟨rfl, bn⟩; have BL := Lib.hid (BL.out.trans (bn.mono BL.out.size)); clear bn))
              go_ret
              exact ⟨by rw [HV.out]; rfl, BL.out⟩
            | false =>
              have hv : errO o = 1 := by unfold errO; rw [HK.out, decide_eq_true q1, decide_eq_true q2, decide_eq_true q3]; rfl
              have HV := Lib.hid hv
              clear hv q1 q2 q3
              go_enter Try.func30, Try.ntmps30
              go_wp2_with (first | (go_at_call 51; refine (HT.out _).mono ?_; rintro e wt ⟨rfl, bt'⟩; obtain ⟨r0, r1, r2, r3, r4, r5, r6, r7, r8, r9⟩ := ROW.out wt (bt'.mono (by simp)); have BL := Lib.hid (BL.out.trans (bt'.mono BL.out.size)); clear bt') | (go_at_call 48; refine (HB4.out _).mono ?_; rintro e wn ⟨rfl, bn⟩; have BL := Lib.hid (BL.out.trans (bn.mono BL.out.size)); clear bn))
              go_ret
              exact ⟨by rw [HV.out]; rfl, BL.out⟩
          | false =>
            have hv : errO o = 1 := by unfold errO; rw [HK.out, decide_eq_true q1, decide_eq_true q2, decide_eq_true q3]; rfl
            have HV := Lib.hid hv
            clear hv q1 q2 q3
            go_enter Try.func30, Try.ntmps30
            go_wp2_with (first | (go_at_call 51; refine (HT.out _).mono ?_; rintro e wt ⟨rfl, bt'⟩; obtain ⟨r0, r1, r2, r3, r4, r5, r6, r7, r8, r9⟩ := ROW.out wt (bt'.mono (by simp)); have BL := Lib.hid (BL.out.trans (bt'.mono BL.out.size)); clear bt'))
            go_ret
            exact ⟨by rw [HV.out]; rfl, BL.out⟩
        · have q3' : ¬ (C : Int) ≤ 200 := by omega
          have hv : errO o = 1 := by unfold errO; rw [HK.out, decide_eq_true q1, decide_eq_true q2, decide_eq_false q3]; rfl
          have HV := Lib.hid hv
          clear hv q1 q2 q3
          go_enter Try.func30, Try.ntmps30
          go_wp2
          go_ret
          exact ⟨by rw [HV.out]; rfl, BL.out⟩
      · have q2' : ¬ (C : Int) ≥ 1 := by omega
        have hv : errO o = 1 := by unfold errO; rw [HK.out, decide_eq_true q1, decide_eq_false q2]; rfl
        have HV := Lib.hid hv
        clear hv q1 q2
        go_enter Try.func30, Try.ntmps30
        go_wp2
        go_ret
        exact ⟨by rw [HV.out]; rfl, BL.out⟩
    · have q1' : ¬ (B : Int) = 32 := by omega
      have hv : errO o = 1 := by unfold errO; rw [HK.out, decide_eq_false q1]; rfl
      have HV := Lib.hid hv
      clear hv q1
      go_enter Try.func30, Try.ntmps30
      go_wp2
      go_ret
      exact ⟨by rw [HV.out]; rfl, BL.out⟩
  have hk := K0.out e1 e2 e3 e4
  have HK := Lib.hid hk
  clear hk K0 K1 K2 K3 K4 HE HU HB1 HB2 HB3 HB4 HT ROW
  have hv : errO o = 1 := by unfold errO; rw [HK.out]; rfl
  have HV := Lib.hid hv
  clear hv 
  go_enter Try.func30, Try.ntmps30
  go_wp2
  go_ret
  exact ⟨by rw [HV.out]; rfl, BL.out⟩
end Go.Proofs.Ytckbeeadkiiccaa
