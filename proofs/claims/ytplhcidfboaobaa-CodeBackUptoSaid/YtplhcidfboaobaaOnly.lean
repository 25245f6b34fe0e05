/- The walk of CodeOnly. -/
import Derived.Test.YtplhcidfboaobaaTakes
namespace Go.Proofs.Ytplhcidfboaobaa
open Go.RowKit
set_option maxRecDepth 100000 in
set_option maxHeartbeats 800000 in
theorem only_none (ao : Option Addr) (cap : Nat) (bs : List UInt8) (B off : Nat) (w : World) (h : SrcAt w ao cap bs B off) (hs : bs.length ≤ 140737488355328) (hp : parse bs = none) :
    Calls Try.prog 6 #[.slice ao bs.length cap] w fun e w' => e = .returned (.bool true) ∧ Below w.heap.size w w' := by
  go_enter Try.func6, Try.ntmps6
  go_wp2_with fail
  refine (awake_any _).mono ?_
  rintro e w1 ⟨rfl, b1⟩
  go_wp2_with fail
  refine (takeNum_no ao cap bs B off _ (h.below b1) (by omega) hp).mono ?_
  rintro e w2 ⟨rfl, rfl⟩
  go_wp2_with fail
  refine (takeInt_no ao cap bs B off _ (h.below b1) (by omega) hp).mono ?_
  rintro e w2 ⟨rfl, rfl⟩
  go_wp2_with fail
  refine (takeText_no ao cap bs B off _ _ (h.below b1) (by omega) (.inl hp)).mono ?_
  rintro e w2 ⟨rfl, rfl⟩
  go_wp2_with fail
  go_ret
  exact ⟨rfl, b1⟩
/-- append of a slice that came in, where a guard said yes. -/
theorem wpList_append_src_yes {ops : Array Oper} {rest : List Oper} {o : Oper} {a : Act} {w : World} {Q : Exit → Act → World → Prop}
    (hgd : Region.wanted o (yielded ops a.tmps) = true) (s x : Operand) (hop : o.op = Op.call { callee := Callee.builtin Builtin.append, args := #[s, x], argTypes := #[22, 22] })
    (base : Nat) (v : Value) (n : Nat) (xs : List Value) (hS : a.eval s = v) (hown : w.ownsRow base 5 1 v n xs) (ao : Option Addr) (m c : Nat) (hX : a.eval x = .slice ao m c) (news : List Value) (hn : news.length = m)
    (hbare : ao = none → m = 0 ∧ c = 0) (hc : ∀ ad, ao = some ad → ∀ j u, news[j]? = some u → w.cell? (ad.add j) = some u) (h1c : ∀ u ∈ news, u.oneCell' = true) (hb : n + m ≤ 140737488355328) (hbase : base ≤ w.heap.size)
    (hK : ∀ v' w', Hid (w'.ownsRow base 5 1 v' (n + m) (xs ++ news)) → w.grownBy w' v.ownBlock → wpList Try.prog ops Q rest (a.put o.dst v') w') : wpList Try.prog ops Q (o :: rest) a w := by
  refine wpList_step fun K hK' => ?_
  rw [if_pos hgd]
  obtain ⟨v', w', hrun, r1, r2, r3⟩ := run_append_src w o.type base v n xs hown ao m c news hn hbare hc h1c hb hbase
  unfold Oper.wp
  simp [execOp, hop, resolve, invoke, builtin, hS, hX, hrun, Result.andThen]
  exact hK' _ _ (hK v' w' r1 r2)
/-- What append of the rest leaves. -/
theorem own_back {w : World} {base l m : Nat} {v : Value} {L R bs : List UInt8} (h : Hid (w.ownsRow base 5 1 v (l + m) (L.map B8 ++ R.map B8))) (hl : l = L.length) (hm : m = R.length) (he : bs = L ++ R) :
    ∃ ao cap B, v = .slice ao bs.length cap ∧ SrcAt w ao cap bs B 0 := by
  have h1 := h.out
  rw [← List.map_append, ← he, hl, hm, ← List.length_append, ← he] at h1
  obtain ⟨ao, cap, B, h2, h3, _⟩ := src_of_own h1
  exact ⟨ao, cap, B, h2, h3⟩
set_option maxRecDepth 100000 in
set_option maxHeartbeats 1600000 in
theorem only_some (ao : Option Addr) (cap : Nat) (bs : List UInt8) (B off : Nat) (w : World) (h : SrcAt w ao cap bs B off) (hs : bs.length ≤ 140737488355328) (n : Nat) (r : List UInt8) (hn : n ≤ 4611686018427387903) (he : bs = numL n ++ r) :
    Calls Try.prog 6 #[.slice ao bs.length cap] w fun e w' => e = .returned (.bool true) ∧ Below w.heap.size w w' := by
  obtain ⟨L, hL⟩ : ∃ L : List UInt8, L = numL n := ⟨_, rfl⟩
  have pn : ∀ W : World, Calls Try.prog 12 #[.slice none 0 0, .int .i64 (n : Int)] W fun e w' => ∃ v, e = .returned v ∧ w'.ownsRow W.heap.size 5 1 v L.length (L.map B8) ∧ Below W.heap.size W w' := fun W => by
    have h1 := putNum_any none 0 [] 0 0 (n : Int) W (src_nil W) (by decide)
    rw [List.nil_append, clampN_nat n hn, ← hL] at h1
    exact h1
  have pi : ∀ W : World, Calls Try.prog 16 #[.slice none 0 0, .int .i64 (unzig n)] W fun e w' => ∃ v, e = .returned v ∧ w'.ownsRow W.heap.size 5 1 v L.length (L.map B8) ∧ Below W.heap.size W w' := fun W => by
    have h1 := putInt_any none 0 [] 0 0 (unzig n) W (src_nil W) (by decide)
    have e1 : intL (unzig n) = L := by
      unfold intL
      rw [clampI_in_self _ (unzig_in n hn), zig_unzig, hL]
    rw [List.nil_append, e1] at h1
    exact h1
  have tn := fun W hW => takeNum_yes ao cap bs B off W hW hs n r hn he
  have ti := fun W hW => takeInt_yes ao cap bs B off W hW hs n r hn he
  rw [← hL] at he
  have hlr : L.length + r.length ≤ 140737488355328 := by
    rw [he, List.length_append] at hs
    exact hs
  obtain ⟨z, hz⟩ : ∃ z, z = unzig n := ⟨_, rfl⟩
  rw [← hz] at pi ti
  obtain ⟨l, hl⟩ : ∃ l, l = L.length := ⟨_, rfl⟩
  obtain ⟨m, hm⟩ : ∃ m, m = r.length := ⟨_, rfl⟩
  rw [← hl, ← hm] at hlr
  rw [← hl] at pn pi
  rw [← hm] at tn ti
  have HTC := Lib.hid (text_cases bs (bs.length : Int))
  have PN := Lib.hid pn
  have PI := Lib.hid pi
  have TN := Lib.hid tn
  have TI := Lib.hid ti
  have HE := Lib.hid he
  have HLL := Lib.hid hl
  have HMM := Lib.hid hm
  clear hL pn pi tn ti hz hl hm hn he
  go_enter Try.func6, Try.ntmps6
  go_wp2_with fail
  refine (awake_any _).mono ?_
  rintro e w1 ⟨rfl, b1⟩
  go_wp2_with fail
  refine (TN.out _ (h.below b1)).mono ?_
  rintro e w2 ⟨a2, k2, B2, rfl, s2, b2⟩
  have e2 := b1.trans (b2.mono b1.size)
  clear b1 b2
  go_wp2_with fail
  refine (PN.out _).mono ?_
  rintro e w3 ⟨v3, rfl, o3, b3⟩
  have e3 := e2.trans (b3.mono e2.size)
  have s3 := s2.below b3
  have hs3 := b3.size
  have hw2 := e2.size
  clear b3 e2 s2
  have O3 := Lib.hid o3
  clear o3
  go_wp2_with (at_builtin; refine wpList_append_src_yes rfl _ _ rfl w2.heap.size _ l _ rfl O3.out a2 m k2 rfl (r.map B8) (by rw [List.length_map]; exact HMM.out.symm) (fun hh => by rw [HMM.out]; exact s3.bare hh) s3.cells (B8_one _) hlr hs3 ?_; intro v4 w4 O4 hg4; have G4 := Lib.hid hg4; clear hg4)
  obtain ⟨a4, k4, B4, rfl, s4⟩ := own_back O4 HLL.out HMM.out HE.out
  have e4 := e3.grown G4.out e3.size (fun k hk => Nat.le_trans hw2 ((O3.out.lt k hk).1))
  clear O3 O4 G4 s3 hs3 e3
  go_wp2_with fail
  refine (same_true _ s4 (h.below e4)).mono ?_
  rintro e x4 ⟨rfl, rfl⟩
  go_wp2_with fail
  refine (TI.out _ (h.below e4)).mono ?_
  rintro e w5 ⟨a5, k5, B5, rfl, s5, b5⟩
  have e5 := e4.trans (b5.mono e4.size)
  clear b5 e4 s4
  go_wp2_with fail
  refine (PI.out _).mono ?_
  rintro e w6 ⟨v6, rfl, o6, b6⟩
  have e6 := e5.trans (b6.mono e5.size)
  have s6 := s5.below b6
  have hs6 := b6.size
  have hw5 := e5.size
  clear b6 e5 s5
  have O6 := Lib.hid o6
  clear o6
  go_wp2_with (at_builtin; refine wpList_append_src_yes rfl _ _ rfl w5.heap.size _ l _ rfl O6.out a5 m k5 rfl (r.map B8) (by rw [List.length_map]; exact HMM.out.symm) (fun hh => by rw [HMM.out]; exact s6.bare hh) s6.cells (B8_one _) hlr hs6 ?_; intro v7 w7 O7 hg7; have G7 := Lib.hid hg7; clear hg7)
  obtain ⟨a7, k7, B7, rfl, s7⟩ := own_back O7 HLL.out HMM.out HE.out
  have e7 := e6.grown G7.out e6.size (fun k hk => Nat.le_trans hw5 ((O6.out.lt k hk).1))
  clear O6 O7 G7 s6 hs6 e6
  go_wp2_with fail
  refine (same_true _ s7 (h.below e7)).mono ?_
  rintro e x7 ⟨rfl, rfl⟩
  rcases HTC.out with hno | ⟨t, rest, het, hmt⟩
  · go_wp2_with fail
    refine (takeText_no ao cap bs B off _ _ (h.below e7) (by omega) hno).mono ?_
    rintro e w8 ⟨rfl, rfl⟩
    clear hno
    go_wp2_with fail
    go_ret
    exact ⟨rfl, e7⟩
  · have tt := fun W hW => takeText_yes ao cap bs B off (bs.length : Int) W hW hs t rest het hmt
    obtain ⟨M, hM⟩ : ∃ M : List UInt8, M = numL t.length ++ t := ⟨_, rfl⟩
    rw [← List.append_assoc, ← hM] at het
    have hlt : M.length + rest.length ≤ 140737488355328 := by
      rw [het, List.length_append] at hs
      exact hs
    obtain ⟨S, hS⟩ : ∃ S, S = SL t := ⟨_, rfl⟩
    have hSs : S.size = t.length := by rw [hS, SL_size]
    have pt : ∀ W : World, Calls Try.prog 14 #[.slice none 0 0, .string S] W fun e w' => ∃ v, e = .returned v ∧ w'.ownsRow W.heap.size 5 1 v M.length (M.map B8) ∧ Below W.heap.size W w' := fun W => by
      have h1 := putText_any none 0 [] 0 0 S W (src_nil W) (by
        have h2 : t.length ≤ M.length := by rw [hM, List.length_append]; omega
        rw [List.length_nil]; omega)
      have e1 : S.data.toList = t := by rw [hS]; rfl
      rw [List.nil_append, hSs, e1, ← hM] at h1
      exact h1
    rw [← hS] at tt
    obtain ⟨l2, hl2⟩ : ∃ l2, l2 = M.length := ⟨_, rfl⟩
    obtain ⟨m2, hm2⟩ : ∃ m2, m2 = rest.length := ⟨_, rfl⟩
    rw [← hl2, ← hm2] at hlt
    rw [← hl2] at pt
    rw [← hm2] at tt
    have TT := Lib.hid tt
    have PT := Lib.hid pt
    have HL2 := Lib.hid hl2
    have HM2 := Lib.hid hm2
    have HE2 := Lib.hid het
    clear tt pt hl2 hm2 het hM hS hSs hmt s7
    go_wp2_with fail
    refine (TT.out _ (h.below e7)).mono ?_
    rintro e w8 ⟨a8, k8, B8', rfl, s8, b8⟩
    have e8 := e7.trans (b8.mono e7.size)
    clear b8 e7
    go_wp2_with fail
    refine (PT.out _).mono ?_
    rintro e w9 ⟨v9, rfl, o9, b9⟩
    have e9 := e8.trans (b9.mono e8.size)
    have s9 := s8.below b9
    have hs9 := b9.size
    have hw8 := e8.size
    clear b9 e8 s8
    have O9 := Lib.hid o9
    clear o9
    go_wp2_with (at_builtin; refine wpList_append_src_yes rfl _ _ rfl w8.heap.size _ l2 _ rfl O9.out a8 m2 k8 rfl (rest.map B8) (by rw [List.length_map]; exact HM2.out.symm) (fun hh => by rw [HM2.out]; exact s9.bare hh) s9.cells (B8_one _) hlt hs9 ?_; intro v10 w10 O10 hg10; have G10 := Lib.hid hg10; clear hg10)
    obtain ⟨a10, k10, B10, rfl, s10⟩ := own_back O10 HL2.out HM2.out HE2.out
    have e10 := e9.grown G10.out e9.size (fun k hk => Nat.le_trans hw8 ((O9.out.lt k hk).1))
    clear O9 O10 G10 s9 hs9 e9
    go_wp2_with fail
    refine (same_true _ s10 (h.below e10)).mono ?_
    rintro e x10 ⟨rfl, rfl⟩
    go_wp2_with fail
    go_ret
    exact ⟨rfl, e10⟩
theorem only_law (ao : Option Addr) (cap : Nat) (bs : List UInt8) (B off : Nat) (w : World) (h : SrcAt w ao cap bs B off) (hs : bs.length ≤ 140737488355328) :
    Calls Try.prog 6 #[.slice ao bs.length cap] w fun e w' => e = .returned (.bool true) ∧ Below w.heap.size w w' := by
  rcases parse_cases bs with hp | ⟨n, r, hn, he⟩
  · exact only_none ao cap bs B off w h hs hp
  · exact only_some ao cap bs B off w h hs n r hn he
end Go.Proofs.Ytplhcidfboaobaa
