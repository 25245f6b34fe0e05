/- The walk of PressCut. -/
import Derived.Test.YtjieljmlpbiidaaRoom
import Derived.Test.YtjieljmlpbiidaaLike
namespace Go.Proofs.Ytjieljmlpbiidaa
open Go.RowKit
theorem head_of_prefix {b p r : List UInt8} (hb : b.length ≤ 281474976710656) (h : pressL b = p ++ r ∨ p = pressL b ++ r) {s k : Nat} (hp : parse p = some (s, k)) : s = b.length := by
  obtain ⟨hs, q, he, _⟩ := parse_some hp
  unfold pressL at h
  rcases h with h | h
  · rw [he, List.append_assoc] at h
    exact (numL_inj (by omega) hs h).1.symm
  · rw [he, List.append_assoc] at h
    exact (numL_inj hs (by omega) h).1
theorem press_pos (b : List UInt8) : 0 < (pressL b).length := by
  unfold pressL
  have := numL_pos b.length
  rw [List.length_append]; omega
set_option maxRecDepth 100000 in
set_option maxHeartbeats 1600000 in
theorem cut_law (ao : Option Addr) (cap : Nat) (bs : List UInt8) (B off : Nat) (at_ more : Int) (w : World) (h : SrcAt w ao cap bs B off) (hs : bs.length ≤ 140737488355328) (_ha : (Lit.int .i64 at_).wf = true) (hmo : (Lit.int .u8 more).wf = true) :
    Calls Try.prog 7 #[.slice ao bs.length cap, .int .i64 at_, .int .u8 more] w fun e w' => e = .returned (.bool true) ∧ Below w.heap.size w w' := by
  obtain ⟨u, hu, hau⟩ := and_small at_ 65535 (by decide)
  have hau' : bits .and .i64 at_ 65535 = (u : Int) := hau
  obtain ⟨x, rfl⟩ := byte_of hmo
  obtain ⟨i0, hi, hz0, hz1, hz2⟩ := info_parts info5
  have hp := fun (W : World) (hW : SrcAt W ao cap bs B off) => press_any ao cap bs B off W hW hs
  have hw := press_wide bs
  have hpos := press_pos bs
  have ho1 := fun (j : Nat) (hj : j < (pressL bs).length) (a : Option Addr) (c b o : Nat) (W : World) (hW : SrcAt W a c ((pressL bs).take j) b o) => open_any a c ((pressL bs).take j) b o (bs.length : Int) W hW (by rw [List.length_take]; omega)
    (fun s k hpp _ => by
      have := head_of_prefix (b := bs) (by omega) (.inl (List.take_append_drop j (pressL bs)).symm) hpp
      omega)
  have ho2 := fun (a : Option Addr) (c b o : Nat) (W : World) (hW : SrcAt W a c (pressL bs ++ [x]) b o) => open_any a c (pressL bs ++ [x]) b o (bs.length : Int) W hW (by rw [List.length_append]; simp; omega)
    (fun s k hpp _ => by
      have := head_of_prefix (b := bs) (by omega) (.inr rfl) hpp
      omega)
  have hc1 : ∀ j, j < (pressL bs).length → openL ((pressL bs).take j) (bs.length : Int) = none := fun j hj => open_cut (by omega) hj _
  have hc2 : openL (pressL bs ++ [x]) (bs.length : Int) = none := open_more (by omega) x _
  obtain ⟨L, hL⟩ : ∃ L, L = pressL bs := ⟨_, rfl⟩
  rw [← hL] at hp ho1 ho2 hw hpos hc1 hc2
  obtain ⟨n, hn⟩ : ∃ n, n = bs.length := ⟨_, rfl⟩
  rw [← hn] at hp ho1 ho2 hw hs hc1 hc2 ⊢
  obtain ⟨m, hm⟩ : ∃ m, m = L.length := ⟨_, rfl⟩
  obtain ⟨j, hj⟩ : ∃ j, j = u % m := ⟨_, rfl⟩
  have hjm : j < m := by rw [hj]; exact Nat.mod_lt _ (by omega)
  have hji : (u : Int) % (m : Int) = (j : Int) := by rw [hj]; exact (Int.natCast_emod u m).symm
  have hjl : (L.take j).length = j := by rw [List.length_take]; omega
  have h1 : ∀ (a : Option Addr) (c b o : Nat) (W : World), SrcAt W a c (L.take j) b o → Calls Try.prog 14 #[.slice a j c, .int .i64 (n : Int)] W (Opened W none) := fun a c b o W hW => by
    have := ho1 j (by omega) a c b o W hW
    rw [hc1 j (by omega), hjl] at this
    exact this
  have hl2 : (L ++ [x]).length = m + 1 := by rw [List.length_append, ← hm]; rfl
  have h2 : ∀ (a : Option Addr) (c b o : Nat) (W : World), SrcAt W a c (L ++ [x]) b o → Calls Try.prog 14 #[.slice a (m + 1) c, .int .i64 (n : Int)] W (Opened W none) := fun a c b o W hW => by
    have := ho2 a c b o W hW
    rw [hc2, hl2] at this
    exact this
  have hmz : ((m : Int) == 0) = false := by simp; omega
  have hm1 : (1 : Int) ≤ (m : Int) := by omega
  have hmw : m ≤ 143000000000000 := by omega
  have HP := Lib.hid hp
  have H1 := Lib.hid h1
  have H2 := Lib.hid h2
  have HM := Lib.hid hm
  have HL2 := Lib.hid hl2
  clear hp hL hn ho1 ho2 hau hm hmo _ha hc1 hc2 h1 h2 hj hjl hl2 hpos hw hs
  go_enter Try.func7, Try.ntmps7
  go_wp2_with fail
  refine (awake_any _).mono ?_
  rintro e w1 ⟨rfl, b1⟩
  go_wp2_with fail
  refine (HP.out _ (h.below b1)).mono ?_
  rintro e w2 ⟨v2, rfl, o2, b2⟩
  have e2 := b1.trans (b2.mono b1.size)
  obtain ⟨a2, c2, B2, rfl, s2, _⟩ := src_of_own o2
  obtain ⟨a3, hs3, s3⟩ := s2.slice_h j (by have := HM.out; omega)
  rw [← HM.out] at hs3 ⊢
  have hj0 : (0 : Int) ≤ (j : Int) := by omega
  have hjmI : (j : Int) ≤ (m : Int) := by omega
  clear o2 b1 b2
  go_wp2_with fail
  refine (H1.out _ _ _ _ _ s3).mono ?_
  rintro e w3 ⟨rfl, b3⟩
  have e3 := e2.trans (b3.mono e2.size)
  have s4 := s2.below b3
  have hz3 := e3.size
  clear b3 e2 s3 s2 hs3 hji hau'
  go_wp2_with (at_builtin; first | (refine wpList_append_src rfl _ _ rfl w.heap.size _ 0 [] rfl (owns_of_row (heap_alloc_new _ _) hz3 (Nat.le_refl _) (Nat.zero_le _) rfl rfl rfl) a2 m c2 rfl (L.map B8) (by rw [List.length_map]; exact HM.out.symm) (fun hh => by rw [HM.out]; exact s4.bare hh) (fun ad had k v hk => (s4.below ((Below.refl _ _).alloc (Nat.le_refl _) _)).cells ad had k v hk) (B8_one _) (by omega) (by simp; omega) ?_; intro v5 w5 O5 G5 V5; have P5 := Lib.hid (own_first O5); have bel5 := (e3.alloc hz3 _).grown G5 (by simp; omega) (fun k hk => by cases hk; exact hz3); clear O5 G5 V5) | (refine wpList_append_own_wide _ rfl _ _ 22 rfl w.heap.size 5 i0 (.int .u8 0) 1 1 Try.underlying22 hi hz0 hz1 hz2 rfl (by decide) _ m _ rfl (P5.out.alloc _) ⟨_, 0, none⟩ 1 1 _ rfl rfl (news_one _ _) (by simp [Value.oneCell']) (by unfold maxLen; omega) (by omega) (by have := bel5.size; simp; omega) ?_; intro v6 w6 hown6 hgrow6 _; have O6 := Lib.hid hown6; have G6 := Lib.hid hgrow6; clear hown6 hgrow6))
  have bel6 : Below w.heap.size w w6 := (bel5.alloc bel5.size _).grown G6.out (by have := bel5.size; simp; omega) (fun k hk => (P5.out.lt k hk).1)
  have h6 := O6.out
  have e6 : L.map B8 ++ [(.int .u8 (x.toNat : Int) : Value)] = (L ++ [x]).map B8 := by rw [List.map_append]; rfl
  rw [e6, ← HL2.out] at h6
  obtain ⟨a6, c6, B6, rfl, s6, _⟩ := src_of_own h6
  rw [HL2.out]
  clear h6 e6 O6 G6 P5 s4 bel5 e3
  go_wp2_with fail
  refine (H2.out _ _ _ _ _ s6).mono ?_
  rintro e w7 ⟨rfl, b7⟩
  have e7 := bel6.trans (b7.mono bel6.size)
  go_wp2_with fail
  go_ret
  exact ⟨rfl, e7⟩
end Go.Proofs.Ytjieljmlpbiidaa
