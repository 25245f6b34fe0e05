/- The law's awake: the document's examples. -/
import Derived.Test.YtckbeeadkiiccaaCDec
import Derived.Test.YtckbeeadkiiccaaCEnc
import Derived.Test.YtckbeeadkiiccaaCRefC
import Derived.Deep.RegionHeld3
namespace Go.Proofs.Ytckbeeadkiiccaa
open Go.RowKit
def awB : ObjR := { zeroO 1 with data := [104, 105] }
def awT : ObjR := zeroO 2
def awC : ObjR := { zeroO 3 with tree := List.replicate 32 7, who := [97], stamp := 5 }
theorem aw_b : errO awB = 0 ∧ bytesO awB = [1, 104, 105] := by decide
theorem aw_t : errO awT = 0 ∧ bytesO awT = [2, 0] := by decide
theorem aw_c : errO awC = 0 ∧ bytesO awC = 3 :: (List.replicate 32 7 ++ [0, 1, 97, 5, 0]) := by decide
theorem aw_d : decO [5] = none := by decide
theorem modify_push (h : Array Obj) (x : Obj) (f : Obj → Obj) : (h.push x).modify h.size f = h.push (f x) := by
  apply Array.ext
  · simp
  · intro i h1 h2
    rw [Array.getElem_modify]
    by_cases e : h.size = i
    · subst e; simp
    · rw [if_neg e, Array.getElem_push, Array.getElem_push]
      have : i < h.size := by simp at h2; omega
      simp [this]
theorem conv_lit (w : World) (a b : Value) : (convert 22 22 (.slice (some ⟨w.heap.size, 0, none⟩) 2 2)).run Try.prog (w.alloc (.cells #[a, b] 5)) = .ok (.slice (some ⟨w.heap.size, 0, none⟩) 2 2) (w.alloc (.cells #[a, b] 5 (2, 3))) := by
  have h0 := heap_alloc_new w (.cells #[a, b] 5)
  have h1 : (w.alloc (.cells #[a, b] 5)).shape? w.heap.size = some (5, 2) := by unfold World.shape?; rw [h0]; rfl
  have h2 : (w.alloc (.cells #[a, b] 5)).freeze ⟨w.heap.size, 2, none⟩ 1 = w.alloc (.cells #[a, b] 5 (2, 3)) := by
    unfold World.freeze World.alloc
    rw [if_neg (by decide), modify_push]
    rfl
  simp [convert, run_underlying Try.underlying22, run_underlying Try.underlying5, markStringish, shape, freeze, Sem.run, Result.andThen, h1, h2]
/-- A row of bytes, as text, in every later world. -/
theorem OutAt.text {x : Nat} {w : World} {v : Value} {L : OB} (h : OutAt x w v L) : ∀ W, Below w.heap.size w W → (convert 22 9 v).run Try.prog W = .ok (.string (SL L)) W := by
  obtain ⟨ao, cap, B, rfl, s, _⟩ := h.src
  exact fun W hb => convert_src (s.below hb)
set_option maxRecDepth 100000 in
set_option maxHeartbeats 4000000 in
theorem awake_any (w : World) : Calls Try.prog 10 #[] w fun e w' => e = .returned (.bool true) ∧ Below w.heap.size w w' := by
  obtain ⟨W1, hW1⟩ : ∃ W1, W1 = w.alloc (.cells #[.int .u8 104, .int .u8 105] 5 (2, 3)) := ⟨_, rfl⟩
  have hb1 : Below w.heap.size w W1 := by rw [hW1]; exact (Below.refl _ _).alloc (Nat.le_refl _) _
  have hs1 : SrcAt W1 (some ⟨w.heap.size, 0, none⟩) 2 [104, 105] w.heap.size 0 := by
    have h0 : (w.alloc (.cells #[.int .u8 104, .int .u8 105] 5 (2, 3))).heap[w.heap.size]? = _ := heap_alloc_new w _
    refine ⟨by decide, by simp [maxLen], fun _ => rfl, fun h => by (cases h), fun _ => by rw [hW1]; simp, fun j hj => ?_⟩
    rw [hW1, Nat.zero_add, cell_of_row _ _ _ _ _ _ h0]
    match j, hj with
    | 0, _ => rfl
    | 1, _ => rfl
  have h1 := encode_any (fun _ => True) awB (.slice (some ⟨w.heap.size, 0, none⟩) 2 2) nilS nilS W1 ⟨⟨_, _, _, _, rfl, hs1, fun _ => trivial⟩, entsAt_nil _ _, textsAt_nil _ _⟩
  have h2 := fun W => encode_any (fun _ => True) awT nilS nilS nilS W ⟨bytesAt_nil _ _, entsAt_nil _ _, textsAt_nil _ _⟩
  have h3 := fun W => encode_any (fun _ => True) awC nilS nilS nilS W ⟨bytesAt_nil _ _, entsAt_nil _ _, textsAt_nil _ _⟩
  have h4 := fun W => decode_any (some ⟨W.heap.size, 0, none⟩) 1 W.heap.size 0 [5] (W.alloc (.cells #[B8 5] 5)) (src_new W [5] (by simp [maxLen])) (by simp)
  rw [aw_b.1, aw_b.2] at h1
  simp only [aw_t.1, aw_t.2] at h2
  simp only [aw_c.1, aw_c.2] at h3
  unfold DecTo at h4
  rw [aw_d] at h4
  unfold objV awB zeroO at h1
  unfold objV awT zeroO at h2
  unfold objV awC zeroO at h3
  unfold objV zeroO at h4
  have hid := lawId_any 7
  obtain ⟨R7, hR7⟩ : ∃ R, R = List.replicate 32 (7 : UInt8) := ⟨_, rfl⟩
  rw [← hR7] at h3 hid
  have H1 := Lib.hid h1
  have H2 := Lib.hid h2
  have H3 := Lib.hid h3
  have H4 := Lib.hid h4
  have HID := Lib.hid hid
  have HW := Lib.hid hW1
  have BB := Lib.hid hb1
  have HR := Lib.hid hR7
  clear h1 h2 h3 h4 hid hW1 hb1 hs1 hR7
  go_enter Try.func10, Try.ntmps10
  have hcs := conv_lit w (.int .u8 104) (.int .u8 105)
  go_wp2_with fail
  rw [← HW.out]
  clear hcs
  refine H1.out.mono ?_
  rintro e w2 ⟨v2, rfl, o2, b2⟩
  have C2 := Lib.hid o2.text
  have BB := Lib.hid (BB.out.trans (b2.mono BB.out.size))
  clear o2 b2
  go_wp2_with fail
  refine (H2.out _).mono ?_
  rintro e w3 ⟨v3, rfl, o3, b3⟩
  have C3 := Lib.hid o3.text
  have BB := Lib.hid (BB.out.trans (b3.mono BB.out.size))
  have B23 := Lib.hid b3
  clear o3 b3
  go_wp2_with fail
  refine (HID.out _).mono ?_
  rintro e w4 ⟨rfl, b4⟩
  have BB := Lib.hid (BB.out.trans (b4.mono BB.out.size))
  have B34 := Lib.hid b4
  clear b4
  go_wp2_with fail
  refine (H3.out _).mono ?_
  rintro e w5 ⟨v5, rfl, o5, b5⟩
  have C5 := Lib.hid o5.text
  have BB := Lib.hid (BB.out.trans (b5.mono BB.out.size))
  have B45 := Lib.hid b5
  clear o5 b5
  go_wp2_with fail
  refine (H4.out _).mono ?_
  rintro e w6 ⟨b6, rfl⟩
  have b56 := ((Below.refl w5.heap.size w5).alloc (Nat.le_refl _) (.cells #[B8 5] 5)).trans (b6.mono (by simp))
  have BB := Lib.hid (BB.out.trans (b56.mono BB.out.size))
  have B56 := Lib.hid b56
  clear b6 b56
  go_wp2_with fail
  have hcv : ∀ W, Below w6.heap.size w6 W → (fun W => (convert 22 9 v2).run Try.prog W = .ok (.string (SL [1, 104, 105])) W ∧ (convert 22 9 v3).run Try.prog W = .ok (.string (SL [2, 0])) W ∧ (convert 22 9 v5).run Try.prog W = .ok (.string (SL (3 :: (R7 ++ [0, 1, 97, 5, 0])))) W) W := fun W hb => by
    have b5 := B56.out.trans (hb.mono B56.out.size)
    have b4 := B45.out.trans (b5.mono B45.out.size)
    have b3 := B34.out.trans (b4.mono B34.out.size)
    have b2 := B23.out.trans (b3.mono B23.out.size)
    exact ⟨C2.out W b2, C3.out W b3, C5.out W b5⟩
  have CONV := Lib.hid hcv
  have l1 := SL_toList [1, 104, 105]
  have l2 := SL_toList [2, 0]
  have l3 := SL_toList (3 :: (R7 ++ [0, 1, 97, 5, 0]))
  have l4 := SL_toList R7
  have k1 : (SL R7).size = 32 := by rw [SL_size, HR.out]; rfl
  have l6 : ((⟨#[3]⟩ : ByteArray) ++ SL R7 ++ (⟨#[0, 1, 97, 5, 0]⟩ : ByteArray)).toList = 3 :: (R7 ++ [0, 1, 97, 5, 0]) := by
    rw [show ((⟨#[3]⟩ : ByteArray) ++ SL R7 ++ (⟨#[0, 1, 97, 5, 0]⟩ : ByteArray)) = SL (3 :: (R7 ++ [0, 1, 97, 5, 0])) from ByteArray.ext (by simp [SL])]
    exact l3
  have l7 : ((3 : UInt8) :: (R7 ++ [0, 1, 97, 5, 0]) == 3 :: (R7 ++ [0, 1, 97, 5, 0])) = true := beq_self_eq_true _
  have BN := Lib.hid (((Below.refl w6.heap.size w6).alloc (Nat.le_refl _) (.cells #[.int .i64 0, .slice none 0 0, .slice none 0 0, .string (SL []), .slice none 0 0, .string (SL []), .string (SL []), .string (SL []), .int .i64 0, .string (SL [])] 26)).drew)
  clear hcv
  first
    | go_region_held3 (fun W => (convert 22 9 v2).run Try.prog W = .ok (.string (SL [1, 104, 105])) W ∧ (convert 22 9 v3).run Try.prog W = .ok (.string (SL [2, 0])) W ∧ (convert 22 9 v5).run Try.prog W = .ok (.string (SL (3 :: (R7 ++ [0, 1, 97, 5, 0])))) W) (first | exact CONV.out _ BN.out) ((go_at_call 26; refine (HID.out _).mono ?_; rintro e w8 ⟨rfl, b8⟩; have BN := Lib.hid (BN.out.trans (b8.mono (by have h1 := BN.out.size; exact h1))); clear b8))
    | fail "held"
  go_wp2
  go_ret
  exact ⟨rfl, BB.out.trans (BN.out.mono BB.out.size)⟩
end Go.Proofs.Ytckbeeadkiiccaa
