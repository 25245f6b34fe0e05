/- ObjectDecodes, for every slice of bytes: the call returns true, and the arguments read as they did. No condition. -/
import Derived.Test.YtckbeeadkiiccaaCAwake
import Derived.Test.YtckbeeadkiiccaaCDec
import Derived.Test.YtckbeeadkiiccaaCRefDD
import Derived.Test.YtckbeeadkiiccaaCSameT
import Derived.Deep.RegionHeld3
import Derived.Test.YtckbeeadkiiccaaCOpen
import Derived.ChangeMaps5
namespace Go.Proofs.Ytckbeeadkiiccaa
open Go.RowKit
/-- What both Decodes answer: one object, one error. -/
theorem dec_same (b : OB) : ∃ (o : ObjR) (k : Int), ∀ w e w', DecTo b w e w' → Below w.heap.size w w' ∧ ∃ dv ev uv, e = .returned (.tuple #[objV o dv ev uv, .int .i64 k]) ∧ ObjIn w' (fun j => w.heap.size ≤ j) o dv ev uv := by
  cases hd : decO b with
  | none =>
    refine ⟨zeroO 0, 2, fun w e w' h => ?_⟩
    unfold DecTo at h
    rw [hd] at h
    exact ⟨h.1, nilS, nilS, nilS, h.2, bytesAt_nil _ _, entsAt_nil _ _, textsAt_nil _ _⟩
  | some o =>
    refine ⟨o, 0, fun w e w' h => ?_⟩
    unfold DecTo at h
    rw [hd] at h
    exact h
theorem ents_le {w : World} {F : Nat → Prop} {v : Value} {l : List EntR} (h : EntsAt w F v l) : l.length ≤ maxLen := by
  obtain ⟨_, _, _, _, _, s⟩ := h
  exact Nat.le_trans s.le s.top
theorem texts_le {w : World} {F : Nat → Prop} {v : Value} {l : List OB} (h : TextsAt w F v l) : l.length ≤ maxLen := by
  obtain ⟨_, _, _, _, _, s⟩ := h
  exact Nat.le_trans s.le s.top
set_option maxRecDepth 100000 in
set_option maxHeartbeats 16000000 in
theorem decodes_any (ao : Option Addr) (cap B off : Nat) (b : OB) (w : World) (h : SrcAt w ao cap b B off) (hl : b.length ≤ 140737488355328) :
    Calls Try.prog 4 #[.slice ao b.length cap] w fun e w' => e = .returned (.bool true) ∧ Below w.heap.size w w' := by
  have hde := fun (W : World) (hb : Below w.heap.size w W) => decode_any ao cap B off b W (h.below hb) hl
  have hrd := fun (W : World) (hb : Below w.heap.size w W) => refDecode_any ao cap B off b W (h.below hb) hl
  obtain ⟨o, k, hsame⟩ := dec_same b
  obtain ⟨nb, hnb⟩ : ∃ n, n = b.length := ⟨_, rfl⟩
  rw [← hnb] at hde hrd ⊢
  have HAW := Lib.hid awake_any
  have HDE := Lib.hid hde
  have HRD := Lib.hid hrd
  have HSA := Lib.hid hsame
  clear hde hrd hsame hnb h hl
  go_enter Try.func4, Try.ntmps4
  go_wp2_with fail
  refine (HAW.out _).mono ?_
  rintro e w2 ⟨rfl, b2⟩
  have BB := Lib.hid b2
  clear b2
  go_wp2_with fail
  refine (HDE.out _ BB.out).mono ?_
  rintro e w3 d3
  obtain ⟨b3, dv3, ev3, uv3, rfl, i3⟩ := HSA.out _ _ _ d3
  have BB := Lib.hid (BB.out.trans (b3.mono BB.out.size))
  clear d3 b3
  obtain ⟨a4, c4, rfl⟩ := i3.data.form
  obtain ⟨a5, c5, rfl⟩ := i3.ents.form
  obtain ⟨a6, c6, rfl⟩ := i3.ups.form
  obtain ⟨m1, hm1⟩ : ∃ n, n = o.data.length := ⟨_, rfl⟩
  obtain ⟨m2, hm2⟩ : ∃ n, n = o.ents.length := ⟨_, rfl⟩
  obtain ⟨m3, hm3⟩ : ∃ n, n = o.ups.length := ⟨_, rfl⟩
  rw [← hm1, ← hm2, ← hm3] at i3 ⊢
  have I3 := Lib.hid i3
  have M1 := Lib.hid hm1
  have M2 := Lib.hid hm2
  have M3 := Lib.hid hm3
  clear i3 hm1 hm2 hm3
  obtain ⟨K, hK⟩ : ∃ K, K = o.kind := ⟨_, rfl⟩
  unfold objV
  rw [← hK]
  have HK := Lib.hid hK
  clear hK
  obtain ⟨W4, hW4⟩ : ∃ W4, W4 = w3.alloc (.cells #[.int .i64 K, .slice a4 m1 c4, .slice a5 m2 c5, .string (SL o.tree), .slice a6 m3 c6, .string (SL o.target), .string (SL o.name), .string (SL o.who), .int .i64 o.stamp, .string (SL o.text)] 26) := ⟨_, rfl⟩
  have hb4 : Below w3.heap.size w3 W4 := by rw [hW4]; exact (Below.refl _ _).alloc (Nat.le_refl _) _
  have hrow4 : ∀ W, Below W4.heap.size W4 W → _ := fun W hb => obj_cells (below_turn hb (by rw [hW4]; exact heap_alloc_new w3 _))
  have HW4 := Lib.hid hW4
  have B4 := Lib.hid hb4
  have BB4 := Lib.hid (BB.out.trans (hb4.mono BB.out.size))
  have ROW4 := Lib.hid hrow4
  clear hW4 hb4 hrow4
  go_wp2_with fail
  rw [← HW4.out]
  refine (HRD.out _ BB4.out).mono ?_
  rintro e w5 d5
  obtain ⟨b5, dv5, ev5, uv5, rfl, i5⟩ := HSA.out _ _ _ d5
  have BB := Lib.hid (BB4.out.trans (b5.mono BB4.out.size))
  have B45 := Lib.hid b5
  have B35 := Lib.hid (B4.out.trans (b5.mono B4.out.size))
  clear d5 b5
  obtain ⟨q4, d4, rfl⟩ := i5.data.form
  obtain ⟨q5, d5, rfl⟩ := i5.ents.form
  obtain ⟨q6, d6, rfl⟩ := i5.ups.form
  rw [← M1.out, ← M2.out, ← M3.out] at i5 ⊢
  have I5 := Lib.hid i5
  clear i5
  unfold objV
  rw [← HK.out]
  obtain ⟨W6, hW6⟩ : ∃ W6, W6 = w5.alloc (.cells #[.int .i64 K, .slice q4 m1 d4, .slice q5 m2 d5, .string (SL o.tree), .slice q6 m3 d6, .string (SL o.target), .string (SL o.name), .string (SL o.who), .int .i64 o.stamp, .string (SL o.text)] 26) := ⟨_, rfl⟩
  have hb6 : Below w5.heap.size w5 W6 := by rw [hW6]; exact (Below.refl _ _).alloc (Nat.le_refl _) _
  have hrow6 : ∀ W, Below W6.heap.size W6 W → _ := fun W hb => obj_cells (below_turn hb (by rw [hW6]; exact heap_alloc_new w5 _))
  have HW6 := Lib.hid hW6
  have B6 := Lib.hid hb6
  have BB6 := Lib.hid (BB.out.trans (hb6.mono BB.out.size))
  have hsm6 := refSame_eq _ _ o (.slice a4 m1 c4) (.slice a5 m2 c5) (.slice a6 m3 c6) (.slice q4 m1 d4) (.slice q5 m2 d5) (.slice q6 m3 d6) W6 (I3.out.turn (Turn.of_below (fun _ => False) (B35.out.trans (hb6.mono B35.out.size))) (fun _ _ h => h)) (I5.out.turn (Turn.of_below (fun _ => False) hb6) (fun _ _ h => h)) (Nat.le_trans (ents_le I3.out.ents) (by decide)) (Nat.le_trans (texts_le I3.out.ups) (by decide))
  obtain ⟨r0, r1, r2, r3, r4, r5, r6, r7, r8, r9⟩ := hrow6 W6 (Below.refl _ _)
  obtain ⟨p0, p1, p2, p3, p4, p5, p6, p7, p8, p9⟩ := ROW4.out W6 (B45.out.trans (hb6.mono B45.out.size))
  unfold objV at hsm6
  rw [← HK.out] at hsm6
  have HSM6 := Lib.hid hsm6
  rw [hW6] at p0 p1 p2 p3 p4 p5 p6 p7 p8 p9 r0 r1 r2 r3 r4 r5 r6 r7 r8 r9
  clear hsm6 hW6 hb6 hrow6
  go_wp2_with fail
  rw [← HW6.out]
  refine HSM6.out.mono ?_
  rintro e w7 ⟨rfl, b7⟩
  go_wp2
  go_ret
  exact ⟨rfl, BB6.out.trans (b7.mono BB6.out.size)⟩
end Go.Proofs.Ytckbeeadkiiccaa
namespace Go.Proofs.Ytckbeeadkiiccaa
open Go.ChangeShapes Go.WideShapes Go.ChangeAt Go.RowKit
set_option maxRecDepth 100000 in
theorem objectDecodes_lifted (os : Os) (started : os.Started) (H : Type) (enc : TypeId × Value → H) :
    ReturnsInHanded {} Try.checked os 4 .any (Rows.objectDecodesSpec.pre6 enc Try.prog Try.f4 Rows.objectDecodesRow.domain false) (Rows.objectDecodesSpec.post enc Try.prog Try.f4 false true false false) := by
  refine returnsInHanded_of_change_sized (C := Try.checked) Try.own started (by kernel_rfl) Try.func4
    (ChangeSpec.witness6 (enc := enc) (C := Try.checked) false ⟨#[], #[.slice none 0 0], []⟩ 8 (by kernel_rfl) (by kernel_rfl) (by kernel_rfl) (by kernel_rfl)) ?_
  intro W base args ds gs before hval0 hW hcnd hsz0 _
  have hsz : (DataW.weightsEach Try.prog (Try.f4.params.toList ++ Rows.objectDecodesSpec.plain.varTypes Try.prog) (ds ++ gs)).all (· ≤ reachBytes) = true := hsz0
  clear hsz0
  have hval : ∀ (j : Nat) t v, Try.f4.params[j]? = some t → args[j]? = some v → Value.okWide Try.prog W .any base t v := hval0
  have hW' := hW
  obtain ⟨p, q, hA0, hV, rfl, hfz, hnd⟩ := hW
  have hA : DataW.TrodAll enc Try.prog W 0 (fun _ => true) true Try.f4.params.toList args.toList ds p := hA0
  rw [Try.params4] at hA hval hsz
  obtain ⟨v0, d0, hargs0, rfl, h0⟩ := trodAll_one hA
  obtain rfl : args = #[v0] := by cases args; simp_all
  obtain ⟨rfl, rfl⟩ := trodVars_none hV
  simp only [List.append_nil] at hW' hsz
  have hlt0 : ∀ x ∈ p, x.block < W.heap.size := fun x hx => by simpa using hW'.lt x (by simp [hx])
  have a0 : ∀ (W' : World), Below W.heap.size W W' → DataW.Trod enc Try.prog W' 0 (fun b => decide (b < W.heap.size)) true 22 v0 d0 p :=
    fun W' hn => Below.trod Try.laidOut (by kernel_rfl) (of_decide_eq_true (by kernel_rfl)) h0 hn hlt0
  obtain ⟨ao0, cap0, bs0, B0, off0, rfl, hs0, hd0⟩ := open_bytes (hval 0 22 v0 rfl rfl) h0 hlt0
  have hc0 := reach_bytes hsz (j := 0) rfl rfl hd0
  clear hA0 hval0
  have hlaw := decodes_any ao0 cap0 B0 off0 bs0 W hs0 (Nat.le_trans hs0.le (Nat.le_trans hc0 (by omega)))
  refine hlaw.mono fun e W' ⟨he, hb⟩ => ?_
  subst he
  exact ⟨_, rfl, _, _, _, [], _, [], hW', trodAll_mk1 (shut_bool Try.underlying4 _), trodAll_mk1 (a0 _ hb), rfl, hb.frame _, fun h => by cases h⟩

theorem objectDecodes_holds : Rows.ObjectDecodesSaid :=
  OpenClaim.holds_of_wide 4 Try.f4 rfl rfl rfl rfl rfl rfl rfl ⟨rfl, rfl, rfl, rfl, rfl⟩ rfl rfl rfl rfl rfl (by kernel_rfl) Try.func4 (by kernel_rfl)
    (of_decide_eq_true (by kernel_rfl)) (by unfold Func.isWrapper; first | (rw [if_pos (by decide +kernel)]; kernel_rfl) | (rw [if_neg (by decide +kernel)]; exact ⟨rfl, rfl⟩))
    (fun os started H enc _ => objectDecodes_lifted os started H enc)
#print axioms objectDecodes_holds
end Go.Proofs.Ytckbeeadkiiccaa
