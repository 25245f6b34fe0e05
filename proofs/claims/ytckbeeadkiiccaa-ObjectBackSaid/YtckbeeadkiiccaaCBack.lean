/- ObjectBack, for every object and every slice of bytes: the call returns true, and the arguments read as they did. No condition. -/
import Derived.Test.YtckbeeadkiiccaaCAwake
import Derived.Test.YtckbeeadkiiccaaCDec
import Derived.Test.YtckbeeadkiiccaaCEnc
import Derived.Test.YtckbeeadkiiccaaCSameT
import Derived.Test.YtckbeeadkiiccaaCBaseD
import Derived.Deep.RegionHeld3
import Derived.Test.YtckbeeadkiiccaaCOpen
import Derived.ChangeMaps5
namespace Go.Proofs.Ytckbeeadkiiccaa
open Go.RowKit
set_option maxRecDepth 100000 in
set_option maxHeartbeats 16000000 in
theorem back_any (F : Nat → Prop) (o : ObjR) (dv ev uv : Value) (ao : Option Addr) (cap B off : Nat) (b : OB) (w : World) (h : ObjIn w F o dv ev uv) (hf : ObjFits o) (hs : SrcAt w ao cap b B off) (hl : b.length ≤ 140737488355328) :
    Calls Try.prog 5 #[objV o dv ev uv, .slice ao b.length cap] w fun e w' => e = .returned (.bool true) ∧ Below w.heap.size w w' := by
  have hen := fun (W : World) (hb : Below w.heap.size w W) => encode_any F o dv ev uv W (h.turn (Turn.of_below (fun _ => False) hb) (fun _ _ h => h))
  have hid := fun (W : World) (hb : Below w.heap.size w W) => id_any F o dv ev uv W (h.turn (Turn.of_below (fun _ => False) hb) (fun _ _ h => h))
  have hde := fun (W : World) (hb : Below w.heap.size w W) => decode_any ao cap B off b W (hs.below hb) hl
  have hsm := fun (W : World) (hb : Below w.heap.size w W) (G : Nat → Prop) (dv' ev' uv' : Value) (h' : ObjIn W G o dv' ev' uv') => refSame_eq G F o dv' ev' uv' dv ev uv W h' (h.turn (Turn.of_below (fun _ => False) hb) (fun _ _ h => h)) hf.ents hf.ups
  obtain ⟨a1, c1, B1, o1, rfl, hd1, _⟩ := h.data
  obtain ⟨a2, c2, g2, o2, rfl, _⟩ := h.ents
  obtain ⟨a3, c3, g3, o3, rfl, _⟩ := h.ups
  unfold objV at hen hid hsm ⊢
  obtain ⟨n1, hn1⟩ : ∃ n, n = o.data.length := ⟨_, rfl⟩
  obtain ⟨n2, hn2⟩ : ∃ n, n = o.ents.length := ⟨_, rfl⟩
  obtain ⟨n3, hn3⟩ : ∃ n, n = o.ups.length := ⟨_, rfl⟩
  obtain ⟨K, hK⟩ : ∃ k, k = o.kind := ⟨_, rfl⟩
  obtain ⟨nb, hnb⟩ : ∃ n, n = b.length := ⟨_, rfl⟩
  rw [← hn1, ← hn2, ← hn3, ← hK] at hen hid hsm ⊢
  rw [← hnb] at hde hl ⊢
  obtain ⟨W1, hW1⟩ : ∃ W1, W1 = w.alloc (.cells #[.int .i64 K, .slice a1 n1 c1, .slice a2 n2 c2, .string (SL o.tree), .slice a3 n3 c3, .string (SL o.target), .string (SL o.name), .string (SL o.who), .int .i64 o.stamp, .string (SL o.text)] 26) := ⟨_, rfl⟩
  have hbl : Below w.heap.size w W1 := by rw [hW1]; exact (Below.refl _ _).alloc (Nat.le_refl _) _
  have hrow : ∀ W, Below W1.heap.size W1 W → _ := fun W hb => obj_cells (below_turn hb (by rw [hW1]; exact heap_alloc_new w _))
  have HAW := Lib.hid awake_any
  have ROW := Lib.hid hrow
  have HW := Lib.hid hW1
  have BL := Lib.hid hbl
  have HSM := Lib.hid hsm
  have HDE := Lib.hid hde
  have HSB := Lib.hid (fun W (hb : Below w.heap.size w W) => hs.below hb)
  have HNB := Lib.hid hnb
  have HK := Lib.hid hK
  have HL := Lib.hid hl
  clear hrow hW1 hbl hn1 hn2 hn3 hd1 hsm hde hs hnb hK hf hl
  cases hok : okO o with
  | false =>
    have e1 : errO o = 1 := by unfold errO; rw [hok]; rfl
    have e2 : bytesO o = [] := by unfold bytesO; rw [hok]; rfl
    rw [e1, e2] at hen
    have HE := Lib.hid hen
    clear hen hid h hok e1 e2
    go_enter Try.func5, Try.ntmps5
    go_wp2_with fail
    rw [← HW.out]
    go_wp2_with fail
    refine (HAW.out _).mono ?_
    rintro e w2 ⟨rfl, b2⟩
    have BB := Lib.hid b2
    obtain ⟨r0, r1, r2, r3, r4, r5, r6, r7, r8, r9⟩ := ROW.out w2 b2
    clear b2
    go_wp2_with fail
    refine (HE.out _ (BL.out.trans (BB.out.mono BL.out.size))).mono ?_
    rintro e w3 ⟨v3, rfl, o3, b3⟩
    have BB := Lib.hid (BB.out.trans (b3.mono BB.out.size))
    clear b3 o3
    go_wp2_with fail
    refine (HDE.out _ (BL.out.trans (BB.out.mono BL.out.size))).mono ?_
    rintro e w10 ⟨b10, h10⟩
    have BBD := Lib.hid (BB.out.trans (b10.mono BB.out.size))
    cases hdb : decO b with
    | none =>
      rw [hdb] at h10
      obtain rfl := h10
      clear hdb b10
      unfold objV
      go_wp2
      go_ret
      exact ⟨rfl, (BL.out.trans (BBD.out.mono BL.out.size)).alloc (BL.out.trans (BBD.out.mono BL.out.size)).size _⟩
    | some y =>
      rw [hdb] at h10
      obtain ⟨dy, ey, uy, rfl, iy⟩ := h10
      obtain ⟨hoky, hency⟩ := dec_iff.1 hdb
      have ey1 : errO y = 0 := by unfold errO; rw [hoky]; rfl
      have ey2 : bytesO y = b := by unfold bytesO; rw [hoky]; exact hency
      have heny := fun (W : World) (hb : Below w10.heap.size w10 W) => encode_any _ y dy ey uy W (iy.turn (Turn.of_below (fun _ => False) hb) (fun _ _ h => h))
      rw [ey1, ey2] at heny
      obtain ⟨y1, d1, rfl⟩ := iy.data.form
      obtain ⟨y2, d2, rfl⟩ := iy.ents.form
      obtain ⟨y3, d3, rfl⟩ := iy.ups.form
      clear hdb b10 iy hoky hency ey1 ey2
      obtain ⟨k1, hk1⟩ : ∃ n, n = y.data.length := ⟨_, rfl⟩
      obtain ⟨k2, hk2⟩ : ∃ n, n = y.ents.length := ⟨_, rfl⟩
      obtain ⟨k3, hk3⟩ : ∃ n, n = y.ups.length := ⟨_, rfl⟩
      rw [← hk1, ← hk2, ← hk3] at heny ⊢
      clear hk1 hk2 hk3
      unfold objV at heny ⊢
      have HEY := Lib.hid heny
      clear heny
      obtain ⟨W11, hW11⟩ : ∃ W11, W11 = w10.alloc (.cells #[.int .i64 y.kind, .slice y1 k1 d1, .slice y2 k2 d2, .string (SL y.tree), .slice y3 k3 d3, .string (SL y.target), .string (SL y.name), .string (SL y.who), .int .i64 y.stamp, .string (SL y.text)] 26) := ⟨_, rfl⟩
      have hb11 : Below w10.heap.size w10 W11 := by rw [hW11]; exact (Below.refl _ _).alloc (Nat.le_refl _) _
      have HW11 := Lib.hid hW11
      have B11 := Lib.hid hb11
      have BB := Lib.hid (BBD.out.trans (hb11.mono BBD.out.size))
      clear hW11 hb11
      go_wp2_with fail
      rw [← HW11.out]
      refine (HEY.out _ B11.out).mono ?_
      rintro e w12 ⟨v12, rfl, o12, b12⟩
      obtain ⟨ay, cy, By, rfl, s12, _⟩ := OutAt.src o12
      have BB := Lib.hid (BB.out.trans (b12.mono BB.out.size))
      have hsa := same_any w12 s12 (HSB.out w12 (BL.out.trans (BB.out.mono BL.out.size)))
      rw [← HNB.out, decide_eq_true rfl] at hsa
      rw [← HNB.out]
      have HSA := Lib.hid hsa
      clear hsa s12 o12 b12
      go_wp2_with fail
      refine HSA.out.mono ?_
      rintro e _ ⟨rfl, rfl⟩
      go_wp2
      go_ret
      exact ⟨rfl, BL.out.trans (BB.out.mono BL.out.size)⟩
  | true =>
    have e1 : errO o = 0 := by unfold errO; rw [hok]; rfl
    have e2 : bytesO o = encO o := by unfold bytesO; rw [hok]; rfl
    have e3 : idO o = sumL (encO o) := by unfold idO; rw [hok]; rfl
    have hlen := enc_length hok
    have hdec := dec_enc hok
    rw [e1, e2] at hen
    rw [e1, e3] at hid
    obtain ⟨E, hE⟩ : ∃ l, l = encO o := ⟨_, rfl⟩
    rw [← hE] at hen hid hlen hdec
    have HE := Lib.hid hen
    have HI := Lib.hid hid
    have HD := Lib.hid hdec
    have HLEN := Lib.hid hlen
    clear hen hid h hok e1 e2 e3 hE hdec hlen
    go_enter Try.func5, Try.ntmps5
    go_wp2_with fail
    rw [← HW.out]
    go_wp2_with fail
    refine (HAW.out _).mono ?_
    rintro e w2 ⟨rfl, b2⟩
    have BB := Lib.hid b2
    obtain ⟨r0, r1, r2, r3, r4, r5, r6, r7, r8, r9⟩ := ROW.out w2 b2
    clear b2
    go_wp2_with fail
    refine (HE.out _ (BL.out.trans (BB.out.mono BL.out.size))).mono ?_
    rintro e w3 ⟨v3, rfl, o3, b3⟩
    obtain ⟨ae, ce, B3, rfl, s3, _⟩ := OutAt.src o3
    have BB := Lib.hid (BB.out.trans (b3.mono BB.out.size))
    have hd4 := decode_any ae ce B3 0 E w3 s3 (by have := HLEN.out; omega)
    have hsu := fun (W : World) (hb : Below w3.heap.size w3 W) => sum_src W (s3.below hb) (by have := HLEN.out; omega)
    obtain ⟨ne, hne⟩ : ∃ n, n = E.length := ⟨_, rfl⟩
    rw [← hne] at hd4 hsu ⊢
    have HD4 := Lib.hid hd4
    have HSU := Lib.hid hsu
    clear b3 o3 s3 hd4 hsu hne
    go_wp2_with fail
    refine HD4.out.mono ?_
    rintro e w4 ⟨b4, h4⟩
    rw [HD.out] at h4
    obtain ⟨dv4, ev4, uv4, rfl, i4⟩ := h4
    have B4 := Lib.hid b4
    have I4 := Lib.hid i4
    have BB4 := Lib.hid (BB.out.trans (b4.mono BB.out.size))
    clear b4 i4
    obtain ⟨a4, c4, rfl⟩ := I4.out.data.form
    obtain ⟨a5, c5, rfl⟩ := I4.out.ents.form
    obtain ⟨a6, c6, rfl⟩ := I4.out.ups.form
    obtain ⟨m1, hm1⟩ : ∃ n, n = o.data.length := ⟨_, rfl⟩
    obtain ⟨m2, hm2⟩ : ∃ n, n = o.ents.length := ⟨_, rfl⟩
    obtain ⟨m3, hm3⟩ : ∃ n, n = o.ups.length := ⟨_, rfl⟩
    rw [← hm1, ← hm2, ← hm3] at I4 ⊢
    clear hm1 hm2 hm3
    unfold objV
    rw [← HK.out]
    obtain ⟨W5, hW5⟩ : ∃ W5, W5 = w4.alloc (.cells #[.int .i64 K, .slice a4 m1 c4, .slice a5 m2 c5, .string (SL o.tree), .slice a6 m3 c6, .string (SL o.target), .string (SL o.name), .string (SL o.who), .int .i64 o.stamp, .string (SL o.text)] 26) := ⟨_, rfl⟩
    have hb5 : Below w4.heap.size w4 W5 := by rw [hW5]; exact (Below.refl _ _).alloc (Nat.le_refl _) _
    have hrow5 : ∀ W, Below W5.heap.size W5 W → _ := fun W hb => obj_cells (below_turn hb (by rw [hW5]; exact heap_alloc_new w4 _))
    have HW5 := Lib.hid hW5
    have B5 := Lib.hid hb5
    have BB5 := Lib.hid (BB4.out.trans (hb5.mono BB4.out.size))
    have ROW5 := Lib.hid hrow5
    have hr5 := ROW.out W5 BB5.out
    rw [hW5] at hr5
    obtain ⟨r0, r1, r2, r3, r4, r5, r6, r7, r8, r9⟩ := hr5
    clear hW5 hb5 hrow5
    go_wp2_with fail
    rw [← HW5.out]
    refine (HI.out _ (BL.out.trans (BB5.out.mono BL.out.size))).mono ?_
    rintro e w6 ⟨rfl, b6⟩
    have BB := Lib.hid (BB5.out.trans (b6.mono BB5.out.size))
    have B56 := Lib.hid b6
    have B46 := Lib.hid (B5.out.trans (b6.mono B5.out.size))
    have B36 := Lib.hid (B4.out.trans (B46.out.mono B4.out.size))
    obtain ⟨r0, r1, r2, r3, r4, r5, r6, r7, r8, r9⟩ := ROW.out w6 BB.out
    obtain ⟨q0, q1, q2, q3, q4, q5, q6, q7, q8, q9⟩ := ROW5.out w6 b6
    have hsm6 := HSM.out w6 (BL.out.trans (BB.out.mono BL.out.size)) _ (.slice a4 m1 c4) (.slice a5 m2 c5) (.slice a6 m3 c6) (I4.out.turn (Turn.of_below (fun _ => False) B46.out) (fun _ _ h => h))
    have HSM6 := Lib.hid hsm6
    clear b6 hsm6
    go_wp2_with fail
    refine HSM6.out.mono ?_
    rintro e w7 ⟨rfl, b7⟩
    have BB := Lib.hid (BB.out.trans (b7.mono BB.out.size))
    have B37 := Lib.hid (B36.out.trans (b7.mono B36.out.size))
    clear b7
    go_wp2_with fail
    refine (HSU.out _ B37.out).mono ?_
    rintro e w8 ⟨rfl, b8⟩
    have BB := Lib.hid (BB.out.trans (b8.mono BB.out.size))
    clear b8
    go_wp2_with fail
    refine (HDE.out _ (BL.out.trans (BB.out.mono BL.out.size))).mono ?_
    rintro e w10 ⟨b10, h10⟩
    have BBD := Lib.hid (BB.out.trans (b10.mono BB.out.size))
    cases hdb : decO b with
    | none =>
      rw [hdb] at h10
      obtain rfl := h10
      clear hdb b10
      unfold objV
      go_wp2
      go_ret
      exact ⟨rfl, (BL.out.trans (BBD.out.mono BL.out.size)).alloc (BL.out.trans (BBD.out.mono BL.out.size)).size _⟩
    | some y =>
      rw [hdb] at h10
      obtain ⟨dy, ey, uy, rfl, iy⟩ := h10
      obtain ⟨hoky, hency⟩ := dec_iff.1 hdb
      have ey1 : errO y = 0 := by unfold errO; rw [hoky]; rfl
      have ey2 : bytesO y = b := by unfold bytesO; rw [hoky]; exact hency
      have heny := fun (W : World) (hb : Below w10.heap.size w10 W) => encode_any _ y dy ey uy W (iy.turn (Turn.of_below (fun _ => False) hb) (fun _ _ h => h))
      rw [ey1, ey2] at heny
      obtain ⟨y1, d1, rfl⟩ := iy.data.form
      obtain ⟨y2, d2, rfl⟩ := iy.ents.form
      obtain ⟨y3, d3, rfl⟩ := iy.ups.form
      clear hdb b10 iy hoky hency ey1 ey2
      obtain ⟨k1, hk1⟩ : ∃ n, n = y.data.length := ⟨_, rfl⟩
      obtain ⟨k2, hk2⟩ : ∃ n, n = y.ents.length := ⟨_, rfl⟩
      obtain ⟨k3, hk3⟩ : ∃ n, n = y.ups.length := ⟨_, rfl⟩
      rw [← hk1, ← hk2, ← hk3] at heny ⊢
      clear hk1 hk2 hk3
      unfold objV at heny ⊢
      have HEY := Lib.hid heny
      clear heny
      obtain ⟨W11, hW11⟩ : ∃ W11, W11 = w10.alloc (.cells #[.int .i64 y.kind, .slice y1 k1 d1, .slice y2 k2 d2, .string (SL y.tree), .slice y3 k3 d3, .string (SL y.target), .string (SL y.name), .string (SL y.who), .int .i64 y.stamp, .string (SL y.text)] 26) := ⟨_, rfl⟩
      have hb11 : Below w10.heap.size w10 W11 := by rw [hW11]; exact (Below.refl _ _).alloc (Nat.le_refl _) _
      have HW11 := Lib.hid hW11
      have B11 := Lib.hid hb11
      have BB := Lib.hid (BBD.out.trans (hb11.mono BBD.out.size))
      clear hW11 hb11
      go_wp2_with fail
      rw [← HW11.out]
      refine (HEY.out _ B11.out).mono ?_
      rintro e w12 ⟨v12, rfl, o12, b12⟩
      obtain ⟨ay, cy, By, rfl, s12, _⟩ := OutAt.src o12
      have BB := Lib.hid (BB.out.trans (b12.mono BB.out.size))
      have hsa := same_any w12 s12 (HSB.out w12 (BL.out.trans (BB.out.mono BL.out.size)))
      rw [← HNB.out, decide_eq_true rfl] at hsa
      rw [← HNB.out]
      have HSA := Lib.hid hsa
      clear hsa s12 o12 b12
      go_wp2_with fail
      refine HSA.out.mono ?_
      rintro e _ ⟨rfl, rfl⟩
      go_wp2
      go_ret
      exact ⟨rfl, BL.out.trans (BB.out.mono BL.out.size)⟩
end Go.Proofs.Ytckbeeadkiiccaa
namespace Go.Proofs.Ytckbeeadkiiccaa
open Go.ChangeShapes Go.WideShapes Go.ChangeAt Go.RowKit
set_option maxRecDepth 100000 in
theorem objectBack_lifted (os : Os) (started : os.Started) (H : Type) (enc : TypeId × Value → H) :
    ReturnsInHanded {} Try.checked os 5 .any (Rows.objectBackSpec.pre6 enc Try.prog Try.f5 Rows.objectBackRow.domain false) (Rows.objectBackSpec.post enc Try.prog Try.f5 false true false false) := by
  refine returnsInHanded_of_change_sized (C := Try.checked) Try.own started (by kernel_rfl) Try.func5
    (ChangeSpec.witness6 (enc := enc) (C := Try.checked) false ⟨#[], #[.agg #[.int .i64 0, .slice none 0 0, .slice none 0 0, .string .empty, .slice none 0 0, .string .empty, .string .empty, .string .empty, .int .i64 0, .string .empty], .slice none 0 0], []⟩ 8 (by kernel_rfl) (by kernel_rfl) (by kernel_rfl) (by kernel_rfl)) ?_
  intro W base args ds gs before hval0 hW hcnd hsz0 _
  have hsz : (DataW.weightsEach Try.prog (Try.f5.params.toList ++ Rows.objectBackSpec.plain.varTypes Try.prog) (ds ++ gs)).all (· ≤ reachBytes) = true := hsz0
  clear hsz0
  have hval : ∀ (j : Nat) t v, Try.f5.params[j]? = some t → args[j]? = some v → Value.okWide Try.prog W .any base t v := hval0
  have hW' := hW
  obtain ⟨p, q, hA0, hV, rfl, hfz, hnd⟩ := hW
  have hA : DataW.TrodAll enc Try.prog W 0 (fun _ => true) true Try.f5.params.toList args.toList ds p := hA0
  rw [Try.params5] at hA hval hsz
  obtain ⟨v0, v1, d0, d1, p0, p1, hargs0, rfl, rfl, h0, h1⟩ := trodAll_two hA
  obtain rfl : args = #[v0, v1] := by cases args; simp_all
  obtain ⟨rfl, rfl⟩ := trodVars_none hV
  simp only [List.append_nil] at hW' hsz
  have hlt0 : ∀ x ∈ p0, x.block < W.heap.size := fun x hx => by simpa using hW'.lt x (by simp [hx])
  have a0 : ∀ (W' : World), Below W.heap.size W W' → DataW.Trod enc Try.prog W' 0 (fun b => decide (b < W.heap.size)) true 26 v0 d0 p0 :=
    fun W' hn => Below.trod Try.laidOut (by kernel_rfl) (of_decide_eq_true (by kernel_rfl)) h0 hn hlt0
  obtain ⟨o0, dv0, ev0, uv0, rfl, hin0, hft0⟩ := open_object (hval 0 26 v0 rfl rfl) h0 hlt0
  have hlt1 : ∀ x ∈ p1, x.block < W.heap.size := fun x hx => by simpa using hW'.lt x (by simp [hx])
  have a1 : ∀ (W' : World), Below W.heap.size W W' → DataW.Trod enc Try.prog W' 0 (fun b => decide (b < W.heap.size)) true 22 v1 d1 p1 :=
    fun W' hn => Below.trod Try.laidOut (by kernel_rfl) (of_decide_eq_true (by kernel_rfl)) h1 hn hlt1
  obtain ⟨ao1, cap1, bs1, B1, off1, rfl, hs1, hd1⟩ := open_bytes (hval 1 22 v1 rfl rfl) h1 hlt1
  have hc1 := reach_bytes hsz (j := 1) rfl rfl hd1
  clear hA0 hval0
  have hlaw := back_any (fun k => k < W.heap.size) o0 dv0 ev0 uv0 ao1 cap1 B1 off1 bs1 W hin0 hft0 hs1 (Nat.le_trans hs1.le (Nat.le_trans hc1 (by omega)))
  refine hlaw.mono fun e W' ⟨he, hb⟩ => ?_
  subst he
  exact ⟨_, rfl, _, _, _, [], _, [], hW', trodAll_mk1 (shut_bool Try.underlying4 _), trodAll_mk2 (a0 _ hb) (a1 _ hb), rfl, hb.frame _, fun h => by cases h⟩

theorem objectBack_holds : Rows.ObjectBackSaid :=
  OpenClaim.holds_of_wide 5 Try.f5 rfl rfl rfl rfl rfl rfl rfl ⟨rfl, rfl, rfl, rfl, rfl⟩ rfl rfl rfl rfl rfl (by kernel_rfl) Try.func5 (by kernel_rfl)
    (of_decide_eq_true (by kernel_rfl)) (by unfold Func.isWrapper; first | (rw [if_pos (by decide +kernel)]; kernel_rfl) | (rw [if_neg (by decide +kernel)]; exact ⟨rfl, rfl⟩))
    (fun os started H enc _ => objectBack_lifted os started H enc)
#print axioms objectBack_holds
end Go.Proofs.Ytckbeeadkiiccaa
