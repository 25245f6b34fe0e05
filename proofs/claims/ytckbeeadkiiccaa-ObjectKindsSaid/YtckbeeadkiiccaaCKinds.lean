/- ObjectKinds, for every object: the call returns true, and the arguments read as they did. No condition. -/
import Derived.Test.YtckbeeadkiiccaaCAwake
import Derived.Deep.RegionHeld3
import Derived.Test.YtckbeeadkiiccaaCOpen
import Derived.ChangeMaps5
namespace Go.Proofs.Ytckbeeadkiiccaa
open Go.RowKit
set_option maxRecDepth 100000 in
set_option maxHeartbeats 8000000 in
theorem kinds_any (F : Nat → Prop) (o : ObjR) (dv ev uv : Value) (w : World) (h : ObjIn w F o dv ev uv) (_ : ObjFits o) :
    Calls Try.prog 9 #[objV o dv ev uv] w fun e w' => e = .returned (.bool true) ∧ Below w.heap.size w w' := by
  have hen := fun (W : World) (hb : Below w.heap.size w W) => encode_any F o dv ev uv W (h.turn (Turn.of_below (fun _ => False) hb) (fun _ _ h => h))
  have hck := fun (W : World) (hb : Below w.heap.size w W) => check_any F o dv ev uv W (h.turn (Turn.of_below (fun _ => False) hb) (fun _ _ h => h))
  obtain ⟨a1, c1, B1, o1, rfl, hd1, _⟩ := h.data
  obtain ⟨a2, c2, g2, o2, rfl, _⟩ := h.ents
  obtain ⟨a3, c3, g3, o3, rfl, _⟩ := h.ups
  unfold objV at hen hck ⊢
  obtain ⟨n1, hn1⟩ : ∃ n, n = o.data.length := ⟨_, rfl⟩
  obtain ⟨n2, hn2⟩ : ∃ n, n = o.ents.length := ⟨_, rfl⟩
  obtain ⟨n3, hn3⟩ : ∃ n, n = o.ups.length := ⟨_, rfl⟩
  obtain ⟨K, hK⟩ : ∃ k, k = o.kind := ⟨_, rfl⟩
  rw [← hn1, ← hn2, ← hn3, ← hK] at hen hck ⊢
  have hdc : ∀ W, Below w.heap.size w W → (convert 22 9 (.slice a1 n1 c1)).run Try.prog W = .ok (.string (SL o.data)) W := fun W hb => by rw [hn1]; exact convert_src (hd1.below hb)
  obtain ⟨W1, hW1⟩ : ∃ W1, W1 = w.alloc (.cells #[.int .i64 K, .slice a1 n1 c1, .slice a2 n2 c2, .string (SL o.tree), .slice a3 n3 c3, .string (SL o.target), .string (SL o.name), .string (SL o.who), .int .i64 o.stamp, .string (SL o.text)] 26) := ⟨_, rfl⟩
  have hbl : Below w.heap.size w W1 := by rw [hW1]; exact (Below.refl _ _).alloc (Nat.le_refl _) _
  have hrow : ∀ W, Below W1.heap.size W1 W → _ := fun W hb => obj_cells (below_turn hb (by rw [hW1]; exact heap_alloc_new w _))
  have HAW := Lib.hid awake_any
  have ROW := Lib.hid hrow
  have HW := Lib.hid hW1
  have BL := Lib.hid hbl
  have HK := Lib.hid hK
  have DC := Lib.hid hdc
  clear hrow hW1 hbl hn1 hn2 hn3 hd1 hdc
  cases hok : okO o with
  | false =>
    have e1 : errO o = 1 := by unfold errO; rw [hok]; rfl
    have e2 : bytesO o = [] := by unfold bytesO; rw [hok]; rfl
    rw [e1, e2] at hen
    rw [e1] at hck
    have HE := Lib.hid hen
    have HC := Lib.hid hck
    clear hen hck h hok e1 e2 hK
    go_enter Try.func9, Try.ntmps9
    go_wp2_with fail
    rw [← HW.out]
    go_wp2_with (first
      | (go_at_call 10; refine (HAW.out _).mono ?_; rintro e w2 ⟨rfl, b2⟩; have BB := Lib.hid b2; obtain ⟨r0, r1, r2, r3, r4, r5, r6, r7, r8, r9⟩ := ROW.out w2 b2; clear b2)
      | (go_at_call 13; refine (HE.out _ (BL.out.trans (BB.out.mono BL.out.size))).mono ?_; rintro e w3 ⟨v3, rfl, o3, b3⟩; obtain ⟨ao, cap, B3, rfl, _, _⟩ := OutAt.src o3; have BB := Lib.hid (BB.out.trans (b3.mono BB.out.size)); obtain ⟨r0, r1, r2, r3, r4, r5, r6, r7, r8, r9⟩ := ROW.out w3 BB.out; clear b3 o3)
      | (go_at_call 18; refine (HC.out _ (BL.out.trans (BB.out.mono BL.out.size))).mono ?_; rintro e w4 ⟨rfl, b4⟩; have BB := Lib.hid (BB.out.trans (b4.mono BB.out.size)); clear b4))
    go_ret
    exact ⟨rfl, BL.out.trans (BB.out.mono BL.out.size)⟩
  | true =>
    have e1 : errO o = 0 := by unfold errO; rw [hok]; rfl
    have e2 : bytesO o = encO o := by unfold bytesO; rw [hok]; rfl
    rw [e1, e2] at hen
    have hen2 : encO o = UInt8.ofNat K.toNat :: bodyL o := by rw [hK]; rfl
    have hk4 := kind_of_ok hok
    rw [← hK] at hk4
    have hk0 : (((UInt8.ofNat K.toNat).toNat : Nat) : Int) = K := by rcases hk4 with h | h | h | h <;> rw [h] <;> rfl
    have hwK : IntKind.i64.wrap K = K := by rcases hk4 with h | h | h | h <;> rw [h] <;> decide
    have hbd : K = 1 → bodyL o = o.data := fun h1 => by unfold bodyL; rw [if_pos (by rw [← hK]; exact h1)]
    rw [hen2] at hen
    obtain ⟨c, hc⟩ : ∃ c, c = UInt8.ofNat K.toNat := ⟨_, rfl⟩
    rw [← hc] at hen hk0
    have HE := Lib.hid hen
    have HBD := Lib.hid hbd
    have hlen := enc_length hok
    rw [hen2, List.length_cons] at hlen
    clear hen hck h hok e1 e2 hK hen2 hk4 hbd hc HK
    obtain ⟨BD, hBD⟩ : ∃ b, b = bodyL o := ⟨_, rfl⟩
    rw [← hBD] at HE HBD hlen
    clear hBD
    go_enter Try.func9, Try.ntmps9
    go_wp2_with fail
    rw [← HW.out]
    go_wp2_with fail
    refine (HAW.out _).mono ?_
    rintro e w2 ⟨rfl, b2⟩
    have BB := Lib.hid b2
    obtain ⟨r0, r1, r2, r3, r4, r5, r6, r7, r8, r9⟩ := ROW.out w2 b2
    clear b2
    go_wp2_with fail
    refine (HE.out _ (BL.out.trans (BB.out.mono BL.out.size))).mono ?_
    rintro e w3 ⟨v3, rfl, o3, b3⟩
    obtain ⟨ao, cap, B3, rfl, s3, _⟩ := OutAt.src o3
    have BB := Lib.hid (BB.out.trans (b3.mono BB.out.size))
    obtain ⟨al, hsl, sl⟩ := s3.slice_l 1 (by simp)
    have hsrc := s3.src (by simp)
    have hc0 := s3.cell 0 (by simp)
    simp only [List.getD_cons_zero, Nat.zero_add] at hc0
    have hm : (c :: BD).length - 1 = BD.length := by simp
    rw [hm] at hsl
    have hcv : ∀ k, (convert 22 9 (.slice al BD.length (cap - 1))).run Try.prog (w3.drewN k) = .ok (.string (SL BD)) (w3.drewN k) := fun k => convert_src (sl.below (below_drewN (Below.refl _ _) k))
    have hdv : ∀ k, (convert 22 9 (.slice a1 n1 c1)).run Try.prog (w3.drewN k) = .ok (.string (SL o.data)) (w3.drewN k) := fun k => DC.out _ (below_drewN (BL.out.trans (BB.out.mono BL.out.size)) k)
    obtain ⟨r0, r1, r2, r3, r4, r5, r6, r7, r8, r9⟩ := ROW.out w3 BB.out
    have hn1 : ((c :: BD).length : Int) ≥ 1 := by rw [List.length_cons]; omega
    have hn0 : (0 : Int) < ((c :: BD).length : Int) := by rw [List.length_cons]; omega
    obtain ⟨n, hn⟩ : ∃ n, n = (c :: BD).length := ⟨_, rfl⟩
    rw [← hn] at hsl hn1 hn0 ⊢
    have hn2 : 0 < n := by omega
    obtain ⟨m, hm2⟩ : ∃ m, m = BD.length := ⟨_, rfl⟩
    rw [← hm2] at hsl hcv
    have hsl : ∀ W : World, (Instr.slice 22 (.slice ao n cap) (some (.int .i64 1)) none none).run Try.prog W = .ok (.slice al m (cap - 1)) W := hsl
    obtain ⟨x, hx⟩ : ∃ x, x = c.toNat := ⟨_, rfl⟩
    rw [← hx] at hc0 hk0
    have lb := SL_toList BD
    have ld := SL_toList o.data
    subst hsrc
    clear b3 o3 s3 sl hm hn hm2 hx HE
    by_cases k1 : K = 1
    · have hB := HBD.out k1
      subst k1
      rw [hB] at hcv lb
      have hq : (o.data == o.data) = true := beq_self_eq_true _
      clear hB HBD
      have hS : (fun W => W.cell? ⟨w.heap.size, 0, none⟩ = some (.int .i64 1) ∧ W.cell? ⟨w.heap.size, 1, none⟩ = some (.slice a1 n1 c1) ∧ W.cell? ⟨B3, 0, none⟩ = some (.int .u8 (x : Int)) ∧ (convert 22 9 (.slice al m (cap - 1))).run Try.prog W = .ok (.string (SL o.data)) W ∧ (convert 22 9 (.slice a1 n1 c1)).run Try.prog W = .ok (.string (SL o.data)) W) w3.drew := ⟨r0, r1, hc0, hcv 1, hdv 1⟩
      have HS := Lib.hid hS
      clear hS hcv hdv
      go_wp2_with fail
      first
        | go_region_held3 (fun W => W.cell? ⟨w.heap.size, 0, none⟩ = some (.int .i64 1) ∧ W.cell? ⟨w.heap.size, 1, none⟩ = some (.slice a1 n1 c1) ∧ W.cell? ⟨B3, 0, none⟩ = some (.int .u8 (x : Int)) ∧ (convert 22 9 (.slice al m (cap - 1))).run Try.prog W = .ok (.string (SL o.data)) W ∧ (convert 22 9 (.slice a1 n1 c1)).run Try.prog W = .ok (.string (SL o.data)) W) (first | exact HS.out) (fail)
        | fail "held"
      go_wp2
      go_ret
      exact ⟨rfl, (BL.out.trans (BB.out.mono BL.out.size)).drew⟩
    · have hq : (K != 1) = true := by simpa using k1
      have hq2 : (K == 1) = false := by simpa using k1
      clear HBD
      go_wp2_with fail
      go_quiet (fail)
      go_wp2
      go_ret
      exact ⟨rfl, below_drewN (BL.out.trans (BB.out.mono BL.out.size)) _⟩
end Go.Proofs.Ytckbeeadkiiccaa
namespace Go.Proofs.Ytckbeeadkiiccaa
open Go.ChangeShapes Go.WideShapes Go.ChangeAt Go.RowKit
set_option maxRecDepth 100000 in
theorem objectKinds_lifted (os : Os) (started : os.Started) (H : Type) (enc : TypeId × Value → H) :
    ReturnsInHanded {} Try.checked os 9 .any (Rows.objectKindsSpec.pre6 enc Try.prog Try.f9 Rows.objectKindsRow.domain false) (Rows.objectKindsSpec.post enc Try.prog Try.f9 false true false false) := by
  refine returnsInHanded_of_change_sized (C := Try.checked) Try.own started (by kernel_rfl) Try.func9
    (ChangeSpec.witness6 (enc := enc) (C := Try.checked) false ⟨#[], #[.agg #[.int .i64 0, .slice none 0 0, .slice none 0 0, .string .empty, .slice none 0 0, .string .empty, .string .empty, .string .empty, .int .i64 0, .string .empty]], []⟩ 8 (by kernel_rfl) (by kernel_rfl) (by kernel_rfl) (by kernel_rfl)) ?_
  intro W base args ds gs before hval0 hW hcnd hsz0 _
  clear hsz0
  have hval : ∀ (j : Nat) t v, Try.f9.params[j]? = some t → args[j]? = some v → Value.okWide Try.prog W .any base t v := hval0
  have hW' := hW
  obtain ⟨p, q, hA0, hV, rfl, hfz, hnd⟩ := hW
  have hA : DataW.TrodAll enc Try.prog W 0 (fun _ => true) true Try.f9.params.toList args.toList ds p := hA0
  rw [Try.params9] at hA hval
  obtain ⟨v0, d0, hargs0, rfl, h0⟩ := trodAll_one hA
  obtain rfl : args = #[v0] := by cases args; simp_all
  obtain ⟨rfl, rfl⟩ := trodVars_none hV
  simp only [List.append_nil] at hW'
  have hlt0 : ∀ x ∈ p, x.block < W.heap.size := fun x hx => by simpa using hW'.lt x (by simp [hx])
  have a0 : ∀ (W' : World), Below W.heap.size W W' → DataW.Trod enc Try.prog W' 0 (fun b => decide (b < W.heap.size)) true 26 v0 d0 p :=
    fun W' hn => Below.trod Try.laidOut (by kernel_rfl) (of_decide_eq_true (by kernel_rfl)) h0 hn hlt0
  obtain ⟨o0, dv0, ev0, uv0, rfl, hin0, hft0⟩ := open_object (hval 0 26 v0 rfl rfl) h0 hlt0
  clear hA0 hval0
  have hlaw := kinds_any (fun k => k < W.heap.size) o0 dv0 ev0 uv0 W hin0 hft0
  refine hlaw.mono fun e W' ⟨he, hb⟩ => ?_
  subst he
  exact ⟨_, rfl, _, _, _, [], _, [], hW', trodAll_mk1 (shut_bool Try.underlying4 _), trodAll_mk1 (a0 _ hb), rfl, hb.frame _, fun h => by cases h⟩

theorem objectKinds_holds : Rows.ObjectKindsSaid :=
  OpenClaim.holds_of_wide 9 Try.f9 rfl rfl rfl rfl rfl rfl rfl ⟨rfl, rfl, rfl, rfl, rfl⟩ rfl rfl rfl rfl rfl (by kernel_rfl) Try.func9 (by kernel_rfl)
    (of_decide_eq_true (by kernel_rfl)) (by unfold Func.isWrapper; first | (rw [if_pos (by decide +kernel)]; kernel_rfl) | (rw [if_neg (by decide +kernel)]; exact ⟨rfl, rfl⟩))
    (fun os started H enc _ => objectKinds_lifted os started H enc)
#print axioms objectKinds_holds
end Go.Proofs.Ytckbeeadkiiccaa
