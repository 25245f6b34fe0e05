/- ObjectLinks, for every object: the call returns true, and the arguments read as they did. No condition. -/
import Derived.Test.YtckbeeadkiiccaaCAwake
import Derived.Test.YtckbeeadkiiccaaCLinks
import Derived.Test.YtckbeeadkiiccaaCOpen
import Derived.ChangeMaps5
namespace Go.Proofs.Ytckbeeadkiiccaa
open Go.RowKit
set_option maxRecDepth 100000 in
set_option maxHeartbeats 8000000 in
theorem lawLinks_any (F : Nat → Prop) (o : ObjR) (dv ev uv : Value) (w : World) (h : ObjIn w F o dv ev uv) (_ : ObjFits o) :
    Calls Try.prog 8 #[objV o dv ev uv] w fun e w' => e = .returned (.bool true) ∧ Below w.heap.size w w' := by
  have hli := fun (W : World) (hb : Below w.heap.size w W) => links_any F o dv ev uv W (h.turn (Turn.of_below (fun _ => False) hb) (fun _ _ h => h))
  have hck := fun (W : World) (hb : Below w.heap.size w W) => check_any F o dv ev uv W (h.turn (Turn.of_below (fun _ => False) hb) (fun _ _ h => h))
  obtain ⟨a1, c1, B1, o1, rfl, _, _⟩ := h.data
  obtain ⟨a2, c2, g2, o2, rfl, _⟩ := h.ents
  obtain ⟨a3, c3, g3, o3, rfl, _⟩ := h.ups
  unfold objV at hli hck ⊢
  have hcnt := fun hok : okO o = true => links_count hok
  have hsz := fun hok : okO o = true => ok_sizes hok
  obtain ⟨n1, hn1⟩ : ∃ n, n = o.data.length := ⟨_, rfl⟩
  obtain ⟨n2, hn2⟩ : ∃ n, n = o.ents.length := ⟨_, rfl⟩
  obtain ⟨n3, hn3⟩ : ∃ n, n = o.ups.length := ⟨_, rfl⟩
  obtain ⟨K, hK⟩ : ∃ k, k = o.kind := ⟨_, rfl⟩
  rw [← hn1, ← hn2, ← hn3, ← hK] at hli hck ⊢
  rw [← hn2, ← hn3, ← hK] at hcnt
  rw [← hn2, ← hn3] at hsz
  obtain ⟨L, hL⟩ : ∃ l, l = linksO o := ⟨_, rfl⟩
  rw [← hL] at hli hcnt
  have hnil : okO o = false → L = [] := fun hok => by rw [hL]; unfold linksO; rw [if_pos hok]
  obtain ⟨W1, hW1⟩ : ∃ W1, W1 = w.alloc (.cells #[.int .i64 K, .slice a1 n1 c1, .slice a2 n2 c2, .string (SL o.tree), .slice a3 n3 c3, .string (SL o.target), .string (SL o.name), .string (SL o.who), .int .i64 o.stamp, .string (SL o.text)] 26) := ⟨_, rfl⟩
  have hbl : Below w.heap.size w W1 := by rw [hW1]; exact (Below.refl _ _).alloc (Nat.le_refl _) _
  have hrow : ∀ W, Below W1.heap.size W1 W → _ := fun W hb => obj_cells (below_turn hb (by rw [hW1]; exact heap_alloc_new w _))
  have hk4 := fun hok : okO o = true => kind_of_ok hok
  rw [← hK] at hk4
  have HAW := Lib.hid awake_any
  have ROW := Lib.hid hrow
  have HW := Lib.hid hW1
  have BL := Lib.hid hbl
  have HLI := Lib.hid hli
  clear hrow hW1 hbl hn1 hn2 hn3 hli hL hK
  cases hok : okO o with
  | false =>
    have e1 : errO o = 1 := by unfold errO; rw [hok]; rfl
    rw [e1] at hck
    rw [hnil hok] at HLI
    have HC := Lib.hid hck
    clear hck h hok e1 hnil hcnt hsz hk4
    go_enter Try.func8, Try.ntmps8
    go_wp2_with fail
    rw [← HW.out]
    go_wp2_with (first
      | (go_at_call 10; refine (HAW.out _).mono ?_; rintro e w2 ⟨rfl, b2⟩; have BB := Lib.hid b2; obtain ⟨r0, r1, r2, r3, r4, r5, r6, r7, r8, r9⟩ := ROW.out w2 b2; clear b2)
      | (go_at_call 20; refine (HLI.out _ (BL.out.trans (BB.out.mono BL.out.size))).mono ?_; rintro e w3 ⟨v3, rfl, o3, b3⟩; obtain ⟨ao, cap, rfl⟩ := (TextsAt.of_own (F := fun _ => True) o3 (fun _ _ => trivial)).form; have BB := Lib.hid (BB.out.trans (b3.mono BB.out.size)); obtain ⟨r0, r1, r2, r3, r4, r5, r6, r7, r8, r9⟩ := ROW.out w3 BB.out; clear b3 o3)
      | (go_at_call 18; refine (HC.out _ (BL.out.trans (BB.out.mono BL.out.size))).mono ?_; rintro e w4 ⟨rfl, b4⟩; have BB := Lib.hid (BB.out.trans (b4.mono BB.out.size)); clear b4))
    go_ret
    exact ⟨rfl, BL.out.trans (BB.out.mono BL.out.size)⟩
  | true =>
    have e1 : errO o = 0 := by unfold errO; rw [hok]; rfl
    rw [e1] at hck
    have HC := Lib.hid hck
    obtain ⟨hc1, hc2⟩ := hcnt hok
    obtain ⟨hs1, hs2⟩ := hsz hok
    have hk := hk4 hok
    have HEACH := Lib.hid hc2
    obtain ⟨NL, hNL⟩ : ∃ n, n = L.length := ⟨_, rfl⟩
    rw [← hNL] at hc1
    have HNL := Lib.hid hNL
    clear hck h hok e1 hnil hcnt hsz hk4 hc2 hNL
    have hwr : IntKind.i64.wrap (1 + (n3 : Int)) = 1 + (n3 : Int) := IntWalk.i64_in _ (by omega)
    rcases hk with k1 | k1 | k1 | k1
    · subst k1
      have hw : NL = 0 := by simpa using hc1
      clear hc1
      have hwb : ((NL : Int) == 0) = true := by rw [beq_iff_eq]; omega
      have hnl : NL ≤ 5000 := by omega
      clear hw
      go_enter Try.func8, Try.ntmps8
      go_wp2_with fail
      rw [← HW.out]
      go_wp2_with (first
        | (go_at_call 10; refine (HAW.out _).mono ?_; rintro e w2 ⟨rfl, b2⟩; have BB := Lib.hid b2; obtain ⟨r0, r1, r2, r3, r4, r5, r6, r7, r8, r9⟩ := ROW.out w2 b2; clear b2)
        | (go_at_call 20; refine (HLI.out _ (BL.out.trans (BB.out.mono BL.out.size))).mono ?_; rintro e w3 ⟨v3, rfl, o3, b3⟩; obtain ⟨ao, cap, g, off, rfl, s3⟩ := TextsAt.of_own (F := fun _ => True) o3 (fun _ _ => trivial); rw [← HNL.out] at s3 ⊢; have BB := Lib.hid (BB.out.trans (b3.mono BB.out.size)); have S3 := Lib.hid s3; obtain ⟨r0, r1, r2, r3, r4, r5, r6, r7, r8, r9⟩ := ROW.out w3 BB.out; clear b3 o3 s3)
        | (go_at_call 18; refine (HC.out _ (BL.out.trans (BB.out.mono BL.out.size))).mono ?_; rintro e w4 ⟨rfl, b4⟩; have BB := Lib.hid (BB.out.trans (b4.mono BB.out.size)); have S4 := Lib.hid (S3.out.turn (Turn.of_below (fun _ => False) b4) (fun _ _ h => h)); obtain ⟨r0, r1, r2, r3, r4, r5, r6, r7, r8, r9⟩ := ROW.out w4 BB.out; clear b4))
      go_loopw [6] (fun i W => ∃ k : Nat, i = .int .i64 (k : Int) ∧ k ≤ NL ∧ W = w4) (fun i _ => NL - (intOf i).toNat)
      case atStart => exact ⟨0, rfl, Nat.zero_le _, rfl⟩
      case round =>
        obtain ⟨k, rfl, hk, rfl⟩ := hrel
        by_cases hlt : k < NL
        · have i0 : (0 : Int) ≤ (k : Int) := by omega
          have i1 : (k : Int) < (NL : Int) := by omega
          obtain ⟨t, ht⟩ : ∃ t, L[k]? = some t := ⟨_, List.getElem?_eq_getElem (by rw [← HNL.out]; exact hlt)⟩
          have h32 := HEACH.out t (List.mem_of_getElem? ht)
          obtain ⟨rfl, c0⟩ := S4.out.text ht hlt
          have hz : (SL t).size = 32 := by rw [SL_size]; exact h32
          clear ht h32
          go_wp2
          go_roundw
          case rel => exact ⟨k + 1, by go_num, by omega, trivial⟩
          case measure => simp [intOf]; omega
        · obtain rfl : k = NL := by omega
          have i1 : ¬ (k : Int) < (k : Int) := by omega
          go_wp2
          go_ret
          exact ⟨rfl, BL.out.trans (BB.out.mono BL.out.size)⟩
    · subst k1
      have hw : NL = n2 := by simpa using hc1
      clear hc1
      have hwb : ((NL : Int) == (n2 : Int)) = true := by rw [beq_iff_eq]; omega
      have hnl : NL ≤ 5000 := by omega
      clear hw
      go_enter Try.func8, Try.ntmps8
      go_wp2_with fail
      rw [← HW.out]
      go_wp2_with (first
        | (go_at_call 10; refine (HAW.out _).mono ?_; rintro e w2 ⟨rfl, b2⟩; have BB := Lib.hid b2; obtain ⟨r0, r1, r2, r3, r4, r5, r6, r7, r8, r9⟩ := ROW.out w2 b2; clear b2)
        | (go_at_call 20; refine (HLI.out _ (BL.out.trans (BB.out.mono BL.out.size))).mono ?_; rintro e w3 ⟨v3, rfl, o3, b3⟩; obtain ⟨ao, cap, g, off, rfl, s3⟩ := TextsAt.of_own (F := fun _ => True) o3 (fun _ _ => trivial); rw [← HNL.out] at s3 ⊢; have BB := Lib.hid (BB.out.trans (b3.mono BB.out.size)); have S3 := Lib.hid s3; obtain ⟨r0, r1, r2, r3, r4, r5, r6, r7, r8, r9⟩ := ROW.out w3 BB.out; clear b3 o3 s3)
        | (go_at_call 18; refine (HC.out _ (BL.out.trans (BB.out.mono BL.out.size))).mono ?_; rintro e w4 ⟨rfl, b4⟩; have BB := Lib.hid (BB.out.trans (b4.mono BB.out.size)); have S4 := Lib.hid (S3.out.turn (Turn.of_below (fun _ => False) b4) (fun _ _ h => h)); obtain ⟨r0, r1, r2, r3, r4, r5, r6, r7, r8, r9⟩ := ROW.out w4 BB.out; clear b4))
      go_loopw [6] (fun i W => ∃ k : Nat, i = .int .i64 (k : Int) ∧ k ≤ NL ∧ W = w4) (fun i _ => NL - (intOf i).toNat)
      case atStart => exact ⟨0, rfl, Nat.zero_le _, rfl⟩
      case round =>
        obtain ⟨k, rfl, hk, rfl⟩ := hrel
        by_cases hlt : k < NL
        · have i0 : (0 : Int) ≤ (k : Int) := by omega
          have i1 : (k : Int) < (NL : Int) := by omega
          obtain ⟨t, ht⟩ : ∃ t, L[k]? = some t := ⟨_, List.getElem?_eq_getElem (by rw [← HNL.out]; exact hlt)⟩
          have h32 := HEACH.out t (List.mem_of_getElem? ht)
          obtain ⟨rfl, c0⟩ := S4.out.text ht hlt
          have hz : (SL t).size = 32 := by rw [SL_size]; exact h32
          clear ht h32
          go_wp2
          go_roundw
          case rel => exact ⟨k + 1, by go_num, by omega, trivial⟩
          case measure => simp [intOf]; omega
        · obtain rfl : k = NL := by omega
          have i1 : ¬ (k : Int) < (k : Int) := by omega
          go_wp2
          go_ret
          exact ⟨rfl, BL.out.trans (BB.out.mono BL.out.size)⟩
    · subst k1
      have hw : NL = 1 + n3 := by simpa using hc1
      clear hc1
      have hweq : (NL : Int) = 1 + (n3 : Int) := by omega
      have hwb : ((NL : Int) == 1 + (n3 : Int)) = true := by rw [hweq]; exact beq_self_eq_true _
      have hnl : NL ≤ 5000 := by omega
      clear hw hweq
      go_enter Try.func8, Try.ntmps8
      go_wp2_with fail
      rw [← HW.out]
      go_wp2_with (first
        | (go_at_call 10; refine (HAW.out _).mono ?_; rintro e w2 ⟨rfl, b2⟩; have BB := Lib.hid b2; obtain ⟨r0, r1, r2, r3, r4, r5, r6, r7, r8, r9⟩ := ROW.out w2 b2; clear b2)
        | (go_at_call 20; refine (HLI.out _ (BL.out.trans (BB.out.mono BL.out.size))).mono ?_; rintro e w3 ⟨v3, rfl, o3, b3⟩; obtain ⟨ao, cap, g, off, rfl, s3⟩ := TextsAt.of_own (F := fun _ => True) o3 (fun _ _ => trivial); rw [← HNL.out] at s3 ⊢; have BB := Lib.hid (BB.out.trans (b3.mono BB.out.size)); have S3 := Lib.hid s3; obtain ⟨r0, r1, r2, r3, r4, r5, r6, r7, r8, r9⟩ := ROW.out w3 BB.out; clear b3 o3 s3)
        | (go_at_call 18; refine (HC.out _ (BL.out.trans (BB.out.mono BL.out.size))).mono ?_; rintro e w4 ⟨rfl, b4⟩; have BB := Lib.hid (BB.out.trans (b4.mono BB.out.size)); have S4 := Lib.hid (S3.out.turn (Turn.of_below (fun _ => False) b4) (fun _ _ h => h)); obtain ⟨r0, r1, r2, r3, r4, r5, r6, r7, r8, r9⟩ := ROW.out w4 BB.out; clear b4))
      go_loopw [6] (fun i W => ∃ k : Nat, i = .int .i64 (k : Int) ∧ k ≤ NL ∧ W = w4) (fun i _ => NL - (intOf i).toNat)
      case atStart => exact ⟨0, rfl, Nat.zero_le _, rfl⟩
      case round =>
        obtain ⟨k, rfl, hk, rfl⟩ := hrel
        by_cases hlt : k < NL
        · have i0 : (0 : Int) ≤ (k : Int) := by omega
          have i1 : (k : Int) < (NL : Int) := by omega
          obtain ⟨t, ht⟩ : ∃ t, L[k]? = some t := ⟨_, List.getElem?_eq_getElem (by rw [← HNL.out]; exact hlt)⟩
          have h32 := HEACH.out t (List.mem_of_getElem? ht)
          obtain ⟨rfl, c0⟩ := S4.out.text ht hlt
          have hz : (SL t).size = 32 := by rw [SL_size]; exact h32
          clear ht h32
          go_wp2
          go_roundw
          case rel => exact ⟨k + 1, by go_num, by omega, trivial⟩
          case measure => simp [intOf]; omega
        · obtain rfl : k = NL := by omega
          have i1 : ¬ (k : Int) < (k : Int) := by omega
          go_wp2
          go_ret
          exact ⟨rfl, BL.out.trans (BB.out.mono BL.out.size)⟩
    · subst k1
      have hw : NL = 1 := by simpa using hc1
      clear hc1
      have hwb : ((NL : Int) == 1) = true := by rw [beq_iff_eq]; omega
      have hnl : NL ≤ 5000 := by omega
      clear hw
      go_enter Try.func8, Try.ntmps8
      go_wp2_with fail
      rw [← HW.out]
      go_wp2_with (first
        | (go_at_call 10; refine (HAW.out _).mono ?_; rintro e w2 ⟨rfl, b2⟩; have BB := Lib.hid b2; obtain ⟨r0, r1, r2, r3, r4, r5, r6, r7, r8, r9⟩ := ROW.out w2 b2; clear b2)
        | (go_at_call 20; refine (HLI.out _ (BL.out.trans (BB.out.mono BL.out.size))).mono ?_; rintro e w3 ⟨v3, rfl, o3, b3⟩; obtain ⟨ao, cap, g, off, rfl, s3⟩ := TextsAt.of_own (F := fun _ => True) o3 (fun _ _ => trivial); rw [← HNL.out] at s3 ⊢; have BB := Lib.hid (BB.out.trans (b3.mono BB.out.size)); have S3 := Lib.hid s3; obtain ⟨r0, r1, r2, r3, r4, r5, r6, r7, r8, r9⟩ := ROW.out w3 BB.out; clear b3 o3 s3)
        | (go_at_call 18; refine (HC.out _ (BL.out.trans (BB.out.mono BL.out.size))).mono ?_; rintro e w4 ⟨rfl, b4⟩; have BB := Lib.hid (BB.out.trans (b4.mono BB.out.size)); have S4 := Lib.hid (S3.out.turn (Turn.of_below (fun _ => False) b4) (fun _ _ h => h)); obtain ⟨r0, r1, r2, r3, r4, r5, r6, r7, r8, r9⟩ := ROW.out w4 BB.out; clear b4))
      go_loopw [6] (fun i W => ∃ k : Nat, i = .int .i64 (k : Int) ∧ k ≤ NL ∧ W = w4) (fun i _ => NL - (intOf i).toNat)
      case atStart => exact ⟨0, rfl, Nat.zero_le _, rfl⟩
      case round =>
        obtain ⟨k, rfl, hk, rfl⟩ := hrel
        by_cases hlt : k < NL
        · have i0 : (0 : Int) ≤ (k : Int) := by omega
          have i1 : (k : Int) < (NL : Int) := by omega
          obtain ⟨t, ht⟩ : ∃ t, L[k]? = some t := ⟨_, List.getElem?_eq_getElem (by rw [← HNL.out]; exact hlt)⟩
          have h32 := HEACH.out t (List.mem_of_getElem? ht)
          obtain ⟨rfl, c0⟩ := S4.out.text ht hlt
          have hz : (SL t).size = 32 := by rw [SL_size]; exact h32
          clear ht h32
          go_wp2
          go_roundw
          case rel => exact ⟨k + 1, by go_num, by omega, trivial⟩
          case measure => simp [intOf]; omega
        · obtain rfl : k = NL := by omega
          have i1 : ¬ (k : Int) < (k : Int) := by omega
          go_wp2
          go_ret
          exact ⟨rfl, BL.out.trans (BB.out.mono BL.out.size)⟩
end Go.Proofs.Ytckbeeadkiiccaa
namespace Go.Proofs.Ytckbeeadkiiccaa
open Go.ChangeShapes Go.WideShapes Go.ChangeAt Go.RowKit
set_option maxRecDepth 100000 in
theorem objectLinks_lifted (os : Os) (started : os.Started) (H : Type) (enc : TypeId × Value → H) :
    ReturnsInHanded {} Try.checked os 8 .any (Rows.objectLinksSpec.pre6 enc Try.prog Try.f8 Rows.objectLinksRow.domain false) (Rows.objectLinksSpec.post enc Try.prog Try.f8 false true false false) := by
  refine returnsInHanded_of_change_sized (C := Try.checked) Try.own started (by kernel_rfl) Try.func8
    (ChangeSpec.witness6 (enc := enc) (C := Try.checked) false ⟨#[], #[.agg #[.int .i64 0, .slice none 0 0, .slice none 0 0, .string .empty, .slice none 0 0, .string .empty, .string .empty, .string .empty, .int .i64 0, .string .empty]], []⟩ 8 (by kernel_rfl) (by kernel_rfl) (by kernel_rfl) (by kernel_rfl)) ?_
  intro W base args ds gs before hval0 hW hcnd hsz0 _
  clear hsz0
  have hval : ∀ (j : Nat) t v, Try.f8.params[j]? = some t → args[j]? = some v → Value.okWide Try.prog W .any base t v := hval0
  have hW' := hW
  obtain ⟨p, q, hA0, hV, rfl, hfz, hnd⟩ := hW
  have hA : DataW.TrodAll enc Try.prog W 0 (fun _ => true) true Try.f8.params.toList args.toList ds p := hA0
  rw [Try.params8] at hA hval
  obtain ⟨v0, d0, hargs0, rfl, h0⟩ := trodAll_one hA
  obtain rfl : args = #[v0] := by cases args; simp_all
  obtain ⟨rfl, rfl⟩ := trodVars_none hV
  simp only [List.append_nil] at hW'
  have hlt0 : ∀ x ∈ p, x.block < W.heap.size := fun x hx => by simpa using hW'.lt x (by simp [hx])
  have a0 : ∀ (W' : World), Below W.heap.size W W' → DataW.Trod enc Try.prog W' 0 (fun b => decide (b < W.heap.size)) true 26 v0 d0 p :=
    fun W' hn => Below.trod Try.laidOut (by kernel_rfl) (of_decide_eq_true (by kernel_rfl)) h0 hn hlt0
  obtain ⟨o0, dv0, ev0, uv0, rfl, hin0, hft0⟩ := open_object (hval 0 26 v0 rfl rfl) h0 hlt0
  clear hA0 hval0
  have hlaw := lawLinks_any (fun k => k < W.heap.size) o0 dv0 ev0 uv0 W hin0 hft0
  refine hlaw.mono fun e W' ⟨he, hb⟩ => ?_
  subst he
  exact ⟨_, rfl, _, _, _, [], _, [], hW', trodAll_mk1 (shut_bool Try.underlying4 _), trodAll_mk1 (a0 _ hb), rfl, hb.frame _, fun h => by cases h⟩

theorem objectLinks_holds : Rows.ObjectLinksSaid :=
  OpenClaim.holds_of_wide 8 Try.f8 rfl rfl rfl rfl rfl rfl rfl ⟨rfl, rfl, rfl, rfl, rfl⟩ rfl rfl rfl rfl rfl (by kernel_rfl) Try.func8 (by kernel_rfl)
    (of_decide_eq_true (by kernel_rfl)) (by unfold Func.isWrapper; first | (rw [if_pos (by decide +kernel)]; kernel_rfl) | (rw [if_neg (by decide +kernel)]; exact ⟨rfl, rfl⟩))
    (fun os started H enc _ => objectLinks_lifted os started H enc)
#print axioms objectLinks_holds
end Go.Proofs.Ytckbeeadkiiccaa
