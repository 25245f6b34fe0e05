/- ObjectEncodes, for every object: the call returns true, and the arguments read as they did. No condition. -/
import Derived.Test.YtckbeeadkiiccaaCAwake
import Derived.Test.YtckbeeadkiiccaaCLinks
import Derived.Test.YtckbeeadkiiccaaCRefC
import Derived.Test.YtckbeeadkiiccaaCBaseD
import Derived.Deep.RegionHeld3
import Derived.Test.YtckbeeadkiiccaaCOpen
import Derived.ChangeMaps5
namespace Go.Proofs.Ytckbeeadkiiccaa
open Go.RowKit
set_option maxRecDepth 100000 in
set_option maxHeartbeats 8000000 in
theorem encodes_any (F : Nat → Prop) (o : ObjR) (dv ev uv : Value) (w : World) (h : ObjIn w F o dv ev uv) (hf : ObjFits o) :
    Calls Try.prog 3 #[objV o dv ev uv] w fun e w' => e = .returned (.bool true) ∧ Below w.heap.size w w' := by
  have hen := fun (W : World) (hb : Below w.heap.size w W) => encode_any F o dv ev uv W (h.turn (Turn.of_below (fun _ => False) hb) (fun _ _ h => h))
  have hren := fun (W : World) (hb : Below w.heap.size w W) => refEncode_any F o dv ev uv W (h.turn (Turn.of_below (fun _ => False) hb) (fun _ _ h => h)) hf
  have hid := fun (W : World) (hb : Below w.heap.size w W) => id_any F o dv ev uv W (h.turn (Turn.of_below (fun _ => False) hb) (fun _ _ h => h))
  have hrid := fun (W : World) (hb : Below w.heap.size w W) => refId_any F o dv ev uv W (h.turn (Turn.of_below (fun _ => False) hb) (fun _ _ h => h)) hf
  have hck := fun (W : World) (hb : Below w.heap.size w W) => check_any F o dv ev uv W (h.turn (Turn.of_below (fun _ => False) hb) (fun _ _ h => h))
  have hli := fun (W : World) (hb : Below w.heap.size w W) => links_any F o dv ev uv W (h.turn (Turn.of_below (fun _ => False) hb) (fun _ _ h => h))
  have hrli := fun (W : World) (hb : Below w.heap.size w W) => refLinks_any F o dv ev uv W (h.turn (Turn.of_below (fun _ => False) hb) (fun _ _ h => h)) hf
  obtain ⟨a1, c1, B1, o1, rfl, _, _⟩ := h.data
  obtain ⟨a2, c2, g2, o2, rfl, hs2⟩ := h.ents
  obtain ⟨a3, c3, g3, o3, rfl, _⟩ := h.ups
  unfold objV at hen hren hid hrid hck hli hrli ⊢
  have hll : (linksO o).length ≤ 9223372036854775807 := by
    cases hok : okO o with
    | false => unfold linksO; rw [if_pos hok]; exact Nat.zero_le _
    | true =>
      have h1 := (links_count hok).1
      have h2 := ok_sizes hok
      rw [h1]
      split
      · omega
      · split
        · omega
        · split <;> omega
  obtain ⟨n1, hn1⟩ : ∃ n, n = o.data.length := ⟨_, rfl⟩
  obtain ⟨n2, hn2⟩ : ∃ n, n = o.ents.length := ⟨_, rfl⟩
  obtain ⟨n3, hn3⟩ : ∃ n, n = o.ups.length := ⟨_, rfl⟩
  obtain ⟨K, hK⟩ : ∃ k, k = o.kind := ⟨_, rfl⟩
  obtain ⟨E, hE⟩ : ∃ e, e = errO o := ⟨_, rfl⟩
  obtain ⟨BO, hBO⟩ : ∃ e, e = bytesO o := ⟨_, rfl⟩
  obtain ⟨IO, hIO⟩ : ∃ e, e = idO o := ⟨_, rfl⟩
  obtain ⟨LO, hLO⟩ : ∃ e, e = linksO o := ⟨_, rfl⟩
  rw [← hn1, ← hn2, ← hn3, ← hK] at hen hren hid hrid hck hli hrli ⊢
  rw [← hE] at hen hren hid hrid hck
  rw [← hBO] at hen hren
  rw [← hIO] at hid hrid
  rw [← hLO] at hli hrli hll
  rw [← hn2] at hs2
  have hq1 : (IO == IO) = true := beq_self_eq_true _
  have lq1 := SL_toList IO
  obtain ⟨W1, hW1⟩ : ∃ W1, W1 = w.alloc (.cells #[.int .i64 K, .slice a1 n1 c1, .slice a2 n2 c2, .string (SL o.tree), .slice a3 n3 c3, .string (SL o.target), .string (SL o.name), .string (SL o.who), .int .i64 o.stamp, .string (SL o.text)] 26) := ⟨_, rfl⟩
  have hbl : Below w.heap.size w W1 := by rw [hW1]; exact (Below.refl _ _).alloc (Nat.le_refl _) _
  have hrow : ∀ W, Below W1.heap.size W1 W → _ := fun W hb => obj_cells (below_turn hb (by rw [hW1]; exact heap_alloc_new w _))
  have HAW := Lib.hid awake_any
  have ROW := Lib.hid hrow
  have HW := Lib.hid hW1
  have BL := Lib.hid hbl
  have HEN := Lib.hid hen
  have HREN := Lib.hid hren
  have HIDD := Lib.hid hid
  have HRID := Lib.hid hrid
  have HCK := Lib.hid hck
  have HLI := Lib.hid hli
  have HRLI := Lib.hid hrli
  have HN2 := Lib.hid hn2
  have HS2 := Lib.hid (fun (W : World) (hb : Below w.heap.size w W) => hs2.turn (Turn.of_below (fun _ => False) hb) (fun _ _ h => h))
  have HEACH := Lib.hid hf.each
  have UP := Lib.hid (fun (W : World) (hb : Below W1.heap.size W1 W) => hbl.trans (hb.mono hbl.size))
  clear hrow hW1 hbl hn1 hn2 hn3 hK hE hBO hIO hLO hen hren hid hrid hck hli hrli hs2 h hf
  go_enter Try.func3, Try.ntmps3
  go_wp2_with fail
  rw [← HW.out]
  go_wp2_with (go_at_call 10; refine (HAW.out _).mono ?_; rintro e w2 ⟨rfl, b2⟩; have BB := Lib.hid b2; obtain ⟨r0, r1, r2, r3, r4, r5, r6, r7, r8, r9⟩ := ROW.out w2 b2; clear b2)
  go_loopw [4] (fun i W => ∃ k : Nat, i = .int .i64 (k : Int) ∧ k ≤ n2 ∧ k ≤ 100 ∧ Below W1.heap.size W1 W) (fun i _ => 100 - (intOf i).toNat)
  case atStart => exact ⟨0, rfl, Nat.zero_le _, Nat.zero_le _, BB.out⟩
  case round =>
    clear BB r0 r1 r2 r3 r4 r5 r6 r7 r8 r9
    obtain ⟨k, rfl, hk, hk2, hB⟩ := hrel
    obtain ⟨r0, r1, r2, r3, r4, r5, r6, r7, r8, r9⟩ := ROW.out wr hB
    have BB := Lib.hid hB
    clear hB
    by_cases hlt : k < n2 ∧ k < 100
    · have i0 : (0 : Int) ≤ (k : Int) := by omega
      have i1 : (k : Int) < (n2 : Int) := by omega
      have i2 : (k : Int) < 100 := by omega
      obtain ⟨e, he⟩ : ∃ e, o.ents[k]? = some e := ⟨_, List.getElem?_eq_getElem (by rw [← HN2.out]; exact hlt.1)⟩
      have hnm := (HEACH.out e (List.mem_of_getElem? he)).1
      obtain ⟨rfl, c0, _, _⟩ := (HS2.out wr (UP.out wr BB.out)).entry he hlt.1
      have CC := Lib.hid (fun (W : World) (hb : Below W1.heap.size W1 W) => (show W.cell? ⟨w.heap.size, 2, none⟩ = some (.slice (some ⟨g2, o2, none⟩) n2 c2) ∧ W.cell? ⟨g2, o2 + k * 3, none⟩ = some (.string (SL e.nm)) from ⟨(ROW.out W hb).2.2.1, ((HS2.out W (UP.out W hb)).entry he hlt.1).2.1⟩))
      have hp1 := Lib.hid (fun W => part_any e.nm W)
      have hp2 := Lib.hid (fun W => refPart_any e.nm hnm W)
      obtain ⟨pb, hpb⟩ : ∃ b, b = partB e.nm := ⟨_, rfl⟩
      rw [← hpb] at hp1 hp2
      have hpe : (pb != pb) = false := by simp
      have hk3 : k + 1 ≤ n2 ∧ k + 1 ≤ 100 := by omega
      have HK3 := Lib.hid hk3
      clear he hpb hlt hnm hk3
      go_wp2_with fail
      have BB := Lib.hid BB.out.drew
      first
        | go_region_held3 (fun W => W.cell? ⟨w.heap.size, 2, none⟩ = some (.slice (some ⟨g2, o2, none⟩) n2 c2) ∧ W.cell? ⟨g2, o2 + k * 3, none⟩ = some (.string (SL e.nm))) (first | exact CC.out _ BB.out) ((first
          | (go_at_call 11; refine (hp1.out _).mono ?_; rintro e1 w3 ⟨rfl, b3⟩; have BB := Lib.hid (BB.out.trans (b3.mono BB.out.size)); clear b3)
          | (go_at_call 12; refine (hp2.out _).mono ?_; rintro e1 w4 ⟨rfl, rfl⟩)))
        | fail "held"
      all_goals (go_wp2; go_roundw)
      all_goals first | exact ⟨k + 1, by go_num, HK3.out.1, HK3.out.2, BB.out⟩ | (simp [intOf]; omega)
    · have hex : ((k : Int) < (n2 : Int) ∧ ¬ (k : Int) < 100) ∨ ¬ (k : Int) < (n2 : Int) := by omega
      rcases hex with ⟨i1, i2⟩ | i1
      case inl =>
        clear hlt
        go_wp2_with (first
          | (go_at_call 13; refine (HEN.out _ (UP.out _ BB.out)).mono ?_; rintro e w3 ⟨v3, rfl, o3', b3⟩; obtain ⟨ao, cap, B3, rfl, s3, _⟩ := OutAt.src o3'; have BB := Lib.hid (BB.out.trans (b3.mono BB.out.size)); have S3 := Lib.hid s3; obtain ⟨r0, r1, r2, r3, r4, r5, r6, r7, r8, r9⟩ := ROW.out w3 BB.out; clear b3 o3' s3)
          | (go_at_call 14; refine (HREN.out _ (UP.out _ BB.out)).mono ?_; rintro e w4 ⟨v4, rfl, o4', b4⟩; obtain ⟨ar, capr, B4, rfl, s4, _⟩ := OutAt.src o4'; have BB := Lib.hid (BB.out.trans (b4.mono BB.out.size)); have S4 := Lib.hid s4; have S3 := Lib.hid (S3.out.below b4); obtain ⟨r0, r1, r2, r3, r4, r5, r6, r7, r8, r9⟩ := ROW.out w4 BB.out; clear b4 o4' s4)
          | (go_at_call 15; refine (HIDD.out _ (UP.out _ BB.out)).mono ?_; rintro e w5 ⟨rfl, b5⟩; have BB := Lib.hid (BB.out.trans (b5.mono BB.out.size)); have S3 := Lib.hid (S3.out.below b5); have S4 := Lib.hid (S4.out.below b5); obtain ⟨r0, r1, r2, r3, r4, r5, r6, r7, r8, r9⟩ := ROW.out w5 BB.out; clear b5)
          | (go_at_call 16; refine (HRID.out _ (UP.out _ BB.out)).mono ?_; rintro e w6 ⟨rfl, b6⟩; have BB := Lib.hid (BB.out.trans (b6.mono BB.out.size)); have S3 := Lib.hid (S3.out.below b6); have S4 := Lib.hid (S4.out.below b6); obtain ⟨r0, r1, r2, r3, r4, r5, r6, r7, r8, r9⟩ := ROW.out w6 BB.out; clear b6))
        have BB := Lib.hid BB.out.drew
        have S3 := Lib.hid (S3.out.below ((Below.refl w6.heap.size w6).drew))
        have S4 := Lib.hid (S4.out.below ((Below.refl w6.heap.size w6).drew))
        first
          | go_region_held3 (fun W => W.cell? ⟨w.heap.size, 0, none⟩ = some (.int .i64 K) ∧ W.cell? ⟨w.heap.size, 1, none⟩ = some (.slice a1 n1 c1) ∧ W.cell? ⟨w.heap.size, 2, none⟩ = some (.slice a2 n2 c2) ∧ W.cell? ⟨w.heap.size, 3, none⟩ = some (.string (SL o.tree)) ∧ W.cell? ⟨w.heap.size, 4, none⟩ = some (.slice a3 n3 c3) ∧ W.cell? ⟨w.heap.size, 5, none⟩ = some (.string (SL o.target)) ∧ W.cell? ⟨w.heap.size, 6, none⟩ = some (.string (SL o.name)) ∧ W.cell? ⟨w.heap.size, 7, none⟩ = some (.string (SL o.who)) ∧ W.cell? ⟨w.heap.size, 8, none⟩ = some (.int .i64 o.stamp) ∧ W.cell? ⟨w.heap.size, 9, none⟩ = some (.string (SL o.text))) (first | exact ROW.out _ BB.out) ((first
            | (go_at_call 17; refine (same_true _ S3.out S4.out).mono ?_; rintro e w7 ⟨rfl, rfl⟩)
            | (go_at_call 18; refine (HCK.out _ (UP.out _ BB.out)).mono ?_; rintro e w8 ⟨rfl, b8⟩; have BB := Lib.hid (BB.out.trans (b8.mono BB.out.size)); clear b8)
            | (go_at_call 20; refine (HLI.out _ (UP.out _ BB.out)).mono ?_; rintro e w9 ⟨v9, rfl, o9, b9⟩; have BB := Lib.hid (BB.out.trans (b9.mono BB.out.size)); have TL := Lib.hid (TextsAt.of_own (F := fun _ => True) o9 (fun _ _ => trivial)); (try have TR := Lib.hid (TR.out.turn (Turn.of_below (fun _ => False) b9) (fun _ _ h => h))); clear b9 o9)
            | (go_at_call 21; refine (HRLI.out _ (UP.out _ BB.out)).mono ?_; rintro e wa ⟨va, rfl, oa, ba⟩; have BB := Lib.hid (BB.out.trans (ba.mono BB.out.size)); have TR := Lib.hid (TextsAt.of_own (F := fun _ => True) oa (fun _ _ => trivial)); (try have TL := Lib.hid (TL.out.turn (Turn.of_below (fun _ => False) ba) (fun _ _ h => h))); clear ba oa)
            | (go_at_call 19; refine (refSameTexts_any _ _ _ _ LO LO _ TL.out TR.out hll).mono ?_; rintro e wb ⟨rfl, m, rfl⟩; have BB := Lib.hid (below_drewN BB.out m))))
          | fail "held2"
        all_goals (go_wp2; go_ret; exact ⟨by simp, UP.out _ BB.out⟩)
      case inr =>
        clear hlt
        go_wp2_with (first
          | (go_at_call 13; refine (HEN.out _ (UP.out _ BB.out)).mono ?_; rintro e w3 ⟨v3, rfl, o3', b3⟩; obtain ⟨ao, cap, B3, rfl, s3, _⟩ := OutAt.src o3'; have BB := Lib.hid (BB.out.trans (b3.mono BB.out.size)); have S3 := Lib.hid s3; obtain ⟨r0, r1, r2, r3, r4, r5, r6, r7, r8, r9⟩ := ROW.out w3 BB.out; clear b3 o3' s3)
          | (go_at_call 14; refine (HREN.out _ (UP.out _ BB.out)).mono ?_; rintro e w4 ⟨v4, rfl, o4', b4⟩; obtain ⟨ar, capr, B4, rfl, s4, _⟩ := OutAt.src o4'; have BB := Lib.hid (BB.out.trans (b4.mono BB.out.size)); have S4 := Lib.hid s4; have S3 := Lib.hid (S3.out.below b4); obtain ⟨r0, r1, r2, r3, r4, r5, r6, r7, r8, r9⟩ := ROW.out w4 BB.out; clear b4 o4' s4)
          | (go_at_call 15; refine (HIDD.out _ (UP.out _ BB.out)).mono ?_; rintro e w5 ⟨rfl, b5⟩; have BB := Lib.hid (BB.out.trans (b5.mono BB.out.size)); have S3 := Lib.hid (S3.out.below b5); have S4 := Lib.hid (S4.out.below b5); obtain ⟨r0, r1, r2, r3, r4, r5, r6, r7, r8, r9⟩ := ROW.out w5 BB.out; clear b5)
          | (go_at_call 16; refine (HRID.out _ (UP.out _ BB.out)).mono ?_; rintro e w6 ⟨rfl, b6⟩; have BB := Lib.hid (BB.out.trans (b6.mono BB.out.size)); have S3 := Lib.hid (S3.out.below b6); have S4 := Lib.hid (S4.out.below b6); obtain ⟨r0, r1, r2, r3, r4, r5, r6, r7, r8, r9⟩ := ROW.out w6 BB.out; clear b6))
        have BB := Lib.hid BB.out.drew
        have S3 := Lib.hid (S3.out.below ((Below.refl w6.heap.size w6).drew))
        have S4 := Lib.hid (S4.out.below ((Below.refl w6.heap.size w6).drew))
        first
          | go_region_held3 (fun W => W.cell? ⟨w.heap.size, 0, none⟩ = some (.int .i64 K) ∧ W.cell? ⟨w.heap.size, 1, none⟩ = some (.slice a1 n1 c1) ∧ W.cell? ⟨w.heap.size, 2, none⟩ = some (.slice a2 n2 c2) ∧ W.cell? ⟨w.heap.size, 3, none⟩ = some (.string (SL o.tree)) ∧ W.cell? ⟨w.heap.size, 4, none⟩ = some (.slice a3 n3 c3) ∧ W.cell? ⟨w.heap.size, 5, none⟩ = some (.string (SL o.target)) ∧ W.cell? ⟨w.heap.size, 6, none⟩ = some (.string (SL o.name)) ∧ W.cell? ⟨w.heap.size, 7, none⟩ = some (.string (SL o.who)) ∧ W.cell? ⟨w.heap.size, 8, none⟩ = some (.int .i64 o.stamp) ∧ W.cell? ⟨w.heap.size, 9, none⟩ = some (.string (SL o.text))) (first | exact ROW.out _ BB.out) ((first
            | (go_at_call 17; refine (same_true _ S3.out S4.out).mono ?_; rintro e w7 ⟨rfl, rfl⟩)
            | (go_at_call 18; refine (HCK.out _ (UP.out _ BB.out)).mono ?_; rintro e w8 ⟨rfl, b8⟩; have BB := Lib.hid (BB.out.trans (b8.mono BB.out.size)); clear b8)
            | (go_at_call 20; refine (HLI.out _ (UP.out _ BB.out)).mono ?_; rintro e w9 ⟨v9, rfl, o9, b9⟩; have BB := Lib.hid (BB.out.trans (b9.mono BB.out.size)); have TL := Lib.hid (TextsAt.of_own (F := fun _ => True) o9 (fun _ _ => trivial)); (try have TR := Lib.hid (TR.out.turn (Turn.of_below (fun _ => False) b9) (fun _ _ h => h))); clear b9 o9)
            | (go_at_call 21; refine (HRLI.out _ (UP.out _ BB.out)).mono ?_; rintro e wa ⟨va, rfl, oa, ba⟩; have BB := Lib.hid (BB.out.trans (ba.mono BB.out.size)); have TR := Lib.hid (TextsAt.of_own (F := fun _ => True) oa (fun _ _ => trivial)); (try have TL := Lib.hid (TL.out.turn (Turn.of_below (fun _ => False) ba) (fun _ _ h => h))); clear ba oa)
            | (go_at_call 19; refine (refSameTexts_any _ _ _ _ LO LO _ TL.out TR.out hll).mono ?_; rintro e wb ⟨rfl, m, rfl⟩; have BB := Lib.hid (below_drewN BB.out m))))
          | fail "held2"
        all_goals (go_wp2; go_ret; exact ⟨by simp, UP.out _ BB.out⟩)
end Go.Proofs.Ytckbeeadkiiccaa
namespace Go.Proofs.Ytckbeeadkiiccaa
open Go.ChangeShapes Go.WideShapes Go.ChangeAt Go.RowKit
set_option maxRecDepth 100000 in
theorem objectEncodes_lifted (os : Os) (started : os.Started) (H : Type) (enc : TypeId × Value → H) :
    ReturnsInHanded {} Try.checked os 3 .any (Rows.objectEncodesSpec.pre6 enc Try.prog Try.f3 Rows.objectEncodesRow.domain false) (Rows.objectEncodesSpec.post enc Try.prog Try.f3 false true false false) := by
  refine returnsInHanded_of_change_sized (C := Try.checked) Try.own started (by kernel_rfl) Try.func3
    (ChangeSpec.witness6 (enc := enc) (C := Try.checked) false ⟨#[], #[.agg #[.int .i64 0, .slice none 0 0, .slice none 0 0, .string .empty, .slice none 0 0, .string .empty, .string .empty, .string .empty, .int .i64 0, .string .empty]], []⟩ 8 (by kernel_rfl) (by kernel_rfl) (by kernel_rfl) (by kernel_rfl)) ?_
  intro W base args ds gs before hval0 hW hcnd hsz0 _
  clear hsz0
  have hval : ∀ (j : Nat) t v, Try.f3.params[j]? = some t → args[j]? = some v → Value.okWide Try.prog W .any base t v := hval0
  have hW' := hW
  obtain ⟨p, q, hA0, hV, rfl, hfz, hnd⟩ := hW
  have hA : DataW.TrodAll enc Try.prog W 0 (fun _ => true) true Try.f3.params.toList args.toList ds p := hA0
  rw [Try.params3] at hA hval
  obtain ⟨v0, d0, hargs0, rfl, h0⟩ := trodAll_one hA
  obtain rfl : args = #[v0] := by cases args; simp_all
  obtain ⟨rfl, rfl⟩ := trodVars_none hV
  simp only [List.append_nil] at hW'
  have hlt0 : ∀ x ∈ p, x.block < W.heap.size := fun x hx => by simpa using hW'.lt x (by simp [hx])
  have a0 : ∀ (W' : World), Below W.heap.size W W' → DataW.Trod enc Try.prog W' 0 (fun b => decide (b < W.heap.size)) true 26 v0 d0 p :=
    fun W' hn => Below.trod Try.laidOut (by kernel_rfl) (of_decide_eq_true (by kernel_rfl)) h0 hn hlt0
  obtain ⟨o0, dv0, ev0, uv0, rfl, hin0, hft0⟩ := open_object (hval 0 26 v0 rfl rfl) h0 hlt0
  clear hA0 hval0
  have hlaw := encodes_any (fun k => k < W.heap.size) o0 dv0 ev0 uv0 W hin0 hft0
  refine hlaw.mono fun e W' ⟨he, hb⟩ => ?_
  subst he
  exact ⟨_, rfl, _, _, _, [], _, [], hW', trodAll_mk1 (shut_bool Try.underlying4 _), trodAll_mk1 (a0 _ hb), rfl, hb.frame _, fun h => by cases h⟩

theorem objectEncodes_holds : Rows.ObjectEncodesSaid :=
  OpenClaim.holds_of_wide 3 Try.f3 rfl rfl rfl rfl rfl rfl rfl ⟨rfl, rfl, rfl, rfl, rfl⟩ rfl rfl rfl rfl rfl (by kernel_rfl) Try.func3 (by kernel_rfl)
    (of_decide_eq_true (by kernel_rfl)) (by unfold Func.isWrapper; first | (rw [if_pos (by decide +kernel)]; kernel_rfl) | (rw [if_neg (by decide +kernel)]; exact ⟨rfl, rfl⟩))
    (fun os started H enc _ => objectEncodes_lifted os started H enc)
#print axioms objectEncodes_holds
end Go.Proofs.Ytckbeeadkiiccaa
