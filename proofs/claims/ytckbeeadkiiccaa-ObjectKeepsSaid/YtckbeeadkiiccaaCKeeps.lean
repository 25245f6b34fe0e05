/- ObjectKeeps, for every object: the call returns true, and the arguments read as they did. No condition. -/
import Derived.Test.YtckbeeadkiiccaaCAwake
import Derived.Test.YtckbeeadkiiccaaCDec
import Derived.Test.YtckbeeadkiiccaaCEnc
import Derived.Test.YtckbeeadkiiccaaCLinks
import Derived.Deep.RegionHeld3
import Derived.Test.YtckbeeadkiiccaaCOpen
import Derived.ChangeMaps5
namespace Go.Proofs.Ytckbeeadkiiccaa
open Go.RowKit
theorem keeps_form {w : World} {base : Nat} {e : TypeId} {size : Nat} {v : Value} {n : Nat} {xs : List Value} (h : w.ownsRow base e size v n xs) (hn : 0 < n) : ∃ g cap, v = .slice (some ⟨g, 0, none⟩) n cap ∧ base ≤ g ∧ g < w.heap.size := by
  rcases h.2 with ⟨_, h0⟩ | ⟨g, cap, cur, hv, hb, hg, _⟩
  · omega
  · refine ⟨g, cap, hv, hb, ?_⟩
    rcases Nat.lt_or_ge g w.heap.size with hlt | hge
    · exact hlt
    · rw [Array.getElem?_eq_none hge] at hg; cases hg
set_option maxRecDepth 100000 in
set_option maxHeartbeats 16000000 in
theorem keeps_any (F : Nat → Prop) (o : ObjR) (dv ev uv : Value) (w : World) (h : ObjIn w F o dv ev uv) (_ : ObjFits o) :
    Calls Try.prog 7 #[objV o dv ev uv] w fun e w' => e = .returned (.bool true) ∧ Below w.heap.size w w' := by
  have hen := fun (W : World) (hb : Below w.heap.size w W) => encode_any F o dv ev uv W (h.turn (Turn.of_below (fun _ => False) hb) (fun _ _ h => h))
  have hli := fun (W : World) (hb : Below w.heap.size w W) => links_any F o dv ev uv W (h.turn (Turn.of_below (fun _ => False) hb) (fun _ _ h => h))
  obtain ⟨a1, c1, B1, o1, rfl, hd1, _⟩ := h.data
  obtain ⟨a2, c2, g2, o2, rfl, _⟩ := h.ents
  obtain ⟨a3, c3, g3, o3, rfl, _⟩ := h.ups
  unfold objV at hen hli ⊢
  obtain ⟨n1, hn1⟩ : ∃ n, n = o.data.length := ⟨_, rfl⟩
  obtain ⟨n2, hn2⟩ : ∃ n, n = o.ents.length := ⟨_, rfl⟩
  obtain ⟨n3, hn3⟩ : ∃ n, n = o.ups.length := ⟨_, rfl⟩
  obtain ⟨K, hK⟩ : ∃ k, k = o.kind := ⟨_, rfl⟩
  rw [← hn1, ← hn2, ← hn3, ← hK] at hen hli ⊢
  obtain ⟨W1, hW1⟩ : ∃ W1, W1 = w.alloc (.cells #[.int .i64 K, .slice a1 n1 c1, .slice a2 n2 c2, .string (SL o.tree), .slice a3 n3 c3, .string (SL o.target), .string (SL o.name), .string (SL o.who), .int .i64 o.stamp, .string (SL o.text)] 26) := ⟨_, rfl⟩
  have hbl : Below w.heap.size w W1 := by rw [hW1]; exact (Below.refl _ _).alloc (Nat.le_refl _) _
  have hrow : ∀ W, Below W1.heap.size W1 W → _ := fun W hb => obj_cells (below_turn hb (by rw [hW1]; exact heap_alloc_new w _))
  have HAW := Lib.hid awake_any
  have ROW := Lib.hid hrow
  have HW := Lib.hid hW1
  have BL := Lib.hid hbl
  have HK := Lib.hid hK
  clear hrow hW1 hbl hn1 hn2 hn3 hd1 hK
  cases hok : okO o with
  | false =>
    have e1 : errO o = 1 := by unfold errO; rw [hok]; rfl
    have e2 : bytesO o = [] := by unfold bytesO; rw [hok]; rfl
    rw [e1, e2] at hen
    have HE := Lib.hid hen
    clear hen hli h hok e1 e2
    go_enter Try.func7, Try.ntmps7
    go_wp2_with fail
    rw [← HW.out]
    go_wp2_with fail
    refine (HAW.out _).mono ?_
    rintro e w2 ⟨rfl, b2⟩
    have BB := Lib.hid b2
    obtain ⟨r0, r1, r2, r3, r4, r5, r6, r7, r8, r9⟩ := ROW.out w2 b2
    clear b2
    go_wp2_with fail
    refine (HE.out _ (BL.out.trans (BB.out.mono BL.out.size))).mono ?_
    rintro e w3 ⟨v3, rfl, o3, b3⟩
    have BB := Lib.hid (BB.out.trans (b3.mono BB.out.size))
    clear b3 o3
    go_wp2
    go_ret
    exact ⟨rfl, BL.out.trans (BB.out.mono BL.out.size)⟩
  | true =>
    have e1 : errO o = 0 := by unfold errO; rw [hok]; rfl
    have e2 : bytesO o = encO o := by unfold bytesO; rw [hok]; rfl
    have hlen := enc_length hok
    have hdec := dec_enc hok
    rw [e1, e2] at hen
    have hex := fun (G : Nat → Prop) (a b c : Value) (W : World) (hi : ObjIn W G o a b c) => encode_any G o a b c W hi
    rw [e1, e2] at hex
    have hpos : 0 < (encO o).length := by show 0 < (_ :: _ : OB).length; simp
    obtain ⟨E, hE⟩ : ∃ l, l = encO o := ⟨_, rfl⟩
    rw [← hE] at hen hlen hdec hex hpos
    have HE := Lib.hid hen
    have HLI := Lib.hid hli
    have HD := Lib.hid hdec
    have HLEN := Lib.hid hlen
    have HEX := Lib.hid hex
    have HPOS := Lib.hid hpos
    have lE := SL_toList E
    clear hen hli h hok e1 e2 hE hdec hlen hex hpos
    go_enter Try.func7, Try.ntmps7
    go_wp2_with fail
    rw [← HW.out]
    go_wp2_with fail
    refine (HAW.out _).mono ?_
    rintro e w2 ⟨rfl, b2⟩
    have BB2 := Lib.hid b2
    obtain ⟨r0, r1, r2, r3, r4, r5, r6, r7, r8, r9⟩ := ROW.out w2 b2
    clear b2
    go_wp2_with fail
    refine (HE.out _ (BL.out.trans (BB2.out.mono BL.out.size))).mono ?_
    rintro e w3 ⟨v3, rfl, o3, b3⟩
    obtain ⟨B3, ce, rfl, hB3, hB3w⟩ := keeps_form o3 HPOS.out
    obtain ⟨ae, ce', B3', hv3, s3, _⟩ := OutAt.src o3
    injection hv3 with hae hne hce
    subst hae hce
    have hcv := convert_src s3
    have BB3 := Lib.hid (BB2.out.trans (b3.mono BB2.out.size))
    have hd4 := decode_any _ ce B3' 0 E w3 s3 (by have := HLEN.out; omega)
    obtain ⟨ne, hne⟩ : ∃ n, n = E.length := ⟨_, rfl⟩
    rw [← hne] at hd4 hcv ⊢
    unfold OutAt at o3
    rw [← hne] at o3
    have HD4 := Lib.hid hd4
    have OWN := Lib.hid o3
    have HB3 := Lib.hid (show W1.heap.size ≤ B3 from Nat.le_trans BB2.out.size hB3)
    have HB3W := Lib.hid hB3w
    have HNE := Lib.hid hne
    clear b3 o3 s3 hd4 hne hB3 hB3w
    go_wp2_with fail
    refine HD4.out.mono ?_
    rintro e w4 ⟨b4, h4⟩
    rw [HD.out] at h4
    obtain ⟨dv4, ev4, uv4, rfl, i4⟩ := h4
    have B4 := Lib.hid b4
    have I4 := Lib.hid i4
    have BB4 := Lib.hid (BB3.out.trans (b4.mono BB3.out.size))
    clear b4 i4
    obtain ⟨a4, c4, rfl⟩ := I4.out.data.form
    obtain ⟨a5, c5, rfl⟩ := I4.out.ents.form
    obtain ⟨a6, c6, rfl⟩ := I4.out.ups.form
    obtain ⟨m1, hm1⟩ : ∃ n, n = o.data.length := ⟨_, rfl⟩
    obtain ⟨m2, hm2⟩ : ∃ n, n = o.ents.length := ⟨_, rfl⟩
    obtain ⟨m3, hm3⟩ : ∃ n, n = o.ups.length := ⟨_, rfl⟩
    rw [← hm1, ← hm2, ← hm3] at I4 ⊢
    clear hm1 hm2 hm3
    unfold objV
    rw [← HK.out]
    obtain ⟨W5, hW5⟩ : ∃ W5, W5 = w4.alloc (.cells #[.int .i64 K, .slice a4 m1 c4, .slice a5 m2 c5, .string (SL o.tree), .slice a6 m3 c6, .string (SL o.target), .string (SL o.name), .string (SL o.who), .int .i64 o.stamp, .string (SL o.text)] 26) := ⟨_, rfl⟩
    have hb5 : Below w4.heap.size w4 W5 := by rw [hW5]; exact (Below.refl _ _).alloc (Nat.le_refl _) _
    have hrow5 : ∀ W, Below W5.heap.size W5 W → _ := fun W hb => obj_cells (below_turn hb (by rw [hW5]; exact heap_alloc_new w4 _))
    have HW5 := Lib.hid hW5
    have B5 := Lib.hid hb5
    have HS5 := Lib.hid (show W5.heap.size = w4.heap.size + 1 by rw [hW5]; simp)
    have BB5 := Lib.hid (BB4.out.trans (hb5.mono BB4.out.size))
    have ROW5 := Lib.hid hrow5
    have hr5 := ROW.out W5 BB5.out
    rw [hW5] at hr5
    obtain ⟨r0, r1, r2, r3, r4, r5, r6, r7, r8, r9⟩ := hr5
    clear hW5 hb5 hrow5
    go_wp2_with fail
    rw [← HW5.out]
    refine (HLI.out _ (BL.out.trans (BB5.out.mono BL.out.size))).mono ?_
    rintro e w6 ⟨v6, rfl, o6, b6⟩
    have BB6 := Lib.hid (BB5.out.trans (b6.mono BB5.out.size))
    have B46 := Lib.hid (B5.out.trans (b6.mono B5.out.size))
    have B36 := Lib.hid (B4.out.trans (B46.out.mono B4.out.size))
    obtain ⟨Q0, Q1, Q2, Q3, Q4, Q5, Q6, Q7, Q8, Q9⟩ := ROW5.out w6 b6
    have QQ := Lib.hid (And.intro Q0 (And.intro Q1 (And.intro Q2 (And.intro Q3 (And.intro Q4 (And.intro Q5 (And.intro Q6 (And.intro Q7 (And.intro Q8 Q9)))))))))
    have I6 := Lib.hid ((I4.out.mono (F' := fun k => w3.heap.size ≤ k ∧ k < w4.heap.size) (fun k hk h => ⟨h, hk⟩)).turn (Turn.of_below (fun _ => False) B46.out) (fun _ _ h => h))
    have OWN6 := Lib.hid (own_below OWN.out B36.out)
    obtain ⟨al, cl, _, _, hv6, sl6⟩ := TextsAt.of_own (F := fun _ => True) o6 (fun _ _ => trivial)
    subst hv6
    obtain ⟨nl, hnl⟩ : ∃ n, n = (linksO o).length := ⟨_, rfl⟩
    have hnb : nl ≤ 9223372036854775807 := by
      have h1 := sl6.le
      have h2 := sl6.top
      unfold maxLen at h2
      omega
    clear sl6
    unfold TxtsOwn at o6
    rw [← hnl] at o6 ⊢
    obtain ⟨xs6, hxs6⟩ : ∃ l, l = tcells (linksO o) := ⟨_, rfl⟩
    rw [← hxs6] at o6
    have OL6 := Lib.hid o6
    clear b6 Q0 Q1 Q2 Q3 Q4 Q5 Q6 Q7 Q8 Q9 r0 r1 r2 r3 r4 r5 r6 r7 r8 r9 o6 hnl hxs6 hcv lE
    have hsm : (ne : Int) ≤ 1100000 := by have := HNE.out; have := HLEN.out; omega
    have HEACH := Lib.hid (show ∀ j, j < ne → ∃ z, (E.map B8)[j]? = some (.int .u8 z) from fun j hj => ⟨((E[j]'(by rw [← HNE.out]; exact hj)).toNat : Int), by rw [List.getElem?_map, List.getElem?_eq_getElem (by rw [← HNE.out]; exact hj)]; rfl⟩)
    go_wp2_with fail
    go_loopw [10] (fun i W => ∃ (k : Nat) (xs : List Value) (V : World), i = .int .i64 (k : Int) ∧ V = W ∧ k ≤ ne ∧ Hid (W.ownsRow w2.heap.size 5 1 (.slice (some ⟨B3, 0, none⟩) ne ce) ne xs) ∧ Hid (∀ j, j < ne → ∃ z, xs[j]? = some (.int .u8 z)) ∧ Hid (Turn (fun j => j = B3) w6 W)) (fun i _ => ne - (intOf i).toNat)
    case atStart => exact ⟨0, _, _, rfl, rfl, Nat.zero_le _, OWN6, HEACH, Lib.hid (Turn.refl _ _)⟩
    case round =>
      obtain ⟨k, xs, V1, rfl, rfl, hk, OX, EX, TX⟩ := hrel
      by_cases hlt : k < ne
      · have i0 : (0 : Int) ≤ (k : Int) := by omega
        have i1 : (k : Int) < (ne : Int) := by omega
        obtain ⟨z, hz⟩ := EX.out k hlt
        have c0 := OX.out.cellAt k (by omega)
        rw [hz] at c0
        have f0 := OX.out.frozenAt k
        have SX := fun u => Lib.hid (OX.out.stored k u)
        clear hz
        go_wp2
        go_roundw
        case rel =>
          refine ⟨k + 1, _, _, by go_num, rfl, by omega, Lib.hid (SX _).out.1, Lib.hid (fun j hj => ?_), Lib.hid (TX.out.trans (Turn.setCell _ _ _ rfl))⟩
          rw [List.getElem?_set]
          split
          · split
            · exact ⟨_, rfl⟩
            · obtain ⟨z2, hz2⟩ := EX.out j hj
              rename_i hjk hjl
              rw [← hjk] at hz2
              rw [List.getElem?_eq_none (by omega)] at hz2
              cases hz2
          · exact EX.out j hj
        case measure => simp [intOf]; omega
      · obtain rfl : k = ne := by omega
        have i1 : ¬ (k : Int) < (k : Int) := by omega
        have OL7 := Lib.hid (own_turn OL6.out TX.out (Nat.lt_of_lt_of_le HB3W.out (Nat.le_trans B4.out.size B5.out.size)))
        clear OX EX i1 hk hlt
        go_wp2_with fail
        go_loopw [11] (fun i W => ∃ (k : Nat) (xs : List Value) (V : World), i = .int .i64 (k : Int) ∧ V = W ∧ k ≤ nl ∧ Hid (W.ownsRow W5.heap.size 9 1 (.slice al nl cl) nl xs) ∧ Hid (Turn (fun j => W5.heap.size ≤ j) V1 W)) (fun i _ => nl - (intOf i).toNat)
        case atStart => exact ⟨0, _, _, rfl, rfl, Nat.zero_le _, OL7, Lib.hid (Turn.refl _ _)⟩
        case round =>
          obtain ⟨k2, xs, V2, rfl, rfl, hk2, OX, TY⟩ := hrel
          by_cases hlt2 : k2 < nl
          · obtain ⟨g, cg, hv, hg, _⟩ := keeps_form OX.out (by omega)
            injection hv with ha _ hc
            subst ha hc
            have i0 : (0 : Int) ≤ (k2 : Int) := by omega
            have i1 : (k2 : Int) < (nl : Int) := by omega
            have c0 := OX.out.cellAt k2 (by omega)
            obtain ⟨z, hz⟩ : ∃ z, xs[k2]? = some z := ⟨_, List.getElem?_eq_getElem (by rw [OX.out.1]; omega)⟩
            rw [hz] at c0
            have f0 := OX.out.frozenAt k2
            have SX := fun u => Lib.hid (OX.out.stored k2 u)
            have HG := Lib.hid hg
            clear hz hg
            go_wp2
            go_roundw
            case rel => exact ⟨k2 + 1, _, _, by go_num, rfl, by omega, Lib.hid (SX _).out.1, Lib.hid (TY.out.trans (Turn.setCell _ _ _ HG.out))⟩
            case measure => simp [intOf]; omega
          · obtain rfl : k2 = nl := by omega
            have i1 : ¬ (k2 : Int) < (k2 : Int) := by omega
            have T := Lib.hid (((Turn.refl (fun j => j = B3 ∨ W5.heap.size ≤ j) w6).then TX.out (fun _ _ h => Or.inl h)).then TY.out (fun _ _ h => Or.inr h))
            have h3 : B3 < w4.heap.size := Nat.lt_of_lt_of_le HB3W.out B4.out.size
            have hq5 := HS5.out
            have BB := Lib.hid (BB6.out.trans (T.out.below (B := W1.heap.size) BB6.out.size (fun j hj => by
              have := HB3.out
              have := BB5.out.size
              rcases hj with hj | hj <;> omega)))
            obtain ⟨r0, r1, r2, r3, r4, r5, r6, r7, r8, r9⟩ := ROW.out V2 BB.out
            clear OX hk2 hlt2 i1
            go_wp2_with fail
            refine (HE.out _ (BL.out.trans (BB.out.mono BL.out.size))).mono ?_
            rintro e w12 ⟨v12, rfl, o12, b12⟩
            obtain ⟨a12, c12, B12, rfl, s12, _⟩ := OutAt.src o12
            have BB := Lib.hid (BB.out.trans (b12.mono BB.out.size))
            have T2 := Lib.hid (T.out.then (Turn.of_below (fun _ => False) b12) (fun _ _ h => h.elim))
            have hnq : ∀ j : Nat, ¬ (w4.heap.size = B3 ∨ W5.heap.size ≤ w4.heap.size) := fun _ h => by rcases h with h | h <;> omega
            obtain ⟨Q0, Q1, Q2, Q3, Q4, Q5, Q6, Q7, Q8, Q9⟩ := QQ.out
            have q0 := T2.out.cell Q0 (hnq 0)
            have q1 := T2.out.cell Q1 (hnq 0)
            have q2 := T2.out.cell Q2 (hnq 0)
            have q3 := T2.out.cell Q3 (hnq 0)
            have q4 := T2.out.cell Q4 (hnq 0)
            have q5 := T2.out.cell Q5 (hnq 0)
            have q6 := T2.out.cell Q6 (hnq 0)
            have q7 := T2.out.cell Q7 (hnq 0)
            have q8 := T2.out.cell Q8 (hnq 0)
            have q9 := T2.out.cell Q9 (hnq 0)
            have hw3 := HB3W.out
            have hex := HEX.out _ _ _ _ w12 (I6.out.turn T2.out (fun k hk h => by rcases h with h | h <;> omega))
            unfold objV at hex
            rw [← HK.out] at hex
            have HX := Lib.hid hex
            rw [← HNE.out]
            have S12 := Lib.hid s12
            clear Q0 Q1 Q2 Q3 Q4 Q5 Q6 Q7 Q8 Q9 hex hnq hq5 h3 hw3 b12 o12 s12 r0 r1 r2 r3 r4 r5 r6 r7 r8 r9
            go_wp2_with fail
            refine HX.out.mono ?_
            rintro e w13 ⟨v13, rfl, o13, b13⟩
            obtain ⟨a13, c13, B13, rfl, s13, _⟩ := OutAt.src o13
            have BB := Lib.hid (BB.out.trans (b13.mono BB.out.size))
            have hc1 := convert_src (S12.out.below b13)
            have hc2 := convert_src s13
            have lE := SL_toList E
            have hq : (E == E) = true := beq_self_eq_true _
            rw [← HNE.out] at hc1 hc2 ⊢
            clear q0 q1 q2 q3 q4 q5 q6 q7 q8 q9 b13 o13 s13
            go_wp2
            go_ret
            exact ⟨rfl, BL.out.trans (BB.out.mono BL.out.size)⟩
end Go.Proofs.Ytckbeeadkiiccaa
namespace Go.Proofs.Ytckbeeadkiiccaa
open Go.ChangeShapes Go.WideShapes Go.ChangeAt Go.RowKit
set_option maxRecDepth 100000 in
theorem objectKeeps_lifted (os : Os) (started : os.Started) (H : Type) (enc : TypeId × Value → H) :
    ReturnsInHanded {} Try.checked os 7 .any (Rows.objectKeepsSpec.pre6 enc Try.prog Try.f7 Rows.objectKeepsRow.domain false) (Rows.objectKeepsSpec.post enc Try.prog Try.f7 false true false false) := by
  refine returnsInHanded_of_change_sized (C := Try.checked) Try.own started (by kernel_rfl) Try.func7
    (ChangeSpec.witness6 (enc := enc) (C := Try.checked) false ⟨#[], #[.agg #[.int .i64 0, .slice none 0 0, .slice none 0 0, .string .empty, .slice none 0 0, .string .empty, .string .empty, .string .empty, .int .i64 0, .string .empty]], []⟩ 8 (by kernel_rfl) (by kernel_rfl) (by kernel_rfl) (by kernel_rfl)) ?_
  intro W base args ds gs before hval0 hW hcnd hsz0 _
  clear hsz0
  have hval : ∀ (j : Nat) t v, Try.f7.params[j]? = some t → args[j]? = some v → Value.okWide Try.prog W .any base t v := hval0
  have hW' := hW
  obtain ⟨p, q, hA0, hV, rfl, hfz, hnd⟩ := hW
  have hA : DataW.TrodAll enc Try.prog W 0 (fun _ => true) true Try.f7.params.toList args.toList ds p := hA0
  rw [Try.params7] at hA hval
  obtain ⟨v0, d0, hargs0, rfl, h0⟩ := trodAll_one hA
  obtain rfl : args = #[v0] := by cases args; simp_all
  obtain ⟨rfl, rfl⟩ := trodVars_none hV
  simp only [List.append_nil] at hW'
  have hlt0 : ∀ x ∈ p, x.block < W.heap.size := fun x hx => by simpa using hW'.lt x (by simp [hx])
  have a0 : ∀ (W' : World), Below W.heap.size W W' → DataW.Trod enc Try.prog W' 0 (fun b => decide (b < W.heap.size)) true 26 v0 d0 p :=
    fun W' hn => Below.trod Try.laidOut (by kernel_rfl) (of_decide_eq_true (by kernel_rfl)) h0 hn hlt0
  obtain ⟨o0, dv0, ev0, uv0, rfl, hin0, hft0⟩ := open_object (hval 0 26 v0 rfl rfl) h0 hlt0
  clear hA0 hval0
  have hlaw := keeps_any (fun k => k < W.heap.size) o0 dv0 ev0 uv0 W hin0 hft0
  refine hlaw.mono fun e W' ⟨he, hb⟩ => ?_
  subst he
  exact ⟨_, rfl, _, _, _, [], _, [], hW', trodAll_mk1 (shut_bool Try.underlying4 _), trodAll_mk1 (a0 _ hb), rfl, hb.frame _, fun h => by cases h⟩

theorem objectKeeps_holds : Rows.ObjectKeepsSaid :=
  OpenClaim.holds_of_wide 7 Try.f7 rfl rfl rfl rfl rfl rfl rfl ⟨rfl, rfl, rfl, rfl, rfl⟩ rfl rfl rfl rfl rfl (by kernel_rfl) Try.func7 (by kernel_rfl)
    (of_decide_eq_true (by kernel_rfl)) (by unfold Func.isWrapper; first | (rw [if_pos (by decide +kernel)]; kernel_rfl) | (rw [if_neg (by decide +kernel)]; exact ⟨rfl, rfl⟩))
    (fun os started H enc _ => objectKeeps_lifted os started H enc)
#print axioms objectKeeps_holds
end Go.Proofs.Ytckbeeadkiiccaa
