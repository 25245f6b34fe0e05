/- Rename of the document's disk. -/
import Derived.Test.YthibhkoneajffaaDiskRefOps2
namespace Go.Proofs.Ythibhkoneajffaa
open Go.RowKit
section
variable {w : World} {F : Nat → Prop} {q : Nat} {ao : Option Addr} {cap : Nat} {P : List (Bs × Value)} {g off : Nat} {S : St}
theorem Relaid.opened {G : Nat → Prop} {c d l : Int} {dk : Bool} {L' : Files} {w' : World} (h : Relaid w q G c d l dk L' w') : ∃ ao cap P g off, w'.heap[q]? = some (refO c d l (.slice ao L'.length cap) dk) ∧
    RawAt w' (fun k => (G k ∧ k < w.heap.size) ∨ (w.heap.size ≤ k ∧ k < w'.heap.size)) ao cap P g off ∧ Has w' (fun k => (G k ∧ k < w.heap.size) ∨ (w.heap.size ≤ k ∧ k < w'.heap.size)) P L' := by
  obtain ⟨lv, h1, ao, cap, P, g, off, rfl, h2, h3⟩ := h.head
  exact ⟨ao, cap, P, g, off, h1, h2, h3⟩
set_option maxRecDepth 100000 in
set_option maxHeartbeats 1600000 in
theorem refRename_any (h : RefIn w F q ao cap P g off S) (hF : ∀ k, F k → k < w.heap.size) (hg : Good S) (hb : S.done ≤ 1000000000000) (f t : Bs) (hfl : f.length ≤ 9223372036854775807) (htl : t.length ≤ 9223372036854775807) :
    Calls Try.prog 59 #[ptr q, .string (SL f), .string (SL t)] w (RActs F q w (renameS S f t)) := by
  have hL : S.fs.length ≤ 4000000000000 := by have := hg.many; omega
  have hNf := refNamed_any f w hfl
  have hNt := refNamed_any t w htl
  have hT := touch_any h hg.rise hL f hfl
  have s1 : (SL f).size = f.length := SL_size f
  have s2 : (SL t).size = t.length := SL_size t
  unfold renameS
  cases hnt : named t with
  | false =>
    rw [if_pos rfl]
    rw [hnt] at hNt
    have HS := Lib.hid (ract_same h 1 0)
    clear hT
    cases hnf : named f with
    | false =>
      rw [hnf] at hNf
      go_enter Try.func59, Try.ntmps59
      go_wp2_with (first | (go_at_call_of 41 (SL f); refine hNf.mono ?_; rintro e wa ⟨rfl, rfl⟩))
      go_ret
      exact HS.out
    | true =>
      rw [hnf] at hNf
      go_enter Try.func59, Try.ntmps59
      go_wp2_with (first | (go_at_call_of 41 (SL f); refine hNf.mono ?_; rintro e wa ⟨rfl, rfl⟩) | (go_at_call_of 41 (SL t); refine hNt.mono ?_; rintro e wb ⟨rfl, rfl⟩))
      go_ret
      exact HS.out
  | true =>
    rw [if_neg (by simp)]
    rw [hnt] at hNt
    cases hnf : named f with
    | false =>
      have ht1 : touchS S f = 1 := by simp [touchS, hnf]
      rw [ht1, if_pos (by decide)]
      rw [hnf] at hNf
      have HS := Lib.hid (ract_same h 1 0)
      clear hT
      go_enter Try.func59, Try.ntmps59
      go_wp2_with (first | (go_at_call_of 41 (SL f); refine hNf.mono ?_; rintro e wa ⟨rfl, rfl⟩))
      go_ret
      exact HS.out
    | true =>
      rw [hnf] at hNf
      by_cases htc : touchS S f = 0
      · obtain ⟨_, hd, b, hbb⟩ := touch_there htc
        rw [if_neg (by simp [htc])]
        rw [htc] at hT
        have hf := hg.free_in
        have hthf : thereF f S.fs = true := by simp [thereF, hbb]
        have hbl := hg.file_le hbb
        unfold costF at hbl
        have hrd : (readS S f).2 = b := by simp [readS, hnf, hbb]
        have hrc : (readS S f).1 = 0 := by simp [readS, hnf, hbb]
        have hren : renamed S f t = putF t b (delF f S.fs) := by unfold renamed; rw [hbb]; rfl
        rw [hren]
        have hdl : (delF f S.fs).length ≤ 4000000000000 := by
          have h3 := costs_length (delF f S.fs)
          have h4 := costs_del hbb
          have h5 := hg.cost
          have h6 := hg.top
          omega
        have hfit : ∀ c, findF f S.fs = some c → c.length ≤ 140737488355328 := fun c hc => by have := hg.file_le hc; unfold costF at this; omega
        have HH := Lib.hid h
        clear h
        cases hth : thereF t S.fs with
        | false =>
          have hnone : findF t S.fs = none := by
            cases hx : findF t S.fs with
            | none => rfl
            | some c => simp [thereF, hx] at hth
          by_cases hq : S.free < (t.length : Int) - (f.length : Int)
          · rw [if_pos ⟨hnone, hq⟩]
            have q1 : (t.length : Int) - (f.length : Int) > S.free := hq
            have q2 : (t.length : Int) > (f.length : Int) := by omega
            clear hrd hrc hren hnone
            go_enter Try.func59, Try.ntmps59
            go_wp2_with (first | (go_at_call_of 41 (SL f); refine hNf.mono ?_; rintro e wa ⟨rfl, rfl⟩) | (go_at_call_of 41 (SL t); refine hNt.mono ?_; rintro e wb ⟨rfl, rfl⟩) | (go_at_call 47; refine hT.mono ?_; rintro e wc ⟨rfl, m, rfl⟩) | (go_at_call 57; refine (refHas_any (HH.out.drewN _) hg.rise hL t).mono ?_; rintro e wd ⟨rfl, m2, rfl⟩; rw [hth]) | (go_at_call 43; refine (refFree_in (HH.out.drewN _) hL hg.top).mono ?_; rintro e we ⟨rfl, m3, rfl⟩; rw [hf.2.2]))
            go_ret
            exact ract_below HH.out 4 (below_drewN (Below.refl _ _) _)
          · rw [if_neg (fun k => hq k.2)]
            have q1 : ¬ (t.length : Int) - (f.length : Int) > S.free := hq
            clear hnone
            unfold writeS
            by_cases h0 : S.left = 0
            · rw [if_pos h0]
              clear hrd hrc hren
              go_enter Try.func59, Try.ntmps59
              go_wp2_with (first | (go_at_call_of 41 (SL f); refine hNf.mono ?_; rintro e wa ⟨rfl, rfl⟩) | (go_at_call_of 41 (SL t); refine hNt.mono ?_; rintro e wb ⟨rfl, rfl⟩) | (go_at_call 47; refine hT.mono ?_; rintro e wc ⟨rfl, m, rfl⟩) | (go_at_call 57; refine (refHas_any (HH.out.drewN _) hg.rise hL t).mono ?_; rintro e wd ⟨rfl, m2, rfl⟩; rw [hth]) | (go_at_call 43; refine (refFree_in (HH.out.drewN _) hL hg.top).mono ?_; rintro e we ⟨rfl, m3, rfl⟩; rw [hf.2.2]) | (go_at_call 44; refine (spend_cut (HH.out.drewN _) h0).mono ?_; rintro e w3 ⟨rfl, h3, t3⟩))
              go_ret
              exact ract_cut h3 ((Turn.of_below F (below_drewN (Below.refl _ _) _)).trans t3)
            · rw [if_neg h0]
              go_enter Try.func59, Try.ntmps59
              go_wp2_with (first | (go_at_call_of 41 (SL f); refine hNf.mono ?_; rintro e wa ⟨rfl, rfl⟩) | (go_at_call_of 41 (SL t); refine hNt.mono ?_; rintro e wb ⟨rfl, rfl⟩) | (go_at_call 47; refine hT.mono ?_; rintro e wc ⟨rfl, m, rfl⟩) | (go_at_call 57; refine (refHas_any (HH.out.drewN _) hg.rise hL t).mono ?_; rintro e wd ⟨rfl, m2, rfl⟩; rw [hth]) | (go_at_call 43; refine (refFree_in (HH.out.drewN _) hL hg.top).mono ?_; rintro e we ⟨rfl, m3, rfl⟩; rw [hf.2.2]) | (go_at_call 44; refine (spend_done (HH.out.drewN _) hg hb h0).mono ?_; rintro e w3 ⟨rfl, h3, t3⟩; have tw3 := (Turn.of_below F (below_drewN (Below.refl _ _) _)).trans t3; have H3 := Lib.hid h3; have TW3 := Lib.hid tw3; clear h3 t3 tw3) | (go_at_call 42; refine (refRead_any H3.out hg.rise hL f hfl hfit).mono ?_; rintro e w4 ⟨v4, hv4, o4, b4⟩; have e4 : (readS (tick S) f).2 = b := hrd; have e5 : (readS (tick S) f).1 = 0 := hrc; rw [e4] at o4; rw [e5] at hv4; subst hv4; obtain ⟨ao4, cap4, B4, rfl, s4, hB4⟩ := src_of_own o4; have H4 := Lib.hid (H3.out.below b4); have TW4 := Lib.hid (TW3.out.trans (Turn.of_below F b4)); have S4 := Lib.hid s4; have HB4 := Lib.hid hB4; clear s4 hB4 o4 e4 e5) | (go_at_call 48; refine (drop_any H4.out.head H4.out.raw H4.out.has (fun j hj => hj.2) hg.rise hL f hthf).mono ?_; rintro e w5 ⟨rfl, h5⟩; obtain ⟨ao5, cap5, P5, g5, off5, hh5, hr5, hs5⟩ := h5.opened; have s5 := S4.out.turn h5.turn (fun hp e => by have i1 := HB4.out hp; have i2 := hF q H4.out.inQ; have i3 := TW3.out.size; omega); have S5 := Lib.hid s5; have HH5 := Lib.hid hh5; have HR5 := Lib.hid hr5; have HS5 := Lib.hid hs5; have T5 := Lib.hid h5.turn; clear hh5 hr5 hs5 s5 h5) | (go_at_call 45; refine (put_any HH5.out HR5.out HS5.out (fun j hj => (by rcases hj with hj | hj; exact hj.1.2; intro e; have i2 := hF q H4.out.inQ; have i3 := TW4.out.size; omega)) hg.rise.del hdl t ao4 cap4 b B4 0 S5.out (by omega)).mono ?_; rintro e w6 ⟨rfl, h6⟩))
              go_ret
              obtain ⟨lv6, hh6, hf6⟩ := h6.head
              have i2 := hF q H4.out.inQ
              have z4 := TW4.out.size
              have z5 := T5.out.size
              have z6 := h6.turn.size
              have hq : ∀ {x y : World}, Turn (fun k => k = q) x y → Turn F x y := fun tt => (Turn.refl F _).then tt (fun i _ e => by subst e; exact H4.out.inQ)
              refine ⟨rfl, ⟨lv6, hh6, .inl H4.out.inQ, hf6.mono fun i hi hx => ?_⟩, (TW4.out.trans (hq T5.out)).trans (hq h6.turn)⟩
              rcases hx with hx | hx
              · rcases hx.1 with hy | hy
                · exact ⟨.inl hy.1.1, hy.1.2⟩
                · exact ⟨.inr ⟨by omega, hi⟩, by omega⟩
              · exact ⟨.inr ⟨by omega, hi⟩, by omega⟩
        | true =>
          have hsome : findF t S.fs ≠ none := by
            intro hx
            simp [thereF, hx] at hth
          rw [if_neg (fun k => hsome k.1)]
          clear hsome
          unfold writeS
          by_cases h0 : S.left = 0
          · rw [if_pos h0]
            clear hrd hrc hren
            go_enter Try.func59, Try.ntmps59
            go_wp2_with (first | (go_at_call_of 41 (SL f); refine hNf.mono ?_; rintro e wa ⟨rfl, rfl⟩) | (go_at_call_of 41 (SL t); refine hNt.mono ?_; rintro e wb ⟨rfl, rfl⟩) | (go_at_call 47; refine hT.mono ?_; rintro e wc ⟨rfl, m, rfl⟩) | (go_at_call 57; refine (refHas_any (HH.out.drewN _) hg.rise hL t).mono ?_; rintro e wd ⟨rfl, m2, rfl⟩; rw [hth]) | (go_at_call 44; refine (spend_cut (HH.out.drewN _) h0).mono ?_; rintro e w3 ⟨rfl, h3, t3⟩))
            go_ret
            exact ract_cut h3 ((Turn.of_below F (below_drewN (Below.refl _ _) _)).trans t3)
          · rw [if_neg h0]
            go_enter Try.func59, Try.ntmps59
            go_wp2_with (first | (go_at_call_of 41 (SL f); refine hNf.mono ?_; rintro e wa ⟨rfl, rfl⟩) | (go_at_call_of 41 (SL t); refine hNt.mono ?_; rintro e wb ⟨rfl, rfl⟩) | (go_at_call 47; refine hT.mono ?_; rintro e wc ⟨rfl, m, rfl⟩) | (go_at_call 57; refine (refHas_any (HH.out.drewN _) hg.rise hL t).mono ?_; rintro e wd ⟨rfl, m2, rfl⟩; rw [hth]) | (go_at_call 44; refine (spend_done (HH.out.drewN _) hg hb h0).mono ?_; rintro e w3 ⟨rfl, h3, t3⟩; have tw3 := (Turn.of_below F (below_drewN (Below.refl _ _) _)).trans t3; have H3 := Lib.hid h3; have TW3 := Lib.hid tw3; clear h3 t3 tw3) | (go_at_call 42; refine (refRead_any H3.out hg.rise hL f hfl hfit).mono ?_; rintro e w4 ⟨v4, hv4, o4, b4⟩; have e4 : (readS (tick S) f).2 = b := hrd; have e5 : (readS (tick S) f).1 = 0 := hrc; rw [e4] at o4; rw [e5] at hv4; subst hv4; obtain ⟨ao4, cap4, B4, rfl, s4, hB4⟩ := src_of_own o4; have H4 := Lib.hid (H3.out.below b4); have TW4 := Lib.hid (TW3.out.trans (Turn.of_below F b4)); have S4 := Lib.hid s4; have HB4 := Lib.hid hB4; clear s4 hB4 o4 e4 e5) | (go_at_call 48; refine (drop_any H4.out.head H4.out.raw H4.out.has (fun j hj => hj.2) hg.rise hL f hthf).mono ?_; rintro e w5 ⟨rfl, h5⟩; obtain ⟨ao5, cap5, P5, g5, off5, hh5, hr5, hs5⟩ := h5.opened; have s5 := S4.out.turn h5.turn (fun hp e => by have i1 := HB4.out hp; have i2 := hF q H4.out.inQ; have i3 := TW3.out.size; omega); have S5 := Lib.hid s5; have HH5 := Lib.hid hh5; have HR5 := Lib.hid hr5; have HS5 := Lib.hid hs5; have T5 := Lib.hid h5.turn; clear hh5 hr5 hs5 s5 h5) | (go_at_call 45; refine (put_any HH5.out HR5.out HS5.out (fun j hj => (by rcases hj with hj | hj; exact hj.1.2; intro e; have i2 := hF q H4.out.inQ; have i3 := TW4.out.size; omega)) hg.rise.del hdl t ao4 cap4 b B4 0 S5.out (by omega)).mono ?_; rintro e w6 ⟨rfl, h6⟩))
            go_ret
            obtain ⟨lv6, hh6, hf6⟩ := h6.head
            have i2 := hF q H4.out.inQ
            have z4 := TW4.out.size
            have z5 := T5.out.size
            have z6 := h6.turn.size
            have hq : ∀ {x y : World}, Turn (fun k => k = q) x y → Turn F x y := fun tt => (Turn.refl F _).then tt (fun i _ e => by subst e; exact H4.out.inQ)
            refine ⟨rfl, ⟨lv6, hh6, .inl H4.out.inQ, hf6.mono fun i hi hx => ?_⟩, (TW4.out.trans (hq T5.out)).trans (hq h6.turn)⟩
            rcases hx with hx | hx
            · rcases hx.1 with hy | hy
              · exact ⟨.inl hy.1.1, hy.1.2⟩
              · exact ⟨.inr ⟨by omega, hi⟩, by omega⟩
            · exact ⟨.inr ⟨by omega, hi⟩, by omega⟩
      · rw [if_pos htc]
        obtain ⟨z, hz⟩ : ∃ z, z = touchS S f := ⟨_, rfl⟩
        rw [← hz] at hT htc ⊢
        have HS := Lib.hid (fun m => ract_same h z m)
        clear hz
        go_enter Try.func59, Try.ntmps59
        go_wp2_with (first | (go_at_call_of 41 (SL f); refine hNf.mono ?_; rintro e wa ⟨rfl, rfl⟩) | (go_at_call_of 41 (SL t); refine hNt.mono ?_; rintro e wb ⟨rfl, rfl⟩) | (go_at_call 47; refine hT.mono ?_; rintro e wc ⟨rfl, m, rfl⟩))
        go_ret
        exact HS.out m
end
end Go.Proofs.Ythibhkoneajffaa
