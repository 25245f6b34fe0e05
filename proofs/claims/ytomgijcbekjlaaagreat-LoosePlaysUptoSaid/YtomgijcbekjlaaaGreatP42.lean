/- What the proofs stand on: DiskSameFiles. -/
import Derived.Test.YtomgijcbekjlaaaGreatP7
import Derived.Test.YtomgijcbekjlaaaGreatP9
import Derived.Test.YtomgijcbekjlaaaGreatPB0
import Derived.Test.YtomgijcbekjlaaaGreatPB1
set_option maxRecDepth 100000
set_option maxHeartbeats 40000000
namespace Go.Proofs.YtomgijcbekjlaaaGreat
section
open Go.RowKit
theorem sameFiles_any (F G : Nat -> Prop) (a c : Value) (A C : Files) (w : World) (ha : FilesAt w F a A) (hc : FilesAt w G c C) (hL : A.length <= 140737488355328) :
  Calls Tryz.prog 25 #[a, c] w fun e w' => e = .returned (.bool (decide (A = C))) /\ Below w.heap.size w w' := by
 obtain ⟨ao, cap, P, g, off, rfl, hraw, hhas⟩ := ha; obtain ⟨ao2, cap2, P2, g2, off2, rfl, hraw2, hhas2⟩ := hc; obtain ⟨N, hN⟩ := nm_ (A.length); obtain ⟨M, hM⟩ := nm_ (C.length); rw [<- hN] at hL |-; rw [<- hM]; by_cases hne : N = M
 ·subst hne
  have HN := h_ hN; have HM := h_ hM; have HR := h_ hraw; have HH := h_ hhas; have HR2 := h_ hraw2; have HH2 := h_ hhas2; clear hN hM hraw hhas hraw2 hhas2; go_enter Tryz.func25, Tryz.ntmps25; go_wp2; go_loopw [5] (fun i W => ∃ (k : Nat), i = .int .i64 (k : Int) /\ k <= N /\ A.take k = C.take k /\ Below w.heap.size w W) (fun i _ => N - (intOf i).toNat)
  case atStart => exact ⟨0, rfl, Nat.zero_le _, rfl, Below.refl _ _⟩
  case round =>
   obtain ⟨k, rfl, hk, ht, hW⟩ := hrel; by_cases hlt : k < N
   ·have hk1 : k < A.length := by rw [<- HN.out]; exact hlt
    have hk2 : k < C.length := by rw [<- HM.out]; exact hlt
    have hk3 : k < P.length := by rw [HH.out.1]; exact hk1
    have hk4 : k < P2.length := by rw [HH2.out.1]; exact hk2
    obtain ⟨⟨n, b⟩, hf⟩ : ∃ f, A[k]? = some f := ⟨_, List.getElem?_eq_getElem hk1⟩
    obtain ⟨⟨n2, b2⟩, hf2⟩ : ∃ f, C[k]? = some f := ⟨_, List.getElem?_eq_getElem hk2⟩
    obtain ⟨⟨n', bv⟩, hp⟩ : ∃ p, P[k]? = some p := ⟨_, List.getElem?_eq_getElem hk3⟩
    obtain ⟨⟨n2', bv2⟩, hp2⟩ : ∃ p, P2[k]? = some p := ⟨_, List.getElem?_eq_getElem hk4⟩
    obtain ⟨hnn, hby⟩ := HH.out.2 k _ _ hp hf; obtain ⟨hnn2, hby2⟩ := HH2.out.2 k _ _ hp2 hf2; simp only at hnn hby hnn2 hby2
    subst hnn hnn2
    have hw0 := Turn.of_below (fun _ => False) hW
    obtain ⟨e1, c1, c2⟩ := (HR.out.turn hw0 (fun _ _ h => h)).get hp
    obtain ⟨e2, d1, d2⟩ := (HR2.out.turn hw0 (fun _ _ h => h)).get hp2
    have hby := hby.turn hw0 (fun _ _ h => h)
    have hby2 := hby2.turn hw0 (fun _ _ h => h)
    subst e1 e2
    have i0 : (0 : Int) <= (k : Int) := by omega
    have i1 : (k : Int) < (N : Int) := by omega
    have t1 := fun m => (show BytesAt (wr.drewN m) F bv b from by obtain ⟨x1, x2, x3, x4, x5, x6, x7⟩ := hby; exact ⟨x1, x2, x3, x4, x5, ⟨x6.le, x6.top, x6.src, x6.bare, x6.old, x6.cell⟩, x7⟩).text
    have t2 := fun m => (show BytesAt (wr.drewN m) G bv2 b2 from by obtain ⟨x1, x2, x3, x4, x5, x6, x7⟩ := hby2; exact ⟨x1, x2, x3, x4, x5, ⟨x6.le, x6.top, x6.src, x6.bare, x6.old, x6.cell⟩, x7⟩).text
    obtain ⟨x1, x2, x3, x4, rfl, _⟩ := hby; obtain ⟨y1, y2, y3, y4, rfl, _⟩ := hby2; have l1 := SL_toList n'; have l2 := SL_toList n2'; have l3 := SL_toList b; have l4 := SL_toList b2; have htk : A.take (k + 1) = A.take k ++ [(n', b)] := by rw [List.take_add_one, hf]; rfl
    have htk2 : C.take (k + 1) = C.take k ++ [(n2', b2)] := by rw [List.take_add_one, hf2]; rfl
    have HT := h_ ht; have HF := h_ hf; have HF2 := h_ hf2; have HTK := h_ htk; have HTK2 := h_ htk2; clear hp hp2 hf hf2 htk htk2 ht; by_cases hq : n' = n2'
    ·have hb : (n' == n2') = true := by simp [hq]
     by_cases hq2 : b = b2
     ·have hb2 : (b == b2) = true := by simp [hq2]
      have HQ := h_ hq; have HQ2 := h_ hq2; clear hq hq2; go_wp2_with fail; go_quiet (fail)
      go_wp2; have hn := HT.out; have ht2 : A.take (k + 1) = C.take (k + 1) := by rw [HTK.out, HTK2.out, HT.out, HQ.out, HQ2.out]
      have hWn : Below w.heap.size w (wr.drewN nq) := below_drewN hW nq; clear HT HTK HTK2 HQ HQ2 hn; go_roundw
      case rel => exact ⟨k + 1, by go_num, by omega, ht2, hWn⟩
      case measure => simp [intOf]; omega
     ·have hb2 : (b == b2) = false := by simp [hq2]
      have hAC : ¬ A = C := fun e => by
       have h1 := HF.out; rw [e, HF2.out] at h1; have h2 := Option.some.inj h1; simp only [Prod.mk.injEq] at h2; exact hq2 h2.2.symm
      have HA := h_ hAC; clear hAC hq hq2; go_wp2_with fail; go_quiet (fail)
      go_wp2; go_ret; exact ⟨by rw [decide_eq_false HA.out] <;> rfl, below_drewN hW nq⟩
    ·have hb : (n' == n2') = false := by simp [hq]
     have hAC : ¬ A = C := fun e => by
      have h1 := HF.out; rw [e, HF2.out] at h1; have h2 := Option.some.inj h1; simp only [Prod.mk.injEq] at h2; exact hq h2.1.symm
     have HA := h_ hAC; clear hAC hq; go_wp2_with fail; go_quiet (fail)
     go_wp2; go_ret; exact ⟨by rw [decide_eq_false HA.out] <;> rfl, below_drewN hW nq⟩
   ·obtain rfl : k = N := by omega
    have hAC : A = C := by
     rw [List.take_of_length_le (by rw [<- HN.out]; exact Nat.le_refl _), List.take_of_length_le (by rw [<- HM.out]; exact Nat.le_refl _)] at ht
     exact ht
    have HA := h_ hAC; have i1 : ¬ ((k : Int) < (k : Int)) := by omega
    clear ht hAC; go_wp2; go_ret; exact ⟨by rw [decide_eq_true HA.out] <;> rfl, hW⟩
 ·have hAC : ¬ A = C := fun e => hne (by rw [hN, hM, e])
  have HA := h_ hAC; have i1 : ¬ ((N : Int) = (M : Int)) := by omega
  clear hAC hN hM; go_enter Tryz.func25, Tryz.ntmps25; go_wp2; go_ret; exact ⟨by rw [decide_eq_false HA.out] <;> rfl, Below.refl _ _⟩
end
end Go.Proofs.YtomgijcbekjlaaaGreat
