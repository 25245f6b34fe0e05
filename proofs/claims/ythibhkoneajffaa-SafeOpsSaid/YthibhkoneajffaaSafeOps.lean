/- SafeOps. -/
import Derived.Test.YthibhkoneajffaaSafeRoom
import Derived.Lib.SlBytesConst
namespace Go.Proofs.Ythibhkoneajffaa
open Go.RowKit
def old3 : Bs := [111, 108, 100]
/-- The three writes, on a disk that is new. -/
theorem ops_says {n z : Bs} (hs : savable n) (hz : z.length ≤ 1023) (S : St) (hS : S = loadS [] 1048575) :
    (saveS S n z).1 = 0 ∧ (saveS S n z).2.done = (chunksL z).length + 2 ∧ (appendS (saveS S n z).2 (shadowN n) old3).1 = 0 ∧
    (saveS (appendS (saveS S n z).2 (shadowN n) old3).2 n z).1 = 0 ∧ (saveS (appendS (saveS S n z).2 (shadowN n) old3).2 n z).2.done = 2 * ((chunksL z).length + 2) + 2 := by
  obtain ⟨h1, h2, h3⟩ := hs
  have hn' := named_of_shadow h1 h2
  have hnl := (named_le h1).1
  rw [shadow_length] at hnl
  have hg : Good S := by
    rw [hS]
    exact ⟨Rising.nil, Nat.zero_le _, by show (1048575 : Nat) ≤ _; omega, by show (-1 : Int) ≤ -1; omega, by show (-1 : Int) ≤ _; omega⟩
  have hfs : S.fs = [] := by rw [hS]; rfl
  have hcap : S.cap = 1048575 := by rw [hS]; rfl
  have hl : S.left = -1 := by rw [hS]; rfl
  have hd : S.dark = false := by rw [hS]; rfl
  have hdn : S.done = 0 := by rw [hS]; rfl
  have hneed : needS n z.length ≤ 2000 := by unfold needS; omega
  rcases save_says (b := z) h1 hn' h3 hg hd with ⟨k1, _, k3, k4, k5, k6⟩ | ⟨_, k2, _⟩ | k
  rotate_left
  · rw [hfs] at k2
    unfold St.free at k2
    simp only [delF, costs] at k2
    omega
  · exact absurd hl k.left
  have hth : thereF (shadowN n) S.fs = false := by rw [hfs]; rfl
  rw [hth, hdn] at k4
  have hdel : delF (shadowN n) S.fs = [] := by rw [hfs]; rfl
  rw [hdel] at k6
  have hUg : Good (saveS S n z).2 := hg.save
  have hUc := save_cap n z S
  obtain ⟨U, hU⟩ : ∃ U, U = (saveS S n z).2 := ⟨_, rfl⟩
  rw [← hU] at k3 k4 k5 k6 hUg hUc ⊢
  have hUl := k5 hl
  have hUf : U.fs = [(n, z)] := by rw [k6]; rfl
  have hno : findF (shadowN n) U.fs = none := by
    rw [hUf]
    simp [findF, (shadow_ne n).symm]
  have hUfree : U.free = 1048575 - (16 + (n.length : Int) + (z.length : Int)) := by
    unfold St.free
    rw [hUf, hUc, hcap]
    simp only [costs, costF]
    omega
  have hap : appendS U (shadowN n) old3 = (0, { tick U with fs := putF (shadowN n) old3 U.fs }) := by
    rw [append_fits h1 k3 (by decide) (by unfold moreS; rw [hno, hUfree]; simp only [costF, shadow_length, old3, List.length_cons, List.length_nil]; omega), hno]
    unfold writeS
    rw [if_neg (by omega)]
    rfl
  have hVg : Good (appendS U (shadowN n) old3).2 := hUg.append _ _
  rw [hap] at hVg ⊢
  obtain ⟨V, hV⟩ : ∃ V : St, V = { tick U with fs := putF (shadowN n) old3 U.fs } := ⟨_, rfl⟩
  simp only at hVg ⊢
  rw [← hV] at hVg ⊢
  have hVl : V.left = -1 := by rw [hV]; exact tick_left hUl
  have hVd : V.dark = false := by rw [hV]; exact k3
  have hVn : V.done = U.done + 1 := by rw [hV]; rfl
  have hVc : V.cap = 1048575 := by rw [hV]; show U.cap = _; rw [hUc, hcap]
  have hVf : V.fs = putF (shadowN n) old3 U.fs := by rw [hV]
  have hVt : thereF (shadowN n) V.fs = true := by unfold thereF; rw [hVf, findF_put_same]; rfl
  have hVdel : delF (shadowN n) V.fs = U.fs := by
    refine rising_ext hVg.rise.del hUg.rise fun m => ?_
    by_cases e : m = shadowN n
    · rw [e, findF_del_same hVg.rise, hno]
    · rw [findF_del_other e, hVf, findF_put_other _ e]
  refine ⟨k1, by simpa using k4, trivial, ?_⟩
  rcases save_says (b := z) h1 hn' h3 hVg hVd with ⟨m1, _, _, m4, _, _⟩ | ⟨_, m2, _⟩ | m
  · refine ⟨m1, ?_⟩
    rw [m4, hVt, hVn, k4]
    simp
    omega
  · rw [hVdel] at m2
    have : St.free { V with fs := U.fs } = U.free := by unfold St.free; show (V.cap : Int) - _ = _; rw [hVc, hUc, hcap]
    omega
  · exact absurd hVl m.left
theorem chunks_max {z : Bs} {k : Nat} (hk : z.length = k) : ((chunksL z).length : Int) = max 1 (((k : Int) + 63) / 64) := by
  rw [chunks_count, hk]
  split <;> omega
/-- A Save of bytes that have just been made. -/
theorem save_made {w0 w : World} {Z : Nat → Prop} {p : Nat} {S : St} (h : One w0 Z w p S) (hg : Good S) (hb : S.done + S.cap + 10 ≤ 1000000000000) (n z : Bs) (hn : n.length ≤ 281474976710656) (k : Nat) (hk : z.length = k) (hz : k ≤ 140737488355328) :
    Calls Try.prog 21 #[ptr p, .string (SL n), .slice (some ⟨w.heap.size, 0, none⟩) k k] (w.alloc (.cells (cells8 z) 5)) (OneTo w0 Z p (saveS S n z)) := by
  have hb1 : Below w.heap.size w (w.alloc (.cells (cells8 z) 5)) := (Below.refl _ _).alloc (Nat.le_refl _) _
  have h2 := h.snap hb1
  subst hk
  refine (save_any h2 hg hb n z hn _ (bytes_made w z (by unfold maxLen; omega) _ (.inr ⟨Nat.le_refl _, by simp⟩)) (by omega)).mono ?_
  rintro e w' ⟨he, h'⟩
  exact ⟨he, h.back hb1 h'⟩
set_option maxRecDepth 100000 in
set_option maxHeartbeats 8000000 in
theorem ops_law (c : Int) (n : Bs) (w : World) (hn : n.length ≤ 140737488355328) :
    Calls Try.prog 8 #[.int .i64 c, .string (SL n)] w fun e w' => e = .returned (.bool true) ∧ Below w.heap.size w w' := by
  have hA := awake_any w
  have hB := fun (W : World) => both_all 1048575 (.slice none 0 0) [] W (filesAt_nil _ _) (by decide) (fun n b h => by cases h) (by decide)
  have HB := Lib.hid hB
  have hcat := SL_shadow n
  have hss : (SL n).size = n.length := SL_size n
  have h1s : (⟨#[126]⟩ : ByteArray).size = 1 := rfl
  obtain ⟨k, hk, hand⟩ := and_mask c 1023 (by omega)
  have hand2 : bits BinOp.and IntKind.i64 c 1023 = (k : Int) := hand
  have hmk : ∀ W : World, (Instr.makeSlice 29 (.int .i64 (k : Int)) (.int .i64 (k : Int))).run Try.prog W = .ok (.slice (some ⟨W.heap.size, 0, none⟩) k k) (W.alloc (.cells (cells8 (List.replicate k 0)) 5)) := make_zeros k (by omega)
  have kc := fun (w : World) (C : Array Value) (n c : Nat) => Lib.run_convert_bytes_const (P := Try.prog) w 29 5 C n c Try.underlying29 Try.underlying5
  clear hB hand
  go_enter Try.func8, Try.ntmps8
  go_wp2_with (first | (go_at_call 9; refine hA.mono ?_; rintro e w1 ⟨rfl, b1⟩; have B1 := Lib.hid b1; clear b1) | (go_at_call 10; fail))
  refine (HB.out w1).mono ?_
  rintro e w2 (⟨rfl, b2, C, hC2, hno⟩ | ⟨p, q, C, rfl, hT, hG, hC, hN, hC2⟩)
  · exfalso
    refine hno ⟨fun i hi => absurd hi (Nat.not_lt_zero _), ?_⟩
    have hc := hC2.symm.trans (show bits BinOp.and IntKind.i64 1048575 1048575 = 1048575 by kernel_rfl)
    show 0 ≤ wrap64 ((C : Int) - ((0 : Nat) : Int))
    rw [hc, IntWalk.wrap64_in _ ⟨by omega, by omega⟩]
    omega
  · obtain ⟨Fd, Fr, hP⟩ := hT
    have hO := hP.elder
    have hc := hC2.symm.trans (show bits BinOp.and IntKind.i64 1048575 1048575 = 1048575 by kernel_rfl)
    obtain rfl : C = 1048575 := by omega
    obtain ⟨S, hS⟩ : ∃ S, S = loadS [] 1048575 := ⟨_, rfl⟩
    have hdone : S.done = 0 := by rw [hS]; rfl
    have hcap : S.cap = 1048575 := by rw [hS]; rfl
    obtain ⟨z, hz⟩ : ∃ z : Bs, z = List.replicate k 0 := ⟨_, rfl⟩
    have hzl : z.length = k := by rw [hz, List.length_replicate]
    rw [← hz] at hmk
    rw [← hS] at hO hG
    have HO := Lib.hid hO
    clear hO hP hN HB hA hC2 hc hand2 hC
    have hsm := fun (W : World) (U : St) (h : One w1 (elder w1) W p U) (hg : Good U) (hb : U.done + U.cap + 10 ≤ 1000000000000) => save_made h hg hb n z (by omega) k hzl (by omega)
    by_cases hsv : savable n
    · obtain ⟨k1, k2, k3, k4, k5⟩ := ops_says (n := n) (z := z) hsv (by omega) S hS
      have hcm := (chunks_max hzl).symm
      obtain ⟨m, hm⟩ : ∃ m, m = (chunksL z).length := ⟨_, rfl⟩
      rw [← hm] at k2 k5 hcm
      have hmb : m ≤ 20 := by rw [hm, chunks_count, hzl]; split <;> omega
      obtain ⟨r, hr⟩ : ∃ r, r = saveS S n z := ⟨_, rfl⟩
      have hgr : Good r.2 := by rw [hr]; exact hG.save
      have hcr : r.2.cap = 1048575 := by rw [hr, save_cap, hcap]
      rw [← hr] at k1 k2 k3 k4 k5
      obtain ⟨a, ha⟩ : ∃ a, a = appendS r.2 (shadowN n) old3 := ⟨_, rfl⟩
      have hga : Good a.2 := by rw [ha]; exact hgr.append _ _
      have hca : a.2.cap = 1048575 := by rw [ha, append_cap, hcr]
      have hda : a.2.done ≤ r.2.done + 1 := by rw [ha]; exact append_done _ _ _
      rw [← ha] at k3 k4 k5
      have hs1 := hsm w2 S HO.out hG (by omega)
      rw [← hr] at hs1
      obtain ⟨s, hss2⟩ : ∃ s, s = saveS a.2 n z := ⟨_, rfl⟩
      rw [← hss2] at k4 k5
      have hs2 := fun (W : World) (h : One w1 (elder w1) W p a.2) => hsm W a.2 h hga (by omega)
      rw [← hss2] at hs2
      have hap := fun (W : World) (h : One w1 (elder w1) W p r.2) (C : Array Value) (hC : C = cells8 old3) => h.appendC hgr (by omega) (shadowN n) old3 (by decide) C hC
      rw [← ha] at hap
      have HS1 := Lib.hid hs1
      have HS2 := Lib.hid hs2
      have HAP := Lib.hid hap
      have HK1 := Lib.hid k1
      have HK3 := Lib.hid k3
      have HK4 := Lib.hid k4
      have HK2 := Lib.hid k2
      have HK5 := Lib.hid k5
      clear hs1 hs2 hap k1 k2 k3 k4 k5 hsm hr ha hss2 hS hm hz hcr hca hda hdone hcap
      go_wp2_with (first
        | (go_at_call 21; refine HS1.out.mono ?_; rintro e w3 ⟨rfl, h3⟩; rw [HK1.out]; have H3 := Lib.hid h3; clear h3)
        | (go_at_call 23; refine H3.out.ops.mono ?_; rintro e w' ⟨rfl, rfl⟩; rw [HK2.out])
        | (go_at_call 11; fail))
      refine (HAP.out _ H3.out _ ?_).mono ?_
      · rfl
      rintro e w4 ⟨rfl, h4⟩
      rw [HK3.out]
      have H4 := Lib.hid (HS2.out w4 h4)
      clear h4 HAP HS1
      go_wp2_with (first
        | (go_at_call 21; refine H4.out.mono ?_; rintro e w5 ⟨rfl, h5⟩; rw [HK4.out]; have H5 := Lib.hid h5; clear h5)
        | (go_at_call 23; refine H5.out.ops.mono ?_; rintro e w' ⟨rfl, rfl⟩; rw [HK5.out]))
      go_ret
      exact ⟨rfl, B1.out.trans (H5.out.old.mono B1.out.size)⟩
    · have he : saveS S n z = (1, S) := save_err hsv
      have hs1 := hsm w2 S HO.out hG (by omega)
      rw [he] at hs1
      have hops := fun (W : World) (h : One w1 (elder w1) W p S) => h.ops
      rw [hdone] at hops
      have HS1 := Lib.hid hs1
      have HOPS := Lib.hid hops
      clear hs1 hops hsm he hS hz hdone hcap
      go_wp2_with (first
        | (go_at_call 21; refine HS1.out.mono ?_; rintro e w3 ⟨rfl, h3⟩; have H3 := Lib.hid h3; clear h3)
        | (go_at_call 23; refine (HOPS.out _ H3.out).mono ?_; rintro e w' ⟨rfl, rfl⟩))
      go_ret
      exact ⟨rfl, B1.out.trans (H3.out.old.mono B1.out.size)⟩
end Go.Proofs.Ythibhkoneajffaa
