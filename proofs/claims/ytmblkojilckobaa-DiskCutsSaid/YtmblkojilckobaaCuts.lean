/- The walk of DiskCuts. -/
import Derived.Test.YtmblkojilckobaaDuo
import Derived.Test.YtmblkojilckobaaPlayed
namespace Go.Proofs.Ytmblkojilckobaa
open Go.RowKit
theorem and255 (c : Int) : ∃ v : Nat, v ≤ 255 ∧ bits BinOp.and IntKind.i64 c 255 = (v : Int) := by
  have hw : bits .and .i64 c 255 = IntKind.i64.wrap (((BitVec.ofInt 64 c) &&& (BitVec.ofInt 64 255)).toNat : Int) := rfl
  have hle : ((BitVec.ofInt 64 c) &&& (BitVec.ofInt 64 255)).toNat ≤ 255 := by
    rw [BitVec.toNat_and]
    exact Nat.le_trans Nat.and_le_right (by decide)
  exact ⟨_, hle, by rw [hw]; exact IntWalk.i64_in _ (by omega)⟩
/-- What is asked of both disks at the end. -/
structure Last (w1 W : World) (p q : Nat) (L : Files) (d : Nat) (f : Int) : Prop where
  t21p : ∀ X, Below W.heap.size W X → Calls Try.prog 21 #[ptr p] X fun e w' => ∃ v, e = .returned v ∧ Got w' v L ∧ Below X.heap.size X w'
  t21q : ∀ X, Below W.heap.size W X → Calls Try.prog 21 #[ptr q] X fun e w' => ∃ v, e = .returned v ∧ Got w' v L ∧ Below X.heap.size X w'
  t33 : ∀ X v, Got X v L → Calls Try.prog 33 #[v] X fun e w' => ∃ v, e = .returned v ∧ Got w' v L ∧ Below X.heap.size X w'
  t34 : ∀ X a c, Got X a L → Got X c L → Calls Try.prog 34 #[a, c] X fun e w' => e = .returned (.bool true) ∧ Below X.heap.size X w'
  t30p : ∀ X, Below W.heap.size W X → Calls Try.prog 30 #[ptr p] X fun e w' => e = .returned (.int .i64 (d : Int)) ∧ w' = X
  t30q : ∀ X, Below W.heap.size W X → Calls Try.prog 30 #[ptr q] X fun e w' => e = .returned (.int .i64 (d : Int)) ∧ w' = X
  t22 : ∀ X, Below W.heap.size W X → Calls Try.prog 22 #[ptr p] X fun e w' => e = .returned (.tuple #[]) ∧ Below w1.heap.size w1 w' ∧ (Calls Try.prog 16 #[ptr p] w' fun e w2 => e = .returned (.bool false) ∧ w2 = w') ∧
    (Calls Try.prog 14 #[ptr p] w' fun e w2 => e = .returned (.int .i64 f) ∧ w2 = w') ∧ (Calls Try.prog 14 #[ptr q] w' fun e w2 => e = .returned (.int .i64 f) ∧ w2 = w')
theorem last_facts {w1 W : World} {p q n : Nat} {A B : St} (h : Duo w1 (elder w1) W p q A B) (hl : Level n A B) (hA : Good A) (hB : Good B) : Last w1 W p q A.fs A.done A.free := by
  have hdA := hA.dumps
  have hdB := hB.dumps
  have e2 : B.free = A.free := by unfold St.free; rw [hl.fs, hl.cap]
  refine ⟨fun X hb => ?_, fun X hb => ?_, fun X v hv => ?_, fun X a c ha hc => ?_, fun X hb => ?_, fun X hb => ?_, fun X hb => ?_⟩
  · obtain ⟨F, h1⟩ := (h.below hb).one
    refine (dDump h1 hA.rise hdA.1 hdA.2).mono ?_
    rintro e w' ⟨v, he, hF, hb'⟩
    exact ⟨v, he, hF.mono (fun k _ hk => hk.2), hb'⟩
  · obtain ⟨F, h1⟩ := (h.below hb).swap.one
    refine (dDump h1 hB.rise hdB.1 hdB.2).mono ?_
    rintro e w' ⟨v, he, hF, hb'⟩
    exact ⟨v, he, by rw [hl.fs]; exact hF.mono (fun k _ hk => hk.2), hb'⟩
  · refine (theirs_any _ v A.fs X hv (fun _ h => h) hdA.1).mono ?_
    rintro e w' ⟨v, he, hF, hb'⟩
    exact ⟨v, he, hF.mono (fun k _ hk => by have := hb'.size; rcases hk with hk | hk <;> omega), hb'⟩
  · refine (sameFiles_any _ _ a c A.fs A.fs X ha hc (by have := hdA.1; omega)).mono ?_
    rintro e w' ⟨he, hb'⟩
    exact ⟨by rw [he]; simp, hb'⟩
  · obtain ⟨F, h1⟩ := (h.below hb).one
    exact dOps h1
  · obtain ⟨F, h1⟩ := (h.below hb).swap.one
    rw [hl.done]
    exact dOps h1
  · refine (h.below hb).on.mono ?_
    rintro e w' ⟨he, hD⟩
    obtain ⟨F, h1⟩ := hD.one
    obtain ⟨G, h2⟩ := hD.swap.one
    have f1 := dFree h1
    have f2 := dFree h2
    have f3 : (onS A).free = A.free := rfl
    rw [f3, hA.free_in.2.2] at f1
    rw [hB.free_in.2.2, e2] at f2
    exact ⟨he, hD.old, dOff h1, f1, f2⟩
set_option maxRecDepth 100000 in
set_option maxHeartbeats 4000000 in
theorem cuts_any (c : Int) (v : Value) (sc : List OpR) (z : Int) (w : World) (hsc : ScriptAt w (elder w) v sc) : Calls Try.prog 7 #[.int .i64 c, v, .int .i64 z] w fun e w' => e = .returned (.bool true) ∧ Below w.heap.size w w' := by
  have hA := awake_any w
  obtain ⟨ao, cap, g, off, rfl, hg, hcell⟩ := hsc
  obtain ⟨C, hC, hand⟩ := and20 c
  obtain ⟨n, hn, hand2⟩ := and255 z
  obtain ⟨N, hN⟩ : ∃ N, N = sc.length := ⟨_, rfl⟩
  rw [← hN] at hg ⊢
  have HC := Lib.hid hcell
  have HN := Lib.hid hN
  have HNW := Lib.hid (fun W => one_new W C (by omega))
  obtain ⟨r0, hr0⟩ : ∃ r, r = cutS (newS C) (n : Int) := ⟨_, rfl⟩
  have hah := ahead_new n C
  have hg0 : Good (newS C) := good_new (by omega)
  have hg1 : Good r0.2 := by rw [hr0]; exact hg0.cut (by omega)
  have hd0 : r0.2.done = 0 := by
    rw [hr0]
    have := cut_done (newS C) (n : Int)
    have h0 : (newS C).done = 0 := rfl
    omega
  rw [← hr0] at hah
  have HR := Lib.hid hr0
  clear hcell hN hr0
  go_enter Try.func7, Try.ntmps7
  go_wp2_with (first
    | (go_at_call 10; refine hA.mono ?_; rintro e w1 ⟨rfl, b1⟩; have B1 := Lib.hid b1; clear b1)
    | (go_at_call 11; refine (HNW.out _).mono ?_; rintro e w3 ⟨q, rfl, Q0⟩; have DA := Lib.hid (duo_new PA.out Q0); clear Q0)
    | (go_at_call 11; refine (HNW.out _).mono ?_; rintro e w2 ⟨p, rfl, P0⟩; have PA := Lib.hid P0; clear P0)
    | (go_at_call 28; have hcut := DA.out.cut (n : Int) (by omega); rw [← HR.out] at hcut; refine hcut.mono ?_; rintro e w4 ⟨he, D4⟩; subst he; have DB := Lib.hid D4; clear D4 hcut DA))
  go_loopw [13] (fun i W => ∃ (k : Nat) (A B : St), i = .int .i64 (k : Int) ∧ k ≤ N ∧ k ≤ 100 ∧ Duo w1 (elder w1) W p q A B ∧ Ahead n A B ∧ Good A ∧ Good B ∧ A.done ≤ k) (fun i _ => N - (intOf i).toNat)
  case atStart => exact ⟨0, r0.2, newS C, rfl, Nat.zero_le _, by omega, DB.out, hah, hg1, hg0, by omega⟩
  case round =>
    clear hah hg0 hg1 hd0 DB
    obtain ⟨k, A, B, rfl, hk, hk2, hT, hAh, hGA, hGB, hD⟩ := hrel
    have i0 : (0 : Int) ≤ (k : Int) := by omega
    have z1 := B1.out.size
    by_cases hlt : k < N ∧ k < 100
    · obtain ⟨hlt, h100⟩ := hlt
      have i1 : (k : Int) < (N : Int) := by omega
      have i2 : (k : Int) < 100 := by omega
      obtain ⟨r, hr⟩ : ∃ r, sc[k]? = some r := ⟨_, List.getElem?_eq_getElem (by rw [← HN.out]; exact hlt)⟩
      obtain ⟨rfl, hgB⟩ := hg (by omega)
      have hWo := hT.old
      have hop0 := (HC.out k r hr).turn (G := fun j => w.heap.size ≤ j) hgB (by have hb := B1.out; exact ⟨hb.os, hb.tape, hb.output, hb.size, fun j _ hn => hb.block j (by omega)⟩) (fun j hj h => by have : j < w.heap.size := hj; omega)
      have hop := hop0.turn (G := fun j => w1.heap.size ≤ j) hgB (by exact ⟨hWo.os, hWo.tape, hWo.output, hWo.size, fun j _ hn => hWo.block j (by omega)⟩) (fun j hj h => by have : j < w.heap.size := hj; omega)
      obtain ⟨c0, c1, c2, c3, c4, hby, la, lb, ln⟩ := hop
      obtain ⟨x, M, cc, hv⟩ : ∃ x M cc, r.v = .slice x M cc := by
        obtain ⟨x, cc, _, _, h, _⟩ := hby
        exact ⟨x, _, cc, h⟩
      rw [hv] at c3 hby
      obtain ⟨y, hy⟩ : ∃ y, y = wr.heap.size := ⟨_, rfl⟩
      obtain ⟨wo, hwo⟩ : ∃ wo, wo = wr.alloc (opO r.z r.o.a r.o.b (.slice x M cc) r.o.n) := ⟨_, rfl⟩
      have b2 : Below wr.heap.size wr wo := by rw [hwo]; exact (Below.refl _ _).alloc (Nat.le_refl _) _
      have x1 : wo.heap[y]? = some (opO r.z r.o.a r.o.b (.slice x M cc) r.o.n) := by rw [hwo, hy]; exact heap_alloc_new _ _
      have D1 := hT.snap b2
      have hWoo := hWo.trans (b2.mono hWo.size)
      have hyo : y < wo.heap.size := by rw [hwo, hy]; simp
      obtain ⟨Z, hZ⟩ : ∃ Z, Z = (fun k => elder w1 k ∨ (wr.heap.size ≤ k ∧ k < wo.heap.size)) := ⟨_, rfl⟩
      rw [← hZ] at D1
      have Zy : Z y := by rw [hZ]; exact .inr ⟨by omega, hyo⟩
      have Zw : ∀ k, elder w1 k → Z k := fun k hk => by rw [hZ]; exact .inl hk
      have hbo : BytesAt wo Z (.slice x M cc) r.o.l := (hby.turn (Turn.of_below (fun _ => False) b2) (fun _ _ h => h)).mono (fun k _ hk => Zw k (by have : k < w.heap.size := hk; show k < w1.heap.size; omega))
      have hturn : Turn (fun k => ¬ elder w1 k) w1 wo := ⟨hWoo.os, hWoo.tape, hWoo.output, hWoo.size, fun k hk _ => hWoo.block k hk⟩
      have HX := Lib.hid (fun (W : World) (h : Turn (fun k => ¬ Z k) wo W) => h.keep x1 (fun hn => hn Zy))
      have HBO := Lib.hid (fun (W : World) (h : Turn (fun k => ¬ Z k) wo W) => hbo.turn h (fun k hk hn => hn hk))
      have HT := Lib.hid hturn
      have HZW := Lib.hid Zw
      have hwo' : wr.alloc (Obj.cells #[Value.int IntKind.i64 r.z, Value.string (SL r.o.a), Value.string (SL r.o.b), .slice x M cc, Value.int IntKind.i64 r.o.n] 34) = wo := hwo.symm
      have HW := Lib.hid hwo'
      have HV := Lib.hid hv
      have HY := Lib.hid hy
      have hdB : B.done ≤ 1000000 := by have := hAh.done; omega
      have hdA : A.done ≤ 1000000 := by omega
      clear hop0 hr hbo hturn Zw x1 hwo hwo' hWoo hyo hZ b2 hby hWo hT hv hy
      by_cases h0 : bits BinOp.and IntKind.i64 r.z 3 = 0
      · have hgo := goes_append hAh r.o.a r.o.l
        have hc1 := D1.append hGA hdA r.o.a (.slice x M cc) r.o.l (HBO.out _ (Turn.refl _ _))
        have hGR := hGA.append r.o.a r.o.l
        have hdR := append_done A r.o.a r.o.l
        obtain ⟨R, hR⟩ : ∃ R, R = appendS A r.o.a r.o.l := ⟨_, rfl⟩
        obtain ⟨Q, hQ⟩ : ∃ Q, Q = appendS B r.o.a r.o.l := ⟨_, rfl⟩
        rw [← hR] at hgo hc1 hGR hdR
        rw [← hQ] at hgo
        have HQ := Lib.hid hQ
        have HC1 := Lib.hid hc1
        clear hc1 hR hQ D1
        go_wp2_with fail
        rw [HW.out]
        have kk := HX.out wo (Turn.refl _ _)
        rw [HY.out] at kk
        obtain ⟨k0, k1, k2, k3, k4⟩ := op_cells kk
        clear kk
        go_wp2_with (first | (go_at_call 24; refine HC1.out.mono ?_; rintro e w5 ⟨he, hD5⟩; subst he; clear HC1) | (go_at_call 16; fail))
        clear k0 k1 k2 k3 k4
        have hoff : Calls Try.prog 16 #[ptr p] w5 fun e w' => e = .returned (.bool R.2.dark) ∧ w' = w5 := by
          obtain ⟨F, h1⟩ := hD5.one
          exact dOff h1
        rcases hgo with ⟨hdk, hlv⟩ | ⟨hdk, hrc, hah⟩
        · rw [hdk] at hoff
          have hlast := last_facts (hD5.back HT.out HZW.out (fun k hk => hk)) (hlv) hGR hGB
          have hdn : ((R.2.done : Nat) : Int) ≤ (n : Int) := by have := (hlv).most; omega
          obtain ⟨L, hL⟩ : ∃ L, L = R.2.fs := ⟨_, rfl⟩
          obtain ⟨d, hd⟩ : ∃ d, d = R.2.done := ⟨_, rfl⟩
          obtain ⟨f, hf⟩ : ∃ f, f = R.2.free := ⟨_, rfl⟩
          rw [← hL, ← hd, ← hf] at hlast
          rw [← hd] at hdn
          have T := Lib.hid hlast
          have BW := Lib.hid (Below.refl w5.heap.size w5)
          clear hlast hL hd hf
          have OFF := Lib.hid hoff
          clear hoff hD5 hlv hGR hGB hGA hAh hdk HX HBO HQ
          go_wp2_with (first
            | (go_at_call 16; refine OFF.out.mono ?_; rintro e _ ⟨rfl, rfl⟩; clear OFF)
            | (go_at_call_of 21 (ptr p); refine (T.out.t21p _ BW.out).mono ?_; rintro e wd1 ⟨vd1, rfl, gd, bd⟩; have BW := Lib.hid (BW.out.trans (bd.mono BW.out.size)); have V1 := Lib.hid gd; clear gd bd)
            | (go_at_call_of 33 vd1; refine (T.out.t33 _ vd1 V1.out).mono ?_; rintro e wt1 ⟨vt1, rfl, gd, bd⟩; have BW := Lib.hid (BW.out.trans (bd.mono BW.out.size)); have U1 := Lib.hid gd; clear gd bd V1)
            | (go_at_call_of 21 (ptr q); refine (T.out.t21q _ BW.out).mono ?_; rintro e wd2 ⟨vd2, rfl, gd, bd⟩; have BW := Lib.hid (BW.out.trans (bd.mono BW.out.size)); have V2 := Lib.hid gd; have U1 := Lib.hid (U1.out.later bd); clear gd bd)
            | (go_at_call_of 33 vd2; refine (T.out.t33 _ vd2 V2.out).mono ?_; rintro e wt2 ⟨vt2, rfl, gd, bd⟩; have BW := Lib.hid (BW.out.trans (bd.mono BW.out.size)); have U2 := Lib.hid gd; have U1 := Lib.hid (U1.out.later bd); clear gd bd V2)
            | (go_at_call 34; refine (T.out.t34 _ vt1 vt2 U1.out U2.out).mono ?_; rintro e ws ⟨rfl, bd⟩; have BW := Lib.hid (BW.out.trans (bd.mono BW.out.size)); clear bd)
            | (go_at_call_of 30 (ptr p); refine (T.out.t30p _ BW.out).mono ?_; rintro e _ ⟨rfl, rfl⟩)
            | (go_at_call_of 30 (ptr q); refine (T.out.t30q _ BW.out).mono ?_; rintro e _ ⟨rfl, rfl⟩)
            | (go_at_call 22; refine (T.out.t22 _ BW.out).mono ?_; rintro e wn ⟨rfl, bn, f16, f14p, f14q⟩; have BN := Lib.hid bn; have F16 := Lib.hid f16; have F14p := Lib.hid f14p; have F14q := Lib.hid f14q; clear bn f16 f14p f14q)
            | (go_at_call 16; refine F16.out.mono ?_; rintro e _ ⟨rfl, rfl⟩)
            | (go_at_call_of 14 (ptr p); refine F14p.out.mono ?_; rintro e _ ⟨rfl, rfl⟩)
            | (go_at_call_of 14 (ptr q); refine F14q.out.mono ?_; rintro e _ ⟨rfl, rfl⟩))
          go_ret
          exact ⟨by simp, B1.out.trans (BN.out.mono z1)⟩
        · rw [hdk] at hoff
          have kk := HX.out _ hD5.turned
          rw [HY.out] at kk
          obtain ⟨k0, k1, k2, k3, k4⟩ := op_cells kk
          have hc2 := hD5.swap.append hGB hdB r.o.a (.slice x M cc) r.o.l (HBO.out _ hD5.turned)
          have hGQ := hGB.append r.o.a r.o.l
          rw [← HQ.out] at hc2 hGQ
          have HC2 := Lib.hid hc2
          have OFF := Lib.hid hoff
          obtain ⟨rc, hrc1⟩ : ∃ rc, rc = Q.1 := ⟨_, rfl⟩
          rw [← hrc1] at hrc
          rw [hrc]
          have HRC := Lib.hid hrc1
          clear kk hc2 hoff HQ hGA hGB hAh hdk hrc hrc1
          go_wp2_with (first | (go_at_call 16; refine OFF.out.mono ?_; rintro e _ ⟨rfl, rfl⟩; clear OFF) | (go_at_call 24; refine HC2.out.mono ?_; rintro e w6 ⟨he, hD6⟩; rw [← HRC.out] at he; subst he; clear HC2))
          go_roundw
          case rel => exact ⟨k + 1, R.2, Q.2, by go_num, by omega, by omega, hD6.swap.back HT.out HZW.out (fun k hk => hk), hah, hGR, hGQ, by omega⟩
          case measure => simp [intOf]; omega
      by_cases h1 : bits BinOp.and IntKind.i64 r.z 3 = 1
      · have hgo := goes_remove hAh r.o.a
        have hc1 := D1.remove hGA hdA r.o.a
        have hGR := hGA.remove r.o.a
        have hdR := remove_done A r.o.a
        obtain ⟨R, hR⟩ : ∃ R, R = removeS A r.o.a := ⟨_, rfl⟩
        obtain ⟨Q, hQ⟩ : ∃ Q, Q = removeS B r.o.a := ⟨_, rfl⟩
        rw [← hR] at hgo hc1 hGR hdR
        rw [← hQ] at hgo
        have HQ := Lib.hid hQ
        have HC1 := Lib.hid hc1
        clear hc1 hR hQ D1
        go_wp2_with fail
        rw [HW.out]
        have kk := HX.out wo (Turn.refl _ _)
        rw [HY.out] at kk
        obtain ⟨k0, k1, k2, k3, k4⟩ := op_cells kk
        clear kk
        go_wp2_with (first | (go_at_call 25; refine HC1.out.mono ?_; rintro e w5 ⟨he, hD5⟩; subst he; clear HC1) | (go_at_call 16; fail))
        clear k0 k1 k2 k3 k4
        have hoff : Calls Try.prog 16 #[ptr p] w5 fun e w' => e = .returned (.bool R.2.dark) ∧ w' = w5 := by
          obtain ⟨F, h1⟩ := hD5.one
          exact dOff h1
        rcases hgo with ⟨hdk, hlv⟩ | ⟨hdk, hrc, hah⟩
        · rw [hdk] at hoff
          have hlast := last_facts (hD5.back HT.out HZW.out (fun k hk => hk)) (hlv) hGR hGB
          have hdn : ((R.2.done : Nat) : Int) ≤ (n : Int) := by have := (hlv).most; omega
          obtain ⟨L, hL⟩ : ∃ L, L = R.2.fs := ⟨_, rfl⟩
          obtain ⟨d, hd⟩ : ∃ d, d = R.2.done := ⟨_, rfl⟩
          obtain ⟨f, hf⟩ : ∃ f, f = R.2.free := ⟨_, rfl⟩
          rw [← hL, ← hd, ← hf] at hlast
          rw [← hd] at hdn
          have T := Lib.hid hlast
          have BW := Lib.hid (Below.refl w5.heap.size w5)
          clear hlast hL hd hf
          have OFF := Lib.hid hoff
          clear hoff hD5 hlv hGR hGB hGA hAh hdk HX HBO HQ
          go_wp2_with (first
            | (go_at_call 16; refine OFF.out.mono ?_; rintro e _ ⟨rfl, rfl⟩; clear OFF)
            | (go_at_call_of 21 (ptr p); refine (T.out.t21p _ BW.out).mono ?_; rintro e wd1 ⟨vd1, rfl, gd, bd⟩; have BW := Lib.hid (BW.out.trans (bd.mono BW.out.size)); have V1 := Lib.hid gd; clear gd bd)
            | (go_at_call_of 33 vd1; refine (T.out.t33 _ vd1 V1.out).mono ?_; rintro e wt1 ⟨vt1, rfl, gd, bd⟩; have BW := Lib.hid (BW.out.trans (bd.mono BW.out.size)); have U1 := Lib.hid gd; clear gd bd V1)
            | (go_at_call_of 21 (ptr q); refine (T.out.t21q _ BW.out).mono ?_; rintro e wd2 ⟨vd2, rfl, gd, bd⟩; have BW := Lib.hid (BW.out.trans (bd.mono BW.out.size)); have V2 := Lib.hid gd; have U1 := Lib.hid (U1.out.later bd); clear gd bd)
            | (go_at_call_of 33 vd2; refine (T.out.t33 _ vd2 V2.out).mono ?_; rintro e wt2 ⟨vt2, rfl, gd, bd⟩; have BW := Lib.hid (BW.out.trans (bd.mono BW.out.size)); have U2 := Lib.hid gd; have U1 := Lib.hid (U1.out.later bd); clear gd bd V2)
            | (go_at_call 34; refine (T.out.t34 _ vt1 vt2 U1.out U2.out).mono ?_; rintro e ws ⟨rfl, bd⟩; have BW := Lib.hid (BW.out.trans (bd.mono BW.out.size)); clear bd)
            | (go_at_call_of 30 (ptr p); refine (T.out.t30p _ BW.out).mono ?_; rintro e _ ⟨rfl, rfl⟩)
            | (go_at_call_of 30 (ptr q); refine (T.out.t30q _ BW.out).mono ?_; rintro e _ ⟨rfl, rfl⟩)
            | (go_at_call 22; refine (T.out.t22 _ BW.out).mono ?_; rintro e wn ⟨rfl, bn, f16, f14p, f14q⟩; have BN := Lib.hid bn; have F16 := Lib.hid f16; have F14p := Lib.hid f14p; have F14q := Lib.hid f14q; clear bn f16 f14p f14q)
            | (go_at_call 16; refine F16.out.mono ?_; rintro e _ ⟨rfl, rfl⟩)
            | (go_at_call_of 14 (ptr p); refine F14p.out.mono ?_; rintro e _ ⟨rfl, rfl⟩)
            | (go_at_call_of 14 (ptr q); refine F14q.out.mono ?_; rintro e _ ⟨rfl, rfl⟩))
          go_ret
          exact ⟨by simp, B1.out.trans (BN.out.mono z1)⟩
        · rw [hdk] at hoff
          have kk := HX.out _ hD5.turned
          rw [HY.out] at kk
          obtain ⟨k0, k1, k2, k3, k4⟩ := op_cells kk
          have hc2 := hD5.swap.remove hGB hdB r.o.a
          have hGQ := hGB.remove r.o.a
          rw [← HQ.out] at hc2 hGQ
          have HC2 := Lib.hid hc2
          have OFF := Lib.hid hoff
          obtain ⟨rc, hrc1⟩ : ∃ rc, rc = Q.1 := ⟨_, rfl⟩
          rw [← hrc1] at hrc
          rw [hrc]
          have HRC := Lib.hid hrc1
          clear kk hc2 hoff HQ hGA hGB hAh hdk hrc hrc1
          go_wp2_with (first | (go_at_call 16; refine OFF.out.mono ?_; rintro e _ ⟨rfl, rfl⟩; clear OFF) | (go_at_call 25; refine HC2.out.mono ?_; rintro e w6 ⟨he, hD6⟩; rw [← HRC.out] at he; subst he; clear HC2))
          go_roundw
          case rel => exact ⟨k + 1, R.2, Q.2, by go_num, by omega, by omega, hD6.swap.back HT.out HZW.out (fun k hk => hk), hah, hGR, hGQ, by omega⟩
          case measure => simp [intOf]; omega
      by_cases h2 : bits BinOp.and IntKind.i64 r.z 3 = 2
      · have hgo := goes_rename hAh r.o.a r.o.b
        have hc1 := D1.rename hGA hdA r.o.a r.o.b
        have hGR := hGA.rename r.o.a r.o.b
        have hdR := rename_done A r.o.a r.o.b
        obtain ⟨R, hR⟩ : ∃ R, R = renameS A r.o.a r.o.b := ⟨_, rfl⟩
        obtain ⟨Q, hQ⟩ : ∃ Q, Q = renameS B r.o.a r.o.b := ⟨_, rfl⟩
        rw [← hR] at hgo hc1 hGR hdR
        rw [← hQ] at hgo
        have HQ := Lib.hid hQ
        have HC1 := Lib.hid hc1
        clear hc1 hR hQ D1
        go_wp2_with fail
        rw [HW.out]
        have kk := HX.out wo (Turn.refl _ _)
        rw [HY.out] at kk
        obtain ⟨k0, k1, k2, k3, k4⟩ := op_cells kk
        clear kk
        go_wp2_with (first | (go_at_call 26; refine HC1.out.mono ?_; rintro e w5 ⟨he, hD5⟩; subst he; clear HC1) | (go_at_call 16; fail))
        clear k0 k1 k2 k3 k4
        have hoff : Calls Try.prog 16 #[ptr p] w5 fun e w' => e = .returned (.bool R.2.dark) ∧ w' = w5 := by
          obtain ⟨F, h1⟩ := hD5.one
          exact dOff h1
        rcases hgo with ⟨hdk, hlv⟩ | ⟨hdk, hrc, hah⟩
        · rw [hdk] at hoff
          have hlast := last_facts (hD5.back HT.out HZW.out (fun k hk => hk)) (hlv) hGR hGB
          have hdn : ((R.2.done : Nat) : Int) ≤ (n : Int) := by have := (hlv).most; omega
          obtain ⟨L, hL⟩ : ∃ L, L = R.2.fs := ⟨_, rfl⟩
          obtain ⟨d, hd⟩ : ∃ d, d = R.2.done := ⟨_, rfl⟩
          obtain ⟨f, hf⟩ : ∃ f, f = R.2.free := ⟨_, rfl⟩
          rw [← hL, ← hd, ← hf] at hlast
          rw [← hd] at hdn
          have T := Lib.hid hlast
          have BW := Lib.hid (Below.refl w5.heap.size w5)
          clear hlast hL hd hf
          have OFF := Lib.hid hoff
          clear hoff hD5 hlv hGR hGB hGA hAh hdk HX HBO HQ
          go_wp2_with (first
            | (go_at_call 16; refine OFF.out.mono ?_; rintro e _ ⟨rfl, rfl⟩; clear OFF)
            | (go_at_call_of 21 (ptr p); refine (T.out.t21p _ BW.out).mono ?_; rintro e wd1 ⟨vd1, rfl, gd, bd⟩; have BW := Lib.hid (BW.out.trans (bd.mono BW.out.size)); have V1 := Lib.hid gd; clear gd bd)
            | (go_at_call_of 33 vd1; refine (T.out.t33 _ vd1 V1.out).mono ?_; rintro e wt1 ⟨vt1, rfl, gd, bd⟩; have BW := Lib.hid (BW.out.trans (bd.mono BW.out.size)); have U1 := Lib.hid gd; clear gd bd V1)
            | (go_at_call_of 21 (ptr q); refine (T.out.t21q _ BW.out).mono ?_; rintro e wd2 ⟨vd2, rfl, gd, bd⟩; have BW := Lib.hid (BW.out.trans (bd.mono BW.out.size)); have V2 := Lib.hid gd; have U1 := Lib.hid (U1.out.later bd); clear gd bd)
            | (go_at_call_of 33 vd2; refine (T.out.t33 _ vd2 V2.out).mono ?_; rintro e wt2 ⟨vt2, rfl, gd, bd⟩; have BW := Lib.hid (BW.out.trans (bd.mono BW.out.size)); have U2 := Lib.hid gd; have U1 := Lib.hid (U1.out.later bd); clear gd bd V2)
            | (go_at_call 34; refine (T.out.t34 _ vt1 vt2 U1.out U2.out).mono ?_; rintro e ws ⟨rfl, bd⟩; have BW := Lib.hid (BW.out.trans (bd.mono BW.out.size)); clear bd)
            | (go_at_call_of 30 (ptr p); refine (T.out.t30p _ BW.out).mono ?_; rintro e _ ⟨rfl, rfl⟩)
            | (go_at_call_of 30 (ptr q); refine (T.out.t30q _ BW.out).mono ?_; rintro e _ ⟨rfl, rfl⟩)
            | (go_at_call 22; refine (T.out.t22 _ BW.out).mono ?_; rintro e wn ⟨rfl, bn, f16, f14p, f14q⟩; have BN := Lib.hid bn; have F16 := Lib.hid f16; have F14p := Lib.hid f14p; have F14q := Lib.hid f14q; clear bn f16 f14p f14q)
            | (go_at_call 16; refine F16.out.mono ?_; rintro e _ ⟨rfl, rfl⟩)
            | (go_at_call_of 14 (ptr p); refine F14p.out.mono ?_; rintro e _ ⟨rfl, rfl⟩)
            | (go_at_call_of 14 (ptr q); refine F14q.out.mono ?_; rintro e _ ⟨rfl, rfl⟩))
          go_ret
          exact ⟨by simp, B1.out.trans (BN.out.mono z1)⟩
        · rw [hdk] at hoff
          have kk := HX.out _ hD5.turned
          rw [HY.out] at kk
          obtain ⟨k0, k1, k2, k3, k4⟩ := op_cells kk
          have hc2 := hD5.swap.rename hGB hdB r.o.a r.o.b
          have hGQ := hGB.rename r.o.a r.o.b
          rw [← HQ.out] at hc2 hGQ
          have HC2 := Lib.hid hc2
          have OFF := Lib.hid hoff
          obtain ⟨rc, hrc1⟩ : ∃ rc, rc = Q.1 := ⟨_, rfl⟩
          rw [← hrc1] at hrc
          rw [hrc]
          have HRC := Lib.hid hrc1
          clear kk hc2 hoff HQ hGA hGB hAh hdk hrc hrc1
          go_wp2_with (first | (go_at_call 16; refine OFF.out.mono ?_; rintro e _ ⟨rfl, rfl⟩; clear OFF) | (go_at_call 26; refine HC2.out.mono ?_; rintro e w6 ⟨he, hD6⟩; rw [← HRC.out] at he; subst he; clear HC2))
          go_roundw
          case rel => exact ⟨k + 1, R.2, Q.2, by go_num, by omega, by omega, hD6.swap.back HT.out HZW.out (fun k hk => hk), hah, hGR, hGQ, by omega⟩
          case measure => simp [intOf]; omega
      have hgo := goes_sync hAh r.o.a
      have hc1 := D1.sync hGA hdA r.o.a
      have hGR := hGA.sync r.o.a
      have hdR := sync_done A r.o.a
      obtain ⟨R, hR⟩ : ∃ R, R = syncS A r.o.a := ⟨_, rfl⟩
      obtain ⟨Q, hQ⟩ : ∃ Q, Q = syncS B r.o.a := ⟨_, rfl⟩
      rw [← hR] at hgo hc1 hGR hdR
      rw [← hQ] at hgo
      have HQ := Lib.hid hQ
      have HC1 := Lib.hid hc1
      clear hc1 hR hQ D1
      go_wp2_with fail
      rw [HW.out]
      have kk := HX.out wo (Turn.refl _ _)
      rw [HY.out] at kk
      obtain ⟨k0, k1, k2, k3, k4⟩ := op_cells kk
      clear kk
      go_wp2_with (first | (go_at_call 27; refine HC1.out.mono ?_; rintro e w5 ⟨he, hD5⟩; subst he; clear HC1) | (go_at_call 16; fail))
      clear k0 k1 k2 k3 k4
      have hoff : Calls Try.prog 16 #[ptr p] w5 fun e w' => e = .returned (.bool R.2.dark) ∧ w' = w5 := by
        obtain ⟨F, h1⟩ := hD5.one
        exact dOff h1
      rcases hgo with ⟨hdk, hlv⟩ | ⟨hdk, hrc, hah⟩
      · rw [hdk] at hoff
        have hlast := last_facts (hD5.back HT.out HZW.out (fun k hk => hk)) (hlv) hGR hGB
        have hdn : ((R.2.done : Nat) : Int) ≤ (n : Int) := by have := (hlv).most; omega
        obtain ⟨L, hL⟩ : ∃ L, L = R.2.fs := ⟨_, rfl⟩
        obtain ⟨d, hd⟩ : ∃ d, d = R.2.done := ⟨_, rfl⟩
        obtain ⟨f, hf⟩ : ∃ f, f = R.2.free := ⟨_, rfl⟩
        rw [← hL, ← hd, ← hf] at hlast
        rw [← hd] at hdn
        have T := Lib.hid hlast
        have BW := Lib.hid (Below.refl w5.heap.size w5)
        clear hlast hL hd hf
        have OFF := Lib.hid hoff
        clear hoff hD5 hlv hGR hGB hGA hAh hdk HX HBO HQ
        go_wp2_with (first
          | (go_at_call 16; refine OFF.out.mono ?_; rintro e _ ⟨rfl, rfl⟩; clear OFF)
          | (go_at_call_of 21 (ptr p); refine (T.out.t21p _ BW.out).mono ?_; rintro e wd1 ⟨vd1, rfl, gd, bd⟩; have BW := Lib.hid (BW.out.trans (bd.mono BW.out.size)); have V1 := Lib.hid gd; clear gd bd)
          | (go_at_call_of 33 vd1; refine (T.out.t33 _ vd1 V1.out).mono ?_; rintro e wt1 ⟨vt1, rfl, gd, bd⟩; have BW := Lib.hid (BW.out.trans (bd.mono BW.out.size)); have U1 := Lib.hid gd; clear gd bd V1)
          | (go_at_call_of 21 (ptr q); refine (T.out.t21q _ BW.out).mono ?_; rintro e wd2 ⟨vd2, rfl, gd, bd⟩; have BW := Lib.hid (BW.out.trans (bd.mono BW.out.size)); have V2 := Lib.hid gd; have U1 := Lib.hid (U1.out.later bd); clear gd bd)
          | (go_at_call_of 33 vd2; refine (T.out.t33 _ vd2 V2.out).mono ?_; rintro e wt2 ⟨vt2, rfl, gd, bd⟩; have BW := Lib.hid (BW.out.trans (bd.mono BW.out.size)); have U2 := Lib.hid gd; have U1 := Lib.hid (U1.out.later bd); clear gd bd V2)
          | (go_at_call 34; refine (T.out.t34 _ vt1 vt2 U1.out U2.out).mono ?_; rintro e ws ⟨rfl, bd⟩; have BW := Lib.hid (BW.out.trans (bd.mono BW.out.size)); clear bd)
          | (go_at_call_of 30 (ptr p); refine (T.out.t30p _ BW.out).mono ?_; rintro e _ ⟨rfl, rfl⟩)
          | (go_at_call_of 30 (ptr q); refine (T.out.t30q _ BW.out).mono ?_; rintro e _ ⟨rfl, rfl⟩)
          | (go_at_call 22; refine (T.out.t22 _ BW.out).mono ?_; rintro e wn ⟨rfl, bn, f16, f14p, f14q⟩; have BN := Lib.hid bn; have F16 := Lib.hid f16; have F14p := Lib.hid f14p; have F14q := Lib.hid f14q; clear bn f16 f14p f14q)
          | (go_at_call 16; refine F16.out.mono ?_; rintro e _ ⟨rfl, rfl⟩)
          | (go_at_call_of 14 (ptr p); refine F14p.out.mono ?_; rintro e _ ⟨rfl, rfl⟩)
          | (go_at_call_of 14 (ptr q); refine F14q.out.mono ?_; rintro e _ ⟨rfl, rfl⟩))
        go_ret
        exact ⟨by simp, B1.out.trans (BN.out.mono z1)⟩
      · rw [hdk] at hoff
        have kk := HX.out _ hD5.turned
        rw [HY.out] at kk
        obtain ⟨k0, k1, k2, k3, k4⟩ := op_cells kk
        have hc2 := hD5.swap.sync hGB hdB r.o.a
        have hGQ := hGB.sync r.o.a
        rw [← HQ.out] at hc2 hGQ
        have HC2 := Lib.hid hc2
        have OFF := Lib.hid hoff
        obtain ⟨rc, hrc1⟩ : ∃ rc, rc = Q.1 := ⟨_, rfl⟩
        rw [← hrc1] at hrc
        rw [hrc]
        have HRC := Lib.hid hrc1
        clear kk hc2 hoff HQ hGA hGB hAh hdk hrc hrc1
        go_wp2_with (first | (go_at_call 16; refine OFF.out.mono ?_; rintro e _ ⟨rfl, rfl⟩; clear OFF) | (go_at_call 27; refine HC2.out.mono ?_; rintro e w6 ⟨he, hD6⟩; rw [← HRC.out] at he; subst he; clear HC2))
        go_roundw
        case rel => exact ⟨k + 1, R.2, Q.2, by go_num, by omega, by omega, hD6.swap.back HT.out HZW.out (fun k hk => hk), hah, hGR, hGQ, by omega⟩
        case measure => simp [intOf]; omega
    · have hWo := hT.old
      have hlast := last_facts (hT) (hAh.level) hGA hGB
      have hdn : ((A.done : Nat) : Int) ≤ (n : Int) := by have := (hAh.level).most; omega
      obtain ⟨L, hL⟩ : ∃ L, L = A.fs := ⟨_, rfl⟩
      obtain ⟨d, hd⟩ : ∃ d, d = A.done := ⟨_, rfl⟩
      obtain ⟨f, hf⟩ : ∃ f, f = A.free := ⟨_, rfl⟩
      rw [← hL, ← hd, ← hf] at hlast
      rw [← hd] at hdn
      have T := Lib.hid hlast
      have BW := Lib.hid (Below.refl wr.heap.size wr)
      clear hlast hL hd hf
      clear hT hAh hGA hGB
      by_cases h1 : k < N
      · have i1 : (k : Int) < (N : Int) := by omega
        have i2 : ¬ ((k : Int) < 100) := by omega
        go_wp2_with (first
          | (go_at_call_of 21 (ptr p); refine (T.out.t21p _ BW.out).mono ?_; rintro e wd1 ⟨vd1, rfl, gd, bd⟩; have BW := Lib.hid (BW.out.trans (bd.mono BW.out.size)); have V1 := Lib.hid gd; clear gd bd)
          | (go_at_call_of 33 vd1; refine (T.out.t33 _ vd1 V1.out).mono ?_; rintro e wt1 ⟨vt1, rfl, gd, bd⟩; have BW := Lib.hid (BW.out.trans (bd.mono BW.out.size)); have U1 := Lib.hid gd; clear gd bd V1)
          | (go_at_call_of 21 (ptr q); refine (T.out.t21q _ BW.out).mono ?_; rintro e wd2 ⟨vd2, rfl, gd, bd⟩; have BW := Lib.hid (BW.out.trans (bd.mono BW.out.size)); have V2 := Lib.hid gd; have U1 := Lib.hid (U1.out.later bd); clear gd bd)
          | (go_at_call_of 33 vd2; refine (T.out.t33 _ vd2 V2.out).mono ?_; rintro e wt2 ⟨vt2, rfl, gd, bd⟩; have BW := Lib.hid (BW.out.trans (bd.mono BW.out.size)); have U2 := Lib.hid gd; have U1 := Lib.hid (U1.out.later bd); clear gd bd V2)
          | (go_at_call 34; refine (T.out.t34 _ vt1 vt2 U1.out U2.out).mono ?_; rintro e ws ⟨rfl, bd⟩; have BW := Lib.hid (BW.out.trans (bd.mono BW.out.size)); clear bd)
          | (go_at_call_of 30 (ptr p); refine (T.out.t30p _ BW.out).mono ?_; rintro e _ ⟨rfl, rfl⟩)
          | (go_at_call_of 30 (ptr q); refine (T.out.t30q _ BW.out).mono ?_; rintro e _ ⟨rfl, rfl⟩)
          | (go_at_call 22; refine (T.out.t22 _ BW.out).mono ?_; rintro e wn ⟨rfl, bn, f16, f14p, f14q⟩; have BN := Lib.hid bn; have F16 := Lib.hid f16; have F14p := Lib.hid f14p; have F14q := Lib.hid f14q; clear bn f16 f14p f14q)
          | (go_at_call 16; refine F16.out.mono ?_; rintro e _ ⟨rfl, rfl⟩)
          | (go_at_call_of 14 (ptr p); refine F14p.out.mono ?_; rintro e _ ⟨rfl, rfl⟩)
          | (go_at_call_of 14 (ptr q); refine F14q.out.mono ?_; rintro e _ ⟨rfl, rfl⟩))
        go_ret
        exact ⟨by simp, B1.out.trans (BN.out.mono z1)⟩
      · have i1 : ¬ ((k : Int) < (N : Int)) := by omega
        go_wp2_with (first
          | (go_at_call_of 21 (ptr p); refine (T.out.t21p _ BW.out).mono ?_; rintro e wd1 ⟨vd1, rfl, gd, bd⟩; have BW := Lib.hid (BW.out.trans (bd.mono BW.out.size)); have V1 := Lib.hid gd; clear gd bd)
          | (go_at_call_of 33 vd1; refine (T.out.t33 _ vd1 V1.out).mono ?_; rintro e wt1 ⟨vt1, rfl, gd, bd⟩; have BW := Lib.hid (BW.out.trans (bd.mono BW.out.size)); have U1 := Lib.hid gd; clear gd bd V1)
          | (go_at_call_of 21 (ptr q); refine (T.out.t21q _ BW.out).mono ?_; rintro e wd2 ⟨vd2, rfl, gd, bd⟩; have BW := Lib.hid (BW.out.trans (bd.mono BW.out.size)); have V2 := Lib.hid gd; have U1 := Lib.hid (U1.out.later bd); clear gd bd)
          | (go_at_call_of 33 vd2; refine (T.out.t33 _ vd2 V2.out).mono ?_; rintro e wt2 ⟨vt2, rfl, gd, bd⟩; have BW := Lib.hid (BW.out.trans (bd.mono BW.out.size)); have U2 := Lib.hid gd; have U1 := Lib.hid (U1.out.later bd); clear gd bd V2)
          | (go_at_call 34; refine (T.out.t34 _ vt1 vt2 U1.out U2.out).mono ?_; rintro e ws ⟨rfl, bd⟩; have BW := Lib.hid (BW.out.trans (bd.mono BW.out.size)); clear bd)
          | (go_at_call_of 30 (ptr p); refine (T.out.t30p _ BW.out).mono ?_; rintro e _ ⟨rfl, rfl⟩)
          | (go_at_call_of 30 (ptr q); refine (T.out.t30q _ BW.out).mono ?_; rintro e _ ⟨rfl, rfl⟩)
          | (go_at_call 22; refine (T.out.t22 _ BW.out).mono ?_; rintro e wn ⟨rfl, bn, f16, f14p, f14q⟩; have BN := Lib.hid bn; have F16 := Lib.hid f16; have F14p := Lib.hid f14p; have F14q := Lib.hid f14q; clear bn f16 f14p f14q)
          | (go_at_call 16; refine F16.out.mono ?_; rintro e _ ⟨rfl, rfl⟩)
          | (go_at_call_of 14 (ptr p); refine F14p.out.mono ?_; rintro e _ ⟨rfl, rfl⟩)
          | (go_at_call_of 14 (ptr q); refine F14q.out.mono ?_; rintro e _ ⟨rfl, rfl⟩))
        go_ret
        exact ⟨by simp, B1.out.trans (BN.out.mono z1)⟩
end Go.Proofs.Ytmblkojilckobaa
