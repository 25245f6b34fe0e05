/- SafePlays. -/
import Derived.Test.YthibhkoneajffaaSafeTrio
import Derived.Test.YthibhkoneajffaaSafeBoth
import Derived.Test.YthibhkoneajffaaSafeAwake
import Derived.Test.YthibhkoneajffaaSafeTheirs
import Derived.Test.YthibhkoneajffaaDiskSameFiles
import Derived.Deep.CutBlock
namespace Go.Proofs.Ythibhkoneajffaa
open Go.RowKit
theorem and7 (c : Int) : ∃ v : Nat, v ≤ 7 ∧ bits BinOp.and IntKind.i64 c 7 = (v : Int) := by
  have hw : bits .and .i64 c 7 = IntKind.i64.wrap (((BitVec.ofInt 64 c) &&& (BitVec.ofInt 64 7)).toNat : Int) := rfl
  have hle : ((BitVec.ofInt 64 c) &&& (BitVec.ofInt 64 7)).toNat ≤ 7 := by
    rw [BitVec.toNat_and]
    exact Nat.le_trans Nat.and_le_right (by decide)
  exact ⟨_, hle, by rw [hw]; exact IntWalk.i64_in _ (by omega)⟩
/-- A block that holds an operation. -/
def sopO (r : SopR) : Obj := .cells #[.int .i64 r.z, .string (SL r.nm), r.v, .int .i64 r.n] 31 (0, 0)
theorem sop_cells {w : World} {x : Nat} {r : SopR} (h : w.heap[x]? = some (sopO r)) : w.cell? ⟨x, 0, none⟩ = some (.int .i64 r.z) ∧ w.cell? ⟨x, 1, none⟩ = some (.string (SL r.nm)) ∧ w.cell? ⟨x, 2, none⟩ = some r.v ∧ w.cell? ⟨x, 3, none⟩ = some (.int .i64 r.n) :=
  ⟨cell_of_row _ _ _ _ _ _ h, cell_of_row _ _ _ _ _ _ h, cell_of_row _ _ _ _ _ _ h, cell_of_row _ _ _ _ _ _ h⟩
theorem Two.trio {w0 w : World} {base p q : Nat} {S : St} (h : Two w0 base w p q S) (O : Obj) : Trio w0 base w.heap.size O p q S S (w.alloc O) := by
  obtain ⟨Fd, Fr, h⟩ := h
  have hb : Below w.heap.size w (w.alloc O) := (Below.refl _ _).alloc (Nat.le_refl _) _
  exact ⟨Fd, Fr, h.below hb, heap_alloc_new _ _, h.bs, fun hk => Nat.lt_irrefl _ (h.fd _ hk).2, fun hk => Nat.lt_irrefl _ (h.fr _ hk).2⟩
theorem Trio.two {w0 w : World} {base x p q : Nat} {O : Obj} {S : St} (h : Trio w0 base x O p q S S w) : Two w0 base w p q S := by
  obtain ⟨Fd, Fr, h, _⟩ := h
  exact ⟨Fd, Fr, h⟩
theorem Two.below {w0 w w' : World} {base p q : Nat} {S : St} (h : Two w0 base w p q S) (hb : Below w.heap.size w w') : Two w0 base w' p q S := by
  obtain ⟨Fd, Fr, h⟩ := h
  exact ⟨Fd, Fr, h.below hb⟩
theorem FilesAt.onward {w w1 : World} {v : Value} {L : Files} (h : FilesAt w (elder w) v L) (h1 : Below w.heap.size w w1) : FilesAt w1 (elder w1) v L :=
  (h.turn (Turn.of_below (fun _ => False) h1) (fun _ _ h => h)).mono (fun k _ hk => by have := h1.size; have : k < w.heap.size := hk; show k < w1.heap.size; omega)
set_option maxRecDepth 100000 in
set_option maxHeartbeats 40000000 in
theorem plays_law (c : Int) (v0 : Value) (L : Files) (vs : Value) (sc : List SopR) (w : World) (h : FilesAt w (elder w) v0 L) (hL : L.length ≤ 4000000000000) (hb : ∀ n b, (n, b) ∈ L → n.length ≤ 9223372036854775807 ∧ b.length ≤ 140737488355328) (hs : costs L ≤ 4611686018427387904)
    (hsc : SscriptAt w (elder w) vs sc) :
    Calls Try.prog 3 #[.int .i64 c, v0, vs] w fun e w' => e = .returned (.bool true) ∧ Below w.heap.size w w' := by
  obtain ⟨ao, cap, g, off, rfl, hg, hcell⟩ := hsc
  have hA := awake_any w
  have hB := fun (W : World) (hW : Below w.heap.size w W) => both_any c v0 L W ((h.turn (Turn.of_below (fun _ => False) hW) (fun _ _ h => h)).mono (fun i _ hi => by have := hW.size; have : i < w.heap.size := hi; show i < W.heap.size; omega)) hL hb hs
  have hSN := save_none
  have hWN := sweep_none
  obtain ⟨N, hN⟩ : ∃ N, N = sc.length := ⟨_, rfl⟩
  rw [← hN] at hg ⊢
  have HB := Lib.hid hB
  have HCE := Lib.hid hcell
  have HN := Lib.hid hN
  have HSN := Lib.hid hSN
  have HWN := Lib.hid hWN
  clear hB h hb hs hcell hN hSN hWN
  go_enter Try.func3, Try.ntmps3
  go_wp2_with (first | (go_at_call 9; refine hA.mono ?_; rintro e w1 ⟨rfl, b1⟩; have B1 := Lib.hid b1; clear b1) | (go_at_call 10; fail))
  refine (HB.out w1 B1.out).mono ?_
  rintro e w2 (⟨rfl, b2⟩ | ⟨p, q, C, rfl, hT, hG, hC, _, _⟩)
  · have B2 := Lib.hid (B1.out.trans (b2.mono B1.out.size))
    clear b2 HB
    go_wp2
    go_loopw [10] (fun i W => i = .int .i64 0 ∧ W = w2) (fun i _ => 0)
    case atStart => exact ⟨rfl, rfl⟩
    case round =>
      obtain ⟨rfl, rfl⟩ := hrel
      go_wp2_with (first | (go_at_call 21; refine (HSN.out _).mono ?_; rintro e w' ⟨rfl, rfl⟩) | (go_at_call 15; refine (HWN.out _).mono ?_; rintro e w' ⟨rfl, rfl⟩))
      go_ret
      exact ⟨rfl, B2.out⟩
  · obtain ⟨S0, hS⟩ : ∃ S, S = loadS L C := ⟨_, rfl⟩
    have hdone : S0.done = 0 := by rw [hS]; rfl
    have hcap : S0.cap ≤ 1048575 := by rw [hS]; exact hC
    rw [← hS] at hT hG
    have HT := Lib.hid hT
    clear hT hS HB hA
    go_wp2
    go_loopw [10] (fun i W => ∃ (k : Nat) (S : St), i = .int .i64 (k : Int) ∧ k ≤ N ∧ k ≤ 60 ∧ Two w1 w1.heap.size W p q S ∧ Good S ∧ S.done ≤ k * 1048600 ∧ S.cap ≤ 1048575) (fun i _ => N - (intOf i).toNat)
    case atStart => exact ⟨0, S0, rfl, Nat.zero_le _, by omega, HT.out, hG, by omega, hcap⟩
    case round =>
      clear HT hG hdone hcap S0
      obtain ⟨k, S, rfl, hk, hk2, hT, hG, hD, hCp⟩ := hrel
      have i0 : (0 : Int) ≤ (k : Int) := by omega
      have HE : Hid (Below w.heap.size w wr) := Lib.hid (by
        obtain ⟨Fd, Fr, hP⟩ := hT
        exact B1.out.trans (hP.old.mono B1.out.size))
      by_cases hlt : k < N
      · have i1 : (k : Int) < (N : Int) := by omega
        by_cases h60 : k < 60
        · have i2 : (k : Int) < 60 := by omega
          obtain ⟨r, hr⟩ : ∃ r, sc[k]? = some r := ⟨_, List.getElem?_eq_getElem (by rw [← HN.out]; exact hlt)⟩
          obtain ⟨rfl, hgw⟩ := hg (by omega)
          have hop := (HCE.out k r hr).turn hgw (Turn.of_below (fun _ => False) HE.out) (fun _ _ h => h)
          obtain ⟨c0, c1, c2, c3, hby, ln, ll, lo⟩ := hop
          obtain ⟨y, hy, hand⟩ := and7 r.z
          have hX := hT.trio (sopO r)
          obtain ⟨ao2, cap2, KL, e2⟩ : ∃ ao2 cap2 KL, r.v = .slice ao2 KL cap2 := by
            obtain ⟨ao2, cap2, B2, off2, e2, _⟩ := hby
            exact ⟨ao2, cap2, _, e2⟩
          have hw1s := B1.out.size
          have hbv : BytesAt (wr.alloc (sopO r)) (fun k => k < w1.heap.size) r.v r.l := (hby.mono (fun i _ hi => by have : i < w.heap.size := hi; show i < w1.heap.size; omega)).turn (Turn.of_below (fun _ => False) ((Below.refl wr.heap.size wr).alloc (Nat.le_refl _) (sopO r))) (fun _ _ h => h)
          have E2 := Lib.hid e2
          have HBV : Hid (∀ W, Below w1.heap.size w1 W → Below w1.heap.size w1 (wr.alloc (sopO r)) → BytesAt W (fun k => k < w1.heap.size) r.v r.l) := Lib.hid (fun W hW h0 => by
            obtain ⟨ao2, cap2, B2, off2, e2, s2, z2⟩ := hbv
            refine ⟨ao2, cap2, B2, off2, e2, ⟨s2.le, s2.top, s2.src, s2.bare, fun p => Nat.lt_of_lt_of_le (z2 p) hW.size, fun j hj => ?_⟩, z2⟩
            have hz := z2 (by omega)
            exact (hW.cell (p := ⟨B2, off2 + j, none⟩) hz).trans ((h0.cell (p := ⟨B2, off2 + j, none⟩) hz).symm.trans (s2.cell j hj)))
          have hgR := hG.stepP (y : Int) r lo.2
          have hdR := stepP_done (y : Int) r hG
          have hcR := stepP_cap (y : Int) S r
          obtain ⟨R, hR⟩ : ∃ R, R = stepP (y : Int) S r := ⟨_, rfl⟩
          rw [← hR] at hgR hdR hcR
          obtain ⟨w3, hw3⟩ : ∃ w3, w3 = wr.alloc (sopO r) := ⟨_, rfl⟩
          rw [← hw3] at hX hbv HBV
          obtain ⟨k0, k1, k2, k3⟩ := sop_cells hX.obj
          rw [e2] at k2 c2
          obtain ⟨x, hx⟩ : ∃ x, x = wr.heap.size := ⟨_, rfl⟩
          have hW : wr.alloc (Obj.cells #[.int .i64 r.z, .string (SL r.nm), .slice ao2 KL cap2, .int .i64 r.n] 31) = w3 := by rw [hw3]; unfold sopO; rw [e2]
          have HW := Lib.hid hW
          have HX := Lib.hid hX
          have HO3 := Lib.hid hX.old
          obtain ⟨z, hz⟩ : ∃ z, z = R.1 := ⟨_, rfl⟩
          have HZ := Lib.hid hz
          have hdS : S.done ≤ 62916000 := by omega
          rw [e2] at HBV
          clear hT hr hby hw3 hW hX hz hbv hg hx x e2
          have hcases : (y = 3 ∧ R = appendS S r.nm r.l) ∨ (y = 4 ∧ R = removeS S r.nm) ∨ (y = 5 ∧ R = sweepS S) ∨ (y = 6 ∧ R = cutS S r.n) ∨ (y = 7 ∧ R = (0, onS S)) ∨ ((¬ (y : Int) = 3 ∧ ¬ (y : Int) = 4 ∧ ¬ (y : Int) = 5 ∧ ¬ (y : Int) = 6 ∧ ¬ (y : Int) = 7) ∧ R = saveS S r.nm r.l) := by
            rw [hR]
            unfold stepP
            by_cases e3 : (y : Int) = 3
            · exact .inl ⟨by omega, by rw [if_pos e3]⟩
            by_cases e4 : (y : Int) = 4
            · exact .inr (.inl ⟨by omega, by rw [if_neg e3, if_pos e4]⟩)
            by_cases e5 : (y : Int) = 5
            · exact .inr (.inr (.inl ⟨by omega, by rw [if_neg e3, if_neg e4, if_pos e5]⟩))
            by_cases e6 : (y : Int) = 6
            · exact .inr (.inr (.inr (.inl ⟨by omega, by rw [if_neg e3, if_neg e4, if_neg e5, if_pos e6]⟩)))
            by_cases e7 : (y : Int) = 7
            · exact .inr (.inr (.inr (.inr (.inl ⟨by omega, by rw [if_neg e3, if_neg e4, if_neg e5, if_neg e6, if_pos e7]⟩))))
            · exact .inr (.inr (.inr (.inr (.inr ⟨⟨e3, e4, e5, e6, e7⟩, by rw [if_neg e3, if_neg e4, if_neg e5, if_neg e6, if_neg e7]⟩))))
          clear hR
          go_upto_block 2 with fail
          rw [HW.out]
          go_cut [12, 13] from 21 to 143 (fun s12 s13 wx => s12 = .int .i64 z ∧ s13 = .int .i64 z ∧ Trio w1 w1.heap.size wr.heap.size (sopO r) p q R.2 R.2 wx)
          case first =>
            rcases hcases with ⟨rfl, hR⟩ | ⟨rfl, hR⟩ | ⟨rfl, hR⟩ | ⟨rfl, hR⟩ | ⟨rfl, hR⟩ | ⟨⟨e3, e4, e5, e6, e7⟩, hR⟩
            case inl =>
              have hbv3 := HBV.out w3 HO3.out HO3.out
              have hd := HX.out.dAppend hG (by omega) r.nm _ r.l hbv3
              have hrr := fun (W : World) (h : Trio w1 w1.heap.size wr.heap.size (sopO r) p q R.2 S W) => h.rAppend hG (by omega) r.nm (by omega) _ r.l (HBV.out W h.old HO3.out)
              rw [← hR] at hd hrr
              have HD := Lib.hid hd
              have HRR := Lib.hid hrr
              clear hd hrr hR hbv3
              go_wp2_with (go_at_call 11; fail)
              refine HD.out.mono ?_
              rintro e w4 ⟨rfl, h4⟩
              rw [← HZ.out]
              obtain ⟨j0, j1, j2, j3⟩ := sop_cells h4.obj
              rw [E2.out] at j2
              have H4 := Lib.hid h4
              clear h4
              go_wp2_with (go_at_call 12; refine (HRR.out _ H4.out).mono ?_; rintro e w5 ⟨rfl, h5⟩; rw [← HZ.out]; have H5 := Lib.hid h5; clear h5)
              go_meet
              exact ⟨rfl, rfl, H5.out⟩
            case inr.inl =>
              have hd := HX.out.dRemove hG (by omega) r.nm
              have hrr := fun (W : World) (h : Trio w1 w1.heap.size wr.heap.size (sopO r) p q R.2 S W) => h.rRemove hG (by omega) r.nm (by omega)
              rw [← hR] at hd hrr
              have HD := Lib.hid hd
              have HRR := Lib.hid hrr
              clear hd hrr hR
              go_wp2_with (go_at_call 13; fail)
              refine HD.out.mono ?_
              rintro e w4 ⟨rfl, h4⟩
              rw [← HZ.out]
              obtain ⟨j0, j1, j2, j3⟩ := sop_cells h4.obj
              rw [E2.out] at j2
              have H4 := Lib.hid h4
              clear h4
              go_wp2_with (go_at_call 14; refine (HRR.out _ H4.out).mono ?_; rintro e w5 ⟨rfl, h5⟩; rw [← HZ.out]; have H5 := Lib.hid h5; clear h5)
              go_meet
              exact ⟨rfl, rfl, H5.out⟩
            case inr.inr.inl =>
              have hd := HX.out.dSweep hG (by omega)
              have hrr := fun (W : World) (h : Trio w1 w1.heap.size wr.heap.size (sopO r) p q R.2 S W) => h.rSweep hG (by omega)
              rw [← hR] at hd hrr
              have HD := Lib.hid hd
              have HRR := Lib.hid hrr
              clear hd hrr hR
              go_wp2_with (go_at_call 15; fail)
              refine HD.out.mono ?_
              rintro e w4 ⟨rfl, h4⟩
              rw [← HZ.out]
              obtain ⟨j0, j1, j2, j3⟩ := sop_cells h4.obj
              rw [E2.out] at j2
              have H4 := Lib.hid h4
              clear h4
              go_wp2_with (go_at_call 16; refine (HRR.out _ H4.out).mono ?_; rintro e w5 ⟨rfl, h5⟩; rw [← HZ.out]; have H5 := Lib.hid h5; clear h5)
              go_meet
              exact ⟨rfl, rfl, H5.out⟩
            case inr.inr.inr.inl =>
              have hd := HX.out.dCut r.n lo.2
              have hrr := fun (W : World) (h : Trio w1 w1.heap.size wr.heap.size (sopO r) p q R.2 S W) => h.rCut r.n
              rw [← hR] at hd hrr
              have HD := Lib.hid hd
              have HRR := Lib.hid hrr
              clear hd hrr hR
              go_wp2_with (go_at_call 17; fail)
              refine HD.out.mono ?_
              rintro e w4 ⟨rfl, h4⟩
              rw [← HZ.out]
              obtain ⟨j0, j1, j2, j3⟩ := sop_cells h4.obj
              rw [E2.out] at j2
              have H4 := Lib.hid h4
              clear h4
              go_wp2_with (go_at_call 18; refine (HRR.out _ H4.out).mono ?_; rintro e w5 ⟨rfl, h5⟩; rw [← HZ.out]; have H5 := Lib.hid h5; clear h5)
              go_meet
              exact ⟨rfl, rfl, H5.out⟩
            case inr.inr.inr.inr.inl =>
              have hd := HX.out.dOn
              have hrr := fun (W : World) (h : Trio w1 w1.heap.size wr.heap.size (sopO r) p q R.2 S W) => h.rOn
              have hz0 : z = 0 := by rw [HZ.out, hR]
              have hR2 : R.2 = onS S := by rw [hR]
              rw [← hR2] at hd hrr
              have HD := Lib.hid hd
              have HRR := Lib.hid hrr
              clear hd hrr hR hR2
              go_wp2_with (go_at_call 19; fail)
              refine HD.out.mono ?_
              rintro e w4 ⟨rfl, h4⟩
              obtain ⟨j0, j1, j2, j3⟩ := sop_cells h4.obj
              rw [E2.out] at j2
              have H4 := Lib.hid h4
              clear h4
              subst hz0
              go_wp2_with (go_at_call 20; refine (HRR.out _ H4.out).mono ?_; rintro e w5 ⟨rfl, h5⟩; have H5 := Lib.hid h5; clear h5)
              go_meet
              exact ⟨rfl, rfl, H5.out⟩
            case inr.inr.inr.inr.inr =>
              have hbv3 := HBV.out w3 HO3.out HO3.out
              have hd := HX.out.dSave hG (by omega) r.nm (by omega) _ r.l hbv3 (by omega)
              have hrr := fun (W : World) (h : Trio w1 w1.heap.size wr.heap.size (sopO r) p q R.2 S W) => h.rSave hG (by omega) r.nm (by omega) _ r.l (HBV.out W h.old HO3.out) (by omega)
              rw [← hR] at hd hrr
              have HD := Lib.hid hd
              have HRR := Lib.hid hrr
              clear hd hrr hR hbv3
              go_wp2_with (go_at_call 21; fail)
              refine HD.out.mono ?_
              rintro e w4 ⟨rfl, h4⟩
              rw [← HZ.out]
              obtain ⟨j0, j1, j2, j3⟩ := sop_cells h4.obj
              rw [E2.out] at j2
              have H4 := Lib.hid h4
              clear h4
              go_wp2_with (go_at_call 22; refine (HRR.out _ H4.out).mono ?_; rintro e w5 ⟨rfl, h5⟩; rw [← HZ.out]; have H5 := Lib.hid h5; clear h5)
              go_meet
              exact ⟨rfl, rfl, H5.out⟩
          case rest =>
            obtain ⟨rfl, rfl, h5⟩ := hcut
            have H5 := Lib.hid h5
            clear h5 hcases
            go_upto_region 27 with fail
            obtain ⟨Fd, Fr, hP, hob, hbx, hnd, hnr⟩ := H5.out
            obtain ⟨o0, o1, o2, o3⟩ := sop_cells hob
            have hdp : R.2.fs.length ≤ 4000000000000 ∧ ∀ n b, findF n R.2.fs = some b → n.length ≤ 281474976710656 ∧ b.length ≤ 140737488355328 := ⟨by have := hgR.many; omega, fun n b hb => by have := hgR.file_le hb; unfold costF at this; omega⟩
            obtain ⟨LF, hLF⟩ : ∃ l, l = R.2.fs := ⟨_, rfl⟩
            obtain ⟨nd, hnn⟩ : ∃ d, d = R.2.done := ⟨_, rfl⟩
            have H23 := Lib.hid (fun (W : World) (hb : Below wc.heap.size wc W) => (show Calls Try.prog 23 #[ptr p] W fun e w' => e = .returned (.int .i64 (nd : Int)) ∧ w' = W from by rw [hnn]; exact dOps (hP.below hb).d))
            have H26 := Lib.hid (fun (W : World) (hb : Below wc.heap.size wc W) => (show Calls Try.prog 26 #[ptr p] W fun e w' => ∃ v, e = .returned v ∧ FilesAt w' (elder w') v LF ∧ Below W.heap.size W w' from by
              refine (dDump (hP.below hb).d hgR.rise hdp.1 hdp.2).mono ?_
              rintro e w' ⟨v, he, hF, hb'⟩
              exact ⟨v, he, by rw [hLF]; exact hF.mono (fun k _ hk => hk.2), hb'⟩))
            have H25 := Lib.hid (fun (W : World) (v : Value) (hv : FilesAt W (elder W) v LF) => (show Calls Try.prog 25 #[v] W fun e w' => ∃ v, e = .returned v ∧ FilesAt w' (elder w') v LF ∧ Below W.heap.size W w' from by
              refine (theirs_any _ v LF W hv (fun _ h => h) (by rw [hLF]; exact hdp.1)).mono ?_
              rintro e w' ⟨v, he, hF, hb'⟩
              exact ⟨v, he, hF.mono (fun k hk _ => hk), hb'⟩))
            have H27 := Lib.hid (fun (W : World) (hb : Below wc.heap.size wc W) => (show Calls Try.prog 27 #[ptr q] W fun e w' => ∃ v, e = .returned v ∧ FilesAt w' (elder w') v LF ∧ Below W.heap.size W w' from by
              obtain ⟨ao, cap, P, g, off, hrf⟩ := (hP.below hb).r.opened
              refine (refDump_any hrf.list hdp.1 (fun i n b hi => (hdp.2 n b (findF_of_mem hgR.rise (List.mem_of_getElem? hi))).2)).mono ?_
              rintro e w' ⟨v, he, hF, hb'⟩
              exact ⟨v, he, by rw [hLF]; exact hF.mono (fun k _ hk => hk.2), hb'⟩))
            have H24 := Lib.hid (fun (W : World) (a c : Value) (ha : FilesAt W (elder W) a LF) (hc : FilesAt W (elder W) c LF) => (show Calls Try.prog 24 #[a, c] W fun e w' => e = .returned (.bool true) ∧ Below W.heap.size W w' from by
              refine (sameFiles_any _ _ a c LF LF W ha hc (by rw [hLF]; have := hdp.1; omega)).mono ?_
              rintro e w' ⟨he, hb'⟩
              exact ⟨by rw [he]; simp, hb'⟩))
            obtain ⟨mm, hmm⟩ : ∃ m, min r.n 1099511627776 = m := ⟨_, rfl⟩
            obtain ⟨n1, hn1⟩ : ∃ x, x = needI r.nm r.n := ⟨_, rfl⟩
            obtain ⟨n2, hn2⟩ : ∃ x, x = needI r.nm mm := ⟨_, rfl⟩
            have H28 := Lib.hid (fun (W : World) => (show Calls Try.prog 28 #[.string (SL r.nm), .int .i64 r.n] W fun e w' => e = .returned (.int .i64 n1) ∧ w' = W from by rw [hn1]; exact need_any _ _ _))
            have H29 := Lib.hid (fun (W : World) => (show Calls Try.prog 29 #[.string (SL r.nm), .int .i64 mm] W fun e w' => e = .returned (.int .i64 n2) ∧ w' = W from by rw [hn2]; exact refNeed_any _ _ _))
            have q2 : wc.cell? ⟨q, 2, none⟩ = some (.int .i64 (nd : Int)) := by
              obtain ⟨ao, cap, P, g, off, hrf⟩ := hP.r.opened
              rw [hnn]
              exact (ref_cells hrf.head).2.2.1
            have hqw : q < wc.heap.size := World.block_lt_of_cell? wc _ q2
            have hxw : wr.heap.size < wc.heap.size := World.block_lt_of_cell? wc _ o1
            have KEEP := Lib.hid (fun (W : World) (hb : Below wc.heap.size wc W) => (show W.cell? ⟨q, 2, none⟩ = some (.int .i64 (nd : Int)) ∧ W.cell? ⟨wr.heap.size, 1, none⟩ = some (.string (SL r.nm)) ∧ W.cell? ⟨wr.heap.size, 3, none⟩ = some (.int .i64 r.n) from
              ⟨(hb.cell (p := ⟨q, 2, none⟩) hqw).trans q2, (hb.cell (p := ⟨wr.heap.size, 1, none⟩) hxw).trans o1, (hb.cell (p := ⟨wr.heap.size, 3, none⟩) hxw).trans o3⟩))
            have B := Lib.hid ((Below.refl wc.heap.size wc).drew)
            have h12 : n1 = n2 ∨ (¬ r.n ≤ 1099511627776 ∧ ¬ n1 = n2) := by
              by_cases ha : r.n ≤ 1099511627776
              · refine .inl ?_
                rw [hn1, hn2]
                have : mm = r.n := by omega
                rw [this]
              · by_cases hb : n1 = n2
                · exact .inl hb
                · exact .inr ⟨ha, hb⟩
            have H5T := Lib.hid H5.out.two
            have hk1 : k + 1 ≤ 60 := by omega
            have hkN : k + 1 ≤ N := by omega
            have hd1 : R.2.done ≤ (k + 1) * 1048600 := by omega
            have hc1 : R.2.cap ≤ 1048575 := by omega
            have HREL := Lib.hid (And.intro hk1 (And.intro hkN (And.intro hgR (And.intro hd1 hc1))))
            clear hP hob hbx hnd hnr hdp hLF hnn hn1 hn2 q2 hqw hxw H5 HX HO3 HBV E2 k0 k1 k2 k3 o0 o1 o2 o3 hgR hdR hcR hdS hD hG hCp c0 c1 c2 c3 hand HW hk1 hkN hd1 hc1 hC hL HCE
            rcases h12 with heq | ⟨hle, hne⟩
            case' inl =>
              have hB : (n1 == n2) = true := by rw [heq]; exact beq_self_eq_true _
              have hA : (n1 != n2) = false := by unfold bne; rw [hB]; rfl
              have hC : decide (n1 = n2) = true := decide_eq_true heq
              have hE : (!(n1 == n2)) = false := by rw [hB]; rfl
              clear heq
              refine wp_region_noPanic ?_
              refine wp_region_held_drew (S := (fun W => W.cell? ⟨q, 2, none⟩ = some (.int .i64 (nd : Int)) ∧ W.cell? ⟨wr.heap.size, 1, none⟩ = some (.string (SL r.nm)) ∧ W.cell? ⟨wr.heap.size, 3, none⟩ = some (.int .i64 r.n))) (by kernel_rfl) (KEEP.out _ B.out) (fun hHeld => ?_)
              refine wpAnyH_take (i := 0) (oi := { dst := some 104, op := Op.move (Operand.tmp 12), type := 32, pos := "law.go:80", after := #[], guard := none }) (v := ?v1) rfl (by kernel_rfl) (by kernel_rfl) (by kernel_rfl) (fun _ _ _ h => h) (Or.inl ⟨by rfl, ?hy1⟩) (by assumption) ?_
              case hy1 => (intro w hSw; (try dsimp only at hSw); go_simp; try with_reducible rfl)
              try simp only [Act.put, List.setIfInBounds_toArray, List.set_cons_zero, List.set_cons_succ]
              refine wpAnyH_take (i := 1) (oi := { dst := some 105, op := Op.move (Operand.tmp 13), type := 32, pos := "law.go:80", after := #[], guard := none }) (v := ?v2) rfl (by kernel_rfl) (by kernel_rfl) (by kernel_rfl) (fun _ _ _ h => h) (Or.inl ⟨by rfl, ?hy2⟩) (by assumption) ?_
              case hy2 => (intro w hSw; (try dsimp only at hSw); go_simp; try with_reducible rfl)
              try simp only [Act.put, List.setIfInBounds_toArray, List.set_cons_zero, List.set_cons_succ]
              refine wpAnyH_take (i := 2) (oi := { dst := some 106, op := Op.binOp BinOp.neq 32 (Operand.tmp 104) (Operand.tmp 105) 32, type := 4, pos := "law.go:80", after := #[{ on := 0, ground := Ground.data }, { on := 1, ground := Ground.data }], guard := none }) (v := ?v3) rfl (by kernel_rfl) (by kernel_rfl) (by kernel_rfl) (fun _ _ _ h => h) (Or.inl ⟨by rfl, ?hy3⟩) (by assumption) ?_
              case hy3 => (intro w hSw; (try dsimp only at hSw); go_simp; try with_reducible rfl)
              try simp only [Act.put, List.setIfInBounds_toArray, List.set_cons_zero, List.set_cons_succ]
              refine wpAnyH_take (i := 3) (oi := { dst := some 107, op := Op.move (Operand.tmp 106), type := 4, pos := "law.go:80", after := #[{ on := 2, ground := Ground.data }], guard := none }) (v := ?v4) rfl (by kernel_rfl) (by kernel_rfl) (by kernel_rfl) (fun _ _ _ h => h) (Or.inl ⟨by rfl, ?hy4⟩) (by assumption) ?_
              case hy4 => (intro w hSw; (try dsimp only at hSw); go_simp; try with_reducible rfl)
              try simp only [Act.put, List.setIfInBounds_toArray, List.set_cons_zero, List.set_cons_succ]
              refine wpAnyH_take (i := 4) (oi := { dst := some 108, op := Op.move (Operand.tmp 8), type := 25, pos := "law.go:80", after := #[{ on := 3, ground := Ground.guard }], guard := some (3, false) }) (v := ?v5) rfl (by kernel_rfl) (by kernel_rfl) (by kernel_rfl) (fun _ _ _ h => h) (Or.inl ⟨by rfl, ?hy5⟩) (by assumption) ?_
              case hy5 => (intro w hSw; (try dsimp only at hSw); go_simp; try with_reducible rfl)
              try simp only [Act.put, List.setIfInBounds_toArray, List.set_cons_zero, List.set_cons_succ]
              refine wpAnyH_take (i := 6) (oi := { dst := some 110, op := Op.move (Operand.tmp 9), type := 26, pos := "law.go:80", after := #[{ on := 3, ground := Ground.guard }], guard := some (3, false) }) (v := ?v6) rfl (by kernel_rfl) (by kernel_rfl) (by kernel_rfl) (fun _ _ _ h => h) (Or.inl ⟨by rfl, ?hy6⟩) (by assumption) ?_
              case hy6 => (intro w hSw; (try dsimp only at hSw); go_simp; try with_reducible rfl)
              try simp only [Act.put, List.setIfInBounds_toArray, List.set_cons_zero, List.set_cons_succ]
              refine wpAnyH_take (i := 7) (oi := { dst := some 111, op := Op.nilCheck (Operand.tmp 110), type := 0, pos := "law.go:80", after := #[{ on := 6, ground := Ground.data }, { on := 3, ground := Ground.guard }], guard := some (3, false) }) (v := ?v7) rfl (by kernel_rfl) (by kernel_rfl) (by kernel_rfl) (fun _ _ _ h => h) (Or.inl ⟨by rfl, ?hy7⟩) (by assumption) ?_
              case hy7 => (intro w hSw; (try dsimp only at hSw); go_simp; try with_reducible rfl)
              try simp only [Act.put, List.setIfInBounds_toArray, List.set_cons_zero, List.set_cons_succ]
              refine wpAnyH_take (i := 8) (oi := { dst := some 112, op := Op.fieldAddr 42 (Operand.tmp 111) 2, type := 0, pos := "law.go:80", after := #[{ on := 7, ground := Ground.data }, { on := 3, ground := Ground.guard }], guard := some (3, false) }) (v := ?v8) rfl (by kernel_rfl) (by kernel_rfl) (by kernel_rfl) (fun _ _ _ h => h) (Or.inl ⟨by rfl, ?hy8⟩) (by assumption) ?_
              case hy8 => (intro w hSw; (try dsimp only at hSw); go_simp; try with_reducible rfl)
              try simp only [Act.put, List.setIfInBounds_toArray, List.set_cons_zero, List.set_cons_succ]
              refine wpAnyH_take (i := 9) (oi := { dst := some 113, op := Op.load 3 (Operand.tmp 112), type := 3, pos := "law.go:80", after := #[{ on := 8, ground := Ground.data }, { on := 3, ground := Ground.guard }], guard := some (3, false) }) (v := ?v9) rfl (by kernel_rfl) (by kernel_rfl) (by kernel_rfl) (fun _ _ _ h => h) (Or.inl ⟨by rfl, ?hy9⟩) (by assumption) ?_
              case hy9 => (intro w hSw; (try dsimp only at hSw); go_simp; try with_reducible rfl)
              try simp only [Act.put, List.setIfInBounds_toArray, List.set_cons_zero, List.set_cons_succ]
              refine wpAnyH_ready (rs := [5]) (by kernel_rfl) (by simp) ?_
              refine AllReadyH.cons (o := { dst := some 109, op := Op.call { callee := Callee.value (Operand.func 23), args := #[Operand.tmp 108], argTypes := #[25] }, type := 3, pos := "law.go:80", after := #[{ on := 4, ground := Ground.data }, { on := 3, ground := Ground.chain }, { on := 3, ground := Ground.guard }], guard := some (3, false) }) rfl (fun K hK => ?_) AllReadyH.nil
              go_simp
              (go_at_call 23; refine (H23.out _ B.out).mono ?_; rintro e _ ⟨rfl, rfl⟩)
              first | (refine hK.out _ _ (KEEP.out _ B.out) (fun hHeld => ?_)) | (go_wp2_with fail; refine hK.out _ _ (KEEP.out _ B.out) (fun hHeld => ?_))
              clear hK K
              try simp only [Act.put, List.setIfInBounds_toArray, List.set_cons_zero, List.set_cons_succ]
              refine wpAnyH_take (i := 10) (oi := { dst := some 114, op := Op.binOp BinOp.neq 3 (Operand.tmp 109) (Operand.tmp 113) 3, type := 4, pos := "law.go:80", after := #[{ on := 5, ground := Ground.data }, { on := 9, ground := Ground.data }, { on := 3, ground := Ground.guard }], guard := some (3, false) }) (v := ?v10) rfl (by kernel_rfl) (by kernel_rfl) (by kernel_rfl) (fun _ _ _ h => h) (Or.inl ⟨by rfl, ?hy10⟩) (by assumption) ?_
              case hy10 => (intro w hSw; (try dsimp only at hSw); go_simp; try with_reducible rfl)
              try simp only [Act.put, List.setIfInBounds_toArray, List.set_cons_zero, List.set_cons_succ]
              refine wpAnyH_take (i := 11) (oi := { dst := some 115, op := Op.pick (Operand.tmp 107) (Operand.const (Value.bool true)) (Operand.tmp 114), type := 4, pos := "law.go:80", after := #[{ on := 3, ground := Ground.data }, { on := 10, ground := Ground.data }], guard := none }) (v := ?v11) rfl (by kernel_rfl) (by kernel_rfl) (by kernel_rfl) (fun _ _ _ h => h) (Or.inl ⟨by rfl, ?hy11⟩) (by assumption) ?_
              case hy11 => (intro w hSw; (try dsimp only at hSw); go_simp; try with_reducible rfl)
              try simp only [Act.put, List.setIfInBounds_toArray, List.set_cons_zero, List.set_cons_succ]
              refine wpAnyH_take (i := 12) (oi := { dst := some 116, op := Op.move (Operand.tmp 115), type := 4, pos := "law.go:80", after := #[{ on := 11, ground := Ground.data }, { on := 5, ground := Ground.chain }], guard := none }) (v := ?v12) rfl (by kernel_rfl) (by kernel_rfl) (by kernel_rfl) (fun _ _ _ h => h) (Or.inl ⟨by rfl, ?hy12⟩) (by assumption) ?_
              case hy12 => (intro w hSw; (try dsimp only at hSw); go_simp; try with_reducible rfl)
              try simp only [Act.put, List.setIfInBounds_toArray, List.set_cons_zero, List.set_cons_succ]
              refine wpAnyH_take (i := 13) (oi := { dst := some 117, op := Op.move (Operand.tmp 8), type := 25, pos := "law.go:80", after := #[{ on := 12, ground := Ground.guard }], guard := some (12, false) }) (v := ?v13) rfl (by kernel_rfl) (by kernel_rfl) (by kernel_rfl) (fun _ _ _ h => h) (Or.inl ⟨by rfl, ?hy13⟩) (by assumption) ?_
              case hy13 => (intro w hSw; (try dsimp only at hSw); go_simp; try with_reducible rfl)
              try simp only [Act.put, List.setIfInBounds_toArray, List.set_cons_zero, List.set_cons_succ]
              refine wpAnyH_take (i := 16) (oi := { dst := some 120, op := Op.move (Operand.tmp 9), type := 26, pos := "law.go:80", after := #[{ on := 12, ground := Ground.guard }], guard := some (12, false) }) (v := ?v14) rfl (by kernel_rfl) (by kernel_rfl) (by kernel_rfl) (fun _ _ _ h => h) (Or.inl ⟨by rfl, ?hy14⟩) (by assumption) ?_
              case hy14 => (intro w hSw; (try dsimp only at hSw); go_simp; try with_reducible rfl)
              try simp only [Act.put, List.setIfInBounds_toArray, List.set_cons_zero, List.set_cons_succ]
              refine wpAnyH_ready (rs := [14]) (by kernel_rfl) (by simp) ?_
              refine AllReadyH.cons (o := { dst := some 118, op := Op.call { callee := Callee.value (Operand.func 26), args := #[Operand.tmp 117], argTypes := #[25] }, type := 45, pos := "law.go:80", after := #[{ on := 13, ground := Ground.data }, { on := 12, ground := Ground.chain }, { on := 12, ground := Ground.guard }], guard := some (12, false) }) rfl (fun K hK => ?_) AllReadyH.nil
              go_simp
              (go_at_call 26; refine (H26.out _ B.out).mono ?_; rintro e wd ⟨vd, rfl, gd, bd⟩; have B := Lib.hid (B.out.trans (bd.mono B.out.size)); have V := Lib.hid gd; clear gd bd)
              first | (refine hK.out _ _ (KEEP.out _ B.out) (fun hHeld => ?_)) | (go_wp2_with fail; refine hK.out _ _ (KEEP.out _ B.out) (fun hHeld => ?_))
              clear hK K
              try simp only [Act.put, List.setIfInBounds_toArray, List.set_cons_zero, List.set_cons_succ]
              refine wpAnyH_ready (rs := [15]) (by kernel_rfl) (by simp) ?_
              refine AllReadyH.cons (o := { dst := some 119, op := Op.call { callee := Callee.value (Operand.func 25), args := #[Operand.tmp 118], argTypes := #[45] }, type := 22, pos := "law.go:80", after := #[{ on := 14, ground := Ground.data }, { on := 14, ground := Ground.chain }, { on := 12, ground := Ground.guard }], guard := some (12, false) }) rfl (fun K hK => ?_) AllReadyH.nil
              go_simp
              (go_at_call 25; refine (H25.out _ vd V.out).mono ?_; rintro e wt ⟨vt, rfl, gt, bt⟩; have B := Lib.hid (B.out.trans (bt.mono B.out.size)); have T := Lib.hid gt; clear gt bt)
              first | (refine hK.out _ _ (KEEP.out _ B.out) (fun hHeld => ?_)) | (go_wp2_with fail; refine hK.out _ _ (KEEP.out _ B.out) (fun hHeld => ?_))
              clear hK K
              try simp only [Act.put, List.setIfInBounds_toArray, List.set_cons_zero, List.set_cons_succ]
              refine wpAnyH_ready (rs := [17]) (by kernel_rfl) (by simp) ?_
              refine AllReadyH.cons (o := { dst := some 121, op := Op.call { callee := Callee.value (Operand.func 27), args := #[Operand.tmp 120], argTypes := #[26] }, type := 22, pos := "law.go:80", after := #[{ on := 16, ground := Ground.data }, { on := 15, ground := Ground.chain }, { on := 12, ground := Ground.guard }], guard := some (12, false) }) rfl (fun K hK => ?_) AllReadyH.nil
              go_simp
              (go_at_call 27; refine (H27.out _ B.out).mono ?_; rintro e wq ⟨vr, rfl, gr, br⟩; have B := Lib.hid (B.out.trans (br.mono B.out.size)); have U := Lib.hid gr; have T := Lib.hid (T.out.onward br); clear gr br)
              first | (refine hK.out _ _ (KEEP.out _ B.out) (fun hHeld => ?_)) | (go_wp2_with fail; refine hK.out _ _ (KEEP.out _ B.out) (fun hHeld => ?_))
              clear hK K
              try simp only [Act.put, List.setIfInBounds_toArray, List.set_cons_zero, List.set_cons_succ]
              refine wpAnyH_ready (rs := [18]) (by kernel_rfl) (by simp) ?_
              refine AllReadyH.cons (o := { dst := some 122, op := Op.call { callee := Callee.value (Operand.func 24), args := #[Operand.tmp 119, Operand.tmp 121], argTypes := #[22, 22] }, type := 4, pos := "law.go:80", after := #[{ on := 15, ground := Ground.data }, { on := 17, ground := Ground.data }, { on := 17, ground := Ground.chain }, { on := 12, ground := Ground.guard }], guard := some (12, false) }) rfl (fun K hK => ?_) AllReadyH.nil
              go_simp
              (go_at_call 24; refine (H24.out _ vt vr T.out U.out).mono ?_; rintro e ws ⟨rfl, bs⟩; have B := Lib.hid (B.out.trans (bs.mono B.out.size)); clear bs)
              first | (refine hK.out _ _ (KEEP.out _ B.out) (fun hHeld => ?_)) | (go_wp2_with fail; refine hK.out _ _ (KEEP.out _ B.out) (fun hHeld => ?_))
              clear hK K
              try simp only [Act.put, List.setIfInBounds_toArray, List.set_cons_zero, List.set_cons_succ]
              refine wpAnyH_take (i := 19) (oi := { dst := some 123, op := Op.unOp UnOp.not 4 (Operand.tmp 122), type := 4, pos := "law.go:80", after := #[{ on := 18, ground := Ground.data }, { on := 12, ground := Ground.guard }], guard := some (12, false) }) (v := ?v15) rfl (by kernel_rfl) (by kernel_rfl) (by kernel_rfl) (fun _ _ _ h => h) (Or.inl ⟨by rfl, ?hy15⟩) (by assumption) ?_
              case hy15 => (intro w hSw; (try dsimp only at hSw); go_simp; try with_reducible rfl)
              try simp only [Act.put, List.setIfInBounds_toArray, List.set_cons_zero, List.set_cons_succ]
              refine wpAnyH_take (i := 20) (oi := { dst := some 124, op := Op.pick (Operand.tmp 116) (Operand.const (Value.bool true)) (Operand.tmp 123), type := 4, pos := "law.go:80", after := #[{ on := 12, ground := Ground.data }, { on := 19, ground := Ground.data }], guard := none }) (v := ?v16) rfl (by kernel_rfl) (by kernel_rfl) (by kernel_rfl) (fun _ _ _ h => h) (Or.inl ⟨by rfl, ?hy16⟩) (by assumption) ?_
              case hy16 => (intro w hSw; (try dsimp only at hSw); go_simp; try with_reducible rfl)
              try simp only [Act.put, List.setIfInBounds_toArray, List.set_cons_zero, List.set_cons_succ]
              refine wpAnyH_take (i := 21) (oi := { dst := some 125, op := Op.move (Operand.tmp 124), type := 4, pos := "law.go:80", after := #[{ on := 20, ground := Ground.data }, { on := 18, ground := Ground.chain }], guard := none }) (v := ?v17) rfl (by kernel_rfl) (by kernel_rfl) (by kernel_rfl) (fun _ _ _ h => h) (Or.inl ⟨by rfl, ?hy17⟩) (by assumption) ?_
              case hy17 => (intro w hSw; (try dsimp only at hSw); go_simp; try with_reducible rfl)
              try simp only [Act.put, List.setIfInBounds_toArray, List.set_cons_zero, List.set_cons_succ]
              refine wpAnyH_take (i := 22) (oi := { dst := some 126, op := Op.fieldAddr 31 (Operand.tmp 11) 1, type := 0, pos := "law.go:80", after := #[{ on := 21, ground := Ground.guard }], guard := some (21, false) }) (v := ?v18) rfl (by kernel_rfl) (by kernel_rfl) (by kernel_rfl) (fun _ _ _ h => h) (Or.inl ⟨by rfl, ?hy18⟩) (by assumption) ?_
              case hy18 => (intro w hSw; (try dsimp only at hSw); go_simp; try with_reducible rfl)
              try simp only [Act.put, List.setIfInBounds_toArray, List.set_cons_zero, List.set_cons_succ]
              refine wpAnyH_take (i := 23) (oi := { dst := some 127, op := Op.load 9 (Operand.tmp 126), type := 9, pos := "law.go:80", after := #[{ on := 22, ground := Ground.data }, { on := 21, ground := Ground.guard }], guard := some (21, false) }) (v := ?v19) rfl (by kernel_rfl) (by kernel_rfl) (by kernel_rfl) (fun _ _ _ h => h) (Or.inl ⟨by rfl, ?hy19⟩) (by assumption) ?_
              case hy19 => (intro w hSw; (try dsimp only at hSw); go_simp; try with_reducible rfl)
              try simp only [Act.put, List.setIfInBounds_toArray, List.set_cons_zero, List.set_cons_succ]
              refine wpAnyH_take (i := 24) (oi := { dst := some 128, op := Op.fieldAddr 31 (Operand.tmp 11) 3, type := 0, pos := "law.go:80", after := #[{ on := 21, ground := Ground.guard }], guard := some (21, false) }) (v := ?v20) rfl (by kernel_rfl) (by kernel_rfl) (by kernel_rfl) (fun _ _ _ h => h) (Or.inl ⟨by rfl, ?hy20⟩) (by assumption) ?_
              case hy20 => (intro w hSw; (try dsimp only at hSw); go_simp; try with_reducible rfl)
              try simp only [Act.put, List.setIfInBounds_toArray, List.set_cons_zero, List.set_cons_succ]
              refine wpAnyH_take (i := 25) (oi := { dst := some 129, op := Op.load 3 (Operand.tmp 128), type := 3, pos := "law.go:80", after := #[{ on := 24, ground := Ground.data }, { on := 21, ground := Ground.guard }], guard := some (21, false) }) (v := ?v21) rfl (by kernel_rfl) (by kernel_rfl) (by kernel_rfl) (fun _ _ _ h => h) (Or.inl ⟨by rfl, ?hy21⟩) (by assumption) ?_
              case hy21 => (intro w hSw; (try dsimp only at hSw); go_simp; try with_reducible rfl)
              try simp only [Act.put, List.setIfInBounds_toArray, List.set_cons_zero, List.set_cons_succ]
              refine wpAnyH_take (i := 27) (oi := { dst := some 131, op := Op.fieldAddr 31 (Operand.tmp 11) 1, type := 0, pos := "law.go:80", after := #[{ on := 21, ground := Ground.guard }], guard := some (21, false) }) (v := ?v22) rfl (by kernel_rfl) (by kernel_rfl) (by kernel_rfl) (fun _ _ _ h => h) (Or.inl ⟨by rfl, ?hy22⟩) (by assumption) ?_
              case hy22 => (intro w hSw; (try dsimp only at hSw); go_simp; try with_reducible rfl)
              try simp only [Act.put, List.setIfInBounds_toArray, List.set_cons_zero, List.set_cons_succ]
              refine wpAnyH_take (i := 28) (oi := { dst := some 132, op := Op.load 9 (Operand.tmp 131), type := 9, pos := "law.go:80", after := #[{ on := 27, ground := Ground.data }, { on := 21, ground := Ground.guard }], guard := some (21, false) }) (v := ?v23) rfl (by kernel_rfl) (by kernel_rfl) (by kernel_rfl) (fun _ _ _ h => h) (Or.inl ⟨by rfl, ?hy23⟩) (by assumption) ?_
              case hy23 => (intro w hSw; (try dsimp only at hSw); go_simp; try with_reducible rfl)
              try simp only [Act.put, List.setIfInBounds_toArray, List.set_cons_zero, List.set_cons_succ]
              refine wpAnyH_take (i := 29) (oi := { dst := some 133, op := Op.fieldAddr 31 (Operand.tmp 11) 3, type := 0, pos := "law.go:80", after := #[{ on := 21, ground := Ground.guard }], guard := some (21, false) }) (v := ?v24) rfl (by kernel_rfl) (by kernel_rfl) (by kernel_rfl) (fun _ _ _ h => h) (Or.inl ⟨by rfl, ?hy24⟩) (by assumption) ?_
              case hy24 => (intro w hSw; (try dsimp only at hSw); go_simp; try with_reducible rfl)
              try simp only [Act.put, List.setIfInBounds_toArray, List.set_cons_zero, List.set_cons_succ]
              refine wpAnyH_take (i := 30) (oi := { dst := some 134, op := Op.load 3 (Operand.tmp 133), type := 3, pos := "law.go:80", after := #[{ on := 29, ground := Ground.data }, { on := 21, ground := Ground.guard }], guard := some (21, false) }) (v := ?v25) rfl (by kernel_rfl) (by kernel_rfl) (by kernel_rfl) (fun _ _ _ h => h) (Or.inl ⟨by rfl, ?hy25⟩) (by assumption) ?_
              case hy25 => (intro w hSw; (try dsimp only at hSw); go_simp; try with_reducible rfl)
              try simp only [Act.put, List.setIfInBounds_toArray, List.set_cons_zero, List.set_cons_succ]
              refine wpAnyH_ready (rs := [26, 31]) (by kernel_rfl) (by simp) ?_
              refine AllReadyH.cons (o := { dst := some 130, op := Op.call { callee := Callee.value (Operand.func 28), args := #[Operand.tmp 127, Operand.tmp 129], argTypes := #[9, 3] }, type := 3, pos := "law.go:80", after := #[{ on := 23, ground := Ground.data }, { on := 25, ground := Ground.data }, { on := 21, ground := Ground.chain }, { on := 21, ground := Ground.guard }], guard := some (21, false) }) rfl (fun K hK => ?_) (AllReadyH.cons (o := { dst := some 135, op := Op.call { callee := Callee.builtin Builtin.min, args := #[Operand.tmp 134, Operand.const (Value.int IntKind.i64 1099511627776)], argTypes := #[3, 3] }, type := 3, pos := "law.go:80", after := #[{ on := 30, ground := Ground.data }, { on := 21, ground := Ground.guard }], guard := some (21, false) }) rfl (fun K hK => ?_) AllReadyH.nil)
              case' refine_1 =>
                go_simp
                (go_at_call 28; refine (H28.out _).mono ?_; rintro e _ ⟨rfl, rfl⟩)
                first | (refine hK.out _ _ (KEEP.out _ B.out) (fun hHeld => ?_)) | (go_wp2_with fail; refine hK.out _ _ (KEEP.out _ B.out) (fun hHeld => ?_))
                clear hK K
                try simp only [Act.put, List.setIfInBounds_toArray, List.set_cons_zero, List.set_cons_succ]
                refine wpAnyH_ready (rs := [31]) (by kernel_rfl) (by simp) ?_
                refine AllReadyH.cons (o := { dst := some 135, op := Op.call { callee := Callee.builtin Builtin.min, args := #[Operand.tmp 134, Operand.const (Value.int IntKind.i64 1099511627776)], argTypes := #[3, 3] }, type := 3, pos := "law.go:80", after := #[{ on := 30, ground := Ground.data }, { on := 21, ground := Ground.guard }], guard := some (21, false) }) rfl (fun K hK => ?_) AllReadyH.nil
                go_simp
                first | (refine hK.out _ _ (KEEP.out _ B.out) (fun hHeld => ?_)) | (go_wp2_with fail; refine hK.out _ _ (KEEP.out _ B.out) (fun hHeld => ?_))
                clear hK K
                try simp only [Act.put, List.setIfInBounds_toArray, List.set_cons_zero, List.set_cons_succ]
                refine wpAnyH_ready (rs := [32]) (by kernel_rfl) (by simp) ?_
                refine AllReadyH.cons (o := { dst := some 136, op := Op.call { callee := Callee.value (Operand.func 29), args := #[Operand.tmp 132, Operand.tmp 135], argTypes := #[9, 3] }, type := 3, pos := "law.go:80", after := #[{ on := 28, ground := Ground.data }, { on := 31, ground := Ground.data }, { on := 26, ground := Ground.chain }, { on := 21, ground := Ground.guard }], guard := some (21, false) }) rfl (fun K hK => ?_) AllReadyH.nil
                go_simp
                (go_at_call 29; refine (H29.out _).mono ?_; rintro e _ ⟨rfl, rfl⟩)
                first | (refine hK.out _ _ (KEEP.out _ B.out) (fun hHeld => ?_)) | (go_wp2_with fail; refine hK.out _ _ (KEEP.out _ B.out) (fun hHeld => ?_))
                clear hK K
                try simp only [Act.put, List.setIfInBounds_toArray, List.set_cons_zero, List.set_cons_succ]
                refine wpAnyH_take (i := 33) (oi := { dst := some 137, op := Op.binOp BinOp.neq 3 (Operand.tmp 130) (Operand.tmp 136) 3, type := 4, pos := "law.go:80", after := #[{ on := 26, ground := Ground.data }, { on := 32, ground := Ground.data }, { on := 21, ground := Ground.guard }], guard := some (21, false) }) (v := ?v26) rfl (by kernel_rfl) (by kernel_rfl) (by kernel_rfl) (fun _ _ _ h => h) (Or.inl ⟨by rfl, ?hy26⟩) (by assumption) ?_
                case hy26 => (intro w hSw; (try dsimp only at hSw); go_simp; try with_reducible rfl)
                try simp only [Act.put, List.setIfInBounds_toArray, List.set_cons_zero, List.set_cons_succ]
                refine wpAnyH_take (i := 34) (oi := { dst := some 138, op := Op.move (Operand.tmp 137), type := 4, pos := "law.go:80", after := #[{ on := 33, ground := Ground.data }, { on := 32, ground := Ground.chain }, { on := 21, ground := Ground.guard }], guard := some (21, false) }) (v := ?v27) rfl (by kernel_rfl) (by kernel_rfl) (by kernel_rfl) (fun _ _ _ h => h) (Or.inl ⟨by rfl, ?hy27⟩) (by assumption) ?_
                case hy27 => (intro w hSw; (try dsimp only at hSw); go_simp; try with_reducible rfl)
                try simp only [Act.put, List.setIfInBounds_toArray, List.set_cons_zero, List.set_cons_succ]
                refine wpAnyH_take (i := 35) (oi := { dst := some 139, op := Op.fieldAddr 31 (Operand.tmp 11) 3, type := 0, pos := "law.go:80", after := #[{ on := 34, ground := Ground.guard }], guard := some (34, true) }) (v := undef) rfl (by kernel_rfl) (by kernel_rfl) (by kernel_rfl) (fun _ _ _ h => h) (Or.inr ⟨by rfl, rfl⟩) (by assumption) ?_
                try simp only [Act.put, List.setIfInBounds_toArray, List.set_cons_zero, List.set_cons_succ]
                refine wpAnyH_take (i := 36) (oi := { dst := some 140, op := Op.load 3 (Operand.tmp 139), type := 3, pos := "law.go:80", after := #[{ on := 35, ground := Ground.data }, { on := 34, ground := Ground.guard }], guard := some (34, true) }) (v := undef) rfl (by kernel_rfl) (by kernel_rfl) (by kernel_rfl) (fun _ _ _ h => h) (Or.inr ⟨by rfl, rfl⟩) (by assumption) ?_
                try simp only [Act.put, List.setIfInBounds_toArray, List.set_cons_zero, List.set_cons_succ]
                refine wpAnyH_take (i := 37) (oi := { dst := some 141, op := Op.binOp BinOp.leq 3 (Operand.tmp 140) (Operand.const (Value.int IntKind.i64 1099511627776)) 3, type := 4, pos := "law.go:80", after := #[{ on := 36, ground := Ground.data }, { on := 34, ground := Ground.guard }], guard := some (34, true) }) (v := undef) rfl (by kernel_rfl) (by kernel_rfl) (by kernel_rfl) (fun _ _ _ h => h) (Or.inr ⟨by rfl, rfl⟩) (by assumption) ?_
                try simp only [Act.put, List.setIfInBounds_toArray, List.set_cons_zero, List.set_cons_succ]
                refine wpAnyH_take (i := 38) (oi := { dst := some 142, op := Op.pick (Operand.tmp 138) (Operand.tmp 141) (Operand.const (Value.bool false)), type := 4, pos := "law.go:80", after := #[{ on := 34, ground := Ground.data }, { on := 37, ground := Ground.data }, { on := 21, ground := Ground.guard }], guard := some (21, false) }) (v := ?v28) rfl (by kernel_rfl) (by kernel_rfl) (by kernel_rfl) (fun _ _ _ h => h) (Or.inl ⟨by rfl, ?hy28⟩) (by assumption) ?_
                case hy28 => (intro w hSw; (try dsimp only at hSw); go_simp; try with_reducible rfl)
                try simp only [Act.put, List.setIfInBounds_toArray, List.set_cons_zero, List.set_cons_succ]
                refine wpAnyH_take (i := 39) (oi := { dst := some 143, op := Op.pick (Operand.tmp 125) (Operand.const (Value.bool true)) (Operand.tmp 142), type := 4, pos := "law.go:80", after := #[{ on := 21, ground := Ground.data }, { on := 38, ground := Ground.data }], guard := none }) (v := ?v29) rfl (by kernel_rfl) (by kernel_rfl) (by kernel_rfl) (fun _ _ _ h => h) (Or.inl ⟨by rfl, ?hy29⟩) (by assumption) ?_
                case hy29 => (intro w hSw; (try dsimp only at hSw); go_simp; try with_reducible rfl)
                try simp only [Act.put, List.setIfInBounds_toArray, List.set_cons_zero, List.set_cons_succ]
                refine wpAnyH_done (by kernel_rfl) ?_ _
                refine NoPanic.normal ?_
              case' refine_2 =>
                go_simp
                first | (refine hK.out _ _ (KEEP.out _ B.out) (fun hHeld => ?_)) | (go_wp2_with fail; refine hK.out _ _ (KEEP.out _ B.out) (fun hHeld => ?_))
                clear hK K
                try simp only [Act.put, List.setIfInBounds_toArray, List.set_cons_zero, List.set_cons_succ]
                refine wpAnyH_ready (rs := [26]) (by kernel_rfl) (by simp) ?_
                refine AllReadyH.cons (o := { dst := some 130, op := Op.call { callee := Callee.value (Operand.func 28), args := #[Operand.tmp 127, Operand.tmp 129], argTypes := #[9, 3] }, type := 3, pos := "law.go:80", after := #[{ on := 23, ground := Ground.data }, { on := 25, ground := Ground.data }, { on := 21, ground := Ground.chain }, { on := 21, ground := Ground.guard }], guard := some (21, false) }) rfl (fun K hK => ?_) AllReadyH.nil
                go_simp
                (go_at_call 28; refine (H28.out _).mono ?_; rintro e _ ⟨rfl, rfl⟩)
                first | (refine hK.out _ _ (KEEP.out _ B.out) (fun hHeld => ?_)) | (go_wp2_with fail; refine hK.out _ _ (KEEP.out _ B.out) (fun hHeld => ?_))
                clear hK K
                try simp only [Act.put, List.setIfInBounds_toArray, List.set_cons_zero, List.set_cons_succ]
                refine wpAnyH_ready (rs := [32]) (by kernel_rfl) (by simp) ?_
                refine AllReadyH.cons (o := { dst := some 136, op := Op.call { callee := Callee.value (Operand.func 29), args := #[Operand.tmp 132, Operand.tmp 135], argTypes := #[9, 3] }, type := 3, pos := "law.go:80", after := #[{ on := 28, ground := Ground.data }, { on := 31, ground := Ground.data }, { on := 26, ground := Ground.chain }, { on := 21, ground := Ground.guard }], guard := some (21, false) }) rfl (fun K hK => ?_) AllReadyH.nil
                go_simp
                (go_at_call 29; refine (H29.out _).mono ?_; rintro e _ ⟨rfl, rfl⟩)
                first | (refine hK.out _ _ (KEEP.out _ B.out) (fun hHeld => ?_)) | (go_wp2_with fail; refine hK.out _ _ (KEEP.out _ B.out) (fun hHeld => ?_))
                clear hK K
                try simp only [Act.put, List.setIfInBounds_toArray, List.set_cons_zero, List.set_cons_succ]
                refine wpAnyH_take (i := 33) (oi := { dst := some 137, op := Op.binOp BinOp.neq 3 (Operand.tmp 130) (Operand.tmp 136) 3, type := 4, pos := "law.go:80", after := #[{ on := 26, ground := Ground.data }, { on := 32, ground := Ground.data }, { on := 21, ground := Ground.guard }], guard := some (21, false) }) (v := ?v30) rfl (by kernel_rfl) (by kernel_rfl) (by kernel_rfl) (fun _ _ _ h => h) (Or.inl ⟨by rfl, ?hy30⟩) (by assumption) ?_
                case hy30 => (intro w hSw; (try dsimp only at hSw); go_simp; try with_reducible rfl)
                try simp only [Act.put, List.setIfInBounds_toArray, List.set_cons_zero, List.set_cons_succ]
                refine wpAnyH_take (i := 34) (oi := { dst := some 138, op := Op.move (Operand.tmp 137), type := 4, pos := "law.go:80", after := #[{ on := 33, ground := Ground.data }, { on := 32, ground := Ground.chain }, { on := 21, ground := Ground.guard }], guard := some (21, false) }) (v := ?v31) rfl (by kernel_rfl) (by kernel_rfl) (by kernel_rfl) (fun _ _ _ h => h) (Or.inl ⟨by rfl, ?hy31⟩) (by assumption) ?_
                case hy31 => (intro w hSw; (try dsimp only at hSw); go_simp; try with_reducible rfl)
                try simp only [Act.put, List.setIfInBounds_toArray, List.set_cons_zero, List.set_cons_succ]
                refine wpAnyH_take (i := 35) (oi := { dst := some 139, op := Op.fieldAddr 31 (Operand.tmp 11) 3, type := 0, pos := "law.go:80", after := #[{ on := 34, ground := Ground.guard }], guard := some (34, true) }) (v := undef) rfl (by kernel_rfl) (by kernel_rfl) (by kernel_rfl) (fun _ _ _ h => h) (Or.inr ⟨by rfl, rfl⟩) (by assumption) ?_
                try simp only [Act.put, List.setIfInBounds_toArray, List.set_cons_zero, List.set_cons_succ]
                refine wpAnyH_take (i := 36) (oi := { dst := some 140, op := Op.load 3 (Operand.tmp 139), type := 3, pos := "law.go:80", after := #[{ on := 35, ground := Ground.data }, { on := 34, ground := Ground.guard }], guard := some (34, true) }) (v := undef) rfl (by kernel_rfl) (by kernel_rfl) (by kernel_rfl) (fun _ _ _ h => h) (Or.inr ⟨by rfl, rfl⟩) (by assumption) ?_
                try simp only [Act.put, List.setIfInBounds_toArray, List.set_cons_zero, List.set_cons_succ]
                refine wpAnyH_take (i := 37) (oi := { dst := some 141, op := Op.binOp BinOp.leq 3 (Operand.tmp 140) (Operand.const (Value.int IntKind.i64 1099511627776)) 3, type := 4, pos := "law.go:80", after := #[{ on := 36, ground := Ground.data }, { on := 34, ground := Ground.guard }], guard := some (34, true) }) (v := undef) rfl (by kernel_rfl) (by kernel_rfl) (by kernel_rfl) (fun _ _ _ h => h) (Or.inr ⟨by rfl, rfl⟩) (by assumption) ?_
                try simp only [Act.put, List.setIfInBounds_toArray, List.set_cons_zero, List.set_cons_succ]
                refine wpAnyH_take (i := 38) (oi := { dst := some 142, op := Op.pick (Operand.tmp 138) (Operand.tmp 141) (Operand.const (Value.bool false)), type := 4, pos := "law.go:80", after := #[{ on := 34, ground := Ground.data }, { on := 37, ground := Ground.data }, { on := 21, ground := Ground.guard }], guard := some (21, false) }) (v := ?v32) rfl (by kernel_rfl) (by kernel_rfl) (by kernel_rfl) (fun _ _ _ h => h) (Or.inl ⟨by rfl, ?hy32⟩) (by assumption) ?_
                case hy32 => (intro w hSw; (try dsimp only at hSw); go_simp; try with_reducible rfl)
                try simp only [Act.put, List.setIfInBounds_toArray, List.set_cons_zero, List.set_cons_succ]
                refine wpAnyH_take (i := 39) (oi := { dst := some 143, op := Op.pick (Operand.tmp 125) (Operand.const (Value.bool true)) (Operand.tmp 142), type := 4, pos := "law.go:80", after := #[{ on := 21, ground := Ground.data }, { on := 38, ground := Ground.data }], guard := none }) (v := ?v33) rfl (by kernel_rfl) (by kernel_rfl) (by kernel_rfl) (fun _ _ _ h => h) (Or.inl ⟨by rfl, ?hy33⟩) (by assumption) ?_
                case hy33 => (intro w hSw; (try dsimp only at hSw); go_simp; try with_reducible rfl)
                try simp only [Act.put, List.setIfInBounds_toArray, List.set_cons_zero, List.set_cons_succ]
                refine wpAnyH_done (by kernel_rfl) ?_ _
                refine NoPanic.normal ?_
            case' inr =>
              have hA : (n1 != n2) = true := by simpa using hne
              have hB : (n1 == n2) = false := by simpa using hne
              have hC : decide (n1 = n2) = false := decide_eq_false hne
              have hD : decide (r.n ≤ 1099511627776) = false := decide_eq_false hle
              have hE : (!(n1 == n2)) = true := by rw [hB]; rfl
              first
              | go_region_held3 (fun W => W.cell? ⟨q, 2, none⟩ = some (.int .i64 (nd : Int)) ∧ W.cell? ⟨wr.heap.size, 1, none⟩ = some (.string (SL r.nm)) ∧ W.cell? ⟨wr.heap.size, 3, none⟩ = some (.int .i64 r.n)) (first | exact KEEP.out _ B.out)
                ((first
                  | (go_at_call 23; refine (H23.out _ B.out).mono ?_; rintro e _ ⟨rfl, rfl⟩)
                  | (go_at_call 28; refine (H28.out _).mono ?_; rintro e _ ⟨rfl, rfl⟩)
                  | (go_at_call 29; refine (H29.out _).mono ?_; rintro e _ ⟨rfl, rfl⟩)
                  | (go_at_call 26; refine (H26.out _ B.out).mono ?_; rintro e wd ⟨vd, rfl, gd, bd⟩; have B := Lib.hid (B.out.trans (bd.mono B.out.size)); have V := Lib.hid gd; clear gd bd)
                  | (go_at_call 25; refine (H25.out _ vd V.out).mono ?_; rintro e wt ⟨vt, rfl, gt, bt⟩; have B := Lib.hid (B.out.trans (bt.mono B.out.size)); have T := Lib.hid gt; clear gt bt)
                  | (go_at_call 27; refine (H27.out _ B.out).mono ?_; rintro e wq ⟨vr, rfl, gr, br⟩; have B := Lib.hid (B.out.trans (br.mono B.out.size)); have U := Lib.hid gr; have T := Lib.hid (T.out.onward br); clear gr br)
                  | (go_at_call 24; refine (H24.out _ vt vr T.out U.out).mono ?_; rintro e ws ⟨rfl, bs⟩; have B := Lib.hid (B.out.trans (bs.mono B.out.size)); clear bs)))
              | fail "held3"
            all_goals go_wp2
            all_goals go_roundw
            all_goals first | exact ⟨k + 1, R.2, by go_num, HREL.out.2.1, HREL.out.1, H5T.out.below B.out, HREL.out.2.2.1, HREL.out.2.2.2.1, HREL.out.2.2.2.2⟩ | (simp [intOf]; omega)
        · have i2 : ¬ ((k : Int) < 60) := by omega
          go_wp2_with (first | (go_at_call 21; refine (HSN.out _).mono ?_; rintro e w' ⟨rfl, rfl⟩) | (go_at_call 15; refine (HWN.out _).mono ?_; rintro e w' ⟨rfl, rfl⟩))
          go_ret
          exact ⟨rfl, HE.out⟩
      · obtain rfl : k = N := by omega
        have i1 : ¬ ((k : Int) < (k : Int)) := by omega
        go_wp2_with (first | (go_at_call 21; refine (HSN.out _).mono ?_; rintro e w' ⟨rfl, rfl⟩) | (go_at_call 15; refine (HWN.out _).mono ?_; rintro e w' ⟨rfl, rfl⟩))
        go_ret
        exact ⟨rfl, HE.out⟩
end Go.Proofs.Ythibhkoneajffaa
