/- SafeSweeps. -/
import Derived.Test.YthibhkoneajffaaSafeBoth
import Derived.Test.YthibhkoneajffaaSafeAwake
import Derived.Test.YthibhkoneajffaaSafeShadowed
import Derived.Test.YthibhkoneajffaaSafeTheirs
import Derived.Test.YthibhkoneajffaaDiskSameFiles
import Derived.Test.YthibhkoneajffaaDiskOpenFiles
namespace Go.Proofs.Ythibhkoneajffaa
open Go.RowKit
/-- All files but shadows. -/
def unmarked (L : Files) : Files := L.filter fun f => !marked f.1
theorem unmarked_keep {L : Files} {k : Nat} {f : Bs × Bs} (hf : L[k]? = some f) (h : marked f.1 = false) : unmarked (L.take (k + 1)) = unmarked (L.take k) ++ [f] := by
  unfold unmarked
  rw [List.take_add_one, hf, List.filter_append]
  simp [h]
theorem unmarked_drop {L : Files} {k : Nat} {f : Bs × Bs} (hf : L[k]? = some f) (h : marked f.1 = true) : unmarked (L.take (k + 1)) = unmarked (L.take k) := by
  unfold unmarked
  rw [List.take_add_one, hf, List.filter_append]
  simp [h]
theorem find_filter {q : Bs × Bs → Bool} {n : Bs} (hq : ∀ b b', q (n, b) = q (n, b')) : ∀ (L : Files), Rising L → findF n (L.filter q) = if q (n, (findF n L).getD []) = true then findF n L else none
  | [], _ => by show none = _; split <;> rfl
  | p :: r, hr => by
    have hr' : Rising r := (List.pairwise_cons.1 hr).2
    have hlt := (List.pairwise_cons.1 hr).1
    have ih := find_filter (n := n) hq r hr'
    by_cases e : p.1 = n
    · have hn : findF n r = none := findF_none.2 fun x hx h => by
        have := hlt x hx
        rw [e, h] at this
        exact bs_lt_irrefl _ this
      have hp : q p = q (n, p.2) := by rw [← e]
      simp only [findF, e, if_true, Option.getD_some]
      rw [List.filter_cons]
      by_cases h1 : q p = true
      · rw [if_pos h1, if_pos (by rw [← hp]; exact h1)]
        simp only [findF, e, if_true]
      · rw [if_neg h1, if_neg (by rw [← hp]; exact h1), ih, hn]
        simp
    · simp only [findF, e, if_false]
      rw [List.filter_cons]
      split
      · simp only [findF, e, if_false]; exact ih
      · exact ih
theorem Rising.filter {L : Files} (h : Rising L) (q : Bs × Bs → Bool) : Rising (L.filter q) := List.Pairwise.filter q h
theorem swept_fs {S : St} (hg : Good S) (hd : S.dark = false) (hl : S.left = -1) (hn : AllNamed S) : (sweepS S).1 = 0 ∧ (sweepS S).2.fs = unmarked S.fs := by
  obtain ⟨h1, _, _, h4⟩ := sweep_says hg hd hl hn
  refine ⟨h1, rising_ext (Good.sweep hg).rise (hg.rise.filter _) fun m => ?_⟩
  unfold unmarked
  rw [h4, find_filter (fun _ _ => rfl) _ hg.rise]
  cases marked m <;> simp
theorem named_pos {n : Bs} (h : named n = true) : 1 ≤ n.length := by
  unfold named at h
  simp only [Bool.and_eq_true, decide_eq_true_eq] at h
  exact h.1.1
/-- What a Dump asks. -/
theorem Good.dumps {S : St} (h : Good S) : S.fs.length ≤ 4000000000000 ∧ ∀ n b, findF n S.fs = some b → n.length ≤ 281474976710656 ∧ b.length ≤ 140737488355328 :=
  ⟨by have := h.many; omega, fun n b hb => by have := h.file_le hb; unfold costF at this; omega⟩
/-- Dump, and the files as the document's. -/
theorem One.files {w0 w : World} {Z : Nat → Prop} {p : Nat} {S : St} (h : One w0 Z w p S) (hg : Good S) : Calls Try.prog 26 #[ptr p] w fun e w' => ∃ v, e = .returned v ∧ FilesAt w' (fun k => w.heap.size ≤ k ∧ k < w'.heap.size) v S.fs ∧ Below w.heap.size w w' := by
  refine (h.dump hg.rise hg.dumps.1 hg.dumps.2).mono ?_
  rintro e w' ⟨v, he, hF, hb⟩
  exact ⟨v, he, hF, hb⟩
set_option maxRecDepth 100000 in
set_option maxHeartbeats 8000000 in
theorem sweeps_law (c : Int) (v0 : Value) (L : Files) (w : World) (h : FilesAt w (elder w) v0 L) (hL : L.length ≤ 4000000000000) (hb : ∀ n b, (n, b) ∈ L → n.length ≤ 9223372036854775807 ∧ b.length ≤ 140737488355328) (hs : costs L ≤ 4611686018427387904) :
    Calls Try.prog 6 #[.int .i64 c, v0] w fun e w' => e = .returned (.bool true) ∧ Below w.heap.size w w' := by
  have hA := awake_any w
  have hB := fun (W : World) (hW : Below w.heap.size w W) => both_any c v0 L W ((h.turn (Turn.of_below (fun _ => False) hW) (fun _ _ h => h)).mono (fun i _ hi => by have := hW.size; have : i < w.heap.size := hi; show i < W.heap.size; omega)) hL hb hs
  have HB := Lib.hid hB
  clear hB h hb hs
  go_enter Try.func6, Try.ntmps6
  go_wp2_with (first | (go_at_call 9; refine hA.mono ?_; rintro e w1 ⟨rfl, b1⟩; have B1 := Lib.hid b1; clear b1) | (go_at_call 10; fail))
  refine (HB.out w1 B1.out).mono ?_
  rintro e w2 (⟨rfl, b2⟩ | ⟨p, q, C, rfl, hT, hG, hC, hN, _⟩)
  · have B2 := Lib.hid (B1.out.trans (b2.mono B1.out.size))
    clear b2 HB
    go_wp2
    go_ret
    exact ⟨rfl, B2.out⟩
  · obtain ⟨Fd, Fr, hP⟩ := hT
    have hO : One w1 (elder w1) w2 p (loadS L C) := ⟨Fd, hP.d, fun k hk => ⟨Nat.not_lt.2 (hP.fd k hk).1, (hP.fd k hk).2⟩, ⟨hP.old.os, hP.old.tape, hP.old.output, hP.old.size, fun k _ hn => hP.old.block k (Classical.not_not.1 hn)⟩, fun _ h => h⟩
    obtain ⟨S, hS⟩ : ∃ S, S = loadS L C := ⟨_, rfl⟩
    have hdark : S.dark = false := by rw [hS]; rfl
    have hleft : S.left = -1 := by rw [hS]; rfl
    have hdone : S.done = 0 := by rw [hS]; rfl
    have hcap : S.cap ≤ 1048575 := by rw [hS]; exact hC
    rw [← hS] at hO hG hN
    obtain ⟨hsw1, hsw2⟩ := swept_fs hG hdark hleft hN
    have HO := Lib.hid hO
    have HP := Lib.hid (B1.out.trans ((hP.old).mono B1.out.size))
    have HSW1 := Lib.hid hsw1
    have HSW2 := Lib.hid hsw2
    clear hO hP hsw1 hsw2 hS HB hA
    go_wp2_with (go_at_call 26; fail)
    refine (HO.out.files hG).mono ?_
    rintro e w3 ⟨v3, rfl, h3, b3⟩
    have F3 := Lib.hid h3
    have B3 := Lib.hid b3
    clear h3 b3
    have hth := theirs_any _ v3 S.fs w3 F3.out (fun k hk => hk.2) hG.dumps.1
    have HTH := Lib.hid hth
    clear hth
    go_wp2_with (go_at_call 25; fail)
    refine HTH.out.mono ?_
    rintro e w4 ⟨v4, rfl, h4, b4⟩
    have h4' : FilesAt w4 (fun k => w2.heap.size ≤ k ∧ k < w4.heap.size) v4 S.fs := h4.mono (fun k _ hk => by have := B3.out.size; have := b4.size; omega)
    have hb24 : Below w2.heap.size w2 w4 := B3.out.trans (b4.mono B3.out.size)
    obtain ⟨ao, cap, P, g, off, rfl, hraw, hhas⟩ := h4'
    obtain ⟨N, hN'⟩ : ∃ N, N = S.fs.length := ⟨_, rfl⟩
    rw [← hN']
    have hmany := hG.many
    rw [← hN'] at hmany
    obtain ⟨B, hB⟩ : ∃ B, B = w4.heap.size := ⟨_, rfl⟩
    have hwB : w4.heap.size ≤ B := by omega
    have hBw : B ≤ w4.heap.size := by omega
    have h24s := hb24.size
    have HR := Lib.hid hraw
    have HH := Lib.hid hhas
    have HN := Lib.hid hN'
    have HB4 := Lib.hid hB
    have HB24 := Lib.hid hb24
    clear h4 b4 hraw hhas hN' hB hb24 HTH F3 B3
    go_wp2
    go_loopw [8, 10, 11] (fun x i _ W => ∃ (v : Value) (Q : List (Bs × Value)) (M : Files) (k : Nat), v = x ∧ i = .int .i64 (k : Int) ∧ k ≤ N ∧ M = unmarked (S.fs.take k) ∧ M.length ≤ k ∧ FilesOwn W 57 B (fun k => w2.heap.size ≤ k) v Q M ∧ Below B w4 W) (fun _ i _ _ => N - (intOf i).toNat)
    case atStart => exact ⟨.slice none 0 0, [], [], 0, rfl, rfl, Nat.zero_le _, rfl, Nat.le_refl _, FilesOwn.nil _ _ _ _, Below.refl _ _⟩
    case round =>
      obtain ⟨v, Q, M, k, rfl, rfl, hk, hM, hMk, hQ, hW⟩ := hrel
      by_cases hlt : k < N
      · have hk2 : k < S.fs.length := by rw [← HN.out]; exact hlt
        obtain ⟨⟨m, b⟩, hf⟩ : ∃ f, S.fs[k]? = some f := ⟨_, List.getElem?_eq_getElem hk2⟩
        obtain ⟨e1, c1, x, cc, c2, hby⟩ := files_get HR.out HH.out hf
        subst e1
        have hgl : g < w4.heap.size := World.block_lt_of_cell? w4 _ c1
        have d1 := (hW.cell (p := ⟨g, off + k * 2, none⟩) (by show g < B; omega)).trans c1
        have d2 := (hW.cell (p := ⟨g, off + k * 2 + 1, none⟩) (by show g < B; omega)).trans c2
        have i0 : (0 : Int) ≤ (k : Int) := by omega
        have i1 : (k : Int) < (N : Int) := by omega
        have hnm := hN m b (findF_of_mem hG.rise (List.mem_of_getElem? hf))
        have hpos := named_pos hnm
        have hml := (named_le hnm).1
        have hms : (SL m).size = m.length := SL_size m
        have hsz : m.length - 1 < (SL m).size := by omega
        have hmk := marked_last hsz hpos
        have g2 : wrap64 ((m.length : Int) - 1) = ((m.length - 1 : Nat) : Int) := by rw [IntWalk.wrap64_in _ ⟨by omega, by omega⟩]; omega
        have HQ := Lib.hid hQ
        clear hQ c1 c2 hnm
        cases hmm : marked m with
        | true =>
          have hM2 : M = unmarked (S.fs.take (k + 1)) := by rw [hM, unmarked_drop hf hmm]
          have HM := Lib.hid hM2
          rw [hmm] at hmk
          have hmk2 := hmk.symm
          have hmk3 : (((SL m)[m.length - 1]'hsz).toNat : Int) = 126 := by simpa using hmk2
          clear hM hM2 hf hby hmm hmk
          go_wp2
          all_goals go_roundw
          all_goals first | exact ⟨v, Q, M, k + 1, rfl, by go_num, by omega, HM.out, by omega, HQ.out, hW⟩ | (simp [intOf]; omega)
        | false =>
          have hM2 : M ++ [(m, b)] = unmarked (S.fs.take (k + 1)) := by rw [hM, unmarked_keep hf hmm]
          have HM := Lib.hid hM2
          rw [hmm] at hmk
          have hmk2 := hmk.symm
          have hmk3 : ¬ (((SL m)[m.length - 1]'hsz).toNat : Int) = 126 := by simpa using hmk2
          obtain ⟨x3, cc3, B3, off3, hxx, s3, hB3⟩ := hby
          cases hxx
          obtain ⟨y, hy⟩ : ∃ y, y = b.length := ⟨_, rfl⟩
          rw [← hy] at d2
          have hown := HQ.out.own
          have hz := hW.size
          have exb : ∀ j, v.ownBlock = some j → B ≤ j := fun j hj => (hown.lt j hj).1
          have HS3 := Lib.hid s3
          have HB3 := Lib.hid hB3
          have HQL := Lib.hid hy
          have HOW := Lib.hid hown
          have HEX := Lib.hid exb
          clear hM hM2 hf s3 hB3 hy hown exb hmm hmk
          go_wp2_with (at_builtin; refine wpList_append_files files74 rfl _ _ rfl B v M.length (fcells Q) rfl (HOW.out.alloc _) (some ⟨_, 0, none⟩) 1 1 rfl (fcells [(m, .slice x y cc)]) rfl (fun hh => by cases hh) (fun ad had j u hu => by cases had; exact cells_new wr _ _ j u hu) (by intro u hu; simp [fcells] at hu; rcases hu with rfl | rfl <;> rfl) (by omega) (by show B ≤ (wr.alloc _).heap.size; simp; omega) ?_; intro v5 w5 hown5 hg5 hnew5)
          obtain ⟨w6, hw6⟩ : ∃ w6, w6 = wr.alloc (Obj.cells #[Value.string (SL m), Value.slice x y cc] 57) := ⟨_, rfl⟩
          have h6b : Below wr.heap.size wr w6 := by rw [hw6]; exact (Below.refl _ _).alloc (Nat.le_refl _) _
          rw [← hw6] at hg5 hnew5
          have hg5 := hg5.out
          have h6s := h6b.size
          have h5s := hg5.size
          have hbytes : BytesAt w6 (fun i => w2.heap.size ≤ i ∧ v.ownBlock ≠ some i) (.slice x y cc) b := by
            refine ⟨x, cc, B3, off3, by rw [HQL.out], (HS3.out.below (W' := wr) ?_).below h6b, fun hp => ⟨(HB3.out hp).1, fun e => ?_⟩⟩
            · rw [← HB4.out]; exact hW
            · have h5 := HEX.out B3 e
              have h6 := (HB3.out hp).2
              omega
          have FO := HQ.out.push (Turn.of_below _ h6b) hbytes hown5.out hg5 hnew5.out
          have hWn : Below B w4 w5 := (hW.trans (h6b.mono (by omega))).trans ⟨hg5.os, hg5.tape, hg5.output, hg5.size, fun i hi => hg5.block i (by omega) (fun e => by have := HEX.out i e.symm; omega)⟩
          clear hown5 hg5 hnew5 hbytes hw6 d1 d2
          go_roundw
          case rel => exact ⟨v5, _, _, k + 1, rfl, by go_num, by omega, HM.out, by simp; omega, FO, hWn⟩
          case measure => simp [intOf]; omega
      · obtain rfl : k = N := by omega
        rw [List.take_of_length_le (by rw [← HN.out]; exact Nat.le_refl _)] at hM
        subst hM
        have i1 : ¬ ((k : Int) < (k : Int)) := by omega
        have hWw : Below w2.heap.size w2 wr := HB24.out.trans (hW.mono (by have := HB24.out.size; omega))
        have hfl := hQ.files (F := fun i => w2.heap.size ≤ i) (fun g hg _ _ => by omega)
        have hsnap := HO.out.snap hWw
        obtain ⟨Z, hZ⟩ : ∃ Z : Nat → Prop, Z = fun k => elder w1 k ∨ (w2.heap.size ≤ k ∧ k < wr.heap.size) := ⟨_, rfl⟩
        rw [← hZ] at hsnap
        have hflZ : FilesAt wr Z v (unmarked S.fs) := hfl.mono (fun i hi hk => by rw [hZ]; exact .inr ⟨hk, hi⟩)
        have hswp := sweep_any hsnap hG (by omega)
        have HSW := Lib.hid hswp
        have HF := Lib.hid hflZ
        have HBK := Lib.hid (fun (w5 : World) (T : St) (h : One wr Z w5 p T) => HO.out.back hWw (by rw [hZ] at h; exact h))
        have HZ := Lib.hid hZ
        clear hQ hW hfl hsnap hflZ hswp hZ hWw HR HH
        have hGT : Good (sweepS S).2 := Good.sweep hG
        obtain ⟨T, hT⟩ : ∃ T, T = (sweepS S).2 := ⟨_, rfl⟩
        obtain ⟨z, hz⟩ : ∃ z, z = sweepS S := ⟨_, rfl⟩
        have hz2 : z.2 = T := by rw [hz, hT]
        rw [← hz] at HSW HSW1
        rw [← hT] at hGT HSW2
        have HZ2 := Lib.hid hz2
        clear hz hz2 hT hN hG hdark hleft hMk
        go_wp2_with (first
          | (go_at_call 15; refine HSW.out.mono ?_; rintro e w5 ⟨rfl, h5⟩; rw [HSW1.out]; rw [HZ2.out] at h5; have H5 := Lib.hid h5; have F5 := Lib.hid (HF.out.turn h5.turned (fun k hk h => h hk)); clear h5)
          | (go_at_call 26; refine (H5.out.files hGT).mono ?_; rintro e w6 ⟨v6, rfl, f6, b6⟩; have F6 := Lib.hid f6; have B6 := Lib.hid b6; have G6 := Lib.hid (F5.out.turn (Turn.of_below (fun _ => False) b6) (fun _ _ h => h)); clear f6 b6)
          | (go_at_call 25; refine (theirs_any _ v6 T.fs w6 F6.out (fun k hk => hk.2) hGT.dumps.1).mono ?_; rintro e w7 ⟨v7, rfl, f7, b7⟩; have F7 := Lib.hid f7; have B7 := Lib.hid b7; have G7 := Lib.hid (G6.out.turn (Turn.of_below (fun _ => False) b7) (fun _ _ h => h)); clear f7 b7)
          | (go_at_call 24; refine (sameFiles_any _ _ v7 v T.fs (unmarked S.fs) w7 F7.out G7.out (by have := hGT.dumps.1; omega)).mono ?_; rintro e w8 ⟨rfl, b8⟩; rw [decide_eq_true HSW2.out]))
        go_ret
        have hO5 := (HBK.out _ _ H5.out).old
        have s1 := B1.out.size
        have s2 := hO5.size
        have s6 := B6.out.size
        have s7 := B7.out.size
        exact ⟨rfl, ((((B1.out.trans (hO5.mono s1)).trans (B6.out.mono (by omega))).trans (B7.out.mono (by omega))).trans (b8.mono (by omega)))⟩
end Go.Proofs.Ythibhkoneajffaa
