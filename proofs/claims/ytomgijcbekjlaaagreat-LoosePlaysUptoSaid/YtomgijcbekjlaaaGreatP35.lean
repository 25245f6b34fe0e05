/- What the proofs stand on: ObjRune, ObjAny. -/
import Derived.Laws.RangeAny
import Derived.Laws.Runes
import Derived.Laws.Strings3
import Derived.Lib.Bytealg
import Derived.Handy
import Derived.Test.YtomgijcbekjlaaaGreatP9
import Derived.Lib.OthersKept
import Derived.Test.YtomgijcbekjlaaaGreatPB0
import Derived.Test.YtomgijcbekjlaaaGreatPB1
set_option maxRecDepth 100000
set_option maxHeartbeats 40000000
namespace Go.Proofs.YtomgijcbekjlaaaGreat
section
open Go.RowKit
theorem two_small : ∀ b ∈ (⟨#[0, 47]⟩ : ByteArray).data.toList, b.toNat < 128 := by decide
theorem indexRune_error (w : World) : Calls Tryz.prog 205 #[.string ⟨#[0, 47]⟩, .int .i32 65533] w fun e w' => e = .returned (.int .i64 (-1)) /\ Below w.heap.size w w' := by
 have n0 := fun ty => run_next_ascii (P := Tryz.prog) w ⟨#[0, 47]⟩ 0 ty (by decide) (by decide)
 have n1 := fun ty => run_next_ascii (P := Tryz.prog) w ⟨#[0, 47]⟩ 1 ty (by decide) (by decide)
 have n2 := fun ty => run_next_end (P := Tryz.prog) w ⟨#[0, 47]⟩ 2 ty (by decide)
 have hb : Hid (∀ n, Below w.heap.size w (w.iter ⟨#[0, 47]⟩ n)) := h_ (fun n => (Below.refl _ _).alloc (Nat.le_refl _) _)
 go_enter Tryz.func205, Tryz.ntmps205; go_wp2; go_rounds 3
 all_goals (go_ret; exact ⟨rfl, hb.out _⟩)
theorem indexRune_bad (r : Int) (h0 : 128 <= r) (h1 : r <= 2147483647) (hv : validRune r = false) (w : World) : Calls Tryz.prog 205 #[.string ⟨#[0, 47]⟩, .int .i32 r] w fun e w' => e = .returned (.int .i64 (-1)) /\ w' = w := by
 have i0 : (0 : Int) <= r := by omega
 have i1 : ¬ r < 128 := by omega
 have e2 : decide (r < 55296) = false := by unfold validRune at hv; simp at hv; simp; omega
 have e2' : ¬ r < 55296 := by simpa using e2
 by_cases h3 : 57343 < r
 ·have e3 : ¬ r <= 1114111 := by unfold validRune at hv; simp at hv; omega
  clear hv e2 h0; go_enter Tryz.func205, Tryz.ntmps205; go_wp2; go_ret; exact ⟨rfl, rfl⟩
 ·clear hv e2 h0
  go_enter Tryz.func205, Tryz.ntmps205; go_wp2; go_ret; exact ⟨rfl, rfl⟩
theorem rune_bytes (r : Int) (h0 : 128 <= r) (hv : validRune r = true) : ∃ (t : ByteArray) (c : UInt8), Utf8.encode r = t /\ 2 <= t.size /\ t.size <= 4 /\ 128 <= c.toNat /\ (∀ W, (Instr.index 9 (.string t) (.int .i64 ((t.size : Int) - 1))).run Tryz.prog W = .ok (.int .u8 (c.toNat : Int)) W) := by
 obtain ⟨h2, h4, h5⟩ := encode_facts r (by rw [validRune_eq]; exact hv) h0
 refine ⟨_, (Utf8.encode r)[(Utf8.encode r).size - 1]'(by omega), rfl, h2, h4, h5 (by omega), fun W => ?_⟩
 have e1 : (((Utf8.encode r).size : Int) - 1).toNat = (Utf8.encode r).size - 1 := by omega
 have hp : (0 : Int) <= ((Utf8.encode r).size : Int) - 1 := by omega
 have h : (Utf8.encode r)[(Utf8.encode r).size - 1]? = some ((Utf8.encode r)[(Utf8.encode r).size - 1]'(by omega)) := getElem?_pos _ _ (by omega)
 simp only [Instr.index, asIntOf, Sem.run_bind, Sem.run_pure, Result.andThen_ok, run_underlying Tryz.underlying9, if_pos hp, e1, h]
theorem indexByte_none (x : Int) (hix : ∀ W, (Extern.BytealgIndexByte.indexByte #[.string ⟨#[]⟩, .int .u8 x]).run Tryz.prog W = .ok (.int .i64 (-1)) W) (w : World) : Calls Tryz.prog 126 #[.string ⟨#[]⟩, .int .u8 x] w fun e w' => e = .returned (.int .i64 (-1)) /\ w' = w := by
 go_enter Tryz.func126, Tryz.ntmps126; go_wp2; rw [run_callFunc_extern Tryz.func179 (by kernel_rfl) (by kernel_rfl) (by kernel_rfl) (e := Extern.BytealgIndexByte.indexByte) (by kernel_rfl), hix]
 simp only [Result.andThen]; rw [Oper.upon_value]; go_wp2; go_ret; exact ⟨rfl, rfl⟩
theorem indexRune_good (r : Int) (h0 : 128 <= r) (h1 : r <= 2147483647) (he : ¬ r = 65533) (hv : validRune r = true) (w : World) : Calls Tryz.prog 205 #[.string ⟨#[0, 47]⟩, .int .i32 r] w fun e w' => e = .returned (.int .i64 (-1)) /\ Below w.heap.size w w' := by
 have i0 : (0 : Int) <= r := by omega
 have i1 : ¬ r < 128 := by omega
 obtain ⟨t, c, ht, hz2, hz4, hc, hidx⟩ := rune_bytes r h0 hv; have hne : ¬ (47 : Int) = (c.toNat : Int) := by omega
 obtain ⟨n, hn⟩ := nm_ (t.size); rw [<- hn] at hidx hz2 hz4; have hw1 : IntKind.i64.wrap ((n : Int) - 1) = (n : Int) - 1 := wrap_small _ (by omega) (by omega)
 have hcv : ∀ W, (convert 21 9 (.int .i32 r)).run Tryz.prog W = .ok (.string t) W := fun W => by
  rw [run_convert_int_string W 21 9 .i32 r (by rw [Tryz.underlying21]; rfl) Tryz.underlying9, ht]
 have h47 : ∀ W, (Instr.index 9 (.string ⟨#[0, 47]⟩) (.int .i64 1)).run Tryz.prog W = .ok (.int .u8 47) W := fun W => by
  have e : ((⟨#[0, 47]⟩ : ByteArray))[(1 : Nat)]? = some 47 := by decide
  simp only [Instr.index, asIntOf, Sem.run_bind, Sem.run_pure, Result.andThen_ok, run_underlying Tryz.underlying9]; rfl
 have hne' : (47 : Int) ≠ (c.toNat : Int) := hne; obtain ⟨x, hx⟩ := nm_ (c.toNat); rw [<- hx] at hidx hne hne' hc; have hv2 : r < 55296 \/ (¬ r < 55296 /\ 57343 < r /\ r <= 1114111) := by unfold validRune at hv; simp at hv; omega
 have hsl : ∀ W, (Instr.slice 9 (.string ⟨#[0, 47]⟩) (some (.int .i64 2)) none none).run Tryz.prog W = .ok (.string ⟨#[]⟩) W := fun W => by kernel_rfl
 have hix : ∀ W, (Extern.BytealgIndexByte.indexByte #[.string ⟨#[]⟩, .int .u8 (x : Int)]).run Tryz.prog W = .ok (.int .i64 (-1)) W := fun W => Lib.run_indexByteString _ _ W
 have hsz : t.size = n := hn.symm
 clear ht hx hv hn; by_cases h2 : n = 2
 ·subst h2
  have hidx : ∀ W, (Instr.index 9 (.string t) (.int .i64 1)).run Tryz.prog W = .ok (.int .u8 (x : Int)) W := hidx
  have hib := fun W => indexByte_none (x : Int) hix W
  have hw2 : IntKind.i64.wrap 2 = 2 := by decide
  clear hw1 hz2 hz4 hix; rcases hv2 with q | ⟨q, q2, q3⟩
  ·go_enter Tryz.func205, Tryz.ntmps205
   go_wp2; go_step3
   go_wp2; refine wp_loop_rounds 1 ?_; rw [rounds_succ]; go_wp2; go_step3
   go_wp2; go_quiet (fail)
   go_wp2; go_quiet ((go_at_call 126; exact (hib _).mono (by rintro e w1 ⟨rfl, rfl⟩; exact ⟨rfl, _, rfl⟩)))
   go_wp2; simp only [Exit.noGoto, Exit.inBlock, Exit.then]; go_ret; exact ⟨rfl, below_drewN (Below.refl _ _) _⟩
  ·go_enter Tryz.func205, Tryz.ntmps205
   go_wp2; go_step3
   go_wp2; refine wp_loop_rounds 1 ?_; rw [rounds_succ]; go_wp2; go_step3
   go_wp2; go_quiet (fail)
   go_wp2; go_quiet ((go_at_call 126; exact (hib _).mono (by rintro e w1 ⟨rfl, rfl⟩; exact ⟨rfl, _, rfl⟩)))
   go_wp2; simp only [Exit.noGoto, Exit.inBlock, Exit.then]; go_ret; exact ⟨rfl, below_drewN (Below.refl _ _) _⟩
 ·have h3 : ¬ (n : Int) - 1 < 2 := by omega
  rcases hv2 with q | ⟨q, q2, q3⟩
  ·go_enter Tryz.func205, Tryz.ntmps205
   go_wp2; go_step3
   go_wp2; go_rounds 2
   simp only [Exit.noGoto, Exit.inBlock]; go_ret; exact ⟨rfl, Below.refl _ _⟩
  ·go_enter Tryz.func205, Tryz.ntmps205
   go_wp2; go_step3
   go_wp2; go_rounds 2
   simp only [Exit.noGoto, Exit.inBlock]; go_ret; exact ⟨rfl, Below.refl _ _⟩
end
section
open Go.RowKit
theorem indexByte_two (x : Nat) (w : World) : Calls Tryz.prog 126 #[.string ⟨#[0, 47]⟩, .int .u8 (x : Int)] w fun e w' => e = .returned (.int .i64 (Lib.indexByte [0, 47] x.toUInt8)) /\ w' = w := by
 have hix : ∀ W, (Extern.BytealgIndexByte.indexByte #[.string ⟨#[0, 47]⟩, .int .u8 (x : Int)]).run Tryz.prog W = .ok (.int .i64 (Lib.indexByte [0, 47] x.toUInt8)) W := fun W => Lib.run_indexByteString _ _ W
 go_enter Tryz.func126, Tryz.ntmps126; go_wp2; rw [run_callFunc_extern Tryz.func179 (by kernel_rfl) (by kernel_rfl) (by kernel_rfl) (e := Extern.BytealgIndexByte.indexByte) (by kernel_rfl), hix]
 simp only [Result.andThen]; rw [Oper.upon_value]; go_wp2; go_ret; exact ⟨rfl, rfl⟩
theorem two_index (x : Nat) (h : x < 128) : (0 <= Lib.indexByte [0, 47] x.toUInt8 ↔ x = 0 \/ x = 47) := by
 have h2 : ∀ x : Fin 128, (0 <= Lib.indexByte [0, 47] x.val.toUInt8 ↔ x.val = 0 \/ x.val = 47) := by decide
 exact h2 ⟨x, h⟩
theorem indexRune_any (x : Nat) (h1 : x <= 2147483647) (w : World) : Calls Tryz.prog 205 #[.string ⟨#[0, 47]⟩, .int .i32 (x : Int)] w fun e w' => ∃ z : Int, e = .returned (.int .i64 z) /\ (0 <= z ↔ x = 0 \/ x = 47) /\ Below w.heap.size w w' := by
 by_cases h : x < 128
 ·have i0 : (0 : Int) <= (x : Int) := by omega
  have i1 : (x : Int) < 128 := by omega
  have hw : IntKind.u8.wrap (x : Int) = (x : Int) := by
   unfold IntKind.wrap; simp [IntKind.bits, IntKind.signed]; omega
  have hi := two_index x h; have hc := fun W => indexByte_two x W
  obtain ⟨z, hz⟩ := nm_ (Lib.indexByte [0, 47] x.toUInt8); rw [<- hz] at hi hc; clear hz h1 h; go_enter Tryz.func205, Tryz.ntmps205; go_wp2_with (go_at_call 126; refine (hc _).mono ?_; rintro e w1 ⟨rfl, rfl⟩)
  go_ret; exact ⟨_, rfl, hi, Below.refl _ _⟩
 ·have hno : ¬ (x = 0 \/ x = 47) := by omega
  have hm : ∀ (e : Ending) (w' : World), e = .returned (.int .i64 (-1)) -> Below w.heap.size w w' -> ∃ z : Int, e = .returned (.int .i64 z) /\ (0 <= z ↔ x = 0 \/ x = 47) /\ Below w.heap.size w w' := fun e w' he hb => ⟨_, he, ⟨fun h => by omega, fun h => absurd h hno⟩, hb⟩
  by_cases he : (x : Int) = 65533
  ·rw [he]
   exact (indexRune_error w).mono fun e w' ⟨h1, h2⟩ => hm e w' h1 h2
  ·cases hv : validRune (x : Int) with
   | false => exact (indexRune_bad (x : Int) (by omega) (by omega) hv w).mono fun e w' ⟨h1, h2⟩ => hm e w' h1 (h2 ▸ Below.refl _ _)
   | true => exact (indexRune_good (x : Int) (by omega) (by omega) he hv w).mono fun e w' ⟨h1, h2⟩ => hm e w' h1 h2
/-! ### What a text's decoding passes over -/
theorem sl_get (s : OB) (k : Nat) (h : k < s.length) : (SL s).get! k = s.getD k 0 := by
 have h' : k < (SL s).size := by rw [SL_size]; exact h
 simp only [List.getD, List.getElem?_eq_getElem h, Option.getD_some]; simp [ByteArray.get!, SL, h]
theorem decode_past (s : OB) (i : Nat) (hi : i < s.length) : 1 <= (Utf8.decode (SL s) i).2 /\ i + (Utf8.decode (SL s) i).2 <= s.length /\ (∀ j, i < j -> j < i + (Utf8.decode (SL s) i).2 -> 128 <= (s.getD j 0).toNat) /\
  ((s.getD i 0).toNat < 128 -> (Utf8.decode (SL s) i).1 = (s.getD i 0).toNat /\ (Utf8.decode (SL s) i).2 = 1) /\ (128 <= (s.getD i 0).toNat -> 128 <= (Utf8.decode (SL s) i).1) := by
 have hz := SL_size s; have g0 : (SL s).get! (i + 0) = s.getD i 0 := sl_get s i hi
 have hc : ∀ k, (decide (i + k < (SL s).size) && ((SL s).get! (i + k)).toNat / 64 == 2) = true -> i + k < s.length /\ 128 <= (s.getD (i + k) 0).toNat := fun k hk => by
  rw [Bool.and_eq_true, decide_eq_true_eq, hz] at hk; refine ⟨hk.1, ?_⟩; have := hk.2
  rw [sl_get s (i + k) hk.1] at this; have h2 := beq_iff_eq.1 this; omega
 have c1 := hc 1; have c2 := hc 2; have c3 := hc 3; obtain ⟨k1, e1⟩ := nm_ ((decide (i + 1 < (SL s).size) && ((SL s).get! (i + 1)).toNat / 64 == 2))
 obtain ⟨k2, e2⟩ := nm_ ((decide (i + 2 < (SL s).size) && ((SL s).get! (i + 2)).toNat / 64 == 2))
 obtain ⟨k3, e3⟩ := nm_ ((decide (i + 3 < (SL s).size) && ((SL s).get! (i + 3)).toNat / 64 == 2))
 rw [<- e1] at c1; rw [<- e2] at c2; rw [<- e3] at c3; simp only [Utf8.decode, g0, <- e1, <- e2, <- e3]; clear e1 e2 e3 hc g0 hz; by_cases h0 : (s.getD i 0).toNat < 128
 ·simp only [h0, if_true]
  exact ⟨Nat.le_refl _, by omega, fun j h1 h2 => by omega, fun _ => ⟨True.intro, True.intro⟩, fun h => by omega⟩
 ·simp only [h0, if_false]
  have hr : 128 <= Utf8.runeError := by decide
  have one : ∀ j, i < j -> j < i + 1 -> 128 <= (s.getD j 0).toNat := fun j h1 h2 => by omega
  have two : k1 = true -> ∀ j, i < j -> j < i + 2 -> 128 <= (s.getD j 0).toNat := fun hk j h1 h2 => by
   obtain rfl : j = i + 1 := by omega
   exact (c1 hk).2
  have three : k1 = true -> k2 = true -> ∀ j, i < j -> j < i + 3 -> 128 <= (s.getD j 0).toNat := fun hk hk2 j h1 h2 => by
   by_cases e : j = i + 1
   ·rw [e]; exact (c1 hk).2
   ·obtain rfl : j = i + 2 := by omega
    exact (c2 hk2).2
  have four : k1 = true -> k2 = true -> k3 = true -> ∀ j, i < j -> j < i + 4 -> 128 <= (s.getD j 0).toNat := fun hk hk2 hk3 j h1 h2 => by
   by_cases e : j = i + 1
   ·rw [e]; exact (c1 hk).2
   ·by_cases e : j = i + 2
    ·rw [e]; exact (c2 hk2).2
    ·obtain rfl : j = i + 3 := by omega
     exact (c3 hk3).2
  repeat' split
  all_goals (try rename_i hA)
  all_goals (try simp only [Bool.and_eq_true, ge_iff_le, decide_eq_true_eq] at *)
  all_goals first
   | exact ⟨Nat.le_refl _, by omega, one, fun h => h.elim, fun _ => hr⟩
   | (have q := ‹((_ /\ k1 = true) /\ k2 = true) /\ k3 = true›; exact ⟨by omega, by have := (c3 q.2).1; omega, four q.1.1.2 q.1.2 q.2, fun h => h.elim, fun _ => by omega⟩)
   | (have q := ‹(_ /\ k1 = true) /\ k2 = true›; exact ⟨by omega, by have := (c2 q.2).1; omega, three q.1.2 q.2, fun h => h.elim, fun _ => by omega⟩)
   | (have q := ‹_ /\ k1 = true›; exact ⟨by omega, by have := (c1 q.2).1; omega, two q.2, fun h => h.elim, fun _ => by omega⟩)
theorem pc_high {x : UInt8} (h : 128 <= x.toNat) : pc x = true := by
 unfold pc; have a1 : x ≠ 0 := fun e => by rw [e] at h; simp at h
 have a2 : x ≠ 47 := fun e => by rw [e] at h; simp at h
 simp [a1, a2]
theorem decode_small (s : OB) (i : Nat) : (Utf8.decode (SL s) i).1 <= 2147483647 := decode_le (SL s) i
theorem take_past {s : OB} {i d : Nat} (h : (s.take i).all pc = true) (hd : i + d <= s.length) (hx : pc (s.getD i 0) = true) (hp : ∀ j, i < j -> j < i + d -> 128 <= (s.getD j 0).toNat) : (s.take (i + d)).all pc = true := by
 rw [List.all_eq_true]; intro x hm
 obtain ⟨j, hj, rfl⟩ := List.getElem_of_mem hm; rw [List.length_take] at hj; rw [List.getElem_take]; have e : s.getD j 0 = s[j] := by simp [List.getD, List.getElem?_eq_getElem (show j < s.length by omega)]
 by_cases h1 : j < i
 ·refine List.all_eq_true.1 h _ ?_
  rw [List.mem_take_iff_getElem]; exact ⟨j, by omega, rfl⟩
 ·by_cases h2 : j = i
  ·subst h2; rw [<- e]; exact hx
  ·have h3 := hp j (by omega) (by omega)
   rw [<- e]; exact pc_high h3
theorem pc_iff (x : UInt8) : pc x = false ↔ x.toNat = 0 \/ x.toNat = 47 := by
 unfold pc; constructor
 ·intro h
  by_cases h0 : x = 0
  ·subst h0; exact .inl rfl
  ·by_cases h1 : x = 47
   ·subst h1; exact .inr rfl
   ·simp [h0, h1] at h
 ·rintro (h | h)
  ·have : x = 0 := UInt8.toNat_inj.1 h
   rw [this]; rfl
  ·have : x = 47 := UInt8.toNat_inj.1 h
   rw [this]; rfl
theorem all_no {s : OB} {i : Nat} (hi : i < s.length) (h : pc (s.getD i 0) = false) : s.all pc = false := by
 cases hq : s.all pc with
 | false => rfl
 | true =>
  have e : s.getD i 0 = s[i] := by simp [List.getD, List.getElem?_eq_getElem hi]
  rw [e, List.all_eq_true.1 hq _ (List.getElem_mem hi)] at h
  cases h
theorem indexAny_short (s : OB) (h8 : s.length <= 8) (w : World) : Calls Tryz.prog 203 #[.string (SL s), .string ⟨#[0, 47]⟩] w fun e w' => ∃ z : Int, e = .returned (.int .i64 z) /\ (0 <= z ↔ s.all pc = false) /\ Below w.heap.size w w' := by
 have hsz := SL_size s; obtain ⟨n, hn⟩ := nm_ (s.length); rw [<- hn] at hsz h8; have h8z : ¬ (n : Int) > 8 := by omega
 have HN := h_ hn; obtain ⟨x, hx⟩ := nm_ (w.heap.size); have hxb : Hid (Below x w (w.iter (SL s) 0) /\ (w.iter (SL s) 0).heap[x]? = some (.stringIter (SL s) 0)) := h_ ⟨by rw [hx]; exact (Below.refl _ _).alloc (Nat.le_refl _) _, by rw [hx]; exact World.iter_heap _ _ _⟩
 have HX := h_ hx; clear hn; go_enter Tryz.func203, Tryz.ntmps203; go_wp2; go_loopw [9, 10] (fun _ _ W => ∃ i : Nat, i <= n /\ (s.take i).all pc = true /\ W.heap[w.heap.size]? = some (.stringIter (SL s) i) /\ Below w.heap.size w W) (fun _ _ W => n - W.iterPos w.heap.size)
 case atStart => exact ⟨0, Nat.zero_le _, by simp, by rw [<- HX.out]; exact hxb.out.2, by rw [<- HX.out]; exact hxb.out.1⟩
 case round =>
  obtain ⟨i, hi, ha, hk, hB⟩ := hrel; have HB := h_ hB; have HK := h_ hk; have HA := h_ ha; clear hB ha; by_cases hlt : i < n
  ·obtain ⟨p1, p2, p3, p4, p5⟩ := decode_past s i (by rw [<- HN.out]; exact hlt)
   have psm := decode_small s i; have hnx := fun ty => Lib.run_next_any_at (P := Tryz.prog) wr w.heap.size (SL s) i ty hk (by rw [SL_size, <- HN.out]; exact hlt)
   obtain ⟨c, hc⟩ := nm_ ((Utf8.decode (SL s) i).1); obtain ⟨d, hd⟩ := nm_ ((Utf8.decode (SL s) i).2); rw [<- hc] at hnx p4 p5 psm; rw [<- hd] at hnx p1 p2 p3 p4; have hh := Lib.iterAt_heap wr w.heap.size (SL s) i (i + d) hk; have hbl := Lib.below_iterAt HB.out (Nat.le_refl _) (SL s) (i + d); obtain ⟨W1, hW1⟩ := nm_ (wr.iterAt w.heap.size (SL s) (i + d)); rw [<- hW1] at hnx hh hbl; have hru := fun W => indexRune_any c psm W
   have hkey : (c = 0 \/ c = 47) ↔ pc (s.getD i 0) = false := by
    rw [pc_iff]; by_cases h128 : (s.getD i 0).toNat < 128
    ·rw [(p4 h128).1]
    ·have := p5 (by omega)
     omega
   have hno : pc (s.getD i 0) = false -> s.all pc = false := fun h => all_no (by rw [<- HN.out]; exact hlt) h
   have hgo : pc (s.getD i 0) = true -> (s.take (i + d)).all pc = true := fun h => take_past HA.out p2 h p3
   have hle : i + d <= n := by rw [HN.out]; exact p2
   have H1 := h_ hh; have H2 := h_ hbl; have H3 := h_ hkey; have H4 := h_ hno; have H5 := h_ hgo; have H6 := h_ hle; have H7 := h_ p1; clear hh hbl hkey hno hgo hle p1 p2 p3 p4 p5 hc hd hk hW1 psm; go_wp2_with (go_at_call 205; refine (hru _).mono ?_; rintro e w2 ⟨z, rfl, hz, hb2⟩; have HZ := h_ hz; have HB2 := h_ hb2; clear hz hb2)
   ·go_ret
    rename_i hz; have hz0 : 0 <= z := by omega
    exact ⟨_, rfl, ⟨fun _ => H4.out (H3.out.1 (HZ.out.1 hz0)), fun _ => by omega⟩, H2.out.trans (HB2.out.mono H2.out.size)⟩
   ·rename_i hz
    have hz0 : ¬ 0 <= z := by omega
    have hpc : pc (s.getD i 0) = true := by
     cases hq : pc (s.getD i 0) with
     | true => rfl
     | false => exact absurd (HZ.out.2 (H3.out.2 hq)) hz0
    have hkk : w2.heap[w.heap.size]? = some (.stringIter (SL s) (i + d)) := below_heap HB2.out H1.out
    go_roundw
    case rel => exact ⟨i + d, H6.out, H5.out hpc, hkk, H2.out.trans (HB2.out.mono H2.out.size)⟩
    case measure =>
     simp only [World.iterPos, hkk, HK.out]; have := H7.out
     have := H6.out
     omega
  ·obtain rfl : i = n := by omega
   have hnx := fun ty => Lib.run_next_end_at (P := Tryz.prog) wr w.heap.size (SL s) i ty hk (by rw [SL_size, <- HN.out]; omega)
   have hall : s.all pc = true := by
    have := HA.out
    rw [HN.out, List.take_length] at this; exact this
   have HL := h_ hall; clear hall hk; go_wp2; go_ret; exact ⟨-1, rfl, ⟨fun h => by omega, fun h => by rw [HL.out] at h; cases h⟩, HB.out⟩
end
end Go.Proofs.YtomgijcbekjlaaaGreat
