/- What the proofs stand on: ObjSet, ObjPartP, ObjIds, ObjMay, ObjMayBe. -/
import Derived.Shelf.Strings.IndexAnyAll
import Derived.Ground.NamesProg
import Derived.Test.YtomgijcbekjlaaaGreatP35
import Derived.Test.YtomgijcbekjlaaaGreatP9
import Derived.Test.YtomgijcbekjlaaaGreatP34
import Derived.Test.YtomgijcbekjlaaaGreatPB0
import Derived.Test.YtomgijcbekjlaaaGreatPB1
set_option maxRecDepth 100000
set_option maxHeartbeats 40000000
namespace Go.Proofs.YtomgijcbekjlaaaGreat
section
open Go.RowKit Go.Shelf
def anyZ_ren : Go.Shelf.Ren := ⟨fun | 153 => 203 | 152 => 205 | 226 => 206 | 227 => 207 | 228 => 208 | 137 => 126 | 119 => 209 | 224 => 210 | 225 => 211 | 217 => 162 | 266 => 179 | n => n, fun | 9 => 9 | 3 => 3 | 4 => 4 | 5 => 5 | 21 => 21 | 117 => 241 | 116 => 240 | 0 => 0 | 46 => 154 | 124 => 245 | n => n, fun | n => n⟩
theorem anyZ : Go.Proofs.Lays.n153 Tryz.prog anyZ_ren := {
 mixed := by kernel_rfl
 f119 := Tryz.func209.trans (congrArg some (by kernel_rfl))
 f137 := Tryz.func126.trans (congrArg some (by kernel_rfl))
 f152 := Tryz.func205.trans (congrArg some (by kernel_rfl))
 f153 := Tryz.func203.trans (congrArg some (by kernel_rfl))
 f217 := Tryz.func162.trans (congrArg some (by kernel_rfl))
 f224 := Tryz.func210.trans (congrArg some (by kernel_rfl))
 f225 := Tryz.func211.trans (congrArg some (by kernel_rfl))
 f226 := Tryz.func206.trans (congrArg some (by kernel_rfl))
 f227 := Tryz.func207.trans (congrArg some (by kernel_rfl))
 f228 := Tryz.func208.trans (congrArg some (by kernel_rfl))
 f266 := Tryz.func179.trans (congrArg some (by kernel_rfl))
 t0 := Tryz.underlying0
 a0 := Tryz.isAgg0
 z0 := Tryz.sizeOf0
 v0 := Tryz.zeroValue0
 t3 := Tryz.underlying3
 a3 := Tryz.isAgg3
 z3 := Tryz.sizeOf3
 v3 := Tryz.zeroValue3
 t4 := Tryz.underlying4
 a4 := Tryz.isAgg4
 z4 := Tryz.sizeOf4
 v4 := Tryz.zeroValue4
 t5 := Tryz.underlying5
 a5 := Tryz.isAgg5
 z5 := Tryz.sizeOf5
 v5 := Tryz.zeroValue5
 t9 := Tryz.underlying9
 a9 := Tryz.isAgg9
 z9 := Tryz.sizeOf9
 v9 := Tryz.zeroValue9
 t21 := Tryz.underlying21
 a21 := Tryz.isAgg21
 z21 := Tryz.sizeOf21
 v21 := Tryz.zeroValue21
 t46 := Tryz.underlying154
 a46 := Tryz.isAgg154
 z46 := Tryz.sizeOf154
 v46 := Tryz.zeroValue154
 t116 := Tryz.underlying240
 a116 := Tryz.isAgg240
 z116 := Tryz.sizeOf240
 t117 := Tryz.underlying241
 a117 := Tryz.isAgg241
 z117 := Tryz.sizeOf241
 v117 := Tryz.zeroValue241
 t124 := Tryz.underlying245
 a124 := Tryz.isAgg245
 z124 := Tryz.sizeOf245
 v124 := Tryz.zeroValue245 }
theorem hold256 : (Tryz.prog.info? 240).map (fun i => (i.zero, i.size)) = some (some (.agg (Array.replicate 256 (.bool false))), 256) := by kernel_rfl
theorem indexAny_two : ∀ s : List UInt8, (0 <= Lib.indexAny s [0, 47] ↔ s.all pc = false)
 | [] => by simp [Lib.indexAny]
 | b :: l => by
  have ih := indexAny_two l; have hg := Lib.indexAny_ge [0, 47] l; have hc : ([0, 47] : List UInt8).contains b = !(pc b) := by
   unfold pc
   cases h0 : (b == 0) <;> cases h1 : (b == 47) <;> simp_all
  rw [Lib.indexAny, List.all_cons, hc]
  cases hp : pc b with
  | false => simp
  | true =>
   simp only [Bool.not_true, Bool.false_eq_true, if_false, Bool.true_and]; rw [<- ih]; split
   ·rename_i h
    have := beq_iff_eq.1 h
    omega
   ·rename_i h
    have : ¬ Lib.indexAny l [0, 47] = -1 := fun e => h (beq_iff_eq.2 e)
    omega
theorem indexAny_long (s : List UInt8) (h8 : 8 < s.length) (hs : s.length <= 1000) (w : World) : Calls Tryz.prog 203 #[.string (SL s), .string ⟨#[0, 47]⟩] w fun e w' => ∃ z : Int, e = .returned (.int .i64 z) /\ (0 <= z ↔ s.all pc = false) /\ Below w.heap.size w w' := by
 have h := Any.strings_IndexAny_long anyZ (zero_of_info hold256).1 (zero_of_info hold256).2 (SL s) ⟨#[0, 47]⟩ w (by decide) (by rw [SL_size]; exact h8) (by rw [SL_size]; omega) (by decide) (fun j b hb => two_small b (List.mem_of_getElem? hb))
 refine h.mono ?_; rintro e w' ⟨rfl, rfl⟩; exact ⟨_, rfl, indexAny_two s, ((Below.refl _ _).alloc (Nat.le_refl _) _).alloc (by simp) _⟩
theorem indexAny_any (s : List UInt8) (hs : s.length <= 1000) (w : World) : Calls Tryz.prog 203 #[.string (SL s), .string ⟨#[0, 47]⟩] w fun e w' => ∃ z : Int, e = .returned (.int .i64 z) /\ (0 <= z ↔ s.all pc = false) /\ Below w.heap.size w w' := by
 by_cases h : s.length <= 8
 ·exact indexAny_short s h w
 ·exact indexAny_long s (by omega) hs w
theorem containsAny_any (s : List UInt8) (hs : s.length <= 1000) (w : World) : Calls Tryz.prog 195 #[.string (SL s), .string ⟨#[0, 47]⟩] w fun e w' => e = .returned (.bool (!(s.all pc))) /\ Below w.heap.size w w' := by
 have h := indexAny_any s hs w; go_enter Tryz.func195, Tryz.ntmps195; go_wp2_with (go_at_call 203; refine h.mono ?_; rintro e w1 ⟨z, rfl, hz, hb⟩; have HZ := h_ hz; have HB := h_ hb; clear hz hb)
 go_ret; refine ⟨?_, HB.out⟩
 cases hp : s.all pc with
 | false => rw [show decide (z >= 0) = true from decide_eq_true (HZ.out.2 hp)]; rfl
 | true => rw [show decide (z >= 0) = false from decide_eq_false (fun e => by have := HZ.out.1 e; rw [hp] at this; cases this)]; rfl
end
section
open Go.RowKit
theorem part_is (s : OB) : partB s = (decide (1 <= s.length) && decide (s.length <= 100) && !(s == [46]) && !(s == [46, 46]) && s.all pc) := by
 unfold partB; rw [show s.all (fun x => x != 0 && x != 47) = s.all pc from rfl]
 cases s.all pc <;> simp
theorem isShort_any (s : OB) (a b : Nat) (w : World) : Calls Tryz.prog 161 #[.string (SL s), .int .i64 (a : Int), .int .i64 (b : Int)] w fun e w' => e = .returned (.bool (decide (a <= s.length) && decide (s.length <= b))) /\ w' = w := by
 have hsz := SL_size s; obtain ⟨n, hn⟩ := nm_ (s.length); rw [<- hn] at hsz; rw [<- hn]; clear hn; by_cases h1 : a <= n
 ·have i1 : (a : Int) <= (n : Int) := by omega
  by_cases h2 : n <= b
  ·have i2 : (n : Int) <= (b : Int) := by omega
   rw [decide_eq_true h1, decide_eq_true h2]; clear h1 h2; go_enter Tryz.func161, Tryz.ntmps161; go_wp2; go_ret; exact ⟨rfl, rfl⟩
  ·have i2 : ¬ (n : Int) <= (b : Int) := by omega
   rw [decide_eq_true h1, decide_eq_false h2]; clear h1 h2; go_enter Tryz.func161, Tryz.ntmps161; go_wp2; go_ret; exact ⟨rfl, rfl⟩
 ·have i1 : ¬ (a : Int) <= (n : Int) := by omega
  rw [decide_eq_false h1]; clear h1; go_enter Tryz.func161, Tryz.ntmps161; go_wp2; go_ret; exact ⟨rfl, rfl⟩
theorem part_any (s : OB) (w : World) : Calls Tryz.prog 177 #[.string (SL s)] w fun e w' => e = .returned (.bool (partB s)) /\ Below w.heap.size w w' := by
 have hsh := fun W => isShort_any s 1 100 W
 have hv := part_is s; obtain ⟨b0, hb0⟩ := nm_ ((decide (1 <= s.length) && decide (s.length <= 100)))
 rw [<- hb0] at hsh hv
 cases b0 with
 | false =>
  rw [hv]; clear hv hb0; go_enter Tryz.func177, Tryz.ntmps177; go_wp2_with (go_at_call 161; refine (hsh _).mono ?_; rintro e w1 ⟨rfl, rfl⟩)
  go_ret; exact ⟨rfl, Below.refl _ _⟩
 | true =>
  have hl : s.length <= 1000 := by
   have := hb0.symm
   simp at this
   omega
  have hcn := fun W => containsAny_any s hl W
  obtain ⟨ba, hba⟩ := nm_ (s.all pc); rw [<- hba] at hcn hv; obtain ⟨b1, hb1⟩ : ∃ b, b = (s == ([46] : OB)) := ⟨_, rfl⟩
  obtain ⟨b2, hb2⟩ : ∃ b, b = (s == ([46, 46] : OB)) := ⟨_, rfl⟩
  rw [<- hb1, <- hb2] at hv; rw [hv]; have e1 := SL_toList s; clear hv hb0 hba hl
  cases b1 with
  | true =>
   have hb3 : (s == ([46] : OB)) = true := hb1.symm
   clear hb1 hb2; go_enter Tryz.func177, Tryz.ntmps177; go_wp2_with (go_at_call 161; refine (hsh _).mono ?_; rintro e w1 ⟨rfl, rfl⟩)
   go_ret; exact ⟨rfl, Below.refl _ _⟩
  | false =>
   have hb3 : (s == ([46] : OB)) = false := hb1.symm
   cases b2 with
   | true =>
    have hb4 : (s == ([46, 46] : OB)) = true := hb2.symm
    clear hb1 hb2; go_enter Tryz.func177, Tryz.ntmps177; go_wp2_with (go_at_call 161; refine (hsh _).mono ?_; rintro e w1 ⟨rfl, rfl⟩)
    go_ret; exact ⟨rfl, Below.refl _ _⟩
   | false =>
    have hb4 : (s == ([46, 46] : OB)) = false := hb2.symm
    clear hb1 hb2
    cases ba with
    | true =>
     go_enter Tryz.func177, Tryz.ntmps177; go_wp2_with (first
      | (go_at_call 161; refine (hsh _).mono ?_; rintro e w1 ⟨rfl, rfl⟩)
      | (go_at_call 195; refine (hcn _).mono ?_; rintro e w2 ⟨rfl, hb5⟩; have HB5 := h_ hb5; clear hb5))
     go_ret; exact ⟨rfl, HB5.out⟩
    | false =>
     go_enter Tryz.func177, Tryz.ntmps177; go_wp2_with (first
      | (go_at_call 161; refine (hsh _).mono ?_; rintro e w1 ⟨rfl, rfl⟩)
      | (go_at_call 195; refine (hcn _).mono ?_; rintro e w2 ⟨rfl, hb5⟩; have HB5 := h_ hb5; clear hb5))
     go_ret; exact ⟨rfl, HB5.out⟩
end
section
open Go.RowKit
theorem isId_any (s : OB) (w : World) : Calls Tryz.prog 158 #[.string (SL s)] w fun e w' => e = .returned (.bool (is32 s)) /\ w' = w := by
 have hsz := SL_size s; unfold is32; obtain ⟨n, hn⟩ := nm_ (s.length); rw [<- hn] at hsz |-; clear hn; by_cases h : n = 32
 ·subst h
  go_enter Tryz.func158, Tryz.ntmps158; go_wp2; go_ret; exact ⟨rfl, rfl⟩
 ·have i1 : ¬ (n : Int) = 32 := by omega
  have i2 : ((n : Int) == 32) = false := by simpa using i1
  rw [decide_eq_false h]; go_enter Tryz.func158, Tryz.ntmps158; go_wp2; go_ret; exact ⟨rfl, rfl⟩
theorem among_next {l : List OB} {k : Nat} {t u : OB} (h : l[k]? = some u) (hn : ∀ a ∈ l.take k, a ≠ t) (hu : ¬ t = u) : ∀ a ∈ l.take (k + 1), a ≠ t := by
 intro a ha
 rw [List.take_add_one, h] at ha; rcases List.mem_append.1 ha with ha | ha
 ·exact hn a ha
 ·simp at ha; rw [ha]; exact fun e => hu e.symm
theorem idIndex_any (F : Nat -> Prop) (ao : Option Addr) (n cap g off : Nat) (l : List OB) (t : OB) (w : World) (h : SlAt w F ao n cap g off (tcells l)) (hn : n <= l.length) (hx : n <= 9223372036854775807) :
  Calls Tryz.prog 196 #[.slice ao n cap, .string (SL t)] w fun e w' => ∃ z : Int, e = .returned (.int .i64 z) /\ ((0 <= z /\ ∃ j : Nat, j < n /\ l[j]? = some t) \/ (z = -1 /\ ∀ a ∈ l.take n, a ≠ t)) /\ w' = w := by
 have HS := h_ h; have HN := h_ hn; clear h hn; go_enter Tryz.func196, Tryz.ntmps196; go_wp2; go_loopw [8] (fun i W => ∃ k : Nat, i = .int .i64 (k : Int) /\ k <= n /\ (∀ a ∈ l.take k, a ≠ t) /\ W = w) (fun i _ => n - (intOf i).toNat)
 case atStart => exact ⟨0, rfl, Nat.zero_le _, by simp, rfl⟩
 case round =>
  obtain ⟨k, rfl, hk, ht, rfl⟩ := hrel; have HT := h_ ht; clear ht; by_cases hlt : k < n
  ·have i0 : (0 : Int) <= (k : Int) := by omega
   have i1 : (k : Int) < (n : Int) := by omega
   obtain ⟨e, he⟩ : ∃ e, l[k]? = some e := ⟨_, List.getElem?_eq_getElem (by have := HN.out; omega)⟩
   obtain ⟨rfl, c0⟩ := HS.out.text he hlt; have ln := SL_toList e; have lm := SL_toList t; have HE := h_ he; clear he; by_cases hq : t = e
   ·subst hq
    have hb : (t == t) = true := beq_self_eq_true _
    go_wp2; go_ret; exact ⟨_, rfl, .inl ⟨by omega, k, hlt, HE.out⟩, rfl⟩
   ·have hb : (t == e) = false := by simpa using hq
    go_wp2; go_roundw
    case rel => exact ⟨k + 1, by go_num, by omega, among_next HE.out HT.out hq, trivial⟩
    case measure => simp [intOf]; omega
  ·obtain rfl : k = n := by omega
   have i1 : ¬ (k : Int) < (k : Int) := by omega
   go_wp2; go_ret; exact ⟨_, rfl, .inr ⟨rfl, HT.out⟩, rfl⟩
theorem contains_any (F : Nat -> Prop) (ao : Option Addr) (n cap g off : Nat) (l : List OB) (t : OB) (w : World) (h : SlAt w F ao n cap g off (tcells l)) (hn : n <= l.length) (hx : n <= 9223372036854775807) :
  Calls Tryz.prog 178 #[.slice ao n cap, .string (SL t)] w fun e w' => ∃ r : Bool, e = .returned (.bool r) /\ ((r = true /\ ∃ j : Nat, j < n /\ l[j]? = some t) \/ (r = false /\ ∀ a ∈ l.take n, a ≠ t)) /\ w' = w := by
 have hi := h_ (idIndex_any F ao n cap g off l t w h hn hx); clear h hn hx; go_enter Tryz.func178, Tryz.ntmps178; go_wp2_with (go_at_call 196; refine hi.out.mono ?_; rintro e w1 ⟨z, rfl, hz, rfl⟩; have HZ := h_ hz; clear hz)
 go_ret; refine ⟨_, rfl, ?_, rfl⟩; rcases HZ.out with ⟨h1, h2⟩ | ⟨h1, h2⟩
 ·exact .inl ⟨decide_eq_true h1, h2⟩
 ·exact .inr ⟨decide_eq_false (by omega), h2⟩
theorem sizeOfTexts (w : World) : (sizeOf (Tryz.prog.elem 31)).run Tryz.prog w = .ok 1 w := by kernel_rfl
theorem SlAt.texts_h {w : World} {F : Nat -> Prop} {ao : Option Addr} {n cap g off : Nat} {l : List OB} (h : SlAt w F ao n cap g off (tcells l)) (k : Nat) (hk : k <= n) (hl : n = l.length) :
  ∃ ao' : Option Addr, (∀ W : World, (Instr.slice 31 (.slice ao n cap) none (some (.int .i64 (k : Int))) none).run Tryz.prog W = .ok (.slice ao' k cap) W) /\ SlAt w F ao' k cap g off (tcells (l.take k)) := by
 have hle := h.le; refine ⟨if cap = 0 then ao else ao.map (·.add (0 * 1)), fun W => ?_, ?_⟩
 ·rw [run_slice_h W 31 ao _ cap (by kernel_rfl) .i64 (k : Int) (by omega) (by omega), sizeOfTexts]
  simp only [Result.andThen_ok, sliced, Int.toNat_natCast, Nat.sub_zero]
 ·refine ⟨by omega, h.top, fun hb => ?_, fun p => ?_, fun h0 => by subst h0; rfl, fun j u hu => ?_⟩
  ·by_cases hc : cap = 0
   ·omega
   ·rw [if_neg hc] at hb
    cases ao with
    | none => have := h.bare rfl; omega
    | some a => cases hb
  ·obtain ⟨e, p1, p2⟩ := h.src (by omega)
   refine ⟨?_, p1, p2⟩; rw [if_neg (by omega), e]
   simp [Addr.add]
  ·refine h.cell j u ?_
   simp only [tcells, List.getElem?_map, List.getElem?_take] at hu |-; split at hu
   ·exact hu
   ·simp at hu
theorem areIds_any (F : Nat -> Prop) (ao : Option Addr) (cap g off : Nat) (l : List OB) (w : World) (h : SlAt w F ao l.length cap g off (tcells l)) (hl : l.length <= 1000) :
  Calls Tryz.prog 159 #[.slice ao l.length cap] w fun e w' => e = .returned (.bool (l.all is32 && onceB l)) /\ w' = w := by
 obtain ⟨N, hN⟩ := nm_ (l.length); rw [<- hN] at h hl |-; have HN := h_ hN; have HS := h_ h; clear hN h; go_enter Tryz.func159, Tryz.ntmps159; go_wp2; go_loopw [7] (fun i W => ∃ k : Nat, i = .int .i64 (k : Int) /\ k <= N /\ UpsTo l k /\ W = w) (fun i _ => N - (intOf i).toNat)
 case atStart => exact ⟨0, rfl, Nat.zero_le _, upsTo_zero l, rfl⟩
 case round =>
  obtain ⟨k, rfl, hk, ht, rfl⟩ := hrel; have HT := h_ ht; clear ht; by_cases hlt : k < N
  ·have i0 : (0 : Int) <= (k : Int) := by omega
   have i1 : (k : Int) < (N : Int) := by omega
   obtain ⟨e, he⟩ : ∃ e, l[k]? = some e := ⟨_, List.getElem?_eq_getElem (by have := HN.out; omega)⟩
   obtain ⟨ao', hsl, hsa⟩ := HS.out.texts_h k hk HN.out; obtain ⟨rfl, c0⟩ := HS.out.text he hlt; have hid := h_ (fun W => isId_any e W)
   have hct := h_ (contains_any F ao' k cap g off (l.take k) e _ hsa (by rw [List.length_take]; have := HN.out; omega) (by omega))
   have HE := h_ he; have hno : is32 e = false -> l.all is32 = false := fun h => by
    cases hq : l.all is32 with
    | false => rfl
    | true => rw [List.all_eq_true.1 hq e (List.mem_of_getElem? HE.out)] at h; cases h
   have HNO := h_ hno; clear he hsa hno
   cases hq : is32 e with
   | false =>
    rw [hq] at hid; have hv := HNO.out hq; clear hq; go_wp2_with (go_at_call 158; refine (hid.out _).mono ?_; rintro e1 w1 ⟨rfl, rfl⟩)
    go_ret; exact ⟨by rw [hv]; rfl, rfl⟩
   | true =>
    rw [hq] at hid; have HQ := h_ hq; clear hq; go_wp2_with (first
     | (go_at_call 158; refine (hid.out _).mono ?_; rintro e1 w1 ⟨rfl, rfl⟩)
     | (go_at_call 178; refine hct.out.mono ?_; rintro e1 w1 ⟨r, rfl, hr, rfl⟩; have HR := h_ hr; clear hr))
    ·go_ret
     rename_i hr1; rcases HR.out with ⟨_, j, hj, hje⟩ | ⟨h1, _⟩
     ·rw [List.getElem?_take, if_pos hj] at hje
      have hn : onceB l = false := by
       cases ho : onceB l with
       | false => rfl
       | true =>
        have h1 := (once_iff l).1 ho; obtain ⟨hj1, hj2⟩ := List.getElem?_eq_some_iff.1 hje; obtain ⟨hk1, hk2⟩ := List.getElem?_eq_some_iff.1 HE.out; exact absurd (by rw [hj2, hk2]) (List.pairwise_iff_getElem.1 h1 j k hj1 hk1 hj)
      exact ⟨by rw [hn, Bool.and_false]; rfl, rfl⟩
     ·exact absurd (h1.symm.trans hr1) (by decide)
    ·rename_i hr1
     go_roundw
     case rel =>
      refine ⟨k + 1, by go_num, by omega, HT.out.next HE.out (of_decide_eq_true HQ.out) ?_, trivial⟩
      rcases HR.out with ⟨h1, _⟩ | ⟨_, h2⟩
      ·exact absurd h1 (by simpa using hr1)
      ·intro t ht
       refine h2 t ?_; rw [List.take_take, Nat.min_self]; exact ht
     case measure => simp [intOf]; omega
  ·obtain rfl : k = N := by omega
   have i1 : ¬ (k : Int) < (k : Int) := by omega
   have h1 := HT.out.1; have h2 := HT.out.2; rw [HN.out, List.take_length] at h1 h2; have hv : (l.all is32 && onceB l) = true := by rw [h1, (once_iff l).2 h2]; rfl
   have HV := h_ hv; clear hv h1 h2; go_wp2; go_ret; exact ⟨by rw [HV.out]; rfl, rfl⟩
end
section
open Go.RowKit
theorem noteMay_any (o : ObjR) (w : World) :
  Calls Tryz.prog 160 #[.agg #[.string (SL o.who), .int .i64 o.stamp, .string (SL o.text)]] w fun e w' => e = .returned (.bool (toldB o)) /\ Below w.heap.size w w' := by
 have hw := h_ (fun W => isShort_any o.who 0 1000 W)
 have ht := h_ (fun W => isShort_any o.text 0 1000 W)
 have hn := h_ (fun v : Obj => (Below.refl w.heap.size w).alloc (Nat.le_refl _) v)
 have hv : toldB o = (decide (o.who.length <= 1000) && decide (o.text.length <= 1000) && decide (0 <= o.stamp) && decide (o.stamp <= 1099511627776)) := rfl
 rw [hv]; obtain ⟨b1, hb1⟩ := nm_ (decide (o.who.length <= 1000))
 obtain ⟨b2, hb2⟩ := nm_ (decide (o.text.length <= 1000))
 rw [<- hb1, <- hb2]; simp only [Nat.zero_le, decide_true, Bool.true_and, <- hb1] at hw; simp only [Nat.zero_le, decide_true, Bool.true_and, <- hb2] at ht; obtain ⟨z, hz⟩ := nm_ (o.stamp); rw [<- hz]; clear hb1 hb2 hz hv
 cases b1 with
 | false =>
  go_enter Tryz.func160, Tryz.ntmps160; go_wp2_with (go_at_call_of 161 (SL o.who); refine (hw.out _).mono ?_; rintro e w1 ⟨rfl, rfl⟩)
  go_ret; exact ⟨rfl, hn.out _⟩
 | true =>
  cases b2 with
  | false =>
   go_enter Tryz.func160, Tryz.ntmps160; go_wp2_with (first
    | (go_at_call_of 161 (SL o.who); refine (hw.out _).mono ?_; rintro e w1 ⟨rfl, rfl⟩)
    | (go_at_call_of 161 (SL o.text); refine (ht.out _).mono ?_; rintro e w1 ⟨rfl, rfl⟩))
   go_ret; exact ⟨rfl, hn.out _⟩
  | true =>
   by_cases h3 : 0 <= z
   ·rw [decide_eq_true h3]
    go_enter Tryz.func160, Tryz.ntmps160; go_wp2_with (first
     | (go_at_call_of 161 (SL o.who); refine (hw.out _).mono ?_; rintro e w1 ⟨rfl, rfl⟩)
     | (go_at_call_of 161 (SL o.text); refine (ht.out _).mono ?_; rintro e w1 ⟨rfl, rfl⟩))
    go_ret; exact ⟨rfl, hn.out _⟩
   ·rw [decide_eq_false h3]
    go_enter Tryz.func160, Tryz.ntmps160; go_wp2_with (first
     | (go_at_call_of 161 (SL o.who); refine (hw.out _).mono ?_; rintro e w1 ⟨rfl, rfl⟩)
     | (go_at_call_of 161 (SL o.text); refine (ht.out _).mono ?_; rintro e w1 ⟨rfl, rfl⟩))
    go_ret; exact ⟨rfl, hn.out _⟩
/-! ### A tree's entries -/
def aheadOf (l : List EntR) (k : Nat) : OB := match k with | 0 => [] | k + 1 => (l[k]?.map (fun e => e.nm)).getD []
theorem ahead_succ {l : List EntR} {k : Nat} {e : EntR} (h : l[k]? = some e) : aheadOf l (k + 1) = e.nm := by
 show (l[k]?.map (fun e => e.nm)).getD [] = e.nm
 rw [h]; rfl
theorem name_some {e : EntR} (h : partB e.nm = true) : ([] : OB) < e.nm := by
 cases hn : e.nm with
 | nil => rw [hn] at h; simp [partB] at h
 | cons a r => exact List.nil_lt_cons a r
theorem ents_next {l : List EntR} {k : Nat} {e : EntR} (h : EntsTo l k) (he : l[k]? = some e) (h2 : entB e = true) (h3 : aheadOf l k < e.nm) : EntsTo l (k + 1) := by
 cases k with
 | zero => exact EntsTo.first he h2
 | succ k =>
  have hk : k < l.length := by have := (List.getElem?_eq_some_iff.1 he).1; omega
  obtain ⟨a, ha⟩ : ∃ a, l[k]? = some a := ⟨_, List.getElem?_eq_getElem hk⟩
  rw [ahead_succ ha] at h3; exact h.next ha he h2 h3
theorem ents_back {l : List EntR} {k : Nat} {e : EntR} (he : l[k]? = some e) (hp : partB e.nm = true) (h3 : ¬ aheadOf l k < e.nm) : entsB l = false := by
 cases k with
 | zero => exact absurd (name_some hp) h3
 | succ k =>
  have hk : k < l.length := by have := (List.getElem?_eq_some_iff.1 he).1; omega
  obtain ⟨a, ha⟩ : ∃ a, l[k]? = some a := ⟨_, List.getElem?_eq_getElem hk⟩
  rw [ahead_succ ha] at h3; exact ents_falls ha he h3
theorem treeMay_any (F : Nat -> Prop) (v : Value) (l : List EntR) (w : World) (h : EntsAt w F v l) :
  Calls Tryz.prog 157 #[v] w fun e w' => e = .returned (.bool (entsB l)) /\ Below w.heap.size w w' := by
 obtain ⟨ao, cap, g, off, rfl, hsl⟩ := h; obtain ⟨N, hN⟩ := nm_ (l.length); rw [<- hN] at hsl |-; have HN := h_ hN; have HS := h_ hsl; clear hN hsl; by_cases hbig : N > 4096
 ·have i0 : (N : Int) > 4096 := by omega
  have hv : entsB l = false := by
   unfold entsB; rw [<- HN.out, decide_eq_false (by omega : ¬ N <= 4096), Bool.and_false]
  rw [hv]; clear hbig hv; go_enter Tryz.func157, Tryz.ntmps157; go_wp2; go_ret; exact ⟨rfl, Below.refl _ _⟩
 ·have i0 : ¬ (N : Int) > 4096 := by omega
  obtain ⟨x, hx⟩ := nm_ (w.heap.size); rw [<- hx]; have HX := h_ hx; have HS2 := h_ (fun (W : World) (hb : Below x w W) => HS.out.turn (Turn.of_below (fun _ => False) (by rw [<- hx]; exact hb)) (fun _ _ h => h))
  clear hx; go_enter Tryz.func157, Tryz.ntmps157; go_wp2; go_loopw [3, 11] (fun a i W => ∃ k : Nat, i = .int .i64 (k : Int) /\ a = .string (SL (aheadOf l k)) /\ k <= N /\ EntsTo l k /\ Below x w W) (fun _ i _ => N - (intOf i).toNat)
  case atStart => exact ⟨0, rfl, rfl, Nat.zero_le _, entsTo_zero l, by rw [HX.out]; exact Below.refl _ _⟩
  case round =>
   obtain ⟨k, rfl, rfl, hk, ht, hB⟩ := hrel; have HT := h_ ht; have BB := h_ hB; clear ht hB; by_cases hlt : k < N
   ·have j0 : (0 : Int) <= (k : Int) := by omega
    have j1 : (k : Int) < (N : Int) := by omega
    obtain ⟨e, he⟩ : ∃ e, l[k]? = some e := ⟨_, List.getElem?_eq_getElem (by rw [<- HN.out]; exact hlt)⟩
    obtain ⟨rfl, c0, c1, c2⟩ := (HS2.out wr BB.out).entry he hlt; have hpt := h_ (fun W => part_any e.nm W)
    have hid := h_ (fun W => isId_any e.id W)
    have hbl := BB.out.alloc (by have := BB.out.size; have := HX.out; omega) (.cells #[.string (SL e.nm), .bool e.dir, .string (SL e.id)] 84)
    obtain ⟨W1, hW1⟩ := nm_ (wr.alloc (.cells #[.string (SL e.nm), .bool e.dir, .string (SL e.id)] 84)); have hrow : ∀ W, Below W1.heap.size W1 W -> W.cell? ⟨wr.heap.size, 0, none⟩ = some (.string (SL e.nm)) /\ W.cell? ⟨wr.heap.size, 2, none⟩ = some (.string (SL e.id)) := fun W hb => by
     have h0 : W1.heap[wr.heap.size]? = some (.cells #[.string (SL e.nm), .bool e.dir, .string (SL e.id)] 84 (0, 0)) := by rw [hW1]; exact heap_alloc_new _ _
     have h1 := below_turn hb h0; exact ⟨cell_of_row _ _ _ _ _ _ h1, cell_of_row _ _ _ _ _ _ h1⟩
    rw [<- hW1] at hbl; have ROW := h_ hrow; have HBL := h_ hbl; have HE := h_ he; have la := SL_toList e.nm; have lb := SL_toList (aheadOf l k); obtain ⟨q, hq⟩ := nm_ (aheadOf l k); rw [<- hq] at lb |-; have HQ := h_ hq; have HW1 := h_ hW1; clear hrow hbl he hq hW1
    cases hp : partB e.nm with
    | false =>
     rw [hp] at hpt; have hv : entsB l = false := ents_not HE.out (by unfold entB; rw [hp]; rfl)
     have HV := h_ hv; clear hv hp; go_wp2_with fail; rw [<- HW1.out]; go_wp2_with (first
      | (go_at_call 177; refine (hpt.out _).mono ?_; rintro e1 w2 ⟨rfl, b2⟩; obtain ⟨r0, r2⟩ := ROW.out w2 b2; have BB2 := h_ (HBL.out.trans (b2.mono (by have := HBL.out.size; have := HX.out; omega))); clear b2)
      | (go_at_call 158; refine (hid.out _).mono ?_; rintro e1 w3 ⟨rfl, rfl⟩))
     go_ret; exact ⟨by rw [HV.out]; rfl, BB2.out⟩
    | true =>
     rw [hp] at hpt; have HP := h_ hp; clear hp
     cases hm : is32 e.id with
     | false =>
      rw [hm] at hid; have hv : entsB l = false := ents_not HE.out (by unfold entB; rw [show decide (e.id.length = 32) = false from hm, Bool.and_false])
      have HV := h_ hv; clear hv hm; go_wp2_with fail; rw [<- HW1.out]; go_wp2_with (first
      | (go_at_call 177; refine (hpt.out _).mono ?_; rintro e1 w2 ⟨rfl, b2⟩; obtain ⟨r0, r2⟩ := ROW.out w2 b2; have BB2 := h_ (HBL.out.trans (b2.mono (by have := HBL.out.size; have := HX.out; omega))); clear b2)
      | (go_at_call 158; refine (hid.out _).mono ?_; rintro e1 w3 ⟨rfl, rfl⟩))
      go_ret; exact ⟨by rw [HV.out]; rfl, BB2.out⟩
     | true =>
      rw [hm] at hid; have heb : entB e = true := by unfold entB; rw [HP.out, show decide (e.id.length = 32) = true from hm]; rfl
      have HEB := h_ heb; clear hm heb; by_cases hl : q < e.nm
      ·have hb : Op.bytesLess e.nm q = false := by rw [bytesLess_eq]; exact decide_eq_false (List.lt_asymm hl)
       have hc : (e.nm == q) = false := by
        rw [beq_eq_false_iff_ne]; intro e1
        rw [e1] at hl; exact List.lt_irrefl _ hl
       have hnx : EntsTo l (k + 1) := ents_next HT.out HE.out HEB.out (by rw [<- HQ.out]; exact hl)
       have hah : aheadOf l (k + 1) = e.nm := ahead_succ HE.out
       have HNX := h_ hnx; have HAH := h_ hah; clear hl hnx hah; go_wp2_with fail; rw [<- HW1.out]; go_wp2_with (first
      | (go_at_call 177; refine (hpt.out _).mono ?_; rintro e1 w2 ⟨rfl, b2⟩; obtain ⟨r0, r2⟩ := ROW.out w2 b2; have BB2 := h_ (HBL.out.trans (b2.mono (by have := HBL.out.size; have := HX.out; omega))); clear b2)
      | (go_at_call 158; refine (hid.out _).mono ?_; rintro e1 w3 ⟨rfl, rfl⟩))
       go_roundw
       case rel => exact ⟨k + 1, by go_num, by rw [HAH.out], by omega, HNX.out, BB2.out⟩
       case measure => simp [intOf]; omega
      ·have hv : entsB l = false := ents_back HE.out HP.out (by rw [<- HQ.out]; exact hl)
       have HV := h_ hv; by_cases hl2 : e.nm < q
       ·have hb : Op.bytesLess e.nm q = true := by rw [bytesLess_eq]; exact decide_eq_true hl2
        clear hl hl2 hv; go_wp2_with fail; rw [<- HW1.out]; go_wp2_with (first
      | (go_at_call 177; refine (hpt.out _).mono ?_; rintro e1 w2 ⟨rfl, b2⟩; obtain ⟨r0, r2⟩ := ROW.out w2 b2; have BB2 := h_ (HBL.out.trans (b2.mono (by have := HBL.out.size; have := HX.out; omega))); clear b2)
      | (go_at_call 158; refine (hid.out _).mono ?_; rintro e1 w3 ⟨rfl, rfl⟩))
        go_ret; exact ⟨by rw [HV.out]; rfl, BB2.out⟩
       ·have hc : (e.nm == q) = true := by
         rw [beq_iff_eq]; exact List.le_antisymm (List.not_lt.1 hl) (List.not_lt.1 hl2)
        have hb : Op.bytesLess e.nm q = false := by rw [bytesLess_eq]; exact decide_eq_false hl2
        clear hl hl2 hv; go_wp2_with fail; rw [<- HW1.out]; go_wp2_with (first
      | (go_at_call 177; refine (hpt.out _).mono ?_; rintro e1 w2 ⟨rfl, b2⟩; obtain ⟨r0, r2⟩ := ROW.out w2 b2; have BB2 := h_ (HBL.out.trans (b2.mono (by have := HBL.out.size; have := HX.out; omega))); clear b2)
      | (go_at_call 158; refine (hid.out _).mono ?_; rintro e1 w3 ⟨rfl, rfl⟩))
        go_ret; exact ⟨by rw [HV.out]; rfl, BB2.out⟩
   ·obtain rfl : k = N := by omega
    have i1 : ¬ (k : Int) < (k : Int) := by omega
    have hv : entsB l = true := by
     have := HT.out
     rw [HN.out] at this; rw [this.all]; exact decide_eq_true (by rw [<- HN.out]; omega)
    have HV := h_ hv; clear hv; go_wp2; go_ret; exact ⟨by rw [HV.out]; rfl, BB.out⟩
end
section
open Go.RowKit
attribute [local go_sem] as_blob as_blob_tree as_blob_commit as_blob_tag as_blob_nil as_tree as_tree_blob as_tree_commit as_tree_tag as_tree_nil as_commit as_commit_blob as_commit_tree as_commit_tag as_commit_nil as_tag as_tag_blob as_tag_tree as_tag_commit as_tag_nil
theorem may_one {o : ObjR} (h : o.kind = 1) : mayO o = decide (o.data.length <= 1048576) := by unfold mayO; rw [if_pos h]
theorem may_two {o : ObjR} (h : o.kind = 2) : mayO o = entsB o.ents := by unfold mayO; rw [if_neg (by omega), if_pos h]
theorem may_three {o : ObjR} (h : o.kind = 3) : mayO o = (decide (o.tree.length = 32) && upsB o.ups && toldB o) := by unfold mayO; rw [if_neg (by omega), if_neg (by omega), if_pos h]
theorem may_four {o : ObjR} (h : o.kind = 4) : mayO o = (decide (o.target.length = 32) && (decide (1 <= o.name.length) && decide (o.name.length <= 200)) && toldB o) := by unfold mayO; rw [if_neg (by omega), if_neg (by omega), if_neg (by omega), if_pos h]
theorem may_none {o : ObjR} (h1 : ¬ o.kind = 1) (h2 : ¬ o.kind = 2) (h3 : ¬ o.kind = 3) (h4 : ¬ o.kind = 4) : mayO o = false := by unfold mayO; rw [if_neg h1, if_neg h2, if_neg h3, if_neg h4]
theorem mayObj_any (F : Nat -> Prop) (o : ObjR) (a1 : Option Addr) (c1 : Nat) (a2 : Option Addr) (c2 : Nat) (a3 : Option Addr) (c3 : Nat) (w : World)
  (h : ObjIn w F o (.slice a1 o.data.length c1) (.slice a2 o.ents.length c2) (.slice a3 o.ups.length c3)) :
  Calls Tryz.prog 123 #[bodyV o (.slice a1 o.data.length c1) (.slice a2 o.ents.length c2) (.slice a3 o.ups.length c3)] w fun e w' => e = .returned (.bool (mayO o)) /\ Below w.heap.size w w' := by
 have hents := treeMay_any F (.slice a2 o.ents.length c2) o.ents w h.ents; have hups : ∀ W, Below w.heap.size w W -> o.ups.length <= 4 -> Calls Tryz.prog 159 #[.slice a3 o.ups.length c3] W fun e w' => e = .returned (.bool (o.ups.all is32 && onceB o.ups)) /\ w' = W := fun W hb hl => by
  obtain ⟨ao, cap, g, off, e, hs⟩ := h.ups
  cases e
  exact areIds_any F _ _ g off o.ups W (hs.turn (Turn.of_below (fun _ => False) hb) (fun _ _ h => h)) (by omega)
 have hnote := noteMay_any o; have hid := isId_any; have hsh := fun W => isShort_any o.name 1 200 W
 have hn := h_ (fun v : Obj => (Below.refl w.heap.size w).alloc (Nat.le_refl _) v)
 clear h; obtain ⟨n1, hn1⟩ := nm_ (o.data.length); obtain ⟨n2, hn2⟩ := nm_ (o.ents.length); obtain ⟨n3, hn3⟩ := nm_ (o.ups.length); rw [<- hn1, <- hn2, <- hn3]; rw [<- hn2] at hents; rw [<- hn3] at hups; by_cases h1 : o.kind = 1
 ·unfold bodyV
  rw [may_one h1, if_pos h1, <- hn1]; clear hents hups hnote hid hsh hn1 hn2 hn3 h1; by_cases hq : n1 <= 1048576
  ·have i1 : (n1 : Int) <= 1048576 := by omega
   rw [decide_eq_true hq]; clear hq; go_enter Tryz.func123, Tryz.ntmps123; go_wp2; go_ret; exact ⟨rfl, Below.refl _ _⟩
  ·have i1 : ¬ (n1 : Int) <= 1048576 := by omega
   have i2 : decide ((n1 : Int) <= 1048576) = false := by simpa using i1
   rw [decide_eq_false hq]; clear hq; go_enter Tryz.func123, Tryz.ntmps123; go_wp2; go_ret; exact ⟨rfl, Below.refl _ _⟩
 ·by_cases h2 : o.kind = 2
  ·unfold bodyV
   rw [may_two h2, if_neg h1, if_pos h2]; have HE := h_ hents; clear hents hups hnote hid hsh hn1 hn2 hn3 h1 h2; go_enter Tryz.func123, Tryz.ntmps123; go_wp2_with (go_at_call 157; refine HE.out.mono ?_; rintro e w1 ⟨rfl, b1⟩; have B1 := h_ b1; clear b1)
   go_ret; exact ⟨rfl, B1.out⟩
  ·by_cases h3 : o.kind = 3
   ·unfold bodyV
    rw [may_three h3, if_neg h1, if_neg h2, if_pos h3]; have hbl := (Below.refl w.heap.size w).alloc (Nat.le_refl _) (.cells #[.string (SL o.tree), .slice a3 n3 c3, .string (SL o.who), .int .i64 o.stamp, .string (SL o.text)] 172); have HB := h_ hbl; have HI := h_ (fun W => hid o.tree W)
    have hu : upsB o.ups = ((o.ups.all is32 && onceB o.ups) && decide (n3 <= 4)) := by unfold upsB; rw [<- hn3]; rfl
    rw [hu, show decide (o.tree.length = 32) = is32 o.tree from rfl]
    obtain ⟨bi, hbi⟩ := nm_ (is32 o.tree); obtain ⟨ba, hba⟩ := nm_ ((o.ups.all is32 && onceB o.ups)); obtain ⟨bt, hbt⟩ := nm_ (toldB o); rw [<- hbi, <- hba, <- hbt]; rw [<- hbi] at HI; rw [<- hba] at hups; rw [<- hbt] at hnote; have HU := h_ hups; have HT := h_ hnote; clear hents hups hnote hid hsh hn1 hn2 hn3 h1 h2 h3 hu hbi hba hbt hbl
    cases bi with
    | false =>
     go_enter Tryz.func123, Tryz.ntmps123; go_wp2_with (go_at_call 158; refine (HI.out _).mono ?_; rintro e w1 ⟨rfl, rfl⟩)
     go_ret; exact ⟨rfl, HB.out⟩
    | true =>
     by_cases hq : n3 <= 4
     ·have i1 : (n3 : Int) <= 4 := by omega
      have HU2 := h_ (fun W hb => HU.out W hb hq)
      rw [decide_eq_true hq]; clear hq
      cases ba with
      | false =>
       go_enter Tryz.func123, Tryz.ntmps123; go_wp2_with (first
        | (go_at_call 158; refine (HI.out _).mono ?_; rintro e w1 ⟨rfl, rfl⟩)
        | (go_at_call 159; refine (HU2.out _ HB.out).mono ?_; rintro e w1 ⟨rfl, rfl⟩))
       go_ret; exact ⟨rfl, HB.out⟩
      | true =>
       go_enter Tryz.func123, Tryz.ntmps123; go_wp2_with (first
        | (go_at_call 158; refine (HI.out _).mono ?_; rintro e w1 ⟨rfl, rfl⟩)
        | (go_at_call 159; refine (HU2.out _ HB.out).mono ?_; rintro e w1 ⟨rfl, rfl⟩)
        | (go_at_call 160; refine (HT.out _).mono ?_; rintro e w2 ⟨rfl, b2⟩; have B2 := h_ (HB.out.trans (b2.mono HB.out.size)); clear b2))
       go_ret; exact ⟨rfl, B2.out⟩
     ·have i1 : ¬ (n3 : Int) <= 4 := by omega
      rw [decide_eq_false hq, Bool.and_false, Bool.and_false]; clear hq; go_enter Tryz.func123, Tryz.ntmps123; go_wp2_with (go_at_call 158; refine (HI.out _).mono ?_; rintro e w1 ⟨rfl, rfl⟩)
      go_ret; exact ⟨rfl, HB.out⟩
   ·by_cases h4 : o.kind = 4
    ·unfold bodyV
     rw [may_four h4, if_neg h1, if_neg h2, if_neg h3, if_pos h4]; have hbl := (Below.refl w.heap.size w).alloc (Nat.le_refl _) (.cells #[.string (SL o.target), .string (SL o.name), .string (SL o.who), .int .i64 o.stamp, .string (SL o.text)] 174); have HB := h_ hbl; have HI := h_ (fun W => hid o.target W)
     have HS := h_ hsh; rw [show decide (o.target.length = 32) = is32 o.target from rfl]
     obtain ⟨bi, hbi⟩ := nm_ (is32 o.target); obtain ⟨ba, hba⟩ := nm_ ((decide (1 <= o.name.length) && decide (o.name.length <= 200)))
     obtain ⟨bt, hbt⟩ := nm_ (toldB o); rw [<- hbi, <- hba, <- hbt]; rw [<- hbi] at HI; rw [<- hba] at HS; rw [<- hbt] at hnote; have HT := h_ hnote; clear hents hups hnote hid hsh hn1 hn2 hn3 h1 h2 h3 h4 hbi hba hbt hbl
     cases bi with
     | false =>
      go_enter Tryz.func123, Tryz.ntmps123; go_wp2_with (go_at_call 158; refine (HI.out _).mono ?_; rintro e w1 ⟨rfl, rfl⟩)
      go_ret; exact ⟨rfl, HB.out⟩
     | true =>
      cases ba with
      | false =>
       go_enter Tryz.func123, Tryz.ntmps123; go_wp2_with (first
        | (go_at_call 158; refine (HI.out _).mono ?_; rintro e w1 ⟨rfl, rfl⟩)
        | (go_at_call 161; refine (HS.out _).mono ?_; rintro e w1 ⟨rfl, rfl⟩))
       go_ret; exact ⟨rfl, HB.out⟩
      | true =>
       go_enter Tryz.func123, Tryz.ntmps123; go_wp2_with (first
        | (go_at_call 158; refine (HI.out _).mono ?_; rintro e w1 ⟨rfl, rfl⟩)
        | (go_at_call 161; refine (HS.out _).mono ?_; rintro e w1 ⟨rfl, rfl⟩)
        | (go_at_call 160; refine (HT.out _).mono ?_; rintro e w2 ⟨rfl, b2⟩; have B2 := h_ (HB.out.trans (b2.mono HB.out.size)); clear b2))
       go_ret; exact ⟨rfl, B2.out⟩
    ·unfold bodyV
     rw [may_none h1 h2 h3 h4, if_neg h1, if_neg h2, if_neg h3, if_neg h4]; clear hents hups hnote hid hsh hn1 hn2 hn3 h1 h2 h3 h4; go_enter Tryz.func123, Tryz.ntmps123; go_wp2; go_ret; exact ⟨rfl, Below.refl _ _⟩
end
end Go.Proofs.YtomgijcbekjlaaaGreat
