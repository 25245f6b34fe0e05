/- What the proofs stand on: PressFour, RefPressAlike, RefPress, PressFourAt, PressAlike, PressAhead, PressChain. -/
import Derived.DeepKeys4
import Derived.Maps.OwnSet
import Derived.Deep.MidRow
import Derived.Test.YtomgijcbekjlaaaGreatP2
import Derived.Test.YtomgijcbekjlaaaGreatP0
import Derived.Laws.Rows
import Derived.Deep.QuietTactic
import Derived.Laws.Alloc2
import Derived.Test.YtomgijcbekjlaaaGreatPB0
import Derived.Test.YtomgijcbekjlaaaGreatPB1
set_option maxRecDepth 100000
set_option maxHeartbeats 40000000
namespace Go.Proofs.YtomgijcbekjlaaaGreat
section
open Go.RowKit
theorem row53 : (208 : TypeId) < Tryz.prog.types.size := of_decide_eq_true (by kernel_rfl)
theorem wide53 : (match Tryz.prog.underlying 208 with | some (.array _ _) | some (.struct _) => true | _ => false) = true := by rw [Tryz.underlying208]
theorem K53 : Maps.Keyed Tryz.prog 208 := Maps.Keyed.of_law (deep_law_laid Tryz.laidOut (m := 2) (by omega) row53 (by kernel_rfl) wide53)
theorem key53 : Tryz.prog.keyType 208 = true := by kernel_rfl
theorem cells53 : Tryz.prog.cellsOf 208 = 4 := by kernel_rfl
theorem byteWf (x : UInt8) : (Lit.int .u8 (x.toNat : Int)).wf = true := by
 have := x.toNat_lt
 have e1 : IntKind.min .u8 = 0 := rfl
 have e2 : IntKind.max .u8 = 255 := rfl
 show (decide (IntKind.min .u8 <= (x.toNat : Int)) && decide ((x.toNat : Int) <= IntKind.max .u8)) = true
 rw [e1, e2, decide_eq_true (by omega), decide_eq_true (by omega)]
 rfl
theorem keyLits_byte (d : Nat) (x : UInt8) : Tryz.prog.keyLits (d + 1) 5 [B8 x] = some [.int .u8 (x.toNat : Int)] := by
 have := byteWf x
 simp [Program.keyLits, Tryz.underlying5, B8, this]
theorem keyLits_four (d : Nat) (x0 x1 x2 x3 : UInt8) : Tryz.prog.keyLits (d + 2) 208 [B8 x0, B8 x1, B8 x2, B8 x3] = some [.int .u8 (x0.toNat : Int), .int .u8 (x1.toNat : Int), .int .u8 (x2.toNat : Int), .int .u8 (x3.toNat : Int)] := by
 have h := keyLits_byte d; rw [Program.keyLits.eq_def]; simp only [Tryz.underlying208, cells5, cells53]; simp [List.range, List.range.loop, h]
def fourV (f : List UInt8) : Value := .agg (cells8 f)
theorem fourV_key (f : List UInt8) (hf : f.length = 4) : ∃ l, keyOf Tryz.prog 208 (fourV f) = some l := by
 match f, hf with
 | [x0, x1, x2, x3], _ =>
  unfold keyOf; rw [Tryz.underlying208]; have hs : Tryz.prog.types.size + 1 = (Tryz.prog.types.size - 1) + 2 := by
   have h := row53; have h2 : (208 : Nat) < Tryz.prog.types.size := h; omega
  have e : (fourV [x0, x1, x2, x3]).cells.toList = [B8 x0, B8 x1, B8 x2, B8 x3] := rfl
  have hform : (fourV [x0, x1, x2, x3]).formed Tryz.prog 208 = true := by
   simp [Value.formed, fourV, Tryz.underlying208, cells53, cells8]
  simp only [key53, hform, Bool.and_self, if_true, e]; rw [hs, keyLits_four]; exact ⟨_, rfl⟩
theorem fourV_inj {f g : List UInt8} (h : fourV f = fourV g) : f = g := by
 unfold fourV cells8 at h; have h1 : f.map B8 = g.map B8 := by simpa using h
 refine (List.map_inj_right ?_).1 h1; intro x y hxy
 unfold B8 at hxy; have : (x.toNat : Int) = y.toNat := by simpa using hxy
 exact UInt8.toNat_inj.1 (by omega)
noncomputable def fourK (f : List UInt8) : Lit := (keyOf Tryz.prog 208 (fourV f)).getD (.bool false)
theorem fourK_is {f : List UInt8} (hf : f.length = 4) : keyOf Tryz.prog 208 (fourV f) = some (fourK f) := by
 obtain ⟨l, h⟩ := fourV_key f hf; unfold fourK; rw [h]; rfl
theorem fourK_ne {f g : List UInt8} (hf : f.length = 4) (hg : g.length = 4) (h : f ≠ g) : fourK f ≠ fourK g := fun e =>
 h (fourV_inj (K53.inj (fourK_is hf) (by rw [e]; exact fourK_is hg)))

/-! ### Places of four bytes -/
def four (b : List UInt8) (k : Nat) : List UInt8 := [b.getD k 0, b.getD (k + 1) 0, b.getD (k + 2) 0, b.getD (k + 3) 0]
theorem four_length (b : List UInt8) (k : Nat) : (four b k).length = 4 := rfl
theorem four_alike {b : List UInt8} {k i : Nat} (hi : i + 4 <= b.length) : four b k = four b i ↔ 4 <= alike b k i := by
 have ha := alike_is b k i (by omega)
 constructor
 ·intro h
  unfold four at h; simp only [List.cons.injEq, and_true] at h; obtain ⟨h0, h1, h2, h3⟩ := h; refine Nat.le_of_not_lt fun hlt => ?_
  rcases ha.stop with e | e | e
  ·omega
  ·omega
  ·have h4 : alike b k i = 0 \/ alike b k i = 1 \/ alike b k i = 2 \/ alike b k i = 3 := by omega
   rcases h4 with h4 | h4 | h4 | h4 <;> rw [h4] at e
   ·exact e h0
   ·exact e h1
   ·exact e h2
   ·exact e h3
 ·intro h
  have h0 := ha.eq 0 (by omega)
  have h1 := ha.eq 1 (by omega)
  have h2 := ha.eq 2 (by omega)
  have h3 := ha.eq 3 (by omega)
  simp only [Nat.add_zero] at h0; unfold four; rw [h0, h1, h2, h3]
def lastAt (b f : List UInt8) : Nat -> Option Nat
 | 0 => none
 | m + 1 => if four b m = f then some m else lastAt b f m
theorem lastAt_some {b f : List UInt8} : ∀ {m k : Nat}, lastAt b f m = some k -> k < m /\ four b k = f /\ ∀ j, k < j -> j < m -> four b j ≠ f
 | 0, k, h => by cases h
 | m + 1, k, h => by
  rw [lastAt] at h; split at h
  ·rename_i hf
   cases h
   exact ⟨Nat.lt_succ_self _, hf, fun j h1 h2 => by omega⟩
  ·rename_i hf
   obtain ⟨h1, h2, h3⟩ := lastAt_some h; refine ⟨by omega, h2, fun j h4 h5 => ?_⟩
   by_cases e : j = m
   ·rw [e]; exact hf
   ·exact h3 j h4 (by omega)
theorem lastAt_none {b f : List UInt8} : ∀ {m : Nat}, lastAt b f m = none -> ∀ j, j < m -> four b j ≠ f
 | 0, _, j, hj => by omega
 | m + 1, h, j, hj => by
  rw [lastAt] at h; split at h
  ·cases h
  ·rename_i hf
   by_cases e : j = m
   ·rw [e]; exact hf
   ·exact lastAt_none h j (by omega)
def reach (m : Nat) : Option Nat -> Option Nat
 | some k => if m <= k + 4096 then some k else none
 | none => none
def near (b f : List UInt8) (m : Nat) : Option Nat := reach m (lastAt b f m)
def ago (k : Nat) : Option Nat -> Nat
 | some j => k - j
 | none => 0
def backOf (b : List UInt8) (k : Nat) : Nat := ago k (reach (k + 1) (lastAt b (four b k) k))
theorem near_some {b f : List UInt8} {m k : Nat} (h : near b f m = some k) : k < m /\ m <= k + 4096 /\ four b k = f /\ ∀ j, k < j -> j < m -> four b j ≠ f := by
 unfold near reach at h
 cases hl : lastAt b f m with
 | none => rw [hl] at h; cases h
 | some j =>
  rw [hl] at h; simp only at h
  split at h
  ·cases h
   obtain ⟨h1, h2, h3⟩ := lastAt_some hl; exact ⟨h1, by assumption, h2, h3⟩
  ·cases h
theorem near_none {b f : List UInt8} {m : Nat} (h : near b f m = none) : ∀ j, j < m -> m <= j + 4096 -> four b j ≠ f := by
 unfold near reach at h
 cases hl : lastAt b f m with
 | none => exact fun j h1 _ => lastAt_none hl j h1
 | some k =>
  rw [hl] at h; simp only at h
  split at h
  ·cases h
  ·obtain ⟨h1, h2, h3⟩ := lastAt_some hl
   intro j h4 h5
   exact h3 j (by omega) h4
theorem reach_cases (b f : List UInt8) (m r : Nat) : reach r (lastAt b f m) = none /\ (∀ j, j < m -> r <= j + 4096 -> four b j ≠ f) \/ ∃ k, reach r (lastAt b f m) = some k /\ k < m /\ r <= k + 4096 /\ four b k = f /\ ∀ j, k < j -> j < m -> four b j ≠ f := by
 cases hl : lastAt b f m with
 | none => exact .inl ⟨rfl, fun j h1 _ => lastAt_none hl j h1⟩
 | some k =>
  obtain ⟨h1, h2, h3⟩ := lastAt_some hl; by_cases hr : r <= k + 4096
  ·exact .inr ⟨k, if_pos hr, h1, hr, h2, h3⟩
  ·exact .inl ⟨if_neg hr, fun j h4 h5 => h3 j (by omega) h4⟩
theorem backOf_some {b : List UInt8} {k : Nat} (h : 0 < backOf b k) : backOf b k <= k /\ backOf b k <= 4095 /\ four b (k - backOf b k) = four b k /\ ∀ j, k - backOf b k < j -> j < k -> four b j ≠ four b k := by
 unfold backOf at h |-
 rcases reach_cases b (four b k) k (k + 1) with ⟨e, _⟩ | ⟨j, e, h1, h2, h3, h4⟩
 ·rw [e] at h; exact absurd h (Nat.lt_irrefl _)
 ·rw [e]
  show k - j <= k /\ k - j <= 4095 /\ four b (k - (k - j)) = four b k /\ ∀ i, k - (k - j) < i -> i < k -> four b i ≠ four b k
  rw [show k - (k - j) = j by omega]
  exact ⟨by omega, by omega, h3, h4⟩
theorem backOf_none {b : List UInt8} {k : Nat} (h : backOf b k = 0) : ∀ j, j < k -> k <= j + 4095 -> four b j ≠ four b k := by
 unfold backOf at h; rcases reach_cases b (four b k) k (k + 1) with ⟨_, h1⟩ | ⟨j, e, h1, h2, h3, h4⟩
 ·exact fun j h2 h3 => h1 j h2 (by omega)
 ·rw [e] at h
  have : k - j = 0 := h
  omega

/-! ### The map -/
open Go.Maps
section
variable {H : Type}
def SaysOf (D : DataW H) (f : List UInt8) : Option Nat -> Prop
 | some k => has D (fourK f) = true /\ D.atKey (fourK f) (.lit (.int .i64 0)) = .lit (.int .i64 (k : Int))
 | none => has D (fourK f) = false
structure NearIs (D : DataW H) (b : List UInt8) (m : Nat) : Prop where
 map : IsMap D
 says : ∀ f, f.length = 4 -> SaysOf D f (near b f m)
structure NearGone (D : DataW H) (b : List UInt8) (m : Nat) : Prop where
 map : IsMap D
 says : ∀ f, f.length = 4 -> SaysOf D f (reach (m + 1) (lastAt b f m))
theorem nearIs_new (b : List UInt8) : NearIs (.map [] : DataW H) b 0 := ⟨isMap_empty, fun _ _ => rfl⟩
theorem key_lit {f : List UInt8} (hf : f.length = 4) : WideAt.IsKeyLit (fourK f) := K53.key (fourK_is hf)
theorem near_few {D : DataW H} {b : List UInt8} {m : Nat} (h : NearIs D b m) (hm : m < 4096) : NearGone D b m := by
 refine ⟨h.map, fun f hf => ?_⟩
 have e : reach (m + 1) (lastAt b f m) = near b f m := by
  unfold near reach
  cases lastAt b f m with
  | none => rfl
  | some k => simp only; rw [if_pos (by omega), if_pos (by omega)]
 rw [e]; exact h.says f hf
theorem near_other {b f : List UInt8} {m : Nat} (hm : 4096 <= m) (hf : four b (m - 4096) ≠ f) : reach (m + 1) (lastAt b f m) = near b f m := by
 unfold near reach
 cases hl : lastAt b f m with
 | none => rfl
 | some k =>
  obtain ⟨h1, h2, h3⟩ := lastAt_some hl; simp only
  by_cases h4 : m <= k + 4096
  ·rw [if_pos h4, if_pos ?_]
   by_cases h5 : m + 1 <= k + 4096
   ·exact h5
   ·exfalso
    have : k = m - 4096 := by omega
    rw [<- this] at hf; exact hf h2
  ·rw [if_neg h4, if_neg (by omega)]
theorem near_gone {b : List UInt8} {m : Nat} (hm : 4096 <= m) : ∃ k, near b (four b (m - 4096)) m = some k /\ m - 4096 <= k := by
 cases hn : near b (four b (m - 4096)) m with
 | none => exact absurd rfl (near_none hn (m - 4096) (by omega) (by omega))
 | some k => exact ⟨k, rfl, by have := near_some hn; omega⟩
theorem near_look {D : DataW H} {b : List UInt8} {m : Nat} (h : NearIs D b m) (hm : 4096 <= m) {c : Int} (hc : D.atKey (fourK (four b (m - 4096))) (.lit (.int .i64 0)) = .lit (.int .i64 c)) :
  ∃ k : Nat, c = k /\ near b (four b (m - 4096)) m = some k /\ m - 4096 <= k := by
 obtain ⟨k, h1, h2⟩ := near_gone (b := b) hm
 have h3 := h.says (four b (m - 4096)) rfl; rw [h1] at h3; have h4 := h3.2; rw [hc] at h4; simp only [DataW.lit.injEq, Lit.int.injEq, true_and] at h4; exact ⟨k, h4, h1, h2⟩
theorem near_del {D : DataW H} {b : List UInt8} {m : Nat} (h : NearIs D b m) (hm : 4096 <= m) (hn : near b (four b (m - 4096)) m = some (m - 4096)) : NearGone (D.del (fourK (four b (m - 4096)))) b m := by
 refine ⟨h.map.del _, fun f hf => ?_⟩
 by_cases e : four b (m - 4096) = f
 ·subst e
  have e1 : reach (m + 1) (lastAt b (four b (m - 4096)) m) = none := by
   unfold near reach at hn; unfold reach
   cases hl : lastAt b (four b (m - 4096)) m with
   | none => rfl
   | some k =>
    rw [hl] at hn; simp only at hn |-
    split at hn
    ·have hk := Option.some.inj hn; rw [if_neg (by omega)]
    ·cases hn
  rw [e1]; exact has_del_same
 ·rw [near_other hm e]
  have hne : fourK f ≠ fourK (four b (m - 4096)) := fourK_ne hf rfl (fun x => e x.symm)
  have h1 := h.says f hf
  cases hk : near b f m with
  | none =>
   rw [hk] at h1; show has _ _ = false
   rw [has_del_other hne]; exact h1
  | some k =>
   rw [hk] at h1; exact ⟨by rw [has_del_other hne]; exact h1.1, by rw [atKey_del_other hne]; exact h1.2⟩
theorem near_keep {D : DataW H} {b : List UInt8} {m k : Nat} (h : NearIs D b m) (hm : 4096 <= m) (hn : near b (four b (m - 4096)) m = some k) (hk : k ≠ m - 4096) : NearGone D b m := by
 refine ⟨h.map, fun f hf => ?_⟩
 by_cases e : four b (m - 4096) = f
 ·subst e
  have h2 := near_some hn; have e1 : reach (m + 1) (lastAt b (four b (m - 4096)) m) = some k := by
   unfold near reach at hn; unfold reach
   cases hl : lastAt b (four b (m - 4096)) m with
   | none => rw [hl] at hn; cases hn
   | some j =>
    rw [hl] at hn; simp only at hn |-
    split at hn
    ·cases hn; rw [if_pos (by omega)]
    ·cases hn
  rw [e1, <- hn]; exact h.says _ hf
 ·rw [near_other hm e]
  exact h.says f hf
theorem near_put {D : DataW H} {b : List UInt8} {m : Nat} (h : NearGone D b m) : NearIs (D.put (fourK (four b m)) (.lit (.int .i64 (m : Int)))) b (m + 1) := by
 refine ⟨h.map.put _ _, fun f hf => ?_⟩
 unfold near; rw [lastAt]; by_cases e : four b m = f
 ·subst e
  rw [if_pos rfl]; show SaysOf _ _ (if m + 1 <= m + 4096 then some m else none)
  rw [if_pos (by omega)]
  exact ⟨has_put_same h.map (key_lit rfl) _, atKey_put_same h.map (key_lit rfl) _ _⟩
 ·rw [if_neg e]
  have hne : fourK f ≠ fourK (four b m) := fourK_ne hf rfl (fun x => e x.symm)
  have h1 := h.says f hf
  cases hk : reach (m + 1) (lastAt b f m) with
  | none =>
   rw [hk] at h1; show has _ _ = false
   rw [has_put_other hne]; exact h1
  | some k =>
   rw [hk] at h1; exact ⟨by rw [has_put_other hne]; exact h1.1, by rw [atKey_put_other hne]; exact h1.2⟩
end
def BackIs (tab : Nat -> Int) (b : List UInt8) (m : Nat) : Prop := ∀ k, k < m -> m <= k + 4096 -> tab (k % 4096) = (backOf b k : Int)
theorem back_put {tab tab' : Nat -> Int} {b : List UInt8} {m : Nat} (h : BackIs tab b m) (h1 : tab' (m % 4096) = (backOf b m : Int)) (h2 : ∀ j, j < 4096 -> j ≠ m % 4096 -> tab' j = tab j) : BackIs tab' b (m + 1) := by
 intro k hk hr
 by_cases e : k = m
 ·rw [e]; exact h1
 ·rw [h2 _ (by omega) (by omega)]
  exact h k (by omega) (by omega)
end
section
open Go.RowKit
theorem ref_ret_int {k : IntKind} {a b : Int} (h : a = b) : Ending.returned (.int k a) = .returned (.int k b) := by rw [h]
theorem refAlike_any (ao : Option Addr) (cap : Nat) (bs : List UInt8) (B off : Nat) (k i : Nat) (w : World) (h : SrcAt w ao cap bs B off) (hs : bs.length <= 281474976710656) (hk : k < i) (hi : i < bs.length) :
  Calls Tryz.prog 150 #[.slice ao bs.length cap, .int .i64 (k : Int), .int .i64 (i : Int)] w fun e w' => e = .returned (.int .i64 (alike bs k i : Int)) /\ Below w.heap.size w w' := by
 obtain ⟨N, hN⟩ := nm_ (bs.length); have hNl : N <= bs.length := by omega
 obtain rfl := h.src (by omega)
 rw [<- hN] at hs hi |-; have HN := h_ hN; clear hN; go_enter Tryz.func150, Tryz.ntmps150; go_wp2; go_loopw [7] (fun x wr => ∃ y : Nat, x = .int .i64 (y : Int) /\ y <= 259 /\ i + y <= N /\ Below w.heap.size w wr /\ ∀ j, j < y -> bs.getD (k + j) 0 = bs.getD (i + j) 0) (fun x _ => 259 - (intOf x).toNat)
 case atStart => exact ⟨0, rfl, Nat.zero_le _, by omega, Below.refl _ _, fun j hj => absurd hj (Nat.not_lt_zero j)⟩
 case round =>
  obtain ⟨y, rfl, h1, h2, hb, he⟩ := hrel; have HE := h_ he; clear he; by_cases hlt : y < 259
  ·have hd0 : decide ((y : Int) < 259) = true := by simp; omega
   have hsum : IntKind.i64.wrap ((i : Int) + (y : Int)) = (i : Int) + (y : Int) := IntWalk.i64_in _ (by omega)
   by_cases hlt2 : i + y < N
   ·have hy := h.below hb
    have c1 : wr.cell? ⟨B, off + (k + y), none⟩ = some (.int .u8 ((bs.getD (k + y) 0).toNat : Int)) := hy.cell (k + y) (by omega)
    have c2 : wr.cell? ⟨B, off + (i + y), none⟩ = some (.int .u8 ((bs.getD (i + y) 0).toNat : Int)) := hy.cell (i + y) (by omega)
    obtain ⟨x1, hx1⟩ := nm_ (bs.getD (k + y) 0); obtain ⟨x2, hx2⟩ := nm_ (bs.getD (i + y) 0); rw [<- hx1] at c1; rw [<- hx2] at c2; have HX1 := h_ hx1; have HX2 := h_ hx2; have hltI : decide ((i : Int) + (y : Int) < (N : Int)) = true := by simp; omega
    clear hx1 hx2 hy; by_cases heq : x1 = x2
    ·subst heq
     go_wp2; go_quiet (fail)
     go_wp2; go_roundw
     case rel =>
      refine ⟨y + 1, by go_num, by omega, by omega, below_drewN hb _, fun j hj => ?_⟩
      by_cases e : j = y
      ·subst e; rw [<- HX1.out, <- HX2.out]
      ·exact HE.out j (by omega)
     case measure => simp [intOf]; omega
    ·have hq : ((x1.toNat : Int) == (x2.toNat : Int)) = false := by
      simp; exact fun e => heq (UInt8.toNat_inj.1 (by omega))
     clear heq; go_wp2; go_quiet (fail)
     go_wp2; go_ret; refine ⟨ref_ret_int (congrArg _ (alike_of ⟨by omega, by omega, HE.out, .inr (.inr ?_)⟩)), below_drewN hb _⟩
     rw [<- HX1.out, <- HX2.out]; intro e
     rw [e] at hq; simp at hq
   ·have hd : decide ((i : Int) + (y : Int) < (N : Int)) = false := by simp; omega
    go_wp2; go_quiet (fail)
    go_wp2; go_ret; refine ⟨ref_ret_int (congrArg _ (alike_of ⟨by omega, by omega, HE.out, .inr (.inl ?_)⟩)), below_drewN hb _⟩
    have := HN.out
    omega
  ·obtain rfl : y = 259 := by omega
   have hd0 : decide (((259 : Nat) : Int) < 259) = false := by simp
   go_wp2; go_quiet (fail)
   go_wp2; go_ret; exact ⟨ref_ret_int (congrArg _ (alike_of ⟨by omega, by omega, HE.out, .inl rfl⟩)), below_drewN hb _⟩
theorem refLongest_any (ao : Option Addr) (cap : Nat) (bs : List UInt8) (B off : Nat) (i : Nat) (w : World) (h : SrcAt w ao cap bs B off) (hs : bs.length <= 281474976710656) (hi : i < bs.length) :
  Calls Tryz.prog 111 #[.slice ao bs.length cap, .int .i64 (i : Int)] w fun e w' => e = .returned (.tuple #[.int .i64 ((longest bs i).1 : Int), .int .i64 ((longest bs i).2 : Int)]) /\ Below w.heap.size w w' := by
 have hal := fun k (hk : k < i) (W : World) (hW : SrcAt W ao cap bs B off) => refAlike_any ao cap bs B off k i W hW hs hk hi
 obtain ⟨N, hN⟩ := nm_ (bs.length); rw [<- hN] at hs hi hal |-; have HA := h_ hal; clear hN hal; go_enter Tryz.func111, Tryz.ntmps111; go_wp2; go_loopw [6, 7, 8] (fun x y z wr => ∃ d : Nat, z = .int .i64 ((d : Int) + 1) /\ d <= 4096 /\ d <= i /\ x = .int .i64 ((lng bs i d).1 : Int) /\ y = .int .i64 ((lng bs i d).2 : Int) /\ Below w.heap.size w wr) (fun _ _ z _ => 4097 - (intOf z).toNat)
 case atStart => exact ⟨0, rfl, Nat.zero_le _, Nat.zero_le _, rfl, rfl, Below.refl _ _⟩
 case round =>
  obtain ⟨d, rfl, h1, h2, rfl, rfl, hb⟩ := hrel; by_cases hlt : d < 4096 /\ d < i
  ·obtain ⟨h3, h4⟩ := hlt
   have hc := HA.out (i - (d + 1)) (by omega) wr (h.below hb)
   have e1 : ((i - (d + 1) : Nat) : Int) = (i : Int) - ((d : Int) + 1) := by omega
   rw [e1] at hc; obtain ⟨A, hA⟩ := nm_ (alike bs (i - (d + 1)) i); rw [<- hA] at hc; have HC := h_ hc; obtain ⟨L1, hL1⟩ := nm_ ((lng bs i d).1); obtain ⟨L2, hL2⟩ := nm_ ((lng bs i d).2); have hs1 : lng bs i (d + 1) = if L1 < A then (A, d + 1) else lng bs i d := by rw [hA, hL1]; rfl
   rw [<- hL1, <- hL2]; have HS := h_ hs1; have HL1 := h_ hL1; have HL2 := h_ hL2; clear e1 hc hA hL1 hL2 hs1; by_cases hgt : L1 < A
   all_goals
    go_wp2_with fail; refine HC.out.mono ?_; rintro e w1 ⟨rfl, b1⟩; have bb := hb.trans (b1.mono hb.size); go_wp2_with fail; go_roundw
    case rel =>
     refine ⟨d + 1, by go_num, by omega, by omega, ?_, ?_, bb⟩
     ·rw [HS.out]
      first
       | (rw [if_pos hgt])
       | (rw [if_neg hgt, HL1.out])
     ·rw [HS.out]
      first
       | (rw [if_pos hgt]; go_num)
       | (rw [if_neg hgt, HL2.out])
    case measure => simp [intOf]; omega
  ·have hd : d = min 4096 i := by omega
   have HD := h_ hd; clear hd; by_cases h5 : d < 4096
   ·have h6 : i <= d := by omega
    clear hlt; go_wp2_with fail; go_ret2; have e1 : longest bs i = lng bs i d := by unfold longest; rw [<- HD.out]
    rw [e1]; exact ⟨rfl, hb⟩
   ·have h6 : 4096 <= d := by omega
    clear hlt; go_wp2_with fail; go_ret2; have e1 : longest bs i = lng bs i d := by unfold longest; rw [<- HD.out]
    rw [e1]; exact ⟨rfl, hb⟩
end
section
open Go.RowKit
def SliceFrom (base : Nat) (w : World) (l : List UInt8) (e : Ending) (w' : World) : Prop := ∃ ao cap B off, e = .returned (.slice ao l.length cap) /\ SrcAt w' ao cap l B off /\ (0 < l.length -> base <= B) /\ Below w.heap.size w w'
theorem sliceFrom_own {w w' : World} {e : Ending} {base b : Nat} {l : List UInt8} (hb : b <= base) (h : ∃ v, e = .returned v /\ w'.ownsRow base 5 1 v l.length (l.map B8) /\ Below w.heap.size w w') : SliceFrom b w l e w' := by
 obtain ⟨v, rfl, ho, h2⟩ := h; obtain ⟨ao, cap, B, rfl, hs, h3⟩ := src_of_own ho; exact ⟨ao, cap, B, 0, rfl, hs, fun hp => Nat.le_trans hb (h3 hp), h2⟩
theorem clampN_run' {n : Nat} (h0 : 0 < n) (h : n <= 281474976710656) : clampN (2 * ((n : Int) - 1)) = 2 * (n - 1) := by
 have e : 2 * ((n : Int) - 1) = ((2 * (n - 1) : Nat) : Int) := by omega
 rw [e, clampN_nat _ (by omega)]
theorem refRun_new (base : Nat) (ao : Option Addr) (cap : Nat) (O : List UInt8) (B off : Nat) (ro : Option Addr) (rcap : Nat) (r : List UInt8) (RB roff : Nat) (w : World) (h : SrcAt w ao cap O B off) (hr : SrcAt w ro rcap r RB roff) (hs : O.length + 9 + r.length <= 225000000000000) (hB : 0 < O.length -> base <= B) (hbw : base <= w.heap.size) :
  Calls Tryz.prog 112 #[.slice ao O.length cap, .slice ro r.length rcap] w (SliceFrom base w (O ++ runT r)) := by
 by_cases h0 : r.length = 0
 ·have e : runT r = [] := by rw [runT, if_pos h0]
  rw [e, List.append_nil, h0]; obtain ⟨m, hm⟩ := nm_ (O.length); rw [<- hm]; have HM := h_ hm; have HB := h_ hB; clear hm hB; go_enter Tryz.func112, Tryz.ntmps112; go_wp2; go_ret; exact ⟨ao, cap, B, off, by rw [<- HM.out]; rfl, h, HB.out, Below.refl _ _⟩
 ·have hput := refPutNum_any ao cap O B off (2 * ((r.length : Int) - 1)) w h (by omega)
  rw [clampN_run' (by omega) (by omega)] at hput
  have hl := numL_le (2 * (r.length - 1)); rw [runT_pos (by omega)]
  obtain ⟨L, hL⟩ := nm_ (numL (2 * (r.length - 1))); rw [<- hL] at hput hl |-; obtain ⟨n, hn⟩ := nm_ (r.length); rw [<- hn] at hput hs h0 |-; have HP := h_ hput; have HN := h_ hn; have hq : ((n : Int) == 0) = false := by simp; omega
  obtain ⟨k, hk⟩ := nm_ (O.length); have hkl : k + 9 + n <= 225000000000000 := by omega
  have HK := h_ hk; clear hput hL hn h hs; rw [<- hk] at HP |-; clear hk; go_enter Tryz.func112, Tryz.ntmps112; go_wp2_with fail; refine HP.out.mono ?_; rintro e w1 ⟨v1, rfl, o1, b1⟩; have hz := b1.size; have r1 := hr.below b1; obtain ⟨m, hm⟩ := nm_ ((O ++ L).length); have hml : m <= k + 9 := by rw [hm, List.length_append, <- HK.out]; omega
  rw [<- hm] at o1; have HM := h_ hm; clear hm; go_wp2_with (at_builtin; refine wpList_append_src rfl _ _ rfl w.heap.size v1 m _ rfl o1 ro n rcap rfl (r.map B8) (by rw [List.length_map]; exact HN.out.symm) (fun hh => by rw [HN.out]; exact r1.bare hh) r1.cells (B8_one _) (by omega) (by omega) ?_; intro v3 w3 hown3 hg3 hv3; clear hv3)
  go_ret; refine sliceFrom_own (base := w.heap.size) hbw ⟨_, rfl, ?_, b1.grown hg3 hz (fun k hk => (o1.lt k hk).1)⟩
  have h3 := hown3.out; rw [<- List.map_append, HM.out, HN.out, <- List.length_append, List.append_assoc] at h3; exact h3
theorem longest_few {b : List UInt8} {i : Nat} (h : (longest b i).1 < 4) : (longest4 b i).1 < 4 := by
 unfold longest at h; unfold longest4 lng4; rw [if_pos h]; decide
theorem longest_many {b : List UInt8} {i : Nat} (h : ¬ (longest b i).1 < 4) : longest4 b i = longest b i := by
 unfold longest at h |-
 unfold longest4 lng4; rw [if_neg h]
theorem toks_all' (b : List UInt8) (hb : b.length <= 140737488355328) {O : List UInt8} {s i : Nat} (h : O ++ toks b s i = pressL b) : O.length <= 143000000000000 := by
 have h1 := congrArg List.length h; rw [List.length_append] at h1; have h2 := press_wide b; omega
theorem refPress_new (ao : Option Addr) (cap : Nat) (bs : List UInt8) (B off : Nat) (w : World) (h : SrcAt w ao cap bs B off) (hs : bs.length <= 140737488355328) :
  Calls Tryz.prog 57 #[.slice ao bs.length cap] w (SliceFrom w.heap.size w (pressL bs)) := by
 have hput : Calls Tryz.prog 43 #[.slice none 0 0, .int .i64 (bs.length : Int)] w fun e w' => ∃ v, e = .returned v /\ w'.ownsRow w.heap.size 5 1 v (numL bs.length).length ((numL bs.length).map B8) /\ Below w.heap.size w w' := by
  have h1 := refPutNum_any none 0 [] 0 0 (bs.length : Int) w (src_nil w) (by simp)
  rw [List.nil_append, clampN_nat _ (by omega)] at h1
  exact h1
 have hstart : numL bs.length ++ toks bs 0 0 = pressL bs := rfl
 obtain ⟨N, hN⟩ := nm_ (bs.length); obtain ⟨L, hL⟩ := nm_ (numL bs.length); rw [<- hL] at hput hstart; have hsb : bs.length <= 140737488355328 := hs
 rw [<- hN] at hs hput |-; have hNl : N <= bs.length := by omega
 have hNg : bs.length <= N := by omega
 have HP := h_ hput; have HN := h_ hN; have HS := h_ hstart; clear hput hN hL hstart; go_enter Tryz.func57, Tryz.ntmps57; go_wp2_with fail; refine HP.out.mono ?_; rintro e w1 ⟨v1, rfl, o1, b1⟩; obtain ⟨a1, c1, B1, rfl, s1, g1⟩ := src_of_own o1; have G1 := h_ g1; clear o1 g1; obtain ⟨k1, hk1⟩ := nm_ (L.length); have HK1 := h_ hk1; rw [<- hk1]; clear hk1; go_wp2_with fail; go_loopw [3, 4, 5] (fun x s i W => ∃ (O : List UInt8) (S I k : Nat) (a : Option Addr) (c b o : Nat), x = .slice a k c /\ k = O.length /\ s = .int .i64 (S : Int) /\ i = .int .i64 (I : Int) /\ S <= I /\ I <= N /\ O ++ toks bs S I = pressL bs /\ SrcAt W a c O b o /\ Hid (0 < O.length -> w.heap.size <= b) /\ Below w.heap.size w W) (fun _ _ i _ => N - (intOf i).toNat)
 case atStart => exact ⟨L, 0, 0, k1, a1, c1, B1, 0, rfl, HK1.out, rfl, rfl, Nat.le_refl _, Nat.zero_le _, HS.out, s1, G1, b1⟩
 case round =>
  clear s1 b1 HS HP; obtain ⟨O, S, i, k, a, c, b, o, rfl, hk, rfl, rfl, hSi, hiN, hO, so, GB, bo⟩ := hrel; have hOl := toks_all' bs hsb hO; have hsi := h.below bo; have HK := h_ hk; have hkl : k <= 143000000000000 := by omega
  by_cases hlt : i < N
  ·have hlong := refLongest_any ao cap bs B off i _ hsi (by omega) (by omega)
   rw [<- HN.out] at hlong; obtain ⟨ln, hln⟩ := nm_ ((longest bs i).1); obtain ⟨d, hd⟩ := nm_ ((longest bs i).2); rw [<- hln, <- hd] at hlong; have HLo := h_ hlong; clear hlong hk; by_cases hc : ln < 4
   ·have hstep := hO
    rw [toks_step (by omega) (longest_few (by omega))] at hstep
    have HT := h_ hstep; have hq : decide ((ln : Int) < 4) = true := by simp; omega
    clear hln hd hstep hO; go_wp2_with fail; refine HLo.out.mono ?_; rintro e w2 ⟨rfl, b2⟩; go_wp2_with fail; go_roundw
    case rel => exact ⟨O, S, i + 1, k, a, c, b, o, rfl, HK.out, rfl, by go_num, by omega, by omega, HT.out, so.below b2, GB, bo.trans (b2.mono bo.size)⟩
    case measure => simp [intOf]; omega
   ·have hmany := longest_many (b := bs) (i := i) (by omega)
    have hcp := longest4_copies (b := bs) (i := i) (by omega) (by rw [hmany]; omega)
    have hstep := hO; rw [toks_copy (by omega) (by rw [hmany]; omega)] at hstep
    rw [hmany, <- hln, <- hd] at hcp hstep; have k1 := hcp.most; have k2 := hcp.len; have k3 := hcp.win; obtain ⟨ao2, hsl, hs2⟩ := hsi.slice_lh S (i - S) (by omega)
    have er : ((bs.drop S).take (i - S)).length = i - S := by rw [List.length_take, List.length_drop]; omega
    have e1 : (S : Int) + ((i - S : Nat) : Int) = (i : Int) := by omega
    have hS0 : (0 : Int) <= (S : Int) := by omega
    rw [<- HN.out, e1] at hsl; obtain ⟨r, hr⟩ := nm_ ((bs.drop S).take (i - S)); rw [<- hr] at hs2 er hstep; have HR := h_ er; have hst2 : (O ++ runT r ++ numL (2 * (ln - 4) + 1) ++ numL d) ++ toks bs (i + ln) (i + ln) = pressL bs := by
     rw [<- hstep]; simp only [List.append_assoc]
    have HT := h_ hst2; have hl2 := toks_all' bs hsb hst2; have hrl : r.length <= N := by omega
    have hr1 : (O ++ runT r ++ numL (2 * (ln - 4) + 1)).length <= 143000000000000 := by
     have := hl2
     rw [List.length_append] at this; omega
    have hr0 : (O ++ runT r).length <= 143000000000000 := by
     have := hr1
     rw [List.length_append] at this; omega
    have hOr : O.length + r.length <= 143000000000000 := by
     have h1 := hr0; rw [List.length_append] at h1; have h2 := runT_ge r; omega
    have hq : decide ((ln : Int) < 4) = false := by simp; omega
    have hln4 : (4 : Int) <= (ln : Int) := by omega
    have hln259 : (ln : Int) <= 259 := by omega
    have ecl : clampN (2 * ((ln : Int) - 4) + 1) = 2 * (ln - 4) + 1 := by
     rw [show 2 * ((ln : Int) - 4) + 1 = ((2 * (ln - 4) + 1 : Nat) : Int) by omega, clampN_nat _ (by omega)]
    have ecd : clampN (d : Int) = d := clampN_nat d (by omega)
    have HCL := h_ ecl; have HCD := h_ ecd; clear hln hd hr er e1 hstep hst2 hcp hO hmany ecl ecd; go_wp2_with fail; refine HLo.out.mono ?_; rintro e w2 ⟨rfl, b2⟩; have bX := bo.trans (b2.mono bo.size); have sX := so.below b2; have rX := hs2.below b2; go_wp2_with fail; have hrun := refRun_new w.heap.size a c O b o ao2 (cap - S) r B (off + S) w2 sX rX (by omega) GB.out bX.size
    rw [HR.out, <- HK.out] at hrun; refine hrun.mono ?_; rintro e w3 ⟨a3, c3, b3, o3, rfl, s3, _, t3⟩; have bX := bX.trans (t3.mono bX.size); clear hrun sX rX; obtain ⟨k3, hk3⟩ := nm_ ((O ++ runT r).length); have hp3 := refPutNum_any a3 c3 (O ++ runT r) b3 o3 (2 * ((ln : Int) - 4) + 1) w3 s3 (by omega)
    rw [HCL.out] at hp3; rw [<- hk3] at hp3 |-; have HP3 := h_ hp3; clear hp3 hk3; go_wp2_with fail; refine HP3.out.mono ?_; rintro e w4 ⟨v4, rfl, o4, t4⟩; obtain ⟨a4, c4, b4, rfl, s4, _⟩ := src_of_own o4; have bX := bX.trans (t4.mono bX.size); obtain ⟨k4, hk4⟩ := nm_ ((O ++ runT r ++ numL (2 * (ln - 4) + 1)).length); have hp4 := refPutNum_any a4 c4 (O ++ runT r ++ numL (2 * (ln - 4) + 1)) b4 0 (d : Int) w4 s4 (by omega)
    rw [HCD.out] at hp4; rw [<- hk4] at hp4 |-; have HP4 := h_ hp4; clear hp4 hk4 HP3 o4; go_wp2_with fail; refine HP4.out.mono ?_; rintro e w5 ⟨v5, rfl, o5, t5⟩; obtain ⟨a5, c5, b5, rfl, s5, g5⟩ := src_of_own o5; have g5 := fun hp => Nat.le_trans bX.size (g5 hp)
    have bX := bX.trans (t5.mono bX.size); obtain ⟨O5, hO5⟩ := nm_ (O ++ runT r ++ numL (2 * (ln - 4) + 1) ++ numL d); rw [<- hO5] at s5 g5 HT |-; have G5 := h_ g5; clear g5; obtain ⟨k5, hk5⟩ := nm_ (O5.length); rw [<- hk5]; have HK5 := h_ hk5; clear hk5 hO5 o5 HP4; obtain ⟨E, hE⟩ := nm_ (i + ln); have hEI : (i : Int) + (ln : Int) = (E : Int) := by omega
    have hEN : E <= N := by omega
    have hiE : i < E := by omega
    rw [<- hE] at HT; clear hE; go_wp2_with fail; go_roundw
    case rel => exact ⟨O5, E, E, k5, a5, c5, b5, 0, rfl, HK5.out, rfl, rfl, Nat.le_refl _, hEN, HT.out, s5, G5, bX⟩
    case measure => simp [intOf]; omega
  ·obtain rfl : i = N := by omega
   rw [toks_end (by omega)] at hO
   obtain ⟨ao2, hsl, hs2⟩ := hsi.slice_l S (by omega)
   rw [<- HN.out] at hsl; have hS0 : (0 : Int) <= (S : Int) := by omega
   obtain ⟨r, hr⟩ := nm_ (bs.drop S); have er : r.length = i - S := by rw [hr, List.length_drop]; omega
   rw [<- hr] at hs2 hO; have hOr : O.length + r.length <= 143000000000000 := by
    have h1 := congrArg List.length hO; rw [List.length_append] at h1; have h2 := runT_ge r; have h3 := press_wide bs; omega
   have hrun := refRun_new w.heap.size a c O b o ao2 (cap - S) r B (off + S) _ so hs2 (by omega) GB.out bo.size
   rw [er, <- HK.out] at hrun; rw [hO] at hrun; have HRun := h_ hrun; clear hr er hO hrun hk; go_wp2_with fail; refine HRun.out.mono ?_; rintro e w3 ⟨a3, c3, b3, o3, rfl, s3, G3, t3⟩; have G3 := h_ G3; obtain ⟨k3, hk3⟩ := nm_ ((pressL bs).length); rw [<- hk3]; have HK3 := h_ hk3; clear hk3; go_wp2_with fail; go_ret; exact ⟨a3, c3, b3, o3, by rw [<- HK3.out]; rfl, s3, G3.out, bo.trans (t3.mono bo.size)⟩
end
section
open Go.RowKit
theorem size53 : (Tryz.prog.info? 208).map (·.size) = some 4 := by kernel_rfl
theorem arr53 (W : World) (a : Addr) (cap : Nat) : (Instr.arrayAt 208 (.slice (some a) 4 cap)).run Tryz.prog W = .ok (.pointer (some a)) W := by
 unfold Instr.arrayAt; rw [Sem.run_bind, run_underlying Tryz.underlying208]; rfl
theorem take_four (bs : List UInt8) (k : Nat) (hk : k + 4 <= bs.length) : (bs.drop k).take 4 = four bs k := by
 apply List.ext_getElem?
 intro j
 unfold four; rw [List.getElem?_take]; by_cases hj : j < 4
 ·rw [if_pos hj, List.getElem?_drop]
  have h4 : j = 0 \/ j = 1 \/ j = 2 \/ j = 3 := by omega
  rcases h4 with rfl | rfl | rfl | rfl <;> simp [List.getD] <;> rw [List.getElem?_eq_getElem (by omega)] <;> rfl
 ·rw [if_neg hj]
  symm
  rw [List.getElem?_eq_none]; simp; omega
theorem SrcAt.range {w : World} {ao : Option Addr} {cap : Nat} {bs : List UInt8} {B off : Nat} (h : SrcAt w ao cap bs B off) : w.rangeAt B off (bs.map B8) := fun j v hv => by
 have hj : j < bs.length := by have := (List.getElem?_eq_some_iff.1 hv).1; rwa [List.length_map] at this
 rw [h.cell j hj, <- hv]; simp [B8, hj]
theorem fourAt_any (ao : Option Addr) (cap : Nat) (bs : List UInt8) (B off : Nat) (k : Nat) (w : World) (h : SrcAt w ao cap bs B off) (hk : k + 4 <= bs.length) (hs : bs.length <= 281474976710656) :
  Calls Tryz.prog 170 #[.slice ao bs.length cap, .int .i64 (k : Int)] w fun e w' => e = .returned (fourV (four bs k)) /\ Below w.heap.size w w' := by
 obtain ⟨ao2, hsl0, hs2⟩ := h.slice_lh k 4 hk; rw [take_four bs k hk] at hs2; obtain rfl := hs2.src (by rw [four_length]; omega)
 obtain ⟨F, hF⟩ := nm_ (four bs k); have hFl : F.length = 4 := by rw [hF]; rfl
 rw [<- hF] at hs2 |-; obtain ⟨n, hn⟩ := nm_ (bs.length); rw [<- hn] at hk hs hsl0 |-; have hsl : ∀ w : World, (Instr.slice 29 (.slice ao n cap) (some (.int .i64 (k : Int))) (some (.int .i64 ((k : Int) + 4))) none).run Tryz.prog w = .ok (.slice (some ⟨B, off + k, none⟩) 4 (cap - k)) w := hsl0
 have harr := fun W => arr53 W ⟨B, off + k, none⟩ (cap - k)
 have hb1 : Below w.heap.size w (w.alloc (.cells #[.int .u8 0, .int .u8 0, .int .u8 0, .int .u8 0] 208)) := (Below.refl _ _).alloc (Nat.le_refl _) _; have hr := (hs2.below hb1).range; have hh := heap_alloc_new w (.cells #[.int .u8 0, .int .u8 0, .int .u8 0, .int .u8 0] 208); have hi : (Tryz.prog.info? 208).map (·.size) = some (F.map B8).length := by rw [size53, List.length_map, hFl]
 have HF := h_ hFl; have HR := h_ hr; have HI := h_ hi; have HH := h_ hh; clear hF hFl hn hsl0 hr hi hh; go_enter Tryz.func170, Tryz.ntmps170; go_wp2_with (first | (refine wpList_load_mid rfl 208 _ rfl B (off + k) rfl (F.map B8) _ HR.out Tryz.underlying208 rfl HI.out ?_) | (refine wpList_store_row rfl 208 _ _ rfl _ _ rfl rfl _ _ HH.out (by rw [HI.out]; rfl) (by simp [HF.out]) (all_oneCell_toArray (B8_one F)) ?_))
 try simp only [Exit.inBlock, Exit.then]
 refine bodyPost_ret (results_cell_row Tryz.results170 _ _ w.heap.size 208 (cells8 F) (0,0) _ rfl (setRow_heap _ _ _ _ _ _ HH.out) Tryz.underlying208 rfl ?_) rfl ?_
 ·rw [HI.out]; simp [cells8]
 ·exact ⟨rfl, below_setRow hb1 (Nat.le_refl _) _⟩
end
section
open Go.RowKit
theorem ret_int {k : IntKind} {a b : Int} (h : a = b) : Ending.returned (.int k a) = .returned (.int k b) := by rw [h]
theorem alike_any (ao : Option Addr) (cap : Nat) (bs : List UInt8) (B off : Nat) (k i n most : Nat) (w : World) (h : SrcAt w ao cap bs B off) (hs : bs.length <= 281474976710656) (hk : k < i) (hm : most = min 259 (bs.length - i)) (hi : i <= bs.length) (hn : n <= most) (he : ∀ j, j < n -> bs.getD (k + j) 0 = bs.getD (i + j) 0) :
  Calls Tryz.prog 171 #[.slice ao bs.length cap, .int .i64 (k : Int), .int .i64 (i : Int), .int .i64 (n : Int), .int .i64 (most : Int)] w fun e w' => e = .returned (.int .i64 (alike bs k i : Int)) /\ Below w.heap.size w w' := by
 obtain ⟨N, hN⟩ := nm_ (bs.length); have HE := h_ he; have HM := h_ hm; have hml : i + most <= N := by omega
 have hNl : N <= bs.length := by omega
 rw [<- hN] at hs hi |-; have HN := h_ hN; clear he hm hN; go_enter Tryz.func171, Tryz.ntmps171; go_wp2; go_loopw [3] (fun x wr => ∃ y : Nat, x = .int .i64 (y : Int) /\ n <= y /\ y <= most /\ Below w.heap.size w wr /\ ∀ j, j < y -> bs.getD (k + j) 0 = bs.getD (i + j) 0) (fun x _ => most - (intOf x).toNat)
 case atStart => exact ⟨n, rfl, Nat.le_refl _, hn, Below.refl _ _, HE.out⟩
 case round =>
  clear HE hn; obtain ⟨y, rfl, h1, h2, hb, he⟩ := hrel; have HE := h_ he; clear he; by_cases hlt : y < most
  ·have hy := h.below hb
   have c1 : wr.cell? ⟨B, off + (k + y), none⟩ = some (.int .u8 ((bs.getD (k + y) 0).toNat : Int)) := hy.cell (k + y) (by omega)
   have c2 : wr.cell? ⟨B, off + (i + y), none⟩ = some (.int .u8 ((bs.getD (i + y) 0).toNat : Int)) := hy.cell (i + y) (by omega)
   obtain rfl := h.src (by omega)
   obtain ⟨x1, hx1⟩ := nm_ (bs.getD (k + y) 0); obtain ⟨x2, hx2⟩ := nm_ (bs.getD (i + y) 0); rw [<- hx1] at c1; rw [<- hx2] at c2; have HX1 := h_ hx1; have HX2 := h_ hx2; clear hx1 hx2 hy; by_cases heq : x1 = x2
   ·subst heq
    go_wp2; go_quiet (fail)
    go_wp2; go_roundw
    case rel =>
     refine ⟨y + 1, by go_num, by omega, by omega, below_drewN hb _, fun j hj => ?_⟩
     by_cases e : j = y
     ·subst e; rw [<- HX1.out, <- HX2.out]
     ·exact HE.out j (by omega)
    case measure => simp [intOf]; omega
   ·have hq : ((x1.toNat : Int) == (x2.toNat : Int)) = false := by
     simp; exact fun e => heq (UInt8.toNat_inj.1 (by omega))
    clear heq; go_wp2; go_quiet (fail)
    go_wp2; go_ret; refine ⟨ret_int (congrArg _ (alike_of ⟨by have := HM.out; omega, by omega, HE.out, .inr (.inr ?_)⟩)), below_drewN hb _⟩
    rw [<- HX1.out, <- HX2.out]; intro e
    rw [e] at hq; simp at hq
  ·obtain rfl : y = most := by omega
   have hd : decide ((y : Int) < (y : Int)) = false := by simp
   go_wp2; go_quiet (fail)
   go_wp2; go_ret; refine ⟨ret_int (congrArg _ (alike_of ⟨by have := HM.out; omega, by omega, HE.out, ?_⟩)), below_drewN hb _⟩
   have := HM.out
   omega
end
section
open Go.RowKit
def TabAt (w : World) (pb mb : Nat) (tab : Nat -> Int) : Prop :=
 ∃ C : Array Value, w.heap[pb]? = some (.cells C 192 (0, 0)) /\ C.size = 4097 /\ C[0]? = some (.map (some mb)) /\ ∀ j, j < 4096 -> C[1 + j]? = some (.int .i64 (tab j))
theorem TabAt.lt {w : World} {pb mb : Nat} {tab : Nat -> Int} (h : TabAt w pb mb tab) : pb < w.heap.size := by
 obtain ⟨C, h1, _⟩ := h; exact (ge_ h1).1
theorem TabAt.cell0 {w : World} {pb mb : Nat} {tab : Nat -> Int} (h : TabAt w pb mb tab) : w.cell? ⟨pb, 0, none⟩ = some (.map (some mb)) := by
 obtain ⟨C, h1, h2, h3, h4⟩ := h; rw [cell_of_row _ _ _ _ _ _ h1]; exact h3
theorem TabAt.cell {w : World} {pb mb : Nat} {tab : Nat -> Int} (h : TabAt w pb mb tab) (j : Nat) (hj : j < 4096) : w.cell? ⟨pb, 1 + j, none⟩ = some (.int .i64 (tab j)) := by
 obtain ⟨C, h1, h2, h3, h4⟩ := h; rw [cell_of_row _ _ _ _ _ _ h1]; exact h4 j hj
theorem TabAt.frozen {w : World} {pb mb : Nat} {tab : Nat -> Int} (h : TabAt w pb mb tab) (j : Nat) : w.frozen? ⟨pb, j, none⟩ = false := by
 obtain ⟨C, h1, h2, h3, h4⟩ := h; exact frozen_of_row _ _ _ _ _ h1
theorem TabAt.of_heap {w w' : World} {pb mb : Nat} {tab : Nat -> Int} (h : TabAt w pb mb tab) (hw : w'.heap[pb]? = w.heap[pb]?) : TabAt w' pb mb tab := by
 obtain ⟨C, h1, h2⟩ := h; exact ⟨C, hw.trans h1, h2⟩
theorem TabAt.below {w w' : World} {pb mb : Nat} {tab : Nat -> Int} (h : TabAt w pb mb tab) (hb : Below w.heap.size w w') : TabAt w' pb mb tab := h.of_heap (hb.block _ h.lt)
theorem TabAt.set {w : World} {pb mb : Nat} {tab : Nat -> Int} (h : TabAt w pb mb tab) (j : Nat) (hj : j < 4096) (v : Int) : TabAt (w.setCell ⟨pb, 1 + j, none⟩ (.int .i64 v)) pb mb (fun x => if x = j then v else tab x) := by
 obtain ⟨C, h1, h2, h3, h4⟩ := h; refine ⟨C.set! (1 + j) (.int .i64 v), heap_setCell_same _ _ _ _ _ _ h1, by simp [h2], ?_, fun x hx => ?_⟩
 ·rw [<- h3]; simp
 ·simp only [Array.set!_eq_setIfInBounds, Array.getElem?_setIfInBounds, h2]
  by_cases e : x = j
  ·subst e; rw [if_pos rfl, if_pos (by omega), if_pos rfl]
  ·rw [if_neg (by omega), if_neg e]; exact h4 x hx
theorem ahead_any (pb mb : Nat) (tab : Nat -> Int) (k i x : Nat) (w : World) (h : TabAt w pb mb tab) (hi : i <= 281474976710656) (hk : k <= i) (hx : x <= k) (ht : tab (k % 4096) = (x : Int)) :
  Calls Tryz.prog 172 #[.pointer (some ⟨pb, 0, none⟩), .int .i64 (k : Int), .int .i64 (i : Int)] w fun e w' => (∃ β : Bool, e = .returned (.tuple #[.int .i64 ((k - x : Nat) : Int), .bool β]) /\ (β = true ↔ 0 < x /\ i - k + x <= 4096)) /\ w' = w := by
 have c1 := h.cell (k % 4096) (Nat.mod_lt _ (by omega))
 rw [ht] at c1; have hm : k % 4096 < 4096 := Nat.mod_lt _ (by omega)
 have e1 : ((k - x : Nat) : Int) = (k : Int) - (x : Int) := by omega
 rw [e1]; clear ht e1; by_cases h0 : 0 < x
 ·by_cases h1 : i - k + x <= 4096
  ·have h2 : (i : Int) - (k : Int) + (x : Int) <= 4096 := by omega
   go_enter Tryz.func172, Tryz.ntmps172; go_wp2; go_ret2; exact ⟨⟨true, rfl, by simp; omega⟩, rfl⟩
  ·have h2 : decide ((i : Int) - (k : Int) + (x : Int) <= 4096) = false := by simp; omega
   go_enter Tryz.func172, Tryz.ntmps172; go_wp2; go_ret2; exact ⟨⟨false, rfl, by simp; omega⟩, rfl⟩
 ·have h2 : (x : Int) <= 0 := by omega
  go_enter Tryz.func172, Tryz.ntmps172; go_wp2; go_ret2; exact ⟨⟨false, rfl, by simp; omega⟩, rfl⟩
theorem SL_eq (l r : List UInt8) : ((SL l).toList == (SL r).toList) = decide (l = r) := by
 have e : ∀ x : List UInt8, (SL x).toList = x := fun x => by rw [ByteArray.toList_eq]; rfl
 rw [e, e, Bool.eq_iff_iff]; simp
theorem equal_any {ao bo : Option Addr} {capa capb : Nat} {l r : List UInt8} {A offa B offb : Nat} (w : World) (ha : SrcAt w ao capa l A offa) (hb : SrcAt w bo capb r B offb) :
  Calls Tryz.prog 105 #[.slice ao l.length capa, .slice bo r.length capb] w fun e w' => e = .returned (.bool (decide (l = r))) /\ w' = w := by
 have c1 := convert_src ha; have c2 := convert_src hb; go_enter Tryz.func105, Tryz.ntmps105; go_wp2; go_ret; refine ⟨?_, rfl⟩; rw [<- SL_eq]; rfl
end
section
open Go.RowKit
open Go.Maps (has)
/-! ### The chain of places with the same four bytes -/
theorem chain_other {b : List UInt8} {i j : Nat} (hi : i + 4 <= b.length) (h : four b j ≠ four b i) : alike b j i < 4 :=
 Nat.lt_of_not_le fun h4 => h ((four_alike hi).2 h4)
theorem chain_none {b : List UInt8} {i : Nat} (hi : i + 4 <= b.length) (h : near b (four b i) i = none) : longest4 b i = (0, 0) := by
 unfold longest4; rw [lng4_skips 0 _ (Nat.zero_le _) (fun x _ hx => chain_other hi (near_none h _ (by omega) (by omega)))]
 rfl
theorem chain_some {b : List UInt8} {i k : Nat} (hi : i + 4 <= b.length) (h : near b (four b i) i = some k) : lng4 b i (i - k - 1) = (0, 0) := by
 obtain ⟨h1, h2, h3, h4⟩ := near_some h; rw [lng4_skips 0 _ (Nat.zero_le _) (fun x _ hx => chain_other hi (h4 _ (by omega) (by omega)))]
 rfl
theorem chain_take {b : List UInt8} {i k : Nat} (hi : i + 4 <= b.length) (hk : k < i) (hf : four b k = four b i) :
  lng4 b i (i - k) = if (lng4 b i (i - k - 1)).1 < alike b k i then (alike b k i, i - k) else lng4 b i (i - k - 1) := by
 have h4 := (four_alike hi).1 hf; have e : i - k = (i - k - 1) + 1 := by omega
 have e2 : i - ((i - k - 1) + 1) = k := by omega
 have h := lng4_take (b := b) (i := i) (d := i - k - 1) (by rw [e2]; exact h4)
 rw [e2, <- e] at h; exact h
theorem chain_next {b : List UInt8} {i k : Nat} (hi : i + 4 <= b.length) (hk : k < i) (hf : four b k = four b i) (h0 : 0 < backOf b k) :
  lng4 b i (i - (k - backOf b k) - 1) = lng4 b i (i - k) := by
 obtain ⟨h1, h2, h3, h4⟩ := backOf_some h0; exact lng4_skips _ _ (by omega) (fun x hx1 hx2 => chain_other hi (by rw [<- hf]; exact h4 _ (by omega) (by omega)))
theorem chain_last {b : List UInt8} {i k : Nat} (hi : i + 4 <= b.length) (hk : k < i) (hr : i <= k + 4096) (hf : four b k = four b i) (h0 : ¬ (0 < backOf b k /\ i - k + backOf b k <= 4096)) : longest4 b i = lng4 b i (i - k) := by
 unfold longest4; refine lng4_skips _ _ (by omega) (fun x hx1 hx2 => chain_other hi ?_)
 rw [<- hf]; by_cases hz : backOf b k = 0
 ·exact backOf_none hz _ (by omega) (by omega)
 ·obtain ⟨h1, h2, h3, h4⟩ := backOf_some (b := b) (k := k) (by omega)
  exact h4 _ (by omega) (by omega)
theorem piece_get (b : List UInt8) (k n j : Nat) (hj : j < n) : ((b.drop k).take n).getD j 0 = b.getD (k + j) 0 := by
 simp [List.getD, hj]
theorem equal_pieces {b : List UInt8} {k i n : Nat} (hk : k < i) (hi : i + n <= b.length) : (b.drop k).take n = (b.drop i).take n ↔ ∀ j, j < n -> b.getD (k + j) 0 = b.getD (i + j) 0 := by
 constructor
 ·intro h j hj
  rw [<- piece_get b k n j hj, <- piece_get b i n j hj, h]
 ·intro h
  apply List.ext_getElem
  ·simp; omega
  ·intro j h1 h2
   have hj : j < n := by simp at h1; omega
   have hl : k + j < b.length := by omega
   have hl2 : i + j < b.length := by omega
   have := h j hj
   simpa [List.getD, hl, hl2] using this
theorem alike_more {b : List UInt8} {k i n : Nat} (hi : i + n <= b.length) (hn : n <= 259) : (∀ j, j < n -> b.getD (k + j) 0 = b.getD (i + j) 0) ↔ n <= alike b k i := by
 have ha := alike_is b k i (by omega)
 constructor
 ·intro h
  refine Nat.le_of_not_lt fun hlt => ?_
  rcases ha.stop with e | e | e
  ·omega
  ·omega
  ·exact e (h _ hlt)
 ·exact fun h j hj => ha.eq j (by omega)

/-! ### The map -/
abbrev MapAt (w : World) (mb n : Nat) (D : DataW Unit) : Prop := w.ownsMap Tryz.prog 208 (plainElem Tryz.prog 3) mb n D
theorem zero3 (w : World) : (zeroValue 3).run Tryz.prog w = .ok (.int .i64 0) w := by kernel_rfl
theorem look_run {w : World} {mb n : Nat} {D : DataW Unit} {f : List UInt8} (hown : MapAt w mb n D) (hf : f.length = 4) :
  ∃ (c : Int) (O : Obj), D.atKey (fourK f) (.lit (.int .i64 0)) = .lit (.int .i64 c) /\ (Lit.int .i64 c).wf = true /\ w.heap[mb]? = some O /\
   (∀ W : World, W.heap[mb]? = some O -> (Instr.lookup 189 (.map (some mb)) (fourV f) true).run Tryz.prog W = .ok (.tuple #[.int .i64 c, .bool (has D (fourK f))]) W) /\
   (∀ W : World, W.heap[mb]? = some O -> (Instr.lookup 189 (.map (some mb)) (fourV f) false).run Tryz.prog W = .ok (.int .i64 c) W) := by
 obtain ⟨c, _, h1, h2⟩ := hown.lookup_int K53 Tryz.underlying189 Tryz.underlying3 (zero3 w) (fourK_is hf); obtain ⟨es, clock, h3, h4⟩ := hown; refine ⟨c, _, h1, h2, h3, fun W hW => ?_, fun W hW => ?_⟩
 ·have hown' : MapAt W mb n D := ⟨es, clock, hW, h4⟩
  obtain ⟨v, ps, hr, hv⟩ := hown'.look_ok K53 Tryz.underlying189 (zero3 W) (plainElem_int Tryz.underlying3 (q := .i64) (a := 0) (by decide)) (fourK_is hf)
  obtain ⟨c', rfl, hc, _⟩ := plainElem_int_inv Tryz.underlying3 hv; have hc' := congrArg Prod.fst hc; simp only at hc'
  rw [h1] at hc'; simp only [DataW.lit.injEq, Lit.int.injEq, true_and] at hc'; rw [hr, <- hc']
 ·have hown' : MapAt W mb n D := ⟨es, clock, hW, h4⟩
  obtain ⟨c', hr, hc, _⟩ := hown'.lookup_int K53 Tryz.underlying189 Tryz.underlying3 (zero3 W) (fourK_is hf); rw [h1] at hc; simp only [DataW.lit.injEq, Lit.int.injEq, true_and] at hc; rw [hr, <- hc]
end
end Go.Proofs.YtomgijcbekjlaaaGreat
