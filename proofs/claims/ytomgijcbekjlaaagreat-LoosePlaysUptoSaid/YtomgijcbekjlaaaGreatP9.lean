/- What the proofs stand on: DiskStill, ObjMem, RefPart, RefEntries, RefParents, RefTold, RefBare, RefCheck, ObjOut, ObjList, ObjRd, ObjRdG, SameAny, ObjDecTo, DecErr, RefSameTexts. -/
import Derived.StillTailTactics
import Derived.Sort.Walk0
import Derived.Test.YtomgijcbekjlaaaGreatP0
import Derived.Test.YtomgijcbekjlaaaGreatP2
import Derived.Deep.QuietTactic
import Derived.Laws.OwnMore
import Derived.Deep.DeepAppendWide
import Derived.Test.YtomgijcbekjlaaaGreatP1
import Derived.Test.YtomgijcbekjlaaaGreatPB0
import Derived.Test.YtomgijcbekjlaaaGreatPB1
set_option maxRecDepth 100000
set_option maxHeartbeats 40000000
namespace Go.Proofs.YtomgijcbekjlaaaGreat
section
theorem SL_toList (l : List UInt8) : (SL l).toList = l := by
 rw [Lib.toList_data]; rfl
end
section
open Go.RowKit
structure SlAt (w : World) (F : Nat -> Prop) (ao : Option Addr) (n cap g off : Nat) (cs : List Value) : Prop where
 le : n <= cap
 top : cap <= maxLen
 bare : ao = none -> n = 0 /\ cap = 0
 src : 0 < n -> ao = some ⟨g, off, none⟩ /\ g < w.heap.size /\ F g
 zero : n = 0 -> cs = []
 cell : ∀ j u, cs[j]? = some u -> w.cell? ⟨g, off + j, none⟩ = some u
theorem SlAt.turn {w w' : World} {F G : Nat -> Prop} {ao : Option Addr} {n cap g off : Nat} {cs : List Value} (h : SlAt w F ao n cap g off cs) (t : Turn G w w') (hn : ∀ k, F k -> ¬ G k) : SlAt w' F ao n cap g off cs := by
 refine ⟨h.le, h.top, h.bare, fun p => ⟨(h.src p).1, Nat.lt_of_lt_of_le (h.src p).2.1 t.size, (h.src p).2.2⟩, h.zero, fun j u hu => ?_⟩
 have p : 0 < n := Nat.pos_of_ne_zero fun e => by rw [h.zero e] at hu; simp at hu
 exact t.cell (h.cell j u hu) (hn g (h.src p).2.2)
theorem SlAt.mono {w : World} {F F' : Nat -> Prop} {ao : Option Addr} {n cap g off : Nat} {cs : List Value} (h : SlAt w F ao n cap g off cs) (hF : ∀ k, k < w.heap.size -> F k -> F' k) : SlAt w F' ao n cap g off cs :=
 ⟨h.le, h.top, h.bare, fun p => ⟨(h.src p).1, (h.src p).2.1, hF g (h.src p).2.1 (h.src p).2.2⟩, h.zero, h.cell⟩
def ecells : List EntR -> List Value
 | [] => []
 | e :: r => .string (SL e.nm) :: .bool e.dir :: .string (SL e.id) :: ecells r
theorem ecells_length : ∀ l, (ecells l).length = l.length * 3
 | [] => rfl
 | e :: r => by simp only [ecells, List.length_cons, ecells_length r]; omega
theorem ecells_append : ∀ a b, ecells (a ++ b) = ecells a ++ ecells b
 | [], _ => rfl
 | e :: r, b => by simp only [List.cons_append, ecells, ecells_append r b]
theorem ecells_get : ∀ {l : List EntR} {i : Nat} {e : EntR}, l[i]? = some e -> (ecells l)[i * 3]? = some (.string (SL e.nm)) /\ (ecells l)[i * 3 + 1]? = some (.bool e.dir) /\ (ecells l)[i * 3 + 2]? = some (.string (SL e.id))
 | [], _, _, h => by simp at h
 | q :: r, 0, e, h => by simp at h; subst h; exact ⟨rfl, rfl, rfl⟩
 | q :: r, i + 1, e, h => by
  have h1 : r[i]? = some e := by simpa using h
  obtain ⟨a, b, c⟩ := ecells_get h1; have e1 : (i + 1) * 3 = i * 3 + 1 + 1 + 1 := by omega
  have e2 : i * 3 + 1 + 1 + 1 + 2 = i * 3 + 2 + 1 + 1 + 1 := by omega
  rw [e1, e2]; simp only [ecells, List.getElem?_cons_succ]; exact ⟨a, b, c⟩
def tcells (l : List OB) : List Value := l.map fun t => .string (SL t)
theorem tcells_get {l : List OB} {i : Nat} {t : OB} (h : l[i]? = some t) : (tcells l)[i]? = some (.string (SL t)) := by simp [tcells, h]
def EntsAt (w : World) (F : Nat -> Prop) (v : Value) (l : List EntR) : Prop := ∃ ao cap g off, v = .slice ao l.length cap /\ SlAt w F ao l.length cap g off (ecells l)
def TextsAt (w : World) (F : Nat -> Prop) (v : Value) (l : List OB) : Prop := ∃ ao cap g off, v = .slice ao l.length cap /\ SlAt w F ao l.length cap g off (tcells l)
theorem EntsAt.turn {w w' : World} {F G : Nat -> Prop} {v : Value} {l : List EntR} (h : EntsAt w F v l) (t : Turn G w w') (hn : ∀ k, F k -> ¬ G k) : EntsAt w' F v l := by
 obtain ⟨ao, cap, g, off, e, hs⟩ := h; exact ⟨ao, cap, g, off, e, hs.turn t hn⟩
theorem EntsAt.mono {w : World} {F F' : Nat -> Prop} {v : Value} {l : List EntR} (h : EntsAt w F v l) (hF : ∀ k, k < w.heap.size -> F k -> F' k) : EntsAt w F' v l := by
 obtain ⟨ao, cap, g, off, e, hs⟩ := h; exact ⟨ao, cap, g, off, e, hs.mono hF⟩
theorem TextsAt.turn {w w' : World} {F G : Nat -> Prop} {v : Value} {l : List OB} (h : TextsAt w F v l) (t : Turn G w w') (hn : ∀ k, F k -> ¬ G k) : TextsAt w' F v l := by
 obtain ⟨ao, cap, g, off, e, hs⟩ := h; exact ⟨ao, cap, g, off, e, hs.turn t hn⟩
theorem TextsAt.mono {w : World} {F F' : Nat -> Prop} {v : Value} {l : List OB} (h : TextsAt w F v l) (hF : ∀ k, k < w.heap.size -> F k -> F' k) : TextsAt w F' v l := by
 obtain ⟨ao, cap, g, off, e, hs⟩ := h; exact ⟨ao, cap, g, off, e, hs.mono hF⟩
theorem slAt_nil (w : World) (F : Nat -> Prop) : SlAt w F none 0 0 0 0 [] := ⟨Nat.le_refl _, Nat.zero_le _, fun _ => ⟨rfl, rfl⟩, fun p => absurd p (Nat.lt_irrefl _), fun _ => rfl, fun j u h => by simp at h⟩
theorem entsAt_nil (w : World) (F : Nat -> Prop) : EntsAt w F (.slice none 0 0) [] := ⟨none, 0, 0, 0, rfl, slAt_nil w F⟩
theorem textsAt_nil (w : World) (F : Nat -> Prop) : TextsAt w F (.slice none 0 0) [] := ⟨none, 0, 0, 0, rfl, slAt_nil w F⟩
theorem bytesAt_nil (w : World) (F : Nat -> Prop) : BytesAt w F (.slice none 0 0) [] := ⟨none, 0, 0, 0, rfl, src_nil w, fun p => absurd p (Nat.lt_irrefl _)⟩
theorem SlAt.of_own {w : World} {base t k n : Nat} {v : Value} {cs : List Value} {F : Nat -> Prop} (h : w.ownsRow base t k v n cs) (hz : n = 0 -> cs = []) (hF : ∀ g, v.ownBlock = some g -> F g) : ∃ ao cap g, v = .slice ao n cap /\ SlAt w F ao n cap g 0 cs := by
 have hl := h.lt; rcases h.2 with ⟨rfl, h0⟩ | ⟨g, cap, cur, rfl, h2, h3, h4, h5, h6, h7⟩
 ·subst h0
  rw [hz rfl]; exact ⟨none, 0, 0, rfl, slAt_nil w F⟩
 ·refine ⟨_, cap, g, rfl, h4, h5, (fun h => by cases h), fun _ => ⟨rfl, (hl g rfl).2, hF g rfl⟩, hz, fun j u hu => ?_⟩
  have := h.cells (g := g) rfl j u hu
  rw [Addr.add_lit] at this; exact this
theorem TextsAt.of_own {w : World} {base t : Nat} {v : Value} {l : List OB} {F : Nat -> Prop} (h : w.ownsRow base t 1 v l.length (tcells l)) (hF : ∀ g, v.ownBlock = some g -> F g) : TextsAt w F v l := by
 obtain ⟨ao, cap, g, e, hs⟩ := SlAt.of_own h (fun h0 => by rw [List.eq_nil_of_length_eq_zero h0]; rfl) hF
 exact ⟨ao, cap, g, 0, e, hs⟩
theorem EntsAt.of_own {w : World} {base t : Nat} {v : Value} {l : List EntR} {F : Nat -> Prop} (h : w.ownsRow base t 3 v l.length (ecells l)) (hF : ∀ g, v.ownBlock = some g -> F g) : EntsAt w F v l := by
 obtain ⟨ao, cap, g, e, hs⟩ := SlAt.of_own h (fun h0 => by rw [List.eq_nil_of_length_eq_zero h0]; rfl) hF
 exact ⟨ao, cap, g, 0, e, hs⟩
def ocells (o : ObjR) (dv ev uv : Value) : List Value := [.int .i64 o.kind, dv, ev, .string (SL o.tree), uv, .string (SL o.target), .string (SL o.name), .string (SL o.who), .int .i64 o.stamp, .string (SL o.text)]
structure ObjIn (w : World) (F : Nat -> Prop) (o : ObjR) (dv ev uv : Value) : Prop where
 data : BytesAt w F dv o.data
 ents : EntsAt w F ev o.ents
 ups : TextsAt w F uv o.ups
theorem ObjIn.turn {w w' : World} {F G : Nat -> Prop} {o : ObjR} {dv ev uv : Value} (h : ObjIn w F o dv ev uv) (t : Turn G w w') (hn : ∀ k, F k -> ¬ G k) : ObjIn w' F o dv ev uv := ⟨h.data.turn t hn, h.ents.turn t hn, h.ups.turn t hn⟩
theorem ObjIn.mono {w : World} {F F' : Nat -> Prop} {o : ObjR} {dv ev uv : Value} (h : ObjIn w F o dv ev uv) (hF : ∀ k, k < w.heap.size -> F k -> F' k) : ObjIn w F' o dv ev uv := ⟨h.data.mono hF, h.ents.mono hF, h.ups.mono hF⟩
def objV (o : ObjR) (dv ev uv : Value) : Value := .agg #[.int .i64 o.kind, dv, ev, .string (SL o.tree), uv, .string (SL o.target), .string (SL o.name), .string (SL o.who), .int .i64 o.stamp, .string (SL o.text)]
end
section
open Go.RowKit
def pc (x : UInt8) : Bool := x != 0 && x != 47
theorem refText_at (s : OB) (k : Nat) (hk : k < s.length) (W : World) : (Instr.index 9 (.string (SL s)) (.int .i64 (k : Int))).run Tryz.prog W = .ok (.int .u8 ((s.getD k 0).toNat : Int)) W := by
 have h0 : (0 <= (k : Int)) := by omega
 have h : (SL s)[k]? = some (s.getD k 0) := by
  rw [getElem?_pos (SL s) k (by rw [SL_size]; exact hk)]
  simp only [List.getD, List.getElem?_eq_getElem hk, Option.getD_some]; rfl
 simp only [Instr.index, asIntOf, Sem.run_bind, Sem.run_pure, Result.andThen_ok, run_underlying Tryz.underlying9, if_pos h0, Int.toNat_natCast, h]
theorem refPart_any (s : OB) (hs : s.length <= 9223372036854775807) (w : World) : Calls Tryz.prog 128 #[.string (SL s)] w fun e w' => e = .returned (.bool (partB s)) /\ w' = w := by
 obtain ⟨n, hn⟩ := nm_ (s.length); have hsz : (SL s).size = n := by rw [SL_size, hn]
 rw [<- hn] at hs; have HN := h_ hn; clear hn; go_enter Tryz.func128, Tryz.ntmps128; go_wp2; go_loopw [3] (fun i W => ∃ k : Nat, i = .int .i64 (k : Int) /\ k <= n /\ (s.take k).all pc = true /\ W = w) (fun i _ => n - (intOf i).toNat)
 case atStart => exact ⟨0, rfl, Nat.zero_le _, by simp, rfl⟩
 case round =>
  obtain ⟨k, rfl, hk, ha, rfl⟩ := hrel; by_cases hlt : k < n
  ·have i0 : (0 : Int) <= (k : Int) := by omega
   have i1 : (k : Int) < (n : Int) := by omega
   have hidx := refText_at s k (by rw [<- HN.out]; exact hlt)
   obtain ⟨c, hc⟩ := nm_ (s.getD k 0); have htk : s.take (k + 1) = s.take k ++ [c] := by
    have h1 : k < s.length := by rw [<- HN.out]; exact hlt
    rw [List.take_add_one, List.getElem?_eq_getElem h1, hc]; simp [List.getD, h1]
   rw [<- hc] at hidx; obtain ⟨x, hx⟩ := nm_ (c.toNat); rw [<- hx] at hidx; have hbad : (x = 0 \/ x = 47) -> s.all pc = false := fun hb => by
    have hm : c ∈ s := by
     have h1 : k < s.length := by rw [<- HN.out]; exact hlt
     have : c ∈ s.take (k + 1) := by rw [htk]; simp
     exact List.mem_of_mem_take this
    have hp : pc c = false := by
     unfold pc; rcases hb with h0 | h0
     ·have : c = 0 := UInt8.toNat_inj.1 (by rw [<- hx, h0]; rfl)
      rw [this]; rfl
     ·have : c = 47 := UInt8.toNat_inj.1 (by rw [<- hx, h0]; rfl)
      rw [this]; rfl
    cases hq : s.all pc with
    | false => rfl
    | true => rw [List.all_eq_true.1 hq c hm] at hp; cases hp
   have hgood : ¬ x = 0 -> ¬ x = 47 -> (s.take (k + 1)).all pc = true := fun h0 h1 => by
    rw [htk, List.all_append, ha]; have e0 : c ≠ 0 := fun e => h0 (by rw [hx, e]; rfl)
    have e1 : c ≠ 47 := fun e => h1 (by rw [hx, e]; rfl)
    simp [pc, e0, e1]
   have hpb : s.all pc = false -> partB s = false := fun h => by unfold partB; rw [show s.all (fun x => x != 0 && x != 47) = false from h]; rfl
   have HB := h_ hbad; have HG := h_ hgood; have HP := h_ hpb; clear hbad hgood hpb hc htk ha hx; by_cases h0 : x = 0
   ·have j0 : (x : Int) = 0 := by omega
    have hpf := HP.out (HB.out (.inl h0)); clear h0; go_wp2; go_ret
    first | exact ⟨rfl, rfl⟩ | exact ⟨by rw [hpf]; rfl, rfl⟩
   ·have j0 : ¬ (x : Int) = 0 := by omega
    by_cases h1 : x = 47
    ·have j1 : (x : Int) = 47 := by omega
     have hpf := HP.out (HB.out (.inr h1)); clear h1; go_wp2; go_ret
     first | exact ⟨rfl, rfl⟩ | exact ⟨by rw [hpf]; rfl, rfl⟩
    ·have j1 : ¬ (x : Int) = 47 := by omega
     have hgd := HG.out h0 h1; have jb : ((x : Int) == 0 || (x : Int) == 47) = false := by simp [h0]; exact j1
     clear h0 h1; go_wp2; go_roundw
     case rel => exact ⟨k + 1, by go_num, by omega, hgd, trivial⟩
     case measure => simp [intOf]; omega
  ·obtain rfl : k = n := by omega
   have i1 : ¬ (k : Int) < (k : Int) := by omega
   have hall : s.all pc = true := by rw [<- ha, List.take_of_length_le (by rw [<- HN.out]; exact Nat.le_refl _)]
   have e1 := SL_toList s; obtain ⟨b1, hb1⟩ : ∃ b, b = (s == ([46] : OB)) := ⟨_, rfl⟩
   obtain ⟨b2, hb2⟩ : ∃ b, b = (s == ([46, 46] : OB)) := ⟨_, rfl⟩
   have hpv : partB s = (decide (1 <= k) && decide (k <= 100) && !b1 && !b2) := by
    unfold partB; rw [show s.all (fun x => x != 0 && x != 47) = true from hall, <- HN.out, hb1, hb2]
    simp
   have HV := h_ hpv; clear hpv hall ha hk hlt; by_cases c1 : 1 <= k
   ·have q1 : (k : Int) >= 1 := by omega
    by_cases c2 : k <= 100
    ·have q2 : (k : Int) <= 100 := by omega
     have hv : partB s = (!b1 && !b2) := by rw [HV.out]; simp [c1, c2]
     clear c1 c2 HV
     cases b1 with
     | true =>
      have hb3 : (s == ([46] : OB)) = true := hb1.symm
      clear hb1 hb2; go_wp2; go_ret
      first | exact ⟨rfl, rfl⟩ | exact ⟨by rw [hv]; rfl, rfl⟩
     | false =>
      have hb3 : (s == ([46] : OB)) = false := hb1.symm
      cases b2 with
      | true =>
       have hb4 : (s == ([46, 46] : OB)) = true := hb2.symm
       clear hb1 hb2; go_wp2; go_ret
       first | exact ⟨rfl, rfl⟩ | exact ⟨by rw [hv]; rfl, rfl⟩
      | false =>
       have hb4 : (s == ([46, 46] : OB)) = false := hb2.symm
       clear hb1 hb2; go_wp2; go_ret
       first | exact ⟨rfl, rfl⟩ | exact ⟨by rw [hv]; rfl, rfl⟩
    ·have q2 : ¬ (k : Int) <= 100 := by omega
     have hv : partB s = false := by rw [HV.out]; simp [c2]
     clear c1 c2 HV hb1 hb2; go_wp2; go_ret
     first | exact ⟨rfl, rfl⟩ | exact ⟨by rw [hv]; rfl, rfl⟩
   ·have q1 : ¬ (k : Int) >= 1 := by omega
    have hv : partB s = false := by rw [HV.out]; simp [c1]
    clear c1 HV hb1 hb2; go_wp2; go_ret
    first | exact ⟨rfl, rfl⟩ | exact ⟨by rw [hv]; rfl, rfl⟩
end
section
open Go.RowKit
theorem rising_step : ∀ {l : List EntR} {k : Nat} {a b : EntR}, l[k]? = some a -> l[k + 1]? = some b -> risingB (l.take (k + 2)) = (risingB (l.take (k + 1)) && decide (a.nm < b.nm))
 | [], k, a, b, ha, _ => by simp at ha
 | [x], 0, a, b, _, hb => by simp at hb
 | x :: y :: r, 0, a, b, ha, hb => by
  simp at ha hb
  subst ha hb
  simp [risingB]
 | [x], k + 1, a, b, ha, _ => by simp at ha
 | x :: y :: r, k + 1, a, b, ha, hb => by
  have h := rising_step (l := y :: r) (k := k) (a := a) (b := b) (by simpa using ha) (by simpa using hb)
  show risingB (x :: (y :: r).take (k + 2)) = (risingB (x :: (y :: r).take (k + 1)) && decide (a.nm < b.nm))
  have e1 : risingB (x :: (y :: r).take (k + 2)) = (decide (x.nm < y.nm) && risingB ((y :: r).take (k + 2))) := rfl
  have e2 : risingB (x :: (y :: r).take (k + 1)) = (decide (x.nm < y.nm) && risingB ((y :: r).take (k + 1))) := rfl
  rw [e1, e2, h, Bool.and_assoc]
theorem rising_at : ∀ {l : List EntR}, risingB l = true -> ∀ {k : Nat} {a b : EntR}, l[k]? = some a -> l[k + 1]? = some b -> a.nm < b.nm
 | [], _, k, a, b, ha, _ => by simp at ha
 | [x], _, k, a, b, _, hb => by simp at hb
 | x :: y :: r, h, 0, a, b, ha, hb => by
  simp at ha hb
  subst ha hb
  unfold risingB at h; rw [Bool.and_eq_true, decide_eq_true_eq] at h; exact h.1
 | x :: y :: r, h, k + 1, a, b, ha, hb => by
  unfold risingB at h; rw [Bool.and_eq_true] at h; exact rising_at h.2 (k := k) (by simpa using ha) (by simpa using hb)
theorem ents_not {l : List EntR} {k : Nat} {e : EntR} (he : l[k]? = some e) (h : entB e = false) : entsB l = false := by
 unfold entsB
 cases hq : l.all entB with
 | false => rfl
 | true => rw [List.all_eq_true.1 hq e (List.mem_of_getElem? he)] at h; cases h
theorem ents_falls {l : List EntR} {k : Nat} {a b : EntR} (ha : l[k]? = some a) (hb : l[k + 1]? = some b) (h : ¬ a.nm < b.nm) : entsB l = false := by
 unfold entsB
 cases hq : risingB l with
 | false => rw [Bool.and_false, Bool.false_and]
 | true => exact absurd (rising_at hq ha hb) h
def EntsTo (l : List EntR) (k : Nat) : Prop := (l.take k).all entB = true /\ risingB (l.take k) = true
theorem entsTo_zero (l : List EntR) : EntsTo l 0 := ⟨rfl, rfl⟩
theorem all_step {α : Type} {p : α -> Bool} {l : List α} {k : Nat} {e : α} (he : l[k]? = some e) (h : (l.take k).all p = true) (h2 : p e = true) : (l.take (k + 1)).all p = true := by
 rw [List.take_add_one, he, List.all_append, h]; simp [h2]
theorem EntsTo.first {l : List EntR} {e : EntR} (he : l[0]? = some e) (h2 : entB e = true) : EntsTo l 1 := by
 refine ⟨all_step he (entsTo_zero l).1 h2, ?_⟩; rw [List.take_add_one, he]; rfl
theorem EntsTo.next {l : List EntR} {k : Nat} {a e : EntR} (h : EntsTo l (k + 1)) (ha : l[k]? = some a) (he : l[k + 1]? = some e) (h2 : entB e = true) (h3 : a.nm < e.nm) : EntsTo l (k + 2) :=
 ⟨all_step he h.1 h2, by rw [rising_step ha he, h.2, decide_eq_true h3]; rfl⟩
theorem EntsTo.all {l : List EntR} (h : EntsTo l l.length) : entsB l = decide (l.length <= 4096) := by
 have h1 := h.1; have h2 := h.2; rw [List.take_length] at h1 h2; unfold entsB; rw [h1, h2]; simp
theorem SlAt.entry {w : World} {F : Nat -> Prop} {ao : Option Addr} {n cap g off : Nat} {l : List EntR} (h : SlAt w F ao n cap g off (ecells l)) {k : Nat} {e : EntR} (he : l[k]? = some e) (hk : k < n) :
  ao = some ⟨g, off, none⟩ /\ w.cell? ⟨g, off + k * 3, none⟩ = some (.string (SL e.nm)) /\ w.cell? ⟨g, off + k * 3 + 1, none⟩ = some (.bool e.dir) /\ w.cell? ⟨g, off + k * 3 + 2, none⟩ = some (.string (SL e.id)) := by
 obtain ⟨a, b, c⟩ := ecells_get he; exact ⟨(h.src (by omega)).1, h.cell _ _ a, by rw [Nat.add_assoc]; exact h.cell _ _ b, by rw [Nat.add_assoc]; exact h.cell _ _ c⟩
theorem refEntries_any (F : Nat -> Prop) (v : Value) (l : List EntR) (w : World) (h : EntsAt w F v l) (hl : l.length <= 9223372036854775807) (hs : ∀ e ∈ l, e.nm.length <= 9223372036854775807 /\ e.id.length <= 9223372036854775807) :
  Calls Tryz.prog 83 #[v] w fun e w' => e = .returned (.bool (entsB l)) /\ ∃ m, w' = w.drewN m := by
 obtain ⟨ao, cap, g, off, rfl, hsl⟩ := h; obtain ⟨N, hN⟩ := nm_ (l.length); rw [<- hN] at hsl hl |-; have HN := h_ hN; have HS := h_ hsl; have HB := h_ hs; clear hN hsl hs; go_enter Tryz.func83, Tryz.ntmps83; go_wp2; go_loopw [3] (fun i W => ∃ (k j : Nat), i = .int .i64 (k : Int) /\ k <= N /\ EntsTo l k /\ W = w.drewN j) (fun i _ => N - (intOf i).toNat)
 case atStart => exact ⟨0, 0, rfl, Nat.zero_le _, entsTo_zero l, rfl⟩
 case round =>
  obtain ⟨k, j, rfl, hk, ht, rfl⟩ := hrel; by_cases hlt : k < N
  ·have i0 : (0 : Int) <= (k : Int) := by omega
   have i1 : (k : Int) < (N : Int) := by omega
   have hk1 : k < l.length := by rw [<- HN.out]; exact hlt
   obtain ⟨e, he⟩ : ∃ e, l[k]? = some e := ⟨_, List.getElem?_eq_getElem hk1⟩
   obtain ⟨hn1, hn2⟩ := HB.out e (List.mem_of_getElem? he); obtain ⟨rfl, c0, _, c2⟩ := HS.out.entry he hlt; obtain ⟨W0, hW0⟩ := nm_ (w.drewN j); have d0 : W0.cell? ⟨g, off + k * 3, none⟩ = some (.string (SL e.nm)) := by rw [hW0]; exact c0
   have d2 : W0.cell? ⟨g, off + k * 3 + 2, none⟩ = some (.string (SL e.id)) := by rw [hW0]; exact c2
   have HW0 : Hid (∀ n, ∃ j', W0.drewN n = w.drewN j') := h_ (fun n => ⟨j + n, by rw [hW0, World.drewN_drewN]⟩)
   have HC : Hid (∀ m a, l[m]? = some a -> m < N -> W0.cell? ⟨g, off + m * 3, none⟩ = some (.string (SL a.nm))) := h_ (fun m a ha hm => by rw [hW0]; exact (HS.out.entry ha hm).2.1)
   rw [<- hW0]; clear hW0; have hz := SL_size e.id; have HP := h_ (fun W => refPart_any e.nm hn1 W)
   obtain ⟨M, hM⟩ := nm_ (e.id.length); rw [<- hM] at hz hn2; have HE := h_ he; have HT := h_ ht; have HM := h_ hM; clear c0 c2 hn1 he ht hM hk1
   cases hp : partB e.nm with
   | false =>
    have hv : entsB l = false := ents_not HE.out (by unfold entB; rw [hp]; rfl)
    have HV := h_ hv; rw [hp] at HP; clear hv hp; go_wp2; go_quiet ((go_at_call 128; exact Calls.quiet_of_same (HP.out _)))
    go_wp2; go_ret; exact ⟨by rw [HV.out]; rfl, HW0.out _⟩
   | true =>
    rw [hp] at HP; by_cases hm : M = 32
    ·have m1 : (M : Int) = 32 := by omega
     have m2 : ((M : Int) != 32) = false := by simp; omega
     have heb : entB e = true := by unfold entB; rw [hp, <- HM.out, hm]; rfl
     have HEB := h_ heb; clear heb hp hm; by_cases hk0 : k = 0
     ·have z1 : ¬ (k : Int) > 0 := by omega
      have z2 : decide ((k : Int) > 0) = false := by simp; omega
      have z7 : decide (0 < k) = false := by simp; omega
      have z8 : ¬ 0 < k := by omega
      have hnx : EntsTo l (k + 1) := by
       have h1 := HE.out; subst hk0; exact EntsTo.first h1 HEB.out
      clear hk0; go_wp2; go_quiet ((go_at_call 128; exact Calls.quiet_of_same (HP.out _)))
      go_wp2; go_roundw
      case rel =>
       obtain ⟨j', hj'⟩ := HW0.out nq; exact ⟨k + 1, j', by go_num, by omega, hnx, hj'⟩
      case measure => simp [intOf]; omega
     ·obtain ⟨m, hkm⟩ : ∃ m, k = m + 1 := ⟨k - 1, by omega⟩
      have z1 : (k : Int) > 0 := by omega
      have z2 : decide ((k : Int) > 0) = true := by simp; omega
      have z7 : decide (0 < k) = true := by simp; omega
      have z8 : 0 < k := by omega
      have z3 : (k : Int) - 1 = (m : Int) := by omega
      have z4 : IntKind.i64.wrap ((k : Int) - 1) = (m : Int) := by rw [z3]; exact IntWalk.i64_in _ (by omega)
      have z5 : (0 : Int) <= (m : Int) := by omega
      have z6 : (m : Int) < (N : Int) := by omega
      have hml : m < l.length := by have := HN.out; omega
      obtain ⟨a, hea⟩ : ∃ a, l[m]? = some a := ⟨_, List.getElem?_eq_getElem hml⟩
      have d3 : W0.cell? ⟨g, off + m * 3, none⟩ = some (.string (SL a.nm)) := HC.out m a hea (by omega)
      have ln := SL_toList a.nm; have lm := SL_toList e.nm; have hnx : a.nm < e.nm -> EntsTo l (k + 1) := fun h => by
       have h1 := HE.out; have h2 := HT.out; subst hkm; exact EntsTo.next h2 hea h1 HEB.out h
      have hfl : ¬ a.nm < e.nm -> entsB l = false := fun h => by
       have h1 := HE.out; subst hkm; exact ents_falls hea h1 h
      have HNX := h_ hnx; have HFL := h_ hfl; clear hnx hfl hkm hml hea hk0; by_cases hless : a.nm < e.nm
      ·have hb : Op.bytesLess a.nm e.nm = true := by rw [bytesLess_eq]; simpa using hless
       have hnx := HNX.out hless; clear hless; go_wp2; go_quiet ((go_at_call 128; exact Calls.quiet_of_same (HP.out _)))
       go_wp2; go_roundw
       case rel =>
        obtain ⟨j', hj'⟩ := HW0.out nq; exact ⟨k + 1, j', by go_num, by omega, hnx, hj'⟩
       case measure => simp [intOf]; omega
      ·have hb : Op.bytesLess a.nm e.nm = false := by rw [bytesLess_eq]; simpa using hless
       have hv := HFL.out hless; have HV := h_ hv; clear hless hv; go_wp2; go_quiet ((go_at_call 128; exact Calls.quiet_of_same (HP.out _)))
       go_wp2; go_ret; exact ⟨by rw [HV.out]; rfl, HW0.out _⟩
    ·have m1 : ¬ (M : Int) = 32 := by omega
     have m2 : ((M : Int) != 32) = true := by simp; omega
     have hv : entsB l = false := ents_not HE.out (by unfold entB; rw [<- HM.out]; simp [hm])
     have HV := h_ hv; clear hv hp hm; go_wp2; go_quiet ((go_at_call 128; exact Calls.quiet_of_same (HP.out _)))
     go_wp2; go_ret; exact ⟨by rw [HV.out]; rfl, HW0.out _⟩
  ·obtain rfl : k = N := by omega
   have i1 : ¬ (k : Int) < (k : Int) := by omega
   have i2 : decide ((k : Int) < (k : Int)) = false := by simp
   have ht2 : EntsTo l l.length := by rw [<- HN.out]; exact ht
   have hv : entsB l = decide (k <= 4096) := by rw [ht2.all, <- HN.out]
   have HV := h_ hv; clear hv ht ht2; by_cases hq : k <= 4096
   ·have q1 : (k : Int) <= 4096 := by omega
    go_wp2; go_ret; exact ⟨by rw [HV.out, decide_eq_true hq]; rfl, j, rfl⟩
   ·have q1 : ¬ (k : Int) <= 4096 := by omega
    go_wp2; go_ret; exact ⟨by rw [HV.out, decide_eq_false hq]; rfl, j, rfl⟩
end
section
open Go.RowKit
theorem once_iff : ∀ (l : List OB), onceB l = true ↔ l.Pairwise (fun a b => a ≠ b)
 | [] => by simp [onceB]
 | a :: r => by
  unfold onceB; rw [Bool.and_eq_true, once_iff r, List.pairwise_cons, List.all_eq_true]; constructor
  ·rintro ⟨h1, h2⟩
   exact ⟨fun x hx e => by have := h1 x hx; rw [e] at this; simp at this, h2⟩
  ·rintro ⟨h1, h2⟩
   exact ⟨fun x hx => by simpa using fun e => h1 x hx e.symm, h2⟩
def is32 (u : OB) : Bool := decide (u.length = 32)
def UpsTo (l : List OB) (k : Nat) : Prop := (l.take k).all is32 = true /\ (l.take k).Pairwise (fun a b => a ≠ b)
theorem upsTo_zero (l : List OB) : UpsTo l 0 := ⟨rfl, by simp⟩
theorem ups_not {l : List OB} {k : Nat} {u : OB} (hu : l[k]? = some u) (h : u.length ≠ 32) : upsB l = false := by
 unfold upsB
 cases hq : l.all (fun u => decide (u.length = 32)) with
 | false => rfl
 | true => exact absurd (by simpa using List.all_eq_true.1 hq u (List.mem_of_getElem? hu)) h
theorem ups_twice {l : List OB} {j k : Nat} {t u : OB} (hj : j < k) (ht : l[j]? = some t) (hu : l[k]? = some u) (h : t = u) : upsB l = false := by
 unfold upsB
 cases hq : onceB l with
 | false => rw [Bool.and_false, Bool.false_and]
 | true =>
  have h1 := (once_iff l).1 hq; obtain ⟨hj1, hj2⟩ := List.getElem?_eq_some_iff.1 ht; obtain ⟨hk1, hk2⟩ := List.getElem?_eq_some_iff.1 hu; exact absurd (by rw [hj2, hk2]; exact h) (List.pairwise_iff_getElem.1 h1 j k hj1 hk1 hj)
theorem UpsTo.next {l : List OB} {k : Nat} {u : OB} (h : UpsTo l k) (hu : l[k]? = some u) (h1 : u.length = 32) (h2 : ∀ t ∈ l.take k, t ≠ u) : UpsTo l (k + 1) := by
 refine ⟨all_step hu h.1 (by unfold is32; exact decide_eq_true h1), ?_⟩
 rw [List.take_add_one, hu, List.pairwise_append]; exact ⟨h.2, by simp, fun a ha b hb => by simp at hb; rw [hb]; exact h2 a ha⟩
theorem UpsTo.all {l : List OB} (h : UpsTo l l.length) : upsB l = decide (l.length <= 4) := by
 have h1 := h.1; have h2 := h.2; rw [List.take_length] at h1 h2; unfold upsB; rw [show l.all (fun u => decide (u.length = 32)) = true from h1, (once_iff l).2 h2]
 simp
theorem SlAt.text {w : World} {F : Nat -> Prop} {ao : Option Addr} {n cap g off : Nat} {l : List OB} (h : SlAt w F ao n cap g off (tcells l)) {k : Nat} {t : OB} (he : l[k]? = some t) (hk : k < n) :
  ao = some ⟨g, off, none⟩ /\ w.cell? ⟨g, off + k, none⟩ = some (.string (SL t)) := ⟨(h.src (by omega)).1, h.cell _ _ (tcells_get he)⟩
theorem refParents_any (F : Nat -> Prop) (v : Value) (l : List OB) (w : World) (h : TextsAt w F v l) (hl : l.length <= 9223372036854775807) (hs : ∀ t ∈ l, t.length <= 9223372036854775807) :
  Calls Tryz.prog 84 #[v] w fun e w' => e = .returned (.bool (upsB l)) /\ ∃ m, w' = w.drewN m := by
 obtain ⟨ao, cap, g, off, rfl, hsl⟩ := h; obtain ⟨N, hN⟩ := nm_ (l.length); rw [<- hN] at hsl hl |-; have HN := h_ hN; have HS := h_ hsl; have HB := h_ hs; clear hN hsl hs; go_enter Tryz.func84, Tryz.ntmps84; go_wp2; go_loopw [3, 4] (fun i q W => ∃ (k j : Nat), i = .int .i64 (k : Int) /\ k <= N /\ UpsTo l k /\ q = q /\ W = w.drewN j) (fun i _ _ => N - (intOf i).toNat)
 case atStart => exact ⟨0, 0, rfl, Nat.zero_le _, upsTo_zero l, rfl, rfl⟩
 case round =>
  obtain ⟨k, j, rfl, hk, ht, _, rfl⟩ := hrel; by_cases hlt : k < N
  ·have i0 : (0 : Int) <= (k : Int) := by omega
   have i1 : (k : Int) < (N : Int) := by omega
   have hk1 : k < l.length := by rw [<- HN.out]; exact hlt
   obtain ⟨e, he⟩ : ∃ e, l[k]? = some e := ⟨_, List.getElem?_eq_getElem hk1⟩
   have hn2 := HB.out e (List.mem_of_getElem? he); obtain ⟨rfl, c0⟩ := HS.out.text he hlt; have hz := SL_size e; obtain ⟨W0, hW0⟩ := nm_ (w.drewN j); have d0 : W0.cell? ⟨g, off + k, none⟩ = some (.string (SL e)) := by rw [hW0]; exact c0
   have HW0 : Hid (∀ n, ∃ j', W0.drewN n = w.drewN j') := h_ (fun n => ⟨j + n, by rw [hW0, World.drewN_drewN]⟩)
   have HC : Hid (∀ m a, l[m]? = some a -> m < N -> W0.cell? ⟨g, off + m, none⟩ = some (.string (SL a))) := h_ (fun m a ha hm => by rw [hW0]; exact (HS.out.text ha hm).2)
   rw [<- hW0]; clear hW0; obtain ⟨M, hM⟩ := nm_ (e.length); rw [<- hM] at hz hn2; have HE := h_ he; have HT := h_ ht; have HM := h_ hM; clear c0 he ht hM hk1; by_cases hm : M = 32
   ·have m1 : (M : Int) = 32 := by omega
    have m2 : ((M : Int) != 32) = false := by simp; omega
    have he32 : e.length = 32 := by rw [<- HM.out]; exact hm
    have H32 := h_ he32; clear he32 hm; go_wp2; go_loopw [4] (fun q W => ∃ (p j' : Nat), q = .int .i64 (p : Int) /\ p <= k /\ (∀ t ∈ l.take p, t ≠ e) /\ W = W0.drewN j') (fun q _ => k - (intOf q).toNat)
    case atStart => exact ⟨0, 0, rfl, Nat.zero_le _, by simp, rfl⟩
    case round =>
     obtain ⟨p, j', rfl, hp, hno, rfl⟩ := hrel; by_cases hpk : p < k
     ·have p0 : (0 : Int) <= (p : Int) := by omega
      have p1 : (p : Int) < (k : Int) := by omega
      have p2 : (p : Int) < (N : Int) := by omega
      have hp1 : p < l.length := by have := HN.out; omega
      obtain ⟨t, ht⟩ : ∃ t, l[p]? = some t := ⟨_, List.getElem?_eq_getElem hp1⟩
      have d3 := HC.out p t ht (by omega)
      obtain ⟨W1, hW1⟩ := nm_ (W0.drewN j'); have f0 : W1.cell? ⟨g, off + k, none⟩ = some (.string (SL e)) := by rw [hW1]; exact d0
      have f3 : W1.cell? ⟨g, off + p, none⟩ = some (.string (SL t)) := by rw [hW1]; exact d3
      have HW1 : Hid (∀ n, ∃ j2, W1.drewN n = W0.drewN j2) := h_ (fun n => ⟨j' + n, by rw [hW1, World.drewN_drewN]⟩)
      rw [<- hW1]; have ln := SL_toList t; have lm := SL_toList e; have HTP := h_ ht; have HNO := h_ hno; clear hW1 d3 ht hno hp1; by_cases hq : t = e
      ·have hb : (t == e) = true := by rw [hq]; exact beq_self_eq_true _
       have hv : upsB l = false := ups_twice hpk HTP.out HE.out hq
       have HV := h_ hv; clear hv hq; go_wp2; go_quiet (fail)
       go_wp2; go_ret; obtain ⟨j2, hj2⟩ := HW1.out nq; obtain ⟨j3, hj3⟩ := HW0.out j2; exact ⟨by rw [HV.out]; rfl, j3, by rw [hj2]; exact hj3⟩
      ·have hb : (t == e) = false := by simpa using hq
       have hnx : ∀ x ∈ l.take (p + 1), x ≠ e := fun x hx => by
        rw [List.take_add_one, HTP.out] at hx; simp at hx
        rcases hx with hx | rfl
        ·exact HNO.out x hx
        ·exact hq
       have HNX := h_ hnx; clear hq hnx; go_wp2; go_quiet (fail)
       go_wp2; go_roundw
       case rel =>
        obtain ⟨j2, hj2⟩ := HW1.out nq; exact ⟨p + 1, j2, by go_num, by omega, HNX.out, hj2⟩
       case measure => simp [intOf]; omega
     ·obtain rfl : p = k := by omega
      have p1 : ¬ (p : Int) < (p : Int) := by omega
      have hnx := HT.out.next HE.out H32.out hno; have HNX := h_ hnx; clear hno hnx; go_wp2; go_roundw
      case rel =>
       obtain ⟨j2, hj2⟩ := HW0.out j'; exact ⟨p + 1, j2, by go_num, by omega, HNX.out, trivial, hj2⟩
      case measure => simp [intOf]; omega
   ·have m1 : ¬ (M : Int) = 32 := by omega
    have m2 : ((M : Int) != 32) = true := by simp; omega
    have hv : upsB l = false := ups_not HE.out (by rw [<- HM.out]; exact hm)
    have HV := h_ hv; clear hv hm; go_wp2; go_ret; exact ⟨by rw [HV.out]; rfl, HW0.out 0⟩
  ·obtain rfl : k = N := by omega
   have i1 : ¬ (k : Int) < (k : Int) := by omega
   have ht2 : UpsTo l l.length := by rw [<- HN.out]; exact ht
   have hv : upsB l = decide (k <= 4) := by rw [ht2.all, <- HN.out]
   have HV := h_ hv; clear hv ht ht2; by_cases hq : k <= 4
   ·have q1 : (k : Int) <= 4 := by omega
    go_wp2; go_ret; exact ⟨by rw [HV.out, decide_eq_true hq]; rfl, j, rfl⟩
   ·have q1 : ¬ (k : Int) <= 4 := by omega
    go_wp2; go_ret; exact ⟨by rw [HV.out, decide_eq_false hq]; rfl, j, rfl⟩
end
section
open Go.RowKit
def obj3 (o : ObjR) (a1 : Option Addr) (c1 : Nat) (a2 : Option Addr) (c2 : Nat) (a3 : Option Addr) (c3 : Nat) : Value := objV o (.slice a1 o.data.length c1) (.slice a2 o.ents.length c2) (.slice a3 o.ups.length c3)
theorem refTold_any (o : ObjR) (a1 : Option Addr) (c1 : Nat) (a2 : Option Addr) (c2 : Nat) (a3 : Option Addr) (c3 : Nat) (w : World) :
  Calls Tryz.prog 85 #[obj3 o a1 c1 a2 c2 a3 c3] w fun e w' => e = .returned (.bool (toldB o)) /\ Below w.heap.size w w' := by
 obtain ⟨n1, h1⟩ := nm_ (o.data.length); obtain ⟨n2, h2⟩ := nm_ (o.ents.length); obtain ⟨n3, h3⟩ := nm_ (o.ups.length); have hv : toldB o = (decide (o.who.length <= 1000) && decide (o.text.length <= 1000) && decide (0 <= o.stamp) && decide (o.stamp <= 1099511627776)) := rfl
 have s1 := SL_size o.who; have s2 := SL_size o.text; obtain ⟨A, hA⟩ := nm_ (o.who.length); obtain ⟨B, hB⟩ := nm_ (o.text.length); obtain ⟨z, hz⟩ := nm_ (o.stamp); unfold obj3 objV; rw [<- hA] at s1; rw [<- hB] at s2; rw [<- hA, <- hB, <- hz] at hv; rw [<- h1, <- h2, <- h3, <- hz]; have HV := h_ hv; have hb := (Below.refl w.heap.size w).alloc (Nat.le_refl _) (.cells #[.int .i64 o.kind, .slice a1 n1 c1, .slice a2 n2 c2, .string (SL o.tree), .slice a3 n3 c3, .string (SL o.target), .string (SL o.name), .string (SL o.who), .int .i64 z, .string (SL o.text)] 33); have HB := h_ hb; clear hv h1 h2 h3 hA hB hz hb; by_cases q1 : A <= 1000
 ·have q1' : (A : Int) <= 1000 := by omega
  by_cases q2 : B <= 1000
  ·have q2' : (B : Int) <= 1000 := by omega
   by_cases q3 : z >= 0
   ·by_cases q4 : z <= 1099511627776
    ·have hv : toldB o = true := by rw [HV.out]; simp [q1, q2, q4]; omega
     have HV2 := h_ hv; clear hv q1 q2; go_enter Tryz.func85, Tryz.ntmps85; go_wp2; go_ret; exact ⟨by rw [HV2.out]; rfl, HB.out⟩
    ·have hv : toldB o = false := by rw [HV.out]; simp [q4]
     have HV2 := h_ hv; clear hv q1 q2; go_enter Tryz.func85, Tryz.ntmps85; go_wp2; go_ret; exact ⟨by rw [HV2.out]; rfl, HB.out⟩
   ·have hv : toldB o = false := by rw [HV.out]; simp [show ¬ 0 <= z from q3]
    have HV2 := h_ hv; clear hv q1 q2; go_enter Tryz.func85, Tryz.ntmps85; go_wp2; go_ret; exact ⟨by rw [HV2.out]; rfl, HB.out⟩
  ·have q2' : ¬ (B : Int) <= 1000 := by omega
   have hv : toldB o = false := by rw [HV.out]; simp [q2]
   have HV2 := h_ hv; clear hv q1 q2; go_enter Tryz.func85, Tryz.ntmps85; go_wp2; go_ret; exact ⟨by rw [HV2.out]; rfl, HB.out⟩
 ·have q1' : ¬ (A : Int) <= 1000 := by omega
  have hv : toldB o = false := by rw [HV.out]; simp [q1]
  have HV2 := h_ hv; clear hv q1; go_enter Tryz.func85, Tryz.ntmps85; go_wp2; go_ret; exact ⟨by rw [HV2.out]; rfl, HB.out⟩
end
section
open Go.RowKit
theorem SL_empty {t : OB} (h : t = []) : ((SL t).toList == ([] : List UInt8)) = true /\ (SL t).toList = [] := by rw [SL_toList, h]; exact ⟨rfl, rfl⟩
theorem SL_full {t : OB} (h : ¬ t = []) : ((SL t).toList == ([] : List UInt8)) = false /\ (SL t).toList ≠ [] := by rw [SL_toList]; exact ⟨by simpa using h, h⟩
theorem refBare1 (o : ObjR) (a1 : Option Addr) (c1 : Nat) (a2 : Option Addr) (c2 : Nat) (a3 : Option Addr) (c3 : Nat) (w : World) :
  Calls Tryz.prog 82 #[obj3 o a1 c1 a2 c2 a3 c3, .bool false, .bool true, .bool true, .bool true, .bool true] w fun e w' => e = .returned (.bool (bareB o false true true true true)) /\ Below w.heap.size w w' := by
 obtain ⟨n1, hn1⟩ := nm_ (o.data.length); obtain ⟨n2, hn2⟩ := nm_ (o.ents.length); obtain ⟨n3, hn3⟩ := nm_ (o.ups.length); obtain ⟨z, hz⟩ := nm_ (o.stamp); unfold obj3 objV; rw [<- hn1, <- hn2, <- hn3, <- hz]; have hb := (Below.refl w.heap.size w).alloc (Nat.le_refl _) (.cells #[.int .i64 o.kind, .slice a1 n1 c1, .slice a2 n2 c2, .string (SL o.tree), .slice a3 n3 c3, .string (SL o.target), .string (SL o.name), .string (SL o.who), .int .i64 z, .string (SL o.text)] 33); have HB := h_ hb; have H1 := h_ hn1; have H2 := h_ hn2; have H3 := h_ hn3; have HZ := h_ hz; clear hb hn1 hn2 hn3 hz; by_cases h_ents : o.ents = []
 ·have e_ents : n2 = 0 := by rw [H2.out, h_ents]; rfl
  have p_ents : ¬ (n2 : Int) > 0 := by omega
  have r_ents : ¬ 0 < n2 := by omega
  have s_ents : decide (0 < n2) = false := by simp; omega
  clear e_ents; by_cases h_tree : o.tree = []
  ·obtain ⟨p_tree, r_tree⟩ := SL_empty h_tree
   by_cases h_ups : o.ups = []
   ·have e_ups : n3 = 0 := by rw [H3.out, h_ups]; rfl
    have p_ups : ¬ (n3 : Int) > 0 := by omega
    have r_ups : ¬ 0 < n3 := by omega
    have s_ups : decide (0 < n3) = false := by simp; omega
    clear e_ups; by_cases h_target : o.target = []
    ·obtain ⟨p_target, r_target⟩ := SL_empty h_target
     by_cases h_name : o.name = []
     ·obtain ⟨p_name, r_name⟩ := SL_empty h_name
      by_cases h_who : o.who = []
      ·obtain ⟨p_who, r_who⟩ := SL_empty h_who
       by_cases h_text : o.text = []
       ·obtain ⟨p_text, r_text⟩ := SL_empty h_text
        by_cases h_stamp : o.stamp = 0
        ·have p_stamp : z = 0 := by rw [HZ.out]; exact h_stamp
         have r_stamp : (z == 0) = true := by rw [p_stamp]; rfl
         have hv : bareB o false true true true true = true := by unfold bareB; simp [h_ents, h_tree, h_ups, h_target, h_name, h_who, h_text, h_stamp]
         have HV := h_ hv; clear hv h_ents h_tree h_ups h_target h_name h_who h_text h_stamp; go_enter Tryz.func82, Tryz.ntmps82; go_wp2; go_ret; refine ⟨by rw [HV.out]; rfl, ?_⟩
         first | exact HB.out | (have hbz := HB.out; rw [p_stamp] at hbz; exact hbz)
        ·have p_stamp : ¬ z = 0 := by rw [HZ.out]; exact h_stamp
         have r_stamp : (z == 0) = false := by simpa using p_stamp
         have hv : bareB o false true true true true = false := by unfold bareB; simp [h_ents, h_tree, h_ups, h_target, h_name, h_who, h_text, h_stamp]
         have HV := h_ hv; clear hv h_ents h_tree h_ups h_target h_name h_who h_text h_stamp; go_enter Tryz.func82, Tryz.ntmps82; go_wp2; go_ret; refine ⟨by rw [HV.out]; rfl, ?_⟩
         first | exact HB.out | (have hbz := HB.out; rw [p_stamp] at hbz; exact hbz)
       ·obtain ⟨p_text, r_text⟩ := SL_full h_text
        have hv : bareB o false true true true true = false := by unfold bareB; simp [h_ents, h_tree, h_ups, h_target, h_name, h_who, h_text]
        have HV := h_ hv; clear hv h_ents h_tree h_ups h_target h_name h_who h_text; go_enter Tryz.func82, Tryz.ntmps82; go_wp2; go_ret; refine ⟨by rw [HV.out]; rfl, ?_⟩
        first | exact HB.out | (have hbz := HB.out; rw [p_stamp] at hbz; exact hbz)
      ·obtain ⟨p_who, r_who⟩ := SL_full h_who
       have hv : bareB o false true true true true = false := by unfold bareB; simp [h_ents, h_tree, h_ups, h_target, h_name, h_who]
       have HV := h_ hv; clear hv h_ents h_tree h_ups h_target h_name h_who; go_enter Tryz.func82, Tryz.ntmps82; go_wp2; go_ret; refine ⟨by rw [HV.out]; rfl, ?_⟩
       first | exact HB.out | (have hbz := HB.out; rw [p_stamp] at hbz; exact hbz)
     ·obtain ⟨p_name, r_name⟩ := SL_full h_name
      have hv : bareB o false true true true true = false := by unfold bareB; simp [h_ents, h_tree, h_ups, h_target, h_name]
      have HV := h_ hv; clear hv h_ents h_tree h_ups h_target h_name; go_enter Tryz.func82, Tryz.ntmps82; go_wp2; go_ret; refine ⟨by rw [HV.out]; rfl, ?_⟩
      first | exact HB.out | (have hbz := HB.out; rw [p_stamp] at hbz; exact hbz)
    ·obtain ⟨p_target, r_target⟩ := SL_full h_target
     have hv : bareB o false true true true true = false := by unfold bareB; simp [h_ents, h_tree, h_ups, h_target]
     have HV := h_ hv; clear hv h_ents h_tree h_ups h_target; go_enter Tryz.func82, Tryz.ntmps82; go_wp2; go_ret; refine ⟨by rw [HV.out]; rfl, ?_⟩
     first | exact HB.out | (have hbz := HB.out; rw [p_stamp] at hbz; exact hbz)
   ·have r_ups : 0 < n3 := by rw [H3.out]; exact List.length_pos_iff.2 h_ups
    have p_ups : (n3 : Int) > 0 := by omega
    have s_ups : decide (0 < n3) = true := by simp; omega
    have hv : bareB o false true true true true = false := by unfold bareB; simp [h_ents, h_tree, h_ups]
    have HV := h_ hv; clear hv h_ents h_tree h_ups; go_enter Tryz.func82, Tryz.ntmps82; go_wp2; go_ret; refine ⟨by rw [HV.out]; rfl, ?_⟩
    first | exact HB.out | (have hbz := HB.out; rw [p_stamp] at hbz; exact hbz)
  ·obtain ⟨p_tree, r_tree⟩ := SL_full h_tree
   have hv : bareB o false true true true true = false := by unfold bareB; simp [h_ents, h_tree]
   have HV := h_ hv; clear hv h_ents h_tree; go_enter Tryz.func82, Tryz.ntmps82; go_wp2; go_ret; refine ⟨by rw [HV.out]; rfl, ?_⟩
   first | exact HB.out | (have hbz := HB.out; rw [p_stamp] at hbz; exact hbz)
 ·have r_ents : 0 < n2 := by rw [H2.out]; exact List.length_pos_iff.2 h_ents
  have p_ents : (n2 : Int) > 0 := by omega
  have s_ents : decide (0 < n2) = true := by simp; omega
  have hv : bareB o false true true true true = false := by unfold bareB; simp [h_ents]
  have HV := h_ hv; clear hv h_ents; go_enter Tryz.func82, Tryz.ntmps82; go_wp2; go_ret; refine ⟨by rw [HV.out]; rfl, ?_⟩
  first | exact HB.out | (have hbz := HB.out; rw [p_stamp] at hbz; exact hbz)
theorem refBare2 (o : ObjR) (a1 : Option Addr) (c1 : Nat) (a2 : Option Addr) (c2 : Nat) (a3 : Option Addr) (c3 : Nat) (w : World) :
  Calls Tryz.prog 82 #[obj3 o a1 c1 a2 c2 a3 c3, .bool true, .bool false, .bool true, .bool true, .bool true] w fun e w' => e = .returned (.bool (bareB o true false true true true)) /\ Below w.heap.size w w' := by
 obtain ⟨n1, hn1⟩ := nm_ (o.data.length); obtain ⟨n2, hn2⟩ := nm_ (o.ents.length); obtain ⟨n3, hn3⟩ := nm_ (o.ups.length); obtain ⟨z, hz⟩ := nm_ (o.stamp); unfold obj3 objV; rw [<- hn1, <- hn2, <- hn3, <- hz]; have hb := (Below.refl w.heap.size w).alloc (Nat.le_refl _) (.cells #[.int .i64 o.kind, .slice a1 n1 c1, .slice a2 n2 c2, .string (SL o.tree), .slice a3 n3 c3, .string (SL o.target), .string (SL o.name), .string (SL o.who), .int .i64 z, .string (SL o.text)] 33); have HB := h_ hb; have H1 := h_ hn1; have H2 := h_ hn2; have H3 := h_ hn3; have HZ := h_ hz; clear hb hn1 hn2 hn3 hz; by_cases h_data : o.data = []
 ·have e_data : n1 = 0 := by rw [H1.out, h_data]; rfl
  have p_data : ¬ (n1 : Int) > 0 := by omega
  have r_data : ¬ 0 < n1 := by omega
  have s_data : decide (0 < n1) = false := by simp; omega
  clear e_data; by_cases h_tree : o.tree = []
  ·obtain ⟨p_tree, r_tree⟩ := SL_empty h_tree
   by_cases h_ups : o.ups = []
   ·have e_ups : n3 = 0 := by rw [H3.out, h_ups]; rfl
    have p_ups : ¬ (n3 : Int) > 0 := by omega
    have r_ups : ¬ 0 < n3 := by omega
    have s_ups : decide (0 < n3) = false := by simp; omega
    clear e_ups; by_cases h_target : o.target = []
    ·obtain ⟨p_target, r_target⟩ := SL_empty h_target
     by_cases h_name : o.name = []
     ·obtain ⟨p_name, r_name⟩ := SL_empty h_name
      by_cases h_who : o.who = []
      ·obtain ⟨p_who, r_who⟩ := SL_empty h_who
       by_cases h_text : o.text = []
       ·obtain ⟨p_text, r_text⟩ := SL_empty h_text
        by_cases h_stamp : o.stamp = 0
        ·have p_stamp : z = 0 := by rw [HZ.out]; exact h_stamp
         have r_stamp : (z == 0) = true := by rw [p_stamp]; rfl
         have hv : bareB o true false true true true = true := by unfold bareB; simp [h_data, h_tree, h_ups, h_target, h_name, h_who, h_text, h_stamp]
         have HV := h_ hv; clear hv h_data h_tree h_ups h_target h_name h_who h_text h_stamp; go_enter Tryz.func82, Tryz.ntmps82; go_wp2; go_ret; refine ⟨by rw [HV.out]; rfl, ?_⟩
         first | exact HB.out | (have hbz := HB.out; rw [p_stamp] at hbz; exact hbz)
        ·have p_stamp : ¬ z = 0 := by rw [HZ.out]; exact h_stamp
         have r_stamp : (z == 0) = false := by simpa using p_stamp
         have hv : bareB o true false true true true = false := by unfold bareB; simp [h_data, h_tree, h_ups, h_target, h_name, h_who, h_text, h_stamp]
         have HV := h_ hv; clear hv h_data h_tree h_ups h_target h_name h_who h_text h_stamp; go_enter Tryz.func82, Tryz.ntmps82; go_wp2; go_ret; refine ⟨by rw [HV.out]; rfl, ?_⟩
         first | exact HB.out | (have hbz := HB.out; rw [p_stamp] at hbz; exact hbz)
       ·obtain ⟨p_text, r_text⟩ := SL_full h_text
        have hv : bareB o true false true true true = false := by unfold bareB; simp [h_data, h_tree, h_ups, h_target, h_name, h_who, h_text]
        have HV := h_ hv; clear hv h_data h_tree h_ups h_target h_name h_who h_text; go_enter Tryz.func82, Tryz.ntmps82; go_wp2; go_ret; refine ⟨by rw [HV.out]; rfl, ?_⟩
        first | exact HB.out | (have hbz := HB.out; rw [p_stamp] at hbz; exact hbz)
      ·obtain ⟨p_who, r_who⟩ := SL_full h_who
       have hv : bareB o true false true true true = false := by unfold bareB; simp [h_data, h_tree, h_ups, h_target, h_name, h_who]
       have HV := h_ hv; clear hv h_data h_tree h_ups h_target h_name h_who; go_enter Tryz.func82, Tryz.ntmps82; go_wp2; go_ret; refine ⟨by rw [HV.out]; rfl, ?_⟩
       first | exact HB.out | (have hbz := HB.out; rw [p_stamp] at hbz; exact hbz)
     ·obtain ⟨p_name, r_name⟩ := SL_full h_name
      have hv : bareB o true false true true true = false := by unfold bareB; simp [h_data, h_tree, h_ups, h_target, h_name]
      have HV := h_ hv; clear hv h_data h_tree h_ups h_target h_name; go_enter Tryz.func82, Tryz.ntmps82; go_wp2; go_ret; refine ⟨by rw [HV.out]; rfl, ?_⟩
      first | exact HB.out | (have hbz := HB.out; rw [p_stamp] at hbz; exact hbz)
    ·obtain ⟨p_target, r_target⟩ := SL_full h_target
     have hv : bareB o true false true true true = false := by unfold bareB; simp [h_data, h_tree, h_ups, h_target]
     have HV := h_ hv; clear hv h_data h_tree h_ups h_target; go_enter Tryz.func82, Tryz.ntmps82; go_wp2; go_ret; refine ⟨by rw [HV.out]; rfl, ?_⟩
     first | exact HB.out | (have hbz := HB.out; rw [p_stamp] at hbz; exact hbz)
   ·have r_ups : 0 < n3 := by rw [H3.out]; exact List.length_pos_iff.2 h_ups
    have p_ups : (n3 : Int) > 0 := by omega
    have s_ups : decide (0 < n3) = true := by simp; omega
    have hv : bareB o true false true true true = false := by unfold bareB; simp [h_data, h_tree, h_ups]
    have HV := h_ hv; clear hv h_data h_tree h_ups; go_enter Tryz.func82, Tryz.ntmps82; go_wp2; go_ret; refine ⟨by rw [HV.out]; rfl, ?_⟩
    first | exact HB.out | (have hbz := HB.out; rw [p_stamp] at hbz; exact hbz)
  ·obtain ⟨p_tree, r_tree⟩ := SL_full h_tree
   have hv : bareB o true false true true true = false := by unfold bareB; simp [h_data, h_tree]
   have HV := h_ hv; clear hv h_data h_tree; go_enter Tryz.func82, Tryz.ntmps82; go_wp2; go_ret; refine ⟨by rw [HV.out]; rfl, ?_⟩
   first | exact HB.out | (have hbz := HB.out; rw [p_stamp] at hbz; exact hbz)
 ·have r_data : 0 < n1 := by rw [H1.out]; exact List.length_pos_iff.2 h_data
  have p_data : (n1 : Int) > 0 := by omega
  have s_data : decide (0 < n1) = true := by simp; omega
  have hv : bareB o true false true true true = false := by unfold bareB; simp [h_data]
  have HV := h_ hv; clear hv h_data; go_enter Tryz.func82, Tryz.ntmps82; go_wp2; go_ret; refine ⟨by rw [HV.out]; rfl, ?_⟩
  first | exact HB.out | (have hbz := HB.out; rw [p_stamp] at hbz; exact hbz)
theorem refBare3 (o : ObjR) (a1 : Option Addr) (c1 : Nat) (a2 : Option Addr) (c2 : Nat) (a3 : Option Addr) (c3 : Nat) (w : World) :
  Calls Tryz.prog 82 #[obj3 o a1 c1 a2 c2 a3 c3, .bool true, .bool true, .bool false, .bool true, .bool false] w fun e w' => e = .returned (.bool (bareB o true true false true false)) /\ Below w.heap.size w w' := by
 obtain ⟨n1, hn1⟩ := nm_ (o.data.length); obtain ⟨n2, hn2⟩ := nm_ (o.ents.length); obtain ⟨n3, hn3⟩ := nm_ (o.ups.length); obtain ⟨z, hz⟩ := nm_ (o.stamp); unfold obj3 objV; rw [<- hn1, <- hn2, <- hn3, <- hz]; have hb := (Below.refl w.heap.size w).alloc (Nat.le_refl _) (.cells #[.int .i64 o.kind, .slice a1 n1 c1, .slice a2 n2 c2, .string (SL o.tree), .slice a3 n3 c3, .string (SL o.target), .string (SL o.name), .string (SL o.who), .int .i64 z, .string (SL o.text)] 33); have HB := h_ hb; have H1 := h_ hn1; have H2 := h_ hn2; have H3 := h_ hn3; have HZ := h_ hz; clear hb hn1 hn2 hn3 hz; by_cases h_data : o.data = []
 ·have e_data : n1 = 0 := by rw [H1.out, h_data]; rfl
  have p_data : ¬ (n1 : Int) > 0 := by omega
  have r_data : ¬ 0 < n1 := by omega
  have s_data : decide (0 < n1) = false := by simp; omega
  clear e_data; by_cases h_ents : o.ents = []
  ·have e_ents : n2 = 0 := by rw [H2.out, h_ents]; rfl
   have p_ents : ¬ (n2 : Int) > 0 := by omega
   have r_ents : ¬ 0 < n2 := by omega
   have s_ents : decide (0 < n2) = false := by simp; omega
   clear e_ents; by_cases h_target : o.target = []
   ·obtain ⟨p_target, r_target⟩ := SL_empty h_target
    by_cases h_name : o.name = []
    ·obtain ⟨p_name, r_name⟩ := SL_empty h_name
     have hv : bareB o true true false true false = true := by unfold bareB; simp [h_data, h_ents, h_target, h_name]
     have HV := h_ hv; clear hv h_data h_ents h_target h_name; go_enter Tryz.func82, Tryz.ntmps82; go_wp2; go_ret; refine ⟨by rw [HV.out]; rfl, ?_⟩
     first | exact HB.out | (have hbz := HB.out; rw [p_stamp] at hbz; exact hbz)
    ·obtain ⟨p_name, r_name⟩ := SL_full h_name
     have hv : bareB o true true false true false = false := by unfold bareB; simp [h_data, h_ents, h_target, h_name]
     have HV := h_ hv; clear hv h_data h_ents h_target h_name; go_enter Tryz.func82, Tryz.ntmps82; go_wp2; go_ret; refine ⟨by rw [HV.out]; rfl, ?_⟩
     first | exact HB.out | (have hbz := HB.out; rw [p_stamp] at hbz; exact hbz)
   ·obtain ⟨p_target, r_target⟩ := SL_full h_target
    have hv : bareB o true true false true false = false := by unfold bareB; simp [h_data, h_ents, h_target]
    have HV := h_ hv; clear hv h_data h_ents h_target; go_enter Tryz.func82, Tryz.ntmps82; go_wp2; go_ret; refine ⟨by rw [HV.out]; rfl, ?_⟩
    first | exact HB.out | (have hbz := HB.out; rw [p_stamp] at hbz; exact hbz)
  ·have r_ents : 0 < n2 := by rw [H2.out]; exact List.length_pos_iff.2 h_ents
   have p_ents : (n2 : Int) > 0 := by omega
   have s_ents : decide (0 < n2) = true := by simp; omega
   have hv : bareB o true true false true false = false := by unfold bareB; simp [h_data, h_ents]
   have HV := h_ hv; clear hv h_data h_ents; go_enter Tryz.func82, Tryz.ntmps82; go_wp2; go_ret; refine ⟨by rw [HV.out]; rfl, ?_⟩
   first | exact HB.out | (have hbz := HB.out; rw [p_stamp] at hbz; exact hbz)
 ·have r_data : 0 < n1 := by rw [H1.out]; exact List.length_pos_iff.2 h_data
  have p_data : (n1 : Int) > 0 := by omega
  have s_data : decide (0 < n1) = true := by simp; omega
  have hv : bareB o true true false true false = false := by unfold bareB; simp [h_data]
  have HV := h_ hv; clear hv h_data; go_enter Tryz.func82, Tryz.ntmps82; go_wp2; go_ret; refine ⟨by rw [HV.out]; rfl, ?_⟩
  first | exact HB.out | (have hbz := HB.out; rw [p_stamp] at hbz; exact hbz)
theorem refBare4 (o : ObjR) (a1 : Option Addr) (c1 : Nat) (a2 : Option Addr) (c2 : Nat) (a3 : Option Addr) (c3 : Nat) (w : World) :
  Calls Tryz.prog 82 #[obj3 o a1 c1 a2 c2 a3 c3, .bool true, .bool true, .bool true, .bool false, .bool false] w fun e w' => e = .returned (.bool (bareB o true true true false false)) /\ Below w.heap.size w w' := by
 obtain ⟨n1, hn1⟩ := nm_ (o.data.length); obtain ⟨n2, hn2⟩ := nm_ (o.ents.length); obtain ⟨n3, hn3⟩ := nm_ (o.ups.length); obtain ⟨z, hz⟩ := nm_ (o.stamp); unfold obj3 objV; rw [<- hn1, <- hn2, <- hn3, <- hz]; have hb := (Below.refl w.heap.size w).alloc (Nat.le_refl _) (.cells #[.int .i64 o.kind, .slice a1 n1 c1, .slice a2 n2 c2, .string (SL o.tree), .slice a3 n3 c3, .string (SL o.target), .string (SL o.name), .string (SL o.who), .int .i64 z, .string (SL o.text)] 33); have HB := h_ hb; have H1 := h_ hn1; have H2 := h_ hn2; have H3 := h_ hn3; have HZ := h_ hz; clear hb hn1 hn2 hn3 hz; by_cases h_data : o.data = []
 ·have e_data : n1 = 0 := by rw [H1.out, h_data]; rfl
  have p_data : ¬ (n1 : Int) > 0 := by omega
  have r_data : ¬ 0 < n1 := by omega
  have s_data : decide (0 < n1) = false := by simp; omega
  clear e_data; by_cases h_ents : o.ents = []
  ·have e_ents : n2 = 0 := by rw [H2.out, h_ents]; rfl
   have p_ents : ¬ (n2 : Int) > 0 := by omega
   have r_ents : ¬ 0 < n2 := by omega
   have s_ents : decide (0 < n2) = false := by simp; omega
   clear e_ents; by_cases h_tree : o.tree = []
   ·obtain ⟨p_tree, r_tree⟩ := SL_empty h_tree
    by_cases h_ups : o.ups = []
    ·have e_ups : n3 = 0 := by rw [H3.out, h_ups]; rfl
     have p_ups : ¬ (n3 : Int) > 0 := by omega
     have r_ups : ¬ 0 < n3 := by omega
     have s_ups : decide (0 < n3) = false := by simp; omega
     clear e_ups; have hv : bareB o true true true false false = true := by unfold bareB; simp [h_data, h_ents, h_tree, h_ups]
     have HV := h_ hv; clear hv h_data h_ents h_tree h_ups; go_enter Tryz.func82, Tryz.ntmps82; go_wp2; go_ret; refine ⟨by rw [HV.out]; rfl, ?_⟩
     first | exact HB.out | (have hbz := HB.out; rw [p_stamp] at hbz; exact hbz)
    ·have r_ups : 0 < n3 := by rw [H3.out]; exact List.length_pos_iff.2 h_ups
     have p_ups : (n3 : Int) > 0 := by omega
     have s_ups : decide (0 < n3) = true := by simp; omega
     have hv : bareB o true true true false false = false := by unfold bareB; simp [h_data, h_ents, h_tree]; exact List.length_pos_iff.2 h_ups
     have HV := h_ hv; clear hv h_data h_ents h_tree h_ups; go_enter Tryz.func82, Tryz.ntmps82; go_wp2; go_ret; refine ⟨by rw [HV.out]; rfl, ?_⟩
     first | exact HB.out | (have hbz := HB.out; rw [p_stamp] at hbz; exact hbz)
   ·obtain ⟨p_tree, r_tree⟩ := SL_full h_tree
    have hv : bareB o true true true false false = false := by unfold bareB; simp [h_data, h_ents, h_tree]
    have HV := h_ hv; clear hv h_data h_ents h_tree; go_enter Tryz.func82, Tryz.ntmps82; go_wp2; go_ret; refine ⟨by rw [HV.out]; rfl, ?_⟩
    first | exact HB.out | (have hbz := HB.out; rw [p_stamp] at hbz; exact hbz)
  ·have r_ents : 0 < n2 := by rw [H2.out]; exact List.length_pos_iff.2 h_ents
   have p_ents : (n2 : Int) > 0 := by omega
   have s_ents : decide (0 < n2) = true := by simp; omega
   have hv : bareB o true true true false false = false := by unfold bareB; simp [h_data, h_ents]
   have HV := h_ hv; clear hv h_data h_ents; go_enter Tryz.func82, Tryz.ntmps82; go_wp2; go_ret; refine ⟨by rw [HV.out]; rfl, ?_⟩
   first | exact HB.out | (have hbz := HB.out; rw [p_stamp] at hbz; exact hbz)
 ·have r_data : 0 < n1 := by rw [H1.out]; exact List.length_pos_iff.2 h_data
  have p_data : (n1 : Int) > 0 := by omega
  have s_data : decide (0 < n1) = true := by simp; omega
  have hv : bareB o true true true false false = false := by unfold bareB; simp [h_data]
  have HV := h_ hv; clear hv h_data; go_enter Tryz.func82, Tryz.ntmps82; go_wp2; go_ret; refine ⟨by rw [HV.out]; rfl, ?_⟩
  first | exact HB.out | (have hbz := HB.out; rw [p_stamp] at hbz; exact hbz)
end
section
open Go.RowKit
structure ObjFits (o : ObjR) : Prop where
 ents : o.ents.length <= 9223372036854775807
 each : ∀ e ∈ o.ents, e.nm.length <= 9223372036854775807 /\ e.id.length <= 9223372036854775807
 ups : o.ups.length <= 9223372036854775807
 texts : ∀ t ∈ o.ups, t.length <= 9223372036854775807
theorem ok_kind {o : ObjR} (h1 : ¬ o.kind = 1) (h2 : ¬ o.kind = 2) (h3 : ¬ o.kind = 3) (h4 : ¬ o.kind = 4) : okO o = false := by unfold okO; rw [if_neg h1, if_neg h2, if_neg h3, if_neg h4]
theorem ok_one {o : ObjR} (h : o.kind = 1) : okO o = (decide (o.data.length <= 1048576) && bareB o false true true true true) := by unfold okO; rw [if_pos h]
theorem ok_two {o : ObjR} (h : o.kind = 2) : okO o = (entsB o.ents && bareB o true false true true true) := by unfold okO; rw [if_neg (by omega), if_pos h]
theorem ok_three {o : ObjR} (h : o.kind = 3) : okO o = (decide (o.tree.length = 32) && upsB o.ups && toldB o && bareB o true true false true false) := by unfold okO; rw [if_neg (by omega), if_neg (by omega), if_pos h]
theorem ok_four {o : ObjR} (h : o.kind = 4) : okO o = (decide (o.target.length = 32) && (decide (1 <= o.name.length) && decide (o.name.length <= 200)) && toldB o && bareB o true true true false false) := by unfold okO; rw [if_neg (by omega), if_neg (by omega), if_neg (by omega), if_pos h]
theorem obj_cells {w : World} {x : Nat} {v0 v1 v2 v3 v4 v5 v6 v7 v8 v9 : Value} (h : w.heap[x]? = some (.cells #[v0, v1, v2, v3, v4, v5, v6, v7, v8, v9] 33 (0, 0))) :
  w.cell? ⟨x, 0, none⟩ = some v0 /\ w.cell? ⟨x, 1, none⟩ = some v1 /\ w.cell? ⟨x, 2, none⟩ = some v2 /\ w.cell? ⟨x, 3, none⟩ = some v3 /\ w.cell? ⟨x, 4, none⟩ = some v4 /\ w.cell? ⟨x, 5, none⟩ = some v5 /\ w.cell? ⟨x, 6, none⟩ = some v6 /\ w.cell? ⟨x, 7, none⟩ = some v7 /\ w.cell? ⟨x, 8, none⟩ = some v8 /\ w.cell? ⟨x, 9, none⟩ = some v9 :=
 ⟨cell_of_row _ _ _ _ _ _ h, cell_of_row _ _ _ _ _ _ h, cell_of_row _ _ _ _ _ _ h, cell_of_row _ _ _ _ _ _ h, cell_of_row _ _ _ _ _ _ h, cell_of_row _ _ _ _ _ _ h, cell_of_row _ _ _ _ _ _ h, cell_of_row _ _ _ _ _ _ h, cell_of_row _ _ _ _ _ _ h, cell_of_row _ _ _ _ _ _ h⟩
def errO (o : ObjR) : Int := if okO o = true then 0 else 1
theorem refCheck_any (F : Nat -> Prop) (o : ObjR) (dv ev uv : Value) (w : World) (h : ObjIn w F o dv ev uv) (hf : ObjFits o) :
  Calls Tryz.prog 42 #[objV o dv ev uv] w fun e w' => e = .returned (.int .i64 (errO o)) /\ Below w.heap.size w w' := by
 have hents := fun (W : World) (hb : Below w.heap.size w W) => refEntries_any F ev o.ents W (h.ents.turn (Turn.of_below (fun _ => False) hb) (fun _ _ h => h)) hf.ents hf.each
 have hups := fun (W : World) (hb : Below w.heap.size w W) => refParents_any F uv o.ups W (h.ups.turn (Turn.of_below (fun _ => False) hb) (fun _ _ h => h)) hf.ups hf.texts
 obtain ⟨a1, c1, B1, o1, rfl, _, _⟩ := h.data; obtain ⟨a2, c2, g2, o2, rfl, _⟩ := h.ents; obtain ⟨a3, c3, g3, o3, rfl, _⟩ := h.ups; have hb1 := refBare1 o a1 c1 a2 c2 a3 c3; have hb2 := refBare2 o a1 c1 a2 c2 a3 c3; have hb3 := refBare3 o a1 c1 a2 c2 a3 c3; have hb4 := refBare4 o a1 c1 a2 c2 a3 c3; have ht := refTold_any o a1 c1 a2 c2 a3 c3; unfold obj3 at hb1 hb2 hb3 hb4 ht; unfold objV at hb1 hb2 hb3 hb4 ht |-
 have s1 := SL_size o.tree; have s2 := SL_size o.target; have s3 := SL_size o.name; have hk1 := ok_one (o := o)
 have hk2 := ok_two (o := o)
 have hk3 := ok_three (o := o)
 have hk4 := ok_four (o := o)
 have hk0 := ok_kind (o := o)
 obtain ⟨n1, hn1⟩ := nm_ (o.data.length); obtain ⟨n2, hn2⟩ := nm_ (o.ents.length); obtain ⟨n3, hn3⟩ := nm_ (o.ups.length); obtain ⟨A, hA⟩ := nm_ (o.tree.length); obtain ⟨B, hB⟩ := nm_ (o.target.length); obtain ⟨C, hC⟩ := nm_ (o.name.length); obtain ⟨K, hK⟩ := nm_ (o.kind); obtain ⟨b1, hv1⟩ := nm_ (bareB o false true true true true); obtain ⟨b2, hv2⟩ := nm_ (bareB o true false true true true); obtain ⟨b3, hv3⟩ := nm_ (bareB o true true false true false); obtain ⟨b4, hv4⟩ := nm_ (bareB o true true true false false); obtain ⟨bt, hvt⟩ := nm_ (toldB o); obtain ⟨be, hve⟩ := nm_ (entsB o.ents); obtain ⟨bu, hvu⟩ := nm_ (upsB o.ups); rw [<- hA] at s1; rw [<- hB] at s2; rw [<- hC] at s3; rw [<- hn1, <- hn2, <- hn3, <- hK] at hb1 hb2 hb3 hb4 ht |-; rw [<- hn2] at hents; rw [<- hn3] at hups; rw [<- hv1] at hb1; rw [<- hv2] at hb2; rw [<- hv3] at hb3; rw [<- hv4] at hb4; rw [<- hvt] at ht
 rw [<- hve] at hents; rw [<- hvu] at hups; rw [<- hK] at hk0 hk1 hk2 hk3 hk4; rw [<- hn1, <- hv1] at hk1; rw [<- hve, <- hv2] at hk2; rw [<- hA, <- hvu, <- hvt, <- hv3] at hk3; rw [<- hB, <- hC, <- hvt, <- hv4] at hk4; have HE := h_ hents; have HU := h_ hups; have HB1 := h_ hb1; have HB2 := h_ hb2; have HB3 := h_ hb3; have HB4 := h_ hb4; have HT := h_ ht; have K0 := h_ hk0; have K1 := h_ hk1; have K2 := h_ hk2; have K3 := h_ hk3; have K4 := h_ hk4; have hbl := (Below.refl w.heap.size w).alloc (Nat.le_refl _) (.cells #[.int .i64 K, .slice a1 n1 c1, .slice a2 n2 c2, .string (SL o.tree), .slice a3 n3 c3, .string (SL o.target), .string (SL o.name), .string (SL o.who), .int .i64 o.stamp, .string (SL o.text)] 33)
 have hcl := heap_alloc_new w (.cells #[.int .i64 K, .slice a1 n1 c1, .slice a2 n2 c2, .string (SL o.tree), .slice a3 n3 c3, .string (SL o.target), .string (SL o.name), .string (SL o.who), .int .i64 o.stamp, .string (SL o.text)] 33); have BL := h_ hbl; have ROW := h_ (fun (W : World) (hb : Below (w.heap.size + 1) (w.alloc (.cells #[.int .i64 K, .slice a1 n1 c1, .slice a2 n2 c2, .string (SL o.tree), .slice a3 n3 c3, .string (SL o.target), .string (SL o.name), .string (SL o.who), .int .i64 o.stamp, .string (SL o.text)] 33)) W) => obj_cells ((hb.block w.heap.size (by omega)).trans hcl))
 clear h hf hents hups hb1 hb2 hb3 hb4 ht hk0 hk1 hk2 hk3 hk4 hn1 hn2 hn3 hA hB hC hK hv1 hv2 hv3 hv4 hvt hve hvu hbl hcl; by_cases e1 : K = 1
 ·subst e1
  have hk := K1.out rfl; have HK := h_ hk; clear hk K0 K1 K2 K3 K4 HE HU HB2 HB3 HB4 HT ROW; by_cases q1 : n1 <= 1048576
  ·have q1' : (n1 : Int) <= 1048576 := by omega
   cases b1 with
   | true =>
    have hv : errO o = 0 := by unfold errO; rw [HK.out, decide_eq_true q1]; rfl
    have HV := h_ hv; clear hv q1; go_enter Tryz.func42, Tryz.ntmps42; go_wp2_with (first | (go_at_call 82; refine (HB1.out _).mono ?_; rintro e wn ⟨rfl, bn⟩; have BL := h_ (BL.out.trans (bn.mono BL.out.size)); clear bn))
    go_ret; exact ⟨by rw [HV.out]; rfl, BL.out⟩
   | false =>
    have hv : errO o = 1 := by unfold errO; rw [HK.out, decide_eq_true q1]; rfl
    have HV := h_ hv; clear hv q1; go_enter Tryz.func42, Tryz.ntmps42; go_wp2_with (first | (go_at_call 82; refine (HB1.out _).mono ?_; rintro e wn ⟨rfl, bn⟩; have BL := h_ (BL.out.trans (bn.mono BL.out.size)); clear bn))
    go_ret; exact ⟨by rw [HV.out]; rfl, BL.out⟩
  ·have q1' : ¬ (n1 : Int) <= 1048576 := by omega
   have hv : errO o = 1 := by unfold errO; rw [HK.out, decide_eq_false q1]; rfl
   have HV := h_ hv; clear hv q1; go_enter Tryz.func42, Tryz.ntmps42; go_wp2; go_ret; exact ⟨by rw [HV.out]; rfl, BL.out⟩
 by_cases e2 : K = 2
 ·subst e2
  have hk := K2.out rfl; have HK := h_ hk; clear hk K0 K1 K2 K3 K4 HU HB1 HB3 HB4 HT ROW e1
  cases be with
  | true =>
   cases b2 with
   | true =>
    have hv : errO o = 0 := by unfold errO; rw [HK.out]; rfl
    have HV := h_ hv; clear hv; go_enter Tryz.func42, Tryz.ntmps42; go_wp2_with (first | (go_at_call 83; refine (HE.out _ BL.out).mono ?_; rintro e _ ⟨rfl, m1, rfl⟩; have BL := h_ (below_drewN BL.out m1)) | (go_at_call 82; refine (HB2.out _).mono ?_; rintro e wn ⟨rfl, bn⟩; have BL := h_ (BL.out.trans (bn.mono BL.out.size)); clear bn))
    go_ret; exact ⟨by rw [HV.out]; rfl, BL.out⟩
   | false =>
    have hv : errO o = 1 := by unfold errO; rw [HK.out]; rfl
    have HV := h_ hv; clear hv; go_enter Tryz.func42, Tryz.ntmps42; go_wp2_with (first | (go_at_call 83; refine (HE.out _ BL.out).mono ?_; rintro e _ ⟨rfl, m1, rfl⟩; have BL := h_ (below_drewN BL.out m1)) | (go_at_call 82; refine (HB2.out _).mono ?_; rintro e wn ⟨rfl, bn⟩; have BL := h_ (BL.out.trans (bn.mono BL.out.size)); clear bn))
    go_ret; exact ⟨by rw [HV.out]; rfl, BL.out⟩
  | false =>
   have hv : errO o = 1 := by unfold errO; rw [HK.out]; rfl
   have HV := h_ hv; clear hv; go_enter Tryz.func42, Tryz.ntmps42; go_wp2_with (first | (go_at_call 83; refine (HE.out _ BL.out).mono ?_; rintro e _ ⟨rfl, m1, rfl⟩; have BL := h_ (below_drewN BL.out m1)))
   go_ret; exact ⟨by rw [HV.out]; rfl, BL.out⟩
 by_cases e3 : K = 3
 ·subst e3
  have hk := K3.out rfl; have HK := h_ hk; clear hk K0 K1 K2 K3 K4 HE HB1 HB2 HB4 e1 e2; by_cases q1 : A = 32
  ·have q1' : (A : Int) = 32 := by omega
   cases bu with
   | true =>
    cases bt with
    | true =>
     cases b3 with
     | true =>
      have hv : errO o = 0 := by unfold errO; rw [HK.out, decide_eq_true q1]; rfl
      have HV := h_ hv; clear hv q1; go_enter Tryz.func42, Tryz.ntmps42; go_wp2_with (first | (go_at_call 84; refine (HU.out _ BL.out).mono ?_; rintro e _ ⟨rfl, m1, rfl⟩; have BL := h_ (below_drewN BL.out m1)) | (go_at_call 85; refine (HT.out _).mono ?_; rintro e wt ⟨rfl, bt'⟩; obtain ⟨r0, r1, r2, r3, r4, r5, r6, r7, r8, r9⟩ := ROW.out wt ((below_drewN (Below.refl (w.heap.size + 1) _) m1).trans (bt'.mono (by simp))); have BL := h_ (BL.out.trans (bt'.mono BL.out.size)); clear bt') | (go_at_call 82; refine (HB3.out _).mono ?_; rintro e wn ⟨rfl, bn⟩; have BL := h_ (BL.out.trans (bn.mono BL.out.size)); clear bn))
      go_ret; exact ⟨by rw [HV.out]; rfl, BL.out⟩
     | false =>
      have hv : errO o = 1 := by unfold errO; rw [HK.out, decide_eq_true q1]; rfl
      have HV := h_ hv; clear hv q1; go_enter Tryz.func42, Tryz.ntmps42; go_wp2_with (first | (go_at_call 84; refine (HU.out _ BL.out).mono ?_; rintro e _ ⟨rfl, m1, rfl⟩; have BL := h_ (below_drewN BL.out m1)) | (go_at_call 85; refine (HT.out _).mono ?_; rintro e wt ⟨rfl, bt'⟩; obtain ⟨r0, r1, r2, r3, r4, r5, r6, r7, r8, r9⟩ := ROW.out wt ((below_drewN (Below.refl (w.heap.size + 1) _) m1).trans (bt'.mono (by simp))); have BL := h_ (BL.out.trans (bt'.mono BL.out.size)); clear bt') | (go_at_call 82; refine (HB3.out _).mono ?_; rintro e wn ⟨rfl, bn⟩; have BL := h_ (BL.out.trans (bn.mono BL.out.size)); clear bn))
      go_ret; exact ⟨by rw [HV.out]; rfl, BL.out⟩
    | false =>
     have hv : errO o = 1 := by unfold errO; rw [HK.out, decide_eq_true q1]; rfl
     have HV := h_ hv; clear hv q1; go_enter Tryz.func42, Tryz.ntmps42; go_wp2_with (first | (go_at_call 84; refine (HU.out _ BL.out).mono ?_; rintro e _ ⟨rfl, m1, rfl⟩; have BL := h_ (below_drewN BL.out m1)) | (go_at_call 85; refine (HT.out _).mono ?_; rintro e wt ⟨rfl, bt'⟩; obtain ⟨r0, r1, r2, r3, r4, r5, r6, r7, r8, r9⟩ := ROW.out wt ((below_drewN (Below.refl (w.heap.size + 1) _) m1).trans (bt'.mono (by simp))); have BL := h_ (BL.out.trans (bt'.mono BL.out.size)); clear bt'))
     go_ret; exact ⟨by rw [HV.out]; rfl, BL.out⟩
   | false =>
    have hv : errO o = 1 := by unfold errO; rw [HK.out, decide_eq_true q1]; rfl
    have HV := h_ hv; clear hv q1; go_enter Tryz.func42, Tryz.ntmps42; go_wp2_with (first | (go_at_call 84; refine (HU.out _ BL.out).mono ?_; rintro e _ ⟨rfl, m1, rfl⟩; have BL := h_ (below_drewN BL.out m1)))
    go_ret; exact ⟨by rw [HV.out]; rfl, BL.out⟩
  ·have q1' : ¬ (A : Int) = 32 := by omega
   have hv : errO o = 1 := by unfold errO; rw [HK.out, decide_eq_false q1]; rfl
   have HV := h_ hv; clear hv q1; go_enter Tryz.func42, Tryz.ntmps42; go_wp2; go_ret; exact ⟨by rw [HV.out]; rfl, BL.out⟩
 by_cases e4 : K = 4
 ·subst e4
  have hk := K4.out rfl; have HK := h_ hk; clear hk K0 K1 K2 K3 K4 HE HU HB1 HB2 HB3 e1 e2 e3; by_cases q1 : B = 32
  ·have q1' : (B : Int) = 32 := by omega
   by_cases q2 : 1 <= C
   ·have q2' : (C : Int) >= 1 := by omega
    by_cases q3 : C <= 200
    ·have q3' : (C : Int) <= 200 := by omega
     cases bt with
     | true =>
      cases b4 with
      | true =>
       have hv : errO o = 0 := by unfold errO; rw [HK.out, decide_eq_true q1, decide_eq_true q2, decide_eq_true q3]; rfl
       have HV := h_ hv; clear hv q1 q2 q3; go_enter Tryz.func42, Tryz.ntmps42; go_wp2_with (first | (go_at_call 85; refine (HT.out _).mono ?_; rintro e wt ⟨rfl, bt'⟩; obtain ⟨r0, r1, r2, r3, r4, r5, r6, r7, r8, r9⟩ := ROW.out wt (bt'.mono (by simp)); have BL := h_ (BL.out.trans (bt'.mono BL.out.size)); clear bt') | (go_at_call 82; refine (HB4.out _).mono ?_; rintro e wn ⟨rfl, bn⟩; have BL := h_ (BL.out.trans (bn.mono BL.out.size)); clear bn))
       go_ret; exact ⟨by rw [HV.out]; rfl, BL.out⟩
      | false =>
       have hv : errO o = 1 := by unfold errO; rw [HK.out, decide_eq_true q1, decide_eq_true q2, decide_eq_true q3]; rfl
       have HV := h_ hv; clear hv q1 q2 q3; go_enter Tryz.func42, Tryz.ntmps42; go_wp2_with (first | (go_at_call 85; refine (HT.out _).mono ?_; rintro e wt ⟨rfl, bt'⟩; obtain ⟨r0, r1, r2, r3, r4, r5, r6, r7, r8, r9⟩ := ROW.out wt (bt'.mono (by simp)); have BL := h_ (BL.out.trans (bt'.mono BL.out.size)); clear bt') | (go_at_call 82; refine (HB4.out _).mono ?_; rintro e wn ⟨rfl, bn⟩; have BL := h_ (BL.out.trans (bn.mono BL.out.size)); clear bn))
       go_ret; exact ⟨by rw [HV.out]; rfl, BL.out⟩
     | false =>
      have hv : errO o = 1 := by unfold errO; rw [HK.out, decide_eq_true q1, decide_eq_true q2, decide_eq_true q3]; rfl
      have HV := h_ hv; clear hv q1 q2 q3; go_enter Tryz.func42, Tryz.ntmps42; go_wp2_with (first | (go_at_call 85; refine (HT.out _).mono ?_; rintro e wt ⟨rfl, bt'⟩; obtain ⟨r0, r1, r2, r3, r4, r5, r6, r7, r8, r9⟩ := ROW.out wt (bt'.mono (by simp)); have BL := h_ (BL.out.trans (bt'.mono BL.out.size)); clear bt'))
      go_ret; exact ⟨by rw [HV.out]; rfl, BL.out⟩
    ·have q3' : ¬ (C : Int) <= 200 := by omega
     have hv : errO o = 1 := by unfold errO; rw [HK.out, decide_eq_true q1, decide_eq_true q2, decide_eq_false q3]; rfl
     have HV := h_ hv; clear hv q1 q2 q3; go_enter Tryz.func42, Tryz.ntmps42; go_wp2; go_ret; exact ⟨by rw [HV.out]; rfl, BL.out⟩
   ·have q2' : ¬ (C : Int) >= 1 := by omega
    have hv : errO o = 1 := by unfold errO; rw [HK.out, decide_eq_true q1, decide_eq_false q2]; rfl
    have HV := h_ hv; clear hv q1 q2; go_enter Tryz.func42, Tryz.ntmps42; go_wp2; go_ret; exact ⟨by rw [HV.out]; rfl, BL.out⟩
  ·have q1' : ¬ (B : Int) = 32 := by omega
   have hv : errO o = 1 := by unfold errO; rw [HK.out, decide_eq_false q1]; rfl
   have HV := h_ hv; clear hv q1; go_enter Tryz.func42, Tryz.ntmps42; go_wp2; go_ret; exact ⟨by rw [HV.out]; rfl, BL.out⟩
 have hk := K0.out e1 e2 e3 e4; have HK := h_ hk; clear hk K0 K1 K2 K3 K4 HE HU HB1 HB2 HB3 HB4 HT ROW; have hv : errO o = 1 := by unfold errO; rw [HK.out]; rfl
 have HV := h_ hv; clear hv; go_enter Tryz.func42, Tryz.ntmps42; go_wp2; go_ret; exact ⟨by rw [HV.out]; rfl, BL.out⟩
end
section
open Go.RowKit
theorem own_down {w : World} {base base' : Nat} {e s : Nat} {v : Value} {n : Nat} {xs : List Value} (h : w.ownsRow base e s v n xs) (hb : base' <= base) : w.ownsRow base' e s v n xs := by
 refine ⟨h.1, ?_⟩; rcases h.2 with h4 | ⟨g2, c2, cur2, h5, h6, h7⟩
 ·exact .inl h4
 ·exact .inr ⟨g2, c2, cur2, h5, Nat.le_trans hb h6, h7⟩
def OutAt (x : Nat) (w : World) (v : Value) (L : OB) : Prop := w.ownsRow x 5 1 v L.length (L.map B8)
theorem OutAt.src {x : Nat} {w : World} {v : Value} {L : OB} (h : OutAt x w v L) : ∃ ao cap B, v = .slice ao L.length cap /\ SrcAt w ao cap L B 0 /\ (0 < L.length -> x <= B) := src_of_own h
theorem OutAt.below {x : Nat} {w w' : World} {v : Value} {L : OB} (h : OutAt x w v L) (hb : Below w.heap.size w w') : OutAt x w' v L := own_below h hb
theorem putNum_out {x : Nat} {w : World} {v : Value} {L : OB} (h : Hid (OutAt x w v L)) (hx : x <= w.heap.size) (hL : L.length + 9 <= 140737488355328) (n : Nat) (hn : n <= 4611686018427387903) :
  Calls Tryz.prog 43 #[v, .int .i64 (n : Int)] w fun e w' => ∃ v', e = .returned v' /\ Hid (OutAt x w' v' (L ++ numL n)) /\ Hid (Below w.heap.size w w') := by
 obtain ⟨ao, cap, B, rfl, hs, _⟩ := h.out.src; have h1 := refPutNum_any ao cap L B 0 (n : Int) w hs (by omega)
 rw [clampN_nat n hn] at h1; refine h1.mono ?_; rintro e w' ⟨v', rfl, ho, hb⟩; exact ⟨v', rfl, h_ (own_down ho hx), h_ hb⟩
theorem putText_out {x : Nat} {w : World} {v : Value} {L : OB} (h : Hid (OutAt x w v L)) (hx : x <= w.heap.size) (t : OB) (hL : L.length + 9 + t.length <= 140737488355328) :
  Calls Tryz.prog 44 #[v, .string (SL t)] w fun e w' => ∃ v', e = .returned v' /\ Hid (OutAt x w' v' (L ++ txtL t)) /\ Hid (Below w.heap.size w w') := by
 obtain ⟨ao, cap, B, rfl, hs, _⟩ := h.out.src; have h1 := refPutText_any ao cap L B 0 (SL t) w hs (by rw [SL_size]; exact hL)
 have e1 : (SL t).data.toList = t := rfl
 rw [e1, SL_size] at h1; refine h1.mono ?_; rintro e w' ⟨v', rfl, ho, hb⟩; exact ⟨v', rfl, h_ (own_down ho hx), h_ hb⟩
theorem wpList_out_string {ops : Array Oper} {rest : List Oper} {o : Oper} {a : Act} {w : World} {Q : Exit -> Act -> World -> Prop}
  (hgd : o.guard = none) (s y : Operand) (hop : o.op = Op.call { callee := Callee.builtin Builtin.append, args := #[s, y], argTypes := #[29, 9] })
  (x : Nat) (v : Value) (L : OB) (hS : a.eval s = v) (h : Hid (OutAt x w v L)) (t : OB) (hX : a.eval y = .string (SL t)) (hb : L.length + t.length <= 140737488355328) (hx : x <= w.heap.size)
  (hK : ∀ v' w', Hid (OutAt x w' v' (L ++ t)) -> Hid (Below x w w') -> wpList Tryz.prog ops Q rest (a.put o.dst v') w') : wpList Tryz.prog ops Q (o :: rest) a w := by
 obtain ⟨i0, hi, hz0, hz1, hz2⟩ := info_parts info5; have hz := SL_size t; refine Lib.wpList_append_own_string w hgd s y 29 9 hop x 5 i0 Tryz.underlying29 Tryz.underlying9 hi hz0 hz1 hz2 v L.length _ hS h.out (SL t) hX (by rw [hz]; unfold maxLen; omega) (by rw [hz]; exact hb) hx ?_
 intro v' w' ho hg _
 refine hK v' w' (h_ ?_) (h_ ((Below.refl x w).grown hg hx (fun k hk => (h.out.lt k hk).1)))
 rw [strCells_B8, hz] at ho; have e1 : (SL t).data.toList = t := rfl
 rw [e1, <- List.map_append, <- List.length_append] at ho; exact ho
theorem wpList_out_bytes {ops : Array Oper} {rest : List Oper} {o : Oper} {a : Act} {w : World} {Q : Exit -> Act -> World -> Prop}
  (hgd : o.guard = none) (s y : Operand) (hop : o.op = Op.call { callee := Callee.builtin Builtin.append, args := #[s, y], argTypes := #[29, 29] })
  (x : Nat) (v : Value) (L : OB) (hS : a.eval s = v) (h : Hid (OutAt x w v L)) (F : Nat -> Prop) (u : Value) (t : OB) (hu : BytesAt w F u t) (hX : a.eval y = u) (hb : L.length + t.length <= 225000000000000) (hx : x <= w.heap.size)
  (hK : ∀ v' w', Hid (OutAt x w' v' (L ++ t)) -> Hid (Below x w w') -> wpList Tryz.prog ops Q rest (a.put o.dst v') w') : wpList Tryz.prog ops Q (o :: rest) a w := by
 obtain ⟨ao, cap, B, off, rfl, hs, _⟩ := hu; refine wpList_append_src hgd s y hop x v L.length _ hS h.out ao t.length cap hX (t.map B8) (by simp) hs.bare hs.cells (B8_one _) hb hx ?_
 intro v' w' ho hg _
 refine hK v' w' (h_ ?_) (h_ ((Below.refl x w).grown hg hx (fun k hk => (h.out.lt k hk).1)))
 have := ho.out
 rw [<- List.map_append, <- List.length_append] at this; exact this
theorem out_lit (w : World) (x : Nat) (c : UInt8) (hx : x <= w.heap.size) : OutAt x (w.alloc (.cells #[B8 c] 5)) (.slice (some ⟨w.heap.size, 0, none⟩) 1 1) [c] := World.ownsRow_lit w #[B8 c] 1 hx (by unfold maxLen; omega) rfl
end
section
open Go.RowKit
theorem info_text : (Tryz.prog.info? 9).map (fun i => (i.zero, i.size, i.bytes)) = some (some (.string ByteArray.empty), 1, 16) := by kernel_rfl
theorem info_entry : (Tryz.prog.info? 84).map (fun i => (i.zero, i.size, i.bytes)) = some (some (.agg #[.string ByteArray.empty, .bool false, .string ByteArray.empty]), 3, 40) := by kernel_rfl
def TxtsOwn (x : Nat) (w : World) (v : Value) (l : List OB) : Prop := w.ownsRow x 9 1 v l.length (tcells l)
def EntsOwn (x : Nat) (w : World) (v : Value) (l : List EntR) : Prop := w.ownsRow x 84 3 v l.length (ecells l)
theorem tcells_app (a b : List OB) : tcells (a ++ b) = tcells a ++ tcells b := by simp [tcells]
theorem txts_nil (x : Nat) (w : World) : TxtsOwn x w (.slice none 0 0) [] := World.ownsRow_nil _ _ _ _
theorem ents_nil (x : Nat) (w : World) : EntsOwn x w (.slice none 0 0) [] := World.ownsRow_nil _ _ _ _
theorem TxtsOwn.below {x : Nat} {w w' : World} {v : Value} {l : List OB} (h : TxtsOwn x w v l) (hb : Below w.heap.size w w') : TxtsOwn x w' v l := own_below h hb
theorem EntsOwn.below {x : Nat} {w w' : World} {v : Value} {l : List EntR} (h : EntsOwn x w v l) (hb : Below w.heap.size w w') : EntsOwn x w' v l := own_below h hb
theorem run_own_texts (w : World) (ty : TypeId) (x : Nat) (v : Value) (l : List OB) (h : TxtsOwn x w v l) (ao : Option Addr) (c : Nat) (m : List OB) (hbare : ao = none -> m.length = 0 /\ c = 0) (hc : ∀ ad, ao = some ad -> ∀ j u, (tcells m)[j]? = some u -> w.cell? (ad.add j) = some u) (hb : l.length + m.length <= 8000000000000) (hx : x <= w.heap.size) :
  ∃ v' w', (Builtin.append_ #[31, 31] ty #[v, .slice ao m.length c]).run Tryz.prog w = .ok v' w' /\ TxtsOwn x w' v' (l ++ m) /\ w.grownBy w' v.ownBlock := by
 obtain ⟨i0, hi, hz0, hz1, hz2⟩ := info_parts info_text
 cases ao with
 | none =>
  obtain ⟨h0, rfl⟩ := hbare rfl; obtain rfl : m = [] := List.eq_nil_of_length_eq_zero h0
  exact ⟨v, w, run_append_owned_none (P := Tryz.prog) w x 31 ty 9 i0 1 Tryz.underlying31 hi v l.length _ h, by rw [List.append_nil]; exact h, World.grownBy.refl _ _⟩
 | some ad =>
  obtain ⟨v', w', hrun, r1, r2, _⟩ := run_append_own_wide (P := Tryz.prog) w x 31 ty 9 i0 (.string ByteArray.empty) 1 16 Tryz.underlying31 hi hz0 hz1 hz2 rfl (by decide) v l.length _ h ad m.length c (tcells m) (by simp [tcells]) (hc ad rfl) (fun u hu => by obtain ⟨t, _, rfl⟩ := List.mem_map.1 hu; rfl) (by unfold maxLen; omega) (by omega) hx
  refine ⟨v', w', hrun, ?_, r2⟩; unfold TxtsOwn; rw [List.length_append, tcells_app]; exact r1
theorem wpList_own_texts {ops : Array Oper} {rest : List Oper} {o : Oper} {a : Act} {w : World} {Q : Exit -> Act -> World -> Prop}
  (hgd : o.guard = none) (s y : Operand) (hop : o.op = Op.call { callee := Callee.builtin Builtin.append, args := #[s, y], argTypes := #[31, 31] })
  (x : Nat) (v : Value) (l : List OB) (hS : a.eval s = v) (h : Hid (TxtsOwn x w v l)) (ao : Option Addr) (n c : Nat) (m : List OB) (hX : a.eval y = .slice ao n c) (hn : n = m.length) (hbare : ao = none -> m.length = 0 /\ c = 0) (hc : ∀ ad, ao = some ad -> ∀ j u, (tcells m)[j]? = some u -> w.cell? (ad.add j) = some u) (hb : l.length + m.length <= 8000000000000) (hx : x <= w.heap.size)
  (hK : ∀ v' w', Hid (TxtsOwn x w' v' (l ++ m)) -> Hid (Below x w w') -> wpList Tryz.prog ops Q rest (a.put o.dst v') w') : wpList Tryz.prog ops Q (o :: rest) a w := by
 refine wpList_plain hgd fun K hK' => ?_
 subst hn; obtain ⟨v', w', hrun, r1, r2⟩ := run_own_texts w o.type x v l h.out ao c m hbare hc hb hx; unfold Oper.wp; simp [execOp, hop, resolve, invoke, builtin, hS, hX, hrun, Result.andThen]; exact hK' _ _ (hK v' w' (h_ r1) (h_ ((Below.refl x w).grown r2 hx (fun k hk => (h.out.lt k hk).1))))
theorem lit_text (w : World) (t : OB) : ∀ ad, some (⟨w.heap.size, 0, none⟩ : Addr) = some ad -> ∀ j u, (tcells [t])[j]? = some u -> (w.alloc (.cells #[.string (SL t)] 9)).cell? (ad.add j) = some u := by
 intro ad had j u hu
 cases had
 rw [Addr.add_lit]; match j, hu with
 | 0, hu =>
  rw [cell_of_row _ _ _ _ _ _ (heap_alloc_new w _)]; simpa [tcells] using hu
 | j + 1, hu => simp [tcells] at hu
end
section
open Go.RowKit
abbrev rdp (p : Nat) : Value := .pointer (some ⟨p, 0, none⟩)
theorem rd_cells {w : World} {p : Nat} {v : Value} {x : Bool} (h : w.heap[p]? = some (.cells #[v, .bool x] 139 (0, 0))) :
  w.cell? ⟨p, 0, none⟩ = some v /\ w.cell? ⟨p, 1, none⟩ = some (.bool x) /\ (∀ j, w.frozen? ⟨p, j, none⟩ = false) :=
 ⟨cell_of_row _ _ _ _ _ _ h, cell_of_row _ _ _ _ _ _ h, fun j => frozen_of_row _ _ j _ _ h⟩
theorem turn_rd (p i : Nat) (w : World) (v : Value) : Turn (fun k => k = p) w (w.setCell ⟨p, i, none⟩ v) := Turn.setCell w _ v rfl
theorem rd_ne {w : World} {p : Nat} {v : Value} {x : Bool} (h : w.heap[p]? = some (.cells #[v, .bool x] 139 (0, 0))) (hv : ∀ z, v ≠ .int .u8 z) {ao : Option Addr} {cap : Nat} {b : OB} {B off : Nat} (hs : SrcAt w ao cap b B off) (hb : 0 < b.length) : B ≠ p := by
 rintro rfl; have h1 := hs.cell 0 hb; rw [Nat.add_zero, cell_of_row _ _ _ _ _ _ h] at h1; match off, h1 with
 | 0, h1 => exact hv _ (by simpa using h1)
 | 1, h1 => simp at h1
 | k + 2, h1 => simp at h1
end
section
open Go.RowKit
theorem refTakeText_new (ao : Option Addr) (cap : Nat) (bs : List UInt8) (B off : Nat) (most : Int) (w : World) (h : SrcAt w ao cap bs B off) (hs : bs.length <= 140737488355328) (t rest : List UInt8) (he : bs = numL t.length ++ (t ++ rest)) (hm : (t.length : Int) <= most) :
  Calls Tryz.prog 140 #[.slice ao bs.length cap, .int .i64 most] w fun e w' => ∃ ao' cap' B' off', e = .returned (.tuple #[.string (SL t), .slice ao' rest.length cap', .int .i64 0]) /\ SrcAt w' ao' cap' rest B' off' /\ (0 < rest.length -> w.heap.size <= B') /\ Below w.heap.size w w' := by
 have hbl : bs.length = (numL t.length).length + (t.length + rest.length) := by rw [he]; simp
 have ht := refTakeNum_new ao cap bs B off w h hs t.length (t ++ rest) (by omega) he
 obtain ⟨n, hn⟩ := nm_ (t.length); obtain ⟨r, hr⟩ := nm_ (rest.length); obtain ⟨m, hmm⟩ := nm_ ((t ++ rest).length); have hmr : m = n + r := by rw [hmm, List.length_append, hn, hr]
 have hmb : m <= 140737488355328 := by rw [hmr]; omega
 rw [<- hn, <- hmm] at ht; rw [<- hn] at hm; rw [<- hr]; have HT := h_ ht; have HM := h_ hmm; have HR := h_ hmr; have HN := h_ hn; have HRR := h_ hr; have hnm : n <= m := by omega
 clear ht hmm hmr hn hr he hbl; go_enter Tryz.func140, Tryz.ntmps140; go_wp2_with fail; refine HT.out.mono ?_; rintro e w1 ⟨ao1, cap1, B1, rfl, s1, new1, b1⟩; have NEW := h_ (show 0 < r -> w.heap.size <= B1 from fun hp => new1 (by have := HR.out; omega))
 clear new1; obtain ⟨ao2, hsl2, hs2⟩ := s1.slice_h n (by rw [<- HM.out]; exact hnm)
 obtain ⟨ao3, hsl3, hs3⟩ := s1.slice_l n (by rw [<- HM.out]; exact hnm)
 rw [HN.out, List.take_left] at hs2; rw [HN.out, List.drop_left] at hs3; rw [<- HM.out] at hsl2 hsl3; have hmn : m - n = r := by have := HR.out; omega
 rw [hmn] at hsl3; rw [<- HN.out] at hs3; have hcv : ∀ W' : World, Below w1.heap.size w1 W' -> (convert 29 9 (.slice ao2 n cap1)).run Tryz.prog W' = .ok (.string (SL t)) W' := fun W' hb => by
  have h1 := convert_src (hs2.below hb); rw [<- HN.out] at h1; exact h1
 have cv0 := hcv w1 (Below.refl _ _); have cv1 := hcv w1.drew (Below.refl _ _).drew; have HS3 := h_ hs3; clear hs2 hcv hmn hs3; go_wp2_with fail; go_region_with (fail)
 all_goals go_wp2
 all_goals go_ret3
 all_goals exact ⟨ao3, _, B1, _, rfl, HS3.out.below (Below.refl _ _).drew, NEW.out, b1.drew⟩
def RdG (G : Nat -> Prop) (w : World) (p : Nat) (s : RS) : Prop := ∃ ao cap B off, w.heap[p]? = some (.cells #[.slice ao s.1.length cap, .bool s.2] 139 (0, 0)) /\ SrcAt w ao cap s.1 B off /\ (0 < s.1.length -> B ≠ p /\ ¬ G B)
theorem RdG.below {G : Nat -> Prop} {w w' : World} {p : Nat} {s : RS} (h : RdG G w p s) (hb : Below w.heap.size w w') : RdG G w' p s := by
 obtain ⟨ao, cap, B, off, h1, h2, h3⟩ := h; exact ⟨ao, cap, B, off, below_turn hb h1, h2.below hb, h3⟩
def RdToG (G : Nat -> Prop) (w : World) (p : Nat) (v : Value) (s : RS) (e : Ending) (w' : World) : Prop := e = .returned v /\ RdG G w' p s /\ Turn (fun k => k = p) w w'
theorem RdG.spoil {G : Nat -> Prop} {w : World} {p : Nat} {s : RS} (h : RdG G w p s) : RdG G (w.setCell ⟨p, 1, none⟩ (.bool true)) p (s.1, true) := by
 obtain ⟨ao, cap, B, off, h1, h2, h3⟩ := h; exact ⟨ao, cap, B, off, heap_setCell_same w p 1 _ _ _ h1, h2.turn (turn_rd p 1 w _) (fun hp => (h3 hp).1), h3⟩
theorem rdBytes_g (G : Nat -> Prop) (p : Nat) (s : RS) (n : Nat) (hn : n <= 1000) (w : World) (h : RdG G w p s) (hl : s.1.length <= 140737488355328) :
  Calls Tryz.prog 98 #[rdp p, .int .i64 (n : Int)] w (RdToG G w p (.string (SL (rdBytes n s).1)) (rdBytes n s).2) := by
 have hsp := h.spoil; obtain ⟨ao, cap, B, off, hrow, hs, hne⟩ := h; obtain ⟨b, bad⟩ := s; simp only at hrow hs hne hl hsp
 obtain ⟨c0, c1, fr⟩ := rd_cells hrow; have f0 := fr 0; have f1 := fr 1; unfold rdBytes; simp only
 by_cases hlt : b.length < n
 ·rw [if_pos hlt]
  have HS : RdToG G w p (.string (SL [])) (b, true) (.returned (.string (SL []))) (w.setCell ⟨p, 1, none⟩ (.bool true)) := ⟨rfl, hsp, turn_rd p 1 w _⟩; have HH := h_ HS; obtain ⟨L, hL⟩ := nm_ (b.length); rw [<- hL] at c0; have i1 : (L : Int) < (n : Int) := by omega
  clear hlt HS hL hsp hs hrow hne fr hl; go_enter Tryz.func98, Tryz.ntmps98; go_wp2; go_ret; exact HH.out
 ·rw [if_neg hlt]
  obtain ⟨ah, hh, sh⟩ := hs.slice_h n (by omega)
  obtain ⟨al, hll, sl⟩ := hs.slice_l n (by omega)
  have htl : (b.take n).length = n := by rw [List.length_take]; omega
  have hcv := convert_src sh; rw [htl] at hcv; have hrd : RdG G (w.setCell ⟨p, 0, none⟩ (.slice al (b.length - n) (cap - n))) p (b.drop n, bad) := by
   refine ⟨al, cap - n, B, off + n, ?_, sl.turn (turn_rd p 0 w _) (fun hp => (hne (by rw [List.length_drop] at hp; omega)).1), fun hp => hne (by rw [List.length_drop] at hp; omega)⟩
   rw [List.length_drop]; exact heap_setCell_same w p 0 _ _ _ hrow
  have HS : RdToG G w p (.string (SL (b.take n))) (b.drop n, bad) (.returned (.string (SL (b.take n)))) (w.setCell ⟨p, 0, none⟩ (.slice al (b.length - n) (cap - n))) := ⟨rfl, hrd, turn_rd p 0 w _⟩; have i0 : (0 : Int) <= (n : Int) := by omega
  obtain ⟨L, hL⟩ := nm_ (b.length); rw [<- hL] at c0 hh hll HS; have i1 : ¬ (L : Int) < (n : Int) := by omega
  obtain ⟨T, hT⟩ := nm_ (b.take n); rw [<- hT] at hcv HS; have HH := h_ HS; have HT := h_ hT; clear hlt HS hL hsp hs hrow hne fr hrd hl sh sl htl hT; go_enter Tryz.func98, Tryz.ntmps98; go_wp2; go_ret; rw [<- HT.out]; exact HH.out
theorem rdNum_g (G : Nat -> Prop) (p : Nat) (s : RS) (w : World) (hG : ∀ k, G k -> k < w.heap.size) (h : RdG G w p s) (hl : s.1.length <= 140737488355328) :
  Calls Tryz.prog 96 #[rdp p] w (RdToG G w p (.int .i64 ((rdNum s).1 : Int)) (rdNum s).2) := by
 have h' := h; obtain ⟨ao, cap, B, off, hrow, hs, hne⟩ := h; obtain ⟨b, bad⟩ := s; simp only at hrow hs hne hl
 obtain ⟨c0, c1, fr⟩ := rd_cells hrow; rcases parse_cases b with hp | ⟨n, rest, hn, he⟩
 ·have hr : rdNum (b, bad) = (0, (b, true)) := by unfold rdNum; simp only [hp]
  rw [hr]; have hg := refTakeNum_no ao cap b B off w hs hl hp; have hfin : ∀ w1, Below w.heap.size w w1 -> Hid (RdToG G w p (.int .i64 ((0 : Nat) : Int)) (b, true) (.returned (.int .i64 ((0 : Nat) : Int))) (w1.setCell ⟨p, 1, none⟩ (.bool true)) /\ w1.frozen? ⟨p, 1, none⟩ = false /\ w1.cell? ⟨p, 1, none⟩ = some (.bool bad)) := fun w1 hb =>
   h_ ⟨⟨rfl, (h'.below hb).spoil, (Turn.of_below _ hb).trans (turn_rd p 1 w1 _)⟩, (rd_cells (below_turn hb hrow)).2.2 1, (rd_cells (below_turn hb hrow)).2.1⟩
  have HG := h_ hg; have HF := h_ hfin; obtain ⟨L, hL⟩ := nm_ (b.length); rw [<- hL] at c0 HG; clear hg hfin hr hp hL hs hrow hne fr hl h' hG; go_enter Tryz.func96, Tryz.ntmps96; go_wp2_with (go_at_call 94; refine HG.out.mono ?_; rintro e w1 ⟨rfl, b1⟩; have HH := HF.out w1 b1; have f1 := HH.out.2.1; have k1 := HH.out.2.2; clear b1)
  go_ret; exact HH.out.1
 ·have hr : rdNum (b, bad) = (n, (rest, bad)) := by rw [he]; exact rdNum_app hn rest bad
  rw [hr]; have hg := refTakeNum_new ao cap b B off w hs hl n rest hn he; have hfin : ∀ w1 ao' cap' B', SrcAt w1 ao' cap' rest B' 0 -> (0 < rest.length -> w.heap.size <= B') -> Below w.heap.size w w1 -> Hid (RdToG G w p (.int .i64 (n : Int)) (rest, bad) (.returned (.int .i64 (n : Int))) (w1.setCell ⟨p, 0, none⟩ (.slice ao' rest.length cap')) /\ w1.frozen? ⟨p, 0, none⟩ = false /\ w1.cell? ⟨p, 0, none⟩ = some (.slice ao b.length cap)) := fun w1 ao' cap' B' hs' hnw hb => by
   have hrow' := below_turn hb hrow; have hne' : 0 < rest.length -> B' ≠ p /\ ¬ G B' := fun hq => ⟨rd_ne hrow' (fun z e => by cases e) hs' hq, fun hg => by have h1 := hG _ hg; have h2 := hnw hq; omega⟩
   exact h_ ⟨⟨rfl, ⟨ao', cap', B', 0, heap_setCell_same w1 p 0 _ _ _ hrow', hs'.turn (turn_rd p 0 w1 _) (fun hq => (hne' hq).1), hne'⟩, (Turn.of_below _ hb).trans (turn_rd p 0 w1 _)⟩, (rd_cells hrow').2.2 0, (rd_cells hrow').1⟩
  have HG := h_ hg; have HF := h_ hfin; obtain ⟨L, hL⟩ := nm_ (b.length); obtain ⟨R, hR⟩ := nm_ (rest.length); rw [<- hL] at c0; rw [<- hL, <- hR] at HG; rw [<- hL, <- hR] at HF; clear hg hfin hr he hL hR hs hrow hne fr hl h' hG; go_enter Tryz.func96, Tryz.ntmps96; go_wp2_with (go_at_call 94; refine HG.out.mono ?_; rintro e w1 ⟨ao', cap', B', rfl, s1, n1, b1⟩; have HH := HF.out w1 ao' cap' B' s1 n1 b1; have f0 := HH.out.2.1; have k0 := HH.out.2.2; clear b1 n1 s1)
  go_ret; exact HH.out.1
theorem rdText_g (G : Nat -> Prop) (p : Nat) (s : RS) (w : World) (hG : ∀ k, G k -> k < w.heap.size) (h : RdG G w p s) (hl : s.1.length <= 140737488355328) :
  Calls Tryz.prog 97 #[rdp p] w (RdToG G w p (.string (SL (rdText s).1)) (rdText s).2) := by
 have h' := h; obtain ⟨ao, cap, B, off, hrow, hs, hne⟩ := h; obtain ⟨b, bad⟩ := s; simp only at hrow hs hne hl
 obtain ⟨c0, c1, fr⟩ := rd_cells hrow; rcases text_cases b 1048576 with hp | ⟨t, rest, he, hm⟩
 ·have hr : rdText (b, bad) = ([], (b, true)) := by
   unfold rdText; rcases hp with hp | ⟨n, k, hp, hk, hn, hc⟩
   ·simp only [hp]
   ·simp only [hp]
    rw [if_pos (by omega)]
  rw [hr]; have hg := refTakeText_no ao cap b B off 1048576 w hs hl hp; have hfin : ∀ w1, Below w.heap.size w w1 -> Hid (RdToG G w p (.string (SL [])) (b, true) (.returned (.string (SL []))) (w1.setCell ⟨p, 1, none⟩ (.bool true)) /\ w1.frozen? ⟨p, 1, none⟩ = false /\ w1.cell? ⟨p, 1, none⟩ = some (.bool bad)) := fun w1 hb =>
   h_ ⟨⟨rfl, (h'.below hb).spoil, (Turn.of_below _ hb).trans (turn_rd p 1 w1 _)⟩, (rd_cells (below_turn hb hrow)).2.2 1, (rd_cells (below_turn hb hrow)).2.1⟩
  have HG := h_ hg; have HF := h_ hfin; obtain ⟨L, hL⟩ := nm_ (b.length); rw [<- hL] at c0 HG; clear hg hfin hr hp hL hs hrow hne fr hl h' hG; go_enter Tryz.func97, Tryz.ntmps97; go_wp2_with (go_at_call 140; refine HG.out.mono ?_; rintro e w1 ⟨rfl, b1⟩; have HH := HF.out w1 b1; have f1 := HH.out.2.1; have k1 := HH.out.2.2; clear b1)
  go_ret; exact HH.out.1
 ·have hr : rdText (b, bad) = (t, (rest, bad)) := by
   have := rdText_app (t := t) (by omega) rest bad
   unfold txtL at this; rw [List.append_assoc] at this; rw [he]; exact this
  rw [hr]; have hg := refTakeText_new ao cap b B off 1048576 w hs hl t rest he hm; have hfin : ∀ w1 ao' cap' B' off', SrcAt w1 ao' cap' rest B' off' -> (0 < rest.length -> w.heap.size <= B') -> Below w.heap.size w w1 -> Hid (RdToG G w p (.string (SL t)) (rest, bad) (.returned (.string (SL t))) (w1.setCell ⟨p, 0, none⟩ (.slice ao' rest.length cap')) /\ w1.frozen? ⟨p, 0, none⟩ = false /\ w1.cell? ⟨p, 0, none⟩ = some (.slice ao b.length cap)) := fun w1 ao' cap' B' off' hs' hnw hb => by
   have hrow' := below_turn hb hrow; have hne' : 0 < rest.length -> B' ≠ p /\ ¬ G B' := fun hq => ⟨rd_ne hrow' (fun z e => by cases e) hs' hq, fun hg => by have h1 := hG _ hg; have h2 := hnw hq; omega⟩
   exact h_ ⟨⟨rfl, ⟨ao', cap', B', off', heap_setCell_same w1 p 0 _ _ _ hrow', hs'.turn (turn_rd p 0 w1 _) (fun hq => (hne' hq).1), hne'⟩, (Turn.of_below _ hb).trans (turn_rd p 0 w1 _)⟩, (rd_cells hrow').2.2 0, (rd_cells hrow').1⟩
  have HG := h_ hg; have HF := h_ hfin; obtain ⟨L, hL⟩ := nm_ (b.length); obtain ⟨R, hR⟩ := nm_ (rest.length); rw [<- hL] at c0; rw [<- hL, <- hR] at HG; rw [<- hL, <- hR] at HF; clear hg hfin hr he hm hL hR hs hrow hne fr hl h' hG; go_enter Tryz.func97, Tryz.ntmps97; go_wp2_with (go_at_call 140; refine HG.out.mono ?_; rintro e w1 ⟨ao', cap', B', off', rfl, s1, n1, b1⟩; have HH := HF.out w1 ao' cap' B' off' s1 n1 b1; have f0 := HH.out.2.1; have k0 := HH.out.2.2; clear b1 n1 s1)
  go_ret; exact HH.out.1
end
section
open Go.RowKit
theorem same_any {ao bo : Option Addr} {capa capb : Nat} {l m : List UInt8} {A offa B offb : Nat} (w : World) (ha : SrcAt w ao capa l A offa) (hb : SrcAt w bo capb m B offb) :
  Calls Tryz.prog 99 #[.slice ao l.length capa, .slice bo m.length capb] w fun e w' => e = .returned (.bool (decide (l = m))) /\ w' = w := by
 by_cases h : l = m
 ·subst h
  rw [decide_eq_true rfl]; exact same_true w ha hb
 ·have c1 := convert_src ha
  have c2 := convert_src hb; rw [decide_eq_false h]; have e1 := SL_toList l; have e2 := SL_toList m; have hq : (l == m) = false := by simpa using h
  obtain ⟨n, hn⟩ := nm_ (l.length); obtain ⟨k, hk⟩ := nm_ (m.length); rw [<- hn] at c1 |-; rw [<- hk] at c2 |-; clear hn hk h; go_enter Tryz.func99, Tryz.ntmps99; go_wp2; go_ret; exact ⟨rfl, rfl⟩
end
section
open Go.RowKit
abbrev nilS : Value := .slice none 0 0
def DecTo (b : OB) (w : World) (e : Ending) (w' : World) : Prop :=
 Below w.heap.size w w' /\ match decO b with
  | none => e = .returned (.tuple #[objV (zeroO 0) nilS nilS nilS, .int .i64 2])
  | some o => ∃ dv ev uv, e = .returned (.tuple #[objV o dv ev uv, .int .i64 0]) /\ ObjIn w' (fun k => w.heap.size <= k) o dv ev uv
theorem obj_fz {w : World} {x : Nat} {cs : Array Value} {t : TypeId} (h : w.heap[x]? = some (.cells cs t (0, 0))) : ∀ j, w.frozen? ⟨x, j, none⟩ = false := fun j => frozen_of_row _ _ j _ _ h
end
section
open Go.RowKit
def DecErr (k : Int) (w : World) (e : Ending) (w' : World) : Prop := ∃ (K z : Int) (a1 a2 a3 : Option Addr) (n1 n2 n3 c1 c2 c3 : Nat) (s3 s5 s6 s7 s9 : OB), e = .returned (.tuple #[.agg #[.int .i64 K, .slice a1 n1 c1, .slice a2 n2 c2, .string (SL s3), .slice a3 n3 c3, .string (SL s5), .string (SL s6), .string (SL s7), .int .i64 z, .string (SL s9)], .int .i64 k]) /\ Below w.heap.size w w'
theorem dec_err_none {b : OB} {w w' : World} {e : Ending} (hd : decO b = none) (h : DecTo b w e w') : DecErr 2 w e w' := by
 unfold DecTo at h; rw [hd] at h; exact ⟨0, 0, none, none, none, 0, 0, 0, 0, 0, 0, [], [], [], [], [], h.2, h.1⟩
theorem dec_err_some {b : OB} {o : ObjR} {w w' : World} {e : Ending} (hd : decO b = some o) (h : DecTo b w e w') : DecErr 0 w e w' := by
 unfold DecTo at h; rw [hd] at h; obtain ⟨hb, dv, ev, uv, he, ⟨a1, c1, _, _, rfl, _⟩, ⟨a2, c2, _, _, rfl, _⟩, ⟨a3, c3, _, _, rfl, _⟩⟩ := h; exact ⟨_, _, _, _, _, _, _, _, _, _, _, _, _, _, _, _, he, hb⟩
end
section
open Go.RowKit
theorem texts_differ {A B : List OB} {k : Nat} {t u : OB} (ha : A[k]? = some t) (hb : B[k]? = some u) (h : ¬ t = u) : A ≠ B := fun e => by
 rw [e, hb] at ha; exact h (Option.some.inj ha).symm
theorem texts_alike {A B : List OB} (hl : A.length = B.length) (h : A.take A.length = B.take A.length) : A = B := by
 rw [List.take_length, hl, List.take_length] at h; exact h
theorem take_alike {α : Type} {A B : List α} {k : Nat} {t : α} (h : A.take k = B.take k) (ha : A[k]? = some t) (hb : B[k]? = some t) : A.take (k + 1) = B.take (k + 1) := by rw [List.take_add_one, List.take_add_one, h, ha, hb]
theorem refSameTexts_any (F G : Nat -> Prop) (v u : Value) (A B : List OB) (w : World) (h : TextsAt w F v A) (h' : TextsAt w G u B) (hl : A.length <= 9223372036854775807) :
  Calls Tryz.prog 23 #[v, u] w fun e w' => e = .returned (.bool (decide (A = B))) /\ ∃ m, w' = w.drewN m := by
 obtain ⟨ao, cap, g, off, rfl, hs⟩ := h; obtain ⟨ao', cap', g', off', rfl, hs'⟩ := h'; obtain ⟨N, hN⟩ := nm_ (A.length); obtain ⟨M, hM⟩ := nm_ (B.length); rw [<- hN] at hs hl |-; rw [<- hM] at hs' |-; have HN := h_ hN; have HM := h_ hM; have HS := h_ hs; have HS' := h_ hs'; clear hN hM hs hs'; by_cases hnm : N = M
 ·obtain rfl := hnm
  go_enter Tryz.func23, Tryz.ntmps23; go_wp2; go_loopw [5] (fun i W => ∃ (k j : Nat), i = .int .i64 (k : Int) /\ k <= N /\ A.take k = B.take k /\ W = w.drewN j) (fun i _ => N - (intOf i).toNat)
  case atStart => exact ⟨0, 0, rfl, Nat.zero_le _, by simp, rfl⟩
  case round =>
   obtain ⟨k, j, rfl, hk, ht, rfl⟩ := hrel; by_cases hlt : k < N
   ·have i0 : (0 : Int) <= (k : Int) := by omega
    have i1 : (k : Int) < (N : Int) := by omega
    obtain ⟨e, he⟩ : ∃ e, A[k]? = some e := ⟨_, List.getElem?_eq_getElem (by rw [<- HN.out]; exact hlt)⟩
    obtain ⟨e', he'⟩ : ∃ e, B[k]? = some e := ⟨_, List.getElem?_eq_getElem (by rw [<- HM.out]; exact hlt)⟩
    obtain ⟨rfl, c0⟩ := HS.out.text he hlt; obtain ⟨rfl, c0'⟩ := HS'.out.text he' hlt; obtain ⟨W0, hW0⟩ := nm_ (w.drewN j); have d0 : W0.cell? ⟨g, off + k, none⟩ = some (.string (SL e)) := by rw [hW0]; exact c0
    have d1 : W0.cell? ⟨g', off' + k, none⟩ = some (.string (SL e')) := by rw [hW0]; exact c0'
    have HW0 : Hid (∀ n, ∃ j', W0.drewN n = w.drewN j') := h_ (fun n => ⟨j + n, by rw [hW0, World.drewN_drewN]⟩)
    rw [<- hW0]; have ln := SL_toList e; have lm := SL_toList e'; have HE := h_ he; have HE' := h_ he'; have HT := h_ ht; clear hW0 c0 c0' he he' ht; by_cases hq : e = e'
    ·subst hq
     have hb : (e == e) = true := beq_self_eq_true _
     have hnx := take_alike HT.out HE.out HE'.out; have HNX := h_ hnx; clear hnx; go_wp2; go_quiet (fail)
     go_wp2; go_roundw
     case rel =>
      obtain ⟨j', hj'⟩ := HW0.out nq; exact ⟨k + 1, j', by go_num, by omega, HNX.out, hj'⟩
     case measure => simp [intOf]; omega
    ·have hb : (e == e') = false := by simpa using hq
     have hv : decide (A = B) = false := decide_eq_false (texts_differ HE.out HE'.out hq)
     have HV := h_ hv; clear hv hq; go_wp2; go_quiet (fail)
     go_wp2; go_ret; exact ⟨by rw [HV.out]; rfl, HW0.out _⟩
   ·obtain rfl : k = N := by omega
    have i1 : ¬ (k : Int) < (k : Int) := by omega
    have hv : decide (A = B) = true := decide_eq_true (texts_alike (by rw [<- HN.out, <- HM.out]) (by rw [<- HN.out]; exact ht))
    have HV := h_ hv; clear hv ht; go_wp2; go_ret; exact ⟨by rw [HV.out]; rfl, j, rfl⟩
 ·have hv : decide (A = B) = false := decide_eq_false (fun e => hnm (by rw [HN.out, HM.out, e]))
  have HV := h_ hv; have i0 : ¬ (N : Int) = (M : Int) := by omega
  have i1 : ((N : Int) != (M : Int)) = true := by simp; omega
  have i2 : (N != M) = true := by simpa using hnm
  clear hv; go_enter Tryz.func23, Tryz.ntmps23; go_wp2; go_ret; exact ⟨by rw [HV.out]; rfl, 0, rfl⟩
end
end Go.Proofs.YtomgijcbekjlaaaGreat
