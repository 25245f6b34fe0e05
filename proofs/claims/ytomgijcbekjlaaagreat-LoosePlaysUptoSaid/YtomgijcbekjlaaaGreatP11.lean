/- What the proofs stand on: DiskOps3, DiskLoadMem. -/
import Derived.Deep.RegionHeld3
import Derived.Test.YtomgijcbekjlaaaGreatP10
import Derived.Test.YtomgijcbekjlaaaGreatP1
import Derived.Test.YtomgijcbekjlaaaGreatPB0
import Derived.Test.YtomgijcbekjlaaaGreatPB1
set_option maxRecDepth 100000
set_option maxHeartbeats 40000000
namespace Go.Proofs.YtomgijcbekjlaaaGreat
section
open Go.RowKit
theorem step_append_new {ops : Array Oper} {o : Oper} {a : Act} {w : World} {K : Act -> World -> Prop} {Q : Exit -> Act -> World -> Prop} {E : Prop}
  (hgd : o.guard = none) (s x : Operand) (hop : o.op = Op.call { callee := Callee.builtin Builtin.append, args := #[s, x], argTypes := #[29, 29] })
  (base : Nat) (v : Value) (n : Nat) (xs : List Value) (hS : a.eval s = v) (hown : w.ownsRow base 5 1 v n xs) (ao : Option Addr) (m c : Nat) (hX : a.eval x = .slice ao m c) (news : List Value) (hn : news.length = m)
  (hbare : ao = none -> m = 0 /\ c = 0) (hc : ∀ ad, ao = some ad -> ∀ j u, news[j]? = some u -> w.cell? (ad.add j) = some u) (h1c : ∀ u ∈ news, u.oneCell' = true) (hb : n + m <= 225000000000000) (hbase : base <= w.heap.size)
  (hK : ∀ v' w', Hid (w'.ownsRow base 5 1 v' (n + m) (xs ++ news)) -> w.grownBy w' v.ownBlock -> Hid (∀ k, v'.ownBlock = some k -> v.ownBlock = some k \/ k = w.heap.size) -> K (a.put o.dst v') w') :
  if Region.wanted o (yielded ops a.tmps) = true then Oper.wp Tryz.prog o a w K Q else E := by
 have hw : Region.wanted o (yielded ops a.tmps) = true := by simp [Region.wanted, hgd]
 rw [if_pos hw]; obtain ⟨v', w', hrun, r1, r2, r3⟩ := run_append_new w o.type base v n xs hown ao m c news hn hbare hc h1c hb hbase; unfold Oper.wp; simp [execOp, hop, resolve, invoke, builtin, hS, hX, hrun, Result.andThen]; exact hK v' w' r1 r2 r3
def ActsIn (F : Nat -> Prop) (p mb : Nat) (w : World) (r : Int × St) (e : Ending) (w' : World) : Prop := e = .returned (err r.1) /\ (∃ V lf, DiskIn w' (grow F w w') p mb V lf r.2) /\ Turn F w w'
theorem act_in_same {F : Nat -> Prop} {p mb : Nat} {V : Bs -> Value} {lf : Int} {S : St} {w : World} (h : DiskIn w F p mb V lf S) (k : Int) : ActsIn F p mb w (k, S) (.returned (err k)) w := ⟨rfl, ⟨V, lf, h.mono fun _ h => .inl h⟩, Turn.refl _ _⟩
section
variable {F : Nat -> Prop} {p mb : Nat} {V : Bs -> Value} {lf : Int} {S : St} {w : World}
theorem append_costs (hg : Good S) (n b : Bs) : (costs (putF n ((findF n S.fs).getD [] ++ b) S.fs) : Int) = (costs S.fs : Int) + moreS S n b := by
 unfold moreS
 cases hf : findF n S.fs with
 | none =>
  simp only [Option.getD_none, List.nil_append]; rw [costs_put_new hf]; omega
 | some c =>
  simp only [Option.getD_some]; have := costs_put_old (b := c ++ b) hg.rise hf
  rw [List.length_append] at this; omega
theorem row_or_nil {fs : Files} (h : RowsAt w F V fs) (n : Bs) : ∃ v, (findF n (esOf V fs)).getD (.slice none 0 0) = v /\ w.ownsRow 0 5 1 v ((findF n fs).getD []).length (((findF n fs).getD []).map B8) /\ (∀ g, v.ownBlock = some g -> ∃ b, findF n fs = some b /\ (V n).ownBlock = some g) := by
 rw [es_find]
 cases hf : findF n fs with
 | none => exact ⟨_, rfl, World.ownsRow_nil _ _ _ _, fun g hg => by cases hg⟩
 | some b => exact ⟨_, rfl, h.own n b hf, fun g hg => ⟨b, rfl, hg⟩⟩
theorem append_in (h : DiskIn w F p mb V lf S) (hg : Good S) (hF : ∀ k, F k -> k < w.heap.size) (hb : S.done <= 4000000000000000) (n : Bs) (ao : Option Addr) (cap : Nat) (b : Bs) (B off : Nat) (hs : SrcAt w ao cap b B off) (hB : 0 < b.length -> ¬ F B) :
  Calls Tryz.prog 37 #[ptr p, .string (SL n), .slice ao b.length cap] w (ActsIn F p mb w (appendS S n b)) := by
 have hr := ready_any h n; obtain ⟨c0, _⟩ := head_cells h.head; unfold appendS; obtain ⟨k, hk⟩ := nm_ (b.length); rw [<- hk]; by_cases h64 : 64 < k
 ·rw [if_pos h64]
  have HS := act_in_same h 1; have g1 : (k : Int) > 64 := by omega
  clear hk h64; go_enter Tryz.func37, Tryz.ntmps37; go_wp2; go_ret; exact HS
 ·rw [if_neg h64]
  have g1 : ¬ (k : Int) > 64 := by omega
  rcases touch_ready S n with ⟨h1, h2⟩ | ⟨h1, hN, hd, h4⟩
  ·rw [if_pos h1]
   obtain ⟨z, hz⟩ := nm_ (readyS S n); rw [<- hz] at hr h1 |-; have HS := act_in_same h z; clear hz h2 hk h64; go_enter Tryz.func37, Tryz.ntmps37; go_wp2_with (go_at_call 75; refine hr.mono ?_; rintro e w' ⟨rfl, rfl⟩)
   go_ret; exact HS
  ·rw [if_neg (by simp [h1])]
   rw [h1] at hr; have hnl := (named_le hN).1; have hhas := has_any h n (by unfold maxLen; omega)
   have hcost := cost_any n k w (by omega) (by omega)
   have hsum := append_costs hg n b; have hf := hg.free_in; have hmore : moreS S n b = if thereF n S.fs = true then (k : Int) else 16 + (n.length : Int) + (k : Int) := by
    unfold moreS thereF
    cases hff : findF n S.fs with
    | none => simp [costF, hk]
    | some c => simp [hk]
   have hm0 : 0 <= moreS S n b := by rw [hmore]; split <;> omega
   obtain ⟨m, hm⟩ := nm_ (moreS S n b); rw [<- hm] at hsum hmore hm0 |-; have HSUM := h_ hsum; have HK := h_ hk; clear hsum hm hk; by_cases hq : S.free < m
   ·rw [if_pos hq]
    have hw := write_S_full h hg m hq; have HS := act_in_same h 4
    cases hthere : thereF n S.fs with
    | true =>
     rw [hthere] at hhas hmore; simp only [if_true] at hmore; subst hmore; clear h4; go_enter Tryz.func37, Tryz.ntmps37; go_wp2_with (first | (go_at_call 75; refine hr.mono ?_; rintro e w' ⟨rfl, rfl⟩) | (go_at_call 76; refine hhas.mono ?_; rintro e w' ⟨rfl, rfl⟩) | (go_at_call 73; refine hw.mono ?_; rintro e w' ⟨rfl, rfl⟩))
     go_ret; exact HS
    | false =>
     rw [hthere] at hhas hmore; simp only [Bool.false_eq_true, if_false] at hmore; rw [<- hmore] at hcost; clear hmore h4; go_enter Tryz.func37, Tryz.ntmps37; go_wp2_with (first | (go_at_call 75; refine hr.mono ?_; rintro e w' ⟨rfl, rfl⟩) | (go_at_call 76; refine hhas.mono ?_; rintro e w' ⟨rfl, rfl⟩) | (go_at_call 74; refine hcost.mono ?_; rintro e w' ⟨rfl, rfl⟩) | (go_at_call 73; refine hw.mono ?_; rintro e w' ⟨rfl, rfl⟩))
     go_ret; exact HS
   ·rw [if_neg hq]
    unfold writeS; by_cases h0 : S.left = 0
    ·rw [if_pos h0]
     have hw := write_S_cut h hg hd h0 m (by omega)
     cases hthere : thereF n S.fs with
     | true =>
      rw [hthere] at hhas hmore; simp only [if_true] at hmore; subst hmore; clear h4; go_enter Tryz.func37, Tryz.ntmps37; go_wp2_with (first | (go_at_call 75; refine hr.mono ?_; rintro e w' ⟨rfl, rfl⟩) | (go_at_call 76; refine hhas.mono ?_; rintro e w' ⟨rfl, rfl⟩) | (go_at_call 73; refine hw.mono ?_; rintro e w' ⟨rfl, h1, h2⟩))
      go_ret; exact ⟨rfl, ⟨_, _, h1.mono fun _ h => .inl h⟩, h2⟩
     | false =>
      rw [hthere] at hhas hmore; simp only [Bool.false_eq_true, if_false] at hmore; rw [<- hmore] at hcost; clear hmore h4; go_enter Tryz.func37, Tryz.ntmps37; go_wp2_with (first | (go_at_call 75; refine hr.mono ?_; rintro e w' ⟨rfl, rfl⟩) | (go_at_call 76; refine hhas.mono ?_; rintro e w' ⟨rfl, rfl⟩) | (go_at_call 74; refine hcost.mono ?_; rintro e w' ⟨rfl, rfl⟩) | (go_at_call 73; refine hw.mono ?_; rintro e w' ⟨rfl, h1, h2⟩))
      go_ret; exact ⟨rfl, ⟨_, _, h1.mono fun _ h => .inl h⟩, h2⟩
    ·rw [if_neg h0]
     have hw := write_S_done h hg hd hb h0 m (by omega) (by omega)
     have hkey := key9 (n := n) (by unfold maxLen; omega)
     -- what stands behind write, once for both ways
     have hrest : ∀ w1, OnlyHead p (headO mb (S.free - m) ((S.done : Int) + 1) (tick S).left false) w w1 -> ∃ v, w1.cell? ⟨p, 0, none⟩ = some (.map (some mb)) /\ (∀ W : World, W.heap = w1.heap -> (Instr.lookup 89 (.map (some mb)) (.string (SL n)) false).run Tryz.prog W = .ok v W) /\
       SrcAt w1 ao cap b B off /\ w1.ownsRow 0 5 1 v ((findF n S.fs).getD []).length (((findF n S.fs).getD []).map B8) /\ DiskMapAt w1 mb (esOf V S.fs) /\ p ≠ mb /\ (∀ g, v.ownBlock = some g -> g ≠ p /\ g ≠ mb /\ F g) /\
       (∀ (v' : Value) (w2 w3 : World), w1.grownBy w2 v.ownBlock -> (∀ g, v'.ownBlock = some g -> v.ownBlock = some g \/ g = w1.heap.size) -> w2.ownsRow 0 5 1 v' (((findF n S.fs).getD []).length + b.length) (((findF n S.fs).getD []).map B8 ++ b.map B8) ->
        (∃ k, w3.ownsMap Tryz.prog 9 rawR mb k ((toD (esOf V S.fs)).put (.string n) (rawD v'))) -> w2.mapTurned w3 mb -> ActsIn F p mb w (0, { tick S with fs := putF n ((findF n S.fs).getD [] ++ b) S.fs }) (.returned (err 0)) w3) := by
      intro w1 ho
      obtain ⟨m1, r1⟩ := ho.parts h; obtain ⟨v, hv, hown, hblk⟩ := row_or_nil r1 n; have hpm := h.ne; have hvb : ∀ g, v.ownBlock = some g -> g ≠ p /\ g ≠ mb /\ F g := fun g hg2 => by
       obtain ⟨c, hc, hg3⟩ := hblk g hg2; exact ⟨(h.row_ne hc hg3).1, (h.row_ne hc hg3).2, r1.foot n c hc g hg3⟩
      refine ⟨v, (head_cells ho.head).1, fun W hW => ?_, hs.turn ho.turn (fun hp e => hB hp (by rw [e]; exact h.inP)), hown, m1, hpm, hvb, ?_⟩
      ·have := (m1.of_block (w' := W) (by rw [hW])).look1 (n := n) (by unfold maxLen; omega)
       rw [this, hv]
      ·intro v' w2 w3 hg2 hnew hown2 hmap hturn
       obtain ⟨kk, hmap⟩ := hmap; have g3 := hturn.grown; have hsz1 := ho.turn.size; have hraw : Raw v' := raw_own hown2; have m3 := DiskMapAt.put (es_rising hg.rise) m1.2.2 hraw hmap; rw [es_put (b := (findF n S.fs).getD [] ++ b) hg.rise] at m3
       have tf : Turn F w w1 := ho.foot h; have t2 : Turn F w1 w2 := Turn.of_grown hg2 (fun g hg => (hvb g hg).2.2)
       have t3 : Turn F w2 w3 := Turn.of_grown g3 (fun g hg => by cases hg; exact h.inM)
       have hmlt := m1.lt; have hsz2 := hg2.size; have hsz3 := g3.size
       -- the other rows
       have hrow : ∀ nn c, nn ≠ n -> findF nn S.fs = some c -> w3.ownsRow 0 5 1 (V nn) c.length (c.map B8) := fun nn c hnn hc => by
        have q1 := own_turn (r1.own nn c hc) (Turn.of_grown (G := fun k => v.ownBlock = some k) hg2 (fun g hg => hg)) (fun g hg hvg => by
         obtain ⟨d, hd2, hg4⟩ := hblk g hvg; exact r1.apart nn n c d hc hd2 hnn g hg hg4)
        exact own_turn q1 (Turn.of_grown (G := fun k => k = mb) g3 (fun g hg => by cases hg; rfl)) (fun g hg e => (h.row_ne hc hg).2 e)
       have hv'mb : ∀ g, v'.ownBlock = some g -> g ≠ mb := fun g hg2' => by
        rcases hnew g hg2' with h5 | h5
        ·exact (hvb g h5).2.1
        ·omega
       have hown3 : w3.ownsRow 0 5 1 v' ((findF n S.fs).getD [] ++ b).length (((findF n S.fs).getD [] ++ b).map B8) := by
        rw [List.length_append, List.map_append]; exact own_turn hown2 (Turn.of_grown (G := fun k => k = mb) g3 (fun g hg => by cases hg; rfl)) (fun g hg e => hv'mb g hg e)
       -- the rows without n, then n's own
       have hr3 : RowsAt w3 (grow F w w3) V (delF n S.fs) := by
        refine ⟨fun nn c hc => ?_, fun nn c hc g hg2 => ?_, fun nn kk c d hc hd2 hne g hg2 => ?_⟩
        ·by_cases e : nn = n
         ·subst e; rw [findF_del_same hg.rise] at hc; cases hc
         ·rw [findF_del_other e] at hc; exact hrow nn c e hc
        ·by_cases e : nn = n
         ·subst e; rw [findF_del_same hg.rise] at hc; cases hc
         ·rw [findF_del_other e] at hc; exact .inl (r1.foot nn c hc g hg2)
        ·by_cases e : nn = n
         ·subst e; rw [findF_del_same hg.rise] at hc; cases hc
         ·rw [findF_del_other e] at hc
          by_cases e2 : kk = n
          ·subst e2; rw [findF_del_same hg.rise] at hd2; cases hd2
          ·rw [findF_del_other e2] at hd2
           exact r1.apart nn kk c d hc hd2 hne g hg2
       have hsz : w1.heap.size < w3.heap.size \/ ∀ g, v'.ownBlock = some g -> v.ownBlock = some g := by
        by_cases hx : ∃ g, v'.ownBlock = some g /\ g = w1.heap.size
        ·obtain ⟨g, hg1, hg2'⟩ := hx
         have := (hown3.lt g hg1).2
         exact .inl (by omega)
        ·refine .inr fun g hg1 => ?_
         rcases hnew g hg1 with h5 | h5
         ·exact h5
         ·exact absurd ⟨g, hg1, h5⟩ hx
       have hr4 := hr3.put (n := n) (b := (findF n S.fs).getD [] ++ b) (v := v') hown3
        (fun g hg1 => by
         rcases hnew g hg1 with h5 | h5
         ·exact .inl (hvb g h5).2.2
         ·have := (hown3.lt g hg1).2
          exact .inr ⟨by omega, this⟩)
        (fun nn c hnn hc g hg1 => by
         rw [findF_del_other hnn] at hc; rcases hnew g hg1 with h5 | h5
         ·obtain ⟨d, hd2, hg4⟩ := hblk g h5
          exact fun hx => r1.apart nn n c d hc hd2 hnn g hx hg4
         ·intro hx
          have := ((r1.own nn c hc).lt g hx).2
          omega)
       have hfs : putF n ((findF n S.fs).getD [] ++ b) (delF n S.fs) = putF n ((findF n S.fs).getD [] ++ b) S.fs := by
        refine rising_ext hg.rise.del.put hg.rise.put fun x => ?_
        by_cases e : x = n
        ·rw [e, findF_put_same, findF_put_same]
        ·rw [findF_put_other _ e, findF_put_other _ e, findF_del_other e]
       rw [hfs] at hr4; refine ⟨rfl, ⟨_, _, tick_in (z := S.free - m) hd hg ?_ ?_ ?_ m3 hr4 (.inl h.inP) (.inl h.inM)⟩, (tf.trans t2).trans t3⟩
       ·have hlt : p < w1.heap.size := (ge_ ho.head).1
        rw [g3.block p (by omega) (fun e => hpm (Option.some.inj e)), hg2.block p hlt (fun e => (hvb p e.symm).1 rfl)]
        exact ho.head
       ·have := HSUM.out
        unfold St.free; omega
       ·omega
     have HREST := h_ hrest; have hol : ((findF n S.fs).getD []).length <= 1099511627776 := by
      cases hff : findF n S.fs with
      | none => simp
      | some c => have := hg.file_le hff; unfold costF at this; simp only [Option.getD_some]; omega
     have hlen : (esOf V S.fs).length < maxLen := by
      simp only [esOf, List.length_map]; have := hg.many
      unfold maxLen; omega
     obtain ⟨O, hO⟩ := nm_ ((findF n S.fs).getD []); rw [<- hO] at HREST hol |-; clear hrest hO HSUM
     cases hthere : thereF n S.fs with
     | true =>
      rw [hthere] at hhas hmore; simp only [if_true] at hmore; subst hmore; clear h4; go_enter Tryz.func37, Tryz.ntmps37; go_wp2_with (first | (go_at_call 75; refine hr.mono ?_; rintro e w' ⟨rfl, rfl⟩) | (go_at_call 76; refine hhas.mono ?_; rintro e w' ⟨rfl, rfl⟩) | (go_at_call 73; fail))
      refine hw.mono ?_; rintro e w1 ⟨rfl, ho⟩; obtain ⟨v, d0, hl, s1, o1, m1, hpm, hvb, hfin⟩ := HREST.out w1 ho; clear HREST ho; have HF := h_ hfin; clear hfin; go_wp2_with fail; have hl2 := hl w1.drew rfl; have d2 : w1.drew.cell? ⟨p, 0, none⟩ = some (.map (some mb)) := d0
      have o2 : w1.drew.ownsRow 0 5 1 v O.length (O.map B8) := o1; have s2 : SrcAt w1.drew ao cap b B off := ⟨s1.le, s1.top, s1.src, s1.bare, s1.old, s1.cell⟩; have m2 : DiskMapAt w1.drew mb (esOf V S.fs) := m1; have HK2 := HK
      go_region_held3 (fun W => W.cell? ⟨p, 0, none⟩ = some (.map (some mb))) (first | exact d2 | assumption) ((refine step_append_new rfl _ _ rfl 0 v O.length _ rfl o2 ao k cap rfl (b.map B8) (by rw [List.length_map]; exact HK.out.symm) (fun hh => by rw [HK.out]; exact s2.bare hh) s2.cells (B8_one _) (by omega) (Nat.zero_le _) ?_; intro v' w2 hown2 hg2 hnew; have d3 : w2.cell? ⟨p, 0, none⟩ = some (.map (some mb)) := hg2.cell d2 (fun e => (hvb p e.symm).1 rfl); have m3 : DiskMapAt w2 mb (esOf V S.fs) := m2.of_block (hg2.block mb m2.lt (fun e => (hvb mb e.symm).2.1 rfl)); obtain ⟨w3, hrun3, hmap3, hturn3⟩ := m3.1.store (val := v') K9 Tryz.underlying89 hlen hkey (rawR_of (raw_own hown2.out)); have HF2 := h_ (HF.out v' w2 w3 ⟨hg2.os, hg2.tape, hg2.output, hg2.size, hg2.block⟩ hnew.out (by rw [<- HK.out]; exact hown2.out) ⟨_, hmap3⟩ hturn3); have d4 : w3.cell? ⟨p, 0, none⟩ = some (.map (some mb)) := hturn3.grown.cell d3 (fun e => hpm (Option.some.inj e)); clear hmap3 hturn3 hg2 hnew hown2 m3))
      go_wp2_with fail; go_ret; exact HF2.out
     | false =>
      rw [hthere] at hhas hmore; simp only [Bool.false_eq_true, if_false] at hmore; rw [<- hmore] at hcost; clear hmore h4; go_enter Tryz.func37, Tryz.ntmps37; go_wp2_with (first | (go_at_call 75; refine hr.mono ?_; rintro e w' ⟨rfl, rfl⟩) | (go_at_call 76; refine hhas.mono ?_; rintro e w' ⟨rfl, rfl⟩) | (go_at_call 74; refine hcost.mono ?_; rintro e w' ⟨rfl, rfl⟩) | (go_at_call 73; fail))
      refine hw.mono ?_; rintro e w1 ⟨rfl, ho⟩; obtain ⟨v, d0, hl, s1, o1, m1, hpm, hvb, hfin⟩ := HREST.out w1 ho; clear HREST ho; have HF := h_ hfin; clear hfin; go_wp2_with fail; have hl2 := hl w1.drew rfl; have d2 : w1.drew.cell? ⟨p, 0, none⟩ = some (.map (some mb)) := d0
      have o2 : w1.drew.ownsRow 0 5 1 v O.length (O.map B8) := o1; have s2 : SrcAt w1.drew ao cap b B off := ⟨s1.le, s1.top, s1.src, s1.bare, s1.old, s1.cell⟩; have m2 : DiskMapAt w1.drew mb (esOf V S.fs) := m1; have HK2 := HK
      go_region_held3 (fun W => W.cell? ⟨p, 0, none⟩ = some (.map (some mb))) (first | exact d2 | assumption) ((refine step_append_new rfl _ _ rfl 0 v O.length _ rfl o2 ao k cap rfl (b.map B8) (by rw [List.length_map]; exact HK.out.symm) (fun hh => by rw [HK.out]; exact s2.bare hh) s2.cells (B8_one _) (by omega) (Nat.zero_le _) ?_; intro v' w2 hown2 hg2 hnew; have d3 : w2.cell? ⟨p, 0, none⟩ = some (.map (some mb)) := hg2.cell d2 (fun e => (hvb p e.symm).1 rfl); have m3 : DiskMapAt w2 mb (esOf V S.fs) := m2.of_block (hg2.block mb m2.lt (fun e => (hvb mb e.symm).2.1 rfl)); obtain ⟨w3, hrun3, hmap3, hturn3⟩ := m3.1.store (val := v') K9 Tryz.underlying89 hlen hkey (rawR_of (raw_own hown2.out)); have HF2 := h_ (HF.out v' w2 w3 ⟨hg2.os, hg2.tape, hg2.output, hg2.size, hg2.block⟩ hnew.out (by rw [<- HK.out]; exact hown2.out) ⟨_, hmap3⟩ hturn3); have d4 : w3.cell? ⟨p, 0, none⟩ = some (.map (some mb)) := hturn3.grown.cell d3 (fun e => hpm (Option.some.inj e)); clear hmap3 hturn3 hg2 hnew hown2 m3))
      go_wp2_with fail; go_ret; exact HF2.out
end
end
section
open Go.RowKit
structure HalfIn (w : World) (B p mb : Nat) (V : Bs -> Value) (f : Int) (fs : Files) : Prop where
 head : w.heap[p]? = some (headO mb f 0 (-1) false)
 map : DiskMapAt w mb (esOf V fs)
 rows : RowsAt w (fun k => B <= k) V fs
 inP : B <= p
 inM : B <= mb
section
variable {w w' : World} {B p mb : Nat} {V : Bs -> Value} {f : Int} {fs : Files}
theorem HalfIn.ne (h : HalfIn w B p mb V f fs) : p ≠ mb := by
 intro e
 obtain ⟨⟨E, c, h1, _⟩, _⟩ := h.map; have h2 := h.head; rw [e, h1] at h2
 cases h2
theorem HalfIn.row_ne (h : HalfIn w B p mb V f fs) {n b : Bs} (hb : findF n fs = some b) {g : Nat} (hg : (V n).ownBlock = some g) : g ≠ p /\ g ≠ mb := by
 rcases (h.rows.own n b hb).2 with ⟨e, _⟩ | ⟨g', cap, cur, e, _, h3, _⟩
 ·rw [e] at hg; cases hg
 ·rw [e] at hg
  have e2 : g' = g := Option.some.inj hg
  subst e2; refine ⟨fun k => ?_, fun k => ?_⟩
  ·have h4 := h.head
   rw [<- k, h3] at h4; simp [headO] at h4
  ·obtain ⟨⟨E, c, h1, _⟩, _⟩ := h.map
   rw [<- k, h3] at h1
   cases h1
theorem HalfIn.plt (h : HalfIn w B p mb V f fs) : p < w.heap.size := (ge_ h.head).1
theorem HalfIn.below (h : HalfIn w B p mb V f fs) (hb : Below w.heap.size w w') : HalfIn w' B p mb V f fs :=
 ⟨below_heap hb h.head, h.map.turn (Turn.of_below (fun _ => False) hb) (fun h => h), h.rows.turn (Turn.of_below (fun _ => False) hb) (fun _ _ h => h), h.inP, h.inM⟩
theorem HalfIn.has (h : HalfIn w B p mb V f fs) (n : Bs) (hn : n.length <= maxLen) : Calls Tryz.prog 76 #[ptr p, .string (SL n)] w fun e w' => e = .returned (.bool (thereF n fs)) /\ w' = w := by
 obtain ⟨c0, _⟩ := head_cells h.head; have hl := h.map.look hn; rw [es_there] at hl; have hm := made_any c0; go_enter Tryz.func76, Tryz.ntmps76; go_wp2_with (go_at_call 54; refine hm.mono ?_; rintro e w' ⟨rfl, rfl⟩)
 go_ret; exact ⟨rfl, rfl⟩
theorem HalfIn.store (h : HalfIn w B p mb V f fs) (hr : Rising fs) (hlen : fs.length < maxLen) (n b : Bs) (hn : n.length <= maxLen) (v : Value) (ho : w.ownsRow 0 5 1 v b.length (b.map B8)) (hf : ∀ g, v.ownBlock = some g -> B <= g /\ g ≠ mb)
  (ha : ∀ m c, m ≠ n -> findF m fs = some c -> ∀ g, v.ownBlock = some g -> (V m).ownBlock ≠ some g) :
  ∃ w', (Instr.mapUpdate 89 (.map (some mb)) (.string (SL n)) v).run Tryz.prog w = .ok () w' /\ HalfIn w' B p mb (setV V n v) f (putF n b fs) /\ Turn (fun k => k = mb) w w' := by
 obtain ⟨w3, hrun3, hmap3, hturn3⟩ := h.map.1.store (val := v) K9 Tryz.underlying89 (by simpa [esOf] using hlen) (key9 hn) (rawR_of (raw_own ho))
 have hgr := hturn3.grown; have t3 : Turn (fun k => k = mb) w w3 := Turn.of_grown hgr (fun g hg => by cases hg; rfl)
 have m3 := DiskMapAt.put (es_rising hr) h.map.2.2 (raw_own ho) hmap3; rw [es_put (b := b) hr] at m3
 have r3 : RowsAt w3 (fun k => B <= k) V fs := ⟨fun m c hc => own_turn (h.rows.own m c hc) t3 (fun g hg e => (h.row_ne hc hg).2 e), h.rows.foot, h.rows.apart⟩
 exact ⟨w3, hrun3, ⟨t3.keep h.head (fun e => h.ne e), m3, r3.put (own_turn ho t3 (fun g hg e => (hf g hg).2 e)) (fun g hg => (hf g hg).1) ha, h.inP, h.inM⟩, t3⟩
theorem HalfIn.set (h : HalfIn w B p mb V f fs) (z : Int) : HalfIn (w.setCell ⟨p, 1, none⟩ (.int .i64 z)) B p mb V z fs := by
 have t : Turn (fun k => k = p) w (w.setCell ⟨p, 1, none⟩ (.int .i64 z)) := turn_set p 1 _ _
 refine ⟨heap_setCell_same w p 1 _ 96 (.int .i64 z) h.head, h.map.turn t (fun e => h.ne e.symm), ⟨fun n b hb => own_turn (h.rows.own n b hb) t (fun g hg e => (h.row_ne hb hg).1 e), h.rows.foot, h.rows.apart⟩, h.inP, h.inM⟩
theorem HalfIn.disk (h : HalfIn w B p mb V f fs) (c : Nat) (hf : f = wrap64 ((c : Int) - (costs fs : Int))) : DiskAt w (fun k => B <= k /\ k < w.heap.size) p ⟨fs, c, 0, -1, false⟩ := by
 refine ⟨mb, V, -1, ⟨?_, fun _ => rfl, ⟨by omega, by omega⟩, h.map, ⟨h.rows.own, fun n b hb g hg => ⟨h.rows.foot n b hb g hg, ?_⟩, h.rows.apart⟩, ⟨h.inP, h.plt⟩, ⟨h.inM, h.map.lt⟩⟩⟩
 ·have := h.head
  rw [hf] at this; exact this
 ·exact ((h.rows.own n b hb).lt g hg).2
end
theorem half_new (w : World) (c : Nat) : HalfIn ((w.alloc (.map #[] 0)).alloc (headO w.heap.size (c : Int) 0 (-1) false)) w.heap.size (w.heap.size + 1) w.heap.size (fun _ => .slice none 0 0) (c : Int) [] := by
 have h1 : (w.alloc (.map #[] 0)).heap.size = w.heap.size + 1 := by simp
 have hm : DiskMapAt ((w.alloc (.map #[] 0)).alloc (headO w.heap.size (c : Int) 0 (-1) false)) w.heap.size [] := (mapAt_new w).of_block (Below.heap_alloc _ _ _ (by omega))
 have hh := heap_alloc_new (w.alloc (.map #[] 0)) (headO w.heap.size (c : Int) 0 (-1) false); rw [h1] at hh; exact ⟨hh, hm, ⟨fun _ _ h => (by cases h), fun _ _ h => (by cases h), fun _ _ _ _ h => (by cases h)⟩, by omega, Nat.le_refl _⟩
theorem setV_nil (n : Bs) : setV (fun _ => .slice none 0 0) n (.slice none 0 0) = (fun _ => .slice none 0 0) := by
 funext m
 simp [setV]
end
end Go.Proofs.YtomgijcbekjlaaaGreat
