/- What the proofs stand on: SafeChunks. -/
import Derived.RangeFuncNested
import Derived.RangeFuncBound
import Derived.RangeFuncCalls
import Derived.RangeFuncLeaves
import Derived.Shelf.Abstract
import Derived.Shelf.RegionOpen
import Derived.WalkKit
import Derived.OwnWalkIn
import Derived.TacticsInMore
import Derived.LoopNIn
import Derived.LoopIn
import Derived.Test.YtomgijcbekjlaaaGreatP0
import Derived.Test.YtomgijcbekjlaaaGreatPB0
import Derived.Test.YtomgijcbekjlaaaGreatPB1
set_option maxRecDepth 100000
set_option maxHeartbeats 40000000
namespace Go.Proofs.YtomgijcbekjlaaaGreat
section
open Go.RowKit Go.Shelf
attribute [local go_sem] Oper.semAt_some
section
variable {ao : Option Addr} {cap : Nat} {bs : Bs} {B off : Nat}
theorem SrcAt.upto {W : World} (h : SrcAt W ao cap bs B off) (n : Nat) (hn : n <= bs.length) : SrcAt W ao cap (bs.take n) B off := by
 have hl : (bs.take n).length = n := by rw [List.length_take]; omega
 have hle := h.le; refine ⟨by omega, h.top, fun hp => h.src (by omega), fun hb => ⟨by have := (h.bare hb).1; omega, (h.bare hb).2⟩, fun hp => h.old (by omega), fun j hj => ?_⟩
 rw [h.cell j (by omega)]
 have e : (bs.take n).getD j 0 = bs.getD j 0 := by
  rw [hl] at hj; simp [List.getD, hj]
 rw [e]
theorem SrcAt.past {W : World} (h : SrcAt W ao cap bs B off) (l : Nat) (hl : l < bs.length) : SrcAt W (Option.map (fun x => { block := x.block, off := x.off + l }) ao) (cap - l) (bs.drop l) B (off + l) := by
 have hp := h.piece l (bs.length - l) (by omega)
 rw [List.take_of_length_le (by rw [List.length_drop]; omega)] at hp
 have hle := h.le; have e := h.src (by omega)
 rw [if_neg (by omega), e, Option.map_some, Addr.add_lit, Nat.mul_one] at hp
 rw [e]; exact hp
structure Piece (ao : Option Addr) (cap : Nat) (bs : Bs) (B off : Nat) where
 a : Option Addr
 c : Nat
 l : Nat
 t : Bs
 src : ∀ W, SrcAt W ao cap bs B off -> SrcAt W a c t B (off + l)
 le : t.length <= bs.length
def Piece.val (x : Piece ao cap bs B off) : Value := .slice x.a x.t.length x.c
structure RestAt (ao : Option Addr) (cap : Nat) (bs : Bs) (B off : Nat) (v : Value) (l M : Nat) (r : Bs) : Prop where
 ex : ∃ a c, v = .slice a M c /\ M <= c /\ ∀ W, SrcAt W ao cap bs B off -> SrcAt W a c r B (off + l)
 len : M = r.length
 all : M <= bs.length
def chunkLen : Value -> Nat
 | .slice _ n _ => n
 | _ => 0
theorem chunks_stops (n : Nat) (hn : 1 <= n) (Bx : Nat) (hle : bs.length <= cap) (w : World) (hBx : Bx < w.heap.size) (hc : w.cell? ⟨Bx, 0, none⟩ = some (.slice ao bs.length cap)) :
  SeqStopsK Fence.wide n Tryz.prog 180 #[.pointer (some ⟨Bx, 0, none⟩)] (fun x : Piece ao cap bs B off => #[x.val]) (fun _ _ => True) (fun xs => xs.map (fun x => x.t) = chunksL bs) (fun pre => pre.map (fun x => x.t) <+: chunksL bs) (chunksL bs).length w := fun l J Jx W hW hJ hJx hY h0 => by
 have hc' := (hW.cell (p := ⟨Bx, 0, none⟩) hBx).trans hc
 obtain ⟨K, hK⟩ := nm_ (bs.length); rw [<- hK] at hc'; have HK := h_ hK; have HY := h_ hY; clear hK hc hY; refine callsIn_of_wp Tryz.func180 rfl trivial ?_ rfl; simp only [Tryz.ntmps180, List.size_toArray, List.length_cons, List.length_nil, Nat.reduceAdd, Nat.reduceSub, Array.replicate_succ, Array.replicate_zero, List.push_toArray, List.append_toArray, List.nil_append, List.cons_append]; gi_wp2
 gi_loopw [3] (fun p wr => ∃ (pre : List (Piece ao cap bs B off)) (o M : Nat) (r : Bs), RestAt ao cap bs B off p o M r /\ pre.map (fun x => x.t) ++ chunksL r = chunksL bs /\ J pre wr)
  (fun p wr => chunkLen p)
 case atStart =>
  exact ⟨[], 0, K, bs, ⟨⟨_, _, rfl, by rw [HK.out]; exact hle, fun W h => h⟩, HK.out, by rw [HK.out]; exact Nat.le_refl _⟩, rfl, h0⟩
 case round =>
  obtain ⟨pre, o, M, r, ⟨⟨a, c, rfl, hMc, hsrc⟩, hM, hMA⟩, hpre, hJs⟩ := hrel; by_cases h64 : 64 < M
  ·have g1 : (M : Int) > 64 := by omega
   have s2 : ∀ W, SrcAt W ao cap bs B off -> SrcAt W (Option.map (fun x => { block := x.block, off := x.off + 64 }) a) (c - 64) (r.drop 64) B (off + o + 64) := fun W h => (hsrc W h).past 64 (by omega)
   have hch := chunks_long (b := r) (by omega)
   have hlen : pre.length < (chunksL bs).length := by rw [<- hpre, hch]; simp
   have ht64 : (r.take 64).length = 64 := by rw [List.length_take]; omega
   obtain ⟨x, hx⟩ : ∃ x : Piece ao cap bs B off, x = ⟨a, c, o, r.take 64, fun W h => (hsrc W h).upto 64 (by omega), by omega⟩ := ⟨_, rfl⟩
   have hxv : x.val = .slice a 64 c := by rw [hx]; show Value.slice a (r.take 64).length c = _; rw [ht64]
   have hxt : x.t = r.take 64 := by rw [hx]
   have hn2 : pre.map (fun x => x.t) ++ [x.t] ++ chunksL (r.drop 64) = chunksL bs := by rw [<- hpre, hch, hxt]; simp
   obtain ⟨fn, tmps, assign, body, hy, hR⟩ := HY.out pre x wr hJs hlen; rw [hxv] at hy; have hM2 : M - 64 = (r.drop 64).length := by rw [List.length_drop, <- hM]
   have HS := h_ s2; have HN := h_ hn2; have HM2 := h_ hM2; clear s2 hsrc hn2 hM2 hM hch hpre hx hxt hxv ht64 HY; gi_wp2
   refine hR.mono ?_; rintro e W3 (⟨rfl, hJ3, hk3⟩ | ⟨rfl, hJx3⟩)
   ·gi_wp2
    go_roundw
    case rel => exact ⟨pre ++ [x], o + 64, M - 64, r.drop 64, ⟨⟨_, _, rfl, by omega, fun W h => by have := HS.out W h; rwa [Nat.add_assoc] at this⟩, HM2.out, by omega⟩, by rw [List.map_append]; exact HN.out, hJ3⟩
    case measure => simp [chunkLen]; omega
   ·gi_wp2
    refine bodyPost_ret (results_none rfl _ _ _) rfl ?_; exact ⟨⟨_, rfl⟩, .inr ⟨pre ++ [x], ⟨chunksL (r.drop 64), by rw [List.map_append]; exact HN.out⟩, hJx3⟩⟩
  ·have g1 : ¬ (M : Int) > 64 := by omega
   have hch := chunks_short (b := r) (by omega)
   have hlen : pre.length < (chunksL bs).length := by rw [<- hpre, hch]; simp
   obtain ⟨x, hx⟩ : ∃ x : Piece ao cap bs B off, x = ⟨a, c, o, r, hsrc, by omega⟩ := ⟨_, rfl⟩
   have hxv : x.val = .slice a M c := by rw [hx]; show Value.slice a r.length c = _; rw [hM]
   have hn2 : pre.map (fun x => x.t) ++ [x.t] = chunksL bs := by rw [<- hpre, hch, hx]
   obtain ⟨fn, tmps, assign, body, hy, hR⟩ := HY.out pre x wr hJs hlen; rw [hxv] at hy; have HN := h_ hn2; clear hn2 hM hch hpre hx hxv HY hsrc; gi_wp2
   refine hR.mono ?_; rintro e W3 (⟨rfl, hJ3, hk3⟩ | ⟨rfl, hJx3⟩)
   ·gi_wp2
    go_end0
    exact ⟨⟨_, rfl⟩, .inl ⟨pre ++ [x], by rw [List.map_append]; exact HN.out, hJ3⟩⟩
   ·gi_wp2
    go_end0
    exact ⟨⟨_, rfl⟩, .inr ⟨pre ++ [x], ⟨[], by rw [List.append_nil, List.map_append]; exact HN.out⟩, hJx3⟩⟩
theorem chunks_in (n : Nat) (a : Option Addr) (len cap : Nat) (w : World) :
  CallsIn Fence.wide n Tryz.prog 166 #[.slice a len cap] w fun e w' => e = .returned (.func (.func 180) #[] #[.pointer (some ⟨w.heap.size, 0, none⟩)]) /\ w' = w.alloc (.cells #[.slice a len cap] 29) := by
 refine callsIn_of_wp Tryz.func166 rfl trivial ?_ rfl; simp only [Tryz.ntmps166, List.size_toArray, List.length_cons, List.length_nil, Nat.reduceAdd, Nat.reduceSub, Array.replicate_succ, Array.replicate_zero, List.push_toArray, List.append_toArray, List.nil_append, List.cons_append]; gi_wp2
 go_ret; exact ⟨rfl, rfl⟩
end
end
end Go.Proofs.YtomgijcbekjlaaaGreat
