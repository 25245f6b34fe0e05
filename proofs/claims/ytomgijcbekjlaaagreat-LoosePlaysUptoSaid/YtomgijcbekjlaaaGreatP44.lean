/- What the proofs stand on: LpSw, LpCk, LoosePlays. -/
import Derived.Deep.CutBlock
import Derived.Test.YtomgijcbekjlaaaGreatP29
import Derived.Test.YtomgijcbekjlaaaGreatP31
import Derived.Test.YtomgijcbekjlaaaGreatP41
import Derived.Test.YtomgijcbekjlaaaGreatP16
import Derived.Test.YtomgijcbekjlaaaGreatP14
import Derived.Test.YtomgijcbekjlaaaGreatP42
import Derived.Test.YtomgijcbekjlaaaGreatP9
import Derived.Test.YtomgijcbekjlaaaGreatP43
import Derived.Test.YtomgijcbekjlaaaGreatPB0
import Derived.Test.YtomgijcbekjlaaaGreatPB1
set_option maxRecDepth 100000
set_option maxHeartbeats 40000000
namespace Go.Proofs.YtomgijcbekjlaaaGreat
section
open Go.RowKit
theorem src_two (w : World) : SrcAt (w.alloc (.cells (cells8 [2, 0]) 5)) (some ⟨w.heap.size, 0, none⟩) 2 [2, 0] w.heap.size 0 :=
 ⟨Nat.le_refl _, by decide, fun _ => rfl, (fun h => by cases h), fun _ => by simp, fun j hj => by
  rw [Nat.zero_add, cell_of_row _ _ _ _ _ _ (heap_alloc_new w _)]; have hj2 : j < 2 := hj; rcases (show j = 0 \/ j = 1 by omega) with rfl | rfl <;> rfl⟩
theorem and_7 (c : Int) : ∃ v : Nat, v <= 7 /\ bits BinOp.and IntKind.i64 c 7 = (v : Int) := and_mask c 7 (by omega)
theorem drop_good {S : St} (h : Good S) (id : Bs) : Good (dropL S id).2 := by
 unfold dropL; split
 ·split
  ·exact h.remove _
  ·exact h
 ·exact h
theorem drop_done (S : St) (id : Bs) : (dropL S id).2.done <= S.done + 1 := by
 unfold dropL; split
 ·split
  ·exact remove_done S _
  ·show S.done <= _; omega
 ·show S.done <= _; omega
theorem drop_cap (S : St) (id : Bs) : (dropL S id).2.cap = S.cap := by
 unfold dropL; split
 ·split
  ·exact remove_cap S _
  ·rfl
 ·rfl
def nextL (y : Int) (S : St) (id raw : Bs) (n : Int) : St := if y = 3 then S else if y = 4 then (dropL S id).2 else if y = 5 then (cutS S n).2 else if y = 6 then onS S else (putL S raw).2.2
theorem next_good (y : Int) {S : St} (h : Good S) (id raw : Bs) {n : Int} (hn : n <= 9223372036854775807) : Good (nextL y S id raw n) := by
 unfold nextL
 repeat' split
 ·exact h
 ·exact drop_good h id
 ·exact h.cut hn
 ·exact h.on
 ·exact put_good h
theorem next_cap (y : Int) (S : St) (id raw : Bs) (n : Int) : (nextL y S id raw n).cap = S.cap := by
 unfold nextL
 repeat' split
 ·rfl
 ·exact drop_cap S id
 ·exact cut_cap S n
 ·rfl
 ·exact put_cap S raw
theorem next_done (y : Int) (S : St) (id raw : Bs) (n : Int) : (nextL y S id raw n).done <= S.done + S.cap + 4 := by
 unfold nextL
 repeat' split
 ·omega
 ·have := drop_done S id; omega
 ·have := cut_done S n; omega
 ·show S.done <= _; omega
 ·exact put_done S raw
theorem ids_len32 {fs : Files} {id : Bs} (h : id ∈ idsL fs) : id.length = 32 := by
 unfold idsL at h; obtain ⟨⟨n, b⟩, _, hu⟩ := List.mem_filterMap.1 h; exact (name_unname hu).2
theorem TextsAt.onward {w w1 : World} {v : Value} {L : List OB} (h : TextsAt w (elder w) v L) (h1 : Below w.heap.size w w1) : TextsAt w1 (elder w1) v L := by
 obtain ⟨ao, cap, g, off, e, hs⟩ := h; exact ⟨ao, cap, g, off, e, (hs.turn (Turn.of_below (fun _ => False) h1) (fun _ _ h => h)).mono (fun k _ hk => by have := h1.size; have : k < w.heap.size := hk; show k < w1.heap.size; omega)⟩
theorem FilesAt.onward {w w1 : World} {v : Value} {L : Files} (h : FilesAt w (elder w) v L) (h1 : Below w.heap.size w w1) : FilesAt w1 (elder w1) v L :=
 (h.turn (Turn.of_below (fun _ => False) h1) (fun _ _ h => h)).mono (fun k _ hk => by have := h1.size; have : k < w.heap.size := hk; show k < w1.heap.size; omega)
theorem LopAt.parts {W : World} {F : Nat -> Prop} {g x : Nat} {z zi rn : Int} {ob : ObjR} {dv ev uv rv : Value} {rl idn : Bs} (h : LopAt W F g x ⟨z, zi, ⟨ob, dv, ev, uv⟩, rv, rl, idn, rn⟩) :
  (∀ j u, ([.int .i64 z, .int .i64 zi, .int .i64 ob.kind, dv, ev, .string (SL ob.tree), uv, .string (SL ob.target), .string (SL ob.name), .string (SL ob.who), .int .i64 ob.stamp, .string (SL ob.text), rv, .string (SL idn), .int .i64 rn] : List Value)[j]? = some u -> W.cell? ⟨g, x + j, none⟩ = some u) /\
  ObjIn W F ob dv ev uv /\ ObjFits ob /\ BytesAt W F rv rl /\ rl.length <= 1048576 /\ idn.length <= 1048576 /\ (-9223372036854775808 <= zi /\ zi <= 9223372036854775807) /\ (-9223372036854775808 <= rn /\ rn <= 9223372036854775807) :=
 ⟨h.cell, h.holds, h.fits, h.bytes, h.ll, h.lid, h.li, h.ln⟩
def findBlock (n : Nat) : Code -> Option Code
 | .block m c => if m = n then some (.block m c) else findBlock n c
 | .loop c => findBlock n c
 | .scope c => findBlock n c
 | .seq a b => match findBlock n a with
  | some c => some c
  | none => findBlock n b
 | .cond _ a b => match findBlock n a with
  | some c => some c
  | none => findBlock n b
 | _ => none
noncomputable def switchCode : Code := ((Tryz.f3.body.bind (findBlock 2)).getD .skip)
theorem plays_switch {s0 s1 s2 s3 s4 s5 s6 s7 s10 s13 s15 s17 s18 s19 s20 s21 s22 s23 s24 s25 s26 s27 s28 s29 s30 s31 s32 s33 s34 s35 s36 s37 s38 s39 s40 s41 s42 s43 s44 s45 s46 s47 s48 s49 s50 s51 s52 s53 s54 s55 s56 s57 s58 s59 s60 s61 s62 s63 s64 s65 s66 s67 s68 s69 s70 s71 s72 s73 s74 s75 s76 s77 s78 s79 s80 s81 s82 s83 s84 s85 s86 s87 s88 s89 s90 s91 s93 s94 s95 s96 s97 s98 s99 s100 s101 s102 s103 s104 s105 s106 s107 s108 s109 s110 s111 s112 s113 s114 s115 s116 s117 s118 s119 s120 s121 s122 s123 s124 s125 s126 s127 s128 s129 s130 s131 s132 s133 s134 s135 s136 s137 s138 s139 s140 s141 s142 s143 s144 s145 s146 s147 s148 s149 s150 s151 s152 s153 s154 s155 s156 s157 s158 s159 s160 s161 s162 s163 s164 s165 s166 s167 s168 s169 s170 s171 s172 s173 s174 s175 s176 s177 s178 s179 s180 s181 s182 s183 s184 s185 s186 s187 s188 s189 s190 s191 s192 s193 s194 s195 s196 s197 s198 s199 s200 s201 s202 s203 s204 s205 s206 s207 s208 s209 s210 s211 s212 s213 s214 s215 s216 s217 s218 s219 s220 s221 s222 s223 s224 s225 s226 : Value} {y nv cv x p q : Nat} {av : Option Addr} {idq raw : Bs} {S R : St} {rn : Int} {Z3 : Nat -> Prop} {wd : World} {CO : Array Value} {Q : Exit -> Act -> World -> Prop}
  (HCA : Hid ((y = 3 /\ R = S) \/ (y = 4 /\ R = (dropL S idq).2) \/ (y = 5 /\ R = (cutS S rn).2) \/ (y = 6 /\ R = onS S) \/ ((¬ (y : Int) = 3 /\ ¬ (y : Int) = 4 /\ ¬ (y : Int) = 5 /\ ¬ (y : Int) = 6) /\ R = (putL S raw).2.2)))
  (DU : Hid (Duet wd Z3 p q S S wd)) (HG : Hid (Good S)) (HDB : Hid (S.done <= 41944000 /\ S.cap <= 1048575)) (HIL : Hid (idq.length <= 35184372088832)) (HRL : Hid (raw.length <= 1100000)) (HRB : Hid (BytesAt wd Z3 (.slice av nv cv) raw)) (HNN : Hid (-9223372036854775808 <= rn /\ rn <= 9223372036854775807))
  (HX : Hid (Z3 x)) (HXD : Hid (wd.heap[x]? = some (.cells CO 35 (0, 0)))) (H14 : Hid (CO[14]? = some (.int .i64 rn)))
  (hQ : ∀ (t16 t17 t18 t19 t20 t21 t22 t23 t24 t93 t94 t95 t96 t97 t98 t99 t100 t101 t102 t103 t104 t105 t106 t107 t108 t109 t110 t111 t112 t113 t114 t115 t116 t117 t118 t119 t120 t121 t122 t123 t124 t125 t126 t127 t128 t129 t130 t131 t132 t133 t134 t135 t136 t137 t138 t139 t140 t141 t142 t143 t144 t145 t146 t147 t148 t149 t150 t151 t152 t153 t154 t155 t156 t157 t158 t159 t160 t161 t162 : Value) (wx : World), t16 = .bool true -> Duet wd Z3 p q R R wx -> Q .normal ⟨(s0 :: s1 :: s2 :: s3 :: s4 :: s5 :: s6 :: s7 :: ptr p :: ptr q :: s10 :: .pointer (some ⟨x, 0, none⟩) :: .string (SL idq) :: s13 :: .slice av nv cv :: s15 :: t16 :: t17 :: t18 :: t19 :: t20 :: t21 :: t22 :: t23 :: t24 :: s25 :: s26 :: s27 :: s28 :: s29 :: s30 :: s31 :: s32 :: s33 :: s34 :: s35 :: s36 :: s37 :: s38 :: s39 :: s40 :: s41 :: s42 :: s43 :: s44 :: s45 :: s46 :: s47 :: s48 :: s49 :: s50 :: s51 :: s52 :: s53 :: s54 :: s55 :: s56 :: s57 :: s58 :: s59 :: s60 :: s61 :: s62 :: s63 :: s64 :: s65 :: s66 :: s67 :: s68 :: s69 :: s70 :: s71 :: s72 :: s73 :: s74 :: s75 :: s76 :: s77 :: s78 :: s79 :: s80 :: s81 :: s82 :: s83 :: s84 :: s85 :: s86 :: s87 :: s88 :: s89 :: s90 :: s91 :: .int .i64 (y : Int) :: t93 :: t94 :: t95 :: t96 :: t97 :: t98 :: t99 :: t100 :: t101 :: t102 :: t103 :: t104 :: t105 :: t106 :: t107 :: t108 :: t109 :: t110 :: t111 :: t112 :: t113 :: t114 :: t115 :: t116 :: t117 :: t118 :: t119 :: t120 :: t121 :: t122 :: t123 :: t124 :: t125 :: t126 :: t127 :: t128 :: t129 :: t130 :: t131 :: t132 :: t133 :: t134 :: t135 :: t136 :: t137 :: t138 :: t139 :: t140 :: t141 :: t142 :: t143 :: t144 :: t145 :: t146 :: t147 :: t148 :: t149 :: t150 :: t151 :: t152 :: t153 :: t154 :: t155 :: t156 :: t157 :: t158 :: t159 :: t160 :: t161 :: t162 :: s163 :: s164 :: s165 :: s166 :: s167 :: s168 :: s169 :: s170 :: s171 :: s172 :: s173 :: s174 :: s175 :: s176 :: s177 :: s178 :: s179 :: s180 :: s181 :: s182 :: s183 :: s184 :: s185 :: s186 :: s187 :: s188 :: s189 :: s190 :: s191 :: s192 :: s193 :: s194 :: s195 :: s196 :: s197 :: s198 :: s199 :: s200 :: s201 :: s202 :: s203 :: s204 :: s205 :: s206 :: s207 :: s208 :: s209 :: s210 :: s211 :: s212 :: s213 :: s214 :: s215 :: s216 :: s217 :: s218 :: s219 :: s220 :: s221 :: s222 :: s223 :: s224 :: s225 :: s226 :: []).toArray, []⟩ wx) :
  Code.wp Tryz.prog switchCode Q ⟨(s0 :: s1 :: s2 :: s3 :: s4 :: s5 :: s6 :: s7 :: ptr p :: ptr q :: s10 :: .pointer (some ⟨x, 0, none⟩) :: .string (SL idq) :: s13 :: .slice av nv cv :: s15 :: .bool true :: s17 :: s18 :: s19 :: s20 :: s21 :: s22 :: s23 :: s24 :: s25 :: s26 :: s27 :: s28 :: s29 :: s30 :: s31 :: s32 :: s33 :: s34 :: s35 :: s36 :: s37 :: s38 :: s39 :: s40 :: s41 :: s42 :: s43 :: s44 :: s45 :: s46 :: s47 :: s48 :: s49 :: s50 :: s51 :: s52 :: s53 :: s54 :: s55 :: s56 :: s57 :: s58 :: s59 :: s60 :: s61 :: s62 :: s63 :: s64 :: s65 :: s66 :: s67 :: s68 :: s69 :: s70 :: s71 :: s72 :: s73 :: s74 :: s75 :: s76 :: s77 :: s78 :: s79 :: s80 :: s81 :: s82 :: s83 :: s84 :: s85 :: s86 :: s87 :: s88 :: s89 :: s90 :: s91 :: .int .i64 (y : Int) :: s93 :: s94 :: s95 :: s96 :: s97 :: s98 :: s99 :: s100 :: s101 :: s102 :: s103 :: s104 :: s105 :: s106 :: s107 :: s108 :: s109 :: s110 :: s111 :: s112 :: s113 :: s114 :: s115 :: s116 :: s117 :: s118 :: s119 :: s120 :: s121 :: s122 :: s123 :: s124 :: s125 :: s126 :: s127 :: s128 :: s129 :: s130 :: s131 :: s132 :: s133 :: s134 :: s135 :: s136 :: s137 :: s138 :: s139 :: s140 :: s141 :: s142 :: s143 :: s144 :: s145 :: s146 :: s147 :: s148 :: s149 :: s150 :: s151 :: s152 :: s153 :: s154 :: s155 :: s156 :: s157 :: s158 :: s159 :: s160 :: s161 :: s162 :: s163 :: s164 :: s165 :: s166 :: s167 :: s168 :: s169 :: s170 :: s171 :: s172 :: s173 :: s174 :: s175 :: s176 :: s177 :: s178 :: s179 :: s180 :: s181 :: s182 :: s183 :: s184 :: s185 :: s186 :: s187 :: s188 :: s189 :: s190 :: s191 :: s192 :: s193 :: s194 :: s195 :: s196 :: s197 :: s198 :: s199 :: s200 :: s201 :: s202 :: s203 :: s204 :: s205 :: s206 :: s207 :: s208 :: s209 :: s210 :: s211 :: s212 :: s213 :: s214 :: s215 :: s216 :: s217 :: s218 :: s219 :: s220 :: s221 :: s222 :: s223 :: s224 :: s225 :: s226 :: []).toArray, []⟩ wd := by
 have e14 : wd.cell? ⟨x, 14, none⟩ = some (.int .i64 rn) := by
  simp [World.cell?, HXD.out, H14.out]
 conv => arg 2; whnf
 rcases HCA.out with ⟨rfl, hR⟩ | ⟨rfl, hR⟩ | ⟨rfl, hR⟩ | ⟨rfl, hR⟩ | ⟨⟨q3, q4, q5, q6⟩, hR⟩
 case inl =>
  have hg1 := DU.out.dGet HG.out loose_spec idq HIL.out; obtain ⟨gr, hgr⟩ := nm_ (getL S.fs idq); obtain ⟨nl, hnl⟩ := nm_ (gr.2.length); have hg2 := fun (W : World) (h : Duet wd Z3 p q S S W) => h.rGet HG.out idq HIL.out
  rw [<- hgr] at hg1 hg2; have HG1 := h_ hg1; have HG2 := h_ hg2; have HNL := h_ hnl; have HRS := h_ hR; clear hg1 hg2 hgr hnl hR; go_wp2_with fail; refine HG1.out.mono ?_; rintro e w4 ⟨a6, c6, B6, o6, rfl, s6, _, b6⟩; have H4 := h_ (DU.out.below b6); have S6 := h_ s6; rw [<- HNL.out]; clear b6 s6; go_wp2_with fail; refine (HG2.out w4 H4.out).mono ?_; rintro e w5 ⟨a7, c7, B7, o7, rfl, s7, b7⟩; have H5 := h_ (H4.out.below b7); have cv6 := convert_src (S6.out.below b7); have cv7 := convert_src s7; rw [<- HNL.out] at cv6 cv7 |-; clear b7 s7; go_wp2_with fail; exact hQ _ _ _ _ _ _ _ _ _ _ _ _ _ _ _ _ _ _ _ _ _ _ _ _ _ _ _ _ _ _ _ _ _ _ _ _ _ _ _ _ _ _ _ _ _ _ _ _ _ _ _ _ _ _ _ _ _ _ _ _ _ _ _ _ _ _ _ _ _ _ _ _ _ _ _ _ _ _ _ _ rfl (by rw [HRS.out]; exact H5.out)
 case inr.inl =>
  have hd1 := DU.out.dDrop HG.out (by have := HDB.out; omega) loose_spec idq HIL.out
  have hd2 := fun (W : World) (h : Duet wd Z3 p q (dropL S idq).2 S W) => h.rDrop HG.out (by have := HDB.out; omega) idq HIL.out
  obtain ⟨dr, hdr⟩ := nm_ (dropL S idq); rw [<- hdr] at hd1 hd2 hR; obtain ⟨zd, hzd⟩ := nm_ (dr.1); rw [<- hzd] at hd1 hd2; have HD1 := h_ hd1; have HD2 := h_ hd2; have HRS := h_ hR; clear hd1 hd2 hdr hzd hR; go_wp2_with fail; refine HD1.out.mono ?_; rintro e w4 ⟨rfl, h4⟩; have H4 := h_ h4; clear h4; go_wp2_with fail; refine (HD2.out w4 H4.out).mono ?_; rintro e w5 ⟨rfl, h5⟩; have H5 := h_ h5; clear h5; go_wp2_with fail; exact hQ _ _ _ _ _ _ _ _ _ _ _ _ _ _ _ _ _ _ _ _ _ _ _ _ _ _ _ _ _ _ _ _ _ _ _ _ _ _ _ _ _ _ _ _ _ _ _ _ _ _ _ _ _ _ _ _ _ _ _ _ _ _ _ _ _ _ _ _ _ _ _ _ _ _ _ _ _ _ _ _ rfl (by rw [HRS.out]; exact H5.out)
 case inr.inr.inl =>
  have hc1 := fun (W : World) (h : Duet wd Z3 p q S S W) => h.dCut rn HNN.out.2
  have hc2 := fun (W : World) (h : Duet wd Z3 p q (cutS S rn).2 S W) => h.rCut rn
  obtain ⟨dr, hdr⟩ := nm_ (cutS S rn); rw [<- hdr] at hc2 hR; simp only [<- hdr] at hc1 hc2; obtain ⟨zd, hzd⟩ := nm_ (dr.1); simp only [<- hzd] at hc1 hc2; have hkeep : ∀ (T U : St) (W : World), Duet wd Z3 p q T U W -> W.cell? ⟨x, 14, none⟩ = some (.int .i64 rn) := fun T U W h =>
   by
    have hb := h.block HXD.out HX.out; simp [World.cell?, hb, H14.out]
  have HC1 := h_ hc1; have HC2 := h_ hc2; have KP := h_ hkeep; have HRS := h_ hR; have D0 := h_ (DU.out.below (Below.refl wd.heap.size wd).drew); clear hc1 hc2 hdr hzd hR hkeep; go_upto_region 26 with fail
  first
  | go_region_held3 (fun W => W.cell? ⟨x, 14, none⟩ = some (.int .i64 rn)) (first | exact KP.out _ _ _ D2.out | exact KP.out _ _ _ D1.out | exact KP.out _ _ _ D0.out)
   ((first
    | (go_at_call 16; refine (HC1.out _ D0.out).mono ?_; rintro e w4 ⟨rfl, h4⟩; have D1 := h_ h4; clear h4)
    | (go_at_call 17; refine (HC2.out _ D1.out).mono ?_; rintro e w5 ⟨rfl, h5⟩; have D2 := h_ h5; clear h5)))
  | fail "held3"
  all_goals go_wp2
  all_goals       all_goals exact hQ _ _ _ _ _ _ _ _ _ _ _ _ _ _ _ _ _ _ _ _ _ _ _ _ _ _ _ _ _ _ _ _ _ _ _ _ _ _ _ _ _ _ _ _ _ _ _ _ _ _ _ _ _ _ _ _ _ _ _ _ _ _ _ _ _ _ _ _ _ _ _ _ _ _ _ _ _ _ _ _ rfl (by rw [HRS.out]; exact D2.out)
 case inr.inr.inr.inl =>
  have hc1 := DU.out.dOn; have hc2 := fun (W : World) (h : Duet wd Z3 p q (onS S) S W) => h.rOn
  rw [<- hR] at hc1 hc2; have HC1 := h_ hc1; have HC2 := h_ hc2; clear hc1 hc2 hR; go_wp2_with fail; refine HC1.out.mono ?_; rintro e w4 ⟨rfl, h4⟩; have H4 := h_ h4; clear h4; go_wp2_with fail; refine (HC2.out w4 H4.out).mono ?_; rintro e w5 ⟨rfl, h5⟩; have H5 := h_ h5; clear h5; go_wp2_with fail; exact hQ _ _ _ _ _ _ _ _ _ _ _ _ _ _ _ _ _ _ _ _ _ _ _ _ _ _ _ _ _ _ _ _ _ _ _ _ _ _ _ _ _ _ _ _ _ _ _ _ _ _ _ _ _ _ _ _ _ _ _ _ _ _ _ _ _ _ _ _ _ _ _ _ _ _ _ _ _ _ _ _ rfl H5.out
 case inr.inr.inr.inr =>
  have hp1 := DU.out.dPut HG.out (by have := HDB.out; omega) loose_spec _ raw HRB.out (by have := HRL.out; omega)
  have hp2 := fun (W : World) (h : Duet wd Z3 p q (putL S raw).2.2 S W) => h.rPut HG.out (by have := HDB.out; omega) _ raw HRB.out (by have := HRL.out; omega)
  obtain ⟨pr, hpr⟩ := nm_ (putL S raw); rw [<- hpr] at hp1 hp2 hR; obtain ⟨zd, hzd⟩ := nm_ (pr.1); obtain ⟨tp, htp⟩ := nm_ (pr.2.1); rw [<- hzd, <- htp] at hp1 hp2; have HP1 := h_ hp1; have HP2 := h_ hp2; have HRS := h_ hR; clear hp1 hp2 hpr hzd htp hR; go_wp2_with fail; refine HP1.out.mono ?_; rintro e w4 ⟨rfl, h4⟩; have H4 := h_ h4; clear h4; go_wp2_with fail; refine (HP2.out w4 H4.out).mono ?_; rintro e w5 ⟨rfl, h5⟩; have H5 := h_ h5; clear h5; go_wp2_with fail; exact hQ _ _ _ _ _ _ _ _ _ _ _ _ _ _ _ _ _ _ _ _ _ _ _ _ _ _ _ _ _ _ _ _ _ _ _ _ _ _ _ _ _ _ _ _ _ _ _ _ _ _ _ _ _ _ _ _ _ _ _ _ _ _ _ _ _ _ _ _ _ _ _ _ _ _ _ _ _ _ _ _ rfl (by rw [HRS.out]; exact H5.out)
end
section
open Go.RowKit
def findRegion (n : Nat) : Code -> Option Code
 | .region m a b => if m = n then some (.region m a b) else none
 | .block _ c => findRegion n c
 | .loop c => findRegion n c
 | .scope c => findRegion n c
 | .seq a b => match findRegion n a with
  | some c => some c
  | none => findRegion n b
 | .cond _ a b => match findRegion n a with
  | some c => some c
  | none => findRegion n b
 | _ => none
noncomputable def checkCode : Code := ((Tryz.f3.body.bind (findRegion 30)).getD .skip)
theorem plays_check {s0 s1 s2 s3 s4 s5 s6 s7 s10 s11 s13 s14 s15 s17 s18 s19 s20 s21 s22 s23 s24 s25 s26 s27 s28 s29 s30 s31 s32 s33 s34 s35 s36 s37 s38 s39 s40 s41 s42 s43 s44 s45 s46 s47 s48 s49 s50 s51 s52 s53 s54 s55 s56 s57 s58 s59 s60 s61 s62 s63 s64 s65 s66 s67 s68 s69 s70 s71 s72 s73 s74 s75 s76 s77 s78 s79 s80 s81 s82 s83 s84 s85 s86 s87 s88 s89 s90 s91 s92 s93 s94 s95 s96 s97 s98 s99 s100 s101 s102 s103 s104 s105 s106 s107 s108 s109 s110 s111 s112 s113 s114 s115 s116 s117 s118 s119 s120 s121 s122 s123 s124 s125 s126 s127 s128 s129 s130 s131 s132 s133 s134 s135 s136 s137 s138 s139 s140 s141 s142 s143 s144 s145 s146 s147 s148 s149 s150 s151 s152 s153 s154 s155 s156 s157 s158 s159 s160 s161 s162 s163 s164 s165 s166 s167 s168 s169 s170 s171 s172 s173 s174 s175 s176 s177 s178 s179 s180 s181 s182 s183 s184 s185 s186 s187 s188 s189 s190 s191 s192 s193 s194 s195 s196 s197 s198 s199 s200 s201 s202 s203 s204 s205 s206 s207 s208 s209 s210 s211 s212 s213 s214 s215 s216 s217 s218 s219 s220 s221 s222 s223 s224 s225 s226 : Value} {p q : Nat} {idq : Bs} {R : St} {Z3 : Nat -> Prop} {wd wc : World} {Q : Exit -> Act -> World -> Prop}
  (H5 : Hid (Duet wd Z3 p q R R wc)) (HGR : Hid (Good R)) (HIL : Hid (idq.length <= 35184372088832))
  (hQ : ∀ (t163 t164 t165 t166 t167 t168 t169 t170 t171 t172 t173 t174 t175 t176 t177 t178 t179 t180 t181 t182 t183 t184 t185 t186 t187 t188 t189 t190 t191 t192 t193 t194 t195 t196 t197 : Value) (wx : World), t197 = .bool false -> Below wc.heap.size wc wx -> Q .normal ⟨(s0 :: s1 :: s2 :: s3 :: s4 :: s5 :: s6 :: s7 :: ptr p :: ptr q :: s10 :: s11 :: .string (SL idq) :: s13 :: s14 :: s15 :: .bool true :: s17 :: s18 :: s19 :: s20 :: s21 :: s22 :: s23 :: s24 :: s25 :: s26 :: s27 :: s28 :: s29 :: s30 :: s31 :: s32 :: s33 :: s34 :: s35 :: s36 :: s37 :: s38 :: s39 :: s40 :: s41 :: s42 :: s43 :: s44 :: s45 :: s46 :: s47 :: s48 :: s49 :: s50 :: s51 :: s52 :: s53 :: s54 :: s55 :: s56 :: s57 :: s58 :: s59 :: s60 :: s61 :: s62 :: s63 :: s64 :: s65 :: s66 :: s67 :: s68 :: s69 :: s70 :: s71 :: s72 :: s73 :: s74 :: s75 :: s76 :: s77 :: s78 :: s79 :: s80 :: s81 :: s82 :: s83 :: s84 :: s85 :: s86 :: s87 :: s88 :: s89 :: s90 :: s91 :: s92 :: s93 :: s94 :: s95 :: s96 :: s97 :: s98 :: s99 :: s100 :: s101 :: s102 :: s103 :: s104 :: s105 :: s106 :: s107 :: s108 :: s109 :: s110 :: s111 :: s112 :: s113 :: s114 :: s115 :: s116 :: s117 :: s118 :: s119 :: s120 :: s121 :: s122 :: s123 :: s124 :: s125 :: s126 :: s127 :: s128 :: s129 :: s130 :: s131 :: s132 :: s133 :: s134 :: s135 :: s136 :: s137 :: s138 :: s139 :: s140 :: s141 :: s142 :: s143 :: s144 :: s145 :: s146 :: s147 :: s148 :: s149 :: s150 :: s151 :: s152 :: s153 :: s154 :: s155 :: s156 :: s157 :: s158 :: s159 :: s160 :: s161 :: s162 :: t163 :: t164 :: t165 :: t166 :: t167 :: t168 :: t169 :: t170 :: t171 :: t172 :: t173 :: t174 :: t175 :: t176 :: t177 :: t178 :: t179 :: t180 :: t181 :: t182 :: t183 :: t184 :: t185 :: t186 :: t187 :: t188 :: t189 :: t190 :: t191 :: t192 :: t193 :: t194 :: t195 :: t196 :: t197 :: s198 :: s199 :: s200 :: s201 :: s202 :: s203 :: s204 :: s205 :: s206 :: s207 :: s208 :: s209 :: s210 :: s211 :: s212 :: s213 :: s214 :: s215 :: s216 :: s217 :: s218 :: s219 :: s220 :: s221 :: s222 :: s223 :: s224 :: s225 :: s226 :: []).toArray, []⟩ wx) :
  Code.wp Tryz.prog checkCode Q ⟨(s0 :: s1 :: s2 :: s3 :: s4 :: s5 :: s6 :: s7 :: ptr p :: ptr q :: s10 :: s11 :: .string (SL idq) :: s13 :: s14 :: s15 :: .bool true :: s17 :: s18 :: s19 :: s20 :: s21 :: s22 :: s23 :: s24 :: s25 :: s26 :: s27 :: s28 :: s29 :: s30 :: s31 :: s32 :: s33 :: s34 :: s35 :: s36 :: s37 :: s38 :: s39 :: s40 :: s41 :: s42 :: s43 :: s44 :: s45 :: s46 :: s47 :: s48 :: s49 :: s50 :: s51 :: s52 :: s53 :: s54 :: s55 :: s56 :: s57 :: s58 :: s59 :: s60 :: s61 :: s62 :: s63 :: s64 :: s65 :: s66 :: s67 :: s68 :: s69 :: s70 :: s71 :: s72 :: s73 :: s74 :: s75 :: s76 :: s77 :: s78 :: s79 :: s80 :: s81 :: s82 :: s83 :: s84 :: s85 :: s86 :: s87 :: s88 :: s89 :: s90 :: s91 :: s92 :: s93 :: s94 :: s95 :: s96 :: s97 :: s98 :: s99 :: s100 :: s101 :: s102 :: s103 :: s104 :: s105 :: s106 :: s107 :: s108 :: s109 :: s110 :: s111 :: s112 :: s113 :: s114 :: s115 :: s116 :: s117 :: s118 :: s119 :: s120 :: s121 :: s122 :: s123 :: s124 :: s125 :: s126 :: s127 :: s128 :: s129 :: s130 :: s131 :: s132 :: s133 :: s134 :: s135 :: s136 :: s137 :: s138 :: s139 :: s140 :: s141 :: s142 :: s143 :: s144 :: s145 :: s146 :: s147 :: s148 :: s149 :: s150 :: s151 :: s152 :: s153 :: s154 :: s155 :: s156 :: s157 :: s158 :: s159 :: s160 :: s161 :: s162 :: s163 :: s164 :: s165 :: s166 :: s167 :: s168 :: s169 :: s170 :: s171 :: s172 :: s173 :: s174 :: s175 :: s176 :: s177 :: s178 :: s179 :: s180 :: s181 :: s182 :: s183 :: s184 :: s185 :: s186 :: s187 :: s188 :: s189 :: s190 :: s191 :: s192 :: s193 :: s194 :: s195 :: s196 :: s197 :: s198 :: s199 :: s200 :: s201 :: s202 :: s203 :: s204 :: s205 :: s206 :: s207 :: s208 :: s209 :: s210 :: s211 :: s212 :: s213 :: s214 :: s215 :: s216 :: s217 :: s218 :: s219 :: s220 :: s221 :: s222 :: s223 :: s224 :: s225 :: s226 :: []).toArray, []⟩ wc := by
 obtain ⟨LF, hLF⟩ := nm_ (R.fs); obtain ⟨LN, hLN⟩ := nm_ (idsL R.fs); obtain ⟨nd, hnn⟩ := nm_ (R.done); have hLFl : LF.length <= 4000000000000 := by rw [hLF]; have := HGR.out.many; omega
 have hLNl : LN.length <= 4000000000000 := by
  have h2 : (idsL R.fs).length <= R.fs.length := List.length_filterMap_le _ _
  have := HGR.out.many
  rw [hLN]; omega
 have HOPS := h_ (fun (W : World) (hb : Below wc.heap.size wc W) => (show Calls Tryz.prog 22 #[ptr p] W fun e w' => e = .returned (.int .i64 (nd : Int)) /\ w' = W from by rw [hnn]; exact (H5.out.below hb).dOps))
 have HDI := h_ (fun (W : World) (hb : Below wc.heap.size wc W) => (show Calls Tryz.prog 24 #[ptr p] W fun e w' => ∃ v, e = .returned v /\ TextsAt w' (elder w') v LN /\ Below W.heap.size W w' from by
  refine ((H5.out.below hb).dIds HGR.out loose_spec).mono ?_; rintro e w' ⟨v, he, hT, hb'⟩; exact ⟨v, he, by rw [hLN]; exact texts_own hT, hb'⟩))
 have HRI := h_ (fun (W : World) (hb : Below wc.heap.size wc W) => (show Calls Tryz.prog 10 #[ptr q] W fun e w' => ∃ v, e = .returned v /\ TextsAt w' (elder w') v LN /\ Below W.heap.size W w' from by
  refine ((H5.out.below hb).rIds HGR.out).mono ?_; rintro e w' ⟨v, he, hT, hb'⟩; exact ⟨v, he, by rw [hLN]; exact texts_own hT, hb'⟩))
 have HST := h_ (fun (W : World) (a b : Value) (ha : TextsAt W (elder W) a LN) (hb : TextsAt W (elder W) b LN) => (show Calls Tryz.prog 23 #[a, b] W fun e w' => e = .returned (.bool true) /\ Below W.heap.size W w' from by
  refine (refSameTexts_any _ _ a b LN LN W ha hb (by omega)).mono ?_
  rintro e w' ⟨he, m, rfl⟩; exact ⟨by rw [he]; simp, below_drewN (Below.refl _ _) m⟩))
 have HDD := h_ (fun (W : World) (hb : Below wc.heap.size wc W) => (show Calls Tryz.prog 27 #[ptr p] W fun e w' => ∃ v, e = .returned v /\ FilesAt w' (elder w') v LF /\ Below W.heap.size W w' from by rw [hLF]; exact (H5.out.below hb).dDump HGR.out))
 have HTH := h_ (fun (W : World) (v : Value) (hv : FilesAt W (elder W) v LF) => (show Calls Tryz.prog 26 #[v] W fun e w' => ∃ v, e = .returned v /\ FilesAt w' (elder w') v LF /\ Below W.heap.size W w' from by
  refine (theirs_any _ v LF W hv (fun _ h => h) hLFl).mono ?_
  rintro e w' ⟨v, he, hF, hb'⟩; exact ⟨v, he, hF.mono (fun k hk _ => hk), hb'⟩))
 have HRD := h_ (fun (W : World) (hb : Below wc.heap.size wc W) => (show Calls Tryz.prog 28 #[ptr q] W fun e w' => ∃ v, e = .returned v /\ FilesAt w' (elder w') v LF /\ Below W.heap.size W w' from by rw [hLF]; exact (H5.out.below hb).rDump HGR.out))
 have HSF := h_ (fun (W : World) (a c : Value) (ha : FilesAt W (elder W) a LF) (hc : FilesAt W (elder W) c LF) => (show Calls Tryz.prog 25 #[a, c] W fun e w' => e = .returned (.bool true) /\ Below W.heap.size W w' from by
  refine (sameFiles_any _ _ a c LF LF W ha hc (by omega)).mono ?_
  rintro e w' ⟨he, hb'⟩; exact ⟨by rw [he]; simp, hb'⟩))
 have HNA := h_ (fun (W : World) => looseName_any idq W HIL.out)
 have HNR := h_ (fun (W : World) => refName_any idq W HIL.out)
 have q2 : wc.cell? ⟨q, 2, none⟩ = some (.int .i64 (nd : Int)) := by rw [hnn]; exact H5.out.rDone
 have hqw : q < wc.heap.size := World.block_lt_of_cell? wc _ q2; have KEEP := h_ (fun (W : World) (hb : Below wc.heap.size wc W) => (show W.cell? ⟨q, 2, none⟩ = some (.int .i64 (nd : Int)) from (hb.cell (p := ⟨q, 2, none⟩) hqw).trans q2))
 have B := h_ ((Below.refl wc.heap.size wc).drew); clear hLF hLN hnn hLFl hLNl q2 hqw H5; conv => arg 2; whnf
 first
 | go_region_held3 (fun W => W.cell? ⟨q, 2, none⟩ = some (.int .i64 (nd : Int))) (first | exact KEEP.out _ B.out)
  ((first
   | (go_at_call 22; refine (HOPS.out _ B.out).mono ?_; rintro e _ ⟨rfl, rfl⟩)
   | (go_at_call 24; refine (HDI.out _ B.out).mono ?_; rintro e wx ⟨vi, rfl, ti, bi⟩; have B := h_ (B.out.trans (bi.mono B.out.size)); have VI := h_ ti; clear ti bi)
   | (go_at_call 10; refine (HRI.out _ B.out).mono ?_; rintro e wx ⟨vj, rfl, tj, bj⟩; have B := h_ (B.out.trans (bj.mono B.out.size)); have VJ := h_ tj; have VI := h_ (VI.out.onward bj); clear tj bj)
   | (go_at_call 23; refine (HST.out _ vi vj VI.out VJ.out).mono ?_; rintro e wx ⟨rfl, bs⟩; have B := h_ (B.out.trans (bs.mono B.out.size)); clear bs)
   | (go_at_call 27; refine (HDD.out _ B.out).mono ?_; rintro e wx ⟨vd, rfl, gd, bd⟩; have B := h_ (B.out.trans (bd.mono B.out.size)); have V := h_ gd; clear gd bd)
   | (go_at_call 26; refine (HTH.out _ vd V.out).mono ?_; rintro e wx ⟨vt, rfl, gt, bt⟩; have B := h_ (B.out.trans (bt.mono B.out.size)); have T := h_ gt; clear gt bt)
   | (go_at_call 28; refine (HRD.out _ B.out).mono ?_; rintro e wx ⟨vr, rfl, gr, br⟩; have B := h_ (B.out.trans (br.mono B.out.size)); have U := h_ gr; have T := h_ (T.out.onward br); clear gr br)
   | (go_at_call 25; refine (HSF.out _ vt vr T.out U.out).mono ?_; rintro e wx ⟨rfl, bs⟩; have B := h_ (B.out.trans (bs.mono B.out.size)); clear bs)
   | (go_at_call 29; refine (HNA.out _).mono ?_; rintro e wx ⟨rfl, bs⟩; have B := h_ (B.out.trans (bs.mono B.out.size)); clear bs)
   | (go_at_call 30; refine (HNR.out _).mono ?_; rintro e wx ⟨rfl, bs⟩; have B := h_ (B.out.trans (bs.mono B.out.size)); clear bs)))
 | fail "held3"
 all_goals go_wp2
 all_goals exact hQ _ _ _ _ _ _ _ _ _ _ _ _ _ _ _ _ _ _ _ _ _ _ _ _ _ _ _ _ _ _ _ _ _ _ _ _ rfl B.out
end
section
open Go.RowKit
theorem loosePlays_any (c : Int) (v0 : Value) (L : Files) (vs : Value) (sc : List LopR) (w : World) (h : FilesAt w (elder w) v0 L) (hL : L.length <= 4000000000000) (hb : ∀ n b, (n, b) ∈ L -> n.length <= 9223372036854775807 /\ b.length <= 140737488355328) (hs : costs L <= 4611686018427387904)
  (hsc : LscriptAt w (elder w) vs sc) :
  Calls Tryz.prog 3 #[.int .i64 c, v0, vs] w fun e w' => e = .returned (.bool true) /\ Below w.heap.size w w' := by
 obtain ⟨ao, cap, g, off, rfl, hg, hcell⟩ := hsc; have hA := awake_any loose_spec w; have hB := fun (W : World) (hW : Below w.heap.size w W) => both_any c v0 L W ((h.turn (Turn.of_below (fun _ => False) hW) (fun _ _ h => h)).mono (fun i _ hi => by have := hW.size; have : i < w.heap.size := hi; show i < W.heap.size; omega)) hL hb hs
 obtain ⟨N, hN⟩ := nm_ (sc.length); rw [<- hN] at hg |-; have HB := h_ hB; have HCE := h_ hcell; have HN := h_ hN; clear hB h hb hs hcell hN; go_enter Tryz.func3, Tryz.ntmps3; go_wp2_with (first | (go_at_call 8; refine hA.mono ?_; rintro e w1 ⟨rfl, b1⟩; have B1 := h_ b1; clear b1) | (go_at_call 9; fail))
 refine (HB.out w1 B1.out).mono ?_; rintro e w2 (⟨rfl, b2⟩ | ⟨p, q, C, rfl, hT, hG, hC, _, _⟩)
 ·have BB := h_ (B1.out.trans (b2.mono B1.out.size))
  clear b2 HB; go_wp2; go_loopw [10] (fun i W => i = .int .i64 0 /\ W = w2) (fun i _ => 0)
  case atStart => exact ⟨rfl, rfl⟩
  case round =>
   obtain ⟨rfl, rfl⟩ := hrel; go_wp2_with (first
    | (go_at_call 31; refine (sum_nil _).mono ?_; rintro e wx ⟨rfl, bx⟩; have BB := h_ (BB.out.trans (bx.mono BB.out.size)); clear bx)
    | (go_at_call 12; refine (looseGet_nil _ (sumL_length []) _).mono ?_; rintro e wx ⟨rfl, bx⟩; have BB := h_ (BB.out.trans (bx.mono BB.out.size)); clear bx)
    | (go_at_call 20; refine (loosePut_nil _ (src_two _)).mono ?_; rintro e wx ⟨rfl, bx⟩; have BB := h_ ((BB.out.alloc BB.out.size _).trans (bx.mono (BB.out.alloc BB.out.size _).size)); clear bx)
    | (go_at_call 14; refine (looseDrop_nil _ (sumL_length []) _).mono ?_; rintro e wx ⟨rfl, bx⟩; have BB := h_ (BB.out.trans (bx.mono BB.out.size)); clear bx)
    | (go_at_call 24; refine (looseIds_nil _).mono ?_; rintro e wx ⟨⟨ax, cx, rfl⟩, bx⟩; have BB := h_ (BB.out.trans (bx.mono BB.out.size)); clear bx))
   go_ret; exact ⟨rfl, BB.out⟩
 ·obtain ⟨S0, hS⟩ := nm_ (loadS L C)
  have hdone : S0.done = 0 := by rw [hS]; rfl
  have hcap : S0.cap <= 1048575 := by rw [hS]; exact hC
  rw [<- hS] at hT hG; have HT := h_ hT.duet; clear hT hS HB hA; go_upto_block 0 with fail
  go_cut [6, 10, 11, 12, 13, 14, 15, 16, 17, 18, 19, 20, 21, 22, 23, 24] from 36 to 197 (fun _ _ _ _ _ _ _ _ _ _ _ _ _ _ _ _ wx => Below w.heap.size w wx)
  case rest =>
   have BB := h_ hcut; clear hcut

   go_wp2_with (first
    | (go_at_call 31; refine (sum_nil _).mono ?_; rintro e wx ⟨rfl, bx⟩; have BB := h_ (BB.out.trans (bx.mono BB.out.size)); clear bx)
    | (go_at_call 12; refine (looseGet_nil _ (sumL_length []) _).mono ?_; rintro e wx ⟨rfl, bx⟩; have BB := h_ (BB.out.trans (bx.mono BB.out.size)); clear bx)
    | (go_at_call 20; refine (loosePut_nil _ (src_two _)).mono ?_; rintro e wx ⟨rfl, bx⟩; have BB := h_ ((BB.out.alloc BB.out.size _).trans (bx.mono (BB.out.alloc BB.out.size _).size)); clear bx)
    | (go_at_call 14; refine (looseDrop_nil _ (sumL_length []) _).mono ?_; rintro e wx ⟨rfl, bx⟩; have BB := h_ (BB.out.trans (bx.mono BB.out.size)); clear bx)
    | (go_at_call 24; refine (looseIds_nil _).mono ?_; rintro e wx ⟨⟨ax, cx, rfl⟩, bx⟩; have BB := h_ (BB.out.trans (bx.mono BB.out.size)); clear bx))
   go_ret; exact ⟨rfl, BB.out⟩
  go_wp2; go_loopw [10] (fun i W => ∃ (k : Nat) (S : St), i = .int .i64 (k : Int) /\ k <= N /\ k <= 40 /\ Hid (Duet w1 (elder w1) p q S S W) /\ Hid (Good S) /\ Hid (S.done <= k * 1048600) /\ Hid (S.cap <= 1048575)) (fun i _ => N - (intOf i).toNat)
  case atStart => exact ⟨0, S0, rfl, Nat.zero_le _, by omega, HT, h_ hG, h_ (by omega), h_ hcap⟩
  case round =>
   clear HT hG hdone hcap S0; obtain ⟨k, S, rfl, hk, hk2, HD, HG, HDN, HCP⟩ := hrel; have i0 : (0 : Int) <= (k : Int) := by omega
   have BB : Hid (Below w.heap.size w wr) := h_ (B1.out.trans (HD.out.old.mono B1.out.size)); by_cases hlt : k < N
   ·have i1 : (k : Int) < (N : Int) := by omega
    by_cases h40 : k < 40
    ·have i2 : (k : Int) < 40 := by omega
     obtain ⟨r, hr⟩ : ∃ r, sc[k]? = some r := ⟨_, List.getElem?_eq_getElem (by rw [<- HN.out]; exact hlt)⟩
     obtain ⟨rfl, hgw⟩ := hg (by omega)
     have hop := (HCE.out k r hr).turn hgw (Turn.of_below (fun _ => False) BB.out) (fun _ _ h => h)
     obtain ⟨z, zi, ⟨ob, dv, ev, uv⟩, rv, rl, idn, rn⟩ := r; obtain ⟨hcl, hho, hft, hby, hll, hlid, hli, hln⟩ := hop.parts; obtain ⟨a1, c1, B1', o1, rfl, hd1, hd2⟩ := id hho.data; obtain ⟨a2, c2, g2, o2, rfl, he1⟩ := id hho.ents; obtain ⟨a3, c3, g3, o3, rfl, hu1⟩ := id hho.ups; obtain ⟨a4, c4, g4, o4, rfl, hr1, hr2⟩ := id hby; have d0 := hcl 0 _ rfl; have d1 := hcl 1 _ rfl; have d2 := hcl 2 _ rfl; have d3 := hcl 3 _ rfl; have d4 := hcl 4 _ rfl; have d5 := hcl 5 _ rfl; have d6 := hcl 6 _ rfl; have d7 := hcl 7 _ rfl; have d8 := hcl 8 _ rfl; have d9 := hcl 9 _ rfl; have d10 := hcl 10 _ rfl; have d11 := hcl 11 _ rfl; have d12 := hcl 12 _ rfl; have d13 := hcl 13 _ rfl; have d14 := hcl 14 _ rfl; simp only [Nat.add_zero] at d0; obtain ⟨n1, hn1⟩ := nm_ (ob.data.length); obtain ⟨n2, hn2⟩ := nm_ (ob.ents.length); obtain ⟨n3, hn3⟩ := nm_ (ob.ups.length); obtain ⟨n4, hn4⟩ := nm_ (rl.length)
     simp only [<- hn1, <- hn2, <- hn3, <- hn4] at d3 d4 d6 d12; obtain ⟨wa, hwa⟩ := nm_ (wr.alloc (.cells #[.int .i64 z, .int .i64 zi, .int .i64 ob.kind, .slice a1 n1 c1, .slice a2 n2 c2, .string (SL ob.tree), .slice a3 n3 c3, .string (SL ob.target), .string (SL ob.name), .string (SL ob.who), .int .i64 ob.stamp, .string (SL ob.text), .slice a4 n4 c4, .string (SL idn), .int .i64 rn] 35)); have hba : Below wr.heap.size wr wa := by rw [hwa]; exact (Below.refl _ _).alloc (Nat.le_refl _) _
     have hxa : wa.heap[wr.heap.size]? = some (.cells #[.int .i64 z, .int .i64 zi, .int .i64 ob.kind, .slice a1 n1 c1, .slice a2 n2 c2, .string (SL ob.tree), .slice a3 n3 c3, .string (SL ob.target), .string (SL ob.name), .string (SL ob.who), .int .i64 ob.stamp, .string (SL ob.text), .slice a4 n4 c4, .string (SL idn), .int .i64 rn] 35 (0, 0)) := by rw [hwa]; exact heap_alloc_new wr _
     have hids := (HD.out.below hba).rIds HG.out; have HO := h_ hho; have HFT := h_ hft; have HBY := h_ hby; have HLL := h_ hll; have HLI := h_ hlid; have HIN := h_ hli; have HNN := h_ hln; have HWA := h_ hwa; have HBA := h_ hba; have HXA := h_ hxa; have HIDS := h_ hids; have E1 := h_ hn1; have E2 := h_ hn2; have E3 := h_ hn3; have E4 := h_ hn4; clear hcl hho hft hby hll hlid hli hln hd1 hd2 he1 hu1 hr1 hr2 hr hwa hba hxa hids hn1 hn2 hn3 hn4; go_wp2_with fail; rw [<- HWA.out]; refine HIDS.out.mono ?_; rintro e wb ⟨vk, rfl, ok, bb⟩; obtain ⟨ak, ck, rfl⟩ := texts_form ok; obtain ⟨LI, hLI⟩ := nm_ (idsL S.fs); have h32 : ∀ (t : Nat) (i : Bs), LI[t]? = some i -> i.length = 32 := fun t i hi => ids_len32 (by rw [<- hLI]; exact List.mem_of_getElem? hi)
     rw [<- hLI] at ok |-; obtain ⟨M, hM⟩ := nm_ (LI.length); rw [<- hM] at ok |-; have hbb : Below wr.heap.size wr wb := HBA.out.trans (bb.mono HBA.out.size); have hxb : wb.heap[wr.heap.size]? = some (.cells #[.int .i64 z, .int .i64 zi, .int .i64 ob.kind, .slice a1 n1 c1, .slice a2 n2 c2, .string (SL ob.tree), .slice a3 n3 c3, .string (SL ob.target), .string (SL ob.name), .string (SL ob.who), .int .i64 ob.stamp, .string (SL ob.text), .slice a4 n4 c4, .string (SL idn), .int .i64 rn] 35 (0, 0)) := (bb.block _ (ge_ HXA.out).1).trans HXA.out
     have k0 : wb.cell? ⟨wr.heap.size, 0, none⟩ = some _ := cell_of_row _ _ _ _ _ _ hxb
     have k1 : wb.cell? ⟨wr.heap.size, 1, none⟩ = some _ := cell_of_row _ _ _ _ _ _ hxb
     have k2 : wb.cell? ⟨wr.heap.size, 2, none⟩ = some _ := cell_of_row _ _ _ _ _ _ hxb
     have k3 : wb.cell? ⟨wr.heap.size, 3, none⟩ = some _ := cell_of_row _ _ _ _ _ _ hxb
     have k4 : wb.cell? ⟨wr.heap.size, 4, none⟩ = some _ := cell_of_row _ _ _ _ _ _ hxb
     have k5 : wb.cell? ⟨wr.heap.size, 5, none⟩ = some _ := cell_of_row _ _ _ _ _ _ hxb
     have k6 : wb.cell? ⟨wr.heap.size, 6, none⟩ = some _ := cell_of_row _ _ _ _ _ _ hxb
     have k7 : wb.cell? ⟨wr.heap.size, 7, none⟩ = some _ := cell_of_row _ _ _ _ _ _ hxb
     have k8 : wb.cell? ⟨wr.heap.size, 8, none⟩ = some _ := cell_of_row _ _ _ _ _ _ hxb
     have k9 : wb.cell? ⟨wr.heap.size, 9, none⟩ = some _ := cell_of_row _ _ _ _ _ _ hxb
     have k10 : wb.cell? ⟨wr.heap.size, 10, none⟩ = some _ := cell_of_row _ _ _ _ _ _ hxb
     have k11 : wb.cell? ⟨wr.heap.size, 11, none⟩ = some _ := cell_of_row _ _ _ _ _ _ hxb
     have k12 : wb.cell? ⟨wr.heap.size, 12, none⟩ = some _ := cell_of_row _ _ _ _ _ _ hxb
     have k13 : wb.cell? ⟨wr.heap.size, 13, none⟩ = some _ := cell_of_row _ _ _ _ _ _ hxb
     have k14 : wb.cell? ⟨wr.heap.size, 14, none⟩ = some _ := cell_of_row _ _ _ _ _ _ hxb
     have OK := h_ ok; have BBB := h_ hbb; have HXB := h_ hxb; have HM := h_ hM; have H32 := h_ h32; clear ok bb hLI hM hbb hxb h32 HIDS HWA HXA HBA; go_upto_region 9 with fail
     go_cut [69] from 36 to 68 (fun s69 wx => s69 = .bool (decide (0 < zi /\ 0 < M)) /\ wb = wx)
     case first =>
      by_cases hz : 0 < zi
      ·have gz : zi > 0 := hz
       by_cases hm : 0 < M
       ·have gm : (M : Int) > 0 := by omega
        have gd : decide (0 < zi /\ 0 < M) = true := decide_eq_true ⟨hz, hm⟩
        go_wp2; go_meet; exact ⟨by rw [gd], rfl⟩
       ·have gm : ¬ (M : Int) > 0 := by omega
        have gd : decide (0 < zi /\ 0 < M) = false := decide_eq_false (fun h => hm h.2)
        go_wp2; go_meet; exact ⟨by rw [gd], rfl⟩
      ·have gz : ¬ zi > 0 := hz
       have gd : decide (0 < zi /\ 0 < M) = false := decide_eq_false (fun h => hz h.1)
       go_wp2; go_meet; exact ⟨by rw [gd], rfl⟩
     case rest =>
     obtain ⟨rfl, hw9⟩ := hcut; subst hw9; go_upto_if 69 with fail
     go_cut [12] from 70 to 77 (fun s12 wx => (∃ idq : Bs, s12 = .string (SL idq) /\ idq.length <= 1048576) /\ wb = wx)
     case first =>
      by_cases hbig : 0 < zi /\ 0 < M
      ·have gd : decide (0 < zi /\ 0 < M) = true := decide_eq_true hbig
       obtain ⟨hz, hm⟩ := hbig; obtain ⟨zn, rfl⟩ : ∃ n : Nat, zi = (n : Int) := ⟨zi.toNat, by omega⟩
       obtain ⟨t, ht⟩ := nm_ (zn % M); have htm : t < M := by rw [ht]; exact Nat.mod_lt _ hm
       have hrem : (zn : Int) % (M : Int) = (t : Int) := by rw [ht]; rfl
       have hm0 : ¬ M = 0 := by omega
       obtain ⟨idt, hidt⟩ : ∃ i, LI[t]? = some i := ⟨_, List.getElem?_eq_getElem (by rw [<- HM.out]; exact htm)⟩
       obtain ⟨gk, rfl⟩ := texts_src OK.out hm; have ckt := texts_cell OK.out hidt; have hl32 := H32.out t idt hidt; clear ht hidt; go_wp2; go_meet; exact ⟨⟨idt, rfl, by omega⟩, rfl⟩
      ·have gd : decide (0 < zi /\ 0 < M) = false := decide_eq_false hbig
       go_wp2; go_meet; exact ⟨⟨idn, rfl, HLI.out⟩, rfl⟩
     case rest =>
     obtain ⟨⟨idq, rfl, hidq⟩, hw9⟩ := hcut; subst hw9; have hen := refEncode_any (elder w) ob (.slice a1 n1 c1) (.slice a2 n2 c2) (.slice a3 n3 c3) wb (by rw [E1.out, E2.out, E3.out]; exact HO.out.turn (Turn.of_below (fun _ => False) BBB.out) (fun _ _ h => h)) HFT.out
     have HEN := h_ hen; have HQ := h_ hidq; obtain ⟨nb, hnb⟩ := nm_ ((bytesO ob).length); have HNB := h_ hnb; clear hen hidq hnb OK HM H32; unfold objV at HEN; go_wp2_with fail; refine HEN.out.mono ?_; rintro e wd ⟨vd, rfl, od, bd⟩; obtain ⟨a5, c5, B5, rfl, s5, n5⟩ := OutAt.src od; rw [<- HNB.out]; have hxd := (bd.block _ (ge_ HXB.out).1).trans HXB.out; have BD := h_ (BBB.out.trans (bd.mono BBB.out.size)); have e0 : wd.cell? ⟨wr.heap.size, 0, none⟩ = some _ := cell_of_row _ _ _ _ _ _ hxd
     have e12 : wd.cell? ⟨wr.heap.size, 12, none⟩ = some _ := cell_of_row _ _ _ _ _ _ hxd
     have e14 : wd.cell? ⟨wr.heap.size, 14, none⟩ = some _ := cell_of_row _ _ _ _ _ _ hxd
     obtain ⟨Z3, hZ3⟩ : ∃ Z : Nat -> Prop, Z = fun k => elder w1 k \/ (wr.heap.size <= k /\ k < wd.heap.size) := ⟨_, rfl⟩
     have hdu := HD.out.snap BD.out; rw [<- hZ3] at hdu; have hw1w : w.heap.size <= w1.heap.size := B1.out.size
     have hraw7 : BytesAt wd Z3 (.slice a4 n4 c4) rl := by
      rw [E4.out]; refine (HBY.out.turn (Turn.of_below (fun _ => False) BD.out) (fun _ _ h => h)).mono (fun k _ hk => ?_)
      rw [hZ3]; exact .inl (Nat.lt_of_lt_of_le hk hw1w)
     have hrawE : BytesAt wd Z3 (.slice a5 nb c5) (bytesO ob) := by
      rw [HNB.out]; refine ⟨a5, c5, B5, 0, rfl, s5, fun hp => ?_⟩
      rw [hZ3]; exact .inr ⟨Nat.le_trans BBB.out.size (n5 hp), s5.old hp⟩
     have hlenE : (bytesO ob).length <= 1100000 := by
      unfold bytesO; split
      ·exact enc_length (by assumption)
      ·exact Nat.zero_le _
     have HXD := h_ hxd; have DU := h_ hdu; have HR7 := h_ hraw7; have HRE := h_ hrawE; have HLE := h_ hlenE; have HZ3 := h_ hZ3; obtain ⟨y, hy, hand⟩ := and_7 z; clear k0 k1 k2 k3 k4 k5 k6 k7 k8 k9 k10 k11 k12 k13 k14 od bd s5 n5 hxd hdu hraw7 hrawE hlenE HEN HXB hw1w hZ3 d0 d1 d2 d3 d4 d5 d6 d7 d8 d9 d10 d11 d12 d13 d14; go_upto_if 87 with fail
     go_cut [14] from 78 to 89 (fun s14 wx => (∃ (av : Option Addr) (nv cv : Nat) (raw : Bs), s14 = .slice av nv cv /\ raw.length <= 1100000 /\ BytesAt wd Z3 (.slice av nv cv) raw) /\ wd = wx)
     case first =>
      by_cases hy7 : y = 7
      ·have g7 : ((y : Int) == 7) = true := by rw [hy7]; rfl
       have g7' : (y : Int) = 7 := by omega
       go_wp2; go_meet; exact ⟨⟨a4, n4, c4, rl, rfl, by have := HLL.out; omega, HR7.out⟩, rfl⟩
      ·have g7 : ((y : Int) == 7) = false := by simp; omega
       have g7' : ¬ (y : Int) = 7 := by omega
       go_wp2; go_meet; exact ⟨⟨a5, nb, c5, bytesO ob, rfl, HLE.out, HRE.out⟩, rfl⟩
     case rest =>
     obtain ⟨⟨av, nv, cv, raw, rfl, hrl, hrb⟩, hw9⟩ := hcut; subst hw9; have HRL := h_ hrl; have HRB := h_ hrb; clear hrl hrb HR7 HRE HLE; have hdn : S.done <= 41944000 /\ S.cap <= 1048575 := ⟨by have := HDN.out; omega, HCP.out⟩
     have hgR := next_good (y : Int) HG.out idq raw (n := rn) HNN.out.2
     have hdR := next_done (y : Int) S idq raw rn; have hcR := next_cap (y : Int) S idq raw rn; have hidl : idq.length <= 35184372088832 := by have := HQ.out; omega
     obtain ⟨R, hR⟩ : ∃ R, R = nextL (y : Int) S idq raw rn := ⟨_, rfl⟩
     rw [<- hR] at hgR hdR hcR; have hcases : (y = 3 /\ R = S) \/ (y = 4 /\ R = (dropL S idq).2) \/ (y = 5 /\ R = (cutS S rn).2) \/ (y = 6 /\ R = onS S) \/ ((¬ (y : Int) = 3 /\ ¬ (y : Int) = 4 /\ ¬ (y : Int) = 5 /\ ¬ (y : Int) = 6) /\ R = (putL S raw).2.2) := by
      rw [hR]; unfold nextL; by_cases e3 : (y : Int) = 3
      ·exact .inl ⟨by omega, by rw [if_pos e3]⟩
      by_cases e4 : (y : Int) = 4
      ·exact .inr (.inl ⟨by omega, by rw [if_neg e3, if_pos e4]⟩)
      by_cases e5 : (y : Int) = 5
      ·exact .inr (.inr (.inl ⟨by omega, by rw [if_neg e3, if_neg e4, if_pos e5]⟩))
      by_cases e6 : (y : Int) = 6
      ·exact .inr (.inr (.inr (.inl ⟨by omega, by rw [if_neg e3, if_neg e4, if_neg e5, if_pos e6]⟩)))
      ·exact .inr (.inr (.inr (.inr ⟨⟨e3, e4, e5, e6⟩, by rw [if_neg e3, if_neg e4, if_neg e5, if_neg e6]⟩)))
     have HCA := h_ hcases; have HGR := h_ hgR; have HDR := h_ hdR; have HCR := h_ hcR; have HDB := h_ hdn; have HIL := h_ hidl; clear hcases hgR hdR hcR hdn hidl hR; go_upto_block 2 with fail
     go_cut [16, 17, 18, 19, 20, 21, 22, 23, 24] from 93 to 162 (fun s16 _ _ _ _ _ _ _ _ wx => s16 = .bool true /\ Duet wd Z3 p q R R wx)
     case first =>
      refine plays_switch HCA DU HG HDB HIL HRL HRB HNN (h_ (by rw [HZ3.out]; exact .inr ⟨Nat.le_refl _, (ge_ HXD.out).1⟩)) HXD (h_ rfl) ?_
      intro t16 t17 t18 t19 t20 t21 t22 t23 t24 t93 t94 t95 t96 t97 t98 t99 t100 t101 t102 t103 t104 t105 t106 t107 t108 t109 t110 t111 t112 t113 t114 t115 t116 t117 t118 t119 t120 t121 t122 t123 t124 t125 t126 t127 t128 t129 t130 t131 t132 t133 t134 t135 t136 t137 t138 t139 t140 t141 t142 t143 t144 t145 t146 t147 t148 t149 t150 t151 t152 t153 t154 t155 t156 t157 t158 t159 t160 t161 t162 wx h16 h5
      go_wp2_with fail; go_meet; exact ⟨h16, h5⟩
     case rest =>
     obtain ⟨rfl, h5⟩ := hcut; have H5 := h_ h5; clear h5 HCA; go_upto_region 30 with fail
     have hbk := fun (W : World) (hb : Below wc.heap.size wc W) => HD.out.back BD.out (by have := H5.out; rw [HZ3.out] at this; exact this.below hb)
     have HBK := h_ hbk; have hr1 : R.done <= (k + 1) * 1048600 := by have h1 := HDR.out; have h2 := HDN.out; have h3 := HCP.out; omega
     have hr2 : R.cap <= 1048575 := by have h1 := HCR.out; have h3 := HCP.out; omega
     have HREL := h_ (And.intro hr1 hr2); have hk1 : k + 1 <= 40 := by omega
     have hkN : k + 1 <= N := by omega
     clear e0 e12 e14 hand HRL HRB HDB HCR HDR HQ HXD HBY HFT HO HLL HLI HIN DU HZ3; refine plays_check H5 HGR HIL ?_; intro t163 t164 t165 t166 t167 t168 t169 t170 t171 t172 t173 t174 t175 t176 t177 t178 t179 t180 t181 t182 t183 t184 t185 t186 t187 t188 t189 t190 t191 t192 t193 t194 t195 t196 t197 wx h197 hbx
     subst h197; have B := h_ hbx; clear hbx; go_wp2; go_roundw
     case rel => exact ⟨k + 1, R, by go_num, hkN, hk1, h_ (HBK.out _ B.out), HGR, h_ HREL.out.1, h_ HREL.out.2⟩
     case measure => simp [intOf]; omega
    ·have i2 : ¬ ((k : Int) < 40) := by omega
     go_wp2_with fail; go_meet; exact BB.out
   ·obtain rfl : k = N := by omega
    have i1 : ¬ ((k : Int) < (k : Int)) := by omega
    go_wp2_with fail; go_meet; exact BB.out
end
end Go.Proofs.YtomgijcbekjlaaaGreat
