/- What the proofs stand on: LoosePut, LooseNil, LooseAll. -/
import Derived.Test.YtomgijcbekjlaaaGreatP38
import Derived.Test.YtomgijcbekjlaaaGreatP40
import Derived.Test.YtomgijcbekjlaaaGreatP26
import Derived.Test.YtomgijcbekjlaaaGreatP28
import Derived.Test.YtomgijcbekjlaaaGreatPB0
import Derived.Test.YtomgijcbekjlaaaGreatPB1
set_option maxRecDepth 100000
set_option maxHeartbeats 40000000
namespace Go.Proofs.YtomgijcbekjlaaaGreat
section
open Go.RowKit
theorem got_cases (fs : Files) (id : Bs) (h : id.length = 32) : getL fs id = (6, []) \/ getL fs id = (2, []) \/ ((getL fs id).1 = 0 /\ (getL fs id).2.length <= 2097152) := by
 cases hf : findF (nameL id) fs with
 | none => exact .inl (getL_none h hf)
 | some b =>
  rw [getL_some h hf]; rcases tellL_cases id b with ⟨h1, h2⟩ | ⟨h1, h2, _⟩
  ·exact .inr (.inl (Prod.ext h1 h2))
  ·exact .inr (.inr ⟨h1, by have := opened_le h2; omega⟩)
def keepL (S : St) (id raw : Bs) : Int × St := if (getL S.fs id).1 = 0 then (if (getL S.fs id).2 = raw then (0, S) else (7, S)) else if (getL S.fs id).1 = 2 then (2, S) else saveS S (nameL id) (pressL raw)
theorem put_keep {S : St} {raw : Bs} {o : ObjR} (h : decO raw = some o) : putL S raw = if (keepL S (sumL raw) raw).1 = 0 then (0, sumL raw, (keepL S (sumL raw) raw).2) else ((keepL S (sumL raw) raw).1, [], (keepL S (sumL raw) raw).2) := by
 unfold putL keepL; rw [if_pos (by rw [h]; rfl)]
 by_cases h0 : (getL S.fs (sumL raw)).1 = 0
 ·rw [if_pos h0, if_pos h0]
  by_cases h1 : (getL S.fs (sumL raw)).2 = raw
  ·rw [if_pos h1, if_pos h1, if_pos rfl]
  ·rw [if_neg h1, if_neg h1, if_neg (show ¬ (7 : Int) = 0 by decide)]
 ·rw [if_neg h0, if_neg h0]
  by_cases h2 : (getL S.fs (sumL raw)).1 = 2
  ·rw [if_pos h2, if_pos h2, if_neg (show ¬ (2 : Int) = 0 by decide)]
  ·rw [if_neg h2, if_neg h2]
theorem looseKeep_any {w0 w : World} {Z : Nat -> Prop} {p : Nat} {S : St} (h : One w0 Z w p S) (hg : Good S) (hb : S.done + S.cap + 10 <= 4000000000000000) (v : Value) (id raw : Bs) (h32 : id.length = 32) (hv : BytesAt w Z v raw) (hl : raw.length <= 140737488351232) :
  Calls Tryz.prog 55 #[ptr p, .string (SL id), v] w (OneTo w0 Z p (keepL S id raw)) := by
 have hge := looseGet_any w0 w Z p S id h hg (by omega)
 have hcase := got_cases S.fs id h32; obtain ⟨ao, cap, B, off, rfl, hs, hB⟩ := hv; have hpr := fun (W : World) (hb : Below w.heap.size w W) => press_any ao cap raw B off W (hs.below hb) (by omega)
 have hnm := fun (W : World) => looseName_any id W (by omega)
 obtain ⟨n, hn⟩ := nm_ (raw.length); rw [<- hn] at hpr |-; unfold keepL; obtain ⟨r, hr⟩ := nm_ (getL S.fs id); rw [<- hr] at hge hcase |-; have HH := h_ h; have HG := h_ hg; have HDN := h_ hb; have HGE := h_ hge; have HPR := h_ hpr; have HNM := h_ hnm; have HS := h_ hs; have HHN := h_ hn; have HL := h_ hl; have H32 := h_ h32; clear h hg hb hge hpr hnm hs hB hn hl h32 hr; rcases hcase with hc | hc | ⟨hc, hcl⟩
 ·obtain rfl := hc
  rw [if_neg (by decide), if_neg (by decide)]
  obtain ⟨sv, hsv⟩ := nm_ (saveS S (nameL id) (pressL raw)); rw [<- hsv]; have HSV := h_ hsv; clear hsv; go_enter Tryz.func55, Tryz.ntmps55; go_wp2_with fail; refine HGE.out.mono ?_; rintro e w1 ⟨a1, c1, g1, o1, rfl, s1, n1, b1⟩; have B1 := h_ b1; clear b1 s1 n1; go_wp2_with fail; refine (HNM.out w1).mono ?_; rintro e w2 ⟨rfl, b2⟩; have B2 := h_ (B1.out.trans (b2.mono B1.out.size)); have hpr := HPR.out w2 B2.out; have HPR2 := h_ hpr; clear b2 hpr; go_wp2_with fail; refine HPR2.out.mono ?_; rintro e w3 ⟨v3, rfl, o3, b3⟩; obtain ⟨a3, c3, g3, rfl, s3, n3⟩ := src_of_own o3; have H2 := HH.out.below B2.out; have H3 := H2.snap b3; have hsave := save_any H3 HG.out HDN.out (nameL id) (pressL raw) (by have := H32.out; rw [nameL_length]; omega) (.slice a3 (pressL raw).length c3) ⟨a3, c3, g3, 0, rfl, s3, fun hp => .inr ⟨n3 hp, s3.old hp⟩⟩ (by have h1 := press_wide raw; have h2 := HL.out; omega)
  rw [<- HSV.out] at hsave; have HSA := h_ hsave; have B3 := h_ b3; have HH2 := h_ H2; obtain ⟨pl, hpl⟩ := nm_ ((pressL raw).length); rw [<- hpl] at HSA |-; clear hsave H2 H3 b3 s3 n3 o3 hpl; go_wp2_with fail; refine HSA.out.mono ?_; rintro e w4 ⟨rfl, h4⟩; have H4 := h_ (HH2.out.back B3.out h4); clear h4; go_wp2_with fail; go_ret; exact ⟨rfl, H4.out⟩
 ·obtain rfl := hc
  rw [if_neg (by decide), if_pos rfl]
  go_enter Tryz.func55, Tryz.ntmps55; go_wp2_with fail; refine HGE.out.mono ?_; rintro e w1 ⟨a1, c1, g1, o1, rfl, s1, n1, b1⟩; have B1 := h_ b1; clear b1 s1 n1; go_wp2_with fail; go_ret; exact ⟨rfl, HH.out.below B1.out⟩
 ·rw [if_pos hc]
  obtain ⟨r1, r2⟩ := r; obtain rfl : r1 = 0 := hc
  obtain ⟨m, hm⟩ := nm_ (r2.length); have HM := h_ hm; clear hm hcl; by_cases he : r2 = raw
  ·rw [if_pos he]
   go_enter Tryz.func55, Tryz.ntmps55; go_wp2_with fail; refine HGE.out.mono ?_; rintro e w1 ⟨a1, c1, g1, o1, rfl, s1, n1, b1⟩; have B1 := h_ b1; have heq := equal_any w1 s1 (HS.out.below b1); rw [decide_eq_true he, <- HHN.out, <- HM.out] at heq; have HEQ := h_ heq; rw [<- HM.out]; clear b1 s1 n1 heq; go_wp2_with fail; refine HEQ.out.mono ?_; rintro e w2 ⟨rfl, hw2⟩; have hw2 := hw2.symm; subst hw2; go_wp2_with fail; go_ret; exact ⟨rfl, HH.out.below B1.out⟩
  ·rw [if_neg he]
   go_enter Tryz.func55, Tryz.ntmps55; go_wp2_with fail; refine HGE.out.mono ?_; rintro e w1 ⟨a1, c1, g1, o1, rfl, s1, n1, b1⟩; have B1 := h_ b1; have heq := equal_any w1 s1 (HS.out.below b1); rw [decide_eq_false he, <- HHN.out, <- HM.out] at heq; have HEQ := h_ heq; rw [<- HM.out]; clear b1 s1 n1 heq; go_wp2_with fail; refine HEQ.out.mono ?_; rintro e w2 ⟨rfl, hw2⟩; have hw2 := hw2.symm; subst hw2; go_wp2_with fail; go_ret; exact ⟨rfl, HH.out.below B1.out⟩
theorem loosePut_any : PutSpec := fun w0 w Z p S v raw h hg hb hv hl => by
 have hv0 := hv; obtain ⟨ao, cap, B, off, rfl, hs, hB⟩ := hv; have hde := decode_any ao cap B off raw w hs (by omega)
 obtain ⟨n, hn⟩ := nm_ (raw.length); have HL := h_ hl; clear hl
 cases hdc : decO raw with
 | none =>
  have hp : putL S raw = (1, [], S) := by unfold putL; rw [hdc]; rfl
  rw [hp]; rw [<- hn] at hde |-; have HD := h_ hde; have HH := h_ h; clear hde hs hB hp hn hg hb h hv0; go_enter Tryz.func20, Tryz.ntmps20; go_wp2_with fail; refine HD.out.mono ?_; rintro e w1 h1; obtain ⟨K, z0, d1, d2, d3, n1, n2, n3, e1, e2, e3, t3, t5, t6, t7, t9, rfl, b1⟩ := dec_err_none hdc h1; clear hdc h1; obtain ⟨W1, hW1⟩ := nm_ (w1.alloc (.cells #[.int .i64 K, .slice d1 n1 e1, .slice d2 n2 e2, .string (SL t3), .slice d3 n3 e3, .string (SL t5), .string (SL t6), .string (SL t7), .int .i64 z0, .string (SL t9)] 33)); have hb1 : Below w.heap.size w W1 := by rw [hW1]; exact b1.alloc b1.size _
  have HW1 := h_ hW1; have B1 := h_ hb1; clear b1 hb1 hW1; go_wp2_with fail; rw [<- HW1.out]; go_ret2; exact ⟨rfl, HH.out.below B1.out⟩
 | some o =>
  rw [put_keep hdc]; have hsu := fun (W : World) (hb : Below w.heap.size w W) => sum_src W (hs.below hb) (by have := HL.out; omega)
  have hke := fun (W : World) (hb2 : Below w.heap.size w W) => looseKeep_any (h.below hb2) hg hb (.slice ao raw.length cap) (sumL raw) raw (sumL_length raw) ⟨ao, cap, B, off, rfl, hs.below hb2, hB⟩ HL.out
  rw [<- hn] at hde hsu hke |-; obtain ⟨r, hr⟩ := nm_ (keepL S (sumL raw) raw); obtain ⟨id, hid⟩ := nm_ (sumL raw); rw [<- hr] at hke |-; rw [<- hid] at hsu hke |-; have HD := h_ hde; have HSU := h_ hsu; have HKE := h_ hke; clear hde hsu hke hr hid hn hs hB h hg hb hv0; obtain ⟨z, S'⟩ := r; by_cases hz : z = 0
  ·subst hz
   rw [if_pos rfl]; go_enter Tryz.func20, Tryz.ntmps20; go_wp2_with fail; refine HD.out.mono ?_; rintro e w1 h1; obtain ⟨K, z0, d1, d2, d3, n1, n2, n3, e1, e2, e3, t3, t5, t6, t7, t9, rfl, b1⟩ := dec_err_some hdc h1; clear hdc h1; obtain ⟨W1, hW1⟩ := nm_ (w1.alloc (.cells #[.int .i64 K, .slice d1 n1 e1, .slice d2 n2 e2, .string (SL t3), .slice d3 n3 e3, .string (SL t5), .string (SL t6), .string (SL t7), .int .i64 z0, .string (SL t9)] 33)); have hb1 : Below w.heap.size w W1 := by rw [hW1]; exact b1.alloc b1.size _
   have HW1 := h_ hW1; have B1 := h_ hb1; clear b1 hb1 hW1; go_wp2_with fail; rw [<- HW1.out]; refine (HSU.out W1 B1.out).mono ?_; rintro e w2 ⟨rfl, b2⟩; have B2 := h_ (B1.out.trans (b2.mono B1.out.size)); clear b2; go_wp2_with fail; refine (HKE.out w2 B2.out).mono ?_; rintro e w3 ⟨rfl, h3⟩; go_wp2_with fail; go_ret2; exact ⟨rfl, h3⟩
  ·rw [if_neg hz]
   have hz2 : (z != 0) = true := bne_iff_ne.2 hz
   go_enter Tryz.func20, Tryz.ntmps20; go_wp2_with fail; refine HD.out.mono ?_; rintro e w1 h1; obtain ⟨K, z0, d1, d2, d3, n1, n2, n3, e1, e2, e3, t3, t5, t6, t7, t9, rfl, b1⟩ := dec_err_some hdc h1; clear hdc h1; obtain ⟨W1, hW1⟩ := nm_ (w1.alloc (.cells #[.int .i64 K, .slice d1 n1 e1, .slice d2 n2 e2, .string (SL t3), .slice d3 n3 e3, .string (SL t5), .string (SL t6), .string (SL t7), .int .i64 z0, .string (SL t9)] 33)); have hb1 : Below w.heap.size w W1 := by rw [hW1]; exact b1.alloc b1.size _
   have HW1 := h_ hW1; have B1 := h_ hb1; clear b1 hb1 hW1; go_wp2_with fail; rw [<- HW1.out]; refine (HSU.out W1 B1.out).mono ?_; rintro e w2 ⟨rfl, b2⟩; have B2 := h_ (B1.out.trans (b2.mono B1.out.size)); clear b2; go_wp2_with fail; refine (HKE.out w2 B2.out).mono ?_; rintro e w3 ⟨rfl, h3⟩; go_wp2_with fail; go_ret2; exact ⟨rfl, h3⟩
end
section
open Go.RowKit
theorem looseRead_nil (id : Bs) (h32 : id.length = 32) (w : World) : Calls Tryz.prog 45 #[.pointer none, .string (SL id)] w fun e w' => e = .returned (.tuple #[.slice none 0 0, err 1]) /\ Below w.heap.size w w' := by
 have hsz := SL_size id; have i0 : (((SL id).size : Int) != 32) = false := by rw [hsz, h32]; rfl
 have hnm := looseName_any id w (by omega)
 have hrd := fun W s => unmade_read (unmade_nil W) s
 have HN := h_ hnm; have HR := h_ hrd; clear hnm hrd h32 hsz; go_enter Tryz.func45, Tryz.ntmps45; go_wp2_with fail; refine HN.out.mono ?_; rintro e w1 ⟨rfl, b1⟩; go_wp2_with fail; refine (HR.out w1 _).mono ?_; rintro e w2 ⟨rfl, hw⟩; have hw := hw.symm; subst hw; go_wp2_with fail; go_ret2; exact ⟨rfl, b1⟩
theorem looseGet_nil (id : Bs) (h32 : id.length = 32) (w : World) : Calls Tryz.prog 12 #[.pointer none, .string (SL id)] w fun e w' => e = .returned (.tuple #[.slice none 0 0, err 1]) /\ Below w.heap.size w w' := by
 have hrd := looseRead_nil id h32 w; have HR := h_ hrd; clear hrd h32; go_enter Tryz.func12, Tryz.ntmps12; go_wp2_with fail; refine HR.out.mono ?_; rintro e w1 ⟨rfl, b1⟩; go_wp2_with fail; go_ret2; exact ⟨rfl, b1⟩
theorem looseDrop_nil (id : Bs) (h32 : id.length = 32) (w : World) : Calls Tryz.prog 14 #[.pointer none, .string (SL id)] w fun e w' => e = .returned (err 1) /\ Below w.heap.size w w' := by
 have hrd := looseRead_nil id h32 w; have HR := h_ hrd; clear hrd h32; go_enter Tryz.func14, Tryz.ntmps14; go_wp2_with fail; refine HR.out.mono ?_; rintro e w1 ⟨rfl, b1⟩; go_wp2_with fail; go_ret; exact ⟨rfl, b1⟩
theorem looseKeep_nil (id : Bs) (h32 : id.length = 32) (ao : Option Addr) (n cap : Nat) (w : World) : Calls Tryz.prog 55 #[.pointer none, .string (SL id), .slice ao n cap] w fun e w' => e = .returned (err 1) /\ Below w.heap.size w w' := by
 have hrd := looseGet_nil id h32 w; have HR := h_ hrd; clear hrd h32; go_enter Tryz.func55, Tryz.ntmps55; go_wp2_with fail; refine HR.out.mono ?_; rintro e w1 ⟨rfl, b1⟩; go_wp2_with fail; go_ret; exact ⟨rfl, b1⟩
theorem loosePut_nil {ao : Option Addr} {cap B off : Nat} (w : World) (hs : SrcAt w ao cap [2, 0] B off) : Calls Tryz.prog 20 #[.pointer none, .slice ao 2 cap] w fun e w' => e = .returned (.tuple #[.string (SL []), err 1]) /\ Below w.heap.size w w' := by
 have hde : Calls Tryz.prog 47 #[.slice ao 2 cap] w (DecTo [2, 0] w) := decode_any ao cap B off [2, 0] w hs (by decide)
 have hsu : ∀ W, Below w.heap.size w W -> Calls Tryz.prog 31 #[.slice ao 2 cap] W fun e w' => e = .returned (.string (SL (sumL [2, 0]))) /\ Below W.heap.size W w' := fun W hb => sum_src W (hs.below hb) (by decide)
 have hid := sumL_length [2, 0]; have hdc := dec_two; obtain ⟨id, hide⟩ := nm_ (sumL [2, 0]); rw [<- hide] at hsu hid; have hke := fun W => looseKeep_nil id hid ao 2 cap W
 have HD := h_ hde; have HSU := h_ hsu; have HKE := h_ hke; clear hde hsu hke hid hide hs; go_enter Tryz.func20, Tryz.ntmps20; go_wp2_with fail; refine HD.out.mono ?_; rintro e w1 h1; obtain ⟨K, z0, d1, d2, d3, n1, n2, n3, e1, e2, e3, t3, t5, t6, t7, t9, rfl, b1⟩ := dec_err_some hdc h1; clear hdc h1; obtain ⟨W1, hW1⟩ := nm_ (w1.alloc (.cells #[.int .i64 K, .slice d1 n1 e1, .slice d2 n2 e2, .string (SL t3), .slice d3 n3 e3, .string (SL t5), .string (SL t6), .string (SL t7), .int .i64 z0, .string (SL t9)] 33)); have hb1 : Below w.heap.size w W1 := by rw [hW1]; exact b1.alloc b1.size _
 have HW1 := h_ hW1; have B1 := h_ hb1; clear b1 hb1 hW1; go_wp2_with fail; rw [<- HW1.out]; refine (HSU.out W1 B1.out).mono ?_; rintro e w2 ⟨rfl, b2⟩; have B2 := h_ (B1.out.trans (b2.mono B1.out.size)); clear b2; go_wp2_with fail; refine (HKE.out w2).mono ?_; rintro e w3 ⟨rfl, b3⟩; have B3 := h_ (B2.out.trans (b3.mono B2.out.size)); clear b3; go_wp2_with fail; go_ret2; exact ⟨rfl, B3.out⟩
end
section
theorem loose_spec : LooseSpec := ⟨looseName_any, looseGet_any, loosePut_any, looseDrop_any, looseIds_any⟩
end
end Go.Proofs.YtomgijcbekjlaaaGreat
