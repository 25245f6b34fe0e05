/- What the proofs stand on: LooseRef, LooseRefPut, LooseRefIds. -/
import Derived.Test.YtomgijcbekjlaaaGreatP6
import Derived.Test.YtomgijcbekjlaaaGreatP15
import Derived.Test.YtomgijcbekjlaaaGreatP18
import Derived.Test.YtomgijcbekjlaaaGreatP21
import Derived.Test.YtomgijcbekjlaaaGreatP24
import Derived.Test.YtomgijcbekjlaaaGreatP10
import Derived.Test.YtomgijcbekjlaaaGreatP26
import Derived.Test.YtomgijcbekjlaaaGreatP9
import Derived.Test.YtomgijcbekjlaaaGreatPB0
import Derived.Test.YtomgijcbekjlaaaGreatPB1
set_option maxRecDepth 100000
set_option maxHeartbeats 40000000
namespace Go.Proofs.YtomgijcbekjlaaaGreat
section
open Go.RowKit
theorem openL_le {p l : List UInt8} {most : Int} (h : openL p most = some l) : (l.length : Int) <= most := by
 rcases parse_cases p with hp | ⟨s, r, hs, rfl⟩
 ·rw [openL_none hp] at h; cases h
 ·rw [openL_num hs] at h
  split at h
  ·cases h
  ·have := tok_length _ _ _ _ _ h
   omega
theorem SL_name (id : Bs) : (⟨#[111, 47]⟩ : ByteArray) ++ SL (hexL id) = SL (nameL id) := SL_cat [111, 47] (hexL id)
theorem refName_any (id : Bs) (w : World) (hl : id.length <= 35184372088832) : Calls Tryz.prog 30 #[.string (SL id)] w fun e w' => e = .returned (.string (SL (nameL id))) /\ Below w.heap.size w w' := by
 have h := refHex_any (SL id) w (by rw [SL_size]; omega)
 have e1 : (SL id).data.toList = id := rfl
 rw [e1] at h; have hcat := SL_name id; have hz := SL_size (hexL id); rw [hexL_length] at hz; have H := h_ h; clear h e1; go_enter Tryz.func30, Tryz.ntmps30; go_wp2_with fail; refine H.out.mono ?_; rintro e w1 ⟨rfl, b1⟩; go_wp2_with fail; go_ret; exact ⟨rfl, b1⟩
theorem ROne.reads {w0 w : World} {Z : Nat -> Prop} {q : Nat} {S : St} (h : ROne w0 Z w q S) (hg : Good S) (n : Bs) (hn : n.length <= 9223372036854775807) : Calls Tryz.prog 48 #[ptr q, .string (SL n)] w fun e w' => ∃ ao cap B, e = .returned (.tuple #[.slice ao (readS S n).2.length cap, err (readS S n).1]) /\ SrcAt w' ao cap (readS S n).2 B 0 /\ (0 < (readS S n).2.length -> w.heap.size <= B) /\ Below w.heap.size w w' := by
 obtain ⟨F, h, _⟩ := h; refine (rRead h hg n hn).mono ?_; rintro e w' ⟨v, he, hown, hb⟩; obtain ⟨ao, cap, B, rfl, h2, h3⟩ := src_of_own hown; exact ⟨ao, cap, B, he, h2, h3, hb⟩
def GetTo (w : World) (r : Int × Bs) (e : Ending) (w' : World) : Prop := ∃ ao cap B off, e = .returned (.tuple #[.slice ao r.2.length cap, err r.1]) /\ SrcAt w' ao cap r.2 B off /\ Below w.heap.size w w'
theorem refGet_any {w0 w : World} {Z : Nat -> Prop} {q : Nat} {S : St} (h : ROne w0 Z w q S) (hg : Good S) (id : Bs) (hl : id.length <= 35184372088832) :
  Calls Tryz.prog 13 #[ptr q, .string (SL id)] w (GetTo w (getL S.fs id)) := by
 have hsz := SL_size id; by_cases h32 : id.length = 32
 ·have i0 : (((SL id).size : Int) != 32) = false := by rw [hsz, h32]; rfl
  have hnm := refName_any id w hl; have hrd := fun W (hb : Below w.heap.size w W) => (h.below hb).reads hg (nameL id) (by rw [nameL_length]; omega)
  have hnn : named (nameL id) = true := name_named (by omega)
  cases hf : findF (nameL id) S.fs with
  | none =>
   rw [getL_none h32 hf]; have hr : readS S (nameL id) = (3, []) := by unfold readS; rw [if_neg (by rw [hnn]; decide), hf]
   rw [hr] at hrd; have HN := h_ hnm; have HR := h_ hrd; clear hnm hrd hr hf h hg hnn h32 hsz; go_enter Tryz.func13, Tryz.ntmps13; go_wp2_with fail; refine HN.out.mono ?_; rintro e w1 ⟨rfl, b1⟩; have B1 := h_ b1; clear b1; go_wp2_with fail; refine (HR.out w1 B1.out).mono ?_; rintro e w2 ⟨ao, cap, B, rfl, s2, _, b2⟩; have B2 := h_ (B1.out.trans (b2.mono B1.out.size)); clear b2 s2; go_wp2_with fail; go_ret2; exact ⟨none, 0, 0, 0, rfl, src_nil _, B2.out⟩
  | some b =>
   rw [getL_some h32 hf]; have hr : readS S (nameL id) = (0, b) := by unfold readS; rw [if_neg (by rw [hnn]; decide), hf]
   rw [hr] at hrd; have hbl : b.length <= 1099511627776 := by have := hg.file_le hf; have := hg.top; have := hg.cost; unfold costF at *; omega
   have hop := fun (W : World) (ao : Option Addr) (cap B : Nat) (hs : SrcAt W ao cap b B 0) => refOpen_any ao cap b B 0 2097152 W hs (by omega) (fun s k _ hm => by omega)
   obtain ⟨lb, hlb⟩ := nm_ (b.length); have HN := h_ hnm; have HR := h_ hrd; have HO := h_ hop; rw [<- hlb] at HR HO; unfold tellL; clear hnm hrd hr hf h hg hnn hop hlb hbl
   cases hop : openL b 2097152 with
   | none =>
    simp only
    rw [hop] at HO; clear hop h32 hsz; go_enter Tryz.func13, Tryz.ntmps13; go_wp2_with fail; refine HN.out.mono ?_; rintro e w1 ⟨rfl, b1⟩; have B1 := h_ b1; clear b1; go_wp2_with fail; refine (HR.out w1 B1.out).mono ?_; rintro e w2 ⟨ao, cap, B, rfl, s2, _, b2⟩; have B2 := h_ (B1.out.trans (b2.mono B1.out.size)); have hoo := HO.out w2 ao cap B s2; have HOO := h_ hoo; clear b2 s2 hoo; go_wp2_with fail; refine HOO.out.mono ?_; rintro e w3 ⟨rfl, b3⟩; have B3 := h_ (B2.out.trans (b3.mono B2.out.size)); clear b3; go_wp2_with fail; go_ret2; exact ⟨none, 0, 0, 0, rfl, src_nil _, B3.out⟩
   | some raw =>
    simp only
    rw [hop] at HO; have hrl := openL_le hop; have hsu := fun (W : World) (ao : Option Addr) (cap B : Nat) (hs : SrcAt W ao cap raw B 0) => refSum_any ao cap raw B 0 W hs (by omega)
    have hde := fun (W : World) (ao : Option Addr) (cap B : Nat) (hs : SrcAt W ao cap raw B 0) => refDecode_any ao cap B 0 raw W hs (by omega)
    obtain ⟨lr, hlr⟩ := nm_ (raw.length); have HS := h_ hsu; have HD := h_ hde; rw [<- hlr] at HS HD; have HLR := h_ hlr; clear hop hsu hde hlr hrl hsz; by_cases hid : sumL raw = id
    ·cases hdc : decO raw with
     | none =>
      rw [if_neg (by rintro ⟨_, h⟩; cases h)]
      have hq : ((SL (sumL raw)).toList == (SL id).toList) = true := by rw [hid]; simp
      clear hid; go_enter Tryz.func13, Tryz.ntmps13; go_wp2_with fail; refine HN.out.mono ?_; rintro e w1 ⟨rfl, b1⟩; have B1 := h_ b1; clear b1; go_wp2_with fail; refine (HR.out w1 B1.out).mono ?_; rintro e w2 ⟨ao, cap, B, rfl, s2, _, b2⟩; have B2 := h_ (B1.out.trans (b2.mono B1.out.size)); have hoo := HO.out w2 ao cap B s2; have HOO := h_ hoo; clear b2 s2 hoo; go_wp2_with fail; refine HOO.out.mono ?_; rintro e w3 ⟨a3, c3, B3', rfl, s3, b3⟩; have B3 := h_ (B2.out.trans (b3.mono B2.out.size)); have S3 := h_ s3; rw [<- HLR.out]; have hss := HS.out w3 a3 c3 B3' s3; have HSS := h_ hss; clear b3 s3 hss; go_wp2_with fail; refine HSS.out.mono ?_; rintro e w4 ⟨rfl, b4⟩; have B4 := h_ (B3.out.trans (b4.mono B3.out.size)); have S4 := h_ (S3.out.below b4); clear b4; have hdd := HD.out w4 a3 c3 B3' S4.out; have HDD := h_ hdd; clear hdd; go_wp2_with fail; refine HDD.out.mono ?_; rintro e w5 ⟨b5, h5⟩
      have B5 := h_ (B4.out.trans (b5.mono B4.out.size)); have S5 := h_ (S4.out.below b5); rw [hdc] at h5; obtain rfl := h5
      clear b5 hdc; unfold objV; go_wp2_with fail; go_ret2; exact ⟨none, 0, 0, 0, rfl, src_nil _, B5.out⟩
     | some o =>
      rw [if_pos ⟨hid, rfl⟩]; have hq : ((SL (sumL raw)).toList == (SL id).toList) = true := by rw [hid]; simp
      clear hid; go_enter Tryz.func13, Tryz.ntmps13; go_wp2_with fail; refine HN.out.mono ?_; rintro e w1 ⟨rfl, b1⟩; have B1 := h_ b1; clear b1; go_wp2_with fail; refine (HR.out w1 B1.out).mono ?_; rintro e w2 ⟨ao, cap, B, rfl, s2, _, b2⟩; have B2 := h_ (B1.out.trans (b2.mono B1.out.size)); have hoo := HO.out w2 ao cap B s2; have HOO := h_ hoo; clear b2 s2 hoo; go_wp2_with fail; refine HOO.out.mono ?_; rintro e w3 ⟨a3, c3, B3', rfl, s3, b3⟩; have B3 := h_ (B2.out.trans (b3.mono B2.out.size)); have S3 := h_ s3; rw [<- HLR.out]; have hss := HS.out w3 a3 c3 B3' s3; have HSS := h_ hss; clear b3 s3 hss; go_wp2_with fail; refine HSS.out.mono ?_; rintro e w4 ⟨rfl, b4⟩; have B4 := h_ (B3.out.trans (b4.mono B3.out.size)); have S4 := h_ (S3.out.below b4); clear b4; have hdd := HD.out w4 a3 c3 B3' S4.out; have HDD := h_ hdd; clear hdd; go_wp2_with fail; refine HDD.out.mono ?_; rintro e w5 ⟨b5, h5⟩
      have B5 := h_ (B4.out.trans (b5.mono B4.out.size)); have S5 := h_ (S4.out.below b5); rw [hdc] at h5; obtain ⟨dv, ev, uv, rfl, _⟩ := h5; clear b5 hdc; unfold objV; go_wp2_with fail; go_ret2; exact ⟨a3, c3, B3', 0, by rw [<- HLR.out]; rfl, S5.out, B5.out⟩
    ·rw [if_neg (fun h => hid h.1)]
     have hq : ((SL (sumL raw)).toList == (SL id).toList) = false := by rw [SL_toList, SL_toList]; exact beq_eq_false_iff_ne.2 hid
     clear hid; go_enter Tryz.func13, Tryz.ntmps13; go_wp2_with fail; refine HN.out.mono ?_; rintro e w1 ⟨rfl, b1⟩; have B1 := h_ b1; clear b1; go_wp2_with fail; refine (HR.out w1 B1.out).mono ?_; rintro e w2 ⟨ao, cap, B, rfl, s2, _, b2⟩; have B2 := h_ (B1.out.trans (b2.mono B1.out.size)); have hoo := HO.out w2 ao cap B s2; have HOO := h_ hoo; clear b2 s2 hoo; go_wp2_with fail; refine HOO.out.mono ?_; rintro e w3 ⟨a3, c3, B3', rfl, s3, b3⟩; have B3 := h_ (B2.out.trans (b3.mono B2.out.size)); have S3 := h_ s3; rw [<- HLR.out]; have hss := HS.out w3 a3 c3 B3' s3; have HSS := h_ hss; clear b3 s3 hss; go_wp2_with fail; refine HSS.out.mono ?_; rintro e w4 ⟨rfl, b4⟩; have B4 := h_ (B3.out.trans (b4.mono B3.out.size)); have S4 := h_ (S3.out.below b4); clear b4; go_wp2_with fail; go_ret2; exact ⟨none, 0, 0, 0, rfl, src_nil _, B4.out⟩
 ·have i0 : (((SL id).size : Int) != 32) = true := by rw [hsz, bne_iff_ne]; omega
  rw [getL_arg h32]; clear h hg hl hsz h32; go_enter Tryz.func13, Tryz.ntmps13; go_wp2_with fail; go_ret2; exact ⟨none, 0, 0, 0, rfl, src_nil _, Below.refl _ _⟩
end
section
open Go.RowKit
def RPutsTo (w0 : World) (Z : Nat -> Prop) (q : Nat) (r : Int × Bs × St) (e : Ending) (w' : World) : Prop := e = .returned (.tuple #[.string (SL r.2.1), err r.1]) /\ ROne w0 Z w' q r.2.2
theorem getL_cases (fs : Files) (id : Bs) (h : id.length = 32) : getL fs id = (6, []) \/ getL fs id = (2, []) \/ ((getL fs id).1 = 0 /\ (getL fs id).2.length <= 2097152) := by
 cases hf : findF (nameL id) fs with
 | none => exact .inl (getL_none h hf)
 | some b =>
  rw [getL_some h hf]; rcases tellL_cases id b with ⟨h1, h2⟩ | ⟨h1, h2, _⟩
  ·exact .inr (.inl (Prod.ext h1 h2))
  ·exact .inr (.inr ⟨h1, by have := openL_le h2; omega⟩)
theorem refPut_any {w0 w : World} {Z : Nat -> Prop} {q : Nat} {S : St} (h : ROne w0 Z w q S) (hg : Good S) (hb : S.done + S.cap + 10 <= 4000000000000000) (v : Value) (raw : Bs) (hv : BytesAt w Z v raw) (hl : raw.length <= 140737488351232) :
  Calls Tryz.prog 21 #[ptr q, v] w (RPutsTo w0 Z q (putL S raw)) := by
 obtain ⟨ao, cap, B, off, rfl, hs, hB⟩ := hv; have hde := refDecode_any ao cap B off raw w hs (by omega)
 obtain ⟨n, hn⟩ := nm_ (raw.length); rw [<- hn] at hde |-
 cases hdc : decO raw with
 | none =>
  have hp : putL S raw = (1, [], S) := by unfold putL; rw [hdc]; rfl
  rw [hp]; have HD := h_ hde; have HH := h_ h; clear hde hs hB hp hn hg hb hl h; go_enter Tryz.func21, Tryz.ntmps21; go_wp2_with fail; refine HD.out.mono ?_; rintro e w1 h1; obtain ⟨K, z0, d1, d2, d3, n1, n2, n3, e1, e2, e3, t3, t5, t6, t7, t9, rfl, b1⟩ := dec_err_none hdc h1; clear hdc h1; obtain ⟨W1, hW1⟩ := nm_ (w1.alloc (.cells #[.int .i64 K, .slice d1 n1 e1, .slice d2 n2 e2, .string (SL t3), .slice d3 n3 e3, .string (SL t5), .string (SL t6), .string (SL t7), .int .i64 z0, .string (SL t9)] 33)); have hb1 : Below w.heap.size w W1 := by rw [hW1]; exact b1.alloc b1.size _
  have HW1 := h_ hW1; have B1 := h_ hb1; clear b1 hb1 hW1; go_wp2_with fail; rw [<- HW1.out]; go_ret2; exact ⟨rfl, HH.out.below B1.out⟩
 | some o =>
  have hsu := fun (W : World) (hb : Below w.heap.size w W) => refSum_any ao cap raw B off W (hs.below hb) hl
  have hge := fun (W : World) (hb : Below w.heap.size w W) => refGet_any (h.below hb) hg (sumL raw) (by rw [sumL_length]; omega)
  have hcv := fun (W : World) (hb : Below w.heap.size w W) => convert_src (hs.below hb)
  rw [<- hn] at hsu hcv; obtain ⟨r, hr⟩ := nm_ (getL S.fs (sumL raw)); have hput : putL S raw = (if r.1 = 0 then (if r.2 = raw then (0, sumL raw, S) else (7, [], S)) else if r.1 = 2 then (2, [], S) else if (saveS S (nameL (sumL raw)) (pressL raw)).1 = 0 then (0, sumL raw, (saveS S (nameL (sumL raw)) (pressL raw)).2) else ((saveS S (nameL (sumL raw)) (pressL raw)).1, [], (saveS S (nameL (sumL raw)) (pressL raw)).2)) := by
   unfold putL; rw [hdc, hr]; rfl
  have hcase := getL_cases S.fs (sumL raw) (sumL_length raw); rw [<- hr] at hge hcase; rw [hput]; have hidl := sumL_length raw; have hnm := fun (W : World) => refName_any (sumL raw) W (by omega)
  obtain ⟨id, hid⟩ := nm_ (sumL raw); rw [<- hid] at hsu hge hnm hidl |-; have HH := h_ h; have HD := h_ hde; have HSU := h_ hsu; have HGE := h_ hge; have HCV := h_ hcv; have HNM := h_ hnm; have HIL := h_ hidl; have HS := h_ hs; have HHN := h_ hn; have HL := h_ hl; have HB := h_ hB; clear hsu hge hcv hnm hde hr hput hid h hs hn hl hidl hB; rcases hcase with hc | hc | ⟨hc, hcl⟩
  ·obtain rfl := hc
   rw [if_neg (by decide), if_neg (by decide)]
   obtain ⟨sv, hsv⟩ := nm_ (saveS S (nameL id) (pressL raw)); rw [<- hsv]; have HSV := h_ hsv; clear hsv; by_cases hz : sv.1 = 0
   ·rw [if_pos hz]
    go_enter Tryz.func21, Tryz.ntmps21; go_wp2_with fail; refine HD.out.mono ?_; rintro e w1 h1; obtain ⟨K, z0, d1, d2, d3, n1, n2, n3, e1, e2, e3, t3, t5, t6, t7, t9, rfl, b1⟩ := dec_err_some hdc h1; clear hdc h1; obtain ⟨W1, hW1⟩ := nm_ (w1.alloc (.cells #[.int .i64 K, .slice d1 n1 e1, .slice d2 n2 e2, .string (SL t3), .slice d3 n3 e3, .string (SL t5), .string (SL t6), .string (SL t7), .int .i64 z0, .string (SL t9)] 33)); have hb1 : Below w.heap.size w W1 := by rw [hW1]; exact b1.alloc b1.size _
    have HW1 := h_ hW1; have B1 := h_ hb1; clear b1 hb1 hW1; go_wp2_with fail; rw [<- HW1.out]; refine (HSU.out W1 B1.out).mono ?_; rintro e w2 ⟨rfl, b2⟩; have B2 := h_ (B1.out.trans (b2.mono B1.out.size)); clear b2; go_wp2_with fail; refine (HGE.out w2 B2.out).mono ?_; rintro e w3 ⟨a3, c3, g3, o3, rfl, s3, b3⟩; have B3 := h_ (B2.out.trans (b3.mono B2.out.size)); have S3 := h_ s3; clear b3 s3; go_wp2_with fail; refine (HNM.out w3).mono ?_; rintro e w4 ⟨rfl, b4⟩; have B4 := h_ (B3.out.trans (b4.mono B3.out.size)); have hpr := refPress_new ao cap raw B off w4 (HS.out.below B4.out) (by have := HL.out; omega)
    rw [<- HHN.out] at hpr; have HPR := h_ hpr; clear b4 hpr; go_wp2_with fail; refine HPR.out.mono ?_; rintro e w5 ⟨a5, c5, g5, o5, rfl, s5, n5, b5⟩; have H4 := HH.out.below B4.out; have H5 := H4.snap b5; have hsave := refSave_any H5 hg hb (nameL id) (pressL raw) (by have := HIL.out; rw [nameL_length]; omega) (.slice a5 (pressL raw).length c5) ⟨a5, c5, g5, o5, rfl, s5, fun hp => .inr ⟨n5 hp, s5.old hp⟩⟩ (by have h1 := press_wide raw; have h2 := HL.out; omega)
    rw [<- HSV.out] at hsave; have HSA := h_ hsave; have B5 := h_ b5; have HH4 := h_ H4; obtain ⟨pl, hpl⟩ := nm_ ((pressL raw).length); rw [<- hpl] at HSA |-; clear hsave H4 H5 b5 s5 n5 hpl; go_wp2_with fail; refine HSA.out.mono ?_; rintro e w6 ⟨rfl, h6⟩; have H6 := h_ (HH4.out.back B5.out h6); clear h6; rw [hz]; go_wp2_with fail; go_ret2; exact ⟨rfl, H6.out⟩
   ·rw [if_neg hz]
    obtain ⟨z, hzz⟩ := nm_ (sv.1); rw [<- hzz] at hz |-; have HZZ := h_ hzz; have hq : (z == 0) = false := beq_eq_false_iff_ne.2 hz
    clear hzz; go_enter Tryz.func21, Tryz.ntmps21; go_wp2_with fail; refine HD.out.mono ?_; rintro e w1 h1; obtain ⟨K, z0, d1, d2, d3, n1, n2, n3, e1, e2, e3, t3, t5, t6, t7, t9, rfl, b1⟩ := dec_err_some hdc h1; clear hdc h1; obtain ⟨W1, hW1⟩ := nm_ (w1.alloc (.cells #[.int .i64 K, .slice d1 n1 e1, .slice d2 n2 e2, .string (SL t3), .slice d3 n3 e3, .string (SL t5), .string (SL t6), .string (SL t7), .int .i64 z0, .string (SL t9)] 33)); have hb1 : Below w.heap.size w W1 := by rw [hW1]; exact b1.alloc b1.size _
    have HW1 := h_ hW1; have B1 := h_ hb1; clear b1 hb1 hW1; go_wp2_with fail; rw [<- HW1.out]; refine (HSU.out W1 B1.out).mono ?_; rintro e w2 ⟨rfl, b2⟩; have B2 := h_ (B1.out.trans (b2.mono B1.out.size)); clear b2; go_wp2_with fail; refine (HGE.out w2 B2.out).mono ?_; rintro e w3 ⟨a3, c3, g3, o3, rfl, s3, b3⟩; have B3 := h_ (B2.out.trans (b3.mono B2.out.size)); have S3 := h_ s3; clear b3 s3; go_wp2_with fail; refine (HNM.out w3).mono ?_; rintro e w4 ⟨rfl, b4⟩; have B4 := h_ (B3.out.trans (b4.mono B3.out.size)); have hpr := refPress_new ao cap raw B off w4 (HS.out.below B4.out) (by have := HL.out; omega)
    rw [<- HHN.out] at hpr; have HPR := h_ hpr; clear b4 hpr; go_wp2_with fail; refine HPR.out.mono ?_; rintro e w5 ⟨a5, c5, g5, o5, rfl, s5, n5, b5⟩; have H4 := HH.out.below B4.out; have H5 := H4.snap b5; have hsave := refSave_any H5 hg hb (nameL id) (pressL raw) (by have := HIL.out; rw [nameL_length]; omega) (.slice a5 (pressL raw).length c5) ⟨a5, c5, g5, o5, rfl, s5, fun hp => .inr ⟨n5 hp, s5.old hp⟩⟩ (by have h1 := press_wide raw; have h2 := HL.out; omega)
    rw [<- HSV.out] at hsave; have HSA := h_ hsave; have B5 := h_ b5; have HH4 := h_ H4; obtain ⟨pl, hpl⟩ := nm_ ((pressL raw).length); rw [<- hpl] at HSA |-; clear hsave H4 H5 b5 s5 n5 hpl; go_wp2_with fail; refine HSA.out.mono ?_; rintro e w6 ⟨rfl, h6⟩; have H6 := h_ (HH4.out.back B5.out h6); clear h6; rw [<- HZZ.out]; go_wp2_with fail; go_ret2; exact ⟨rfl, H6.out⟩
  ·obtain rfl := hc
   rw [if_neg (by decide), if_pos rfl]
   go_enter Tryz.func21, Tryz.ntmps21; go_wp2_with fail; refine HD.out.mono ?_; rintro e w1 h1; obtain ⟨K, z0, d1, d2, d3, n1, n2, n3, e1, e2, e3, t3, t5, t6, t7, t9, rfl, b1⟩ := dec_err_some hdc h1; clear hdc h1; obtain ⟨W1, hW1⟩ := nm_ (w1.alloc (.cells #[.int .i64 K, .slice d1 n1 e1, .slice d2 n2 e2, .string (SL t3), .slice d3 n3 e3, .string (SL t5), .string (SL t6), .string (SL t7), .int .i64 z0, .string (SL t9)] 33)); have hb1 : Below w.heap.size w W1 := by rw [hW1]; exact b1.alloc b1.size _
   have HW1 := h_ hW1; have B1 := h_ hb1; clear b1 hb1 hW1; go_wp2_with fail; rw [<- HW1.out]; refine (HSU.out W1 B1.out).mono ?_; rintro e w2 ⟨rfl, b2⟩; have B2 := h_ (B1.out.trans (b2.mono B1.out.size)); clear b2; go_wp2_with fail; refine (HGE.out w2 B2.out).mono ?_; rintro e w3 ⟨a3, c3, g3, o3, rfl, s3, b3⟩; have B3 := h_ (B2.out.trans (b3.mono B2.out.size)); have S3 := h_ s3; clear b3 s3; go_wp2_with fail; go_ret2; exact ⟨rfl, HH.out.below B3.out⟩
  ·rw [if_pos hc]
   obtain ⟨r1, r2⟩ := r; obtain rfl : r1 = 0 := hc
   by_cases he : r2 = raw
   ·rw [if_pos he]
    have hq : ((SL r2).toList == (SL raw).toList) = true := by rw [he]; simp
    clear he hcl; go_enter Tryz.func21, Tryz.ntmps21; go_wp2_with fail; refine HD.out.mono ?_; rintro e w1 h1; obtain ⟨K, z0, d1, d2, d3, n1, n2, n3, e1, e2, e3, t3, t5, t6, t7, t9, rfl, b1⟩ := dec_err_some hdc h1; clear hdc h1; obtain ⟨W1, hW1⟩ := nm_ (w1.alloc (.cells #[.int .i64 K, .slice d1 n1 e1, .slice d2 n2 e2, .string (SL t3), .slice d3 n3 e3, .string (SL t5), .string (SL t6), .string (SL t7), .int .i64 z0, .string (SL t9)] 33)); have hb1 : Below w.heap.size w W1 := by rw [hW1]; exact b1.alloc b1.size _
    have HW1 := h_ hW1; have B1 := h_ hb1; clear b1 hb1 hW1; go_wp2_with fail; rw [<- HW1.out]; refine (HSU.out W1 B1.out).mono ?_; rintro e w2 ⟨rfl, b2⟩; have B2 := h_ (B1.out.trans (b2.mono B1.out.size)); clear b2; go_wp2_with fail; refine (HGE.out w2 B2.out).mono ?_; rintro e w3 ⟨a3, c3, g3, o3, rfl, s3, b3⟩; have B3 := h_ (B2.out.trans (b3.mono B2.out.size)); have S3 := h_ s3; clear b3 s3; have cv1 := convert_src S3.out; have cv2 := HCV.out w3 B3.out; go_wp2_with fail; go_ret2; exact ⟨rfl, HH.out.below B3.out⟩
   ·rw [if_neg he]
    have hq : ((SL r2).toList == (SL raw).toList) = false := by rw [SL_toList, SL_toList]; exact beq_eq_false_iff_ne.2 he
    clear he hcl; go_enter Tryz.func21, Tryz.ntmps21; go_wp2_with fail; refine HD.out.mono ?_; rintro e w1 h1; obtain ⟨K, z0, d1, d2, d3, n1, n2, n3, e1, e2, e3, t3, t5, t6, t7, t9, rfl, b1⟩ := dec_err_some hdc h1; clear hdc h1; obtain ⟨W1, hW1⟩ := nm_ (w1.alloc (.cells #[.int .i64 K, .slice d1 n1 e1, .slice d2 n2 e2, .string (SL t3), .slice d3 n3 e3, .string (SL t5), .string (SL t6), .string (SL t7), .int .i64 z0, .string (SL t9)] 33)); have hb1 : Below w.heap.size w W1 := by rw [hW1]; exact b1.alloc b1.size _
    have HW1 := h_ hW1; have B1 := h_ hb1; clear b1 hb1 hW1; go_wp2_with fail; rw [<- HW1.out]; refine (HSU.out W1 B1.out).mono ?_; rintro e w2 ⟨rfl, b2⟩; have B2 := h_ (B1.out.trans (b2.mono B1.out.size)); clear b2; go_wp2_with fail; refine (HGE.out w2 B2.out).mono ?_; rintro e w3 ⟨a3, c3, g3, o3, rfl, s3, b3⟩; have B3 := h_ (B2.out.trans (b3.mono B2.out.size)); have S3 := h_ s3; clear b3 s3; have cv1 := convert_src S3.out; have cv2 := HCV.out w3 B3.out; go_wp2_with fail; go_ret2; exact ⟨rfl, HH.out.below B3.out⟩
theorem refDrop_any {w0 w : World} {Z : Nat -> Prop} {q : Nat} {S : St} (h : ROne w0 Z w q S) (hg : Good S) (hb : S.done <= 4000000000000000) (id : Bs) (hl : id.length <= 35184372088832) :
  Calls Tryz.prog 15 #[ptr q, .string (SL id)] w (ROneTo w0 Z q (dropL S id)) := by
 have hsz := SL_size id; unfold dropL; by_cases h32 : id.length = 32
 ·rw [if_pos h32]
  have i0 : (((SL id).size : Int) != 32) = false := by rw [hsz, h32]; rfl
  have hnm := fun (W : World) => refName_any id W hl
  have hha := fun (W : World) (h : ROne w0 Z W q S) => h.has hg (nameL id)
  have hre := fun (W : World) (h : ROne w0 Z W q S) => h.remove hg hb (nameL id) (by rw [nameL_length]; omega)
  have HH := h_ h; have HN := h_ hnm; have HA := h_ hha; have HR := h_ hre; clear hnm hha hre h hsz hg hb hl h32
  cases ht : thereF (nameL id) S.fs with
  | false =>
   rw [ht] at HA; rw [if_neg (by decide)]
   clear ht; go_enter Tryz.func15, Tryz.ntmps15; go_wp2_with fail; refine (HN.out w).mono ?_; rintro e w1 ⟨rfl, b1⟩; have H1 := h_ (HH.out.below b1); clear b1; go_wp2_with fail; refine (HA.out w1 H1.out).mono ?_; rintro e w2 ⟨rfl, m, rfl⟩; go_wp2_with fail; go_ret; exact ⟨rfl, H1.out.drewN m⟩
  | true =>
   rw [ht] at HA; rw [if_pos rfl]; clear ht; go_enter Tryz.func15, Tryz.ntmps15; go_wp2_with fail; refine (HN.out w).mono ?_; rintro e w1 ⟨rfl, b1⟩; have H1 := h_ (HH.out.below b1); clear b1; go_wp2_with fail; refine (HA.out w1 H1.out).mono ?_; rintro e w2 ⟨rfl, m, rfl⟩; have H2 := h_ (H1.out.drewN m); go_wp2_with fail; refine (HN.out _).mono ?_; rintro e w3 ⟨rfl, b3⟩; have H3 := h_ (H2.out.below b3); clear b3; go_wp2_with fail; refine (HR.out w3 H3.out).mono ?_; rintro e w4 ⟨rfl, h4⟩; go_wp2_with fail; go_ret; exact ⟨rfl, h4⟩
 ·rw [if_neg h32]
  have i0 : (((SL id).size : Int) != 32) = true := by rw [hsz, bne_iff_ne]; omega
  have HH := h_ h; clear hg hl hsz h32 h hb; go_enter Tryz.func15, Tryz.ntmps15; go_wp2_with fail; go_ret; exact ⟨rfl, HH.out⟩
end
section
open Go.RowKit
theorem unname_head {n : Bs} (h : ¬ (n.length = 66 /\ n.take 2 = [111, 47])) : unnameL n = none := by unfold unnameL; rw [if_neg h]
theorem unname_digits {n : Bs} (h : n.length = 66 /\ n.take 2 = [111, 47]) : unnameL n = unhexL (n.drop 2) := by unfold unnameL; rw [if_pos h]
theorem ids_step {l : List Bs} {k : Nat} {n : Bs} (h : l[k]? = some n) : (l.take (k + 1)).filterMap unnameL = (l.take k).filterMap unnameL ++ (unnameL n).toList := by
 rw [List.take_add_one, h, List.filterMap_append]
 cases hu : unnameL n <;> simp [hu]
theorem ids_len (l : List Bs) (k : Nat) : ((l.take k).filterMap unnameL).length <= k := Nat.le_trans (List.length_filterMap_le _ _) (by rw [List.length_take]; exact Nat.min_le_left _ _)
theorem ids_names (fs : Files) : (fs.map (·.1)).filterMap unnameL = idsL fs := by unfold idsL; rw [List.filterMap_map]; rfl
theorem refIds_any {w0 w : World} {Z : Nat -> Prop} {q : Nat} {S : St} (h : ROne w0 Z w q S) (hg : Good S) :
  Calls Tryz.prog 10 #[ptr q] w fun e w' => ∃ v, e = .returned v /\ TxtsOwn w.heap.size w' v (idsL S.fs) /\ Below w.heap.size w w' := by
 have hnames := h.names hg; have hmany := hg.many; obtain ⟨L, hL⟩ := nm_ (S.fs.map (·.1))
 have hids : L.filterMap unnameL = idsL S.fs := by rw [hL]; exact ids_names _
 have hcells : S.fs.map (fun f => (.string (SL f.1) : Value)) = tcells L := by rw [hL]; simp [tcells]
 obtain ⟨N, hN⟩ := nm_ (S.fs.length); have hLN : L.length = N := by rw [hL, hN, List.length_map]
 rw [hcells, <- hN] at hnames; rw [<- hids]; have HN := h_ hnames; have HLN := h_ hLN; have hNb : N <= 4000000000000 := by omega
 clear hnames hids hcells hL hLN hN hmany hg h; go_enter Tryz.func10, Tryz.ntmps10; go_wp2_with fail; refine HN.out.mono ?_; rintro e w1 ⟨v, rfl, ho, b1⟩; obtain ⟨ao, cap, g, rfl, hs⟩ := SlAt.of_own (F := fun k => w.heap.size <= k /\ k < w1.heap.size) ho (fun h0 => by rw [List.eq_nil_of_length_eq_zero (HLN.out.trans h0)]; rfl) (fun g hg => ho.lt g hg)
 obtain ⟨x, hx⟩ := nm_ (w1.heap.size); have hwx : w.heap.size <= x := by rw [hx]; exact b1.size
 have B1 := h_ b1; have HX := h_ hx; have hcell := fun (W : World) (hb : Below x w1 W) (k : Nat) (n : Bs) (hk : L[k]? = some n) => (hs.turn (Turn.of_below (fun _ => False) (show Below w1.heap.size w1 W by rw [<- hx]; exact hb)) (fun _ _ h => h)).cell k _ (tcells_get hk)
 have hsrc := hs.src; have hsz := hs.le; have HC := h_ hcell; have HSRC := h_ hsrc; clear ho hs hx b1 hcell hsrc HN; go_wp2_with fail; go_loopw [3, 5] (fun ov i W => ∃ (k : Nat), i = .int .i64 (k : Int) /\ k <= N /\ Hid (TxtsOwn x W ov ((L.take k).filterMap unnameL)) /\ Hid (Below x w1 W)) (fun _ i _ => N - (intOf i).toNat)
 case atStart => exact ⟨0, rfl, Nat.zero_le _, h_ (txts_nil _ _), h_ (by rw [HX.out]; exact Below.refl _ _)⟩
 case round =>
  obtain ⟨k, rfl, hk, O, BB⟩ := hrel; by_cases hlt : k < N
  ·have i0 : (0 : Int) <= (k : Int) := by omega
   have i1 : (k : Int) < (N : Int) := by omega
   obtain ⟨n, hn⟩ : ∃ n, L[k]? = some n := ⟨_, List.getElem?_eq_getElem (by rw [HLN.out]; exact hlt)⟩
   obtain ⟨rfl, _, _⟩ := HSRC.out (by omega)
   have c0 := HC.out wr BB.out k n hn; rw [Nat.zero_add] at c0; have hst := ids_step hn; have hsn := SL_size n; by_cases h66 : n.length = 66
   ·have q0 : (((SL n).size : Int) != 66) = false := by rw [hsn, h66]; rfl
    have hsi : (SL n).size = 66 := by rw [hsn, h66]
    by_cases h2 : n.take 2 = [111, 47]
    ·have hx2 : (SL n).extract 0 2 = SL (n.take 2) := by rw [SL_extract]; rfl
     have hx3 : (SL n).extract 2 n.length = SL (n.drop 2) := by rw [SL_extract, List.take_length]
     have q1 : ((SL (n.take 2)).toList == [111, 47]) = true := by rw [SL_toList, h2]; rfl
     rw [unname_digits ⟨h66, h2⟩] at hst; have hun := fun (W : World) => refUnhex_any (SL (n.drop 2)) W (by rw [SL_size, List.length_drop]; omega)
     have hkl := ids_len L k
     cases hu : unhexL (n.drop 2) with
     | none =>
      have hv : unhexV (SL (n.drop 2)).data.toList = .tuple #[.string (SL []), .int .i64 1] := unhexV_none hu
      rw [hv] at hun; rw [hu] at hst; simp only [Option.toList, List.append_nil] at hst; have HST := h_ hst; have HUN := h_ hun; clear hst hn h66 h2 hun hv hu; go_wp2_with (go_at_call 41; refine (HUN.out _).mono ?_; rintro e w3 ⟨rfl, b3⟩; have BB := h_ (BB.out.trans (b3.mono (by have := BB.out.size; have := HX.out; omega))); have OX := h_ (O.out.below b3); clear b3)
      go_roundw
      case rel => exact ⟨k + 1, by go_num, by omega, by rw [HST.out]; exact OX, BB⟩
      case measure => simp [intOf]; omega
     | some id =>
      have hv : unhexV (SL (n.drop 2)).data.toList = .tuple #[.string (SL id), .int .i64 0] := unhexV_some hu
      rw [hv] at hun; rw [hu] at hst; simp only [Option.toList] at hst; have HST := h_ hst; have HUN := h_ hun; clear hst hn h66 h2 hun hv hu; go_wp2_with (first | (go_at_call 41; refine (HUN.out _).mono ?_; rintro e w3 ⟨rfl, b3⟩; have BX := h_ (BB.out.trans (b3.mono (by have := BB.out.size; have := HX.out; omega))); have OX := h_ (O.out.below b3); clear b3) | (at_builtin; refine wpList_own_texts rfl _ _ rfl x _ _ rfl (h_ (OX.out.below ((Below.refl _ _).alloc (Nat.le_refl _) _))) _ 1 1 [id] rfl rfl (fun hh => by cases hh) (lit_text _ id) (by simp only [List.length_cons, List.length_nil]; omega) (by have := BX.out.size; have := HX.out; simp; omega) ?_; intro vi wi oi bi; have BY := h_ ((BX.out.alloc (by have := BX.out.size; have := HX.out; omega) _).trans bi.out); clear bi))
      go_roundw
      case rel => exact ⟨k + 1, by go_num, by omega, by rw [HST.out]; exact oi, BY⟩
      case measure => simp [intOf]; omega
    ·have hx2 : (SL n).extract 0 2 = SL (n.take 2) := by rw [SL_extract]; rfl
     have q1 : ((SL (n.take 2)).toList == [111, 47]) = false := by rw [SL_toList]; exact beq_eq_false_iff_ne.2 h2
     rw [unname_head (fun h => h2 h.2)] at hst
     simp only [Option.toList, List.append_nil] at hst; have HST := h_ hst; clear hst hn h66 h2; go_wp2_with fail; go_roundw
     case rel => exact ⟨k + 1, by go_num, by omega, by rw [HST.out]; exact O, BB⟩
     case measure => simp [intOf]; omega
   ·have q0 : (((SL n).size : Int) != 66) = true := by rw [hsn, bne_iff_ne]; omega
    rw [unname_head (fun h => h66 h.1)] at hst
    simp only [Option.toList, List.append_nil] at hst; have HST := h_ hst; clear hst hn hsn h66; go_wp2_with fail; go_roundw
    case rel => exact ⟨k + 1, by go_num, by omega, by rw [HST.out]; exact O, BB⟩
    case measure => simp [intOf]; omega
  ·obtain rfl : k = N := by omega
   have i1 : ¬ (k : Int) < (k : Int) := by omega
   rw [List.take_of_length_le (by rw [HLN.out]; exact Nat.le_refl _)] at O
   go_wp2_with fail; go_ret; exact ⟨_, rfl, own_down O.out hwx, B1.out.trans (BB.out.mono hwx)⟩
end
end Go.Proofs.YtomgijcbekjlaaaGreat
