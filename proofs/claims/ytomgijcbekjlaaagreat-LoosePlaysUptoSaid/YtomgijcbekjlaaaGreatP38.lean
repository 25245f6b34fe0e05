/- What the proofs stand on: LooseGet. -/
import Derived.Test.YtomgijcbekjlaaaGreatP15
import Derived.Test.YtomgijcbekjlaaaGreatP20
import Derived.Test.YtomgijcbekjlaaaGreatP18
import Derived.Test.YtomgijcbekjlaaaGreatP37
import Derived.Test.YtomgijcbekjlaaaGreatP9
import Derived.Test.YtomgijcbekjlaaaGreatPB0
import Derived.Test.YtomgijcbekjlaaaGreatPB1
set_option maxRecDepth 100000
set_option maxHeartbeats 40000000
namespace Go.Proofs.YtomgijcbekjlaaaGreat
section
open Go.RowKit
theorem opened_le {p l : List UInt8} {most : Int} (h : openL p most = some l) : (l.length : Int) <= most := by
 rcases parse_cases p with hp | ⟨s, r, hs, rfl⟩
 ·rw [openL_none hp] at h; cases h
 ·rw [openL_num hs] at h
  split at h
  ·cases h
  ·have := tok_length _ _ _ _ _ h
   omega
def rdL (fs : Files) (id : Bs) : Int × Bs := if id.length = 32 then (match findF (nameL id) fs with | none => (6, []) | some b => (0, b)) else (1, [])
theorem rdL_arg {fs : Files} {id : Bs} (h : id.length ≠ 32) : rdL fs id = (1, []) := by unfold rdL; rw [if_neg h]
theorem rdL_none {fs : Files} {id : Bs} (h : id.length = 32) (hf : findF (nameL id) fs = none) : rdL fs id = (6, []) := by unfold rdL; rw [if_pos h, hf]
theorem rdL_some {fs : Files} {id b : Bs} (h : id.length = 32) (hf : findF (nameL id) fs = some b) : rdL fs id = (0, b) := by unfold rdL; rw [if_pos h, hf]
theorem looseRead_any {w0 w : World} {Z : Nat -> Prop} {p : Nat} {S : St} (h : One w0 Z w p S) (hg : Good S) (id : Bs) (hl : id.length <= 35184372088832) :
  Calls Tryz.prog 45 #[ptr p, .string (SL id)] w (GotTo w (rdL S.fs id)) := by
 have hsz := SL_size id; by_cases h32 : id.length = 32
 ·have i0 : (((SL id).size : Int) != 32) = false := by rw [hsz, h32]; rfl
  have hnm := looseName_any id w hl; have hrd := fun W (hb : Below w.heap.size w W) => (h.below hb).tells hg (nameL id)
  have hnn : named (nameL id) = true := name_named (by omega)
  cases hf : findF (nameL id) S.fs with
  | none =>
   rw [rdL_none h32 hf]; have hr : readS S (nameL id) = (3, []) := by unfold readS; rw [if_neg (by rw [hnn]; decide), hf]
   rw [hr] at hrd; have HN := h_ hnm; have HR := h_ hrd; clear hnm hrd hr hf h hg hnn h32 hsz; go_enter Tryz.func45, Tryz.ntmps45; go_wp2_with fail; refine HN.out.mono ?_; rintro e w1 ⟨rfl, b1⟩; have B1 := h_ b1; clear b1; go_wp2_with fail; refine (HR.out w1 B1.out).mono ?_; rintro e w2 ⟨ao, cap, B, rfl, s2, _, b2⟩; have B2 := h_ (B1.out.trans (b2.mono B1.out.size)); clear b2 s2; go_wp2_with fail; go_ret2; exact ⟨none, 0, 0, 0, rfl, src_nil _, fun h => absurd h (Nat.lt_irrefl _), B2.out⟩
  | some b =>
   rw [rdL_some h32 hf]; have hr : readS S (nameL id) = (0, b) := by unfold readS; rw [if_neg (by rw [hnn]; decide), hf]
   rw [hr] at hrd; obtain ⟨lb, hlb⟩ := nm_ (b.length); have HN := h_ hnm; have HR := h_ hrd; rw [<- hlb] at HR; have HLB := h_ hlb; clear hnm hrd hr hf h hg hnn hlb h32 hsz; go_enter Tryz.func45, Tryz.ntmps45; go_wp2_with fail; refine HN.out.mono ?_; rintro e w1 ⟨rfl, b1⟩; have B1 := h_ b1; clear b1; go_wp2_with fail; refine (HR.out w1 B1.out).mono ?_; rintro e w2 ⟨ao, cap, B, rfl, s2, n2, b2⟩; have B2 := h_ (B1.out.trans (b2.mono B1.out.size)); have S2 := h_ s2; have N2 := h_ n2; clear b2 s2 n2; go_wp2_with fail; go_ret2; exact ⟨ao, cap, B, 0, by rw [<- HLB.out]; rfl, S2.out, fun hp => Nat.le_trans B1.out.size (N2.out (by have h1 : 0 < b.length := hp; have := HLB.out; omega)), B2.out⟩
 ·have i0 : (((SL id).size : Int) != 32) = true := by rw [hsz, bne_iff_ne]; omega
  rw [rdL_arg h32]; clear h hg hl hsz h32; go_enter Tryz.func45, Tryz.ntmps45; go_wp2_with fail; go_ret2; exact ⟨none, 0, 0, 0, rfl, src_nil _, fun h => absurd h (Nat.lt_irrefl _), Below.refl _ _⟩
theorem looseGet_any : GetSpec := fun w0 w Z p S id h hg hl => by
 have hrd := looseRead_any h hg id hl; by_cases h32 : id.length = 32
 ·cases hf : findF (nameL id) S.fs with
  | none =>
   rw [getL_none h32 hf]; rw [rdL_none h32 hf] at hrd; have HR := h_ hrd; clear hrd hf h hg h32; go_enter Tryz.func12, Tryz.ntmps12; go_wp2_with fail; refine HR.out.mono ?_; rintro e w1 ⟨ao, cap, B, off, rfl, s1, n1, b1⟩; have B1 := h_ b1; clear b1 s1 n1; go_wp2_with fail; go_ret2; exact ⟨none, 0, 0, 0, rfl, src_nil _, fun h => absurd h (Nat.lt_irrefl _), B1.out⟩
  | some b =>
   rw [getL_some h32 hf]; rw [rdL_some h32 hf] at hrd; have hbl : b.length <= 1099511627776 := by have := hg.file_le hf; have := hg.top; have := hg.cost; unfold costF at *; omega
   have hop := fun (W : World) (ao : Option Addr) (cap B off : Nat) (hs : SrcAt W ao cap b B off) => open_new ao cap b B off 2097152 W hs (by omega) (fun s k _ hm => by omega)
   obtain ⟨lb, hlb⟩ := nm_ (b.length); have hrd : Calls Tryz.prog 45 #[ptr p, .string (SL id)] w fun e w' => ∃ ao cap B off, e = .returned (.tuple #[.slice ao b.length cap, err 0]) /\ SrcAt w' ao cap b B off /\ (0 < b.length -> w.heap.size <= B) /\ Below w.heap.size w w' := hrd
   rw [<- hlb] at hrd; have HR := h_ hrd; have HO := h_ hop; rw [<- hlb] at HO; have HLB := h_ hlb; unfold tellL; clear hrd hf h hg hop hbl hlb
   cases hop : openL b 2097152 with
   | none =>
    simp only
    rw [hop] at HO; clear hop h32; go_enter Tryz.func12, Tryz.ntmps12; go_wp2_with fail; refine HR.out.mono ?_; rintro e w1 ⟨ao, cap, B, off, rfl, s1, n1, b1⟩; have B1 := h_ b1; have hoo := HO.out w1 ao cap B off s1; have HOO := h_ hoo; clear b1 s1 n1 hoo; go_wp2_with fail; refine HOO.out.mono ?_; rintro e w2 ⟨rfl, b2⟩; have B2 := h_ (B1.out.trans (b2.mono B1.out.size)); clear b2; go_wp2_with fail; go_ret2; exact ⟨none, 0, 0, 0, rfl, src_nil _, fun h => absurd h (Nat.lt_irrefl _), B2.out⟩
   | some raw =>
    simp only
    rw [hop] at HO; have hrl := opened_le hop; obtain ⟨lr, hlr⟩ := nm_ (raw.length); have HLR := h_ hlr; have HRL := h_ hrl; clear hop hlr hrl; by_cases hid : sumL raw = id
    ·have hq : ((SL (sumL raw)).toList == (SL id).toList) = true := by rw [hid]; simp
     cases hdc : decO raw with
     | none =>
      rw [if_neg (by rintro ⟨_, h⟩; cases h)]
      clear hid; go_enter Tryz.func12, Tryz.ntmps12; go_wp2_with fail; refine HR.out.mono ?_; rintro e w1 ⟨ao, cap, B, off, rfl, s1, n1, b1⟩; have B1 := h_ b1; have hoo := HO.out w1 ao cap B off s1; have HOO := h_ hoo; clear b1 s1 n1 hoo; go_wp2_with fail; refine HOO.out.mono ?_; rintro e w2 ⟨a2, c2, g2, rfl, s2, n2, b2⟩; have B2 := h_ (B1.out.trans (b2.mono B1.out.size)); have S2 := h_ s2; have N2 := h_ n2; rw [<- HLR.out]; have hss := sum_src w2 s2 (by have := HRL.out; omega)
      rw [<- HLR.out] at hss; have HSS := h_ hss; clear b2 s2 n2 hss; go_wp2_with fail; refine HSS.out.mono ?_; rintro e w3 ⟨rfl, b3⟩; have B3 := h_ (B2.out.trans (b3.mono B2.out.size)); have S3 := h_ (S2.out.below b3); clear b3; have hdd := decode_any a2 c2 g2 0 raw w3 S3.out (by have := HRL.out; omega)
      rw [<- HLR.out] at hdd; have HDD := h_ hdd; clear hdd; go_wp2_with fail; refine HDD.out.mono ?_; rintro e w4 h4; obtain ⟨K, z0, d1, d2, d3, n1, n2, n3, e1, e2, e3, t3, t5, t6, t7, t9, rfl, b4⟩ := dec_err_none hdc h4; clear hdc h4; obtain ⟨W4, hW4⟩ := nm_ (w4.alloc (.cells #[.int .i64 K, .slice d1 n1 e1, .slice d2 n2 e2, .string (SL t3), .slice d3 n3 e3, .string (SL t5), .string (SL t6), .string (SL t7), .int .i64 z0, .string (SL t9)] 33)); have hb4 : Below w3.heap.size w3 W4 := by rw [hW4]; exact b4.alloc b4.size _
      have HW4 := h_ hW4; have B4 := h_ (B3.out.trans (hb4.mono B3.out.size)); have S4 := h_ (S3.out.below hb4); clear b4 hb4 hW4; go_wp2_with fail; rw [<- HW4.out]; go_ret2; exact ⟨none, 0, 0, 0, rfl, src_nil _, fun h => absurd h (Nat.lt_irrefl _), B4.out⟩
     | some o =>
      rw [if_pos ⟨hid, rfl⟩]; clear hid; go_enter Tryz.func12, Tryz.ntmps12; go_wp2_with fail; refine HR.out.mono ?_; rintro e w1 ⟨ao, cap, B, off, rfl, s1, n1, b1⟩; have B1 := h_ b1; have hoo := HO.out w1 ao cap B off s1; have HOO := h_ hoo; clear b1 s1 n1 hoo; go_wp2_with fail; refine HOO.out.mono ?_; rintro e w2 ⟨a2, c2, g2, rfl, s2, n2, b2⟩; have B2 := h_ (B1.out.trans (b2.mono B1.out.size)); have S2 := h_ s2; have N2 := h_ n2; rw [<- HLR.out]; have hss := sum_src w2 s2 (by have := HRL.out; omega)
      rw [<- HLR.out] at hss; have HSS := h_ hss; clear b2 s2 n2 hss; go_wp2_with fail; refine HSS.out.mono ?_; rintro e w3 ⟨rfl, b3⟩; have B3 := h_ (B2.out.trans (b3.mono B2.out.size)); have S3 := h_ (S2.out.below b3); clear b3; have hdd := decode_any a2 c2 g2 0 raw w3 S3.out (by have := HRL.out; omega)
      rw [<- HLR.out] at hdd; have HDD := h_ hdd; clear hdd; go_wp2_with fail; refine HDD.out.mono ?_; rintro e w4 h4; obtain ⟨K, z0, d1, d2, d3, n1, n2, n3, e1, e2, e3, t3, t5, t6, t7, t9, rfl, b4⟩ := dec_err_some hdc h4; clear hdc h4; obtain ⟨W4, hW4⟩ := nm_ (w4.alloc (.cells #[.int .i64 K, .slice d1 n1 e1, .slice d2 n2 e2, .string (SL t3), .slice d3 n3 e3, .string (SL t5), .string (SL t6), .string (SL t7), .int .i64 z0, .string (SL t9)] 33)); have hb4 : Below w3.heap.size w3 W4 := by rw [hW4]; exact b4.alloc b4.size _
      have HW4 := h_ hW4; have B4 := h_ (B3.out.trans (hb4.mono B3.out.size)); have S4 := h_ (S3.out.below hb4); clear b4 hb4 hW4; go_wp2_with fail; rw [<- HW4.out]; go_ret2; exact ⟨a2, c2, g2, 0, by rw [<- HLR.out]; rfl, S4.out, fun hp => Nat.le_trans B1.out.size (N2.out hp), B4.out⟩
    ·rw [if_neg (fun h => hid h.1)]
     have hq : ((SL (sumL raw)).toList == (SL id).toList) = false := by rw [SL_toList, SL_toList]; exact beq_eq_false_iff_ne.2 hid
     clear hid; go_enter Tryz.func12, Tryz.ntmps12; go_wp2_with fail; refine HR.out.mono ?_; rintro e w1 ⟨ao, cap, B, off, rfl, s1, n1, b1⟩; have B1 := h_ b1; have hoo := HO.out w1 ao cap B off s1; have HOO := h_ hoo; clear b1 s1 n1 hoo; go_wp2_with fail; refine HOO.out.mono ?_; rintro e w2 ⟨a2, c2, g2, rfl, s2, n2, b2⟩; have B2 := h_ (B1.out.trans (b2.mono B1.out.size)); have S2 := h_ s2; have N2 := h_ n2; rw [<- HLR.out]; have hss := sum_src w2 s2 (by have := HRL.out; omega)
     rw [<- HLR.out] at hss; have HSS := h_ hss; clear b2 s2 n2 hss; go_wp2_with fail; refine HSS.out.mono ?_; rintro e w3 ⟨rfl, b3⟩; have B3 := h_ (B2.out.trans (b3.mono B2.out.size)); have S3 := h_ (S2.out.below b3); clear b3; go_wp2_with fail; go_ret2; exact ⟨none, 0, 0, 0, rfl, src_nil _, fun h => absurd h (Nat.lt_irrefl _), B3.out⟩
 ·rw [getL_arg h32]
  rw [rdL_arg h32] at hrd; have HR := h_ hrd; clear hrd h hg h32; go_enter Tryz.func12, Tryz.ntmps12; go_wp2_with fail; refine HR.out.mono ?_; rintro e w1 ⟨ao, cap, B, off, rfl, s1, n1, b1⟩; have B1 := h_ b1; clear b1 s1 n1; go_wp2_with fail; go_ret2; exact ⟨none, 0, 0, 0, rfl, src_nil _, fun h => absurd h (Nat.lt_irrefl _), B1.out⟩
theorem looseDrop_any : DropSpec := fun w0 w Z p S id h hg hb hl => by
 have hrd := looseRead_any h hg id hl; unfold dropL; have HH := h_ h; clear h; by_cases h32 : id.length = 32
 ·rw [if_pos h32]
  cases hf : findF (nameL id) S.fs with
  | none =>
   rw [if_neg (by unfold thereF; rw [hf]; decide)]
   rw [rdL_none h32 hf] at hrd; have HR := h_ hrd; clear hrd hf hg hb hl h32; go_enter Tryz.func14, Tryz.ntmps14; go_wp2_with fail; refine HR.out.mono ?_; rintro e w1 ⟨ao, cap, B, off, rfl, s1, n1, b1⟩; have H1 := h_ (HH.out.below b1); clear b1 s1 n1; go_wp2_with fail; go_ret; exact ⟨rfl, H1.out⟩
  | some b =>
   rw [if_pos (by unfold thereF; rw [hf]; rfl)]
   rw [rdL_some h32 hf] at hrd; obtain ⟨r, hr⟩ := nm_ (removeS S (nameL id)); rw [<- hr]; have HRR := h_ hr; clear hr; have HR := h_ hrd; have HG := h_ hg; have HB := h_ hb; have HL := h_ hl; clear hrd hf hg hb hl h32; go_enter Tryz.func14, Tryz.ntmps14; go_wp2_with fail; refine HR.out.mono ?_; rintro e w1 ⟨ao, cap, B, off, rfl, s1, n1, b1⟩; have H1 := h_ (HH.out.below b1); clear b1 s1 n1; go_wp2_with fail; refine (looseName_any id w1 HL.out).mono ?_; rintro e w2 ⟨rfl, b2⟩; have H2 := h_ (H1.out.below b2); clear b2; have hrm := H2.out.remove HG.out HB.out (nameL id); rw [<- HRR.out] at hrm; have HRM := h_ hrm; clear hrm; go_wp2_with fail; refine HRM.out.mono ?_; rintro e w3 ⟨rfl, h3⟩; go_wp2_with fail; go_ret; exact ⟨rfl, h3⟩
 ·rw [if_neg h32]
  rw [rdL_arg h32] at hrd; have HR := h_ hrd; clear hrd hg hb hl h32; go_enter Tryz.func14, Tryz.ntmps14; go_wp2_with fail; refine HR.out.mono ?_; rintro e w1 ⟨ao, cap, B, off, rfl, s1, n1, b1⟩; have H1 := h_ (HH.out.below b1); clear b1 s1 n1; go_wp2_with fail; go_ret; exact ⟨rfl, H1.out⟩
end
end Go.Proofs.YtomgijcbekjlaaaGreat
