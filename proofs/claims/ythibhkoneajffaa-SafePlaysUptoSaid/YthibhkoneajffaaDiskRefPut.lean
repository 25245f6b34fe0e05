/- put and drop of the document's disk. -/
import Derived.Test.YthibhkoneajffaaDiskRefSmall
import Derived.Test.YthibhkoneajffaaDiskWrite
namespace Go.Proofs.Ythibhkoneajffaa
open Go.RowKit
theorem sizeOf36 (w : World) : (sizeOf (Try.prog.elem 22)).run Try.prog w = .ok 2 w := by kernel_rfl
section
variable {w : World} {F : Nat → Prop} {ao : Option Addr} {cap : Nat} {P : List (Bs × Value)} {g off : Nat}
theorem fcells_take (P : List (Bs × Value)) (n : Nat) : fcells (P.take n) = (fcells P).take (n * 2) := by
  induction P generalizing n with
  | nil => simp [fcells]
  | cons p r ih =>
    cases n with
    | zero => simp [fcells]
    | succ n =>
      have e : (n + 1) * 2 = n * 2 + 1 + 1 := by omega
      rw [e]
      simp only [List.take_succ_cons, fcells, ih]
theorem fcells_drop (P : List (Bs × Value)) (n : Nat) : fcells (P.drop n) = (fcells P).drop (n * 2) := by
  induction P generalizing n with
  | nil => simp [fcells]
  | cons p r ih =>
    cases n with
    | zero => simp [fcells]
    | succ n =>
      have e : (n + 1) * 2 = n * 2 + 1 + 1 := by omega
      rw [e]
      simp only [List.drop_succ_cons, fcells, ih]
/-- A piece of a slice of files. -/
theorem RawAt.piece (h : RawAt w F ao cap P g off) (l n : Nat) (hl : l + n ≤ P.length) : RawAt w F (if cap = l then ao else ao.map (·.add (l * 2))) (cap - l) ((P.drop l).take n) g (off + l * 2) := by
  have hle := h.le
  have htop := h.top
  have hlen : ((P.drop l).take n).length = n := by rw [List.length_take, List.length_drop]; omega
  refine ⟨by omega, by omega, fun hp => ?_, fun hb => ?_, fun j u hu => ?_⟩
  · obtain ⟨h1, h2⟩ := h.src (by omega)
    exact ⟨by rw [if_neg (by omega), h1, Option.map_some, Addr.add_lit], h2⟩
  · by_cases hc : cap = l
    · rw [if_pos hc] at hb
      have := h.bare hb
      omega
    · rw [if_neg hc] at hb
      have := h.bare (by cases ao with
        | none => rfl
        | some a => cases hb)
      omega
  · rw [fcells_take, fcells_drop, List.getElem?_take] at hu
    split at hu
    · rw [List.getElem?_drop] at hu
      have := h.cell _ u hu
      rwa [← Nat.add_assoc] at this
    · cases hu
/-- d.L[:n]. -/
theorem RawAt.slice_h (h : RawAt w F ao cap P g off) (n : Nat) (hn : n ≤ P.length) :
    ∃ ao', (∀ W : World, (Instr.slice 22 (.slice ao P.length cap) none (some (.int .i64 (n : Int))) none).run Try.prog W = .ok (.slice ao' n cap) W) ∧ RawAt w F ao' cap (P.take n) g off := by
  have hle := h.le
  have hp := h.piece 0 n (by omega)
  rw [List.drop_zero, Nat.sub_zero, Nat.zero_mul, Nat.add_zero] at hp
  refine ⟨_, fun W => ?_, hp⟩
  rw [run_slice_h W 22 ao _ cap (by kernel_rfl) .i64 (n : Int) (by omega) (by omega), sizeOf36]
  simp only [Result.andThen_ok, sliced, Int.toNat_natCast, Nat.sub_zero, Nat.zero_mul]
/-- d.L[n:]. -/
theorem RawAt.slice_l (h : RawAt w F ao cap P g off) (n : Nat) (hn : n ≤ P.length) :
    ∃ ao', (∀ W : World, (Instr.slice 22 (.slice ao P.length cap) (some (.int .i64 (n : Int))) none none).run Try.prog W = .ok (.slice ao' (P.length - n) (cap - n)) W) ∧ RawAt w F ao' (cap - n) (P.drop n) g (off + n * 2) := by
  have hle := h.le
  have hp := h.piece n (P.length - n) (by omega)
  rw [List.take_of_length_le (by rw [List.length_drop]; omega)] at hp
  refine ⟨_, fun W => ?_, hp⟩
  rw [run_slice_l W 22 ao _ cap (by kernel_rfl) .i64 (n : Int) (by omega) (by omega), sizeOf36]
  simp only [Result.andThen_ok, sliced, Int.toNat_natCast]
/-- What is appended out of a slice of files. -/
theorem RawAt.cells (h : RawAt w F ao cap P g off) : ∀ ad, ao = some ad → ∀ j u, (fcells P)[j]? = some u → w.cell? (ad.add j) = some u := by
  intro ad had j u hu
  have hp : 0 < P.length := by have := (List.getElem?_eq_some_iff.1 hu).1; rw [fcells_length] at this; omega
  rw [(h.src hp).1] at had
  cases had
  rw [Addr.add_lit]
  exact h.cell j u hu
end
/-- append of a slice of files to one of the call's own. -/
theorem wpList_append_piece {T E : TypeId} (ht : FileType T E) {ops : Array Oper} {rest : List Oper} {o : Oper} {a : Act} {w : World} {Q : Exit → Act → World → Prop}
    (hgd : o.guard = none) (s x : Operand) (hop : o.op = Op.call { callee := Callee.builtin Builtin.append, args := #[s, x], argTypes := #[T, T] })
    (B : Nat) (v : Value) (F F1 : Nat → Prop) (Q1 P2 : List (Bs × Value)) (L1 L2 : Files) (hS : a.eval s = v) (hown : FilesOwn w E B F v Q1 L1) (ao : Option Addr) (m c g off : Nat) (hX : a.eval x = .slice ao m c)
    (hraw : RawAt w F1 ao c P2 g off) (hhas : Has w F1 P2 L2) (hm : P2.length = m) (hF : ∀ k, k < w.heap.size → F1 k → F k ∧ v.ownBlock ≠ some k) (hb : L1.length + m ≤ 5000000000000) (hB : B ≤ w.heap.size)
    (hK : ∀ v' w', FilesOwn w' E B F v' (Q1 ++ P2) (L1 ++ L2) → Below B w w' → wpList Try.prog ops Q rest (a.put o.dst v') w') : wpList Try.prog ops Q (o :: rest) a w := by
  refine wpList_append_files ht hgd s x hop B v L1.length (fcells Q1) hS hown.own ao m c hX (fcells P2) (by rw [fcells_length, hm]) (fun hn => by rw [← hm]; exact hraw.bare hn) hraw.cells (fcells_one hhas.one') hb hB ?_
  intro v' w' h1 h2 h3
  have hml : L2.length = m := by rw [← hhas.1]; exact hm
  refine hK v' w' (hown.grown (hhas.mono hF) (by rw [hml]; exact h1.out) h2.out h3.out) ⟨h2.out.os, h2.out.tape, h2.out.output, h2.out.size, fun k hk => h2.out.block k (by omega) (fun e => ?_)⟩
  have := (hown.own.lt k e.symm).1
  omega
theorem slice_shape {w : World} {base e s n : Nat} {v : Value} {xs : List Value} (h : w.ownsRow base e s v n xs) : ∃ a n c, v = .slice a n c := by
  rcases h.2 with ⟨rfl, _⟩ | ⟨g, cap, cur, rfl, _⟩
  · exact ⟨_, _, _, rfl⟩
  · exact ⟨_, _, _, rfl⟩
theorem raw_new (w : World) (E : TypeId) (n : Bs) (v : Value) : RawAt (w.alloc (.cells #[.string (SL n), v] E)) (fun k => k = w.heap.size) (some ⟨w.heap.size, 0, none⟩) 1 [(n, v)] w.heap.size 0 :=
  ⟨Nat.le_refl _, by unfold maxLen; omega, fun _ => ⟨rfl, rfl⟩, (fun h => by cases h), fun j u hu => by
    have := cells_new w #[.string (SL n), v] E j u hu
    rw [Addr.add_lit] at this
    exact this⟩
section
variable {w : World} {q : Nat} {G : Nat → Prop} {ao : Option Addr} {cap : Nat} {P : List (Bs × Value)} {g off : Nat} {L : Files}
/-- The list has been laid anew, in new memory and in the struct's block. -/
structure Relaid (w : World) (q : Nat) (G : Nat → Prop) (c d l : Int) (dk : Bool) (L' : Files) (w' : World) : Prop where
  turn : Turn (fun k => k = q) w w'
  head : ∃ lv, w'.heap[q]? = some (refO c d l lv dk) ∧ FilesAt w' (fun k => (G k ∧ k < w.heap.size) ∨ (w.heap.size ≤ k ∧ k < w'.heap.size)) lv L'
set_option maxRecDepth 100000 in
set_option maxHeartbeats 3200000 in
theorem put_any {c d l : Int} {dk : Bool} (hh : w.heap[q]? = some (refO c d l (.slice ao L.length cap) dk)) (hraw : RawAt w G ao cap P g off) (hhas : Has w G P L) (hq : ∀ k, G k → k ≠ q) (hr : Rising L) (hL : L.length ≤ 4000000000000)
    (n : Bs) (ao2 : Option Addr) (cap2 : Nat) (b : Bs) (B2 off2 : Nat) (hs : SrcAt w ao2 cap2 b B2 off2) (hb : b.length ≤ 140737488355328) :
    Calls Try.prog 45 #[ptr q, .string (SL n), .slice ao2 b.length cap2] w fun e w' => e = .returned (.tuple #[]) ∧ Relaid w q G c d l dk (putF n b L) w' := by
  obtain ⟨c0, c1, c2, c3, c4, fr⟩ := ref_cells hh
  have hlist : ListAt w q G ao cap P g off L := ⟨c1, hraw, hhas⟩
  have hfind := find_any hlist hr (by omega) n
  have hpl := posF_le n L
  have hput := putF_place (n := n) b hr
  obtain ⟨N, hN⟩ : ∃ N, N = L.length := ⟨_, rfl⟩
  obtain ⟨J, hJ⟩ : ∃ J, J = posF n L := ⟨_, rfl⟩
  obtain ⟨t, ht⟩ : ∃ t, t = thereF n L := ⟨_, rfl⟩
  obtain ⟨M, hM⟩ : ∃ M, M = b.length := ⟨_, rfl⟩
  rw [← hJ, ← ht] at hfind hput
  rw [← hJ, ← hN] at hpl
  rw [← hN] at c1 hL
  rw [← hM] at hb ⊢
  have hPN : P.length = N := by rw [hN]; exact hhas.1
  obtain ⟨aoH, hslH, hrawH⟩ := hraw.slice_h J (by omega)
  rw [hPN] at hslH
  have hJ2 : (if t = true then J + 1 else J) ≤ N := by
    by_cases htt : t = true
    · rw [if_pos htt]
      rw [ht] at htt
      obtain ⟨p, hp, _⟩ := (there_of hr).1 htt
      have := (List.getElem?_eq_some_iff.1 hp).1
      omega
    · rw [if_neg htt]; exact hpl
  obtain ⟨R, hR⟩ : ∃ R, R = if t = true then J + 1 else J := ⟨_, rfl⟩
  rw [← hR] at hput hJ2
  obtain ⟨aoT, hslT, hrawT⟩ := hraw.slice_l R (by omega)
  rw [hPN] at hslT
  obtain ⟨B, hB⟩ : ∃ B, B = w.heap.size := ⟨_, rfl⟩
  have hwB : w.heap.size ≤ B := by omega
  have hBw : B ≤ w.heap.size := by omega
  have hqB : q < B := by rw [hB]; exact (Array.getElem?_eq_some_iff.1 hh).1
  -- what lies in old memory stays
  have hold : ∀ W, Below B w W → RawAt W (fun k => G k ∧ k < B) aoH cap (P.take J) g off ∧ Has W (fun k => G k ∧ k < B) (P.take J) (L.take J) ∧ RawAt W (fun k => G k ∧ k < B) aoT (cap - R) (P.drop R) g (off + R * 2) ∧ Has W (fun k => G k ∧ k < B) (P.drop R) (L.drop R) := fun W hW => by
    have tt : Turn (fun _ => False) w W := Turn.of_below _ (by rw [← hB]; exact hW)
    have mm : ∀ k, k < w.heap.size → G k → G k ∧ k < B := fun k hk hg => ⟨hg, by omega⟩
    exact ⟨(hrawH.mono mm).turn tt (fun _ _ h => h), ((hhas.mono mm).turn tt (fun _ _ h => h)).take J, (hrawT.mono mm).turn tt (fun _ _ h => h), ((hhas.mono mm).turn tt (fun _ _ h => h)).drop R⟩
  have HOLD := Lib.hid hold
  have HPUT := Lib.hid hput
  have HM := Lib.hid hM
  have HHD := Lib.hid hh
  have HS := Lib.hid hs
  have HFI := Lib.hid hfind
  have HB := Lib.hid hB
  have hlJ : (P.take J).length = J := by rw [List.length_take]; omega
  have hlR : (P.drop R).length = N - R := by rw [List.length_drop]; omega
  have hlJ2 : (L.take J).length = J := by rw [List.length_take]; omega
  have HL1 := Lib.hid hlJ
  have HL2 := Lib.hid hlR
  have HL3 := Lib.hid hlJ2
  have HNL := Lib.hid hN
  have f1 := fr 1
  clear hold hput hraw hhas hN hM hh hPN hs hJ ht hfind hlist hrawT hrawH hlJ hlR hlJ2 hB
  cases t with
  | true =>
    rw [if_pos rfl] at hR
    have hJR : (J : Int) + 1 = (R : Int) := by omega
    clear hR
    go_enter Try.func45, Try.ntmps45
    go_wp2_with (first
      | (go_at_call 65; refine HFI.out.mono ?_; rintro e w1 ⟨rfl, m0, rfl⟩; have b0 : Below B w (w.drewN m0) := below_drewN (Below.refl _ _) m0; obtain ⟨r1, r2, _, _⟩ := HOLD.out _ b0; have HR1 := Lib.hid r1; have HR2 := Lib.hid r2; clear r1 r2)
      | (at_builtin; refine wpList_append_piece files74 rfl _ _ rfl B (.slice none 0 0) (fun k => (G k ∧ k < B) ∨ B ≤ k) _ [] _ [] _ rfl (FilesOwn.nil _ _ _ _) aoH J cap g off rfl HR1.out HR2.out HL1.out (fun k _ hk => ⟨.inl hk, (fun e => by cases e)⟩) (by simp only [List.length_nil]; omega) (by exact hBw) ?_; intro v1 w1 o1 b1; have bw1 := b0.trans b1; have O1 := Lib.hid o1; have k1 : w1.cell? ⟨q, 1, none⟩ = some (.slice ao N cap) := (bw1.cell (p := ⟨q, 1, none⟩) hqB).trans c1; clear o1 b1 b0 HR1 HR2)
      | (at_builtin; refine wpList_append_src rfl _ _ rfl w1.heap.size _ 0 [] rfl (owns_of_row (heap_alloc_new _ _) (Nat.le_refl _) (Nat.le_refl _) (Nat.zero_le _) rfl rfl rfl) ao2 M cap2 rfl (b.map B8) (by rw [List.length_map]; exact HM.out.symm) (fun hh => by rw [HM.out]; exact HS.out.bare hh) ((HS.out.below (by rw [← HB.out]; exact bw1.alloc (Nat.le_trans hBw bw1.size) _)).cells) (B8_one _) (by omega) (by simp) ?_; intro v2 w2 hown2 hg2 hv2; have b2 : Below w1.heap.size w1 w2 := ((Below.refl _ _).alloc (Nat.le_refl _) _).grown hg2 (by simp) (fun k hk => by cases hk; exact Nat.le_refl _); have o2 := own_first hown2; rw [HM.out] at o2; obtain ⟨ao3, cap3, B3, rfl, s3, hB3⟩ := src_of_own o2; have S3 := Lib.hid s3; have HB3 := Lib.hid hB3; clear s3 hB3 o2 hown2 hg2 hv2; rw [← HM.out]; have bw2 := bw1.trans (b2.mono (Nat.le_trans hBw bw1.size)); have k2 : w2.cell? ⟨q, 1, none⟩ = some (.slice ao N cap) := (bw2.cell (p := ⟨q, 1, none⟩) hqB).trans c1)
      | (at_builtin; refine wpList_append_piece files74 rfl _ _ rfl B v1 (fun k => (G k ∧ k < B) ∨ B ≤ k) (fun k => B ≤ k ∧ v1.ownBlock ≠ some k) _ [(n, .slice ao3 M cap3)] _ [(n, b)] rfl (O1.out.turn (Turn.of_below (fun _ => False) (b2.alloc b2.size _)) (fun _ _ h => h) (fun _ _ h => h)) (some ⟨w2.heap.size, 0, none⟩) 1 1 w2.heap.size 0 rfl ((raw_new w2 57 n (.slice ao3 M cap3)).mono (fun k _ hk => by subst hk; have h1 := b2.size; have h2 := bw1.size; exact ⟨by omega, fun e => by have h3 := (O1.out.own.lt _ e).2; omega⟩)) (Has.one (by refine ⟨ao3, cap3, B3, 0, by rw [HM.out], S3.out.below ((Below.refl _ _).alloc (Nat.le_refl _) _), fun hp => ?_⟩; have h0 := HB3.out hp; have h2 := bw1.size; exact ⟨by omega, fun e => by have h3 := (O1.out.own.lt _ e).2; omega⟩)) rfl (fun k _ hk => ⟨.inr hk.1, hk.2⟩) (by have h1 := HL3.out; rw [List.nil_append, h1]; omega) (by have h1 := b2.size; have h2 := bw1.size; simp; omega) ?_; intro v3 w3 o3 b3; have bw3 := (bw2.alloc (Nat.le_trans hBw bw2.size) _).trans b3; have O3 := Lib.hid o3; clear o3 b3; obtain ⟨_, _, r3, r4⟩ := HOLD.out _ bw3; have HR3 := Lib.hid r3; have HR4 := Lib.hid r4; have k3 : w3.cell? ⟨q, 1, none⟩ = some (.slice ao N cap) := (bw3.cell (p := ⟨q, 1, none⟩) hqB).trans c1; clear r3 r4)
      | (at_builtin; refine wpList_append_piece files74 rfl _ _ rfl B v3 (fun k => (G k ∧ k < B) ∨ B ≤ k) _ _ _ _ _ rfl O3.out aoT (N - R) (cap - R) g (off + R * 2) rfl HR3.out HR4.out HL2.out (fun k _ hk => ⟨.inl hk, (fun e => by have := (O3.out.own.lt _ e).1; omega)⟩) (by have h1 := HL3.out; simp only [List.nil_append, List.length_append, List.length_cons, List.length_nil, h1]; omega) (Nat.le_trans hBw bw3.size) ?_; intro v4 w4 o4 b4; obtain ⟨ao4, n4, cap4, hv4⟩ : ∃ a n c, v4 = .slice a n c := slice_shape o4.own; subst hv4; have bw4 := bw3.trans b4; have O4 := Lib.hid o4; clear o4 b4; have k4 : w4.cell? ⟨q, 1, none⟩ = some (.slice ao N cap) := (bw4.cell (p := ⟨q, 1, none⟩) hqB).trans c1; have f4 : w4.frozen? ⟨q, 1, none⟩ = false := (bw4.frozen (p := ⟨q, 1, none⟩) hqB).trans f1))
    go_end0
    have hq4 : w4.heap[q]? = some (refO c d l (.slice ao L.length cap) dk) := (bw4.block q hqB).trans HHD.out
    have hset := heap_setCell_same w4 q 1 _ 42 (.slice ao4 n4 cap4) hq4
    have hfiles := O4.out.files (F := fun k => (G k ∧ k < B) ∨ B ≤ k) (fun g hg _ _ => .inr hg)
    have hput := HPUT.out
    rw [List.nil_append, List.append_assoc, List.singleton_append] at hfiles
    rw [← hput] at hfiles
    have hBe := HB.out
    refine ⟨rfl, ⟨(Turn.of_below _ (by rw [← hBe]; exact bw4)).trans (turn_set q 1 w4 _), _, hset, ?_⟩⟩
    have hsz : (w4.setCell ⟨q, 1, none⟩ (.slice ao4 n4 cap4)).heap.size = w4.heap.size := by simp [World.setCell]
    have h5 := hfiles.mono (F' := fun k => (G k ∧ k < B) ∨ (B ≤ k ∧ k < w4.heap.size)) (fun k hk h => h.imp id (fun h => ⟨h, hk⟩))
    rw [← hBe, hsz]
    exact h5.turn (turn_set q 1 w4 _) (fun k hk => by rcases hk with h | h; exact hq k h.1; intro e; omega)
  | false =>
    rw [if_neg (by simp)] at hR
    obtain rfl : J = R := hR.symm
    go_enter Try.func45, Try.ntmps45
    go_wp2_with (first
      | (go_at_call 65; refine HFI.out.mono ?_; rintro e w1 ⟨rfl, m0, rfl⟩; have b0 : Below B w (w.drewN m0) := below_drewN (Below.refl _ _) m0; obtain ⟨r1, r2, _, _⟩ := HOLD.out _ b0; have HR1 := Lib.hid r1; have HR2 := Lib.hid r2; clear r1 r2)
      | (at_builtin; refine wpList_append_piece files74 rfl _ _ rfl B (.slice none 0 0) (fun k => (G k ∧ k < B) ∨ B ≤ k) _ [] _ [] _ rfl (FilesOwn.nil _ _ _ _) aoH J cap g off rfl HR1.out HR2.out HL1.out (fun k _ hk => ⟨.inl hk, (fun e => by cases e)⟩) (by simp only [List.length_nil]; omega) (by exact hBw) ?_; intro v1 w1 o1 b1; have bw1 := b0.trans b1; have O1 := Lib.hid o1; have k1 : w1.cell? ⟨q, 1, none⟩ = some (.slice ao N cap) := (bw1.cell (p := ⟨q, 1, none⟩) hqB).trans c1; clear o1 b1 b0 HR1 HR2)
      | (at_builtin; refine wpList_append_src rfl _ _ rfl w1.heap.size _ 0 [] rfl (owns_of_row (heap_alloc_new _ _) (Nat.le_refl _) (Nat.le_refl _) (Nat.zero_le _) rfl rfl rfl) ao2 M cap2 rfl (b.map B8) (by rw [List.length_map]; exact HM.out.symm) (fun hh => by rw [HM.out]; exact HS.out.bare hh) ((HS.out.below (by rw [← HB.out]; exact bw1.alloc (Nat.le_trans hBw bw1.size) _)).cells) (B8_one _) (by omega) (by simp) ?_; intro v2 w2 hown2 hg2 hv2; have b2 : Below w1.heap.size w1 w2 := ((Below.refl _ _).alloc (Nat.le_refl _) _).grown hg2 (by simp) (fun k hk => by cases hk; exact Nat.le_refl _); have o2 := own_first hown2; rw [HM.out] at o2; obtain ⟨ao3, cap3, B3, rfl, s3, hB3⟩ := src_of_own o2; have S3 := Lib.hid s3; have HB3 := Lib.hid hB3; clear s3 hB3 o2 hown2 hg2 hv2; rw [← HM.out]; have bw2 := bw1.trans (b2.mono (Nat.le_trans hBw bw1.size)); have k2 : w2.cell? ⟨q, 1, none⟩ = some (.slice ao N cap) := (bw2.cell (p := ⟨q, 1, none⟩) hqB).trans c1)
      | (at_builtin; refine wpList_append_piece files74 rfl _ _ rfl B v1 (fun k => (G k ∧ k < B) ∨ B ≤ k) (fun k => B ≤ k ∧ v1.ownBlock ≠ some k) _ [(n, .slice ao3 M cap3)] _ [(n, b)] rfl (O1.out.turn (Turn.of_below (fun _ => False) (b2.alloc b2.size _)) (fun _ _ h => h) (fun _ _ h => h)) (some ⟨w2.heap.size, 0, none⟩) 1 1 w2.heap.size 0 rfl ((raw_new w2 57 n (.slice ao3 M cap3)).mono (fun k _ hk => by subst hk; have h1 := b2.size; have h2 := bw1.size; exact ⟨by omega, fun e => by have h3 := (O1.out.own.lt _ e).2; omega⟩)) (Has.one (by refine ⟨ao3, cap3, B3, 0, by rw [HM.out], S3.out.below ((Below.refl _ _).alloc (Nat.le_refl _) _), fun hp => ?_⟩; have h0 := HB3.out hp; have h2 := bw1.size; exact ⟨by omega, fun e => by have h3 := (O1.out.own.lt _ e).2; omega⟩)) rfl (fun k _ hk => ⟨.inr hk.1, hk.2⟩) (by have h1 := HL3.out; rw [List.nil_append, h1]; omega) (by have h1 := b2.size; have h2 := bw1.size; simp; omega) ?_; intro v3 w3 o3 b3; have bw3 := (bw2.alloc (Nat.le_trans hBw bw2.size) _).trans b3; have O3 := Lib.hid o3; clear o3 b3; obtain ⟨_, _, r3, r4⟩ := HOLD.out _ bw3; have HR3 := Lib.hid r3; have HR4 := Lib.hid r4; have k3 : w3.cell? ⟨q, 1, none⟩ = some (.slice ao N cap) := (bw3.cell (p := ⟨q, 1, none⟩) hqB).trans c1; clear r3 r4)
      | (at_builtin; refine wpList_append_piece files74 rfl _ _ rfl B v3 (fun k => (G k ∧ k < B) ∨ B ≤ k) _ _ _ _ _ rfl O3.out aoT (N - J) (cap - J) g (off + J * 2) rfl HR3.out HR4.out HL2.out (fun k _ hk => ⟨.inl hk, (fun e => by have := (O3.out.own.lt _ e).1; omega)⟩) (by have h1 := HL3.out; simp only [List.nil_append, List.length_append, List.length_cons, List.length_nil, h1]; omega) (Nat.le_trans hBw bw3.size) ?_; intro v4 w4 o4 b4; obtain ⟨ao4, n4, cap4, hv4⟩ : ∃ a n c, v4 = .slice a n c := slice_shape o4.own; subst hv4; have bw4 := bw3.trans b4; have O4 := Lib.hid o4; clear o4 b4; have k4 : w4.cell? ⟨q, 1, none⟩ = some (.slice ao N cap) := (bw4.cell (p := ⟨q, 1, none⟩) hqB).trans c1; have f4 : w4.frozen? ⟨q, 1, none⟩ = false := (bw4.frozen (p := ⟨q, 1, none⟩) hqB).trans f1))
    go_end0
    have hq4 : w4.heap[q]? = some (refO c d l (.slice ao L.length cap) dk) := (bw4.block q hqB).trans HHD.out
    have hset := heap_setCell_same w4 q 1 _ 42 (.slice ao4 n4 cap4) hq4
    have hfiles := O4.out.files (F := fun k => (G k ∧ k < B) ∨ B ≤ k) (fun g hg _ _ => .inr hg)
    have hput := HPUT.out
    rw [List.nil_append, List.append_assoc, List.singleton_append] at hfiles
    rw [← hput] at hfiles
    have hBe := HB.out
    refine ⟨rfl, ⟨(Turn.of_below _ (by rw [← hBe]; exact bw4)).trans (turn_set q 1 w4 _), _, hset, ?_⟩⟩
    have hsz : (w4.setCell ⟨q, 1, none⟩ (.slice ao4 n4 cap4)).heap.size = w4.heap.size := by simp [World.setCell]
    have h5 := hfiles.mono (F' := fun k => (G k ∧ k < B) ∨ (B ≤ k ∧ k < w4.heap.size)) (fun k hk h => h.imp id (fun h => ⟨h, hk⟩))
    rw [← hBe, hsz]
    exact h5.turn (turn_set q 1 w4 _) (fun k hk => by rcases hk with h | h; exact hq k h.1; intro e; omega)
end
end Go.Proofs.Ythibhkoneajffaa
