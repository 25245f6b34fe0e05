/- Package row's reading and the program's take, as plain mathematics: what bytes are read as is what they are decoded to. No function of the program here. -/
import Derived.Test.YtjieljmlpbiidaaObjPure
namespace Go.Proofs.Ytjieljmlpbiidaa
def gone : RS := ([], true)
def wBytes (n : Nat) (s : RS) : OB × RS := if s.1.length < n then ([], gone) else (s.1.take n, (s.1.drop n, s.2))
def wNum (m : Nat) (s : RS) : Nat × RS := match parse s.1 with
  | none => (0, gone)
  | some p => if m < p.1 then (0, gone) else (p.1, (s.1.drop p.2, s.2))
def wText (m : Nat) (s : RS) : OB × RS := wBytes (wNum m s).1 (wNum m s).2
def wByte (s : RS) : UInt8 × RS := match s.1 with
  | [] => (0, gone)
  | c :: r => (c, (r, s.2))
def wDir (s : RS) : Bool × RS := ((wByte s).1 == 1, if (wByte s).1 = 1 ∨ (wByte s).1 = 0 then (wByte s).2 else gone)
def wEnt (s : RS) : EntR × RS := (⟨(wText 100 s).1, (wDir (wText 100 s).2).1, (wBytes 32 (wDir (wText 100 s).2).2).1⟩, (wBytes 32 (wDir (wText 100 s).2).2).2)
def wEnts : Nat → RS → List EntR × RS
  | 0, s => ([], s)
  | n + 1, s => ((wEnt s).1 :: (wEnts n (wEnt s).2).1, (wEnts n (wEnt s).2).2)
def wUps : Nat → RS → List OB × RS
  | 0, s => ([], s)
  | n + 1, s => ((wBytes 32 s).1 :: (wUps n (wBytes 32 s).2).1, (wUps n (wBytes 32 s).2).2)
/-- Who, Stamp, Text. -/
def wNote (o : ObjR) (s : RS) : ObjR × RS := ({ o with who := (wText 1000 s).1, stamp := ((wNum 1099511627776 (wText 1000 s).2).1 : Int), text := (wText 1000 (wNum 1099511627776 (wText 1000 s).2).2).1 }, (wText 1000 (wNum 1099511627776 (wText 1000 s).2).2).2)
def wTree (s : RS) : ObjR × RS := ({ zeroO 2 with ents := (wEnts (wNum 4096 s).1 (wNum 4096 s).2).1 }, (wEnts (wNum 4096 s).1 (wNum 4096 s).2).2)
def wCommit (s : RS) : ObjR × RS :=
  wNote { zeroO 3 with tree := (wBytes 32 s).1, ups := (wUps (wNum 4 (wBytes 32 s).2).1 (wNum 4 (wBytes 32 s).2).2).1 } (wUps (wNum 4 (wBytes 32 s).2).1 (wNum 4 (wBytes 32 s).2).2).2
def wTag (s : RS) : ObjR × RS := wNote { zeroO 4 with target := (wBytes 32 s).1, name := (wText 200 (wBytes 32 s).2).1 } (wText 200 (wBytes 32 s).2).2
def wBody (c : UInt8) (s : RS) : ObjR × RS :=
  if c = 1 then ({ zeroO 1 with data := (wBytes s.1.length s).1 }, (wBytes s.1.length s).2) else if c = 2 then wTree s else if c = 3 then wCommit s else if c = 4 then wTag s else (zeroO 0, s)
/-- What a row tells. -/
def wO (s : RS) : ObjR × RS := wBody (wByte s).1 (wByte s).2
def wDec (b : OB) : Option ObjR := if (wO (b, false)).2.2 = true ∨ (wO (b, false)).2.1 ≠ [] ∨ okO (wO (b, false)).1 = false then none else some (wO (b, false)).1
/-! ### Back: what could be taken was there -/
theorem wBytes_inv {n : Nat} {s : RS} (h : (wBytes n s).2.2 = false) : s.2 = false ∧ s.1 = (wBytes n s).1 ++ (wBytes n s).2.1 ∧ (wBytes n s).1.length = n := by
  unfold wBytes at h ⊢
  split at h
  · cases h
  · rename_i hn
    rw [if_neg hn]
    exact ⟨h, (List.take_append_drop n s.1).symm, by rw [List.length_take]; omega⟩
theorem wNum_inv {m : Nat} {s : RS} (h : (wNum m s).2.2 = false) : s.2 = false ∧ s.1 = numL (wNum m s).1 ++ (wNum m s).2.1 ∧ (wNum m s).1 ≤ m ∧ (wNum m s).1 ≤ 4611686018427387903 := by
  unfold wNum at h ⊢
  cases hp : parse s.1 with
  | none => rw [hp] at h; cases h
  | some p =>
    rw [hp] at h
    simp only at h ⊢
    split at h
    · cases h
    · rename_i hn
      rw [if_neg hn]
      obtain ⟨h1, r, h2, h3⟩ := parse_some (n := p.1) (k := p.2) hp
      refine ⟨h, ?_, by omega, h1⟩
      simp only
      rw [h2, h3]
      simp
theorem wText_inv {m : Nat} {s : RS} (h : (wText m s).2.2 = false) : s.2 = false ∧ s.1 = txtL (wText m s).1 ++ (wText m s).2.1 ∧ (wText m s).1.length ≤ m := by
  unfold wText at h ⊢
  obtain ⟨h1, h2, h3⟩ := wBytes_inv h
  obtain ⟨h4, h5, h6, _⟩ := wNum_inv h1
  refine ⟨h4, ?_, by omega⟩
  unfold txtL
  rw [List.append_assoc, ← h2, h3]
  exact h5
theorem wByte_inv {s : RS} (h : (wByte s).2.2 = false) : s.2 = false ∧ s.1 = (wByte s).1 :: (wByte s).2.1 := by
  unfold wByte at h ⊢
  obtain ⟨b, x⟩ := s
  cases b with
  | nil => cases h
  | cons c r => exact ⟨h, rfl⟩
theorem wDir_inv {s : RS} (h : (wDir s).2.2 = false) : s.2 = false ∧ s.1 = (if (wDir s).1 = true then 1 else 0) :: (wDir s).2.1 := by
  unfold wDir at h ⊢
  simp only at h ⊢
  by_cases hc : (wByte s).1 = 1 ∨ (wByte s).1 = 0
  · rw [if_pos hc] at h ⊢
    obtain ⟨h1, h2⟩ := wByte_inv h
    refine ⟨h1, ?_⟩
    rcases hc with hc | hc
    · rw [hc] at h2 ⊢
      exact h2
    · rw [hc] at h2 ⊢
      exact h2
  · rw [if_neg hc] at h
    cases h
theorem wEnt_inv {s : RS} (h : (wEnt s).2.2 = false) : s.2 = false ∧ s.1 = entL (wEnt s).1 ++ (wEnt s).2.1 := by
  unfold wEnt at h ⊢
  obtain ⟨h1, h2, h3⟩ := wBytes_inv h
  obtain ⟨h4, h5⟩ := wDir_inv h1
  obtain ⟨h6, h7, _⟩ := wText_inv h4
  refine ⟨h6, ?_⟩
  unfold entL
  simp only [List.append_assoc, List.cons_append]
  rw [← h2, ← h5]
  exact h7
theorem wEnts_inv : ∀ {n : Nat} {s : RS}, (wEnts n s).2.2 = false → s.2 = false ∧ s.1 = ((wEnts n s).1.map entL).flatten ++ (wEnts n s).2.1 ∧ (wEnts n s).1.length = n
  | 0, s, h => ⟨h, by simp [wEnts], rfl⟩
  | n + 1, s, h => by
    unfold wEnts at h ⊢
    obtain ⟨h1, h2, h3⟩ := wEnts_inv (n := n) h
    obtain ⟨h4, h5⟩ := wEnt_inv h1
    refine ⟨h4, ?_, by rw [List.length_cons, h3]⟩
    simp only [List.map_cons, List.flatten_cons, List.append_assoc]
    rw [← h2]
    exact h5
theorem wUps_inv : ∀ {n : Nat} {s : RS}, (wUps n s).2.2 = false → s.2 = false ∧ s.1 = (wUps n s).1.flatten ++ (wUps n s).2.1 ∧ (wUps n s).1.length = n
  | 0, s, h => ⟨h, by simp [wUps], rfl⟩
  | n + 1, s, h => by
    unfold wUps at h ⊢
    obtain ⟨h1, h2, h3⟩ := wUps_inv (n := n) h
    obtain ⟨h4, h5, _⟩ := wBytes_inv h1
    refine ⟨h4, ?_, by rw [List.length_cons, h3]⟩
    simp only [List.flatten_cons, List.append_assoc]
    rw [← h2]
    exact h5
theorem wNote_inv {o : ObjR} {s : RS} (h : (wNote o s).2.2 = false) : s.2 = false ∧ s.1 = tailO (wNote o s).1 ++ (wNote o s).2.1 := by
  unfold wNote at h ⊢
  obtain ⟨h1, h2, _⟩ := wText_inv h
  obtain ⟨h3, h4, _⟩ := wNum_inv h1
  obtain ⟨h5, h6, _⟩ := wText_inv h3
  refine ⟨h5, ?_⟩
  unfold tailO
  simp only [List.append_assoc, Int.toNat_natCast]
  rw [← h2, ← h4]
  exact h6
/-- What was taken whole is laid as it was. -/
theorem wO_inv {b : OB} (h : (wO (b, false)).2.2 = false) (h0 : (wO (b, false)).2.1 = []) (hk : okO (wO (b, false)).1 = true) : encO (wO (b, false)).1 = b := by
  unfold wO at h h0 hk ⊢
  obtain ⟨c, hc⟩ : ∃ c, c = (wByte (b, false)).1 := ⟨_, rfl⟩
  obtain ⟨s, hs⟩ : ∃ s, s = (wByte (b, false)).2 := ⟨_, rfl⟩
  rw [← hc, ← hs] at h h0 hk ⊢
  have hb : s.2 = false → b = c :: s.1 := fun hf => by
    have := (wByte_inv (s := (b, false)) (by rw [← hs]; exact hf)).2
    rw [← hc, ← hs] at this
    exact this
  clear hc hs
  unfold wBody at h h0 hk ⊢
  by_cases h1 : c = 1
  · subst h1
    simp only [if_true] at h h0 hk ⊢
    obtain ⟨e1, e2, _⟩ := wBytes_inv h
    rw [hb e1]
    show UInt8.ofNat 1 :: (wBytes s.1.length s).1 = 1 :: s.1
    rw [h0, List.append_nil] at e2
    rw [← e2]
    rfl
  · rw [if_neg h1] at h h0 hk ⊢
    by_cases h2 : c = 2
    · subst h2
      simp only [if_true] at h h0 hk ⊢
      unfold wTree at h h0 ⊢
      obtain ⟨e1, e2, e3⟩ := wEnts_inv h
      obtain ⟨e4, e5, _⟩ := wNum_inv e1
      rw [hb e4]
      rw [h0, List.append_nil] at e2
      show UInt8.ofNat 2 :: (numL (wEnts (wNum 4096 s).1 (wNum 4096 s).2).1.length ++ ((wEnts (wNum 4096 s).1 (wNum 4096 s).2).1.map entL).flatten) = 2 :: s.1
      rw [e3, ← e2, ← e5]
      rfl
    · rw [if_neg h2] at h h0 hk ⊢
      by_cases h3 : c = 3
      · subst h3
        simp only [if_true] at h h0 hk ⊢
        unfold wCommit at h h0 ⊢
        obtain ⟨e1, e2⟩ := wNote_inv h
        obtain ⟨e3, e4, e5⟩ := wUps_inv e1
        obtain ⟨e6, e7, _⟩ := wNum_inv e3
        obtain ⟨e8, e9, _⟩ := wBytes_inv e6
        rw [hb e8]
        rw [h0, List.append_nil] at e2
        obtain ⟨o, ho⟩ : ∃ o, o = (wNote { zeroO 3 with tree := (wBytes 32 s).1, ups := (wUps (wNum 4 (wBytes 32 s).2).1 (wNum 4 (wBytes 32 s).2).2).1 } (wUps (wNum 4 (wBytes 32 s).2).1 (wNum 4 (wBytes 32 s).2).2).2).1 := ⟨_, rfl⟩
        rw [← ho] at e2 ⊢
        have o1 : o.kind = 3 := by rw [ho]; rfl
        have o2 : o.tree = (wBytes 32 s).1 := by rw [ho]; rfl
        have o3 : o.ups = (wUps (wNum 4 (wBytes 32 s).2).1 (wNum 4 (wBytes 32 s).2).2).1 := by rw [ho]; rfl
        have hb2 : bodyL o = o.tree ++ (numL o.ups.length ++ (o.ups.flatten ++ tailO o)) := by unfold bodyL; rw [o1]; rfl
        unfold encO
        rw [hb2, o1, o2, o3, e5, ← e2, ← e4, ← e7, ← e9]
        rfl
      · rw [if_neg h3] at h h0 hk ⊢
        by_cases h4 : c = 4
        · subst h4
          simp only [if_true] at h h0 hk ⊢
          unfold wTag at h h0 ⊢
          obtain ⟨e1, e2⟩ := wNote_inv h
          obtain ⟨e3, e4, _⟩ := wText_inv e1
          obtain ⟨e8, e9, _⟩ := wBytes_inv e3
          rw [hb e8]
          rw [h0, List.append_nil] at e2
          obtain ⟨o, ho⟩ : ∃ o, o = (wNote { zeroO 4 with target := (wBytes 32 s).1, name := (wText 200 (wBytes 32 s).2).1 } (wText 200 (wBytes 32 s).2).2).1 := ⟨_, rfl⟩
          rw [← ho] at e2 ⊢
          have o1 : o.kind = 4 := by rw [ho]; rfl
          have o2 : o.target = (wBytes 32 s).1 := by rw [ho]; rfl
          have o3 : o.name = (wText 200 (wBytes 32 s).2).1 := by rw [ho]; rfl
          have hb2 : bodyL o = o.target ++ (txtL o.name ++ tailO o) := by unfold bodyL; rw [o1]; rfl
          unfold encO
          rw [hb2, o1, o2, o3, ← e2, ← e4, ← e9]
          rfl
        · rw [if_neg h4] at hk
          simp [okO, zeroO] at hk
/-! ### There: what was laid is taken as it was -/
theorem wBytes_app {t r : OB} {n : Nat} (h : t.length = n) (x : Bool) : wBytes n (t ++ r, x) = (t, (r, x)) := by
  subst h
  unfold wBytes
  rw [if_neg (by simp)]
  simp
theorem wNum_app {n m : Nat} (h : n ≤ 4611686018427387903) (hm : n ≤ m) (r : OB) (x : Bool) : wNum m (numL n ++ r, x) = (n, (r, x)) := by
  unfold wNum
  simp only [parse_numL n r h]
  rw [if_neg (by omega)]
  simp
theorem wText_app {t : OB} {m : Nat} (h : t.length ≤ m) (h2 : t.length ≤ 1048576) (r : OB) (x : Bool) : wText m (txtL t ++ r, x) = (t, (r, x)) := by
  unfold wText txtL
  rw [List.append_assoc, wNum_app (by omega) h]
  exact wBytes_app rfl x
theorem wEnt_app {e : EntR} (h : entB e = true) (r : OB) : wEnt (entL e ++ r, false) = (e, (r, false)) := by
  unfold entB at h
  rw [Bool.and_eq_true, decide_eq_true_eq] at h
  have hp : e.nm.length ≤ 100 := by
    have := h.1
    unfold partB at this
    simp only [Bool.and_eq_true, decide_eq_true_eq] at this
    omega
  obtain ⟨nm, dir, id⟩ := e
  simp only at h hp
  unfold wEnt entL
  simp only [List.append_assoc]
  rw [wText_app hp (by omega)]
  have hd : wDir ((if dir = true then (1 : UInt8) else 0) :: id ++ r, false) = (dir, (id ++ r, false)) := by cases dir <;> rfl
  simp only
  rw [hd]
  simp only
  rw [wBytes_app h.2]
theorem wEnts_app : ∀ {l : List EntR}, l.all entB = true → ∀ r : OB, wEnts l.length ((l.map entL).flatten ++ r, false) = (l, (r, false))
  | [], _, r => rfl
  | e :: l, h, r => by
    rw [List.all_cons, Bool.and_eq_true] at h
    simp only [List.length_cons, List.map_cons, List.flatten_cons, List.append_assoc]
    unfold wEnts
    rw [wEnt_app h.1]
    simp only
    rw [wEnts_app h.2]
theorem wUps_app : ∀ {l : List OB}, l.all (fun u => decide (u.length = 32)) = true → ∀ r : OB, wUps l.length (l.flatten ++ r, false) = (l, (r, false))
  | [], _, r => rfl
  | e :: l, h, r => by
    rw [List.all_cons, Bool.and_eq_true, decide_eq_true_eq] at h
    simp only [List.length_cons, List.flatten_cons, List.append_assoc]
    unfold wUps
    rw [wBytes_app h.1]
    simp only
    rw [wUps_app h.2]
theorem wNote_app {o : ObjR} (h : toldB o = true) (p : ObjR) (r : OB) : wNote p (tailO o ++ r, false) = ({ p with who := o.who, stamp := o.stamp, text := o.text }, (r, false)) := by
  obtain ⟨h1, h2, h3, h4⟩ := told_is h
  unfold wNote tailO
  simp only [List.append_assoc]
  rw [wText_app h1 (by omega)]
  simp only
  rw [wNum_app (by omega) (by omega)]
  simp only
  rw [wText_app h2 (by omega)]
  have : ((o.stamp.toNat : Nat) : Int) = o.stamp := by omega
  rw [this]
theorem wO_enc {o : ObjR} (h : okO o = true) : wO (encO o, false) = (o, ([], false)) := by
  rcases ok_cases h with ⟨d, hd, rfl⟩ | ⟨l, hl, rfl⟩ | ⟨e, h1, h2, h3⟩ | ⟨e, h1, h2, h2', h3⟩
  · show wBody 1 (d, false) = _
    unfold wBody
    simp only [if_true]
    have := wBytes_app (t := d) (r := []) (n := d.length) rfl false
    rw [List.append_nil] at this
    rw [this]
  · obtain ⟨k1, k2⟩ := ents_is hl
    show wTree (numL l.length ++ (l.map entL).flatten, false) = _
    unfold wTree
    rw [wNum_app (by omega) (by omega)]
    simp only
    have := wEnts_app k1 []
    rw [List.append_nil] at this
    rw [this]
  · obtain ⟨k1, k2⟩ := ups_is h2
    have hk : o.kind = 3 := by rw [e]; rfl
    have hb : encO o = 3 :: (o.tree ++ (numL o.ups.length ++ (o.ups.flatten ++ tailO o))) := by unfold encO bodyL; rw [hk]; rfl
    rw [hb]
    show wCommit (o.tree ++ (numL o.ups.length ++ (o.ups.flatten ++ tailO o)), false) = _
    unfold wCommit
    rw [wBytes_app h1]
    simp only
    rw [wNum_app (by omega) (by omega)]
    simp only
    rw [wUps_app k1]
    simp only
    have := wNote_app h3 { zeroO 3 with tree := o.tree, ups := o.ups } []
    rw [List.append_nil] at this
    rw [this]
    exact congrArg (fun x => (x, (([], false) : RS))) e.symm
  · have hk : o.kind = 4 := by rw [e]; rfl
    have hb : encO o = 4 :: (o.target ++ (txtL o.name ++ tailO o)) := by unfold encO bodyL; rw [hk]; rfl
    rw [hb]
    show wTag (o.target ++ (txtL o.name ++ tailO o), false) = _
    unfold wTag
    rw [wBytes_app h1]
    simp only
    rw [wText_app (by omega) (by omega)]
    simp only
    have := wNote_app h3 { zeroO 4 with target := o.target, name := o.name } []
    rw [List.append_nil] at this
    rw [this]
    exact congrArg (fun x => (x, (([], false) : RS))) e.symm
/-- Both read the same object, or none. -/
theorem wDec_eq (b : OB) : wDec b = decO b := by
  cases hd : decO b with
  | some o =>
    obtain ⟨h1, h2⟩ := dec_iff.1 hd
    subst h2
    unfold wDec
    rw [wO_enc h1, if_neg]
    rintro (k | k | k)
    · cases k
    · exact k rfl
    · rw [h1] at k; cases k
  | none =>
    unfold wDec
    split
    · rfl
    · rename_i hn
      exfalso
      have a1 : (wO (b, false)).2.2 = false := by cases h : (wO (b, false)).2.2 with | false => rfl | true => exact absurd (.inl h) hn
      have a2 : (wO (b, false)).2.1 = [] := Classical.byContradiction fun h => hn (.inr (.inl h))
      have a3 : okO (wO (b, false)).1 = true := by cases h : okO (wO (b, false)).1 with | true => rfl | false => exact absurd (.inr (.inr h)) hn
      have := dec_iff.2 ⟨a3, wO_inv a1 a2 a3⟩
      rw [hd] at this
      cases this
end Go.Proofs.Ytjieljmlpbiidaa
