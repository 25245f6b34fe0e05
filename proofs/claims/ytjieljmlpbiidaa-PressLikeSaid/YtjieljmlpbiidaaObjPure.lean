/- Package object as plain mathematics: which objects may be, their bytes, and what bytes are read as. No function of the program here. -/
import Derived.Test.YtjieljmlpbiidaaCodeNum
namespace Go.Proofs.Ytjieljmlpbiidaa
abbrev OB := List UInt8
structure EntR where
  nm : OB
  dir : Bool
  id : OB
structure ObjR where
  kind : Int
  data : OB
  ents : List EntR
  tree : OB
  ups : List OB
  target : OB
  name : OB
  who : OB
  stamp : Int
  text : OB
def zeroO (k : Int) : ObjR := ⟨k, [], [], [], [], [], [], [], 0, []⟩
/-! ### Which may be -/
def partB (s : OB) : Bool := s.all (fun x => x != 0 && x != 47) && decide (1 ≤ s.length) && decide (s.length ≤ 100) && !(s == [46]) && !(s == [46, 46])
def risingB : List EntR → Bool
  | [] => true
  | [_] => true
  | a :: b :: r => decide (a.nm < b.nm) && risingB (b :: r)
def entB (e : EntR) : Bool := partB e.nm && decide (e.id.length = 32)
def entsB (l : List EntR) : Bool := l.all entB && risingB l && decide (l.length ≤ 4096)
def onceB : List OB → Bool
  | [] => true
  | a :: r => r.all (fun x => !(x == a)) && onceB r
def upsB (l : List OB) : Bool := l.all (fun u => decide (u.length = 32)) && onceB l && decide (l.length ≤ 4)
def toldB (o : ObjR) : Bool := decide (o.who.length ≤ 1000) && decide (o.text.length ≤ 1000) && decide (0 ≤ o.stamp) && decide (o.stamp ≤ 1099511627776)
/-- Are the fields empty: Data, Entries, a commit's own, a tag's own, those that both have? -/
def bareB (o : ObjR) (d e c t w : Bool) : Bool :=
  !(d && decide (0 < o.data.length)) && !(e && decide (0 < o.ents.length)) && !(c && (!(o.tree == []) || decide (0 < o.ups.length))) && !(t && (!(o.target == []) || !(o.name == []))) && (!w || (o.who == [] && o.text == [] && decide (o.stamp = 0)))
def okO (o : ObjR) : Bool :=
  if o.kind = 1 then decide (o.data.length ≤ 1048576) && bareB o false true true true true
  else if o.kind = 2 then entsB o.ents && bareB o true false true true true
  else if o.kind = 3 then decide (o.tree.length = 32) && upsB o.ups && toldB o && bareB o true true false true false
  else if o.kind = 4 then decide (o.target.length = 32) && (decide (1 ≤ o.name.length) && decide (o.name.length ≤ 200)) && toldB o && bareB o true true true false false
  else false
/-! ### Bytes -/
def txtL (t : OB) : OB := numL t.length ++ t
def entL (e : EntR) : OB := txtL e.nm ++ ((if e.dir = true then 1 else 0) :: e.id)
def tailO (o : ObjR) : OB := txtL o.who ++ (numL o.stamp.toNat ++ txtL o.text)
def bodyL (o : ObjR) : OB :=
  if o.kind = 1 then o.data
  else if o.kind = 2 then numL o.ents.length ++ (o.ents.map entL).flatten
  else if o.kind = 3 then o.tree ++ (numL o.ups.length ++ (o.ups.flatten ++ tailO o))
  else o.target ++ (txtL o.name ++ tailO o)
def encO (o : ObjR) : OB := UInt8.ofNat o.kind.toNat :: bodyL o
/-! ### Reading -/
abbrev RS := OB × Bool
def rdBytes (n : Nat) (s : RS) : OB × RS := if s.1.length < n then ([], (s.1, true)) else (s.1.take n, (s.1.drop n, s.2))
def rdNum (s : RS) : Nat × RS := match parse s.1 with
  | none => (0, (s.1, true))
  | some p => (p.1, (s.1.drop p.2, s.2))
def rdText (s : RS) : OB × RS := match parse s.1 with
  | none => ([], (s.1, true))
  | some p => if 1048576 < p.1 ∨ s.1.length < p.2 + p.1 then ([], (s.1, true)) else ((s.1.drop p.2).take p.1, ((s.1.drop p.2).drop p.1, s.2))
def rdEnt (s : RS) : EntR × RS := (⟨(rdText s).1, (rdBytes 1 (rdText s).2).1 == [1], (rdBytes 32 (rdBytes 1 (rdText s).2).2).1⟩, (rdBytes 32 (rdBytes 1 (rdText s).2).2).2)
def rdEnts : Nat → RS → List EntR × RS
  | 0, s => ([], s)
  | n + 1, s => if s.2 = true then ([], s) else ((rdEnt s).1 :: (rdEnts n (rdEnt s).2).1, (rdEnts n (rdEnt s).2).2)
def rdUps : Nat → RS → List OB × RS
  | 0, s => ([], s)
  | n + 1, s => if s.2 = true then ([], s) else ((rdBytes 32 s).1 :: (rdUps n (rdBytes 32 s).2).1, (rdUps n (rdBytes 32 s).2).2)
/-- Who, Stamp, Text. -/
def rdTail (o : ObjR) (s : RS) : ObjR × RS := ({ o with who := (rdText s).1, stamp := ((rdNum (rdText s).2).1 : Int), text := (rdText (rdNum (rdText s).2).2).1 }, (rdText (rdNum (rdText s).2).2).2)
def rdTree (s : RS) : ObjR × RS := ({ zeroO 2 with ents := (rdEnts (rdNum s).1 (rdNum s).2).1 }, (rdEnts (rdNum s).1 (rdNum s).2).2)
def rdCommit (s : RS) : ObjR × RS :=
  rdTail { zeroO 3 with tree := (rdBytes 32 s).1, ups := (rdUps (rdNum (rdBytes 32 s).2).1 (rdNum (rdBytes 32 s).2).2).1 } (rdUps (rdNum (rdBytes 32 s).2).1 (rdNum (rdBytes 32 s).2).2).2
def rdTag (s : RS) : ObjR × RS := rdTail { zeroO 4 with target := (rdBytes 32 s).1, name := (rdText (rdBytes 32 s).2).1 } (rdText (rdBytes 32 s).2).2
/-- What bytes behind the kind's are read as; is there too little? -/
def rdO (k : Nat) (r : OB) : ObjR × RS :=
  if k = 1 then ({ zeroO 1 with data := r }, (r, false)) else if k = 2 then rdTree (r, false) else if k = 3 then rdCommit (r, false) else if k = 4 then rdTag (r, false) else (zeroO (k : Int), (r, false))
/-- The object of bytes. -/
def decO : OB → Option ObjR
  | [] => none
  | c :: r => if (rdO c.toNat r).2.2 = true ∨ okO (rdO c.toNat r).1 = false ∨ encO (rdO c.toNat r).1 ≠ c :: r then none else some (rdO c.toNat r).1
theorem decO_cons (c : UInt8) (r : OB) : decO (c :: r) = if (rdO c.toNat r).2.2 = true ∨ okO (rdO c.toNat r).1 = false ∨ encO (rdO c.toNat r).1 ≠ c :: r then none else some (rdO c.toNat r).1 := rfl
/-! ### There and back -/
theorem rdBytes_app {t r : OB} {n : Nat} (h : t.length = n) (x : Bool) : rdBytes n (t ++ r, x) = (t, (r, x)) := by
  subst h
  unfold rdBytes
  rw [if_neg (by simp)]
  simp
theorem rdNum_app {n : Nat} (h : n ≤ 4611686018427387903) (r : OB) (x : Bool) : rdNum (numL n ++ r, x) = (n, (r, x)) := by
  unfold rdNum
  simp only [parse_numL n r h]
  simp
theorem rdText_app {t : OB} (h : t.length ≤ 1048576) (r : OB) (x : Bool) : rdText (txtL t ++ r, x) = (t, (r, x)) := by
  unfold rdText txtL
  simp only [List.append_assoc, parse_numL t.length (t ++ r) (by omega)]
  rw [if_neg (by simp; omega)]
  simp
theorem rdEnt_app {e : EntR} (h : entB e = true) (r : OB) : rdEnt (entL e ++ r, false) = (e, (r, false)) := by
  unfold entB at h
  rw [Bool.and_eq_true, decide_eq_true_eq] at h
  have hp : e.nm.length ≤ 1048576 := by
    have := h.1
    unfold partB at this
    simp only [Bool.and_eq_true, decide_eq_true_eq] at this
    omega
  obtain ⟨nm, dir, id⟩ := e
  simp only at h hp
  unfold rdEnt entL
  simp only [List.append_assoc]
  rw [rdText_app hp]
  simp only
  have e1 : ((if dir = true then (1 : UInt8) else 0) :: id ++ r) = [if dir = true then (1 : UInt8) else 0] ++ (id ++ r) := rfl
  rw [e1, rdBytes_app (n := 1) rfl]
  simp only
  rw [rdBytes_app h.2]
  cases dir <;> rfl
theorem rdEnts_app : ∀ {l : List EntR}, l.all entB = true → ∀ r : OB, rdEnts l.length ((l.map entL).flatten ++ r, false) = (l, (r, false))
  | [], _, r => rfl
  | e :: l, h, r => by
    rw [List.all_cons, Bool.and_eq_true] at h
    simp only [List.length_cons, List.map_cons, List.flatten_cons, List.append_assoc]
    unfold rdEnts
    rw [rdEnt_app h.1]
    simp only [Bool.false_eq_true, if_false]
    rw [rdEnts_app h.2]
theorem rdUps_app : ∀ {l : List OB}, l.all (fun u => decide (u.length = 32)) = true → ∀ r : OB, rdUps l.length (l.flatten ++ r, false) = (l, (r, false))
  | [], _, r => rfl
  | e :: l, h, r => by
    rw [List.all_cons, Bool.and_eq_true, decide_eq_true_eq] at h
    simp only [List.length_cons, List.flatten_cons, List.append_assoc]
    unfold rdUps
    rw [rdBytes_app h.1]
    simp only [Bool.false_eq_true, if_false]
    rw [rdUps_app h.2]
theorem told_is {o : ObjR} (h : toldB o = true) : o.who.length ≤ 1000 ∧ o.text.length ≤ 1000 ∧ 0 ≤ o.stamp ∧ o.stamp ≤ 1099511627776 := by
  unfold toldB at h
  simp only [Bool.and_eq_true, decide_eq_true_eq] at h
  omega
theorem rdTail_app {o : ObjR} (h : toldB o = true) (p : ObjR) (r : OB) : rdTail p (tailO o ++ r, false) = ({ p with who := o.who, stamp := o.stamp, text := o.text }, (r, false)) := by
  obtain ⟨h1, h2, h3, h4⟩ := told_is h
  unfold rdTail tailO
  simp only [List.append_assoc]
  rw [rdText_app (by omega)]
  simp only
  rw [rdNum_app (by omega)]
  simp only
  rw [rdText_app (by omega)]
  have : ((o.stamp.toNat : Nat) : Int) = o.stamp := by omega
  rw [this]
/-- What may be: by its kind. -/
theorem bare_is {o : ObjR} {d e c t w : Bool} (h : bareB o d e c t w = true) : (d = true → o.data = []) ∧ (e = true → o.ents = []) ∧ (c = true → o.tree = [] ∧ o.ups = []) ∧ (t = true → o.target = [] ∧ o.name = []) ∧ (w = true → o.who = [] ∧ o.text = [] ∧ o.stamp = 0) := by
  obtain ⟨kind, data, ents, tree, ups, target, name, who, stamp, text⟩ := o
  unfold bareB at h
  simp only at h ⊢
  cases d <;> cases e <;> cases c <;> cases t <;> cases w <;> simp_all [Nat.pos_iff_ne_zero]
theorem ok_cases {o : ObjR} (h : okO o = true) :
    (∃ d : OB, d.length ≤ 1048576 ∧ o = { zeroO 1 with data := d }) ∨ (∃ l, entsB l = true ∧ o = { zeroO 2 with ents := l }) ∨
    (o = { zeroO 3 with tree := o.tree, ups := o.ups, who := o.who, stamp := o.stamp, text := o.text } ∧ o.tree.length = 32 ∧ upsB o.ups = true ∧ toldB o = true) ∨
    (o = { zeroO 4 with target := o.target, name := o.name, who := o.who, stamp := o.stamp, text := o.text } ∧ o.target.length = 32 ∧ 1 ≤ o.name.length ∧ o.name.length ≤ 200 ∧ toldB o = true) := by
  unfold okO at h
  split at h
  · rename_i hk
    rw [Bool.and_eq_true, decide_eq_true_eq] at h
    obtain ⟨_, b2, b3, b4, b5⟩ := bare_is h.2
    refine .inl ⟨o.data, h.1, ?_⟩
    obtain ⟨kind, data, ents, tree, ups, target, name, who, stamp, text⟩ := o
    simp_all [zeroO]
  · split at h
    · rename_i hk
      rw [Bool.and_eq_true] at h
      obtain ⟨b1, _, b3, b4, b5⟩ := bare_is h.2
      refine .inr (.inl ⟨o.ents, h.1, ?_⟩)
      obtain ⟨kind, data, ents, tree, ups, target, name, who, stamp, text⟩ := o
      simp_all [zeroO]
    · split at h
      · rename_i hk
        simp only [Bool.and_eq_true, decide_eq_true_eq] at h
        obtain ⟨⟨⟨h1, h2⟩, h3⟩, h4⟩ := h
        obtain ⟨b1, b2, _, b4, _⟩ := bare_is h4
        refine .inr (.inr (.inl ⟨?_, h1, h2, h3⟩))
        obtain ⟨kind, data, ents, tree, ups, target, name, who, stamp, text⟩ := o
        simp_all [zeroO]
      · split at h
        · rename_i hk
          simp only [Bool.and_eq_true, decide_eq_true_eq] at h
          obtain ⟨⟨⟨h1, h2, h2'⟩, h3⟩, h4⟩ := h
          obtain ⟨b1, b2, b3, _, _⟩ := bare_is h4
          refine .inr (.inr (.inr ⟨?_, h1, h2, h2', h3⟩))
          obtain ⟨kind, data, ents, tree, ups, target, name, who, stamp, text⟩ := o
          simp_all [zeroO]
        · cases h
theorem ups_is {l : List OB} (h : upsB l = true) : l.all (fun u => decide (u.length = 32)) = true ∧ l.length ≤ 4 := by
  unfold upsB at h
  simp only [Bool.and_eq_true, decide_eq_true_eq] at h
  exact ⟨h.1.1, h.2⟩
theorem ents_is {l : List EntR} (h : entsB l = true) : l.all entB = true ∧ l.length ≤ 4096 := by
  unfold entsB at h
  simp only [Bool.and_eq_true, decide_eq_true_eq] at h
  exact ⟨h.1.1, h.2⟩
/-- What was laid is read as it was. -/
theorem read_enc {o : ObjR} (h : okO o = true) : ∃ k, encO o = UInt8.ofNat k :: bodyL o ∧ (UInt8.ofNat k).toNat = k ∧ (rdO k (bodyL o)).1 = o ∧ (rdO k (bodyL o)).2.2 = false := by
  rcases ok_cases h with ⟨d, hd, rfl⟩ | ⟨l, hl, rfl⟩ | ⟨e, h1, h2, h3⟩ | ⟨e, h1, h2, h2', h3⟩
  · exact ⟨1, rfl, rfl, rfl, rfl⟩
  · obtain ⟨k1, k2⟩ := ents_is hl
    have e : rdTree (numL l.length ++ (l.map entL).flatten, false) = ({ zeroO 2 with ents := l }, ([], false)) := by
      unfold rdTree
      rw [rdNum_app (by omega)]
      simp only
      have := rdEnts_app k1 []
      rw [List.append_nil] at this
      rw [this]
    exact ⟨2, rfl, rfl, by show (rdTree (numL l.length ++ (l.map entL).flatten, false)).1 = _; rw [e], by show (rdTree (numL l.length ++ (l.map entL).flatten, false)).2.2 = _; rw [e]⟩
  · obtain ⟨k1, k2⟩ := ups_is h2
    have hk : o.kind = 3 := by rw [e]; rfl
    have hb : bodyL o = o.tree ++ (numL o.ups.length ++ (o.ups.flatten ++ tailO o)) := by unfold bodyL; rw [hk]; rfl
    have er : rdCommit (o.tree ++ (numL o.ups.length ++ (o.ups.flatten ++ tailO o)), false) = (o, ([], false)) := by
      unfold rdCommit
      rw [rdBytes_app h1]
      simp only
      rw [rdNum_app (by omega)]
      simp only
      rw [rdUps_app k1]
      simp only
      have := rdTail_app h3 { zeroO 3 with tree := o.tree, ups := o.ups } []
      rw [List.append_nil] at this
      rw [this]
      exact congrArg (fun x => (x, (([], false) : RS))) e.symm
    exact ⟨3, by unfold encO; rw [hk]; rfl, rfl, by rw [hb]; show (rdCommit _).1 = _; rw [er], by rw [hb]; show (rdCommit _).2.2 = _; rw [er]⟩
  · have hk : o.kind = 4 := by rw [e]; rfl
    have hb : bodyL o = o.target ++ (txtL o.name ++ tailO o) := by unfold bodyL; rw [hk]; rfl
    have er : rdTag (o.target ++ (txtL o.name ++ tailO o), false) = (o, ([], false)) := by
      unfold rdTag
      rw [rdBytes_app h1]
      simp only
      rw [rdText_app (by omega)]
      simp only
      have := rdTail_app h3 { zeroO 4 with target := o.target, name := o.name } []
      rw [List.append_nil] at this
      rw [this]
      exact congrArg (fun x => (x, (([], false) : RS))) e.symm
    exact ⟨4, by unfold encO; rw [hk]; rfl, rfl, by rw [hb]; show (rdTag _).1 = _; rw [er], by rw [hb]; show (rdTag _).2.2 = _; rw [er]⟩
theorem dec_enc {o : ObjR} (h : okO o = true) : decO (encO o) = some o := by
  obtain ⟨k, h1, h2, h3, h4⟩ := read_enc h
  rw [h1, decO_cons, h2, h3, h4, if_neg]
  rintro (k1 | k1 | k1)
  · cases k1
  · rw [h] at k1; cases k1
  · exact k1 h1
/-- An object's bytes are its alone, and no others are that object. -/
theorem dec_iff {b : OB} {o : ObjR} : decO b = some o ↔ okO o = true ∧ encO o = b := by
  constructor
  · intro h
    cases b with
    | nil => cases h
    | cons c r =>
      rw [decO_cons] at h
      split at h
      · cases h
      · rename_i hn
        have e := Option.some.inj h
        rw [e] at hn
        refine ⟨?_, Classical.byContradiction fun k => hn (.inr (.inr k))⟩
        cases hk : okO o with
        | true => rfl
        | false => exact absurd (.inr (.inl hk)) hn
  · rintro ⟨h, rfl⟩
    exact dec_enc h
theorem enc_inj {o p : ObjR} (ho : okO o = true) (hp : okO p = true) (h : encO o = encO p) : o = p := by
  have h1 := dec_enc ho
  rw [h, dec_enc hp] at h1
  exact (Option.some.inj h1).symm
/-! ### Links -/
def linksO (o : ObjR) : List OB := if okO o = false then [] else o.ents.map (fun e => e.id) ++ ((if o.kind = 3 then o.tree :: o.ups else []) ++ (if o.kind = 4 then [o.target] else []))
theorem links_count {o : ObjR} (h : okO o = true) : (linksO o).length = (if o.kind = 2 then o.ents.length else if o.kind = 3 then 1 + o.ups.length else if o.kind = 4 then 1 else 0) ∧ ∀ x ∈ linksO o, x.length = 32 := by
  unfold linksO
  rw [if_neg (by rw [h]; decide)]
  rcases ok_cases h with ⟨d, hd, rfl⟩ | ⟨l, hl, rfl⟩ | ⟨e, h1, h2, h3⟩ | ⟨e, h1, h2, h2', h3⟩
  · simp [zeroO]
  · obtain ⟨k1, k2⟩ := ents_is hl
    refine ⟨by simp [zeroO], fun x hx => ?_⟩
    simp [zeroO] at hx
    obtain ⟨a, ha, rfl⟩ := hx
    have := List.all_eq_true.1 k1 a ha
    unfold entB at this
    rw [Bool.and_eq_true, decide_eq_true_eq] at this
    exact this.2
  · have hk : o.kind = 3 := by rw [e]; rfl
    have he : o.ents = [] := by rw [e]; rfl
    obtain ⟨k1, _⟩ := ups_is h2
    rw [hk, he]
    refine ⟨by simp; omega, fun x hx => ?_⟩
    simp at hx
    rcases hx with rfl | hx
    · exact h1
    · simpa using List.all_eq_true.1 k1 x hx
  · have hk : o.kind = 4 := by rw [e]; rfl
    have he : o.ents = [] := by rw [e]; rfl
    rw [hk, he]
    refine ⟨by simp, fun x hx => ?_⟩
    simp at hx
    rw [hx]
    exact h1
end Go.Proofs.Ytjieljmlpbiidaa
