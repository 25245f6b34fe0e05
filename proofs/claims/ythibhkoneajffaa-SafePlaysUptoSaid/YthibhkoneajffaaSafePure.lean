/- Package safe as plain mathematics: shadows, chunks, what a Save and a Sweep make of a disk. No function of the program here. -/
import Derived.Test.YthibhkoneajffaaDiskSt
namespace Go.Proofs.Ythibhkoneajffaa
/-- A file's shadow. -/
def shadowN (n : Bs) : Bs := n ++ [126]
/-- Does a name end by the sign of shadows? -/
def marked (n : Bs) : Bool := decide (n.getLast? = some 126)
theorem marked_shadow (n : Bs) : marked (shadowN n) = true := by simp [marked, shadowN]
theorem shadow_length (n : Bs) : (shadowN n).length = n.length + 1 := by simp [shadowN]
theorem shadow_ne (n : Bs) : shadowN n ≠ n := fun h => by
  have := congrArg List.length h
  rw [shadow_length] at this
  omega
/-- Chunks, by fuel. -/
def chunksF : Nat → Bs → List Bs
  | 0, b => [b]
  | k + 1, b => if 64 < b.length then b.take 64 :: chunksF k (b.drop 64) else [b]
def chunksL (b : Bs) : List Bs := chunksF b.length b
theorem chunksF_fuel : ∀ (k j : Nat) (b : Bs), b.length ≤ k → b.length ≤ j → chunksF k b = chunksF j b
  | 0, 0, _, _, _ => rfl
  | 0, j + 1, b, h, _ => by
    have : ¬ 64 < b.length := by omega
    simp [chunksF, this]
  | k + 1, 0, b, _, h => by
    have : ¬ 64 < b.length := by omega
    simp [chunksF, this]
  | k + 1, j + 1, b, h, h' => by
    unfold chunksF
    split
    · rw [chunksF_fuel k j (b.drop 64) (by simp; omega) (by simp; omega)]
    · rfl
theorem chunks_long {b : Bs} (h : 64 < b.length) : chunksL b = b.take 64 :: chunksL (b.drop 64) := by
  unfold chunksL
  obtain ⟨k, hk⟩ : ∃ k, b.length = k + 1 := ⟨b.length - 1, by omega⟩
  rw [hk]
  conv => lhs; unfold chunksF
  rw [if_pos h, chunksF_fuel k (b.drop 64).length _ (by simp; omega) (Nat.le_refl _)]
theorem chunks_short {b : Bs} (h : b.length ≤ 64) : chunksL b = [b] := by
  unfold chunksL
  cases hk : b.length with
  | zero => rfl
  | succ k =>
    unfold chunksF
    rw [if_neg (by omega)]
theorem chunks_all : ∀ (k : Nat) (b : Bs), b.length ≤ k → (∀ c ∈ chunksL b, c.length ≤ 64) ∧ (chunksL b).flatten = b ∧ chunksL b ≠ [] ∧ (chunksL b).length = if b.length ≤ 64 then 1 else (b.length + 63) / 64
  | k, b, h => by
    by_cases hb : 64 < b.length
    · obtain ⟨j, rfl⟩ : ∃ j, k = j + 1 := ⟨k - 1, by omega⟩
      obtain ⟨h1, h2, h3, h4⟩ := chunks_all j (b.drop 64) (by simp; omega)
      rw [chunks_long hb]
      refine ⟨fun c hc => ?_, ?_, by simp, ?_⟩
      · rcases List.mem_cons.1 hc with rfl | hc
        · simp; omega
        · exact h1 c hc
      · rw [List.flatten_cons, h2, List.take_append_drop]
      · rw [List.length_cons, h4, if_neg (show ¬ b.length ≤ 64 by omega), List.length_drop]
        split <;> omega
    · rw [chunks_short (by omega), if_pos (by omega)]
      exact ⟨fun c hc => by simp at hc; subst hc; omega, by simp, by simp, rfl⟩
theorem chunks_le64 (b : Bs) : ∀ c ∈ chunksL b, c.length ≤ 64 := (chunks_all _ b (Nat.le_refl _)).1
theorem chunks_flat (b : Bs) : (chunksL b).flatten = b := (chunks_all _ b (Nat.le_refl _)).2.1
theorem chunks_ne (b : Bs) : chunksL b ≠ [] := (chunks_all _ b (Nat.le_refl _)).2.2.1
theorem chunks_count (b : Bs) : (chunksL b).length = if b.length ≤ 64 then 1 else (b.length + 63) / 64 := (chunks_all _ b (Nat.le_refl _)).2.2.2
/-- Appends, one after the other, till one is refused. -/
def appendsS (n : Bs) : St → List Bs → Int × St
  | S, [] => (0, S)
  | S, c :: r => if (appendS S n c).1 ≠ 0 then appendS S n c else appendsS n (appendS S n c).2 r
theorem appends_one (n : Bs) (c : Bs) : ∀ (L : List Bs) (S : St), appendsS n S (L ++ [c]) = if (appendsS n S L).1 ≠ 0 then appendsS n S L else appendS (appendsS n S L).2 n c
  | [], S => by
    simp only [List.nil_append, appendsS]
    by_cases h : (appendS S n c).1 = 0
    · simp only [h, ne_eq, not_true_eq_false, if_false]
      rw [← h]
    · simp [h]
  | d :: r, S => by
    simp only [List.cons_append, appendsS]
    by_cases h : (appendS S n d).1 = 0
    · simp only [h, ne_eq, not_true_eq_false, if_false]
      exact appends_one n c r _
    · simp [h]
theorem appends_stop (n : Bs) : ∀ (L M : List Bs) (S : St), (appendsS n S L).1 ≠ 0 → appendsS n S (L ++ M) = appendsS n S L
  | [], M, S, h => absurd rfl h
  | d :: r, M, S, h => by
    simp only [List.cons_append, appendsS] at h ⊢
    by_cases h1 : (appendS S n d).1 = 0
    · simp only [h1, ne_eq, not_true_eq_false, if_false] at h ⊢
      exact appends_stop n r M _ h
    · simp [h1]
theorem appends_app (n : Bs) : ∀ (L M : List Bs) (S : St), (appendsS n S L).1 = 0 → appendsS n S (L ++ M) = appendsS n (appendsS n S L).2 M
  | [], M, S, _ => rfl
  | d :: r, M, S, h => by
    simp only [List.cons_append, appendsS] at h ⊢
    by_cases h1 : (appendS S n d).1 = 0
    · simp only [h1, ne_eq, not_true_eq_false, if_false] at h ⊢
      exact appends_app n r M _ h
    · simp only [ne_eq, h1, not_false_eq_true, if_true] at h
theorem Good.appends {n : Bs} : ∀ {L : List Bs} {S : St}, Good S → Good (appendsS n S L).2
  | [], _, h => h
  | c :: r, S, h => by
    unfold appendsS
    split
    · exact h.append n c
    · exact (h.append n c).appends
theorem appends_done (n : Bs) : ∀ (L : List Bs) (S : St), (appendsS n S L).2.done ≤ S.done + L.length
  | [], _ => Nat.le_refl _
  | c :: r, S => by
    have h1 := append_done S n c
    unfold appendsS
    split
    · simp only [List.length_cons]; omega
    · have := appends_done n r (appendS S n c).2
      simp only [List.length_cons]
      omega
theorem appends_cap (n : Bs) : ∀ (L : List Bs) (S : St), (appendsS n S L).2.cap = S.cap
  | [], _ => rfl
  | c :: r, S => by
    unfold appendsS
    split
    · exact append_cap _ _ _
    · rw [appends_cap n r, append_cap]
/-- A shadow is laid. -/
def layS (n b : Bs) (S : St) : Int × St := if (appendsS n S (chunksL b)).1 ≠ 0 then appendsS n S (chunksL b) else syncS (appendsS n S (chunksL b)).2 n
def needS (n : Bs) (k : Nat) : Int := 17 + (n.length : Int) + (k : Int)
/-- Behind the shadow's removal. -/
def saveT (n b : Bs) (T : St) : Int × St :=
  if T.free < needS n b.length then (4, T) else if (layS (shadowN n) b T).1 ≠ 0 then layS (shadowN n) b T else renameS (layS (shadowN n) b T).2 (shadowN n) n
def saveS (S : St) (n b : Bs) : Int × St :=
  if n = [] ∨ marked n = true then (1, S) else
    if (removeS S (shadowN n)).1 ≠ 0 ∧ (removeS S (shadowN n)).1 ≠ 3 then removeS S (shadowN n) else saveT n b (removeS S (shadowN n)).2
/-- Of names the marked ones are removed, till one is refused. -/
def sweepL : St → List Bs → Int × St
  | S, [] => (0, S)
  | S, n :: r => if marked n = false then sweepL S r else if (removeS S n).1 ≠ 0 then removeS S n else sweepL (removeS S n).2 r
def namesF (fs : Files) : List Bs := fs.map (·.1)
def sweepS (S : St) : Int × St := sweepL S (namesF S.fs)
/-! ### What holds behind them -/
theorem Good.lay {n b : Bs} {S : St} (h : Good S) : Good (layS n b S).2 := by
  unfold layS
  split
  · exact h.appends
  · exact h.appends.sync n
theorem Good.saveT {n b : Bs} {S : St} (h : Good S) : Good (saveT n b S).2 := by
  unfold Go.Proofs.Ythibhkoneajffaa.saveT
  split
  · exact h
  · split
    · exact h.lay
    · exact h.lay.rename _ _
theorem Good.save {n b : Bs} {S : St} (h : Good S) : Good (saveS S n b).2 := by
  unfold saveS
  split
  · exact h
  · split
    · exact h.remove _
    · exact (h.remove _).saveT
theorem Good.sweep : ∀ {l : List Bs} {S : St}, Good S → Good (sweepL S l).2
  | [], _, h => h
  | n :: r, S, h => by
    unfold sweepL
    split
    · exact h.sweep
    · split
      · exact h.remove n
      · exact (h.remove n).sweep
theorem lay_cap (n b : Bs) (S : St) : (layS n b S).2.cap = S.cap := by
  unfold layS
  split
  · exact appends_cap _ _ _
  · rw [sync_cap, appends_cap]
theorem saveT_cap (n b : Bs) (S : St) : (saveT n b S).2.cap = S.cap := by
  unfold saveT
  repeat' split
  · rfl
  · exact lay_cap _ _ _
  · rw [rename_cap, lay_cap]
theorem save_cap (n b : Bs) (S : St) : (saveS S n b).2.cap = S.cap := by
  unfold saveS
  repeat' split
  · rfl
  · exact remove_cap _ _
  · rw [saveT_cap, remove_cap]
theorem sweep_cap : ∀ (l : List Bs) (S : St), (sweepL S l).2.cap = S.cap
  | [], _ => rfl
  | n :: r, S => by
    unfold sweepL
    repeat' split
    · exact sweep_cap r S
    · exact remove_cap _ _
    · rw [sweep_cap r, remove_cap]
theorem sweep_done : ∀ (l : List Bs) (S : St), (sweepL S l).2.done ≤ S.done + l.length
  | [], _ => Nat.le_refl _
  | n :: r, S => by
    have h1 := remove_done S n
    unfold sweepL
    repeat' split
    · have := sweep_done r S; simp only [List.length_cons]; omega
    · simp only [List.length_cons]; omega
    · have := sweep_done r (removeS S n).2; simp only [List.length_cons]; omega
theorem lay_done (n b : Bs) (S : St) : (layS n b S).2.done ≤ S.done + (chunksL b).length + 1 := by
  have h1 := appends_done n (chunksL b) S
  unfold layS
  split
  · omega
  · have := sync_done (appendsS n S (chunksL b)).2 n; omega
theorem chunks_few (b : Bs) : (chunksL b).length ≤ b.length / 64 + 1 := by
  rw [chunks_count]
  split <;> omega
theorem saveT_done {n b : Bs} {S : St} : (saveT n b S).2.done ≤ S.done + S.cap + 3 := by
  have h1 := chunks_few b
  unfold saveT
  split
  · show S.done ≤ _; omega
  · rename_i hf
    have hb : b.length ≤ S.cap := by unfold St.free needS at hf; omega
    have h2 := lay_done (shadowN n) b S
    split
    · omega
    · have := rename_done (layS (shadowN n) b S).2 (shadowN n) n; omega
theorem save_done {n b : Bs} {S : St} : (saveS S n b).2.done ≤ S.done + S.cap + 4 := by
  have h1 := remove_done S (shadowN n)
  unfold saveS
  repeat' split
  · show S.done ≤ _; omega
  · omega
  · have := @saveT_done n b (removeS S (shadowN n)).2
    rw [remove_cap] at this
    omega
/-! ### What a Save makes -/
theorem writeS_left {S : St} {fs : Files} (h : (writeS S fs).1 ≠ 5) : writeS S fs = (0, { tick S with fs := fs }) := by
  unfold writeS at h ⊢
  split
  · rename_i h0; rw [if_pos h0] at h; exact absurd rfl h
  · rfl
theorem tick_left {S : St} (h : S.left = -1) : (tick S).left = -1 := by simp [tick, h]
theorem put_put {n a b : Bs} {fs : Files} (hr : Rising fs) : putF n a (putF n b fs) = putF n a fs := by
  refine rising_ext hr.put.put hr.put fun m => ?_
  by_cases e : m = n
  · rw [e, findF_put_same, findF_put_same]
  · rw [findF_put_other _ e, findF_put_other _ e, findF_put_other _ e]
/-- How appends to one file end, where there is room for all. -/
structure Laid (n : Bs) (T : St) (L : List Bs) (r : Int × St) : Prop where
  err : r.1 = 0
  dark : r.2.dark = false
  done : r.2.done = T.done + L.length
  left : T.left = -1 → r.2.left = -1
  fs : r.2.fs = if L = [] then T.fs else putF n ((findF n T.fs).getD [] ++ L.flatten) T.fs
structure Gone (n : Bs) (T : St) (r : Int × St) : Prop where
  err : r.1 = 5
  dark : r.2.dark = true
  left : T.left ≠ -1
  other : ∀ m, m ≠ n → findF m r.2.fs = findF m T.fs
theorem append_fits {S : St} {n c : Bs} (hn : named n = true) (hd : S.dark = false) (hc : c.length ≤ 64) (hm : moreS S n c ≤ S.free) : appendS S n c = writeS S (putF n ((findF n S.fs).getD [] ++ c) S.fs) := by
  have hr : readyS S n = 0 := by unfold readyS; rw [if_neg (by simp [hn]), if_neg (by simp [hd])]
  unfold appendS
  rw [if_neg (by omega), if_neg (by omega), if_neg (by omega)]
theorem more_nonneg (S : St) (n c : Bs) : 0 ≤ moreS S n c := by
  unfold moreS
  cases findF n S.fs with
  | none => exact Int.natCast_nonneg _
  | some _ => exact Int.natCast_nonneg _
theorem appends_says {n : Bs} (hn : named n = true) : ∀ (L : List Bs) (T : St), Good T → T.dark = false → (∀ c ∈ L, c.length ≤ 64) → moreS T n L.flatten ≤ T.free ∨ L = [] → Laid n T L (appendsS n T L) ∨ Gone n T (appendsS n T L)
  | [], T, _, hd, _, _ => .inl ⟨rfl, hd, rfl, fun h => h, rfl⟩
  | c :: r, T, hg, hd, h64, hm => by
    have hm : moreS T n (c ++ r.flatten) ≤ T.free := by
      rcases hm with hm | hm
      · exact hm
      · cases hm
    have hmc : moreS T n (c ++ r.flatten) = moreS T n c + (r.flatten.length : Int) := by
      unfold moreS costF
      cases findF n T.fs with
      | none => simp only [List.length_append]; omega
      | some _ => simp only [List.length_append]; omega
    have hap := append_fits hn hd (h64 c (by simp)) (by omega)
    unfold appendsS
    rw [hap]
    by_cases h0 : T.left = 0
    · have e : writeS T (putF n ((findF n T.fs).getD [] ++ c) T.fs) = (5, cutNow T) := by unfold writeS; rw [if_pos h0]
      rw [e, if_pos (by simp)]
      exact .inr ⟨rfl, rfl, by omega, fun _ _ => rfl⟩
    · have e : writeS T (putF n ((findF n T.fs).getD [] ++ c) T.fs) = (0, { tick T with fs := putF n ((findF n T.fs).getD [] ++ c) T.fs }) := by unfold writeS; rw [if_neg h0]
      rw [e, if_neg (by simp)]
      obtain ⟨T1, hT1⟩ : ∃ T1 : St, T1 = { tick T with fs := putF n ((findF n T.fs).getD [] ++ c) T.fs } := ⟨_, rfl⟩
      have hg1 : Good T1 := by
        have := hg.append n c
        rw [hap, e] at this
        rw [hT1]
        exact this
      have hfs : T1.fs = putF n ((findF n T.fs).getD [] ++ c) T.fs := by rw [hT1]
      have hf1 : findF n T1.fs = some ((findF n T.fs).getD [] ++ c) := by rw [hfs, findF_put_same]
      have hfree : T1.free = T.free - moreS T n c := by
        unfold St.free moreS
        rw [hfs]
        have hcap : T1.cap = T.cap := by rw [hT1]; rfl
        rw [hcap]
        cases hff : findF n T.fs with
        | none =>
          simp only [Option.getD_none, List.nil_append]
          rw [costs_put_new hff]
          omega
        | some o =>
          simp only [Option.getD_some]
          have := costs_put_old (b := o ++ c) hg.rise hff
          rw [List.length_append] at this
          omega
      have hm1 : moreS T1 n r.flatten ≤ T1.free := by
        have : moreS T1 n r.flatten = (r.flatten.length : Int) := by unfold moreS; rw [hf1]
        omega
      have hd1 : T1.dark = false := by rw [hT1]; exact hd
      have hl1 : T.left = -1 → T1.left = -1 := fun h => by rw [hT1]; exact tick_left h
      have hdn : T1.done = T.done + 1 := by rw [hT1]; rfl
      rw [← hT1]
      rcases appends_says hn r T1 hg1 hd1 (fun c hc => h64 c (List.mem_cons_of_mem _ hc)) (.inl hm1) with k | k
      · refine .inl ⟨k.err, k.dark, by rw [k.done, hdn, List.length_cons]; omega, fun h => k.left (hl1 h), ?_⟩
        rw [k.fs, if_neg (show ¬ c :: r = [] by simp)]
        split
        · rename_i hr
          rw [hfs, hr]
          simp
        · rw [hf1, Option.getD_some, hfs, put_put hg.rise, List.flatten_cons, List.append_assoc]
      · refine .inr ⟨k.err, k.dark, fun h => k.left (hl1 h), fun m hm => ?_⟩
        rw [k.other m hm, hfs, findF_put_other _ hm]
theorem touch_is {S : St} {n b : Bs} (hn : named n = true) (hd : S.dark = false) (hf : findF n S.fs = some b) : touchS S n = 0 := by
  unfold touchS
  rw [if_neg (by simp [hn]), if_neg (by simp [hd]), if_neg (by simp [hf])]
theorem touch_no {S : St} {n : Bs} (hn : named n = true) (hd : S.dark = false) (hf : findF n S.fs = none) : touchS S n = 3 := by
  unfold touchS
  rw [if_neg (by simp [hn]), if_neg (by simp [hd]), if_pos hf]
theorem lay_says {n b : Bs} {T : St} (hn : named n = true) (hg : Good T) (hd : T.dark = false) (hm : moreS T n b ≤ T.free) (hf : findF n T.fs = none) :
    (((layS n b T).1 = 0 ∧ (layS n b T).2.dark = false ∧ (layS n b T).2.done = T.done + (chunksL b).length + 1 ∧ (T.left = -1 → (layS n b T).2.left = -1) ∧ (layS n b T).2.fs = putF n b T.fs)) ∨ Gone n T (layS n b T) := by
  have hlaid := appends_says hn (chunksL b) T hg hd (chunks_le64 b) (.inl (by rw [chunks_flat]; exact hm))
  unfold layS
  rcases hlaid with k | k
  · rw [if_neg (by simp [k.err])]
    have kfs := k.fs
    rw [if_neg (chunks_ne b), chunks_flat, hf, Option.getD_none, List.nil_append] at kfs
    obtain ⟨U, hU⟩ : ∃ U, U = (appendsS n T (chunksL b)).2 := ⟨_, rfl⟩
    have kd := k.dark
    have kdn := k.done
    have kl := k.left
    rw [← hU] at kfs kd kdn kl ⊢
    have ht : touchS U n = 0 := touch_is hn kd (b := b) (by rw [kfs, findF_put_same])
    unfold syncS
    rw [if_neg (by simp [ht])]
    unfold writeS
    by_cases h0 : U.left = 0
    · rw [if_pos h0]
      exact .inr ⟨rfl, rfl, fun h => by have := kl h; omega, fun m hm => by show findF m U.fs = _; rw [kfs, findF_put_other _ hm]⟩
    · rw [if_neg h0]
      exact .inl ⟨rfl, kd, by show U.done + 1 = _; rw [kdn], fun h => tick_left (kl h), kfs⟩
  · rw [if_pos (by rw [k.err]; decide)]
    exact .inr k
theorem saveT_says {n b : Bs} {T : St} (hn : named (shadowN n) = true) (hn' : named n = true) (hg : Good T) (hd : T.dark = false) (hf : findF (shadowN n) T.fs = none) :
    ((saveT n b T).1 = 0 ∧ needS n b.length ≤ T.free ∧ (saveT n b T).2.dark = false ∧ (saveT n b T).2.done = T.done + (chunksL b).length + 2 ∧ (T.left = -1 → (saveT n b T).2.left = -1) ∧ (saveT n b T).2.fs = putF n b T.fs) ∨
    (saveT n b T = (4, T) ∧ T.free < needS n b.length) ∨ Gone (shadowN n) T (saveT n b T) := by
  unfold saveT
  by_cases h4 : T.free < needS n b.length
  · rw [if_pos h4]; exact .inr (.inl ⟨rfl, h4⟩)
  · rw [if_neg h4]
    have hm : moreS T (shadowN n) b ≤ T.free := by
      unfold moreS costF
      rw [hf, shadow_length]
      unfold needS at h4
      simp only
      omega
    rcases lay_says hn hg hd hm hf with ⟨k1, k2, k3, k4, k5⟩ | k
    · rw [if_neg (by simp [k1])]
      obtain ⟨U, hU⟩ : ∃ U, U = (layS (shadowN n) b T).2 := ⟨_, rfl⟩
      have hgU : Good U := by rw [hU]; exact hg.lay
      rw [← hU] at k2 k3 k4 k5 ⊢
      have hfU : findF (shadowN n) U.fs = some b := by rw [k5, findF_put_same]
      have ht : touchS U (shadowN n) = 0 := touch_is hn k2 hfU
      have hfr := hgU.cost
      unfold renameS
      rw [if_neg (by simp [hn']), if_neg (by simp [ht]), if_neg (by rw [shadow_length]; unfold St.free; intro h; omega)]
      have hren : renamed U (shadowN n) n = putF n b T.fs := by
        unfold renamed
        rw [hfU, Option.getD_some]
        refine rising_ext hgU.rise.del.put hg.rise.put fun m => ?_
        by_cases e : m = n
        · rw [e, findF_put_same, findF_put_same]
        · rw [findF_put_other _ e, findF_put_other _ e]
          by_cases e2 : m = shadowN n
          · rw [e2, findF_del_same hgU.rise, hf]
          · rw [findF_del_other e2, k5, findF_put_other _ e2]
      rw [hren]
      unfold writeS
      by_cases h0 : U.left = 0
      · rw [if_pos h0]
        exact .inr (.inr ⟨rfl, rfl, fun h => by have := k4 h; omega, fun m hm => by show findF m U.fs = _; rw [k5, findF_put_other _ hm]⟩)
      · rw [if_neg h0]
        exact .inl ⟨rfl, by omega, k2, by show U.done + 1 = _; rw [k3], fun h => tick_left (k4 h), rfl⟩
    · rw [if_pos (by rw [k.err]; decide)]
      exact .inr (.inr k)
/-- What holds behind a Save whose name may be, of a disk that has power. -/
theorem save_says {n b : Bs} {S : St} (hn : named (shadowN n) = true) (hn' : named n = true) (hk : marked n = false) (hg : Good S) (hd : S.dark = false) :
    ((saveS S n b).1 = 0 ∧ needS n b.length ≤ St.free { S with fs := delF (shadowN n) S.fs } ∧ (saveS S n b).2.dark = false ∧ (saveS S n b).2.done = S.done + (if thereF (shadowN n) S.fs = true then 1 else 0) + (chunksL b).length + 2 ∧ (S.left = -1 → (saveS S n b).2.left = -1) ∧ (saveS S n b).2.fs = putF n b (delF (shadowN n) S.fs)) ∨
    ((saveS S n b).1 = 4 ∧ St.free { S with fs := delF (shadowN n) S.fs } < needS n b.length ∧ (saveS S n b).2.dark = false ∧ (S.left = -1 → (saveS S n b).2.left = -1) ∧ (saveS S n b).2.fs = delF (shadowN n) S.fs) ∨ Gone (shadowN n) S (saveS S n b) := by
  have hne : n ≠ [] := fun h => by subst h; simp [named] at hn'
  unfold saveS
  rw [if_neg (by simp [hne, hk])]
  cases hf : findF (shadowN n) S.fs with
  | none =>
    have ht := touch_no hn hd hf
    have hr : removeS S (shadowN n) = (3, S) := by unfold removeS; rw [ht, if_pos (by decide)]
    have hdel : delF (shadowN n) S.fs = S.fs := del_gone hf
    have hth : thereF (shadowN n) S.fs = false := by simp [thereF, hf]
    rw [hr, if_neg (by simp), hdel, hth]
    rcases saveT_says (b := b) hn hn' hg hd hf with ⟨k1, k2, k3, k4, k5, k6⟩ | ⟨k1, k2⟩ | k
    · exact .inl ⟨k1, k2, k3, by rw [k4]; simp, k5, k6⟩
    · rw [k1]
      exact .inr (.inl ⟨rfl, k2, hd, fun h => h, rfl⟩)
    · exact .inr (.inr k)
  | some o =>
    have ht := touch_is hn hd hf
    have hth : thereF (shadowN n) S.fs = true := by simp [thereF, hf]
    by_cases h0 : S.left = 0
    · have hr : removeS S (shadowN n) = (5, cutNow S) := by unfold removeS writeS; rw [if_neg (by simp [ht]), if_pos h0]
      rw [hr, if_pos (by simp)]
      exact .inr (.inr ⟨rfl, rfl, by omega, fun _ _ => rfl⟩)
    · have hr : removeS S (shadowN n) = (0, { tick S with fs := delF (shadowN n) S.fs }) := by unfold removeS writeS; rw [if_neg (by simp [ht]), if_neg h0]
      have hg1 := hg.remove (shadowN n)
      rw [hr] at hg1
      rw [hr, if_neg (by simp), hth]
      obtain ⟨T, hT⟩ : ∃ T : St, T = { tick S with fs := delF (shadowN n) S.fs } := ⟨_, rfl⟩
      have e1 : T.fs = delF (shadowN n) S.fs := by rw [hT]
      have e2 : T.done = S.done + 1 := by rw [hT]; rfl
      have e3 : S.left = -1 → T.left = -1 := fun h => by rw [hT]; exact tick_left h
      have e4 : T.free = St.free { S with fs := delF (shadowN n) S.fs } := by rw [hT]; rfl
      have e5 : T.dark = false := by rw [hT]; exact hd
      have e6 : findF (shadowN n) T.fs = none := by rw [e1, findF_del_same hg.rise]
      simp only
      simp only at hg1
      rw [← hT] at hg1 ⊢
      rw [← e4, ← e1]
      rcases saveT_says (b := b) hn hn' hg1 e5 e6 with ⟨k1, k2, k3, k4, k5, k6⟩ | ⟨k1, k2⟩ | k
      · exact .inl ⟨k1, k2, k3, by rw [k4, e2]; simp only [if_true], fun h => k5 (e3 h), k6⟩
      · rw [k1]
        exact .inr (.inl ⟨rfl, k2, e5, e3, rfl⟩)
      · refine .inr (.inr ⟨k.err, k.dark, fun h => k.left (e3 h), fun m hm => ?_⟩)
        rw [k.other m hm, e1, findF_del_other hm]
/-- A name that may not be, or none, or a shadow's. -/
theorem save_bad {n b : Bs} {S : St} (h : named (shadowN n) = false ∨ n = [] ∨ marked n = true) : saveS S n b = (1, S) := by
  unfold saveS
  by_cases h1 : n = [] ∨ marked n = true
  · rw [if_pos h1]
  · rw [if_neg h1]
    have h2 : named (shadowN n) = false := by
      rcases h with h | h | h
      · exact h
      · exact absurd (.inl h) h1
      · exact absurd (.inr h) h1
    have hr : removeS S (shadowN n) = (1, S) := by unfold removeS touchS; rw [if_pos h2, if_pos (by decide)]
    rw [hr, if_pos (by simp)]
theorem save_dark {n b : Bs} {S : St} (hn : named (shadowN n) = true) (hne : n ≠ []) (hk : marked n = false) (hd : S.dark = true) : saveS S n b = (5, S) := by
  unfold saveS
  rw [if_neg (by simp [hne, hk])]
  have ht : touchS S (shadowN n) = 5 := by unfold touchS; rw [if_neg (by simp [hn]), if_pos hd]
  have hr : removeS S (shadowN n) = (5, S) := by unfold removeS; rw [ht, if_pos (by decide)]
  rw [hr, if_pos (by simp)]
theorem named_of_shadow {n : Bs} (h : named (shadowN n) = true) (hne : n ≠ []) : named n = true := by
  have h0 : 1 ≤ n.length := by
    cases n with
    | nil => exact absurd rfl hne
    | cons a r => simp
  unfold named at h ⊢
  rw [shadow_length] at h
  simp only [shadowN, List.all_append, Bool.and_eq_true, decide_eq_true_eq] at h ⊢
  exact ⟨⟨h0, by omega⟩, h.2.1⟩
/-! ### What a Sweep makes -/
def AllNamed (S : St) : Prop := ∀ n b, findF n S.fs = some b → named n = true
theorem sweepL_says : ∀ (l : List Bs) (S : St), Good S → S.dark = false → S.left = -1 → (∀ n ∈ l, named n = true ∧ thereF n S.fs = true) → l.Nodup →
    (sweepL S l).1 = 0 ∧ (sweepL S l).2.dark = false ∧ (sweepL S l).2.left = -1 ∧ ∀ m, findF m (sweepL S l).2.fs = if m ∈ l ∧ marked m = true then none else findF m S.fs
  | [], S, _, hd, hl, _, _ => ⟨rfl, hd, hl, fun m => by simp [sweepL]⟩
  | n :: r, S, hg, hd, hl, hall, hnd => by
    have hnr : n ∉ r := (List.nodup_cons.1 hnd).1
    unfold sweepL
    by_cases hk : marked n = false
    · rw [if_pos hk]
      obtain ⟨k1, k2, k3, k4⟩ := sweepL_says r S hg hd hl (fun m hm => hall m (List.mem_cons_of_mem _ hm)) (List.nodup_cons.1 hnd).2
      refine ⟨k1, k2, k3, fun m => ?_⟩
      rw [k4]
      by_cases e : m = n
      · subst e; simp [hk]
      · simp [e]
    · rw [if_neg hk]
      obtain ⟨hn, ht⟩ := hall n (by simp)
      obtain ⟨b, hb⟩ : ∃ b, findF n S.fs = some b := by
        unfold thereF at ht
        exact Option.isSome_iff_exists.1 ht
      have hr : removeS S n = (0, { tick S with fs := delF n S.fs }) := by
        unfold removeS writeS
        rw [if_neg (by simp [touch_is hn hd hb]), if_neg (by omega)]
      have hg1 := hg.remove n
      rw [hr] at hg1
      rw [hr, if_neg (by simp)]
      obtain ⟨k1, k2, k3, k4⟩ := sweepL_says r { tick S with fs := delF n S.fs } hg1 hd (tick_left hl) (fun m hm => by
        obtain ⟨q1, q2⟩ := hall m (List.mem_cons_of_mem _ hm)
        refine ⟨q1, ?_⟩
        have : m ≠ n := fun e => hnr (e ▸ hm)
        unfold thereF at q2 ⊢
        simp only
        rw [findF_del_other this]
        exact q2) (List.nodup_cons.1 hnd).2
      refine ⟨k1, k2, k3, fun m => ?_⟩
      rw [k4]
      by_cases e : m = n
      · subst e
        simp only [hnr, false_and, if_false, List.mem_cons, true_or, true_and]
        rw [findF_del_same hg.rise, if_pos (by simpa using hk)]
      · simp only [List.mem_cons, e, false_or]
        rw [findF_del_other e]
theorem names_nodup {fs : Files} (h : Rising fs) : (namesF fs).Nodup := by
  unfold namesF List.Nodup
  rw [List.pairwise_map]
  unfold Rising at h
  exact List.Pairwise.imp (fun {a b} (hab : a.1 < b.1) (e : a.1 = b.1) => bs_lt_irrefl b.1 (by rw [e] at hab; exact hab)) h
theorem names_there {fs : Files} {n : Bs} : n ∈ namesF fs ↔ thereF n fs = true := by
  unfold thereF
  constructor
  · intro h
    obtain ⟨p, hp, rfl⟩ := List.mem_map.1 h
    cases hf : findF p.1 fs with
    | none => exact absurd rfl (findF_none.1 hf p hp)
    | some _ => rfl
  · intro h
    obtain ⟨b, hb⟩ := Option.isSome_iff_exists.1 h
    exact List.mem_map.2 ⟨_, findF_mem hb, rfl⟩
theorem sweep_says {S : St} (hg : Good S) (hd : S.dark = false) (hl : S.left = -1) (hn : AllNamed S) :
    (sweepS S).1 = 0 ∧ (sweepS S).2.dark = false ∧ (sweepS S).2.left = -1 ∧ ∀ m, findF m (sweepS S).2.fs = if marked m = true then none else findF m S.fs := by
  obtain ⟨k1, k2, k3, k4⟩ := sweepL_says (namesF S.fs) S hg hd hl (fun n hm => by
    have ht := names_there.1 hm
    refine ⟨?_, ht⟩
    unfold thereF at ht
    obtain ⟨b, hb⟩ := Option.isSome_iff_exists.1 ht
    exact hn n b hb) (names_nodup hg.rise)
  refine ⟨k1, k2, k3, fun m => ?_⟩
  show findF m (sweepL S (namesF S.fs)).2.fs = _
  rw [k4]
  by_cases hm : marked m = true
  · by_cases ht : thereF m S.fs = true
    · rw [if_pos ⟨names_there.2 ht, hm⟩, if_pos hm]
    · rw [if_neg (fun h => ht (names_there.1 h.1)), if_pos hm]
      cases hf : findF m S.fs with
      | none => rfl
      | some _ => exact absurd (by simp [thereF, hf]) ht
  · rw [if_neg (fun h => hm h.2), if_neg hm]
end Go.Proofs.Ythibhkoneajffaa
