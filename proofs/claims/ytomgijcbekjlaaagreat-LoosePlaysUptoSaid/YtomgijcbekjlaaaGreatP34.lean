/- What the proofs stand on: ObjBody, ObjAll. -/
import Derived.Handy
import Derived.Test.YtomgijcbekjlaaaGreatP9
import Derived.Test.YtomgijcbekjlaaaGreatPB0
import Derived.Test.YtomgijcbekjlaaaGreatPB1
set_option maxRecDepth 100000
set_option maxHeartbeats 40000000
namespace Go.Proofs.YtomgijcbekjlaaaGreat
section
open Go.RowKit
def bodyV (o : ObjR) (dv ev uv : Value) : Value :=
 if o.kind = 1 then .iface 169 dv
 else if o.kind = 2 then .iface 170 ev
 else if o.kind = 3 then .iface 172 (.agg #[.string (SL o.tree), uv, .string (SL o.who), .int .i64 o.stamp, .string (SL o.text)])
 else if o.kind = 4 then .iface 174 (.agg #[.string (SL o.target), .string (SL o.name), .string (SL o.who), .int .i64 o.stamp, .string (SL o.text)])
 else .nilIface
def coreO (o : ObjR) : ObjR :=
 if o.kind = 1 then { zeroO 1 with data := o.data }
 else if o.kind = 2 then { zeroO 2 with ents := o.ents }
 else if o.kind = 3 then { zeroO 3 with tree := o.tree, ups := o.ups, who := o.who, stamp := o.stamp, text := o.text }
 else if o.kind = 4 then { zeroO 4 with target := o.target, name := o.name, who := o.who, stamp := o.stamp, text := o.text }
 else zeroO 0
def coreD (o : ObjR) (dv : Value) : Value := if o.kind = 1 then dv else .slice none 0 0
def coreE (o : ObjR) (ev : Value) : Value := if o.kind = 2 then ev else .slice none 0 0
def coreU (o : ObjR) (uv : Value) : Value := if o.kind = 3 then uv else .slice none 0 0
def mayO (o : ObjR) : Bool :=
 if o.kind = 1 then decide (o.data.length <= 1048576)
 else if o.kind = 2 then entsB o.ents
 else if o.kind = 3 then decide (o.tree.length = 32) && upsB o.ups && toldB o
 else if o.kind = 4 then decide (o.target.length = 32) && (decide (1 <= o.name.length) && decide (o.name.length <= 200)) && toldB o
 else false
def allL (o p : ObjR) : Bool := decide (o.data.length = p.data.length) && decide (o.ents.length = p.ents.length) && decide (o.ups.length = p.ups.length)
def allN (o p : ObjR) : Bool := (o.tree == p.tree) && (o.target == p.target) && (o.name == p.name)
def allB (o p : ObjR) : Bool := (allL o p && allN o p) && (o.who == p.who) && decide (o.stamp = p.stamp) && (o.text == p.text)
theorem core_one {o : ObjR} (h : o.kind = 1) : coreO o = { zeroO 1 with data := o.data } := by unfold coreO; rw [if_pos h]
theorem core_two {o : ObjR} (h : o.kind = 2) : coreO o = { zeroO 2 with ents := o.ents } := by unfold coreO; rw [if_neg (by omega), if_pos h]
theorem core_three {o : ObjR} (h : o.kind = 3) : coreO o = { zeroO 3 with tree := o.tree, ups := o.ups, who := o.who, stamp := o.stamp, text := o.text } := by unfold coreO; rw [if_neg (by omega), if_neg (by omega), if_pos h]
theorem core_four {o : ObjR} (h : o.kind = 4) : coreO o = { zeroO 4 with target := o.target, name := o.name, who := o.who, stamp := o.stamp, text := o.text } := by unfold coreO; rw [if_neg (by omega), if_neg (by omega), if_neg (by omega), if_pos h]
theorem core_none {o : ObjR} (h1 : ¬ o.kind = 1) (h2 : ¬ o.kind = 2) (h3 : ¬ o.kind = 3) (h4 : ¬ o.kind = 4) : coreO o = zeroO 0 := by unfold coreO; rw [if_neg h1, if_neg h2, if_neg h3, if_neg h4]
theorem ok_split (o : ObjR) : okO o = (mayO o && allB o (coreO o)) := by
 obtain ⟨kind, data, ents, tree, ups, target, name, who, stamp, text⟩ := o; by_cases h1 : kind = 1
 ·subst h1
  rw [ok_one rfl, core_one rfl]; unfold mayO allB allL allN bareB zeroO; simp only [if_true]; congr 1
  cases data <;> cases ents <;> cases tree <;> cases ups <;> cases target <;> cases name <;> cases who <;> cases text <;> simp [Bool.and_comm]
 ·by_cases h2 : kind = 2
  ·subst h2
   rw [ok_two rfl, core_two rfl]; unfold mayO allB allL allN bareB zeroO; rw [if_neg (by simp), if_pos rfl]
   congr 1
   cases data <;> cases ents <;> cases tree <;> cases ups <;> cases target <;> cases name <;> cases who <;> cases text <;> simp [Bool.and_comm]
  ·by_cases h3 : kind = 3
   ·subst h3
    rw [ok_three rfl, core_three rfl]; unfold mayO allB allL allN bareB zeroO; rw [if_neg (by simp), if_neg (by simp), if_pos rfl]
    congr 1
    cases data <;> cases ents <;> cases target <;> cases name <;> simp
   ·by_cases h4 : kind = 4
    ·subst h4
     rw [ok_four rfl, core_four rfl]; unfold mayO allB allL allN bareB zeroO; rw [if_neg (by simp), if_neg (by simp), if_neg (by simp), if_pos rfl]
     congr 1
     cases data <;> cases ents <;> cases tree <;> cases ups <;> simp
    ·rw [ok_kind h1 h2 h3 h4]
     unfold mayO; rw [if_neg h1, if_neg h2, if_neg h3, if_neg h4]; rfl
theorem bodyOf_any (o : ObjR) (a1 : Option Addr) (n1 c1 : Nat) (a2 : Option Addr) (n2 c2 : Nat) (a3 : Option Addr) (n3 c3 : Nat) (w : World) : Calls Tryz.prog 68 #[objV o (.slice a1 n1 c1) (.slice a2 n2 c2) (.slice a3 n3 c3)] w fun e w' => e = .returned (bodyV o (.slice a1 n1 c1) (.slice a2 n2 c2) (.slice a3 n3 c3)) /\ Below w.heap.size w w' := by
 have hb : Hid (Below w.heap.size w ((w.alloc (.cells #[.int .i64 o.kind, .slice a1 n1 c1, .slice a2 n2 c2, .string (SL o.tree), .slice a3 n3 c3, .string (SL o.target), .string (SL o.name), .string (SL o.who), .int .i64 o.stamp, .string (SL o.text)] 33)).alloc (.cells #[.string (SL o.who), .int .i64 o.stamp, .string (SL o.text)] 168))) := h_ (((Below.refl _ _).alloc (Nat.le_refl _) _).alloc (by simp) _)
 unfold objV bodyV; obtain ⟨K, hK⟩ := nm_ (o.kind); rw [<- hK] at hb |-; clear hK; by_cases h1 : K = 1
 ·subst h1
  rw [if_pos rfl]; go_enter Tryz.func68, Tryz.ntmps68; go_wp2; go_ret; exact ⟨rfl, hb.out⟩
 ·by_cases h2 : K = 2
  ·subst h2
   rw [if_neg (by omega), if_pos rfl]
   go_enter Tryz.func68, Tryz.ntmps68; go_wp2; go_ret; exact ⟨rfl, hb.out⟩
  ·by_cases h3 : K = 3
   ·subst h3
    rw [if_neg (by omega), if_neg (by omega), if_pos rfl]
    go_enter Tryz.func68, Tryz.ntmps68; go_wp2; go_ret; exact ⟨rfl, hb.out⟩
   ·by_cases h4 : K = 4
    ·subst h4
     rw [if_neg (by omega), if_neg (by omega), if_neg (by omega), if_pos rfl]
     go_enter Tryz.func68, Tryz.ntmps68; go_wp2; go_ret; exact ⟨rfl, hb.out⟩
    ·rw [if_neg h1, if_neg h2, if_neg h3, if_neg h4]
     go_enter Tryz.func68, Tryz.ntmps68; go_wp2; go_ret; exact ⟨rfl, hb.out⟩
theorem as_blob (v : Value) (x : TypeId) (W : World) : (Instr.typeAssert (.iface 169 v) x 169 true).run Tryz.prog W = .ok (.tuple #[v, .bool true]) W := by
 simp only [Instr.typeAssert, Sem.run_bind, run_underlying Tryz.underlying169, Result.andThen_ok]; rfl
theorem as_blob_tree (v : Value) (x : TypeId) (W : World) : (Instr.typeAssert (.iface 170 v) x 169 true).run Tryz.prog W = .ok (.tuple #[.slice none 0 0, .bool false]) W := by
 kernel_rfl
theorem as_blob_commit (v : Value) (x : TypeId) (W : World) : (Instr.typeAssert (.iface 172 v) x 169 true).run Tryz.prog W = .ok (.tuple #[.slice none 0 0, .bool false]) W := by
 kernel_rfl
theorem as_blob_tag (v : Value) (x : TypeId) (W : World) : (Instr.typeAssert (.iface 174 v) x 169 true).run Tryz.prog W = .ok (.tuple #[.slice none 0 0, .bool false]) W := by
 kernel_rfl
theorem as_blob_nil (x : TypeId) (W : World) : (Instr.typeAssert .nilIface x 169 true).run Tryz.prog W = .ok (.tuple #[.slice none 0 0, .bool false]) W := by
 kernel_rfl
theorem as_tree (v : Value) (x : TypeId) (W : World) : (Instr.typeAssert (.iface 170 v) x 170 true).run Tryz.prog W = .ok (.tuple #[v, .bool true]) W := by
 simp only [Instr.typeAssert, Sem.run_bind, run_underlying Tryz.underlying170, Result.andThen_ok]; rfl
theorem as_tree_blob (v : Value) (x : TypeId) (W : World) : (Instr.typeAssert (.iface 169 v) x 170 true).run Tryz.prog W = .ok (.tuple #[.slice none 0 0, .bool false]) W := by
 kernel_rfl
theorem as_tree_commit (v : Value) (x : TypeId) (W : World) : (Instr.typeAssert (.iface 172 v) x 170 true).run Tryz.prog W = .ok (.tuple #[.slice none 0 0, .bool false]) W := by
 kernel_rfl
theorem as_tree_tag (v : Value) (x : TypeId) (W : World) : (Instr.typeAssert (.iface 174 v) x 170 true).run Tryz.prog W = .ok (.tuple #[.slice none 0 0, .bool false]) W := by
 kernel_rfl
theorem as_tree_nil (x : TypeId) (W : World) : (Instr.typeAssert .nilIface x 170 true).run Tryz.prog W = .ok (.tuple #[.slice none 0 0, .bool false]) W := by
 kernel_rfl
theorem as_commit (v : Value) (x : TypeId) (W : World) : (Instr.typeAssert (.iface 172 v) x 172 true).run Tryz.prog W = .ok (.tuple #[v, .bool true]) W := by
 simp only [Instr.typeAssert, Sem.run_bind, run_underlying Tryz.underlying172, Result.andThen_ok]; rfl
theorem as_commit_blob (v : Value) (x : TypeId) (W : World) : (Instr.typeAssert (.iface 169 v) x 172 true).run Tryz.prog W = .ok (.tuple #[.agg #[.string ByteArray.empty, .slice none 0 0, .string ByteArray.empty, .int .i64 0, .string ByteArray.empty], .bool false]) W := by
 kernel_rfl
theorem as_commit_tree (v : Value) (x : TypeId) (W : World) : (Instr.typeAssert (.iface 170 v) x 172 true).run Tryz.prog W = .ok (.tuple #[.agg #[.string ByteArray.empty, .slice none 0 0, .string ByteArray.empty, .int .i64 0, .string ByteArray.empty], .bool false]) W := by
 kernel_rfl
theorem as_commit_tag (v : Value) (x : TypeId) (W : World) : (Instr.typeAssert (.iface 174 v) x 172 true).run Tryz.prog W = .ok (.tuple #[.agg #[.string ByteArray.empty, .slice none 0 0, .string ByteArray.empty, .int .i64 0, .string ByteArray.empty], .bool false]) W := by
 kernel_rfl
theorem as_commit_nil (x : TypeId) (W : World) : (Instr.typeAssert .nilIface x 172 true).run Tryz.prog W = .ok (.tuple #[.agg #[.string ByteArray.empty, .slice none 0 0, .string ByteArray.empty, .int .i64 0, .string ByteArray.empty], .bool false]) W := by
 kernel_rfl
theorem as_tag (v : Value) (x : TypeId) (W : World) : (Instr.typeAssert (.iface 174 v) x 174 true).run Tryz.prog W = .ok (.tuple #[v, .bool true]) W := by
 simp only [Instr.typeAssert, Sem.run_bind, run_underlying Tryz.underlying174, Result.andThen_ok]; rfl
theorem as_tag_blob (v : Value) (x : TypeId) (W : World) : (Instr.typeAssert (.iface 169 v) x 174 true).run Tryz.prog W = .ok (.tuple #[.agg #[.string ByteArray.empty, .string ByteArray.empty, .string ByteArray.empty, .int .i64 0, .string ByteArray.empty], .bool false]) W := by
 kernel_rfl
theorem as_tag_tree (v : Value) (x : TypeId) (W : World) : (Instr.typeAssert (.iface 170 v) x 174 true).run Tryz.prog W = .ok (.tuple #[.agg #[.string ByteArray.empty, .string ByteArray.empty, .string ByteArray.empty, .int .i64 0, .string ByteArray.empty], .bool false]) W := by
 kernel_rfl
theorem as_tag_commit (v : Value) (x : TypeId) (W : World) : (Instr.typeAssert (.iface 172 v) x 174 true).run Tryz.prog W = .ok (.tuple #[.agg #[.string ByteArray.empty, .string ByteArray.empty, .string ByteArray.empty, .int .i64 0, .string ByteArray.empty], .bool false]) W := by
 kernel_rfl
theorem as_tag_nil (x : TypeId) (W : World) : (Instr.typeAssert .nilIface x 174 true).run Tryz.prog W = .ok (.tuple #[.agg #[.string ByteArray.empty, .string ByteArray.empty, .string ByteArray.empty, .int .i64 0, .string ByteArray.empty], .bool false]) W := by
 kernel_rfl
attribute [local go_sem] as_blob as_blob_tree as_blob_commit as_blob_tag as_blob_nil as_tree as_tree_blob as_tree_commit as_tree_tag as_tree_nil as_commit as_commit_blob as_commit_tree as_commit_tag as_commit_nil as_tag as_tag_blob as_tag_tree as_tag_commit as_tag_nil
theorem objectOf_any (o : ObjR) (a1 : Option Addr) (n1 c1 : Nat) (a2 : Option Addr) (n2 c2 : Nat) (a3 : Option Addr) (n3 c3 : Nat) (w : World) : Calls Tryz.prog 91 #[bodyV o (.slice a1 n1 c1) (.slice a2 n2 c2) (.slice a3 n3 c3)] w fun e w' => e = .returned (objV (coreO o) (coreD o (.slice a1 n1 c1)) (coreE o (.slice a2 n2 c2)) (coreU o (.slice a3 n3 c3))) /\ Below w.heap.size w w' := by
 have hn : ∀ v : Obj, Below w.heap.size w (w.alloc v) := fun v => (Below.refl _ _).alloc (Nat.le_refl _) _
 have hn2 : ∀ v u : Obj, Below w.heap.size w ((w.alloc v).alloc u) := fun v u => (hn v).alloc (by simp) _
 have HN := h_ hn; have HN2 := h_ hn2; clear hn hn2; by_cases h1 : o.kind = 1
 ·have x2 : ¬ o.kind = 2 := by omega
  have x3 : ¬ o.kind = 3 := by omega
  unfold bodyV coreD coreE coreU; rw [core_one h1, if_pos h1, if_pos h1, if_neg x2, if_neg x3]; unfold objV zeroO; go_enter Tryz.func91, Tryz.ntmps91; go_wp2; go_returns
  exact ⟨rfl, HN.out _⟩
 ·by_cases h2 : o.kind = 2
  ·have x3 : ¬ o.kind = 3 := by omega
   unfold bodyV coreD coreE coreU; rw [core_two h2, if_neg h1, if_pos h2, if_neg h1, if_pos h2, if_neg x3]; unfold objV zeroO; go_enter Tryz.func91, Tryz.ntmps91; go_wp2; go_returns
   exact ⟨rfl, HN.out _⟩
  ·by_cases h3 : o.kind = 3
   ·unfold bodyV coreD coreE coreU
    rw [core_three h3, if_neg h1, if_neg h2, if_pos h3, if_neg h1, if_neg h2, if_pos h3]; unfold objV zeroO; go_enter Tryz.func91, Tryz.ntmps91; go_wp2; go_returns
    exact ⟨rfl, HN2.out _ _⟩
   ·by_cases h4 : o.kind = 4
    ·unfold bodyV coreD coreE coreU
     rw [core_four h4, if_neg h1, if_neg h2, if_neg h3, if_pos h4, if_neg h1, if_neg h2, if_neg h3]; unfold objV zeroO; go_enter Tryz.func91, Tryz.ntmps91; go_wp2; go_returns
     exact ⟨rfl, HN2.out _ _⟩
    ·unfold bodyV coreD coreE coreU
     rw [core_none h1 h2 h3 h4, if_neg h1, if_neg h2, if_neg h3, if_neg h4, if_neg h1, if_neg h2, if_neg h3]; unfold objV zeroO; go_enter Tryz.func91, Tryz.ntmps91; go_wp2; go_returns
     exact ⟨rfl, HN.out _⟩
end
section
open Go.RowKit
theorem isAll_any (o p : ObjR) (a1 : Option Addr) (c1 : Nat) (a2 : Option Addr) (c2 : Nat) (a3 : Option Addr) (c3 : Nat) (b1 : Option Addr) (d1 : Nat) (b2 : Option Addr) (d2 : Nat) (b3 : Option Addr) (d3 : Nat) (w : World) :
  Calls Tryz.prog 124 #[objV o (.slice a1 o.data.length c1) (.slice a2 o.ents.length c2) (.slice a3 o.ups.length c3), objV p (.slice b1 p.data.length d1) (.slice b2 p.ents.length d2) (.slice b3 p.ups.length d3)] w fun e w' => e = .returned (.bool (allB o p)) /\ Below w.heap.size w w' := by
 have hn2 : ∀ v u : Obj, Below w.heap.size w ((w.alloc v).alloc u) := fun v u => ((Below.refl _ _).alloc (Nat.le_refl _) _).alloc (by simp) _
 have HN2 := h_ hn2; obtain ⟨kind, data, ents, tree, ups, target, name, who, stamp, text⟩ := o; obtain ⟨kind', data', ents', tree', ups', target', name', who', stamp', text'⟩ := p; have hv : allB ⟨kind, data, ents, tree, ups, target, name, who, stamp, text⟩ ⟨kind', data', ents', tree', ups', target', name', who', stamp', text'⟩ = (((decide (data.length = data'.length) && decide (ents.length = ents'.length) && decide (ups.length = ups'.length)) && ((tree == tree') && (target == target') && (name == name'))) && (who == who') && decide (stamp = stamp') && (text == text')) := rfl
 rw [hv]; clear hv hn2; unfold objV; simp only
 obtain ⟨n1, hn1⟩ := nm_ (data.length); obtain ⟨n2, hn2⟩ := nm_ (ents.length); obtain ⟨n3, hn3⟩ := nm_ (ups.length); obtain ⟨m1, hm1⟩ := nm_ (data'.length); obtain ⟨m2, hm2⟩ := nm_ (ents'.length); obtain ⟨m3, hm3⟩ := nm_ (ups'.length); rw [<- hn1, <- hn2, <- hn3, <- hm1, <- hm2, <- hm3]; clear hn1 hn2 hn3 hm1 hm2 hm3; have l1 := SL_toList tree; have l2 := SL_toList tree'; have l3 := SL_toList target; have l4 := SL_toList target'; have l5 := SL_toList name; have l6 := SL_toList name'; have l7 := SL_toList who; have l8 := SL_toList who'; have l9 := SL_toList text; have l0 := SL_toList text'; by_cases k1 : n1 = m1
 rotate_left
 ·have i1 : ¬ (n1 : Int) = (m1 : Int) := by omega
  have j1 : ((n1 : Int) == (m1 : Int)) = false := by simpa using i1
  by_cases hq1 : (tree == tree') = true
  rotate_left
  ·have f1 : (tree == tree') = false := by simpa using hq1
   clear hq1; clear l3 l4 l5 l6 l7 l8 l9 l0; rw [show (((decide (n1 = m1) && decide (n2 = m2) && decide (n3 = m3)) && ((tree == tree') && (target == target') && (name == name'))) && (who == who') && decide (stamp = stamp') && (text == text')) = false from by simp [k1, f1]]
   go_enter Tryz.func124, Tryz.ntmps124; go_wp2; go_ret; exact ⟨rfl, HN2.out _ _⟩
  by_cases hq2 : (target == target') = true
  rotate_left
  ·have f2 : (target == target') = false := by simpa using hq2
   clear hq2; clear l5 l6 l7 l8 l9 l0; rw [show (((decide (n1 = m1) && decide (n2 = m2) && decide (n3 = m3)) && ((tree == tree') && (target == target') && (name == name'))) && (who == who') && decide (stamp = stamp') && (text == text')) = false from by simp [k1, hq1, f2]]
   go_enter Tryz.func124, Tryz.ntmps124; go_wp2; go_ret; exact ⟨rfl, HN2.out _ _⟩
  by_cases hq3 : (name == name') = true
  rotate_left
  ·have f3 : (name == name') = false := by simpa using hq3
   clear hq3; clear l7 l8 l9 l0; rw [show (((decide (n1 = m1) && decide (n2 = m2) && decide (n3 = m3)) && ((tree == tree') && (target == target') && (name == name'))) && (who == who') && decide (stamp = stamp') && (text == text')) = false from by simp [k1, hq1, hq2, f3]]
   go_enter Tryz.func124, Tryz.ntmps124; go_wp2; go_ret; exact ⟨rfl, HN2.out _ _⟩
  clear l7 l8 l9 l0; rw [show (((decide (n1 = m1) && decide (n2 = m2) && decide (n3 = m3)) && ((tree == tree') && (target == target') && (name == name'))) && (who == who') && decide (stamp = stamp') && (text == text')) = false from by simp [k1, hq1, hq2, hq3]]
  go_enter Tryz.func124, Tryz.ntmps124; go_wp2; go_ret; exact ⟨rfl, HN2.out _ _⟩
 obtain rfl := k1
 by_cases k2 : n2 = m2
 rotate_left
 ·have i2 : ¬ (n2 : Int) = (m2 : Int) := by omega
  have j2 : ((n2 : Int) == (m2 : Int)) = false := by simpa using i2
  by_cases hq1 : (tree == tree') = true
  rotate_left
  ·have f1 : (tree == tree') = false := by simpa using hq1
   clear hq1; clear l3 l4 l5 l6 l7 l8 l9 l0; rw [show (((decide (n1 = n1) && decide (n2 = m2) && decide (n3 = m3)) && ((tree == tree') && (target == target') && (name == name'))) && (who == who') && decide (stamp = stamp') && (text == text')) = false from by simp [k2, f1]]
   go_enter Tryz.func124, Tryz.ntmps124; go_wp2; go_ret; exact ⟨rfl, HN2.out _ _⟩
  by_cases hq2 : (target == target') = true
  rotate_left
  ·have f2 : (target == target') = false := by simpa using hq2
   clear hq2; clear l5 l6 l7 l8 l9 l0; rw [show (((decide (n1 = n1) && decide (n2 = m2) && decide (n3 = m3)) && ((tree == tree') && (target == target') && (name == name'))) && (who == who') && decide (stamp = stamp') && (text == text')) = false from by simp [k2, hq1, f2]]
   go_enter Tryz.func124, Tryz.ntmps124; go_wp2; go_ret; exact ⟨rfl, HN2.out _ _⟩
  by_cases hq3 : (name == name') = true
  rotate_left
  ·have f3 : (name == name') = false := by simpa using hq3
   clear hq3; clear l7 l8 l9 l0; rw [show (((decide (n1 = n1) && decide (n2 = m2) && decide (n3 = m3)) && ((tree == tree') && (target == target') && (name == name'))) && (who == who') && decide (stamp = stamp') && (text == text')) = false from by simp [k2, hq1, hq2, f3]]
   go_enter Tryz.func124, Tryz.ntmps124; go_wp2; go_ret; exact ⟨rfl, HN2.out _ _⟩
  clear l7 l8 l9 l0; rw [show (((decide (n1 = n1) && decide (n2 = m2) && decide (n3 = m3)) && ((tree == tree') && (target == target') && (name == name'))) && (who == who') && decide (stamp = stamp') && (text == text')) = false from by simp [k2, hq1, hq2, hq3]]
  go_enter Tryz.func124, Tryz.ntmps124; go_wp2; go_ret; exact ⟨rfl, HN2.out _ _⟩
 obtain rfl := k2
 by_cases k3 : n3 = m3
 rotate_left
 ·have i3 : ¬ (n3 : Int) = (m3 : Int) := by omega
  have j3 : ((n3 : Int) == (m3 : Int)) = false := by simpa using i3
  by_cases hq1 : (tree == tree') = true
  rotate_left
  ·have f1 : (tree == tree') = false := by simpa using hq1
   clear hq1; clear l3 l4 l5 l6 l7 l8 l9 l0; rw [show (((decide (n1 = n1) && decide (n2 = n2) && decide (n3 = m3)) && ((tree == tree') && (target == target') && (name == name'))) && (who == who') && decide (stamp = stamp') && (text == text')) = false from by simp [k3, f1]]
   go_enter Tryz.func124, Tryz.ntmps124; go_wp2; go_ret; exact ⟨rfl, HN2.out _ _⟩
  by_cases hq2 : (target == target') = true
  rotate_left
  ·have f2 : (target == target') = false := by simpa using hq2
   clear hq2; clear l5 l6 l7 l8 l9 l0; rw [show (((decide (n1 = n1) && decide (n2 = n2) && decide (n3 = m3)) && ((tree == tree') && (target == target') && (name == name'))) && (who == who') && decide (stamp = stamp') && (text == text')) = false from by simp [k3, hq1, f2]]
   go_enter Tryz.func124, Tryz.ntmps124; go_wp2; go_ret; exact ⟨rfl, HN2.out _ _⟩
  by_cases hq3 : (name == name') = true
  rotate_left
  ·have f3 : (name == name') = false := by simpa using hq3
   clear hq3; clear l7 l8 l9 l0; rw [show (((decide (n1 = n1) && decide (n2 = n2) && decide (n3 = m3)) && ((tree == tree') && (target == target') && (name == name'))) && (who == who') && decide (stamp = stamp') && (text == text')) = false from by simp [k3, hq1, hq2, f3]]
   go_enter Tryz.func124, Tryz.ntmps124; go_wp2; go_ret; exact ⟨rfl, HN2.out _ _⟩
  clear l7 l8 l9 l0; rw [show (((decide (n1 = n1) && decide (n2 = n2) && decide (n3 = m3)) && ((tree == tree') && (target == target') && (name == name'))) && (who == who') && decide (stamp = stamp') && (text == text')) = false from by simp [k3, hq1, hq2, hq3]]
  go_enter Tryz.func124, Tryz.ntmps124; go_wp2; go_ret; exact ⟨rfl, HN2.out _ _⟩
 obtain rfl := k3
 by_cases hq1 : (tree == tree') = true
 rotate_left
 ·have f1 : (tree == tree') = false := by simpa using hq1
  clear hq1; clear l3 l4 l5 l6 l7 l8 l9 l0; rw [show (((decide (n1 = n1) && decide (n2 = n2) && decide (n3 = n3)) && ((tree == tree') && (target == target') && (name == name'))) && (who == who') && decide (stamp = stamp') && (text == text')) = false from by simp [f1]]
  go_enter Tryz.func124, Tryz.ntmps124; go_wp2; go_ret; exact ⟨rfl, HN2.out _ _⟩
 by_cases hq2 : (target == target') = true
 rotate_left
 ·have f2 : (target == target') = false := by simpa using hq2
  clear hq2; clear l5 l6 l7 l8 l9 l0; rw [show (((decide (n1 = n1) && decide (n2 = n2) && decide (n3 = n3)) && ((tree == tree') && (target == target') && (name == name'))) && (who == who') && decide (stamp = stamp') && (text == text')) = false from by simp [hq1, f2]]
  go_enter Tryz.func124, Tryz.ntmps124; go_wp2; go_ret; exact ⟨rfl, HN2.out _ _⟩
 by_cases hq3 : (name == name') = true
 rotate_left
 ·have f3 : (name == name') = false := by simpa using hq3
  clear hq3; clear l7 l8 l9 l0; rw [show (((decide (n1 = n1) && decide (n2 = n2) && decide (n3 = n3)) && ((tree == tree') && (target == target') && (name == name'))) && (who == who') && decide (stamp = stamp') && (text == text')) = false from by simp [hq1, hq2, f3]]
  go_enter Tryz.func124, Tryz.ntmps124; go_wp2; go_ret; exact ⟨rfl, HN2.out _ _⟩
 by_cases hqw : (who == who') = true
 rotate_left
 ·have fw : (who == who') = false := by simpa using hqw
  clear hqw; clear l9 l0; rw [show (((decide (n1 = n1) && decide (n2 = n2) && decide (n3 = n3)) && ((tree == tree') && (target == target') && (name == name'))) && (who == who') && decide (stamp = stamp') && (text == text')) = false from by simp [hq1, hq2, hq3, fw]]
  go_enter Tryz.func124, Tryz.ntmps124; go_wp2; go_ret; exact ⟨rfl, HN2.out _ _⟩
 by_cases hqz : stamp = stamp'
 rotate_left
 ·have fz : (stamp == stamp') = false := by simpa using hqz
  clear l9 l0; rw [show (((decide (n1 = n1) && decide (n2 = n2) && decide (n3 = n3)) && ((tree == tree') && (target == target') && (name == name'))) && (who == who') && decide (stamp = stamp') && (text == text')) = false from by simp [hq1, hq2, hq3, hqw, hqz]]
  go_enter Tryz.func124, Tryz.ntmps124; go_wp2; go_ret; exact ⟨rfl, HN2.out _ _⟩
 obtain rfl := hqz
 by_cases hqt : (text == text') = true
 rotate_left
 ·have ft : (text == text') = false := by simpa using hqt
  clear hqt; rw [show (((decide (n1 = n1) && decide (n2 = n2) && decide (n3 = n3)) && ((tree == tree') && (target == target') && (name == name'))) && (who == who') && decide (stamp = stamp) && (text == text')) = false from by simp [hq1, hq2, hq3, hqw, ft]]
  go_enter Tryz.func124, Tryz.ntmps124; go_wp2; go_ret; exact ⟨rfl, HN2.out _ _⟩
 rw [show (((decide (n1 = n1) && decide (n2 = n2) && decide (n3 = n3)) && ((tree == tree') && (target == target') && (name == name'))) && (who == who') && decide (stamp = stamp) && (text == text')) = true from by simp [hq1, hq2, hq3, hqw, hqt]]
 go_enter Tryz.func124, Tryz.ntmps124; go_wp2; go_ret; exact ⟨rfl, HN2.out _ _⟩
end
end Go.Proofs.YtomgijcbekjlaaaGreat
