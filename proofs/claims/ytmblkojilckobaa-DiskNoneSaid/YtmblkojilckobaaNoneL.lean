/- The walk of DiskNone. -/
import Derived.Test.YtmblkojilckobaaUnmade
import Derived.Test.YtmblkojilckobaaAwake
namespace Go.Proofs.Ytmblkojilckobaa
open Go.RowKit
set_option maxRecDepth 100000 in
set_option maxHeartbeats 1600000 in
theorem none_any (a b : Bs) (v : Value) (l : Bs) (n : Int) (w : World) (hv : BytesAt w (elder w) v l) : Calls Try.prog 5 #[.string (SL a), .string (SL b), v, .int .i64 n] w fun e w' => e = .returned (.bool true) ∧ Below w.heap.size w w' := by
  have hA := awake_any w
  obtain ⟨ao, cap, B, off, rfl, _, _⟩ := hv
  obtain ⟨K, hK⟩ : ∃ K, K = l.length := ⟨_, rfl⟩
  rw [← hK]
  clear hK
  go_enter Try.func5, Try.ntmps5
  go_wp2_with (first
    | (go_at_call 10; refine hA.mono ?_; rintro e w1 ⟨rfl, b1⟩))
  obtain ⟨p, hp⟩ : ∃ p, p = w1.heap.size := ⟨_, rfl⟩
  rw [← hp]
  obtain ⟨wz, hz⟩ : ∃ wz, wz = (w1.alloc (.cells #[.map none, .int .i64 0, .int .i64 0, .int .i64 0, .bool false] 54)).alloc (.cells #[.pointer none, .pointer (some ⟨p, 0, none⟩)] 24) := ⟨_, rfl⟩
  rw [← hz]
  have bz : Below w.heap.size w wz := by rw [hz]; exact (b1.alloc b1.size _).alloc (by have := b1.size; simp; omega) _
  have c0 : wz.cell? ⟨p, 0, none⟩ = some (.map none) := by
    rw [hz, hp]
    have h1 := heap_alloc_new w1 (.cells #[.map none, .int .i64 0, .int .i64 0, .int .i64 0, .bool false] 54)
    exact cell_of_row _ _ _ _ _ _ (below_heap ((Below.refl _ _).alloc (Nat.le_refl _) _) h1)
  have hnew : wz.heap[p + 1]? = some (.cells #[.pointer none, .pointer (some ⟨p, 0, none⟩)] 24) := by
    have h1 := heap_alloc_new (w1.alloc (.cells #[.map none, .int .i64 0, .int .i64 0, .int .i64 0, .bool false] 54)) (.cells #[.pointer none, .pointer (some ⟨p, 0, none⟩)] 24)
    rw [hz]
    have h2 : (w1.alloc (.cells #[.map none, .int .i64 0, .int .i64 0, .int .i64 0, .bool false] 54)).heap.size = w1.heap.size + 1 := by simp
    rw [h2, ← hp] at h1
    exact h1
  have d0 : wz.cell? ⟨p + 1, 0, none⟩ = some (.pointer none) := cell_of_row _ _ _ _ _ _ hnew
  have d1 : wz.cell? ⟨p + 1, 1, none⟩ = some (ptr p) := cell_of_row _ _ _ _ _ _ hnew
  have BZ := Lib.hid bz
  clear hnew hz hp b1 hA bz
  go_loopw [12] (fun i W => (i = .int .i64 0 ∨ i = .int .i64 1 ∨ i = .int .i64 2) ∧ W = wz) (fun i _ => 2 - (intOf i).toNat)
  case atStart => exact ⟨.inl rfl, rfl⟩
  case round =>
    obtain ⟨h, rfl⟩ := hrel
    rcases h with rfl | rfl | rfl
    · have hU := unmade_nil wr
      have U22 := Lib.hid (unmade_on hU)
      have U23 := Lib.hid (unmade_read hU (.string (SL a)))
      have U24 := Lib.hid (unmade_append hU (.string (SL a)) ao K cap)
      have U25 := Lib.hid (unmade_remove hU (.string (SL a)))
      have U26 := Lib.hid (unmade_rename hU (.string (SL a)) b)
      have U27 := Lib.hid (unmade_sync hU (.string (SL a)))
      have U28 := Lib.hid (unmade_cut hU n)
      have U16 := Lib.hid (unmade_off hU)
      have U29 := Lib.hid (unmade_has hU (.string (SL a)))
      have U14 := Lib.hid (unmade_free hU)
      have U30 := Lib.hid (unmade_ops hU)
      have U31 := Lib.hid (unmade_names hU)
      have U21 := Lib.hid (unmade_dump hU)
      clear hU
      go_wp2_with (first
        | (go_at_call 22; refine U22.out.mono ?_; rintro e _ ⟨rfl, rfl⟩)
        | (go_at_call 23; refine U23.out.mono ?_; rintro e _ ⟨rfl, rfl⟩)
        | (go_at_call 24; refine U24.out.mono ?_; rintro e _ ⟨rfl, rfl⟩)
        | (go_at_call 25; refine U25.out.mono ?_; rintro e _ ⟨rfl, rfl⟩)
        | (go_at_call 26; refine U26.out.mono ?_; rintro e _ ⟨rfl, rfl⟩)
        | (go_at_call 27; refine U27.out.mono ?_; rintro e _ ⟨rfl, rfl⟩)
        | (go_at_call 28; refine U28.out.mono ?_; rintro e _ ⟨rfl, rfl⟩)
        | (go_at_call 16; refine U16.out.mono ?_; rintro e _ ⟨rfl, rfl⟩)
        | (go_at_call 29; refine U29.out.mono ?_; rintro e _ ⟨rfl, rfl⟩)
        | (go_at_call 14; refine U14.out.mono ?_; rintro e _ ⟨rfl, rfl⟩)
        | (go_at_call 30; refine U30.out.mono ?_; rintro e _ ⟨rfl, rfl⟩)
        | (go_at_call 31; refine U31.out.mono ?_; rintro e _ ⟨rfl, rfl⟩)
        | (go_at_call 21; refine U21.out.mono ?_; rintro e _ ⟨rfl, rfl⟩))
      go_roundw
      case rel => exact ⟨.inr (.inl rfl), trivial⟩
      case measure => simp [intOf]
    · have hU := unmade_zero c0
      have U22 := Lib.hid (unmade_on hU)
      have U23 := Lib.hid (unmade_read hU (.string (SL a)))
      have U24 := Lib.hid (unmade_append hU (.string (SL a)) ao K cap)
      have U25 := Lib.hid (unmade_remove hU (.string (SL a)))
      have U26 := Lib.hid (unmade_rename hU (.string (SL a)) b)
      have U27 := Lib.hid (unmade_sync hU (.string (SL a)))
      have U28 := Lib.hid (unmade_cut hU n)
      have U16 := Lib.hid (unmade_off hU)
      have U29 := Lib.hid (unmade_has hU (.string (SL a)))
      have U14 := Lib.hid (unmade_free hU)
      have U30 := Lib.hid (unmade_ops hU)
      have U31 := Lib.hid (unmade_names hU)
      have U21 := Lib.hid (unmade_dump hU)
      clear hU
      go_wp2_with (first
        | (go_at_call 22; refine U22.out.mono ?_; rintro e _ ⟨rfl, rfl⟩)
        | (go_at_call 23; refine U23.out.mono ?_; rintro e _ ⟨rfl, rfl⟩)
        | (go_at_call 24; refine U24.out.mono ?_; rintro e _ ⟨rfl, rfl⟩)
        | (go_at_call 25; refine U25.out.mono ?_; rintro e _ ⟨rfl, rfl⟩)
        | (go_at_call 26; refine U26.out.mono ?_; rintro e _ ⟨rfl, rfl⟩)
        | (go_at_call 27; refine U27.out.mono ?_; rintro e _ ⟨rfl, rfl⟩)
        | (go_at_call 28; refine U28.out.mono ?_; rintro e _ ⟨rfl, rfl⟩)
        | (go_at_call 16; refine U16.out.mono ?_; rintro e _ ⟨rfl, rfl⟩)
        | (go_at_call 29; refine U29.out.mono ?_; rintro e _ ⟨rfl, rfl⟩)
        | (go_at_call 14; refine U14.out.mono ?_; rintro e _ ⟨rfl, rfl⟩)
        | (go_at_call 30; refine U30.out.mono ?_; rintro e _ ⟨rfl, rfl⟩)
        | (go_at_call 31; refine U31.out.mono ?_; rintro e _ ⟨rfl, rfl⟩)
        | (go_at_call 21; refine U21.out.mono ?_; rintro e _ ⟨rfl, rfl⟩))
      go_roundw
      case rel => exact ⟨.inr (.inr rfl), trivial⟩
      case measure => simp [intOf]
    · go_wp2
      go_ret
      exact ⟨rfl, BZ.out⟩
end Go.Proofs.Ytmblkojilckobaa
