/- The walk of awake: the document's examples. -/
import Derived.Test.YtijgmhdhaekocaaUnhex
namespace Go.Proofs.Ytijgmhdhaekocaa
open Go.RowKit
theorem unhex_0F : unhexL [48, 70] = none := by decide
theorem unhex_0 : unhexL [48] = none := rfl
theorem unhex_ok : unhexL [48, 48, 48, 102, 97, 48] = some [0, 15, 160] := by decide
theorem hex_ok : hexL [0, 15, 160] = [48, 48, 48, 102, 97, 48] := by decide
theorem unhex1 (w : World) : Calls Try.prog 15 #[.string { data := #[48, 70] }] w fun e w' => e = .returned (.tuple #[.string (SL []), .int .i64 1]) ∧ Below w.heap.size w w' :=
  (unhex_any _ w (by decide)).mono fun _ _ h => ⟨h.1.trans (congrArg Ending.returned (unhexV_none unhex_0F)), h.2⟩
theorem unhex2 (w : World) : Calls Try.prog 15 #[.string { data := #[48] }] w fun e w' => e = .returned (.tuple #[.string (SL []), .int .i64 1]) ∧ Below w.heap.size w w' :=
  (unhex_any _ w (by decide)).mono fun _ _ h => ⟨h.1.trans (congrArg Ending.returned (unhexV_none unhex_0)), h.2⟩
theorem unhex3 (w : World) : Calls Try.prog 15 #[.string { data := #[48, 48, 48, 102, 97, 48] }] w fun e w' => e = .returned (.tuple #[.string { data := #[0, 15, 160] }, .int .i64 0]) ∧ Below w.heap.size w w' :=
  (unhex_any _ w (by decide)).mono fun _ _ h => ⟨h.1.trans (congrArg Ending.returned (unhexV_some unhex_ok)), h.2⟩
theorem hex3 (w : World) : Calls Try.prog 17 #[.string { data := #[0, 15, 160] }] w fun e w' => e = .returned (.string { data := #[48, 48, 48, 102, 97, 48] }) ∧ Below w.heap.size w w' :=
  (hex_any _ w (by decide)).mono fun _ _ h => ⟨h.1.trans (congrArg Ending.returned (by rw [hex_ok]; rfl)), h.2⟩
set_option maxHeartbeats 400000 in
theorem awake_any (w : World) : Calls Try.prog 9 #[] w fun e w' => e = .returned (.bool true) ∧ Below w.heap.size w w' := by
  have hl : (SL (sumL [])).size = 32 := by rw [SL_size, sumL_length]
  go_enter Try.func9, Try.ntmps9
  go_wp2_with fail
  refine (unhex1 _).mono ?_
  rintro e w1 ⟨rfl, hb1⟩
  go_wp2_with fail
  refine (unhex2 _).mono ?_
  rintro e w2 ⟨rfl, hb2⟩
  go_wp2_with fail
  refine (unhex3 _).mono ?_
  rintro e w3 ⟨rfl, hb3⟩
  go_wp2_with fail
  refine (hex3 _).mono ?_
  rintro e w4 ⟨rfl, hb4⟩
  go_wp2_with fail
  refine (sum_nil _).mono ?_
  rintro e w5 ⟨rfl, hb5⟩
  go_wp2_with fail
  go_ret
  have a1 := hb1.trans (hb2.mono hb1.size)
  have a2 := a1.trans (hb3.mono a1.size)
  have a3 := a2.trans (hb4.mono a2.size)
  exact ⟨rfl, a3.trans (hb5.mono a3.size)⟩
end Go.Proofs.Ytijgmhdhaekocaa
