/- The document's Decode: what bytes are read as, and no more. -/
import Derived.Test.YtckbeeadkiiccaaCRefD1
import Derived.Test.YtckbeeadkiiccaaCRefD2
import Derived.Test.YtckbeeadkiiccaaCRefD3
import Derived.Test.YtckbeeadkiiccaaCRefD4
import Derived.Test.YtckbeeadkiiccaaCRefDN
namespace Go.Proofs.Ytckbeeadkiiccaa
open Go.RowKit
set_option maxRecDepth 100000 in
set_option maxHeartbeats 4000000 in
theorem refDec_nil (ao : Option Addr) (cap : Nat) (w : World) : Calls Try.prog 23 #[.slice ao 0 cap] w (DecTo [] w) := by
  obtain ⟨W1, hW1⟩ : ∃ W, W = w.alloc (.cells #[.int .i64 0, .slice none 0 0, .slice none 0 0, .string ⟨#[]⟩, .slice none 0 0, .string ⟨#[]⟩, .string ⟨#[]⟩, .string ⟨#[]⟩, .int .i64 0, .string ⟨#[]⟩] 26) := ⟨_, rfl⟩
  have qr : W1.heap[w.heap.size]? = some (.cells #[.int .i64 0, .slice none 0 0, .slice none 0 0, .string ⟨#[]⟩, .slice none 0 0, .string ⟨#[]⟩, .string ⟨#[]⟩, .string ⟨#[]⟩, .int .i64 0, .string ⟨#[]⟩] 26 (0, 0)) := by rw [hW1]; exact heap_alloc_new w _
  have b1 : Below w.heap.size w W1 := by rw [hW1]; exact (Below.refl _ _).alloc (Nat.le_refl _) _
  obtain ⟨u0, u1, u2, u3, u4, u5, u6, u7, u8, u9⟩ := obj_cells qr
  have f0 := obj_fz qr
  have HW := Lib.hid hW1
  have BL := Lib.hid b1
  have QR := Lib.hid qr
  rw [hW1] at u0 u1 u2 u3 u4 u5 u6 u7 u8 u9 f0
  clear hW1 b1 qr
  go_enter Try.func23, Try.ntmps23
  go_wp2_with fail
  rw [← HW.out]
  have hld := run_loadVar_row (P := Try.prog) _ w.heap.size 26 26 #[.int .i64 0, .slice none 0 0, .slice none 0 0, .string ⟨#[]⟩, .slice none 0 0, .string ⟨#[]⟩, .string ⟨#[]⟩, .string ⟨#[]⟩, .int .i64 0, .string ⟨#[]⟩] (0, 0) _ QR.out Try.underlying26 rfl (by kernel_rfl)
  refine bodyPost_ret (v := .tuple #[.agg #[.int .i64 0, .slice none 0 0, .slice none 0 0, .string ⟨#[]⟩, .slice none 0 0, .string ⟨#[]⟩, .string ⟨#[]⟩, .string ⟨#[]⟩, .int .i64 0, .string ⟨#[]⟩], .int .i64 2]) ?_ rfl ?_
  · rw [results_cell_tmp rfl]
    simp [asAddr, Result.andThen, hld]
  · exact ⟨BL.out, rfl⟩
theorem refDecode_any (ao : Option Addr) (cap B off : Nat) (b : OB) (w : World) (h : SrcAt w ao cap b B off) (hl : b.length ≤ 140737488355328) : Calls Try.prog 23 #[.slice ao b.length cap] w (DecTo b w) := by
  cases b with
  | nil => exact refDec_nil ao cap w
  | cons c r =>
    by_cases k1 : c.toNat = 1
    · exact refDec_1 ao cap B off c r w h hl k1
    · by_cases k2 : c.toNat = 2
      · exact refDec_2 ao cap B off c r w h hl k2
      · by_cases k3 : c.toNat = 3
        · exact refDec_3 ao cap B off c r w h hl k3
        · by_cases k4 : c.toNat = 4
          · exact refDec_4 ao cap B off c r w h hl k4
          · exact refDec_N ao cap B off c r w h hl k1 k2 k3 k4
end Go.Proofs.Ytckbeeadkiiccaa
