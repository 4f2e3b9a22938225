/- The marks that the law writes: a number's text. -/
import Derived.Test.YtciacofibljmoaaGreatDoorVisB
namespace Go.Proofs.YtciacofibljmoaaGreatDoor
open Go.RowKit

theorem conv1 (W : World) (x : Int) : ∃ c : ByteArray, c.size = 1 ∧ (convert 22 9 (.slice (some ⟨W.heap.size, 0, none⟩) 1 1)).run Tryz.prog (W.alloc (.cells #[.int .u8 x] 5)) = .ok (.string c) (W.alloc (.cells #[.int .u8 x] 5)) := by
  refine ⟨ByteArray.empty.push (UInt8.ofNat x.toNat), rfl, ?_⟩
  rw [run_convert_bytes_string _ _ _ 5 _ _ _ Tryz.underlying22 Tryz.underlying5 Tryz.underlying9, run_bytesToString _ _ _ _ [x]]
  · rfl
  · simp [loadCells, go_sem]

end Go.Proofs.YtciacofibljmoaaGreatDoor
