/- Marks in caps, and in flights from any number on. -/
import Derived.Test.YtciacofibljmoaaGreatDoorIntMarks
namespace Go.Proofs.YtciacofibljmoaaGreatDoor
open Go.RowKit

theorem shape_touch {lo hi lo' hi' : Nat} {w w' : World} {g n : Nat} {gv m : Nat → Nat} (h : ShapeFl lo hi w g n gv m) (ht : Touch lo' hi' w w') (ho : hi ≤ lo' ∨ hi' ≤ lo) : ShapeFl lo hi w' g n gv m := by
  obtain ⟨h0, f, hr, hf⟩ := h
  refine ⟨h0, f, row_touch hr ht (by omega), fun i hi2 => ?_⟩
  obtain ⟨a, b, c, f', d⟩ := hf i hi2
  exact ⟨a, b, c, f', row_touch d ht (by omega)⟩

end Go.Proofs.YtciacofibljmoaaGreatDoor
