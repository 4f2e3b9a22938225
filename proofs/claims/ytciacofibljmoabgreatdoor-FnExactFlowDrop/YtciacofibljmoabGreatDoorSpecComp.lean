/- FlowCompress, the document's way, walked. -/
import Derived.Test.YtciacofibljmoabGreatDoorDocs
import Derived.Test.YtciacofibljmoabGreatDoorRounds
namespace Go.Proofs.YtciacofibljmoabGreatDoor
open Go.RowKit

theorem own_nil {w : World} {base : Nat} {t : TypeId} {sz n c : Nat} {xs : List Value} (h : w.ownsRow base t sz (.slice none n c) n xs) : c = 0 := by
  rcases h.2 with ⟨h0, _⟩ | ⟨g, cap, cur, e, _⟩
  · simp at h0; exact h0.2
  · simp at e

end Go.Proofs.YtciacofibljmoabGreatDoor
