/- The small draws: a text of a list, a sector, the names, numbers without a sign. -/
import Derived.Test.YtciacofibljmoabDraw1
namespace Go.Proofs.Ytciacofibljmoab
open Go.RowKit

/-- Texts that lie above a block. -/
def StrsIn (r : Nat) (w : World) (a : Option Addr) (ss : List ByteArray) : Prop :=
  ∀ i (hi : i < ss.length), ∃ b off, a = some ⟨b, off, none⟩ ∧ r < b ∧ w.cell? ⟨b, off + i, none⟩ = some (.string ss[i])
theorem StrsIn.touch {r lo hi : Nat} {w w' : World} {a : Option Addr} {ss : List ByteArray} (h : StrsIn r w a ss) (ht : Touch lo hi w w') (hh : hi ≤ r + 1) : StrsIn r w' a ss := fun i hi' => by
  obtain ⟨b, off, e, hb, hc⟩ := h i hi'
  exact ⟨b, off, e, hb, cell_touch ht hc (.inr (by show hi ≤ b; omega))⟩
theorem StrsIn.later {r : Nat} {w w' : World} {a : Option Addr} {ss : List ByteArray} (h : StrsIn r w a ss) (hb : Below w.heap.size w w') : StrsIn r w' a ss := fun i hi' => by
  obtain ⟨b, off, e, hb', hc⟩ := h i hi'
  exact ⟨b, off, e, hb', cell_later hb hc⟩
theorem strs_alloc {r : Nat} {w : World} (hr : r < w.heap.size) (t : TypeId) (c : Array Value) (ss : List ByteArray) (hc : c = (ss.map Value.string).toArray) : StrsIn r (w.alloc (.cells c t)) (some ⟨w.heap.size, 0, none⟩) ss := fun i hi => by
  subst hc
  refine ⟨_, _, rfl, hr, ?_⟩
  simp [hi]

/-- The sectors that are drawn. -/
def secs : List ByteArray := [⟨#[101]⟩, ⟨#[101]⟩, ⟨#[110, 45, 49]⟩, ⟨#[119]⟩, ⟨#[119]⟩, ⟨#[122, 122]⟩]
theorem secs_size : ∀ s ∈ secs, s.size ≤ 8 := by decide

/-- The names that are drawn. -/
def nams : List ByteArray := [⟨#[97, 49]⟩, ⟨#[98, 97]⟩, ⟨#[99, 45, 99]⟩, ⟨#[100]⟩, ⟨#[107, 108, 49]⟩, ⟨#[108, 104]⟩, ⟨#[113]⟩, ⟨#[120, 57]⟩]
theorem nams_size : ∀ s ∈ nams, s.size ≤ 8 := by decide

end Go.Proofs.Ytciacofibljmoab
