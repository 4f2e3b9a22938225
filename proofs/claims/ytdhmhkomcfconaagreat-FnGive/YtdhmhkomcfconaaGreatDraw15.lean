/- What the law draws: flights, slots, a sector and a tick; caps, flights and slots. -/
import Derived.Test.YtdhmhkomcfconaaGreatDraw14
namespace Go.Proofs.YtdhmhkomcfconaaGreat
open Go.RowKit

theorem below_touched {B hi : Nat} {w w1 w' : World} (h : Below B w w1) (ht : Touch B hi w1 w') (hB : B ≤ w1.heap.size) : Below B w w' :=
  h.trans ⟨ht.os, ht.tape, ht.output, ht.size, fun k hk => ht.block k (by omega) (.inl hk)⟩

end Go.Proofs.YtdhmhkomcfconaaGreat
