/- Slots in memory: the walks over slices of ints that the law itself makes and compares. -/
import Derived.Test.YtciacofibljmoaaGreatDoorVisB
namespace Go.Proofs.YtciacofibljmoaaGreatDoor
open Go.RowKit

/-- A slice's address leads to these numbers. -/
def IntsIn (w : World) (a : Option Addr) (zs : List Int) : Prop :=
  ∀ i (hi : i < zs.length), ∃ b off, a = some ⟨b, off, none⟩ ∧ b < w.heap.size ∧ w.cell? ⟨b, off + i, none⟩ = some (.int .i64 zs[i])
theorem IntsIn.later {w w' : World} {a : Option Addr} {zs : List Int} (h : IntsIn w a zs) (hb : Below w.heap.size w w') : IntsIn w' a zs := fun i hi => by
  obtain ⟨b, off, ha, hlt, h0⟩ := h i hi
  exact ⟨b, off, ha, Nat.lt_of_lt_of_le hlt hb.size, cell_later hb h0⟩

/-- What the cells of a row of numbers hold. -/
def intCell (zs : List Int) (j : Nat) : Value := .int .i64 (zs.getD j 0)
theorem intCell_at (zs : List Int) (k : Nat) (h : k < zs.length) : intCell zs k = .int .i64 zs[k] := by
  unfold intCell
  rw [getD_at zs k _ h]
theorem IntsIn.ofRow {w : World} {g : Nat} {t : TypeId} {zs : List Int} (h : w.rowIs g t zs.length (intCell zs)) : IntsIn w (some ⟨g, 0, none⟩) zs := fun i hi =>
  ⟨g, 0, rfl, h.lt, by rw [Nat.zero_add, h.cell hi, intCell_at _ _ hi]⟩

theorem info_int : (Tryz.prog.info? 3).map (fun i => (i.zero, i.size, i.bytes)) = some (some (.int .i64 0), 1, 8) := by kernel_rfl

end Go.Proofs.YtciacofibljmoaaGreatDoor
