/- Visits in memory: the walks over slices of them that the law itself makes, measures and compares. -/
import Derived.Test.YtciacofibljmoaaGreatImplCaps
namespace Go.Proofs.YtciacofibljmoaaGreat
open Go.RowKit

/-- Element i of a slice of visits. -/
def visitAt (w : World) (b off i : Nat) (v : ByteArray × Int × Int) : Prop :=
  w.cell? ⟨b, off + i * 3, none⟩ = some (.string v.1) ∧ w.cell? ⟨b, off + i * 3 + 1, none⟩ = some (.int .i64 v.2.1) ∧ w.cell? ⟨b, off + i * 3 + 2, none⟩ = some (.int .i64 v.2.2)
/-- A slice's address leads to these visits. -/
def VisitsIn (w : World) (a : Option Addr) (vs : List (ByteArray × Int × Int)) : Prop :=
  ∀ i (hi : i < vs.length), ∃ b off, a = some ⟨b, off, none⟩ ∧ b < w.heap.size ∧ visitAt w b off i vs[i]
theorem VisitsIn.later {w w' : World} {a : Option Addr} {vs : List (ByteArray × Int × Int)} (h : VisitsIn w a vs) (hb : Below w.heap.size w w') : VisitsIn w' a vs := fun i hi => by
  obtain ⟨b, off, ha, hlt, h0, h1, h2⟩ := h i hi
  exact ⟨b, off, ha, Nat.lt_of_lt_of_le hlt hb.size, cell_later hb h0, cell_later hb h1, cell_later hb h2⟩

theorem info_visit : (Tryz.prog.info? 52).map (fun i => (i.zero, i.size, i.bytes)) = some (some (.agg #[.string ⟨#[]⟩, .int .i64 0, .int .i64 0]), 3, 32) := by kernel_rfl

/-- What the cells of a row of visits hold. -/
def visitCell (vs : List (ByteArray × Int × Int)) (j : Nat) : Value :=
  if j % 3 = 0 then .string (vs.getD (j / 3) (ByteArray.empty, 0, 0)).1 else if j % 3 = 1 then .int .i64 (vs.getD (j / 3) (ByteArray.empty, 0, 0)).2.1 else .int .i64 (vs.getD (j / 3) (ByteArray.empty, 0, 0)).2.2
theorem visitCell_0 (vs : List (ByteArray × Int × Int)) (k : Nat) (h : k < vs.length) : visitCell vs (k * 3) = .string vs[k].1 := by
  unfold visitCell
  rw [if_pos (by omega), show k * 3 / 3 = k by omega, getD_at vs k _ h]
theorem visitCell_1 (vs : List (ByteArray × Int × Int)) (k : Nat) (h : k < vs.length) : visitCell vs (k * 3 + 1) = .int .i64 vs[k].2.1 := by
  unfold visitCell
  rw [if_neg (by omega), if_pos (by omega), show (k * 3 + 1) / 3 = k by omega, getD_at vs k _ h]
theorem visitCell_2 (vs : List (ByteArray × Int × Int)) (k : Nat) (h : k < vs.length) : visitCell vs (k * 3 + 2) = .int .i64 vs[k].2.2 := by
  unfold visitCell
  rw [if_neg (by omega), if_neg (by omega), show (k * 3 + 2) / 3 = k by omega, getD_at vs k _ h]
theorem VisitsIn.ofRow {w : World} {g : Nat} {t : TypeId} {vs : List (ByteArray × Int × Int)} (h : w.rowIs g t (vs.length * 3) (visitCell vs)) : VisitsIn w (some ⟨g, 0, none⟩) vs := fun i hi =>
  ⟨g, 0, rfl, h.lt, by rw [Nat.zero_add, h.cell (by omega), visitCell_0 _ _ hi], by rw [Nat.zero_add, h.cell (by omega), visitCell_1 _ _ hi], by rw [Nat.zero_add, h.cell (by omega), visitCell_2 _ _ hi]⟩

theorem run_make_visits (n : Nat) (hn : n ≤ 1048576) (u : World) : (Instr.makeSlice 34 (.int .i64 (n : Int)) (.int .i64 (n : Int))).run Tryz.prog u =
      .ok (.slice (some ⟨u.heap.size, 0, none⟩) n n) (u.alloc (.cells (madeCells #[.string ⟨#[]⟩, .int .i64 0, .int .i64 0] (n * 3)) 52)) := by
  obtain ⟨i0, hi, hz0, hz1, hz2⟩ := info_parts info_visit
  have h := run_make (P := Tryz.prog) u 34 52 i0 (.agg #[.string ⟨#[]⟩, .int .i64 0, .int .i64 0]) Tryz.underlying34 hi hz0 .i64 .i64 (n : Int) (n : Int) (by omega) (Int.le_refl _) (by rw [hz2]; omega) (by omega)
  simpa [hz1, Value.cells] using h

end Go.Proofs.YtciacofibljmoaaGreat
