/- Visits in memory: the walks over slices of them that the law itself makes, measures and compares. -/
import Derived.Test.YtciacofibljmoaaGreatDoorImplCaps
namespace Go.Proofs.YtciacofibljmoaaGreatDoor
open Go.RowKit

/-- Element i of a slice of visits. -/
def visitAt (w : World) (b off i : Nat) (v : ByteArray × Int × Int) : Prop :=
  w.cell? ⟨b, off + i * 3, none⟩ = some (.string v.1) ∧ w.cell? ⟨b, off + i * 3 + 1, none⟩ = some (.int .i64 v.2.1) ∧ w.cell? ⟨b, off + i * 3 + 2, none⟩ = some (.int .i64 v.2.2)
/-- A slice's address leads to these visits. -/
def VisitsIn (w : World) (a : Option Addr) (vs : List (ByteArray × Int × Int)) : Prop :=
  ∀ i (hi : i < vs.length), ∃ b off, a = some ⟨b, off, none⟩ ∧ b < w.heap.size ∧ visitAt w b off i vs[i]
theorem VisitsIn.later {w w' : World} {a : Option Addr} {vs : List (ByteArray × Int × Int)} (h : VisitsIn w a vs) (hb : Below w.heap.size w w') : VisitsIn w' a vs := fun i hi => by
  obtain ⟨b, off, ha, hlt, h0, h1, h2⟩ := h i hi
  exact ⟨b, off, ha, Nat.lt_of_lt_of_le hlt hb.size, cell_later hb h0, cell_later hb h1, cell_later hb h2⟩

theorem info_visit : (Tryz.prog.info? 76).map (fun i => (i.zero, i.size, i.bytes)) = some (some (.agg #[.string ⟨#[]⟩, .int .i64 0, .int .i64 0]), 3, 32) := by kernel_rfl

/-- What the cells of a row of visits hold. -/
def visitCell (vs : List (ByteArray × Int × Int)) (j : Nat) : Value :=
  if j % 3 = 0 then .string (vs.getD (j / 3) (ByteArray.empty, 0, 0)).1 else if j % 3 = 1 then .int .i64 (vs.getD (j / 3) (ByteArray.empty, 0, 0)).2.1 else .int .i64 (vs.getD (j / 3) (ByteArray.empty, 0, 0)).2.2
theorem visitCell_0 (vs : List (ByteArray × Int × Int)) (k : Nat) (h : k < vs.length) : visitCell vs (k * 3) = .string vs[k].1 := by
  unfold visitCell
  rw [if_pos (by omega), show k * 3 / 3 = k by omega, getD_at vs k _ h]
theorem visitCell_1 (vs : List (ByteArray × Int × Int)) (k : Nat) (h : k < vs.length) : visitCell vs (k * 3 + 1) = .int .i64 vs[k].2.1 := by
  unfold visitCell
  rw [if_neg (by omega), if_pos (by omega), show (k * 3 + 1) / 3 = k by omega, getD_at vs k _ h]
theorem visitCell_2 (vs : List (ByteArray × Int × Int)) (k : Nat) (h : k < vs.length) : visitCell vs (k * 3 + 2) = .int .i64 vs[k].2.2 := by
  unfold visitCell
  rw [if_neg (by omega), if_neg (by omega), show (k * 3 + 2) / 3 = k by omega, getD_at vs k _ h]
theorem VisitsIn.ofRow {w : World} {g : Nat} {t : TypeId} {vs : List (ByteArray × Int × Int)} (h : w.rowIs g t (vs.length * 3) (visitCell vs)) : VisitsIn w (some ⟨g, 0, none⟩) vs := fun i hi =>
  ⟨g, 0, rfl, h.lt, by rw [Nat.zero_add, h.cell (by omega), visitCell_0 _ _ hi], by rw [Nat.zero_add, h.cell (by omega), visitCell_1 _ _ hi], by rw [Nat.zero_add, h.cell (by omega), visitCell_2 _ _ hi]⟩

theorem run_make_visits (n : Nat) (hn : n ≤ 1048576) (u : World) : (Instr.makeSlice 30 (.int .i64 (n : Int)) (.int .i64 (n : Int))).run Tryz.prog u =
      .ok (.slice (some ⟨u.heap.size, 0, none⟩) n n) (u.alloc (.cells (madeCells #[.string ⟨#[]⟩, .int .i64 0, .int .i64 0] (n * 3)) 76)) := by
  obtain ⟨i0, hi, hz0, hz1, hz2⟩ := info_parts info_visit
  have h := run_make (P := Tryz.prog) u 30 76 i0 (.agg #[.string ⟨#[]⟩, .int .i64 0, .int .i64 0]) Tryz.underlying30 hi hz0 .i64 .i64 (n : Int) (n : Int) (by omega) (Int.le_refl _) (by rw [hz2]; omega) (by omega)
  simpa [hz1, Value.cells] using h

end Go.Proofs.YtciacofibljmoaaGreatDoor

/- Flights in memory: the walks over slices of them that the law itself makes, measures and compares. -/
namespace Go.Proofs.YtciacofibljmoaaGreatDoor
open Go.RowKit

abbrev Vis := ByteArray × Int × Int
abbrev Fli := ByteArray × Int × Int × List (ByteArray × Int × Int)

/-- Element i of a slice of flights. -/
def flightAt (w : World) (b off i : Nat) (f : Fli) : Prop :=
  w.cell? ⟨b, off + i * 4, none⟩ = some (.string f.1) ∧ w.cell? ⟨b, off + i * 4 + 1, none⟩ = some (.int .i64 f.2.1) ∧ w.cell? ⟨b, off + i * 4 + 2, none⟩ = some (.int .i64 f.2.2.1) ∧
    ∃ av cv, w.cell? ⟨b, off + i * 4 + 3, none⟩ = some (.slice av f.2.2.2.length cv) ∧ VisitsIn w av f.2.2.2
/-- A slice's address leads to these flights. -/
def FlightsIn (w : World) (a : Option Addr) (fs : List Fli) : Prop :=
  ∀ i (hi : i < fs.length), ∃ b off, a = some ⟨b, off, none⟩ ∧ b < w.heap.size ∧ flightAt w b off i fs[i]
theorem FlightsIn.later {w w' : World} {a : Option Addr} {fs : List Fli} (h : FlightsIn w a fs) (hb : Below w.heap.size w w') : FlightsIn w' a fs := fun i hi => by
  obtain ⟨b, off, ha, hlt, h0, h1, h2, av, cv, h3, hv⟩ := h i hi
  exact ⟨b, off, ha, Nat.lt_of_lt_of_le hlt hb.size, cell_later hb h0, cell_later hb h1, cell_later hb h2, av, cv, cell_later hb h3, hv.later hb⟩

/-- What is asked of the sizes of flights that come in. -/
def SizesOk (f : Fli) : Prop := f.1.size ≤ maxLen ∧ f.2.2.2.length ≤ maxLen ∧ ∀ v ∈ f.2.2.2, v.1.size ≤ maxLen

theorem rows_new (w : World) (o : Obj) (c2 c3 : Array Value) (t : TypeId) :
    (((w.alloc o).alloc (.cells c2 t)).alloc (.cells c3 t)).rowIs (w.heap.size + 1) t c2.size (fun i => c2.getD i undef) ∧ (((w.alloc o).alloc (.cells c2 t)).alloc (.cells c3 t)).rowIs (w.heap.size + 1 + 1) t c3.size (fun i => c3.getD i undef) := by
  have h2 := World.rowIs_alloc (w.alloc o) c2 t (fun i => c2.getD i undef) (fun i hi => by simp [hi])
  have h3 := World.rowIs_alloc ((w.alloc o).alloc (.cells c2 t)) c3 t (fun i => c3.getD i undef) (fun i hi => by simp [hi])
  simp only [Deep.nblk_alloc] at h2 h3
  exact ⟨h2.alloc _, h3⟩

/-- Element i of a row of flights of the call's own, its visits in a row of their own, all from block lo on. -/
def rowFlight (lo : Nat) (w : World) (g : Nat) (f : Nat → Value) (i : Nat) (c : Fli) : Prop :=
  f (i * 4) = .string c.1 ∧ f (i * 4 + 1) = .int .i64 c.2.1 ∧ f (i * 4 + 2) = .int .i64 c.2.2.1 ∧
    ∃ gv, f (i * 4 + 3) = .slice (some ⟨gv, 0, none⟩) c.2.2.2.length c.2.2.2.length ∧ lo ≤ gv ∧ gv ≠ g ∧ w.rowIs gv 76 (c.2.2.2.length * 3) (visitCell c.2.2.2)
def FlightsOwn (lo : Nat) (w : World) (g : Nat) (fs : List Fli) : Prop :=
  lo ≤ g ∧ ∃ f, w.rowIs g 32 (fs.length * 4) f ∧ ∀ i (hi : i < fs.length), rowFlight lo w g f i fs[i]
theorem FlightsIn.ofOwn {lo : Nat} {w : World} {g : Nat} {fs : List Fli} (h : FlightsOwn lo w g fs) : FlightsIn w (some ⟨g, 0, none⟩) fs := fun i hi => by
  obtain ⟨_, f, hrow, hf⟩ := h
  obtain ⟨h0, h1, h2, gv, h3, _, _, hv⟩ := hf i hi
  exact ⟨g, 0, rfl, hrow.lt, by rw [Nat.zero_add, hrow.cell (by omega), h0], by rw [Nat.zero_add, hrow.cell (by omega), h1], by rw [Nat.zero_add, hrow.cell (by omega), h2],
    some ⟨gv, 0, none⟩, _, by rw [Nat.zero_add, hrow.cell (by omega), h3], VisitsIn.ofRow hv⟩
theorem FlightsOwn.later {lo : Nat} {w w' : World} {g : Nat} {fs : List Fli} (h : FlightsOwn lo w g fs) (hb : Below w.heap.size w w') : FlightsOwn lo w' g fs := by
  obtain ⟨hlo, f, hrow, hf⟩ := h
  refine ⟨hlo, f, hrow.of_block (hb.block _ hrow.lt), fun i hi => ?_⟩
  obtain ⟨h0, h1, h2, gv, h3, hl, hne, hv⟩ := hf i hi
  exact ⟨h0, h1, h2, gv, h3, hl, hne, hv.of_block (hb.block _ hv.lt)⟩

theorem info_flight : (Tryz.prog.info? 32).map (fun i => (i.zero, i.size, i.bytes)) = some (some (.agg #[.string ⟨#[]⟩, .int .i64 0, .int .i64 0, .slice none 0 0]), 4, 56) := by kernel_rfl
theorem run_make_flights (n : Nat) (hn : n ≤ 1048576) (u : World) : (Instr.makeSlice 24 (.int .i64 (n : Int)) (.int .i64 (n : Int))).run Tryz.prog u =
      .ok (.slice (some ⟨u.heap.size, 0, none⟩) n n) (u.alloc (.cells (madeCells #[.string ⟨#[]⟩, .int .i64 0, .int .i64 0, .slice none 0 0] (n * 4)) 32)) := by
  obtain ⟨i0, hi, hz0, hz1, hz2⟩ := info_parts info_flight
  have h := run_make (P := Tryz.prog) u 24 32 i0 (.agg #[.string ⟨#[]⟩, .int .i64 0, .int .i64 0, .slice none 0 0]) Tryz.underlying24 hi hz0 .i64 .i64 (n : Int) (n : Int) (by omega) (Int.le_refl _) (by rw [hz2]; omega) (by omega)
  simpa [hz1, Value.cells] using h

/-- What a round of toFlowFlightS has made. -/
def madeTo (B : Nat) (wr : World) (fs : List Fli) (k : Nat) : Prop :=
  ∃ f, wr.rowIs B 32 (fs.length * 4) f ∧ ∀ i (hi : i < fs.length), i < k → rowFlight B wr B f i fs[i]
theorem madeTo_step {B : Nat} {wr w1 : World} {fs : List Fli} {k : Nat} (hlt : k < fs.length) (h : madeTo B wr fs k) (hb : Below wr.heap.size wr w1) {gv : Nat} (hgv : wr.heap.size ≤ gv)
    (hv : w1.rowIs gv 76 (fs[k].2.2.2.length * 3) (visitCell fs[k].2.2.2)) :
    madeTo B ((((w1.setCell ⟨B, k * 4, none⟩ (.string fs[k].1)).setCell ⟨B, k * 4 + 1, none⟩ (.int .i64 fs[k].2.1)).setCell ⟨B, k * 4 + 2, none⟩ (.int .i64 fs[k].2.2.1)).setCell ⟨B, k * 4 + 3, none⟩ (.slice (some ⟨gv, 0, none⟩) fs[k].2.2.2.length fs[k].2.2.2.length)) fs (k + 1) := by
  obtain ⟨f, hrow, hf⟩ := h
  have hBlt := hrow.lt
  have hrow1 := hrow.of_block (hb.block _ hBlt)
  refine ⟨_, (((hrow1.set (k * 4) _).set (k * 4 + 1) _).set (k * 4 + 2) _).set (k * 4 + 3) _, fun i hi hik => ?_⟩
  have other : ∀ (g' t n : Nat) (F : Nat → Value) (u : World), g' ≠ B → u.rowIs g' t n F → ∀ (o : Nat) (v : Value), (u.setCell ⟨B, o, none⟩ v).rowIs g' t n F := fun g' t n F u hne hr o v => hr.setOther hne v
  by_cases e : i = k
  · subst e
    refine ⟨?_, ?_, ?_, gv, ?_, by omega, by omega, ?_⟩
    · dsimp only; rw [if_neg (by omega), if_neg (by omega), if_neg (by omega), if_pos rfl]
    · dsimp only; rw [if_neg (by omega), if_neg (by omega), if_pos rfl]
    · dsimp only; rw [if_neg (by omega), if_pos rfl]
    · dsimp only; rw [if_pos rfl]
    · exact other _ _ _ _ _ (by omega) (other _ _ _ _ _ (by omega) (other _ _ _ _ _ (by omega) (other _ _ _ _ _ (by omega) hv _ _) _ _) _ _) _ _
  · obtain ⟨h0, h1, h2, gv', h3, hl, hne, hv'⟩ := hf i hi (by omega)
    have hv1 := hv'.of_block (hb.block _ hv'.lt)
    refine ⟨?_, ?_, ?_, gv', ?_, hl, hne, ?_⟩
    · dsimp only; rw [if_neg (by omega), if_neg (by omega), if_neg (by omega), if_neg (by omega), h0]
    · dsimp only; rw [if_neg (by omega), if_neg (by omega), if_neg (by omega), if_neg (by omega), h1]
    · dsimp only; rw [if_neg (by omega), if_neg (by omega), if_neg (by omega), if_neg (by omega), h2]
    · dsimp only; rw [if_neg (by omega), if_neg (by omega), if_neg (by omega), if_neg (by omega), h3]
    · exact other _ _ _ _ _ hne (other _ _ _ _ _ hne (other _ _ _ _ _ hne (other _ _ _ _ _ hne hv1 _ _) _ _) _ _) _ _

theorem below_dr {w w1 : World} (h : Below w.drew.heap.size w.drew w1) : Below w.heap.size w w1 := (Below.refl _ _).drew.trans h

end Go.Proofs.YtciacofibljmoaaGreatDoor
