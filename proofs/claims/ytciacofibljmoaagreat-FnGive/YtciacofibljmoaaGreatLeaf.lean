/- The contracts of the smallest functions, proved over the translation. -/
import Derived.Test.YtciacofibljmoaaGreatRows
import Derived.WalkKit
import Derived.WalkLawsBesides
import Derived.WalkSpells
import Derived.ProofKit
import Derived.Below
import Derived.Outline
import Derived.Deep.OwnRows
import Derived.Deep.RegionHeld3
namespace Go.Proofs.YtciacofibljmoaaGreat
open Go.RowKit

/-- n lies in lo .. hi. -/
def inB (n lo hi : Int) : Bool := decide (lo ≤ n) && decide (n ≤ hi)

set_option maxHeartbeats 400000 in
theorem within_any (n lo hi : Int) (w : World) :
    Calls Tryz.prog 64 #[.int .i64 n, .int .i64 lo, .int .i64 hi] w fun e w' => e = .returned (.bool (inB n lo hi)) ∧ w' = w := by
  by_cases h : lo ≤ n
  · by_cases h2 : n ≤ hi
    · go_enter Tryz.func64, Tryz.ntmps64
      go_wp2
      go_ret
      exact ⟨by simp [inB, h, h2], rfl⟩
    · go_enter Tryz.func64, Tryz.ntmps64
      go_wp2
      go_ret
      exact ⟨by simp [inB, h, h2], rfl⟩
  · have h' : decide (lo ≤ n) = false := by simpa using h
    go_enter Tryz.func64, Tryz.ntmps64
    go_wp2
    go_ret
    exact ⟨by simp [inB, h'], rfl⟩

/-- Element i of a slice of caps that begins at a block and an offset. -/
def capAt (w : World) (b off i : Nat) (c : ByteArray × Int) : Prop :=
  w.cell? ⟨b, off + i * 2, none⟩ = some (.string c.1) ∧ w.cell? ⟨b, off + i * 2 + 1, none⟩ = some (.int .i64 c.2)
/-- A slice's address leads to these caps. -/
def CapsIn (w : World) (a : Option Addr) (cs : List (ByteArray × Int)) : Prop :=
  ∀ i (hi : i < cs.length), ∃ b off, a = some ⟨b, off, none⟩ ∧ b < w.heap.size ∧ capAt w b off i cs[i]
theorem CapsIn.later {w w' : World} {a : Option Addr} {cs : List (ByteArray × Int)} (h : CapsIn w a cs) (hb : Below w.heap.size w w') : CapsIn w' a cs := fun i hi => by
  obtain ⟨b, off, ha, hlt, h0, h1⟩ := h i hi
  exact ⟨b, off, ha, by have := hb.size; omega, by rw [hb.cell (p := ⟨b, _, none⟩) hlt]; exact h0, by rw [hb.cell (p := ⟨b, _, none⟩) hlt]; exact h1⟩

theorem info_cap : (Tryz.prog.info? 54).map (fun i => (i.zero, i.size, i.bytes)) = some (some (.agg #[.string ⟨#[]⟩, .int .i64 0]), 2, 24) := by kernel_rfl

/-- What the cells of a row of caps hold. -/
def capCell (cs : List (ByteArray × Int)) (j : Nat) : Value := if j % 2 = 0 then .string (cs.getD (j / 2) (ByteArray.empty, 0)).1 else .int .i64 (cs.getD (j / 2) (ByteArray.empty, 0)).2
theorem capCell_even (cs : List (ByteArray × Int)) (k : Nat) (h : k < cs.length) : capCell cs (k * 2) = .string cs[k].1 := by
  unfold capCell
  rw [if_pos (by omega), show k * 2 / 2 = k by omega]
  simp [List.getD, List.getElem?_eq_getElem h]
theorem capCell_odd (cs : List (ByteArray × Int)) (k : Nat) (h : k < cs.length) : capCell cs (k * 2 + 1) = .int .i64 cs[k].2 := by
  unfold capCell
  rw [if_neg (by omega), show (k * 2 + 1) / 2 = k by omega]
  simp [List.getD, List.getElem?_eq_getElem h]
theorem CapsIn.ofRow {w : World} {g : Nat} {t : TypeId} {cs : List (ByteArray × Int)} (h : w.rowIs g t (cs.length * 2) (capCell cs)) : CapsIn w (some ⟨g, 0, none⟩) cs := fun i hi =>
  ⟨g, 0, rfl, h.lt, by rw [Nat.zero_add, h.cell (by omega), capCell_even _ _ hi], by rw [Nat.zero_add, h.cell (by omega), capCell_odd _ _ hi]⟩

theorem run_make_caps (n : Nat) (hn : n ≤ 1048576) (u : World) : (Instr.makeSlice 23 (.int .i64 (n : Int)) (.int .i64 (n : Int))).run Tryz.prog u =
      .ok (.slice (some ⟨u.heap.size, 0, none⟩) n n) (u.alloc (.cells (madeCells #[.string ⟨#[]⟩, .int .i64 0] (n * 2)) 54)) := by
  obtain ⟨i0, hi, hz0, hz1, hz2⟩ := info_parts info_cap
  have h := run_make (P := Tryz.prog) u 23 54 i0 (.agg #[.string ⟨#[]⟩, .int .i64 0]) Tryz.underlying23 hi hz0 .i64 .i64 (n : Int) (n : Int) (by omega) (Int.le_refl _) (by rw [hz2]; omega) (by omega)
  simpa [hz1, Value.cells] using h

theorem rowIs_made' (w : World) (z : Array Value) (n : Nat) (t : TypeId) : ∃ f, (w.alloc (.cells (madeCells z n) t)).rowIs w.heap.size t n f :=
  ⟨fun i => z[i % z.size]!, _, Deep.blk_alloc_new _ _, size_madeCells _ _, fun i hi => by simp [madeCells, hi]⟩

end Go.Proofs.YtciacofibljmoaaGreat
