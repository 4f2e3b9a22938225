/- Slots in memory: the walks over slices of ints that the law itself makes and compares. -/
import Derived.Test.YtciacofibljmoabGreatDoorVisB
namespace Go.Proofs.YtciacofibljmoabGreatDoor
open Go.RowKit

/-- A slice's address leads to these numbers. -/
def IntsIn (w : World) (a : Option Addr) (zs : List Int) : Prop :=
  ∀ i (hi : i < zs.length), ∃ b off, a = some ⟨b, off, none⟩ ∧ b < w.heap.size ∧ w.cell? ⟨b, off + i, none⟩ = some (.int .i64 zs[i])
theorem IntsIn.later {w w' : World} {a : Option Addr} {zs : List Int} (h : IntsIn w a zs) (hb : Below w.heap.size w w') : IntsIn w' a zs := fun i hi => by
  obtain ⟨b, off, ha, hlt, h0⟩ := h i hi
  exact ⟨b, off, ha, Nat.lt_of_lt_of_le hlt hb.size, cell_later hb h0⟩

/-- What the cells of a row of numbers hold. -/
def intCell (zs : List Int) (j : Nat) : Value := .int .i64 (zs.getD j 0)
theorem intCell_at (zs : List Int) (k : Nat) (h : k < zs.length) : intCell zs k = .int .i64 zs[k] := by
  unfold intCell
  rw [getD_at zs k _ h]
theorem IntsIn.ofRow {w : World} {g : Nat} {t : TypeId} {zs : List Int} (h : w.rowIs g t zs.length (intCell zs)) : IntsIn w (some ⟨g, 0, none⟩) zs := fun i hi =>
  ⟨g, 0, rfl, h.lt, by rw [Nat.zero_add, h.cell hi, intCell_at _ _ hi]⟩

theorem info_int : (Tryz.prog.info? 3).map (fun i => (i.zero, i.size, i.bytes)) = some (some (.int .i64 0), 1, 8) := by kernel_rfl

set_option maxHeartbeats 400000 in
theorem toIntS_any (a : Option Addr) (cap : Nat) (zs : List Int) (w : World) (hc : IntsIn w a zs) (hl : zs.length ≤ 1048576) :
    Calls Tryz.prog 30 #[.slice a zs.length cap] w fun e w' => ∃ g, e = .returned (.slice (some ⟨g, 0, none⟩) zs.length zs.length) ∧ w.heap.size ≤ g ∧ w'.rowIs g 3 zs.length (intCell zs) ∧ Below w.heap.size w w' := by
  have hmk := run_make_row' (P := Tryz.prog) 24 3 (.int .i64 0) 8 Tryz.underlying24 info_int rfl .i64 .i64 zs.length (by omega) (by omega)
  have hf0 := World.rowIs_made w (.int .i64 0) zs.length 3
  have hb0 : Below w.heap.size w (w.alloc (.cells (madeCells #[.int .i64 0] zs.length) 3)) := (Below.refl _ _).alloc (Nat.le_refl _) _
  go_enter Tryz.func30, Tryz.ntmps30
  go_wp2
  go_loopw [4] (fun i wr => ∃ (k : Nat) (f : Nat → Value), k ≤ zs.length ∧ i = .int .i64 k ∧ wr.rowIs w.heap.size 3 zs.length f ∧ (∀ j, j < k → f j = intCell zs j) ∧ Below w.heap.size w wr) (fun i _ => zs.length - (intOf i).toNat)
  case atStart => exact ⟨0, _, Nat.zero_le _, rfl, hf0, fun j hj => by omega, hb0⟩
  case round =>
    obtain ⟨k, f, hk, rfl, hrow, hf, hbw⟩ := hrel
    by_cases hlt : k < zs.length
    · obtain ⟨b, off, rfl, hblt, e0⟩ := hc.later hbw k hlt
      have Q0 := hide (intCell_at zs k hlt)
      have hf' := hide hf
      have hc' := hide hc
      have R1 := hide hrow
      have c0 := hrow.cell (i := k) hlt
      have z0 := hrow.frozen k
      clear hf hc hmk hrow hf0 hb0
      generalize zs[k] = c at e0 Q0
      go_wp2
      go_roundw
      case rel =>
        refine ⟨k + 1, _, by omega, by go_num, R1.out.set k (.int .i64 c), fun j hj => ?_, hbw.setCell (Nat.le_refl _) _⟩
        by_cases j0 : j = k
        · rw [if_pos j0, j0, Q0.out]
        rw [if_neg j0]
        exact hf'.out j (by omega)
      case measure => simp [intOf]; omega
    · go_wp2
      go_ret
      have : k = zs.length := by omega
      subst this
      exact ⟨_, rfl, Nat.le_refl _, hrow.congr (fun i hi => hf i hi), hbw⟩

set_option maxHeartbeats 800000 in
theorem eqIntS_same (a a' : Option Addr) (cap cap' : Nat) (zs : List Int) (w : World) (hc : IntsIn w a zs) (hc' : IntsIn w a' zs) (hl : zs.length ≤ 1048576) :
    Calls Tryz.prog 35 #[.slice a zs.length cap, .slice a' zs.length cap'] w fun e w' => e = .returned (.bool true) ∧ Below w.heap.size w w' := by
  go_enter Tryz.func35, Tryz.ntmps35
  go_wp2
  go_loopw [5] (fun i wr => ∃ (k : Nat), k ≤ zs.length ∧ i = .int .i64 k ∧ Below w.heap.size w wr) (fun i _ => zs.length - (intOf i).toNat)
  case atStart => exact ⟨0, Nat.zero_le _, rfl, Below.refl _ _⟩
  case round =>
    obtain ⟨k, hk, rfl, hbw⟩ := hrel
    by_cases hlt : k < zs.length
    · obtain ⟨b, off, rfl, hblt, e0⟩ := hc.later hbw k hlt
      obtain ⟨b', off', rfl, hblt', e0'⟩ := hc'.later hbw k hlt
      clear hc hc'
      generalize zs[k] = c at e0 e0'
      have k0 : (0 : Int) ≤ (k : Int) := by omega
      have k1 : (k : Int) < (zs.length : Int) := by omega
      go_wp2
      go_quiet (fail)
      go_wp2
      go_roundw
      case rel => exact ⟨k + 1, by omega, by go_num, below_drewN hbw _⟩
      case measure => simp [intOf]; omega
    · go_wp2
      go_ret
      exact ⟨rfl, hbw⟩

end Go.Proofs.YtciacofibljmoabGreatDoor
