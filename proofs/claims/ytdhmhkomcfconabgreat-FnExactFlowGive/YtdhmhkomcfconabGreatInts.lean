/- Slots in memory: the walks over slices of ints that the law itself makes and compares. -/
import Derived.Test.YtdhmhkomcfconabGreatImplFl
namespace Go.Proofs.YtdhmhkomcfconabGreat
open Go.RowKit

/-- A slice's address leads to these numbers. -/
def IntsIn (w : World) (a : Option Addr) (zs : List Int) : Prop :=
  ∀ i (hi : i < zs.length), ∃ b off, a = some ⟨b, off, none⟩ ∧ b < w.heap.size ∧ w.cell? ⟨b, off + i, none⟩ = some (.int .i64 zs[i])
theorem IntsIn.later {w w' : World} {a : Option Addr} {zs : List Int} (h : IntsIn w a zs) (hb : Below w.heap.size w w') : IntsIn w' a zs := fun i hi => by
  obtain ⟨b, off, ha, hlt, h0⟩ := h i hi
  exact ⟨b, off, ha, Nat.lt_of_lt_of_le hlt hb.size, cell_later hb h0⟩

/-- What the cells of a row of numbers hold. -/
def intCell (zs : List Int) (j : Nat) : Value := .int .i64 (zs.getD j 0)
theorem intCell_at (zs : List Int) (k : Nat) (h : k < zs.length) : intCell zs k = .int .i64 zs[k] := by
  unfold intCell
  rw [getD_at zs k _ h]
theorem IntsIn.ofRow {w : World} {g : Nat} {t : TypeId} {zs : List Int} (h : w.rowIs g t zs.length (intCell zs)) : IntsIn w (some ⟨g, 0, none⟩) zs := fun i hi =>
  ⟨g, 0, rfl, h.lt, by rw [Nat.zero_add, h.cell hi, intCell_at _ _ hi]⟩

theorem info_int : (Tryz.prog.info? 3).map (fun i => (i.zero, i.size, i.bytes)) = some (some (.int .i64 0), 1, 8) := by kernel_rfl

set_option maxHeartbeats 800000 in
theorem eqIntS_same (a a' : Option Addr) (cap cap' : Nat) (zs : List Int) (w : World) (hc : IntsIn w a zs) (hc' : IntsIn w a' zs) (hl : zs.length ≤ 1048576) :
    Calls Tryz.prog 10 #[.slice a zs.length cap, .slice a' zs.length cap'] w fun e w' => e = .returned (.bool true) ∧ Below w.heap.size w w' := by
  go_enter Tryz.func10, Tryz.ntmps10
  go_wp2
  go_loopw [5] (fun i wr => ∃ (k : Nat), k ≤ zs.length ∧ i = .int .i64 k ∧ Below w.heap.size w wr) (fun i _ => zs.length - (intOf i).toNat)
  case atStart => exact ⟨0, Nat.zero_le _, rfl, Below.refl _ _⟩
  case round =>
    obtain ⟨k, hk, rfl, hbw⟩ := hrel
    by_cases hlt : k < zs.length
    · obtain ⟨b, off, rfl, hblt, e0⟩ := hc.later hbw k hlt
      obtain ⟨b', off', rfl, hblt', e0'⟩ := hc'.later hbw k hlt
      clear hc hc'
      generalize zs[k] = c at e0 e0'
      have k0 : (0 : Int) ≤ (k : Int) := by omega
      have k1 : (k : Int) < (zs.length : Int) := by omega
      go_wp2
      go_quiet (fail)
      go_wp2
      go_roundw
      case rel => exact ⟨k + 1, by omega, by go_num, below_drewN hbw _⟩
      case measure => simp [intOf]; omega
    · go_wp2
      go_ret
      exact ⟨rfl, hbw⟩

end Go.Proofs.YtdhmhkomcfconabGreat
