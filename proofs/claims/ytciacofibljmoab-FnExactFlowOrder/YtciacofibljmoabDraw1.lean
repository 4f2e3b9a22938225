/- The reader of a code: what it hands out is a number from 0 on, below what was asked. -/
import Derived.Test.YtciacofibljmoabMarks
import Derived.BigQuiet
import Derived.Laws.Bits64
namespace Go.Proofs.Ytciacofibljmoab
open Go.RowKit

/-- Bytes that lie below a block. -/
def BytesIn (r : Nat) (w : World) (a : Option Addr) (n : Nat) : Prop :=
  ∀ i, i < n → ∃ b off, ∃ z : Int, a = some ⟨b, off, none⟩ ∧ b < r ∧ 0 ≤ z ∧ z ≤ 255 ∧ w.cell? ⟨b, off + i, none⟩ = some (.int .u8 z)
theorem cell_touch {lo hi : Nat} {w w' : World} {a : Addr} {v : Value} (ht : Touch lo hi w w') (h : w.cell? a = some v) (ho : a.block < lo ∨ hi ≤ a.block) : w'.cell? a = some v := by
  rw [World.cell?_of_block (w := w) (ht.block _ (World.block_lt_of_cell? w a h) ho)]; exact h
theorem touch_drewN {lo hi m : Nat} {w w' : World} (h : Touch lo hi w w') : Touch lo hi w (w'.drewN m) := ⟨h.os, h.tape, h.output, h.size, h.block⟩
theorem touch_drew {lo hi : Nat} {w w' : World} (h : Touch lo hi w w') : Touch lo hi w w'.drew := ⟨h.os, h.tape, h.output, h.size, h.block⟩
theorem xor_bd (x : Int) (h0 : 0 ≤ x) (h1 : x < 1000000000000) : 0 ≤ bits .xor .i64 x (x / 64) := by
  obtain ⟨n, rfl⟩ := Int.eq_ofNat_of_zero_le h0
  have hx : n ^^^ (n / 64) < 2 ^ 41 := Nat.xor_lt_two_pow (by omega) (by omega)
  have e : ((n : Int) / 64) = ((n / 64 : Nat) : Int) := by omega
  have h2 : (BitVec.ofInt 64 (n : Int)).toNat = n := by
    rw [BitVec.ofInt_natCast, BitVec.toNat_ofNat]; exact Nat.mod_eq_of_lt (by omega)
  have h3 : (BitVec.ofInt 64 ((n / 64 : Nat) : Int)).toNat = n / 64 := by
    rw [BitVec.ofInt_natCast, BitVec.toNat_ofNat]; exact Nat.mod_eq_of_lt (by omega)
  rw [e]
  show 0 ≤ IntKind.i64.wrap ((BitVec.ofInt 64 (n : Int) ^^^ BitVec.ofInt 64 ((n / 64 : Nat) : Int)).toNat : Int)
  rw [BitVec.toNat_xor, h2, h3]
  generalize n ^^^ (n / 64) = y at hx
  simp [IntKind.wrap, IntKind.bits, IntKind.signed]
  omega
theorem byte_set {w : World} {r : Nat} {a : Option Addr} {n : Nat} (h5 : BytesIn r w a n) {i : Nat} (hi : i < n) (v : Value) : ∃ b off, ∃ z : Int, a = some ⟨b, off, none⟩ ∧ b < r ∧ 0 ≤ z ∧ z ≤ 255 ∧ (w.setCell ⟨r, 1, none⟩ v).cell? ⟨b, off + i, none⟩ = some (.int .u8 z) := by
  obtain ⟨b, off, z, e, hb, z0, z1, hc⟩ := h5 i hi
  exact ⟨b, off, z, e, hb, z0, z1, cell_touch (touch_set (touch_refl r (r + 1) w) (p := ⟨r, 1, none⟩) (Nat.le_refl _) (Nat.lt_succ_self _) _) hc (.inl (by show b < _; omega))⟩

end Go.Proofs.Ytciacofibljmoab
