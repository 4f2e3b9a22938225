/- The reader of a code: what it hands out is a number from 0 on, below what was asked. -/
import Derived.Test.YtciacofibljmoaaMarks
import Derived.BigQuiet
import Derived.Laws.Bits64
namespace Go.Proofs.Ytciacofibljmoaa
open Go.RowKit

/-- Bytes that lie below a block. -/
def BytesIn (r : Nat) (w : World) (a : Option Addr) (n : Nat) : Prop :=
  ∀ i, i < n → ∃ b off, ∃ z : Int, a = some ⟨b, off, none⟩ ∧ b < r ∧ 0 ≤ z ∧ z ≤ 255 ∧ w.cell? ⟨b, off + i, none⟩ = some (.int .u8 z)
/-- A reader in block r that was asked at most N times. -/
def Rd (w : World) (r N : Nat) : Prop :=
  ∃ (f : Nat → Value) (a : Option Addr) (n cap p : Nat), w.rowIs r 100 2 f ∧ f 0 = .slice a n cap ∧ f 1 = .int .i64 (p : Nat) ∧ p ≤ N ∧ n ≤ 2000 ∧ BytesIn r w a n
theorem cell_touch {lo hi : Nat} {w w' : World} {a : Addr} {v : Value} (ht : Touch lo hi w w') (h : w.cell? a = some v) (ho : a.block < lo ∨ hi ≤ a.block) : w'.cell? a = some v := by
  rw [World.cell?_of_block (w := w) (ht.block _ (World.block_lt_of_cell? w a h) ho)]; exact h
theorem Rd.lt {w : World} {r N : Nat} (h : Rd w r N) : r < w.heap.size := by
  obtain ⟨f, a, n, cap, p, h0, _⟩ := h
  exact h0.lt
theorem Rd.mono {w : World} {r N M : Nat} (h : Rd w r N) (hm : N ≤ M) : Rd w r M := by
  obtain ⟨f, a, n, cap, p, h0, h1, h2, h3, h4⟩ := h
  exact ⟨f, a, n, cap, p, h0, h1, h2, by omega, h4⟩
theorem Rd.touch {w w' : World} {r N lo hi : Nat} (h : Rd w r N) (ht : Touch lo hi w w') (hr : r < lo) : Rd w' r N := by
  obtain ⟨f, a, n, cap, p, h0, h1, h2, h3, h4, h5⟩ := h
  refine ⟨f, a, n, cap, p, row_touch h0 ht (.inl hr), h1, h2, h3, h4, fun i hi => ?_⟩
  obtain ⟨b, off, z, e, hb, z0, z1, hc⟩ := h5 i hi
  exact ⟨b, off, z, e, hb, z0, z1, cell_touch ht hc (.inl (by show b < _; omega))⟩
theorem Rd.later {w w' : World} {r N : Nat} (h : Rd w r N) (hb : Below w.heap.size w w') : Rd w' r N := h.touch (touch_below (lo := w.heap.size) (hi := w.heap.size) hb) h.lt

theorem Rd.drew {w : World} {r N : Nat} (h : Rd w r N) : Rd w.drew r N := h
theorem touch_drewN {lo hi m : Nat} {w w' : World} (h : Touch lo hi w w') : Touch lo hi w (w'.drewN m) := ⟨h.os, h.tape, h.output, h.size, h.block⟩
theorem touch_drew {lo hi : Nat} {w w' : World} (h : Touch lo hi w w') : Touch lo hi w w'.drew := ⟨h.os, h.tape, h.output, h.size, h.block⟩
theorem xor_bd (x : Int) (h0 : 0 ≤ x) (h1 : x < 1000000000000) : 0 ≤ bits .xor .i64 x (x / 64) := by
  obtain ⟨n, rfl⟩ := Int.eq_ofNat_of_zero_le h0
  have hx : n ^^^ (n / 64) < 2 ^ 41 := Nat.xor_lt_two_pow (by omega) (by omega)
  have e : ((n : Int) / 64) = ((n / 64 : Nat) : Int) := by omega
  have h2 : (BitVec.ofInt 64 (n : Int)).toNat = n := by
    rw [BitVec.ofInt_natCast, BitVec.toNat_ofNat]; exact Nat.mod_eq_of_lt (by omega)
  have h3 : (BitVec.ofInt 64 ((n / 64 : Nat) : Int)).toNat = n / 64 := by
    rw [BitVec.ofInt_natCast, BitVec.toNat_ofNat]; exact Nat.mod_eq_of_lt (by omega)
  rw [e]
  show 0 ≤ IntKind.i64.wrap ((BitVec.ofInt 64 (n : Int) ^^^ BitVec.ofInt 64 ((n / 64 : Nat) : Int)).toNat : Int)
  rw [BitVec.toNat_xor, h2, h3]
  generalize n ^^^ (n / 64) = y at hx
  simp [IntKind.wrap, IntKind.bits, IntKind.signed]
  omega
theorem Rd_set {w : World} {r N : Nat} {f : Nat → Value} {a : Option Addr} {n cap p : Nat} (h0 : w.rowIs r 100 2 f) (h1 : f 0 = .slice a n cap) (h3 : p ≤ N) (h4 : n ≤ 2000) (h5 : BytesIn r w a n) :
    Rd (w.setCell ⟨r, 1, none⟩ (.int .i64 ((p : Int) + 1))) r (N + 1) := by
  refine ⟨_, a, n, cap, p + 1, h0.set 1 _, by simp [h1], by simp, by omega, h4, fun i hi => ?_⟩
  obtain ⟨b, off, z, e, hb, z0, z1, hc⟩ := h5 i hi
  exact ⟨b, off, z, e, hb, z0, z1, cell_touch (touch_set (touch_refl r (r + 1) w) (p := ⟨r, 1, none⟩) (Nat.le_refl _) (Nat.lt_succ_self _) _) hc (.inl (by show b < _; omega))⟩
theorem byte_set {w : World} {r : Nat} {a : Option Addr} {n : Nat} (h5 : BytesIn r w a n) {i : Nat} (hi : i < n) (v : Value) : ∃ b off, ∃ z : Int, a = some ⟨b, off, none⟩ ∧ b < r ∧ 0 ≤ z ∧ z ≤ 255 ∧ (w.setCell ⟨r, 1, none⟩ v).cell? ⟨b, off + i, none⟩ = some (.int .u8 z) := by
  obtain ⟨b, off, z, e, hb, z0, z1, hc⟩ := h5 i hi
  exact ⟨b, off, z, e, hb, z0, z1, cell_touch (touch_set (touch_refl r (r + 1) w) (p := ⟨r, 1, none⟩) (Nat.le_refl _) (Nat.lt_succ_self _) _) hc (.inl (by show b < _; omega))⟩

set_option maxRecDepth 100000 in
set_option maxHeartbeats 3200000 in
theorem pick_any (r N : Nat) (m : Int) (w : World) (h : Rd w r N) (hN : N ≤ 1000000) (hm : 1 ≤ m) :
    Calls Try.prog 40 #[.pointer (some ⟨r, 0, none⟩), .int .i64 m] w fun e w' => (∃ q : Int, e = .returned (.int .i64 q) ∧ 0 ≤ q ∧ q < m) ∧ Rd w' r (N + 1) ∧ Touch r (r + 1) w w' := by
  obtain ⟨f, a, n, cap, p, h0, h1, h2, h3, h4, h5⟩ := h
  have c0 := h0.cell (i := 0) (by omega)
  have c1 := h0.cell (i := 1) (by omega)
  have z1 := h0.frozen 1
  rw [h1] at c0
  rw [h2] at c1
  have H0 := hide h0
  have H5 := hide h5
  have H1 := hide h1
  clear h0 h5 h1 h2
  have hm1 : ¬ m < 1 := by omega
  have hd1 : decide (m < 1) = false := decide_eq_false hm1
  have T1 : Hid (Touch r (r + 1) w (w.setCell ⟨r, 1, none⟩ (.int .i64 ((p : Int) + 1)))) := touch_set (touch_refl r (r + 1) w) (p := ⟨r, 1, none⟩) (Nat.le_refl _) (Nat.lt_succ_self _) _
  have R1 : Hid (Rd (w.setCell ⟨r, 1, none⟩ (.int .i64 ((p : Int) + 1))) r (N + 1)) := Rd_set H0.out H1.out h3 h4 H5.out
  have d0 : (w.setCell ⟨r, 1, none⟩ (.int .i64 ((p : Int) + 1))).cell? ⟨r, 0, none⟩ = some (.slice a n cap) := by
    have := (H0.out.set 1 (.int .i64 ((p : Int) + 1))).cell (i := 0) (by omega)
    simpa [H1.out] using this
  have d1 : (w.setCell ⟨r, 1, none⟩ (.int .i64 ((p : Int) + 1))).cell? ⟨r, 1, none⟩ = some (.int .i64 ((p : Int) + 1)) := by
    have := (H0.out.set 1 (.int .i64 ((p : Int) + 1))).cell (i := 1) (by omega)
    simpa using this
  by_cases hn : n = 0
  · subst hn
    clear d0 d1
    go_enter Try.func40, Try.ntmps40
    go_wp2
    go_ret
    exact ⟨⟨0, rfl, by omega, by omega⟩, R1.out, T1.out⟩
  · have hn0 : ((n : Int) == 0) = false := beq_eq_false_iff_ne.2 (by omega)
    have hn1 : ¬ (n : Int) = 0 := by omega
    have hm0 : ¬ m = 0 := by omega
    by_cases hp : p < n
    · obtain ⟨b, off, z, rfl, hb, z0, z9, q0⟩ := byte_set H5.out hp (.int .i64 ((p : Int) + 1))
      have hp' : (p : Int) < (n : Int) := by omega
      have hpp : (p : Int) + 1 - 1 = (p : Int) := by omega
      go_enter Try.func40, Try.ntmps40
      go_wp2
      go_ret
      exact ⟨⟨_, rfl, Int.emod_nonneg _ hm0, Int.emod_lt_of_pos _ (by omega)⟩, R1.out, T1.out⟩
    · have hp' : ¬ (p : Int) < (n : Int) := by omega
      have hu : p % n < n := Nat.mod_lt _ (by omega)
      have hv : (p * 7 + 3) % n < n := Nat.mod_lt _ (by omega)
      have eu : (p : Int).tmod (n : Int) = ((p % n : Nat) : Int) := by rw [Int.tmod_eq_emod_of_nonneg (by omega)]; exact (Int.natCast_emod p n).symm
      have ev : ((p : Int) * 7 + 3).tmod (n : Int) = (((p * 7 + 3) % n : Nat) : Int) := by rw [Int.tmod_eq_emod_of_nonneg (by omega), show ((p : Int) * 7 + 3) = ((p * 7 + 3 : Nat) : Int) by omega]; exact (Int.natCast_emod _ n).symm
      have ed : (p : Int).tdiv (n : Int) = ((p / n : Nat) : Int) := by rw [Int.tdiv_eq_ediv_of_nonneg (by omega)]; exact (Int.natCast_ediv p n).symm
      have hq : p / n ≤ p := Nat.div_le_self _ _
      generalize p % n = u at hu eu
      generalize (p * 7 + 3) % n = v at hv ev
      generalize p / n = q at hq ed
      obtain ⟨b, off, z, rfl, hb, z0, z9, q0⟩ := byte_set H5.out hu (.int .i64 ((p : Int) + 1))
      obtain ⟨b', off', y, hbb, hb', y0, y9, q1⟩ := byte_set H5.out hv (.int .i64 ((p : Int) + 1))
      simp at hbb
      obtain ⟨rfl, rfl⟩ := hbb
      have u0 : (0 : Int) ≤ (u : Int) := by omega
      have u1 : (u : Int) < (n : Int) := by omega
      have v0 : (0 : Int) ≤ (v : Int) := by omega
      have v1 : (v : Int) < (n : Int) := by omega
      go_enter Try.func40, Try.ntmps40
      go_wp2
      go_quiet (fail)
      have x0 : 0 ≤ z * 131 + y * 1117 + (p : Int) * 29 + (q : Int) * 53 := by omega
      have x1 : z * 131 + y * 1117 + (p : Int) * 29 + (q : Int) * 53 < 1000000000 := by omega
      generalize z * 131 + y * 1117 + (p : Int) * 29 + (q : Int) * 53 = x at x0 x1
      go_wp2
      go_ret
      have xb := xor_bd x x0 (by omega)
      exact ⟨⟨_, rfl, Int.tmod_nonneg _ xb, Int.tmod_lt_of_pos _ (by omega)⟩, R1.out, touch_drewN T1.out⟩

end Go.Proofs.Ytciacofibljmoaa
