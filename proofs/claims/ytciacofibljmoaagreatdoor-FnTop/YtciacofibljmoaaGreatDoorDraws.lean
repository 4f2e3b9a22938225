/- The reader of a code: what it hands out is a number from 0 on, below what was asked. -/
import Derived.Test.YtciacofibljmoaaGreatDoorMarks
import Derived.BigQuiet
import Derived.Laws.Bits64
import Derived.Deep.AppendLies
import Derived.Deep.DrawnRows
import Derived.Deep.Cut
import Derived.Deep.CutRange
import Derived.Deep.RegionWith
namespace Go.Proofs.YtciacofibljmoaaGreatDoor
open Go.RowKit

/-- Bytes that lie below a block. -/
def BytesIn (r : Nat) (w : World) (a : Option Addr) (n : Nat) : Prop :=
  ∀ i, i < n → ∃ b off, ∃ z : Int, a = some ⟨b, off, none⟩ ∧ b < r ∧ 0 ≤ z ∧ z ≤ 255 ∧ w.cell? ⟨b, off + i, none⟩ = some (.int .u8 z)
/-- A reader in block r that was asked at most N times. -/
def Rd (w : World) (r N : Nat) : Prop :=
  ∃ (f : Nat → Value) (a : Option Addr) (n cap p : Nat), w.rowIs r 73 2 f ∧ f 0 = .slice a n cap ∧ f 1 = .int .i64 (p : Nat) ∧ p ≤ N ∧ n ≤ 2000 ∧ BytesIn r w a n
theorem cell_touch {lo hi : Nat} {w w' : World} {a : Addr} {v : Value} (ht : Touch lo hi w w') (h : w.cell? a = some v) (ho : a.block < lo ∨ hi ≤ a.block) : w'.cell? a = some v := by
  rw [World.cell?_of_block (w := w) (ht.block _ (World.block_lt_of_cell? w a h) ho)]; exact h
theorem Rd.lt {w : World} {r N : Nat} (h : Rd w r N) : r < w.heap.size := by
  obtain ⟨f, a, n, cap, p, h0, _⟩ := h
  exact h0.lt
theorem Rd.mono {w : World} {r N M : Nat} (h : Rd w r N) (hm : N ≤ M) : Rd w r M := by
  obtain ⟨f, a, n, cap, p, h0, h1, h2, h3, h4⟩ := h
  exact ⟨f, a, n, cap, p, h0, h1, h2, by omega, h4⟩
theorem Rd.touch {w w' : World} {r N lo hi : Nat} (h : Rd w r N) (ht : Touch lo hi w w') (hr : r < lo) : Rd w' r N := by
  obtain ⟨f, a, n, cap, p, h0, h1, h2, h3, h4, h5⟩ := h
  refine ⟨f, a, n, cap, p, row_touch h0 ht (.inl hr), h1, h2, h3, h4, fun i hi => ?_⟩
  obtain ⟨b, off, z, e, hb, z0, z1, hc⟩ := h5 i hi
  exact ⟨b, off, z, e, hb, z0, z1, cell_touch ht hc (.inl (by show b < _; omega))⟩
theorem Rd.later {w w' : World} {r N : Nat} (h : Rd w r N) (hb : Below w.heap.size w w') : Rd w' r N := h.touch (touch_below (lo := w.heap.size) (hi := w.heap.size) hb) h.lt

theorem Rd.drew {w : World} {r N : Nat} (h : Rd w r N) : Rd w.drew r N := h
theorem touch_drewN {lo hi m : Nat} {w w' : World} (h : Touch lo hi w w') : Touch lo hi w (w'.drewN m) := ⟨h.os, h.tape, h.output, h.size, h.block⟩
theorem touch_drew {lo hi : Nat} {w w' : World} (h : Touch lo hi w w') : Touch lo hi w w'.drew := ⟨h.os, h.tape, h.output, h.size, h.block⟩
theorem xor_bd (x : Int) (h0 : 0 ≤ x) (h1 : x < 1000000000000) : 0 ≤ bits .xor .i64 x (x / 64) := by
  obtain ⟨n, rfl⟩ := Int.eq_ofNat_of_zero_le h0
  have hx : n ^^^ (n / 64) < 2 ^ 41 := Nat.xor_lt_two_pow (by omega) (by omega)
  have e : ((n : Int) / 64) = ((n / 64 : Nat) : Int) := by omega
  have h2 : (BitVec.ofInt 64 (n : Int)).toNat = n := by
    rw [BitVec.ofInt_natCast, BitVec.toNat_ofNat]; exact Nat.mod_eq_of_lt (by omega)
  have h3 : (BitVec.ofInt 64 ((n / 64 : Nat) : Int)).toNat = n / 64 := by
    rw [BitVec.ofInt_natCast, BitVec.toNat_ofNat]; exact Nat.mod_eq_of_lt (by omega)
  rw [e]
  show 0 ≤ IntKind.i64.wrap ((BitVec.ofInt 64 (n : Int) ^^^ BitVec.ofInt 64 ((n / 64 : Nat) : Int)).toNat : Int)
  rw [BitVec.toNat_xor, h2, h3]
  generalize n ^^^ (n / 64) = y at hx
  simp [IntKind.wrap, IntKind.bits, IntKind.signed]
  omega
theorem Rd_set {w : World} {r N : Nat} {f : Nat → Value} {a : Option Addr} {n cap p : Nat} (h0 : w.rowIs r 73 2 f) (h1 : f 0 = .slice a n cap) (h3 : p ≤ N) (h4 : n ≤ 2000) (h5 : BytesIn r w a n) :
    Rd (w.setCell ⟨r, 1, none⟩ (.int .i64 ((p : Int) + 1))) r (N + 1) := by
  refine ⟨_, a, n, cap, p + 1, h0.set 1 _, by simp [h1], by simp, by omega, h4, fun i hi => ?_⟩
  obtain ⟨b, off, z, e, hb, z0, z1, hc⟩ := h5 i hi
  exact ⟨b, off, z, e, hb, z0, z1, cell_touch (touch_set (touch_refl r (r + 1) w) (p := ⟨r, 1, none⟩) (Nat.le_refl _) (Nat.lt_succ_self _) _) hc (.inl (by show b < _; omega))⟩
theorem byte_set {w : World} {r : Nat} {a : Option Addr} {n : Nat} (h5 : BytesIn r w a n) {i : Nat} (hi : i < n) (v : Value) : ∃ b off, ∃ z : Int, a = some ⟨b, off, none⟩ ∧ b < r ∧ 0 ≤ z ∧ z ≤ 255 ∧ (w.setCell ⟨r, 1, none⟩ v).cell? ⟨b, off + i, none⟩ = some (.int .u8 z) := by
  obtain ⟨b, off, z, e, hb, z0, z1, hc⟩ := h5 i hi
  exact ⟨b, off, z, e, hb, z0, z1, cell_touch (touch_set (touch_refl r (r + 1) w) (p := ⟨r, 1, none⟩) (Nat.le_refl _) (Nat.lt_succ_self _) _) hc (.inl (by show b < _; omega))⟩

set_option maxRecDepth 100000 in
set_option maxHeartbeats 3200000 in
theorem pick_any (r N : Nat) (m : Int) (w : World) (h : Rd w r N) (hN : N ≤ 1000000) (hm : 1 ≤ m) :
    Calls Tryz.prog 19 #[.pointer (some ⟨r, 0, none⟩), .int .i64 m] w fun e w' => (∃ q : Int, e = .returned (.int .i64 q) ∧ 0 ≤ q ∧ q < m) ∧ Rd w' r (N + 1) ∧ Touch r (r + 1) w w' := by
  obtain ⟨f, a, n, cap, p, h0, h1, h2, h3, h4, h5⟩ := h
  have c0 := h0.cell (i := 0) (by omega)
  have c1 := h0.cell (i := 1) (by omega)
  have z1 := h0.frozen 1
  rw [h1] at c0
  rw [h2] at c1
  have H0 := hide h0
  have H5 := hide h5
  have H1 := hide h1
  clear h0 h5 h1 h2
  have hm1 : ¬ m < 1 := by omega
  have hd1 : decide (m < 1) = false := decide_eq_false hm1
  have T1 : Hid (Touch r (r + 1) w (w.setCell ⟨r, 1, none⟩ (.int .i64 ((p : Int) + 1)))) := touch_set (touch_refl r (r + 1) w) (p := ⟨r, 1, none⟩) (Nat.le_refl _) (Nat.lt_succ_self _) _
  have R1 : Hid (Rd (w.setCell ⟨r, 1, none⟩ (.int .i64 ((p : Int) + 1))) r (N + 1)) := Rd_set H0.out H1.out h3 h4 H5.out
  have d0 : (w.setCell ⟨r, 1, none⟩ (.int .i64 ((p : Int) + 1))).cell? ⟨r, 0, none⟩ = some (.slice a n cap) := by
    have := (H0.out.set 1 (.int .i64 ((p : Int) + 1))).cell (i := 0) (by omega)
    simpa [H1.out] using this
  have d1 : (w.setCell ⟨r, 1, none⟩ (.int .i64 ((p : Int) + 1))).cell? ⟨r, 1, none⟩ = some (.int .i64 ((p : Int) + 1)) := by
    have := (H0.out.set 1 (.int .i64 ((p : Int) + 1))).cell (i := 1) (by omega)
    simpa using this
  by_cases hn : n = 0
  · subst hn
    clear d0 d1
    go_enter Tryz.func19, Tryz.ntmps19
    go_wp2
    go_ret
    exact ⟨⟨0, rfl, by omega, by omega⟩, R1.out, T1.out⟩
  · have hn0 : ((n : Int) == 0) = false := beq_eq_false_iff_ne.2 (by omega)
    have hn1 : ¬ (n : Int) = 0 := by omega
    have hm0 : ¬ m = 0 := by omega
    by_cases hp : p < n
    · obtain ⟨b, off, z, rfl, hb, z0, z9, q0⟩ := byte_set H5.out hp (.int .i64 ((p : Int) + 1))
      have hp' : (p : Int) < (n : Int) := by omega
      have hpp : (p : Int) + 1 - 1 = (p : Int) := by omega
      go_enter Tryz.func19, Tryz.ntmps19
      go_wp2
      go_ret
      exact ⟨⟨_, rfl, Int.emod_nonneg _ hm0, Int.emod_lt_of_pos _ (by omega)⟩, R1.out, T1.out⟩
    · have hp' : ¬ (p : Int) < (n : Int) := by omega
      have hu : p % n < n := Nat.mod_lt _ (by omega)
      have hv : (p * 7 + 3) % n < n := Nat.mod_lt _ (by omega)
      have eu : (p : Int).tmod (n : Int) = ((p % n : Nat) : Int) := by rw [Int.tmod_eq_emod_of_nonneg (by omega)]; exact (Int.natCast_emod p n).symm
      have ev : ((p : Int) * 7 + 3).tmod (n : Int) = (((p * 7 + 3) % n : Nat) : Int) := by rw [Int.tmod_eq_emod_of_nonneg (by omega), show ((p : Int) * 7 + 3) = ((p * 7 + 3 : Nat) : Int) by omega]; exact (Int.natCast_emod _ n).symm
      have ed : (p : Int).tdiv (n : Int) = ((p / n : Nat) : Int) := by rw [Int.tdiv_eq_ediv_of_nonneg (by omega)]; exact (Int.natCast_ediv p n).symm
      have hq : p / n ≤ p := Nat.div_le_self _ _
      generalize p % n = u at hu eu
      generalize (p * 7 + 3) % n = v at hv ev
      generalize p / n = q at hq ed
      obtain ⟨b, off, z, rfl, hb, z0, z9, q0⟩ := byte_set H5.out hu (.int .i64 ((p : Int) + 1))
      obtain ⟨b', off', y, hbb, hb', y0, y9, q1⟩ := byte_set H5.out hv (.int .i64 ((p : Int) + 1))
      simp at hbb
      obtain ⟨rfl, rfl⟩ := hbb
      have u0 : (0 : Int) ≤ (u : Int) := by omega
      have u1 : (u : Int) < (n : Int) := by omega
      have v0 : (0 : Int) ≤ (v : Int) := by omega
      have v1 : (v : Int) < (n : Int) := by omega
      go_enter Tryz.func19, Tryz.ntmps19
      go_wp2
      go_quiet (fail)
      have x0 : 0 ≤ z * 131 + y * 1117 + (p : Int) * 29 + (q : Int) * 53 := by omega
      have x1 : z * 131 + y * 1117 + (p : Int) * 29 + (q : Int) * 53 < 1000000000 := by omega
      generalize z * 131 + y * 1117 + (p : Int) * 29 + (q : Int) * 53 = x at x0 x1
      go_wp2
      go_ret
      have xb := xor_bd x x0 (by omega)
      exact ⟨⟨_, rfl, Int.tmod_nonneg _ xb, Int.tmod_lt_of_pos _ (by omega)⟩, R1.out, touch_drewN T1.out⟩

end Go.Proofs.YtciacofibljmoaaGreatDoor

/- The small draws: a text of a list, a sector, the names, numbers without a sign. -/
namespace Go.Proofs.YtciacofibljmoaaGreatDoor
open Go.RowKit

/-- Texts that lie above a block. -/
def StrsIn (r : Nat) (w : World) (a : Option Addr) (ss : List ByteArray) : Prop :=
  ∀ i (hi : i < ss.length), ∃ b off, a = some ⟨b, off, none⟩ ∧ r < b ∧ w.cell? ⟨b, off + i, none⟩ = some (.string ss[i])
theorem StrsIn.touch {r lo hi : Nat} {w w' : World} {a : Option Addr} {ss : List ByteArray} (h : StrsIn r w a ss) (ht : Touch lo hi w w') (hh : hi ≤ r + 1) : StrsIn r w' a ss := fun i hi' => by
  obtain ⟨b, off, e, hb, hc⟩ := h i hi'
  exact ⟨b, off, e, hb, cell_touch ht hc (.inr (by show hi ≤ b; omega))⟩
theorem StrsIn.later {r : Nat} {w w' : World} {a : Option Addr} {ss : List ByteArray} (h : StrsIn r w a ss) (hb : Below w.heap.size w w') : StrsIn r w' a ss := fun i hi' => by
  obtain ⟨b, off, e, hb', hc⟩ := h i hi'
  exact ⟨b, off, e, hb', cell_later hb hc⟩
theorem strs_alloc {r : Nat} {w : World} (hr : r < w.heap.size) (t : TypeId) (c : Array Value) (ss : List ByteArray) (hc : c = (ss.map Value.string).toArray) : StrsIn r (w.alloc (.cells c t)) (some ⟨w.heap.size, 0, none⟩) ss := fun i hi => by
  subst hc
  refine ⟨_, _, rfl, hr, ?_⟩
  simp [hi]

set_option maxHeartbeats 800000 in
theorem of_any (r N : Nat) (a : Option Addr) (cap : Nat) (ss : List ByteArray) (w : World) (h : Rd w r N) (hN : N ≤ 1000000) (hs : StrsIn r w a ss) (h1 : 1 ≤ ss.length) :
    Calls Tryz.prog 20 #[.pointer (some ⟨r, 0, none⟩), .slice a ss.length cap] w fun e w' => (∃ s, s ∈ ss ∧ e = .returned (.string s)) ∧ Rd w' r (N + 1) ∧ Touch r (r + 1) w w' := by
  have HR := hide h
  have HS := hide hs
  clear h hs
  go_enter Tryz.func20, Tryz.ntmps20
  go_wp2_with fail
  refine (pick_any r N _ _ HR.out hN (by omega)).mono ?_
  rintro e w1 ⟨⟨q, rfl, hq0, hq1⟩, hr1, ht1⟩
  obtain ⟨k, rfl⟩ := Int.eq_ofNat_of_zero_le hq0
  have R1 := hide hr1
  have T1 := hide ht1
  clear hr1 ht1
  obtain ⟨b, off, rfl, hb, hc⟩ := HS.out.touch T1.out (Nat.le_refl _) k (by omega)
  go_wp2
  go_ret
  exact ⟨⟨_, List.getElem_mem _, rfl⟩, R1.out, T1.out⟩

/-- The sectors that are drawn. -/
def secs : List ByteArray := [⟨#[101]⟩, ⟨#[101]⟩, ⟨#[110, 45, 49]⟩, ⟨#[119]⟩, ⟨#[119]⟩, ⟨#[122, 122]⟩]
theorem secs_size : ∀ s ∈ secs, s.size ≤ 8 := by decide

set_option maxHeartbeats 800000 in
theorem l6Sector_any (r N : Nat) (w : World) (h : Rd w r N) (hN : N ≤ 1000000) :
    Calls Tryz.prog 40 #[.pointer (some ⟨r, 0, none⟩)] w fun e w' => (∃ s : ByteArray, s.size ≤ 8 ∧ e = .returned (.string s)) ∧ Rd w' r (N + 1) ∧ Touch r (r + 1) w w' := by
  have HR := hide h
  clear h
  go_enter Tryz.func40, Tryz.ntmps40
  go_wp2_with fail
  have hb0 := (Below.refl w.heap.size w).alloc (Nat.le_refl _) (.cells (secs.map Value.string).toArray 9)
  refine (of_any r N _ 6 secs _ (HR.out.later hb0) hN (strs_alloc HR.out.lt _ _ secs rfl) (by decide)).mono ?_
  rintro e w1 ⟨⟨s, hs, rfl⟩, hr1, ht1⟩
  go_wp2
  go_ret
  exact ⟨⟨s, secs_size s hs, rfl⟩, hr1, touch_trans (touch_below hb0) ht1⟩

/-- The names that are drawn. -/
def nams : List ByteArray := [⟨#[97, 49]⟩, ⟨#[98, 97]⟩, ⟨#[99, 45, 99]⟩, ⟨#[100]⟩, ⟨#[107, 108, 49]⟩, ⟨#[108, 104]⟩, ⟨#[113]⟩, ⟨#[120, 57]⟩]
theorem nams_size : ∀ s ∈ nams, s.size ≤ 8 := by decide

set_option maxHeartbeats 800000 in
theorem l6Names_any (r : Nat) (w : World) (hr : r < w.heap.size) :
    Calls Tryz.prog 21 #[] w fun e w' => ∃ a, e = .returned (.slice a 8 8) ∧ StrsIn r w' a nams ∧ Below w.heap.size w w' := by
  have HR := hide hr
  clear hr
  go_enter Tryz.func21, Tryz.ntmps21
  go_wp2
  go_ret
  exact ⟨_, rfl, strs_alloc HR.out _ _ nams rfl, (Below.refl w.heap.size w).alloc (Nat.le_refl _) _⟩

end Go.Proofs.YtciacofibljmoaaGreatDoor

/- The draws that make rows: a reader opened, no slots, caps. -/
namespace Go.Proofs.YtciacofibljmoaaGreatDoor
open Go.RowKit

attribute [local go_sem ↓] Go.wp_at_zero Go.wp_at_succ

theorem plain_add (g j : Nat) : (⟨g, 0, none⟩ : Addr).add j = ⟨g, j, none⟩ := by
  by_cases h : j = 0
  · subst h; rfl
  · simp [Addr.add, h]
section
variable {w w' : World} {base : Nat} {e : TypeId} {size : Nat} {v : Value} {n : Nat} {xs : List Value}
theorem owns_keep (h : w.ownsRow base e size v n xs) (hk : ∀ g, v.ownBlock = some g → w'.heap[g]? = w.heap[g]?) : w'.ownsRow base e size v n xs := by
  obtain ⟨h1, h2⟩ := h
  refine ⟨h1, ?_⟩
  rcases h2 with h2 | ⟨g, cap, cur, rfl, e2, e3, e4⟩
  · exact .inl h2
  · exact .inr ⟨g, cap, cur, rfl, e2, by rw [hk g rfl]; exact e3, e4⟩
theorem owns_later (h : w.ownsRow base e size v n xs) (hb : Below w.heap.size w w') : w'.ownsRow base e size v n xs := owns_keep h fun g hg => hb.block g (h.lt g hg).2
theorem owns_touch {lo hi : Nat} (h : w.ownsRow base e size v n xs) (ht : Touch lo hi w w') (hh : hi ≤ base) : w'.ownsRow base e size v n xs := owns_keep h fun g hg => ht.block g (h.lt g hg).2 (.inr (Nat.le_trans hh (h.lt g hg).1))
theorem owns_base {base' : Nat} (h : w.ownsRow base e size v n xs) (hb : base' ≤ base) : w.ownsRow base' e size v n xs := by
  obtain ⟨h1, h2⟩ := h
  refine ⟨h1, ?_⟩
  rcases h2 with h2 | ⟨g, cap, cur, e1, e2, e3⟩
  · exact .inl h2
  · exact .inr ⟨g, cap, cur, e1, by omega, e3⟩
/-- What a row of one's own is: a slice, its cells read. -/
theorem owns_slice (h : w.ownsRow base e size v n xs) : ∃ a cap, v = .slice a n cap ∧ n ≤ cap ∧ cap ≤ maxLen ∧ (∀ p, a = some p → p = ⟨p.block, 0, none⟩ ∧ base ≤ p.block ∧ p.block < w.heap.size) ∧
    ∀ j u, xs[j]? = some u → ∃ g, a = some ⟨g, 0, none⟩ ∧ base ≤ g ∧ g < w.heap.size ∧ w.cell? ⟨g, j, none⟩ = some u ∧ w.frozen? ⟨g, j, none⟩ = false := by
  have hh := h
  obtain ⟨h1, h2⟩ := h
  rcases h2 with ⟨rfl, rfl⟩ | ⟨g, cap, cur, rfl, e2, e3, e4, e5, e6, e7⟩
  · exact ⟨none, 0, rfl, Nat.le_refl _, Nat.zero_le _, fun p hp => by simp at hp, fun j u hj => by simp at h1; subst h1; simp at hj⟩
  · refine ⟨_, cap, rfl, e4, e5, fun p hp => ?_, fun j u hj => ⟨g, rfl, e2, (hh.lt g rfl).2, ?_, ?_⟩⟩
    · simp at hp; subst hp
      exact ⟨rfl, e2, (hh.lt g rfl).2⟩
    · have := hh.cells (g := g) rfl j u hj
      rw [plain_add] at this
      exact this
    · simp [World.frozen?, e3]
end
theorem touch_then {lo hi : Nat} {a w w' : World} (h : Touch lo hi a w) (hb : Below a.heap.size w w') : Touch lo hi a w' :=
  ⟨hb.os.trans h.os, hb.tape.trans h.tape, hb.output.trans h.output, Nat.le_trans h.size hb.size, fun k hk ho => (hb.block k hk).trans (h.block k hk ho)⟩

/-- Numbers, as a row's cells. -/
def intVals (zs : List Int) : List Value := zs.map (Value.int .i64)
def OwnI (w : World) (base : Nat) (v : Value) (zs : List Int) : Prop := w.ownsRow base 3 1 v zs.length (intVals zs)
theorem OwnI.form {w : World} {base : Nat} {v : Value} {zs : List Int} (h : OwnI w base v zs) : ∃ a cap, v = .slice a zs.length cap ∧ zs.length ≤ cap ∧ cap ≤ maxLen ∧ IntsIn w a zs ∧ (∀ p, a = some p → p = ⟨p.block, 0, none⟩ ∧ base ≤ p.block ∧ p.block < w.heap.size) := by
  obtain ⟨a, cap, h1, h2, h3, h4, h5⟩ := owns_slice h
  refine ⟨a, cap, h1, h2, h3, fun i hi => ?_, h4⟩
  obtain ⟨g, e1, e2, e3, e4, _⟩ := h5 i (.int .i64 zs[i]) (by simp [intVals, hi])
  exact ⟨g, 0, e1, e3, by rw [Nat.zero_add]; exact e4⟩
/-- Caps, as a row's cells. -/
def capVals (cs : List (ByteArray × Int)) : List Value := cs.flatMap fun c => [.string c.1, .int .i64 c.2]
def OwnC (w : World) (base : Nat) (v : Value) (cs : List (ByteArray × Int)) : Prop := w.ownsRow base 61 2 v cs.length (capVals cs)
theorem capVals_at : ∀ (cs : List (ByteArray × Int)) (i : Nat) (hi : i < cs.length), (capVals cs)[i * 2]? = some (.string cs[i].1) ∧ (capVals cs)[i * 2 + 1]? = some (.int .i64 cs[i].2)
  | [], i, hi => by simp at hi
  | c :: cs, 0, _ => by simp [capVals]
  | c :: cs, i + 1, hi => by
    have ih := capVals_at cs i (by simpa using hi)
    rw [show (i + 1) * 2 = i * 2 + 1 + 1 by omega]
    simpa [capVals] using ih
theorem OwnC.form {w : World} {base : Nat} {v : Value} {cs : List (ByteArray × Int)} (h : OwnC w base v cs) : ∃ a cap, v = .slice a cs.length cap ∧ cs.length ≤ cap ∧ cap ≤ maxLen ∧ CapsIn w a cs ∧ (∀ p, a = some p → p = ⟨p.block, 0, none⟩ ∧ base ≤ p.block ∧ p.block < w.heap.size) := by
  obtain ⟨a, cap, h1, h2, h3, h4, h5⟩ := owns_slice h
  refine ⟨a, cap, h1, h2, h3, fun i hi => ?_, h4⟩
  obtain ⟨q0, q1⟩ := capVals_at cs i hi
  obtain ⟨g, e1, e2, e3, e4, _⟩ := h5 _ _ q0
  obtain ⟨g', e1', _, _, e4', _⟩ := h5 _ _ q1
  rw [e1] at e1'
  simp at e1'
  subst e1'
  exact ⟨g, 0, e1, e3, by rw [Nat.zero_add]; exact e4, by rw [Nat.zero_add]; exact e4'⟩

set_option maxRecDepth 100000 in
set_option maxHeartbeats 800000 in
theorem l6Dec_any (n : Nat) (w : World) (h : n < 10) :
    Calls Tryz.prog 38 #[.int .i64 (n : Nat)] w fun e w' => (∃ s : ByteArray, e = .returned (.string s) ∧ s.size = 1) ∧ Below w.heap.size w w' := by
  obtain ⟨c, hc1, hcv⟩ := conv1 w (48 + (n : Int))
  go_enter Tryz.func38, Tryz.ntmps38
  go_wp2
  go_ret
  exact ⟨⟨c, rfl, hc1⟩, (Below.refl _ _).alloc (Nat.le_refl _) _⟩

set_option maxHeartbeats 800000 in
theorem l1Open_any (a : Option Addr) (n cap : Nat) (w : World) (hb : BytesIn w.heap.size w a n) (hc : n ≤ cap) (hl : cap ≤ maxLen) :
    Calls Tryz.prog 17 #[.slice a n cap] w fun e w' => e = .returned (.pointer (some ⟨w.heap.size, 0, none⟩)) ∧ Rd w' w.heap.size 0 ∧ Below w.heap.size w w' := by
  unfold maxLen at hl
  have HB := hide hb
  clear hb
  have key : ∀ m, m ≤ n → m ≤ 2000 → ∀ cp, Rd (w.alloc (.cells #[.slice a m cp, .int .i64 0] 73)) w.heap.size 0 := fun m hm hm2 cp =>
    ⟨fun i => (#[Value.slice a m cp, .int .i64 0] : Array Value).getD i undef, a, m, cp, 0, World.rowIs_alloc w _ _ _ (fun i hi => by simp at hi; rcases i with _ | _ | i <;> first | rfl | omega), rfl, rfl, Nat.le_refl _, hm2, fun i hi => by
      obtain ⟨b, off, z, e1, e2, e3, e4, e5⟩ := HB.out i (by omega)
      exact ⟨b, off, z, e1, e2, e3, e4, cell_later ((Below.refl w.heap.size w).alloc (Nat.le_refl _) _) e5⟩⟩
  have HK := hide key
  clear key
  by_cases h : (2000 : Int) < (n : Int)
  · obtain ⟨b, off, z, rfl, _⟩ := HB.out 0 (by omega)
    go_enter Tryz.func17, Tryz.ntmps17
    go_wp2
    go_ret
    exact ⟨rfl, HK.out 2000 (by omega) (by omega) _, (Below.refl _ _).alloc (Nat.le_refl _) _⟩
  · go_enter Tryz.func17, Tryz.ntmps17
    go_wp2
    go_ret
    exact ⟨rfl, HK.out n (by omega) (by omega) _, (Below.refl _ _).alloc (Nat.le_refl _) _⟩

theorem cell_one_new (w : World) (a : Value) (t : TypeId) : ∀ j u, [a][j]? = some u → (w.alloc (.cells #[a] t)).cell? ((⟨w.heap.size, 0, none⟩ : Addr).add j) = some u := by
  intro j u hj
  match j, hj with
  | 0, hj => simp at hj; subst hj; simp [Addr.add]
theorem own_emptyI (w : World) : OwnI (w.alloc (.cells #[] 3)) w.heap.size (.slice (some ⟨w.heap.size, 0, none⟩) 0 0) [] := World.ownsRow_made w #[] 0 (Nat.le_refl _) (Nat.zero_le _) (by simp)
theorem own_emptyC (w : World) : OwnC (w.alloc (.cells #[] 61)) w.heap.size (.slice (some ⟨w.heap.size, 0, none⟩) 0 0) [] := World.ownsRow_made w #[] 0 (Nat.le_refl _) (Nat.zero_le _) (by simp)

end Go.Proofs.YtciacofibljmoaaGreatDoor

/- Caps are drawn. -/
namespace Go.Proofs.YtciacofibljmoaaGreatDoor
open Go.RowKit

attribute [local go_sem ↓] Go.wp_at_zero Go.wp_at_succ

def capNams : List ByteArray := [⟨#[101]⟩, ⟨#[110, 45, 49]⟩, ⟨#[119]⟩]
theorem capNams_size : ∀ s ∈ capNams, s.size ≤ 8 := by decide
/-- Caps that are no longer, and no longer of name, than drawn ones. -/
def CapsSm (m : Nat) (cs : List (ByteArray × Int)) : Prop := cs.length ≤ m ∧ ∀ c ∈ cs, c.1.size ≤ 8
theorem cell_two_new (w : World) (a b : Value) (t : TypeId) : ∀ j u, [a, b][j]? = some u → (w.alloc (.cells #[a, b] t)).cell? ((⟨w.heap.size, 0, none⟩ : Addr).add j) = some u := by
  intro j u hj
  rw [plain_add]
  match j, hj with
  | 0, hj => simp at hj; subst hj; simp
  | 1, hj => simp at hj; subst hj; simp
theorem capVals_snoc (cs : List (ByteArray × Int)) (c : ByteArray × Int) : capVals (cs ++ [c]) = capVals cs ++ [.string c.1, .int .i64 c.2] := by simp [capVals]

theorem Rd.below {w w' : World} {r N B : Nat} (h : Rd w r N) (hb : Below B w w') (hr : r < B) : Rd w' r N := by
  obtain ⟨f, a, n, cap, p, h0, h1, h2, h3, h4, h5⟩ := h
  refine ⟨f, a, n, cap, p, h0.of_block (hb.block _ hr), h1, h2, h3, h4, fun i hi => ?_⟩
  obtain ⟨b, off, z, e, hlt, z0, z1, hc⟩ := h5 i hi
  exact ⟨b, off, z, e, hlt, z0, z1, by rw [World.cell?_of_block (w := w) (hb.block b (by omega))]; exact hc⟩
theorem StrsIn.grown {r : Nat} {w w' : World} {a : Option Addr} {ss : List ByteArray} {row : Option Nat} (h : StrsIn r w a ss) (hg : w.grownBy w' row) (hne : ∀ p, a = some p → row ≠ some p.block) : StrsIn r w' a ss := fun i hi' => by
  obtain ⟨b, off, e, hb', hc⟩ := h i hi'
  exact ⟨b, off, e, hb', World.grownBy.cell hg hc (fun hh => hne _ e hh.symm)⟩
theorem below_grow {a w w' : World} {o : Obj} {row : Option Nat} (ha : a.heap.size ≤ w.heap.size) (hg : (w.alloc o).grownBy w' row) (hr : ∀ k, row = some k → a.heap.size ≤ k) : Below a.heap.size w w' :=
  Below.grown ((Below.refl _ _).alloc ha _) hg (by simp; omega) hr

set_option maxRecDepth 100000 in
set_option maxHeartbeats 3200000 in
theorem l6Caps_any (r N : Nat) (w : World) (h : Rd w r N) (hN : N ≤ 900000) :
    Calls Tryz.prog 18 #[.pointer (some ⟨r, 0, none⟩)] w fun e w' => (∃ v cs, e = .returned v ∧ OwnC w' w.heap.size v cs ∧ CapsSm 3 cs) ∧ Rd w' r (N + 15) ∧ Touch r (r + 1) w w' := by
  obtain ⟨i0, hi, iz0, iz1, iz2⟩ := info_parts info_cap
  have hrl := h.lt
  have HR := hide h
  clear h
  go_enter Tryz.func18, Tryz.ntmps18
  go_wp2
  have hB1 := hide (((Below.refl w.heap.size w).alloc (Nat.le_refl _) (.cells #[] 61)).alloc (by simp) (.cells (capNams.map Value.string).toArray 9))
  have hS1 := hide (strs_alloc (r := r) (w := w.alloc (.cells #[] 61)) (by simp; omega) 9 #[.string ⟨#[101]⟩, .string ⟨#[110, 45, 49]⟩, .string ⟨#[119]⟩] capNams rfl)
  have hS1 := hide (show StrsIn r ((w.alloc (.cells #[] 61)).alloc (.cells #[.string ⟨#[101]⟩, .string ⟨#[110, 45, 49]⟩, .string ⟨#[119]⟩] 9)) (some ⟨w.heap.size + 1, 0, none⟩) capNams by have := hS1.out; rw [Deep.nblk_alloc] at this; exact this)
  have hO1 := hide (World.ownsRow.alloc (own_emptyC w) (.cells (capNams.map Value.string).toArray 9))
  go_loopw [3, 5] (fun v i wr => ∃ (k : Nat) (cs : List (ByteArray × Int)), k ≤ 3 ∧ i = .int .i64 k ∧ Hid (OwnC wr w.heap.size v cs) ∧ Hid (CapsSm k cs) ∧ Hid (Rd wr r (N + 5 * k)) ∧ Hid (StrsIn r wr (some ⟨w.heap.size + 1, 0, none⟩) capNams) ∧ Hid (Touch r (r + 1) w wr) ∧ Hid (v.ownBlock ≠ some (w.heap.size + 1))) (fun _ i _ => 3 - (RowKit.intOf i).toNat)
  case atStart => exact ⟨0, [], Nat.zero_le _, rfl, hO1.out, ⟨Nat.le_refl _, by simp⟩, HR.out.later hB1.out, hS1.out, touch_below hB1.out, by show _ ≠ _; simp [Value.ownBlock]⟩
  case round =>
    obtain ⟨k, cs, hk, rfl, HO, HSM, HRD, HST, HT, HNE⟩ := hrel
    clear hB1 hS1 hO1
    by_cases hlt : k < 3
    · have hlt' : (k : Int) < 3 := by omega
      go_wp2_with fail
      refine (pick_any r _ _ _ HRD.out (by omega) (by omega)).mono ?_
      rintro e w1 ⟨⟨q, rfl, hq0, hq1⟩, hr1, ht1⟩
      have HRA := hide hr1
      have HSA := hide (HST.out.touch ht1 (Nat.le_refl _))
      have HOA := hide (owns_touch HO.out ht1 (by omega))
      have HTA := hide (touch_trans HT.out ht1)
      clear hr1 ht1 HRD HST HO HT
      by_cases hq : 0 < q
      · obtain ⟨b, off, hbe, hb, hc⟩ := HSA.out k hlt
        simp at hbe
        obtain ⟨rfl, rfl⟩ := hbe
        rw [Nat.zero_add] at hc
        have hsz := capNams_size _ (List.getElem_mem (l := capNams) (n := k) hlt)
        generalize capNams[k] = nm at hc hsz
        have hb1 : r + 1 ≤ w.heap.size + 1 := by omega
        have hb2 : r + 1 ≤ w.heap.size := by omega
        have tok1 : True := trivial
        have tok2 : True := trivial
        have tok3 : True := trivial
        have tok4 : True := trivial
        go_wp2
        go_region_held3 (fun w' => w'.cell? ⟨w.heap.size + 1, k, none⟩ = some (.string nm))
          (first | exact hc | exact hcA | exact hcB | exact hcC | exact hcD | exact cell_later ((Below.refl _ _).alloc (Nat.le_refl _) _) hcD | exact hcE)
          (first
            | (go_at_call 19; have _t := tok1; refine (pick_any r _ _ _ HRA.out.drew ?_ ?_).mono ?_; omega; omega; rintro e wA ⟨⟨qa, rfl, qa0, qa1⟩, hra, hta⟩; have hcA := cell_touch hta hc (.inr hb1); clear tok1)
            | (go_at_call 19; have _t := tok2; refine (pick_any r _ _ _ hra ?_ ?_).mono ?_; omega; omega; rintro e wB ⟨⟨qb, rfl, qb0, qb1⟩, hrb, htb⟩; have hcB := cell_touch htb hcA (.inr hb1); clear tok2)
            | (go_at_call 19; have _t := tok3; refine (pick_any r _ _ _ hrb ?_ ?_).mono ?_; omega; omega; rintro e wC ⟨⟨qc, rfl, qc0, qc1⟩, hrc, htc⟩; have hcC := cell_touch htc hcB (.inr hb1); clear tok3)
            | (go_at_call 19; have _t := tok4; refine (pick_any r _ _ _ hrc ?_ ?_).mono ?_; omega; omega; rintro e wD ⟨⟨qd, rfl, qd0, qd1⟩, hrd, htd⟩; have hcD := cell_touch htd hcC (.inr hb1); have TD := touch_trans (touch_trans (touch_trans hta htb) htc) htd; clear tok4)
            | (refine step_append_lies _ (by rfl) _ _ 23 (by rfl) w.heap.size 61 i0 (.agg #[.string ⟨#[]⟩, .int .i64 0]) 2 24 Tryz.underlying23 hi iz0 iz1 iz2 (by rfl) (by decide) _ _ _ (by rfl) (World.ownsRow.alloc (owns_touch (show World.ownsRow w1.drew _ _ _ _ _ _ from HOA.out) TD hb2) _) ⟨wD.heap.size, 0, none⟩ 1 1 [.string nm, .int .i64 _] (by rfl) (by rfl) (cell_two_new _ _ _ _) (fun x hx => by simp at hx; rcases hx with rfl | rfl <;> rfl) (by decide) (by have := HSM.out.1; unfold maxLen; omega) (by have := HSM.out.1; omega) (by have := TD.size; have := HTA.out.size; simp at *; omega) (wD.heap.size + 1) (by simp) ?_; intro g cp wE hownE hgrowE hatE hltE; have hcE := World.grownBy.cell hgrowE (cell_later ((Below.refl _ _).alloc (Nat.le_refl _) _) hcD) (fun hh => HNE.out hh.symm)))
        rename_i hH
        clear hH
        have hsz2 := HTA.out.size
        have hsz3 := TD.size
        have BE := hide (below_grow (a := w) (w := wD) (Nat.le_trans hsz2 (by simpa using hsz3)) hgrowE (fun q hq => (HOA.out.lt _ hq).1))
        have HRE := hide (hrd.below BE.out hrl)
        have HTE := hide (touch_then (touch_trans (touch_drew HTA.out) TD) BE.out)
        have hblk : w.heap.size + 1 < wD.heap.size := World.block_lt_of_cell? wD _ hcD
        have HSE := hide (StrsIn.grown ((StrsIn.touch (show StrsIn r w1.drew _ _ from HSA.out) TD (Nat.le_refl _)).later ((Below.refl _ _).alloc (Nat.le_refl _) _)) hgrowE (fun p hp => by simp at hp; subst hp; exact HNE.out))
        have HOE : Hid (OwnC wE w.heap.size (.slice (some ⟨g, 0, none⟩) (cs.length + 1) cp) (cs ++ [(nm, IntKind.i64.wrap (IntKind.i64.wrap (1 + qa) - IntKind.i64.wrap (IntKind.i64.wrap (qb * qc) * qd)))])) := by
          show World.ownsRow _ _ _ _ _ _ _
          rw [capVals_snoc, List.length_append]
          exact hownE
        have HNE2 : Hid ((Value.slice (some ⟨g, 0, none⟩) (cs.length + 1) cp).ownBlock ≠ some (w.heap.size + 1)) := by
          show _ ≠ _
          rcases hatE with he | he
          · intro hh
            exact HNE.out (he.trans hh)
          · simp [Value.ownBlock]; omega
        have HSM2 : Hid (CapsSm (k + 1) (cs ++ [(nm, IntKind.i64.wrap (IntKind.i64.wrap (1 + qa) - IntKind.i64.wrap (IntKind.i64.wrap (qb * qc) * qd)))])) := by
          obtain ⟨g1, g2⟩ := HSM.out
          refine ⟨by simp; omega, fun c hc => ?_⟩
          rcases List.mem_append.1 hc with hc | hc
          · exact g2 c hc
          · simp at hc; subst hc; exact hsz
        clear hta htb htc htd hra hrb hrc hrd hcA hcB hcC hcD hcE hownE hgrowE hatE hltE hc TD HSA HOA HTA HRA HNE HSM
        go_wp2
        go_roundw
        case rel => exact ⟨k + 1, _, by omega, by go_num, HOE.out, HSM2.out, HRE.out.mono (by omega), HSE.out, HTE.out, HNE2.out⟩
        case measure => simp [RowKit.intOf]; omega
      · go_wp2
        go_roundw
        case rel => exact ⟨k + 1, cs, by omega, by go_num, HOA.out, ⟨Nat.le_trans HSM.out.1 (Nat.le_succ _), HSM.out.2⟩, HRA.out.mono (by omega), HSA.out, HTA.out, HNE.out⟩
        case measure => simp [RowKit.intOf]; omega
    · go_wp2
      go_ret
      have : k = 3 := by omega
      subst this
      exact ⟨⟨_, _, rfl, HO.out, HSM.out⟩, HRD.out, HT.out⟩

end Go.Proofs.YtciacofibljmoaaGreatDoor

/- A flight is drawn. -/
namespace Go.Proofs.YtciacofibljmoaaGreatDoor
open Go.RowKit

attribute [local go_sem ↓] Go.wp_at_zero Go.wp_at_succ

/-- Visits, as a row's cells. -/
def visVals (vs : List Vis) : List Value := vs.flatMap fun v => [.string v.1, .int .i64 v.2.1, .int .i64 v.2.2]
def OwnV (w : World) (base : Nat) (v : Value) (vs : List Vis) : Prop := w.ownsRow base 76 3 v vs.length (visVals vs)
theorem visVals_at : ∀ (vs : List Vis) (i : Nat) (hi : i < vs.length), (visVals vs)[i * 3]? = some (.string vs[i].1) ∧ (visVals vs)[i * 3 + 1]? = some (.int .i64 vs[i].2.1) ∧ (visVals vs)[i * 3 + 2]? = some (.int .i64 vs[i].2.2)
  | [], i, hi => by simp at hi
  | c :: cs, 0, _ => by simp [visVals]
  | c :: cs, i + 1, hi => by
    have ih := visVals_at cs i (by simpa using hi)
    rw [show (i + 1) * 3 = i * 3 + 1 + 1 + 1 by omega]
    simpa [visVals] using ih
theorem visVals_len (vs : List Vis) : (visVals vs).length = vs.length * 3 := by
  induction vs with
  | nil => rfl
  | cons r l ih => simp only [visVals, List.flatMap_cons, List.length_append, List.length_cons, List.length_nil] at *; omega
theorem visVals_snoc (vs : List Vis) (v : Vis) : visVals (vs ++ [v]) = visVals vs ++ [.string v.1, .int .i64 v.2.1, .int .i64 v.2.2] := by simp [visVals]
theorem OwnV.form {w : World} {base : Nat} {v : Value} {vs : List Vis} (h : OwnV w base v vs) : ∃ a cap, v = .slice a vs.length cap ∧ vs.length ≤ cap ∧ cap ≤ maxLen ∧ VisitsIn w a vs ∧ (∀ p, a = some p → p = ⟨p.block, 0, none⟩ ∧ base ≤ p.block ∧ p.block < w.heap.size) := by
  obtain ⟨a, cap, h1, h2, h3, h4, h5⟩ := owns_slice h
  refine ⟨a, cap, h1, h2, h3, fun i hi => ?_, h4⟩
  obtain ⟨q0, q1, q2⟩ := visVals_at vs i hi
  obtain ⟨g, e1, e2, e3, e4, _⟩ := h5 _ _ q0
  obtain ⟨g', e1', _, _, e4', _⟩ := h5 _ _ q1
  obtain ⟨g'', e1'', _, _, e4'', _⟩ := h5 _ _ q2
  rw [e1] at e1' e1''
  simp at e1' e1''
  subst e1'
  subst e1''
  exact ⟨g, 0, e1, e3, by rw [Nat.zero_add]; exact e4, by rw [Nat.zero_add]; exact e4', by rw [Nat.zero_add]; exact e4''⟩
/-- Visits whose sectors are short, m of them at most. -/
def VisSm (m : Nat) (vs : List Vis) : Prop := vs.length ≤ m ∧ ∀ v ∈ vs, v.1.size ≤ 8

/-- Four cells of a flight in a block. -/
def FlAt (w : World) (F : Nat) (nm : ByteArray) (p l : Int) (v : Value) : Prop :=
  ∃ f, w.rowIs F 32 4 f ∧ f 0 = .string nm ∧ f 1 = .int .i64 p ∧ f 2 = .int .i64 l ∧ f 3 = v
theorem FlAt.cells {w : World} {F : Nat} {nm : ByteArray} {p l : Int} {v : Value} (h : FlAt w F nm p l v) :
    w.cell? ⟨F, 0, none⟩ = some (.string nm) ∧ w.cell? ⟨F, 1, none⟩ = some (.int .i64 p) ∧ w.cell? ⟨F, 2, none⟩ = some (.int .i64 l) ∧ w.cell? ⟨F, 3, none⟩ = some v ∧
      w.frozen? ⟨F, 0, none⟩ = false ∧ w.frozen? ⟨F, 1, none⟩ = false ∧ w.frozen? ⟨F, 2, none⟩ = false ∧ w.frozen? ⟨F, 3, none⟩ = false := by
  obtain ⟨f, h0, h1, h2, h3, h4⟩ := h
  exact ⟨h1 ▸ h0.cell (by omega), h2 ▸ h0.cell (by omega), h3 ▸ h0.cell (by omega), h4 ▸ h0.cell (by omega), h0.frozen _, h0.frozen _, h0.frozen _, h0.frozen _⟩
theorem FlAt.keep {w w' : World} {F : Nat} {nm : ByteArray} {p l : Int} {v : Value} (h : FlAt w F nm p l v) (hk : w'.heap[F]? = w.heap[F]?) : FlAt w' F nm p l v := by
  obtain ⟨f, h0, h1⟩ := h
  exact ⟨f, h0.of_block hk, h1⟩
theorem FlAt.lt {w : World} {F : Nat} {nm : ByteArray} {p l : Int} {v : Value} (h : FlAt w F nm p l v) : F < w.heap.size := by
  obtain ⟨f, h0, h1⟩ := h
  exact h0.lt
theorem FlAt.touch {w w' : World} {F lo hi : Nat} {nm : ByteArray} {p l : Int} {v : Value} (h : FlAt w F nm p l v) (ht : Touch lo hi w w') (ho : hi ≤ F) : FlAt w' F nm p l v := h.keep (ht.block F h.lt (.inr ho))
theorem FlAt.later {w w' : World} {F : Nat} {nm : ByteArray} {p l : Int} {v : Value} (h : FlAt w F nm p l v) (hb : Below w.heap.size w w') : FlAt w' F nm p l v := h.keep (hb.block F h.lt)
theorem FlAt.new (w : World) (nm : ByteArray) (p l : Int) (v : Value) : FlAt (w.alloc (.cells #[.string nm, .int .i64 p, .int .i64 l, v] 32)) w.heap.size nm p l v :=
  ⟨fun i => (#[.string nm, .int .i64 p, .int .i64 l, v] : Array Value).getD i undef, World.rowIs_alloc w _ _ _ (fun i hi => by simp at hi; match i, hi with | 0, _ => rfl | 1, _ => rfl | 2, _ => rfl | 3, _ => rfl), rfl, rfl, rfl, rfl⟩
theorem FlAt.setPlan {w : World} {F : Nat} {nm : ByteArray} {p l : Int} {v : Value} (h : FlAt w F nm p l v) (p' : Int) : FlAt (w.setCell ⟨F, 1, none⟩ (.int .i64 p')) F nm p' l v := by
  obtain ⟨f, h0, h1, h2, h3, h4⟩ := h
  exact ⟨_, h0.set 1 _, by simp [h1], by simp, by simp [h3], by simp [h4]⟩
theorem FlAt.setLate {w : World} {F : Nat} {nm : ByteArray} {p l : Int} {v : Value} (h : FlAt w F nm p l v) (l' : Int) : FlAt (w.setCell ⟨F, 2, none⟩ (.int .i64 l')) F nm p l' v := by
  obtain ⟨f, h0, h1, h2, h3, h4⟩ := h
  exact ⟨_, h0.set 2 _, by simp [h1], by simp [h2], by simp, by simp [h4]⟩
theorem FlAt.setVis {w : World} {F : Nat} {nm : ByteArray} {p l : Int} {v : Value} (h : FlAt w F nm p l v) (v' : Value) : FlAt (w.setCell ⟨F, 3, none⟩ v') F nm p l v' := by
  obtain ⟨f, h0, h1, h2, h3, h4⟩ := h
  exact ⟨_, h0.set 3 _, by simp [h1], by simp [h2], by simp [h3], by simp⟩
theorem FlAt.setName {w : World} {F : Nat} {nm : ByteArray} {p l : Int} {v : Value} (h : FlAt w F nm p l v) (nm' : ByteArray) : FlAt (w.setCell ⟨F, 0, none⟩ (.string nm')) F nm' p l v := by
  obtain ⟨f, h0, h1, h2, h3, h4⟩ := h
  exact ⟨_, h0.set 0 _, by simp, by simp [h2], by simp [h3], by simp [h4]⟩
theorem VisitsIn.keep {w w' : World} {a : Option Addr} {vs : List Vis} (h : VisitsIn w a vs) (hk : ∀ p, a = some p → w'.heap[p.block]? = w.heap[p.block]?) (hs : w.heap.size ≤ w'.heap.size) : VisitsIn w' a vs := fun i hi => by
  obtain ⟨b, off, e, hlt, h0, h1, h2⟩ := h i hi
  have hb := hk _ e
  exact ⟨b, off, e, Nat.lt_of_lt_of_le hlt hs, (World.cell?_of_block (w := w) (a := ⟨b, off + i * 3, none⟩) hb).trans h0, (World.cell?_of_block (w := w) (a := ⟨b, off + i * 3 + 1, none⟩) hb).trans h1, (World.cell?_of_block (w := w) (a := ⟨b, off + i * 3 + 2, none⟩) hb).trans h2⟩
theorem FlAt.grown {w w' : World} {o : Obj} {row : Option Nat} {F : Nat} {nm : ByteArray} {p l : Int} {v : Value} (h : FlAt w F nm p l v) (hg : (w.alloc o).grownBy w' row) (hne : row ≠ some F) : FlAt w' F nm p l v :=
  (h.later ((Below.refl _ _).alloc (Nat.le_refl _) o)).keep (hg.block F (by have := h.lt; simp; omega) (fun hh => hne hh.symm))
theorem below_set {w w' : World} {B : Nat} (h : Below B w w') (b i : Nat) (ha : B ≤ b) (v : Value) : Below B w (w'.setCell ⟨b, i, none⟩ v) := h.setCell ha v

set_option maxRecDepth 100000 in
set_option maxHeartbeats 6400000 in
theorem l6Flight_any (r N : Nat) (nm : ByteArray) (w : World) (h : Rd w r N) (hN : N ≤ 900000) :
    Calls Tryz.prog 22 #[.pointer (some ⟨r, 0, none⟩), .string nm] w fun e w' =>
      (∃ (p l : Int) (vs : List Vis) (a : Option Addr) (c : Nat), e = .returned (.agg #[.string nm, .int .i64 p, .int .i64 l, .slice a vs.length c]) ∧ 0 ≤ l ∧ l ≤ 60 ∧ VisSm 3 vs ∧ 1 ≤ vs.length ∧ VisitsIn w' a vs ∧ ∀ q, a = some q → w.heap.size ≤ q.block) ∧ Rd w' r (N + 20) ∧ Touch r (r + 1) w w' := by
  obtain ⟨i0, hi, iz0, iz1, iz2⟩ := info_parts info_visit
  have hrl := h.lt
  have HR := hide h
  clear h
  go_enter Tryz.func22, Tryz.ntmps22
  go_wp2_with fail
  have R0 := hide (FlAt.new w ⟨#[]⟩ 0 0 (.slice none 0 0))
  have B0 := hide ((Below.refl w.heap.size w).alloc (Nat.le_refl _) (.cells #[.string ⟨#[]⟩, .int .i64 0, .int .i64 0, .slice none 0 0] 32))
  refine (pick_any r N _ _ (HR.out.later B0.out) (by omega) (by omega)).mono ?_
  rintro e w1 ⟨⟨q1, rfl, hq10, hq11⟩, hr1, ht1⟩
  go_wp2_with fail
  refine (pick_any r _ _ _ hr1 (by omega) (by omega)).mono ?_
  rintro e w2 ⟨⟨q2, rfl, hq20, hq21⟩, hr2, ht2⟩
  have T2 := hide (touch_trans (touch_trans (touch_below B0.out) ht1) ht2)
  have R2 := hide ((R0.out.touch ht1 (by omega)).touch ht2 (by omega))
  have HR2 := hide hr2
  clear hr1 ht1 hr2 ht2 R0 B0 HR
  go_wp2_with fail
  have F2 := hide (FlAt.new w2 nm q1 q2 (.slice none 0 0))
  have B2 := hide ((Below.refl w2.heap.size w2).alloc (Nat.le_refl _) (.cells #[.string nm, .int .i64 q1, .int .i64 q2, .slice none 0 0] 32))
  have hs2 := T2.out.size
  have hsF : w.heap.size < w2.heap.size := R2.out.lt
  refine (pick_any r _ _ _ (HR2.out.later B2.out) (by omega) (by omega)).mono ?_
  rintro e w3 ⟨⟨q3, rfl, hq30, hq31⟩, hr3, ht3⟩
  have T3 := hide (touch_trans (touch_trans T2.out (touch_below B2.out)) ht3)
  have R3 := hide ((R2.out.later B2.out).touch ht3 (by omega))
  have F3 := hide (F2.out.touch ht3 (by omega))
  have HR3 := hide hr3
  clear hr3 ht3 R2 B2 HR2 F2 T2
  generalize w2.heap.size = F at *
  clear hs2
  go_upto_if 17 with fail
  go_cut [] from 18 (fun wc => ∃ p l : Int, 0 ≤ l ∧ l ≤ 60 ∧ Hid (FlAt wc F nm p l (.slice none 0 0)) ∧ Hid (FlAt wc w.heap.size ⟨#[]⟩ 0 0 (.slice none 0 0)) ∧ Hid (Rd wc r (N + 4)) ∧ Hid (Touch r (r + 1) w wc))
  case first =>
    by_cases hq : q3 = 0
    · subst hq
      go_wp2_with fail
      refine (pick_any r _ _ _ HR3.out (by omega) (by omega)).mono ?_
      rintro e w4 ⟨⟨q4, rfl, hq40, hq41⟩, hr4, ht4⟩
      have F4 := F3.out.touch ht4 (by omega)
      have f4 := F4.cells
      obtain ⟨_, c1, c2, _, _, z1, z2, _⟩ := f4
      have F5 := hide ((F4.setPlan (10000 - q4)).setLate 60)
      have R5 := hide ((R3.out.touch ht4 (by omega)).keep (w' := ((w4.setCell ⟨F, 1, none⟩ (.int .i64 (10000 - q4))).setCell ⟨F, 2, none⟩ (.int .i64 60))) (by rw [Below.heap_setCell _ _ _ _ (by show w.heap.size ≠ F; omega), Below.heap_setCell _ _ _ _ (by show w.heap.size ≠ F; omega)]))
      have B5 := hide (below_set (below_set (Below.refl w.heap.size w4) F 1 (by omega) (.int .i64 (10000 - q4))) F 2 (by omega) (.int .i64 60))
      have HR5 := hide (hr4.below B5.out hrl)
      have T5 := hide (touch_then (touch_trans T3.out ht4) B5.out)
      clear F4 hr4 ht4
      go_wp2_with fail
      go_meet
      case rel => exact ⟨_, _, by omega, by omega, F5.out, R5.out, HR5.out, T5.out⟩
    · have hq' : (q3 == 0) = false := beq_eq_false_iff_ne.2 hq
      go_wp2_with fail
      go_meet
      case rel => exact ⟨_, _, by omega, by omega, F3.out, R3.out, HR3.out.mono (by omega), T3.out⟩
  case rest =>
    obtain ⟨p, l, hl0, hl1, F4, R4, HR4, T4⟩ := hcut
    clear F3 R3 HR3 T3
    go_wp2_with fail
    refine (pick_any r _ _ _ HR4.out (by omega) (by omega)).mono ?_
    rintro e w5 ⟨⟨q5, rfl, hq50, hq51⟩, hr5, ht5⟩
    go_wp2_with fail
    refine (pick_any r _ _ _ hr5 (by omega) (by omega)).mono ?_
    rintro e w6 ⟨⟨q6, rfl, hq60, hq61⟩, hr6, ht6⟩
    have T6 := hide (touch_trans (touch_trans T4.out ht5) ht6)
    have R6 := hide ((R4.out.touch ht5 (by omega)).touch ht6 (by omega))
    have F6 := hide ((F4.out.touch ht5 (by omega)).touch ht6 (by omega))
    have HR6 := hide hr6
    clear hr5 ht5 hr6 ht6 T4 R4 F4 HR4
    obtain ⟨m0, rfl⟩ := Int.eq_ofNat_of_zero_le hq60
    go_wp2_with fail
    go_loopw [6, 7] (fun t n wr => ∃ (k : Nat) (tt : Int) (vs : List Vis) (v : Value), t = .int .i64 tt ∧ n = .int .i64 k ∧ k + vs.length = 1 + m0 ∧ Hid (OwnV wr w.heap.size v vs) ∧ Hid (VisSm 3 vs) ∧ Hid (v.ownBlock ≠ some F ∧ v.ownBlock ≠ some w.heap.size) ∧ Hid (FlAt wr F nm p l v) ∧ Hid (FlAt wr w.heap.size ⟨#[]⟩ 0 0 (.slice none 0 0)) ∧ Hid (Rd wr r (N + 6 + 4 * vs.length)) ∧ Hid (Touch r (r + 1) w wr)) (fun _ n _ => (RowKit.intOf n).toNat)
    case atStart => exact ⟨1 + m0, q5, [], _, rfl, by go_num, by simp, World.ownsRow_nil _ _ _ _, ⟨Nat.zero_le _, by simp⟩, ⟨by simp [Value.ownBlock], by simp [Value.ownBlock]⟩, F6.out, R6.out, HR6.out, T6.out⟩
    case round =>
      obtain ⟨k, tt, vs, v, rfl, rfl, hk, HO, HSM, HNE, FF, RR, HRD, HT⟩ := hrel
      clear T6 R6 F6 HR6
      by_cases hlt : 0 < k
      · have hlt' : (0 : Int) < (k : Int) := by omega
        go_wp2_with fail
        refine (l6Sector_any r _ _ HRD.out (by omega)).mono ?_
        rintro e wA ⟨⟨sc, hsc, rfl⟩, hrA, htA⟩
        go_wp2_with fail
        refine (pick_any r _ _ _ hrA (by omega) (by omega)).mono ?_
        rintro e wB ⟨⟨q7, rfl, hq70, hq71⟩, hrB, htB⟩
        have TB := hide (touch_trans htA htB)
        have HRB := hide hrB
        have hsB := TB.out.size
        have hFr := FF.out.lt
        have hTs := HT.out.size
        go_upto_region 10 with fail
        obtain ⟨W, hW, x0, x1, x2, hWb⟩ := alloc3 wB (.string sc) (.int .i64 tt) (.int .i64 (1 + q7)) 76
        rw [hW]
        have hWs : wB.heap.size + 1 = W.heap.size := by rw [← hW]; simp
        have FW := hide ((FF.out.touch TB.out (by omega)).later hWb)
        have RW := hide ((RR.out.touch TB.out (by omega)).later hWb)
        have OW := hide (owns_later (owns_touch HO.out TB.out (by omega)) hWb)
        have HRW := hide (HRB.out.later hWb)
        have TW := hide (touch_then (touch_trans HT.out TB.out) (hWb.mono (by omega)))
        have HVB : Hid (∀ g, v.ownBlock = some g → g < wB.heap.size) := fun g hg => by have := (HO.out.lt g hg).2; omega
        clear hrA htA hrB htB TB HRB hW HO FF RR HRD HT hWb
        have c3 := FW.out.cells.2.2.2.1
        have z3 := FW.out.cells.2.2.2.2.2.2.2
        generalize wB.heap.size = V at *
        go_wp2_with (first
          | (at_builtin; refine wpList_append_lies _ rfl _ _ 30 rfl w.heap.size 76 i0 (.agg #[.string ⟨#[]⟩, .int .i64 0, .int .i64 0]) 3 32 Tryz.underlying30 hi iz0 iz1 iz2 rfl (by decide) _ _ _ rfl (World.ownsRow.alloc OW.out _) ⟨W.heap.size, 0, none⟩ 1 1 [.string sc, .int .i64 tt, .int .i64 (1 + q7)] rfl rfl (cell_three_new _ _ _ _ _) (fun x hx => by simp at hx; rcases hx with rfl | rfl | rfl <;> rfl) (by decide) (by have := HSM.out.1; unfold maxLen; omega) (by have := HSM.out.1; omega) (by simp; omega) (W.heap.size + 1) (by simp) ?_; intro g cp wE hownE hgrowE hatE hltE; have FE := hide (FW.out.grown hgrowE HNE.out.1); have RE := hide (RW.out.grown hgrowE HNE.out.2); have c3E := FE.out.cells.2.2.2.1; have z3E := FE.out.cells.2.2.2.2.2.2.2))
        have hgF : g ≠ F := by
          rcases hatE with he | he
          · intro hh
            exact HNE.out.1 (he.trans (congrArg some hh))
          · omega
        have hgR : g ≠ w.heap.size := by
          rcases hatE with he | he
          · intro hh
            exact HNE.out.2 (he.trans (congrArg some hh))
          · omega
        have BE := hide (below_grow (a := w) (w := W) (by omega) hgrowE (fun q hq => (OW.out.lt _ hq).1))
        have FX := hide (FE.out.setVis (.slice (some ⟨g, 0, none⟩) (vs.length + 1) cp))
        have RX := hide (RE.out.keep (w' := wE.setCell ⟨F, 3, none⟩ (.slice (some ⟨g, 0, none⟩) (vs.length + 1) cp)) (Below.heap_setCell _ _ _ _ (by show w.heap.size ≠ F; omega)))
        have OX : Hid (OwnV (wE.setCell ⟨F, 3, none⟩ (.slice (some ⟨g, 0, none⟩) (vs.length + 1) cp)) w.heap.size (.slice (some ⟨g, 0, none⟩) (vs.length + 1) cp) (vs ++ [(sc, tt, 1 + q7)])) := by
          show World.ownsRow _ _ _ _ _ _ _
          rw [visVals_snoc, List.length_append]
          exact owns_keep hownE (fun q hq => Below.heap_setCell _ _ _ _ (by simp [Value.ownBlock] at hq; show q ≠ F; omega))
        have BX := hide (below_set BE.out F 3 (by omega) (.slice (some ⟨g, 0, none⟩) (vs.length + 1) cp))
        have HRX := hide (HRW.out.below BX.out hrl)
        have TX := hide (touch_then TW.out BX.out)
        have cV : (wE.setCell ⟨F, 3, none⟩ (.slice (some ⟨g, 0, none⟩) (vs.length + 1) cp)).cell? ⟨V, 2, none⟩ = some (.int .i64 (1 + q7)) := by
          rw [World.cell?_of_block (w := wE) (Below.heap_setCell _ _ _ _ (by show V ≠ F; omega))]
          exact World.grownBy.cell hgrowE (cell_later ((Below.refl _ _).alloc (Nat.le_refl _) _) x2) (fun hh => by have := HVB.out V hh.symm; omega)
        have HSM2 : Hid (VisSm 3 (vs ++ [(sc, tt, 1 + q7)])) := by
          obtain ⟨g1, g2⟩ := HSM.out
          refine ⟨by simp; omega, fun c hc => ?_⟩
          rcases List.mem_append.1 hc with hc | hc
          · exact g2 c hc
          · simp at hc; subst hc; exact hsc
        clear hownE hgrowE hatE hltE BE FE RE c3E z3E c3 z3 BX TW HRW OW RW FW x0 x1 x2 HNE HSM HVB
        generalize wE.setCell ⟨F, 3, none⟩ (.slice (some ⟨g, 0, none⟩) (vs.length + 1) cp) = X at *
        have hFX := FX.out.lt
        have tok1 : True := trivial
        have tok2 : True := trivial
        have hbV : r + 1 ≤ V := by omega
        go_region_held3 (fun w' => w'.cell? ⟨V, 2, none⟩ = some (.int .i64 (1 + q7)))
          (first | exact cV | exact cA | exact cB)
          (first
            | (go_at_call 19; have _t := tok1; refine (pick_any r _ _ _ HRX.out.drew ?_ ?_).mono ?_; omega; omega; rintro e wa ⟨⟨qa, rfl, qa0, qa1⟩, hra, hta⟩; have cA := cell_touch hta cV (.inr hbV); clear tok1)
            | (go_at_call 19; have _t := tok2; refine (pick_any r _ _ _ hra ?_ ?_).mono ?_; omega; omega; rintro e wb ⟨⟨qb, rfl, qb0, qb1⟩, hrb, htb⟩; have cB := cell_touch htb cA (.inr hbV); clear tok2))
        rename_i hH
        clear hH
        have TY := hide (touch_trans hta htb)
        have FY := hide (FlAt.touch (show FlAt X.drew _ _ _ _ _ from FX.out) TY.out (by omega))
        have RY := hide (FlAt.touch (show FlAt X.drew _ _ _ _ _ from RX.out) TY.out (by omega))
        have OY := hide (owns_touch (show World.ownsRow X.drew _ _ _ _ _ _ from OX.out) TY.out (by omega))
        have HTY := hide (touch_trans (touch_drew TX.out) TY.out)
        clear hta htb cA cB hra FX RX OX TX HRX cV TY
        go_wp2
        go_roundw
        case rel => exact ⟨k - 1, _, vs ++ [(sc, tt, 1 + q7)], _, rfl, by go_num, by simp; omega, OY.out, HSM2.out, ⟨by simp [Value.ownBlock]; exact hgF, by simp [Value.ownBlock]; exact hgR⟩, FY.out, RY.out, hrb.mono (by simp; omega), HTY.out⟩
        case measure => simp [RowKit.intOf]; omega
      · obtain ⟨a, c, rfl, _, _, hv, hva⟩ := OwnV.form HO.out
        obtain ⟨f0, f1, f2, f3, _⟩ := FF.out.cells
        obtain ⟨_, _, _, _, g0, g1, g2, g3⟩ := RR.out.cells
        have B9 := hide (below_set (below_set (below_set (below_set (Below.refl w.heap.size wr) w.heap.size 0 (Nat.le_refl _) (.string nm)) w.heap.size 1 (Nat.le_refl _) (.int .i64 p)) w.heap.size 2 (Nat.le_refl _) (.int .i64 l)) w.heap.size 3 (Nat.le_refl _) (.slice a vs.length c))
        have V9 := hide (hv.keep (w' := (((wr.setCell ⟨w.heap.size, 0, none⟩ (.string nm)).setCell ⟨w.heap.size, 1, none⟩ (.int .i64 p)).setCell ⟨w.heap.size, 2, none⟩ (.int .i64 l)).setCell ⟨w.heap.size, 3, none⟩ (.slice a vs.length c)) (fun q hq => by
          have hne : q.block ≠ w.heap.size := fun hh => HNE.out.2 (by rw [hq]; simp [Value.ownBlock, hh])
          rw [Below.heap_setCell _ _ _ _ (by exact hne), Below.heap_setCell _ _ _ _ (by exact hne), Below.heap_setCell _ _ _ _ (by exact hne), Below.heap_setCell _ _ _ _ (by exact hne)]) B9.out.size)
        have HV := hide hva
        have Y9 := (((RR.out.setName nm).setPlan p).setLate l).setVis (.slice a vs.length c)
        obtain ⟨y0, y1, y2, y3, _⟩ := Y9.cells
        have Z0 := hide y0
        have Z1 := hide y1
        have Z2 := hide y2
        have Z3 := hide y3
        clear hv hva Y9 y0 y1 y2 y3
        go_wp2
        generalize (((wr.setCell ⟨w.heap.size, 0, none⟩ (.string nm)).setCell ⟨w.heap.size, 1, none⟩ (.int .i64 p)).setCell ⟨w.heap.size, 2, none⟩ (.int .i64 l)).setCell ⟨w.heap.size, 3, none⟩ (.slice a vs.length c) = Y at *
        have y0 := Z0.out
        have y1 := Z1.out
        have y2 := Z2.out
        have y3 := Z3.out
        exact bodyPost_ret (v := .agg #[.string nm, .int .i64 p, .int .i64 l, .slice a vs.length c]) (by simp [results, Tryz.results22, go_sem, y0, y1, y2, y3]) rfl ⟨⟨p, l, vs, a, c, rfl, hl0, hl1, HSM.out, by omega, V9.out, fun q hq => (HV.out q hq).2.1⟩, (HRD.out.below B9.out hrl).mono (by omega), touch_then HT.out B9.out⟩

end Go.Proofs.YtciacofibljmoaaGreatDoor

/- A flight is copied. -/
namespace Go.Proofs.YtciacofibljmoaaGreatDoor
open Go.RowKit

theorem vis_news {w : World} {a : Option Addr} {vs : List Vis} (h : VisitsIn w a vs) (h1 : 1 ≤ vs.length) : ∃ b off, a = some ⟨b, off, none⟩ ∧ ∀ j u, (visVals vs)[j]? = some u → w.cell? ((⟨b, off, none⟩ : Addr).add j) = some u := by
  obtain ⟨b, off, e, hb, _⟩ := h 0 (by omega)
  refine ⟨b, off, e, fun j u hj => ?_⟩
  have hlt : j < (visVals vs).length := by
    rcases Nat.lt_or_ge j (visVals vs).length with hh | hh
    · exact hh
    · rw [List.getElem?_eq_none hh] at hj; simp at hj
  rw [visVals_len] at hlt
  have hi : j / 3 < vs.length := by omega
  obtain ⟨b', off', e', _, c0, c1, c2⟩ := h (j / 3) hi
  rw [e] at e'
  simp at e'
  obtain ⟨rfl, rfl⟩ := e'
  obtain ⟨q0, q1, q2⟩ := visVals_at vs (j / 3) hi
  have ha : (⟨b, off, none⟩ : Addr).add j = ⟨b, off + j, none⟩ := by
    by_cases hz : j = 0
    · subst hz; rfl
    · simp [Addr.add, hz]
  rw [ha]
  have hm : j % 3 = 0 ∨ j % 3 = 1 ∨ j % 3 = 2 := by omega
  rcases hm with hm | hm | hm
  · rw [show j / 3 * 3 = j by omega] at q0 c0
    rw [hj] at q0
    rw [c0, ← q0]
  · rw [show j / 3 * 3 + 1 = j by omega] at q1
    rw [show off + j / 3 * 3 + 1 = off + j by omega] at c1
    rw [hj] at q1
    rw [c1, ← q1]
  · rw [show j / 3 * 3 + 2 = j by omega] at q2
    rw [show off + j / 3 * 3 + 2 = off + j by omega] at c2
    rw [hj] at q2
    rw [c2, ← q2]
theorem visVals_one (vs : List Vis) : ∀ u ∈ visVals vs, u.oneCell' = true := fun u hu => by
  unfold visVals at hu
  obtain ⟨v, _, hv⟩ := List.mem_flatMap.1 hu
  simp at hv
  rcases hv with rfl | rfl | rfl <;> rfl
theorem FlAt.newAt (w : World) (B : Nat) (hB : w.heap.size = B) (nm : ByteArray) (p l : Int) (v : Value) : FlAt (w.alloc (.cells #[.string nm, .int .i64 p, .int .i64 l, v] 32)) B nm p l v := by
  subst hB; exact FlAt.new w nm p l v
theorem own_emptyV (w : World) : OwnV (w.alloc (.cells #[] 76)) w.heap.size (.slice (some ⟨w.heap.size, 0, none⟩) 0 0) [] := World.ownsRow_made w #[] 0 (Nat.le_refl _) (Nat.zero_le _) (by simp)

set_option maxRecDepth 100000 in
set_option maxHeartbeats 3200000 in
theorem l1Flight_any (nm : ByteArray) (p l : Int) (vs : List Vis) (av : Option Addr) (cv : Nat) (w : World) (hv : VisitsIn w av vs) (h1 : 1 ≤ vs.length) (h2 : vs.length ≤ 1000) :
    Calls Tryz.prog 33 #[.agg #[.string nm, .int .i64 p, .int .i64 l, .slice av vs.length cv]] w fun e w' =>
      ∃ g cp, e = .returned (.agg #[.string nm, .int .i64 p, .int .i64 l, .slice (some ⟨g, 0, none⟩) vs.length cp]) ∧ OwnV w' w.heap.size (.slice (some ⟨g, 0, none⟩) vs.length cp) vs ∧ Below w.heap.size w w' := by
  obtain ⟨i0, hi, iz0, iz1, iz2⟩ := info_parts info_visit
  have HV := hide hv
  clear hv
  go_enter Tryz.func33, Tryz.ntmps33
  go_upto_region 1 with fail
  have F0 := hide ((FlAt.new w nm p l (.slice av vs.length cv)).later ((Below.refl _ _).alloc (Nat.le_refl _) (.cells #[.string ⟨#[]⟩, .int .i64 0, .int .i64 0, .slice none 0 0] 32)))
  have R0 := hide (FlAt.newAt (w.alloc (.cells #[.string nm, .int .i64 p, .int .i64 l, .slice av vs.length cv] 32)) (w.heap.size + 1) (by simp) ⟨#[]⟩ 0 0 (.slice none 0 0))
  have B0 := hide (((Below.refl w.heap.size w).alloc (Nat.le_refl _) (.cells #[.string nm, .int .i64 p, .int .i64 l, .slice av vs.length cv] 32)).alloc (by simp) (.cells #[.string ⟨#[]⟩, .int .i64 0, .int .i64 0, .slice none 0 0] 32))
  generalize (w.alloc (.cells #[.string nm, .int .i64 p, .int .i64 l, .slice av vs.length cv] 32)).alloc (.cells #[.string ⟨#[]⟩, .int .i64 0, .int .i64 0, .slice none 0 0] 32) = W at *
  obtain ⟨b, off, rfl, hnews⟩ := vis_news (HV.out.later B0.out) h1
  have HN := hide hnews
  have hRW := R0.out.lt
  clear hnews
  obtain ⟨c0, c1, c2, c3, z0, z1, z2, z3⟩ := F0.out.cells
  have e3 : (W.alloc (.cells #[] 76)).cell? ⟨w.heap.size, 3, none⟩ = some (.slice (some ⟨b, off, none⟩) vs.length cv) := cell_later ((Below.refl _ _).alloc (Nat.le_refl _) _) c3
  have n3 : ¬ w.heap.size = W.heap.size := by omega
  have hnF : ¬ (some W.heap.size = some w.heap.size) := by simp; omega
  have hnR : ¬ (some W.heap.size = some (w.heap.size + 1)) := by simp; omega
  have n4 : ¬ W.heap.size = w.heap.size := by omega
  go_upto_region 2 with (first
    | (at_builtin; refine wpList_append_lies _ rfl _ _ 30 rfl W.heap.size 76 i0 (.agg #[.string ⟨#[]⟩, .int .i64 0, .int .i64 0]) 3 32 Tryz.underlying30 hi iz0 iz1 iz2 rfl (by decide) _ 0 [] rfl (own_emptyV W) ⟨b, off, none⟩ vs.length cv (visVals vs) rfl (visVals_len vs) (fun j u hj => cell_later ((Below.refl _ _).alloc (Nat.le_refl _) _) (HN.out j u hj)) (visVals_one vs) (by omega) (by unfold maxLen; omega) (by omega) (by simp) (W.heap.size + 1) (by simp) ?_; intro g cp wE hownE hgrowE hatE hltE; have FE := hide (F0.out.grown hgrowE (fun hh => hnF (show some W.heap.size = some w.heap.size from hh))); have RE := hide (R0.out.grown hgrowE (fun hh => hnR (show some W.heap.size = some (w.heap.size + 1) from hh))); have d0 := FE.out.cells.1; have d1 := FE.out.cells.2.1; have d2 := FE.out.cells.2.2.1; have d3 := FE.out.cells.2.2.2.1; have y3 := FE.out.cells.2.2.2.2.2.2.2))
  have hgF : g ≠ w.heap.size := by
    rcases hatE with he | he
    · have he2 : some W.heap.size = some g := he
      simp at he2; omega
    · omega
  have hgR : g ≠ w.heap.size + 1 := by
    rcases hatE with he | he
    · have he2 : some W.heap.size = some g := he
      simp at he2; omega
    · omega
  have hgb : W.heap.size ≤ g := by
    rcases hatE with he | he
    · have he2 : some W.heap.size = some g := he
      simp at he2; omega
    · omega
  have FX := hide (FE.out.setVis (.slice (some ⟨g, 0, none⟩) vs.length cp))
  have RX := hide (RE.out.keep (w' := wE.setCell ⟨w.heap.size, 3, none⟩ (.slice (some ⟨g, 0, none⟩) vs.length cp)) (Below.heap_setCell _ _ _ _ (by show w.heap.size + 1 ≠ w.heap.size; omega)))
  have hs0 := B0.out.size
  have hown2 : World.ownsRow wE W.heap.size 76 3 (.slice (some ⟨g, 0, none⟩) vs.length cp) vs.length (visVals vs) := by simpa using hownE
  have OX := hide (owns_base (owns_keep (w' := wE.setCell ⟨w.heap.size, 3, none⟩ (.slice (some ⟨g, 0, none⟩) vs.length cp)) hown2 (fun q hq => Below.heap_setCell _ _ _ _ (by simp [Value.ownBlock] at hq; show q ≠ w.heap.size; omega))) hs0)
  have BX := hide (below_set (B0.out.trans (below_grow (a := w) (w := W) hs0 hgrowE (fun q hq => by have he2 : some W.heap.size = some q := hq; simp at he2; omega))) w.heap.size 3 (Nat.le_refl _) (.slice (some ⟨g, 0, none⟩) vs.length cp))
  clear hownE hgrowE hatE hltE FE RE d0 d1 d2 d3 y3 c0 c1 c2 c3 z0 z1 z2 z3 e3 n3 n4 hnF hnR HN F0 R0 hown2
  generalize wE.setCell ⟨w.heap.size, 3, none⟩ (.slice (some ⟨g, 0, none⟩) vs.length cp) = X at *
  obtain ⟨f0, f1, f2, f3, _⟩ := FX.out.cells
  obtain ⟨k0, k1, k2, k3, g0, g1, g2, g3⟩ := RX.out.cells
  have B9 := hide (below_set (below_set (below_set (below_set (Below.refl w.heap.size X) (w.heap.size + 1) 0 (by omega) (.string nm)) (w.heap.size + 1) 1 (by omega) (.int .i64 p)) (w.heap.size + 1) 2 (by omega) (.int .i64 l)) (w.heap.size + 1) 3 (by omega) (.slice (some ⟨g, 0, none⟩) vs.length cp))
  have KP : Hid (∀ q, q ≠ w.heap.size + 1 → (((((X).setCell ⟨w.heap.size + 1, 0, none⟩ (.string nm)).setCell ⟨w.heap.size + 1, 1, none⟩ (.int .i64 p)).setCell ⟨w.heap.size + 1, 2, none⟩ (.int .i64 l)).setCell ⟨w.heap.size + 1, 3, none⟩ (.slice (some ⟨g, 0, none⟩) vs.length cp)).heap[q]? = (X).heap[q]?) := fun q hq => by
    rw [Below.heap_setCell _ _ _ _ (by exact hq), Below.heap_setCell _ _ _ _ (by exact hq), Below.heap_setCell _ _ _ _ (by exact hq), Below.heap_setCell _ _ _ _ (by exact hq)]
  have Y9 := (((RX.out.setName nm).setPlan p).setLate l).setVis (.slice (some ⟨g, 0, none⟩) vs.length cp)
  have Z0 := hide Y9.cells.1
  have Z1 := hide Y9.cells.2.1
  have Z2 := hide Y9.cells.2.2.1
  have Z3 := hide Y9.cells.2.2.2.1
  clear Y9
  go_wp2
  generalize ((((X).setCell ⟨w.heap.size + 1, 0, none⟩ (.string nm)).setCell ⟨w.heap.size + 1, 1, none⟩ (.int .i64 p)).setCell ⟨w.heap.size + 1, 2, none⟩ (.int .i64 l)).setCell ⟨w.heap.size + 1, 3, none⟩ (.slice (some ⟨g, 0, none⟩) vs.length cp) = Y at *
  have y0 := Z0.out
  have y1 := Z1.out
  have y2 := Z2.out
  have y3 := Z3.out
  exact bodyPost_ret (v := .agg #[.string nm, .int .i64 p, .int .i64 l, .slice (some ⟨g, 0, none⟩) vs.length cp]) (by simp [results, Tryz.results33, go_sem, y0, y1, y2, y3]) rfl ⟨g, cp, rfl, owns_keep OX.out (fun q hq => KP.out q (by simp [Value.ownBlock] at hq; omega)), BX.out.trans B9.out⟩

end Go.Proofs.YtciacofibljmoaaGreatDoor

/- A flight is spoilt. -/
namespace Go.Proofs.YtciacofibljmoaaGreatDoor
open Go.RowKit

attribute [local go_sem ↓] Go.wp_at_zero Go.wp_at_succ

theorem visVals_set1 : ∀ (vs : List Vis) (k : Nat) (hk : k < vs.length) (z : Int), (visVals vs).set (k * 3 + 1) (.int .i64 z) = visVals (vs.set k (vs[k].1, z, vs[k].2.2))
  | [], k, hk, _ => by simp at hk
  | c :: cs, 0, _, z => by simp [visVals]
  | c :: cs, k + 1, hk, z => by
    have ih := visVals_set1 cs k (by simpa using hk) z
    rw [show (k + 1) * 3 + 1 = k * 3 + 1 + 1 + 1 + 1 by omega]
    simpa [visVals] using ih
theorem visVals_set2 : ∀ (vs : List Vis) (k : Nat) (hk : k < vs.length) (z : Int), (visVals vs).set (k * 3 + 2) (.int .i64 z) = visVals (vs.set k (vs[k].1, vs[k].2.1, z))
  | [], k, hk, _ => by simp at hk
  | c :: cs, 0, _, z => by simp [visVals]
  | c :: cs, k + 1, hk, z => by
    have ih := visVals_set2 cs k (by simpa using hk) z
    rw [show (k + 1) * 3 + 2 = k * 3 + 2 + 1 + 1 + 1 by omega]
    simpa [visVals] using ih
theorem own_set1 {w : World} {base g cp : Nat} {vs : List Vis} (h : OwnV w base (.slice (some ⟨g, 0, none⟩) vs.length cp) vs) {k : Nat} (hk : k < vs.length) (z : Int) :
    OwnV (w.setCell ⟨g, k * 3 + 1, none⟩ (.int .i64 z)) base (.slice (some ⟨g, 0, none⟩) vs.length cp) (vs.set k (vs[k].1, z, vs[k].2.2)) := by
  have hs := (World.ownsRow.stored h (k * 3 + 1) (.int .i64 z)).1
  rw [visVals_set1 vs k hk z] at hs
  unfold OwnV
  rw [List.length_set]
  exact hs
theorem own_set2 {w : World} {base g cp : Nat} {vs : List Vis} (h : OwnV w base (.slice (some ⟨g, 0, none⟩) vs.length cp) vs) {k : Nat} (hk : k < vs.length) (z : Int) :
    OwnV (w.setCell ⟨g, k * 3 + 2, none⟩ (.int .i64 z)) base (.slice (some ⟨g, 0, none⟩) vs.length cp) (vs.set k (vs[k].1, vs[k].2.1, z)) := by
  have hs := (World.ownsRow.stored h (k * 3 + 2) (.int .i64 z)).1
  rw [visVals_set2 vs k hk z] at hs
  unfold OwnV
  rw [List.length_set]
  exact hs
theorem VisSm.set {m : Nat} {vs : List Vis} (h : VisSm m vs) {k : Nat} (hk : k < vs.length) (a b : Int) : VisSm m (vs.set k (vs[k].1, a, b)) := by
  obtain ⟨h1, h2⟩ := h
  refine ⟨by simpa using h1, fun v hv => ?_⟩
  rcases List.mem_or_eq_of_mem_set hv with hv | rfl
  · exact h2 v hv
  · exact h2 vs[k] (List.getElem_mem hk)
theorem VisSm.mono {m n : Nat} {vs : List Vis} (h : VisSm m vs) (hn : m ≤ n) : VisSm n vs := ⟨Nat.le_trans h.1 hn, h.2⟩
/-- A number of a list that was just laid. -/
theorem ints_new (w : World) (t : TypeId) (zs : List Int) (c : Array Value) (hc : c = (zs.map (Value.int .i64)).toArray) (j : Nat) (hj : j < zs.length) : (w.alloc (.cells c t)).cell? ⟨w.heap.size, j, none⟩ = some (.int .i64 zs[j]) := by
  subst hc
  simp [hj]
theorem ints_ex (w : World) (t : TypeId) (zs : List Int) (c : Array Value) (hc : c = (zs.map (Value.int .i64)).toArray) (j : Nat) (hj : j < zs.length) : ∃ z : Int, (w.alloc (.cells c t)).cell? ⟨w.heap.size, j, none⟩ = some (.int .i64 z) := ⟨_, ints_new w t zs c hc j hj⟩
theorem OwnV.visits {w : World} {base : Nat} {a : Option Addr} {n c : Nat} {vs : List Vis} (h : OwnV w base (.slice a n c) vs) : VisitsIn w a vs ∧ ∀ p, a = some p → base ≤ p.block := by
  obtain ⟨a', c', e, _, _, h1, h2⟩ := OwnV.form h
  simp at e
  obtain ⟨rfl, _, _⟩ := e
  exact ⟨h1, fun p hp => (h2 p hp).2.1⟩
theorem own_cell {w : World} {base g n c : Nat} {vs : List Vis} (h : OwnV w base (.slice (some ⟨g, 0, none⟩) n c) vs) {k : Nat} (hk : k < vs.length) :
    (w.cell? ⟨g, k * 3 + 1, none⟩ = some (.int .i64 vs[k].2.1) ∧ w.frozen? ⟨g, k * 3 + 1, none⟩ = false) ∧ (w.cell? ⟨g, k * 3 + 2, none⟩ = some (.int .i64 vs[k].2.2) ∧ w.frozen? ⟨g, k * 3 + 2, none⟩ = false) := by
  obtain ⟨a', c', e, _, _, _, hc⟩ := owns_slice h
  simp at e
  obtain ⟨rfl, _, _⟩ := e
  obtain ⟨_, q1, q2⟩ := visVals_at vs k hk
  obtain ⟨g1, e1, _, _, r1, s1⟩ := hc _ _ q1
  obtain ⟨g2, e2, _, _, r2, s2⟩ := hc _ _ q2
  simp at e1 e2
  subst e1
  subst e2
  exact ⟨⟨r1, s1⟩, r2, s2⟩
theorem cell_other {w : World} {F g i j : Nat} {v u : Value} (hne : F ≠ g) (h : w.cell? ⟨F, i, none⟩ = some v) : (w.setCell ⟨g, j, none⟩ u).cell? ⟨F, i, none⟩ = some v :=
  (World.cell?_of_block (w := w) (a := ⟨F, i, none⟩) (Below.heap_setCell w ⟨g, j, none⟩ u F hne)).trans h
theorem pick_sp0 {W : World} (r M F R m base : Nat) (nm : ByteArray) (p l : Int) (vs : List Vis) (v : Value) (hR : Rd W r M) (hF : FlAt W F nm p l v) (hRr : FlAt W R ⟨#[]⟩ 0 0 (.slice none 0 0)) (hO : World.ownsRow W base 76 3 v vs.length (visVals vs)) (h1 : r + 1 ≤ F) (h2 : r + 1 ≤ R) (h3 : r + 1 ≤ base) (hM : M ≤ 1000000) (hm : 1 ≤ m) :
    Calls Tryz.prog 19 #[.pointer (some ⟨r, 0, none⟩), .int .i64 (m : Nat)] W fun e w' => ∃ (j : Nat), e = .returned (.int .i64 (j : Nat)) ∧ j < m ∧ FlAt w' F nm p l v ∧ FlAt w' R ⟨#[]⟩ 0 0 (.slice none 0 0) ∧ World.ownsRow w' base 76 3 v vs.length (visVals vs) ∧ Rd w' r (M + 1) ∧ Touch r (r + 1) W w' := by
  refine (pick_any r M _ W hR hM (by omega)).mono ?_
  rintro e w' ⟨⟨q, rfl, hq0, hq1⟩, hr, ht⟩
  obtain ⟨j, rfl⟩ := Int.eq_ofNat_of_zero_le hq0
  exact ⟨j, rfl, by omega, hF.touch ht h1, hRr.touch ht h2, owns_touch hO ht h3, hr, ht⟩
theorem pick_sp {W : World} (r M F R B m base : Nat) (nm : ByteArray) (p l : Int) (vs : List Vis) (v : Value) (hR : Rd W r M) (hF : FlAt W F nm p l v) (hRr : FlAt W R ⟨#[]⟩ 0 0 (.slice none 0 0)) (hO : World.ownsRow W base 76 3 v vs.length (visVals vs)) (h1 : r + 1 ≤ F) (h2 : r + 1 ≤ R) (h3 : r + 1 ≤ base) (hM : M ≤ 1000000) (hm : 1 ≤ m) (hB : r + 1 ≤ B) (hz : ∀ j, j < m → ∃ z : Int, W.cell? ⟨B, j, none⟩ = some (.int .i64 z)) :
    Calls Tryz.prog 19 #[.pointer (some ⟨r, 0, none⟩), .int .i64 (m : Nat)] W fun e w' => ∃ (j : Nat) (z : Int), e = .returned (.int .i64 (j : Nat)) ∧ j < m ∧ w'.cell? ⟨B, j, none⟩ = some (.int .i64 z) ∧ FlAt w' F nm p l v ∧ FlAt w' R ⟨#[]⟩ 0 0 (.slice none 0 0) ∧ World.ownsRow w' base 76 3 v vs.length (visVals vs) ∧ Rd w' r (M + 1) ∧ Touch r (r + 1) W w' := by
  refine (pick_sp0 r M F R m base nm p l vs v hR hF hRr hO h1 h2 h3 hM hm).mono ?_
  rintro e w' ⟨j, rfl, hj, q1, q2, q3, q4, ht⟩
  obtain ⟨z, hzz⟩ := hz j hj
  exact ⟨j, z, rfl, hj, cell_touch ht hzz (.inr hB), q1, q2, q3, q4, ht⟩
def spoilNams : List ByteArray := [⟨#[]⟩, ⟨#[65]⟩, ⟨#[122, 122]⟩, ⟨#[97, 49]⟩]
theorem spoilNams_size : ∀ s ∈ spoilNams, s.size ≤ 8 := by decide
theorem late_bd : ∀ z ∈ ([-1, 60, 61] : List Int), -1 ≤ z ∧ z ≤ 61 := by decide
theorem vis_take {w : World} {a : Option Addr} {vs : List Vis} (h : VisitsIn w a vs) (k : Nat) : VisitsIn w a (vs.take k) := fun i hi => by
  have hi' : i < vs.length := by simp at hi; omega
  obtain ⟨b, off, e, h1, h2⟩ := h i hi'
  refine ⟨b, off, e, h1, ?_⟩
  rw [List.getElem_take]
  exact h2

set_option maxRecDepth 100000 in
set_option maxHeartbeats 25600000 in
theorem l6SpoilFlight_any (r N : Nat) (nm : ByteArray) (p l : Int) (vs : List Vis) (av : Option Addr) (cv : Nat) (w : World) (h : Rd w r N) (hN : N ≤ 900000) (hv : VisitsIn w av vs) (h1 : 1 ≤ vs.length) (hsm : VisSm 3 vs) (hnm : nm.size ≤ 8) (hl0 : -1 ≤ l) (hl1 : l ≤ 61) :
    Calls Tryz.prog 39 #[.pointer (some ⟨r, 0, none⟩), .agg #[.string nm, .int .i64 p, .int .i64 l, .slice av vs.length cv]] w fun e w' =>
      (∃ (nm' : ByteArray) (p' l' : Int) (vs' : List Vis) (a : Option Addr) (c : Nat), e = .returned (.agg #[.string nm', .int .i64 p', .int .i64 l', .slice a vs'.length c]) ∧ nm'.size ≤ 8 ∧ -1 ≤ l' ∧ l' ≤ 61 ∧ VisSm 6 vs' ∧ VisitsIn w' a vs' ∧ ∀ q, a = some q → w.heap.size ≤ q.block) ∧ Rd w' r (N + 3) ∧ Touch r (r + 1) w w' := by
  obtain ⟨i0, hi, iz0, iz1, iz2⟩ := info_parts info_visit
  have hrl := h.lt
  have HR := hide h
  have HV := hide hv
  have HSM := hide hsm
  have hn3 := hsm.1
  clear h hv hsm
  go_enter Tryz.func39, Tryz.ntmps39
  go_upto_region 1 with fail
  have F0 := hide ((FlAt.new w nm p l (.slice av vs.length cv)).later ((Below.refl _ _).alloc (Nat.le_refl _) (.cells #[.string ⟨#[]⟩, .int .i64 0, .int .i64 0, .slice none 0 0] 32)))
  have R0 := hide (FlAt.newAt (w.alloc (.cells #[.string nm, .int .i64 p, .int .i64 l, .slice av vs.length cv] 32)) (w.heap.size + 1) (by simp) ⟨#[]⟩ 0 0 (.slice none 0 0))
  have B0 := hide (((Below.refl w.heap.size w).alloc (Nat.le_refl _) (.cells #[.string nm, .int .i64 p, .int .i64 l, .slice av vs.length cv] 32)).alloc (by simp) (.cells #[.string ⟨#[]⟩, .int .i64 0, .int .i64 0, .slice none 0 0] 32))
  generalize (w.alloc (.cells #[.string nm, .int .i64 p, .int .i64 l, .slice av vs.length cv] 32)).alloc (.cells #[.string ⟨#[]⟩, .int .i64 0, .int .i64 0, .slice none 0 0] 32) = W at *
  have hRW := R0.out.lt
  obtain ⟨c0, c1, c2, c3, _⟩ := F0.out.cells
  go_wp2_with fail
  refine (l1Flight_any nm p l vs av cv W (HV.out.later B0.out) h1 (by omega)).mono ?_
  rintro e w1 ⟨g, cp, rfl, hown, hb1⟩
  have hgl := (World.ownsRow.lt hown g rfl)
  have hgb : W.heap.size ≤ g := hgl.1
  have hgt : g < w1.heap.size := hgl.2
  go_upto_region 2 with fail
  have FX := hide (FlAt.new w1 nm p l (.slice (some ⟨g, 0, none⟩) vs.length cp))
  have Ba := hide ((Below.refl w1.heap.size w1).alloc (Nat.le_refl _) (.cells #[.string nm, .int .i64 p, .int .i64 l, .slice (some ⟨g, 0, none⟩) vs.length cp] 32))
  have RX := hide ((R0.out.later hb1).later Ba.out)
  have OX := hide (owns_later hown Ba.out)
  have BX := hide (below_two (below_two B0.out hb1) Ba.out)
  have hs1 := (below_two B0.out hb1).size
  clear hown hb1 Ba F0 R0 c0 c1 c2 c3 hgl
  generalize w1.alloc (.cells #[.string nm, .int .i64 p, .int .i64 l, .slice (some ⟨g, 0, none⟩) vs.length cp] 32) = X at *
  generalize w1.heap.size = F at *
  have hs0 := B0.out.size
  have x3 := FX.out.cells.2.2.2.1
  go_wp2_with fail
  refine (pick_any r N _ X (HR.out.later BX.out) (by omega) (by omega)).mono ?_
  rintro e w2 ⟨⟨k', rfl, hk0, hk1⟩, hr2, ht2⟩
  obtain ⟨k, rfl⟩ := Int.eq_ofNat_of_zero_le hk0
  have hk : k < vs.length := by omega
  go_wp2_with fail
  refine (pick_any r _ _ w2 hr2 (by omega) (by omega)).mono ?_
  rintro e w3 ⟨⟨q, rfl, hq0, hq1⟩, hr3, ht3⟩
  have T3 := hide (touch_trans (touch_trans (touch_below BX.out) ht2) ht3)
  have F3 := hide ((FX.out.touch ht2 (by omega)).touch ht3 (by omega))
  have R3 := hide ((RX.out.touch ht2 (by omega)).touch ht3 (by omega))
  have O3 := hide (owns_touch (owns_touch OX.out ht2 (by omega)) ht3 (by omega))
  have HR3 := hide hr3
  have hF3 := F3.out.lt
  clear hr2 ht2 hr3 ht3 FX RX OX BX x3 HR HV
  have hq : q = 0 ∨ q = 1 ∨ q = 2 ∨ q = 3 ∨ q = 4 ∨ q = 5 ∨ q = 6 := by omega
  rcases hq with rfl | rfl | rfl | rfl | rfl | rfl | rfl
  · go_wp2_with fail
    have Ba := hide ((Below.refl w3.heap.size w3).alloc (Nat.le_refl _) (.cells (spoilNams.map Value.string).toArray 9))
    refine (of_any r _ _ 4 spoilNams _ (HR3.out.later Ba.out) (by omega) (strs_alloc (r := r) (by omega) 9 _ spoilNams rfl) (by decide)).mono ?_
    rintro e w4 ⟨⟨s, hs, rfl⟩, hr4, ht4⟩
    have hss := spoilNams_size s hs
    have F4 := hide ((F3.out.later Ba.out).touch ht4 (by omega))
    have R4 := hide ((R3.out.later Ba.out).touch ht4 (by omega))
    have O4 := hide (owns_touch (owns_later O3.out Ba.out) ht4 (by omega))
    have T4 := hide (touch_trans (touch_then T3.out (Ba.out.mono (by omega))) ht4)
    have HR4 := hide hr4
    have c0 := F4.out.cells.1
    have z0 := F4.out.cells.2.2.2.2.1
    clear hr4 ht4 F3 R3 O3 T3 HR3 hs
    go_upto_region 21 with fail
    have FX := hide (F4.out.setName s)
    have RX := hide (R4.out.keep (w' := w4.setCell ⟨F, 0, none⟩ (.string s)) (Below.heap_setCell _ _ _ _ (by show w.heap.size + 1 ≠ F; omega)))
    have OX := hide (owns_keep (w' := w4.setCell ⟨F, 0, none⟩ (.string s)) O4.out (fun q hq => Below.heap_setCell _ _ _ _ (by simp [Value.ownBlock] at hq; show q ≠ F; omega)))
    have BX := hide (below_set (Below.refl w.heap.size w4) F 0 (by omega) (.string s))
    have HRX := hide (HR4.out.below BX.out hrl)
    have TX := hide (touch_then T4.out BX.out)
    have VX : Hid (VisitsIn (w4.setCell ⟨F, 0, none⟩ (.string s)) (some ⟨g, 0, none⟩) vs ∧ (∀ q, (some ⟨g, 0, none⟩ : Option Addr) = some q → w.heap.size ≤ q.block) ∧ (∀ q, (some ⟨g, 0, none⟩ : Option Addr) = some q → q.block ≠ w.heap.size + 1)) :=
      ⟨(OwnV.visits OX.out).1, fun q hq => by simp at hq; subst hq; show w.heap.size ≤ g; omega, fun q hq => by simp at hq; subst hq; show g ≠ w.heap.size + 1; omega⟩
    clear F4 R4 O4 T4 HR4 c0 z0 BX OX
    generalize w4.setCell ⟨F, 0, none⟩ (.string s) = X at *
    obtain ⟨fk0, fk1, fk2, fk3, _⟩ := FX.out.cells
    obtain ⟨rk0, rk1, rk2, rk3, rz0, rz1, rz2, rz3⟩ := RX.out.cells
    have B9 := hide (below_set (below_set (below_set (below_set (Below.refl w.heap.size X) (w.heap.size + 1) 0 (by omega) (.string s)) (w.heap.size + 1) 1 (by omega) (.int .i64 p)) (w.heap.size + 1) 2 (by omega) (.int .i64 l)) (w.heap.size + 1) 3 (by omega) (.slice (some ⟨g, 0, none⟩) vs.length cp))
    have KP : Hid (∀ q, q ≠ w.heap.size + 1 → (((((X).setCell ⟨w.heap.size + 1, 0, none⟩ (.string s)).setCell ⟨w.heap.size + 1, 1, none⟩ (.int .i64 p)).setCell ⟨w.heap.size + 1, 2, none⟩ (.int .i64 l)).setCell ⟨w.heap.size + 1, 3, none⟩ (.slice (some ⟨g, 0, none⟩) vs.length cp)).heap[q]? = (X).heap[q]?) := fun q hq => by
      rw [Below.heap_setCell _ _ _ _ (by exact hq), Below.heap_setCell _ _ _ _ (by exact hq), Below.heap_setCell _ _ _ _ (by exact hq), Below.heap_setCell _ _ _ _ (by exact hq)]
    have Y9 := (((RX.out.setName s).setPlan p).setLate l).setVis (.slice (some ⟨g, 0, none⟩) vs.length cp)
    have Zy0 := hide Y9.cells.1
    have Zy1 := hide Y9.cells.2.1
    have Zy2 := hide Y9.cells.2.2.1
    have Zy3 := hide Y9.cells.2.2.2.1
    clear Y9
    go_wp2
    generalize ((((X).setCell ⟨w.heap.size + 1, 0, none⟩ (.string s)).setCell ⟨w.heap.size + 1, 1, none⟩ (.int .i64 p)).setCell ⟨w.heap.size + 1, 2, none⟩ (.int .i64 l)).setCell ⟨w.heap.size + 1, 3, none⟩ (.slice (some ⟨g, 0, none⟩) vs.length cp) = Y at *
    have y0 := Zy0.out
    have y1 := Zy1.out
    have y2 := Zy2.out
    have y3 := Zy3.out
    exact bodyPost_ret (v := .agg #[.string s, .int .i64 p, .int .i64 l, .slice (some ⟨g, 0, none⟩) vs.length cp]) (by simp [results, Tryz.results39, go_sem, y0, y1, y2, y3]) rfl ⟨⟨_, _, _, _, _, _, rfl, hss, hl0, hl1, HSM.out.mono (by omega), VX.out.1.keep (fun q hq => KP.out _ (VX.out.2.2 q hq)) B9.out.size, fun q hq => VX.out.2.1 q hq⟩, (HRX.out.below B9.out hrl).mono (by omega), touch_then TX.out B9.out⟩
  · go_wp2_with fail
    have Ba := hide ((Below.refl w3.heap.size w3).alloc (Nat.le_refl _) (.cells #[.int .i64 (-1), .int .i64 10000, .int .i64 10001] 3))
    refine (pick_any r _ _ _ (HR3.out.later Ba.out) (by omega) (by omega)).mono ?_
    rintro e w4 ⟨⟨j', rfl, hj0, hj1⟩, hr4, ht4⟩
    obtain ⟨j, rfl⟩ := Int.eq_ofNat_of_zero_le hj0
    have hz := cell_touch ht4 (ints_new w3 3 [-1, 10000, 10001] _ rfl j (by simp; omega)) (.inr (by show r + 1 ≤ w3.heap.size; omega))
    have hzb : ([-1, 10000, 10001] : List Int)[j]'(by simp; omega) ∈ ([-1, 10000, 10001] : List Int) := List.getElem_mem _
    generalize ([-1, 10000, 10001] : List Int)[j]'(by simp; omega) = z at hz hzb
    have F4 := hide ((F3.out.later Ba.out).touch ht4 (by omega))
    have R4 := hide ((R3.out.later Ba.out).touch ht4 (by omega))
    have O4 := hide (owns_touch (owns_later O3.out Ba.out) ht4 (by omega))
    have T4 := hide (touch_trans (touch_then T3.out (Ba.out.mono (by omega))) ht4)
    have HR4 := hide hr4
    have c0 := F4.out.cells.2.1
    have z0 := F4.out.cells.2.2.2.2.2.1
    clear hr4 ht4 F3 R3 O3 T3 HR3
    go_upto_region 21 with fail
    have FX := hide (F4.out.setPlan z)
    have RX := hide (R4.out.keep (w' := w4.setCell ⟨F, 1, none⟩ (.int .i64 z)) (Below.heap_setCell _ _ _ _ (by show w.heap.size + 1 ≠ F; omega)))
    have OX := hide (owns_keep (w' := w4.setCell ⟨F, 1, none⟩ (.int .i64 z)) O4.out (fun q hq => Below.heap_setCell _ _ _ _ (by simp [Value.ownBlock] at hq; show q ≠ F; omega)))
    have BX := hide (below_set (Below.refl w.heap.size w4) F 1 (by omega) (.int .i64 z))
    have HRX := hide (HR4.out.below BX.out hrl)
    have TX := hide (touch_then T4.out BX.out)
    have VX : Hid (VisitsIn (w4.setCell ⟨F, 1, none⟩ (.int .i64 z)) (some ⟨g, 0, none⟩) vs ∧ (∀ q, (some ⟨g, 0, none⟩ : Option Addr) = some q → w.heap.size ≤ q.block) ∧ (∀ q, (some ⟨g, 0, none⟩ : Option Addr) = some q → q.block ≠ w.heap.size + 1)) :=
      ⟨(OwnV.visits OX.out).1, fun q hq => by simp at hq; subst hq; show w.heap.size ≤ g; omega, fun q hq => by simp at hq; subst hq; show g ≠ w.heap.size + 1; omega⟩
    clear F4 R4 O4 T4 HR4 c0 z0 hz BX OX
    generalize w4.setCell ⟨F, 1, none⟩ (.int .i64 z) = X at *
    obtain ⟨fk0, fk1, fk2, fk3, _⟩ := FX.out.cells
    obtain ⟨rk0, rk1, rk2, rk3, rz0, rz1, rz2, rz3⟩ := RX.out.cells
    have B9 := hide (below_set (below_set (below_set (below_set (Below.refl w.heap.size X) (w.heap.size + 1) 0 (by omega) (.string nm)) (w.heap.size + 1) 1 (by omega) (.int .i64 z)) (w.heap.size + 1) 2 (by omega) (.int .i64 l)) (w.heap.size + 1) 3 (by omega) (.slice (some ⟨g, 0, none⟩) vs.length cp))
    have KP : Hid (∀ q, q ≠ w.heap.size + 1 → (((((X).setCell ⟨w.heap.size + 1, 0, none⟩ (.string nm)).setCell ⟨w.heap.size + 1, 1, none⟩ (.int .i64 z)).setCell ⟨w.heap.size + 1, 2, none⟩ (.int .i64 l)).setCell ⟨w.heap.size + 1, 3, none⟩ (.slice (some ⟨g, 0, none⟩) vs.length cp)).heap[q]? = (X).heap[q]?) := fun q hq => by
      rw [Below.heap_setCell _ _ _ _ (by exact hq), Below.heap_setCell _ _ _ _ (by exact hq), Below.heap_setCell _ _ _ _ (by exact hq), Below.heap_setCell _ _ _ _ (by exact hq)]
    have Y9 := (((RX.out.setName nm).setPlan z).setLate l).setVis (.slice (some ⟨g, 0, none⟩) vs.length cp)
    have Zy0 := hide Y9.cells.1
    have Zy1 := hide Y9.cells.2.1
    have Zy2 := hide Y9.cells.2.2.1
    have Zy3 := hide Y9.cells.2.2.2.1
    clear Y9
    go_wp2
    generalize ((((X).setCell ⟨w.heap.size + 1, 0, none⟩ (.string nm)).setCell ⟨w.heap.size + 1, 1, none⟩ (.int .i64 z)).setCell ⟨w.heap.size + 1, 2, none⟩ (.int .i64 l)).setCell ⟨w.heap.size + 1, 3, none⟩ (.slice (some ⟨g, 0, none⟩) vs.length cp) = Y at *
    have y0 := Zy0.out
    have y1 := Zy1.out
    have y2 := Zy2.out
    have y3 := Zy3.out
    exact bodyPost_ret (v := .agg #[.string nm, .int .i64 z, .int .i64 l, .slice (some ⟨g, 0, none⟩) vs.length cp]) (by simp [results, Tryz.results39, go_sem, y0, y1, y2, y3]) rfl ⟨⟨_, _, _, _, _, _, rfl, hnm, hl0, hl1, HSM.out.mono (by omega), VX.out.1.keep (fun q hq => KP.out _ (VX.out.2.2 q hq)) B9.out.size, fun q hq => VX.out.2.1 q hq⟩, (HRX.out.below B9.out hrl).mono (by omega), touch_then TX.out B9.out⟩
  · go_wp2_with fail
    have Ba := hide ((Below.refl w3.heap.size w3).alloc (Nat.le_refl _) (.cells #[.int .i64 (-1), .int .i64 60, .int .i64 61] 3))
    refine (pick_any r _ _ _ (HR3.out.later Ba.out) (by omega) (by omega)).mono ?_
    rintro e w4 ⟨⟨j', rfl, hj0, hj1⟩, hr4, ht4⟩
    obtain ⟨j, rfl⟩ := Int.eq_ofNat_of_zero_le hj0
    have hz := cell_touch ht4 (ints_new w3 3 [-1, 60, 61] _ rfl j (by simp; omega)) (.inr (by show r + 1 ≤ w3.heap.size; omega))
    have hzb : ([-1, 60, 61] : List Int)[j]'(by simp; omega) ∈ ([-1, 60, 61] : List Int) := List.getElem_mem _
    generalize ([-1, 60, 61] : List Int)[j]'(by simp; omega) = z at hz hzb
    have F4 := hide ((F3.out.later Ba.out).touch ht4 (by omega))
    have R4 := hide ((R3.out.later Ba.out).touch ht4 (by omega))
    have O4 := hide (owns_touch (owns_later O3.out Ba.out) ht4 (by omega))
    have T4 := hide (touch_trans (touch_then T3.out (Ba.out.mono (by omega))) ht4)
    have HR4 := hide hr4
    have c0 := F4.out.cells.2.2.1
    have z0 := F4.out.cells.2.2.2.2.2.2.1
    clear hr4 ht4 F3 R3 O3 T3 HR3
    go_upto_region 21 with fail
    have FX := hide (F4.out.setLate z)
    have RX := hide (R4.out.keep (w' := w4.setCell ⟨F, 2, none⟩ (.int .i64 z)) (Below.heap_setCell _ _ _ _ (by show w.heap.size + 1 ≠ F; omega)))
    have OX := hide (owns_keep (w' := w4.setCell ⟨F, 2, none⟩ (.int .i64 z)) O4.out (fun q hq => Below.heap_setCell _ _ _ _ (by simp [Value.ownBlock] at hq; show q ≠ F; omega)))
    have BX := hide (below_set (Below.refl w.heap.size w4) F 2 (by omega) (.int .i64 z))
    have HRX := hide (HR4.out.below BX.out hrl)
    have TX := hide (touch_then T4.out BX.out)
    have VX : Hid (VisitsIn (w4.setCell ⟨F, 2, none⟩ (.int .i64 z)) (some ⟨g, 0, none⟩) vs ∧ (∀ q, (some ⟨g, 0, none⟩ : Option Addr) = some q → w.heap.size ≤ q.block) ∧ (∀ q, (some ⟨g, 0, none⟩ : Option Addr) = some q → q.block ≠ w.heap.size + 1)) :=
      ⟨(OwnV.visits OX.out).1, fun q hq => by simp at hq; subst hq; show w.heap.size ≤ g; omega, fun q hq => by simp at hq; subst hq; show g ≠ w.heap.size + 1; omega⟩
    clear F4 R4 O4 T4 HR4 c0 z0 hz BX OX
    generalize w4.setCell ⟨F, 2, none⟩ (.int .i64 z) = X at *
    obtain ⟨fk0, fk1, fk2, fk3, _⟩ := FX.out.cells
    obtain ⟨rk0, rk1, rk2, rk3, rz0, rz1, rz2, rz3⟩ := RX.out.cells
    have B9 := hide (below_set (below_set (below_set (below_set (Below.refl w.heap.size X) (w.heap.size + 1) 0 (by omega) (.string nm)) (w.heap.size + 1) 1 (by omega) (.int .i64 p)) (w.heap.size + 1) 2 (by omega) (.int .i64 z)) (w.heap.size + 1) 3 (by omega) (.slice (some ⟨g, 0, none⟩) vs.length cp))
    have KP : Hid (∀ q, q ≠ w.heap.size + 1 → (((((X).setCell ⟨w.heap.size + 1, 0, none⟩ (.string nm)).setCell ⟨w.heap.size + 1, 1, none⟩ (.int .i64 p)).setCell ⟨w.heap.size + 1, 2, none⟩ (.int .i64 z)).setCell ⟨w.heap.size + 1, 3, none⟩ (.slice (some ⟨g, 0, none⟩) vs.length cp)).heap[q]? = (X).heap[q]?) := fun q hq => by
      rw [Below.heap_setCell _ _ _ _ (by exact hq), Below.heap_setCell _ _ _ _ (by exact hq), Below.heap_setCell _ _ _ _ (by exact hq), Below.heap_setCell _ _ _ _ (by exact hq)]
    have Y9 := (((RX.out.setName nm).setPlan p).setLate z).setVis (.slice (some ⟨g, 0, none⟩) vs.length cp)
    have Zy0 := hide Y9.cells.1
    have Zy1 := hide Y9.cells.2.1
    have Zy2 := hide Y9.cells.2.2.1
    have Zy3 := hide Y9.cells.2.2.2.1
    clear Y9
    go_wp2
    generalize ((((X).setCell ⟨w.heap.size + 1, 0, none⟩ (.string nm)).setCell ⟨w.heap.size + 1, 1, none⟩ (.int .i64 p)).setCell ⟨w.heap.size + 1, 2, none⟩ (.int .i64 z)).setCell ⟨w.heap.size + 1, 3, none⟩ (.slice (some ⟨g, 0, none⟩) vs.length cp) = Y at *
    have y0 := Zy0.out
    have y1 := Zy1.out
    have y2 := Zy2.out
    have y3 := Zy3.out
    exact bodyPost_ret (v := .agg #[.string nm, .int .i64 p, .int .i64 z, .slice (some ⟨g, 0, none⟩) vs.length cp]) (by simp [results, Tryz.results39, go_sem, y0, y1, y2, y3]) rfl ⟨⟨_, _, _, _, _, _, rfl, hnm, (late_bd z hzb).1, (late_bd z hzb).2, HSM.out.mono (by omega), VX.out.1.keep (fun q hq => KP.out _ (VX.out.2.2 q hq)) B9.out.size, fun q hq => VX.out.2.1 q hq⟩, (HRX.out.below B9.out hrl).mono (by omega), touch_then TX.out B9.out⟩
  · have c3 := F3.out.cells.2.2.2.1
    have Ba := hide ((Below.refl w3.heap.size w3).alloc (Nat.le_refl _) (.cells #[.int .i64 (-1), .int .i64 (200), .int .i64 (201), .int .i64 (0)] 3)).drew
    have hk0' : (0 : Int) ≤ (k : Int) := by omega
    have hk1' : (k : Int) < (vs.length : Int) := by omega
    have hr3w : r + 1 ≤ w3.heap.size := by omega
    have HFg : F ≠ g := by omega
    have PA := hide (pick_sp (W := (w3.alloc (.cells #[.int .i64 (-1), .int .i64 (200), .int .i64 (201), .int .i64 (0)] 3)).drew) r _ F (w.heap.size + 1) w3.heap.size 4 W.heap.size nm p l vs _ (HR3.out.later Ba.out) (F3.out.later Ba.out) (R3.out.later Ba.out) (owns_later O3.out Ba.out) (by omega) (by omega) (by omega) (by omega) (by omega) (by omega) (fun j hj => ints_ex w3 3 [-1, 200, 201, 0] #[.int .i64 (-1), .int .i64 (200), .int .i64 (201), .int .i64 (0)] rfl j hj))
    have PB := hide (pick_sp0 (W := w3.drew) r _ F (w.heap.size + 1) 4 W.heap.size nm p l vs _ HR3.out.drew (show FlAt w3.drew _ _ _ _ _ from F3.out) (show FlAt w3.drew _ _ _ _ _ from R3.out) (show World.ownsRow w3.drew _ _ _ _ _ _ from O3.out) (by omega) (by omega) (by omega) (by omega) (by omega))
    go_upto_region 16 with fail
    have cL := cell_later Ba.out c3
    go_region_with (first
        | (go_at_call 19; refine PA.out.mono ?_; rintro e wA ⟨j, z, rfl, hj, hz, F4, R4, O4, hr4, ht4⟩; have hj0 : (0 : Int) ≤ (j : Int) := Int.natCast_nonneg j; have hj1 : (j : Int) < 4 := Int.ofNat_lt.2 hj; have cA := F4.cells.2.2.2.1; have sc := (own_cell O4 hk).1.1; have sf := (own_cell O4 hk).1.2)
        | (go_at_call 19; refine PB.out.mono ?_; rintro e wB ⟨j, rfl, hj, F4, R4, O4, hr4, ht4⟩; have hj0 : (0 : Int) ≤ (j : Int) := Int.natCast_nonneg j; have hj1 : (j : Int) < 4 := Int.ofNat_lt.2 hj; obtain ⟨z, hz⟩ := ints_ex wB 3 [-1, 200, 201, 0] #[.int .i64 (-1), .int .i64 (200), .int .i64 (201), .int .i64 (0)] rfl j hj; have cB := F4.cells.2.2.2.1; have O5 := owns_later O4 ((Below.refl _ _).alloc (Nat.le_refl _) (.cells #[.int .i64 (-1), .int .i64 (200), .int .i64 (201), .int .i64 (0)] 3)); have sc := (own_cell O5 hk).1.1; have sf := (own_cell O5 hk).1.2; have cBL := cell_later ((Below.refl _ _).alloc (Nat.le_refl _) (.cells #[.int .i64 (-1), .int .i64 (200), .int .i64 (201), .int .i64 (0)] 3)) cB)
        | (fail))
    all_goals first
      | (have T4 := hide (touch_trans (touch_then T3.out (Ba.out.mono (by omega))) ht4)
         have FX := hide (FlAt.keep (w' := (wA).setCell ⟨g, k * 3 + 1, none⟩ (.int .i64 z)) F4 (Below.heap_setCell _ _ _ _ (by show F ≠ g; omega)))
         have RX := hide (FlAt.keep (w' := (wA).setCell ⟨g, k * 3 + 1, none⟩ (.int .i64 z)) R4 (Below.heap_setCell _ _ _ _ (by show w.heap.size + 1 ≠ g; omega)))
         have OX := own_set1 (base := W.heap.size) (g := g) (cp := cp) O4 hk z
         have BX := hide (below_set (Below.refl w.heap.size (wA)) g (k * 3 + 1) (by omega) (.int .i64 z))
         have HRX := hide (Rd.below hr4 BX.out hrl)
         have TX := hide (touch_then T4.out BX.out)
         have VX : Hid (VisitsIn ((wA).setCell ⟨g, k * 3 + 1, none⟩ (.int .i64 z)) (some ⟨g, 0, none⟩) (vs.set k (vs[k].1, z, vs[k].2.2)) ∧ (∀ q, (some ⟨g, 0, none⟩ : Option Addr) = some q → w.heap.size ≤ q.block) ∧ (∀ q, (some ⟨g, 0, none⟩ : Option Addr) = some q → q.block ≠ w.heap.size + 1)) :=
           ⟨(OwnV.visits OX).1, fun q hq => by simp at hq; subst hq; show w.heap.size ≤ g; omega, fun q hq => by simp at hq; subst hq; show g ≠ w.heap.size + 1; omega⟩
         clear F4 R4 O4 T4 hr4 ht4 sc sf hz BX OX F3 R3 O3 T3 HR3 Ba PA PB
         go_upto_region 21 with fail
         generalize (wA).setCell ⟨g, k * 3 + 1, none⟩ (.int .i64 z) = X at *
         obtain ⟨fk0, fk1, fk2, fk3, _⟩ := FX.out.cells
         obtain ⟨rk0, rk1, rk2, rk3, rz0, rz1, rz2, rz3⟩ := RX.out.cells
         have B9 := hide (below_set (below_set (below_set (below_set (Below.refl w.heap.size X) (w.heap.size + 1) 0 (by omega) (.string nm)) (w.heap.size + 1) 1 (by omega) (.int .i64 p)) (w.heap.size + 1) 2 (by omega) (.int .i64 l)) (w.heap.size + 1) 3 (by omega) (.slice (some ⟨g, 0, none⟩) vs.length cp))
         have KP : Hid (∀ q, q ≠ w.heap.size + 1 → (((((X).setCell ⟨w.heap.size + 1, 0, none⟩ (.string nm)).setCell ⟨w.heap.size + 1, 1, none⟩ (.int .i64 p)).setCell ⟨w.heap.size + 1, 2, none⟩ (.int .i64 l)).setCell ⟨w.heap.size + 1, 3, none⟩ (.slice (some ⟨g, 0, none⟩) vs.length cp)).heap[q]? = (X).heap[q]?) := fun q hq => by
           rw [Below.heap_setCell _ _ _ _ (by exact hq), Below.heap_setCell _ _ _ _ (by exact hq), Below.heap_setCell _ _ _ _ (by exact hq), Below.heap_setCell _ _ _ _ (by exact hq)]
         have Y9 := (((RX.out.setName nm).setPlan p).setLate l).setVis (.slice (some ⟨g, 0, none⟩) vs.length cp)
         have Zy0 := hide Y9.cells.1
         have Zy1 := hide Y9.cells.2.1
         have Zy2 := hide Y9.cells.2.2.1
         have Zy3 := hide Y9.cells.2.2.2.1
         clear Y9
         go_wp2
         generalize ((((X).setCell ⟨w.heap.size + 1, 0, none⟩ (.string nm)).setCell ⟨w.heap.size + 1, 1, none⟩ (.int .i64 p)).setCell ⟨w.heap.size + 1, 2, none⟩ (.int .i64 l)).setCell ⟨w.heap.size + 1, 3, none⟩ (.slice (some ⟨g, 0, none⟩) vs.length cp) = Y at *
         have y0 := Zy0.out
         have y1 := Zy1.out
         have y2 := Zy2.out
         have y3 := Zy3.out
         exact bodyPost_ret (v := .agg #[.string nm, .int .i64 p, .int .i64 l, .slice (some ⟨g, 0, none⟩) vs.length cp]) (by simp [results, Tryz.results39, go_sem, y0, y1, y2, y3]) rfl ⟨⟨nm, p, l, (vs.set k (vs[k].1, z, vs[k].2.2)), some ⟨g, 0, none⟩, cp, by rw [List.length_set], hnm, hl0, hl1, (HSM.out.set hk _ _).mono (by omega), VX.out.1.keep (fun q hq => KP.out _ (VX.out.2.2 q hq)) B9.out.size, fun q hq => VX.out.2.1 q hq⟩, (HRX.out.below B9.out hrl).mono (by omega), touch_then TX.out B9.out⟩)
      | (have T4 := hide (touch_then (touch_trans (touch_drew T3.out) ht4) (((Below.refl _ _).alloc (Nat.le_refl _) (.cells #[.int .i64 (-1), .int .i64 (200), .int .i64 (201), .int .i64 (0)] 3)).mono (by have := ht4.size; have : w3.drew.heap.size = w3.heap.size := rfl; have := T3.out.size; omega)))
         have FX := hide (FlAt.keep (w' := (wB.alloc (.cells #[.int .i64 (-1), .int .i64 (200), .int .i64 (201), .int .i64 (0)] 3)).setCell ⟨g, k * 3 + 1, none⟩ (.int .i64 z)) (F4.later ((Below.refl _ _).alloc (Nat.le_refl _) (.cells #[.int .i64 (-1), .int .i64 (200), .int .i64 (201), .int .i64 (0)] 3))) (Below.heap_setCell _ _ _ _ (by show F ≠ g; omega)))
         have RX := hide (FlAt.keep (w' := (wB.alloc (.cells #[.int .i64 (-1), .int .i64 (200), .int .i64 (201), .int .i64 (0)] 3)).setCell ⟨g, k * 3 + 1, none⟩ (.int .i64 z)) (R4.later ((Below.refl _ _).alloc (Nat.le_refl _) (.cells #[.int .i64 (-1), .int .i64 (200), .int .i64 (201), .int .i64 (0)] 3))) (Below.heap_setCell _ _ _ _ (by show w.heap.size + 1 ≠ g; omega)))
         have OX := own_set1 (base := W.heap.size) (g := g) (cp := cp) O5 hk z
         have BX := hide (below_set (Below.refl w.heap.size (wB.alloc (.cells #[.int .i64 (-1), .int .i64 (200), .int .i64 (201), .int .i64 (0)] 3))) g (k * 3 + 1) (by omega) (.int .i64 z))
         have HRX := hide (Rd.below (hr4.later ((Below.refl _ _).alloc (Nat.le_refl _) (.cells #[.int .i64 (-1), .int .i64 (200), .int .i64 (201), .int .i64 (0)] 3))) BX.out hrl)
         have TX := hide (touch_then T4.out BX.out)
         have VX : Hid (VisitsIn ((wB.alloc (.cells #[.int .i64 (-1), .int .i64 (200), .int .i64 (201), .int .i64 (0)] 3)).setCell ⟨g, k * 3 + 1, none⟩ (.int .i64 z)) (some ⟨g, 0, none⟩) (vs.set k (vs[k].1, z, vs[k].2.2)) ∧ (∀ q, (some ⟨g, 0, none⟩ : Option Addr) = some q → w.heap.size ≤ q.block) ∧ (∀ q, (some ⟨g, 0, none⟩ : Option Addr) = some q → q.block ≠ w.heap.size + 1)) :=
           ⟨(OwnV.visits OX).1, fun q hq => by simp at hq; subst hq; show w.heap.size ≤ g; omega, fun q hq => by simp at hq; subst hq; show g ≠ w.heap.size + 1; omega⟩
         clear F4 R4 O4 O5 T4 hr4 ht4 sc sf hz BX OX F3 R3 O3 T3 HR3 Ba PA PB
         go_upto_region 21 with fail
         generalize (wB.alloc (.cells #[.int .i64 (-1), .int .i64 (200), .int .i64 (201), .int .i64 (0)] 3)).setCell ⟨g, k * 3 + 1, none⟩ (.int .i64 z) = X at *
         obtain ⟨fk0, fk1, fk2, fk3, _⟩ := FX.out.cells
         obtain ⟨rk0, rk1, rk2, rk3, rz0, rz1, rz2, rz3⟩ := RX.out.cells
         have B9 := hide (below_set (below_set (below_set (below_set (Below.refl w.heap.size X) (w.heap.size + 1) 0 (by omega) (.string nm)) (w.heap.size + 1) 1 (by omega) (.int .i64 p)) (w.heap.size + 1) 2 (by omega) (.int .i64 l)) (w.heap.size + 1) 3 (by omega) (.slice (some ⟨g, 0, none⟩) vs.length cp))
         have KP : Hid (∀ q, q ≠ w.heap.size + 1 → (((((X).setCell ⟨w.heap.size + 1, 0, none⟩ (.string nm)).setCell ⟨w.heap.size + 1, 1, none⟩ (.int .i64 p)).setCell ⟨w.heap.size + 1, 2, none⟩ (.int .i64 l)).setCell ⟨w.heap.size + 1, 3, none⟩ (.slice (some ⟨g, 0, none⟩) vs.length cp)).heap[q]? = (X).heap[q]?) := fun q hq => by
           rw [Below.heap_setCell _ _ _ _ (by exact hq), Below.heap_setCell _ _ _ _ (by exact hq), Below.heap_setCell _ _ _ _ (by exact hq), Below.heap_setCell _ _ _ _ (by exact hq)]
         have Y9 := (((RX.out.setName nm).setPlan p).setLate l).setVis (.slice (some ⟨g, 0, none⟩) vs.length cp)
         have Zy0 := hide Y9.cells.1
         have Zy1 := hide Y9.cells.2.1
         have Zy2 := hide Y9.cells.2.2.1
         have Zy3 := hide Y9.cells.2.2.2.1
         clear Y9
         go_wp2
         generalize ((((X).setCell ⟨w.heap.size + 1, 0, none⟩ (.string nm)).setCell ⟨w.heap.size + 1, 1, none⟩ (.int .i64 p)).setCell ⟨w.heap.size + 1, 2, none⟩ (.int .i64 l)).setCell ⟨w.heap.size + 1, 3, none⟩ (.slice (some ⟨g, 0, none⟩) vs.length cp) = Y at *
         have y0 := Zy0.out
         have y1 := Zy1.out
         have y2 := Zy2.out
         have y3 := Zy3.out
         exact bodyPost_ret (v := .agg #[.string nm, .int .i64 p, .int .i64 l, .slice (some ⟨g, 0, none⟩) vs.length cp]) (by simp [results, Tryz.results39, go_sem, y0, y1, y2, y3]) rfl ⟨⟨nm, p, l, (vs.set k (vs[k].1, z, vs[k].2.2)), some ⟨g, 0, none⟩, cp, by rw [List.length_set], hnm, hl0, hl1, (HSM.out.set hk _ _).mono (by omega), VX.out.1.keep (fun q hq => KP.out _ (VX.out.2.2 q hq)) B9.out.size, fun q hq => VX.out.2.1 q hq⟩, (HRX.out.below B9.out hrl).mono (by omega), touch_then TX.out B9.out⟩)
  · have c3 := F3.out.cells.2.2.2.1
    have Ba := hide ((Below.refl w3.heap.size w3).alloc (Nat.le_refl _) (.cells #[.int .i64 (0), .int .i64 (30), .int .i64 (31), .int .i64 (20)] 3)).drew
    have hk0' : (0 : Int) ≤ (k : Int) := by omega
    have hk1' : (k : Int) < (vs.length : Int) := by omega
    have hr3w : r + 1 ≤ w3.heap.size := by omega
    have HFg : F ≠ g := by omega
    have PA := hide (pick_sp (W := (w3.alloc (.cells #[.int .i64 (0), .int .i64 (30), .int .i64 (31), .int .i64 (20)] 3)).drew) r _ F (w.heap.size + 1) w3.heap.size 4 W.heap.size nm p l vs _ (HR3.out.later Ba.out) (F3.out.later Ba.out) (R3.out.later Ba.out) (owns_later O3.out Ba.out) (by omega) (by omega) (by omega) (by omega) (by omega) (by omega) (fun j hj => ints_ex w3 3 [0, 30, 31, 20] #[.int .i64 (0), .int .i64 (30), .int .i64 (31), .int .i64 (20)] rfl j hj))
    have PB := hide (pick_sp0 (W := w3.drew) r _ F (w.heap.size + 1) 4 W.heap.size nm p l vs _ HR3.out.drew (show FlAt w3.drew _ _ _ _ _ from F3.out) (show FlAt w3.drew _ _ _ _ _ from R3.out) (show World.ownsRow w3.drew _ _ _ _ _ _ from O3.out) (by omega) (by omega) (by omega) (by omega) (by omega))
    go_upto_region 18 with fail
    have cL := cell_later Ba.out c3
    go_region_with (first
        | (go_at_call 19; refine PA.out.mono ?_; rintro e wA ⟨j, z, rfl, hj, hz, F4, R4, O4, hr4, ht4⟩; have hj0 : (0 : Int) ≤ (j : Int) := Int.natCast_nonneg j; have hj1 : (j : Int) < 4 := Int.ofNat_lt.2 hj; have cA := F4.cells.2.2.2.1; have sc := (own_cell O4 hk).2.1; have sf := (own_cell O4 hk).2.2)
        | (go_at_call 19; refine PB.out.mono ?_; rintro e wB ⟨j, rfl, hj, F4, R4, O4, hr4, ht4⟩; have hj0 : (0 : Int) ≤ (j : Int) := Int.natCast_nonneg j; have hj1 : (j : Int) < 4 := Int.ofNat_lt.2 hj; obtain ⟨z, hz⟩ := ints_ex wB 3 [0, 30, 31, 20] #[.int .i64 (0), .int .i64 (30), .int .i64 (31), .int .i64 (20)] rfl j hj; have cB := F4.cells.2.2.2.1; have O5 := owns_later O4 ((Below.refl _ _).alloc (Nat.le_refl _) (.cells #[.int .i64 (0), .int .i64 (30), .int .i64 (31), .int .i64 (20)] 3)); have sc := (own_cell O5 hk).2.1; have sf := (own_cell O5 hk).2.2; have cBL := cell_later ((Below.refl _ _).alloc (Nat.le_refl _) (.cells #[.int .i64 (0), .int .i64 (30), .int .i64 (31), .int .i64 (20)] 3)) cB)
        | (fail))
    all_goals first
      | (have T4 := hide (touch_trans (touch_then T3.out (Ba.out.mono (by omega))) ht4)
         have FX := hide (FlAt.keep (w' := (wA).setCell ⟨g, k * 3 + 2, none⟩ (.int .i64 z)) F4 (Below.heap_setCell _ _ _ _ (by show F ≠ g; omega)))
         have RX := hide (FlAt.keep (w' := (wA).setCell ⟨g, k * 3 + 2, none⟩ (.int .i64 z)) R4 (Below.heap_setCell _ _ _ _ (by show w.heap.size + 1 ≠ g; omega)))
         have OX := own_set2 (base := W.heap.size) (g := g) (cp := cp) O4 hk z
         have BX := hide (below_set (Below.refl w.heap.size (wA)) g (k * 3 + 2) (by omega) (.int .i64 z))
         have HRX := hide (Rd.below hr4 BX.out hrl)
         have TX := hide (touch_then T4.out BX.out)
         have VX : Hid (VisitsIn ((wA).setCell ⟨g, k * 3 + 2, none⟩ (.int .i64 z)) (some ⟨g, 0, none⟩) (vs.set k (vs[k].1, vs[k].2.1, z)) ∧ (∀ q, (some ⟨g, 0, none⟩ : Option Addr) = some q → w.heap.size ≤ q.block) ∧ (∀ q, (some ⟨g, 0, none⟩ : Option Addr) = some q → q.block ≠ w.heap.size + 1)) :=
           ⟨(OwnV.visits OX).1, fun q hq => by simp at hq; subst hq; show w.heap.size ≤ g; omega, fun q hq => by simp at hq; subst hq; show g ≠ w.heap.size + 1; omega⟩
         clear F4 R4 O4 T4 hr4 ht4 sc sf hz BX OX F3 R3 O3 T3 HR3 Ba PA PB
         go_upto_region 21 with fail
         generalize (wA).setCell ⟨g, k * 3 + 2, none⟩ (.int .i64 z) = X at *
         obtain ⟨fk0, fk1, fk2, fk3, _⟩ := FX.out.cells
         obtain ⟨rk0, rk1, rk2, rk3, rz0, rz1, rz2, rz3⟩ := RX.out.cells
         have B9 := hide (below_set (below_set (below_set (below_set (Below.refl w.heap.size X) (w.heap.size + 1) 0 (by omega) (.string nm)) (w.heap.size + 1) 1 (by omega) (.int .i64 p)) (w.heap.size + 1) 2 (by omega) (.int .i64 l)) (w.heap.size + 1) 3 (by omega) (.slice (some ⟨g, 0, none⟩) vs.length cp))
         have KP : Hid (∀ q, q ≠ w.heap.size + 1 → (((((X).setCell ⟨w.heap.size + 1, 0, none⟩ (.string nm)).setCell ⟨w.heap.size + 1, 1, none⟩ (.int .i64 p)).setCell ⟨w.heap.size + 1, 2, none⟩ (.int .i64 l)).setCell ⟨w.heap.size + 1, 3, none⟩ (.slice (some ⟨g, 0, none⟩) vs.length cp)).heap[q]? = (X).heap[q]?) := fun q hq => by
           rw [Below.heap_setCell _ _ _ _ (by exact hq), Below.heap_setCell _ _ _ _ (by exact hq), Below.heap_setCell _ _ _ _ (by exact hq), Below.heap_setCell _ _ _ _ (by exact hq)]
         have Y9 := (((RX.out.setName nm).setPlan p).setLate l).setVis (.slice (some ⟨g, 0, none⟩) vs.length cp)
         have Zy0 := hide Y9.cells.1
         have Zy1 := hide Y9.cells.2.1
         have Zy2 := hide Y9.cells.2.2.1
         have Zy3 := hide Y9.cells.2.2.2.1
         clear Y9
         go_wp2
         generalize ((((X).setCell ⟨w.heap.size + 1, 0, none⟩ (.string nm)).setCell ⟨w.heap.size + 1, 1, none⟩ (.int .i64 p)).setCell ⟨w.heap.size + 1, 2, none⟩ (.int .i64 l)).setCell ⟨w.heap.size + 1, 3, none⟩ (.slice (some ⟨g, 0, none⟩) vs.length cp) = Y at *
         have y0 := Zy0.out
         have y1 := Zy1.out
         have y2 := Zy2.out
         have y3 := Zy3.out
         exact bodyPost_ret (v := .agg #[.string nm, .int .i64 p, .int .i64 l, .slice (some ⟨g, 0, none⟩) vs.length cp]) (by simp [results, Tryz.results39, go_sem, y0, y1, y2, y3]) rfl ⟨⟨nm, p, l, (vs.set k (vs[k].1, vs[k].2.1, z)), some ⟨g, 0, none⟩, cp, by rw [List.length_set], hnm, hl0, hl1, (HSM.out.set hk _ _).mono (by omega), VX.out.1.keep (fun q hq => KP.out _ (VX.out.2.2 q hq)) B9.out.size, fun q hq => VX.out.2.1 q hq⟩, (HRX.out.below B9.out hrl).mono (by omega), touch_then TX.out B9.out⟩)
      | (have T4 := hide (touch_then (touch_trans (touch_drew T3.out) ht4) (((Below.refl _ _).alloc (Nat.le_refl _) (.cells #[.int .i64 (0), .int .i64 (30), .int .i64 (31), .int .i64 (20)] 3)).mono (by have := ht4.size; have : w3.drew.heap.size = w3.heap.size := rfl; have := T3.out.size; omega)))
         have FX := hide (FlAt.keep (w' := (wB.alloc (.cells #[.int .i64 (0), .int .i64 (30), .int .i64 (31), .int .i64 (20)] 3)).setCell ⟨g, k * 3 + 2, none⟩ (.int .i64 z)) (F4.later ((Below.refl _ _).alloc (Nat.le_refl _) (.cells #[.int .i64 (0), .int .i64 (30), .int .i64 (31), .int .i64 (20)] 3))) (Below.heap_setCell _ _ _ _ (by show F ≠ g; omega)))
         have RX := hide (FlAt.keep (w' := (wB.alloc (.cells #[.int .i64 (0), .int .i64 (30), .int .i64 (31), .int .i64 (20)] 3)).setCell ⟨g, k * 3 + 2, none⟩ (.int .i64 z)) (R4.later ((Below.refl _ _).alloc (Nat.le_refl _) (.cells #[.int .i64 (0), .int .i64 (30), .int .i64 (31), .int .i64 (20)] 3))) (Below.heap_setCell _ _ _ _ (by show w.heap.size + 1 ≠ g; omega)))
         have OX := own_set2 (base := W.heap.size) (g := g) (cp := cp) O5 hk z
         have BX := hide (below_set (Below.refl w.heap.size (wB.alloc (.cells #[.int .i64 (0), .int .i64 (30), .int .i64 (31), .int .i64 (20)] 3))) g (k * 3 + 2) (by omega) (.int .i64 z))
         have HRX := hide (Rd.below (hr4.later ((Below.refl _ _).alloc (Nat.le_refl _) (.cells #[.int .i64 (0), .int .i64 (30), .int .i64 (31), .int .i64 (20)] 3))) BX.out hrl)
         have TX := hide (touch_then T4.out BX.out)
         have VX : Hid (VisitsIn ((wB.alloc (.cells #[.int .i64 (0), .int .i64 (30), .int .i64 (31), .int .i64 (20)] 3)).setCell ⟨g, k * 3 + 2, none⟩ (.int .i64 z)) (some ⟨g, 0, none⟩) (vs.set k (vs[k].1, vs[k].2.1, z)) ∧ (∀ q, (some ⟨g, 0, none⟩ : Option Addr) = some q → w.heap.size ≤ q.block) ∧ (∀ q, (some ⟨g, 0, none⟩ : Option Addr) = some q → q.block ≠ w.heap.size + 1)) :=
           ⟨(OwnV.visits OX).1, fun q hq => by simp at hq; subst hq; show w.heap.size ≤ g; omega, fun q hq => by simp at hq; subst hq; show g ≠ w.heap.size + 1; omega⟩
         clear F4 R4 O4 O5 T4 hr4 ht4 sc sf hz BX OX F3 R3 O3 T3 HR3 Ba PA PB
         go_upto_region 21 with fail
         generalize (wB.alloc (.cells #[.int .i64 (0), .int .i64 (30), .int .i64 (31), .int .i64 (20)] 3)).setCell ⟨g, k * 3 + 2, none⟩ (.int .i64 z) = X at *
         obtain ⟨fk0, fk1, fk2, fk3, _⟩ := FX.out.cells
         obtain ⟨rk0, rk1, rk2, rk3, rz0, rz1, rz2, rz3⟩ := RX.out.cells
         have B9 := hide (below_set (below_set (below_set (below_set (Below.refl w.heap.size X) (w.heap.size + 1) 0 (by omega) (.string nm)) (w.heap.size + 1) 1 (by omega) (.int .i64 p)) (w.heap.size + 1) 2 (by omega) (.int .i64 l)) (w.heap.size + 1) 3 (by omega) (.slice (some ⟨g, 0, none⟩) vs.length cp))
         have KP : Hid (∀ q, q ≠ w.heap.size + 1 → (((((X).setCell ⟨w.heap.size + 1, 0, none⟩ (.string nm)).setCell ⟨w.heap.size + 1, 1, none⟩ (.int .i64 p)).setCell ⟨w.heap.size + 1, 2, none⟩ (.int .i64 l)).setCell ⟨w.heap.size + 1, 3, none⟩ (.slice (some ⟨g, 0, none⟩) vs.length cp)).heap[q]? = (X).heap[q]?) := fun q hq => by
           rw [Below.heap_setCell _ _ _ _ (by exact hq), Below.heap_setCell _ _ _ _ (by exact hq), Below.heap_setCell _ _ _ _ (by exact hq), Below.heap_setCell _ _ _ _ (by exact hq)]
         have Y9 := (((RX.out.setName nm).setPlan p).setLate l).setVis (.slice (some ⟨g, 0, none⟩) vs.length cp)
         have Zy0 := hide Y9.cells.1
         have Zy1 := hide Y9.cells.2.1
         have Zy2 := hide Y9.cells.2.2.1
         have Zy3 := hide Y9.cells.2.2.2.1
         clear Y9
         go_wp2
         generalize ((((X).setCell ⟨w.heap.size + 1, 0, none⟩ (.string nm)).setCell ⟨w.heap.size + 1, 1, none⟩ (.int .i64 p)).setCell ⟨w.heap.size + 1, 2, none⟩ (.int .i64 l)).setCell ⟨w.heap.size + 1, 3, none⟩ (.slice (some ⟨g, 0, none⟩) vs.length cp) = Y at *
         have y0 := Zy0.out
         have y1 := Zy1.out
         have y2 := Zy2.out
         have y3 := Zy3.out
         exact bodyPost_ret (v := .agg #[.string nm, .int .i64 p, .int .i64 l, .slice (some ⟨g, 0, none⟩) vs.length cp]) (by simp [results, Tryz.results39, go_sem, y0, y1, y2, y3]) rfl ⟨⟨nm, p, l, (vs.set k (vs[k].1, vs[k].2.1, z)), some ⟨g, 0, none⟩, cp, by rw [List.length_set], hnm, hl0, hl1, (HSM.out.set hk _ _).mono (by omega), VX.out.1.keep (fun q hq => KP.out _ (VX.out.2.2 q hq)) B9.out.size, fun q hq => VX.out.2.1 q hq⟩, (HRX.out.below B9.out hrl).mono (by omega), touch_then TX.out B9.out⟩)
  · have c0 := F3.out.cells.2.2.2.1
    have z0 := F3.out.cells.2.2.2.2.2.2.2
    have hkc : k ≤ cp := by
      obtain ⟨a', c', e', q1, _⟩ := owns_slice O3.out
      simp at e'
      omega
    have FX := hide (F3.out.setVis (.slice (some ⟨g, 0, none⟩) k cp))
    have RX := hide (FlAt.keep (w' := w3.setCell ⟨F, 3, none⟩ (.slice (some ⟨g, 0, none⟩) k cp)) R3.out (Below.heap_setCell _ _ _ _ (by show w.heap.size + 1 ≠ F; omega)))
    have OX := owns_keep (w' := w3.setCell ⟨F, 3, none⟩ (.slice (some ⟨g, 0, none⟩) k cp)) O3.out (fun q hq => Below.heap_setCell _ _ _ _ (by simp [Value.ownBlock] at hq; show q ≠ F; omega))
    have BX := hide (below_set (Below.refl w.heap.size w3) F 3 (by omega) (.slice (some ⟨g, 0, none⟩) k cp))
    have HRX := hide (HR3.out.below BX.out hrl)
    have TX := hide (touch_then T3.out BX.out)
    have VX : Hid (VisitsIn (w3.setCell ⟨F, 3, none⟩ (.slice (some ⟨g, 0, none⟩) k cp)) (some ⟨g, 0, none⟩) (vs.take k) ∧ (∀ q, (some ⟨g, 0, none⟩ : Option Addr) = some q → w.heap.size ≤ q.block) ∧ (∀ q, (some ⟨g, 0, none⟩ : Option Addr) = some q → q.block ≠ w.heap.size + 1)) :=
      ⟨vis_take (OwnV.visits OX).1 k, fun q hq => by simp at hq; subst hq; show w.heap.size ≤ g; omega, fun q hq => by simp at hq; subst hq; show g ≠ w.heap.size + 1; omega⟩
    have hlen : (vs.take k).length = k := by rw [List.length_take]; omega
    have HST : Hid (VisSm 6 (vs.take k)) := ⟨by rw [hlen]; omega, fun v hv => HSM.out.2 v (List.mem_of_mem_take hv)⟩
    clear OX BX F3 R3 O3 T3 HR3
    go_upto_region 21 with fail
    generalize w3.setCell ⟨F, 3, none⟩ (.slice (some ⟨g, 0, none⟩) k cp) = X at *
    obtain ⟨fk0, fk1, fk2, fk3, _⟩ := FX.out.cells
    obtain ⟨rk0, rk1, rk2, rk3, rz0, rz1, rz2, rz3⟩ := RX.out.cells
    have B9 := hide (below_set (below_set (below_set (below_set (Below.refl w.heap.size X) (w.heap.size + 1) 0 (by omega) (.string nm)) (w.heap.size + 1) 1 (by omega) (.int .i64 p)) (w.heap.size + 1) 2 (by omega) (.int .i64 l)) (w.heap.size + 1) 3 (by omega) (.slice (some ⟨g, 0, none⟩) k cp))
    have KP : Hid (∀ q, q ≠ w.heap.size + 1 → (((((X).setCell ⟨w.heap.size + 1, 0, none⟩ (.string nm)).setCell ⟨w.heap.size + 1, 1, none⟩ (.int .i64 p)).setCell ⟨w.heap.size + 1, 2, none⟩ (.int .i64 l)).setCell ⟨w.heap.size + 1, 3, none⟩ (.slice (some ⟨g, 0, none⟩) k cp)).heap[q]? = (X).heap[q]?) := fun q hq => by
      rw [Below.heap_setCell _ _ _ _ (by exact hq), Below.heap_setCell _ _ _ _ (by exact hq), Below.heap_setCell _ _ _ _ (by exact hq), Below.heap_setCell _ _ _ _ (by exact hq)]
    have Y9 := (((RX.out.setName nm).setPlan p).setLate l).setVis (.slice (some ⟨g, 0, none⟩) k cp)
    have Zy0 := hide Y9.cells.1
    have Zy1 := hide Y9.cells.2.1
    have Zy2 := hide Y9.cells.2.2.1
    have Zy3 := hide Y9.cells.2.2.2.1
    clear Y9
    go_wp2
    generalize ((((X).setCell ⟨w.heap.size + 1, 0, none⟩ (.string nm)).setCell ⟨w.heap.size + 1, 1, none⟩ (.int .i64 p)).setCell ⟨w.heap.size + 1, 2, none⟩ (.int .i64 l)).setCell ⟨w.heap.size + 1, 3, none⟩ (.slice (some ⟨g, 0, none⟩) k cp) = Y at *
    have y0 := Zy0.out
    have y1 := Zy1.out
    have y2 := Zy2.out
    have y3 := Zy3.out
    exact bodyPost_ret (v := .agg #[.string nm, .int .i64 p, .int .i64 l, .slice (some ⟨g, 0, none⟩) k cp]) (by simp [results, Tryz.results39, go_sem, y0, y1, y2, y3]) rfl ⟨⟨nm, p, l, vs.take k, some ⟨g, 0, none⟩, cp, by rw [hlen], hnm, hl0, hl1, HST.out, VX.out.1.keep (fun q hq => KP.out _ (VX.out.2.2 q hq)) B9.out.size, fun q hq => VX.out.2.1 q hq⟩, (HRX.out.below B9.out hrl).mono (by omega), touch_then TX.out B9.out⟩
  · go_wp2_with fail
    refine (pick_any r _ _ _ HR3.out (by omega) (by omega)).mono ?_
    rintro e w4 ⟨⟨q8, rfl, hq80, hq81⟩, hr4, ht4⟩
    have F4 := hide (F3.out.touch ht4 (by omega))
    have R4 := hide (R3.out.touch ht4 (by omega))
    have O4 := hide (owns_touch O3.out ht4 (by omega))
    have T4 := hide (touch_trans T3.out ht4)
    have HR4 := hide hr4
    have hF4 := F4.out.lt
    clear hr4 ht4 F3 R3 O3 T3 HR3
    obtain ⟨q9, rfl⟩ := Int.eq_ofNat_of_zero_le hq80
    go_wp2_with fail
    go_loopw [8] (fun _ wr => ∃ (m2 g2 cp2 : Nat) (vs2 : List Vis), vs2.length = m2 + 1 ∧ m2 + 1 ≤ 5 + q9 ∧ g2 ≠ F ∧ g2 ≠ w.heap.size + 1 ∧ w.heap.size ≤ g2 ∧ F < wr.heap.size ∧ Hid (FlAt wr F nm p l (.slice (some ⟨g2, 0, none⟩) (m2 + 1) cp2)) ∧ Hid (FlAt wr (w.heap.size + 1) ⟨#[]⟩ 0 0 (.slice none 0 0)) ∧ Hid (OwnV wr w.heap.size (.slice (some ⟨g2, 0, none⟩) (m2 + 1) cp2) vs2) ∧ Hid (VisSm 6 vs2) ∧ Hid (Rd wr r (N + 3)) ∧ Hid (Touch r (r + 1) w wr)) (fun _ wr => match wr.cell? ⟨F, 3, none⟩ with | some (.slice _ n _) => 10 - n | _ => 0)
    case atStart => exact ⟨vs.length - 1, g, cp, vs, by omega, by omega, by omega, by omega, by omega, hF4, by show FlAt _ _ _ _ _ _; rw [show vs.length - 1 + 1 = vs.length by omega]; exact F4.out, R4.out, by show OwnV _ _ _ _; rw [show vs.length - 1 + 1 = vs.length by omega]; exact owns_base O4.out (by omega), HSM.out.mono (by omega), HR4.out, T4.out⟩
    case round =>
      obtain ⟨m2, g2, cp2, vs2, hm2, hm5, hgF, hgR, hgw, hFw, FR, RR, OR, SMR, HRR, TR⟩ := hrel
      clear F4 R4 O4 T4 HR4
      have c3 := FR.out.cells.2.2.2.1
      by_cases hlt : m2 + 1 < 5 + q9
      · have hlt' : ((m2 + 1 : Nat) : Int) < 5 + (q9 : Int) := by omega
        have hlt2 : (m2 : Int) + 1 < 5 + (q9 : Int) := by omega
        obtain ⟨hvi, _⟩ := OwnV.visits OR.out
        obtain ⟨b, off, hbe, hb, v0, v1, v2⟩ := hvi m2 (by omega)
        simp at hbe
        obtain ⟨rfl, rfl⟩ := hbe
        rw [Nat.zero_add] at v0 v1 v2
        have hv8 := SMR.out.2 _ (List.getElem_mem (show m2 < vs2.length by omega))
        generalize vs2[m2]'(by omega) = lv at v0 v1 v2 hv8
        clear hvi
        go_upto_region 8 with fail
        generalize wrap64 (lv.2.1 + lv.2.2) = ta
        obtain ⟨W8, hW, x0, x1, x2, hWb⟩ := alloc3 wr (.string lv.1) (.int .i64 ta) (.int .i64 lv.2.2) 76
        rw [hW]
        have hWs : wr.heap.size + 1 = W8.heap.size := by rw [← hW]; simp
        have FW := hide (FR.out.later hWb)
        have RW := hide (RR.out.later hWb)
        have OW : Hid (World.ownsRow W8 w.heap.size 76 3 (.slice (some ⟨g2, 0, none⟩) (m2 + 1) cp2) (m2 + 1) (visVals vs2)) := by have h9 := owns_later OR.out hWb; rw [hm2] at h9; exact h9
        have HRW := hide (HRR.out.later hWb)
        have hTs := TR.out.size
        have TW := hide (touch_then TR.out (hWb.mono (by omega)))
        have cR := hide c3
        clear hW OR FR RR HRR TR hWb c3
        have c3 := FW.out.cells.2.2.2.1
        generalize wr.heap.size = V at *
        have hneF : ¬ (some g2 = some F) := by simp; omega
        have hneR : ¬ (some g2 = some (w.heap.size + 1)) := by simp; omega
        go_wp2_with (first
          | (at_builtin; refine wpList_append_lies _ rfl _ _ 30 rfl w.heap.size 76 i0 (.agg #[.string ⟨#[]⟩, .int .i64 0, .int .i64 0]) 3 32 Tryz.underlying30 hi iz0 iz1 iz2 rfl (by decide) _ _ _ rfl (World.ownsRow.alloc OW.out _) ⟨W8.heap.size, 0, none⟩ 1 1 [.string lv.1, .int .i64 ta, .int .i64 lv.2.2] rfl rfl (cell_three_new _ _ _ _ _) (fun x hx => by simp at hx; rcases hx with rfl | rfl | rfl <;> rfl) (by decide) (by unfold maxLen; omega) (by omega) (by simp; omega) (W8.heap.size + 1) (by simp) ?_; intro g3 cp3 wE hownE hgrowE hatE hltE; have FE := hide (FW.out.grown hgrowE (fun hh => hneF hh)); have RE := hide (RW.out.grown hgrowE (fun hh => hneR hh)); have c3E := FE.out.cells.2.2.2.1; have z3E := FE.out.cells.2.2.2.2.2.2.2))
        have hg3F : g3 ≠ F := by
          rcases hatE with he | he
          · have he2 : some g2 = some g3 := he
            simp at he2; omega
          · omega
        have hg3R : g3 ≠ w.heap.size + 1 := by
          rcases hatE with he | he
          · have he2 : some g2 = some g3 := he
            simp at he2; omega
          · omega
        have hg3w : w.heap.size ≤ g3 := (hownE.lt g3 rfl).1
        have FX := hide (FE.out.setVis (.slice (some ⟨g3, 0, none⟩) (m2 + 1 + 1) cp3))
        have RX := hide (FlAt.keep (w' := wE.setCell ⟨F, 3, none⟩ (.slice (some ⟨g3, 0, none⟩) (m2 + 1 + 1) cp3)) RE.out (Below.heap_setCell _ _ _ _ (by show w.heap.size + 1 ≠ F; omega)))
        have OX : Hid (OwnV (wE.setCell ⟨F, 3, none⟩ (.slice (some ⟨g3, 0, none⟩) (m2 + 1 + 1) cp3)) w.heap.size (.slice (some ⟨g3, 0, none⟩) (m2 + 1 + 1) cp3) (vs2 ++ [(lv.1, ta, lv.2.2)])) := by
          show World.ownsRow _ _ _ _ _ _ _
          rw [visVals_snoc, List.length_append, hm2]
          exact owns_keep hownE (fun q hq => Below.heap_setCell _ _ _ _ (by simp [Value.ownBlock] at hq; show q ≠ F; omega))
        have BX := hide (below_set (below_grow (a := w) (w := W8) (by omega) hgrowE (fun q hq => (World.ownsRow.lt OW.out q hq).1)) F 3 (by omega) (.slice (some ⟨g3, 0, none⟩) (m2 + 1 + 1) cp3))
        have HRX := hide (HRW.out.below BX.out hrl)
        have TX := hide (touch_then TW.out BX.out)
        have SM2 : Hid (VisSm 6 (vs2 ++ [(lv.1, ta, lv.2.2)])) := by
          obtain ⟨g1, g2⟩ := SMR.out
          refine ⟨by simp; omega, fun c hc => ?_⟩
          rcases List.mem_append.1 hc with hc | hc
          · exact g2 c hc
          · simp at hc; subst hc; exact hv8
        have cX := FX.out.cells.2.2.2.1
        have cW := hide c3
        go_roundw
        case rel => exact ⟨m2 + 1, g3, cp3, vs2 ++ [(lv.1, ta, lv.2.2)], by simp [hm2], by omega, hg3F, hg3R, hg3w, FX.out.lt, FX.out, RX.out, OX.out, SM2.out, HRX.out, TX.out⟩
        case measure =>
          have cR' := cR.out
          rw [cX, cR']
          show 10 - (m2 + 1 + 1) < 10 - (m2 + 1)
          omega
      · have FX := FR
        have RX := RR
        have HRX := HRR
        have TX := TR
        have VX : Hid (VisitsIn wr (some ⟨g2, 0, none⟩) vs2 ∧ (∀ q, (some ⟨g2, 0, none⟩ : Option Addr) = some q → w.heap.size ≤ q.block) ∧ (∀ q, (some ⟨g2, 0, none⟩ : Option Addr) = some q → q.block ≠ w.heap.size + 1)) :=
          ⟨(OwnV.visits OR.out).1, fun q hq => by simp at hq; subst hq; exact hgw, fun q hq => by simp at hq; subst hq; exact hgR⟩
        have hlt' : ¬ ((m2 + 1 : Nat) : Int) < 5 + (q9 : Int) := by omega
        have hlt2 : ¬ (m2 : Int) + 1 < 5 + (q9 : Int) := by omega
        go_upto_region 21 with fail
        obtain ⟨fk0, fk1, fk2, fk3, _⟩ := FX.out.cells
        obtain ⟨rk0, rk1, rk2, rk3, rz0, rz1, rz2, rz3⟩ := RX.out.cells
        have B9 := hide (below_set (below_set (below_set (below_set (Below.refl w.heap.size wr) (w.heap.size + 1) 0 (by omega) (.string nm)) (w.heap.size + 1) 1 (by omega) (.int .i64 p)) (w.heap.size + 1) 2 (by omega) (.int .i64 l)) (w.heap.size + 1) 3 (by omega) (.slice (some ⟨g2, 0, none⟩) (m2 + 1) cp2))
        have KP : Hid (∀ q, q ≠ w.heap.size + 1 → (((((wr).setCell ⟨w.heap.size + 1, 0, none⟩ (.string nm)).setCell ⟨w.heap.size + 1, 1, none⟩ (.int .i64 p)).setCell ⟨w.heap.size + 1, 2, none⟩ (.int .i64 l)).setCell ⟨w.heap.size + 1, 3, none⟩ (.slice (some ⟨g2, 0, none⟩) (m2 + 1) cp2)).heap[q]? = (wr).heap[q]?) := fun q hq => by
          rw [Below.heap_setCell _ _ _ _ (by exact hq), Below.heap_setCell _ _ _ _ (by exact hq), Below.heap_setCell _ _ _ _ (by exact hq), Below.heap_setCell _ _ _ _ (by exact hq)]
        have Y9 := (((RX.out.setName nm).setPlan p).setLate l).setVis (.slice (some ⟨g2, 0, none⟩) (m2 + 1) cp2)
        have Zy0 := hide Y9.cells.1
        have Zy1 := hide Y9.cells.2.1
        have Zy2 := hide Y9.cells.2.2.1
        have Zy3 := hide Y9.cells.2.2.2.1
        clear Y9
        go_wp2
        generalize ((((wr).setCell ⟨w.heap.size + 1, 0, none⟩ (.string nm)).setCell ⟨w.heap.size + 1, 1, none⟩ (.int .i64 p)).setCell ⟨w.heap.size + 1, 2, none⟩ (.int .i64 l)).setCell ⟨w.heap.size + 1, 3, none⟩ (.slice (some ⟨g2, 0, none⟩) (m2 + 1) cp2) = Y at *
        have y0 := Zy0.out
        have y1 := Zy1.out
        have y2 := Zy2.out
        have y3 := Zy3.out
        exact bodyPost_ret (v := .agg #[.string nm, .int .i64 p, .int .i64 l, .slice (some ⟨g2, 0, none⟩) (m2 + 1) cp2]) (by simp [results, Tryz.results39, go_sem, y0, y1, y2, y3]) rfl ⟨⟨nm, p, l, vs2, some ⟨g2, 0, none⟩, ⟨cp2, by rw [hm2]⟩, hnm, hl0, hl1, SMR.out, VX.out.1.keep (fun q hq => KP.out _ (VX.out.2.2 q hq)) B9.out.size, fun q hq => VX.out.2.1 q hq⟩, (HRX.out.below B9.out hrl).mono (by omega), touch_then TX.out B9.out⟩

end Go.Proofs.YtciacofibljmoaaGreatDoor

/- Flights are drawn. -/
namespace Go.Proofs.YtciacofibljmoaaGreatDoor
open Go.RowKit

/-- A flight and where its visits lie. -/
abbrev FlV := Fli × Option Addr × Nat
def flVals (gs : List FlV) : List Value := gs.flatMap fun x => [.string x.1.1, .int .i64 x.1.2.1, .int .i64 x.1.2.2.1, .slice x.2.1 x.1.2.2.2.length x.2.2]
theorem flVals_snoc (gs : List FlV) (x : FlV) : flVals (gs ++ [x]) = flVals gs ++ [.string x.1.1, .int .i64 x.1.2.1, .int .i64 x.1.2.2.1, .slice x.2.1 x.1.2.2.2.length x.2.2] := by simp [flVals]
theorem flVals_at : ∀ (gs : List FlV) (i : Nat) (hi : i < gs.length), (flVals gs)[i * 4]? = some (.string gs[i].1.1) ∧ (flVals gs)[i * 4 + 1]? = some (.int .i64 gs[i].1.2.1) ∧ (flVals gs)[i * 4 + 2]? = some (.int .i64 gs[i].1.2.2.1) ∧ (flVals gs)[i * 4 + 3]? = some (.slice gs[i].2.1 gs[i].1.2.2.2.length gs[i].2.2)
  | [], i, hi => by simp at hi
  | c :: cs, 0, _ => by simp [flVals]
  | c :: cs, i + 1, hi => by
    have ih := flVals_at cs i (by simpa using hi)
    rw [show (i + 1) * 4 = i * 4 + 1 + 1 + 1 + 1 by omega]
    simpa [flVals] using ih
/-- The visits of a flight, apart from the row that bears it. -/
def FlOk (w : World) (base : Nat) (v : Value) (x : FlV) : Prop := VisitsIn w x.2.1 x.1.2.2.2 ∧ ∀ p, x.2.1 = some p → base ≤ p.block ∧ v.ownBlock ≠ some p.block
def OwnF (w : World) (base : Nat) (v : Value) (gs : List FlV) : Prop := w.ownsRow base 32 4 v gs.length (flVals gs) ∧ ∀ x ∈ gs, FlOk w base v x
/-- How great a drawn flight may be. -/
def FlSm (m : Nat) (f : Fli) : Prop := f.1.size ≤ 8 ∧ -1 ≤ f.2.2.1 ∧ f.2.2.1 ≤ 61 ∧ VisSm m f.2.2.2
theorem VisitsIn.touch {w w' : World} {a : Option Addr} {vs : List Vis} {lo hi : Nat} (h : VisitsIn w a vs) (ht : Touch lo hi w w') (ho : ∀ p, a = some p → hi ≤ p.block) : VisitsIn w' a vs := fun i hi' => by
  obtain ⟨b, off, e, hlt, h0, h1, h2⟩ := h i hi'
  have hb := ho _ e
  exact ⟨b, off, e, Nat.lt_of_lt_of_le hlt ht.size, cell_touch ht h0 (.inr hb), cell_touch ht h1 (.inr hb), cell_touch ht h2 (.inr hb)⟩
theorem OwnF.touch {w w' : World} {base lo hi : Nat} {v : Value} {gs : List FlV} (h : OwnF w base v gs) (ht : Touch lo hi w w') (hb : hi ≤ base) : OwnF w' base v gs :=
  ⟨owns_touch h.1 ht hb, fun x hx => ⟨(h.2 x hx).1.touch ht (fun p hp => Nat.le_trans hb ((h.2 x hx).2 p hp).1), (h.2 x hx).2⟩⟩
theorem OwnF.later {w w' : World} {base : Nat} {v : Value} {gs : List FlV} (h : OwnF w base v gs) (hb : Below w.heap.size w w') : OwnF w' base v gs :=
  ⟨owns_later h.1 hb, fun x hx => ⟨(h.2 x hx).1.later hb, (h.2 x hx).2⟩⟩
theorem OwnF.base {w : World} {base base' : Nat} {v : Value} {gs : List FlV} (h : OwnF w base v gs) (hb : base' ≤ base) : OwnF w base' v gs :=
  ⟨owns_base h.1 hb, fun x hx => ⟨(h.2 x hx).1, fun p hp => ⟨Nat.le_trans hb ((h.2 x hx).2 p hp).1, ((h.2 x hx).2 p hp).2⟩⟩⟩
theorem OwnF.form {w : World} {base : Nat} {v : Value} {gs : List FlV} (h : OwnF w base v gs) : ∃ a cap, v = .slice a (gs.map Prod.fst).length cap ∧ gs.length ≤ cap ∧ FlightsIn w a (gs.map Prod.fst) ∧ (∀ p, a = some p → p = ⟨p.block, 0, none⟩ ∧ base ≤ p.block ∧ p.block < w.heap.size) := by
  obtain ⟨a, cap, h1, h2, h3, h4, h5⟩ := owns_slice h.1
  refine ⟨a, cap, by rw [List.length_map]; exact h1, h2, fun i hi => ?_, h4⟩
  have hi' : i < gs.length := by simpa using hi
  obtain ⟨q0, q1, q2, q3⟩ := flVals_at gs i hi'
  obtain ⟨g, e1, e2, e3, e4, _⟩ := h5 _ _ q0
  obtain ⟨g', e1', _, _, e4', _⟩ := h5 _ _ q1
  obtain ⟨g'', e1'', _, _, e4'', _⟩ := h5 _ _ q2
  obtain ⟨g3, e13, _, _, e43, _⟩ := h5 _ _ q3
  rw [e1] at e1' e1'' e13
  simp at e1' e1'' e13
  subst e1'
  subst e1''
  subst e13
  have hm := (h.2 _ (List.getElem_mem hi')).1
  refine ⟨g, 0, e1, e3, ?_⟩
  rw [List.getElem_map]
  exact ⟨by rw [Nat.zero_add]; exact e4, by rw [Nat.zero_add]; exact e4', by rw [Nat.zero_add]; exact e4'', _, _, by rw [Nat.zero_add]; exact e43, hm⟩
theorem VisitsIn.grown {w w' : World} {o : Obj} {row : Option Nat} {a : Option Addr} {vs : List Vis} (h : VisitsIn w a vs) (hg : (w.alloc o).grownBy w' row) (hne : ∀ p, a = some p → row ≠ some p.block) : VisitsIn w' a vs := fun i hi => by
  obtain ⟨b, off, e, hlt, h0, h1, h2⟩ := (h.later ((Below.refl _ _).alloc (Nat.le_refl _) o)) i hi
  have hb := hne _ e
  exact ⟨b, off, e, Nat.lt_of_lt_of_le hlt hg.size, World.grownBy.cell hg h0 (fun hh => hb hh.symm), World.grownBy.cell hg h1 (fun hh => hb hh.symm), World.grownBy.cell hg h2 (fun hh => hb hh.symm)⟩
theorem vis_lt {w : World} {a : Option Addr} {vs : List Vis} (h : VisitsIn w a vs) (h1 : 1 ≤ vs.length) {p : Addr} (hp : a = some p) : p.block < w.heap.size := by
  obtain ⟨b, off, e, hlt, _⟩ := h 0 (by omega)
  rw [hp] at e
  simp at e
  rw [e]
  exact hlt
theorem cell_four_new (w : World) (a b c d : Value) (t : TypeId) : ∀ j u, [a, b, c, d][j]? = some u → (w.alloc (.cells #[a, b, c, d] t)).cell? ((⟨w.heap.size, 0, none⟩ : Addr).add j) = some u := by
  intro j u hj
  rw [plain_add]
  match j, hj with
  | 0, hj => simp at hj; subst hj; simp
  | 1, hj => simp at hj; subst hj; simp
  | 2, hj => simp at hj; subst hj; simp
  | 3, hj => simp at hj; subst hj; simp
theorem own_emptyF (w : World) : World.ownsRow (w.alloc (.cells #[] 32)) w.heap.size 32 4 (.slice (some ⟨w.heap.size, 0, none⟩) 0 0) 0 [] := World.ownsRow_made w #[] 0 (Nat.le_refl _) (Nat.zero_le _) (by simp)

set_option maxHeartbeats 800000 in
theorem l6Names_at (r B : Nat) (w : World) (hB : w.heap.size = B) (hr : r < w.heap.size) :
    Calls Tryz.prog 21 #[] w fun e w' => e = .returned (.slice (some ⟨B, 0, none⟩) 8 8) ∧ StrsIn r w' (some ⟨B, 0, none⟩) nams ∧ Below w.heap.size w w' := by
  subst hB
  have HR := hide hr
  clear hr
  go_enter Tryz.func21, Tryz.ntmps21
  go_wp2
  go_ret
  exact ⟨rfl, strs_alloc HR.out _ _ nams rfl, (Below.refl w.heap.size w).alloc (Nat.le_refl _) _⟩

end Go.Proofs.YtciacofibljmoaaGreatDoor

/- Any flights are drawn. -/
namespace Go.Proofs.YtciacofibljmoaaGreatDoor
open Go.RowKit

theorem flVals_set : ∀ (gs : List FlV) (k : Nat) (_ : k < gs.length) (x : FlV), ((((flVals gs).set (k * 4) (.string x.1.1)).set (k * 4 + 1) (.int .i64 x.1.2.1)).set (k * 4 + 2) (.int .i64 x.1.2.2.1)).set (k * 4 + 3) (.slice x.2.1 x.1.2.2.2.length x.2.2) = flVals (gs.set k x)
  | [], k, hk, _ => by simp at hk
  | c :: cs, 0, _, z => by simp [flVals]
  | c :: cs, k + 1, hk, z => by
    have ih := flVals_set cs k (by simpa using hk) z
    rw [show (k + 1) * 4 = k * 4 + 1 + 1 + 1 + 1 by omega, show k * 4 + 1 + 1 + 1 + 1 + 1 = k * 4 + 1 + 1 + 1 + 1 + 1 by omega, show k * 4 + 1 + 1 + 1 + 1 + 2 = k * 4 + 2 + 1 + 1 + 1 + 1 by omega, show k * 4 + 1 + 1 + 1 + 1 + 3 = k * 4 + 3 + 1 + 1 + 1 + 1 by omega]
    simpa [flVals] using ih
theorem owns_set4 {w : World} {base g cp : Nat} {gs : List FlV} (h : World.ownsRow w base 32 4 (.slice (some ⟨g, 0, none⟩) gs.length cp) gs.length (flVals gs)) {k : Nat} (hk : k < gs.length) (x : FlV) :
    World.ownsRow ((((w.setCell ⟨g, k * 4, none⟩ (.string x.1.1)).setCell ⟨g, k * 4 + 1, none⟩ (.int .i64 x.1.2.1)).setCell ⟨g, k * 4 + 2, none⟩ (.int .i64 x.1.2.2.1)).setCell ⟨g, k * 4 + 3, none⟩ (.slice x.2.1 x.1.2.2.2.length x.2.2)) base 32 4 (.slice (some ⟨g, 0, none⟩) gs.length cp) gs.length (flVals (gs.set k x)) := by
  have h1 := (World.ownsRow.stored h (k * 4) (.string x.1.1)).1
  have h2 := (World.ownsRow.stored h1 (k * 4 + 1) (.int .i64 x.1.2.1)).1
  have h3 := (World.ownsRow.stored h2 (k * 4 + 2) (.int .i64 x.1.2.2.1)).1
  have h4 := (World.ownsRow.stored h3 (k * 4 + 3) (.slice x.2.1 x.1.2.2.2.length x.2.2)).1
  rw [flVals_set gs k hk x] at h4
  exact h4
theorem own_cells4 {w : World} {base g n c : Nat} {gs : List FlV} (h : World.ownsRow w base 32 4 (.slice (some ⟨g, 0, none⟩) n c) n (flVals gs)) {k : Nat} (hk : k < gs.length) :
    (w.cell? ⟨g, k * 4, none⟩ = some (.string gs[k].1.1) ∧ w.frozen? ⟨g, k * 4, none⟩ = false) ∧ (w.cell? ⟨g, k * 4 + 1, none⟩ = some (.int .i64 gs[k].1.2.1) ∧ w.frozen? ⟨g, k * 4 + 1, none⟩ = false) ∧ (w.cell? ⟨g, k * 4 + 2, none⟩ = some (.int .i64 gs[k].1.2.2.1) ∧ w.frozen? ⟨g, k * 4 + 2, none⟩ = false) ∧ (w.cell? ⟨g, k * 4 + 3, none⟩ = some (.slice gs[k].2.1 gs[k].1.2.2.2.length gs[k].2.2) ∧ w.frozen? ⟨g, k * 4 + 3, none⟩ = false) := by
  obtain ⟨a', c', e, _, _, _, hc⟩ := owns_slice h
  simp at e
  obtain ⟨rfl, _⟩ := e
  obtain ⟨q0, q1, q2, q3⟩ := flVals_at gs k hk
  obtain ⟨g0, e0, _, _, r0, s0⟩ := hc _ _ q0
  obtain ⟨g1, e1, _, _, r1, s1⟩ := hc _ _ q1
  obtain ⟨g2, e2, _, _, r2, s2⟩ := hc _ _ q2
  obtain ⟨g3, e3, _, _, r3, s3⟩ := hc _ _ q3
  simp at e0 e1 e2 e3
  subst e0
  subst e1
  subst e2
  subst e3
  exact ⟨⟨r0, s0⟩, ⟨r1, s1⟩, ⟨r2, s2⟩, r3, s3⟩
theorem FlSm.mono {m n : Nat} {f : Fli} (h : FlSm m f) (hn : m ≤ n) : FlSm n f := ⟨h.1, h.2.1, h.2.2.1, h.2.2.2.mono hn⟩

end Go.Proofs.YtciacofibljmoaaGreatDoor

/- Caps are spoilt; any caps are drawn. -/
namespace Go.Proofs.YtciacofibljmoaaGreatDoor
open Go.RowKit

theorem capVals_len (cs : List (ByteArray × Int)) : (capVals cs).length = cs.length * 2 := by
  induction cs with
  | nil => rfl
  | cons r l ih => simp only [capVals, List.flatMap_cons, List.length_append, List.length_cons, List.length_nil] at *; omega
theorem caps_news {w : World} {a : Option Addr} {cs : List (ByteArray × Int)} (h : CapsIn w a cs) (h1 : 1 ≤ cs.length) : ∃ b off, a = some ⟨b, off, none⟩ ∧ ∀ j u, (capVals cs)[j]? = some u → w.cell? ((⟨b, off, none⟩ : Addr).add j) = some u := by
  obtain ⟨b, off, e, hb, _⟩ := h 0 (by omega)
  refine ⟨b, off, e, fun j u hj => ?_⟩
  have hlt : j < (capVals cs).length := by
    rcases Nat.lt_or_ge j (capVals cs).length with hh | hh
    · exact hh
    · rw [List.getElem?_eq_none hh] at hj; simp at hj
  rw [capVals_len] at hlt
  have hi : j / 2 < cs.length := by omega
  obtain ⟨b', off', e', _, c0, c1⟩ := h (j / 2) hi
  rw [e] at e'
  simp at e'
  obtain ⟨rfl, rfl⟩ := e'
  obtain ⟨q0, q1⟩ := capVals_at cs (j / 2) hi
  have ha : (⟨b, off, none⟩ : Addr).add j = ⟨b, off + j, none⟩ := by
    by_cases hz : j = 0
    · subst hz; rfl
    · simp [Addr.add, hz]
  rw [ha]
  have hm : j % 2 = 0 ∨ j % 2 = 1 := by omega
  rcases hm with hm | hm
  · rw [show j / 2 * 2 = j by omega] at q0 c0
    rw [hj] at q0
    rw [c0, ← q0]
  · rw [show j / 2 * 2 + 1 = j by omega] at q1
    rw [show off + j / 2 * 2 + 1 = off + j by omega] at c1
    rw [hj] at q1
    rw [c1, ← q1]
theorem capVals_one (cs : List (ByteArray × Int)) : ∀ u ∈ capVals cs, u.oneCell' = true := fun u hu => by
  unfold capVals at hu
  obtain ⟨v, _, hv⟩ := List.mem_flatMap.1 hu
  simp at hv
  rcases hv with rfl | rfl <;> rfl
theorem capVals_set0 : ∀ (cs : List (ByteArray × Int)) (k : Nat) (hk : k < cs.length) (s : ByteArray), (capVals cs).set (k * 2) (.string s) = capVals (cs.set k (s, cs[k].2))
  | [], k, hk, _ => by simp at hk
  | c :: cs, 0, _, z => by simp [capVals]
  | c :: cs, k + 1, hk, z => by
    have ih := capVals_set0 cs k (by simpa using hk) z
    rw [show (k + 1) * 2 = k * 2 + 1 + 1 by omega]
    simpa [capVals] using ih
theorem capVals_set1 : ∀ (cs : List (ByteArray × Int)) (k : Nat) (hk : k < cs.length) (z : Int), (capVals cs).set (k * 2 + 1) (.int .i64 z) = capVals (cs.set k (cs[k].1, z))
  | [], k, hk, _ => by simp at hk
  | c :: cs, 0, _, z => by simp [capVals]
  | c :: cs, k + 1, hk, z => by
    have ih := capVals_set1 cs k (by simpa using hk) z
    rw [show (k + 1) * 2 + 1 = k * 2 + 1 + 1 + 1 by omega]
    simpa [capVals] using ih
theorem own_setC0 {w : World} {base g cp : Nat} {cs : List (ByteArray × Int)} (h : OwnC w base (.slice (some ⟨g, 0, none⟩) cs.length cp) cs) {k : Nat} (hk : k < cs.length) (s : ByteArray) :
    OwnC (w.setCell ⟨g, k * 2, none⟩ (.string s)) base (.slice (some ⟨g, 0, none⟩) cs.length cp) (cs.set k (s, cs[k].2)) := by
  have hs := (World.ownsRow.stored h (k * 2) (.string s)).1
  rw [capVals_set0 cs k hk s] at hs
  unfold OwnC
  rw [List.length_set]
  exact hs
theorem own_setC1 {w : World} {base g cp : Nat} {cs : List (ByteArray × Int)} (h : OwnC w base (.slice (some ⟨g, 0, none⟩) cs.length cp) cs) {k : Nat} (hk : k < cs.length) (z : Int) :
    OwnC (w.setCell ⟨g, k * 2 + 1, none⟩ (.int .i64 z)) base (.slice (some ⟨g, 0, none⟩) cs.length cp) (cs.set k (cs[k].1, z)) := by
  have hs := (World.ownsRow.stored h (k * 2 + 1) (.int .i64 z)).1
  rw [capVals_set1 cs k hk z] at hs
  unfold OwnC
  rw [List.length_set]
  exact hs
theorem own_cellsC {w : World} {base g n c : Nat} {cs : List (ByteArray × Int)} (h : OwnC w base (.slice (some ⟨g, 0, none⟩) n c) cs) {k : Nat} (hk : k < cs.length) :
    (w.cell? ⟨g, k * 2, none⟩ = some (.string cs[k].1) ∧ w.frozen? ⟨g, k * 2, none⟩ = false) ∧ (w.cell? ⟨g, k * 2 + 1, none⟩ = some (.int .i64 cs[k].2) ∧ w.frozen? ⟨g, k * 2 + 1, none⟩ = false) := by
  obtain ⟨a', c', e, _, _, _, hc⟩ := owns_slice h
  simp at e
  obtain ⟨rfl, _⟩ := e
  obtain ⟨q0, q1⟩ := capVals_at cs k hk
  obtain ⟨g0, e0, _, _, r0, s0⟩ := hc _ _ q0
  obtain ⟨g1, e1, _, _, r1, s1⟩ := hc _ _ q1
  simp at e0 e1
  subst e0
  subst e1
  exact ⟨⟨r0, s0⟩, r1, s1⟩
theorem CapsSm.set {m : Nat} {cs : List (ByteArray × Int)} (h : CapsSm m cs) (k : Nat) (c : ByteArray × Int) (hc : c.1.size ≤ 8) : CapsSm m (cs.set k c) := by
  obtain ⟨h1, h2⟩ := h
  refine ⟨by simpa using h1, fun v hv => ?_⟩
  rcases List.mem_or_eq_of_mem_set hv with hv | rfl
  · exact h2 v hv
  · exact hc
theorem CapsSm.snoc {m : Nat} {cs : List (ByteArray × Int)} (h : CapsSm m cs) (c : ByteArray × Int) (hc : c.1.size ≤ 8) : CapsSm (m + 1) (cs ++ [c]) := by
  obtain ⟨h1, h2⟩ := h
  refine ⟨by simp; omega, fun v hv => ?_⟩
  rcases List.mem_append.1 hv with hv | hv
  · exact h2 v hv
  · simp at hv; subst hv; exact hc
theorem CapsSm.mono {m n : Nat} {cs : List (ByteArray × Int)} (h : CapsSm m cs) (hn : m ≤ n) : CapsSm n cs := ⟨Nat.le_trans h.1 hn, h.2⟩
def spoilCaps : List ByteArray := [⟨#[]⟩, ⟨#[69]⟩, ⟨#[122, 122]⟩, ⟨#[101]⟩]
theorem spoilCaps_size : ∀ s ∈ spoilCaps, s.size ≤ 8 := by decide

set_option maxRecDepth 100000 in
set_option maxHeartbeats 12800000 in
theorem l6SpoilCaps_any (r N : Nat) (cs : List (ByteArray × Int)) (ac : Option Addr) (cc : Nat) (w : World) (h : Rd w r N) (hN : N ≤ 900000) (hv : CapsIn w ac cs) (hsm : CapsSm 3 cs) :
    Calls Tryz.prog 76 #[.pointer (some ⟨r, 0, none⟩), .slice ac cs.length cc] w fun e w' => (∃ v cs', e = .returned v ∧ OwnC w' w.heap.size v cs' ∧ CapsSm 7 cs') ∧ Rd w' r (N + 3) ∧ Touch r (r + 1) w w' := by
  obtain ⟨i0, hi, iz0, iz1, iz2⟩ := info_parts info_cap
  have hrl := h.lt
  have HR := hide h
  have HV := hide hv
  have HSM := hide hsm
  have hn3 := hsm.1
  clear h hv hsm
  have Bz := hide ((Below.refl w.heap.size w).alloc (Nat.le_refl _) (.cells #[] 61))
  by_cases hn : cs.length < 1
  · have hcs : cs = [] := by cases cs with | nil => rfl | cons => simp at hn
    subst hcs
    clear hn
    have fin : ∀ (X : World) (B : Nat), X.heap.size = B → Below w.heap.size w X → OwnC (X.alloc (.cells #[.string ⟨#[69]⟩, .int .i64 1] 61)) w.heap.size (.slice (some ⟨B, 0, none⟩) 1 1) [(⟨#[69]⟩, 1)] ∧ Rd (X.alloc (.cells #[.string ⟨#[69]⟩, .int .i64 1] 61)) r (N + 3) ∧ Touch r (r + 1) w (X.alloc (.cells #[.string ⟨#[69]⟩, .int .i64 1] 61)) := fun X B hB hX => by
      subst hB
      have hs := hX.size
      have hx2 := hX.alloc hs (.cells #[.string ⟨#[69]⟩, .int .i64 1] 61)
      refine ⟨?_, (HR.out.later hx2).mono (by omega), touch_below hx2⟩
      refine ⟨rfl, .inr ⟨X.heap.size, 1, #[.string ⟨#[69]⟩, .int .i64 1], rfl, hs, Deep.blk_alloc_new _ _, Nat.le_refl _, by unfold maxLen; omega, rfl, rfl⟩⟩
    have HFIN := hide fin
    clear fin
    have sm1 : CapsSm 7 [(⟨#[69]⟩, 1)] := ⟨by simp, by simp; decide⟩
    cases ac with
    | none =>
      go_enter Tryz.func76, Tryz.ntmps76
      go_wp2
      go_ret
      have q9 := HFIN.out (w.alloc (.cells #[] 61)) (w.heap.size + 1) (by simp) Bz.out
      exact ⟨⟨_, _, rfl, q9.1, sm1⟩, q9.2.1, q9.2.2⟩
    | some ad =>
      go_enter Tryz.func76, Tryz.ntmps76
      go_wp2
      go_ret
      have q9 := HFIN.out (w.alloc (.cells #[] 61)) (w.heap.size + 1) (by simp) Bz.out
      exact ⟨⟨_, _, rfl, q9.1, sm1⟩, q9.2.1, q9.2.2⟩
  · obtain ⟨b, off, rfl, hnews⟩ := caps_news (HV.out.later Bz.out) (by omega)
    have HN := hide hnews
    clear hnews
    go_enter Tryz.func76, Tryz.ntmps76
    go_upto_region 2 with (first
      | (at_builtin; refine wpList_append_lies _ rfl _ _ 23 rfl w.heap.size 61 i0 (.agg #[.string ⟨#[]⟩, .int .i64 0]) 2 24 Tryz.underlying23 hi iz0 iz1 iz2 rfl (by decide) _ 0 [] rfl (own_emptyC w) ⟨b, off, none⟩ cs.length cc (capVals cs) rfl (capVals_len cs) (fun j u hj => HN.out j u hj) (capVals_one cs) (by omega) (by unfold maxLen; omega) (by omega) (by simp) (w.heap.size + 1) (by simp) ?_; intro g cp X hownE hgrowE hatE hltE))
    have hgb : w.heap.size ≤ g := (hownE.lt g rfl).1
    have OX : Hid (OwnC X w.heap.size (.slice (some ⟨g, 0, none⟩) cs.length cp) cs) := by
      show World.ownsRow _ _ _ _ _ _ _
      simpa using hownE
    have BX := hide (below_grow (a := w) (w := w) (Nat.le_refl _) hgrowE (fun q hq => by have he2 : some w.heap.size = some q := hq; simp at he2; omega))
    clear hownE hgrowE hatE hltE HN
    have hn0 : ((cs.length : Int) == 0) = false := beq_eq_false_iff_ne.2 (by omega)
    have hz0 : ((((0 + cs.length : Nat) : Int)) == 0) = false := beq_eq_false_iff_ne.2 (by omega)
    go_wp2_with fail
    refine (pick_any r N _ X (HR.out.later BX.out) (by omega) (by omega)).mono ?_
    rintro e w2 ⟨⟨k', rfl, hk0, hk1⟩, hr2, ht2⟩
    obtain ⟨k, rfl⟩ := Int.eq_ofNat_of_zero_le hk0
    have hk : k < cs.length := by omega
    go_wp2_with fail
    refine (pick_any r _ _ w2 hr2 (by omega) (by omega)).mono ?_
    rintro e w3 ⟨⟨q, rfl, hq0, hq1⟩, hr3, ht3⟩
    have T3 := hide (touch_trans (touch_trans (touch_below BX.out) ht2) ht3)
    have O3 : Hid (OwnC w3 w.heap.size (.slice (some ⟨g, 0, none⟩) cs.length cp) cs) := owns_touch (owns_touch OX.out ht2 (by omega)) ht3 (by omega)
    have HR3 := hide hr3
    have hT3 := T3.out.size
    have hg3 : g < w3.heap.size := (World.ownsRow.lt O3.out g rfl).2
    clear hr2 ht2 hr3 ht3 OX BX HR HV Bz
    have hq : q = 0 ∨ q = 1 ∨ q = 2 ∨ q = 3 := by omega
    rcases hq with rfl | rfl | rfl | rfl
    · go_wp2_with fail
      have Ba := hide ((Below.refl w3.heap.size w3).alloc (Nat.le_refl _) (.cells (spoilCaps.map Value.string).toArray 9))
      refine (of_any r _ _ 4 spoilCaps _ (HR3.out.later Ba.out) (by omega) (strs_alloc (r := r) (by omega) 9 _ spoilCaps rfl) (by decide)).mono ?_
      rintro e w4 ⟨⟨s, hs, rfl⟩, hr4, ht4⟩
      have hss := spoilCaps_size s hs
      have O4 : Hid (OwnC w4 w.heap.size (.slice (some ⟨g, 0, none⟩) cs.length cp) cs) := owns_touch (owns_later O3.out Ba.out) ht4 (by omega)
      have T4 := hide (touch_trans (touch_then T3.out (Ba.out.mono (by omega))) ht4)
      have HR4 := hide hr4
      obtain ⟨⟨c0, z0⟩, _⟩ := own_cellsC O4.out hk
      have OX := hide (own_setC0 O4.out hk s)
      have BX := hide (below_set (Below.refl w.heap.size w4) g (k * 2) hgb (.string s))
      clear hr4 ht4 O3 T3 HR3 hs
      go_wp2
      go_ret
      exact ⟨⟨_, _, rfl, OX.out, (HSM.out.set k _ hss).mono (by omega)⟩, HR4.out.below BX.out hrl, touch_then T4.out BX.out⟩
    · go_wp2_with fail
      have Ba := hide ((Below.refl w3.heap.size w3).alloc (Nat.le_refl _) (.cells #[.int .i64 (-1), .int .i64 0, .int .i64 20, .int .i64 21] 3))
      refine (pick_any r _ _ _ (HR3.out.later Ba.out) (by omega) (by omega)).mono ?_
      rintro e w4 ⟨⟨j', rfl, hj0, hj1⟩, hr4, ht4⟩
      obtain ⟨j, rfl⟩ := Int.eq_ofNat_of_zero_le hj0
      obtain ⟨z, hz1⟩ := ints_ex w3 3 [-1, 0, 20, 21] #[.int .i64 (-1), .int .i64 0, .int .i64 20, .int .i64 21] rfl j (by show j < 4; omega)
      have hz := cell_touch ht4 hz1 (.inr (by show r + 1 ≤ w3.heap.size; omega))
      clear hz1
      have O4 : Hid (OwnC w4 w.heap.size (.slice (some ⟨g, 0, none⟩) cs.length cp) cs) := owns_touch (owns_later O3.out Ba.out) ht4 (by omega)
      have T4 := hide (touch_trans (touch_then T3.out (Ba.out.mono (by omega))) ht4)
      have HR4 := hide hr4
      obtain ⟨_, c0, z0⟩ := own_cellsC O4.out hk
      have OX := hide (own_setC1 O4.out hk z)
      have BX := hide (below_set (Below.refl w.heap.size w4) g (k * 2 + 1) hgb (.int .i64 z))
      clear hr4 ht4 O3 T3 HR3
      go_wp2
      go_ret
      exact ⟨⟨_, _, rfl, OX.out, CapsSm.mono (m := 3) (n := 7) (HSM.out.set k (cs[k].1, z) (HSM.out.2 cs[k] (List.getElem_mem hk))) (by omega)⟩, HR4.out.below BX.out hrl, touch_then T4.out BX.out⟩
    · obtain ⟨⟨c0, z0⟩, c1, z1⟩ := own_cellsC O3.out hk
      have hcm := HSM.out.2 _ (List.getElem_mem hk)
      generalize cs[k] = c at c0 c1 hcm
      go_wp2_with (first
        | (at_builtin; refine wpList_append_lies _ rfl _ _ 23 rfl w.heap.size 61 i0 (.agg #[.string ⟨#[]⟩, .int .i64 0]) 2 24 Tryz.underlying23 hi iz0 iz1 iz2 rfl (by decide) _ _ _ rfl (World.ownsRow.alloc O3.out _) ⟨w3.heap.size, 0, none⟩ 1 1 [.string c.1, .int .i64 c.2] rfl rfl (cell_two_new _ _ _ _) (fun x hx => by simp at hx; rcases hx with rfl | rfl <;> rfl) (by decide) (by unfold maxLen; omega) (by omega) (by simp; omega) (w3.heap.size + 1) (by simp) ?_; intro g2 cp2 wE hownE hgrowE hatE hltE))
      go_ret
      have BE := below_grow (a := w) (w := w3) hT3 hgrowE (fun q hq => (World.ownsRow.lt O3.out q hq).1)
      exact ⟨⟨_, cs ++ [c], rfl, by show World.ownsRow _ _ _ _ _ _ _; rw [capVals_snoc, List.length_append]; exact hownE, (HSM.out.snoc c hcm).mono (by omega)⟩, (HR3.out.below BE hrl).mono (by omega), touch_then T3.out BE⟩
    · go_wp2_with fail
      refine (pick_any r _ _ _ HR3.out (by omega) (by omega)).mono ?_
      rintro e w4 ⟨⟨q8, rfl, hq80, hq81⟩, hr4, ht4⟩
      obtain ⟨q9, rfl⟩ := Int.eq_ofNat_of_zero_le hq80
      have O4 : Hid (OwnC w4 w.heap.size (.slice (some ⟨g, 0, none⟩) cs.length cp) cs) := owns_touch O3.out ht4 (by omega)
      have T4 := hide (touch_trans T3.out ht4)
      have HR4 := hide hr4
      clear hr4 ht4 O3 T3 HR3
      go_wp2_with fail
      go_loopw [5] (fun v wr => ∃ (g2 cp2 m2 : Nat) (cs2 : List (ByteArray × Int)), v = .slice (some ⟨g2, 0, none⟩) m2 cp2 ∧ cs2.length = m2 ∧ m2 ≤ 6 + q9 ∧ Hid (OwnC wr w.heap.size v cs2) ∧ Hid (CapsSm 7 cs2) ∧ Hid (Rd wr r (N + 3)) ∧ Hid (Touch r (r + 1) w wr)) (fun v _ => match v with | .slice _ n _ => 10 - n | _ => 0)
      case atStart => exact ⟨g, cp, cs.length, cs, rfl, rfl, by omega, O4.out, HSM.out.mono (by omega), HR4.out, T4.out⟩
      case round =>
        obtain ⟨g2, cp2, m2, cs2, rfl, hm2, hm7, OR, SMR, HRR, TR⟩ := hrel
        clear O4 T4 HR4
        by_cases hlt : m2 < 6 + q9
        · have hlt' : (m2 : Int) < 6 + (q9 : Int) := by omega
          go_wp2_with fail
          refine (l6Dec_any m2 wr (by omega)).mono ?_
          rintro e w5 ⟨⟨s, rfl, hs1⟩, hb5⟩
          have O5 : Hid (World.ownsRow w5 w.heap.size 61 2 (.slice (some ⟨g2, 0, none⟩) m2 cp2) m2 (capVals cs2)) := by have h9 := owns_later OR.out hb5; rw [hm2] at h9; exact h9
          have T5 := hide (touch_then TR.out (hb5.mono TR.out.size))
          have HR5 := hide (HRR.out.later hb5)
          have hs5 := T5.out.size
          clear hb5 OR TR HRR
          go_wp2_with (first
            | (at_builtin; refine wpList_append_lies _ rfl _ _ 23 rfl w.heap.size 61 i0 (.agg #[.string ⟨#[]⟩, .int .i64 0]) 2 24 Tryz.underlying23 hi iz0 iz1 iz2 rfl (by decide) _ _ _ rfl (World.ownsRow.alloc O5.out _) ⟨w5.heap.size, 0, none⟩ 1 1 [.string (⟨#[122]⟩ ++ s), .int .i64 1] rfl rfl (cell_two_new _ _ _ _) (fun x hx => by simp at hx; rcases hx with rfl | rfl <;> rfl) (by decide) (by unfold maxLen; omega) (by omega) (by simp; omega) (w5.heap.size + 1) (by simp) ?_; intro g3 cp3 wE hownE hgrowE hatE hltE))
          have BE := hide (below_grow (a := w) (w := w5) hs5 hgrowE (fun q hq => (World.ownsRow.lt O5.out q hq).1))
          have SM2 : Hid (CapsSm 7 (cs2 ++ [((⟨#[122]⟩ : ByteArray) ++ s, 1)])) := by
            obtain ⟨g1, g2⟩ := SMR.out
            refine ⟨by simp; omega, fun c hc => ?_⟩
            rcases List.mem_append.1 hc with hc | hc
            · exact g2 c hc
            · simp at hc; subst hc; show ((⟨#[122]⟩ : ByteArray) ++ s).size ≤ 8; rw [ByteArray.size_append, hs1]; show 1 + 1 ≤ 8; omega
          go_roundw
          case rel => exact ⟨g3, cp3, m2 + 1, cs2 ++ [((⟨#[122]⟩ : ByteArray) ++ s, 1)], rfl, by simp [hm2], by omega, by show World.ownsRow _ _ _ _ _ _ _; rw [capVals_snoc, List.length_append, hm2]; exact hownE, SM2.out, HR5.out.below BE.out hrl, touch_then T5.out BE.out⟩
          case measure => show 10 - (m2 + 1) < 10 - m2; omega
        · have hlt' : ¬ (m2 : Int) < 6 + (q9 : Int) := by omega
          go_wp2
          go_ret
          exact ⟨⟨_, rfl, cs2, OR.out, SMR.out⟩, HRR.out, TR.out⟩

end Go.Proofs.YtciacofibljmoaaGreatDoor
