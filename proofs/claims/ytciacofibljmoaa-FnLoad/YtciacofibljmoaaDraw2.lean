/- The small draws: a text of a list, a sector, the names, numbers without a sign. -/
import Derived.Test.YtciacofibljmoaaDraw1
namespace Go.Proofs.Ytciacofibljmoaa
open Go.RowKit

/-- Texts that lie above a block. -/
def StrsIn (r : Nat) (w : World) (a : Option Addr) (ss : List ByteArray) : Prop :=
  ∀ i (hi : i < ss.length), ∃ b off, a = some ⟨b, off, none⟩ ∧ r < b ∧ w.cell? ⟨b, off + i, none⟩ = some (.string ss[i])
theorem StrsIn.touch {r lo hi : Nat} {w w' : World} {a : Option Addr} {ss : List ByteArray} (h : StrsIn r w a ss) (ht : Touch lo hi w w') (hh : hi ≤ r + 1) : StrsIn r w' a ss := fun i hi' => by
  obtain ⟨b, off, e, hb, hc⟩ := h i hi'
  exact ⟨b, off, e, hb, cell_touch ht hc (.inr (by show hi ≤ b; omega))⟩
theorem StrsIn.later {r : Nat} {w w' : World} {a : Option Addr} {ss : List ByteArray} (h : StrsIn r w a ss) (hb : Below w.heap.size w w') : StrsIn r w' a ss := fun i hi' => by
  obtain ⟨b, off, e, hb', hc⟩ := h i hi'
  exact ⟨b, off, e, hb', cell_later hb hc⟩
theorem strs_alloc {r : Nat} {w : World} (hr : r < w.heap.size) (t : TypeId) (c : Array Value) (ss : List ByteArray) (hc : c = (ss.map Value.string).toArray) : StrsIn r (w.alloc (.cells c t)) (some ⟨w.heap.size, 0, none⟩) ss := fun i hi => by
  subst hc
  refine ⟨_, _, rfl, hr, ?_⟩
  simp [hi]

set_option maxHeartbeats 800000 in
theorem of_any (r N : Nat) (a : Option Addr) (cap : Nat) (ss : List ByteArray) (w : World) (h : Rd w r N) (hN : N ≤ 1000000) (hs : StrsIn r w a ss) (h1 : 1 ≤ ss.length) :
    Calls Try.prog 70 #[.pointer (some ⟨r, 0, none⟩), .slice a ss.length cap] w fun e w' => (∃ s, s ∈ ss ∧ e = .returned (.string s)) ∧ Rd w' r (N + 1) ∧ Touch r (r + 1) w w' := by
  have HR := hide h
  have HS := hide hs
  clear h hs
  go_enter Try.func70, Try.ntmps70
  go_wp2_with fail
  refine (pick_any r N _ _ HR.out hN (by omega)).mono ?_
  rintro e w1 ⟨⟨q, rfl, hq0, hq1⟩, hr1, ht1⟩
  obtain ⟨k, rfl⟩ := Int.eq_ofNat_of_zero_le hq0
  have R1 := hide hr1
  have T1 := hide ht1
  clear hr1 ht1
  obtain ⟨b, off, rfl, hb, hc⟩ := HS.out.touch T1.out (Nat.le_refl _) k (by omega)
  go_wp2
  go_ret
  exact ⟨⟨_, List.getElem_mem _, rfl⟩, R1.out, T1.out⟩

/-- The sectors that are drawn. -/
def secs : List ByteArray := [⟨#[101]⟩, ⟨#[101]⟩, ⟨#[110, 45, 49]⟩, ⟨#[119]⟩, ⟨#[119]⟩, ⟨#[122, 122]⟩]
theorem secs_size : ∀ s ∈ secs, s.size ≤ 8 := by decide

set_option maxHeartbeats 800000 in
theorem l6Sector_any (r N : Nat) (w : World) (h : Rd w r N) (hN : N ≤ 1000000) :
    Calls Try.prog 39 #[.pointer (some ⟨r, 0, none⟩)] w fun e w' => (∃ s : ByteArray, s.size ≤ 8 ∧ e = .returned (.string s)) ∧ Rd w' r (N + 1) ∧ Touch r (r + 1) w w' := by
  have HR := hide h
  clear h
  go_enter Try.func39, Try.ntmps39
  go_wp2_with fail
  have hb0 := (Below.refl w.heap.size w).alloc (Nat.le_refl _) (.cells (secs.map Value.string).toArray 9)
  refine (of_any r N _ 6 secs _ (HR.out.later hb0) hN (strs_alloc HR.out.lt _ _ secs rfl) (by decide)).mono ?_
  rintro e w1 ⟨⟨s, hs, rfl⟩, hr1, ht1⟩
  go_wp2
  go_ret
  exact ⟨⟨s, secs_size s hs, rfl⟩, hr1, touch_trans (touch_below hb0) ht1⟩

/-- The names that are drawn. -/
def nams : List ByteArray := [⟨#[97, 49]⟩, ⟨#[98, 97]⟩, ⟨#[99, 45, 99]⟩, ⟨#[100]⟩, ⟨#[107, 108, 49]⟩, ⟨#[108, 104]⟩, ⟨#[113]⟩, ⟨#[120, 57]⟩]
theorem nams_size : ∀ s ∈ nams, s.size ≤ 8 := by decide

set_option maxHeartbeats 800000 in
theorem l6Names_any (r : Nat) (w : World) (hr : r < w.heap.size) :
    Calls Try.prog 80 #[] w fun e w' => ∃ a, e = .returned (.slice a 8 8) ∧ StrsIn r w' a nams ∧ Below w.heap.size w w' := by
  have HR := hide hr
  clear hr
  go_enter Try.func80, Try.ntmps80
  go_wp2
  go_ret
  exact ⟨_, rfl, strs_alloc HR.out _ _ nams rfl, (Below.refl w.heap.size w).alloc (Nat.le_refl _) _⟩

set_option maxHeartbeats 400000 in
theorem l6Abs_any (n : Int) (w : World) (h0 : -1000 ≤ n) (h1 : n ≤ 1000) :
    Calls Try.prog 69 #[.int .i64 n] w fun e w' => (∃ q, e = .returned (.int .i64 q) ∧ 0 ≤ q ∧ q ≤ 1000) ∧ w' = w := by
  by_cases h : n < 0
  · go_enter Try.func69, Try.ntmps69
    go_wp2
    go_ret
    exact ⟨⟨_, rfl, by omega, by omega⟩, rfl⟩
  · go_enter Try.func69, Try.ntmps69
    go_wp2
    go_ret
    exact ⟨⟨_, rfl, by omega, by omega⟩, rfl⟩

end Go.Proofs.Ytciacofibljmoaa
