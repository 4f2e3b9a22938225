/- The comparing of two slices that hold the same. -/
import Derived.Test.YtciacofibljmoabGreatDoorLeaf
namespace Go.Proofs.YtciacofibljmoabGreatDoor
open Go.RowKit

set_option maxHeartbeats 800000 in
theorem eqFlowCapS_same (a a' : Option Addr) (cap cap' : Nat) (cs : List (ByteArray × Int)) (w : World) (hc : CapsIn w a cs) (hc' : CapsIn w a' cs) (hl : cs.length ≤ 1048576) :
    Calls Tryz.prog 33 #[.slice a cs.length cap, .slice a' cs.length cap'] w fun e w' => e = .returned (.bool true) ∧ Below w.heap.size w w' := by
  go_enter Tryz.func33, Tryz.ntmps33
  go_wp2
  go_loopw [5] (fun i wr => ∃ (k : Nat), k ≤ cs.length ∧ i = .int .i64 k ∧ Below w.heap.size w wr) (fun i _ => cs.length - (intOf i).toNat)
  case atStart => exact ⟨0, Nat.zero_le _, rfl, Below.refl _ _⟩
  case round =>
    obtain ⟨k, hk, rfl, hbw⟩ := hrel
    by_cases hlt : k < cs.length
    · obtain ⟨b, off, rfl, hblt, e0, e1⟩ := hc.later hbw k hlt
      obtain ⟨b', off', rfl, hblt', e0', e1'⟩ := hc'.later hbw k hlt
      clear hc hc'
      generalize cs[k] = c at e0 e1 e0' e1'
      have k0 : (0 : Int) ≤ (k : Int) := by omega
      have k1 : (k : Int) < (cs.length : Int) := by omega
      go_wp2
      go_region_held3 (fun w' => w'.cell? ⟨b, off + k * 2, none⟩ = some (.string c.1) ∧ w'.cell? ⟨b, off + k * 2 + 1, none⟩ = some (.int .i64 c.2) ∧ w'.cell? ⟨b', off' + k * 2, none⟩ = some (.string c.1) ∧ w'.cell? ⟨b', off' + k * 2 + 1, none⟩ = some (.int .i64 c.2) ∧ Below wr.heap.size wr w')
        (first | exact ⟨e0, e1, e0', e1', (Below.refl _ _).drew⟩ | exact ⟨cell_later hb' e0, cell_later hb' e1, cell_later hb' e0', cell_later hb' e1', (Below.refl _ _).drew.trans hb'⟩)
        (first | (go_at_call 56; refine (eqFlowCap_same _ _ _).mono ?_; rintro e w1 ⟨rfl, hb'⟩))
      go_wp2
      go_roundw
      case rel => exact ⟨k + 1, by omega, by go_num, hbw.trans (((Below.refl _ _).drew.trans hb').mono hbw.size)⟩
      case measure => simp [intOf]; omega
    · go_wp2
      go_ret
      exact ⟨rfl, hbw⟩

end Go.Proofs.YtciacofibljmoabGreatDoor
