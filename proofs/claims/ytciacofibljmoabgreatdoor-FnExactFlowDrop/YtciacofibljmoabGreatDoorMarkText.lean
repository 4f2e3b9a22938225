/- The marks that the law writes: a number's text. -/
import Derived.Test.YtciacofibljmoabGreatDoorVisB
namespace Go.Proofs.YtciacofibljmoabGreatDoor
open Go.RowKit

theorem conv1 (W : World) (x : Int) : ∃ c : ByteArray, c.size = 1 ∧ (convert 126 9 (.slice (some ⟨W.heap.size, 0, none⟩) 1 1)).run Tryz.prog (W.alloc (.cells #[.int .u8 x] 5)) = .ok (.string c) (W.alloc (.cells #[.int .u8 x] 5)) := by
  refine ⟨ByteArray.empty.push (UInt8.ofNat x.toNat), rfl, ?_⟩
  rw [run_convert_bytes_string _ _ _ 5 _ _ _ Tryz.underlying126 Tryz.underlying5 Tryz.underlying9, run_bytesToString _ _ _ _ [x]]
  · rfl
  · simp [loadCells, go_sem]

set_option maxRecDepth 100000 in
set_option maxHeartbeats 1600000 in
theorem markText_any (k : Int) (w : World) (h0 : 1 ≤ k) (h1 : k ≤ 1000000000000000000) :
    Calls Tryz.prog 58 #[.int .i64 k] w fun e w' => (∃ s, e = .returned (.string s)) ∧ Below w.heap.size w w' := by
  have hp : ¬ k ≤ 0 := by omega
  go_enter Tryz.func58, Tryz.ntmps58
  go_wp2
  go_loopw [0, 3] (fun q s wr => ∃ (n : Int) (b : ByteArray), 0 ≤ n ∧ (b.size : Int) + n ≤ 1000000000000000001 ∧ q = .int .i64 n ∧ s = .string b ∧ Below w.heap.size w wr) (fun q _ _ => (RowKit.intOf q).toNat)
  case atStart => exact ⟨k, _, by omega, by show ((0 : Nat) : Int) + k ≤ _; omega, rfl, rfl, Below.refl _ _⟩
  case round =>
    obtain ⟨n, b, hn0, hn1, rfl, rfl, hbw⟩ := hrel
    by_cases hlt : 0 < n
    · obtain ⟨c, hc1, hcv⟩ := conv1 wr (48 + n % 10)
      go_wp2
      go_roundw
      case rel => exact ⟨n / 10, c ++ b, by omega, by rw [ByteArray.size_append, hc1]; omega, rfl, rfl, hbw.alloc hbw.size _⟩
      case measure => simp [RowKit.intOf]; omega
    · go_wp2
      go_ret
      exact ⟨⟨_, rfl⟩, hbw⟩

end Go.Proofs.YtciacofibljmoabGreatDoor
