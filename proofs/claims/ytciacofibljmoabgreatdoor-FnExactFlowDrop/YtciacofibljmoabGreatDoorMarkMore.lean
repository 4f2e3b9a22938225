/- Marks in caps, and in flights from any number on. -/
import Derived.Test.YtciacofibljmoabGreatDoorIntMarks
namespace Go.Proofs.YtciacofibljmoabGreatDoor
open Go.RowKit

theorem shape_touch {lo hi lo' hi' : Nat} {w w' : World} {g n : Nat} {gv m : Nat → Nat} (h : ShapeFl lo hi w g n gv m) (ht : Touch lo' hi' w w') (ho : hi ≤ lo' ∨ hi' ≤ lo) : ShapeFl lo hi w' g n gv m := by
  obtain ⟨h0, f, hr, hf⟩ := h
  refine ⟨h0, f, row_touch hr ht (by omega), fun i hi2 => ?_⟩
  obtain ⟨a, b, c, f', d⟩ := hf i hi2
  exact ⟨a, b, c, f', row_touch d ht (by omega)⟩

set_option maxRecDepth 100000 in
set_option maxHeartbeats 800000 in
theorem markFlowCapS_any (g n cap : Nat) (f : Nat → Value) (w : World) (hr : w.rowIs g 87 (n * 2) f) (hn : n ≤ 1048576) :
    Calls Tryz.prog 37 #[.slice (some ⟨g, 0, none⟩) n cap, .int .i64 1] w fun e w' => (∃ q, e = .returned (.int .i64 q) ∧ 1 ≤ q ∧ q ≤ 10000000) ∧ Touch g (g + 1) w w' := by
  have HR := hide hr
  clear hr
  go_enter Tryz.func37, Tryz.ntmps37
  go_wp2
  go_loopw [1, 5] (fun q i wr => ∃ (j : Nat) (f' : Nat → Value), j ≤ n ∧ i = .int .i64 j ∧ q = .int .i64 (1 + 2 * (j : Int)) ∧ Hid (wr.rowIs g 87 (n * 2) f') ∧ Hid (Touch g (g + 1) w wr)) (fun _ i _ => n - (RowKit.intOf i).toNat)
  case atStart => exact ⟨0, f, Nat.zero_le _, rfl, by go_num, HR.out, touch_refl _ _ _⟩
  case round =>
    obtain ⟨j, f', hj, rfl, rfl, HRj, HT⟩ := hrel
    by_cases hlt : j < n
    · go_wp2_with (go_at_call 58; refine (markText_any _ _ (by omega) (by omega)).mono ?_; rintro e w1 ⟨⟨s, rfl⟩, hb1⟩
                   have R1 : Hid (w1.rowIs g 87 (n * 2) f') := HRj.out.of_block (hb1.block _ HRj.out.lt)
                   have T1 := hide (touch_trans HT.out (touch_below hb1))
                   have c0 := R1.out.cell (i := j * 2) (by omega)
                   have c1 := R1.out.cell (i := j * 2 + 1) (by omega)
                   have z0 := R1.out.frozen (j * 2)
                   have z1 := R1.out.frozen (j * 2 + 1)
                   clear hb1)
      go_roundw
      case rel => exact ⟨j + 1, _, by omega, by go_num, by go_num, (R1.out.set (j * 2) _).set (j * 2 + 1) _, touch_set (touch_set T1.out (Nat.le_refl _) (by simp) _) (Nat.le_refl _) (by simp) _⟩
      case measure => simp [RowKit.intOf]; omega
    · go_wp2
      go_ret
      exact ⟨⟨_, rfl, by omega, by omega⟩, HT.out⟩

set_option maxRecDepth 100000 in
set_option maxHeartbeats 1600000 in
theorem markFlowFlightS_from (lo hi g n cap : Nat) (gv m : Nat → Nat) (k0 : Int) (h0 : 1 ≤ k0) (h1 : k0 ≤ 10000000) (w : World) (hr : ShapeFl lo hi w g n gv m) (hn : n ≤ 1048576) :
    Calls Tryz.prog 38 #[.slice (some ⟨g, 0, none⟩) n cap, .int .i64 k0] w fun e w' => (∃ q, e = .returned (.int .i64 q) ∧ 1 ≤ q ∧ q ≤ 100000000000000) ∧ Touch lo hi w w' := by
  have HR := hide hr
  clear hr
  go_enter Tryz.func38, Tryz.ntmps38
  go_wp2
  go_loopw [1, 5] (fun q i wr => ∃ (j : Nat) (k : Int), j ≤ n ∧ i = .int .i64 j ∧ q = .int .i64 k ∧ 1 ≤ k ∧ k ≤ k0 + 3145740 * (j : Int) ∧ Hid (ShapeFl lo hi wr g n gv m) ∧ Hid (Touch lo hi w wr)) (fun _ i _ => n - (RowKit.intOf i).toNat)
  case atStart => exact ⟨0, k0, Nat.zero_le _, rfl, rfl, by omega, by omega, HR.out, touch_refl _ _ _⟩
  case round =>
    obtain ⟨j, k, hj, rfl, rfl, hk0, hk1, HS, HT⟩ := hrel
    by_cases hlt : j < n
    · obtain ⟨⟨hg0, hg1⟩, _, _, hf0⟩ := HS.out
      obtain ⟨_, hm0, ⟨hv0, hv1, hv2⟩, _⟩ := hf0 j hlt
      clear hf0
      go_wp2_with (first
        | (go_at_call 58; refine (markText_any _ _ (by omega) (by omega)).mono ?_; rintro e w1 ⟨⟨s, rfl⟩, hb1⟩
           have S1 := hide (shape_later HS.out hb1)
           have T1 := hide (touch_trans HT.out (touch_below hb1))
           have S4 := hide (shape_set (shape_set (shape_set S1.out j 0 (by omega) (.string s)) j 1 (by omega) (.int .i64 (k + 1))) j 2 (by omega) (.int .i64 (k + 1 + 1)))
           obtain ⟨_, f, hrow, hf⟩ := S1.out
           obtain ⟨hc3, _, _, _⟩ := hf j hlt
           have c0 := hrow.cell (i := j * 4) (by omega)
           have c1 := hrow.cell (i := j * 4 + 1) (by omega)
           have c2 := hrow.cell (i := j * 4 + 2) (by omega)
           have c3 := (hrow.cell (i := j * 4 + 3) (by omega)).trans (congrArg some hc3)
           have z0 := hrow.frozen (j * 4)
           have z1 := hrow.frozen (j * 4 + 1)
           have z2 := hrow.frozen (j * 4 + 2)
           clear hb1 hrow hf hc3))
      obtain ⟨_, f4, _, hf4⟩ := S4.out
      obtain ⟨_, _, _, f5, d5⟩ := hf4 j hlt
      have T4 := hide (touch_set (touch_set (touch_set T1.out (p := ⟨g, j * 4, none⟩) hg0 hg1 (.string s)) (p := ⟨g, j * 4 + 1, none⟩) hg0 hg1 (.int .i64 (k + 1))) (p := ⟨g, j * 4 + 2, none⟩) hg0 hg1 (.int .i64 (k + 1 + 1)))
      clear hf4
      refine (markFlowVisitS_any (gv j) (m j) (m j) f5 (k + 1 + 1 + 1) _ d5 hm0 (by omega) (by omega)).mono ?_
      rintro e w2 ⟨⟨q, rfl, hq0, hq1⟩, hr2, ht2⟩
      have S5 := hide (shape_vis S4.out hlt ht2 hr2)
      have T5 := hide (touch_trans T4.out (touch_wide ht2 hv0 hv1))
      clear hr2 ht2 d5 S4 T4 c0 c1 c2 c3 z0 z1 z2
      go_wp2
      go_roundw
      case rel => exact ⟨j + 1, q, by omega, by go_num, rfl, by omega, by omega, S5.out, T5.out⟩
      case measure => simp [RowKit.intOf]; omega
    · go_wp2
      go_ret
      exact ⟨⟨_, rfl, by omega, by omega⟩, HT.out⟩

end Go.Proofs.YtciacofibljmoabGreatDoor
