/- Marks in a book and a flight that the law itself has made, with how far they count. -/
import Derived.Test.YtciacofibljmoabGreatDoorRounds
namespace Go.Proofs.YtciacofibljmoabGreatDoor
open Go.RowKit

set_option maxHeartbeats 800000 in
theorem markIntS_up (g n cap : Nat) (f : Nat → Value) (k : Int) (w : World) (hr : w.rowIs g 3 n f) (hn : n ≤ 1048576) (h0 : 1 ≤ k) (h1 : k ≤ 1000000000000000) :
    Calls Tryz.prog 39 #[.slice (some ⟨g, 0, none⟩) n cap, .int .i64 k] w fun e w' => (∃ q, e = .returned (.int .i64 q) ∧ 1 ≤ q ∧ q ≤ k + 1048576) ∧ Touch g (g + 1) w w' := by
  have HR := hide hr
  clear hr
  go_enter Tryz.func39, Tryz.ntmps39
  go_wp2
  go_loopw [1, 5] (fun q i wr => ∃ (j : Nat) (f' : Nat → Value), j ≤ n ∧ i = .int .i64 j ∧ q = .int .i64 (k + j) ∧ Hid (wr.rowIs g 3 n f') ∧ Hid (Touch g (g + 1) w wr)) (fun _ i _ => n - (RowKit.intOf i).toNat)
  case atStart => exact ⟨0, f, Nat.zero_le _, rfl, by go_num, HR.out, touch_refl _ _ _⟩
  case round =>
    obtain ⟨j, f', hj, rfl, rfl, HRj, HT⟩ := hrel
    by_cases hlt : j < n
    · have c0 := HRj.out.cell hlt
      have z0 := HRj.out.frozen j
      go_wp2
      go_roundw
      case rel => exact ⟨j + 1, _, by omega, by go_num, by go_num, HRj.out.set j _, touch_set HT.out (Nat.le_refl _) (by simp) _⟩
      case measure => simp [RowKit.intOf]; omega
    · go_wp2
      go_ret
      exact ⟨⟨_, rfl, by omega, by omega⟩, HT.out⟩

set_option maxRecDepth 100000 in
set_option maxHeartbeats 800000 in
theorem markMade_up (lo gc gf gi : Nat) (cs : List (ByteArray × Int)) (fs : List Fli) (ss : List Int) (w : World) (h : MadeB lo w gc gf gi cs fs ss) (hm : BookSm cs fs ss) :
    Calls Tryz.prog 13 #[bkV (some ⟨gc, 0, none⟩) (some ⟨gf, 0, none⟩) (some ⟨gi, 0, none⟩) cs.length fs.length ss.length cs fs ss, .int .i64 1] w fun e w' => (∃ q, e = .returned (.int .i64 q) ∧ 1 ≤ q ∧ q ≤ 1000000000000000) ∧ Touch lo (gi + 1) w w' := by
  obtain ⟨l1, l2, h1, h2, h3, h4, h5, rc, _, _, ⟨gv, m, sh⟩, ri⟩ := h
  have HM := hide hm
  have RC := hide rc
  have SH := hide sh
  have RI := hide ri
  clear rc sh ri hm
  obtain ⟨W, hW, x0, x1, x2, hWb⟩ := alloc3 w (.slice (some ⟨gc, 0, none⟩) cs.length cs.length) (.slice (some ⟨gf, 0, none⟩) fs.length fs.length) (.slice (some ⟨gi, 0, none⟩) ss.length ss.length) 35
  have HW := hide hW
  have X1 := hide x1
  have X2 := hide x2
  have WB := hide hWb
  have hlt : W.heap.size = w.heap.size + 1 := by rw [← hW]; simp
  have HLT := hide hlt
  clear hW hWb x0 x1 x2 hlt
  go_enter Tryz.func13, Tryz.ntmps13
  go_wp2_with fail
  rw [HW.out]
  refine (markFlowCapS_any gc cs.length cs.length _ W (RC.out.of_block (WB.out.block _ RC.out.lt)) HM.out.nc).mono ?_
  rintro e w1 ⟨⟨q1, rfl, hq1a, hq1b⟩, ht1⟩
  have T1 := hide ht1
  have hz1 := HLT.out
  have y1 := (World.cell?_of_block (w := W) (a := ⟨w.heap.size, 1, none⟩) (ht1.block w.heap.size (by omega) (by omega))).trans X1.out
  have Y2 := hide ((World.cell?_of_block (w := W) (a := ⟨w.heap.size, 2, none⟩) (ht1.block w.heap.size (by omega) (by omega))).trans X2.out)
  have S1 := hide (shape_touch (shape_later SH.out WB.out) ht1 (by omega))
  have I1 := hide (row_touch (RI.out.of_block (WB.out.block _ RI.out.lt)) ht1 (by omega))
  have hs1 := ht1.size
  clear ht1 hz1
  go_wp2_with fail
  refine (markFlowFlightS_from l1 l2 gf fs.length fs.length gv m q1 hq1a hq1b w1 S1.out HM.out.nf).mono ?_
  rintro e w2 ⟨⟨q2, rfl, hq2a, hq2b⟩, ht2⟩
  have T2 := hide ht2
  have hz1 := HLT.out
  have y2 := (World.cell?_of_block (w := w1) (a := ⟨w.heap.size, 2, none⟩) (ht2.block w.heap.size (by omega) (by omega))).trans Y2.out
  have I2 := hide (row_touch I1.out ht2 (by omega))
  clear ht2 y1 hz1
  go_wp2_with fail
  refine (markIntS_up gi ss.length ss.length _ q2 w2 I2.out HM.out.ns hq2a (by omega)).mono ?_
  rintro e w3 ⟨⟨q3, rfl, hq3, hq3b⟩, ht3⟩
  have T3 := hide ht3
  clear ht3 y2
  go_wp2
  go_ret
  exact ⟨⟨q3, rfl, hq3, by omega⟩, touch_trans (touch_trans (touch_trans (touch_below WB.out) (touch_wide T1.out (by omega) (by omega))) (touch_wide T2.out (by omega) (by omega))) (touch_wide T3.out (by omega) (by omega))⟩

set_option maxRecDepth 100000 in
set_option maxHeartbeats 800000 in
theorem markFl_any (s : ByteArray) (p l : Int) (g n cap : Nat) (f : Nat → Value) (k : Int) (w : World) (hr : w.rowIs g 89 (n * 3) f) (hn : n ≤ 1048576) (h0 : 1 ≤ k) (h1 : k ≤ 1000000000000000) :
    Calls Tryz.prog 14 #[.agg #[.string s, .int .i64 p, .int .i64 l, .slice (some ⟨g, 0, none⟩) n cap], .int .i64 k] w fun e w' => (∃ q, e = .returned (.int .i64 q) ∧ 1 ≤ q) ∧ Touch g (g + 1) w w' := by
  have HR := hide hr
  clear hr
  obtain ⟨W, hW, -, -, -, -, hWb⟩ := alloc4 w (.string s) (.int .i64 p) (.int .i64 l) (.slice (some ⟨g, 0, none⟩) n cap) 41
  have HW := hide hW
  have WB := hide hWb
  clear hW hWb
  go_enter Tryz.func14, Tryz.ntmps14
  go_wp2_with fail
  rw [HW.out]
  refine (markFlowVisitS_any g n cap f k W (HR.out.of_block (WB.out.block _ HR.out.lt)) hn h0 h1).mono ?_
  rintro e w1 ⟨⟨q, rfl, hq, -⟩, -, ht⟩
  have T1 := hide ht
  clear ht
  go_wp2
  go_ret
  exact ⟨⟨q, rfl, hq⟩, touch_trans (touch_below WB.out) T1.out⟩

end Go.Proofs.YtciacofibljmoabGreatDoor
