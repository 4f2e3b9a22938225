/- Whether slots fit: the program's and the document's reading, walked. -/
import Derived.Test.YtciacofibljmoaaGreatFitsMath
import Derived.Test.YtciacofibljmoaaGreatRunsOf
namespace Go.Proofs.YtciacofibljmoaaGreat
open Go.RowKit

def inTimeAt (fs : List Fli) (ss : List Int) (i : Nat) : Bool :=
  decide (ss.getD i 0 < 0) || inB (ss.getD i 0) (fs.getD i (ByteArray.empty, 0, 0, [])).2.1 ((fs.getD i (ByteArray.empty, 0, 0, [])).2.1 + (fs.getD i (ByteArray.empty, 0, 0, [])).2.2.1)
def inTimeB (fs : List Fli) (ss : List Int) : Bool := (List.range fs.length).all (inTimeAt fs ss)
def notFullAt (caps : List (ByteArray × Int)) (fs : List Fli) (ss : List Int) (i : Nat) : Bool := !fullB fs ss (caps.getD i (ByteArray.empty, 0)).1 (caps.getD i (ByteArray.empty, 0)).2
def roomB (caps : List (ByteArray × Int)) (fs : List Fli) (ss : List Int) : Bool := (List.range caps.length).all (notFullAt caps fs ss)
/-- Slots fit. -/
def fitsB (caps : List (ByteArray × Int)) (fs : List Fli) (ss : List Int) : Bool := capsB caps && slotsB fs ss && inTimeB fs ss && roomB caps fs ss

set_option maxRecDepth 100000 in
set_option maxHeartbeats 1600000 in
theorem slotsInTime_any (a a' : Option Addr) (cap cap' : Nat) (fs : List Fli) (ss : List Int) (w : World) (hc : FlightsIn w a fs) (hc' : IntsIn w a' ss) (hok : slotsB fs ss = true) :
    Calls Tryz.prog 51 #[.slice a fs.length cap, .slice a' ss.length cap'] w fun e w' => e = .returned (.bool (inTimeB fs ss)) ∧ Below w.heap.size w w' := by
  obtain ⟨hln, h8, hsb, hfb⟩ := slots_bd hok
  have HC := hide hc
  have HC' := hide hc'
  have HSB := hide hsb
  have HFB := hide hfb
  have hln1 : fs.length ≤ ss.length := by omega
  clear hc hc' hsb hfb hok hln
  go_enter Tryz.func51, Tryz.ntmps51
  go_wp2
  go_loopw [9] (fun i wr => ∃ (k : Nat), k ≤ fs.length ∧ i = .int .i64 k ∧ Hid ((List.range k).all (inTimeAt fs ss) = true) ∧ Below w.heap.size w wr) (fun i _ => fs.length - (RowKit.intOf i).toNat)
  case atStart => exact ⟨0, Nat.zero_le _, rfl, rfl, Below.refl _ _⟩
  case round =>
    obtain ⟨k, hk, rfl, HK, hbw⟩ := hrel
    by_cases hlt : k < fs.length
    · have hlt2 : k < ss.length := by omega
      obtain ⟨b, off, rfl, hblt, e0, e1, e2, av, cv, e3, hv⟩ := HC.out.later hbw k hlt
      obtain ⟨b', off', rfl, hblt', s0⟩ := HC'.out.later hbw k hlt2
      obtain ⟨z0, z1⟩ := HSB.out k hlt2
      obtain ⟨_, ⟨p0, p1⟩, ⟨l0, l1⟩, _⟩ := HFB.out k hlt
      have HA : Hid (inTimeAt fs ss k = (decide (ss[k] < 0) || inB ss[k] fs[k].2.1 (fs[k].2.1 + fs[k].2.2.1))) := by
        show _ = _
        unfold inTimeAt
        rw [getD_at fs k _ hlt, getD_at ss k _ hlt2]
      clear hv
      generalize fs[k] = c at e0 e1 e2 e3 p0 p1 l0 l1 HA
      generalize ss[k] = z at s0 z0 z1 HA
      have k0 : (0 : Int) ≤ (k : Int) := by omega
      have k1 : (k : Int) < (fs.length : Int) := by omega
      have k2 : (k : Int) < (ss.length : Int) := by omega
      by_cases hz : 0 ≤ z
      · have hz2 : (z != -1) = true := by (rw [bne_iff_ne]; omega)
        rw [decide_eq_false (show ¬ z < 0 by omega), Bool.false_or] at HA
        cases hh : inB z c.2.1 (c.2.1 + c.2.2.1)
        · have HH := hide hh
          have HF : Hid (inTimeAt fs ss k = false) := by show _ = _; rw [HA.out, hh]
          clear hh HA
          go_wp2
          obtain ⟨W, hW, x0, x1, x2, x3, hWb⟩ := alloc4 wr (.string c.1) (.int .i64 c.2.1) (.int .i64 c.2.2.1) (.slice av c.2.2.2.length cv) 36
          rw [hW]
          have y1 := grow_cell x1
          have y2 := grow_cell x2
          have y4 := grow_cell (cell_later hWb s0)
          clear hW x0 x1 x2 x3 s0
          have hne := grow_some W
          refine wp_region_grow (by kernel_rfl) (by kernel_rfl) ?_
          repeat (go_big_quiet_step (((go_at_call 64; exact grow_same (within_val _ _ _ _ HH.out _)))))
          refine wpQuiet_nil ?_
          intro _ hw'
          obtain ⟨u, hw''⟩ := hw'
          subst hw''
          go_wp2
          go_ret
          exact ⟨congrArg (fun b => Ending.returned (.bool b)) (all_bad hlt HF.out).symm, below_two (below_two hbw hWb) u.below⟩
        · have HH := hide hh
          have HT : Hid (inTimeAt fs ss k = true) := by show _ = _; rw [HA.out, hh]
          clear hh HA
          go_wp2
          obtain ⟨W, hW, x0, x1, x2, x3, hWb⟩ := alloc4 wr (.string c.1) (.int .i64 c.2.1) (.int .i64 c.2.2.1) (.slice av c.2.2.2.length cv) 36
          rw [hW]
          have y1 := grow_cell x1
          have y2 := grow_cell x2
          have y4 := grow_cell (cell_later hWb s0)
          clear hW x0 x1 x2 x3 s0
          have hne := grow_some W
          refine wp_region_grow (by kernel_rfl) (by kernel_rfl) ?_
          repeat (go_big_quiet_step (((go_at_call 64; exact grow_same (within_val _ _ _ _ HH.out _)))))
          refine wpQuiet_nil ?_
          intro _ hw'
          obtain ⟨u, hw''⟩ := hw'
          subst hw''
          go_wp2
          go_roundw
          case rel => exact ⟨k + 1, by omega, by go_num, all_succ HK.out HT.out, below_two (below_two hbw hWb) u.below⟩
          case measure => simp [RowKit.intOf]; omega
      · have hz1 : z = -1 := by omega
        have HT : Hid (inTimeAt fs ss k = true) := by show _ = _; rw [HA.out, decide_eq_true (show z < 0 by omega)]; rfl
        clear HA hz
        subst hz1
        go_wp2
        obtain ⟨W, hW, x0, x1, x2, x3, hWb⟩ := alloc4 wr (.string c.1) (.int .i64 c.2.1) (.int .i64 c.2.2.1) (.slice av c.2.2.2.length cv) 36
        rw [hW]
        have y4 := grow_cell (cell_later hWb s0)
        clear hW x0 x1 x2 x3 s0
        have hne := grow_some W
        refine wp_region_grow (by kernel_rfl) (by kernel_rfl) ?_
        repeat (go_big_quiet_step (fail))
        refine wpQuiet_nil ?_
        intro _ hw'
        obtain ⟨u, hw''⟩ := hw'
        subst hw''
        go_wp2
        go_roundw
        case rel => exact ⟨k + 1, by omega, by go_num, all_succ HK.out HT.out, below_two (below_two hbw hWb) u.below⟩
        case measure => simp [RowKit.intOf]; omega
    · go_wp2
      go_ret
      have : k = fs.length := by omega
      subst this
      exact ⟨by unfold inTimeB; rw [HK.out]; rfl, hbw⟩

theorem alloc2 (wr : World) (a b : Value) (t : TypeId) : ∃ W, wr.alloc (.cells #[a, b] t) = W ∧ W.cell? ⟨wr.heap.size, 0, none⟩ = some a ∧ W.cell? ⟨wr.heap.size, 1, none⟩ = some b ∧ Below wr.heap.size wr W :=
  ⟨_, rfl, by simp, by simp, (Below.refl _ _).alloc (Nat.le_refl _) _⟩
theorem l2Load_val (a a' : Option Addr) (cap cap' : Nat) (fs : List Fli) (ss : List Int) (sec : ByteArray) (t : Int) (q : Int) (h : (loadTo fs ss sec t fs.length : Nat) = q) (w : World) (hc : FlightsIn w a fs) (hc' : IntsIn w a' ss) (hl : fs.length ≤ 1048576) (hvl : ∀ f ∈ fs, f.2.2.2.length ≤ 1048576) (hok : slotsB fs ss = true) :
    Calls Tryz.prog 128 #[.slice a fs.length cap, .slice a' ss.length cap', .string sec, .int .i64 t] w fun e w' => e = .returned (.int .i64 q) ∧ Below w.heap.size w w' := by rw [← h]; exact l2Load_any a a' cap cap' fs ss sec t w hc hc' hl hvl hok

set_option maxRecDepth 100000 in
set_option maxHeartbeats 3200000 in
theorem l2Full_any (sec : ByteArray) (cp : Int) (a a' : Option Addr) (cap cap' : Nat) (fs : List Fli) (ss : List Int) (w : World) (hc : FlightsIn w a fs) (hc' : IntsIn w a' ss) (hl : fs.length ≤ 1048576) (hvl : ∀ f ∈ fs, f.2.2.2.length ≤ 1048576) (hok : slotsB fs ss = true) :
    Calls Tryz.prog 79 #[.agg #[.string sec, .int .i64 cp], .slice a fs.length cap, .slice a' ss.length cap'] w fun e w' => e = .returned (.bool (fullB fs ss sec cp)) ∧ Below w.heap.size w w' := by
  obtain ⟨hln, h8, hsb, hfb⟩ := slots_bd hok
  have hln1 : fs.length ≤ ss.length := by omega
  obtain ⟨W0, hW0, c0, c1, hWb0⟩ := alloc2 w (.string sec) (.int .i64 cp) 54
  have HC := hide (hc.later hWb0)
  have HC' := hide (hc'.later hWb0)
  have HVL := hide hvl
  have HSB := hide hsb
  have HFB := hide hfb
  have HOK := hide hok
  have C0 := hide c0
  have C1 := hide c1
  have HB0 := hide hWb0
  have HW0 := hide hW0
  clear hc hc' hsb hfb hok hln hvl c0 c1 hWb0 hW0
  go_enter Tryz.func79, Tryz.ntmps79
  go_wp2
  go_loopw [7] (fun i wr => ∃ (k : Nat), k ≤ fs.length ∧ i = .int .i64 k ∧ Hid (∀ q, q < k → fullAt fs ss sec cp q = false) ∧ Hid (Below W0.heap.size W0 wr)) (fun i _ => fs.length - (RowKit.intOf i).toNat)
  case atStart => exact ⟨0, Nat.zero_le _, rfl, fun q hq => by omega, by show Below _ _ _; rw [HW0.out]; exact Below.refl _ _⟩
  case round =>
    obtain ⟨k, hk, rfl, HK, HB⟩ := hrel
    by_cases hlt : k < fs.length
    · have hlt2 : k < ss.length := by omega
      obtain ⟨b, off, rfl, hblt, _, _, _, av, cv, q3, hv⟩ := HC.out k hlt
      obtain ⟨b', off', rfl, hblt', t0⟩ := HC'.out k hlt2
      obtain ⟨z0, z1⟩ := HSB.out k hlt2
      obtain ⟨hbd, _, _, hvl0, hvl1⟩ := HFB.out k hlt
      have HA : Hid (fullAt fs ss sec cp k = (decide (0 ≤ ss[k]) && (List.range fs[k].2.2.2.length).any (fullVis fs ss sec cp fs[k].2.2.2 ss[k]))) := by
        show _ = _
        unfold fullAt
        rw [getD_at fs k _ hlt, getD_at ss k _ hlt2]
      have HV := hide hv
      have HBD := hide hbd
      have Q3 := hide q3
      have T0 := hide t0
      clear hv hbd q3 t0
      generalize fs[k] = c at Q3 HV HBD hvl0 hvl1 HA
      generalize ss[k] = z at T0 z0 z1 HA
      have k0 : (0 : Int) ≤ (k : Int) := by omega
      have k1 : (k : Int) < (fs.length : Int) := by omega
      have k2 : (k : Int) < (ss.length : Int) := by omega
      go_wp2
      go_loopw [8] (fun i wi => ∃ (j : Nat), j ≤ c.2.2.2.length ∧ (0 < j → 0 ≤ z) ∧ i = .int .i64 j ∧ Hid (∀ q, q < j → fullVis fs ss sec cp c.2.2.2 z q = false) ∧ Hid (Below W0.heap.size W0 wi)) (fun i _ => c.2.2.2.length - (RowKit.intOf i).toNat)
      case atStart => exact ⟨0, Nat.zero_le _, fun h => by omega, rfl, fun q hq => by omega, HB.out⟩
      case round =>
        obtain ⟨j, hj, hjz, rfl, HJ, HBi⟩ := hrel
        have e3 := cell_later HBi.out Q3.out
        have s0 := cell_later HBi.out T0.out
        by_cases hjl : j < c.2.2.2.length
        · by_cases hz : 0 ≤ z
          · obtain ⟨bv, ov, rfl, hbv, v0, v1, v2⟩ := HV.out.later HBi.out j hjl
            obtain ⟨⟨a0, a1⟩, a2, a3⟩ := HBD.out _ (List.getElem_mem hjl)
            have HX : Hid (fullVis fs ss sec cp c.2.2.2 z j = ((c.2.2.2[j].1.toList == sec.toList) && decide (cp < (loadTo fs ss sec (z + c.2.2.2[j].2.1) fs.length : Nat)))) := by
              show _ = _
              unfold fullVis
              rw [getD_at _ j _ hjl]
            generalize c.2.2.2[j] = v at v0 v1 v2 a0 a1 a2 a3 HX
            have hsec := cell_later HBi.out C0.out
            have hcp := cell_later HBi.out C1.out
            cases hq : (v.1.toList == sec.toList)
            · have HF : Hid (fullVis fs ss sec cp c.2.2.2 z j = false) := by show _ = _; rw [HX.out, hq]; rfl
              clear HX
              go_wp2
              obtain ⟨W, hW, x0, x1, x2, hWb⟩ := alloc3 wr (.string v.1) (.int .i64 v.2.1) (.int .i64 v.2.2) 52
              rw [hW]
              have y0 := grow_cell x0
              have y5 := grow_cell (cell_later hWb hsec)
              clear hW x0 x1 x2 hsec hcp e3 s0 v0 v1 v2
              have hne := grow_some W
              refine wp_region_grow (by kernel_rfl) (by kernel_rfl) ?_
              repeat (go_big_quiet_step (fail))
              refine wpQuiet_nil ?_
              intro _ hw'
              obtain ⟨u, hw''⟩ := hw'
              subst hw''
              go_wp2
              go_roundw
              case rel => exact ⟨j + 1, by omega, fun _ => hz, by go_num, fun q hq' => by
                by_cases e : q = j
                · rw [e]; exact HF.out
                · exact HJ.out q (by omega), below_two (below_two HBi.out hWb) u.below⟩
              case measure => simp [RowKit.intOf]; omega
            · generalize hL : ((loadTo fs ss sec (z + v.2.1) fs.length : Nat) : Int) = L at HX
              have HL := hide hL
              clear hL
              by_cases hgt : cp < L
              · have HT : Hid (fullVis fs ss sec cp c.2.2.2 z j = true) := by show _ = _; rw [HX.out, hq, decide_eq_true hgt]; rfl
                clear HX
                go_wp2
                obtain ⟨W, hW, x0, x1, x2, hWb⟩ := alloc3 wr (.string v.1) (.int .i64 v.2.1) (.int .i64 v.2.2) 52
                rw [hW]
                have y0 := grow_cell x0
                have y1 := grow_cell x1
                have y5 := grow_cell (cell_later hWb hsec)
                have y6 := grow_cell (cell_later hWb hcp)
                have y7 := grow_cell (cell_later hWb s0)
                have HCW := hide (HC.out.later (below_two HBi.out hWb))
                have HCW' := hide (HC'.out.later (below_two HBi.out hWb))
                clear hW x0 x1 x2 hsec hcp e3 s0 v0 v1 v2
                have hne := grow_some W
                refine wp_region_grow (by kernel_rfl) (by kernel_rfl) ?_
                repeat (go_big_quiet_step (((go_at_call 128; exact grow_of (l2Load_val _ _ _ _ fs ss sec _ _ HL.out _ (HCW.out.later (Grow.below _)) (HCW'.out.later (Grow.below _)) hl HVL.out HOK.out)))))
                refine wpQuiet_nil ?_
                intro _ hw'
                obtain ⟨u, hw''⟩ := hw'
                subst hw''
                go_wp2
                go_ret
                exact ⟨by unfold fullB; rw [any_yes hlt (by rw [HA.out, decide_eq_true hz, Bool.true_and]; exact any_yes hjl HT.out)]; rfl, below_two (below_two (below_two HB0.out HBi.out) hWb) u.below⟩
              · have hgt' : decide (cp < L) = false := decide_eq_false hgt
                have HF : Hid (fullVis fs ss sec cp c.2.2.2 z j = false) := by show _ = _; rw [HX.out, hgt']; simp
                clear HX hgt
                go_wp2
                obtain ⟨W, hW, x0, x1, x2, hWb⟩ := alloc3 wr (.string v.1) (.int .i64 v.2.1) (.int .i64 v.2.2) 52
                rw [hW]
                have y0 := grow_cell x0
                have y1 := grow_cell x1
                have y5 := grow_cell (cell_later hWb hsec)
                have y6 := grow_cell (cell_later hWb hcp)
                have y7 := grow_cell (cell_later hWb s0)
                have HCW := hide (HC.out.later (below_two HBi.out hWb))
                have HCW' := hide (HC'.out.later (below_two HBi.out hWb))
                clear hW x0 x1 x2 hsec hcp e3 s0 v0 v1 v2
                have hne := grow_some W
                refine wp_region_grow (by kernel_rfl) (by kernel_rfl) ?_
                repeat (go_big_quiet_step (((go_at_call 128; exact grow_of (l2Load_val _ _ _ _ fs ss sec _ _ HL.out _ (HCW.out.later (Grow.below _)) (HCW'.out.later (Grow.below _)) hl HVL.out HOK.out)))))
                refine wpQuiet_nil ?_
                intro _ hw'
                obtain ⟨u, hw''⟩ := hw'
                subst hw''
                go_wp2
                go_roundw
                case rel => exact ⟨j + 1, by omega, fun _ => hz, by go_num, fun q hq' => by
                  by_cases e : q = j
                  · rw [e]; exact HF.out
                  · exact HJ.out q (by omega), below_two (below_two HBi.out hWb) u.below⟩
                case measure => simp [RowKit.intOf]; omega
          · have hz1 : z = -1 := by omega
            have HF : Hid (fullAt fs ss sec cp k = false) := by show _ = _; rw [HA.out, decide_eq_false hz]; rfl
            have hj0 : j = 0 := by
              by_cases h : 0 < j
              · exact absurd (hjz h) hz
              · omega
            subst hj0
            clear HA hz hjz
            subst hz1
            go_wp2
            go_roundw
            case rel => exact ⟨k + 1, by omega, by go_num, fun q hq' => by
              by_cases e : q = k
              · rw [e]; exact HF.out
              · exact HK.out q (by omega), HBi.out⟩
            case measure => simp [RowKit.intOf]; omega
        · have : j = c.2.2.2.length := by omega
          subst this
          have HF : Hid (fullAt fs ss sec cp k = false) := by show _ = _; rw [HA.out, any_no HJ.out]; simp
          clear HA
          go_wp2
          go_roundw
          case rel => exact ⟨k + 1, by omega, by go_num, fun q hq' => by
            by_cases e : q = k
            · rw [e]; exact HF.out
            · exact HK.out q (by omega), HBi.out⟩
          case measure => simp [RowKit.intOf]; omega
    · go_wp2
      go_ret
      have : k = fs.length := by omega
      subst this
      exact ⟨by unfold fullB; rw [any_no HK.out]; rfl, below_two HB0.out HB.out⟩

end Go.Proofs.YtciacofibljmoaaGreat
