/- Whether slots fit: the program's and the document's reading, walked. -/
import Derived.Test.YtciacofibljmoaaGreatDoorRuns
namespace Go.Proofs.YtciacofibljmoaaGreatDoor
open Go.RowKit

def inTimeAt (fs : List Fli) (ss : List Int) (i : Nat) : Bool :=
  decide (ss.getD i 0 < 0) || inB (ss.getD i 0) (fs.getD i (ByteArray.empty, 0, 0, [])).2.1 ((fs.getD i (ByteArray.empty, 0, 0, [])).2.1 + (fs.getD i (ByteArray.empty, 0, 0, [])).2.2.1)
def inTimeB (fs : List Fli) (ss : List Int) : Bool := (List.range fs.length).all (inTimeAt fs ss)
def notFullAt (caps : List (ByteArray × Int)) (fs : List Fli) (ss : List Int) (i : Nat) : Bool := !fullB fs ss (caps.getD i (ByteArray.empty, 0)).1 (caps.getD i (ByteArray.empty, 0)).2
def roomB (caps : List (ByteArray × Int)) (fs : List Fli) (ss : List Int) : Bool := (List.range caps.length).all (notFullAt caps fs ss)
/-- Slots fit. -/
def fitsB (caps : List (ByteArray × Int)) (fs : List Fli) (ss : List Int) : Bool := capsB caps && slotsB fs ss && inTimeB fs ss && roomB caps fs ss

set_option maxRecDepth 100000 in
set_option maxHeartbeats 1600000 in
theorem slotsInTime_any (a a' : Option Addr) (cap cap' : Nat) (fs : List Fli) (ss : List Int) (w : World) (hc : FlightsIn w a fs) (hc' : IntsIn w a' ss) (hok : slotsB fs ss = true) :
    Calls Tryz.prog 55 #[.slice a fs.length cap, .slice a' ss.length cap'] w fun e w' => e = .returned (.bool (inTimeB fs ss)) ∧ Below w.heap.size w w' := by
  obtain ⟨hln, h8, hsb, hfb⟩ := slots_bd hok
  have HC := hide hc
  have HC' := hide hc'
  have HSB := hide hsb
  have HFB := hide hfb
  have hln1 : fs.length ≤ ss.length := by omega
  clear hc hc' hsb hfb hok hln
  go_enter Tryz.func55, Tryz.ntmps55
  go_wp2
  go_loopw [9] (fun i wr => ∃ (k : Nat), k ≤ fs.length ∧ i = .int .i64 k ∧ Hid ((List.range k).all (inTimeAt fs ss) = true) ∧ Below w.heap.size w wr) (fun i _ => fs.length - (RowKit.intOf i).toNat)
  case atStart => exact ⟨0, Nat.zero_le _, rfl, rfl, Below.refl _ _⟩
  case round =>
    obtain ⟨k, hk, rfl, HK, hbw⟩ := hrel
    by_cases hlt : k < fs.length
    · have hlt2 : k < ss.length := by omega
      obtain ⟨b, off, rfl, hblt, e0, e1, e2, av, cv, e3, hv⟩ := HC.out.later hbw k hlt
      obtain ⟨b', off', rfl, hblt', s0⟩ := HC'.out.later hbw k hlt2
      obtain ⟨z0, z1⟩ := HSB.out k hlt2
      obtain ⟨_, ⟨p0, p1⟩, ⟨l0, l1⟩, _⟩ := HFB.out k hlt
      have HA : Hid (inTimeAt fs ss k = (decide (ss[k] < 0) || inB ss[k] fs[k].2.1 (fs[k].2.1 + fs[k].2.2.1))) := by
        show _ = _
        unfold inTimeAt
        rw [getD_at fs k _ hlt, getD_at ss k _ hlt2]
      clear hv
      generalize fs[k] = c at e0 e1 e2 e3 p0 p1 l0 l1 HA
      generalize ss[k] = z at s0 z0 z1 HA
      have k0 : (0 : Int) ≤ (k : Int) := by omega
      have k1 : (k : Int) < (fs.length : Int) := by omega
      have k2 : (k : Int) < (ss.length : Int) := by omega
      by_cases hz : 0 ≤ z
      · have hz2 : (z != -1) = true := by (rw [bne_iff_ne]; omega)
        rw [decide_eq_false (show ¬ z < 0 by omega), Bool.false_or] at HA
        cases hh : inB z c.2.1 (c.2.1 + c.2.2.1)
        · have HH := hide hh
          have HF : Hid (inTimeAt fs ss k = false) := by show _ = _; rw [HA.out, hh]
          clear hh HA
          go_wp2
          obtain ⟨W, hW, x0, x1, x2, x3, hWb⟩ := alloc4 wr (.string c.1) (.int .i64 c.2.1) (.int .i64 c.2.2.1) (.slice av c.2.2.2.length cv) 32
          rw [hW]
          have y1 := grow_cell x1
          have y2 := grow_cell x2
          have y4 := grow_cell (cell_later hWb s0)
          clear hW x0 x1 x2 x3 s0
          have hne := grow_some W
          refine wp_region_grow (by kernel_rfl) (by kernel_rfl) ?_
          repeat (go_big_quiet_step (((go_at_call 46; exact grow_same (within_val _ _ _ _ HH.out _)))))
          refine wpQuiet_nil ?_
          intro _ hw'
          obtain ⟨u, hw''⟩ := hw'
          subst hw''
          go_wp2
          go_ret
          exact ⟨congrArg (fun b => Ending.returned (.bool b)) (all_bad hlt HF.out).symm, below_two (below_two hbw hWb) u.below⟩
        · have HH := hide hh
          have HT : Hid (inTimeAt fs ss k = true) := by show _ = _; rw [HA.out, hh]
          clear hh HA
          go_wp2
          obtain ⟨W, hW, x0, x1, x2, x3, hWb⟩ := alloc4 wr (.string c.1) (.int .i64 c.2.1) (.int .i64 c.2.2.1) (.slice av c.2.2.2.length cv) 32
          rw [hW]
          have y1 := grow_cell x1
          have y2 := grow_cell x2
          have y4 := grow_cell (cell_later hWb s0)
          clear hW x0 x1 x2 x3 s0
          have hne := grow_some W
          refine wp_region_grow (by kernel_rfl) (by kernel_rfl) ?_
          repeat (go_big_quiet_step (((go_at_call 46; exact grow_same (within_val _ _ _ _ HH.out _)))))
          refine wpQuiet_nil ?_
          intro _ hw'
          obtain ⟨u, hw''⟩ := hw'
          subst hw''
          go_wp2
          go_roundw
          case rel => exact ⟨k + 1, by omega, by go_num, all_succ HK.out HT.out, below_two (below_two hbw hWb) u.below⟩
          case measure => simp [RowKit.intOf]; omega
      · have hz1 : z = -1 := by omega
        have HT : Hid (inTimeAt fs ss k = true) := by show _ = _; rw [HA.out, decide_eq_true (show z < 0 by omega)]; rfl
        clear HA hz
        subst hz1
        go_wp2
        obtain ⟨W, hW, x0, x1, x2, x3, hWb⟩ := alloc4 wr (.string c.1) (.int .i64 c.2.1) (.int .i64 c.2.2.1) (.slice av c.2.2.2.length cv) 32
        rw [hW]
        have y4 := grow_cell (cell_later hWb s0)
        clear hW x0 x1 x2 x3 s0
        have hne := grow_some W
        refine wp_region_grow (by kernel_rfl) (by kernel_rfl) ?_
        repeat (go_big_quiet_step (fail))
        refine wpQuiet_nil ?_
        intro _ hw'
        obtain ⟨u, hw''⟩ := hw'
        subst hw''
        go_wp2
        go_roundw
        case rel => exact ⟨k + 1, by omega, by go_num, all_succ HK.out HT.out, below_two (below_two hbw hWb) u.below⟩
        case measure => simp [RowKit.intOf]; omega
    · go_wp2
      go_ret
      have : k = fs.length := by omega
      subst this
      exact ⟨by unfold inTimeB; rw [HK.out]; rfl, hbw⟩

theorem alloc2 (wr : World) (a b : Value) (t : TypeId) : ∃ W, wr.alloc (.cells #[a, b] t) = W ∧ W.cell? ⟨wr.heap.size, 0, none⟩ = some a ∧ W.cell? ⟨wr.heap.size, 1, none⟩ = some b ∧ Below wr.heap.size wr W :=
  ⟨_, rfl, by simp, by simp, (Below.refl _ _).alloc (Nat.le_refl _) _⟩
theorem l2Load_val (a a' : Option Addr) (cap cap' : Nat) (fs : List Fli) (ss : List Int) (sec : ByteArray) (t : Int) (q : Int) (h : (loadTo fs ss sec t fs.length : Nat) = q) (w : World) (hc : FlightsIn w a fs) (hc' : IntsIn w a' ss) (hl : fs.length ≤ 1048576) (hvl : ∀ f ∈ fs, f.2.2.2.length ≤ 1048576) (hok : slotsB fs ss = true) :
    Calls Tryz.prog 83 #[.slice a fs.length cap, .slice a' ss.length cap', .string sec, .int .i64 t] w fun e w' => e = .returned (.int .i64 q) ∧ Below w.heap.size w w' := by rw [← h]; exact l2Load_any a a' cap cap' fs ss sec t w hc hc' hl hvl hok

set_option maxRecDepth 100000 in
set_option maxHeartbeats 3200000 in
theorem l2Full_any (sec : ByteArray) (cp : Int) (a a' : Option Addr) (cap cap' : Nat) (fs : List Fli) (ss : List Int) (w : World) (hc : FlightsIn w a fs) (hc' : IntsIn w a' ss) (hl : fs.length ≤ 1048576) (hvl : ∀ f ∈ fs, f.2.2.2.length ≤ 1048576) (hok : slotsB fs ss = true) :
    Calls Tryz.prog 67 #[.agg #[.string sec, .int .i64 cp], .slice a fs.length cap, .slice a' ss.length cap'] w fun e w' => e = .returned (.bool (fullB fs ss sec cp)) ∧ Below w.heap.size w w' := by
  obtain ⟨hln, h8, hsb, hfb⟩ := slots_bd hok
  have hln1 : fs.length ≤ ss.length := by omega
  obtain ⟨W0, hW0, c0, c1, hWb0⟩ := alloc2 w (.string sec) (.int .i64 cp) 61
  have HC := hide (hc.later hWb0)
  have HC' := hide (hc'.later hWb0)
  have HVL := hide hvl
  have HSB := hide hsb
  have HFB := hide hfb
  have HOK := hide hok
  have C0 := hide c0
  have C1 := hide c1
  have HB0 := hide hWb0
  have HW0 := hide hW0
  clear hc hc' hsb hfb hok hln hvl c0 c1 hWb0 hW0
  go_enter Tryz.func67, Tryz.ntmps67
  go_wp2
  go_loopw [7] (fun i wr => ∃ (k : Nat), k ≤ fs.length ∧ i = .int .i64 k ∧ Hid (∀ q, q < k → fullAt fs ss sec cp q = false) ∧ Hid (Below W0.heap.size W0 wr)) (fun i _ => fs.length - (RowKit.intOf i).toNat)
  case atStart => exact ⟨0, Nat.zero_le _, rfl, fun q hq => by omega, by show Below _ _ _; rw [HW0.out]; exact Below.refl _ _⟩
  case round =>
    obtain ⟨k, hk, rfl, HK, HB⟩ := hrel
    by_cases hlt : k < fs.length
    · have hlt2 : k < ss.length := by omega
      obtain ⟨b, off, rfl, hblt, _, _, _, av, cv, q3, hv⟩ := HC.out k hlt
      obtain ⟨b', off', rfl, hblt', t0⟩ := HC'.out k hlt2
      obtain ⟨z0, z1⟩ := HSB.out k hlt2
      obtain ⟨hbd, _, _, hvl0, hvl1⟩ := HFB.out k hlt
      have HA : Hid (fullAt fs ss sec cp k = (decide (0 ≤ ss[k]) && (List.range fs[k].2.2.2.length).any (fullVis fs ss sec cp fs[k].2.2.2 ss[k]))) := by
        show _ = _
        unfold fullAt
        rw [getD_at fs k _ hlt, getD_at ss k _ hlt2]
      have HV := hide hv
      have HBD := hide hbd
      have Q3 := hide q3
      have T0 := hide t0
      clear hv hbd q3 t0
      generalize fs[k] = c at Q3 HV HBD hvl0 hvl1 HA
      generalize ss[k] = z at T0 z0 z1 HA
      have k0 : (0 : Int) ≤ (k : Int) := by omega
      have k1 : (k : Int) < (fs.length : Int) := by omega
      have k2 : (k : Int) < (ss.length : Int) := by omega
      go_wp2
      go_loopw [8] (fun i wi => ∃ (j : Nat), j ≤ c.2.2.2.length ∧ (0 < j → 0 ≤ z) ∧ i = .int .i64 j ∧ Hid (∀ q, q < j → fullVis fs ss sec cp c.2.2.2 z q = false) ∧ Hid (Below W0.heap.size W0 wi)) (fun i _ => c.2.2.2.length - (RowKit.intOf i).toNat)
      case atStart => exact ⟨0, Nat.zero_le _, fun h => by omega, rfl, fun q hq => by omega, HB.out⟩
      case round =>
        obtain ⟨j, hj, hjz, rfl, HJ, HBi⟩ := hrel
        have e3 := cell_later HBi.out Q3.out
        have s0 := cell_later HBi.out T0.out
        by_cases hjl : j < c.2.2.2.length
        · by_cases hz : 0 ≤ z
          · obtain ⟨bv, ov, rfl, hbv, v0, v1, v2⟩ := HV.out.later HBi.out j hjl
            obtain ⟨⟨a0, a1⟩, a2, a3⟩ := HBD.out _ (List.getElem_mem hjl)
            have HX : Hid (fullVis fs ss sec cp c.2.2.2 z j = ((c.2.2.2[j].1.toList == sec.toList) && decide (cp < (loadTo fs ss sec (z + c.2.2.2[j].2.1) fs.length : Nat)))) := by
              show _ = _
              unfold fullVis
              rw [getD_at _ j _ hjl]
            generalize c.2.2.2[j] = v at v0 v1 v2 a0 a1 a2 a3 HX
            have hsec := cell_later HBi.out C0.out
            have hcp := cell_later HBi.out C1.out
            cases hq : (v.1.toList == sec.toList)
            · have HF : Hid (fullVis fs ss sec cp c.2.2.2 z j = false) := by show _ = _; rw [HX.out, hq]; rfl
              clear HX
              go_wp2
              obtain ⟨W, hW, x0, x1, x2, hWb⟩ := alloc3 wr (.string v.1) (.int .i64 v.2.1) (.int .i64 v.2.2) 76
              rw [hW]
              have y0 := grow_cell x0
              have y5 := grow_cell (cell_later hWb hsec)
              clear hW x0 x1 x2 hsec hcp e3 s0 v0 v1 v2
              have hne := grow_some W
              refine wp_region_grow (by kernel_rfl) (by kernel_rfl) ?_
              repeat (go_big_quiet_step (fail))
              refine wpQuiet_nil ?_
              intro _ hw'
              obtain ⟨u, hw''⟩ := hw'
              subst hw''
              go_wp2
              go_roundw
              case rel => exact ⟨j + 1, by omega, fun _ => hz, by go_num, fun q hq' => by
                by_cases e : q = j
                · rw [e]; exact HF.out
                · exact HJ.out q (by omega), below_two (below_two HBi.out hWb) u.below⟩
              case measure => simp [RowKit.intOf]; omega
            · generalize hL : ((loadTo fs ss sec (z + v.2.1) fs.length : Nat) : Int) = L at HX
              have HL := hide hL
              clear hL
              by_cases hgt : cp < L
              · have HT : Hid (fullVis fs ss sec cp c.2.2.2 z j = true) := by show _ = _; rw [HX.out, hq, decide_eq_true hgt]; rfl
                clear HX
                go_wp2
                obtain ⟨W, hW, x0, x1, x2, hWb⟩ := alloc3 wr (.string v.1) (.int .i64 v.2.1) (.int .i64 v.2.2) 76
                rw [hW]
                have y0 := grow_cell x0
                have y1 := grow_cell x1
                have y5 := grow_cell (cell_later hWb hsec)
                have y6 := grow_cell (cell_later hWb hcp)
                have y7 := grow_cell (cell_later hWb s0)
                have HCW := hide (HC.out.later (below_two HBi.out hWb))
                have HCW' := hide (HC'.out.later (below_two HBi.out hWb))
                clear hW x0 x1 x2 hsec hcp e3 s0 v0 v1 v2
                have hne := grow_some W
                refine wp_region_grow (by kernel_rfl) (by kernel_rfl) ?_
                repeat (go_big_quiet_step (((go_at_call 83; exact grow_of (l2Load_val _ _ _ _ fs ss sec _ _ HL.out _ (HCW.out.later (Grow.below _)) (HCW'.out.later (Grow.below _)) hl HVL.out HOK.out)))))
                refine wpQuiet_nil ?_
                intro _ hw'
                obtain ⟨u, hw''⟩ := hw'
                subst hw''
                go_wp2
                go_ret
                exact ⟨by unfold fullB; rw [any_yes hlt (by rw [HA.out, decide_eq_true hz, Bool.true_and]; exact any_yes hjl HT.out)]; rfl, below_two (below_two (below_two HB0.out HBi.out) hWb) u.below⟩
              · have hgt' : decide (cp < L) = false := decide_eq_false hgt
                have HF : Hid (fullVis fs ss sec cp c.2.2.2 z j = false) := by show _ = _; rw [HX.out, hgt']; simp
                clear HX hgt
                go_wp2
                obtain ⟨W, hW, x0, x1, x2, hWb⟩ := alloc3 wr (.string v.1) (.int .i64 v.2.1) (.int .i64 v.2.2) 76
                rw [hW]
                have y0 := grow_cell x0
                have y1 := grow_cell x1
                have y5 := grow_cell (cell_later hWb hsec)
                have y6 := grow_cell (cell_later hWb hcp)
                have y7 := grow_cell (cell_later hWb s0)
                have HCW := hide (HC.out.later (below_two HBi.out hWb))
                have HCW' := hide (HC'.out.later (below_two HBi.out hWb))
                clear hW x0 x1 x2 hsec hcp e3 s0 v0 v1 v2
                have hne := grow_some W
                refine wp_region_grow (by kernel_rfl) (by kernel_rfl) ?_
                repeat (go_big_quiet_step (((go_at_call 83; exact grow_of (l2Load_val _ _ _ _ fs ss sec _ _ HL.out _ (HCW.out.later (Grow.below _)) (HCW'.out.later (Grow.below _)) hl HVL.out HOK.out)))))
                refine wpQuiet_nil ?_
                intro _ hw'
                obtain ⟨u, hw''⟩ := hw'
                subst hw''
                go_wp2
                go_roundw
                case rel => exact ⟨j + 1, by omega, fun _ => hz, by go_num, fun q hq' => by
                  by_cases e : q = j
                  · rw [e]; exact HF.out
                  · exact HJ.out q (by omega), below_two (below_two HBi.out hWb) u.below⟩
                case measure => simp [RowKit.intOf]; omega
          · have hz1 : z = -1 := by omega
            have HF : Hid (fullAt fs ss sec cp k = false) := by show _ = _; rw [HA.out, decide_eq_false hz]; rfl
            have hj0 : j = 0 := by
              by_cases h : 0 < j
              · exact absurd (hjz h) hz
              · omega
            subst hj0
            clear HA hz hjz
            subst hz1
            go_wp2
            go_roundw
            case rel => exact ⟨k + 1, by omega, by go_num, fun q hq' => by
              by_cases e : q = k
              · rw [e]; exact HF.out
              · exact HK.out q (by omega), HBi.out⟩
            case measure => simp [RowKit.intOf]; omega
        · have : j = c.2.2.2.length := by omega
          subst this
          have HF : Hid (fullAt fs ss sec cp k = false) := by show _ = _; rw [HA.out, any_no HJ.out]; simp
          clear HA
          go_wp2
          go_roundw
          case rel => exact ⟨k + 1, by omega, by go_num, fun q hq' => by
            by_cases e : q = k
            · rw [e]; exact HF.out
            · exact HK.out q (by omega), HBi.out⟩
          case measure => simp [RowKit.intOf]; omega
    · go_wp2
      go_ret
      have : k = fs.length := by omega
      subst this
      exact ⟨by unfold fullB; rw [any_no HK.out]; rfl, below_two HB0.out HB.out⟩

end Go.Proofs.YtciacofibljmoaaGreatDoor

/- Whether slots fit, whole: the program's and the document's reading, walked. -/
namespace Go.Proofs.YtciacofibljmoaaGreatDoor
open Go.RowKit

/-- A slice's address leads to these runs. -/
def RunsIn (w : World) (a : Option Addr) (rs : List Run) : Prop :=
  ∀ i (hi : i < rs.length), ∃ b off, a = some ⟨b, off, none⟩ ∧ b < w.heap.size ∧ w.cell? ⟨b, off + i * 3, none⟩ = some (.int .i64 rs[i].1) ∧ w.cell? ⟨b, off + i * 3 + 1, none⟩ = some (.int .i64 rs[i].2.1) ∧ w.cell? ⟨b, off + i * 3 + 2, none⟩ = some (.int .i64 rs[i].2.2)
theorem RunsIn.later {w w' : World} {a : Option Addr} {rs : List Run} (h : RunsIn w a rs) (hb : Below w.heap.size w w') : RunsIn w' a rs := fun i hi => by
  obtain ⟨b, off, ha, hlt, h0, h1, h2⟩ := h i hi
  exact ⟨b, off, ha, Nat.lt_of_lt_of_le hlt hb.size, cell_later hb h0, cell_later hb h1, cell_later hb h2⟩
theorem runCells_at : ∀ (rs : List Run) (i : Nat) (hi : i < rs.length), (runCells rs)[i * 3]? = some (.int .i64 rs[i].1) ∧ (runCells rs)[i * 3 + 1]? = some (.int .i64 rs[i].2.1) ∧ (runCells rs)[i * 3 + 2]? = some (.int .i64 rs[i].2.2)
  | [], i, hi => by simp at hi
  | r :: rs, 0, _ => by simp [runCells]
  | r :: rs, i + 1, hi => by
    have ih := runCells_at rs i (by simpa using hi)
    have e : runCells (r :: rs) = [.int .i64 r.1, .int .i64 r.2.1, .int .i64 r.2.2] ++ runCells rs := by simp [runCells]
    rw [e, show (i + 1) * 3 = i * 3 + 3 by omega]
    simpa using ih
theorem own_runs {w : World} {base : Nat} {v : Value} {rs : List Run} (h : OwnRuns w base v rs) : ∃ a cap, v = .slice a rs.length cap ∧ RunsIn w a rs := by
  unfold OwnRuns at h
  rcases h.2 with ⟨rfl, h0⟩ | ⟨g, cap, cur, rfl, hg, hh, h1, h2, h3, h4⟩
  · exact ⟨none, 0, by rw [h0], fun i hi => by omega⟩
  · refine ⟨_, cap, rfl, fun i hi => ⟨g, 0, rfl, (Array.getElem?_eq_some_iff.1 hh).1, ?_, ?_, ?_⟩⟩
    · rw [Nat.zero_add, h.cellAt _ (by omega)]; exact (runCells_at rs i hi).1
    · rw [Nat.zero_add, h.cellAt _ (by omega)]; exact (runCells_at rs i hi).2.1
    · rw [Nat.zero_add, h.cellAt _ (by omega)]; exact (runCells_at rs i hi).2.2

theorem implCapsOk_val (a : Option Addr) (cap : Nat) (cs : List (ByteArray × Int)) (q : Bool) (h : capsB cs = q) (w : World) (hc : CapsIn w a cs) (hl : cs.length ≤ 1048576) (hs : ∀ c ∈ cs, c.1.size ≤ maxLen) :
    Calls Tryz.prog 53 #[.slice a cs.length cap] w fun e w' => e = .returned (.bool q) ∧ Below w.heap.size w w' := by rw [← h]; exact implCapsOk_any a cap cs w hc hl hs
theorem specCapsOk_val (a : Option Addr) (cap : Nat) (cs : List (ByteArray × Int)) (q : Bool) (h : capsB cs = q) (w : World) (hc : CapsIn w a cs) (hl : cs.length ≤ 1048576) (hs : ∀ c ∈ cs, c.1.size ≤ maxLen) :
    Calls Tryz.prog 65 #[.slice a cs.length cap] w fun e w' => e = .returned (.bool q) ∧ Below w.heap.size w w' := by rw [← h]; exact specCapsOk_any a cap cs w hc hl hs
theorem slotsInTime_val (a a' : Option Addr) (cap cap' : Nat) (fs : List Fli) (ss : List Int) (q : Bool) (h : inTimeB fs ss = q) (w : World) (hc : FlightsIn w a fs) (hc' : IntsIn w a' ss) (hok : slotsB fs ss = true) :
    Calls Tryz.prog 55 #[.slice a fs.length cap, .slice a' ss.length cap'] w fun e w' => e = .returned (.bool q) ∧ Below w.heap.size w w' := by rw [← h]; exact slotsInTime_any a a' cap cap' fs ss w hc hc' hok
theorem l2Full_val (sec : ByteArray) (cp : Int) (a a' : Option Addr) (cap cap' : Nat) (fs : List Fli) (ss : List Int) (q : Bool) (h : fullB fs ss sec cp = q) (w : World) (hc : FlightsIn w a fs) (hc' : IntsIn w a' ss) (hl : fs.length ≤ 1048576) (hvl : ∀ f ∈ fs, f.2.2.2.length ≤ 1048576) (hok : slotsB fs ss = true) :
    Calls Tryz.prog 67 #[.agg #[.string sec, .int .i64 cp], .slice a fs.length cap, .slice a' ss.length cap'] w fun e w' => e = .returned (.bool q) ∧ Below w.heap.size w w' := by rw [← h]; exact l2Full_any sec cp a a' cap cap' fs ss w hc hc' hl hvl hok

theorem caps_bd {cs : List (ByteArray × Int)} (h : capsB cs = true) : cs.length ≤ 6 ∧ ∀ i (hi : i < cs.length), 0 ≤ cs[i].2 ∧ cs[i].2 ≤ 20 := by
  unfold capsB at h
  simp only [Bool.and_eq_true, decide_eq_true_eq] at h
  refine ⟨h.1, fun i hi => ?_⟩
  have := all_at h.2 hi
  unfold capOkAt at this
  rw [getD_at cs i _ hi] at this
  simp only [Bool.and_eq_true] at this
  exact inB_iff.1 this.2

set_option maxRecDepth 100000 in
set_option maxHeartbeats 3200000 in
theorem specFits_any (ac a a' : Option Addr) (capc cap cap' : Nat) (cs : List (ByteArray × Int)) (fs : List Fli) (ss : List Int) (w : World) (hcc : CapsIn w ac cs) (hc : FlightsIn w a fs) (hc' : IntsIn w a' ss) (hlc : cs.length ≤ 1048576) (hl : fs.length ≤ 1048576) (hl' : ss.length ≤ 1048576)
    (hsc : ∀ c ∈ cs, c.1.size ≤ maxLen) (hvl : ∀ f ∈ fs, f.2.2.2.length ≤ 1048576) (hs : ∀ f ∈ fs, SizesOk f) :
    Calls Tryz.prog 43 #[.slice ac cs.length capc, .slice a fs.length cap, .slice a' ss.length cap'] w fun e w' => e = .returned (.bool (fitsB cs fs ss)) ∧ Below w.heap.size w w' := by
  have HCC := hide hcc
  have HC := hide hc
  have HC' := hide hc'
  have HSC := hide hsc
  have HVL := hide hvl
  have HS := hide hs
  clear hcc hc hc' hsc hvl hs
  cases hq1 : capsB cs
  · have H1 := hide hq1
    have HR : Hid (fitsB cs fs ss = false) := by show _ = _; unfold fitsB; rw [hq1]; rfl
    clear hq1
    go_enter Tryz.func43, Tryz.ntmps43
    go_wp2_with (go_at_call 65; refine (specCapsOk_val ac capc cs _ H1.out _ HCC.out hlc HSC.out).mono ?_; rintro e w1 ⟨rfl, hb1⟩)
    go_ret
    exact ⟨by rw [HR.out]; rfl, hb1⟩
  cases hq2 : slotsB fs ss
  · have H1 := hide hq1
    have H2 := hide hq2
    have HR : Hid (fitsB cs fs ss = false) := by show _ = _; unfold fitsB; rw [hq2]; simp
    clear hq1 hq2
    go_enter Tryz.func43, Tryz.ntmps43
    go_wp2_with (first | (go_at_call 65; refine (specCapsOk_val ac capc cs _ H1.out _ HCC.out hlc HSC.out).mono ?_; rintro e w1 ⟨rfl, hb1⟩; have HB1 := hide hb1; clear hb1) | (go_at_call 66; refine (l2SlotsOk_val a a' cap cap' fs ss _ H2.out _ (HC.out.later HB1.out) (HC'.out.later HB1.out) hl hl' HVL.out HS.out).mono ?_; rintro e w2 ⟨rfl, hb2⟩))
    go_ret
    exact ⟨by rw [HR.out]; rfl, below_two HB1.out hb2⟩
  have H1 := hide hq1
  have H2 := hide hq2
  obtain ⟨hln, h8, hsb, hfb⟩ := slots_bd hq2
  have hln1 : fs.length ≤ ss.length := by omega
  have HSB := hide hsb
  have HFB := hide hfb
  have D : Hid (fitsB cs fs ss = (inTimeB fs ss && roomB cs fs ss)) := by show _ = _; unfold fitsB; rw [hq1, hq2]; rfl
  clear hq1 hq2 hsb hfb hln
  go_enter Tryz.func43, Tryz.ntmps43
  go_wp2_with (first | (go_at_call 65; refine (specCapsOk_val ac capc cs _ H1.out _ HCC.out hlc HSC.out).mono ?_; rintro e w1 ⟨rfl, hb1⟩; have HB1 := hide hb1; clear hb1) | (go_at_call 66; refine (l2SlotsOk_val a a' cap cap' fs ss _ H2.out _ (HC.out.later HB1.out) (HC'.out.later HB1.out) hl hl' HVL.out HS.out).mono ?_; rintro e w2 ⟨rfl, hb2⟩; have HB2 := hide (below_two HB1.out hb2); clear hb2))
  go_loopw [7] (fun i wr => ∃ (k : Nat), k ≤ fs.length ∧ i = .int .i64 k ∧ Hid ((List.range k).all (inTimeAt fs ss) = true) ∧ Hid (Below w.heap.size w wr)) (fun i _ => fs.length - (RowKit.intOf i).toNat)
  case atStart => exact ⟨0, Nat.zero_le _, rfl, rfl, HB2.out⟩
  case round =>
    obtain ⟨k, hk, rfl, HK, HB⟩ := hrel
    by_cases hlt : k < fs.length
    · have hlt2 : k < ss.length := by omega
      obtain ⟨b, off, rfl, hblt, e0, e1, e2, av, cv, e3, hv⟩ := HC.out.later HB.out k hlt
      obtain ⟨b', off', rfl, hblt', s0⟩ := HC'.out.later HB.out k hlt2
      obtain ⟨z0, z1⟩ := HSB.out k hlt2
      obtain ⟨_, ⟨p0, p1⟩, ⟨l0, l1⟩, _⟩ := HFB.out k hlt
      have HA : Hid (inTimeAt fs ss k = (decide (ss[k] < 0) || inB ss[k] fs[k].2.1 (fs[k].2.1 + fs[k].2.2.1))) := by
        show _ = _
        unfold inTimeAt
        rw [getD_at fs k _ hlt, getD_at ss k _ hlt2]
      clear hv
      generalize fs[k] = c at e0 e1 e2 e3 p0 p1 l0 l1 HA
      generalize ss[k] = z at s0 z0 z1 HA
      have k0 : (0 : Int) ≤ (k : Int) := by omega
      have k1 : (k : Int) < (fs.length : Int) := by omega
      have k2 : (k : Int) < (ss.length : Int) := by omega
      by_cases hz : 0 ≤ z
      · rw [decide_eq_false (show ¬ z < 0 by omega), Bool.false_or] at HA
        cases hh : inB z c.2.1 (c.2.1 + c.2.2.1)
        · have HH := hide hh
          have HF : Hid (inTimeAt fs ss k = false) := by show _ = _; rw [HA.out, hh]
          clear hh HA
          go_wp2
          have y1 := grow_cell e1
          have y2 := grow_cell e2
          have y4 := grow_cell s0
          clear e0 e1 e2 e3 s0
          have hne := grow_some wr
          refine wp_region_grow (by kernel_rfl) (by kernel_rfl) ?_
          repeat (go_big_quiet_step (((go_at_call 51; exact grow_same (l1In_val _ _ _ _ HH.out _)))))
          refine wpQuiet_nil ?_
          intro _ hw'
          obtain ⟨u, hw''⟩ := hw'
          subst hw''
          go_wp2
          go_ret
          exact ⟨by rw [D.out]; unfold inTimeB; rw [all_bad hlt HF.out]; rfl, below_two HB.out u.below⟩
        · have HH := hide hh
          have HT : Hid (inTimeAt fs ss k = true) := by show _ = _; rw [HA.out, hh]
          clear hh HA
          go_wp2
          have y1 := grow_cell e1
          have y2 := grow_cell e2
          have y4 := grow_cell s0
          clear e0 e1 e2 e3 s0
          have hne := grow_some wr
          refine wp_region_grow (by kernel_rfl) (by kernel_rfl) ?_
          repeat (go_big_quiet_step (((go_at_call 51; exact grow_same (l1In_val _ _ _ _ HH.out _)))))
          refine wpQuiet_nil ?_
          intro _ hw'
          obtain ⟨u, hw''⟩ := hw'
          subst hw''
          go_wp2
          go_roundw
          case rel => exact ⟨k + 1, by omega, by go_num, all_succ HK.out HT.out, below_two HB.out u.below⟩
          case measure => simp [RowKit.intOf]; omega
      · have hz1 : z = -1 := by omega
        have HT : Hid (inTimeAt fs ss k = true) := by show _ = _; rw [HA.out, decide_eq_true (show z < 0 by omega)]; rfl
        clear HA hz
        subst hz1
        go_wp2
        have y4 := grow_cell s0
        clear e0 e1 e2 e3 s0
        have hne := grow_some wr
        refine wp_region_grow (by kernel_rfl) (by kernel_rfl) ?_
        repeat (go_big_quiet_step (fail))
        refine wpQuiet_nil ?_
        intro _ hw'
        obtain ⟨u, hw''⟩ := hw'
        subst hw''
        go_wp2
        go_roundw
        case rel => exact ⟨k + 1, by omega, by go_num, all_succ HK.out HT.out, below_two HB.out u.below⟩
        case measure => simp [RowKit.intOf]; omega
    · have : k = fs.length := by omega
      subst this
      have D2 : Hid (fitsB cs fs ss = roomB cs fs ss) := by show _ = _; rw [D.out]; unfold inTimeB; rw [HK.out]; rfl
      clear D HK
      go_wp2
      go_loopw [8] (fun i wi => ∃ (k : Nat), k ≤ cs.length ∧ i = .int .i64 k ∧ Hid ((List.range k).all (notFullAt cs fs ss) = true) ∧ Hid (Below w.heap.size w wi)) (fun i _ => cs.length - (RowKit.intOf i).toNat)
      case atStart => exact ⟨0, Nat.zero_le _, rfl, rfl, HB.out⟩
      case round =>
        obtain ⟨k, hk, rfl, HK, HBi⟩ := hrel
        by_cases hlt : k < cs.length
        · obtain ⟨b, off, rfl, hblt, e0, e1⟩ := HCC.out.later HBi.out k hlt
          have HA : Hid (notFullAt cs fs ss k = !fullB fs ss cs[k].1 cs[k].2) := by show _ = _; unfold notFullAt; rw [getD_at cs k _ hlt]
          generalize cs[k] = c at e0 e1 HA
          cases hh : fullB fs ss c.1 c.2
          · have HH := hide hh
            have HT : Hid (notFullAt cs fs ss k = true) := by show _ = _; rw [HA.out, hh]; rfl
            clear hh HA
            go_wp2_with (go_at_call 67; refine (l2Full_val c.1 c.2 a a' cap cap' fs ss _ HH.out _ (HC.out.later HBi.out) (HC'.out.later HBi.out) hl HVL.out H2.out).mono ?_; rintro e w5 ⟨rfl, hb5⟩)
            go_roundw
            case rel => exact ⟨k + 1, by omega, by go_num, all_succ HK.out HT.out, below_two HBi.out hb5⟩
            case measure => simp [RowKit.intOf]; omega
          · have HH := hide hh
            have HF : Hid (notFullAt cs fs ss k = false) := by show _ = _; rw [HA.out, hh]; rfl
            clear hh HA
            go_wp2_with (go_at_call 67; refine (l2Full_val c.1 c.2 a a' cap cap' fs ss _ HH.out _ (HC.out.later HBi.out) (HC'.out.later HBi.out) hl HVL.out H2.out).mono ?_; rintro e w5 ⟨rfl, hb5⟩)
            go_ret
            exact ⟨by rw [D2.out]; unfold roomB; rw [all_bad hlt HF.out]; rfl, below_two HBi.out hb5⟩
        · have : k = cs.length := by omega
          subst this
          go_wp2
          go_ret
          exact ⟨by rw [D2.out]; unfold roomB; rw [HK.out]; rfl, HBi.out⟩

end Go.Proofs.YtciacofibljmoaaGreatDoor

/- Whether slots fit: the program's own way, walked. -/
namespace Go.Proofs.YtciacofibljmoaaGreatDoor
open Go.RowKit

def overAt (rs : List Run) (cap : Int) (i : Nat) : Bool := decide (cap < (rs.getD i (0, 0, 0)).2.2)
theorem over_range (rs : List Run) (cap : Int) : overB rs cap = (List.range rs.length).any (overAt rs cap) := by
  rw [Bool.eq_iff_iff]
  unfold overB
  constructor
  · intro h
    obtain ⟨r, hr, hc⟩ := List.any_eq_true.1 h
    obtain ⟨i, hi, rfl⟩ := List.getElem_of_mem hr
    exact any_yes hi (by unfold overAt; rw [getD_at rs i _ hi]; exact hc)
  · intro h
    obtain ⟨i, hi, hc⟩ := List.any_eq_true.1 h
    have hi' := List.mem_range.1 hi
    unfold overAt at hc
    rw [getD_at rs i _ hi'] at hc
    exact List.any_eq_true.2 ⟨rs[i], List.getElem_mem hi', hc⟩

/-- The runs of a sector, by the program: both steps together. -/
theorem changes_hyps {fs : List Fli} {ss : List Int} (h : slotsB fs ss = true) (sec : ByteArray) :
    (∀ x, isEnd (spansTo fs ss sec fs.length) x → 0 ≤ x ∧ x ≤ 20000) ∧ ∀ x, -1000 ≤ dAt (spansTo fs ss sec fs.length) x ∧ dAt (spansTo fs ss sec fs.length) x ≤ 1000 := by
  obtain ⟨_, h8, _, hfb⟩ := slots_bd h
  refine ⟨fun x ⟨p, hp, hh⟩ => ?_, fun x => ?_⟩
  · have := spansTo_bd h (Nat.le_refl _) p hp
    omega
  · have h1 := dAt_bd (spansTo fs ss sec fs.length) x
    have h2 := spansTo_len hfb (ss := ss) (sec := sec) fs.length (Nat.le_refl _)
    omega

set_option maxRecDepth 100000 in
set_option maxHeartbeats 3200000 in
theorem implFits_any (ac a a' : Option Addr) (capc cap cap' : Nat) (cs : List (ByteArray × Int)) (fs : List Fli) (ss : List Int) (w : World) (hcc : CapsIn w ac cs) (hc : FlightsIn w a fs) (hc' : IntsIn w a' ss) (hlc : cs.length ≤ 1048576) (hl : fs.length ≤ 1048576) (hl' : ss.length ≤ 1048576)
    (hsc : ∀ c ∈ cs, c.1.size ≤ maxLen) (hvl : ∀ f ∈ fs, f.2.2.2.length ≤ 1048576) (hs : ∀ f ∈ fs, SizesOk f) :
    Calls Tryz.prog 35 #[.slice ac cs.length capc, .slice a fs.length cap, .slice a' ss.length cap'] w fun e w' => e = .returned (.bool (fitsB cs fs ss)) ∧ Below w.heap.size w w' := by
  have HCC := hide hcc
  have HC := hide hc
  have HC' := hide hc'
  have HSC := hide hsc
  have HVL := hide hvl
  have HS := hide hs
  clear hcc hc hc' hsc hvl hs
  cases hq1 : capsB cs
  · have H1 := hide hq1
    have HR : Hid (fitsB cs fs ss = false) := by show _ = _; unfold fitsB; rw [hq1]; rfl
    clear hq1
    go_enter Tryz.func35, Tryz.ntmps35
    go_wp2_with (go_at_call 53; refine (implCapsOk_val ac capc cs _ H1.out _ HCC.out hlc HSC.out).mono ?_; rintro e w1 ⟨rfl, hb1⟩)
    go_ret
    exact ⟨by rw [HR.out]; rfl, hb1⟩
  cases hq2 : slotsB fs ss
  · have H1 := hide hq1
    have H2 := hide hq2
    have HR : Hid (fitsB cs fs ss = false) := by show _ = _; unfold fitsB; rw [hq2]; simp
    clear hq1 hq2
    go_enter Tryz.func35, Tryz.ntmps35
    go_wp2_with (first | (go_at_call 53; refine (implCapsOk_val ac capc cs _ H1.out _ HCC.out hlc HSC.out).mono ?_; rintro e w1 ⟨rfl, hb1⟩; have HB1 := hide hb1; clear hb1) | (go_at_call 54; refine (slotsOk_val a a' cap cap' fs ss _ H2.out _ (HC.out.later HB1.out) (HC'.out.later HB1.out) hl hl' HVL.out HS.out).mono ?_; rintro e w2 ⟨rfl, hb2⟩))
    go_ret
    exact ⟨by rw [HR.out]; rfl, below_two HB1.out hb2⟩
  cases hq3 : inTimeB fs ss
  · have H1 := hide hq1
    have H2 := hide hq2
    have H3 := hide hq3
    have HR : Hid (fitsB cs fs ss = false) := by show _ = _; unfold fitsB; rw [hq3]; simp
    clear hq1 hq2 hq3
    go_enter Tryz.func35, Tryz.ntmps35
    go_wp2_with (first | (go_at_call 53; refine (implCapsOk_val ac capc cs _ H1.out _ HCC.out hlc HSC.out).mono ?_; rintro e w1 ⟨rfl, hb1⟩; have HB1 := hide hb1; clear hb1) | (go_at_call 54; refine (slotsOk_val a a' cap cap' fs ss _ H2.out _ (HC.out.later HB1.out) (HC'.out.later HB1.out) hl hl' HVL.out HS.out).mono ?_; rintro e w2 ⟨rfl, hb2⟩; have HB2 := hide (below_two HB1.out hb2); clear hb2) | (go_at_call 55; refine (slotsInTime_val a a' cap cap' fs ss _ H3.out _ (HC.out.later HB2.out) (HC'.out.later HB2.out) H2.out).mono ?_; rintro e w3 ⟨rfl, hb3⟩))
    go_ret
    exact ⟨by rw [HR.out]; rfl, below_two HB2.out hb3⟩
  have H1 := hide hq1
  have H2 := hide hq2
  have H3 := hide hq3
  obtain ⟨hc6, hcb⟩ := caps_bd hq1
  have HCB := hide hcb
  have D : Hid (fitsB cs fs ss = roomB cs fs ss) := by show _ = _; unfold fitsB; rw [hq1, hq2, hq3]; rfl
  clear hq1 hq2 hq3 hcb
  go_enter Tryz.func35, Tryz.ntmps35
  go_wp2_with (first | (go_at_call 53; refine (implCapsOk_val ac capc cs _ H1.out _ HCC.out hlc HSC.out).mono ?_; rintro e w1 ⟨rfl, hb1⟩; have HB1 := hide hb1; clear hb1) | (go_at_call 54; refine (slotsOk_val a a' cap cap' fs ss _ H2.out _ (HC.out.later HB1.out) (HC'.out.later HB1.out) hl hl' HVL.out HS.out).mono ?_; rintro e w2 ⟨rfl, hb2⟩; have HB2 := hide (below_two HB1.out hb2); clear hb2) | (go_at_call 55; refine (slotsInTime_val a a' cap cap' fs ss _ H3.out _ (HC.out.later HB2.out) (HC'.out.later HB2.out) H2.out).mono ?_; rintro e w3 ⟨rfl, hb3⟩; have HB3 := hide (below_two HB2.out hb3); clear hb3))
  go_loopw [28] (fun i wr => ∃ (k : Nat), k ≤ cs.length ∧ i = .int .i64 k ∧ Hid ((List.range k).all (notFullAt cs fs ss) = true) ∧ Hid (Below w.heap.size w wr)) (fun i _ => cs.length - (RowKit.intOf i).toNat)
  case atStart => exact ⟨0, Nat.zero_le _, rfl, rfl, HB3.out⟩
  case round =>
    obtain ⟨k, hk, rfl, HK, HB⟩ := hrel
    by_cases hlt : k < cs.length
    · obtain ⟨b, off, rfl, hblt, e0, e1⟩ := HCC.out.later HB.out k hlt
      obtain ⟨cb0, cb1⟩ := HCB.out k hlt
      have HA : Hid (notFullAt cs fs ss k = !fullB fs ss cs[k].1 cs[k].2) := by show _ = _; unfold notFullAt; rw [getD_at cs k _ hlt]
      generalize cs[k] = c at e0 e1 HA cb0 cb1
      rw [← over_full H2.out c.1 cb0] at HA
      have HHY := hide (changes_hyps H2.out c.1)
      obtain ⟨W, hW, x0, x1, hWb⟩ := alloc2 wr (.string c.1) (.int .i64 c.2) 61
      have X1 := hide x1
      have HLT : Hid (∀ (wx : World) (v : Value), wx.cell? ⟨wr.heap.size, 1, none⟩ = some v → wr.heap.size < wx.heap.size) := fun wx v h => World.block_lt_of_cell? wx ⟨wr.heap.size, 1, none⟩ h
      have HWB := hide hWb
      have HW := hide hW
      clear x0 x1 hWb hW
      go_wp2_with fail
      rw [HW.out]
      refine (loadChanges_any a a' cap cap' fs ss c.1 W (HC.out.later (below_two HB.out HWB.out)) (HC'.out.later (below_two HB.out HWB.out)) H2.out).mono ?_
      rintro e w4 ⟨rfl, ⟨n, DD, hn, hchg⟩, hb4⟩
      have HCH := hide hchg
      have HB4 := hide hb4
      clear hchg hb4
      go_wp2_with fail
      refine (runsOf_any W.heap.size n DD _ _ w4 HCH.out (by omega) HHY.out.1 HHY.out.2).mono ?_
      rintro e w5 ⟨v, zs, rfl, hz, hm, hor, hle, hb5⟩
      rw [impl_runs H2.out hz hm] at hor hle
      obtain ⟨ar, cr, rfl, hri⟩ := own_runs hor
      have HRI := hide hri
      have HB5 := hide (below_two HB4.out hb5)
      have hX := cell_later hb5 (cell_later HB4.out X1.out)
      have HX := hide hX
      rw [over_range] at HA
      clear hz hm hor hri hb5 hX HCH HHY
      generalize runsL fs ss c.1 = rs at HA HRI hle
      have hBase := hide (below_two (below_two HB.out HWB.out) HB5.out)
      go_wp2
      go_loopw [39] (fun i wi => ∃ (j : Nat), j ≤ rs.length ∧ i = .int .i64 j ∧ Hid (∀ q, q < j → overAt rs c.2 q = false) ∧ Hid (Below w5.heap.size w5 wi)) (fun i _ => rs.length - (RowKit.intOf i).toNat)
      case atStart => exact ⟨0, Nat.zero_le _, rfl, fun q hq => by omega, Below.refl _ _⟩
      case round =>
        obtain ⟨j, hj, rfl, HJ, HBi⟩ := hrel
        by_cases hjl : j < rs.length
        · obtain ⟨br, orr, rfl, hbr, r0, r1, r2⟩ := HRI.out.later HBi.out j hjl
          have hcap := cell_later HBi.out HX.out
          have hlt6 := HLT.out _ _ hcap
          have HO : Hid (overAt rs c.2 j = decide (c.2 < rs[j].2.2)) := by show _ = _; unfold overAt; rw [getD_at rs j _ hjl]
          generalize rs[j] = r at r0 r1 r2 HO
          by_cases hgt : c.2 < r.2.2
          · have HT : Hid (overAt rs c.2 j = true) := by show _ = _; rw [HO.out, decide_eq_true hgt]
            have HF : Hid (notFullAt cs fs ss k = false) := by show _ = _; rw [HA.out, any_yes hjl HT.out]; rfl
            clear HO HA
            go_wp2
            go_ret
            exact ⟨by rw [D.out]; unfold roomB; rw [all_bad hlt HF.out]; rfl, (below_two hBase.out HBi.out).alloc (below_two hBase.out HBi.out).size _⟩
          · have hgt' : decide (c.2 < r.2.2) = false := decide_eq_false hgt
            have HF : Hid (overAt rs c.2 j = false) := by show _ = _; rw [HO.out, hgt']
            clear HO
            go_wp2
            go_roundw
            case rel => exact ⟨j + 1, by omega, by go_num, fun q hq' => by
              by_cases e : q = j
              · rw [e]; exact HF.out
              · exact HJ.out q (by omega), HBi.out.alloc HBi.out.size _⟩
            case measure => simp [RowKit.intOf]; omega
        · have : j = rs.length := by omega
          subst this
          have HT : Hid (notFullAt cs fs ss k = true) := by show _ = _; rw [HA.out, any_no HJ.out]; rfl
          go_wp2
          go_roundw
          case rel => exact ⟨k + 1, by omega, by go_num, all_succ HK.out HT.out, below_two hBase.out HBi.out⟩
          case measure => simp [RowKit.intOf]; omega
    · go_wp2
      go_ret
      have : k = cs.length := by omega
      subst this
      exact ⟨by rw [D.out]; unfold roomB; rw [HK.out]; rfl, HB.out⟩

end Go.Proofs.YtciacofibljmoaaGreatDoor
