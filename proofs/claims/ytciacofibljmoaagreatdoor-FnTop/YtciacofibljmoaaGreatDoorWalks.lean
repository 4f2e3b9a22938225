/- No sector has more than it can guide, looked up tick by tick by the law. -/
import Derived.Test.YtciacofibljmoaaGreatDoorMathsB
import Derived.Test.YtciacofibljmoaaGreatDoorTops
import Derived.Test.YtciacofibljmoaaGreatDoorAdds
import Derived.Test.YtciacofibljmoaaGreatDoorSpecAdd
import Derived.Test.YtciacofibljmoaaGreatDoorOpensB
namespace Go.Proofs.YtciacofibljmoaaGreatDoor
open Go.RowKit

set_option maxHeartbeats 1600000 in
theorem wIn_any (f : Fli) (av : Option Addr) (cv : Nat) (slot : Int) (sec : ByteArray) (t : Int) (w : World) (hv : VisitsIn w av f.2.2.2) (hl : f.2.2.2.length ≤ 1048576) (hbd : VisBd f.2.2.2) (hs0 : 0 ≤ slot) (hs1 : slot ≤ 10060) :
    Calls Tryz.prog 36 #[.agg #[.string f.1, .int .i64 f.2.1, .int .i64 f.2.2.1, .slice av f.2.2.2.length cv], .int .i64 slot, .string sec, .int .i64 t] w fun e w' => e = .returned (.bool (hasB f.2.2.2 slot sec t)) ∧ Below w.heap.size w w' := by
  obtain ⟨s, n, m, vs⟩ := f
  simp only at hv hl hbd ⊢
  obtain ⟨W, hW, _, _, _, x3, hWb⟩ := alloc4 w (.string s) (.int .i64 n) (.int .i64 m) (.slice av vs.length cv) 32
  go_enter Tryz.func36, Tryz.ntmps36
  go_wp2
  go_loopw [9] (fun i wr => ∃ (k : Nat), k ≤ vs.length ∧ i = .int .i64 k ∧ Hid (∀ j, j < k → hasAt vs slot sec t j = false) ∧ Below W.heap.size W wr) (fun i _ => vs.length - (intOf i).toNat)
  case atStart => exact ⟨0, Nat.zero_le _, rfl, fun j hj => by omega, by first | exact Below.refl _ _ | (rw [← hW]; exact Below.refl _ _)⟩
  case round =>
    obtain ⟨k, hk, rfl, HK, hbw⟩ := hrel
    have x3' := cell_later hbw x3
    have hBW := hide (below_two hWb hbw)
    by_cases hlt : k < vs.length
    · obtain ⟨b, off, rfl, hblt, e0, e1, e2⟩ := (hv.later hWb).later hbw k hlt
      obtain ⟨⟨b0, b1⟩, b2, b3⟩ := hbd _ (List.getElem_mem hlt)
      have HA : Hid (hasAt vs slot sec t k = ((vs[k].1.toList == sec.toList) && inB t (slot + vs[k].2.1) (slot + vs[k].2.1 + vs[k].2.2 - 1))) := by
        show _ = _
        unfold hasAt
        rw [getD_at vs k _ hlt]
      clear hv hbd hW x3 hWb
      generalize vs[k] = c at e0 e1 e2 HA b0 b1 b2 b3
      have step : ∀ (_ : hasAt vs slot sec t k = false), ∀ j, j < k + 1 → hasAt vs slot sec t j = false := fun h j hj => by
        by_cases ej : j = k
        · rw [ej]; exact h
        · exact HK.out j (by omega)
      have STEP := hide step
      clear step
      cases hq : (c.1.toList == sec.toList)
      · have HF : Hid (hasAt vs slot sec t k = false) := by show _ = _; rw [HA.out, hq]; rfl
        clear HA
        go_wp2
        go_roundw
        case rel => exact ⟨k + 1, by omega, by go_num, STEP.out HF.out, hbw⟩
        case measure => simp [intOf]; omega
      · by_cases hi : slot + c.2.1 ≤ t
        · by_cases hj : t < slot + c.2.1 + c.2.2
          · have HT : Hid (hasAt vs slot sec t k = true) := by show _ = _; rw [HA.out, inB_eq, hq, decide_eq_true (by omega)]; rfl
            clear HA
            go_wp2
            go_ret
            exact ⟨by unfold hasB; rw [any_yes hlt HT.out]; rfl, hBW.out⟩
          · have HF : Hid (hasAt vs slot sec t k = false) := by show _ = _; rw [HA.out, inB_eq, hq, decide_eq_false (by omega)]; rfl
            clear HA
            go_wp2
            go_roundw
            case rel => exact ⟨k + 1, by omega, by go_num, STEP.out HF.out, hbw⟩
            case measure => simp [intOf]; omega
        · have HF : Hid (hasAt vs slot sec t k = false) := by show _ = _; rw [HA.out, inB_eq, hq, decide_eq_false (by omega)]; rfl
          clear HA
          go_wp2
          go_roundw
          case rel => exact ⟨k + 1, by omega, by go_num, STEP.out HF.out, hbw⟩
          case measure => simp [intOf]; omega
    · clear hW x3 hWb
      go_wp2
      go_ret
      have : k = vs.length := by omega
      subst this
      exact ⟨by unfold hasB; rw [any_no HK.out]; rfl, hBW.out⟩
theorem wIn_val (f : Fli) (av : Option Addr) (cv : Nat) (slot : Int) (sec : ByteArray) (t : Int) (q : Bool) (h : hasB f.2.2.2 slot sec t = q) (w : World) (hv : VisitsIn w av f.2.2.2) (hl : f.2.2.2.length ≤ 1048576) (hbd : VisBd f.2.2.2) (hs0 : 0 ≤ slot) (hs1 : slot ≤ 10060) :
    Calls Tryz.prog 36 #[.agg #[.string f.1, .int .i64 f.2.1, .int .i64 f.2.2.1, .slice av f.2.2.2.length cv], .int .i64 slot, .string sec, .int .i64 t] w fun e w' => e = .returned (.bool q) ∧ Below w.heap.size w w' := by rw [← h]; exact wIn_any f av cv slot sec t w hv hl hbd hs0 hs1

theorem capsB_bd {cs : List (ByteArray × Int)} (h : capsB cs = true) : ∀ i (hi : i < cs.length), 0 ≤ cs[i].2 ∧ cs[i].2 ≤ 20 := fun i hi => by
  unfold capsB at h
  simp only [Bool.and_eq_true] at h
  have := List.all_eq_true.1 h.2 i (List.mem_range.2 hi)
  unfold capOkAt at this
  simp only [Bool.and_eq_true] at this
  have h3 := this.2
  rw [getD_at cs i _ hi, inB_eq] at h3
  simpa using h3

set_option maxRecDepth 100000 in
set_option maxHeartbeats 3200000 in
theorem wOver_no (ac a a' : Option Addr) (capc cap cap' : Nat) (cs : List (ByteArray × Int)) (fs : List Fli) (ss : List Int) (from' : Int) (w : World) (hcc : CapsIn w ac cs) (hc : FlightsIn w a fs) (hc' : IntsIn w a' ss) (hfit : fitsB cs fs ss = true) (hvl : ∀ f ∈ fs, f.2.2.2.length ≤ 1048576) (hlc : cs.length ≤ 1048576) (hf0 : 0 ≤ from') (hf1 : from' ≤ 10000) :
    Calls Tryz.prog 14 #[.agg #[.slice ac cs.length capc, .slice a fs.length cap, .slice a' ss.length cap'], .int .i64 from'] w fun e w' => e = .returned (.bool false) ∧ Below w.heap.size w w' := by
  have hok : slotsB fs ss = true := by
    unfold fitsB at hfit
    simp only [Bool.and_eq_true] at hfit
    exact hfit.1.1.2
  have hcb : capsB cs = true := by
    unfold fitsB at hfit
    simp only [Bool.and_eq_true] at hfit
    exact hfit.1.1.1
  obtain ⟨hln, h8, hsb, hfb⟩ := slots_bd hok
  obtain ⟨W, hW, x0, x1, x2, hWb⟩ := alloc3 w (.slice ac cs.length capc) (.slice a fs.length cap) (.slice a' ss.length cap') 29
  have HX0 := hide x0
  have HX1 := hide x1
  have HX2 := hide x2
  have HWB := hide hWb
  have HCC := hide (hcc.later hWb)
  have HC := hide (hc.later hWb)
  have HC' := hide (hc'.later hWb)
  have HVL := hide hvl
  have HSB := hide hsb
  have HFB := hide hfb
  have HLD := hide (fun i (hi : i < cs.length) (t : Int) (h0 : 0 ≤ t) (h1 : t < 20001) => fits_load (ss := ss) hfit (fun i hi => (capsB_bd hcb i hi).1) hi h0 h1)
  have hln1 : fs.length ≤ ss.length := by omega
  clear x0 x1 x2 hWb hcc hc hc' hvl hsb hfb hok hcb hln hfit
  go_enter Tryz.func14, Tryz.ntmps14
  go_wp2
  go_loopw [5] (fun i wr => ∃ (k : Nat), k ≤ cs.length ∧ i = .int .i64 k ∧ Hid (Below W.heap.size W wr)) (fun i _ => cs.length - (intOf i).toNat)
  case atStart => exact ⟨0, Nat.zero_le _, rfl, by first | exact Below.refl _ _ | (rw [← hW]; exact Below.refl _ _)⟩
  case round =>
    obtain ⟨ci, hci, rfl, HB⟩ := hrel
    clear hW
    have x0 := cell_later HB.out HX0.out
    by_cases hlt : ci < cs.length
    · have hlt' : (ci : Int) < (cs.length : Int) := by omega
      obtain ⟨cb, co, rfl, _⟩ := HCC.out ci hlt
      have HCV : Hid (∀ wx : World, Below W.heap.size W wx → wx.cell? ⟨cb, co + ci * 2, none⟩ = some (.string cs[ci].1) ∧ wx.cell? ⟨cb, co + ci * 2 + 1, none⟩ = some (.int .i64 cs[ci].2)) := fun wx hx => by
        obtain ⟨b9, o9, e9, _, q0, q1⟩ := (HCC.out.later hx) ci hlt
        simp at e9
        obtain ⟨rfl, rfl⟩ := e9
        exact ⟨q0, q1⟩
      have HLDC := hide (HLD.out ci hlt)
      generalize cs[ci] = cc at HCV HLDC
      have ci0 : (0 : Int) ≤ (ci : Int) := by omega
      go_wp2
      go_loopw [6] (fun t wr => ∃ (j : Nat), j ≤ 90 ∧ t = .int .i64 (from' + (j : Int)) ∧ Hid (Below W.heap.size W wr)) (fun t _ => (from' + 90 - intOf t).toNat)
      case atStart => exact ⟨0, by omega, by simp, HB.out⟩
      case round =>
        obtain ⟨j, hj, rfl, HB2⟩ := hrel
        clear HB x0
        by_cases hjl : j < 90
        · have hjl' : from' + (j : Int) < from' + 90 := by omega
          go_wp2
          go_loopw [7, 8] (fun n i wr => ∃ (k : Nat), k ≤ fs.length ∧ i = .int .i64 k ∧ n = .int .i64 (loadTo fs ss cc.1 (from' + (j : Int)) k : Nat) ∧ Hid (Below W.heap.size W wr)) (fun _ i _ => fs.length - (intOf i).toNat)
          case atStart => exact ⟨0, Nat.zero_le _, rfl, rfl, HB2.out⟩
          case round =>
            obtain ⟨k, hk, rfl, rfl, HB3⟩ := hrel
            clear HB2
            have x0 := cell_later HB3.out HX0.out
            have x1 := cell_later HB3.out HX1.out
            have x2 := cell_later HB3.out HX2.out
            obtain ⟨q0, q1⟩ := HCV.out _ HB3.out
            by_cases hkl : k < fs.length
            · have hlt2 : k < ss.length := by omega
              obtain ⟨b, off, rfl, hblt, e0, e1, e2, av, cv, e3, hv⟩ := HC.out.later HB3.out k hkl
              obtain ⟨b', off', rfl, hblt', s0⟩ := HC'.out.later HB3.out k hlt2
              obtain ⟨z0, z1⟩ := HSB.out k hlt2
              have hbd := (HFB.out k hkl).1
              have hvk := HVL.out _ (List.getElem_mem hkl)
              have HA : Hid (flyAt fs ss cc.1 (from' + (j : Int)) k = (decide (0 ≤ ss[k]) && hasB fs[k].2.2.2 ss[k] cc.1 (from' + (j : Int)))) := by
                show _ = _
                unfold flyAt
                rw [getD_at fs k _ hkl, getD_at ss k _ hlt2]
              have HV := hide hv
              have HBD := hide hbd
              clear hv hbd
              generalize fs[k] = c at e0 e1 e2 e3 HV HBD hvk HA
              generalize ss[k] = z at s0 z0 z1 HA
              have hle := loadTo_le fs ss cc.1 (from' + (j : Int)) k
              have k0 : (0 : Int) ≤ (k : Int) := by omega
              have k1 : (k : Int) < (fs.length : Int) := by omega
              have k2 : (k : Int) < (ss.length : Int) := by omega
              by_cases hz : 0 ≤ z
              · cases hh : hasB c.2.2.2 z cc.1 (from' + (j : Int))
                · have HH := hide hh
                  have HN : Hid (loadTo fs ss cc.1 (from' + (j : Int)) (k + 1) = loadTo fs ss cc.1 (from' + (j : Int)) k) := loadTo_no (by rw [HA.out, hh]; simp)
                  clear hh HA
                  generalize loadTo fs ss cc.1 (from' + (j : Int)) k = n at hle HN
                  go_wp2
                  have y0 := grow_cell e0
                  have y1 := grow_cell e1
                  have y2 := grow_cell e2
                  have y3 := grow_cell e3
                  have y4 := grow_cell s0
                  have y5 := grow_cell x0
                  have y6 := grow_cell x1
                  have y7 := grow_cell x2
                  have y8 := grow_cell q0
                  have hne := grow_some wr
                  refine wp_region_grow (by kernel_rfl) (by kernel_rfl) ?_
                  repeat (go_big_quiet_step (((go_at_call 36; exact grow_of (wIn_val c av cv _ _ _ _ HH.out _ (HV.out.later (Grow.below _)) hvk HBD.out hz z1)))))
                  refine wpQuiet_nil ?_
                  intro _ hw'
                  obtain ⟨u, hw''⟩ := hw'
                  subst hw''
                  go_wp2
                  go_roundw
                  case rel => exact ⟨k + 1, by omega, by go_num, by rw [HN.out], below_two HB3.out u.below⟩
                  case measure => simp [intOf]; omega
                · have HH := hide hh
                  have HN : Hid (loadTo fs ss cc.1 (from' + (j : Int)) (k + 1) = loadTo fs ss cc.1 (from' + (j : Int)) k + 1) := loadTo_yes (by rw [HA.out, hh, decide_eq_true hz]; rfl)
                  clear hh HA
                  generalize loadTo fs ss cc.1 (from' + (j : Int)) k = n at hle HN
                  go_wp2
                  have y0 := grow_cell e0
                  have y1 := grow_cell e1
                  have y2 := grow_cell e2
                  have y3 := grow_cell e3
                  have y4 := grow_cell s0
                  have y5 := grow_cell x0
                  have y6 := grow_cell x1
                  have y7 := grow_cell x2
                  have y8 := grow_cell q0
                  have hne := grow_some wr
                  refine wp_region_grow (by kernel_rfl) (by kernel_rfl) ?_
                  repeat (go_big_quiet_step (((go_at_call 36; exact grow_of (wIn_val c av cv _ _ _ _ HH.out _ (HV.out.later (Grow.below _)) hvk HBD.out hz z1)))))
                  refine wpQuiet_nil ?_
                  intro _ hw'
                  obtain ⟨u, hw''⟩ := hw'
                  subst hw''
                  go_wp2
                  go_roundw
                  case rel => exact ⟨k + 1, by omega, by go_num, by rw [HN.out]; go_num, below_two HB3.out u.below⟩
                  case measure => simp [intOf]; omega
              · have hz1 : z = -1 := by omega
                have HN : Hid (loadTo fs ss cc.1 (from' + (j : Int)) (k + 1) = loadTo fs ss cc.1 (from' + (j : Int)) k) := loadTo_no (by rw [HA.out, decide_eq_false hz]; rfl)
                clear HA hz
                subst hz1
                generalize loadTo fs ss cc.1 (from' + (j : Int)) k = n at hle HN
                go_wp2
                have y0 := grow_cell e0
                have y1 := grow_cell e1
                have y2 := grow_cell e2
                have y3 := grow_cell e3
                have y4 := grow_cell s0
                have y5 := grow_cell x0
                have y6 := grow_cell x1
                have y7 := grow_cell x2
                have y8 := grow_cell q0
                have hne := grow_some wr
                refine wp_region_grow (by kernel_rfl) (by kernel_rfl) ?_
                repeat (go_big_quiet_step (fail))
                refine wpQuiet_nil ?_
                intro _ hw'
                obtain ⟨u, hw''⟩ := hw'
                subst hw''
                go_wp2
                go_roundw
                case rel => exact ⟨k + 1, by omega, by go_num, by rw [HN.out], below_two HB3.out u.below⟩
                case measure => simp [intOf]; omega
            · have hkn : k = fs.length := by omega
              subst hkn
              have HL := HLDC.out (from' + (j : Int)) (by omega) (by omega)
              have hle := loadTo_le fs ss cc.1 (from' + (j : Int)) fs.length
              generalize loadTo fs ss cc.1 (from' + (j : Int)) fs.length = n at HL hle
              have hnc : ¬ cc.2 < (n : Int) := by omega
              go_wp2
              go_roundw
              case rel => exact ⟨j + 1, by omega, by simp; omega, HB3.out⟩
              case measure => simp [intOf]; omega
        · have hjl' : ¬ from' + (j : Int) < from' + 90 := by omega
          go_wp2
          go_roundw
          case rel => exact ⟨ci + 1, by omega, by go_num, HB2.out⟩
          case measure => simp [intOf]; omega
    · go_wp2
      go_ret
      exact ⟨rfl, below_two HWB.out HB.out⟩

end Go.Proofs.YtciacofibljmoaaGreatDoor

/- The law of books, walked through: flights come and go. -/
namespace Go.Proofs.YtciacofibljmoaaGreatDoor
open Go.RowKit

set_option maxRecDepth 100000 in
set_option maxHeartbeats 6400000 in
theorem fnTop_walk (a0 : Option Addr) (n0 c0 : Nat) (w : World) (hg : ErrT w) (hb0 : BytesIn w.heap.size w a0 n0) (h0 : n0 ≤ c0) (h0' : c0 ≤ maxLen) :
    Calls Tryz.prog 3 #[.slice a0 n0 c0] w fun e w' => e = .returned (.bool true) ∧ Below w.heap.size w w' := by
  have HG := hide hg
  have HB0 := hide hb0
  have H0 := hide h0'
  unfold maxLen at h0'
  clear hb0 hg
  by_cases g0 : (1048576 : Int) < (n0 : Int)
  · go_enter Tryz.func3, Tryz.ntmps3
    go_wp2
    go_ret
    exact ⟨rfl, Below.refl _ _⟩
  go_enter Tryz.func3, Tryz.ntmps3
  go_wp2_with fail
  refine (drawEvents_any a0 n0 c0 w (l1Open_any a0 n0 c0 w HB0.out h0 H0.out)).mono ?_
  rintro e w1 ⟨ac, capc, cs, ev, cev, gs, rfl, hci, hcb, hcz, hfi, hg13, hev, hb1⟩
  have HEV : Hid (∀ f ∈ gs.map Prod.fst, (FlSm 3 f ∧ 1 ≤ f.2.2.2.length) ∨ f.2.2.2 = []) := fun f hf => by
    obtain ⟨x, hx, rfl⟩ := List.mem_map.1 hf
    rcases hev x hx with h | h
    · exact .inl h
    · exact .inr h.1
  obtain ⟨es, hes⟩ : ∃ es, gs.map Prod.fst = es := ⟨_, rfl⟩
  have hgl : gs.length = es.length := by rw [← hes]; simp
  have hel : es.length ≤ 13 := by omega
  rw [hes] at HEV hfi
  rw [hgl]
  have HCI := hide hci
  have HFI := hide hfi
  have FT0 := hide (fits_nobody hcb)
  have SM0 := hide (sm_nobody hcb hcz)
  have B1 := hide hb1
  have HG1 := hide (HG.out.later hb1)
  clear hci hcb hcz hfi hg13 hev hb1 hes hgl HG
  obtain ⟨V, hV, hVs, kV, bV⟩ := bk_newT w1 (.slice ac cs.length capc) (.slice none 0 0) (.slice none 0 0)
  have HV := hide hV
  have KV := hide kV
  have BV := hide bV
  clear hV kV bV
  go_upto_region 5 with fail
  rw [HV.out]
  go_wp2_with fail
  go_loopw [6] (fun ii wr => ∃ (k : Nat) (bc b b' : Option Addr) (cc cb cb' : Nat) (fs : List Fli) (ss : List Int), k ≤ es.length ∧ ii = .int .i64 k ∧ Hid (BkAt wr w1.heap.size (.slice bc cs.length cc) (.slice b fs.length cb) (.slice b' ss.length cb')) ∧ Hid (BookIn wr bc b b' cs fs ss) ∧ Hid (fitsB cs fs ss = true) ∧ Hid (BookSm cs fs ss) ∧ Hid (Below w1.heap.size w1 wr)) (fun ii _ => es.length - (intOf ii).toNat)
  case atStart => exact ⟨0, ac, none, none, capc, 0, 0, [], [], Nat.zero_le _, rfl, KV.out, (in_nobody HCI.out).later BV.out, FT0.out, SM0.out, BV.out⟩
  case round =>
    obtain ⟨k, bc, b, b', cc, cb, cb', fs, ss, hk, rfl, KB, BI, FT, SM, BW⟩ := hrel
    have hwr := KB.out.lt
    by_cases hlt : k < es.length
    · have k0 : (0 : Int) ≤ (k : Int) := by omega
      have k1 : (k : Int) < (es.length : Int) := by omega
      obtain ⟨g, off, rfl, hblt, e0, e1, e2, av, cv, e3, hvis⟩ := (HFI.out.later BW.out) k hlt
      have HEK := hide (HEV.out _ (List.getElem_mem hlt))
      generalize es[k] = f at e0 e1 e2 e3 hvis HEK
      obtain ⟨nm, pl, lt, vs⟩ := f
      simp only at e0 e1 e2 e3 hvis
      have HVI := hide hvis
      obtain ⟨W, hW, hWs, fW, bW⟩ := fl_newT wr (.string nm) (.int .i64 pl) (.int .i64 lt) (.slice av vs.length cv)
      have HW := hide hW
      have FW := hide fW
      have WB := hide bW
      clear hW fW bW hvis
      go_upto_region 9 with fail
      rw [HW.out]
      clear e0 e1 e2 e3
      obtain ⟨y0, y1, y2, y3⟩ := FW.out W (Below.refl _ _)
      obtain ⟨x0, x1, x2, -⟩ := (KB.out.later WB.out).cells
      by_cases hv0 : vs.length = 0
      · have hvs0 : ((vs.length : Int) == 0) = true := by simp [hv0]
        have DA := drop_all FT.out nm
        have DS := drop_small nm SM.out
        have IM := fun (X : World) (h1 : ErrT X) (h2 : BookIn X bc b b' cs fs ss) => implDrop_any nm bc b b' cc cb cb' cs fs ss X h1 h2 SM.out
        have SP := fun (X : World) (h2 : BookIn X bc b b' cs fs ss) => specDrop_all nm bc b b' cc cb cb' cs fs ss X h2 SM.out
        simp only [DA.1] at DS IM SP
        obtain ⟨fs1, hf1⟩ : ∃ x, dropF cs fs ss nm = x := ⟨_, rfl⟩
        obtain ⟨ss1, hs1⟩ : ∃ x, dropS cs fs ss nm = x := ⟨_, rfl⟩
        obtain ⟨kk, hkk⟩ : ∃ x, dropK cs fs ss nm = x := ⟨_, rfl⟩
        simp only [hf1, hs1, hkk] at DA DS IM SP
        have HIM := hide IM
        have HSP := hide SP
        have HDS := hide DS
        have FT1 := hide DA.2.1
        have NL := hide DA.2.2.1
        have ST : Hid (kk = 0 → stableB cs fs1 ss1 = true) := fun h => stable_true DA.2.1 (DA.2.2.2 h)
        clear IM SP DS DA hf1 hs1 hkk
        have WW := hide (below_two BW.out WB.out)
        go_wp2_with fail
        refine (HIM.out W (HG1.out.later WW.out) (BI.out.later WB.out)).mono ?_
        rintro e w2 ⟨dc, d, d', dd, db, db', rfl, hown, hb2⟩
        obtain ⟨V2, hV2, hV2s, kV2, bV2⟩ := bk_newT w2 (.slice dc cs.length dd) (.slice d fs1.length db) (.slice d' ss1.length db')
        have O2 := hide (hown.later bV2)
        have K2 := hide kV2
        have HV2 := hide hV2
        have C2 := hide (below_two hb2 bV2)
        have hz2 := hb2.size
        clear hown hb2 hV2 kV2 bV2 x0 x1 x2 y0 y1 y2 y3
        go_upto_region 11 with fail
        rw [HV2.out]
        obtain ⟨y0, y1, y2, y3⟩ := FW.out V2 C2.out
        obtain ⟨x0, x1, x2, -⟩ := ((KB.out.later WB.out).later C2.out).cells
        go_wp2_with fail
        refine (HSP.out V2 ((BI.out.later WB.out).later C2.out)).mono ?_
        rintro e w3 ⟨ec, e1, e1', ed, eb, eb', rfl, hbk, hb3⟩
        obtain ⟨V3, hV3, hV3s, kV3, bV3⟩ := bk_newT w3 (.slice ec cs.length ed) (.slice e1 fs1.length eb) (.slice e1' ss1.length eb')
        have D3 := hide (hbk.later bV3)
        have K3 := hide kV3
        have HV3 := hide hV3
        have E3 := hide (below_two hb3 bV3)
        have C3 := hide (below_two C2.out E3.out)
        clear hbk hb3 hV3 kV3 bV3 x0 x1 x2 y0 y1 y2 y3
        go_upto_region 12 with fail
        rw [HV3.out]
        have hkq : (kk != kk) = false := by simp
        obtain ⟨x0, x1, x2, -⟩ := (K2.out.later E3.out).cells
        obtain ⟨y0, y1, y2, -⟩ := K3.out.cells
        go_wp2_with fail
        refine (wBook_same _ _ _ _ _ _ _ _ _ _ _ _ cs fs1 ss1 V3 (O2.out.book.later E3.out) D3.out HDS.out).mono ?_
        rintro e w4 ⟨rfl, hb4⟩
        have E4 := hide (below_two E3.out hb4)
        have C4 := hide (below_two C3.out hb4)
        clear hb4 x0 x1 x2 y0 y1 y2 C3
        obtain ⟨x0, x1, x2, -⟩ := (K2.out.later E4.out).cells
        obtain ⟨y0, y1, y2, -⟩ := ((KB.out.later WB.out).later C4.out).cells
        have B4 := hide ((BI.out.later WB.out).later C4.out)
        have D4 := hide (O2.out.book.later E4.out)
        go_wp2_with fail
        refine (wNoLater_ok _ _ _ _ _ _ _ _ _ _ _ _ cs cs fs fs1 ss ss1 w4 B4.out.fl B4.out.ints (fits_len FT.out) SM.out.nf (fits_order FT.out) D4.out.fl D4.out.ints (fits_len FT1.out) HDS.out.nf NL.out).mono ?_
        rintro e w5 ⟨rfl, hb5⟩
        have E5 := hide (below_two E4.out hb5)
        have C5 := hide (below_two C4.out hb5)
        clear hb5 x0 x1 x2 y0 y1 y2 E4 C4 B4 D4
        obtain ⟨x0, x1, x2, -⟩ := (K2.out.later E5.out).cells
        by_cases hk0 : kk = 0
        · have ST0 := hide (ST.out hk0)
          subst hk0
          go_wp2_with fail
          refine (implStable_any _ _ _ _ _ _ cs fs1 ss1 w5 (O2.out.book.later E5.out) HDS.out).mono ?_
          rintro e w6 ⟨rfl, hb6⟩
          rw [ST0.out]
          have E6 := hide (below_two E5.out hb6)
          have C6 := hide (below_two C5.out hb6)
          clear hb6 x0 x1 x2 E5 C5
          obtain ⟨x0, x1, x2, -⟩ := (K2.out.later E6.out).cells
          obtain ⟨y0, y1, y2, r0, r1, r2⟩ := ((KB.out.later WB.out).later C6.out).cells
          have KX := hide (((KB.out.later WB.out).later C6.out).set3 (.slice dc cs.length dd) (.slice d fs1.length db) (.slice d' ss1.length db'))
          have TX := hide (set3_touch w6 w1.heap.size (.slice dc cs.length dd) (.slice d fs1.length db) (.slice d' ss1.length db'))
          have BX := hide (below_set3T (below_two WW.out C6.out) (Nat.le_refl _) (.slice dc cs.length dd) (.slice d fs1.length db) (.slice d' ss1.length db'))
          have OX := hide (OwnBk.touch (O2.out.later E6.out) TX.out (fun q h1 _ he => by have he' : q = w1.heap.size := he; omega)).book
          go_upto_region 20 with fail
          generalize ((w6.setCell ⟨w1.heap.size, 0, none⟩ (.slice dc cs.length dd)).setCell ⟨w1.heap.size, 1, none⟩ (.slice d fs1.length db)).setCell ⟨w1.heap.size, 2, none⟩ (.slice d' ss1.length db') = Y at KX TX BX OX ⊢
          clear x0 x1 x2 y0 y1 y2 r0 r1 r2 TX
          obtain ⟨x0, x1, x2, -⟩ := KX.out.cells
          go_wp2_with fail
          refine (implBookOk_val dc d d' dd db db' cs fs1 ss1 true FT1.out Y OX.out HDS.out).mono ?_
          rintro e Y1 ⟨rfl, hy1⟩
          have Z1 := hide hy1
          clear hy1 x0 x1 x2
          obtain ⟨x0, x1, x2, -⟩ := (KX.out.later Z1.out).cells
          have OZ1 := hide (OX.out.later Z1.out)
          go_wp2_with fail
          refine (wOver_no dc d d' dd db db' cs fs1 ss1 0 Y1 OZ1.out.caps OZ1.out.fl OZ1.out.ints FT1.out HDS.out.vl HDS.out.nc (by omega) (by omega)).mono ?_
          rintro e Y2 ⟨rfl, hy2⟩
          have Z2 := hide (below_two Z1.out hy2)
          clear hy2 x0 x1 x2 OZ1
          obtain ⟨x0, x1, x2, -⟩ := (KX.out.later Z2.out).cells
          have OZ2 := hide (OX.out.later Z2.out)
          go_wp2_with fail
          refine (wOver_no dc d d' dd db db' cs fs1 ss1 9999 Y2 OZ2.out.caps OZ2.out.fl OZ2.out.ints FT1.out HDS.out.vl HDS.out.nc (by omega) (by omega)).mono ?_
          rintro e Y3 ⟨rfl, hy3⟩
          have Z3 := hide (below_two Z2.out hy3)
          clear hy3 x0 x1 x2 OZ2
          go_wp2
          go_roundw
          case rel => exact ⟨k + 1, dc, d, d', dd, db, db', fs1, ss1, by omega, by go_num, KX.out.later Z3.out, OX.out.later Z3.out, FT1.out, HDS.out, below_two BX.out Z3.out⟩
          case measure => simp [intOf]; omega
        · have hk1 : (kk == 0) = false := by simpa using hk0
          clear x0 x1 x2
          obtain ⟨x0, x1, x2, -⟩ := (K2.out.later E5.out).cells
          obtain ⟨y0, y1, y2, r0, r1, r2⟩ := ((KB.out.later WB.out).later C5.out).cells
          have KX := hide (((KB.out.later WB.out).later C5.out).set3 (.slice dc cs.length dd) (.slice d fs1.length db) (.slice d' ss1.length db'))
          have TX := hide (set3_touch w5 w1.heap.size (.slice dc cs.length dd) (.slice d fs1.length db) (.slice d' ss1.length db'))
          have BX := hide (below_set3T (below_two WW.out C5.out) (Nat.le_refl _) (.slice dc cs.length dd) (.slice d fs1.length db) (.slice d' ss1.length db'))
          have OX := hide (OwnBk.touch (O2.out.later E5.out) TX.out (fun q h1 _ he => by have he' : q = w1.heap.size := he; omega)).book
          go_upto_region 20 with fail
          generalize ((w5.setCell ⟨w1.heap.size, 0, none⟩ (.slice dc cs.length dd)).setCell ⟨w1.heap.size, 1, none⟩ (.slice d fs1.length db)).setCell ⟨w1.heap.size, 2, none⟩ (.slice d' ss1.length db') = Y at KX TX BX OX ⊢
          clear x0 x1 x2 y0 y1 y2 r0 r1 r2 TX
          obtain ⟨x0, x1, x2, -⟩ := KX.out.cells
          go_wp2_with fail
          refine (implBookOk_val dc d d' dd db db' cs fs1 ss1 true FT1.out Y OX.out HDS.out).mono ?_
          rintro e Y1 ⟨rfl, hy1⟩
          have Z1 := hide hy1
          clear hy1 x0 x1 x2
          obtain ⟨x0, x1, x2, -⟩ := (KX.out.later Z1.out).cells
          have OZ1 := hide (OX.out.later Z1.out)
          go_wp2_with fail
          refine (wOver_no dc d d' dd db db' cs fs1 ss1 0 Y1 OZ1.out.caps OZ1.out.fl OZ1.out.ints FT1.out HDS.out.vl HDS.out.nc (by omega) (by omega)).mono ?_
          rintro e Y2 ⟨rfl, hy2⟩
          have Z2 := hide (below_two Z1.out hy2)
          clear hy2 x0 x1 x2 OZ1
          obtain ⟨x0, x1, x2, -⟩ := (KX.out.later Z2.out).cells
          have OZ2 := hide (OX.out.later Z2.out)
          go_wp2_with fail
          refine (wOver_no dc d d' dd db db' cs fs1 ss1 9999 Y2 OZ2.out.caps OZ2.out.fl OZ2.out.ints FT1.out HDS.out.vl HDS.out.nc (by omega) (by omega)).mono ?_
          rintro e Y3 ⟨rfl, hy3⟩
          have Z3 := hide (below_two Z2.out hy3)
          clear hy3 x0 x1 x2 OZ2
          go_wp2
          go_roundw
          case rel => exact ⟨k + 1, dc, d, d', dd, db, db', fs1, ss1, by omega, by go_num, KX.out.later Z3.out, OX.out.later Z3.out, FT1.out, HDS.out, below_two BX.out Z3.out⟩
          case measure => simp [intOf]; omega
      · have hvs0 : ((vs.length : Int) == 0) = false := by simpa using hv0
        have hsm : FlSm 3 (nm, pl, lt, vs) := by
          rcases HEK.out with h | h
          · exact h.1
          · exact absurd (by rw [show vs = [] from h]; rfl) hv0
        obtain ⟨hvl, hsz⟩ := ev_sizes hsm
        have AA := add_all FT.out (nm, pl, lt, vs)
        have DS := addAll_sm (f := (nm, pl, lt, vs)) SM.out hvl hsz
        have IM := fun (X : World) (h1 : ErrT X) (h2 : BookIn X bc b b' cs fs ss) (h3 : VisitsIn X av vs) => implAdd_any (nm, pl, lt, vs) av cv bc b b' cc cb cb' cs fs ss X h1 h2 SM.out h3 hvl hsz
        have SP := fun (X : World) (h2 : BookIn X bc b b' cs fs ss) (h3 : VisitsIn X av vs) => specAdd_all (nm, pl, lt, vs) av cv bc b b' cc cb cb' cs fs ss X h2 SM.out h3 hvl hsz
        simp only [AA.1] at DS IM SP
        obtain ⟨fs1, hf1⟩ : ∃ x, addF cs fs ss (nm, pl, lt, vs) = x := ⟨_, rfl⟩
        obtain ⟨ss1, hs1⟩ : ∃ x, addS cs fs ss (nm, pl, lt, vs) = x := ⟨_, rfl⟩
        obtain ⟨kk, hkk⟩ : ∃ x, addK cs fs ss (nm, pl, lt, vs) = x := ⟨_, rfl⟩
        simp only [hf1, hs1, hkk] at AA DS IM SP
        have HIM := hide IM
        have HSP := hide SP
        have HDS := hide DS
        have FT1 := hide AA.2.1
        have NL := hide AA.2.2.1
        have NL2 := hide AA.2.2.2
        clear IM SP DS AA hf1 hs1 hkk hsm hvl hsz
        have WW := hide (below_two BW.out WB.out)
        go_wp2_with fail
        refine (HIM.out W (HG1.out.later WW.out) (BI.out.later WB.out) (HVI.out.later WB.out)).mono ?_
        rintro e w2 ⟨dc, d, d', dd, db, db', rfl, hown, hb2⟩
        obtain ⟨V2, hV2, hV2s, kV2, bV2⟩ := bk_newT w2 (.slice dc cs.length dd) (.slice d fs1.length db) (.slice d' ss1.length db')
        have O2 := hide (hown.later bV2)
        have K2 := hide kV2
        have HV2 := hide hV2
        have C2 := hide (below_two hb2 bV2)
        have hz2 := hb2.size
        clear hown hb2 hV2 kV2 bV2 x0 x1 x2 y0 y1 y2 y3
        go_upto_region 16 with fail
        rw [HV2.out]
        obtain ⟨y0, y1, y2, y3⟩ := FW.out V2 C2.out
        obtain ⟨x0, x1, x2, -⟩ := ((KB.out.later WB.out).later C2.out).cells
        go_wp2_with fail
        refine (HSP.out V2 ((BI.out.later WB.out).later C2.out) ((HVI.out.later WB.out).later C2.out)).mono ?_
        rintro e w3 ⟨ec, e1, e1', ed, eb, eb', rfl, hbk, hb3⟩
        obtain ⟨V3, hV3, hV3s, kV3, bV3⟩ := bk_newT w3 (.slice ec cs.length ed) (.slice e1 fs1.length eb) (.slice e1' ss1.length eb')
        have D3 := hide (hbk V3 (touchS_below bV3))
        have K3 := hide kV3
        have HV3 := hide hV3
        have E3 := hide (below_two hb3 bV3)
        have C3 := hide (below_two C2.out E3.out)
        clear hbk hb3 hV3 kV3 bV3 x0 x1 x2 y0 y1 y2 y3
        go_upto_region 17 with fail
        rw [HV3.out]
        have hkq : (kk != kk) = false := by simp
        obtain ⟨x0, x1, x2, -⟩ := (K2.out.later E3.out).cells
        obtain ⟨y0, y1, y2, -⟩ := K3.out.cells
        go_wp2_with fail
        refine (wBook_same _ _ _ _ _ _ _ _ _ _ _ _ cs fs1 ss1 V3 (O2.out.book.later E3.out) D3.out HDS.out).mono ?_
        rintro e w4 ⟨rfl, hb4⟩
        have E4 := hide (below_two E3.out hb4)
        have C4 := hide (below_two C3.out hb4)
        clear hb4 x0 x1 x2 y0 y1 y2 C3
        obtain ⟨x0, x1, x2, -⟩ := (K2.out.later E4.out).cells
        obtain ⟨y0, y1, y2, -⟩ := ((KB.out.later WB.out).later C4.out).cells
        have B4 := hide ((BI.out.later WB.out).later C4.out)
        have D4 := hide (O2.out.book.later E4.out)
        go_wp2_with fail
        refine (wNoLater_ok _ _ _ _ _ _ _ _ _ _ _ _ cs cs fs fs1 ss ss1 w4 B4.out.fl B4.out.ints (fits_len FT.out) SM.out.nf (fits_order FT.out) D4.out.fl D4.out.ints (fits_len FT1.out) HDS.out.nf NL.out).mono ?_
        rintro e w5 ⟨rfl, hb5⟩
        have E5 := hide (below_two E4.out hb5)
        have C5 := hide (below_two C4.out hb5)
        clear hb5 x0 x1 x2 y0 y1 y2 E4 C4 B4 D4
        obtain ⟨x0, x1, x2, -⟩ := (K2.out.later E5.out).cells
        obtain ⟨y0, y1, y2, -⟩ := ((KB.out.later WB.out).later C5.out).cells
        have B5 := hide ((BI.out.later WB.out).later C5.out)
        have D5 := hide (O2.out.book.later E5.out)
        go_wp2_with fail
        refine (wNoLater_ok _ _ _ _ _ _ _ _ _ _ _ _ cs cs fs1 fs ss1 ss w5 D5.out.fl D5.out.ints (fits_len FT1.out) HDS.out.nf (fits_order FT1.out) B5.out.fl B5.out.ints (fits_len FT.out) SM.out.nf NL2.out).mono ?_
        rintro e w6 ⟨rfl, hb6⟩
        have E6 := hide (below_two E5.out hb6)
        have C6 := hide (below_two C5.out hb6)
        clear hb6 x0 x1 x2 y0 y1 y2 E5 C5 B5 D5
        obtain ⟨x0, x1, x2, -⟩ := (K2.out.later E6.out).cells
        obtain ⟨y0, y1, y2, r0, r1, r2⟩ := ((KB.out.later WB.out).later C6.out).cells
        have KX := hide (((KB.out.later WB.out).later C6.out).set3 (.slice dc cs.length dd) (.slice d fs1.length db) (.slice d' ss1.length db'))
        have TX := hide (set3_touch w6 w1.heap.size (.slice dc cs.length dd) (.slice d fs1.length db) (.slice d' ss1.length db'))
        have BX := hide (below_set3T (below_two WW.out C6.out) (Nat.le_refl _) (.slice dc cs.length dd) (.slice d fs1.length db) (.slice d' ss1.length db'))
        have OX := hide (OwnBk.touch (O2.out.later E6.out) TX.out (fun q h1 _ he => by have he' : q = w1.heap.size := he; omega)).book
        go_upto_region 20 with fail
        generalize ((w6.setCell ⟨w1.heap.size, 0, none⟩ (.slice dc cs.length dd)).setCell ⟨w1.heap.size, 1, none⟩ (.slice d fs1.length db)).setCell ⟨w1.heap.size, 2, none⟩ (.slice d' ss1.length db') = Y at KX TX BX OX ⊢
        clear x0 x1 x2 y0 y1 y2 r0 r1 r2 TX
        obtain ⟨x0, x1, x2, -⟩ := KX.out.cells
        go_wp2_with fail
        refine (implBookOk_val dc d d' dd db db' cs fs1 ss1 true FT1.out Y OX.out HDS.out).mono ?_
        rintro e Y1 ⟨rfl, hy1⟩
        have Z1 := hide hy1
        clear hy1 x0 x1 x2
        obtain ⟨x0, x1, x2, -⟩ := (KX.out.later Z1.out).cells
        have OZ1 := hide (OX.out.later Z1.out)
        go_wp2_with fail
        refine (wOver_no dc d d' dd db db' cs fs1 ss1 0 Y1 OZ1.out.caps OZ1.out.fl OZ1.out.ints FT1.out HDS.out.vl HDS.out.nc (by omega) (by omega)).mono ?_
        rintro e Y2 ⟨rfl, hy2⟩
        have Z2 := hide (below_two Z1.out hy2)
        clear hy2 x0 x1 x2 OZ1
        obtain ⟨x0, x1, x2, -⟩ := (KX.out.later Z2.out).cells
        have OZ2 := hide (OX.out.later Z2.out)
        go_wp2_with fail
        refine (wOver_no dc d d' dd db db' cs fs1 ss1 9999 Y2 OZ2.out.caps OZ2.out.fl OZ2.out.ints FT1.out HDS.out.vl HDS.out.nc (by omega) (by omega)).mono ?_
        rintro e Y3 ⟨rfl, hy3⟩
        have Z3 := hide (below_two Z2.out hy3)
        clear hy3 x0 x1 x2 OZ2
        go_wp2
        go_roundw
        case rel => exact ⟨k + 1, dc, d, d', dd, db, db', fs1, ss1, by omega, by go_num, KX.out.later Z3.out, OX.out.later Z3.out, FT1.out, HDS.out, below_two BX.out Z3.out⟩
        case measure => simp [intOf]; omega
    · have k1 : ¬ ((k : Int) < (es.length : Int)) := by omega
      obtain ⟨x0, x1, x2, -⟩ := KB.out.cells
      go_wp2_with fail
      refine (implBookOk_val bc b b' cc cb cb' cs fs ss true FT.out wr BI.out SM.out).mono ?_
      rintro e w2 ⟨rfl, hb2⟩
      have B2 := hide (below_two BW.out hb2)
      clear hb2 x0 x1 x2
      go_wp2
      go_ret
      exact ⟨rfl, below_two B1.out B2.out⟩
end Go.Proofs.YtciacofibljmoaaGreatDoor
