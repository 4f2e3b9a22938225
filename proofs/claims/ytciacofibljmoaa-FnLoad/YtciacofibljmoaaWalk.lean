/- The law of loads and runs, walked through. -/
import Derived.Test.YtciacofibljmoaaDraw15
import Derived.Test.YtciacofibljmoaaOver
import Derived.Test.YtciacofibljmoaaLoadLaw
import Derived.Test.YtciacofibljmoaaRunsLaw
import Derived.Test.YtciacofibljmoaaOpenBytes
namespace Go.Proofs.Ytciacofibljmoaa
open Go.RowKit

theorem loadV_nn (fs : List Fli) (ss : List Int) (sec : ByteArray) (t : Int) : 0 ≤ loadV fs ss sec t ∧ loadV fs ss sec t ≤ fs.length := by
  unfold loadV
  split
  · have := loadTo_le fs ss sec t fs.length
    omega
  · omega
theorem good_V (fs : List Fli) (ss : List Int) (sec : ByteArray) : Good (loadV fs ss sec) 20001 (runsV fs ss sec) := by
  by_cases h : slotsB fs ss = true
  · have e1 : loadV fs ss sec = fun t => ((loadTo fs ss sec t fs.length : Nat) : Int) := by
      funext t
      unfold loadV
      rw [if_pos h]
    have e2 : runsV fs ss sec = runsL fs ss sec := by unfold runsV; rw [if_pos h]
    rw [e1, e2]
    exact good_runs fs ss sec
  · have e2 : runsV fs ss sec = [] := by unfold runsV; rw [if_neg h]
    rw [e2]
    refine ⟨fun i hi => by simp at hi, fun i hi => by simp at hi, fun t _ _ hn => ?_⟩
    exfalso
    apply hn
    unfold loadV
    rw [if_neg h]

theorem book_cells (w : World) (a b c : Value) (t : TypeId) : (w.alloc (.cells #[a, b, c] t)).cell? ⟨w.heap.size, 0, none⟩ = some a ∧ (w.alloc (.cells #[a, b, c] t)).cell? ⟨w.heap.size, 1, none⟩ = some b ∧ (w.alloc (.cells #[a, b, c] t)).cell? ⟨w.heap.size, 2, none⟩ = some c := ⟨by simp, by simp, by simp⟩

set_option maxRecDepth 100000 in
set_option maxHeartbeats 6400000 in
theorem fnLoad_walk (a0 a1 : Option Addr) (n0 n1 c0 c1 : Nat) (w : World) (hb0 : BytesIn w.heap.size w a0 n0) (hb1 : BytesIn w.heap.size w a1 n1) (h0 : n0 ≤ c0) (h0' : c0 ≤ maxLen) (h1 : n1 ≤ c1) (h1' : c1 ≤ maxLen) :
    Calls Try.prog 3 #[.slice a0 n0 c0, .slice a1 n1 c1] w fun e w' => e = .returned (.bool true) ∧ Below w.heap.size w w' := by
  have HB0 := hide hb0
  have HB1 := hide hb1
  have H0 := hide h0'
  have H1 := hide h1'
  unfold maxLen at h0' h1'
  clear hb0 hb1
  by_cases g0 : (1048576 : Int) < (n0 : Int)
  · go_enter Try.func3, Try.ntmps3
    go_wp2
    go_ret
    exact ⟨rfl, Below.refl _ _⟩
  by_cases g1 : (1048576 : Int) < (n1 : Int)
  · go_enter Try.func3, Try.ntmps3
    go_wp2
    go_ret
    exact ⟨rfl, Below.refl _ _⟩
  go_enter Try.func3, Try.ntmps3
  go_wp2_with fail
  refine (drawLoad_any a0 n0 c0 w HB0.out h0 H0.out).mono ?_
  rintro e w1 ⟨⟨vf, gs, vs, zs, sec, t, rfl, hof, hg8, hsm, hos, hz9, hsec⟩, hbw1⟩
  obtain ⟨af, cf, hvf, -, hfi, -⟩ := OwnF.form hof
  subst hvf
  obtain ⟨asl, css, hvs, -, -, hii, -⟩ := OwnI.form hos
  subst hvs
  obtain ⟨hvl, hsz⟩ := sm_sizes hsm
  have hfl : (gs.map Prod.fst).length ≤ 8 := by simpa using hg8
  generalize gs.map Prod.fst = fs at hfi hvl hsz hfl
  have HF := hide hfi
  have HI := hide hii
  have HVL := hide hvl
  have HSZ := hide hsz
  have HBW1 := hide hbw1
  clear hfi hii hvl hsz hbw1 hof hos hsm hg8
  go_wp2_with fail
  refine (implRuns_any af asl cf css fs zs sec w1 HF.out HI.out (by omega) (by omega) HVL.out HSZ.out).mono ?_
  rintro e w2 ⟨v2, rfl, hown2, hle2, hb2⟩
  obtain ⟨ar, cr, hv2, hrin⟩ := own_runs hown2
  subst hv2
  have HRI := hide hrin
  have HB2 := hide hb2
  have HBW2 := hide (below_seq HBW1.out hb2)
  have HG := hide (good_V fs zs sec)
  generalize runsV fs zs sec = rs at hle2 HRI HG
  clear hown2 hrin hb2
  go_wp2_with fail
  refine (implLoad_any af asl cf css fs zs sec t w2 (HF.out.later HB2.out) (HI.out.later HB2.out) (by omega) (by omega) HVL.out HSZ.out).mono ?_
  rintro e w3 ⟨rfl, hb3⟩
  have HB3 := hide (below_seq HB2.out hb3)
  have HBW3 := hide (below_seq HBW2.out hb3)
  have HR3 := hide (HRI.out.later hb3)
  clear hb3
  go_wp2_with fail
  refine (specLoad_any af asl cf css fs zs sec t w3 (HF.out.later HB3.out) (HI.out.later HB3.out) (by omega) (by omega) HVL.out HSZ.out).mono ?_
  rintro e w4 ⟨rfl, hb4⟩
  have HB4 := hide (below_seq HB3.out hb4)
  have HBW4 := hide (below_seq HBW3.out hb4)
  have HR4 := hide (HR3.out.later hb4)
  clear hb4 HB2 HB3 HR3 HRI HBW2 HBW3
  generalize loadV fs zs sec t = lv
  have hlv : (lv != lv) = false := by simp
  go_wp2_with fail
  go_loopw [10, 11] (fun kk tt wr => ∃ (k j : Nat), k ≤ rs.length ∧ j ≤ 90 ∧ kk = .int .i64 k ∧ tt = .int .i64 j ∧ Hid (∀ i (_ : i < rs.length), i < k → rs[i].2.1 < (j : Int)) ∧ Hid (Below w1.heap.size w1 wr) ∧ Hid (Below w.heap.size w wr) ∧ Hid (RunsIn wr ar rs)) (fun _ tt _ => 90 - (intOf tt).toNat)
  case atStart => exact ⟨0, 0, Nat.zero_le _, by omega, rfl, rfl, fun i _ hi => by omega, HB4.out, HBW4.out, HR4.out⟩
  case round =>
    obtain ⟨k, j, hk, hj, rfl, rfl, HK, HBR, HBWR, HRR⟩ := hrel
    clear HB4 HBW4 HR4
    by_cases hjl : j < 90
    · have hjl' : (j : Int) < 90 := by omega
      go_wp2
      go_loopw [10] (fun kk wx => ∃ (m : Nat), m ≤ rs.length ∧ kk = .int .i64 m ∧ wx = wr ∧ Hid (∀ i (_ : i < rs.length), i < m → rs[i].2.1 < (j : Int))) (fun kk _ => rs.length - (intOf kk).toNat)
      case atStart => exact ⟨k, hk, rfl, rfl, HK.out⟩
      case round =>
        obtain ⟨m, hm, rfl, rfl, HM⟩ := hrel
        clear HK
        have m0 : (0 : Int) ≤ (m : Int) := by omega
        have HNX : Hid (∀ hml : m < rs.length, rs[m].2.1 < (j : Int) → ∀ i (_ : i < rs.length), i < m + 1 → rs[i].2.1 < (j : Int)) := fun hml hlt i hi him => by
          by_cases he : i = m
          · subst he; exact hlt
          · exact HM.out i hi (by omega)
        have HIN : Hid (∀ hml : m < rs.length, rs[m].1 ≤ (j : Int) → (j : Int) ≤ rs[m].2.1 → loadV fs zs sec (j : Int) = rs[m].2.2) := fun hml h1 h2 => good_in HG.out hml h1 h2
        have HOUT : Hid ((∀ hml : m < rs.length, (j : Int) < rs[m].1) → loadV fs zs sec (j : Int) = 0) := fun h => good_out HG.out (by omega) (by omega) HM.out h
        by_cases hml : m < rs.length
        · have hml' : (m : Int) < (rs.length : Int) := by omega
          obtain ⟨rb, ro, hre, hrb, r0, r1, r2⟩ := HRR.out m hml
          subst hre
          have HNX2 := hide (HNX.out hml)
          have HIN2 := hide (HIN.out hml)
          have HOUT2 : Hid ((j : Int) < rs[m].1 → loadV fs zs sec (j : Int) = 0) := fun h => HOUT.out (fun _ => h)
          clear HNX HIN HOUT
          generalize rs[m] = rm at r0 r1 r2 HNX2 HIN2 HOUT2
          by_cases hto : rm.2.1 < (j : Int)
          · have HNX3 := hide (HNX2.out hto)
            go_wp2
            go_roundw
            case rel => exact ⟨m + 1, by omega, by go_num, by first | rfl | trivial, HNX3.out⟩
            case measure => simp [intOf]; omega
          · by_cases hfr : rm.1 ≤ (j : Int)
            · have HV := hide (HIN2.out hfr (by omega))
              go_wp2_with fail
              refine (implLoad_any af asl cf css fs zs sec (j : Int) _ (HF.out.later HBR.out) (HI.out.later HBR.out) (by omega) (by omega) HVL.out HSZ.out).mono ?_
              rintro e w5 ⟨rfl, hb5⟩
              have HB5 := hide (below_seq HBR.out hb5)
              have HBW5 := hide (below_seq HBWR.out hb5)
              have HR5 := hide (HRR.out.later hb5)
              rw [HV.out]
              clear hb5 HRR HBR HBWR
              have hqq : (rm.2.2 != rm.2.2) = false := by simp
              go_wp2_with fail
              go_roundw
              case rel => exact ⟨m, j + 1, hm, by omega, rfl, by go_num, fun i hi him => by have := HM.out i hi him; omega, HB5.out, HBW5.out, HR5.out⟩
              case measure => simp [intOf]; omega
            · have HV := hide (HOUT2.out (by omega))
              go_wp2_with fail
              refine (implLoad_any af asl cf css fs zs sec (j : Int) _ (HF.out.later HBR.out) (HI.out.later HBR.out) (by omega) (by omega) HVL.out HSZ.out).mono ?_
              rintro e w5 ⟨rfl, hb5⟩
              have HB5 := hide (below_seq HBR.out hb5)
              have HBW5 := hide (below_seq HBWR.out hb5)
              have HR5 := hide (HRR.out.later hb5)
              rw [HV.out]
              clear hb5 HRR HBR HBWR
              go_wp2_with fail
              go_roundw
              case rel => exact ⟨m, j + 1, hm, by omega, rfl, by go_num, fun i hi him => by have := HM.out i hi him; omega, HB5.out, HBW5.out, HR5.out⟩
              case measure => simp [intOf]; omega
        · have hml' : ¬ (m : Int) < (rs.length : Int) := by omega
          have HV := hide (HOUT.out (fun h => absurd h hml))
          clear HNX HIN HOUT
          go_wp2_with fail
          refine (implLoad_any af asl cf css fs zs sec (j : Int) _ (HF.out.later HBR.out) (HI.out.later HBR.out) (by omega) (by omega) HVL.out HSZ.out).mono ?_
          rintro e w5 ⟨rfl, hb5⟩
          have HB5 := hide (below_seq HBR.out hb5)
          have HBW5 := hide (below_seq HBWR.out hb5)
          have HR5 := hide (HRR.out.later hb5)
          rw [HV.out]
          clear hb5 HRR HBR HBWR
          go_wp2_with fail
          go_roundw
          case rel => exact ⟨m, j + 1, hm, by omega, rfl, by go_num, fun i hi him => by have := HM.out i hi him; omega, HB5.out, HBW5.out, HR5.out⟩
          case measure => simp [intOf]; omega
    · have hjl' : ¬ (j : Int) < 90 := by omega
      clear HK
      go_wp2_with fail
      go_loopw [13] (fun ii wx => ∃ (m : Nat), m ≤ rs.length ∧ ii = .int .i64 m ∧ Hid (RunsIn wx ar rs) ∧ Hid (Below w.heap.size w wx)) (fun ii _ => rs.length - (intOf ii).toNat)
      case atStart => exact ⟨0, Nat.zero_le _, rfl, HRR.out, HBWR.out⟩
      case round =>
        obtain ⟨m, hm, rfl, HRX, HBX⟩ := hrel
        clear HRR HBWR HBR
        by_cases hml : m < rs.length
        · have hml' : (m : Int) < (rs.length : Int) := by omega
          have m0 : (0 : Int) ≤ (m : Int) := by omega
          obtain ⟨rb, ro, hre, hrb, r0, r1, r2⟩ := HRX.out m hml
          obtain ⟨_, q1, _, q3, q4⟩ := HG.out.1 m hml
          have q5 := q4 rs[m].1 (Int.le_refl _) q1
          have q6 := (loadV_nn fs zs sec rs[m].1).1
          have hft : decide (rs[m].2.1 < rs[m].1) = false := decide_eq_false (by omega)
          have hl1 : decide (rs[m].2.2 < 1) = false := decide_eq_false (by omega)
          clear q1 q3 q4 q5 q6
          by_cases hz : m = 0
          · subst hz
            subst hre
            have z1 : (0 : Int) < (rs.length : Int) := by omega
            rw [Nat.zero_mul, Nat.add_zero] at r0 r1 r2
            generalize rs[0] = rm at r0 r1 r2 hft hl1
            go_wp2
            go_quiet (fail)
            go_wp2
            go_roundw
            case rel => exact ⟨1, by omega, by go_num, HRX.out, Go.below_drewN HBX.out _⟩
            case measure => simp [intOf]; omega
          · obtain ⟨p, hp⟩ : ∃ p, m = p + 1 := ⟨m - 1, by omega⟩
            obtain ⟨rb', ro', hre', _, p0, p1, p2⟩ := HRX.out p (by omega)
            obtain ⟨t1, t2⟩ := HG.out.2.1 p (by omega)
            obtain ⟨b0, b1, b2, -, -⟩ := HG.out.1 p (by omega)
            rw [hre] at hre'
            simp at hre'
            obtain ⟨rfl, rfl⟩ := hre'
            subst hre
            have e9 : rs[p + 1]'(by omega) = rs[m] := by simp only [hp]
            rw [e9] at t1 t2
            generalize rs[m] = rm at r0 r1 r2 hft hl1 t1 t2
            generalize rs[p] = rp at p0 p1 p2 t1 t2 b0 b1 b2
            have hle : decide (rm.1 ≤ rp.2.1) = false := decide_eq_false (by omega)
            have p9 : (p : Int) < (rs.length : Int) := by omega
            have p8 : (0 : Int) ≤ (p : Int) := by omega
            have m9 : (0 : Int) < (m : Int) := by omega
            have mp : (m : Int) - 1 = (p : Int) := by omega
            have md : decide (0 < m) = true := decide_eq_true (by omega)
            clear hp e9 hz
            by_cases ht : rm.1 = rp.2.1 + 1
            · have hne : (rm.2.2 == rp.2.2) = false := beq_eq_false_iff_ne.2 (fun h => t2 ⟨ht, h⟩)
              have htt : (rm.1 == rp.2.1 + 1) = true := by rw [ht]; simp
              clear t2 ht
              go_wp2
              go_quiet (fail)
              go_wp2
              go_roundw
              case rel => exact ⟨m + 1, by omega, by go_num, HRX.out, Go.below_drewN HBX.out _⟩
              case measure => simp [intOf]; omega
            · have htt : (rm.1 == rp.2.1 + 1) = false := beq_eq_false_iff_ne.2 ht
              clear t2
              go_wp2
              go_quiet (fail)
              go_wp2
              go_roundw
              case rel => exact ⟨m + 1, by omega, by go_num, HRX.out, Go.below_drewN HBX.out _⟩
              case measure => simp [intOf]; omega
        · have hml' : ¬ (m : Int) < (rs.length : Int) := by omega
          clear HG
          go_wp2_with fail
          refine (drawFits_any a1 n1 c1 _ (HB1.out.later HBX.out) h1 H1.out).mono ?_
          rintro e w6 ⟨⟨vc, cs, vf2, gs2, vs2, zs2, rfl, hoc, hcs, hof, hg8, hsm, hos, hz9⟩, hb6⟩
          obtain ⟨ac, cc, hvc, -, -, hci, -⟩ := OwnC.form hoc
          subst hvc
          obtain ⟨af2, cf2, hvf, -, hfi, -⟩ := OwnF.form hof
          subst hvf
          obtain ⟨as2, cs2, hvs, -, -, hii, -⟩ := OwnI.form hos
          subst hvs
          obtain ⟨hvl, hsz⟩ := sm_sizes hsm
          have hfl2 : (gs2.map Prod.fst).length ≤ 8 := by simpa using hg8
          generalize gs2.map Prod.fst = fs2 at hfi hvl hsz hfl2
          have hc7 := hcs.1
          have HC2 := hide hci
          have HF2 := hide hfi
          have HI2 := hide hii
          have HVL2 := hide hvl
          have HSZ2 := hide hsz
          have HCZ := hide (caps_sizes hcs)
          have HBW6 := hide (below_seq HBX.out hb6)
          clear hci hfi hii hvl hsz hb6 hof hos hoc hsm hg8 hcs HBX HRX
          go_wp2_with fail
          refine (implFits_any ac af2 as2 cc cf2 cs2 cs fs2 zs2 w6 HC2.out HF2.out HI2.out (by omega) (by omega) (by omega) HCZ.out HVL2.out HSZ2.out).mono ?_
          rintro e w7 ⟨rfl, hb7⟩
          have HB7 := hide hb7
          have HBW7 := hide (below_seq HBW6.out hb7)
          clear hb7
          go_wp2_with fail
          refine (specFits_any ac af2 as2 cc cf2 cs2 cs fs2 zs2 w7 (HC2.out.later HB7.out) (HF2.out.later HB7.out) (HI2.out.later HB7.out) (by omega) (by omega) (by omega) HCZ.out HVL2.out HSZ2.out).mono ?_
          rintro e w8 ⟨rfl, hb8⟩
          have HB8 := hide (below_seq HB7.out hb8)
          have HBW8 := hide (below_seq HBW7.out hb8)
          clear hb8
          cases hq : fitsB cs fs2 zs2
          · have hqq : (false != false) = false := rfl
            go_wp2_with fail
            go_ret
            exact ⟨rfl, HBW8.out.alloc HBW8.out.size _⟩
          · have HQ := hide hq
            have hqq : (true != true) = false := rfl
            have BA := hide ((Below.refl w8.heap.size w8).alloc (Nat.le_refl _) (.cells #[.slice ac cs.length cc, .slice af2 fs2.length cf2, .slice as2 zs2.length cs2] 37))
            have HB9 := hide (below_seq HB8.out BA.out)
            have HBW9 := hide (below_seq HBW8.out BA.out)
            clear hq
            go_wp2_with fail
            refine (wOver_no ac af2 as2 cc cf2 cs2 cs fs2 zs2 0 _ (HC2.out.later HB9.out) (HF2.out.later HB9.out) (HI2.out.later HB9.out) HQ.out HVL2.out (by omega) (by omega) (by omega)).mono ?_
            rintro e w10 ⟨rfl, hb10⟩
            obtain ⟨x0, x1, x2⟩ := book_cells w8 (.slice ac cs.length cc) (.slice af2 fs2.length cf2) (.slice as2 zs2.length cs2) 37
            have y0 := cell_later hb10 x0
            have y1 := cell_later hb10 x1
            have y2 := cell_later hb10 x2
            have HB10 := hide (below_seq HB9.out hb10)
            have HBW10 := hide (below_seq HBW9.out hb10)
            clear hb10 x0 x1 x2
            go_wp2_with fail
            refine (wOver_no ac af2 as2 cc cf2 cs2 cs fs2 zs2 9999 _ (HC2.out.later HB10.out) (HF2.out.later HB10.out) (HI2.out.later HB10.out) HQ.out HVL2.out (by omega) (by omega) (by omega)).mono ?_
            rintro e w11 ⟨rfl, hb11⟩
            have HBW11 := hide (below_seq HBW10.out hb11)
            clear hb11
            go_wp2
            go_ret
            exact ⟨rfl, HBW11.out⟩

end Go.Proofs.Ytciacofibljmoaa
