/- The law of giving, walked through. -/
import Derived.Test.YtciacofibljmoaaGreatImplGive
import Derived.Test.YtciacofibljmoaaGreatDrawGive
import Derived.Test.YtciacofibljmoaaGreatOpenBytes
namespace Go.Proofs.YtciacofibljmoaaGreat
open Go.RowKit

attribute [local go_sem ↓] Go.wp_at_zero Go.wp_at_succ

set_option maxHeartbeats 800000 in
theorem wInts_same (a a' : Option Addr) (cap cap' : Nat) (zs : List Int) (w : World) (hc : IntsIn w a zs) (hc' : IntsIn w a' zs) (hl : zs.length ≤ 1048576) :
    Calls Tryz.prog 8 #[.slice a zs.length cap, .slice a' zs.length cap'] w fun e w' => e = .returned (.bool true) ∧ Below w.heap.size w w' := by
  go_enter Tryz.func8, Tryz.ntmps8
  go_wp2
  go_loopw [5] (fun i wr => ∃ (k : Nat), k ≤ zs.length ∧ i = .int .i64 k ∧ Below w.heap.size w wr) (fun i _ => zs.length - (RowKit.intOf i).toNat)
  case atStart => exact ⟨0, Nat.zero_le _, rfl, Below.refl _ _⟩
  case round =>
    obtain ⟨k, hk, rfl, hbw⟩ := hrel
    by_cases hlt : k < zs.length
    · obtain ⟨b, off, rfl, hblt, e0⟩ := hc.later hbw k hlt
      obtain ⟨b', off', rfl, hblt', e0'⟩ := hc'.later hbw k hlt
      clear hc hc'
      generalize zs[k] = c at e0 e0'
      have k0 : (0 : Int) ≤ (k : Int) := by omega
      have k1 : (k : Int) < (zs.length : Int) := by omega
      go_wp2
      go_quiet (fail)
      go_wp2
      go_roundw
      case rel => exact ⟨k + 1, by omega, by go_num, below_drewN hbw _⟩
      case measure => simp [RowKit.intOf]; omega
    · go_wp2
      go_ret
      exact ⟨rfl, hbw⟩

theorem implFits_at (ac a a' : Option Addr) (capc cap cap' : Nat) (cs : List (ByteArray × Int)) (fs : List Fli) (ss : List Int) (n : Nat) (hn : ss.length = n) (q : Bool) (hq : fitsB cs fs ss = q) (w : World) (hcc : CapsIn w ac cs) (hc : FlightsIn w a fs) (hc' : IntsIn w a' ss) (hlc : cs.length ≤ 1048576) (hl : fs.length ≤ 1048576) (hl' : ss.length ≤ 1048576)
    (hsc : ∀ c ∈ cs, c.1.size ≤ maxLen) (hvl : ∀ f ∈ fs, f.2.2.2.length ≤ 1048576) (hs : ∀ f ∈ fs, SizesOk f) :
    Calls Tryz.prog 15 #[.slice ac cs.length capc, .slice a fs.length cap, .slice a' n cap'] w fun e w' => e = .returned (.bool q) ∧ Below w.heap.size w w' := by
  subst hn hq
  exact implFits_any ac a a' capc cap cap' cs fs ss w hcc hc hc' hlc hl hl' hsc hvl hs
theorem ints_set {w : World} {a : Option Addr} {zs : List Int} (h : IntsIn w a zs) (g k : Nat) (u : Value) (hne : ∀ p, a = some p → p.block ≠ g) : IntsIn (w.setCell ⟨g, k, none⟩ u) a zs := fun q hq => by
  obtain ⟨b, off, rfl, h9, c9⟩ := h q hq
  refine ⟨b, off, rfl, by simpa using h9, ?_⟩
  rw [World.cell?_of_block (w := w) (Below.heap_setCell _ _ _ _ (hne _ rfl))]
  exact c9

theorem giveV_len8 (cs : List (ByteArray × Int)) (fs : List Fli) : (giveV cs fs).length ≤ fs.length := by
  unfold giveV
  split
  · rw [giveTo_len]; exact Nat.le_refl _
  · simp

set_option maxRecDepth 100000 in
set_option maxHeartbeats 25600000 in
theorem fnGive_walk (a0 : Option Addr) (n0 c0 : Nat) (w : World) (hb0 : BytesIn w.heap.size w a0 n0) (h0 : n0 ≤ c0) (h0' : c0 ≤ maxLen) :
    Calls Tryz.prog 3 #[.slice a0 n0 c0] w fun e w' => e = .returned (.bool true) ∧ Below w.heap.size w w' := by
  obtain ⟨i0, hi, iz0, iz1, iz2⟩ := info_parts info_int
  have HB0 := hide hb0
  have H0 := hide h0'
  unfold maxLen at h0'
  clear hb0
  by_cases g0 : (1048576 : Int) < (n0 : Int)
  · go_enter Tryz.func3, Tryz.ntmps3
    go_wp2
    go_ret
    exact ⟨rfl, Below.refl _ _⟩
  go_enter Tryz.func3, Tryz.ntmps3
  go_wp2_with fail
  refine (drawGive_any a0 n0 c0 w HB0.out h0 H0.out).mono ?_
  rintro e w1 ⟨⟨vc, cs, vf, gs, rfl, hoc, hcs, hof, hg8, hsm⟩, hbw1⟩
  obtain ⟨ac, cc, hvc, -, -, hci, -⟩ := OwnC.form hoc
  subst hvc
  obtain ⟨af, cf, hvf, -, hfi, -⟩ := OwnF.form hof
  subst hvf
  obtain ⟨hvl, hsz⟩ := sm_sizes hsm
  have hfl : (gs.map Prod.fst).length ≤ 8 := by simpa using hg8
  have hgl : gs.length = (gs.map Prod.fst).length := by simp
  rw [hgl] at *
  generalize gs.map Prod.fst = fs at *
  have HCI := hide hci
  have HF := hide hfi
  have HSC := hide (caps_sizes hcs)
  have hc7 := hcs.1
  have HVL := hide hvl
  have HSZ := hide hsz
  have HBW1 := hide hbw1
  clear hci hfi hvl hsz hbw1 hof hoc hsm hg8 hcs hgl
  have hc8 : cs.length ≤ 1048576 := by omega
  have hf8 : fs.length ≤ 1048576 := by omega
  go_wp2_with fail
  refine (implGive_any ac af cc cf cs fs w1 HCI.out HF.out hc8 hf8 HSC.out HVL.out HSZ.out).mono ?_
  rintro e w2 ⟨v2, rfl, ho2, hb2⟩
  have hz8 : (giveV cs fs).length ≤ 8 := by have := giveV_len8 cs fs; omega
  generalize hgv : giveV cs fs = zs at ho2 hz8
  have HGV := hide hgv
  clear hgv
  obtain ⟨az, cz, hv2, -, -, hi2, -⟩ := OwnI.form ho2
  subst hv2
  have HZ2 := hide hi2
  have HB2 := hide hb2
  have HBW2 := hide (below_seq HBW1.out hb2)
  clear ho2 hi2 hb2
  go_wp2_with fail
  refine (specGive_any ac af cc cf cs fs w2 (HCI.out.later HB2.out) (HF.out.later HB2.out) hc8 hf8 HSC.out HVL.out HSZ.out).mono ?_
  rintro e w3 ⟨v3, rfl, ho3, hb3⟩
  rw [HGV.out] at ho3
  obtain ⟨ay, cy, hv3, -, -, hi3, -⟩ := OwnI.form ho3
  subst hv3
  have HY3 := hide hi3
  have HZ3 := hide (HZ2.out.later hb3)
  have HB3 := hide (below_seq HB2.out hb3)
  have HBW3 := hide (below_seq HBW2.out hb3)
  clear ho3 hi3 hb3 HZ2 HB2 HBW2
  go_wp2_with fail
  refine (wInts_same az ay cz cy zs w3 HZ3.out HY3.out (by omega)).mono ?_
  rintro e w4 ⟨rfl, hb4⟩
  have HZ4 := hide (HZ3.out.later hb4)
  have HB4 := hide (below_seq HB3.out hb4)
  have HBW4 := hide (below_seq HBW3.out hb4)
  clear hb4 HZ3 HY3 HB3 HBW3
  go_wp2_with fail
  refine (implOrder_any af cf fs w4 (HF.out.later HB4.out) hf8).mono ?_
  rintro e w5 ⟨v5, rfl, ho5, hb5⟩
  have hnl : (nums (ordTo fs fs.length)).length = fs.length := by simp [nums, ordTo_len]
  have HNL := hide hnl
  clear hnl
  obtain ⟨ao, co, hv5, -, -, hi5, -⟩ := OwnI.form ho5
  subst hv5
  have HO5 := hide hi5
  have HZ5 := hide (HZ4.out.later hb5)
  have HB5 := hide (below_seq HB4.out hb5)
  have HBW5 := hide (below_seq HBW4.out hb5)
  clear ho5 hi5 hb5 HZ4 HB4 HBW4
  go_wp2_with fail
  refine (specOrder_any af cf fs w5 (HF.out.later HB5.out) hf8).mono ?_
  rintro e w6 ⟨v6, rfl, ho6, hb6⟩
  obtain ⟨ap, cp, hv6, -, -, hi6, -⟩ := OwnI.form ho6
  subst hv6
  have HP6 := hide hi6
  have HO6 := hide (HO5.out.later hb6)
  have HZ6 := hide (HZ5.out.later hb6)
  have HB6 := hide (below_seq HB5.out hb6)
  have HBW6 := hide (below_seq HBW5.out hb6)
  clear ho6 hi6 hb6 HZ5 HO5 HB5 HBW5
  go_wp2_with fail
  refine (wInts_same ao ap co cp _ w6 HO6.out HP6.out (by rw [HNL.out]; omega)).mono ?_
  rintro e w7 ⟨rfl, hb7⟩
  have HZ7 := hide (HZ6.out.later hb7)
  have HB7 := hide (below_seq HB6.out hb7)
  have HBW7 := hide (below_seq HBW6.out hb7)
  clear hb7 HZ6 HO6 HP6 HB6 HBW6
  cases hq1 : capsB cs with
  | false =>
    have H1 := hide hq1
    have HNIL : Hid (zs = []) := by show _ = _; rw [← HGV.out]; unfold giveV; rw [if_neg (by rw [hq1]; simp)]
    clear hq1
    go_wp2_with fail
    refine (implCapsOk_val ac cc cs _ H1.out _ (HCI.out.later HB7.out) hc8 HSC.out).mono ?_
    rintro e w8 ⟨rfl, hb8⟩
    have HB8 := hide (below_seq HB7.out hb8)
    have HBW8 := hide (below_seq HBW7.out hb8)
    clear hb8 HB7 HBW7
    go_wp2_with fail
    refine (specCapsOk_val ac cc cs _ H1.out _ (HCI.out.later HB8.out) hc8 HSC.out).mono ?_
    rintro e w9 ⟨rfl, hb9⟩
    have HB9 := hide (below_seq HB8.out hb9)
    have HBW9 := hide (below_seq HBW8.out hb9)
    clear hb9 HB8 HBW8
    have hff : (false != false) = false := rfl
    go_wp2_with fail
    refine (specCapsOk_val ac cc cs _ H1.out _ (HCI.out.later HB9.out) hc8 HSC.out).mono ?_
    rintro e w10 ⟨rfl, hb10⟩
    have HBW10 := hide (below_seq HBW9.out hb10)
    clear hb10 HB9 HBW9
    have hnil := HNIL.out
    subst hnil
    go_wp2
    go_ret
    exact ⟨rfl, HBW10.out⟩
  | true =>
    have H1 := hide hq1
    clear hq1
    go_wp2_with fail
    refine (implCapsOk_val ac cc cs _ H1.out _ (HCI.out.later HB7.out) hc8 HSC.out).mono ?_
    rintro e w8 ⟨rfl, hb8⟩
    have HZ8 := hide (HZ7.out.later hb8)
    have HB8 := hide (below_seq HB7.out hb8)
    have HBW8 := hide (below_seq HBW7.out hb8)
    clear hb8 HB7 HBW7 HZ7
    go_wp2_with fail
    refine (specCapsOk_val ac cc cs _ H1.out _ (HCI.out.later HB8.out) hc8 HSC.out).mono ?_
    rintro e w9 ⟨rfl, hb9⟩
    have HZ9 := hide (HZ8.out.later hb9)
    have HB9 := hide (below_seq HB8.out hb9)
    have HBW9 := hide (below_seq HBW8.out hb9)
    clear hb9 HB8 HBW8 HZ8
    have hff : (true != true) = false := rfl
    go_wp2_with fail
    refine (specCapsOk_val ac cc cs _ H1.out _ (HCI.out.later HB9.out) hc8 HSC.out).mono ?_
    rintro e w10 ⟨rfl, hb10⟩
    have HZ10 := hide (HZ9.out.later hb10)
    have HB10 := hide (below_seq HB9.out hb10)
    have HBW10 := hide (below_seq HBW9.out hb10)
    clear hb10 HB9 HBW9 HZ9
    cases hq2 : flisB fs with
    | false =>
      have H2 := hide hq2
      have HNIL : Hid (zs = []) := by show _ = _; rw [← HGV.out]; unfold giveV; rw [if_neg (by rw [hq2]; simp)]
      clear hq2
      go_wp2_with fail
      refine (specFlightsOk_val af cf fs _ H2.out _ (HF.out.later HB10.out) hf8 HVL.out HSZ.out).mono ?_
      rintro e w11 ⟨rfl, hb11⟩
      have HBW11 := hide (below_seq HBW10.out hb11)
      clear hb11
      have hnil := HNIL.out
      subst hnil
      go_wp2
      go_ret
      exact ⟨rfl, HBW11.out⟩
    | true =>
      have H2 := hide hq2
      have HZG : Hid (zs = giveTo cs fs fs.length) := by show _ = _; rw [← HGV.out]; unfold giveV; rw [if_pos ⟨H1.out, hq2⟩]
      have HGF := hide (give_fits H1.out hq2)
      have HBD := hide (flis_bd hq2).2
      clear hq2
      go_wp2_with fail
      refine (specFlightsOk_val af cf fs _ H2.out _ (HF.out.later HB10.out) hf8 HVL.out HSZ.out).mono ?_
      rintro e w11 ⟨rfl, hb11⟩
      have HZ11 := hide (HZ10.out.later hb11)
      have HB11 := hide (below_seq HB10.out hb11)
      have HBW11 := hide (below_seq HBW10.out hb11)
      clear hb11 HB10 HBW10 HZ10
      go_wp2_with fail
      refine (implFits_at ac af az cc cf cz cs fs zs zs.length rfl true (by rw [HZG.out]; exact HGF.out _ (Nat.le_refl _)) w11 (HCI.out.later HB11.out) (HF.out.later HB11.out) HZ11.out hc8 hf8 (by omega) HSC.out HVL.out HSZ.out).mono ?_
      rintro e w12 ⟨rfl, hb12⟩
      have HZ12 := hide (HZ11.out.later hb12)
      have HB12 := hide (below_seq HB11.out hb12)
      have HBW12 := hide (below_seq HBW11.out hb12)
      clear hb12 HB11 HBW11 HZ11
      go_wp2_with fail
      refine (implOrder_any af cf fs w12 (HF.out.later HB12.out) hf8).mono ?_
      rintro e w13 ⟨v13, rfl, ho13, hb13⟩
      obtain ⟨aq, cq, hv13, -, -, hi13, -⟩ := OwnI.form ho13
      rw [HNL.out] at hv13
      subst hv13
      have HO13 := hide hi13
      have HZ13 := hide (HZ12.out.later hb13)
      have HB13 := hide (below_seq HB12.out hb13)
      have HBW13 := hide (below_seq HBW12.out hb13)
      have HC13 := hide (HCI.out.later HB13.out)
      have HF13 := hide (HF.out.later HB13.out)
      clear ho13 hi13 hb13 HB12 HBW12 HZ12 HB13 HCI HF
      go_wp2
      go_loopw [7, 8] (fun v i wr => ∃ (k : Nat), k ≤ fs.length ∧ i = .int .i64 k ∧ Hid (OwnI wr w13.heap.size v (List.replicate k (-1))) ∧ Hid (Below w13.heap.size w13 wr)) (fun _ i _ => fs.length - (RowKit.intOf i).toNat)
      case atStart => exact ⟨0, Nat.zero_le _, rfl, own_emptyI w13, (Below.refl _ _).alloc (Nat.le_refl _) _⟩
      case round =>
        obtain ⟨k, hk, rfl, HO, HB⟩ := hrel
        by_cases hlt : k < fs.length
        · have hlt' : (k : Int) < (fs.length : Int) := by omega
          go_wp2_with (first
            | (at_builtin; refine wpList_append_own _ rfl _ _ 27 rfl w13.heap.size 3 i0 (.int .i64 0) 1 8 Tryz.underlying27 hi iz0 iz1 iz2 rfl (by decide) _ _ _ rfl (World.ownsRow.alloc HO.out _) ⟨wr.heap.size, 0, none⟩ 1 1 [.int .i64 (-1)] rfl rfl (cell_one_new _ _ _) (fun x hx => by simp at hx; subst hx; rfl) (by simp; unfold maxLen; omega) (by simp; omega) (by have := HB.out.size; simp; omega) ?_; intro v' w3 hown3 hgrow3 hnil3; have HO3 := hide hown3; have HB3 := hide (Below.grown (HB.out.alloc HB.out.size _) hgrow3 (by have := HB.out.size; simp; omega) (fun q hq => (HO.out.lt _ hq).1)); clear hown3 hgrow3 hnil3))
          go_roundw
          case rel => exact ⟨k + 1, by omega, by go_num, by show World.ownsRow _ _ _ _ _ _ _; have h3 := HO3.out; rw [List.replicate_succ']; simpa [intVals] using h3, HB3.out⟩
          case measure => simp [RowKit.intOf]; omega
        · have hkn : k = fs.length := by omega
          subst hkn
          obtain ⟨ag, cg, hvg, -⟩ := OwnI.form HO.out
          rw [List.length_replicate] at hvg
          subst hvg
          go_wp2
          go_loopw [9] (fun i wr => ∃ (k : Nat), k ≤ fs.length ∧ i = .int .i64 k ∧ Hid (OwnI wr w13.heap.size (.slice ag fs.length cg) (giveTo cs fs k)) ∧ Hid (Below w13.heap.size w13 wr)) (fun i _ => fs.length - (RowKit.intOf i).toNat)
          case atStart => exact ⟨0, Nat.zero_le _, rfl, HO.out, HB.out⟩
          case round =>
            obtain ⟨k, hk, rfl, OA, HB2⟩ := hrel
            clear HO HB
            by_cases hlt2 : k < fs.length
            · have hlt' : (k : Int) < (fs.length : Int) := by omega
              have k0 : (0 : Int) ≤ (k : Int) := by omega
              obtain ⟨g, rfl, hgb, hgl, -⟩ := own_some OA.out (by rw [giveTo_len]; omega)
              obtain ⟨ob, oo, hoe, hobl, -⟩ := HO13.out k (by rw [HNL.out]; exact hlt2)
              subst hoe
              have hkn : k < (ordTo fs fs.length).length := by rw [ordTo_len]; exact hlt2
              have HOC : Hid (∀ W : World, Below w13.heap.size w13 W → W.cell? ⟨ob, oo + k, none⟩ = some (.int .i64 (((ordTo fs fs.length)[k] : Nat) : Int))) := fun W hW => by
                obtain ⟨b9, o9, e9, _, c9⟩ := (HO13.out.later hW) k (by rw [HNL.out]; exact hlt2)
                simp at e9
                obtain ⟨rfl, rfl⟩ := e9
                rw [c9]
                simp [nums]
              have holt : (ordTo fs fs.length)[k] < fs.length := ordTo_lt fs fs.length _ (List.getElem_mem hkn)
              have HGS := hide (giveTo_succ cs fs hlt2)
              have HGA := hide (give_at cs fs hkn)
              generalize (ordTo fs fs.length)[k] = o at HOC holt HGS HGA
              obtain ⟨fb, fo, hfe, hfbl, -⟩ := HF13.out o holt
              subst hfe
              obtain ⟨zb, zo, hze, hzbl, -⟩ := HZ13.out o (by rw [HZG.out, giveTo_len]; exact holt)
              subst hze
              have HZC : Hid (∀ W : World, Below w13.heap.size w13 W → W.cell? ⟨zb, zo + o, none⟩ = some (.int .i64 (leastV cs fs (giveTo cs fs k) o))) := fun W hW => by
                obtain ⟨b9, o9, e9, _, c9⟩ := (HZ13.out.later hW) o (by rw [HZG.out, giveTo_len]; exact holt)
                simp at e9
                obtain ⟨rfl, rfl⟩ := e9
                rw [c9]
                have h9 := HGA.out
                rw [← HZG.out, List.getElem?_eq_getElem (by rw [HZG.out, giveTo_len]; exact holt)] at h9
                simp only [Option.some.injEq] at h9
                rw [h9]
              obtain ⟨-, ⟨hp0, hp1⟩, ⟨hq0, hq1⟩, -⟩ := HBD.out o holt
              have HAT := hide (fun (j : Nat) hk h1 h2 => leastV_at (cs := cs) (ss := giveTo cs fs k) (k := j) holt hk h1 h2)
              have HNO := hide (fun h1 => leastV_none (cs := cs) (ss := giveTo cs fs k) holt h1 hq0)
              have hgkl : (giveTo cs fs k).length = fs.length := giveTo_len cs fs k
              have HGL := hide hgkl
              clear hgkl hkn HGA
              generalize giveTo cs fs k = gk at OA HGS HZC HAT HNO HGL
              obtain ⟨b9, o9, e9, _, f0, f1, f2, av, cv, f3, -⟩ := (HF13.out.later HB2.out) o holt
              simp at e9
              obtain ⟨rfl, rfl⟩ := e9
              have oc := HOC.out _ HB2.out
              have o0 : (0 : Int) ≤ (o : Int) := by omega
              have o1 : (o : Int) < (fs.length : Int) := by omega
              have hgo : o < gk.length := by rw [HGL.out]; exact holt
              generalize fs[o] = f at f0 f1 f2 f3 hp0 hp1 hq0 hq1 HAT HNO
              obtain ⟨nm, P, Q, vs⟩ := f
              simp only at f0 f1 f2 f3 hp0 hp1 hq0 hq1 HAT HNO
              obtain ⟨W, hW, -, x1, x2, -, hWb⟩ := alloc4 wr (.string nm) (.int .i64 P) (.int .i64 Q) (.slice av vs.length cv) 36
              have HX := hide (And.intro x1 x2)
              have OW := hide (owns_later OA.out hWb)
              have BW := hide (below_seq HB2.out hWb)
              have hFA : wr.heap.size ≠ g := by omega
              clear hWb OA HB2
              go_wp2
              clear f0 f1 f2 f3 oc hW x1 x2
              generalize wr.heap.size = FA at HX hFA
              go_loopw [11, 12] (fun l t wx => ∃ (j : Nat) (L z : Int), (j : Int) ≤ Q + 1 ∧ t = .int .i64 (P + (j : Int)) ∧ l = .int .i64 L ∧ Hid ((L = -1 ∧ ∀ i, i < j → fitsB cs fs (gk.set o (P + (i : Nat))) = false) ∨ (0 ≤ L ∧ leastV cs fs gk o = L)) ∧ Hid (OwnI wx w13.heap.size (.slice (some ⟨g, 0, none⟩) fs.length cg) (gk.set o z)) ∧ Hid (Below w13.heap.size w13 wx) ∧ Hid (wx.cell? ⟨FA, 1, none⟩ = some (.int .i64 P) ∧ wx.cell? ⟨FA, 2, none⟩ = some (.int .i64 Q))) (fun _ t _ => (P + Q + 1 - RowKit.intOf t).toNat)
              case atStart => exact ⟨0, -1, gk[o], by omega, by simp, rfl, .inl ⟨rfl, fun i hi => by omega⟩, by rw [List.set_getElem_self]; exact OW.out, BW.out, HX.out⟩
              case round =>
                obtain ⟨j, L, z, hj, rfl, rfl, HL, OX, BX, HXX⟩ := hrel
                clear OW BW HX
                obtain ⟨x1, x2⟩ := HXX.out
                have oc := HOC.out _ BX.out
                obtain ⟨y0, y1⟩ := own_cellI OX.out (k := o) (by simpa using hgo)
                rcases HL.out with ⟨hL, hno⟩ | ⟨hL0, hLe⟩
                · subst hL
                  have HNF := hide hno
                  clear hno HL
                  by_cases hjq : (j : Int) ≤ Q
                  · have hle : P + (j : Int) ≤ P + Q := by omega
                    cases hq : fitsB cs fs (gk.set o (P + (j : Int))) with
                    | false =>
                      have HQ := hide hq
                      clear hq
                      go_wp2_with fail
                      have OS : Hid (OwnI (wr.setCell ⟨g, o, none⟩ (.int .i64 (P + (j : Int)))) w13.heap.size (.slice (some ⟨g, 0, none⟩) fs.length cg) (gk.set o (P + (j : Int)))) := by
                        have := own_setI OX.out (k := o) (P + (j : Int))
                        rwa [List.set_set] at this
                      have BS := hide (below_set BX.out g o hgb (.int .i64 (P + (j : Int))))
                      have HXS := hide (And.intro (cell_other (g := g) (j := o) (u := .int .i64 (P + (j : Int))) hFA x1) (cell_other (g := g) (j := o) (u := .int .i64 (P + (j : Int))) hFA x2))
                      clear OX BX HXX x1 x2 oc y0 y1
                      generalize wr.setCell ⟨g, o, none⟩ (.int .i64 (P + (j : Int))) = ws at OS BS HXS
                      refine (implFits_at _ _ _ _ _ _ cs fs (gk.set o (P + (j : Int))) fs.length (by rw [List.length_set]; exact HGL.out) false HQ.out ws (HC13.out.later BS.out) (HF13.out.later BS.out) (ints_of OS.out) hc8 hf8 (by rw [List.length_set, HGL.out]; exact hf8) HSC.out HVL.out HSZ.out).mono ?_
                      rintro e w2 ⟨rfl, hb2⟩
                      have O2 := hide (owns_later OS.out hb2)
                      have B2 := hide (below_seq BS.out hb2)
                      have X2 := hide (And.intro (cell_later hb2 HXS.out.1) (cell_later hb2 HXS.out.2))
                      clear hb2 OS BS HXS
                      go_wp2
                      go_roundw
                      case rel => exact ⟨j + 1, -1, P + (j : Int), by omega, by simp; omega, rfl, .inl ⟨rfl, fun i hi => by
                        by_cases he : i = j
                        · subst he; exact HQ.out
                        · exact HNF.out i (by omega)⟩, O2.out, B2.out, X2.out⟩
                      case measure => simp [RowKit.intOf]; omega
                    | true =>
                      have HQ := hide hq
                      clear hq
                      have HLV := hide (HAT.out j hjq HNF.out HQ.out)
                      go_wp2_with fail
                      have OS : Hid (OwnI (wr.setCell ⟨g, o, none⟩ (.int .i64 (P + (j : Int)))) w13.heap.size (.slice (some ⟨g, 0, none⟩) fs.length cg) (gk.set o (P + (j : Int)))) := by
                        have := own_setI OX.out (k := o) (P + (j : Int))
                        rwa [List.set_set] at this
                      have BS := hide (below_set BX.out g o hgb (.int .i64 (P + (j : Int))))
                      have HXS := hide (And.intro (cell_other (g := g) (j := o) (u := .int .i64 (P + (j : Int))) hFA x1) (cell_other (g := g) (j := o) (u := .int .i64 (P + (j : Int))) hFA x2))
                      clear OX BX HXX x1 x2 oc y0 y1
                      generalize wr.setCell ⟨g, o, none⟩ (.int .i64 (P + (j : Int))) = ws at OS BS HXS
                      refine (implFits_at _ _ _ _ _ _ cs fs (gk.set o (P + (j : Int))) fs.length (by rw [List.length_set]; exact HGL.out) true HQ.out ws (HC13.out.later BS.out) (HF13.out.later BS.out) (ints_of OS.out) hc8 hf8 (by rw [List.length_set, HGL.out]; exact hf8) HSC.out HVL.out HSZ.out).mono ?_
                      rintro e w2 ⟨rfl, hb2⟩
                      have O2 := hide (owns_later OS.out hb2)
                      have B2 := hide (below_seq BS.out hb2)
                      have X2 := hide (And.intro (cell_later hb2 HXS.out.1) (cell_later hb2 HXS.out.2))
                      clear hb2 OS BS HXS
                      go_wp2
                      go_roundw
                      case rel => exact ⟨j + 1, P + (j : Int), P + (j : Int), by omega, by simp; omega, rfl, .inr ⟨by omega, HLV.out⟩, O2.out, B2.out, X2.out⟩
                      case measure => simp [RowKit.intOf]; omega
                  · have hle : ¬ P + (j : Int) ≤ P + Q := by omega
                    have HLV := hide (HNO.out (fun i hi => HNF.out i (by omega)))
                    have oz := HZC.out _ BX.out
                    have HEND : Hid (OwnI (wr.setCell ⟨g, o, none⟩ (.int .i64 (-1))) w13.heap.size (.slice (some ⟨g, 0, none⟩) fs.length cg) (giveTo cs fs (k + 1))) := by
                      show OwnI _ _ _ _
                      rw [HGS.out, HLV.out]
                      have := own_setI OX.out (k := o) (-1)
                      rwa [List.set_set] at this
                    have BEND := hide (below_set BX.out g o hgb (.int .i64 (-1)))
                    rw [HLV.out] at oz
                    have oz2 : (wr.setCell ⟨g, o, none⟩ (.int .i64 (-1))).cell? ⟨zb, zo + o, none⟩ = some (.int .i64 (-1)) := cell_other (by omega) oz
                    have oc2 : (wr.setCell ⟨g, o, none⟩ (.int .i64 (-1))).cell? ⟨ob, oo + k, none⟩ = some (.int .i64 (o : Nat)) := cell_other (by omega) oc
                    have hzl : (o : Int) < (zs.length : Int) := by rw [HZG.out, giveTo_len]; omega
                    have hLL : ((-1) != (-1)) = false := by simp
                    clear oz
                    go_wp2
                    go_roundw
                    case rel => exact ⟨k + 1, by omega, by go_num, HEND.out, BEND.out⟩
                    case measure => simp [RowKit.intOf]; omega
                · have hLd : decide (L < 0) = false := decide_eq_false (by omega)
                  have HLV := hide hLe
                  clear hLe HL
                  by_cases hjq : P + (j : Int) ≤ P + Q
                  · have oz := HZC.out _ BX.out
                    have HEND : Hid (OwnI (wr.setCell ⟨g, o, none⟩ (.int .i64 L)) w13.heap.size (.slice (some ⟨g, 0, none⟩) fs.length cg) (giveTo cs fs (k + 1))) := by
                      show OwnI _ _ _ _
                      rw [HGS.out, HLV.out]
                      have := own_setI OX.out (k := o) L
                      rwa [List.set_set] at this
                    have BEND := hide (below_set BX.out g o hgb (.int .i64 L))
                    rw [HLV.out] at oz
                    have oz2 : (wr.setCell ⟨g, o, none⟩ (.int .i64 L)).cell? ⟨zb, zo + o, none⟩ = some (.int .i64 L) := cell_other (by omega) oz
                    have oc2 : (wr.setCell ⟨g, o, none⟩ (.int .i64 L)).cell? ⟨ob, oo + k, none⟩ = some (.int .i64 (o : Nat)) := cell_other (by omega) oc
                    have hzl : (o : Int) < (zs.length : Int) := by rw [HZG.out, giveTo_len]; omega
                    have hLL : (L != L) = false := by simp
                    clear oz
                    go_wp2
                    go_roundw
                    case rel => exact ⟨k + 1, by omega, by go_num, HEND.out, BEND.out⟩
                    case measure => simp [RowKit.intOf]; omega
                  · have oz := HZC.out _ BX.out
                    have HEND : Hid (OwnI (wr.setCell ⟨g, o, none⟩ (.int .i64 L)) w13.heap.size (.slice (some ⟨g, 0, none⟩) fs.length cg) (giveTo cs fs (k + 1))) := by
                      show OwnI _ _ _ _
                      rw [HGS.out, HLV.out]
                      have := own_setI OX.out (k := o) L
                      rwa [List.set_set] at this
                    have BEND := hide (below_set BX.out g o hgb (.int .i64 L))
                    rw [HLV.out] at oz
                    have oz2 : (wr.setCell ⟨g, o, none⟩ (.int .i64 L)).cell? ⟨zb, zo + o, none⟩ = some (.int .i64 L) := cell_other (by omega) oz
                    have oc2 : (wr.setCell ⟨g, o, none⟩ (.int .i64 L)).cell? ⟨ob, oo + k, none⟩ = some (.int .i64 (o : Nat)) := cell_other (by omega) oc
                    have hzl : (o : Int) < (zs.length : Int) := by rw [HZG.out, giveTo_len]; omega
                    have hLL : (L != L) = false := by simp
                    clear oz
                    go_wp2
                    go_roundw
                    case rel => exact ⟨k + 1, by omega, by go_num, HEND.out, BEND.out⟩
                    case measure => simp [RowKit.intOf]; omega
            · have hkn : k = fs.length := by omega
              subst hkn
              go_wp2
              go_ret
              exact ⟨rfl, below_seq HBW13.out HB2.out⟩

end Go.Proofs.YtciacofibljmoaaGreat
