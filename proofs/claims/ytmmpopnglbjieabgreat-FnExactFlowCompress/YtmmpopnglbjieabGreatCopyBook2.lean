/- A book copied, the program's way, walked whole. -/
import Derived.Test.YtmmpopnglbjieabGreatCopyBook
namespace Go.Proofs.YtmmpopnglbjieabGreat
open Go.RowKit

set_option maxRecDepth 100000 in
set_option maxHeartbeats 6400000 in
theorem copyBook_any (ac a a' : Option Addr) (capc cap cap' : Nat) (cs : List (ByteArray × Int)) (fs : List Fli) (ss : List Int) (w : World) (hb : BookIn w ac a a' cs fs ss) (hm : BookSm cs fs ss) (hv1 : ∀ f ∈ fs, 1 ≤ f.2.2.2.length) :
    Calls Tryz.prog 49 #[bkV ac a a' capc cap cap' cs fs ss] w fun e w' => ∃ bc b b' cc cb cb', e = .returned (bkV bc b b' cc cb cb' cs fs ss) ∧ OwnBk w.heap.size w' bc b b' cc cb cb' cs fs ss ∧ Below w.heap.size w w' := by
  have HB := hide hb
  have HM := hide hm
  have HV1 := hide hv1
  have hnf := hm.nf
  clear hb hm hv1
  obtain ⟨W, hW, hWs, f0, r0, b0⟩ := bk_boxes w (.slice ac cs.length capc) (.slice a fs.length cap) (.slice a' ss.length cap')
  have HW := hide hW
  have F0 := hide f0
  have R0 := hide r0
  have B0 := hide b0
  clear hW f0 r0 b0
  go_enter Tryz.func49, Tryz.ntmps49
  go_wp2_with fail
  rw [HW.out]
  refine (cloneF_any a cap fs W (HB.out.fl.later B0.out) hnf).mono ?_
  rintro e w1 ⟨v, gs0, rfl, hgs0, hvis0, hown0, hb1⟩
  obtain ⟨a1, c1, rfl, hc1, hc2, -⟩ := owns_slice hown0
  have hlen0 : gs0.length = fs.length := by rw [← hgs0, List.length_map]
  obtain ⟨g0, hg0⟩ : ∃ g0, 1 ≤ fs.length → a1 = some ⟨g0, 0, none⟩ ∧ W.heap.size ≤ g0 := by
    by_cases h1 : 1 ≤ fs.length
    · obtain ⟨g, e1, e2, _⟩ := owns_some hown0 (by omega)
      exact ⟨g, fun _ => ⟨e1, e2⟩⟩
    · exact ⟨0, fun hh => absurd hh h1⟩
  have G0 := hide hg0
  have O0 := hide hown0
  have VI := hide hvis0
  have GS := hide hgs0
  have B1 := hide hb1
  have HL0 := hide hlen0
  have hc3 : fs.length ≤ c1 := by omega
  rw [hlen0] at O0
  clear hg0 hown0 hvis0 hgs0 hb1
  rw [hlen0]
  clear hlen0 hc1
  go_wp2
  go_loopw [11] (fun i wr => ∃ (k : Nat) (gs : List FlV), k ≤ fs.length ∧ i = .int .i64 k ∧ Hid (gs.map Prod.fst = fs) ∧ Hid (World.ownsRow wr W.heap.size 65 4 (.slice a1 gs.length c1) gs.length (flVals gs)) ∧ Hid (AscTo wr W.heap.size g0 gs k) ∧ Hid (∀ i (hi : i < gs.length), k ≤ i → VisitsIn W gs[i].2.1 gs[i].1.2.2.2) ∧ Hid (Below W.heap.size W wr)) (fun i _ => fs.length - (intOf i).toNat)
  case atStart => exact ⟨0, gs0, Nat.zero_le _, rfl, GS.out, by show World.ownsRow _ _ _ _ _ _ _; rw [HL0.out]; exact O0.out, fun i hi h => by omega, fun i hi _ => VI.out _ (List.getElem_mem hi), B1.out⟩
  case round =>
    obtain ⟨k, gs, hk, rfl, GSk, OK, AK, VK, BK⟩ := hrel
    clear O0 VI GS B1
    have hlen : gs.length = fs.length := by rw [← GSk.out, List.length_map]
    by_cases hlt : k < fs.length
    · obtain ⟨rfl, hg1⟩ := G0.out (by omega)
      obtain ⟨⟨y0, y1, y2, y3⟩, -⟩ := own_cell4 OK.out (k := k) (by omega)
      have hgk : (gs[k]'(by omega)).1 ∈ gs.map Prod.fst := List.mem_map_of_mem (List.getElem_mem _)
      rw [GSk.out] at hgk
      have hvl := HM.out.vl _ hgk
      have hv1 := HV1.out _ hgk
      have VV := hide (VK.out k (by omega) (Nat.le_refl _))
      have HX : Hid ((gs[k]'(by omega)).1 = fs[k]) := by show _ = _; simp only [← GSk.out, List.getElem_map]
      have k0 : (0 : Int) ≤ (k : Int) := by omega
      have k1 : (k : Int) < (fs.length : Int) := by omega
      unfold visV at y3
      generalize hx : gs[k]'(by omega) = x at y0 y1 y2 y3 hvl hv1 VV HX
      obtain ⟨⟨nm, pl, lt, vs⟩, av, cv⟩ := x
      simp only at y0 y1 y2 y3 hvl hv1 VV HX
      clear hgk hx
      have HLN := hide hlen
      clear hlen
      go_wp2_with fail
      obtain ⟨V, hV, -, -, -, -, hVb⟩ := alloc4 wr (.string nm) (.int .i64 pl) (.int .i64 lt) (.slice av vs.length cv) 65
      rw [hV]
      have HVb := hide hVb
      clear hV hVb y0 y1 y2 y3
      refine (copyFlight_any nm pl lt vs av cv V ((VV.out.later BK.out).later HVb.out) hvl).mono ?_
      rintro e w2 ⟨a2, c2, rfl, ho2, hb2⟩
      have O2 := hide (owns_later (owns_later OK.out HVb.out) hb2)
      have hs1 := HVb.out.size
      have hs2 := hb2.size
      have hsw := BK.out.size
      obtain ⟨⟨x0, x1, x2, x3⟩, z0, z1, z2, z3⟩ := own_cell4 O2.out (k := k) (by rw [HLN.out]; exact hlt)
      obtain ⟨g, rfl, hgb, hgl⟩ := owns_some ho2 hv1
      have BB := hide (below_two (below_two BK.out HVb.out) hb2)
      have T2 : Hid (TouchS (fun q => q = g0) wr w2) := touchS_trans (touchS_below HVb.out) (touchS_below hb2)
      have OV := hide ho2
      have hglt := (World.ownsRow.lt OK.out g0 rfl).2
      clear hb2 ho2 OK HVb BK
      go_wp2
      go_roundw
      case rel =>
        have T9 : TouchS (fun q => q = g0) w2 ((((w2.setCell ⟨g0, k * 4, none⟩ (.string nm)).setCell ⟨g0, k * 4 + 1, none⟩ (.int .i64 pl)).setCell ⟨g0, k * 4 + 2, none⟩ (.int .i64 lt)).setCell ⟨g0, k * 4 + 3, none⟩ (.slice (some ⟨g, 0, none⟩) vs.length c2)) := set4_touch w2 g0 (k * 4) _ _ _ _
        refine ⟨k + 1, gs.set k ((nm, pl, lt, vs), some ⟨g, 0, none⟩, c2), by omega, by go_num, ?_, ?_, ?_, ?_, ?_⟩
        · show _ = _
          rw [List.map_set, GSk.out, HX.out, List.set_getElem_self]
        · show World.ownsRow _ _ _ _ _ _ _
          rw [List.length_set]
          exact owns_set4 O2.out (by rw [HLN.out]; exact hlt) ((nm, pl, lt, vs), some ⟨g, 0, none⟩, c2)
        · refine asc_succ AK.out (by rw [HLN.out]; exact hlt) (touchS_trans T2.out T9) (fun q hq => by omega) _ ?_ (g := g) rfl (by omega) (by omega)
          refine owns_base (owns_keep OV.out fun q hq => T9.block q (World.ownsRow.lt OV.out q hq).2 (fun hh => ?_)) (by omega)
          have := (World.ownsRow.lt OV.out q hq).1
          omega
        · intro i hi hki
          have hi' : i < gs.length := by simpa using hi
          rw [List.getElem_set_ne (by omega)]
          exact VK.out i hi' (by omega)
        · exact BB.out.trans (below_ofS (S := fun q => q = g0) T9 BB.out.size (fun q hq => by omega))
      case measure => simp [intOf]; omega
    · have hkf : k = fs.length := by omega
      subst hkf
      have F1 := hide (F0.out.later BK.out)
      have R1 := hide (R0.out.later BK.out)
      have HLN := hide hlen
      clear hlen VK
      obtain ⟨x0, x1, x2, -⟩ := F1.out.cells
      have hne : w.heap.size ≠ w.heap.size + 1 := by omega
      go_wp2_with fail
      go_region_held3 (fun X => X.cell? ⟨w.heap.size, 0, none⟩ = some (.slice ac cs.length capc) ∧ X.cell? ⟨w.heap.size, 2, none⟩ = some (.slice a' ss.length cap'))
        (first | exact ⟨x0, x2⟩ | exact ⟨cell_later hbA x0, cell_later hbA x2⟩ | exact ⟨cell_later hbB (cell_later hbA x0), cell_later hbB (cell_later hbA x2)⟩ | exact ⟨cell_other hne (cell_other hne (cell_other hne (cell_later hbB (cell_later hbA x0)))), cell_other hne (cell_other hne (cell_other hne (cell_later hbB (cell_later hbA x2))))⟩)
        (first
          | (go_at_call 77; refine (cloneC_any ac capc cs wr.drew (HB.out.caps.later (below_two B0.out BK.out).drew) HM.out.nc).mono ?_; rintro e wA ⟨vc, rfl, hoA, hbA⟩; obtain ⟨aA, cA, rfl, -, -, -, -⟩ := OwnC.form hoA)
          | (go_at_call 69; refine (cloneI_any a' cap' ss wA ((HB.out.ints.later (below_two B0.out BK.out).drew).later hbA) HM.out.ns).mono ?_; rintro e wB ⟨vi, rfl, hoB, hbB⟩; obtain ⟨aB, cB, rfl, -, -, -, -⟩ := OwnI.form hoB; obtain ⟨r0, r1, r2, t0, t1, t2⟩ := ((R1.out.later (below_dr hbA)).later hbB).cells)
          | (fail))
      rename_i hH
      clear hH
      have hsw := BK.out.size
      have hsA := hbA.size
      have hsB := hbB.size
      have hszd : wr.drew.heap.size = wr.heap.size := rfl
      have RX := hide (((R1.out.later (below_dr hbA)).later hbB).set3 (.slice aA cs.length cA) (.slice a1 fs.length c1) (.slice aB ss.length cB))
      have TX := hide (set3_touch wB (w.heap.size + 1) (.slice aA cs.length cA) (.slice a1 fs.length c1) (.slice aB ss.length cB))
      have BAB := hide (below_two (below_dr hbA) hbB)
      have OF := hide (owns_later OK.out BAB.out)
      have AF : Hid (AscTo wB W.heap.size g0 gs gs.length) := by
        show AscTo _ _ _ _ _
        rw [HLN.out]
        exact asc_keep (S := fun _ => False) AK.out (touchS_below BAB.out) (fun _ h => h.elim)
      have IC : Hid (∀ q, InA aA q → wr.heap.size ≤ q ∧ q < wA.heap.size) := fun q hq => owns_in hoA hq
      have IF : Hid (∀ q, InF a1 (gs.map fun x => (x.2.1, x.1.2.2.2.length, x.2.2)) q → W.heap.size ≤ q ∧ q < wr.heap.size) := fun q hq => by
        have := inF_of OK.out (g0 := g0) (lo := W.heap.size) (by rw [HLN.out]; exact AK.out) hq
        omega
      have OC := hide (owns_later hoA hbB)
      have OI := hide hoB
      have BT := hide (below_two (below_two B0.out BK.out) BAB.out)
      have hfl : gs.length = fs.length := HLN.out
      clear hbA hbB hoA hoB x0 x1 x2 r0 r1 r2 t0 t1 t2
      go_wp2
      generalize hY : ((wB.setCell ⟨w.heap.size + 1, 0, none⟩ (.slice aA cs.length cA)).setCell ⟨w.heap.size + 1, 1, none⟩ (.slice a1 fs.length c1)).setCell ⟨w.heap.size + 1, 2, none⟩ (.slice aB ss.length cB) = Y at *
      clear hY
      obtain ⟨y0, y1, y2, -⟩ := RX.out.cells
      have notB : ∀ q, w.heap.size + 2 ≤ q → ¬ (q = w.heap.size + 1) := fun q hq => by omega
      have OF2 : World.ownsRow Y W.heap.size 65 4 (.slice a1 gs.length c1) gs.length (flVals gs) := owns_keep OF.out fun q hq => TX.out.block q (World.ownsRow.lt OF.out q hq).2 (notB q (by have := (World.ownsRow.lt OF.out q hq).1; omega))
      have AF2 : AscTo Y W.heap.size g0 gs gs.length := fun i hi hik => by
        obtain ⟨h1, g, h2, h3, h4⟩ := AF.out i hi hik
        exact ⟨owns_keep h1 fun q hq => TX.out.block q (World.ownsRow.lt h1 q hq).2 (notB q (by have := (World.ownsRow.lt h1 q hq).1; omega)), g, h2, h3, h4⟩
      have OC2 : OwnC Y wr.heap.size (.slice aA cs.length cA) cs := owns_keep OC.out fun q hq => TX.out.block q (World.ownsRow.lt OC.out q hq).2 (notB q (by have := (World.ownsRow.lt OC.out q hq).1; omega))
      have OI2 : OwnI Y wA.heap.size (.slice aB ss.length cB) ss := owns_keep OI.out fun q hq => TX.out.block q (World.ownsRow.lt OI.out q hq).2 (notB q (by have := (World.ownsRow.lt OI.out q hq).1; omega))
      have hYs := TX.out.size
      -- where each lies
      have inC := IC.out
      have inI : ∀ q, InA aB q → wA.heap.size ≤ q ∧ q < Y.heap.size := fun q hq => owns_in OI2 hq
      have inF := IF.out
      refine bodyPost_ret (v := bkV aA a1 aB cA c1 cB cs fs ss) (by simp [results, Tryz.results49, go_sem, y0, y1, y2]) rfl ⟨aA, a1, aB, cA, c1, cB, rfl, ⟨⟨caps_of OC2, by rw [← GSk.out]; exact fls_of OF2 AF2, ints_of OI2⟩, (gs.map fun x => (x.2.1, x.1.2.2.2.length, x.2.2)), ⟨rowW_of_owns OC2, (flW_of OF2 AF2 (fun h => (G0.out (by omega)).1)).1, rowW_of_owns OI2, (flW_of OF2 AF2 (fun h => (G0.out (by omega)).1)).2, fun q hq hq2 => ?_, fun q hq hq2 => ?_, fun q hq hq2 => ?_⟩, by rw [List.length_map]; exact hfl, fun i h1 h2 => ?_, fun q hq => ?_⟩, ?_⟩
      · have := inC q hq.2; have := inF q hq2; omega
      · have := inC q hq.2; have := inI q hq2.2; omega
      · have := inF q hq; have := inI q hq2.2; omega
      · simp only [List.getElem_map]
        have : fs[i] = (gs[i]'(by simpa using h1)).1 := by simp only [← GSk.out, List.getElem_map]
        rw [this]
      · rcases hq with hq | hq | hq
        · have := inC q hq.2; omega
        · have := inF q hq; omega
        · have := inI q hq.2; omega
      · exact BT.out.trans (below_ofS (S := fun q => q = w.heap.size + 1) TX.out (by omega) (fun q hq => by omega))

end Go.Proofs.YtmmpopnglbjieabGreat
