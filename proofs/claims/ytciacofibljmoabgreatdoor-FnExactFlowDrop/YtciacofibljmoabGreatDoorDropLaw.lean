/- At every book and name FlowDrop answers as the document's model does, leaves its argument as it was, and its answer owns its memory: the law FnExactFlowDrop returns true for every input, and the arguments read afterwards as before. No condition but the laid variable's. -/
import Derived.Test.YtciacofibljmoabGreatDoorSpecDrop
import Derived.Test.YtciacofibljmoabGreatDoorHappen
import Derived.Test.YtciacofibljmoabGreatDoorRounds
import Derived.Test.YtciacofibljmoabGreatDoorDropOut
namespace Go.Proofs.YtciacofibljmoabGreatDoor
open Go.ChangeShapes Go.WideShapes Go.ChangeAt Go.RowKit

theorem bk_newD (w : World) (v0 v1 v2 : Value) : ∃ V, w.alloc (.cells #[v0, v1, v2] 35) = V ∧ V.heap.size = w.heap.size + 1 ∧ BkAt V w.heap.size v0 v1 v2 ∧ Below w.heap.size w V := ⟨_, rfl, by simp, BkAt.newAt w _ rfl _ _ _, (Below.refl _ _).alloc (Nat.le_refl _) _⟩
theorem dropAll_sm {cs : List (ByteArray × Int)} {fs : List Fli} {ss : List Int} (nm : ByteArray) (h : BookSm cs fs ss) : BookSm (okC cs fs ss) (dropF cs fs ss nm) (dropS cs fs ss nm) := by
  unfold okC dropF dropS
  cases hq : fitsB cs fs ss
  · exact ⟨by simp, by simp, by simp, by simp, by simp, by simp⟩
  · cases ht : thereB fs nm
    · exact ⟨h.nc, h.nf, h.ns, h.sc, h.vl, h.sf⟩
    · have h' := drop_sm h (placeV fs nm)
      refine ⟨h'.nc, h'.nf, ?_, h'.sc, h'.vl, h'.sf⟩
      show (compV cs _ _).length ≤ _
      rw [comp_len (drop_fits hq (placeV fs nm))]
      exact h'.ns

set_option maxRecDepth 100000 in
set_option maxHeartbeats 6400000 in
theorem dropLaw_walk (nm : ByteArray) (ac a a' : Option Addr) (capc cap cap' : Nat) (cs : List (ByteArray × Int)) (fs : List Fli) (ss : List Int) (w : World) (hg : ErrT w) (hb : BookIn w ac a a' cs fs ss) (hsc : ∀ c ∈ cs, c.1.size ≤ maxLen) (hs : ∀ f ∈ fs, SizesOk f) (hlc : cs.length ≤ maxLen) (hl : fs.length ≤ maxLen) (hl' : ss.length ≤ maxLen) :
    Calls Tryz.prog 4 #[bkV ac a a' capc cap cap' cs fs ss, .string nm] w fun e w' => e = .returned (.bool true) ∧ Below w.heap.size w w' := by
  have HB := hide hb
  have HG := hide hg
  have HSC := hide hsc
  have HS := hide hs
  clear hb hsc hs hg
  obtain ⟨W, hW, x0, x1, x2, hWb⟩ := alloc3 w (.slice ac cs.length capc) (.slice a fs.length cap) (.slice a' ss.length cap') 26
  have X0 := hide x0
  have X1 := hide x1
  have X2 := hide x2
  have HW := hide hW
  have WB := hide hWb
  clear hW hWb x0 x1 x2
  by_cases hnm : (1048576 : Int) < (nm.size : Int)
  · go_enter Tryz.func4, Tryz.ntmps4
    go_wp2
    go_ret
    exact ⟨rfl, (Below.refl _ _).alloc (Nat.le_refl _) _⟩
  go_enter Tryz.func4, Tryz.ntmps4
  go_wp2_with fail
  rw [HW.out]
  refine (szFlowBook_any ac a a' capc cap cap' cs fs ss 1048576 W (HB.out.later WB.out) HSC.out HS.out hlc hl hl' (by omega) (by omega)).mono ?_
  rintro e w1 ⟨⟨r, rfl, hr⟩, hb1⟩
  have B1 := hide hb1
  clear hb1
  rcases hr with hr | ⟨hr, hr1, hm⟩
  · go_wp2
    go_ret
    exact ⟨rfl, below_two WB.out B1.out⟩
  have HM := hide hm
  have HOK := hide (dropAll_sm nm hm)
  have BB := hide (HB.out.later WB.out)
  clear hr1 hm hl hl' hlc
  have x0 := cell_later B1.out X0.out
  have x1 := cell_later B1.out X1.out
  have x2 := cell_later B1.out X2.out
  go_wp2_with fail
  refine (toFlowBook_any ac a a' capc cap cap' cs fs ss w1 (BB.out.later B1.out) HM.out).mono ?_
  rintro e w2 ⟨gc, gf, gi, rfl, hmade, hb2⟩
  have M2 := hide hmade
  have B2 := hide (below_two B1.out hb2)
  clear hb2 hmade x0 x1 x2
  go_wp2_with fail
  refine (specDrop_any nm _ _ _ _ _ _ cs fs ss w2 M2.out.book HM.out (fun e => by cases e) (fun e => by cases e)).mono ?_
  rintro e w3 ⟨dc, d, d', dd, db, db', rfl, hbk, hb3⟩
  obtain ⟨V3, hV3, hV3s, kV3, bV3⟩ := bk_newD w3 (.slice dc (okC cs fs ss).length dd) (.slice d (dropF cs fs ss nm).length db) (.slice d' (dropS cs fs ss nm).length db')
  have D3 := hide (hbk.later bV3)
  have K3 := hide kV3
  have B3w := hide (below_two B2.out hb3)
  have B3 := hide (below_two B3w.out bV3)
  have HV3 := hide hV3
  have hz3 := B3.out.size
  clear hb3 hbk hV3 kV3 bV3 M2 hV3s
  go_upto_region 8 with fail
  rw [HV3.out]
  have x0 := cell_later B3.out X0.out
  have x1 := cell_later B3.out X1.out
  have x2 := cell_later B3.out X2.out
  go_wp2_with fail
  refine (toFlowBook_any ac a a' capc cap cap' cs fs ss V3 (BB.out.later B3.out) HM.out).mono ?_
  rintro e w4 ⟨gc2, gf2, gi2, rfl, hmade, hb4⟩
  obtain ⟨V4, hV4, hV4s, kV4, bV4⟩ := bk_newD w4 (.slice (some ⟨gc2, 0, none⟩) cs.length cs.length) (.slice (some ⟨gf2, 0, none⟩) fs.length fs.length) (.slice (some ⟨gi2, 0, none⟩) ss.length ss.length)
  have hgi2 : gi2 < w4.heap.size := by obtain ⟨l1, l2, _, _, _, _, h5, _⟩ := hmade; exact h5
  have M4 := hide (hmade.later bV4)
  have K4 := hide kV4
  have C4 := hide (below_two hb4 bV4)
  have B4 := hide (below_two B3.out C4.out)
  have HV4 := hide hV4
  have hz4 := hb4.size
  have HZ4 := hide hV4s
  clear hb4 hmade hV4 kV4 bV4 x0 x1 x2 hV4s
  go_wp2_with fail
  rw [HV4.out]
  refine (implDrop_any nm _ _ _ _ _ _ cs fs ss V4 ((HG.out.later WB.out).later B4.out) M4.out.book HM.out).mono ?_
  rintro e w5 ⟨bc, b, b', cc, cb, cb', rfl, hown, hb5⟩
  obtain ⟨V5, hV5, hV5s, kV5, bV5⟩ := bk_newD w5 (.slice bc (okC cs fs ss).length cc) (.slice b (dropF cs fs ss nm).length cb) (.slice b' (dropS cs fs ss nm).length cb')
  obtain ⟨hbk, va, hbw, hval, hvae, hin⟩ := hown
  have G5 := hide (hbk.later bV5)
  have R5 := hide (bkW_later hbw bV5)
  have HVL := hide hval
  have HVE := hide hvae
  have HIN := hide hin
  have K5 := hide kV5
  have C5w := hide (below_two C4.out hb5)
  have D4 := hide (below_two hb5 bV5)
  have C5 := hide (below_two C4.out D4.out)
  have B5 := hide (below_two B4.out D4.out)
  have HV5 := hide hV5
  have hz5 := hb5.size
  have HZ5 := hide hV5s
  clear hb5 hbk hbw hval hvae hin hV5 kV5 bV5 hV5s
  go_upto_region 10 with fail
  rw [HV5.out]
  obtain ⟨g0, g1, g2, -⟩ := K5.out.cells
  obtain ⟨s0, s1, s2, -⟩ := (K3.out.later C5.out).cells
  go_wp2_with fail
  refine (eqFlowBook_same _ _ _ _ _ _ _ _ _ _ _ _ (okC cs fs ss) (dropF cs fs ss nm) (dropS cs fs ss nm) V5 G5.out (D3.out.later C5.out) HOK.out).mono ?_
  rintro e w6 ⟨rfl, hb6⟩
  have E6 := hide hb6
  have D6 := hide (below_two D4.out hb6)
  have C6 := hide (below_two C5.out hb6)
  have B6 := hide (below_two B5.out hb6)
  clear hb6 g0 g1 g2 s0 s1 s2
  obtain ⟨y0, y1, y2, -⟩ := (K4.out.later D6.out).cells
  have x0 := cell_later B6.out X0.out
  have x1 := cell_later B6.out X1.out
  have x2 := cell_later B6.out X2.out
  go_wp2_with fail
  go_region_held3 (fun X => X.cell? ⟨w.heap.size, 0, none⟩ = some (.slice ac cs.length capc) ∧ X.cell? ⟨w.heap.size, 1, none⟩ = some (.slice a fs.length cap) ∧ X.cell? ⟨w.heap.size, 2, none⟩ = some (.slice a' ss.length cap') ∧ X.cell? ⟨w4.heap.size, 0, none⟩ = some (.slice (some ⟨gc2, 0, none⟩) cs.length cs.length) ∧ X.cell? ⟨w4.heap.size, 1, none⟩ = some (.slice (some ⟨gf2, 0, none⟩) fs.length fs.length) ∧ X.cell? ⟨w4.heap.size, 2, none⟩ = some (.slice (some ⟨gi2, 0, none⟩) ss.length ss.length))
    (first | exact ⟨x0, x1, x2, y0, y1, y2⟩ | exact ⟨cell_later hbA x0, cell_later hbA x1, cell_later hbA x2, cell_later hbA y0, cell_later hbA y1, cell_later hbA y2⟩ | exact ⟨cell_later hbB (cell_later hbA x0), cell_later hbB (cell_later hbA x1), cell_later hbB (cell_later hbA x2), cell_later hbB (cell_later hbA y0), cell_later hbB (cell_later hbA y1), cell_later hbB (cell_later hbA y2)⟩)
    (first
      | (go_at_call 8; refine (toFlowBook_any ac a a' capc cap cap' cs fs ss w6.drew (BB.out.later B6.out.drew) HM.out).mono ?_; rintro e wA ⟨gc3, gf3, gi3, rfl, hmA, hbA⟩)
      | (go_at_call 11; refine (eqFlowBook_same _ _ _ _ _ _ _ _ _ _ _ _ cs fs ss wA ((M4.out.book.later D6.out).later (below_dr hbA)) hmA.book HM.out).mono ?_; rintro e wB ⟨rfl, hbB⟩)
      | (fail))
  rename_i hH
  have hb7 := below_two (below_dr hbA) hbB
  have E7 := hide (below_two E6.out hb7)
  have D7 := hide (below_two D6.out hb7)
  have C7 := hide (below_two C6.out hb7)
  have B7 := hide (below_two B6.out hb7)
  clear hH hb7 hbA hbB hmA x0 x1 x2 y0 y1 y2 E6 D6 C6 B6
  generalize wB = w7 at *
  obtain ⟨y0, y1, y2, -⟩ := (K4.out.later D7.out).cells
  go_wp2_with fail
  refine (markMade_any V3.heap.size gc2 gf2 gi2 cs fs ss w7 (M4.out.later D7.out) HM.out).mono ?_
  rintro e w8 ⟨⟨k8, rfl, hk8⟩, ht8⟩
  have hk8n : decide (k8 < 0) = false := by simp; omega
  have T8 := hide (touch_toS ht8)
  have hnot : Hid (∀ q, V4.heap.size ≤ q → ¬ (V3.heap.size ≤ q ∧ q < gi2 + 1)) := fun q hq hh => by have := HZ4.out; omega
  have G8 := hide (book_touch (G5.out.later E7.out) (bkW_later R5.out E7.out) HVL.out T8.out (fun q hq => hnot.out q (HIN.out q hq).1))
  have R8 := hide (bkW_touch (bkW_later R5.out E7.out) T8.out (fun q hq => hnot.out q (HIN.out q hq).1))
  have K8 := hide ((K5.out.later E7.out).touchS T8.out (hnot.out _ (by omega)))
  have C8 := hide (C7.out.trans (below_ofS T8.out C7.out.size (fun q hq => hq.1)))
  have B8 := hide (B7.out.trans (below_ofS T8.out B7.out.size (fun q hq => by omega)))
  clear ht8 y0 y1 y2 E7 D7 C7 B7
  obtain ⟨g0, g1, g2, -⟩ := K8.out.cells
  obtain ⟨s0, s1, s2, -⟩ := (K3.out.later C8.out).cells
  go_wp2_with fail
  refine (eqFlowBook_same _ _ _ _ _ _ _ _ _ _ _ _ (okC cs fs ss) (dropF cs fs ss nm) (dropS cs fs ss nm) w8 G8.out (D3.out.later C8.out) HOK.out).mono ?_
  rintro e w9 ⟨rfl, hb9⟩
  have R9 := hide (bkW_later R8.out hb9)
  have K9 := hide (K8.out.later hb9)
  have C9 := hide (below_two C8.out hb9)
  have B9 := hide (below_two B8.out hb9)
  clear hb9 g0 g1 g2 s0 s1 s2
  obtain ⟨g0, g1, g2, -⟩ := K9.out.cells
  have HVS : Hid (∀ x ∈ va, x.2.1 ≤ 1048576) := fun x hx => by
    obtain ⟨i, hi, rfl⟩ := List.getElem_of_mem hx
    rw [HVE.out i hi (by have := HVL.out; omega)]
    exact HOK.out.vl _ (List.getElem_mem _)
  have MK := markBook_is bc b b' (okC cs fs ss).length cc cb (dropS cs fs ss nm).length cb' va w9 R9.out HOK.out.nc (by rw [HVL.out]; exact HOK.out.nf) HOK.out.ns HVS.out
  rw [HVL.out] at MK
  have HMK := hide MK
  clear MK
  have hkb := kAt_bd (1 + 2 * ((okC cs fs ss).length : Int)) va HVS.out va.length (Nat.le_refl _)
  go_wp2_with fail
  refine HMK.out.mono ?_
  rintro e w10 ⟨rfl, hheld, ht10⟩
  have HE10 := hide hheld
  have hn10 : Hid (∀ q, InB bc b b' (okC cs fs ss).length (dropS cs fs ss nm).length va q → V4.heap.size ≤ q ∧ q < w5.heap.size) := HIN.out
  have K10 := hide (K9.out.touchS ht10 (fun hq => by have := hn10.out _ hq; omega))
  have C10 := hide (C9.out.trans (below_ofS ht10 C9.out.size (fun q hq => by have := hn10.out q hq; have := HZ4.out; omega)))
  have B10 := hide (B9.out.trans (below_ofS ht10 B9.out.size (fun q hq => by have := hn10.out q hq; have := HZ4.out; omega)))
  clear hheld ht10 g0 g1 g2
  have HD : ∀ W' : World, Below w10.heap.size w10 W' → Calls Tryz.prog 15 #[.agg #[.slice bc (okC cs fs ss).length cc, .slice b (dropF cs fs ss nm).length cb, .slice b' (dropS cs fs ss nm).length cb'], .int .i64 1] W' fun e w' => e = .returned (.int .i64 (kAt (1 + 2 * ((okC cs fs ss).length : Int)) va (dropF cs fs ss nm).length + ((dropS cs fs ss nm).length : Int))) ∧ Below W'.heap.size W' w' := fun W' hW' => by
    have := heldBook_is bc b b' (okC cs fs ss).length cc cb (dropS cs fs ss nm).length cb' va W' (bkHeld_later HE10.out hW') HOK.out.nc (by rw [HVL.out]; exact HOK.out.nf) HOK.out.ns HVS.out
    rw [HVL.out] at this
    exact this
  have HHD := hide HD
  clear HD
  rw [HVL.out] at hkb
  generalize hmm : kAt (1 + 2 * ((okC cs fs ss).length : Int)) va (dropF cs fs ss nm).length + ((dropS cs fs ss nm).length : Int) = mm at *
  have hmn : ¬ (mm < 0) := by omega
  have hmq : (mm != mm) = false := by simp
  clear hmm
  obtain ⟨g0, g1, g2, -⟩ := K10.out.cells
  go_wp2_with fail
  refine (HHD.out w10 (Below.refl _ _)).mono ?_
  rintro e w11 ⟨rfl, hb11⟩
  have F11 := hide hb11
  have C11 := hide (below_two C10.out hb11)
  have B11 := hide (below_two B10.out hb11)
  clear hb11 g0 g1 g2
  have x0 := cell_later B11.out X0.out
  have x1 := cell_later B11.out X1.out
  have x2 := cell_later B11.out X2.out
  go_wp2_with fail
  refine (toFlowBook_any ac a a' capc cap cap' cs fs ss w11 (BB.out.later B11.out) HM.out).mono ?_
  rintro e w12 ⟨gc4, gf4, gi4, rfl, hmade, hb12⟩
  have M12 := hide hmade
  have F12 := hide (below_two F11.out hb12)
  have C12 := hide (below_two C11.out hb12)
  have B12 := hide (below_two B11.out hb12)
  clear hmade hb12 x0 x1 x2
  go_wp2_with fail
  refine (implDrop_any nm _ _ _ _ _ _ cs fs ss w12 ((HG.out.later WB.out).later B12.out) M12.out.book HM.out).mono ?_
  rintro e w13 ⟨ec, e4, e4', ed, eb, eb', rfl, hown, hb13⟩
  obtain ⟨V13, hV13, -, kV13, bV13⟩ := bk_newD w13 (.slice ec (okC cs fs ss).length ed) (.slice e4 (dropF cs fs ss nm).length eb) (.slice e4' (dropS cs fs ss nm).length eb')
  have O13 := hide (hown.book.later bV13)
  have K13 := hide kV13
  have F13 := hide (below_two (below_two F12.out hb13) bV13)
  have C13w := hide (below_two C12.out hb13)
  have C13 := hide (below_two C13w.out bV13)
  have B13 := hide (below_two (below_two B12.out hb13) bV13)
  have HV13 := hide hV13
  clear hown hb13 hV13 kV13 bV13 M12
  go_upto_region 27 with fail
  rw [HV13.out]
  obtain ⟨g0, g1, g2, -⟩ := K13.out.cells
  obtain ⟨s0, s1, s2, -⟩ := (K3.out.later C13.out).cells
  go_wp2_with fail
  refine (eqFlowBook_same _ _ _ _ _ _ _ _ _ _ _ _ (okC cs fs ss) (dropF cs fs ss nm) (dropS cs fs ss nm) V13 O13.out (D3.out.later C13.out) HOK.out).mono ?_
  rintro e w14 ⟨rfl, hb14⟩
  have F14 := hide (below_two F13.out hb14)
  have B14 := hide (below_two B13.out hb14)
  clear hb14 g0 g1 g2 s0 s1 s2
  obtain ⟨g0, g1, g2, -⟩ := (K10.out.later F14.out).cells
  go_wp2_with fail
  refine (HHD.out w14 F14.out).mono ?_
  rintro e w15 ⟨rfl, hb15⟩
  have B15 := hide (below_two B14.out hb15)
  clear hb15 g0 g1 g2
  go_wp2
  go_ret
  exact ⟨rfl, below_two WB.out B15.out⟩

theorem fnExactFlowDrop_holds : Rows.FnExactFlowDropCardSaid :=
  drop_card fun nm ac a a' capc cap cap' cs fs ss w hg h1 h2 h3 h4 h5 h6 h7 h8 => dropLaw_walk nm ac a a' capc cap cap' cs fs ss w hg ⟨h1, h2, h3⟩ h4 h5 h6 h7 h8
#print axioms fnExactFlowDrop_holds

end Go.Proofs.YtciacofibljmoabGreatDoor
