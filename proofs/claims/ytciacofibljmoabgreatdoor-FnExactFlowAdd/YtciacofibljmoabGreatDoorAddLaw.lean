/- At every book and flight FlowAdd answers as the document's model does, leaves its arguments as they were, and its answer owns its memory: the law FnExactFlowAdd returns true for every input, and the arguments read afterwards as before. No condition but the laid variable's. -/
import Derived.Test.YtciacofibljmoabGreatDoorSpecAdd
import Derived.Test.YtciacofibljmoabGreatDoorAddHappen
import Derived.Test.YtciacofibljmoabGreatDoorAddMarks
import Derived.Test.YtciacofibljmoabGreatDoorAddOut
namespace Go.Proofs.YtciacofibljmoabGreatDoor
open Go.RowKit

theorem bk_newA (w : World) (v0 v1 v2 : Value) : ∃ V, w.alloc (.cells #[v0, v1, v2] 35) = V ∧ V.heap.size = w.heap.size + 1 ∧ BkAt V w.heap.size v0 v1 v2 ∧ Below w.heap.size w V := ⟨_, rfl, by simp, BkAt.newAt w _ rfl _ _ _, (Below.refl _ _).alloc (Nat.le_refl _) _⟩
/-- The boxes of the law: the book's, the flight's. -/
theorem law_boxes (w : World) (u0 u1 u2 u3 v0 v1 v2 : Value) : ∃ W, (w.alloc (.cells #[v0, v1, v2] 26)).alloc (.cells #[u0, u1, u2, u3] 29) = W ∧ (W.cell? ⟨w.heap.size, 0, none⟩ = some v0 ∧ W.cell? ⟨w.heap.size, 1, none⟩ = some v1 ∧ W.cell? ⟨w.heap.size, 2, none⟩ = some v2 ∧ W.cell? ⟨w.heap.size + 1, 0, none⟩ = some u0 ∧ W.cell? ⟨w.heap.size + 1, 1, none⟩ = some u1 ∧ W.cell? ⟨w.heap.size + 1, 2, none⟩ = some u2 ∧ W.cell? ⟨w.heap.size + 1, 3, none⟩ = some u3) ∧ W.heap.size = w.heap.size + 2 ∧ Below w.heap.size w W := by
  obtain ⟨A, hA, x0, x1, x2, hAB⟩ := alloc3 w v0 v1 v2 26
  have hAs : A.heap.size = w.heap.size + 1 := by rw [← hA]; simp
  rw [hA]
  have hr := World.rowIs_alloc A #[u0, u1, u2, u3] 29 (fun i => #[u0, u1, u2, u3].getD i undef) (fun i hi => by rw [Array.getD_eq_getD_getElem?, Array.getElem?_eq_getElem hi]; rfl)
  rw [hAs] at hr
  exact ⟨_, rfl, ⟨Lib.cell?_alloc_some _ x0, Lib.cell?_alloc_some _ x1, Lib.cell?_alloc_some _ x2, hr.cell (i := 0) (by simp), hr.cell (i := 1) (by simp), hr.cell (i := 2) (by simp), hr.cell (i := 3) (by simp)⟩, by simp; omega, hAB.trans ((Below.refl _ _).alloc (by omega) _)⟩
theorem below_set3 {B b : Nat} {w X : World} (h : Below B w X) (hb : B ≤ b) (u0 u1 u2 : Value) : Below B w (((X.setCell ⟨b, 0, none⟩ u0).setCell ⟨b, 1, none⟩ u1).setCell ⟨b, 2, none⟩ u2) := ((h.setCell hb _).setCell hb _).setCell hb _

set_option maxRecDepth 100000 in
set_option maxHeartbeats 6400000 in
theorem addLaw_walk (f : Fli) (av : Option Addr) (cv : Nat) (ac a a' : Option Addr) (capc cap cap' : Nat) (cs : List (ByteArray × Int)) (fs : List Fli) (ss : List Int) (w : World) (hg : ErrT w) (hb : BookIn w ac a a' cs fs ss) (hv : VisitsIn w av f.2.2.2) (hsz : SizesOk f) (hsc : ∀ c ∈ cs, c.1.size ≤ maxLen) (hs : ∀ f ∈ fs, SizesOk f) (hlc : cs.length ≤ maxLen) (hl : fs.length ≤ maxLen) (hl' : ss.length ≤ maxLen) :
    Calls Tryz.prog 3 #[bkV ac a a' capc cap cap' cs fs ss, .agg #[.string f.1, .int .i64 f.2.1, .int .i64 f.2.2.1, .slice av f.2.2.2.length cv]] w fun e w' => e = .returned (.bool true) ∧ Below w.heap.size w w' := by
  obtain ⟨nm, pl, lt, vs⟩ := f
  have HB := hide hb
  have HG := hide hg
  have HV := hide hv
  have HSZ := hide hsz
  have HSC := hide hsc
  have HS := hide hs
  clear hb hsc hs hg hv hsz
  obtain ⟨W, hW, hWc, hWs, hWb⟩ := law_boxes w (.string nm) (.int .i64 pl) (.int .i64 lt) (.slice av vs.length cv) (.slice ac cs.length capc) (.slice a fs.length cap) (.slice a' ss.length cap')
  have HW := hide hW
  have WB := hide hWb
  have HWs := hide hWs
  have KE : Hid (∀ X, Below W.heap.size W X → X.cell? ⟨w.heap.size, 0, none⟩ = some (.slice ac cs.length capc) ∧ X.cell? ⟨w.heap.size, 1, none⟩ = some (.slice a fs.length cap) ∧ X.cell? ⟨w.heap.size, 2, none⟩ = some (.slice a' ss.length cap') ∧ X.cell? ⟨w.heap.size + 1, 0, none⟩ = some (.string nm) ∧ X.cell? ⟨w.heap.size + 1, 1, none⟩ = some (.int .i64 pl) ∧ X.cell? ⟨w.heap.size + 1, 2, none⟩ = some (.int .i64 lt) ∧ X.cell? ⟨w.heap.size + 1, 3, none⟩ = some (.slice av vs.length cv)) := fun X hX => ⟨cell_later hX hWc.1, cell_later hX hWc.2.1, cell_later hX hWc.2.2.1, cell_later hX hWc.2.2.2.1, cell_later hX hWc.2.2.2.2.1, cell_later hX hWc.2.2.2.2.2.1, cell_later hX hWc.2.2.2.2.2.2⟩
  have BBX : Hid (∀ X, Below W.heap.size W X → BookIn X ac a a' cs fs ss) := fun X hX => (HB.out.later WB.out).later hX
  have VVX : Hid (∀ X, Below W.heap.size W X → VisitsIn X av vs) := fun X hX => (HV.out.later WB.out).later hX
  have GGX : Hid (∀ X, Below W.heap.size W X → ErrT X) := fun X hX => (HG.out.later WB.out).later hX
  clear hW hWb hWc hWs HB HV HG
  go_enter Tryz.func3, Tryz.ntmps3
  go_wp2_with fail
  rw [HW.out]
  refine (szFlowBook_any ac a a' capc cap cap' cs fs ss 1048576 W (BBX.out W (Below.refl _ _)) HSC.out HS.out hlc hl hl' (by omega) (by omega)).mono ?_
  rintro e w1 ⟨⟨r, rfl, hr⟩, hb1⟩
  have B1 := hide hb1
  clear hb1
  rcases hr with hr | ⟨hr, hr1, hm⟩
  · go_wp2
    go_ret
    exact ⟨rfl, below_two WB.out B1.out⟩
  have HM := hide hm
  clear hm hl hl' hlc
  obtain ⟨x0, x1, x2, y0, y1, y2, y3⟩ := KE.out w1 B1.out
  go_wp2_with fail
  refine (szFlowFlight_any (nm, pl, lt, vs) av cv r w1 (VVX.out w1 B1.out) HSZ.out hr hr1).mono ?_
  rintro e w2 ⟨⟨r2, rfl, hr2⟩, hb2⟩
  have B2 := hide (below_two B1.out hb2)
  clear hb2 x0 x1 x2 y0 y1 y2 y3
  rcases hr2 with hr2 | ⟨hr2, hr3, hvl⟩
  · go_wp2
    go_ret
    exact ⟨rfl, below_two WB.out B2.out⟩
  have HVL : Hid (vs.length ≤ 1048576) := by show _ ≤ _; have h9 : ((vs.length : Nat) : Int) ≤ r := hvl; omega
  have SP := hide (fun (c1 c2 c3 : Option Addr) (k1 k2 k3 : Nat) (av2 : Option Addr) (cv2 : Nat) (X : World) (h1 : BookIn X c1 c2 c3 cs fs ss) (h2 : c1 = none → k1 = 0) (h3 : c3 = none → k3 = 0) (h4 : VisitsIn X av2 vs) => specAdd_any (nm, pl, lt, vs) av2 cv2 c1 c2 c3 k1 k2 k3 cs fs ss X h1 HM.out h2 h3 h4 HVL.out HSZ.out)
  have IM := hide (fun (c1 c2 c3 : Option Addr) (k1 k2 k3 : Nat) (av2 : Option Addr) (cv2 : Nat) (X : World) (h0 : ErrT X) (h1 : BookIn X c1 c2 c3 cs fs ss) (h4 : VisitsIn X av2 vs) => implAdd_any (nm, pl, lt, vs) av2 cv2 c1 c2 c3 k1 k2 k3 cs fs ss X h0 h1 HM.out h4 HVL.out HSZ.out)
  have HOK := hide (addAll_sm (f := (nm, pl, lt, vs)) HM.out HVL.out HSZ.out)
  generalize okC cs fs ss = cs1 at *
  generalize addF cs fs ss (nm, pl, lt, vs) = fs1 at *
  generalize addS cs fs ss (nm, pl, lt, vs) = ss1 at *
  generalize addK cs fs ss (nm, pl, lt, vs) = kk at *
  clear hvl hr1 hr3 hr
  have hs2 : W.heap.size ≤ w2.heap.size := B2.out.size
  have KE2 : Hid (∀ X, Below w2.heap.size w2 X → X.cell? ⟨w.heap.size, 0, none⟩ = some (.slice ac cs.length capc) ∧ X.cell? ⟨w.heap.size, 1, none⟩ = some (.slice a fs.length cap) ∧ X.cell? ⟨w.heap.size, 2, none⟩ = some (.slice a' ss.length cap') ∧ X.cell? ⟨w.heap.size + 1, 0, none⟩ = some (.string nm) ∧ X.cell? ⟨w.heap.size + 1, 1, none⟩ = some (.int .i64 pl) ∧ X.cell? ⟨w.heap.size + 1, 2, none⟩ = some (.int .i64 lt) ∧ X.cell? ⟨w.heap.size + 1, 3, none⟩ = some (.slice av vs.length cv)) := fun X hX => KE.out X (below_two B2.out hX)
  have BB2 : Hid (∀ X, Below w2.heap.size w2 X → BookIn X ac a a' cs fs ss) := fun X hX => BBX.out X (below_two B2.out hX)
  have VV2 : Hid (∀ X, Below w2.heap.size w2 X → VisitsIn X av vs) := fun X hX => VVX.out X (below_two B2.out hX)
  go_upto_region 8 with fail
  go_cut [6, 7] from 27 (fun p q wc => ∃ (bx : Nat) (dc d d' : Option Addr) (dd db db' : Nat), p = .pointer (some ⟨bx, 0, none⟩) ∧ q = .int .i64 kk ∧ Hid (BkAt wc bx (.slice dc cs1.length dd) (.slice d fs1.length db) (.slice d' ss1.length db')) ∧ Hid (BookIn wc dc d d' cs1 fs1 ss1) ∧ Hid (Below w2.heap.size w2 wc))
  case first =>
    go_region_held3 (fun X => X.cell? ⟨w.heap.size, 0, none⟩ = some (.slice ac cs.length capc) ∧ X.cell? ⟨w.heap.size, 1, none⟩ = some (.slice a fs.length cap) ∧ X.cell? ⟨w.heap.size, 2, none⟩ = some (.slice a' ss.length cap') ∧ X.cell? ⟨w.heap.size + 1, 0, none⟩ = some (.string nm) ∧ X.cell? ⟨w.heap.size + 1, 1, none⟩ = some (.int .i64 pl) ∧ X.cell? ⟨w.heap.size + 1, 2, none⟩ = some (.int .i64 lt) ∧ X.cell? ⟨w.heap.size + 1, 3, none⟩ = some (.slice av vs.length cv))
      (first | exact KE2.out _ (Below.refl _ _).drew | exact KE2.out _ (belA w2 _) | exact KE2.out _ BWA.out | exact KE2.out _ (below_two BWA.out (belN wA _)) | exact KE2.out _ BWB.out | exact KE2.out _ (below_two BWB.out (belN wB _)) | exact KE2.out _ BWC.out | exact KE2.out _ (below_two BWC.out (belN wC _)) | exact KE2.out _ (below_set3 BWC.out (Nat.le_refl _) _ _ _) | exact KE2.out _ (below_set3 BWC.out BWA.out.size _ _ _) | exact KE2.out _ (below_set3 BWC.out BWB.out.size _ _ _) | exact KE2.out _ (below_set3 (below_two BWC.out (belN wC _)) BWC.out.size _ _ _))
      (first
        | (go_at_call 8; refine (toFlowBook_any ac a a' capc cap cap' cs fs ss _ (BB2.out _ (by first | exact (Below.refl _ _).drew | exact belA w2 _)) HM.out).mono ?_; rintro e wA ⟨gc, gf, gi, rfl, hmA, hbA⟩; have BWA : Hid (Below w2.heap.size w2 wA) := (by first | exact below_dr hbA | exact below_two (belA w2 _) hbA); have MA := hide hmA.book; (first | have KBA : Hid (BkAt wA w2.heap.size (.slice none 0 0) (.slice none 0 0) (.slice none 0 0)) := BkAt.later (w := (w2.alloc (.cells #[.slice none 0 0, .slice none 0 0, .slice none 0 0] 35)).drew) (BkAt.newAt w2 _ rfl _ _ _) hbA | skip); clear hmA hbA)
        | (go_at_call 9; refine (toFlowFlight_any (nm, pl, lt, vs) av cv _ (VV2.out _ (by first | exact BWA.out | exact below_two BWA.out (belN wA _))) HVL.out).mono ?_; rintro e wB ⟨gv, rfl, -, hrB, hbB⟩; have BAB : Hid (Below wA.heap.size wA wB) := (by first | exact hbB | exact below_two (belN wA _) hbB); have BWB := hide (below_two BWA.out BAB.out); have MB := hide (MA.out.later BAB.out); have VB := hide (VisitsIn.ofRow hrB); (first | have KBB := hide (KBA.out.later BAB.out) | have KBB := hide (BkAt.later (BkAt.newAt wA _ rfl (.slice none 0 0) (.slice none 0 0) (.slice none 0 0)) hbB) | skip); clear hrB hbB)
        | (go_at_call 7; refine (SP.out (some ⟨gc, 0, none⟩) (some ⟨gf, 0, none⟩) (some ⟨gi, 0, none⟩) cs.length fs.length ss.length (some ⟨gv, 0, none⟩) vs.length _ (MB.out.later (by first | exact Below.refl _ _ | exact belN wB _)) (fun e => by cases e) (fun e => by cases e) (VB.out.later (by first | exact Below.refl _ _ | exact belN wB _))).mono ?_; rintro e wC ⟨dc, d, d', dd, db, db', rfl, hbk, hbC⟩; have BBC : Hid (Below wB.heap.size wB wC) := (by first | exact hbC | exact below_two (belN wB _) hbC); have BWC := hide (below_two BWB.out BBC.out); have DC := hide hbk; (first | have KBC := hide (KBB.out.later BBC.out) | have KBC := hide (BkAt.later (BkAt.newAt wB _ rfl (.slice none 0 0) (.slice none 0 0) (.slice none 0 0)) hbC) | skip); (first | (obtain ⟨p0, p1, p2, r0, r1, r2⟩ := KBC.out.cells) | skip); clear hbk hbC)
        | (fail))
    all_goals
      go_wp2_with fail
      go_meet
      first
      | exact ⟨wC.heap.size, dc, d, d', dd, db, db', rfl, rfl, BkAt.newAt wC _ rfl _ _ _, DC.out _ (touchS_below (belN wC _)), below_two BWC.out (belN wC _)⟩
      | exact ⟨_, dc, d, d', dd, db, db', rfl, rfl, KBC.out.set3 _ _ _, DC.out _ (touchS_mono (set3_touch wC _ _ _ _) (fun q hq => by have e : q = _ := hq; subst e; exact KBB.out.lt)), below_set3 BWC.out (by first | exact Nat.le_refl _ | exact BWA.out.size) _ _ _⟩
      | exact ⟨_, dc, d, d', dd, db, db', rfl, rfl, KBC.out.set3 _ _ _, DC.out _ (touchS_mono (set3_touch wC _ _ _ _) (fun q hq => by have e : q = _ := hq; subst e; simp)), below_set3 BWC.out BWB.out.size _ _ _⟩
  case rest =>
    obtain ⟨bx, dc, d, d', dd, db, db', rfl, rfl, K3, D3, hb3⟩ := hcut
    generalize wc = w3 at *
    have B3 := hide (below_two B2.out hb3.out)
    clear hb3 BB2 VV2 KE2
    have hz3 := B3.out.size
    obtain ⟨x0, x1, x2, -⟩ := KE.out w3 B3.out
    go_wp2_with fail
    refine (toFlowBook_any ac a a' capc cap cap' cs fs ss w3 (BBX.out w3 B3.out) HM.out).mono ?_
    rintro e w4 ⟨gc2, gf2, gi2, rfl, hmade, hb4⟩
    obtain ⟨V4, hV4, hV4s, kV4, bV4⟩ := bk_newA w4 (.slice (some ⟨gc2, 0, none⟩) cs.length cs.length) (.slice (some ⟨gf2, 0, none⟩) fs.length fs.length) (.slice (some ⟨gi2, 0, none⟩) ss.length ss.length)
    have hgi2 : gi2 < w4.heap.size := by obtain ⟨l1, l2, _, _, _, _, h5, _⟩ := hmade; exact h5
    have M4 := hide (hmade.later bV4)
    have K4 := hide kV4
    have C4 := hide (below_two hb4 bV4)
    have B4 := hide (below_two B3.out C4.out)
    have HV4 := hide hV4
    have hz4 := hb4.size
    have HZ4 := hide hV4s
    clear hb4 hmade hV4 kV4 bV4 x0 x1 x2 hV4s
    go_upto_region 10 with fail
    rw [HV4.out]
    obtain ⟨-, -, -, y0, y1, y2, y3⟩ := KE.out V4 B4.out
    go_wp2_with fail
    refine (toFlowFlight_any (nm, pl, lt, vs) av cv V4 (VVX.out V4 B4.out) HVL.out).mono ?_
    rintro e w5 ⟨gv, rfl, hgv, hrv, hb5⟩
    obtain ⟨V5, hV5, hV5s, kV5, bV5⟩ := fs_box w5 (.string nm) (.int .i64 pl) (.int .i64 lt) (.slice (some ⟨gv, 0, none⟩) vs.length vs.length)
    have hgv2 : gv < w5.heap.size := hrv.lt
    have RV := hide (hrv.of_block (bV5.block _ hrv.lt))
    have KF : Hid (∀ X, Below V5.heap.size V5 X → X.cell? ⟨w5.heap.size, 0, none⟩ = some (.string nm) ∧ X.cell? ⟨w5.heap.size, 1, none⟩ = some (.int .i64 pl) ∧ X.cell? ⟨w5.heap.size, 2, none⟩ = some (.int .i64 lt) ∧ X.cell? ⟨w5.heap.size, 3, none⟩ = some (.slice (some ⟨gv, 0, none⟩) vs.length vs.length)) := fun X hX => ⟨cell_later hX kV5.1, cell_later hX kV5.2.1, cell_later hX kV5.2.2.1, cell_later hX kV5.2.2.2⟩
    have HGV := hide hgv
    have HGV2 := hide hgv2
    have HGI := hide hgi2
    have D5 := hide (below_two hb5 bV5)
    have C5 := hide (below_two C4.out D5.out)
    have B5 := hide (below_two B4.out D5.out)
    have HV5 := hide hV5
    have HZ5 := hide hV5s
    have hz5 := hb5.size
    clear hb5 hrv hgv hgv2 hV5 kV5 bV5 hV5s y0 y1 y2 y3 hgi2
    go_upto_region 11 with fail
    rw [HV5.out]
    obtain ⟨x0, x1, x2, -⟩ := (K4.out.later D5.out).cells
    obtain ⟨y0, y1, y2, y3⟩ := KF.out V5 (Below.refl _ _)
    go_wp2_with fail
    refine (IM.out (some ⟨gc2, 0, none⟩) (some ⟨gf2, 0, none⟩) (some ⟨gi2, 0, none⟩) cs.length fs.length ss.length (some ⟨gv, 0, none⟩) vs.length V5 (GGX.out V5 B5.out) (M4.out.book.later D5.out) (VisitsIn.ofRow RV.out)).mono ?_
    rintro e w6 ⟨bc, b, b', cc, cb, cb', rfl, hown, hb6⟩
    obtain ⟨V6, hV6, hV6s, kV6, bV6⟩ := bk_newA w6 (.slice bc cs1.length cc) (.slice b fs1.length cb) (.slice b' ss1.length cb')
    obtain ⟨hbk, va, hbw, hval, hvae, hin⟩ := hown
    have G6 := hide (hbk.later bV6)
    have R6 := hide (bkW_later hbw bV6)
    have HVA := hide hval
    have HVE := hide hvae
    have HIN := hide hin
    have K6 := hide kV6
    have D6 := hide (below_two hb6 bV6)
    have C6 := hide (below_two C5.out D6.out)
    have B6 := hide (below_two B5.out D6.out)
    have HV6 := hide hV6
    have hz6 := hb6.size
    have HZ6 := hide hV6s
    clear hb6 hbk hbw hval hvae hin hV6 kV6 bV6 hV6s x0 x1 x2 y0 y1 y2 y3
    go_upto_region 12 with fail
    rw [HV6.out]
    obtain ⟨g0, g1, g2, -⟩ := K6.out.cells
    obtain ⟨s0, s1, s2, -⟩ := (K3.out.later C6.out).cells
    go_wp2_with fail
    refine (eqFlowBook_same _ _ _ _ _ _ _ _ _ _ _ _ cs1 fs1 ss1 V6 G6.out (D3.out.later C6.out) HOK.out).mono ?_
    rintro e w7 ⟨rfl, hb7⟩
    have E7 := hide hb7
    have D7 := hide (below_two D6.out hb7)
    have C7 := hide (below_two C6.out hb7)
    have B7 := hide (below_two B6.out hb7)
    clear hb7 g0 g1 g2 s0 s1 s2
    obtain ⟨y0, y1, y2, -⟩ := (K4.out.later (below_two D5.out D7.out)).cells
    obtain ⟨x0, x1, x2, -⟩ := KE.out w7 B7.out
    go_wp2_with fail
    go_region_held3 (fun X => X.cell? ⟨w.heap.size, 0, none⟩ = some (.slice ac cs.length capc) ∧ X.cell? ⟨w.heap.size, 1, none⟩ = some (.slice a fs.length cap) ∧ X.cell? ⟨w.heap.size, 2, none⟩ = some (.slice a' ss.length cap') ∧ X.cell? ⟨w4.heap.size, 0, none⟩ = some (.slice (some ⟨gc2, 0, none⟩) cs.length cs.length) ∧ X.cell? ⟨w4.heap.size, 1, none⟩ = some (.slice (some ⟨gf2, 0, none⟩) fs.length fs.length) ∧ X.cell? ⟨w4.heap.size, 2, none⟩ = some (.slice (some ⟨gi2, 0, none⟩) ss.length ss.length))
      (first | exact ⟨x0, x1, x2, y0, y1, y2⟩ | exact ⟨cell_later hbA x0, cell_later hbA x1, cell_later hbA x2, cell_later hbA y0, cell_later hbA y1, cell_later hbA y2⟩ | exact ⟨cell_later hbB (cell_later hbA x0), cell_later hbB (cell_later hbA x1), cell_later hbB (cell_later hbA x2), cell_later hbB (cell_later hbA y0), cell_later hbB (cell_later hbA y1), cell_later hbB (cell_later hbA y2)⟩)
      (first
        | (go_at_call 8; refine (toFlowBook_any ac a a' capc cap cap' cs fs ss w7.drew (BBX.out _ B7.out.drew) HM.out).mono ?_; rintro e wA ⟨gc3, gf3, gi3, rfl, hmA, hbA⟩)
        | (go_at_call 11; refine (eqFlowBook_same _ _ _ _ _ _ _ _ _ _ _ _ cs fs ss wA ((M4.out.book.later (below_two D5.out D7.out)).later (below_dr hbA)) hmA.book HM.out).mono ?_; rintro e wB ⟨rfl, hbB⟩)
        | (fail))
    rename_i hH
    have hb8 := below_two (below_dr hbA) hbB
    have E8 := hide (below_two E7.out hb8)
    have D8 := hide (below_two D7.out hb8)
    have C8 := hide (below_two C7.out hb8)
    have B8 := hide (below_two B7.out hb8)
    clear hH hb8 hbA hbB hmA x0 x1 x2 y0 y1 y2 E7 D7 C7 B7
    generalize wB = w8 at *
    obtain ⟨-, -, -, x0, x1, x2, x3⟩ := KE.out w8 B8.out
    obtain ⟨y0, y1, y2, y3⟩ := KF.out w8 D8.out
    go_wp2_with fail
    go_region_held3 (fun X => X.cell? ⟨w.heap.size + 1, 0, none⟩ = some (.string nm) ∧ X.cell? ⟨w.heap.size + 1, 1, none⟩ = some (.int .i64 pl) ∧ X.cell? ⟨w.heap.size + 1, 2, none⟩ = some (.int .i64 lt) ∧ X.cell? ⟨w.heap.size + 1, 3, none⟩ = some (.slice av vs.length cv) ∧ X.cell? ⟨w5.heap.size, 0, none⟩ = some (.string nm) ∧ X.cell? ⟨w5.heap.size, 1, none⟩ = some (.int .i64 pl) ∧ X.cell? ⟨w5.heap.size, 2, none⟩ = some (.int .i64 lt) ∧ X.cell? ⟨w5.heap.size, 3, none⟩ = some (.slice (some ⟨gv, 0, none⟩) vs.length vs.length))
      (first | exact ⟨x0, x1, x2, x3, y0, y1, y2, y3⟩ | exact ⟨cell_later hbA x0, cell_later hbA x1, cell_later hbA x2, cell_later hbA x3, cell_later hbA y0, cell_later hbA y1, cell_later hbA y2, cell_later hbA y3⟩ | exact ⟨cell_later hbB (cell_later hbA x0), cell_later hbB (cell_later hbA x1), cell_later hbB (cell_later hbA x2), cell_later hbB (cell_later hbA x3), cell_later hbB (cell_later hbA y0), cell_later hbB (cell_later hbA y1), cell_later hbB (cell_later hbA y2), cell_later hbB (cell_later hbA y3)⟩)
      (first
        | (go_at_call 9; refine (toFlowFlight_any (nm, pl, lt, vs) av cv w8.drew (VVX.out _ B8.out.drew) HVL.out).mono ?_; rintro e wA ⟨gv3, rfl, -, hrA, hbA⟩)
        | (go_at_call 12; refine (eqFlowFlight_same (nm, pl, lt, vs) _ _ _ _ wA ((VisitsIn.ofRow RV.out).later (below_two D8.out (below_dr hbA))) (VisitsIn.ofRow hrA) HVL.out).mono ?_; rintro e wB ⟨rfl, hbB⟩)
        | (fail))
    rename_i hH
    have hb9 := below_two (below_dr hbA) hbB
    have E9 := hide (below_two E8.out hb9)
    have D9 := hide (below_two D8.out hb9)
    have C9 := hide (below_two C8.out hb9)
    have B9 := hide (below_two B8.out hb9)
    clear hH hb9 hbA hbB hrA x0 x1 x2 x3 y0 y1 y2 y3 E8 D8 C8 B8
    generalize wB = w9 at *
    obtain ⟨y0, y1, y2, -⟩ := (K4.out.later (below_two D5.out D9.out)).cells
    go_wp2_with fail
    refine (markMade_up w3.heap.size gc2 gf2 gi2 cs fs ss w9 (M4.out.later (below_two D5.out D9.out)) HM.out).mono ?_
    rintro e w10 ⟨⟨k10, rfl, hk10, hk10b⟩, ht10⟩
    have T10 := hide (touch_toS ht10)
    have hsz10 := ht10.size
    have hF10 : w10.cell? ⟨w5.heap.size, 0, none⟩ = some (.string nm) ∧ w10.cell? ⟨w5.heap.size, 1, none⟩ = some (.int .i64 pl) ∧ w10.cell? ⟨w5.heap.size, 2, none⟩ = some (.int .i64 lt) ∧ w10.cell? ⟨w5.heap.size, 3, none⟩ = some (.slice (some ⟨gv, 0, none⟩) vs.length vs.length) := by
      have hx := KF.out w9 D9.out
      have hlt : w5.heap.size < w9.heap.size := by have := D9.out.size; have := HZ5.out; omega
      have hbl := ht10.block w5.heap.size hlt (by have := HGI.out; have := D5.out.size; have := HZ4.out; omega)
      exact ⟨(World.cell?_of_block (w := w9) (a := ⟨w5.heap.size, 0, none⟩) hbl).trans hx.1, (World.cell?_of_block (w := w9) (a := ⟨w5.heap.size, 1, none⟩) hbl).trans hx.2.1, (World.cell?_of_block (w := w9) (a := ⟨w5.heap.size, 2, none⟩) hbl).trans hx.2.2.1, (World.cell?_of_block (w := w9) (a := ⟨w5.heap.size, 3, none⟩) hbl).trans hx.2.2.2⟩
    have RV10 := hide (row_touch ((RV.out.of_block (D9.out.block _ RV.out.lt))) ht10 (.inr (by have := HGI.out; have := HGV.out; have := HZ4.out; omega)))
    obtain ⟨x0, x1, x2, x3⟩ := hF10
    clear ht10 y0 y1 y2
    go_wp2_with fail
    refine (markFl_any nm pl lt gv vs.length vs.length _ k10 w10 RV10.out HVL.out hk10 hk10b).mono ?_
    rintro e w11 ⟨⟨k11, rfl, hk11⟩, ht11⟩
    have hk11n : decide (k11 < 0) = false := by simp; omega
    have T11 := hide (touch_toS ht11)
    have T : Hid (TouchS (fun q => w3.heap.size ≤ q ∧ q < V5.heap.size) w9 w11) := touchS_trans (touchS_mono T10.out fun q hq => ⟨hq.1, by have := HGI.out; have := D5.out.size; have := HZ4.out; omega⟩) (touchS_mono T11.out fun q hq => ⟨by have := HGV.out; have := HZ4.out; omega, by have := HGV2.out; have := HZ5.out; omega⟩)
    clear ht11 x0 x1 x2 x3 T10 T11 RV10 hsz10 hk10 hk10b
    have hnot : Hid (∀ q, V5.heap.size ≤ q → ¬ (w3.heap.size ≤ q ∧ q < V5.heap.size)) := fun q hq hh => by omega
    have G11 := hide (book_touch (G6.out.later E9.out) (bkW_later R6.out E9.out) HVA.out T.out (fun q hq => hnot.out q (HIN.out q hq).1))
    have R11 := hide (bkW_touch (bkW_later R6.out E9.out) T.out (fun q hq => hnot.out q (HIN.out q hq).1))
    have K11 := hide ((K6.out.later E9.out).touchS T.out (hnot.out _ (by omega)))
    have C11 := hide (C9.out.trans (below_ofS T.out C9.out.size (fun q hq => hq.1)))
    have B11 := hide (B9.out.trans (below_ofS T.out B9.out.size (fun q hq => by omega)))
    clear T E9 D9 C9 B9
    obtain ⟨g0, g1, g2, -⟩ := K11.out.cells
    obtain ⟨s0, s1, s2, -⟩ := (K3.out.later C11.out).cells
    go_wp2_with fail
    refine (eqFlowBook_same _ _ _ _ _ _ _ _ _ _ _ _ cs1 fs1 ss1 w11 G11.out (D3.out.later C11.out) HOK.out).mono ?_
    rintro e w12 ⟨rfl, hb12⟩
    have R12 := hide (bkW_later R11.out hb12)
    have K12 := hide (K11.out.later hb12)
    have C12 := hide (below_two C11.out hb12)
    have B12 := hide (below_two B11.out hb12)
    clear hb12 g0 g1 g2 s0 s1 s2
    obtain ⟨g0, g1, g2, -⟩ := K12.out.cells
    have HVS : Hid (∀ x ∈ va, x.2.1 ≤ 1048576) := fun x hx => by
      obtain ⟨i, hi, rfl⟩ := List.getElem_of_mem hx
      rw [HVE.out i hi (by have := HVA.out; omega)]
      exact HOK.out.vl _ (List.getElem_mem _)
    have MK := markBook_is bc b b' cs1.length cc cb ss1.length cb' va w12 R12.out HOK.out.nc (by rw [HVA.out]; exact HOK.out.nf) HOK.out.ns HVS.out
    rw [HVA.out] at MK
    have HMK := hide MK
    clear MK
    have hkb := kAt_bd (1 + 2 * (cs1.length : Int)) va HVS.out va.length (Nat.le_refl _)
    go_wp2_with fail
    refine HMK.out.mono ?_
    rintro e w13 ⟨rfl, hheld, ht13⟩
    have HE13 := hide hheld
    have hn13 : Hid (∀ q, InB bc b b' cs1.length ss1.length va q → V5.heap.size ≤ q ∧ q < w6.heap.size) := HIN.out
    have K13 := hide (K12.out.touchS ht13 (fun hq => by have := hn13.out _ hq; omega))
    have C13 := hide (C12.out.trans (below_ofS ht13 C12.out.size (fun q hq => by have := hn13.out q hq; have := HZ4.out; have := D5.out.size; omega)))
    have B13 := hide (B12.out.trans (below_ofS ht13 B12.out.size (fun q hq => by have := hn13.out q hq; have := HZ4.out; have := D5.out.size; omega)))
    clear hheld ht13 g0 g1 g2
    have HD : ∀ W' : World, Below w13.heap.size w13 W' → Calls Tryz.prog 15 #[.agg #[.slice bc cs1.length cc, .slice b fs1.length cb, .slice b' ss1.length cb'], .int .i64 1] W' fun e w' => e = .returned (.int .i64 (kAt (1 + 2 * (cs1.length : Int)) va fs1.length + (ss1.length : Int))) ∧ Below W'.heap.size W' w' := fun W' hW' => by
      have := heldBook_is bc b b' cs1.length cc cb ss1.length cb' va W' (bkHeld_later HE13.out hW') HOK.out.nc (by rw [HVA.out]; exact HOK.out.nf) HOK.out.ns HVS.out
      rw [HVA.out] at this
      exact this
    have HHD := hide HD
    clear HD
    rw [HVA.out] at hkb
    generalize hmm : kAt (1 + 2 * (cs1.length : Int)) va fs1.length + (ss1.length : Int) = mm at *
    have hmn : ¬ (mm < 0) := by omega
    have hmq : (mm != mm) = false := by simp
    clear hmm
    obtain ⟨g0, g1, g2, -⟩ := K13.out.cells
    go_wp2_with fail
    refine (HHD.out w13 (Below.refl _ _)).mono ?_
    rintro e w14 ⟨rfl, hb14⟩
    have F14 := hide hb14
    have C14 := hide (below_two C13.out hb14)
    have B14 := hide (below_two B13.out hb14)
    clear hb14 g0 g1 g2
    have KE14 : Hid (∀ X, Below w14.heap.size w14 X → X.cell? ⟨w.heap.size, 0, none⟩ = some (.slice ac cs.length capc) ∧ X.cell? ⟨w.heap.size, 1, none⟩ = some (.slice a fs.length cap) ∧ X.cell? ⟨w.heap.size, 2, none⟩ = some (.slice a' ss.length cap') ∧ X.cell? ⟨w.heap.size + 1, 0, none⟩ = some (.string nm) ∧ X.cell? ⟨w.heap.size + 1, 1, none⟩ = some (.int .i64 pl) ∧ X.cell? ⟨w.heap.size + 1, 2, none⟩ = some (.int .i64 lt) ∧ X.cell? ⟨w.heap.size + 1, 3, none⟩ = some (.slice av vs.length cv)) := fun X hX => KE.out X (below_two B14.out hX)
    have BB14 : Hid (∀ X, Below w14.heap.size w14 X → BookIn X ac a a' cs fs ss) := fun X hX => BBX.out X (below_two B14.out hX)
    have VV14 : Hid (∀ X, Below w14.heap.size w14 X → VisitsIn X av vs) := fun X hX => VVX.out X (below_two B14.out hX)
    have GG14 : Hid (∀ X, Below w14.heap.size w14 X → ErrT X) := fun X hX => GGX.out X (below_two B14.out hX)
    go_upto_region 31 with fail
    go_cut [15, 16] from 94 (fun p q wc => ∃ (bx2 : Nat) (ec e4 e4' : Option Addr) (ed eb eb' : Nat), p = .pointer (some ⟨bx2, 0, none⟩) ∧ q = .int .i64 kk ∧ Hid (BkAt wc bx2 (.slice ec cs1.length ed) (.slice e4 fs1.length eb) (.slice e4' ss1.length eb')) ∧ Hid (BookIn wc ec e4 e4' cs1 fs1 ss1) ∧ Hid (Below w14.heap.size w14 wc))
    case first =>
      go_region_held3 (fun X => X.cell? ⟨w.heap.size, 0, none⟩ = some (.slice ac cs.length capc) ∧ X.cell? ⟨w.heap.size, 1, none⟩ = some (.slice a fs.length cap) ∧ X.cell? ⟨w.heap.size, 2, none⟩ = some (.slice a' ss.length cap') ∧ X.cell? ⟨w.heap.size + 1, 0, none⟩ = some (.string nm) ∧ X.cell? ⟨w.heap.size + 1, 1, none⟩ = some (.int .i64 pl) ∧ X.cell? ⟨w.heap.size + 1, 2, none⟩ = some (.int .i64 lt) ∧ X.cell? ⟨w.heap.size + 1, 3, none⟩ = some (.slice av vs.length cv))
        (first | exact KE14.out _ (Below.refl _ _).drew | exact KE14.out _ (belA w14 _) | exact KE14.out _ BWA.out | exact KE14.out _ (below_two BWA.out (belN wA _)) | exact KE14.out _ BWB.out | exact KE14.out _ (below_two BWB.out (belN wB _)) | exact KE14.out _ BWC.out | exact KE14.out _ (below_two BWC.out (belN wC _)) | exact KE14.out _ (below_set3 BWC.out (Nat.le_refl _) _ _ _) | exact KE14.out _ (below_set3 BWC.out BWA.out.size _ _ _) | exact KE14.out _ (below_set3 BWC.out BWB.out.size _ _ _) | exact KE14.out _ (below_set3 (below_two BWC.out (belN wC _)) BWC.out.size _ _ _))
        (first
          | (go_at_call 8; refine (toFlowBook_any ac a a' capc cap cap' cs fs ss _ (BB14.out _ (by first | exact (Below.refl _ _).drew | exact belA w14 _)) HM.out).mono ?_; rintro e wA ⟨gc, gf, gi, rfl, hmA, hbA⟩; have BWA : Hid (Below w14.heap.size w14 wA) := (by first | exact below_dr hbA | exact below_two (belA w14 _) hbA); have MA := hide hmA.book; (first | have KBA : Hid (BkAt wA w14.heap.size (.slice none 0 0) (.slice none 0 0) (.slice none 0 0)) := BkAt.later (w := (w14.alloc (.cells #[.slice none 0 0, .slice none 0 0, .slice none 0 0] 35)).drew) (BkAt.newAt w14 _ rfl _ _ _) hbA | skip); clear hmA hbA)
          | (go_at_call 9; refine (toFlowFlight_any (nm, pl, lt, vs) av cv _ (VV14.out _ (by first | exact BWA.out | exact below_two BWA.out (belN wA _))) HVL.out).mono ?_; rintro e wB ⟨gv4, rfl, -, hrB, hbB⟩; have BAB : Hid (Below wA.heap.size wA wB) := (by first | exact hbB | exact below_two (belN wA _) hbB); have BWB := hide (below_two BWA.out BAB.out); have MB := hide (MA.out.later BAB.out); have VB := hide (VisitsIn.ofRow hrB); (first | have KBB := hide (KBA.out.later BAB.out) | have KBB := hide (BkAt.later (BkAt.newAt wA _ rfl (.slice none 0 0) (.slice none 0 0) (.slice none 0 0)) hbB) | skip); clear hrB hbB)
          | (go_at_call 10; refine (IM.out (some ⟨gc, 0, none⟩) (some ⟨gf, 0, none⟩) (some ⟨gi, 0, none⟩) cs.length fs.length ss.length (some ⟨gv4, 0, none⟩) vs.length _ (GG14.out _ (by first | exact BWB.out | exact below_two BWB.out (belN wB _))) (MB.out.later (by first | exact Below.refl _ _ | exact belN wB _)) (VB.out.later (by first | exact Below.refl _ _ | exact belN wB _))).mono ?_; rintro e wC ⟨ec, e4, e4', ed, eb, eb', rfl, hbk, hbC⟩; have BBC : Hid (Below wB.heap.size wB wC) := (by first | exact hbC | exact below_two (belN wB _) hbC); have BWC := hide (below_two BWB.out BBC.out); have DC := hide hbk; (first | have KBC := hide (KBB.out.later BBC.out) | have KBC := hide (BkAt.later (BkAt.newAt wB _ rfl (.slice none 0 0) (.slice none 0 0) (.slice none 0 0)) hbC) | skip); (first | (obtain ⟨p0, p1, p2, r0, r1, r2⟩ := KBC.out.cells) | skip); clear hbk hbC)
          | (fail))
      all_goals
        go_wp2_with fail
        go_meet
        first
        | exact ⟨wC.heap.size, ec, e4, e4', ed, eb, eb', rfl, rfl, BkAt.newAt wC _ rfl _ _ _, DC.out.book.later (belN wC _), below_two BWC.out (belN wC _)⟩
        | exact ⟨_, ec, e4, e4', ed, eb, eb', rfl, rfl, KBC.out.set3 _ _ _, (OwnBk.touch DC.out (set3_touch wC _ _ _ _) (fun q h1 _ he => by have e : q = _ := he; have h9 := KBB.out.lt; omega)).book, below_set3 BWC.out (by first | exact Nat.le_refl _ | exact BWA.out.size) _ _ _⟩
        | exact ⟨_, ec, e4, e4', ed, eb, eb', rfl, rfl, KBC.out.set3 _ _ _, (OwnBk.touch DC.out (set3_touch wC _ _ _ _) (fun q h1 _ he => by have e : q = _ := he; simp at h1; omega)).book, below_set3 BWC.out BWB.out.size _ _ _⟩
    case rest =>
      obtain ⟨bx2, ec, e4, e4', ed, eb, eb', rfl, rfl, K15, O15, hb15⟩ := hcut
      generalize wc = w15 at *
      have F15 := hide (below_two F14.out hb15.out)
      have C15 := hide (below_two C14.out hb15.out)
      have B15 := hide (below_two B14.out hb15.out)
      clear hb15 BB14 VV14 KE14 GG14
      obtain ⟨g0, g1, g2, -⟩ := K15.out.cells
      obtain ⟨s0, s1, s2, -⟩ := (K3.out.later C15.out).cells
      go_wp2_with fail
      refine (eqFlowBook_same _ _ _ _ _ _ _ _ _ _ _ _ cs1 fs1 ss1 w15 O15.out (D3.out.later C15.out) HOK.out).mono ?_
      rintro e w16 ⟨rfl, hb16⟩
      have F16 := hide (below_two F15.out hb16)
      have B16 := hide (below_two B15.out hb16)
      clear hb16 g0 g1 g2 s0 s1 s2
      obtain ⟨g0, g1, g2, -⟩ := (K13.out.later F16.out).cells
      go_wp2_with fail
      refine (HHD.out w16 F16.out).mono ?_
      rintro e w17 ⟨rfl, hb17⟩
      have B17 := hide (below_two B16.out hb17)
      clear hb17 g0 g1 g2
      go_wp2
      go_ret
      exact ⟨rfl, below_two WB.out B17.out⟩

theorem fnExactFlowAdd_holds : Rows.FnExactFlowAddCardSaid :=
  add_card fun f av cv ac a a' capc cap cap' cs fs ss w hg h1 h2 h3 hv hsz h4 h5 h6 h7 h8 => addLaw_walk f av cv ac a a' capc cap cap' cs fs ss w hg ⟨h1, h2, h3⟩ hv hsz h4 h5 h6 h7 h8
#print axioms fnExactFlowAdd_holds

end Go.Proofs.YtciacofibljmoabGreatDoor
