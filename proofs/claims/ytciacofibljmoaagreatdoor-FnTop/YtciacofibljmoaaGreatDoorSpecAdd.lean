/- A flight comes in, the document's way. -/
import Derived.Test.YtciacofibljmoaaGreatDoorSpecDrop
import Derived.Test.YtciacofibljmoaaGreatDoorPuts
import Derived.Test.YtciacofibljmoaaGreatDoorVisB
import Derived.Test.YtciacofibljmoaaGreatDoorLate
import Derived.Deep.RegionHeld3
import Derived.Deep.RegionLaw
import Derived.Deep.CutRange
import Derived.Deep.AppendLies
namespace Go.Proofs.YtciacofibljmoaaGreatDoor
open Go.RowKit

/-- The boxes of FlowAdd: the book's, the flight's, the answer's. -/
theorem sa_boxes (w : World) (u0 u1 u2 u3 v0 v1 v2 : Value) : ∃ W, ((w.alloc (.cells #[v0, v1, v2] 29)).alloc (.cells #[u0, u1, u2, u3] 32)).alloc (.cells #[.slice none 0 0, .slice none 0 0, .slice none 0 0] 29) = W ∧ W.heap.size = w.heap.size + 3 ∧ BkAt W w.heap.size v0 v1 v2 ∧ (W.cell? ⟨w.heap.size + 1, 0, none⟩ = some u0 ∧ W.cell? ⟨w.heap.size + 1, 1, none⟩ = some u1 ∧ W.cell? ⟨w.heap.size + 1, 2, none⟩ = some u2 ∧ W.cell? ⟨w.heap.size + 1, 3, none⟩ = some u3) ∧ BkAt W (w.heap.size + 2) (.slice none 0 0) (.slice none 0 0) (.slice none 0 0) ∧ Below w.heap.size w W := by
  obtain ⟨A, hA, hAs, hAb, hAB⟩ : ∃ A, w.alloc (.cells #[v0, v1, v2] 29) = A ∧ A.heap.size = w.heap.size + 1 ∧ BkAt A w.heap.size v0 v1 v2 ∧ Below w.heap.size w A := ⟨_, rfl, by simp, BkAt.newAt w _ rfl _ _ _, (Below.refl _ _).alloc (Nat.le_refl _) _⟩
  rw [hA]
  have hr := World.rowIs_alloc A #[u0, u1, u2, u3] 32 (fun i => #[u0, u1, u2, u3].getD i undef) (fun i hi => by rw [Array.getD_eq_getD_getElem?, Array.getElem?_eq_getElem hi]; rfl)
  rw [hAs] at hr
  have b1 : Below A.heap.size A (A.alloc (.cells #[u0, u1, u2, u3] 32)) := (Below.refl _ _).alloc (Nat.le_refl _) _
  refine ⟨_, rfl, by simp; omega, (hAb.later b1).later ((Below.refl _ _).alloc (Nat.le_refl _) _), ⟨?_, ?_, ?_, ?_⟩, BkAt.newAt _ _ (by simp; omega) _ _ _, (below_two hAB b1).trans ((Below.refl _ _).alloc (by simp; omega) _)⟩
  · exact Lib.cell?_alloc_some _ (hr.cell (i := 0) (by simp))
  · exact Lib.cell?_alloc_some _ (hr.cell (i := 1) (by simp))
  · exact Lib.cell?_alloc_some _ (hr.cell (i := 2) (by simp))
  · exact Lib.cell?_alloc_some _ (hr.cell (i := 3) (by simp))
theorem fs_box (w : World) (u0 u1 u2 u3 : Value) : ∃ W, w.alloc (.cells #[u0, u1, u2, u3] 32) = W ∧ W.heap.size = w.heap.size + 1 ∧ (W.cell? ⟨w.heap.size, 0, none⟩ = some u0 ∧ W.cell? ⟨w.heap.size, 1, none⟩ = some u1 ∧ W.cell? ⟨w.heap.size, 2, none⟩ = some u2 ∧ W.cell? ⟨w.heap.size, 3, none⟩ = some u3) ∧ Below w.heap.size w W := by
  have hr := World.rowIs_alloc w #[u0, u1, u2, u3] 32 (fun i => #[u0, u1, u2, u3].getD i undef) (fun i hi => by rw [Array.getD_eq_getD_getElem?, Array.getElem?_eq_getElem hi]; rfl)
  exact ⟨_, rfl, by simp, ⟨hr.cell (i := 0) (by simp), hr.cell (i := 1) (by simp), hr.cell (i := 2) (by simp), hr.cell (i := 3) (by simp)⟩, (Below.refl _ _).alloc (Nat.le_refl _) _⟩

theorem flVals_in (gs : List FlV) (k : Nat) (x : FlV) : flVals (putAt gs k x) = flVals (gs.take k) ++ [.string x.1.1, .int .i64 x.1.2.1, .int .i64 x.1.2.2.1, .slice x.2.1 x.1.2.2.2.length x.2.2] ++ flVals (gs.drop k) := by simp [putAt, flVals]
theorem intVals_in (ss : List Int) (k : Nat) (z : Int) : intVals (putAt ss k z) = intVals (ss.take k) ++ [.int .i64 z] ++ intVals (ss.drop k) := by simp [putAt, intVals]
theorem fls_plain {w : World} {base : Nat} {a : Option Addr} {c : Nat} {gs : List FlV} (h : World.ownsRow w base 32 4 (.slice a gs.length c) gs.length (flVals gs)) (hv : ∀ x ∈ gs, VisitsIn w x.2.1 x.1.2.2.2) : FlightsIn w a (gs.map Prod.fst) := fun i hi => by
  have hi' : i < gs.length := by simpa using hi
  obtain ⟨g, rfl, hg, hlt⟩ := owns_some h (by omega)
  obtain ⟨⟨c0, c1', c2, c3⟩, _⟩ := own_cell4 h hi'
  refine ⟨g, 0, rfl, hlt, ?_⟩
  rw [List.getElem_map]
  exact ⟨by rw [Nat.zero_add]; exact c0, by rw [Nat.zero_add]; exact c1', by rw [Nat.zero_add]; exact c2, _, _, by rw [Nat.zero_add]; exact c3, hv _ (List.getElem_mem hi')⟩
theorem sizeB (w : World) (o o' : Obj) : (((w.alloc o).alloc o').drew).heap.size = w.heap.size + 2 := by show ((w.alloc o).alloc o').heap.size = _; simp
theorem heapB (w : World) (o o' : Obj) : (((w.alloc o).alloc o').drew).heap[w.heap.size + 1]? = some o' := by
  have h := Deep.blk_alloc_new (w.alloc o) o'
  rw [show (w.alloc o).heap.size = w.heap.size + 1 by simp] at h
  exact h
theorem heapC (w : World) (o o' : Obj) : (((w.alloc o).alloc o').drew).heap[w.heap.size]? = some o := ((belN (w.alloc o) o').block w.heap.size (by simp)).trans (Deep.blk_alloc_new w o)
theorem vis_grown {w w' : World} {B : Nat} {a : Option Addr} {n c : Nat} {vs : List Vis} {b : Option Addr} {m d : Nat} (h : OwnV w B (.slice a n c) vs) (hg : w.grownBy w' (Value.slice b m d).ownBlock) (hne : ∀ q, InA a q → ¬ InA b q) : OwnV w' B (.slice a n c) vs :=
  owns_keep h fun q hq => hg.block q (World.ownsRow.lt h q hq).2 fun e => hne q (ownB_in hq) (ownB_in e.symm)
theorem add13 {wE w7 w8 : World} {o : Obj} {B B5 B6 gx cpx n6 c6 g7 n7 c7 n8 c8 : Nat} {a6 a8 : Option Addr} {vs : List Vis} {xs6 xs7 xs8 : List Value} (OE : OwnV wE B6 (.slice (some ⟨gx, 0, none⟩) vs.length cpx) vs) (OY : World.ownsRow (wE.alloc o) B 32 4 (.slice a6 n6 c6) n6 xs6) (G7 : (wE.alloc o).grownBy w7 (Value.slice a6 n6 c6).ownBlock) (O7 : World.ownsRow w7 B 32 4 (.slice (some ⟨g7, 0, none⟩) n7 c7) n7 xs7) (G8 : w7.grownBy w8 (Value.slice (some ⟨g7, 0, none⟩) n7 c7).ownBlock) (O8 : World.ownsRow w8 B 32 4 (.slice a8 n8 c8) n8 xs8) (hB : B5 ≤ B6) :
    OwnV w8 B5 (.slice (some ⟨gx, 0, none⟩) vs.length cpx) vs ∧ ∀ q, InA (some ⟨gx, 0, none⟩) q → ¬ InA a8 q := by
  have V0 := owns_later OE (belN wE o)
  have V7 := vis_grown V0 G7 fun q hq => apart_types V0 OY (by decide) hq
  have V8 := vis_grown V7 G8 fun q hq => apart_types V7 O7 (by decide) hq
  exact ⟨owns_base V8 hB, fun q hq => apart_types V8 O8 (by decide) hq⟩

set_option maxRecDepth 100000 in
set_option maxHeartbeats 3200000 in
theorem specAdd_all (f : Fli) (av : Option Addr) (cv : Nat) (ac a a' : Option Addr) (capc cap cap' : Nat) (cs : List (ByteArray × Int)) (fs : List Fli) (ss : List Int) (w : World) (hb : BookIn w ac a a' cs fs ss) (hm : BookSm cs fs ss) (hv : VisitsIn w av f.2.2.2) (hvl : f.2.2.2.length ≤ 1048576) (hsz : SizesOk f) :
    Calls Tryz.prog 12 #[bkV ac a a' capc cap cap' cs fs ss, .agg #[.string f.1, .int .i64 f.2.1, .int .i64 f.2.2.1, .slice av f.2.2.2.length cv]] w fun e w' => ∃ bc b b' cc cb cb', e = .returned (.tuple #[bkV bc b b' cc cb cb' (okC cs fs ss) (addF cs fs ss f) (addS cs fs ss f), .int .i64 (addK cs fs ss f)]) ∧ (∀ Z, TouchS (fun q => q < w.heap.size) w' Z → BookIn Z bc b b' (okC cs fs ss) (addF cs fs ss f) (addS cs fs ss f)) ∧ Below w.heap.size w w' := by
  have HB := hide hb
  have HM := hide hm
  have HV0 := hide hv
  have HVL := hide hvl
  have HSZ := hide hsz
  clear hb hm hv hvl hsz
  obtain ⟨W, hW, hWs, f0, c0, r0, b0⟩ := sa_boxes w (.string f.1) (.int .i64 f.2.1) (.int .i64 f.2.2.1) (.slice av f.2.2.2.length cv) (.slice ac cs.length capc) (.slice a fs.length cap) (.slice a' ss.length cap')
  have HW := hide hW
  have F0 := hide f0
  have C0 := hide c0
  have R0 := hide r0
  have B0 := hide b0
  have HWs := hide hWs
  clear hW f0 r0 b0 hWs c0
  cases hq : fitsB cs fs ss
  · have HQ := hide hq
    have e1 : okC cs fs ss = [] := by unfold okC; rw [hq]; rfl
    have e2 : addF cs fs ss f = [] := by unfold addF; rw [hq]; rfl
    have e3 : addS cs fs ss f = [] := by unfold addS; rw [hq]; rfl
    have e4 : addK cs fs ss f = 1 := by unfold addK; rw [hq]; rfl
    rw [e1, e2, e3, e4]
    clear hq e1 e2 e3 e4
    go_enter Tryz.func12, Tryz.ntmps12
    go_wp2_with fail
    rw [HW.out]
    refine (specBookOk_val ac a a' capc cap cap' cs fs ss _ HQ.out W (HB.out.later B0.out) HM.out).mono ?_
    rintro e w1 ⟨rfl, hb1⟩
    have R1 := hide (R0.out.later hb1)
    have B1 := hide (below_two B0.out hb1)
    have hs1 : w.heap.size + 3 ≤ w1.heap.size := by have := hb1.size; have := HWs.out; omega
    obtain ⟨k0, k1, k2, t0, t1, t2⟩ := R1.out.cells
    have RX := hide (R1.out.set3 (.slice none 0 0) (.slice none 0 0) (.slice none 0 0))
    have TX := hide (set3_touch w1 (w.heap.size + 2) (.slice none 0 0) (.slice none 0 0) (.slice none 0 0))
    clear hb1
    go_wp2
    generalize ((w1.setCell ⟨w.heap.size + 2, 0, none⟩ (.slice none 0 0)).setCell ⟨w.heap.size + 2, 1, none⟩ (.slice none 0 0)).setCell ⟨w.heap.size + 2, 2, none⟩ (.slice none 0 0) = Y at *
    obtain ⟨y0, y1, y2, -⟩ := RX.out.cells
    exact bodyPost_ret (v := .tuple #[bkV none none none 0 0 0 [] [] [], .int .i64 1]) (by simp [results, Tryz.results12, go_sem, y0, y1, y2]) rfl ⟨none, none, none, 0, 0, 0, rfl, fun Z _ => (ownBk_none 0 Z).book, B1.out.trans (below_ofS (S := fun q => q = w.heap.size + 2) TX.out (by omega) (fun q hq => by omega))⟩
  · have HQ := hide hq
    have e1 : okC cs fs ss = cs := by unfold okC; rw [hq]; rfl
    have e2 : addF cs fs ss f = (if addN fs f = 0 then putAt fs (placeV fs f.1) f else fs) := by unfold addF; rw [hq]; rfl
    have e3 : addS cs fs ss f = (if addN fs f = 0 then newS cs fs ss f (placeV fs f.1) else ss) := by unfold addS; rw [hq]; rfl
    have e4 : addK cs fs ss f = addN fs f := by unfold addK; rw [hq]; rfl
    rw [e1]
    have E2 := hide e2
    have E3 := hide e3
    have E4 := hide e4
    have HV : Hid (∀ f ∈ fs, 1 ≤ f.2.2.2.length ∧ f.2.2.2.length ≤ 1000) := fun f hf => by
      obtain ⟨i, hi, rfl⟩ := List.getElem_of_mem hf
      have := (slots_bd (fits_slots hq)).2.2.2 i hi
      exact ⟨this.2.2.2.1, by omega⟩
    have HO := hide (flis_iff.1 (fits_iff.1 hq).2.1).2.2
    have HN8 := hide (flis_iff.1 (fits_iff.1 hq).2.1).1
    have HLS := hide (fits_iff.1 hq).2.2.1
    clear hq e1 e2 e3 e4
    go_enter Tryz.func12, Tryz.ntmps12
    go_wp2_with fail
    rw [HW.out]
    refine (specBookOk_val ac a a' capc cap cap' cs fs ss _ HQ.out W (HB.out.later B0.out) HM.out).mono ?_
    rintro e w1 ⟨rfl, hb1⟩
    have F1 := hide (F0.out.later hb1)
    have C1 := hide (And.intro (cell_later hb1 C0.out.1) (And.intro (cell_later hb1 C0.out.2.1) (And.intro (cell_later hb1 C0.out.2.2.1) (cell_later hb1 C0.out.2.2.2))))
    have R1 := hide (R0.out.later hb1)
    have B1 := hide (below_two B0.out hb1)
    have hs1 : w.heap.size + 3 ≤ w1.heap.size := by have := hb1.size; have := HWs.out; omega
    obtain ⟨x0, x1, x2, -⟩ := F1.out.cells
    clear hb1
    go_wp2_with fail
    refine (l4Copy_full ac a a' capc cap cap' cs fs ss w1 (HB.out.later B1.out) HM.out HV.out).mono ?_
    rintro e w2 ⟨bc, b, b', cc, cb, cb', rfl, ⟨hcp, hfk⟩, hzc, hb2⟩
    have C2 := hide hcp
    have FK2 := hide hfk
    have Z2 := hide hzc
    have hs2 := hb2.size
    obtain ⟨V, hV, hVs, VB, BV⟩ : ∃ V, w2.alloc (.cells #[.slice bc cs.length cc, .slice b fs.length cb, .slice b' ss.length cb'] 29) = V ∧ V.heap.size = w2.heap.size + 1 ∧ BkAt V w2.heap.size (.slice bc cs.length cc) (.slice b fs.length cb) (.slice b' ss.length cb') ∧ Below w2.heap.size w2 V := ⟨_, rfl, by simp, BkAt.newAt w2 _ rfl _ _ _, (Below.refl _ _).alloc (Nat.le_refl _) _⟩
    have hbV := below_two hb2 BV
    have F3 := hide (F1.out.later hbV)
    have C3 := hide (And.intro (cell_later hbV C1.out.1) (And.intro (cell_later hbV C1.out.2.1) (And.intro (cell_later hbV C1.out.2.2.1) (cell_later hbV C1.out.2.2.2))))
    have R3 := hide (R1.out.later hbV)
    have B3 := hide (below_two (below_two B1.out hb2) BV)
    have T3 := hide (touchS_below (S := fun _ => False) BV)
    have K3 := hide VB
    have HV2 := hide hV
    have HVs := hide hVs
    clear hcp hfk hzc hb2 x0 x1 x2 BV VB hV hVs R1 F1 hbV C1
    go_upto_region 4 with fail
    rw [HV2.out]
    obtain ⟨y0, y1, y2, y3⟩ := C3.out
    obtain ⟨U, hU, hUs, ⟨d0, d1, d2, d3⟩, bU⟩ := fs_box V (.string f.1) (.int .i64 f.2.1) (.int .i64 f.2.2.1) (.slice av f.2.2.2.length cv)
    have HFL := hide (fl_one V.heap.size f av cv (by omega) d0 d1 d2 d3 ((HV0.out.later B3.out).later bU))
    have HU := hide hU
    have BU := hide bU
    clear d0 d1 d2 d3 hU bU
    go_wp2_with fail
    rw [HU.out]
    have P := specFlightsOk_any (some ⟨V.heap.size, 0, none⟩) 1 [f] U HFL.out (by simp) (by intro x hx; rw [List.mem_singleton.1 hx]; exact HVL.out) (by intro x hx; rw [List.mem_singleton.1 hx]; exact HSZ.out)
    rw [one_val] at P
    have REF : Hid (∀ (Z : World), Below V.heap.size V Z → ∃ Y, ((Z.setCell ⟨w.heap.size + 2, 0, none⟩ (.slice bc cs.length cc)).setCell ⟨w.heap.size + 2, 1, none⟩ (.slice b fs.length cb)).setCell ⟨w.heap.size + 2, 2, none⟩ (.slice b' ss.length cb') = Y ∧ BkAt Y (w.heap.size + 2) (.slice bc cs.length cc) (.slice b fs.length cb) (.slice b' ss.length cb') ∧ (∀ Z2, TouchS (fun q => q < w.heap.size) Y Z2 → BookIn Z2 bc b b' cs fs ss) ∧ Below w.heap.size w Y) := fun Z hZ => by
      refine ⟨_, rfl, (R3.out.later hZ).set3 _ _ _, ?_⟩
      have TX := set3_touch Z (w.heap.size + 2) (.slice bc cs.length cc) (.slice b fs.length cb) (.slice b' ss.length cb')
      generalize ((Z.setCell ⟨w.heap.size + 2, 0, none⟩ (.slice bc cs.length cc)).setCell ⟨w.heap.size + 2, 1, none⟩ (.slice b fs.length cb)).setCell ⟨w.heap.size + 2, 2, none⟩ (.slice b' ss.length cb') = Y at *
      have hz := hZ.size
      have hv := HVs.out
      have tt : TouchS (fun q => q = w.heap.size + 2) w2 Y := touchS_trans (touchS_trans (touchS_mono T3.out fun _ h => h.elim) (touchS_below hZ)) TX
      refine ⟨fun Z2 hZ2 => ?_, (below_two B3.out hZ).trans (below_ofS (S := fun q => q = w.heap.size + 2) TX (by have := B3.out.size; omega) (fun q hq => by omega))⟩
      have tz : TouchS (fun q => q = w.heap.size + 2 ∨ q < w.heap.size) w2 Z2 := touchS_trans (touchS_mono tt fun _ h => .inl h) (touchS_mono hZ2 fun _ h => .inr h)
      have hr := C2.out.rest Z2 (touchS_mono tz fun k hk => .inl (by omega))
      have hi : IntsIn Z2 b' ss := ints_touchS (ints_of C2.out.own) tz (fun q hq hh => by have := C2.out.inI hq; omega)
      exact ⟨hr.1, hr.2, hi⟩
    cases h1 : oneB f
    · rw [h1] at P
      refine P.mono ?_
      rintro e w3 ⟨rfl, hb3⟩
      have hn : addN fs f = 2 := by unfold addN; rw [h1]; rfl
      have e2 := E2.out
      have e3 := E3.out
      rw [hn, if_neg (by omega)] at e2 e3
      have E2' := hide e2
      have E3' := hide e3
      have E4' : Hid (addK cs fs ss f = 2) := E4.out.trans hn
      have BZ := hide (below_two BU.out hb3)
      obtain ⟨x0, x1, x2, -⟩ := (K3.out.later BZ.out).cells
      obtain ⟨k0, k1, k2, t0, t1, t2⟩ := (R3.out.later BZ.out).cells
      clear hb3 P h1 hn e2 e3 E2 E3 E4 y0 y1 y2 y3
      go_wp2
      obtain ⟨Y, hY, hyk, hyb, hyB⟩ := REF.out w3 BZ.out
      rw [hY]
      obtain ⟨z0, z1, z2, -⟩ := hyk.cells
      exact bodyPost_ret (v := .tuple #[bkV bc b b' cc cb cb' cs fs ss, .int .i64 2]) (by simp [results, Tryz.results12, go_sem, z0, z1, z2, bkV]) rfl ⟨bc, b, b', cc, cb, cb', by rw [E2'.out, E3'.out, E4'.out], by rw [E2'.out, E3'.out]; exact hyb, hyB⟩
    rw [h1] at P
    refine P.mono ?_
    rintro e w3 ⟨rfl, hb3⟩
    have BZ3 := hide (below_two BU.out hb3)
    have H1 := hide h1
    clear hb3 P h1 y0 y1 y2 y3
    obtain ⟨x0, x1, x2, -⟩ := (F3.out.later BZ3.out).cells
    have y0 := cell_later BZ3.out C3.out.1
    go_wp2_with fail
    refine (l4At_any ac a a' capc cap cap' cs fs ss f.1 w3 ((HB.out.later B3.out).later BZ3.out).fl HM.out.nf HO.out).mono ?_
    rintro e w4 ⟨rfl, hb4⟩
    have BZ := hide (below_two BZ3.out hb4)
    clear hb4 x0 x1 x2 y0 BZ3
    cases hth : thereB fs f.1
    · have HA : atV fs f.1 = -1 := by unfold atV; rw [hth]; rfl
      rw [HA]
      have HTH := hide hth
      clear hth HA
      obtain ⟨x0, x1, x2, -⟩ := (F3.out.later BZ.out).cells
      by_cases h8 : fs.length = 8
      · have hn : addN fs f = 4 := by unfold addN; rw [H1.out, HTH.out, if_pos rfl, if_neg (by simp), if_pos h8]
        have e2 := E2.out
        have e3 := E3.out
        rw [hn, if_neg (by omega)] at e2 e3
        have E2' := hide e2
        have E3' := hide e3
        have E4' : Hid (addK cs fs ss f = 4) := E4.out.trans hn
        have h8i : (8 : Int) ≤ (fs.length : Int) := by omega
        clear hn e2 e3 E2 E3 E4 h8
        go_upto_region 9 with fail
        clear x0 x1 x2
        obtain ⟨x0, x1, x2, -⟩ := (K3.out.later BZ.out).cells
        obtain ⟨k0, k1, k2, t0, t1, t2⟩ := (R3.out.later BZ.out).cells
        go_wp2
        obtain ⟨Y, hY, hyk, hyb, hyB⟩ := REF.out w4 BZ.out
        rw [hY]
        obtain ⟨z0, z1, z2, -⟩ := hyk.cells
        exact bodyPost_ret (v := .tuple #[bkV bc b b' cc cb cb' cs fs ss, .int .i64 4]) (by simp [results, Tryz.results12, go_sem, z0, z1, z2, bkV]) rfl ⟨bc, b, b', cc, cb, cb', by rw [E2'.out, E3'.out, E4'.out], by rw [E2'.out, E3'.out]; exact hyb, hyB⟩
      have hn : addN fs f = 0 := by unfold addN; rw [H1.out, HTH.out, if_pos rfl, if_neg (by simp), if_neg h8]
      have e2 := E2.out
      have e3 := E3.out
      rw [hn, if_pos rfl] at e2 e3
      have E2' := hide e2
      have E3' := hide e3
      have E4' : Hid (addK cs fs ss f = 0) := E4.out.trans hn
      have h8i : ¬ ((8 : Int) ≤ (fs.length : Int)) := by have := HN8.out; omega
      have h8n : fs.length < 8 := by have := HN8.out; omega
      have H8 := hide h8n
      have HN0 := hide hn
      clear hn e2 e3 E2 E3 E4 h8 h8n
      go_upto_region 10 with fail
      clear x0 x1 x2 h8i
      have K4 := hide (K3.out.later BZ.out)
      have T4 : Hid (TouchS (fun _ => False) w2 w4) := touchS_trans T3.out (touchS_below BZ.out)
      have FX : Hid (FlightsIn w4 b fs) := (C2.out.rest w4 (touchS_mono T4.out fun _ h => h.elim)).2
      have hbz := BZ.out.size
      have HPL := hide (place_le fs f.1)
      have CY0 : Hid (w4.cell? ⟨w.heap.size + 1, 0, none⟩ = some (.string f.1)) := cell_later BZ.out C3.out.1
      go_wp2_with fail
      go_loopw [7] (fun i wr => ∃ (k : Nat), k ≤ placeV fs f.1 ∧ i = .int .i64 k ∧ Hid (Below w4.heap.size w4 wr)) (fun i _ => placeV fs f.1 - (intOf i).toNat)
      case atStart => exact ⟨0, Nat.zero_le _, rfl, Below.refl _ _⟩
      case round =>
        obtain ⟨k, hk, rfl, BK⟩ := hrel
        go_upto_region 11 with fail
        go_cut [45] from 30 to 47 (fun c wx => c = .bool (decide (k < placeV fs f.1)) ∧ Hid (Below w4.heap.size w4 wx))
        case first =>
          obtain ⟨x0, x1, x2, -⟩ := (K4.out.later BK.out).cells
          have y0 := cell_later BK.out CY0.out
          by_cases hlt : k < fs.length
          · obtain ⟨gb, off, hbe, hblt, c0, -⟩ := (FX.out.later BK.out) k hlt
            subst hbe
            have k0 : (0 : Int) ≤ (k : Int) := by omega
            have k1 : (k : Int) < (fs.length : Int) := by omega
            have hd : decide (k < placeV fs f.1) = decide (fs[k].1.toList < f.1.toList) := by
              by_cases h : k < placeV fs f.1
              · rw [decide_eq_true h, decide_eq_true (place_lt h)]
              · rw [decide_eq_false h, decide_eq_false (place_ge HO.out (by omega) hlt)]
            generalize fs[k].1 = s at c0 hd
            have HD := hide hd
            clear hd hk
            go_region_held3 (fun X => X.cell? ⟨w2.heap.size, 1, none⟩ = some (.slice (some ⟨gb, off, none⟩) fs.length cb) ∧ X.cell? ⟨gb, off + k * 4, none⟩ = some (.string s) ∧ X.cell? ⟨w.heap.size + 1, 0, none⟩ = some (.string f.1)) (exact ⟨x1, c0, y0⟩) (fail)
            go_wp2_with fail
            go_meet
            exact ⟨by rw [HD.out, less_eq], BK.out.drew⟩
          · have k1 : ¬ ((k : Int) < (fs.length : Int)) := by omega
            have HD : Hid (decide (k < placeV fs f.1) = false) := decide_eq_false (by have := HPL.out; omega)
            clear hk
            go_quiet (fail)
            go_wp2_with fail
            go_meet
            exact ⟨by rw [HD.out], Go.below_drewN BK.out _⟩
        case rest =>
          obtain ⟨rfl, BX⟩ := hcut
          by_cases hlt : k < placeV fs f.1
          · rw [decide_eq_true hlt]
            have h8b : (k : Int) < 8 := by have := HPL.out; have := H8.out; omega
            go_wp2
            go_roundw
            case rel => exact ⟨k + 1, by omega, by go_num, BX.out⟩
            case measure => simp [intOf]; omega
          · rw [decide_eq_false hlt]
            have hkp : placeV fs f.1 = k := by omega
            clear BK
            have HKP := hide hkp
            clear hkp hlt hk
            go_upto_region 13 with fail
            generalize wc = w5 at *
            have BX5 := hide (below_two BZ.out BX.out)
            have K5 := hide (K4.out.later BX.out)
            have R5 := hide (R3.out.later BX5.out)
            have B5 := hide (below_two B3.out BX5.out)
            have T5 : Hid (TouchS (fun _ => False) w2 w5) := touchS_trans T4.out (touchS_below BX.out)
            have hs5 : w2.heap.size + 1 ≤ w5.heap.size := by have := BX5.out.size; have := HVs.out; omega
            have PF := hide (put_fits HQ.out H1.out H8.out HTH.out)
            have PSM := hide (put_sm HM.out (by have := H8.out; omega) (by have := H8.out; have := HLS.out; omega) HVL.out HSZ.out (placeV fs f.1) (putAt ss (placeV fs f.1) (-1)) (putAt_len _ _ _))
            have hkl := HPL.out
            rw [HKP.out] at PF PSM E2' E3' hkl
            obtain ⟨B, gs, hgs, hkp⟩ := FK2.out
            have hgl : gs.length = fs.length := by rw [← hgs, List.length_map]
            have hO := hkp w5 (touchS_mono T5.out fun _ h => h.elim)
            have hrow : World.ownsRow w5 B 32 4 (.slice b fs.length cb) fs.length (flVals gs) := by have := hO.1; rwa [hgl] at this
            have HVF : Hid (1 ≤ f.2.2.2.length ∧ f.2.2.2.length ≤ 1000) := by
              have h9 := (slots_bd (fits_slots PF.out)).2.2.2 k (by rw [putAt_len]; omega)
              rw [putAt_self fs hkl] at h9
              exact ⟨h9.2.2.2.1, by omega⟩
            have HV5 : Hid (∀ X, Below w5.heap.size w5 X → VisitsIn X av f.2.2.2) := fun X hX => (HV0.out.later B5.out).later hX
            have hbd := cell_later BX5.out C3.out.1
            have KE : Hid (∀ X, Below w5.heap.size w5 X → X.cell? ⟨w.heap.size + 1, 0, none⟩ = some (.string f.1) ∧ X.cell? ⟨w.heap.size + 1, 1, none⟩ = some (.int .i64 f.2.1) ∧ X.cell? ⟨w.heap.size + 1, 2, none⟩ = some (.int .i64 f.2.2.1) ∧ X.cell? ⟨w.heap.size + 1, 3, none⟩ = some (.slice av f.2.2.2.length cv)) := fun X hX => ⟨cell_later hX (cell_later BX5.out C3.out.1), cell_later hX (cell_later BX5.out C3.out.2.1), cell_later hX (cell_later BX5.out C3.out.2.2.1), cell_later hX (cell_later BX5.out C3.out.2.2.2)⟩
            have hbx : w.heap.size + 1 ≠ w2.heap.size := by omega
            have KS : Hid (∀ X, Below w5.heap.size w5 X → ∀ u, (X.setCell ⟨w2.heap.size, 1, none⟩ u).cell? ⟨w.heap.size + 1, 0, none⟩ = some (.string f.1) ∧ (X.setCell ⟨w2.heap.size, 1, none⟩ u).cell? ⟨w.heap.size + 1, 1, none⟩ = some (.int .i64 f.2.1) ∧ (X.setCell ⟨w2.heap.size, 1, none⟩ u).cell? ⟨w.heap.size + 1, 2, none⟩ = some (.int .i64 f.2.2.1) ∧ (X.setCell ⟨w2.heap.size, 1, none⟩ u).cell? ⟨w.heap.size + 1, 3, none⟩ = some (.slice av f.2.2.2.length cv)) := fun X hX u => ⟨cell_other hbx (KE.out X hX).1, cell_other hbx (KE.out X hX).2.1, cell_other hbx (KE.out X hX).2.2.1, cell_other hbx (KE.out X hX).2.2.2⟩
            have GS := hide hgs
            have KP := hide hkp
            have HOF := hide hO
            have HRW := hide hrow
            have HGL := hide hgl
            have L1 : Hid ((flVals (gs.take k)).length = k * 4) := by show _ = _; rw [flVals_len, List.length_take, Nat.min_eq_left (by omega)]
            have L3 : Hid ((flVals (gs.drop k)).length = (fs.length - k) * 4) := by show _ = _; rw [flVals_len, List.length_drop, hgl]
            have h8 := H8.out
            have M1 : Hid (0 + k ≤ maxLen) := by show _ ≤ _; unfold maxLen; omega
            have M2 : Hid ((0 + k) * 56 ≤ 140737488355328) := by show _ ≤ _; omega
            have M3 : Hid (0 + k + 1 ≤ maxLen) := by show _ ≤ _; unfold maxLen; omega
            have M4 : Hid ((0 + k + 1) * 56 ≤ 140737488355328) := by show _ ≤ _; omega
            have M5 : Hid (0 + k + 1 + (fs.length - k) ≤ maxLen) := by show _ ≤ _; unfold maxLen; omega
            have M6 : Hid ((0 + k + 1 + (fs.length - k)) * 56 ≤ 140737488355328) := by show _ ≤ _; omega
            obtain ⟨j0, hj, jz0, jz1, jz2⟩ := info_parts info_flight
            have X1 := hide K5.out.cells.2.1
            have x1 := X1.out
            have x1a : w5.drew.cell? ⟨w2.heap.size, 1, none⟩ = some (.slice b fs.length cb) := x1
            have x1b : (w5.alloc (.cells #[] 32)).drew.cell? ⟨w2.heap.size, 1, none⟩ = some (.slice b fs.length cb) := cell_later (belA w5 _) x1
            have mk0 := trivial
            have mk1 := trivial
            clear hgs hkp hO hrow hgl h8 hbd
            obtain ⟨nm, pl, lt, vs⟩ := f
            go_cut [] from 48 (fun wc => ∃ (w8 : World) (a8 : Option Addr) (c8 : Nat) (x : FlV), wc = w8.setCell ⟨w2.heap.size, 1, none⟩ (.slice a8 (fs.length + 1) c8) ∧ Hid (x.1 = (nm, pl, lt, vs)) ∧ Hid (World.ownsRow w8 w5.heap.size 32 4 (.slice a8 (fs.length + 1) c8) (fs.length + 1) (flVals (putAt gs k x))) ∧ Hid (OwnV w8 w5.heap.size (visV x) x.1.2.2.2) ∧ Hid (∀ q, InA x.2.1 q → ¬ InA a8 q) ∧ Hid (Below w5.heap.size w5 w8))
            case first =>
              rcases HRW.out.2 with ⟨h0, h0n⟩ | ⟨g, cap0, cur, hbe, -, -, hnc, -⟩
              · simp at h0
                obtain ⟨rfl, -, rfl⟩ := h0
                obtain rfl : fs = [] := List.length_eq_zero_iff.1 h0n
                obtain rfl : k = 0 := by simpa using hkl
                obtain rfl : gs = [] := List.length_eq_zero_iff.1 HGL.out
                clear L1 L3 M1 M2 M3 M4 M5 M6
                -- [R13N
                refine wp_region_L (S := fun X => Below w5.heap.size w5 X) (z := 16) (by kernel_rfl) ?_
                have hS0 : Below w5.heap.size w5 w5.drew := (Below.refl _ _).drew
                refine wpAnyL.take (i := 1) (v := ?_) rfl (by kernel_rfl) (by kernel_rfl) (by kernel_rfl) (by kernel_rfl) (fun _ _ _ h => h) (Or.inl ⟨by rfl, ?_⟩) hS0 ?_
                rotate_left
                · (intro X hX; go_simp) <;> (with_reducible rfl)
                try simp only [Act.put, List.setIfInBounds_toArray]
                refine wpAnyL.take (i := 2) (v := ?_) rfl (by kernel_rfl) (by kernel_rfl) (by kernel_rfl) (by kernel_rfl) (fun _ _ _ h => h) (Or.inl ⟨by rfl, ?_⟩) hS0 ?_
                rotate_left
                · (intro X hX; have c0 := cell_later hX x1; go_simp) <;> (with_reducible rfl)
                try simp only [Act.put]
                refine wpAnyL.take (i := 3) (v := ?_) rfl (by kernel_rfl) (by kernel_rfl) (by kernel_rfl) (by kernel_rfl) (fun _ _ _ h => h) (Or.inl ⟨by rfl, ?_⟩) hS0 ?_
                rotate_left
                · (intro X hX; go_simp) <;> (with_reducible rfl)
                try simp only [Act.put]
                refine wpAnyL.take (i := 4) (v := ?_) rfl (by kernel_rfl) (by kernel_rfl) (by kernel_rfl) (by kernel_rfl) (fun _ _ _ h => h) (Or.inl ⟨by rfl, ?_⟩) hS0 ?_
                rotate_left
                · (intro X hX; go_simp) <;> (with_reducible rfl)
                try simp only [Act.put]
                refine wpAnyL.take (i := 6) (v := ?_) rfl (by kernel_rfl) (by kernel_rfl) (by kernel_rfl) (by kernel_rfl) (fun _ _ _ h => h) (Or.inl ⟨by rfl, ?_⟩) hS0 ?_
                rotate_left
                · (intro X hX; have c0 := (KE.out X hX).1; have c1 := (KE.out X hX).2.1; have c2 := (KE.out X hX).2.2.1; have c3 := (KE.out X hX).2.2.2; go_simp) <;> (with_reducible rfl)
                try simp only [Act.put]
                refine wpAnyL.take (i := 10) (v := ?_) rfl (by kernel_rfl) (by kernel_rfl) (by kernel_rfl) (by kernel_rfl) (fun _ _ _ h => h) (Or.inl ⟨by rfl, ?_⟩) hS0 ?_
                rotate_left
                · (intro X hX; go_simp) <;> (with_reducible rfl)
                try simp only [Act.put]
                refine wpAnyL.take (i := 11) (v := ?_) rfl (by kernel_rfl) (by kernel_rfl) (by kernel_rfl) (by kernel_rfl) (fun _ _ _ h => h) (Or.inl ⟨by rfl, ?_⟩) hS0 ?_
                rotate_left
                · (intro X hX; have c0 := cell_later hX x1; go_simp) <;> (with_reducible rfl)
                try simp only [Act.put]
                refine wpAnyL.take (i := 12) (v := ?_) rfl (by kernel_rfl) (by kernel_rfl) (by kernel_rfl) (by kernel_rfl) (fun _ _ _ h => h) (Or.inl ⟨by rfl, ?_⟩) hS0 ?_
                rotate_left
                · (intro X hX; go_simp) <;> (with_reducible rfl)
                try simp only [Act.put]
                refine wpAnyL.take (i := 13) (v := ?_) rfl (by kernel_rfl) (by kernel_rfl) (by kernel_rfl) (by kernel_rfl) (fun _ _ _ h => h) (Or.inl ⟨by rfl, ?_⟩) hS0 ?_
                rotate_left
                · (intro X hX; go_simp) <;> (with_reducible rfl)
                try simp only [Act.put]
                refine wpAnyL.one (i := 0) (by kernel_rfl) rfl (fun K hK => ?_)
                go_simp
                refine hK.out _ _ (.inr (belA w5 _)) ?_
                clear hK
                try simp only [Act.put]
                refine wpAnyL.one (i := 5) (by kernel_rfl) rfl (fun K hK => ?_)
                refine step_append_any (by rfl) _ _ 24 (by rfl) w5.heap.size 32 j0 (.agg #[.string ⟨#[]⟩, .int .i64 0, .int .i64 0, .slice none 0 0]) 4 56 Tryz.underlying24 hj jz0 jz1 jz2 (by rfl) (by decide) (.slice (some ⟨w5.heap.size, 0, none⟩) 0 0) 0 [] (by rfl) (emp1 w5 32 4) (none) 0 0 [] (by rfl) (by rfl) (fun _ => ⟨rfl, rfl⟩) (fun _ h => nomatch h) (by intro u hu; cases hu) (by unfold maxLen; omega) (by omega) (belA w5 _).size ?_
                intro v6 w6 hown6 hgrow6 hat6
                obtain ⟨a6, c6, hv6, -⟩ := owns_slice hown6
                subst hv6
                have BW6 := hide (Below.grown (belA w5 _) hgrow6 (belA w5 _).size (fun q hq => (World.ownsRow.lt (emp1 w5 32 4) q hq).1))
                have OW6 := hide hown6
                clear hown6 hgrow6 hat6
                refine hK.out _ _ (.inr BW6.out) ?_
                clear hK
                try simp only [Act.put]
                refine wpAnyL.one (i := 7) (by kernel_rfl) rfl (fun K hK => ?_)
                go_simp
                refine (l1Flight_any nm pl lt vs av cv w6 (HV5.out _ BW6.out) HVF.out.1 HVF.out.2).mono ?_
                rintro e wE ⟨gx, cpx, rfl, hoE, hbE⟩
                have OE := hide hoE
                have BE := hide hbE
                have BWE := hide (below_two BW6.out hbE)
                clear hoE hbE
                go_simp
                refine hK.out _ _ (.inr BWE.out) ?_
                clear hK
                try simp only [Act.put]
                refine wpAnyL.one (i := 8) (by kernel_rfl) rfl (fun K hK => ?_)
                go_simp
                have BWY := hide (below_two BWE.out (belN wE (.cells #[.string nm, .int .i64 pl, .int .i64 lt, .slice (some ⟨gx, 0, none⟩) vs.length cpx] 32)))
                refine hK.out _ _ (.inr BWY.out) ?_
                clear hK
                try simp only [Act.put]
                refine wpAnyL.one (i := 9) (by kernel_rfl) rfl (fun K hK => ?_)
                refine step_append_any (by rfl) _ _ 24 (by rfl) w5.heap.size 32 j0 (.agg #[.string ⟨#[]⟩, .int .i64 0, .int .i64 0, .slice none 0 0]) 4 56 Tryz.underlying24 hj jz0 jz1 jz2 (by rfl) (by decide) (.slice a6 (0 + 0) c6) (0 + 0) ([] ++ []) (by simp [Act.eval]) (owns_later (owns_later OW6.out BE.out) (belN wE _)) (some ⟨wE.heap.size, 0, none⟩) 1 1 [.string nm, .int .i64 pl, .int .i64 lt, .slice (some ⟨gx, 0, none⟩) vs.length cpx] (by simp [Act.eval]) (by rfl) (fun h => nomatch h) (fun ad he j u hj => by cases he; exact World.news_of_block (Deep.blk_alloc_new wE _) j u hj) (by intro u hu; simp at hu; rcases hu with rfl | rfl | rfl | rfl <;> rfl) (by unfold maxLen; omega) (by omega) BWY.out.size ?_
                intro v7 w7 hown7 hgrow7 hat7
                obtain ⟨g7, c7, hv7, hat7b⟩ := hat7 (by omega)
                subst hv7
                have BW7 := hide (Below.grown BWY.out hgrow7 BWY.out.size (fun q hq => (World.ownsRow.lt OW6.out q hq).1))
                have OW7 := hide hown7
                have GR7 := hide hgrow7
                have AT7 := hide hat7b
                clear hown7 hgrow7 hat7 hat7b
                refine hK.out _ _ (.inr BW7.out) ?_
                clear hK
                try simp only [Act.put]
                refine wpAnyL.one (i := 14) (by kernel_rfl) rfl (fun K hK => ?_)
                refine step_append_any (by rfl) _ _ 24 (by rfl) w5.heap.size 32 j0 (.agg #[.string ⟨#[]⟩, .int .i64 0, .int .i64 0, .slice none 0 0]) 4 56 Tryz.underlying24 hj jz0 jz1 jz2 (by rfl) (by decide) (.slice (some ⟨g7, 0, none⟩) (0 + 0 + 1) c7) (0 + 0 + 1) ([] ++ [] ++ [.string nm, .int .i64 pl, .int .i64 lt, .slice (some ⟨gx, 0, none⟩) vs.length cpx]) (by simp [Act.eval]) OW7.out (none) 0 0 [] (by simp [Act.eval]) (by rfl) (fun _ => ⟨rfl, rfl⟩) (fun _ h => nomatch h) (by intro u hu; cases hu) (by unfold maxLen; omega) (by omega) BW7.out.size ?_
                intro v8 w8 hown8 hgrow8 hat8
                obtain ⟨a8, c8, hv8, -⟩ := owns_slice hown8
                subst hv8
                have BW8 := hide (Below.grown BW7.out hgrow8 BW7.out.size (fun q hq => (World.ownsRow.lt OW7.out q hq).1))
                have OW8 := hide hown8
                have GR8 := hide hgrow8
                have AT8 := hide hat8
                obtain ⟨z0, z1, z2, q0, q1, q2⟩ := (K5.out.later BW8.out).cells
                clear hown8 hgrow8 hat8
                refine hK.out _ _ (.inr BW8.out) ?_
                clear hK
                try simp only [Act.put]
                refine wpAnyL.take (i := 15) (v := ?_) rfl (by kernel_rfl) (by kernel_rfl) (by kernel_rfl) (by kernel_rfl) (fun _ _ _ h => h) (Or.inl ⟨by rfl, ?_⟩) BW8.out ?_
                rotate_left
                · (intro X hX; go_simp) <;> (with_reducible rfl)
                try simp only [Act.put]
                refine wpAnyL.one (i := 16) (by kernel_rfl) rfl (fun K hK => ?_)
                go_simp
                refine hK.out _ _ (.inl rfl) ?_
                clear hK
                try simp only [Act.put]
                refine wpAnyL.done (by kernel_rfl) ?_ _
                go_wp2_with fail
                go_meet
                have AD := add13 OE.out (owns_later (owns_later OW6.out BE.out) (belN wE _)) GR7.out OW7.out GR8.out OW8.out (by have := BW6.out.size; omega)
                exact ⟨w8, a8, c8, ((nm, pl, lt, vs), some ⟨gx, 0, none⟩, cpx), rfl, rfl, by have h := OW8.out; rw [flVals_in]; exact h, AD.1, AD.2, BW8.out⟩
                -- R13N]
              · simp at hbe
                obtain ⟨rfl, rfl⟩ := hbe
                have hicb : k ≤ cb := by omega
                have P1 := hide (row_pieces (n := fs.length) HRW.out k (by rw [HGL.out]; exact hkl)).1
                have P2 := hide (row_pieces (n := fs.length) HRW.out k (by rw [HGL.out]; exact hkl)).2
                have N1 : Hid (∀ ad, some (⟨g, 0, none⟩ : Addr) = some ad → ∀ j u, (flVals (gs.take k))[j]? = some u → (w5.alloc (.cells #[] 32)).drew.cell? (ad.add j) = some u) := fun ad e j u hj => by
                  cases e
                  rw [Addr.add_lit, Nat.zero_add]
                  exact cell_later (belA w5 _) (P1.out j u hj)
                obtain ⟨A, hA, N3⟩ : ∃ A : Addr, (if cb = k then some (⟨g, 0, none⟩ : Addr) else some ⟨g, k * 4, none⟩) = some A ∧ Hid (∀ X, Below w5.heap.size w5 X → ∀ ad, some A = some ad → ∀ j u, (flVals (gs.drop k))[j]? = some u → X.cell? (ad.add j) = some u) := by
                  by_cases h : cb = k
                  · refine ⟨⟨g, 0, none⟩, by simp [h], fun X hX ad e j u hj => ?_⟩
                    have := (List.getElem?_eq_some_iff.1 hj).1
                    rw [L3.out] at this
                    omega
                  · refine ⟨⟨g, k * 4, none⟩, by simp [h], fun X hX ad e j u hj => ?_⟩
                    cases e
                    rw [Addr.add_lit]
                    exact cell_later hX (P2.out j u hj)

                -- [R13
                refine wp_region_L (S := fun X => Below w5.heap.size w5 X) (z := 16) (by kernel_rfl) ?_
                have hS0 : Below w5.heap.size w5 w5.drew := (Below.refl _ _).drew
                refine wpAnyL.take (i := 1) (v := ?_) rfl (by kernel_rfl) (by kernel_rfl) (by kernel_rfl) (by kernel_rfl) (fun _ _ _ h => h) (Or.inl ⟨by rfl, ?_⟩) hS0 ?_
                rotate_left
                · (intro X hX; go_simp) <;> (with_reducible rfl)
                try simp only [Act.put, List.setIfInBounds_toArray]
                refine wpAnyL.take (i := 2) (v := ?_) rfl (by kernel_rfl) (by kernel_rfl) (by kernel_rfl) (by kernel_rfl) (fun _ _ _ h => h) (Or.inl ⟨by rfl, ?_⟩) hS0 ?_
                rotate_left
                · (intro X hX; have c0 := cell_later hX x1; go_simp) <;> (with_reducible rfl)
                try simp only [Act.put]
                refine wpAnyL.take (i := 3) (v := ?_) rfl (by kernel_rfl) (by kernel_rfl) (by kernel_rfl) (by kernel_rfl) (fun _ _ _ h => h) (Or.inl ⟨by rfl, ?_⟩) hS0 ?_
                rotate_left
                · (intro X hX; go_simp) <;> (with_reducible rfl)
                try simp only [Act.put]
                refine wpAnyL.take (i := 4) (v := ?_) rfl (by kernel_rfl) (by kernel_rfl) (by kernel_rfl) (by kernel_rfl) (fun _ _ _ h => h) (Or.inl ⟨by rfl, ?_⟩) hS0 ?_
                rotate_left
                · (intro X hX; go_simp) <;> (with_reducible rfl)
                try simp only [Act.put]
                refine wpAnyL.take (i := 6) (v := ?_) rfl (by kernel_rfl) (by kernel_rfl) (by kernel_rfl) (by kernel_rfl) (fun _ _ _ h => h) (Or.inl ⟨by rfl, ?_⟩) hS0 ?_
                rotate_left
                · (intro X hX; have c0 := (KE.out X hX).1; have c1 := (KE.out X hX).2.1; have c2 := (KE.out X hX).2.2.1; have c3 := (KE.out X hX).2.2.2; go_simp) <;> (with_reducible rfl)
                try simp only [Act.put]
                refine wpAnyL.take (i := 10) (v := ?_) rfl (by kernel_rfl) (by kernel_rfl) (by kernel_rfl) (by kernel_rfl) (fun _ _ _ h => h) (Or.inl ⟨by rfl, ?_⟩) hS0 ?_
                rotate_left
                · (intro X hX; go_simp) <;> (with_reducible rfl)
                try simp only [Act.put]
                refine wpAnyL.take (i := 11) (v := ?_) rfl (by kernel_rfl) (by kernel_rfl) (by kernel_rfl) (by kernel_rfl) (fun _ _ _ h => h) (Or.inl ⟨by rfl, ?_⟩) hS0 ?_
                rotate_left
                · (intro X hX; have c0 := cell_later hX x1; go_simp) <;> (with_reducible rfl)
                try simp only [Act.put]
                refine wpAnyL.take (i := 12) (v := ?_) rfl (by kernel_rfl) (by kernel_rfl) (by kernel_rfl) (by kernel_rfl) (fun _ _ _ h => h) (Or.inl ⟨by rfl, ?_⟩) hS0 ?_
                rotate_left
                · (intro X hX; go_simp) <;> (with_reducible rfl)
                try simp only [Act.put]
                refine wpAnyL.take (i := 13) (v := ?_) rfl (by kernel_rfl) (by kernel_rfl) (by kernel_rfl) (by kernel_rfl) (fun _ _ _ h => h) (Or.inl ⟨by rfl, ?_⟩) hS0 ?_
                rotate_left
                · (intro X hX; go_simp) <;> (with_reducible rfl)
                try simp only [Act.put]
                refine wpAnyL.one (i := 0) (by kernel_rfl) rfl (fun K hK => ?_)
                go_simp
                refine hK.out _ _ (.inr (belA w5 _)) ?_
                clear hK
                try simp only [Act.put]
                refine wpAnyL.one (i := 5) (by kernel_rfl) rfl (fun K hK => ?_)
                refine step_append_any (by rfl) _ _ 24 (by rfl) w5.heap.size 32 j0 (.agg #[.string ⟨#[]⟩, .int .i64 0, .int .i64 0, .slice none 0 0]) 4 56 Tryz.underlying24 hj jz0 jz1 jz2 (by rfl) (by decide) (.slice (some ⟨w5.heap.size, 0, none⟩) 0 0) 0 [] (by rfl) (emp1 w5 32 4) (some ⟨g, 0, none⟩) k cb (flVals (gs.take k)) (by rfl) L1.out (fun h => nomatch h) N1.out (flVals_one _) M1.out M2.out (belA w5 _).size ?_
                intro v6 w6 hown6 hgrow6 hat6
                obtain ⟨a6, c6, hv6, -⟩ := owns_slice hown6
                subst hv6
                have BW6 := hide (Below.grown (belA w5 _) hgrow6 (belA w5 _).size (fun q hq => (World.ownsRow.lt (emp1 w5 32 4) q hq).1))
                have OW6 := hide hown6
                clear hown6 hgrow6 hat6
                refine hK.out _ _ (.inr BW6.out) ?_
                clear hK
                try simp only [Act.put]
                refine wpAnyL.one (i := 7) (by kernel_rfl) rfl (fun K hK => ?_)
                go_simp
                refine (l1Flight_any nm pl lt vs av cv w6 (HV5.out _ BW6.out) HVF.out.1 HVF.out.2).mono ?_
                rintro e wE ⟨gx, cpx, rfl, hoE, hbE⟩
                have OE := hide hoE
                have BE := hide hbE
                have BWE := hide (below_two BW6.out hbE)
                clear hoE hbE
                go_simp
                refine hK.out _ _ (.inr BWE.out) ?_
                clear hK
                try simp only [Act.put]
                refine wpAnyL.one (i := 8) (by kernel_rfl) rfl (fun K hK => ?_)
                go_simp
                have BWY := hide (below_two BWE.out (belN wE (.cells #[.string nm, .int .i64 pl, .int .i64 lt, .slice (some ⟨gx, 0, none⟩) vs.length cpx] 32)))
                refine hK.out _ _ (.inr BWY.out) ?_
                clear hK
                try simp only [Act.put]
                refine wpAnyL.one (i := 9) (by kernel_rfl) rfl (fun K hK => ?_)
                refine step_append_any (by rfl) _ _ 24 (by rfl) w5.heap.size 32 j0 (.agg #[.string ⟨#[]⟩, .int .i64 0, .int .i64 0, .slice none 0 0]) 4 56 Tryz.underlying24 hj jz0 jz1 jz2 (by rfl) (by decide) (.slice a6 (0 + k) c6) (0 + k) ([] ++ flVals (gs.take k)) (by simp [Act.eval]) (owns_later (owns_later OW6.out BE.out) (belN wE _)) (some ⟨wE.heap.size, 0, none⟩) 1 1 [.string nm, .int .i64 pl, .int .i64 lt, .slice (some ⟨gx, 0, none⟩) vs.length cpx] (by simp [Act.eval]) (by rfl) (fun h => nomatch h) (fun ad he j u hj => by cases he; exact World.news_of_block (Deep.blk_alloc_new wE _) j u hj) (by intro u hu; simp at hu; rcases hu with rfl | rfl | rfl | rfl <;> rfl) M3.out M4.out BWY.out.size ?_
                intro v7 w7 hown7 hgrow7 hat7
                obtain ⟨g7, c7, hv7, hat7b⟩ := hat7 (by omega)
                subst hv7
                have BW7 := hide (Below.grown BWY.out hgrow7 BWY.out.size (fun q hq => (World.ownsRow.lt OW6.out q hq).1))
                have OW7 := hide hown7
                have GR7 := hide hgrow7
                have AT7 := hide hat7b
                clear hown7 hgrow7 hat7 hat7b
                refine hK.out _ _ (.inr BW7.out) ?_
                clear hK
                try simp only [Act.put]
                refine wpAnyL.one (i := 14) (by kernel_rfl) rfl (fun K hK => ?_)
                refine step_append_any (by rfl) _ _ 24 (by rfl) w5.heap.size 32 j0 (.agg #[.string ⟨#[]⟩, .int .i64 0, .int .i64 0, .slice none 0 0]) 4 56 Tryz.underlying24 hj jz0 jz1 jz2 (by rfl) (by decide) (.slice (some ⟨g7, 0, none⟩) (0 + k + 1) c7) (0 + k + 1) ([] ++ flVals (gs.take k) ++ [.string nm, .int .i64 pl, .int .i64 lt, .slice (some ⟨gx, 0, none⟩) vs.length cpx]) (by simp [Act.eval]) OW7.out (some A) (fs.length - k) (cb - k) (flVals (gs.drop k)) (by simp [Act.eval]) L3.out (fun h => nomatch h) (N3.out _ BW7.out) (flVals_one _) M5.out M6.out BW7.out.size ?_
                intro v8 w8 hown8 hgrow8 hat8
                obtain ⟨a8, c8, hv8, -⟩ := owns_slice hown8
                subst hv8
                have BW8 := hide (Below.grown BW7.out hgrow8 BW7.out.size (fun q hq => (World.ownsRow.lt OW7.out q hq).1))
                have OW8 := hide hown8
                have GR8 := hide hgrow8
                have AT8 := hide hat8
                obtain ⟨z0, z1, z2, q0, q1, q2⟩ := (K5.out.later BW8.out).cells
                clear hown8 hgrow8 hat8
                refine hK.out _ _ (.inr BW8.out) ?_
                clear hK
                try simp only [Act.put]
                refine wpAnyL.take (i := 15) (v := ?_) rfl (by kernel_rfl) (by kernel_rfl) (by kernel_rfl) (by kernel_rfl) (fun _ _ _ h => h) (Or.inl ⟨by rfl, ?_⟩) BW8.out ?_
                rotate_left
                · (intro X hX; go_simp) <;> (with_reducible rfl)
                try simp only [Act.put]
                refine wpAnyL.one (i := 16) (by kernel_rfl) rfl (fun K hK => ?_)
                go_simp
                refine hK.out _ _ (.inl rfl) ?_
                clear hK
                try simp only [Act.put]
                refine wpAnyL.done (by kernel_rfl) ?_ _
                go_wp2_with fail
                go_meet
                have AD := add13 OE.out (owns_later (owns_later OW6.out BE.out) (belN wE _)) GR7.out OW7.out GR8.out OW8.out (by have := BW6.out.size; omega)
                exact ⟨w8, a8, c8, ((nm, pl, lt, vs), some ⟨gx, 0, none⟩, cpx), by rw [show k + 1 + (fs.length - k) = fs.length + 1 by omega], rfl, by have h := OW8.out; rw [show 0 + k + 1 + (fs.length - k) = fs.length + 1 by omega, List.nil_append] at h; rw [flVals_in]; exact h, AD.1, AD.2, BW8.out⟩
                -- R13]
            case rest =>
              obtain ⟨w8, a8, c8, x, hwc, HX, OW8, OV8, HXA, BW8⟩ := hcut
              generalize wc = w9 at *
              have K9 : Hid (BkAt w9 w2.heap.size (.slice bc cs.length cc) (.slice a8 (fs.length + 1) c8) (.slice b' ss.length cb')) := by rw [hwc]; exact (K5.out.later BW8.out).set1 _
              have TX9 : Hid (TouchS (fun q => q = w2.heap.size) w8 w9) := by rw [hwc]; exact touch1_set (touchS_refl _ w8) 1 _
              have T9 : Hid (TouchS (fun q => q = w2.heap.size) w2 w9) := touchS_trans (touchS_trans (touchS_mono T5.out fun _ h => h.elim) (touchS_below BW8.out)) TX9.out
              have R9 := hide (BkAt.touchS (S := fun q => q = w2.heap.size) (R5.out.later BW8.out) TX9.out (by omega))
              have B9 := hide ((below_two B5.out BW8.out).trans (below_ofS (S := fun q => q = w2.heap.size) TX9.out (by have := BW8.out.size; have := B5.out.size; omega) (fun q hq => by omega)))
              have hs9 : w5.heap.size ≤ w9.heap.size := by have := BW8.out.size; have := TX9.out.size; omega
              have OF9 : Hid (World.ownsRow w9 w5.heap.size 32 4 (.slice a8 (fs.length + 1) c8) (fs.length + 1) (flVals (putAt gs k x))) := owns_keep OW8.out fun q hq => TX9.out.block q (World.ownsRow.lt OW8.out q hq).2 (fun hh => by have h9 := (World.ownsRow.lt OW8.out q hq).1; have hh' : q = w2.heap.size := hh; omega)
              have OV9 : Hid (OwnV w9 w5.heap.size (visV x) x.1.2.2.2) := owns_keep OV8.out fun q hq => TX9.out.block q (World.ownsRow.lt OV8.out q hq).2 (fun hh => by have h9 := (World.ownsRow.lt OV8.out q hq).1; have hh' : q = w2.heap.size := hh; omega)
              have OI9 : Hid (World.ownsRow w9 w1.heap.size 3 1 (.slice b' ss.length cb') ss.length (intVals ss)) := owns_keep C2.out.own fun q hq => T9.out.block q (World.ownsRow.lt C2.out.own q hq).2 (fun hh => by have h9 := (World.ownsRow.lt C2.out.own q hq).2; have hh' : q = w2.heap.size := hh; omega)
              have XB : Hid (∀ Z, TouchS (fun q => q = w2.heap.size ∨ w9.heap.size ≤ q) w9 Z → CapsIn Z bc cs ∧ FlightsIn Z a8 (putAt fs k (nm, pl, lt, vs))) := fun Z hZ => by
                have tt : TouchS (fun k => k < w1.heap.size ∨ InN ss.length b' k) w2 Z := ⟨hZ.os.trans T9.out.os, hZ.tape.trans T9.out.tape, hZ.output.trans T9.out.output, Nat.le_trans T9.out.size hZ.size, fun q hq _ => (hZ.block q (by have := T9.out.size; omega) (fun hh => by rcases hh with hh | hh <;> omega)).trans (T9.out.block q hq (by omega))⟩
                have hF := KP.out Z tt
                have hr : World.ownsRow Z w5.heap.size 32 4 (.slice a8 (putAt gs k x).length c8) (putAt gs k x).length (flVals (putAt gs k x)) := by
                  rw [putAt_len, HGL.out]
                  exact owns_keep OF9.out fun q hq => hZ.block q (World.ownsRow.lt OF9.out q hq).2 (fun hh => by have h9 := World.ownsRow.lt OF9.out q hq; rcases hh with hh | hh <;> omega)
                have hx : OwnV Z w5.heap.size (visV x) x.1.2.2.2 := owns_keep OV9.out fun q hq => hZ.block q (World.ownsRow.lt OV9.out q hq).2 (fun hh => by have h9 := World.ownsRow.lt OV9.out q hq; rcases hh with hh | hh <;> omega)
                refine ⟨(C2.out.rest Z tt).1, ?_⟩
                have hm := fls_plain hr (fun y hy => by
                  rcases putAt_mem.1 hy with rfl | hy
                  · exact visits_full hx
                  · exact (hF.2 y hy).1)
                rwa [putAt_map, GS.out, HX.out] at hm
              have hkl' : k ≤ ss.length := by have := HLS.out; omega
              have hls8 : ss.length < 8 := by have := HLS.out; have := H8.out; omega
              have l1 : Hid ((intVals (ss.take k)).length = k * 1) := by show _ = _; rw [intVals_len, List.length_take, Nat.min_eq_left hkl']
              have l3 : Hid ((intVals (ss.drop k)).length = (ss.length - k) * 1) := by show _ = _; rw [intVals_len, List.length_drop]
              have m1 : Hid (0 + k ≤ maxLen) := by show _ ≤ _; unfold maxLen; omega
              have m2 : Hid ((0 + k) * 8 ≤ 140737488355328) := by show _ ≤ _; omega
              have m3 : Hid (0 + k + 1 ≤ maxLen) := by show _ ≤ _; unfold maxLen; omega
              have m4 : Hid ((0 + k + 1) * 8 ≤ 140737488355328) := by show _ ≤ _; omega
              have m5 : Hid (0 + k + 1 + (ss.length - k) ≤ maxLen) := by show _ ≤ _; unfold maxLen; omega
              have m6 : Hid ((0 + k + 1 + (ss.length - k)) * 8 ≤ 140737488355328) := by show _ ≤ _; omega
              obtain ⟨i0, hi, iz0, iz1, iz2⟩ := info_parts info_int
              have x2 := K9.out.cells.2.2.1
              clear hwc OW8 OV8 BW8 TX9 L1 L3 M1 M2 M3 M4 M5 M6 x1 x1a x1b mk0 mk1 HV5 KE KS HOF HRW X1 FX FK2
              go_upto_region 14 with fail
              go_cut [] from 64 (fun wd => ∃ (w12 : World) (a12 : Option Addr) (c12 : Nat), wd = w12.setCell ⟨w2.heap.size, 2, none⟩ (.slice a12 (ss.length + 1) c12) ∧ Hid (World.ownsRow w12 w9.heap.size 3 1 (.slice a12 (ss.length + 1) c12) (ss.length + 1) (intVals (putAt ss k (-1)))) ∧ Hid (Below w9.heap.size w9 w12))
              case first =>
                rcases OI9.out.2 with ⟨h0, h0n⟩ | ⟨gi, cap0, cur, hbe, -, -, hnc, -⟩
                · simp at h0
                  obtain ⟨rfl, -, rfl⟩ := h0
                  obtain rfl : ss = [] := List.length_eq_zero_iff.1 h0n
                  obtain rfl : k = 0 := by simpa using hkl'
                  clear l1 l3 m1 m2 m3 m4 m5 m6
                  -- [R14N
                  refine wp_region_L (S := fun X => Below w9.heap.size w9 X) (z := 14) (by kernel_rfl) ?_
                  have hS0 : Below w9.heap.size w9 w9.drew := (Below.refl _ _).drew
                  refine wpAnyL.take (i := 1) (v := ?_) rfl (by kernel_rfl) (by kernel_rfl) (by kernel_rfl) (by kernel_rfl) (fun _ _ _ h => h) (Or.inl ⟨by rfl, ?_⟩) hS0 ?_
                  rotate_left
                  · (intro X hX; go_simp) <;> (with_reducible rfl)
                  try simp only [Act.put, List.setIfInBounds_toArray]
                  refine wpAnyL.take (i := 2) (v := ?_) rfl (by kernel_rfl) (by kernel_rfl) (by kernel_rfl) (by kernel_rfl) (fun _ _ _ h => h) (Or.inl ⟨by rfl, ?_⟩) hS0 ?_
                  rotate_left
                  · (intro X hX; have c0 := cell_later hX x2; go_simp) <;> (with_reducible rfl)
                  try simp only [Act.put]
                  refine wpAnyL.take (i := 3) (v := ?_) rfl (by kernel_rfl) (by kernel_rfl) (by kernel_rfl) (by kernel_rfl) (fun _ _ _ h => h) (Or.inl ⟨by rfl, ?_⟩) hS0 ?_
                  rotate_left
                  · (intro X hX; go_simp) <;> (with_reducible rfl)
                  try simp only [Act.put]
                  refine wpAnyL.take (i := 4) (v := ?_) rfl (by kernel_rfl) (by kernel_rfl) (by kernel_rfl) (by kernel_rfl) (fun _ _ _ h => h) (Or.inl ⟨by rfl, ?_⟩) hS0 ?_
                  rotate_left
                  · (intro X hX; go_simp) <;> (with_reducible rfl)
                  try simp only [Act.put]
                  refine wpAnyL.take (i := 8) (v := ?_) rfl (by kernel_rfl) (by kernel_rfl) (by kernel_rfl) (by kernel_rfl) (fun _ _ _ h => h) (Or.inl ⟨by rfl, ?_⟩) hS0 ?_
                  rotate_left
                  · (intro X hX; go_simp) <;> (with_reducible rfl)
                  try simp only [Act.put]
                  refine wpAnyL.take (i := 9) (v := ?_) rfl (by kernel_rfl) (by kernel_rfl) (by kernel_rfl) (by kernel_rfl) (fun _ _ _ h => h) (Or.inl ⟨by rfl, ?_⟩) hS0 ?_
                  rotate_left
                  · (intro X hX; have c0 := cell_later hX x2; go_simp) <;> (with_reducible rfl)
                  try simp only [Act.put]
                  refine wpAnyL.take (i := 10) (v := ?_) rfl (by kernel_rfl) (by kernel_rfl) (by kernel_rfl) (by kernel_rfl) (fun _ _ _ h => h) (Or.inl ⟨by rfl, ?_⟩) hS0 ?_
                  rotate_left
                  · (intro X hX; go_simp) <;> (with_reducible rfl)
                  try simp only [Act.put]
                  refine wpAnyL.take (i := 11) (v := ?_) rfl (by kernel_rfl) (by kernel_rfl) (by kernel_rfl) (by kernel_rfl) (fun _ _ _ h => h) (Or.inl ⟨by rfl, ?_⟩) hS0 ?_
                  rotate_left
                  · (intro X hX; go_simp) <;> (with_reducible rfl)
                  try simp only [Act.put]
                  refine wpAnyL.two (i := 0) (j := 6) (by kernel_rfl) rfl rfl (fun K hK => ?_) (fun K hK => ?_)
                  · go_simp
                    refine hK.out _ _ (.inr (belA w9 _)) ?_
                    clear hK
                    try simp only [Act.put]
                    refine wpAnyL.two (i := 5) (j := 6) (by kernel_rfl) rfl rfl (fun K hK => ?_) (fun K hK => ?_)
                    · refine step_append_any (by rfl) _ _ 27 (by rfl) w9.heap.size 3 i0 (.int .i64 0) 1 8 Tryz.underlying27 hi iz0 iz1 iz2 (by rfl) (by decide) (.slice (some ⟨w9.heap.size, 0, none⟩) 0 0) 0 [] (by rfl) (emp1 w9 3 1) (none) 0 0 [] (by rfl) (by rfl) (fun _ => ⟨rfl, rfl⟩) (fun _ h => nomatch h) (by intro u hu; cases hu) (by unfold maxLen; omega) (by omega) (belA w9 _).size ?_
                      intro v10 w10 hown10 hgrow10 hat10
                      obtain ⟨a10, c10, hv10, -⟩ := owns_slice hown10
                      subst hv10
                      have BW10 := hide (Below.grown (belA w9 _) hgrow10 (belA w9 _).size (fun q hq => (World.ownsRow.lt (emp1 w9 3 1) q hq).1))
                      have OW10 := hide hown10
                      clear hown10 hgrow10 hat10
                      refine hK.out _ _ (.inr BW10.out) ?_
                      clear hK
                      try simp only [Act.put]
                      refine wpAnyL.one (i := 6) (by kernel_rfl) rfl (fun K hK => ?_)
                      go_simp
                      have BW10b := hide (below_two BW10.out (belN w10 (.cells #[.int .i64 (-1)] 3)))
                      refine hK.out _ _ (.inr BW10b.out) ?_
                      clear hK
                      try simp only [Act.put]
                      refine wpAnyL.one (i := 7) (by kernel_rfl) rfl (fun K hK => ?_)
                      refine step_append_any (by rfl) _ _ 27 (by rfl) w9.heap.size 3 i0 (.int .i64 0) 1 8 Tryz.underlying27 hi iz0 iz1 iz2 (by rfl) (by decide) (.slice a10 (0 + 0) c10) (0 + 0) ([] ++ []) (by simp [Act.eval]) (owns_later OW10.out (belN w10 _)) (some ⟨w10.heap.size, 0, none⟩) 1 1 [.int .i64 (-1)] (by simp [Act.eval]) (by rfl) (fun h => nomatch h) (fun ad he j u hj => by cases he; exact World.news_of_block (Deep.blk_alloc_new w10 _) j u hj) (by intro u hu; simp at hu; subst hu; rfl) (by unfold maxLen; omega) (by omega) (BW10b.out).size ?_
                      intro v11 w11 hown11 hgrow11 hat11
                      obtain ⟨a11, c11, hv11, -⟩ := owns_slice hown11
                      subst hv11
                      have BW11 := hide (Below.grown (BW10b.out) hgrow11 (BW10b.out).size (fun q hq => (World.ownsRow.lt OW10.out q hq).1))
                      have OW11 := hide hown11
                      clear hown11 hgrow11 hat11
                      refine hK.out _ _ (.inr BW11.out) ?_
                      clear hK
                      try simp only [Act.put]
                      refine wpAnyL.one (i := 12) (by kernel_rfl) rfl (fun K hK => ?_)
                      refine step_append_any (by rfl) _ _ 27 (by rfl) w9.heap.size 3 i0 (.int .i64 0) 1 8 Tryz.underlying27 hi iz0 iz1 iz2 (by rfl) (by decide) (.slice a11 (0 + 0 + 1) c11) (0 + 0 + 1) ([] ++ [] ++ [.int .i64 (-1)]) (by simp [Act.eval]) OW11.out (none) 0 0 [] (by simp [Act.eval]) (by rfl) (fun _ => ⟨rfl, rfl⟩) (fun _ h => nomatch h) (by intro u hu; cases hu) (by unfold maxLen; omega) (by omega) BW11.out.size ?_
                      intro v12 w12 hown12 hgrow12 hat12
                      obtain ⟨a12, c12, hv12, -⟩ := owns_slice hown12
                      subst hv12
                      have BW12 := hide (Below.grown BW11.out hgrow12 BW11.out.size (fun q hq => (World.ownsRow.lt OW11.out q hq).1))
                      have OW12 := hide hown12
                      obtain ⟨z0, z1, z2, q0, q1, q2⟩ := (K9.out.later BW12.out).cells
                      clear hown12 hgrow12 hat12
                      refine hK.out _ _ (.inr BW12.out) ?_
                      clear hK
                      try simp only [Act.put]
                      refine wpAnyL.take (i := 13) (v := ?_) rfl (by kernel_rfl) (by kernel_rfl) (by kernel_rfl) (by kernel_rfl) (fun _ _ _ h => h) (Or.inl ⟨by rfl, ?_⟩) BW12.out ?_
                      rotate_left
                      · (intro X hX; go_simp) <;> (with_reducible rfl)
                      try simp only [Act.put]
                      refine wpAnyL.one (i := 14) (by kernel_rfl) rfl (fun K hK => ?_)
                      go_simp
                      refine hK.out _ _ (.inl rfl) ?_
                      clear hK
                      try simp only [Act.put]
                      refine wpAnyL.done (by kernel_rfl) ?_ _
                      go_wp2_with fail
                      go_meet
                      exact ⟨w12, a12, c12, rfl, by have h := OW12.out; rw [intVals_in]; exact h, BW12.out⟩
                    · go_simp
                      refine hK.out _ _ (.inr (belB w9 (.cells #[] 3) (.cells #[.int .i64 (-1)] 3))) ?_
                      clear hK
                      try simp only [Act.put]
                      refine wpAnyL.one (i := 5) (by kernel_rfl) rfl (fun K hK => ?_)
                      refine step_append_any (by rfl) _ _ 27 (by rfl) w9.heap.size 3 i0 (.int .i64 0) 1 8 Tryz.underlying27 hi iz0 iz1 iz2 (by rfl) (by decide) (.slice (some ⟨w9.heap.size, 0, none⟩) 0 0) 0 [] (by rfl) (emp2 w9 3 1 (.cells #[.int .i64 (-1)] 3)) (none) 0 0 [] (by rfl) (by rfl) (fun _ => ⟨rfl, rfl⟩) (fun _ h => nomatch h) (by intro u hu; cases hu) (by unfold maxLen; omega) (by omega) (belB w9 (.cells #[] 3) (.cells #[.int .i64 (-1)] 3)).size ?_
                      intro v10 w10 hown10 hgrow10 hat10
                      obtain ⟨a10, c10, hv10, -⟩ := owns_slice hown10
                      subst hv10
                      have BW10 := hide (Below.grown (belB w9 (.cells #[] 3) (.cells #[.int .i64 (-1)] 3)) hgrow10 (belB w9 (.cells #[] 3) (.cells #[.int .i64 (-1)] 3)).size (fun q hq => (World.ownsRow.lt (emp2 w9 3 1 (.cells #[.int .i64 (-1)] 3)) q hq).1))
                      have OW10 := hide hown10
                      have HB7 : Hid (w10.heap[w9.heap.size + 1]? = some (.cells #[.int .i64 (-1)] 3 (0, 0))) := (hgrow10.block (w9.heap.size + 1) (by rw [sizeB]; omega) (by intro h; simp [Value.ownBlock] at h)).trans (heapB w9 _ _)
                      clear hown10 hgrow10 hat10
                      refine hK.out _ _ (.inr BW10.out) ?_
                      clear hK
                      try simp only [Act.put]
                      refine wpAnyL.one (i := 7) (by kernel_rfl) rfl (fun K hK => ?_)
                      refine step_append_any (by rfl) _ _ 27 (by rfl) w9.heap.size 3 i0 (.int .i64 0) 1 8 Tryz.underlying27 hi iz0 iz1 iz2 (by rfl) (by decide) (.slice a10 (0 + 0) c10) (0 + 0) ([] ++ []) (by simp [Act.eval]) (OW10.out) (some ⟨w9.heap.size + 1, 0, none⟩) 1 1 [.int .i64 (-1)] (by simp [Act.eval]) (by rfl) (fun h => nomatch h) (fun ad he j u hj => by cases he; exact World.news_of_block (HB7.out) j u hj) (by intro u hu; simp at hu; subst hu; rfl) (by unfold maxLen; omega) (by omega) (BW10.out).size ?_
                      intro v11 w11 hown11 hgrow11 hat11
                      obtain ⟨a11, c11, hv11, -⟩ := owns_slice hown11
                      subst hv11
                      have BW11 := hide (Below.grown (BW10.out) hgrow11 (BW10.out).size (fun q hq => (World.ownsRow.lt OW10.out q hq).1))
                      have OW11 := hide hown11
                      clear hown11 hgrow11 hat11
                      refine hK.out _ _ (.inr BW11.out) ?_
                      clear hK
                      try simp only [Act.put]
                      refine wpAnyL.one (i := 12) (by kernel_rfl) rfl (fun K hK => ?_)
                      refine step_append_any (by rfl) _ _ 27 (by rfl) w9.heap.size 3 i0 (.int .i64 0) 1 8 Tryz.underlying27 hi iz0 iz1 iz2 (by rfl) (by decide) (.slice a11 (0 + 0 + 1) c11) (0 + 0 + 1) ([] ++ [] ++ [.int .i64 (-1)]) (by simp [Act.eval]) OW11.out (none) 0 0 [] (by simp [Act.eval]) (by rfl) (fun _ => ⟨rfl, rfl⟩) (fun _ h => nomatch h) (by intro u hu; cases hu) (by unfold maxLen; omega) (by omega) BW11.out.size ?_
                      intro v12 w12 hown12 hgrow12 hat12
                      obtain ⟨a12, c12, hv12, -⟩ := owns_slice hown12
                      subst hv12
                      have BW12 := hide (Below.grown BW11.out hgrow12 BW11.out.size (fun q hq => (World.ownsRow.lt OW11.out q hq).1))
                      have OW12 := hide hown12
                      obtain ⟨z0, z1, z2, q0, q1, q2⟩ := (K9.out.later BW12.out).cells
                      clear hown12 hgrow12 hat12
                      refine hK.out _ _ (.inr BW12.out) ?_
                      clear hK
                      try simp only [Act.put]
                      refine wpAnyL.take (i := 13) (v := ?_) rfl (by kernel_rfl) (by kernel_rfl) (by kernel_rfl) (by kernel_rfl) (fun _ _ _ h => h) (Or.inl ⟨by rfl, ?_⟩) BW12.out ?_
                      rotate_left
                      · (intro X hX; go_simp) <;> (with_reducible rfl)
                      try simp only [Act.put]
                      refine wpAnyL.one (i := 14) (by kernel_rfl) rfl (fun K hK => ?_)
                      go_simp
                      refine hK.out _ _ (.inl rfl) ?_
                      clear hK
                      try simp only [Act.put]
                      refine wpAnyL.done (by kernel_rfl) ?_ _
                      go_wp2_with fail
                      go_meet
                      exact ⟨w12, a12, c12, rfl, by have h := OW12.out; rw [intVals_in]; exact h, BW12.out⟩
                  · go_simp
                    refine hK.out _ _ (.inr (belA w9 _)) ?_
                    clear hK
                    try simp only [Act.put]
                    refine wpAnyL.one (i := 0) (by kernel_rfl) rfl (fun K hK => ?_)
                    go_simp
                    refine hK.out _ _ (.inr (belB w9 (.cells #[.int .i64 (-1)] 3) (.cells #[] 3))) ?_
                    clear hK
                    try simp only [Act.put]
                    refine wpAnyL.one (i := 5) (by kernel_rfl) rfl (fun K hK => ?_)
                    refine step_append_any (by rfl) _ _ 27 (by rfl) w9.heap.size 3 i0 (.int .i64 0) 1 8 Tryz.underlying27 hi iz0 iz1 iz2 (by rfl) (by decide) (.slice (some ⟨w9.heap.size + 1, 0, none⟩) 0 0) 0 [] (by rfl) (emp3 w9 3 1 (.cells #[.int .i64 (-1)] 3)) (none) 0 0 [] (by rfl) (by rfl) (fun _ => ⟨rfl, rfl⟩) (fun _ h => nomatch h) (by intro u hu; cases hu) (by unfold maxLen; omega) (by omega) (belB w9 (.cells #[.int .i64 (-1)] 3) (.cells #[] 3)).size ?_
                    intro v10 w10 hown10 hgrow10 hat10
                    obtain ⟨a10, c10, hv10, -⟩ := owns_slice hown10
                    subst hv10
                    have BW10 := hide (Below.grown (belB w9 (.cells #[.int .i64 (-1)] 3) (.cells #[] 3)) hgrow10 (belB w9 (.cells #[.int .i64 (-1)] 3) (.cells #[] 3)).size (fun q hq => (World.ownsRow.lt (emp3 w9 3 1 (.cells #[.int .i64 (-1)] 3)) q hq).1))
                    have OW10 := hide hown10
                    have HB7 : Hid (w10.heap[w9.heap.size]? = some (.cells #[.int .i64 (-1)] 3 (0, 0))) := (hgrow10.block w9.heap.size (by rw [sizeB]; omega) (by intro h; simp [Value.ownBlock] at h)).trans (heapC w9 _ _)
                    clear hown10 hgrow10 hat10
                    refine hK.out _ _ (.inr BW10.out) ?_
                    clear hK
                    try simp only [Act.put]
                    refine wpAnyL.one (i := 7) (by kernel_rfl) rfl (fun K hK => ?_)
                    refine step_append_any (by rfl) _ _ 27 (by rfl) w9.heap.size 3 i0 (.int .i64 0) 1 8 Tryz.underlying27 hi iz0 iz1 iz2 (by rfl) (by decide) (.slice a10 (0 + 0) c10) (0 + 0) ([] ++ []) (by simp [Act.eval]) (OW10.out) (some ⟨w9.heap.size, 0, none⟩) 1 1 [.int .i64 (-1)] (by simp [Act.eval]) (by rfl) (fun h => nomatch h) (fun ad he j u hj => by cases he; exact World.news_of_block (HB7.out) j u hj) (by intro u hu; simp at hu; subst hu; rfl) (by unfold maxLen; omega) (by omega) (BW10.out).size ?_
                    intro v11 w11 hown11 hgrow11 hat11
                    obtain ⟨a11, c11, hv11, -⟩ := owns_slice hown11
                    subst hv11
                    have BW11 := hide (Below.grown (BW10.out) hgrow11 (BW10.out).size (fun q hq => (World.ownsRow.lt OW10.out q hq).1))
                    have OW11 := hide hown11
                    clear hown11 hgrow11 hat11
                    refine hK.out _ _ (.inr BW11.out) ?_
                    clear hK
                    try simp only [Act.put]
                    refine wpAnyL.one (i := 12) (by kernel_rfl) rfl (fun K hK => ?_)
                    refine step_append_any (by rfl) _ _ 27 (by rfl) w9.heap.size 3 i0 (.int .i64 0) 1 8 Tryz.underlying27 hi iz0 iz1 iz2 (by rfl) (by decide) (.slice a11 (0 + 0 + 1) c11) (0 + 0 + 1) ([] ++ [] ++ [.int .i64 (-1)]) (by simp [Act.eval]) OW11.out (none) 0 0 [] (by simp [Act.eval]) (by rfl) (fun _ => ⟨rfl, rfl⟩) (fun _ h => nomatch h) (by intro u hu; cases hu) (by unfold maxLen; omega) (by omega) BW11.out.size ?_
                    intro v12 w12 hown12 hgrow12 hat12
                    obtain ⟨a12, c12, hv12, -⟩ := owns_slice hown12
                    subst hv12
                    have BW12 := hide (Below.grown BW11.out hgrow12 BW11.out.size (fun q hq => (World.ownsRow.lt OW11.out q hq).1))
                    have OW12 := hide hown12
                    obtain ⟨z0, z1, z2, q0, q1, q2⟩ := (K9.out.later BW12.out).cells
                    clear hown12 hgrow12 hat12
                    refine hK.out _ _ (.inr BW12.out) ?_
                    clear hK
                    try simp only [Act.put]
                    refine wpAnyL.take (i := 13) (v := ?_) rfl (by kernel_rfl) (by kernel_rfl) (by kernel_rfl) (by kernel_rfl) (fun _ _ _ h => h) (Or.inl ⟨by rfl, ?_⟩) BW12.out ?_
                    rotate_left
                    · (intro X hX; go_simp) <;> (with_reducible rfl)
                    try simp only [Act.put]
                    refine wpAnyL.one (i := 14) (by kernel_rfl) rfl (fun K hK => ?_)
                    go_simp
                    refine hK.out _ _ (.inl rfl) ?_
                    clear hK
                    try simp only [Act.put]
                    refine wpAnyL.done (by kernel_rfl) ?_ _
                    go_wp2_with fail
                    go_meet
                    exact ⟨w12, a12, c12, rfl, by have h := OW12.out; rw [intVals_in]; exact h, BW12.out⟩
                  -- R14N]
                · simp at hbe
                  obtain ⟨rfl, rfl⟩ := hbe
                  have hicb : k ≤ cb' := by omega
                  have Q1 := hide (row_piecesI OI9.out k hkl').1
                  have Q2 := hide (row_piecesI OI9.out k hkl').2
                  have N1 : Hid (∀ X, Below w9.heap.size w9 X → ∀ ad, some (⟨gi, 0, none⟩ : Addr) = some ad → ∀ j u, (intVals (ss.take k))[j]? = some u → X.cell? (ad.add j) = some u) := fun X hX ad e j u hj => by
                    cases e
                    rw [Addr.add_lit, Nat.zero_add]
                    exact cell_later hX (Q1.out j u hj)
                  obtain ⟨A2, hA2, n3⟩ : ∃ A : Addr, (if cb' = k then some (⟨gi, 0, none⟩ : Addr) else some ⟨gi, k, none⟩) = some A ∧ Hid (∀ X, Below w9.heap.size w9 X → ∀ ad, some A = some ad → ∀ j u, (intVals (ss.drop k))[j]? = some u → X.cell? (ad.add j) = some u) := by
                    by_cases h : cb' = k
                    · refine ⟨⟨gi, 0, none⟩, by simp [h], fun X hX ad e j u hj => ?_⟩
                      have := (List.getElem?_eq_some_iff.1 hj).1
                      rw [l3.out] at this
                      omega
                    · refine ⟨⟨gi, k, none⟩, by simp [h], fun X hX ad e j u hj => ?_⟩
                      cases e
                      rw [Addr.add_lit]
                      exact cell_later hX (Q2.out j u hj)
                  -- [R14
                  refine wp_region_L (S := fun X => Below w9.heap.size w9 X) (z := 14) (by kernel_rfl) ?_
                  have hS0 : Below w9.heap.size w9 w9.drew := (Below.refl _ _).drew
                  refine wpAnyL.take (i := 1) (v := ?_) rfl (by kernel_rfl) (by kernel_rfl) (by kernel_rfl) (by kernel_rfl) (fun _ _ _ h => h) (Or.inl ⟨by rfl, ?_⟩) hS0 ?_
                  rotate_left
                  · (intro X hX; go_simp) <;> (with_reducible rfl)
                  try simp only [Act.put, List.setIfInBounds_toArray]
                  refine wpAnyL.take (i := 2) (v := ?_) rfl (by kernel_rfl) (by kernel_rfl) (by kernel_rfl) (by kernel_rfl) (fun _ _ _ h => h) (Or.inl ⟨by rfl, ?_⟩) hS0 ?_
                  rotate_left
                  · (intro X hX; have c0 := cell_later hX x2; go_simp) <;> (with_reducible rfl)
                  try simp only [Act.put]
                  refine wpAnyL.take (i := 3) (v := ?_) rfl (by kernel_rfl) (by kernel_rfl) (by kernel_rfl) (by kernel_rfl) (fun _ _ _ h => h) (Or.inl ⟨by rfl, ?_⟩) hS0 ?_
                  rotate_left
                  · (intro X hX; go_simp) <;> (with_reducible rfl)
                  try simp only [Act.put]
                  refine wpAnyL.take (i := 4) (v := ?_) rfl (by kernel_rfl) (by kernel_rfl) (by kernel_rfl) (by kernel_rfl) (fun _ _ _ h => h) (Or.inl ⟨by rfl, ?_⟩) hS0 ?_
                  rotate_left
                  · (intro X hX; go_simp) <;> (with_reducible rfl)
                  try simp only [Act.put]
                  refine wpAnyL.take (i := 8) (v := ?_) rfl (by kernel_rfl) (by kernel_rfl) (by kernel_rfl) (by kernel_rfl) (fun _ _ _ h => h) (Or.inl ⟨by rfl, ?_⟩) hS0 ?_
                  rotate_left
                  · (intro X hX; go_simp) <;> (with_reducible rfl)
                  try simp only [Act.put]
                  refine wpAnyL.take (i := 9) (v := ?_) rfl (by kernel_rfl) (by kernel_rfl) (by kernel_rfl) (by kernel_rfl) (fun _ _ _ h => h) (Or.inl ⟨by rfl, ?_⟩) hS0 ?_
                  rotate_left
                  · (intro X hX; have c0 := cell_later hX x2; go_simp) <;> (with_reducible rfl)
                  try simp only [Act.put]
                  refine wpAnyL.take (i := 10) (v := ?_) rfl (by kernel_rfl) (by kernel_rfl) (by kernel_rfl) (by kernel_rfl) (fun _ _ _ h => h) (Or.inl ⟨by rfl, ?_⟩) hS0 ?_
                  rotate_left
                  · (intro X hX; go_simp) <;> (with_reducible rfl)
                  try simp only [Act.put]
                  refine wpAnyL.take (i := 11) (v := ?_) rfl (by kernel_rfl) (by kernel_rfl) (by kernel_rfl) (by kernel_rfl) (fun _ _ _ h => h) (Or.inl ⟨by rfl, ?_⟩) hS0 ?_
                  rotate_left
                  · (intro X hX; go_simp) <;> (with_reducible rfl)
                  try simp only [Act.put]
                  refine wpAnyL.two (i := 0) (j := 6) (by kernel_rfl) rfl rfl (fun K hK => ?_) (fun K hK => ?_)
                  · go_simp
                    refine hK.out _ _ (.inr (belA w9 _)) ?_
                    clear hK
                    try simp only [Act.put]
                    refine wpAnyL.two (i := 5) (j := 6) (by kernel_rfl) rfl rfl (fun K hK => ?_) (fun K hK => ?_)
                    · refine step_append_any (by rfl) _ _ 27 (by rfl) w9.heap.size 3 i0 (.int .i64 0) 1 8 Tryz.underlying27 hi iz0 iz1 iz2 (by rfl) (by decide) (.slice (some ⟨w9.heap.size, 0, none⟩) 0 0) 0 [] (by rfl) (emp1 w9 3 1) (some ⟨gi, 0, none⟩) k cb' (intVals (ss.take k)) (by rfl) l1.out (fun h => nomatch h) (N1.out _ (belA w9 _)) (intVals_one _) m1.out m2.out (belA w9 _).size ?_
                      intro v10 w10 hown10 hgrow10 hat10
                      obtain ⟨a10, c10, hv10, -⟩ := owns_slice hown10
                      subst hv10
                      have BW10 := hide (Below.grown (belA w9 _) hgrow10 (belA w9 _).size (fun q hq => (World.ownsRow.lt (emp1 w9 3 1) q hq).1))
                      have OW10 := hide hown10
                      clear hown10 hgrow10 hat10
                      refine hK.out _ _ (.inr BW10.out) ?_
                      clear hK
                      try simp only [Act.put]
                      refine wpAnyL.one (i := 6) (by kernel_rfl) rfl (fun K hK => ?_)
                      go_simp
                      have BW10b := hide (below_two BW10.out (belN w10 (.cells #[.int .i64 (-1)] 3)))
                      refine hK.out _ _ (.inr BW10b.out) ?_
                      clear hK
                      try simp only [Act.put]
                      refine wpAnyL.one (i := 7) (by kernel_rfl) rfl (fun K hK => ?_)
                      refine step_append_any (by rfl) _ _ 27 (by rfl) w9.heap.size 3 i0 (.int .i64 0) 1 8 Tryz.underlying27 hi iz0 iz1 iz2 (by rfl) (by decide) (.slice a10 (0 + k) c10) (0 + k) ([] ++ intVals (ss.take k)) (by simp [Act.eval]) (owns_later OW10.out (belN w10 _)) (some ⟨w10.heap.size, 0, none⟩) 1 1 [.int .i64 (-1)] (by simp [Act.eval]) (by rfl) (fun h => nomatch h) (fun ad he j u hj => by cases he; exact World.news_of_block (Deep.blk_alloc_new w10 _) j u hj) (by intro u hu; simp at hu; subst hu; rfl) m3.out m4.out (BW10b.out).size ?_
                      intro v11 w11 hown11 hgrow11 hat11
                      obtain ⟨a11, c11, hv11, -⟩ := owns_slice hown11
                      subst hv11
                      have BW11 := hide (Below.grown (BW10b.out) hgrow11 (BW10b.out).size (fun q hq => (World.ownsRow.lt OW10.out q hq).1))
                      have OW11 := hide hown11
                      clear hown11 hgrow11 hat11
                      refine hK.out _ _ (.inr BW11.out) ?_
                      clear hK
                      try simp only [Act.put]
                      refine wpAnyL.one (i := 12) (by kernel_rfl) rfl (fun K hK => ?_)
                      refine step_append_any (by rfl) _ _ 27 (by rfl) w9.heap.size 3 i0 (.int .i64 0) 1 8 Tryz.underlying27 hi iz0 iz1 iz2 (by rfl) (by decide) (.slice a11 (0 + k + 1) c11) (0 + k + 1) ([] ++ intVals (ss.take k) ++ [.int .i64 (-1)]) (by simp [Act.eval]) OW11.out (some A2) (ss.length - k) (cb' - k) (intVals (ss.drop k)) (by simp [Act.eval]) l3.out (fun h => nomatch h) (n3.out _ BW11.out) (intVals_one _) m5.out m6.out BW11.out.size ?_
                      intro v12 w12 hown12 hgrow12 hat12
                      obtain ⟨a12, c12, hv12, -⟩ := owns_slice hown12
                      subst hv12
                      have BW12 := hide (Below.grown BW11.out hgrow12 BW11.out.size (fun q hq => (World.ownsRow.lt OW11.out q hq).1))
                      have OW12 := hide hown12
                      obtain ⟨z0, z1, z2, q0, q1, q2⟩ := (K9.out.later BW12.out).cells
                      clear hown12 hgrow12 hat12
                      refine hK.out _ _ (.inr BW12.out) ?_
                      clear hK
                      try simp only [Act.put]
                      refine wpAnyL.take (i := 13) (v := ?_) rfl (by kernel_rfl) (by kernel_rfl) (by kernel_rfl) (by kernel_rfl) (fun _ _ _ h => h) (Or.inl ⟨by rfl, ?_⟩) BW12.out ?_
                      rotate_left
                      · (intro X hX; go_simp) <;> (with_reducible rfl)
                      try simp only [Act.put]
                      refine wpAnyL.one (i := 14) (by kernel_rfl) rfl (fun K hK => ?_)
                      go_simp
                      refine hK.out _ _ (.inl rfl) ?_
                      clear hK
                      try simp only [Act.put]
                      refine wpAnyL.done (by kernel_rfl) ?_ _
                      go_wp2_with fail
                      go_meet
                      exact ⟨w12, a12, c12, by rw [show k + 1 + (ss.length - k) = ss.length + 1 by omega], by have h := OW12.out; rw [show 0 + k + 1 + (ss.length - k) = ss.length + 1 by omega, List.nil_append] at h; rw [intVals_in]; exact h, BW12.out⟩
                    · go_simp
                      refine hK.out _ _ (.inr (belB w9 (.cells #[] 3) (.cells #[.int .i64 (-1)] 3))) ?_
                      clear hK
                      try simp only [Act.put]
                      refine wpAnyL.one (i := 5) (by kernel_rfl) rfl (fun K hK => ?_)
                      refine step_append_any (by rfl) _ _ 27 (by rfl) w9.heap.size 3 i0 (.int .i64 0) 1 8 Tryz.underlying27 hi iz0 iz1 iz2 (by rfl) (by decide) (.slice (some ⟨w9.heap.size, 0, none⟩) 0 0) 0 [] (by rfl) (emp2 w9 3 1 (.cells #[.int .i64 (-1)] 3)) (some ⟨gi, 0, none⟩) k cb' (intVals (ss.take k)) (by rfl) l1.out (fun h => nomatch h) (N1.out _ (belB w9 (.cells #[] 3) (.cells #[.int .i64 (-1)] 3))) (intVals_one _) m1.out m2.out (belB w9 (.cells #[] 3) (.cells #[.int .i64 (-1)] 3)).size ?_
                      intro v10 w10 hown10 hgrow10 hat10
                      obtain ⟨a10, c10, hv10, -⟩ := owns_slice hown10
                      subst hv10
                      have BW10 := hide (Below.grown (belB w9 (.cells #[] 3) (.cells #[.int .i64 (-1)] 3)) hgrow10 (belB w9 (.cells #[] 3) (.cells #[.int .i64 (-1)] 3)).size (fun q hq => (World.ownsRow.lt (emp2 w9 3 1 (.cells #[.int .i64 (-1)] 3)) q hq).1))
                      have OW10 := hide hown10
                      have HB7 : Hid (w10.heap[w9.heap.size + 1]? = some (.cells #[.int .i64 (-1)] 3 (0, 0))) := (hgrow10.block (w9.heap.size + 1) (by rw [sizeB]; omega) (by intro h; simp [Value.ownBlock] at h)).trans (heapB w9 _ _)
                      clear hown10 hgrow10 hat10
                      refine hK.out _ _ (.inr BW10.out) ?_
                      clear hK
                      try simp only [Act.put]
                      refine wpAnyL.one (i := 7) (by kernel_rfl) rfl (fun K hK => ?_)
                      refine step_append_any (by rfl) _ _ 27 (by rfl) w9.heap.size 3 i0 (.int .i64 0) 1 8 Tryz.underlying27 hi iz0 iz1 iz2 (by rfl) (by decide) (.slice a10 (0 + k) c10) (0 + k) ([] ++ intVals (ss.take k)) (by simp [Act.eval]) (OW10.out) (some ⟨w9.heap.size + 1, 0, none⟩) 1 1 [.int .i64 (-1)] (by simp [Act.eval]) (by rfl) (fun h => nomatch h) (fun ad he j u hj => by cases he; exact World.news_of_block (HB7.out) j u hj) (by intro u hu; simp at hu; subst hu; rfl) m3.out m4.out (BW10.out).size ?_
                      intro v11 w11 hown11 hgrow11 hat11
                      obtain ⟨a11, c11, hv11, -⟩ := owns_slice hown11
                      subst hv11
                      have BW11 := hide (Below.grown (BW10.out) hgrow11 (BW10.out).size (fun q hq => (World.ownsRow.lt OW10.out q hq).1))
                      have OW11 := hide hown11
                      clear hown11 hgrow11 hat11
                      refine hK.out _ _ (.inr BW11.out) ?_
                      clear hK
                      try simp only [Act.put]
                      refine wpAnyL.one (i := 12) (by kernel_rfl) rfl (fun K hK => ?_)
                      refine step_append_any (by rfl) _ _ 27 (by rfl) w9.heap.size 3 i0 (.int .i64 0) 1 8 Tryz.underlying27 hi iz0 iz1 iz2 (by rfl) (by decide) (.slice a11 (0 + k + 1) c11) (0 + k + 1) ([] ++ intVals (ss.take k) ++ [.int .i64 (-1)]) (by simp [Act.eval]) OW11.out (some A2) (ss.length - k) (cb' - k) (intVals (ss.drop k)) (by simp [Act.eval]) l3.out (fun h => nomatch h) (n3.out _ BW11.out) (intVals_one _) m5.out m6.out BW11.out.size ?_
                      intro v12 w12 hown12 hgrow12 hat12
                      obtain ⟨a12, c12, hv12, -⟩ := owns_slice hown12
                      subst hv12
                      have BW12 := hide (Below.grown BW11.out hgrow12 BW11.out.size (fun q hq => (World.ownsRow.lt OW11.out q hq).1))
                      have OW12 := hide hown12
                      obtain ⟨z0, z1, z2, q0, q1, q2⟩ := (K9.out.later BW12.out).cells
                      clear hown12 hgrow12 hat12
                      refine hK.out _ _ (.inr BW12.out) ?_
                      clear hK
                      try simp only [Act.put]
                      refine wpAnyL.take (i := 13) (v := ?_) rfl (by kernel_rfl) (by kernel_rfl) (by kernel_rfl) (by kernel_rfl) (fun _ _ _ h => h) (Or.inl ⟨by rfl, ?_⟩) BW12.out ?_
                      rotate_left
                      · (intro X hX; go_simp) <;> (with_reducible rfl)
                      try simp only [Act.put]
                      refine wpAnyL.one (i := 14) (by kernel_rfl) rfl (fun K hK => ?_)
                      go_simp
                      refine hK.out _ _ (.inl rfl) ?_
                      clear hK
                      try simp only [Act.put]
                      refine wpAnyL.done (by kernel_rfl) ?_ _
                      go_wp2_with fail
                      go_meet
                      exact ⟨w12, a12, c12, by rw [show k + 1 + (ss.length - k) = ss.length + 1 by omega], by have h := OW12.out; rw [show 0 + k + 1 + (ss.length - k) = ss.length + 1 by omega, List.nil_append] at h; rw [intVals_in]; exact h, BW12.out⟩
                  · go_simp
                    refine hK.out _ _ (.inr (belA w9 _)) ?_
                    clear hK
                    try simp only [Act.put]
                    refine wpAnyL.one (i := 0) (by kernel_rfl) rfl (fun K hK => ?_)
                    go_simp
                    refine hK.out _ _ (.inr (belB w9 (.cells #[.int .i64 (-1)] 3) (.cells #[] 3))) ?_
                    clear hK
                    try simp only [Act.put]
                    refine wpAnyL.one (i := 5) (by kernel_rfl) rfl (fun K hK => ?_)
                    refine step_append_any (by rfl) _ _ 27 (by rfl) w9.heap.size 3 i0 (.int .i64 0) 1 8 Tryz.underlying27 hi iz0 iz1 iz2 (by rfl) (by decide) (.slice (some ⟨w9.heap.size + 1, 0, none⟩) 0 0) 0 [] (by rfl) (emp3 w9 3 1 (.cells #[.int .i64 (-1)] 3)) (some ⟨gi, 0, none⟩) k cb' (intVals (ss.take k)) (by rfl) l1.out (fun h => nomatch h) (N1.out _ (belB w9 (.cells #[.int .i64 (-1)] 3) (.cells #[] 3))) (intVals_one _) m1.out m2.out (belB w9 (.cells #[.int .i64 (-1)] 3) (.cells #[] 3)).size ?_
                    intro v10 w10 hown10 hgrow10 hat10
                    obtain ⟨a10, c10, hv10, -⟩ := owns_slice hown10
                    subst hv10
                    have BW10 := hide (Below.grown (belB w9 (.cells #[.int .i64 (-1)] 3) (.cells #[] 3)) hgrow10 (belB w9 (.cells #[.int .i64 (-1)] 3) (.cells #[] 3)).size (fun q hq => (World.ownsRow.lt (emp3 w9 3 1 (.cells #[.int .i64 (-1)] 3)) q hq).1))
                    have OW10 := hide hown10
                    have HB7 : Hid (w10.heap[w9.heap.size]? = some (.cells #[.int .i64 (-1)] 3 (0, 0))) := (hgrow10.block w9.heap.size (by rw [sizeB]; omega) (by intro h; simp [Value.ownBlock] at h)).trans (heapC w9 _ _)
                    clear hown10 hgrow10 hat10
                    refine hK.out _ _ (.inr BW10.out) ?_
                    clear hK
                    try simp only [Act.put]
                    refine wpAnyL.one (i := 7) (by kernel_rfl) rfl (fun K hK => ?_)
                    refine step_append_any (by rfl) _ _ 27 (by rfl) w9.heap.size 3 i0 (.int .i64 0) 1 8 Tryz.underlying27 hi iz0 iz1 iz2 (by rfl) (by decide) (.slice a10 (0 + k) c10) (0 + k) ([] ++ intVals (ss.take k)) (by simp [Act.eval]) (OW10.out) (some ⟨w9.heap.size, 0, none⟩) 1 1 [.int .i64 (-1)] (by simp [Act.eval]) (by rfl) (fun h => nomatch h) (fun ad he j u hj => by cases he; exact World.news_of_block (HB7.out) j u hj) (by intro u hu; simp at hu; subst hu; rfl) m3.out m4.out (BW10.out).size ?_
                    intro v11 w11 hown11 hgrow11 hat11
                    obtain ⟨a11, c11, hv11, -⟩ := owns_slice hown11
                    subst hv11
                    have BW11 := hide (Below.grown (BW10.out) hgrow11 (BW10.out).size (fun q hq => (World.ownsRow.lt OW10.out q hq).1))
                    have OW11 := hide hown11
                    clear hown11 hgrow11 hat11
                    refine hK.out _ _ (.inr BW11.out) ?_
                    clear hK
                    try simp only [Act.put]
                    refine wpAnyL.one (i := 12) (by kernel_rfl) rfl (fun K hK => ?_)
                    refine step_append_any (by rfl) _ _ 27 (by rfl) w9.heap.size 3 i0 (.int .i64 0) 1 8 Tryz.underlying27 hi iz0 iz1 iz2 (by rfl) (by decide) (.slice a11 (0 + k + 1) c11) (0 + k + 1) ([] ++ intVals (ss.take k) ++ [.int .i64 (-1)]) (by simp [Act.eval]) OW11.out (some A2) (ss.length - k) (cb' - k) (intVals (ss.drop k)) (by simp [Act.eval]) l3.out (fun h => nomatch h) (n3.out _ BW11.out) (intVals_one _) m5.out m6.out BW11.out.size ?_
                    intro v12 w12 hown12 hgrow12 hat12
                    obtain ⟨a12, c12, hv12, -⟩ := owns_slice hown12
                    subst hv12
                    have BW12 := hide (Below.grown BW11.out hgrow12 BW11.out.size (fun q hq => (World.ownsRow.lt OW11.out q hq).1))
                    have OW12 := hide hown12
                    obtain ⟨z0, z1, z2, q0, q1, q2⟩ := (K9.out.later BW12.out).cells
                    clear hown12 hgrow12 hat12
                    refine hK.out _ _ (.inr BW12.out) ?_
                    clear hK
                    try simp only [Act.put]
                    refine wpAnyL.take (i := 13) (v := ?_) rfl (by kernel_rfl) (by kernel_rfl) (by kernel_rfl) (by kernel_rfl) (fun _ _ _ h => h) (Or.inl ⟨by rfl, ?_⟩) BW12.out ?_
                    rotate_left
                    · (intro X hX; go_simp) <;> (with_reducible rfl)
                    try simp only [Act.put]
                    refine wpAnyL.one (i := 14) (by kernel_rfl) rfl (fun K hK => ?_)
                    go_simp
                    refine hK.out _ _ (.inl rfl) ?_
                    clear hK
                    try simp only [Act.put]
                    refine wpAnyL.done (by kernel_rfl) ?_ _
                    go_wp2_with fail
                    go_meet
                    exact ⟨w12, a12, c12, by rw [show k + 1 + (ss.length - k) = ss.length + 1 by omega], by have h := OW12.out; rw [show 0 + k + 1 + (ss.length - k) = ss.length + 1 by omega, List.nil_append] at h; rw [intVals_in]; exact h, BW12.out⟩
                  -- R14]
              case rest =>
                obtain ⟨w12, a12, c12, hwd, OW12, BW12⟩ := hcut
                generalize wc = w13 at *
                have K13 : Hid (BkAt w13 w2.heap.size (.slice bc cs.length cc) (.slice a8 (fs.length + 1) c8) (.slice a12 (ss.length + 1) c12)) := by rw [hwd]; exact (K9.out.later BW12.out).set2 _
                have TX13 : Hid (TouchS (fun q => q = w2.heap.size) w12 w13) := by rw [hwd]; exact touch1_set (touchS_refl _ w12) 2 _
                have T13 : Hid (TouchS (fun q => q = w2.heap.size ∨ w9.heap.size ≤ q) w9 w13) := touchS_trans (touchS_below BW12.out) (touchS_mono TX13.out fun q hq => .inl hq)
                have R13 := hide (BkAt.touchS (S := fun q => q = w2.heap.size) (R9.out.later BW12.out) TX13.out (by omega))
                have B13 := hide ((below_two B9.out BW12.out).trans (below_ofS (S := fun q => q = w2.heap.size) TX13.out (by have := BW12.out.size; have := B9.out.size; omega) (fun q hq => by omega)))
                have hs13 : w9.heap.size ≤ w13.heap.size := by have := BW12.out.size; have := TX13.out.size; omega
                have OI13 : Hid (World.ownsRow w13 w9.heap.size 3 1 (.slice a12 (ss.length + 1) c12) (ss.length + 1) (intVals (putAt ss k (-1)))) := owns_keep OW12.out fun q hq => TX13.out.block q (World.ownsRow.lt OW12.out q hq).2 (fun hh => by have h9 := (World.ownsRow.lt OW12.out q hq).1; have hh' : q = w2.heap.size := hh; omega)
                clear hwd OW12 BW12 TX13 x2 l1 l3 m1 m2 m3 m4 m5 m6 OF9 OV9 OI9 K9 R9 B9 T9
                obtain ⟨g12, hg12, hgl12, -⟩ := owns_some OI13.out (by omega)
                subst hg12
                have OI : Hid (OwnI w13 w9.heap.size (.slice (some ⟨g12, 0, none⟩) (ss.length + 1) c12) (putAt ss k (-1))) := by show World.ownsRow _ _ _ _ _ _ _; rw [putAt_len]; exact OI13.out
                have hne : w2.heap.size ≠ g12 := by omega
                have hne2 : w.heap.size + 2 ≠ g12 := by omega
                obtain ⟨hxc, hxf⟩ := XB.out w13.drew (touchS_trans T13.out ⟨rfl, rfl, rfl, Nat.le_refl _, fun _ _ _ => rfl⟩)
                have LE := l3Least_at bc a8 (some ⟨g12, 0, none⟩) cc c8 c12 cs (putAt fs k (nm, pl, lt, vs)) (putAt ss k (-1)) (ss.length + 1) (putAt_len _ _ _) k w13.drew hxc hxf (ints_of (owns_later OI.out (Below.refl _ _).drew)) PSM.out.nc PSM.out.nf (by rw [putAt_len, putAt_len, HLS.out]) PSM.out.sc PSM.out.vl PSM.out.sf (by rw [putAt_len]; omega) (fits_iff.1 PF.out).2.1
                rw [putAt_len] at LE
                obtain ⟨lv, hlv⟩ : ∃ lv, leastV cs (putAt fs k (nm, pl, lt, vs)) (putAt ss k (-1)) k = lv := ⟨_, rfl⟩
                rw [hlv] at LE
                have HLE := hide LE
                have HNS : Hid (newS cs fs ss (nm, pl, lt, vs) k = (putAt ss k (-1)).set k lv) := by show _ = _; unfold newS; rw [hlv]
                have HKS : Hid (k < (putAt ss k (-1)).length) := by show _ < _; rw [putAt_len]; omega
                have hki : (k : Int) < (ss.length : Int) + 1 := by omega
                have hk0 : (0 : Int) ≤ (k : Int) := by omega
                obtain ⟨x0, x1, x2, -⟩ := K13.out.cells
                clear LE hlv hxc hxf
                go_upto_region 15 with fail
                go_region_held3 (fun X => X.cell? ⟨w2.heap.size, 0, none⟩ = some (.slice bc cs.length cc) ∧ X.cell? ⟨w2.heap.size, 1, none⟩ = some (.slice a8 (fs.length + 1) c8) ∧ X.cell? ⟨w2.heap.size, 2, none⟩ = some (.slice (some ⟨g12, 0, none⟩) (ss.length + 1) c12))
                  (first | exact ⟨x0, x1, x2⟩ | exact ⟨cell_later hbL x0, cell_later hbL x1, cell_later hbL x2⟩ | exact ⟨cell_other hne (cell_later hbL x0), cell_other hne (cell_later hbL x1), cell_other hne (cell_later hbL x2)⟩)
                  (first
                    | (go_at_call 34; refine HLE.out.mono ?_; rintro e wL ⟨rfl, hbL⟩; obtain ⟨q0, q1⟩ := int_at (owns_later OI.out (below_dr hbL)) HKS.out)
                    | (fail))
                rename_i hH
                have BL := hide (below_dr hbL)
                clear hH hbL x0 x1 x2
                have hsL := BL.out.size
                obtain ⟨Y, hY⟩ : ∃ Y, wL.setCell ⟨g12, k, none⟩ (.int .i64 lv) = Y := ⟨_, rfl⟩
                have TXL : Hid (TouchS (fun q => q = g12) wL Y) := by rw [← hY]; exact touch1_set (touchS_refl _ wL) k _
                have OY : Hid (OwnI Y w9.heap.size (.slice (some ⟨g12, 0, none⟩) (ss.length + 1) c12) ((putAt ss k (-1)).set k lv)) := by rw [← hY]; exact own_setI (k := k) (owns_later OI.out BL.out) lv
                have K14 := hide (BkAt.touchS (S := fun q => q = g12) (K13.out.later BL.out) TXL.out hne)
                have R14 := hide (BkAt.touchS (S := fun q => q = g12) (R13.out.later BL.out) TXL.out hne2)
                have B14 := hide ((below_two B13.out BL.out).trans (below_ofS (S := fun q => q = g12) TXL.out (by have := B13.out.size; omega) (fun q hq => by omega)))
                have TY : Hid (TouchS (fun q => q = w2.heap.size ∨ w9.heap.size ≤ q) w9 Y) := touchS_trans (touchS_trans T13.out (touchS_below BL.out)) (touchS_mono TXL.out fun q hq => .inr (by rw [hq]; exact hgl12))
                have hsY : wL.heap.size ≤ Y.heap.size := TXL.out.size
                have HY := hide hY
                clear hY q0 q1 TXL K13 R13 B13
                go_upto_region 16 with fail
                rw [HY.out]
                obtain ⟨hxc, hxf⟩ := XB.out Y TY.out
                have SM2 : BookSm cs (putAt fs k (nm, pl, lt, vs)) (newS cs fs ss (nm, pl, lt, vs) k) := ⟨PSM.out.nc, PSM.out.nf, by rw [newS_len]; omega, PSM.out.sc, PSM.out.vl, PSM.out.sf⟩
                have L4 := l4Copy_any bc a8 (some ⟨g12, 0, none⟩) cc c8 c12 cs (putAt fs k (nm, pl, lt, vs)) (newS cs fs ss (nm, pl, lt, vs) k) Y ⟨hxc, hxf, by rw [HNS.out]; exact ints_of OY.out⟩ SM2 (fun y hy => (putAt_mem.1 hy).elim (fun e => by rw [e]; exact HVF.out) (HV.out y)) Z2.out (fun e => nomatch e)
                unfold bkV at L4
                rw [putAt_len, newS_len] at L4
                have HL4 := hide L4
                clear L4 hxc hxf SM2
                obtain ⟨x0, x1, x2, -⟩ := K14.out.cells
                go_wp2_with fail
                refine HL4.out.mono ?_
                rintro e w15 ⟨dc, d, d', dd, db, db', rfl, hcp, -, hb15⟩
                have C15 := hide hcp
                have R15 := hide (R14.out.later hb15)
                have B15 := hide (below_two B14.out hb15)
                have hs15 := hb15.size
                clear hcp hb15 x0 x1 x2
                obtain ⟨k0, k1, k2, t0, t1, t2⟩ := R15.out.cells
                have RX := hide (R15.out.set3 (.slice dc cs.length dd) (.slice d (fs.length + 1) db) (.slice d' (ss.length + 1) db'))
                have TX := hide (set3_touch w15 (w.heap.size + 2) (.slice dc cs.length dd) (.slice d (fs.length + 1) db) (.slice d' (ss.length + 1) db'))
                go_wp2
                generalize ((w15.setCell ⟨w.heap.size + 2, 0, none⟩ (.slice dc cs.length dd)).setCell ⟨w.heap.size + 2, 1, none⟩ (.slice d (fs.length + 1) db)).setCell ⟨w.heap.size + 2, 2, none⟩ (.slice d' (ss.length + 1) db') = Z at *
                obtain ⟨z0, z1, z2, -⟩ := RX.out.cells
                have hlast : ∀ Z2, TouchS (fun q => q < w.heap.size) Z Z2 → BookIn Z2 dc d d' cs (putAt fs k (nm, pl, lt, vs)) (newS cs fs ss (nm, pl, lt, vs) k) := fun Z2 hZ2 => by
                  have hbz2 := B14.out.size
                  have tz : TouchS (fun q => q = w.heap.size + 2 ∨ q < w.heap.size) w15 Z2 := touchS_trans (touchS_mono TX.out fun _ h => .inl h) (touchS_mono hZ2 fun _ h => .inr h)
                  have hr := C15.out.rest Z2 (touchS_mono tz fun q hq => .inl (by omega))
                  have hi2 : IntsIn Z2 d' (newS cs fs ss (nm, pl, lt, vs) k) := ints_touchS (ints_of C15.out.own) tz (fun q hq hh => by have := C15.out.inI hq; omega)
                  exact ⟨hr.1, hr.2, hi2⟩
                exact bodyPost_ret (v := .tuple #[bkV dc d d' dd db db' cs (putAt fs k (nm, pl, lt, vs)) (newS cs fs ss (nm, pl, lt, vs) k), .int .i64 0]) (by simp only [bkV, putAt_len, newS_len]; simp [results, Tryz.results12, go_sem, z0, z1, z2]) rfl ⟨dc, d, d', dd, db, db', by rw [E2'.out, E3'.out, E4'.out], by rw [E2'.out, E3'.out]; exact hlast, B15.out.trans (below_ofS (S := fun q => q = w.heap.size + 2) TX.out (by have := B15.out.size; omega) (fun q hq => by omega))⟩
    · have HA : atV fs f.1 = (placeV fs f.1 : Int) := by unfold atV; rw [hth]; rfl
      rw [HA]
      have hn : addN fs f = 3 := by unfold addN; rw [H1.out, hth]; rfl
      have e2 := E2.out
      have e3 := E3.out
      rw [hn, if_neg (by omega)] at e2 e3
      have E2' := hide e2
      have E3' := hide e3
      have E4' : Hid (addK cs fs ss f = 3) := E4.out.trans hn
      obtain ⟨x0, x1, x2, -⟩ := (K3.out.later BZ.out).cells
      obtain ⟨k0, k1, k2, t0, t1, t2⟩ := (R3.out.later BZ.out).cells
      have hd : ¬ ((placeV fs f.1 : Int) < 0) := by omega
      clear hth HA hn e2 e3 E2 E3 E4
      generalize placeV fs f.1 = i at *
      go_wp2
      obtain ⟨Y, hY, hyk, hyb, hyB⟩ := REF.out w4 BZ.out
      rw [hY]
      obtain ⟨z0, z1, z2, -⟩ := hyk.cells
      exact bodyPost_ret (v := .tuple #[bkV bc b b' cc cb cb' cs fs ss, .int .i64 3]) (by simp [results, Tryz.results12, go_sem, z0, z1, z2, bkV]) rfl ⟨bc, b, b', cc, cb, cb', by rw [E2'.out, E3'.out, E4'.out], by rw [E2'.out, E3'.out]; exact hyb, hyB⟩
theorem specAdd_any (f : Fli) (av : Option Addr) (cv : Nat) (ac a a' : Option Addr) (capc cap cap' : Nat) (cs : List (ByteArray × Int)) (fs : List Fli) (ss : List Int) (w : World) (hb : BookIn w ac a a' cs fs ss) (hm : BookSm cs fs ss) (_ : ac = none → capc = 0) (_ : a' = none → cap' = 0) (hv : VisitsIn w av f.2.2.2) (hvl : f.2.2.2.length ≤ 1048576) (hsz : SizesOk f) :
    Calls Tryz.prog 12 #[bkV ac a a' capc cap cap' cs fs ss, .agg #[.string f.1, .int .i64 f.2.1, .int .i64 f.2.2.1, .slice av f.2.2.2.length cv]] w fun e w' => ∃ bc b b' cc cb cb', e = .returned (.tuple #[bkV bc b b' cc cb cb' (okC cs fs ss) (addF cs fs ss f) (addS cs fs ss f), .int .i64 (addK cs fs ss f)]) ∧ (∀ Z, TouchS (fun q => q < w.heap.size) w' Z → BookIn Z bc b b' (okC cs fs ss) (addF cs fs ss f) (addS cs fs ss f)) ∧ Below w.heap.size w w' :=
  specAdd_all f av cv ac a a' capc cap cap' cs fs ss w hb hm hv hvl hsz
end Go.Proofs.YtciacofibljmoaaGreatDoor
