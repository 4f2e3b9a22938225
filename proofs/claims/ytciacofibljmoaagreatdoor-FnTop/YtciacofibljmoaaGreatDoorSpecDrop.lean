/- A flight goes, the document's way. -/
import Derived.Test.YtciacofibljmoaaGreatDoorDocB
import Derived.Test.YtciacofibljmoaaGreatDoorDropCopy
import Derived.Test.YtciacofibljmoaaGreatDoorDrops
import Derived.Deep.RegionLaw
import Derived.Deep.CutRange
namespace Go.Proofs.YtciacofibljmoaaGreatDoor
open Go.RowKit

theorem flVals_append (xs ys : List FlV) : flVals (xs ++ ys) = flVals xs ++ flVals ys := by unfold flVals; rw [List.flatMap_append]
theorem intVals_append (xs ys : List Int) : intVals (xs ++ ys) = intVals xs ++ intVals ys := by unfold intVals; rw [List.map_append]
theorem row_piecesI {w : World} {B g : Nat} {n c : Nat} {zs : List Int} (h : World.ownsRow w B 3 1 (.slice (some ⟨g, 0, none⟩) n c) n (intVals zs)) (i : Nat) (hi : i ≤ zs.length) :
    (∀ j u, (intVals (zs.take i))[j]? = some u → w.cell? ⟨g, j, none⟩ = some u) ∧ (∀ j u, (intVals (zs.drop i))[j]? = some u → w.cell? ⟨g, i + j, none⟩ = some u) := by
  have hc : ∀ j u, (intVals zs)[j]? = some u → w.cell? ⟨g, j, none⟩ = some u := fun j u hj => by
    obtain ⟨a', c', e, _, _, _, h5⟩ := owns_slice h
    obtain ⟨g', e1, _, _, e4, _⟩ := h5 j u hj
    simp at e
    rw [← e.1] at e1
    simp at e1
    subst e1
    exact e4
  have e : intVals zs = intVals (zs.take i) ++ intVals (zs.drop i) := by rw [← intVals_append, List.take_append_drop]
  have hl : (intVals (zs.take i)).length = i := by rw [intVals_len, List.length_take, Nat.min_eq_left hi, Nat.mul_one]
  refine ⟨fun j u hj => hc j u ?_, fun j u hj => hc _ u ?_⟩
  · rw [e, List.getElem?_append_left]
    · exact hj
    · exact (List.getElem?_eq_some_iff.1 hj).1
  · rw [e, List.getElem?_append_right (by omega), hl, Nat.add_sub_cancel_left]
    exact hj
/-- A row of flights' own cells, and two pieces of it. -/
theorem row_pieces {w : World} {B g : Nat} {n c : Nat} {gs : List FlV} (h : World.ownsRow w B 32 4 (.slice (some ⟨g, 0, none⟩) n c) n (flVals gs)) (i : Nat) (hi : i ≤ gs.length) :
    (∀ j u, (flVals (gs.take i))[j]? = some u → w.cell? ⟨g, j, none⟩ = some u) ∧ (∀ j u, (flVals (gs.drop i))[j]? = some u → w.cell? ⟨g, i * 4 + j, none⟩ = some u) := by
  have hc : ∀ j u, (flVals gs)[j]? = some u → w.cell? ⟨g, j, none⟩ = some u := fun j u hj => by
    obtain ⟨a', c', e, _, _, _, h5⟩ := owns_slice h
    obtain ⟨g', e1, _, _, e4, _⟩ := h5 j u hj
    simp at e
    rw [← e.1] at e1
    simp at e1
    subst e1
    exact e4
  have e : flVals gs = flVals (gs.take i) ++ flVals (gs.drop i) := by rw [← flVals_append, List.take_append_drop]
  have hl : (flVals (gs.take i)).length = i * 4 := by rw [flVals_len, List.length_take, Nat.min_eq_left hi]
  refine ⟨fun j u hj => hc j u ?_, fun j u hj => hc _ u ?_⟩
  · rw [e, List.getElem?_append_left]
    · exact hj
    · exact (List.getElem?_eq_some_iff.1 hj).1
  · rw [e, List.getElem?_append_right (by omega), hl, Nat.add_sub_cancel_left]
    exact hj

set_option maxRecDepth 100000 in
set_option maxHeartbeats 3200000 in
theorem specDrop_far (nm : ByteArray) (ac a a' : Option Addr) (capc cap cap' : Nat) (cs : List (ByteArray × Int)) (fs : List Fli) (ss : List Int) (w : World) (hb : BookIn w ac a a' cs fs ss) (hm : BookSm cs fs ss) :
    Calls Tryz.prog 7 #[bkV ac a a' capc cap cap' cs fs ss, .string nm] w fun e w' => ∃ bc b b' cc cb cb', e = .returned (.tuple #[bkV bc b b' cc cb cb' (okC cs fs ss) (dropF cs fs ss nm) (dropS cs fs ss nm), .int .i64 (dropK cs fs ss nm)]) ∧ (∀ Z, TouchS (fun q => q < w.heap.size) w' Z → BookIn Z bc b b' (okC cs fs ss) (dropF cs fs ss nm) (dropS cs fs ss nm)) ∧ Below w.heap.size w w' := by
  have HB := hide hb
  have HM := hide hm
  clear hb hm
  obtain ⟨W, hW, hWs, f0, r0, b0⟩ := bk_boxes w (.slice ac cs.length capc) (.slice a fs.length cap) (.slice a' ss.length cap')
  have HW := hide hW
  have F0 := hide f0
  have R0 := hide r0
  have B0 := hide b0
  have HWs := hide hWs
  clear hW f0 r0 b0 hWs
  cases hq : fitsB cs fs ss
  · have HQ := hide hq
    have e1 : okC cs fs ss = [] := by unfold okC; rw [hq]; rfl
    have e2 : dropF cs fs ss nm = [] := by unfold dropF; rw [hq]; rfl
    have e3 : dropS cs fs ss nm = [] := by unfold dropS; rw [hq]; rfl
    have e4 : dropK cs fs ss nm = 1 := by unfold dropK; rw [hq]; rfl
    rw [e1, e2, e3, e4]
    clear hq e1 e2 e3 e4
    go_enter Tryz.func7, Tryz.ntmps7
    go_wp2_with fail
    rw [HW.out]
    refine (specBookOk_val ac a a' capc cap cap' cs fs ss _ HQ.out W (HB.out.later B0.out) HM.out).mono ?_
    rintro e w1 ⟨rfl, hb1⟩
    have R1 := hide (R0.out.later hb1)
    have B1 := hide (below_two B0.out hb1)
    have hs1 : w.heap.size + 2 ≤ w1.heap.size := by have := hb1.size; have := HWs.out; omega
    obtain ⟨k0, k1, k2, t0, t1, t2⟩ := R1.out.cells
    have RX := hide (R1.out.set3 (.slice none 0 0) (.slice none 0 0) (.slice none 0 0))
    have TX := hide (set3_touch w1 (w.heap.size + 1) (.slice none 0 0) (.slice none 0 0) (.slice none 0 0))
    clear hb1
    go_wp2
    generalize ((w1.setCell ⟨w.heap.size + 1, 0, none⟩ (.slice none 0 0)).setCell ⟨w.heap.size + 1, 1, none⟩ (.slice none 0 0)).setCell ⟨w.heap.size + 1, 2, none⟩ (.slice none 0 0) = Y at *
    obtain ⟨y0, y1, y2, -⟩ := RX.out.cells
    exact bodyPost_ret (v := .tuple #[bkV none none none 0 0 0 [] [] [], .int .i64 1]) (by simp [results, Tryz.results7, go_sem, y0, y1, y2]) rfl ⟨none, none, none, 0, 0, 0, rfl, fun Z _ => (ownBk_none 0 Z).book, B1.out.trans (below_ofS (S := fun q => q = w.heap.size + 1) TX.out (by omega) (fun q hq => by omega))⟩
  · have HQ := hide hq
    have e1 : okC cs fs ss = cs := by unfold okC; rw [hq]; rfl
    have e2 : dropF cs fs ss nm = (if thereB fs nm = true then fs.eraseIdx (placeV fs nm) else fs) := by unfold dropF; rw [hq]; rfl
    have e3 : dropS cs fs ss nm = (if thereB fs nm = true then compV cs (fs.eraseIdx (placeV fs nm)) (ss.eraseIdx (placeV fs nm)) else ss) := by unfold dropS; rw [hq]; rfl
    have e4 : dropK cs fs ss nm = (if thereB fs nm = true then 0 else 3) := by unfold dropK; rw [hq]; rfl
    rw [e1]
    have E2 := hide e2
    have E3 := hide e3
    have E4 := hide e4
    have HV : Hid (∀ f ∈ fs, 1 ≤ f.2.2.2.length ∧ f.2.2.2.length ≤ 1000) := fun f hf => by
      obtain ⟨i, hi, rfl⟩ := List.getElem_of_mem hf
      have := (slots_bd (fits_slots hq)).2.2.2 i hi
      exact ⟨this.2.2.2.1, by omega⟩
    have HO := hide (flis_iff.1 (fits_iff.1 hq).2.1).2.2
    have HN8 := hide (flis_iff.1 (fits_iff.1 hq).2.1).1
    have HLS := hide (fits_iff.1 hq).2.2.1
    have HDF := hide (drop_fits hq (placeV fs nm))
    have HCL := hide (comp_len (drop_fits hq (placeV fs nm)))
    clear hq e1 e2 e3 e4
    go_enter Tryz.func7, Tryz.ntmps7
    go_wp2_with fail
    rw [HW.out]
    refine (specBookOk_val ac a a' capc cap cap' cs fs ss _ HQ.out W (HB.out.later B0.out) HM.out).mono ?_
    rintro e w1 ⟨rfl, hb1⟩
    have F1 := hide (F0.out.later hb1)
    have R1 := hide (R0.out.later hb1)
    have B1 := hide (below_two B0.out hb1)
    have hs1 : w.heap.size + 2 ≤ w1.heap.size := by have := hb1.size; have := HWs.out; omega
    obtain ⟨x0, x1, x2, -⟩ := F1.out.cells
    clear hb1
    go_wp2_with fail
    refine (l4Copy_full ac a a' capc cap cap' cs fs ss w1 (HB.out.later B1.out) HM.out HV.out).mono ?_
    rintro e w2 ⟨bc, b, b', cc, cb, cb', rfl, ⟨hcp, hfk⟩, hzc, hb2⟩
    have C2 := hide hcp
    have FK2 := hide hfk
    have Z2 := hide hzc
    have hs2 := hb2.size
    obtain ⟨V, hV, hVs, VB, BV⟩ : ∃ V, w2.alloc (.cells #[.slice bc cs.length cc, .slice b fs.length cb, .slice b' ss.length cb'] 29) = V ∧ V.heap.size = w2.heap.size + 1 ∧ BkAt V w2.heap.size (.slice bc cs.length cc) (.slice b fs.length cb) (.slice b' ss.length cb') ∧ Below w2.heap.size w2 V := ⟨_, rfl, by simp, BkAt.newAt w2 _ rfl _ _ _, (Below.refl _ _).alloc (Nat.le_refl _) _⟩
    have F3 := hide ((F1.out.later hb2).later BV)
    have R3 := hide ((R1.out.later hb2).later BV)
    have B3 := hide (below_two (below_two B1.out hb2) BV)
    have T3 := hide (touchS_below (S := fun _ => False) BV)
    have K3 := hide VB
    have HV2 := hide hV
    have HVs := hide hVs
    clear hcp hfk hzc hb2 x0 x1 x2 BV VB hV hVs R1 F1
    go_upto_region 4 with fail
    rw [HV2.out]
    obtain ⟨x0, x1, x2, -⟩ := F3.out.cells
    go_wp2_with fail
    refine (l4At_any ac a a' capc cap cap' cs fs ss nm V (HB.out.later B3.out).fl HM.out.nf HO.out).mono ?_
    rintro e w3 ⟨rfl, hb3⟩
    have R4 := hide (R3.out.later hb3)
    have K4 := hide (K3.out.later hb3)
    have B4 := hide (below_two B3.out hb3)
    have T4 := hide (touchS_trans T3.out (touchS_below hb3))
    have hs3 : w2.heap.size + 1 ≤ w3.heap.size := by have := hb3.size; have := HVs.out; omega
    clear hb3 x0 x1 x2
    cases hth : thereB fs nm
    · have HA : atV fs nm = -1 := by unfold atV; rw [hth]; rfl
      rw [HA]
      have e2 := E2.out
      have e3 := E3.out
      have e4 := E4.out
      rw [hth, if_neg (by simp)] at e2 e3 e4
      clear E2 E3 E4 HA hth
      have E2 := hide e2
      have E3 := hide e3
      have E4 := hide e4
      clear e2 e3 e4
      obtain ⟨x0, x1, x2, -⟩ := K4.out.cells
      obtain ⟨k0, k1, k2, t0, t1, t2⟩ := R4.out.cells
      have RX := hide (R4.out.set3 (.slice bc cs.length cc) (.slice b fs.length cb) (.slice b' ss.length cb'))
      have TX := hide (set3_touch w3 (w.heap.size + 1) (.slice bc cs.length cc) (.slice b fs.length cb) (.slice b' ss.length cb'))
      go_wp2
      generalize ((w3.setCell ⟨w.heap.size + 1, 0, none⟩ (.slice bc cs.length cc)).setCell ⟨w.heap.size + 1, 1, none⟩ (.slice b fs.length cb)).setCell ⟨w.heap.size + 1, 2, none⟩ (.slice b' ss.length cb') = Y at *
      obtain ⟨y0, y1, y2, -⟩ := RX.out.cells
      have tt : TouchS (fun q => q = w.heap.size + 1) w2 Y := touchS_trans (touchS_mono T4.out fun _ h => h.elim) TX.out
      have hfar : ∀ Z, TouchS (fun q => q < w.heap.size) Y Z → BookIn Z bc b b' cs fs ss := fun Z hZ => by
        have tz := touchS_trans (touchS_mono (T := fun q => q = w.heap.size + 1 ∨ q < w.heap.size) tt fun _ h => .inl h) (touchS_mono (T := fun q => q = w.heap.size + 1 ∨ q < w.heap.size) hZ fun _ h => .inr h)
        have hr := C2.out.rest Z (touchS_mono tz fun k hk => .inl (by omega))
        have hi : IntsIn Z b' ss := ints_touchS (ints_of C2.out.own) tz (fun q hq hh => by have := C2.out.inI hq; omega)
        exact ⟨hr.1, hr.2, hi⟩
      refine bodyPost_ret (v := .tuple #[bkV bc b b' cc cb cb' cs fs ss, .int .i64 3]) (by simp [results, Tryz.results7, go_sem, y0, y1, y2, bkV]) rfl ⟨bc, b, b', cc, cb, cb', by rw [E2.out, E3.out, E4.out], by rw [E2.out, E3.out]; exact hfar, B4.out.trans (below_ofS (S := fun q => q = w.heap.size + 1) TX.out (by omega) (fun q hq => by omega))⟩
    · obtain ⟨hip, -⟩ := (there_iff HO.out).1 hth
      have HA : atV fs nm = (placeV fs nm : Int) := by unfold atV; rw [hth]; rfl
      rw [HA]
      have e2 := E2.out
      have e3 := E3.out
      have e4 := E4.out
      rw [hth, if_pos rfl] at e2 e3 e4
      clear E2 E3 E4 HA hth
      generalize placeV fs nm = i at *
      have E2 := hide e2
      have E3 := hide e3
      have E4 := hide e4
      clear e2 e3 e4
      obtain ⟨B, gs, hgs, hkp⟩ := FK2.out
      have hgl : gs.length = fs.length := by rw [← hgs, List.length_map]
      have hO := hkp w3 (touchS_mono T4.out fun _ h => h.elim)
      obtain ⟨g, hbg, hg1, hg2⟩ := owns_some (show World.ownsRow w3 B 32 4 (.slice b gs.length cb) gs.length (flVals gs) by rw [hgl]; have := hO.1; rwa [hgl] at this) (by omega)
      subst hbg
      obtain ⟨x0, x1, x2, y0, y1, y2⟩ := K4.out.cells
      have hcb : i + 1 ≤ cb := by
        obtain ⟨a', c', e, h1, _⟩ := owns_slice (show World.ownsRow w3 B 32 4 (.slice (some ⟨g, 0, none⟩) gs.length cb) gs.length (flVals gs) by rw [hgl]; have := hO.1; rwa [hgl] at this)
        simp at e
        omega
      have GS := hide hgs
      have KP := hide hkp
      have HOF := hide hO
      have hin : (i : Int) + 1 ≤ 1048577 := by have := HN8.out; omega
      have HCB := hide hcb
      have HIP := hide hip
      have k0 : (0 : Int) ≤ (i : Int) := by omega
      have X0 := hide x0
      have X1 := hide x1
      have X2 := hide x2
      have Y0 := hide y0
      have Y1 := hide y1
      have Y2 := hide y2
      clear hgs hkp hO hgl hcb hip x0 x1 x2 y0 y1 y2
      clear k0 hin
      have hd : decide ((i : Int) < 0) = false := by simp
      go_upto_region 5 with fail
      go_upto_region 7 with fail
      have hicb : i ≤ cb := by have := HCB.out; omega
      have hicb1 : i + 1 ≤ cb := HCB.out
      have hi8 : (i : Int) + 1 ≤ 9 := by have := HIP.out; have := HN8.out; omega
      have hin1 : i ≤ fs.length := by have := HIP.out; omega
      have hin2 : i + 1 ≤ fs.length := by have := HIP.out; omega
      have hgl : gs.length = fs.length := by rw [← GS.out, List.length_map]
      have hrow : World.ownsRow w3 B 32 4 (.slice (some ⟨g, 0, none⟩) gs.length cb) gs.length (flVals gs) := by rw [hgl]; have := HOF.out.1; rwa [hgl] at this
      have P1 := hide (row_pieces hrow i (by omega)).1
      have P2 := hide (row_pieces hrow (i + 1) (by omega)).2
      have L1 : Hid ((flVals (gs.take i)).length = i * 4) := by show _ = _; rw [flVals_len, List.length_take, Nat.min_eq_left (by omega)]
      have L2 : Hid ((flVals (gs.drop (i + 1))).length = (fs.length - (i + 1)) * 4) := by show _ = _; rw [flVals_len, List.length_drop, hgl]
      have N1 : Hid (∀ ad, some (⟨g, 0, none⟩ : Addr) = some ad → ∀ j u, (flVals (gs.take i))[j]? = some u → (w3.alloc (.cells #[] 32)).drew.cell? (ad.add j) = some u) := fun ad e j u hj => by
        cases e
        rw [Addr.add_lit, Nat.zero_add]
        exact cell_later (belA w3 _) (P1.out j u hj)
      obtain ⟨A, hA, N2⟩ : ∃ A : Addr, (if cb = i + 1 then some (⟨g, 0, none⟩ : Addr) else some ⟨g, (i + 1) * 4, none⟩) = some A ∧ Hid (∀ X, Below w3.heap.size w3 X → ∀ ad, some A = some ad → ∀ j u, (flVals (gs.drop (i + 1)))[j]? = some u → X.cell? (ad.add j) = some u) := by
        by_cases h : cb = i + 1
        · refine ⟨⟨g, 0, none⟩, by simp [h], fun X hX ad e j u hj => ?_⟩
          have h0 : fs.length ≤ cb := by
            obtain ⟨a', c', e, h1, _⟩ := owns_slice hrow
            simp at e
            omega
          have := (List.getElem?_eq_some_iff.1 hj).1
          rw [L2.out] at this
          omega
        · refine ⟨⟨g, (i + 1) * 4, none⟩, by simp [h], fun X hX ad e j u hj => ?_⟩
          cases e
          rw [Addr.add_lit]
          exact cell_later hX (P2.out j u hj)
      have M1 : Hid (0 + i ≤ maxLen) := by show _ ≤ _; unfold maxLen; omega
      have M2 : Hid ((0 + i) * 56 ≤ 140737488355328) := by show _ ≤ _; omega
      have M3 : Hid (0 + i + (fs.length - (i + 1)) ≤ maxLen) := by show _ ≤ _; have := HN8.out; unfold maxLen; omega
      have M4 : Hid ((0 + i + (fs.length - (i + 1))) * 56 ≤ 140737488355328) := by show _ ≤ _; have := HN8.out; omega
      obtain ⟨j0, hj, jz0, jz1, jz2⟩ := info_parts info_flight
      have x1 := X1.out
      have x1a : w3.drew.cell? ⟨w2.heap.size, 1, none⟩ = some (.slice (some ⟨g, 0, none⟩) fs.length cb) := x1
      have x1b : (w3.alloc (.cells #[] 32)).drew.cell? ⟨w2.heap.size, 1, none⟩ = some (.slice (some ⟨g, 0, none⟩) fs.length cb) := cell_later (belA w3 _) x1
      have mk0 := trivial
      obtain ⟨jj, hjj⟩ : ∃ jj : Nat, jj = i + 1 := ⟨_, rfl⟩
      have hwr : IntKind.i64.wrap ((i : Int) + 1) = (jj : Int) := by
        rw [hjj]
        have e : ((i : Int) + 1) = ((i + 1 : Nat) : Int) := by omega
        rw [e]
        simp only [IntKind.wrap]
        go_arith
      rw [← hjj] at hA hin2 hicb1
      have N2' : Hid (∀ X, Below w3.heap.size w3 X → ∀ ad, some A = some ad → ∀ q u, (flVals (gs.drop (i + 1)))[q]? = some u → X.cell? (ad.add q) = some u) := N2
      have L2' : Hid ((flVals (gs.drop (i + 1))).length = (fs.length - jj) * 4) := by rw [hjj]; exact L2
      have M3' : Hid (0 + i + (fs.length - jj) ≤ maxLen) := by rw [hjj]; exact M3
      have M4' : Hid ((0 + i + (fs.length - jj)) * 56 ≤ 140737488355328) := by rw [hjj]; exact M4
      have HJ := hide hjj
      have EA := hide hA
      clear hgl hrow hi8 hjj N2 L2 M3 M4
      go_cut [] from 20 (fun wc => ∃ (w5 : World) (a5 : Option Addr) (c5 : Nat), wc = w5.setCell ⟨w2.heap.size, 1, none⟩ (.slice a5 (fs.length - 1) c5) ∧ Hid (World.ownsRow w5 w3.heap.size 32 4 (.slice a5 (fs.length - 1) c5) (fs.length - 1) (flVals (gs.eraseIdx i))) ∧ Hid (Below w3.heap.size w3 w5))
      case first =>
        go_region_law (first
          | (have hmk := mk0; refine step_append_any (by rfl) _ _ 24 (by rfl) w3.heap.size 32 j0 (.agg #[.string ⟨#[]⟩, .int .i64 0, .int .i64 0, .slice none 0 0]) 4 56 Tryz.underlying24 hj jz0 jz1 jz2 (by rfl) (by decide) (.slice (some ⟨w3.heap.size, 0, none⟩) 0 0) 0 [] (by rfl) (emp1 w3 32 4) (some ⟨g, 0, none⟩) i cb (flVals (gs.take i)) (by rfl) L1.out (fun h => nomatch h) N1.out (flVals_one _) M1.out M2.out (belA w3 _).size ?_; intro v4 w4 hown4 hgrow4 hat4; obtain ⟨a4, c4, hv4, -⟩ := owns_slice hown4; subst hv4; have BW4 := hide (Below.grown (belA w3 _) hgrow4 (belA w3 _).size (fun q hq => (World.ownsRow.lt (emp1 w3 32 4) q hq).1)); have OW4 := hide hown4; have x1c := cell_later BW4.out X1.out; clear hown4 hgrow4 hat4 hmk mk0)
          | (refine step_append_any (by rfl) _ _ 24 (by rfl) w3.heap.size 32 j0 (.agg #[.string ⟨#[]⟩, .int .i64 0, .int .i64 0, .slice none 0 0]) 4 56 Tryz.underlying24 hj jz0 jz1 jz2 (by rfl) (by decide) (.slice a4 (0 + i) c4) (0 + i) ([] ++ flVals (gs.take i)) (by simp [Act.eval, Act.put]) OW4.out (some A) (fs.length - jj) (cb - jj) (flVals (gs.drop (i + 1))) (by simp [Act.eval, Act.put]) L2'.out (fun h => nomatch h) (N2'.out _ BW4.out) (flVals_one _) M3'.out M4'.out BW4.out.size ?_; intro v5 w5 hown5 hgrow5 hat5; obtain ⟨a5, c5, hv5, -⟩ := owns_slice hown5; subst hv5; have BW5 := hide (Below.grown BW4.out hgrow5 BW4.out.size (fun q hq => (World.ownsRow.lt OW4.out q hq).1)); have OW5 := hide hown5; obtain ⟨z0, z1, z2, q0, q1, q2⟩ := (K4.out.later BW5.out).cells; clear hown5 hgrow5 hat5)
          | (fail))
        all_goals
          go_wp2_with fail
          go_meet
          exact ⟨w5, a5, c5, by rw [show i + (fs.length - jj) = fs.length - 1 by have := HJ.out; have := HIP.out; omega], by have h := OW5.out; rw [show 0 + i + (fs.length - jj) = fs.length - 1 by have := HJ.out; have := HIP.out; omega, List.nil_append, ← flVals_append, ← List.eraseIdx_eq_take_drop_succ] at h; exact h, BW5⟩
      case rest =>
        obtain ⟨w5, a5, c5, hwc, OW5, BW5⟩ := hcut
        have K5 : Hid (BkAt wc w2.heap.size (.slice bc cs.length cc) (.slice a5 (fs.length - 1) c5) (.slice b' ss.length cb')) := by rw [hwc]; exact (K4.out.later BW5.out).set1 _
        have TX5 : Hid (TouchS (fun q => q = w2.heap.size) w5 wc) := by rw [hwc]; exact touch1_set (touchS_refl _ w5) 1 _
        have T5 := hide (touchS_trans (S := fun q => q = w2.heap.size) (touchS_trans (touchS_mono T4.out fun _ h => h.elim) (touchS_below BW5.out)) TX5.out)
        have R5 := hide (BkAt.touchS (S := fun q => q = w2.heap.size) (R4.out.later BW5.out) TX5.out (by omega))
        have B5 := hide ((below_two B4.out BW5.out).trans (below_ofS (S := fun q => q = w2.heap.size) TX5.out (by have := BW5.out.size; have := B4.out.size; omega) (fun q hq => by omega)))
        have hs5 : w3.heap.size ≤ wc.heap.size := by have := BW5.out.size; have := TX5.out.size; omega
        have HIS : Hid (i < ss.length) := by show _ < _; have := HIP.out; have := HLS.out; omega
        have hOI : World.ownsRow wc w1.heap.size 3 1 (.slice b' ss.length cb') ss.length (intVals ss) := owns_keep C2.out.own fun q hq => T5.out.block q (World.ownsRow.lt C2.out.own q hq).2 (fun hh => by have h9 := (World.ownsRow.lt C2.out.own q hq).2; have hh' : q = w2.heap.size := hh; omega)
        have OF5 : Hid (World.ownsRow wc w3.heap.size 32 4 (.slice a5 (fs.length - 1) c5) (fs.length - 1) (flVals (gs.eraseIdx i))) := owns_keep OW5.out fun q hq => TX5.out.block q (World.ownsRow.lt OW5.out q hq).2 (fun hh => by have h9 := (World.ownsRow.lt OW5.out q hq).1; have hh' : q = w2.heap.size := hh; omega)
        obtain ⟨gi, hbg, hgi1, hgi2⟩ := owns_some hOI (by have := HIS.out; omega)
        subst hbg
        have OI := hide hOI
        clear hwc hOI x1 x1a x1b
        have hn5 : wc.heap.size = wc.heap.size := rfl
        obtain ⟨_, _, e9, hcb9, _, _, _⟩ := owns_slice OI.out
        have hcb' : ss.length ≤ cb' := by simp at e9; omega
        clear e9 hcb9 hn5
        have hjs : jj ≤ ss.length := by have := HJ.out; have := HIS.out; omega
        have his : i ≤ ss.length := by have := HIS.out; omega
        have hicb' : i ≤ cb' := by omega
        have hjcb' : jj ≤ cb' := by omega
        have Q1 := hide (row_piecesI OI.out i his).1
        have Q2 := hide (row_piecesI OI.out jj hjs).2
        have l1 : Hid ((intVals (ss.take i)).length = i * 1) := by show _ = _; rw [intVals_len, List.length_take, Nat.min_eq_left his]
        have l2 : Hid ((intVals (ss.drop jj)).length = (ss.length - jj) * 1) := by show _ = _; rw [intVals_len, List.length_drop]
        have n1 : Hid (∀ ad, some (⟨gi, 0, none⟩ : Addr) = some ad → ∀ j u, (intVals (ss.take i))[j]? = some u → (wc.alloc (.cells #[] 3)).drew.cell? (ad.add j) = some u) := fun ad e j u hj => by
          cases e
          rw [Addr.add_lit, Nat.zero_add]
          exact cell_later (belA wc _) (Q1.out j u hj)
        obtain ⟨A2, hA2, n2⟩ : ∃ A : Addr, (if cb' = jj then some (⟨gi, 0, none⟩ : Addr) else some ⟨gi, jj, none⟩) = some A ∧ Hid (∀ X, Below wc.heap.size wc X → ∀ ad, some A = some ad → ∀ j u, (intVals (ss.drop jj))[j]? = some u → X.cell? (ad.add j) = some u) := by
          by_cases h : cb' = jj
          · refine ⟨⟨gi, 0, none⟩, by simp [h], fun X hX ad e j u hj => ?_⟩
            have := (List.getElem?_eq_some_iff.1 hj).1
            rw [l2.out] at this
            omega
          · refine ⟨⟨gi, jj, none⟩, by simp [h], fun X hX ad e j u hj => ?_⟩
            cases e
            rw [Addr.add_lit]
            exact cell_later hX (Q2.out j u hj)
        have m1 : Hid (0 + i ≤ maxLen) := by show _ ≤ _; have := HIP.out; have := HN8.out; unfold maxLen; omega
        have m2 : Hid ((0 + i) * 8 ≤ 140737488355328) := by show _ ≤ _; have := HIP.out; have := HN8.out; omega
        have m3 : Hid (0 + i + (ss.length - jj) ≤ maxLen) := by show _ ≤ _; have := HLS.out; have := HIP.out; have := HN8.out; unfold maxLen; omega
        have m4 : Hid ((0 + i + (ss.length - jj)) * 8 ≤ 140737488355328) := by show _ ≤ _; have := HLS.out; have := HIP.out; have := HN8.out; omega
        obtain ⟨i0, hi, iz0, iz1, iz2⟩ := info_parts info_int
        have X2' := hide K5.out.cells.2.2.1
        have x2 := X2'.out
        have x2a : wc.drew.cell? ⟨w2.heap.size, 2, none⟩ = some (.slice (some ⟨gi, 0, none⟩) ss.length cb') := x2
        have x2b : (wc.alloc (.cells #[] 3)).drew.cell? ⟨w2.heap.size, 2, none⟩ = some (.slice (some ⟨gi, 0, none⟩) ss.length cb') := cell_later (belA wc _) x2
        have mk1 := trivial
        have EA2 := hide hA2
        clear hcb'
        have PACK : Hid (∀ (w7 : World) (a7 : Option Addr) (c7 : Nat) (wd : World), wd = w7.setCell ⟨w2.heap.size, 2, none⟩ (.slice a7 (ss.length - 1) c7) → World.ownsRow w7 wc.heap.size 3 1 (.slice a7 (ss.length - 1) c7) (ss.length - 1) (intVals (ss.eraseIdx i)) → Below wc.heap.size wc w7 →
            CopyIn w1.heap.size wd bc a5 a7 c7 cs (fs.eraseIdx i) (ss.eraseIdx i) ∧ BkAt wd w2.heap.size (.slice bc cs.length cc) (.slice a5 (fs.length - 1) c5) (.slice a7 (ss.length - 1) c7) ∧ BkAt wd (w.heap.size + 1) (.slice none 0 0) (.slice none 0 0) (.slice none 0 0) ∧ Below w.heap.size w wd ∧ w3.heap.size ≤ wd.heap.size) := fun w7 a7 c7 wd e ow bw => by
          have TX7 : TouchS (fun q => q = w2.heap.size) w7 wd := by rw [e]; exact touch1_set (touchS_refl _ w7) 2 _
          have hs7 := bw.size
          have hs8 := TX7.size
          exact ⟨drop_copy C2.out GS.out KP.out (fun f hf => (HV.out f hf).1) hs2 hs3 HIP.out HLS.out T5.out hs5 OF5.out bw ow TX7, by rw [e]; exact (K5.out.later bw).set2 _, BkAt.touchS (S := fun q => q = w2.heap.size) (R5.out.later bw) TX7 (by omega), (below_two B5.out bw).trans (below_ofS (S := fun q => q = w2.heap.size) TX7 (by have := B5.out.size; omega) (fun q hq => by omega)), by omega⟩
        go_upto_region 8 with fail
        go_cut [] from 33 (fun wd => ∃ (w7 : World) (a7 : Option Addr) (c7 : Nat), wd = w7.setCell ⟨w2.heap.size, 2, none⟩ (.slice a7 (ss.length - 1) c7) ∧ Hid (World.ownsRow w7 wc.heap.size 3 1 (.slice a7 (ss.length - 1) c7) (ss.length - 1) (intVals (ss.eraseIdx i))) ∧ Hid (Below wc.heap.size wc w7))
        case first =>
          go_region_law (first
            | (have hmk := mk1; refine step_append_any (by rfl) _ _ 27 (by rfl) wc.heap.size 3 i0 (.int .i64 0) 1 8 Tryz.underlying27 hi iz0 iz1 iz2 (by rfl) (by decide) (.slice (some ⟨wc.heap.size, 0, none⟩) 0 0) 0 [] (by rfl) (emp1 wc 3 1) (some ⟨gi, 0, none⟩) i cb' (intVals (ss.take i)) (by rfl) l1.out (fun h => nomatch h) n1.out (intVals_one _) m1.out m2.out (belA wc _).size ?_; intro v6 w6 hown6 hgrow6 hat6; obtain ⟨a6, c6, hv6, -⟩ := owns_slice hown6; subst hv6; have BW6 := hide (Below.grown (belA wc _) hgrow6 (belA wc _).size (fun q hq => (World.ownsRow.lt (emp1 wc 3 1) q hq).1)); have OW6 := hide hown6; have x2c := cell_later BW6.out X2'.out; clear hown6 hgrow6 hat6 hmk mk1)
            | (refine step_append_any (by rfl) _ _ 27 (by rfl) wc.heap.size 3 i0 (.int .i64 0) 1 8 Tryz.underlying27 hi iz0 iz1 iz2 (by rfl) (by decide) (.slice a6 (0 + i) c6) (0 + i) ([] ++ intVals (ss.take i)) (by simp [Act.eval, Act.put]) OW6.out (some A2) (ss.length - jj) (cb' - jj) (intVals (ss.drop jj)) (by simp [Act.eval, Act.put]) l2.out (fun h => nomatch h) (n2.out _ BW6.out) (intVals_one _) m3.out m4.out BW6.out.size ?_; intro v7 w7 hown7 hgrow7 hat7; obtain ⟨a7, c7, hv7, -⟩ := owns_slice hown7; subst hv7; have BW7 := hide (Below.grown BW6.out hgrow7 BW6.out.size (fun q hq => (World.ownsRow.lt OW6.out q hq).1)); have OW7 := hide hown7; obtain ⟨z0, z1, z2, q0, q1, q2⟩ := (K5.out.later BW7.out).cells; clear hown7 hgrow7 hat7)
            | (fail))
          all_goals
            go_wp2_with fail
            go_meet
            exact ⟨w7, a7, c7, by rw [show i + (ss.length - jj) = ss.length - 1 by have := HJ.out; have := HIS.out; omega], by have h := OW7.out; rw [show 0 + i + (ss.length - jj) = ss.length - 1 by have := HJ.out; have := HIS.out; omega, List.nil_append, ← intVals_append, HJ.out, ← List.eraseIdx_eq_take_drop_succ] at h; exact h, BW7⟩
        case rest =>
          obtain ⟨w7, a7, c7, hwd, OW7, BW7⟩ := hcut
          obtain ⟨hcp, hk, hr, hb, hsz⟩ := PACK.out w7 a7 c7 _ hwd OW7.out BW7.out
          have C6 := hide hcp
          have K6 := hide hk
          have R6 := hide hr
          have B6 := hide hb
          have eF := hide (List.length_eraseIdx_of_lt HIP.out)
          have eS := hide (List.length_eraseIdx_of_lt HIS.out)
          have SM := hide (drop_sm HM.out i)
          clear hwd OW7 BW7 hcp hk hr hb PACK x2 x2a x2b
          obtain ⟨x0, x1, x2, -⟩ := K6.out.cells
          have L6 := l4Compress_any w1.heap.size bc a5 a7 cc c5 c7 cs _ _ _ C6.out SM.out HDF.out
          unfold bkV at L6
          rw [eF.out, eS.out] at L6
          have HL6 := hide L6
          clear L6
          go_wp2_with fail
          refine HL6.out.mono ?_
          rintro e w8 ⟨rfl, hcp, ht⟩
          have C8 := hide hcp
          have hin8 : Hid (∀ q, InN (ss.length - 1) a7 q → w1.heap.size ≤ q) := fun q hq => (C6.out.inI (by rw [eS.out]; exact hq)).1
          have R8 := hide (R6.out.touchS ht (fun hq => by have := hin8.out _ hq; omega))
          have B8 := hide (B6.out.trans (below_ofS ht (by have := B6.out.size; omega) (fun q hq => by have := hin8.out _ hq; omega)))
          have hs8 := ht.size
          clear hcp ht
          have L4 := l4Copy_any bc a5 a7 cc c5 c7 cs (fs.eraseIdx i) (compV cs (fs.eraseIdx i) (ss.eraseIdx i)) w8 C8.out.book ⟨SM.out.nc, SM.out.nf, by rw [HCL.out]; exact SM.out.ns, SM.out.sc, SM.out.vl, SM.out.sf⟩ (fun f hf => HV.out f (List.mem_of_mem_eraseIdx hf)) Z2.out (fun e => by have := C8.out.own; rw [e] at this; exact own_nil this)
          unfold bkV at L4
          rw [HCL.out, eF.out, eS.out] at L4
          have HL4 := hide L4
          clear L4
          go_wp2_with fail
          refine HL4.out.mono ?_
          rintro e w9 ⟨dc, d, d', dd, db, db', rfl, hcp, -, hb4⟩
          have C9 := hide hcp
          have R9 := hide (R8.out.later hb4)
          have B9 := hide (below_two B8.out hb4)
          have hs9 := hb4.size
          clear hcp hb4
          obtain ⟨k0, k1, k2, t0, t1, t2⟩ := R9.out.cells
          have RX := hide (R9.out.set3 (.slice dc cs.length dd) (.slice d (fs.length - 1) db) (.slice d' (ss.length - 1) db'))
          have TX := hide (set3_touch w9 (w.heap.size + 1) (.slice dc cs.length dd) (.slice d (fs.length - 1) db) (.slice d' (ss.length - 1) db'))
          go_wp2
          generalize ((w9.setCell ⟨w.heap.size + 1, 0, none⟩ (.slice dc cs.length dd)).setCell ⟨w.heap.size + 1, 1, none⟩ (.slice d (fs.length - 1) db)).setCell ⟨w.heap.size + 1, 2, none⟩ (.slice d' (ss.length - 1) db') = Y at *
          obtain ⟨y0, y1, y2, -⟩ := RX.out.cells
          have hfar : ∀ Z, TouchS (fun q => q < w.heap.size) Y Z → BookIn Z dc d d' cs (fs.eraseIdx i) (compV cs (fs.eraseIdx i) (ss.eraseIdx i)) := fun Z hZ => by
            have tz := touchS_trans (touchS_mono (T := fun q => q = w.heap.size + 1 ∨ q < w.heap.size) TX.out fun _ h => .inl h) (touchS_mono (T := fun q => q = w.heap.size + 1 ∨ q < w.heap.size) hZ fun _ h => .inr h)
            have hr := C9.out.rest Z (touchS_mono tz fun k hk => .inl (by omega))
            have hi : IntsIn Z d' (compV cs (fs.eraseIdx i) (ss.eraseIdx i)) := ints_touchS (ints_of C9.out.own) tz (fun q hq hh => by have := C9.out.inI hq; omega)
            exact ⟨hr.1, hr.2, hi⟩
          exact bodyPost_ret (v := .tuple #[bkV dc d d' dd db db' cs (fs.eraseIdx i) (compV cs (fs.eraseIdx i) (ss.eraseIdx i)), .int .i64 0]) (by simp only [bkV, HCL.out, eF.out, eS.out]; simp [results, Tryz.results7, go_sem, y0, y1, y2]) rfl ⟨dc, d, d', dd, db, db', by rw [E2.out, E3.out, E4.out], by rw [E2.out, E3.out]; exact hfar, B9.out.trans (below_ofS (S := fun q => q = w.heap.size + 1) TX.out (by omega) (fun q hq => by omega))⟩
theorem specDrop_all (nm : ByteArray) (ac a a' : Option Addr) (capc cap cap' : Nat) (cs : List (ByteArray × Int)) (fs : List Fli) (ss : List Int) (w : World) (hb : BookIn w ac a a' cs fs ss) (hm : BookSm cs fs ss) :
    Calls Tryz.prog 7 #[bkV ac a a' capc cap cap' cs fs ss, .string nm] w fun e w' => ∃ bc b b' cc cb cb', e = .returned (.tuple #[bkV bc b b' cc cb cb' (okC cs fs ss) (dropF cs fs ss nm) (dropS cs fs ss nm), .int .i64 (dropK cs fs ss nm)]) ∧ BookIn w' bc b b' (okC cs fs ss) (dropF cs fs ss nm) (dropS cs fs ss nm) ∧ Below w.heap.size w w' :=
  (specDrop_far nm ac a a' capc cap cap' cs fs ss w hb hm).mono fun _ w' ⟨bc, b, b', cc, cb, cb', h1, h2, h3⟩ => ⟨bc, b, b', cc, cb, cb', h1, h2 w' (touchS_below (Below.refl _ _)), h3⟩
theorem specDrop_any (nm : ByteArray) (ac a a' : Option Addr) (capc cap cap' : Nat) (cs : List (ByteArray × Int)) (fs : List Fli) (ss : List Int) (w : World) (hb : BookIn w ac a a' cs fs ss) (hm : BookSm cs fs ss) (_ : ac = none → capc = 0) (_ : a' = none → cap' = 0) :
    Calls Tryz.prog 7 #[bkV ac a a' capc cap cap' cs fs ss, .string nm] w fun e w' => ∃ bc b b' cc cb cb', e = .returned (.tuple #[bkV bc b b' cc cb cb' (okC cs fs ss) (dropF cs fs ss nm) (dropS cs fs ss nm), .int .i64 (dropK cs fs ss nm)]) ∧ BookIn w' bc b b' (okC cs fs ss) (dropF cs fs ss nm) (dropS cs fs ss nm) ∧ Below w.heap.size w w' :=
  specDrop_all nm ac a a' capc cap cap' cs fs ss w hb hm
end Go.Proofs.YtciacofibljmoaaGreatDoor
