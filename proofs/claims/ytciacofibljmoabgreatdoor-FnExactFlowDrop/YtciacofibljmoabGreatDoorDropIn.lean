/- A flight goes, the program's way: what happens to the book. -/
import Derived.Test.YtciacofibljmoabGreatDoorDropping
import Derived.Handy
namespace Go.Proofs.YtciacofibljmoabGreatDoor
open Go.RowKit

/-- What FlowDrop answers. -/
def dropF (cs : List (ByteArray × Int)) (fs : List Fli) (ss : List Int) (nm : ByteArray) : List Fli := if fitsB cs fs ss = true then (if thereB fs nm = true then fs.eraseIdx (placeV fs nm) else fs) else []
def dropS (cs : List (ByteArray × Int)) (fs : List Fli) (ss : List Int) (nm : ByteArray) : List Int := if fitsB cs fs ss = true then (if thereB fs nm = true then compV cs (fs.eraseIdx (placeV fs nm)) (ss.eraseIdx (placeV fs nm)) else ss) else []
def dropK (cs : List (ByteArray × Int)) (fs : List Fli) (ss : List Int) (nm : ByteArray) : Int := if fitsB cs fs ss = true then (if thereB fs nm = true then 0 else 3) else 1
def whyV (k : Int) : Value := if k = 0 then .nilIface else .iface 97 (.int .i64 k)
theorem drop_sm {cs : List (ByteArray × Int)} {fs : List Fli} {ss : List Int} (h : BookSm cs fs ss) (i : Nat) : BookSm cs (fs.eraseIdx i) (ss.eraseIdx i) :=
  ⟨h.nc, Nat.le_trans (List.eraseIdx_sublist _ _).length_le h.nf, Nat.le_trans (List.eraseIdx_sublist _ _).length_le h.ns, h.sc, fun f hf => h.vl f (List.mem_of_mem_eraseIdx hf), fun f hf => h.sf f (List.mem_of_mem_eraseIdx hf)⟩

theorem dropClears (nm : ByteArray) (U : World) : (Instr.typeAssert (.iface 75 (.agg #[.string nm])) 92 110 true).run Tryz.prog U = .ok (.tuple #[.iface 75 (.agg #[.string nm]), .bool true]) U := by kernel_rfl

set_option maxRecDepth 100000 in
set_option maxHeartbeats 1600000 in
theorem changedDrop_any (nm : ByteArray) (ac a a' : Option Addr) (capc cap cap' : Nat) (cs : List (ByteArray × Int)) (fs : List Fli) (ss : List Int) (w : World) (hb : BookIn w ac a a' cs fs ss) (hm : BookSm cs fs ss) :
    Calls Tryz.prog 54 #[bkV ac a a' capc cap cap' cs fs ss, .iface 75 (.agg #[.string nm])] w fun e w' => ∃ bc b b' cc cb cb', e = .returned (.tuple #[bkV bc b b' cc cb cb' (okC cs fs ss) (dropF cs fs ss nm) (dropS cs fs ss nm), whyV (dropK cs fs ss nm)]) ∧ OwnBk w.heap.size w' bc b b' cc cb cb' (okC cs fs ss) (dropF cs fs ss nm) (dropS cs fs ss nm) ∧ Below w.heap.size w w' := by
  have HB := hide hb
  have HM := hide hm
  clear hb hm
  obtain ⟨W, hW, hWs, f0, r0, b0⟩ := bk_boxes w (.slice ac cs.length capc) (.slice a fs.length cap) (.slice a' ss.length cap')
  have HW := hide hW
  have F0 := hide f0
  have R0 := hide r0
  have B0 := hide b0
  clear hW f0 r0 b0
  cases hq : fitsB cs fs ss
  · have HQ := hide hq
    have e1 : okC cs fs ss = [] := by unfold okC; rw [hq]; rfl
    have e2 : dropF cs fs ss nm = [] := by unfold dropF; rw [hq]; rfl
    have e3 : dropS cs fs ss nm = [] := by unfold dropS; rw [hq]; rfl
    have e4 : whyV (dropK cs fs ss nm) = .iface 97 (.int .i64 1) := by unfold dropK; rw [hq]; rfl
    rw [e1, e2, e3, e4]
    clear hq e1 e2 e3 e4
    go_enter Tryz.func54, Tryz.ntmps54
    go_wp2_with fail
    rw [HW.out]
    refine (implBookOk_val ac a a' capc cap cap' cs fs ss _ HQ.out W (HB.out.later B0.out) HM.out).mono ?_
    rintro e w1 ⟨rfl, hb1⟩
    have R1 := hide (R0.out.later hb1)
    have B1 := hide (below_two B0.out hb1)
    have hs1 := hb1.size
    obtain ⟨k0, k1, k2, t0, t1, t2⟩ := R1.out.cells
    have RX := hide (R1.out.set3 (.slice none 0 0) (.slice none 0 0) (.slice none 0 0))
    have TX := hide (set3_touch w1 (w.heap.size + 1) (.slice none 0 0) (.slice none 0 0) (.slice none 0 0))
    clear hb1
    go_wp2
    generalize ((w1.setCell ⟨w.heap.size + 1, 0, none⟩ (.slice none 0 0)).setCell ⟨w.heap.size + 1, 1, none⟩ (.slice none 0 0)).setCell ⟨w.heap.size + 1, 2, none⟩ (.slice none 0 0) = Y at *
    obtain ⟨y0, y1, y2, -⟩ := RX.out.cells
    exact bodyPost_ret (v := .tuple #[bkV none none none 0 0 0 [] [] [], .iface 97 (.int .i64 1)]) (by simp [results, Tryz.results54, go_sem, y0, y1, y2]) rfl ⟨none, none, none, 0, 0, 0, rfl, ownBk_none _ _, B1.out.trans (below_ofS (S := fun q => q = w.heap.size + 1) TX.out (by omega) (fun q hq => by omega))⟩
  · have HQ := hide hq
    have e1 : okC cs fs ss = cs := by unfold okC; rw [hq]; rfl
    have e2 : dropF cs fs ss nm = (if thereB fs nm = true then fs.eraseIdx (placeV fs nm) else fs) := by unfold dropF; rw [hq]; rfl
    have e3 : dropS cs fs ss nm = (if thereB fs nm = true then compV cs (fs.eraseIdx (placeV fs nm)) (ss.eraseIdx (placeV fs nm)) else ss) := by unfold dropS; rw [hq]; rfl
    have e4 : dropK cs fs ss nm = (if thereB fs nm = true then 0 else 3) := by unfold dropK; rw [hq]; rfl
    rw [e1]
    have E2 := hide e2
    have E3 := hide e3
    have E4 := hide e4
    have HV : Hid (∀ f ∈ fs, 1 ≤ f.2.2.2.length) := fun f hf => by
      obtain ⟨i, hi, rfl⟩ := List.getElem_of_mem hf
      exact ((slots_bd (fits_slots hq)).2.2.2 i hi).2.2.2.1
    have HO := hide (flis_iff.1 (fits_iff.1 hq).2.1).2.2
    have HLS := hide (fits_iff.1 hq).2.2.1
    have HDF := hide (drop_fits hq (placeV fs nm))
    have HCL := hide (comp_len (drop_fits hq (placeV fs nm)))
    clear hq e1 e2 e3 e4
    go_enter Tryz.func54, Tryz.ntmps54
    go_wp2_with fail
    rw [HW.out]
    refine (implBookOk_val ac a a' capc cap cap' cs fs ss _ HQ.out W (HB.out.later B0.out) HM.out).mono ?_
    rintro e w1 ⟨rfl, hb1⟩
    have F1 := hide (F0.out.later hb1)
    have R1 := hide (R0.out.later hb1)
    have B1 := hide (below_two B0.out hb1)
    have hs1 := hb1.size
    obtain ⟨x0, x1, x2, -⟩ := F1.out.cells
    clear hb1
    go_wp2_with fail
    refine (copyBook_any ac a a' capc cap cap' cs fs ss w1 (HB.out.later B1.out) HM.out HV.out).mono ?_
    rintro e w2 ⟨bc, b, b', cc, cb, cb', rfl, hown, hb2⟩
    have R2 := hide (R1.out.later hb2)
    have B2 := hide (below_two B1.out hb2)
    have hs2 := hb2.size
    obtain ⟨V, hV, VB, BV⟩ : ∃ V, w2.alloc (.cells #[.slice bc cs.length cc, .slice b fs.length cb, .slice b' ss.length cb'] 35) = V ∧ BkAt V w2.heap.size (.slice bc cs.length cc) (.slice b fs.length cb) (.slice b' ss.length cb') ∧ Below w2.heap.size w2 V := ⟨_, rfl, BkAt.newAt w2 _ rfl _ _ _, (Below.refl _ _).alloc (Nat.le_refl _) _⟩
    have O2 := hide (hown.to.later BV)
    have R3 := hide (R2.out.later BV)
    have B3 := hide (below_two B2.out BV)
    have K3 := hide VB
    have HV2 := hide hV
    have hs3 := BV.size
    clear hb2 hown BV VB hV x0 x1 x2 R2
    go_wp2_with fail
    rw [HV2.out]
    cases hth : thereB fs nm
    · have e2 := E2.out
      have e3 := E3.out
      have e4 := E4.out
      rw [hth, if_neg (by simp)] at e2 e3 e4
      clear E2 E3 E4
      have E2 := hide e2
      have E3 := hide e3
      have E4 := hide e4
      clear e2 e3 e4
      refine (dropRefused_any nm bc b b' cc cb cb' cs fs ss V (O2.out.book.fl) HM.out.nf HO.out false hth).mono ?_
      rintro e w3 ⟨rfl, hb3⟩
      have O3 := hide (O2.out.later hb3)
      have R4 := hide (R3.out.later hb3)
      have K4 := hide (K3.out.later hb3)
      have B4 := hide (below_two B3.out hb3)
      have hs4 := hb3.size
      clear hb3 hth
      obtain ⟨x0, x1, x2, -⟩ := K4.out.cells
      obtain ⟨k0, k1, k2, t0, t1, t2⟩ := R4.out.cells
      have RX := hide (R4.out.set3 (.slice bc cs.length cc) (.slice b fs.length cb) (.slice b' ss.length cb'))
      have TX := hide (set3_touch w3 (w.heap.size + 1) (.slice bc cs.length cc) (.slice b fs.length cb) (.slice b' ss.length cb'))
      go_wp2
      generalize ((w3.setCell ⟨w.heap.size + 1, 0, none⟩ (.slice bc cs.length cc)).setCell ⟨w.heap.size + 1, 1, none⟩ (.slice b fs.length cb)).setCell ⟨w.heap.size + 1, 2, none⟩ (.slice b' ss.length cb') = Y at *
      obtain ⟨y0, y1, y2, -⟩ := RX.out.cells
      refine bodyPost_ret (v := .tuple #[bkV bc b b' cc cb cb' cs fs ss, .iface 97 (.int .i64 3)]) (by simp [results, Tryz.results54, go_sem, y0, y1, y2, bkV]) rfl ⟨bc, b, b', cc, cb, cb', by rw [E2.out, E3.out, E4.out]; rfl, by rw [E2.out, E3.out]; exact (O3.out.touch (S := fun q => q = w.heap.size + 1) TX.out (fun k h1 _ => by omega)).own.base (by omega), B4.out.trans (below_ofS (S := fun q => q = w.heap.size + 1) TX.out (by omega) (fun q hq => by omega))⟩
    · have HT := hide hth
      have e2 := E2.out
      have e3 := E3.out
      have e4 := E4.out
      rw [hth, if_pos rfl] at e2 e3 e4
      clear E2 E3 E4
      have E2 := hide e2
      have E3 := hide e3
      have E4 := hide e4
      clear e2 e3 e4
      refine (dropRefused_any nm bc b b' cc cb cb' cs fs ss V (O2.out.book.fl) HM.out.nf HO.out true hth).mono ?_
      rintro e w3 ⟨rfl, hb3⟩
      have O3 := hide (O2.out.later hb3)
      have R4 := hide (R3.out.later hb3)
      have K4 := hide (K3.out.later hb3)
      have B4 := hide (below_two B3.out hb3)
      have hs4 := hb3.size
      clear hb3 hth
      obtain ⟨x0, x1, x2, -⟩ := K4.out.cells
      go_wp2_with fail
      have hin : Hid (∀ q, (InN fs.length b q ∨ InN ss.length b' q) → w1.heap.size ≤ q ∧ q < w2.heap.size) := fun q hq => by
        obtain ⟨_, ⟨va, _, h3, _, h5⟩, _⟩ := O3.out
        exact h5 q (hq.elim (fun hh => .inr (.inl (.inl (by rw [h3]; exact hh)))) (fun hh => .inr (.inr hh)))
      refine (dropApplied_any nm w1.heap.size w2.heap.size bc b b' cc cb cb' cs fs ss w3 O3.out HM.out.nf HLS.out HO.out HT.out).mono ?_
      rintro e w4 ⟨rfl, hown, ht⟩
      have O4 := hide hown
      have R5 := hide (R4.out.touchS ht (fun hq => by have := hin.out _ hq; omega))
      have K5 := hide (K4.out.touchS ht (fun hq => by have := hin.out _ hq; omega))
      have B5 := hide (B4.out.trans (below_ofS ht (by omega) (fun q hq => by have := hin.out _ hq; omega)))
      have hs5 := ht.size
      clear hown ht x0 x1 x2
      obtain ⟨x0, x1, x2, y0, y1, y2⟩ := K5.out.cells
      obtain ⟨fs', hfs'⟩ : ∃ fs', fs' = fs.eraseIdx (placeV fs nm) := ⟨_, rfl⟩
      obtain ⟨ss', hss'⟩ : ∃ ss', ss' = ss.eraseIdx (placeV fs nm) := ⟨_, rfl⟩
      have O4' : Hid (OwnTo w1.heap.size w2.heap.size w4 bc b b' cc cb cb' cs fs' ss') := by rw [hfs', hss']; exact O4
      have DF : Hid (fitsB cs fs' ss' = true) := by rw [hfs', hss']; exact HDF
      have CL : Hid ((compV cs fs' ss').length = ss'.length) := by rw [hfs', hss']; exact HCL
      have SM : Hid (BookSm cs fs' ss') := by rw [hfs', hss']; exact drop_sm HM.out _
      have E2' : Hid (dropF cs fs ss nm = fs') := by rw [hfs']; exact E2
      have E3' : Hid (dropS cs fs ss nm = compV cs fs' ss') := by rw [hfs', hss']; exact E3
      clear O4 HDF HCL E2 E3
      rw [← hfs', ← hss']
      clear hfs' hss'
      obtain ⟨U, hU⟩ : ∃ U, ((w4.setCell ⟨w2.heap.size, 0, none⟩ (.slice bc cs.length cc)).setCell ⟨w2.heap.size, 1, none⟩ (.slice b fs'.length cb)).setCell ⟨w2.heap.size, 2, none⟩ (.slice b' ss'.length cb') = U := ⟨_, rfl⟩
      have K6 : Hid (BkAt U w2.heap.size (.slice bc cs.length cc) (.slice b fs'.length cb) (.slice b' ss'.length cb')) := by rw [← hU]; exact K5.out.set3 _ _ _
      have T6 : Hid (TouchS (fun q => q = w2.heap.size) w4 U) := by rw [← hU]; exact set3_touch w4 w2.heap.size _ _ _
      have HU := hide hU
      have O5 := hide (O4'.out.touch (S := fun q => q = w2.heap.size) T6.out (fun k h1 h2 => by omega))
      have R6 := hide (BkAt.touchS (S := fun q => q = w2.heap.size) R5.out T6.out (by omega))
      have B6 := hide (B5.out.trans (below_ofS (S := fun q => q = w2.heap.size) T6.out (by omega) (fun q hq => by omega)))
      have hs6 := T6.out.size
      clear hU
      go_upto_region 8 with fail
      rw [HU.out]
      clear x0 x1 x2 y0 y1 y2
      obtain ⟨x0, x1, x2, -⟩ := K6.out.cells
      have hta := dropClears nm U
      go_wp2_with fail
      refine (dropAhead_any nm w1.heap.size bc b b' cc cb cb' cs fs' ss' U O5.out.own SM.out DF.out).mono ?_
      rintro e w5 ⟨⟨v, rfl⟩, hown, ht⟩
      have hin2 : Hid (∀ q, InN ss'.length b' q → w1.heap.size ≤ q ∧ q < w2.heap.size) := fun q hq => by
        obtain ⟨_, ⟨va, _, h3, _, h5⟩, _⟩ := O5.out
        exact h5 q (.inr (.inr hq))
      have O6 := hide hown
      have K7 := hide (K6.out.touchS ht (fun hq => by have := hin2.out _ hq; omega))
      have R7 := hide (R6.out.touchS ht (fun hq => by have := hin2.out _ hq; omega))
      have B7 := hide (B6.out.trans (below_ofS ht (by omega) (fun q hq => by have := hin2.out _ hq; omega)))
      have hs7 := ht.size
      clear hown ht x0 x1 x2
      obtain ⟨x0, x1, x2, -⟩ := K7.out.cells
      obtain ⟨k0, k1, k2, t0, t1, t2⟩ := R7.out.cells
      have RX := hide (R7.out.set3 (.slice bc cs.length cc) (.slice b fs'.length cb) (.slice b' ss'.length cb'))
      have TX := hide (set3_touch w5 (w.heap.size + 1) (.slice bc cs.length cc) (.slice b fs'.length cb) (.slice b' ss'.length cb'))
      go_wp2
      generalize ((w5.setCell ⟨w.heap.size + 1, 0, none⟩ (.slice bc cs.length cc)).setCell ⟨w.heap.size + 1, 1, none⟩ (.slice b fs'.length cb)).setCell ⟨w.heap.size + 1, 2, none⟩ (.slice b' ss'.length cb') = Y at *
      obtain ⟨y0, y1, y2, -⟩ := RX.out.cells
      refine bodyPost_ret (v := .tuple #[bkV bc b b' cc cb cb' cs fs' (compV cs fs' ss'), .nilIface]) (by simp [results, Tryz.results54, go_sem, y0, y1, y2, bkV]; exact CL.out.symm) rfl ⟨bc, b, b', cc, cb, cb', by rw [E2'.out, E3'.out, E4.out]; rfl, by rw [E2'.out, E3'.out]; exact (O6.out.touch (S := fun q => q = w.heap.size + 1) TX.out (fun k h1 _ => by omega)).base (by omega), B7.out.trans (below_ofS (S := fun q => q = w.heap.size + 1) TX.out (by omega) (fun q hq => by omega))⟩
end Go.Proofs.YtciacofibljmoabGreatDoor
