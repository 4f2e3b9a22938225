/- FlowCompress, the document's way, walked. -/
import Derived.Test.YtciacofibljmoabGreatDocs
import Derived.Test.YtciacofibljmoabGreatRounds
namespace Go.Proofs.YtciacofibljmoabGreat
open Go.RowKit

theorem own_nil {w : World} {base : Nat} {t : TypeId} {sz n c : Nat} {xs : List Value} (h : w.ownsRow base t sz (.slice none n c) n xs) : c = 0 := by
  rcases h.2 with ⟨h0, _⟩ | ⟨g, cap, cur, e, _⟩
  · simp at h0; exact h0.2
  · simp at e

set_option maxRecDepth 100000 in
set_option maxHeartbeats 1600000 in
theorem specCompress_any (ac a a' : Option Addr) (capc cap cap' : Nat) (cs : List (ByteArray × Int)) (fs : List Fli) (ss : List Int) (w : World) (hb : BookIn w ac a a' cs fs ss) (hm : BookSm cs fs ss) (hzc : ac = none → capc = 0) (hzi : a' = none → cap' = 0) :
    Calls Tryz.prog 19 #[bkV ac a a' capc cap cap' cs fs ss] w fun e w' => ∃ bc b b' cc cb cb', e = .returned (bkV bc b b' cc cb cb' (okC cs fs ss) (okF cs fs ss) (okS cs fs ss)) ∧ BookIn w' bc b b' (okC cs fs ss) (okF cs fs ss) (okS cs fs ss) ∧ Below w.heap.size w w' := by
  have HB := hide hb
  have HM := hide hm
  have HZC := hide hzc
  have HZI := hide hzi
  clear hb hm hzc hzi
  obtain ⟨W, hW, hWs, f0, r0, b0⟩ := bk_boxes w (.slice ac cs.length capc) (.slice a fs.length cap) (.slice a' ss.length cap')
  have HW := hide hW
  have F0 := hide f0
  have R0 := hide r0
  have B0 := hide b0
  have HWs := hide hWs
  clear hW f0 r0 b0 hWs
  cases hq : fitsB cs fs ss
  · have HQ := hide hq
    have e1 : okC cs fs ss = [] := by unfold okC; rw [hq]; rfl
    have e2 : okF cs fs ss = [] := by unfold okF; rw [hq]; rfl
    have e3 : okS cs fs ss = [] := by unfold okS; rw [hq]; rfl
    rw [e1, e2, e3]
    clear hq e1 e2 e3
    go_enter Tryz.func19, Tryz.ntmps19
    go_wp2_with fail
    rw [HW.out]
    refine (specBookOk_val ac a a' capc cap cap' cs fs ss _ HQ.out W (HB.out.later B0.out) HM.out).mono ?_
    rintro e w1 ⟨rfl, hb1⟩
    have R1 := hide (R0.out.later hb1)
    have B1 := hide (below_two B0.out hb1)
    have hs1 : w.heap.size + 2 ≤ w1.heap.size := by have := hb1.size; have := HWs.out; omega
    obtain ⟨k0, k1, k2, t0, t1, t2⟩ := R1.out.cells
    have RX := hide (R1.out.set3 (.slice none 0 0) (.slice none 0 0) (.slice none 0 0))
    have TX := hide (set3_touch w1 (w.heap.size + 1) (.slice none 0 0) (.slice none 0 0) (.slice none 0 0))
    clear hb1
    go_wp2
    generalize ((w1.setCell ⟨w.heap.size + 1, 0, none⟩ (.slice none 0 0)).setCell ⟨w.heap.size + 1, 1, none⟩ (.slice none 0 0)).setCell ⟨w.heap.size + 1, 2, none⟩ (.slice none 0 0) = Y at *
    obtain ⟨y0, y1, y2, -⟩ := RX.out.cells
    exact bodyPost_ret (v := bkV none none none 0 0 0 [] [] []) (by simp [results, Tryz.results19, go_sem, y0, y1, y2]) rfl ⟨none, none, none, 0, 0, 0, rfl, (ownBk_none 0 _).book, B1.out.trans (below_ofS (S := fun q => q = w.heap.size + 1) TX.out (by omega) (fun q hq => by omega))⟩
  · have HQ := hide hq
    have e1 : okC cs fs ss = cs := by unfold okC; rw [hq]; rfl
    have e2 : okF cs fs ss = fs := by unfold okF; rw [hq]; rfl
    have e3 : okS cs fs ss = compV cs fs ss := by unfold okS; rw [hq]; rfl
    rw [e1, e2, e3]
    have HV : Hid (∀ f ∈ fs, 1 ≤ f.2.2.2.length ∧ f.2.2.2.length ≤ 1000) := fun f hf => by
      obtain ⟨i, hi, rfl⟩ := List.getElem_of_mem hf
      have := (slots_bd (fits_slots hq)).2.2.2 i hi
      exact ⟨this.2.2.2.1, by omega⟩
    have HCL := hide (comp_len hq)
    clear hq e1 e2 e3
    go_enter Tryz.func19, Tryz.ntmps19
    go_wp2_with fail
    rw [HW.out]
    refine (specBookOk_val ac a a' capc cap cap' cs fs ss _ HQ.out W (HB.out.later B0.out) HM.out).mono ?_
    rintro e w1 ⟨rfl, hb1⟩
    have F1 := hide (F0.out.later hb1)
    have R1 := hide (R0.out.later hb1)
    have B1 := hide (below_two B0.out hb1)
    have hs1 : w.heap.size + 2 ≤ w1.heap.size := by have := hb1.size; have := HWs.out; omega
    obtain ⟨x0, x1, x2, -⟩ := F1.out.cells
    clear hb1
    go_wp2_with fail
    refine (l4Copy_any ac a a' capc cap cap' cs fs ss w1 (HB.out.later B1.out) HM.out HV.out HZC.out HZI.out).mono ?_
    rintro e w2 ⟨bc, b, b', cc, cb, cb', rfl, hcp, hzc, hb2⟩
    have C2 := hide hcp
    have Z2 := hide hzc
    have R2 := hide (R1.out.later hb2)
    have B2 := hide (below_two B1.out hb2)
    have hs2 := hb2.size
    clear hcp hzc hb2 x0 x1 x2
    go_wp2_with fail
    refine (l4Compress_any w1.heap.size bc b b' cc cb cb' cs fs ss w2 C2.out HM.out HQ.out).mono ?_
    rintro e w3 ⟨rfl, hcp, ht⟩
    have C3 := hide hcp
    have hin : Hid (∀ q, InN ss.length b' q → w1.heap.size ≤ q ∧ q < w2.heap.size) := fun q hq => C2.out.inI hq
    have R3 := hide (R2.out.touchS ht (fun hq => by have := hin.out _ hq; omega))
    have B3 := hide (B2.out.trans (below_ofS ht (by omega) (fun q hq => by have := hin.out _ hq; omega)))
    have hs3 := ht.size
    clear hcp ht
    have L4 := l4Copy_any bc b b' cc cb cb' cs fs (compV cs fs ss) w3 C3.out.book ⟨HM.out.nc, HM.out.nf, by rw [HCL.out]; exact HM.out.ns, HM.out.sc, HM.out.vl, HM.out.sf⟩ HV.out Z2.out (fun e => by have := C3.out.own; rw [e] at this; exact own_nil this)
    unfold bkV at L4
    rw [HCL.out] at L4
    have HL4 := hide L4
    clear L4
    go_wp2_with fail
    refine HL4.out.mono ?_
    rintro e w4 ⟨dc, d, d', dd, db, db', rfl, hcp, -, hb4⟩
    have C4 := hide hcp
    have R4 := hide (R3.out.later hb4)
    have B4 := hide (below_two B3.out hb4)
    have hs4 := hb4.size
    clear hcp hb4
    obtain ⟨k0, k1, k2, t0, t1, t2⟩ := R4.out.cells
    have RX := hide (R4.out.set3 (.slice dc cs.length dd) (.slice d fs.length db) (.slice d' ss.length db'))
    have TX := hide (set3_touch w4 (w.heap.size + 1) (.slice dc cs.length dd) (.slice d fs.length db) (.slice d' ss.length db'))
    go_wp2
    generalize ((w4.setCell ⟨w.heap.size + 1, 0, none⟩ (.slice dc cs.length dd)).setCell ⟨w.heap.size + 1, 1, none⟩ (.slice d fs.length db)).setCell ⟨w.heap.size + 1, 2, none⟩ (.slice d' ss.length db') = Y at *
    obtain ⟨y0, y1, y2, -⟩ := RX.out.cells
    have hr := C4.out.rest Y (touchS_mono TX.out fun k hk => .inl (by omega))
    have hi : IntsIn Y d' (compV cs fs ss) := ints_touchS (ints_of C4.out.own) TX.out (fun q hq hh => by have := C4.out.inI hq; omega)
    exact bodyPost_ret (v := bkV dc d d' dd db db' cs fs (compV cs fs ss)) (by simp [results, Tryz.results19, go_sem, y0, y1, y2, bkV]; exact HCL.out.symm) rfl ⟨dc, d, d', dd, db, db', rfl, ⟨hr.1, hr.2, hi⟩, B4.out.trans (below_ofS (S := fun q => q = w.heap.size + 1) TX.out (by omega) (fun q hq => by omega))⟩

end Go.Proofs.YtciacofibljmoabGreat
