/- The methods of a flight that goes, walked. -/
import Derived.Test.YtciacofibljmoabGreatDoorStrikes
import Derived.Test.YtciacofibljmoabGreatDoorPlace
namespace Go.Proofs.YtciacofibljmoabGreatDoor
open Go.RowKit

theorem touchS_low {S S' : Nat → Prop} {w w' : World} (h : TouchS S w w') (hs : ∀ k, k < w.heap.size → S k → S' k) : TouchS S' w w' := ⟨h.os, h.tape, h.output, h.size, fun k hk hn => h.block k hk fun hh => hn (hs k hk hh)⟩
theorem BkAt.set1 {w : World} {F : Nat} {v0 v1 v2 : Value} (h : BkAt w F v0 v1 v2) (u : Value) : BkAt (w.setCell ⟨F, 1, none⟩ u) F v0 u v2 := by
  obtain ⟨f, h0, h1, h2, h3⟩ := h
  exact ⟨_, h0.set 1 _, by simpa using h1, by simp, by simpa using h3⟩
theorem BkAt.set2 {w : World} {F : Nat} {v0 v1 v2 : Value} (h : BkAt w F v0 v1 v2) (u : Value) : BkAt (w.setCell ⟨F, 2, none⟩ u) F v0 v1 u := by
  obtain ⟨f, h0, h1, h2, h3⟩ := h
  exact ⟨_, h0.set 2 _, by simpa using h1, by simpa using h2, by simp⟩
/-- The boxes of a method of a flight that goes: the name's, the book's. -/
theorem dr_boxes (w : World) (nm : ByteArray) (v0 v1 v2 : Value) : ∃ W, (w.alloc (.cells #[.string nm] 75)).alloc (.cells #[v0, v1, v2] 35) = W ∧ W.heap.size = w.heap.size + 2 ∧ W.cell? ⟨w.heap.size, 0, none⟩ = some (.string nm) ∧ BkAt W (w.heap.size + 1) v0 v1 v2 ∧ Below w.heap.size w W := by
  refine ⟨_, rfl, by simp, ?_, BkAt.newAt _ _ (by simp) _ _ _, ((Below.refl _ _).alloc (Nat.le_refl _) _).alloc (by simp) _⟩
  exact Lib.cell?_alloc_some _ ((World.rowIs_alloc w #[.string nm] 75 (fun _ => .string nm) (fun i hi => by simp at hi; subst hi; rfl)).cell (i := 0) (by simp))

set_option maxRecDepth 100000 in
set_option maxHeartbeats 1600000 in
theorem dropRefused_any (nm : ByteArray) (ac a a' : Option Addr) (capc cap cap' : Nat) (cs : List (ByteArray × Int)) (fs : List Fli) (ss : List Int) (w : World) (hc : FlightsIn w a fs) (hl : fs.length ≤ 1048576) (ho : InOrder fs) (b : Bool) (hb : thereB fs nm = b) :
    Calls Tryz.prog 164 #[.agg #[.string nm], bkV ac a a' capc cap cap' cs fs ss] w fun e w' => e = .returned (if b = true then .nilIface else .iface 97 (.int .i64 3)) ∧ Below w.heap.size w w' := by
  have HC := hide hc
  have HO := hide ho
  have HL := hide hl
  have HB := hide hb
  clear hc ho hl hb
  obtain ⟨W, hW, hWs, c0, f0, b0⟩ := dr_boxes w nm (.slice ac cs.length capc) (.slice a fs.length cap) (.slice a' ss.length cap')
  have HW := hide hW
  have B0 := hide b0
  clear hW f0 b0 c0
  go_enter Tryz.func164, Tryz.ntmps164
  go_wp2_with fail
  rw [HW.out]
  have P := placeOf_any a cap fs nm W (HC.out.later B0.out) HL.out HO.out
  rw [HB.out] at P
  refine P.mono ?_
  rintro e w1 ⟨rfl, hb1⟩
  have B1 := hide (below_two B0.out hb1)
  clear hb1 P
  cases b
  · go_wp2
    go_ret
    exact ⟨rfl, B1.out⟩
  · go_wp2
    go_ret
    exact ⟨rfl, B1.out⟩

set_option maxRecDepth 100000 in
set_option maxHeartbeats 1600000 in
theorem dropAhead_any (nm : ByteArray) (lo : Nat) (ac a a' : Option Addr) (capc cap cap' : Nat) (cs : List (ByteArray × Int)) (fs : List Fli) (ss : List Int) (w : World) (h : OwnBk lo w ac a a' capc cap cap' cs fs ss) (hm : BookSm cs fs ss) (hfit : fitsB cs fs ss = true) :
    Calls Tryz.prog 163 #[.agg #[.string nm], bkV ac a a' capc cap cap' cs fs ss] w fun e w' => (∃ v, e = .returned v) ∧ OwnBk lo w' ac a a' capc cap cap' cs fs (compV cs fs ss) ∧ TouchS (InN ss.length a') w w' := by
  have H := hide h
  have HM := hide hm
  have HF := hide hfit
  clear h hm hfit
  obtain ⟨W, hW, hWs, c0, f0, b0⟩ := dr_boxes w nm (.slice ac cs.length capc) (.slice a fs.length cap) (.slice a' ss.length cap')
  have HW := hide hW
  have B0 := hide b0
  clear hW f0 b0 c0
  go_enter Tryz.func163, Tryz.ntmps163
  go_wp2_with fail
  rw [HW.out]
  refine (compressIn_any lo ac a a' capc cap cap' cs fs ss W (H.out.later B0.out) HM.out HF.out).mono ?_
  rintro e w1 ⟨⟨v, rfl⟩, hown, ht⟩
  have O1 := hide hown
  have T1 := hide (touchS_trans (touchS_below (S := InN ss.length a') B0.out) ht)
  clear hown ht
  go_wp2
  exact bodyPost_end (v := .tuple #[]) (by simp [results, Tryz.results163, go_sem]) rfl ⟨⟨_, rfl⟩, O1.out, T1.out⟩
/-- The boxes of appliedTo: the name's, the book's, the answer's. -/
theorem ap_boxes (w : World) (nm : ByteArray) (v0 v1 v2 : Value) : ∃ W, ((w.alloc (.cells #[.string nm] 75)).alloc (.cells #[v0, v1, v2] 35)).alloc (.cells #[.slice none 0 0, .slice none 0 0, .slice none 0 0] 35) = W ∧ W.heap.size = w.heap.size + 3 ∧ W.cell? ⟨w.heap.size, 0, none⟩ = some (.string nm) ∧ BkAt W (w.heap.size + 1) v0 v1 v2 ∧ BkAt W (w.heap.size + 2) (.slice none 0 0) (.slice none 0 0) (.slice none 0 0) ∧ Below w.heap.size w W := by
  obtain ⟨W, hW, hs, hc, hb, hB⟩ := dr_boxes w nm v0 v1 v2
  rw [hW]
  exact ⟨_, rfl, by simp; omega, Lib.cell?_alloc_some _ hc, hb.later ((Below.refl _ _).alloc (Nat.le_refl _) _), BkAt.newAt _ _ hs _ _ _, hB.trans ((Below.refl _ _).alloc (by omega) _)⟩

set_option maxRecDepth 100000 in
set_option maxHeartbeats 1600000 in
theorem dropApplied_any (nm : ByteArray) (lo up : Nat) (ac a a' : Option Addr) (capc cap cap' : Nat) (cs : List (ByteArray × Int)) (fs : List Fli) (ss : List Int) (w : World) (h : OwnTo lo up w ac a a' capc cap cap' cs fs ss) (hl : fs.length ≤ 1048576) (hls : ss.length = fs.length) (ho : InOrder fs) (hb : thereB fs nm = true) :
    Calls Tryz.prog 162 #[.agg #[.string nm], bkV ac a a' capc cap cap' cs fs ss] w fun e w' => e = .returned (bkV ac a a' capc cap cap' cs (fs.eraseIdx (placeV fs nm)) (ss.eraseIdx (placeV fs nm))) ∧ OwnTo lo up w' ac a a' capc cap cap' cs (fs.eraseIdx (placeV fs nm)) (ss.eraseIdx (placeV fs nm)) ∧ TouchS (fun k => InN fs.length a k ∨ InN ss.length a' k) w w' := by
  obtain ⟨hp, _⟩ := (there_iff ho).1 hb
  obtain ⟨i, hi⟩ : ∃ i, placeV fs nm = i := ⟨_, rfl⟩
  rw [hi] at hp ⊢
  have hp' : i < ss.length := by omega
  have hup := h.le
  have HI := hide hi
  have H := hide h
  have HO := hide ho
  have HL := hide hl
  have HLS := hide hls
  obtain ⟨g, _, hg, -, hgc, -, hg1, hg2⟩ := h.rowF (show 0 < fs.length by omega)
  obtain ⟨gi, _, hgi, -, hgic, -, hgi1, hgi2⟩ := h.rowI (show 0 < ss.length by omega)
  subst hg hgi
  have hne : g ≠ gi := fun e => by
    obtain ⟨h1, ⟨va, h2, h3, h4, h5⟩, h6⟩ := h
    exact h2.fi g (.inl ⟨by omega, _, rfl, rfl⟩) ⟨by omega, _, rfl, by rw [e]⟩
  have HN := hide hne
  have GC := hide hgc
  have GIC := hide hgic
  have eF := hide (List.length_eraseIdx_of_lt hp)
  have eS := hide (List.length_eraseIdx_of_lt hp')
  clear h ho hl hls hi hb hne hgc hgic
  obtain ⟨W, hW, hWs, c0, f0, r0, b0⟩ := ap_boxes w nm (.slice ac cs.length capc) (.slice (some ⟨g, 0, none⟩) fs.length cap) (.slice (some ⟨gi, 0, none⟩) ss.length cap')
  have HW := hide hW
  have HWs := hide hWs
  have B0 := hide b0
  have F0 := hide f0
  have R0 := hide r0
  clear hW f0 b0 c0 r0 hWs
  go_enter Tryz.func162, Tryz.ntmps162
  go_wp2_with fail
  rw [HW.out]
  have P := placeOf_any (some ⟨g, 0, none⟩) cap fs nm W ((H.out.later B0.out).book.fl) HL.out HO.out
  rw [HI.out] at P
  refine P.mono ?_
  rintro e w1 ⟨rfl, hb1⟩
  have O1 := hide ((H.out.later B0.out).later hb1)
  have F1 := hide (F0.out.later hb1)
  have R1 := hide (R0.out.later hb1)
  have B1 := hide (below_two B0.out hb1)
  clear hb1 P
  obtain ⟨x0, x1, x2, -⟩ := F1.out.cells
  have hb : (i : Int) + 1 ≤ 1048577 := by have := HL.out; omega
  go_wp2_with fail
  obtain ⟨g', f, eg, hr, _, hone, _⟩ := O1.out.rowF (show 0 < fs.length by omega)
  simp at eg
  subst eg
  refine (deleteF_any g fs.length cap i f w1 hr hone GC.out hp).mono ?_
  rintro e w2 ⟨rfl, ⟨f', hr', hst⟩, ht, hsz⟩
  have O2 := hide (O1.out.strikeF hp rfl hr hr' hst ht)
  have F2 := hide (F1.out.touchS ht (by omega))
  have R2 := hide (R1.out.touchS ht (by omega))
  have T2 := hide ht
  clear hr hone hr' hst ht hsz x0 x1 x2
  obtain ⟨x0, x1, x2, y0, y1, y2⟩ := F2.out.cells
  have F3 := hide (F2.out.set1 (.slice (some ⟨g, 0, none⟩) (fs.length - 1) cap))
  have T3 := hide (touch1_set (touchS_refl (fun k => k = w.heap.size + 1) w2) 1 (.slice (some ⟨g, 0, none⟩) (fs.length - 1) cap))
  go_wp2_with fail
  obtain ⟨X, hX⟩ : ∃ X, w2.setCell ⟨w.heap.size + 1, 1, none⟩ (.slice (some ⟨g, 0, none⟩) (fs.length - 1) cap) = X := ⟨_, rfl⟩
  have HX := hide hX
  have F3' : Hid (BkAt X (w.heap.size + 1) (.slice ac cs.length capc) (.slice (some ⟨g, 0, none⟩) (fs.length - 1) cap) (.slice (some ⟨gi, 0, none⟩) ss.length cap')) := by rw [← hX]; exact F3
  have T3' : Hid (TouchS (fun k => k = w.heap.size + 1) w2 X) := by rw [← hX]; exact T3
  have O3 := hide (OwnTo.touch (S := fun k => k = w.heap.size + 1) O2.out T3'.out (fun k h1 h2 => by omega))
  have R3 := hide (BkAt.touchS (S := fun k => k = w.heap.size + 1) R2.out T3'.out (by omega))
  rw [hX]
  clear hX F3 T3 x0 x1 x2 y0 y1 y2
  obtain ⟨g', f, eg, hr, _, hone, _⟩ := O3.out.rowI (show 0 < ss.length by omega)
  simp at eg
  subst eg
  refine (deleteI_any gi ss.length cap' i f X hr hone GIC.out hp').mono ?_
  rintro e w4 ⟨rfl, ⟨f', hr', hst⟩, ht, hsz⟩
  have O4 := hide (O3.out.strikeI hp' rfl hr GIC.out hr' hst ht)
  have F4 := hide (F3'.out.touchS ht (by omega))
  have R4 := hide (R3.out.touchS ht (by omega))
  have T4 := hide ht
  clear hr hone hr' hst ht hsz
  obtain ⟨x0, x1, x2, y0, y1, y2⟩ := F4.out.cells
  obtain ⟨k0, k1, k2, t0, t1, t2⟩ := R4.out.cells
  obtain ⟨Y, hY⟩ : ∃ Y, w4.setCell ⟨w.heap.size + 1, 2, none⟩ (.slice (some ⟨gi, 0, none⟩) (ss.length - 1) cap') = Y := ⟨_, rfl⟩
  have F5 : Hid (BkAt Y (w.heap.size + 1) (.slice ac cs.length capc) (.slice (some ⟨g, 0, none⟩) (fs.length - 1) cap) (.slice (some ⟨gi, 0, none⟩) (ss.length - 1) cap')) := by rw [← hY]; exact F4.out.set2 _
  have T5 : Hid (TouchS (fun k => k = w.heap.size + 1) w4 Y) := by rw [← hY]; exact touch1_set (touchS_refl _ w4) 2 _
  have O5 := hide (OwnTo.touch (S := fun k => k = w.heap.size + 1) O4.out T5.out (fun k h1 h2 => by omega))
  have R5 := hide (BkAt.touchS (S := fun k => k = w.heap.size + 1) R4.out T5.out (by omega))
  have HY := hide hY
  clear hY
  go_upto_region 4 with fail
  rw [HY.out]
  clear x0 x1 x2 y0 y1 y2 k0 k1 k2 t0 t1 t2
  obtain ⟨x0, x1, x2, -⟩ := F5.out.cells
  obtain ⟨k0, k1, k2, t0, t1, t2⟩ := R5.out.cells
  have RX := hide (R5.out.set3 (.slice ac cs.length capc) (.slice (some ⟨g, 0, none⟩) (fs.length - 1) cap) (.slice (some ⟨gi, 0, none⟩) (ss.length - 1) cap'))
  have TX := hide (set3_touch Y (w.heap.size + 2) (.slice ac cs.length capc) (.slice (some ⟨g, 0, none⟩) (fs.length - 1) cap) (.slice (some ⟨gi, 0, none⟩) (ss.length - 1) cap'))
  go_wp2
  generalize ((Y.setCell ⟨w.heap.size + 2, 0, none⟩ (.slice ac cs.length capc)).setCell ⟨w.heap.size + 2, 1, none⟩ (.slice (some ⟨g, 0, none⟩) (fs.length - 1) cap)).setCell ⟨w.heap.size + 2, 2, none⟩ (.slice (some ⟨gi, 0, none⟩) (ss.length - 1) cap') = Z at *
  obtain ⟨z0, z1, z2, -⟩ := RX.out.cells
  have O6 := hide (OwnTo.touch (S := fun k => k = w.heap.size + 2) O5.out TX.out (fun k h1 h2 => by omega))
  refine bodyPost_ret (v := bkV ac (some ⟨g, 0, none⟩) (some ⟨gi, 0, none⟩) capc cap cap' cs (fs.eraseIdx i) (ss.eraseIdx i)) (by simp only [bkV, eF.out, eS.out]; simp [results, Tryz.results162, go_sem, z0, z1, z2]) rfl ⟨rfl, O6.out, ?_⟩
  have S : TouchS (fun k => k = g ∨ k = gi ∨ w.heap.size ≤ k) w Z :=
    touchS_trans (touchS_trans (touchS_trans (touchS_trans (touchS_trans (touchS_below B1.out) (touchS_low T2.out fun k _ h => .inl h)) (touchS_low T3'.out fun k _ h => .inr (.inr (by omega)))) (touchS_low T4.out fun k _ h => .inr (.inl h))) (touchS_low T5.out fun k _ h => .inr (.inr (by omega)))) (touchS_low TX.out fun k _ h => .inr (.inr (by omega)))
  refine touchS_low S fun k hk h => ?_
  rcases h with rfl | rfl | h
  · exact .inl ⟨by omega, _, rfl, rfl⟩
  · exact .inr ⟨by omega, _, rfl, rfl⟩
  · omega
end Go.Proofs.YtciacofibljmoabGreatDoor
