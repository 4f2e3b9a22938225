/- The methods of a flight that goes, walked. -/
import Derived.Test.YtciacofibljmoaaGreatDoorStrikes
import Derived.Test.YtciacofibljmoaaGreatDoorPlace
import Derived.Handy
namespace Go.Proofs.YtciacofibljmoaaGreatDoor
open Go.RowKit

theorem touchS_low {S S' : Nat → Prop} {w w' : World} (h : TouchS S w w') (hs : ∀ k, k < w.heap.size → S k → S' k) : TouchS S' w w' := ⟨h.os, h.tape, h.output, h.size, fun k hk hn => h.block k hk fun hh => hn (hs k hk hh)⟩
theorem BkAt.set1 {w : World} {F : Nat} {v0 v1 v2 : Value} (h : BkAt w F v0 v1 v2) (u : Value) : BkAt (w.setCell ⟨F, 1, none⟩ u) F v0 u v2 := by
  obtain ⟨f, h0, h1, h2, h3⟩ := h
  exact ⟨_, h0.set 1 _, by simpa using h1, by simp, by simpa using h3⟩
theorem BkAt.set2 {w : World} {F : Nat} {v0 v1 v2 : Value} (h : BkAt w F v0 v1 v2) (u : Value) : BkAt (w.setCell ⟨F, 2, none⟩ u) F v0 v1 u := by
  obtain ⟨f, h0, h1, h2, h3⟩ := h
  exact ⟨_, h0.set 2 _, by simpa using h1, by simpa using h2, by simp⟩
/-- The boxes of a method of a flight that goes: the name's, the book's. -/
theorem dr_boxes (w : World) (nm : ByteArray) (v0 v1 v2 : Value) : ∃ W, (w.alloc (.cells #[.string nm] 55)).alloc (.cells #[v0, v1, v2] 29) = W ∧ W.heap.size = w.heap.size + 2 ∧ W.cell? ⟨w.heap.size, 0, none⟩ = some (.string nm) ∧ BkAt W (w.heap.size + 1) v0 v1 v2 ∧ Below w.heap.size w W := by
  refine ⟨_, rfl, by simp, ?_, BkAt.newAt _ _ (by simp) _ _ _, ((Below.refl _ _).alloc (Nat.le_refl _) _).alloc (by simp) _⟩
  exact Lib.cell?_alloc_some _ ((World.rowIs_alloc w #[.string nm] 55 (fun _ => .string nm) (fun i hi => by simp at hi; subst hi; rfl)).cell (i := 0) (by simp))

set_option maxRecDepth 100000 in
set_option maxHeartbeats 1600000 in
theorem dropRefused_any (nm : ByteArray) (ac a a' : Option Addr) (capc cap cap' : Nat) (cs : List (ByteArray × Int)) (fs : List Fli) (ss : List Int) (w : World) (hc : FlightsIn w a fs) (hl : fs.length ≤ 1048576) (ho : InOrder fs) (b : Bool) (hb : thereB fs nm = b) :
    Calls Tryz.prog 135 #[.agg #[.string nm], bkV ac a a' capc cap cap' cs fs ss] w fun e w' => e = .returned (if b = true then .nilIface else .iface 83 (.int .i64 3)) ∧ Below w.heap.size w w' := by
  have HC := hide hc
  have HO := hide ho
  have HL := hide hl
  have HB := hide hb
  clear hc ho hl hb
  obtain ⟨W, hW, hWs, c0, f0, b0⟩ := dr_boxes w nm (.slice ac cs.length capc) (.slice a fs.length cap) (.slice a' ss.length cap')
  have HW := hide hW
  have B0 := hide b0
  clear hW f0 b0 c0
  go_enter Tryz.func135, Tryz.ntmps135
  go_wp2_with fail
  rw [HW.out]
  have P := placeOf_any a cap fs nm W (HC.out.later B0.out) HL.out HO.out
  rw [HB.out] at P
  refine P.mono ?_
  rintro e w1 ⟨rfl, hb1⟩
  have B1 := hide (below_two B0.out hb1)
  clear hb1 P
  cases b
  · go_wp2
    go_ret
    exact ⟨rfl, B1.out⟩
  · go_wp2
    go_ret
    exact ⟨rfl, B1.out⟩

set_option maxRecDepth 100000 in
set_option maxHeartbeats 1600000 in
theorem dropAhead_any (nm : ByteArray) (lo : Nat) (ac a a' : Option Addr) (capc cap cap' : Nat) (cs : List (ByteArray × Int)) (fs : List Fli) (ss : List Int) (w : World) (h : OwnBk lo w ac a a' capc cap cap' cs fs ss) (hm : BookSm cs fs ss) (hfit : fitsB cs fs ss = true) :
    Calls Tryz.prog 134 #[.agg #[.string nm], bkV ac a a' capc cap cap' cs fs ss] w fun e w' => (∃ v, e = .returned v) ∧ OwnBk lo w' ac a a' capc cap cap' cs fs (compV cs fs ss) ∧ TouchS (InN ss.length a') w w' := by
  have H := hide h
  have HM := hide hm
  have HF := hide hfit
  clear h hm hfit
  obtain ⟨W, hW, hWs, c0, f0, b0⟩ := dr_boxes w nm (.slice ac cs.length capc) (.slice a fs.length cap) (.slice a' ss.length cap')
  have HW := hide hW
  have B0 := hide b0
  clear hW f0 b0 c0
  go_enter Tryz.func134, Tryz.ntmps134
  go_wp2_with fail
  rw [HW.out]
  refine (compressIn_any lo ac a a' capc cap cap' cs fs ss W (H.out.later B0.out) HM.out HF.out).mono ?_
  rintro e w1 ⟨⟨v, rfl⟩, hown, ht⟩
  have O1 := hide hown
  have T1 := hide (touchS_trans (touchS_below (S := InN ss.length a') B0.out) ht)
  clear hown ht
  go_wp2
  exact bodyPost_end (v := .tuple #[]) (by simp [results, Tryz.results134, go_sem]) rfl ⟨⟨_, rfl⟩, O1.out, T1.out⟩
/-- The boxes of appliedTo: the name's, the book's, the answer's. -/
theorem ap_boxes (w : World) (nm : ByteArray) (v0 v1 v2 : Value) : ∃ W, ((w.alloc (.cells #[.string nm] 55)).alloc (.cells #[v0, v1, v2] 29)).alloc (.cells #[.slice none 0 0, .slice none 0 0, .slice none 0 0] 29) = W ∧ W.heap.size = w.heap.size + 3 ∧ W.cell? ⟨w.heap.size, 0, none⟩ = some (.string nm) ∧ BkAt W (w.heap.size + 1) v0 v1 v2 ∧ BkAt W (w.heap.size + 2) (.slice none 0 0) (.slice none 0 0) (.slice none 0 0) ∧ Below w.heap.size w W := by
  obtain ⟨W, hW, hs, hc, hb, hB⟩ := dr_boxes w nm v0 v1 v2
  rw [hW]
  exact ⟨_, rfl, by simp; omega, Lib.cell?_alloc_some _ hc, hb.later ((Below.refl _ _).alloc (Nat.le_refl _) _), BkAt.newAt _ _ hs _ _ _, hB.trans ((Below.refl _ _).alloc (by omega) _)⟩

set_option maxRecDepth 100000 in
set_option maxHeartbeats 1600000 in
theorem dropApplied_any (nm : ByteArray) (lo up : Nat) (ac a a' : Option Addr) (capc cap cap' : Nat) (cs : List (ByteArray × Int)) (fs : List Fli) (ss : List Int) (w : World) (h : OwnTo lo up w ac a a' capc cap cap' cs fs ss) (hl : fs.length ≤ 1048576) (hls : ss.length = fs.length) (ho : InOrder fs) (hb : thereB fs nm = true) :
    Calls Tryz.prog 133 #[.agg #[.string nm], bkV ac a a' capc cap cap' cs fs ss] w fun e w' => e = .returned (bkV ac a a' capc cap cap' cs (fs.eraseIdx (placeV fs nm)) (ss.eraseIdx (placeV fs nm))) ∧ OwnTo lo up w' ac a a' capc cap cap' cs (fs.eraseIdx (placeV fs nm)) (ss.eraseIdx (placeV fs nm)) ∧ TouchS (fun k => InN fs.length a k ∨ InN ss.length a' k) w w' := by
  obtain ⟨hp, _⟩ := (there_iff ho).1 hb
  obtain ⟨i, hi⟩ : ∃ i, placeV fs nm = i := ⟨_, rfl⟩
  rw [hi] at hp ⊢
  have hp' : i < ss.length := by omega
  have hup := h.le
  have HI := hide hi
  have H := hide h
  have HO := hide ho
  have HL := hide hl
  have HLS := hide hls
  obtain ⟨g, _, hg, -, hgc, -, hg1, hg2⟩ := h.rowF (show 0 < fs.length by omega)
  obtain ⟨gi, _, hgi, -, hgic, -, hgi1, hgi2⟩ := h.rowI (show 0 < ss.length by omega)
  subst hg hgi
  have hne : g ≠ gi := fun e => by
    obtain ⟨h1, ⟨va, h2, h3, h4, h5⟩, h6⟩ := h
    exact h2.fi g (.inl ⟨by omega, _, rfl, rfl⟩) ⟨by omega, _, rfl, by rw [e]⟩
  have HN := hide hne
  have GC := hide hgc
  have GIC := hide hgic
  have eF := hide (List.length_eraseIdx_of_lt hp)
  have eS := hide (List.length_eraseIdx_of_lt hp')
  clear h ho hl hls hi hb hne hgc hgic
  obtain ⟨W, hW, hWs, c0, f0, r0, b0⟩ := ap_boxes w nm (.slice ac cs.length capc) (.slice (some ⟨g, 0, none⟩) fs.length cap) (.slice (some ⟨gi, 0, none⟩) ss.length cap')
  have HW := hide hW
  have HWs := hide hWs
  have B0 := hide b0
  have F0 := hide f0
  have R0 := hide r0
  clear hW f0 b0 c0 r0 hWs
  go_enter Tryz.func133, Tryz.ntmps133
  go_wp2_with fail
  rw [HW.out]
  have P := placeOf_any (some ⟨g, 0, none⟩) cap fs nm W ((H.out.later B0.out).book.fl) HL.out HO.out
  rw [HI.out] at P
  refine P.mono ?_
  rintro e w1 ⟨rfl, hb1⟩
  have O1 := hide ((H.out.later B0.out).later hb1)
  have F1 := hide (F0.out.later hb1)
  have R1 := hide (R0.out.later hb1)
  have B1 := hide (below_two B0.out hb1)
  clear hb1 P
  obtain ⟨x0, x1, x2, -⟩ := F1.out.cells
  have hb : (i : Int) + 1 ≤ 1048577 := by have := HL.out; omega
  go_wp2_with fail
  obtain ⟨g', f, eg, hr, _, hone, _⟩ := O1.out.rowF (show 0 < fs.length by omega)
  simp at eg
  subst eg
  refine (deleteF_any g fs.length cap i f w1 hr hone GC.out hp).mono ?_
  rintro e w2 ⟨rfl, ⟨f', hr', hst⟩, ht, hsz⟩
  have O2 := hide (O1.out.strikeF hp rfl hr hr' hst ht)
  have F2 := hide (F1.out.touchS ht (by omega))
  have R2 := hide (R1.out.touchS ht (by omega))
  have T2 := hide ht
  clear hr hone hr' hst ht hsz x0 x1 x2
  obtain ⟨x0, x1, x2, y0, y1, y2⟩ := F2.out.cells
  have F3 := hide (F2.out.set1 (.slice (some ⟨g, 0, none⟩) (fs.length - 1) cap))
  have T3 := hide (touch1_set (touchS_refl (fun k => k = w.heap.size + 1) w2) 1 (.slice (some ⟨g, 0, none⟩) (fs.length - 1) cap))
  go_wp2_with fail
  obtain ⟨X, hX⟩ : ∃ X, w2.setCell ⟨w.heap.size + 1, 1, none⟩ (.slice (some ⟨g, 0, none⟩) (fs.length - 1) cap) = X := ⟨_, rfl⟩
  have HX := hide hX
  have F3' : Hid (BkAt X (w.heap.size + 1) (.slice ac cs.length capc) (.slice (some ⟨g, 0, none⟩) (fs.length - 1) cap) (.slice (some ⟨gi, 0, none⟩) ss.length cap')) := by rw [← hX]; exact F3
  have T3' : Hid (TouchS (fun k => k = w.heap.size + 1) w2 X) := by rw [← hX]; exact T3
  have O3 := hide (OwnTo.touch (S := fun k => k = w.heap.size + 1) O2.out T3'.out (fun k h1 h2 => by omega))
  have R3 := hide (BkAt.touchS (S := fun k => k = w.heap.size + 1) R2.out T3'.out (by omega))
  rw [hX]
  clear hX F3 T3 x0 x1 x2 y0 y1 y2
  obtain ⟨g', f, eg, hr, _, hone, _⟩ := O3.out.rowI (show 0 < ss.length by omega)
  simp at eg
  subst eg
  refine (deleteI_any gi ss.length cap' i f X hr hone GIC.out hp').mono ?_
  rintro e w4 ⟨rfl, ⟨f', hr', hst⟩, ht, hsz⟩
  have O4 := hide (O3.out.strikeI hp' rfl hr GIC.out hr' hst ht)
  have F4 := hide (F3'.out.touchS ht (by omega))
  have R4 := hide (R3.out.touchS ht (by omega))
  have T4 := hide ht
  clear hr hone hr' hst ht hsz
  obtain ⟨x0, x1, x2, y0, y1, y2⟩ := F4.out.cells
  obtain ⟨k0, k1, k2, t0, t1, t2⟩ := R4.out.cells
  obtain ⟨Y, hY⟩ : ∃ Y, w4.setCell ⟨w.heap.size + 1, 2, none⟩ (.slice (some ⟨gi, 0, none⟩) (ss.length - 1) cap') = Y := ⟨_, rfl⟩
  have F5 : Hid (BkAt Y (w.heap.size + 1) (.slice ac cs.length capc) (.slice (some ⟨g, 0, none⟩) (fs.length - 1) cap) (.slice (some ⟨gi, 0, none⟩) (ss.length - 1) cap')) := by rw [← hY]; exact F4.out.set2 _
  have T5 : Hid (TouchS (fun k => k = w.heap.size + 1) w4 Y) := by rw [← hY]; exact touch1_set (touchS_refl _ w4) 2 _
  have O5 := hide (OwnTo.touch (S := fun k => k = w.heap.size + 1) O4.out T5.out (fun k h1 h2 => by omega))
  have R5 := hide (BkAt.touchS (S := fun k => k = w.heap.size + 1) R4.out T5.out (by omega))
  have HY := hide hY
  clear hY
  go_upto_region 4 with fail
  rw [HY.out]
  clear x0 x1 x2 y0 y1 y2 k0 k1 k2 t0 t1 t2
  obtain ⟨x0, x1, x2, -⟩ := F5.out.cells
  obtain ⟨k0, k1, k2, t0, t1, t2⟩ := R5.out.cells
  have RX := hide (R5.out.set3 (.slice ac cs.length capc) (.slice (some ⟨g, 0, none⟩) (fs.length - 1) cap) (.slice (some ⟨gi, 0, none⟩) (ss.length - 1) cap'))
  have TX := hide (set3_touch Y (w.heap.size + 2) (.slice ac cs.length capc) (.slice (some ⟨g, 0, none⟩) (fs.length - 1) cap) (.slice (some ⟨gi, 0, none⟩) (ss.length - 1) cap'))
  go_wp2
  generalize ((Y.setCell ⟨w.heap.size + 2, 0, none⟩ (.slice ac cs.length capc)).setCell ⟨w.heap.size + 2, 1, none⟩ (.slice (some ⟨g, 0, none⟩) (fs.length - 1) cap)).setCell ⟨w.heap.size + 2, 2, none⟩ (.slice (some ⟨gi, 0, none⟩) (ss.length - 1) cap') = Z at *
  obtain ⟨z0, z1, z2, -⟩ := RX.out.cells
  have O6 := hide (OwnTo.touch (S := fun k => k = w.heap.size + 2) O5.out TX.out (fun k h1 h2 => by omega))
  refine bodyPost_ret (v := bkV ac (some ⟨g, 0, none⟩) (some ⟨gi, 0, none⟩) capc cap cap' cs (fs.eraseIdx i) (ss.eraseIdx i)) (by simp only [bkV, eF.out, eS.out]; simp [results, Tryz.results133, go_sem, z0, z1, z2]) rfl ⟨rfl, O6.out, ?_⟩
  have S : TouchS (fun k => k = g ∨ k = gi ∨ w.heap.size ≤ k) w Z :=
    touchS_trans (touchS_trans (touchS_trans (touchS_trans (touchS_trans (touchS_below B1.out) (touchS_low T2.out fun k _ h => .inl h)) (touchS_low T3'.out fun k _ h => .inr (.inr (by omega)))) (touchS_low T4.out fun k _ h => .inr (.inl h))) (touchS_low T5.out fun k _ h => .inr (.inr (by omega)))) (touchS_low TX.out fun k _ h => .inr (.inr (by omega)))
  refine touchS_low S fun k hk h => ?_
  rcases h with rfl | rfl | h
  · exact .inl ⟨by omega, _, rfl, rfl⟩
  · exact .inr ⟨by omega, _, rfl, rfl⟩
  · omega
end Go.Proofs.YtciacofibljmoaaGreatDoor

/- A flight goes, the program's way: what happens to the book. -/
namespace Go.Proofs.YtciacofibljmoaaGreatDoor
open Go.RowKit

/-- What FlowDrop answers. -/
def dropF (cs : List (ByteArray × Int)) (fs : List Fli) (ss : List Int) (nm : ByteArray) : List Fli := if fitsB cs fs ss = true then (if thereB fs nm = true then fs.eraseIdx (placeV fs nm) else fs) else []
def dropS (cs : List (ByteArray × Int)) (fs : List Fli) (ss : List Int) (nm : ByteArray) : List Int := if fitsB cs fs ss = true then (if thereB fs nm = true then compV cs (fs.eraseIdx (placeV fs nm)) (ss.eraseIdx (placeV fs nm)) else ss) else []
def dropK (cs : List (ByteArray × Int)) (fs : List Fli) (ss : List Int) (nm : ByteArray) : Int := if fitsB cs fs ss = true then (if thereB fs nm = true then 0 else 3) else 1
def whyV (k : Int) : Value := if k = 0 then .nilIface else .iface 83 (.int .i64 k)
theorem drop_sm {cs : List (ByteArray × Int)} {fs : List Fli} {ss : List Int} (h : BookSm cs fs ss) (i : Nat) : BookSm cs (fs.eraseIdx i) (ss.eraseIdx i) :=
  ⟨h.nc, Nat.le_trans (List.eraseIdx_sublist _ _).length_le h.nf, Nat.le_trans (List.eraseIdx_sublist _ _).length_le h.ns, h.sc, fun f hf => h.vl f (List.mem_of_mem_eraseIdx hf), fun f hf => h.sf f (List.mem_of_mem_eraseIdx hf)⟩

theorem dropClears (nm : ByteArray) (U : World) : (Instr.typeAssert (.iface 55 (.agg #[.string nm])) 78 109 true).run Tryz.prog U = .ok (.tuple #[.iface 55 (.agg #[.string nm]), .bool true]) U := by kernel_rfl

set_option maxRecDepth 100000 in
set_option maxHeartbeats 1600000 in
theorem changedDrop_any (nm : ByteArray) (ac a a' : Option Addr) (capc cap cap' : Nat) (cs : List (ByteArray × Int)) (fs : List Fli) (ss : List Int) (w : World) (hb : BookIn w ac a a' cs fs ss) (hm : BookSm cs fs ss) :
    Calls Tryz.prog 41 #[bkV ac a a' capc cap cap' cs fs ss, .iface 55 (.agg #[.string nm])] w fun e w' => ∃ bc b b' cc cb cb', e = .returned (.tuple #[bkV bc b b' cc cb cb' (okC cs fs ss) (dropF cs fs ss nm) (dropS cs fs ss nm), whyV (dropK cs fs ss nm)]) ∧ OwnBk w.heap.size w' bc b b' cc cb cb' (okC cs fs ss) (dropF cs fs ss nm) (dropS cs fs ss nm) ∧ Below w.heap.size w w' := by
  have HB := hide hb
  have HM := hide hm
  clear hb hm
  obtain ⟨W, hW, hWs, f0, r0, b0⟩ := bk_boxes w (.slice ac cs.length capc) (.slice a fs.length cap) (.slice a' ss.length cap')
  have HW := hide hW
  have F0 := hide f0
  have R0 := hide r0
  have B0 := hide b0
  clear hW f0 r0 b0
  cases hq : fitsB cs fs ss
  · have HQ := hide hq
    have e1 : okC cs fs ss = [] := by unfold okC; rw [hq]; rfl
    have e2 : dropF cs fs ss nm = [] := by unfold dropF; rw [hq]; rfl
    have e3 : dropS cs fs ss nm = [] := by unfold dropS; rw [hq]; rfl
    have e4 : whyV (dropK cs fs ss nm) = .iface 83 (.int .i64 1) := by unfold dropK; rw [hq]; rfl
    rw [e1, e2, e3, e4]
    clear hq e1 e2 e3 e4
    go_enter Tryz.func41, Tryz.ntmps41
    go_wp2_with fail
    rw [HW.out]
    refine (implBookOk_val ac a a' capc cap cap' cs fs ss _ HQ.out W (HB.out.later B0.out) HM.out).mono ?_
    rintro e w1 ⟨rfl, hb1⟩
    have R1 := hide (R0.out.later hb1)
    have B1 := hide (below_two B0.out hb1)
    have hs1 := hb1.size
    obtain ⟨k0, k1, k2, t0, t1, t2⟩ := R1.out.cells
    have RX := hide (R1.out.set3 (.slice none 0 0) (.slice none 0 0) (.slice none 0 0))
    have TX := hide (set3_touch w1 (w.heap.size + 1) (.slice none 0 0) (.slice none 0 0) (.slice none 0 0))
    clear hb1
    go_wp2
    generalize ((w1.setCell ⟨w.heap.size + 1, 0, none⟩ (.slice none 0 0)).setCell ⟨w.heap.size + 1, 1, none⟩ (.slice none 0 0)).setCell ⟨w.heap.size + 1, 2, none⟩ (.slice none 0 0) = Y at *
    obtain ⟨y0, y1, y2, -⟩ := RX.out.cells
    exact bodyPost_ret (v := .tuple #[bkV none none none 0 0 0 [] [] [], .iface 83 (.int .i64 1)]) (by simp [results, Tryz.results41, go_sem, y0, y1, y2]) rfl ⟨none, none, none, 0, 0, 0, rfl, ownBk_none _ _, B1.out.trans (below_ofS (S := fun q => q = w.heap.size + 1) TX.out (by omega) (fun q hq => by omega))⟩
  · have HQ := hide hq
    have e1 : okC cs fs ss = cs := by unfold okC; rw [hq]; rfl
    have e2 : dropF cs fs ss nm = (if thereB fs nm = true then fs.eraseIdx (placeV fs nm) else fs) := by unfold dropF; rw [hq]; rfl
    have e3 : dropS cs fs ss nm = (if thereB fs nm = true then compV cs (fs.eraseIdx (placeV fs nm)) (ss.eraseIdx (placeV fs nm)) else ss) := by unfold dropS; rw [hq]; rfl
    have e4 : dropK cs fs ss nm = (if thereB fs nm = true then 0 else 3) := by unfold dropK; rw [hq]; rfl
    rw [e1]
    have E2 := hide e2
    have E3 := hide e3
    have E4 := hide e4
    have HV : Hid (∀ f ∈ fs, 1 ≤ f.2.2.2.length) := fun f hf => by
      obtain ⟨i, hi, rfl⟩ := List.getElem_of_mem hf
      exact ((slots_bd (fits_slots hq)).2.2.2 i hi).2.2.2.1
    have HO := hide (flis_iff.1 (fits_iff.1 hq).2.1).2.2
    have HLS := hide (fits_iff.1 hq).2.2.1
    have HDF := hide (drop_fits hq (placeV fs nm))
    have HCL := hide (comp_len (drop_fits hq (placeV fs nm)))
    clear hq e1 e2 e3 e4
    go_enter Tryz.func41, Tryz.ntmps41
    go_wp2_with fail
    rw [HW.out]
    refine (implBookOk_val ac a a' capc cap cap' cs fs ss _ HQ.out W (HB.out.later B0.out) HM.out).mono ?_
    rintro e w1 ⟨rfl, hb1⟩
    have F1 := hide (F0.out.later hb1)
    have R1 := hide (R0.out.later hb1)
    have B1 := hide (below_two B0.out hb1)
    have hs1 := hb1.size
    obtain ⟨x0, x1, x2, -⟩ := F1.out.cells
    clear hb1
    go_wp2_with fail
    refine (copyBook_any ac a a' capc cap cap' cs fs ss w1 (HB.out.later B1.out) HM.out HV.out).mono ?_
    rintro e w2 ⟨bc, b, b', cc, cb, cb', rfl, hown, hb2⟩
    have R2 := hide (R1.out.later hb2)
    have B2 := hide (below_two B1.out hb2)
    have hs2 := hb2.size
    obtain ⟨V, hV, VB, BV⟩ : ∃ V, w2.alloc (.cells #[.slice bc cs.length cc, .slice b fs.length cb, .slice b' ss.length cb'] 29) = V ∧ BkAt V w2.heap.size (.slice bc cs.length cc) (.slice b fs.length cb) (.slice b' ss.length cb') ∧ Below w2.heap.size w2 V := ⟨_, rfl, BkAt.newAt w2 _ rfl _ _ _, (Below.refl _ _).alloc (Nat.le_refl _) _⟩
    have O2 := hide (hown.to.later BV)
    have R3 := hide (R2.out.later BV)
    have B3 := hide (below_two B2.out BV)
    have K3 := hide VB
    have HV2 := hide hV
    have hs3 := BV.size
    clear hb2 hown BV VB hV x0 x1 x2 R2
    go_wp2_with fail
    rw [HV2.out]
    cases hth : thereB fs nm
    · have e2 := E2.out
      have e3 := E3.out
      have e4 := E4.out
      rw [hth, if_neg (by simp)] at e2 e3 e4
      clear E2 E3 E4
      have E2 := hide e2
      have E3 := hide e3
      have E4 := hide e4
      clear e2 e3 e4
      refine (dropRefused_any nm bc b b' cc cb cb' cs fs ss V (O2.out.book.fl) HM.out.nf HO.out false hth).mono ?_
      rintro e w3 ⟨rfl, hb3⟩
      have O3 := hide (O2.out.later hb3)
      have R4 := hide (R3.out.later hb3)
      have K4 := hide (K3.out.later hb3)
      have B4 := hide (below_two B3.out hb3)
      have hs4 := hb3.size
      clear hb3 hth
      obtain ⟨x0, x1, x2, -⟩ := K4.out.cells
      obtain ⟨k0, k1, k2, t0, t1, t2⟩ := R4.out.cells
      have RX := hide (R4.out.set3 (.slice bc cs.length cc) (.slice b fs.length cb) (.slice b' ss.length cb'))
      have TX := hide (set3_touch w3 (w.heap.size + 1) (.slice bc cs.length cc) (.slice b fs.length cb) (.slice b' ss.length cb'))
      go_wp2
      generalize ((w3.setCell ⟨w.heap.size + 1, 0, none⟩ (.slice bc cs.length cc)).setCell ⟨w.heap.size + 1, 1, none⟩ (.slice b fs.length cb)).setCell ⟨w.heap.size + 1, 2, none⟩ (.slice b' ss.length cb') = Y at *
      obtain ⟨y0, y1, y2, -⟩ := RX.out.cells
      refine bodyPost_ret (v := .tuple #[bkV bc b b' cc cb cb' cs fs ss, .iface 83 (.int .i64 3)]) (by simp [results, Tryz.results41, go_sem, y0, y1, y2, bkV]) rfl ⟨bc, b, b', cc, cb, cb', by rw [E2.out, E3.out, E4.out]; rfl, by rw [E2.out, E3.out]; exact (O3.out.touch (S := fun q => q = w.heap.size + 1) TX.out (fun k h1 _ => by omega)).own.base (by omega), B4.out.trans (below_ofS (S := fun q => q = w.heap.size + 1) TX.out (by omega) (fun q hq => by omega))⟩
    · have HT := hide hth
      have e2 := E2.out
      have e3 := E3.out
      have e4 := E4.out
      rw [hth, if_pos rfl] at e2 e3 e4
      clear E2 E3 E4
      have E2 := hide e2
      have E3 := hide e3
      have E4 := hide e4
      clear e2 e3 e4
      refine (dropRefused_any nm bc b b' cc cb cb' cs fs ss V (O2.out.book.fl) HM.out.nf HO.out true hth).mono ?_
      rintro e w3 ⟨rfl, hb3⟩
      have O3 := hide (O2.out.later hb3)
      have R4 := hide (R3.out.later hb3)
      have K4 := hide (K3.out.later hb3)
      have B4 := hide (below_two B3.out hb3)
      have hs4 := hb3.size
      clear hb3 hth
      obtain ⟨x0, x1, x2, -⟩ := K4.out.cells
      go_wp2_with fail
      have hin : Hid (∀ q, (InN fs.length b q ∨ InN ss.length b' q) → w1.heap.size ≤ q ∧ q < w2.heap.size) := fun q hq => by
        obtain ⟨_, ⟨va, _, h3, _, h5⟩, _⟩ := O3.out
        exact h5 q (hq.elim (fun hh => .inr (.inl (.inl (by rw [h3]; exact hh)))) (fun hh => .inr (.inr hh)))
      refine (dropApplied_any nm w1.heap.size w2.heap.size bc b b' cc cb cb' cs fs ss w3 O3.out HM.out.nf HLS.out HO.out HT.out).mono ?_
      rintro e w4 ⟨rfl, hown, ht⟩
      have O4 := hide hown
      have R5 := hide (R4.out.touchS ht (fun hq => by have := hin.out _ hq; omega))
      have K5 := hide (K4.out.touchS ht (fun hq => by have := hin.out _ hq; omega))
      have B5 := hide (B4.out.trans (below_ofS ht (by omega) (fun q hq => by have := hin.out _ hq; omega)))
      have hs5 := ht.size
      clear hown ht x0 x1 x2
      obtain ⟨x0, x1, x2, y0, y1, y2⟩ := K5.out.cells
      obtain ⟨fs', hfs'⟩ : ∃ fs', fs' = fs.eraseIdx (placeV fs nm) := ⟨_, rfl⟩
      obtain ⟨ss', hss'⟩ : ∃ ss', ss' = ss.eraseIdx (placeV fs nm) := ⟨_, rfl⟩
      have O4' : Hid (OwnTo w1.heap.size w2.heap.size w4 bc b b' cc cb cb' cs fs' ss') := by rw [hfs', hss']; exact O4
      have DF : Hid (fitsB cs fs' ss' = true) := by rw [hfs', hss']; exact HDF
      have CL : Hid ((compV cs fs' ss').length = ss'.length) := by rw [hfs', hss']; exact HCL
      have SM : Hid (BookSm cs fs' ss') := by rw [hfs', hss']; exact drop_sm HM.out _
      have E2' : Hid (dropF cs fs ss nm = fs') := by rw [hfs']; exact E2
      have E3' : Hid (dropS cs fs ss nm = compV cs fs' ss') := by rw [hfs', hss']; exact E3
      clear O4 HDF HCL E2 E3
      rw [← hfs', ← hss']
      clear hfs' hss'
      obtain ⟨U, hU⟩ : ∃ U, ((w4.setCell ⟨w2.heap.size, 0, none⟩ (.slice bc cs.length cc)).setCell ⟨w2.heap.size, 1, none⟩ (.slice b fs'.length cb)).setCell ⟨w2.heap.size, 2, none⟩ (.slice b' ss'.length cb') = U := ⟨_, rfl⟩
      have K6 : Hid (BkAt U w2.heap.size (.slice bc cs.length cc) (.slice b fs'.length cb) (.slice b' ss'.length cb')) := by rw [← hU]; exact K5.out.set3 _ _ _
      have T6 : Hid (TouchS (fun q => q = w2.heap.size) w4 U) := by rw [← hU]; exact set3_touch w4 w2.heap.size _ _ _
      have HU := hide hU
      have O5 := hide (O4'.out.touch (S := fun q => q = w2.heap.size) T6.out (fun k h1 h2 => by omega))
      have R6 := hide (BkAt.touchS (S := fun q => q = w2.heap.size) R5.out T6.out (by omega))
      have B6 := hide (B5.out.trans (below_ofS (S := fun q => q = w2.heap.size) T6.out (by omega) (fun q hq => by omega)))
      have hs6 := T6.out.size
      clear hU
      go_upto_region 8 with fail
      rw [HU.out]
      clear x0 x1 x2 y0 y1 y2
      obtain ⟨x0, x1, x2, -⟩ := K6.out.cells
      have hta := dropClears nm U
      go_wp2_with fail
      refine (dropAhead_any nm w1.heap.size bc b b' cc cb cb' cs fs' ss' U O5.out.own SM.out DF.out).mono ?_
      rintro e w5 ⟨⟨v, rfl⟩, hown, ht⟩
      have hin2 : Hid (∀ q, InN ss'.length b' q → w1.heap.size ≤ q ∧ q < w2.heap.size) := fun q hq => by
        obtain ⟨_, ⟨va, _, h3, _, h5⟩, _⟩ := O5.out
        exact h5 q (.inr (.inr hq))
      have O6 := hide hown
      have K7 := hide (K6.out.touchS ht (fun hq => by have := hin2.out _ hq; omega))
      have R7 := hide (R6.out.touchS ht (fun hq => by have := hin2.out _ hq; omega))
      have B7 := hide (B6.out.trans (below_ofS ht (by omega) (fun q hq => by have := hin2.out _ hq; omega)))
      have hs7 := ht.size
      clear hown ht x0 x1 x2
      obtain ⟨x0, x1, x2, -⟩ := K7.out.cells
      obtain ⟨k0, k1, k2, t0, t1, t2⟩ := R7.out.cells
      have RX := hide (R7.out.set3 (.slice bc cs.length cc) (.slice b fs'.length cb) (.slice b' ss'.length cb'))
      have TX := hide (set3_touch w5 (w.heap.size + 1) (.slice bc cs.length cc) (.slice b fs'.length cb) (.slice b' ss'.length cb'))
      go_wp2
      generalize ((w5.setCell ⟨w.heap.size + 1, 0, none⟩ (.slice bc cs.length cc)).setCell ⟨w.heap.size + 1, 1, none⟩ (.slice b fs'.length cb)).setCell ⟨w.heap.size + 1, 2, none⟩ (.slice b' ss'.length cb') = Y at *
      obtain ⟨y0, y1, y2, -⟩ := RX.out.cells
      refine bodyPost_ret (v := .tuple #[bkV bc b b' cc cb cb' cs fs' (compV cs fs' ss'), .nilIface]) (by simp [results, Tryz.results41, go_sem, y0, y1, y2, bkV]; exact CL.out.symm) rfl ⟨bc, b, b', cc, cb, cb', by rw [E2'.out, E3'.out, E4.out]; rfl, by rw [E2'.out, E3'.out]; exact (O6.out.touch (S := fun q => q = w.heap.size + 1) TX.out (fun k h1 _ => by omega)).base (by omega), B7.out.trans (below_ofS (S := fun q => q = w.heap.size + 1) TX.out (by omega) (fun q hq => by omega))⟩
end Go.Proofs.YtciacofibljmoaaGreatDoor
