/- FlowCompress, the program's way, walked. -/
import Derived.Test.YtmmpopnglbjieabGreatCompress
namespace Go.Proofs.YtmmpopnglbjieabGreat
open Go.RowKit

theorem ownBk_none (lo : Nat) (w : World) : OwnBk lo w none none none 0 0 0 [] [] [] :=
  ⟨⟨fun i hi => by simp at hi, fun i hi => by simp at hi, fun i hi => by simp at hi⟩, [], ⟨.inl rfl, .inl rfl, .inl rfl, ⟨by simp, List.Pairwise.nil⟩, fun k hk => absurd rfl hk.1, fun k hk => absurd rfl hk.1, fun k _ hk2 => absurd rfl hk2.1⟩, rfl, fun i h1 => by simp at h1, fun k hk => by
    rcases hk with hk | hk | hk
    · exact absurd rfl hk.1
    · rcases hk with hk | ⟨x, hx, _⟩
      · exact absurd rfl hk.1
      · simp at hx
    · exact absurd rfl hk.1⟩
theorem OwnBk.base {lo lo' : Nat} {w : World} {ac a a' : Option Addr} {capc cap cap' : Nat} {cs : List (ByteArray × Int)} {fs : List Fli} {ss : List Int} (h : OwnBk lo w ac a a' capc cap cap' cs fs ss) (hl : lo' ≤ lo) : OwnBk lo' w ac a a' capc cap cap' cs fs ss := by
  obtain ⟨h1, va, h2, h3, h4, h5⟩ := h
  exact ⟨h1, va, h2, h3, h4, fun k hk => ⟨Nat.le_trans hl (h5 k hk).1, (h5 k hk).2⟩⟩
theorem OwnBk.inI {lo : Nat} {w : World} {ac a a' : Option Addr} {capc cap cap' : Nat} {cs : List (ByteArray × Int)} {fs : List Fli} {ss : List Int} (h : OwnBk lo w ac a a' capc cap cap' cs fs ss) {q : Nat} (hq : InN ss.length a' q) : lo ≤ q ∧ q < w.heap.size := by
  obtain ⟨h1, va, h2, h3, h4, h5⟩ := h
  exact h5 q (.inr (.inr hq))
theorem comp_len {cs : List (ByteArray × Int)} {fs : List Fli} {ss : List Int} (h : fitsB cs fs ss = true) : (compV cs fs ss).length = ss.length := by
  rw [fits_len (comp_all h).2.1, fits_len h]
/-- What FlowCompress answers, as far as it is no book that is not ok. -/
def okC (cs : List (ByteArray × Int)) (fs : List Fli) (ss : List Int) : List (ByteArray × Int) := if fitsB cs fs ss = true then cs else []
def okF (cs : List (ByteArray × Int)) (fs : List Fli) (ss : List Int) : List Fli := if fitsB cs fs ss = true then fs else []
def okS (cs : List (ByteArray × Int)) (fs : List Fli) (ss : List Int) : List Int := if fitsB cs fs ss = true then compV cs fs ss else []

set_option maxRecDepth 100000 in
set_option maxHeartbeats 1600000 in
theorem implCompress_any (ac a a' : Option Addr) (capc cap cap' : Nat) (cs : List (ByteArray × Int)) (fs : List Fli) (ss : List Int) (w : World) (hb : BookIn w ac a a' cs fs ss) (hm : BookSm cs fs ss) :
    Calls Tryz.prog 21 #[bkV ac a a' capc cap cap' cs fs ss] w fun e w' => ∃ bc b b' cc cb cb', e = .returned (bkV bc b b' cc cb cb' (okC cs fs ss) (okF cs fs ss) (okS cs fs ss)) ∧ OwnBk w.heap.size w' bc b b' cc cb cb' (okC cs fs ss) (okF cs fs ss) (okS cs fs ss) ∧ Below w.heap.size w w' := by
  have HB := hide hb
  have HM := hide hm
  clear hb hm
  obtain ⟨W, hW, hWs, f0, r0, b0⟩ := bk_boxes w (.slice ac cs.length capc) (.slice a fs.length cap) (.slice a' ss.length cap')
  have HW := hide hW
  have F0 := hide f0
  have R0 := hide r0
  have B0 := hide b0
  clear hW f0 r0 b0
  cases hq : fitsB cs fs ss
  · have HQ := hide hq
    have e1 : okC cs fs ss = [] := by unfold okC; rw [hq]; rfl
    have e2 : okF cs fs ss = [] := by unfold okF; rw [hq]; rfl
    have e3 : okS cs fs ss = [] := by unfold okS; rw [hq]; rfl
    rw [e1, e2, e3]
    clear hq e1 e2 e3
    go_enter Tryz.func21, Tryz.ntmps21
    go_wp2_with fail
    rw [HW.out]
    refine (implBookOk_val ac a a' capc cap cap' cs fs ss _ HQ.out W (HB.out.later B0.out) HM.out).mono ?_
    rintro e w1 ⟨rfl, hb1⟩
    have R1 := hide (R0.out.later hb1)
    have B1 := hide (below_two B0.out hb1)
    have hs1 := hb1.size
    obtain ⟨k0, k1, k2, t0, t1, t2⟩ := R1.out.cells
    have RX := hide (R1.out.set3 (.slice none 0 0) (.slice none 0 0) (.slice none 0 0))
    have TX := hide (set3_touch w1 (w.heap.size + 1) (.slice none 0 0) (.slice none 0 0) (.slice none 0 0))
    clear hb1
    go_wp2
    generalize ((w1.setCell ⟨w.heap.size + 1, 0, none⟩ (.slice none 0 0)).setCell ⟨w.heap.size + 1, 1, none⟩ (.slice none 0 0)).setCell ⟨w.heap.size + 1, 2, none⟩ (.slice none 0 0) = Y at *
    obtain ⟨y0, y1, y2, -⟩ := RX.out.cells
    exact bodyPost_ret (v := bkV none none none 0 0 0 [] [] []) (by simp [results, Tryz.results21, go_sem, y0, y1, y2]) rfl ⟨none, none, none, 0, 0, 0, rfl, ownBk_none _ _, B1.out.trans (below_ofS (S := fun q => q = w.heap.size + 1) TX.out (by omega) (fun q hq => by omega))⟩
  · have HQ := hide hq
    have e1 : okC cs fs ss = cs := by unfold okC; rw [hq]; rfl
    have e2 : okF cs fs ss = fs := by unfold okF; rw [hq]; rfl
    have e3 : okS cs fs ss = compV cs fs ss := by unfold okS; rw [hq]; rfl
    rw [e1, e2, e3]
    have HV : Hid (∀ f ∈ fs, 1 ≤ f.2.2.2.length) := fun f hf => by
      obtain ⟨i, hi, rfl⟩ := List.getElem_of_mem hf
      exact ((slots_bd (fits_slots hq)).2.2.2 i hi).2.2.2.1
    have HCL := hide (comp_len hq)
    clear hq e1 e2 e3
    go_enter Tryz.func21, Tryz.ntmps21
    go_wp2_with fail
    rw [HW.out]
    refine (implBookOk_val ac a a' capc cap cap' cs fs ss _ HQ.out W (HB.out.later B0.out) HM.out).mono ?_
    rintro e w1 ⟨rfl, hb1⟩
    have F1 := hide (F0.out.later hb1)
    have R1 := hide (R0.out.later hb1)
    have B1 := hide (below_two B0.out hb1)
    have hs1 := hb1.size
    obtain ⟨x0, x1, x2, -⟩ := F1.out.cells
    clear hb1
    go_wp2_with fail
    refine (copyBook_any ac a a' capc cap cap' cs fs ss w1 (HB.out.later B1.out) HM.out HV.out).mono ?_
    rintro e w2 ⟨bc, b, b', cc, cb, cb', rfl, hown, hb2⟩
    have R2 := hide (R1.out.later hb2)
    have B2 := hide (below_two B1.out hb2)
    have hs2 := hb2.size
    obtain ⟨V, hV, VB, BV⟩ : ∃ V, w2.alloc (.cells #[.slice bc cs.length cc, .slice b fs.length cb, .slice b' ss.length cb'] 43) = V ∧ BkAt V w2.heap.size (.slice bc cs.length cc) (.slice b fs.length cb) (.slice b' ss.length cb') ∧ Below w2.heap.size w2 V := ⟨_, rfl, BkAt.newAt w2 _ rfl _ _ _, (Below.refl _ _).alloc (Nat.le_refl _) _⟩
    have O2 := hide (hown.later BV)
    have R3 := hide (R2.out.later BV)
    have B3 := hide (below_two B2.out BV)
    have K3 := hide VB
    have HV2 := hide hV
    have hs3 := BV.size
    have hin : Hid (∀ q, InN ss.length b' q → w1.heap.size ≤ q ∧ q < w2.heap.size) := fun q hq => hown.inI hq
    clear hb2 hown BV VB hV x0 x1 x2 R2
    go_wp2_with fail
    rw [HV2.out]
    refine (compressIn_any w1.heap.size bc b b' cc cb cb' cs fs ss V O2.out HM.out HQ.out).mono ?_
    rintro e w3 ⟨⟨v, rfl⟩, hown, ht⟩
    have O3 := hide hown
    have K4 := hide (K3.out.touchS ht (fun hq => by have := hin.out _ hq; omega))
    have R4 := hide (R3.out.touchS ht (fun hq => by have := hin.out _ hq; omega))
    have B4 := hide (B3.out.trans (below_ofS ht (by omega) (fun q hq => by have := hin.out _ hq; omega)))
    have hs4 := ht.size
    clear hown ht
    obtain ⟨x0, x1, x2, -⟩ := K4.out.cells
    obtain ⟨k0, k1, k2, t0, t1, t2⟩ := R4.out.cells
    have RX := hide (R4.out.set3 (.slice bc cs.length cc) (.slice b fs.length cb) (.slice b' ss.length cb'))
    have TX := hide (set3_touch w3 (w.heap.size + 1) (.slice bc cs.length cc) (.slice b fs.length cb) (.slice b' ss.length cb'))
    go_wp2
    generalize ((w3.setCell ⟨w.heap.size + 1, 0, none⟩ (.slice bc cs.length cc)).setCell ⟨w.heap.size + 1, 1, none⟩ (.slice b fs.length cb)).setCell ⟨w.heap.size + 1, 2, none⟩ (.slice b' ss.length cb') = Y at *
    obtain ⟨y0, y1, y2, -⟩ := RX.out.cells
    refine bodyPost_ret (v := bkV bc b b' cc cb cb' cs fs (compV cs fs ss)) (by simp [results, Tryz.results21, go_sem, y0, y1, y2, bkV]; exact HCL.out.symm) rfl ⟨bc, b, b', cc, cb, cb', rfl, (O3.out.touch (S := fun q => q = w.heap.size + 1) TX.out (fun k h1 _ => by omega)).base (by omega), B4.out.trans (below_ofS (S := fun q => q = w.heap.size + 1) TX.out (by omega) (fun q hq => by omega))⟩

end Go.Proofs.YtmmpopnglbjieabGreat
