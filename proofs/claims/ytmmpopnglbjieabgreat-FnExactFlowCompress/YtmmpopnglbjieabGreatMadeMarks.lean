/- Marks in a book that the law itself has made; what is carried along with a book that can be written. -/
import Derived.Test.YtmmpopnglbjieabGreatCompress2
namespace Go.Proofs.YtmmpopnglbjieabGreat
open Go.RowKit

theorem bkW_touch {S : Nat → Prop} {w w' : World} {ac a a' : Option Addr} {nc cc c ns cn : Nat} {va : List VisAt} (h : BkW w ac a a' nc cc c ns cn va) (ht : TouchS S w w') (ho : ∀ q, InB ac a a' nc ns va q → ¬ S q) : BkW w' ac a a' nc cc c ns cn va :=
  ⟨rowW_touch h.caps ht fun q hq => ho q (.inl hq), flW_touch h.fl ht fun q hq => ho q (.inr (.inl hq)), rowW_touch h.ints ht fun q hq => ho q (.inr (.inr hq)), h.apF, h.cf, h.ci, h.fi⟩
theorem bkW_later {w w' : World} {ac a a' : Option Addr} {nc cc c ns cn : Nat} {va : List VisAt} (h : BkW w ac a a' nc cc c ns cn va) (hb : Below w.heap.size w w') : BkW w' ac a a' nc cc c ns cn va := bkW_touch h (touchS_below (S := fun _ => False) hb) (fun _ _ h => h)
/-- A book that can be written reads as it did where nothing of it is touched. -/
theorem book_touch {S : Nat → Prop} {w w' : World} {ac a a' : Option Addr} {capc cap cap' : Nat} {cs : List (ByteArray × Int)} {fs : List Fli} {ss : List Int} {va : List VisAt} (h : BookIn w ac a a' cs fs ss) (h2 : BkW w ac a a' cs.length capc cap ss.length cap' va) (hl : va.length = fs.length) (ht : TouchS S w w') (ho : ∀ q, InB ac a a' cs.length ss.length va q → ¬ S q) : BookIn w' ac a a' cs fs ss :=
  ⟨caps_touch h.caps ht fun q hq => ho q (.inl hq), fl_touch h.fl h2.fl hl ht fun q hq => ho q (.inr (.inl hq)), ints_touch h.ints ht fun q hq => ho q (.inr (.inr hq))⟩
theorem touch_toS {lo hi : Nat} {w w' : World} (h : Touch lo hi w w') : TouchS (fun k => lo ≤ k ∧ k < hi) w w' := ⟨h.os, h.tape, h.output, h.size, fun k hk hn => h.block k hk (by omega)⟩
theorem ok_sm {cs : List (ByteArray × Int)} {fs : List Fli} {ss : List Int} (h : BookSm cs fs ss) : BookSm (okC cs fs ss) (okF cs fs ss) (okS cs fs ss) := by
  unfold okC okF okS
  cases hq : fitsB cs fs ss
  · exact ⟨by simp, by simp, by simp, by simp, by simp, by simp⟩
  · refine ⟨h.nc, h.nf, ?_, h.sc, h.vl, h.sf⟩
    show (compV cs fs ss).length ≤ _
    rw [comp_len hq]
    exact h.ns

set_option maxRecDepth 100000 in
set_option maxHeartbeats 800000 in
theorem markMade_any (lo gc gf gi : Nat) (cs : List (ByteArray × Int)) (fs : List Fli) (ss : List Int) (w : World) (h : MadeB lo w gc gf gi cs fs ss) (hm : BookSm cs fs ss) :
    Calls Tryz.prog 23 #[bkV (some ⟨gc, 0, none⟩) (some ⟨gf, 0, none⟩) (some ⟨gi, 0, none⟩) cs.length fs.length ss.length cs fs ss, .int .i64 1] w fun e w' => (∃ q, e = .returned (.int .i64 q) ∧ 0 ≤ q) ∧ Touch lo (gi + 1) w w' := by
  obtain ⟨l1, l2, h1, h2, h3, h4, h5, rc, _, _, ⟨gv, m, sh⟩, ri⟩ := h
  have HM := hide hm
  have RC := hide rc
  have SH := hide sh
  have RI := hide ri
  clear rc sh ri hm
  obtain ⟨W, hW, x0, x1, x2, hWb⟩ := alloc3 w (.slice (some ⟨gc, 0, none⟩) cs.length cs.length) (.slice (some ⟨gf, 0, none⟩) fs.length fs.length) (.slice (some ⟨gi, 0, none⟩) ss.length ss.length) 43
  have HW := hide hW
  have X1 := hide x1
  have X2 := hide x2
  have WB := hide hWb
  have hlt : W.heap.size = w.heap.size + 1 := by rw [← hW]; simp
  have HLT := hide hlt
  clear hW hWb x0 x1 x2 hlt
  go_enter Tryz.func23, Tryz.ntmps23
  go_wp2_with fail
  rw [HW.out]
  refine (markFlowCapS_any gc cs.length cs.length _ W (RC.out.of_block (WB.out.block _ RC.out.lt)) HM.out.nc).mono ?_
  rintro e w1 ⟨⟨q1, rfl, hq1a, hq1b⟩, ht1⟩
  have T1 := hide ht1
  have hz1 := HLT.out
  have y1 := (World.cell?_of_block (w := W) (a := ⟨w.heap.size, 1, none⟩) (ht1.block w.heap.size (by omega) (by omega))).trans X1.out
  have Y2 := hide ((World.cell?_of_block (w := W) (a := ⟨w.heap.size, 2, none⟩) (ht1.block w.heap.size (by omega) (by omega))).trans X2.out)
  have S1 := hide (shape_touch (shape_later SH.out WB.out) ht1 (by omega))
  have I1 := hide (row_touch (RI.out.of_block (WB.out.block _ RI.out.lt)) ht1 (by omega))
  have hs1 := ht1.size
  clear ht1 hz1
  go_wp2_with fail
  refine (markFlowFlightS_from l1 l2 gf fs.length fs.length gv m q1 hq1a hq1b w1 S1.out HM.out.nf).mono ?_
  rintro e w2 ⟨⟨q2, rfl, hq2a, hq2b⟩, ht2⟩
  have T2 := hide ht2
  have hz1 := HLT.out
  have y2 := (World.cell?_of_block (w := w1) (a := ⟨w.heap.size, 2, none⟩) (ht2.block w.heap.size (by omega) (by omega))).trans Y2.out
  have I2 := hide (row_touch I1.out ht2 (by omega))
  clear ht2 y1 hz1
  go_wp2_with fail
  refine (markIntS_any gi ss.length ss.length _ q2 w2 I2.out HM.out.ns hq2a (by omega)).mono ?_
  rintro e w3 ⟨⟨q3, rfl, hq3⟩, ht3⟩
  have T3 := hide ht3
  clear ht3 y2
  go_wp2
  go_ret
  exact ⟨⟨q3, rfl, hq3⟩, touch_trans (touch_trans (touch_trans (touch_below WB.out) (touch_wide T1.out (by omega) (by omega))) (touch_wide T2.out (by omega) (by omega))) (touch_wide T3.out (by omega) (by omega))⟩

end Go.Proofs.YtmmpopnglbjieabGreat
