/- At every book FlowStable answers as the document's model does, and leaves the book as it was: the law FnExactFlowStable returns true for every input, and the argument reads afterwards as before. No condition: every input that can be read. -/
import Derived.Test.YtciacofibljmoabStable
import Derived.Test.YtciacofibljmoabOpenBook
import Derived.Test.YtciacofibljmoabLeaving
import Derived.OpenShut
import Derived.ShutString
import Derived.ChangeOld
namespace Go.Proofs.Ytciacofibljmoab
open Go.ChangeShapes Go.WideShapes Go.ChangeAt Go.RowKit

theorem own_knobST : ownKnob Try.prog.godebug = none := by kernel_rfl
theorem laid_outST : laidOutB Try.prog = true := by kernel_rfl

set_option maxRecDepth 100000 in
set_option maxHeartbeats 1600000 in
theorem stableLaw_walk (ac a a' : Option Addr) (capc cap cap' : Nat) (cs : List (ByteArray × Int)) (fs : List Fli) (ss : List Int) (w : World) (hb : BookIn w ac a a' cs fs ss) (hsc : ∀ c ∈ cs, c.1.size ≤ maxLen) (hs : ∀ f ∈ fs, SizesOk f) (hlc : cs.length ≤ maxLen) (hl : fs.length ≤ maxLen) (hl' : ss.length ≤ maxLen) :
    Calls Try.prog 6 #[bkV ac a a' capc cap cap' cs fs ss] w fun e w' => e = .returned (.bool true) ∧ Below w.heap.size w w' := by
  have HB := hide hb
  have HSC := hide hsc
  have HS := hide hs
  clear hb hsc hs
  obtain ⟨W, hW, x0, x1, x2, hWb⟩ := alloc3 w (.slice ac cs.length capc) (.slice a fs.length cap) (.slice a' ss.length cap') 42
  have X0 := hide x0
  have X1 := hide x1
  have X2 := hide x2
  have HW := hide hW
  have WB := hide hWb
  clear hW hWb x0 x1 x2
  go_enter Try.func6, Try.ntmps6
  go_wp2_with fail
  rw [HW.out]
  refine (szFlowBook_any ac a a' capc cap cap' cs fs ss 1048576 W (HB.out.later WB.out) HSC.out HS.out hlc hl hl' (by omega) (by omega)).mono ?_
  rintro e w1 ⟨⟨r, rfl, hr⟩, hb1⟩
  have B1 := hide hb1
  clear hb1
  rcases hr with hr | ⟨hr, hr1, hm⟩
  · go_wp2
    go_ret
    exact ⟨rfl, below_two WB.out B1.out⟩
  have HM := hide hm
  have BB := hide (HB.out.later WB.out)
  clear hr1 hm hl hl' hlc
  have x0 := cell_later B1.out X0.out
  have x1 := cell_later B1.out X1.out
  have x2 := cell_later B1.out X2.out
  go_wp2_with fail
  refine (toFlowBook_any ac a a' capc cap cap' cs fs ss w1 (BB.out.later B1.out) HM.out).mono ?_
  rintro e w2 ⟨gc, gf, gi, rfl, hmade, hb2⟩
  have M2 := hide hmade
  have B2 := hide (below_two B1.out hb2)
  clear hb2 hmade x0 x1 x2
  go_wp2_with fail
  refine (specStable_any _ _ _ _ _ _ cs fs ss w2 M2.out.book HM.out).mono ?_
  rintro e w3 ⟨rfl, hb3⟩
  have B3 := hide (below_two B2.out hb3)
  clear hb3 M2
  have x0 := cell_later B3.out X0.out
  have x1 := cell_later B3.out X1.out
  have x2 := cell_later B3.out X2.out
  go_wp2_with fail
  refine (toFlowBook_any ac a a' capc cap cap' cs fs ss w3 (BB.out.later B3.out) HM.out).mono ?_
  rintro e w4 ⟨gc2, gf2, gi2, rfl, hmade, hb4⟩
  have M4 := hide hmade
  have B4 := hide (below_two B3.out hb4)
  clear hb4 hmade x0 x1 x2
  obtain ⟨V, hV, y0, y1, y2, hVb⟩ := alloc3 w4 (.slice (some ⟨gc2, 0, none⟩) cs.length cs.length) (.slice (some ⟨gf2, 0, none⟩) fs.length fs.length) (.slice (some ⟨gi2, 0, none⟩) ss.length ss.length) 46
  have M5 := hide (M4.out.later hVb)
  have B5 := hide (below_two B4.out hVb)
  have HV := hide hV
  have Y0 := hide y0
  have Y1 := hide y1
  have Y2 := hide y2
  clear hV hVb M4 y0 y1 y2
  go_wp2_with fail
  rw [HV.out]
  refine (implStable_any _ _ _ _ _ _ cs fs ss V M5.out.book HM.out).mono ?_
  rintro e w5 ⟨rfl, hb5⟩
  have M6 := hide (M5.out.later hb5)
  have B6 := hide (below_two B5.out hb5)
  have x0 := cell_later B6.out X0.out
  have x1 := cell_later B6.out X1.out
  have x2 := cell_later B6.out X2.out
  have y0 := cell_later hb5 Y0.out
  have y1 := cell_later hb5 Y1.out
  have y2 := cell_later hb5 Y2.out
  clear hb5 M5
  generalize stableB cs fs ss = q
  have hqq : (q != q) = false := by simp
  go_wp2_with fail
  go_region_held3 (fun X => X.cell? ⟨w.heap.size, 0, none⟩ = some (.slice ac cs.length capc) ∧ X.cell? ⟨w.heap.size, 1, none⟩ = some (.slice a fs.length cap) ∧ X.cell? ⟨w.heap.size, 2, none⟩ = some (.slice a' ss.length cap') ∧ X.cell? ⟨w4.heap.size, 0, none⟩ = some (.slice (some ⟨gc2, 0, none⟩) cs.length cs.length) ∧ X.cell? ⟨w4.heap.size, 1, none⟩ = some (.slice (some ⟨gf2, 0, none⟩) fs.length fs.length) ∧ X.cell? ⟨w4.heap.size, 2, none⟩ = some (.slice (some ⟨gi2, 0, none⟩) ss.length ss.length))
    (first | exact ⟨x0, x1, x2, y0, y1, y2⟩ | exact ⟨cell_later hbA x0, cell_later hbA x1, cell_later hbA x2, cell_later hbA y0, cell_later hbA y1, cell_later hbA y2⟩ | exact ⟨cell_later hbB (cell_later hbA x0), cell_later hbB (cell_later hbA x1), cell_later hbB (cell_later hbA x2), cell_later hbB (cell_later hbA y0), cell_later hbB (cell_later hbA y1), cell_later hbB (cell_later hbA y2)⟩)
    (first
      | (go_at_call 26; refine (toFlowBook_any ac a a' capc cap cap' cs fs ss w5.drew (BB.out.later B6.out.drew) HM.out).mono ?_; rintro e wA ⟨gc3, gf3, gi3, rfl, hmA, hbA⟩)
      | (go_at_call 28; refine (eqFlowBook_same _ _ _ _ _ _ _ _ _ _ _ _ cs fs ss wA (M6.out.book.later (below_dr hbA)) hmA.book HM.out).mono ?_; rintro e wB ⟨rfl, hbB⟩)
      | (fail))
  rename_i hH
  clear hH
  go_wp2
  go_ret
  exact ⟨rfl, below_two WB.out (below_two (below_two B6.out (below_dr hbA)) hbB)⟩

set_option maxRecDepth 100000 in
theorem stableLaw_lifted (os : Os) (started : os.Started) (H : Type) (enc : TypeId × Value → H) :
    ReturnsInHanded {} Try.checked os 6 .any (Rows.fnExactFlowStableSpec.pre6 enc Try.prog Try.f6 Rows.fnExactFlowStableRow.domain false) (Rows.fnExactFlowStableSpec.post enc Try.prog Try.f6 false true false false) := by
  refine returnsInHanded_of_change (C := Try.checked) own_knobST started (by kernel_rfl) Try.func6
    (ChangeSpec.witness6 (enc := enc) (C := Try.checked) false ⟨#[], #[.agg #[.slice none 0 0, .slice none 0 0, .slice none 0 0]], []⟩ 8 (by kernel_rfl) (by kernel_rfl) (by kernel_rfl) (by kernel_rfl)) ?_
  intro W base args ds gs before hval0 hW hcnd _
  have hval : ∀ (j : Nat) t v, Try.f6.params[j]? = some t → args[j]? = some v → Value.okWide Try.prog W .any base t v := hval0
  have hW' := hW
  obtain ⟨p, q, hA0, hV, rfl, hfz, hnd⟩ := hW
  have hA : DataW.TrodAll enc Try.prog W 0 (fun _ => true) true Try.f6.params.toList args.toList ds p := hA0
  rw [Try.params6] at hA hval
  obtain ⟨v0, vs0, d0, ds0, p0, q0, hargs, rfl, rfl, h0, r0⟩ := trodAll_cons hA
  obtain ⟨rfl, rfl, rfl⟩ := trodAll_nil r0
  obtain rfl : args = #[v0] := by cases args; simp_all
  obtain ⟨rfl, rfl⟩ := trodVars_none hV
  obtain ⟨ws, rfl, hws⟩ := okWide_struct Try.underlying42 (hval 0 42 v0 rfl rfl)
  rw [cells_lawbook] at hws
  have k0 := h0
  have lt0 : ∀ x ∈ p0, x.block < W.heap.size := by obtain ⟨m, hm⟩ := k0; exact DataW.trod_lt m _ _ _ hm
  obtain ⟨fuel0, hf0⟩ := h0
  obtain ⟨ac, capc, cs, a, cap, fs, a', cap', ss, hvs, g1, g2, g3, g4, g5, g6, g7, g8⟩ := openBook (by simpa using hws) (show DataW.trod enc Try.prog W 0 (fun _ => true) true fuel0 42 ws.toList = some _ by simpa [Value.cells] using hf0)
  obtain rfl : ws = #[.slice ac cs.length capc, .slice a fs.length cap, .slice a' ss.length cap'] := by cases ws; simp_all
  clear hA0 hval0
  refine (stableLaw_walk ac a a' capc cap cap' cs fs ss W ⟨g1, g2, g3⟩ g4 g5 g6 g7 g8).mono fun e W' ⟨he, bel⟩ => ?_
  subst he
  exact ⟨_, rfl, _, _, _, [], _, [], hW', trodAll_mk1 (shut_bool Try.underlying4 _), (trodAll_cons_mk (Below.trod laid_outST (by kernel_rfl) (of_decide_eq_true (by kernel_rfl)) k0 bel lt0) trodAll_mk0), rfl, bel.frame _, fun h => by cases h⟩

theorem fnExactFlowStable_holds : Rows.FnExactFlowStableSaid := by
  first
  | exact OpenClaim.holds_of_wide 6 Try.f6 rfl rfl rfl rfl rfl rfl rfl ⟨rfl, rfl, rfl, rfl, rfl⟩ rfl rfl rfl rfl rfl (by kernel_rfl) Try.func6 (by kernel_rfl)
      (of_decide_eq_true (by kernel_rfl)) (by unfold Func.isWrapper; first | (rw [if_pos (by decide +kernel)]; kernel_rfl) | (rw [if_neg (by decide +kernel)]; exact ⟨rfl, rfl⟩))
      (fun os started H enc _ => stableLaw_lifted os started H enc)
  | exact OpenClaim.holds_of_wide_leaving 6 Try.f6 rfl rfl rfl rfl rfl rfl rfl ⟨rfl, rfl, rfl, rfl, rfl⟩ rfl rfl rfl rfl rfl (by kernel_rfl) Try.func6 (by kernel_rfl)
      (of_decide_eq_true (by kernel_rfl)) (by unfold Func.isWrapper; first | (rw [if_pos (by decide +kernel)]; kernel_rfl) | (rw [if_neg (by decide +kernel)]; exact ⟨rfl, rfl⟩))
      (fun os started H enc _ => leaving_of_handed (stableLaw_lifted os started H enc))
#print axioms fnExactFlowStable_holds

end Go.Proofs.Ytciacofibljmoab
