/- At every caps, flights and slots FlowFits answers as the document's model does, and leaves its arguments as they were: the law FnExactFlowFits returns true for every input, and each argument reads afterwards as before. No condition: every input that can be read. -/
import Derived.Test.YtciacofibljmoaaFits3
import Derived.Test.YtciacofibljmoaaOpenFl
import Derived.Test.YtciacofibljmoaaOpenInts
import Derived.OpenShut
import Derived.ShutString
import Derived.ChangeOld
namespace Go.Proofs.Ytciacofibljmoaa
open Go.ChangeShapes Go.WideShapes Go.ChangeAt Go.RowKit

theorem own_knobT : ownKnob Try.prog.godebug = none := by kernel_rfl
theorem laid_outT : laidOutB Try.prog = true := by kernel_rfl

theorem szFlowCapS_one (a : Option Addr) (cap : Nat) (cs : List (ByteArray × Int)) (left : Int) (w : World) (hc : CapsIn w a cs) (hs : ∀ c ∈ cs, c.1.size ≤ maxLen) (hl : cs.length ≤ maxLen) (h0 : 0 ≤ left) (h1 : left ≤ 1048576) :
    Calls Try.prog 22 #[.slice a cs.length cap, .int .i64 left] w fun e w' => (∃ r : Int, e = .returned (.int .i64 r) ∧ (r < 0 ∨ (0 ≤ r ∧ r ≤ left ∧ (cs.length : Int) ≤ left))) ∧ Below w.heap.size w w' :=
  (szFlowCapS_any a cap cs left w hc hs hl h0 h1).mono fun _ _ ⟨⟨r, he, hr⟩, hb⟩ => ⟨⟨r, he, by omega⟩, hb⟩

set_option maxRecDepth 100000 in
set_option maxHeartbeats 1600000 in
theorem fitsLaw_walk (ac a a' : Option Addr) (capc cap cap' : Nat) (cs : List (ByteArray × Int)) (fs : List Fli) (ss : List Int) (w : World) (hcc : CapsIn w ac cs) (hc : FlightsIn w a fs) (hc' : IntsIn w a' ss) (hsc : ∀ c ∈ cs, c.1.size ≤ maxLen) (hs : ∀ c ∈ fs, SizesOk c) (hlc : cs.length ≤ maxLen) (hl : fs.length ≤ maxLen) (hm : ss.length ≤ maxLen) :
    Calls Try.prog 8 #[.slice ac cs.length capc, .slice a fs.length cap, .slice a' ss.length cap'] w fun e w' => e = .returned (.bool true) ∧ Below w.heap.size w w' := by
  unfold maxLen at hm
  have HCC := hide hcc
  have HC := hide hc
  have HC' := hide hc'
  have HSC := hide hsc
  have HS := hide hs
  clear hcc hc hc' hsc hs
  by_cases h1 : (1048576 : Int) < (ss.length : Int)
  · go_enter Try.func8, Try.ntmps8
    go_wp2
    go_ret
    exact ⟨rfl, Below.refl _ _⟩
  have hl' : ss.length ≤ 1048576 := by omega
  go_enter Try.func8, Try.ntmps8
  go_wp2_with fail
  refine (szFlowCapS_one ac capc cs 1048576 w HCC.out HSC.out hlc (by omega) (by omega)).mono ?_
  rintro e w0 ⟨⟨r0, rfl, hr0⟩, hb0⟩
  have hB0 := hide hb0
  clear hb0
  rcases hr0 with hr0 | ⟨hr0, hr1, hr2⟩
  · go_wp2
    go_ret
    exact ⟨rfl, hB0.out⟩
  have hlc2 : cs.length ≤ 1048576 := by omega
  clear hr2
  go_wp2_with fail
  refine (szFlowFlightS_any a cap fs r0 w0 (HC.out.later hB0.out) HS.out hl (by omega) (by omega)).mono ?_
  rintro e w1 ⟨⟨r, rfl, hr⟩, hb1⟩
  have hB1 := hide (below_two hB0.out hb1)
  clear hb1
  rcases hr with rfl | ⟨hr, hr2, hr3, hr4⟩
  · go_wp2
    go_ret
    exact ⟨rfl, hB1.out⟩
  have hl2 : fs.length ≤ 1048576 := by omega
  have HVL : Hid (∀ f ∈ fs, f.2.2.2.length ≤ 1048576) := fun f hf => by have := hr4 f hf; omega
  clear hr2 hr3 hr4 hl hm hlc
  go_wp2_with fail
  refine (toFlowCapS_any ac capc cs _ (HCC.out.later hB1.out) hlc2).mono ?_
  rintro e w2 ⟨g2, rfl, _, hrow2, hb2⟩
  have hC1_0 := hide (CapsIn.ofRow hrow2)
  have hB2 := hide (below_two hB1.out hb2)
  clear hb2 hrow2
  go_wp2_with fail
  refine (toFlowFlightS_any a cap fs _ (HC.out.later hB2.out) hl2 HVL.out).mono ?_
  rintro e w3 ⟨g3, rfl, hrow3, hb3⟩
  have hC1_1 := hide (hC1_0.out.later hb3)
  have hF1_0 := hide (FlightsIn.ofOwn hrow3)
  have hB3 := hide (below_two hB2.out hb3)
  clear hb3 hC1_0 hrow3
  go_wp2_with fail
  refine (toIntS_any a' cap' ss _ (HC'.out.later hB3.out) hl').mono ?_
  rintro e w4 ⟨g4, rfl, _, hrow4, hb4⟩
  have hC1_2 := hide (hC1_1.out.later hb4)
  have hF1_1 := hide (hF1_0.out.later hb4)
  have hI1_0 := hide (IntsIn.ofRow hrow4)
  have hB4 := hide (below_two hB3.out hb4)
  clear hb4 hC1_1 hF1_0 hrow4
  go_wp2_with fail
  refine (specFits_any _ _ _ _ _ _ cs fs ss _ hC1_2.out hF1_1.out hI1_0.out hlc2 hl2 hl' HSC.out HVL.out HS.out).mono ?_
  rintro e w5 ⟨rfl, hb5⟩
  have hB5 := hide (below_two hB4.out hb5)
  clear hb5 hC1_2 hF1_1 hI1_0
  go_wp2_with fail
  refine (toFlowCapS_any ac capc cs _ (HCC.out.later hB5.out) hlc2).mono ?_
  rintro e w6 ⟨g6, rfl, _, hrow6, hb6⟩
  have hC2_0 := hide (CapsIn.ofRow hrow6)
  have hB6 := hide (below_two hB5.out hb6)
  clear hb6 hrow6
  go_wp2_with fail
  refine (toFlowFlightS_any a cap fs _ (HC.out.later hB6.out) hl2 HVL.out).mono ?_
  rintro e w7 ⟨g7, rfl, hrow7, hb7⟩
  have hC2_1 := hide (hC2_0.out.later hb7)
  have hF2_0 := hide (FlightsIn.ofOwn hrow7)
  have hB7 := hide (below_two hB6.out hb7)
  clear hb7 hC2_0 hrow7
  go_wp2_with fail
  refine (toIntS_any a' cap' ss _ (HC'.out.later hB7.out) hl').mono ?_
  rintro e w8 ⟨g8, rfl, _, hrow8, hb8⟩
  have hC2_2 := hide (hC2_1.out.later hb8)
  have hF2_1 := hide (hF2_0.out.later hb8)
  have hI2_0 := hide (IntsIn.ofRow hrow8)
  have hB8 := hide (below_two hB7.out hb8)
  clear hb8 hC2_1 hF2_0 hrow8
  go_wp2_with fail
  refine (implFits_any _ _ _ _ _ _ cs fs ss _ hC2_2.out hF2_1.out hI2_0.out hlc2 hl2 hl' HSC.out HVL.out HS.out).mono ?_
  rintro e w9 ⟨rfl, hb9⟩
  have hC2_3 := hide (hC2_2.out.later hb9)
  have hF2_2 := hide (hF2_1.out.later hb9)
  have hI2_1 := hide (hI2_0.out.later hb9)
  have hB9 := hide (below_two hB8.out hb9)
  clear hb9 hC2_2 hF2_1 hI2_0
  generalize fitsB cs fs ss = q
  go_wp2_with fail
  refine (toFlowCapS_any ac capc cs _ (HCC.out.later hB9.out) hlc2).mono ?_
  rintro e w10 ⟨g10, rfl, _, hrow10, hb10⟩
  have hC2_4 := hide (hC2_3.out.later hb10)
  have hF2_3 := hide (hF2_2.out.later hb10)
  have hI2_2 := hide (hI2_1.out.later hb10)
  have hC3_0 := hide (CapsIn.ofRow hrow10)
  have hB10 := hide (below_two hB9.out hb10)
  clear hb10 hC2_3 hF2_2 hI2_1 hrow10
  go_wp2_with fail
  refine (eqFlowCapS_same _ _ _ _ cs _ hC2_4.out hC3_0.out hlc2).mono ?_
  rintro e w11 ⟨rfl, hb11⟩
  have hF2_4 := hide (hF2_3.out.later hb11)
  have hI2_3 := hide (hI2_2.out.later hb11)
  have hB11 := hide (below_two hB10.out hb11)
  clear hb11 hC2_4 hF2_3 hI2_2 hC3_0
  go_wp2_with fail
  refine (toFlowFlightS_any a cap fs _ (HC.out.later hB11.out) hl2 HVL.out).mono ?_
  rintro e w12 ⟨g12, rfl, hrow12, hb12⟩
  have hF2_5 := hide (hF2_4.out.later hb12)
  have hI2_4 := hide (hI2_3.out.later hb12)
  have hF3_0 := hide (FlightsIn.ofOwn hrow12)
  have hB12 := hide (below_two hB11.out hb12)
  clear hb12 hF2_4 hI2_3 hrow12
  go_wp2_with fail
  refine (eqFlowFlightS_same _ _ _ _ fs _ hF2_5.out hF3_0.out hl2 HVL.out).mono ?_
  rintro e w13 ⟨rfl, hb13⟩
  have hI2_5 := hide (hI2_4.out.later hb13)
  have hB13 := hide (below_two hB12.out hb13)
  clear hb13 hF2_5 hI2_4 hF3_0
  go_wp2_with fail
  refine (toIntS_any a' cap' ss _ (HC'.out.later hB13.out) hl').mono ?_
  rintro e w14 ⟨g14, rfl, _, hrow14, hb14⟩
  have hI2_6 := hide (hI2_5.out.later hb14)
  have hI3_0 := hide (IntsIn.ofRow hrow14)
  have hB14 := hide (below_two hB13.out hb14)
  clear hb14 hI2_5 hrow14
  go_wp2_with fail
  refine (eqIntS_same _ _ _ _ ss _ hI2_6.out hI3_0.out hl').mono ?_
  rintro e w15 ⟨rfl, hb15⟩
  have hB15 := hide (below_two hB14.out hb15)
  clear hb15 hI2_6 hI3_0
  go_wp2
  go_ret
  exact ⟨rfl, hB15.out⟩

set_option maxRecDepth 100000 in
theorem fitsLaw_lifted (os : Os) (started : os.Started) (H : Type) (enc : TypeId × Value → H) :
    ReturnsInHanded {} Try.checked os 8 .any (Rows.fnExactFlowFitsSpec.pre6 enc Try.prog Try.f8 Rows.fnExactFlowFitsRow.domain false) (Rows.fnExactFlowFitsSpec.post enc Try.prog Try.f8 false true false false) := by
  refine returnsInHanded_of_change (C := Try.checked) own_knobT started (by kernel_rfl) Try.func8
    (ChangeSpec.witness6 (enc := enc) (C := Try.checked) false ⟨#[], #[.slice none 0 0, .slice none 0 0, .slice none 0 0], []⟩ 8 (by kernel_rfl) (by kernel_rfl) (by kernel_rfl) (by kernel_rfl)) ?_
  intro W base args ds gs before hval0 hW hcnd _
  have hval : ∀ (j : Nat) t v, Try.f8.params[j]? = some t → args[j]? = some v → Value.okWide Try.prog W .any base t v := hval0
  have hW' := hW
  obtain ⟨p, q, hA0, hV, rfl, hfz, hnd⟩ := hW
  have hA : DataW.TrodAll enc Try.prog W 0 (fun _ => true) true Try.f8.params.toList args.toList ds p := hA0
  rw [Try.params8] at hA hval
  obtain ⟨v0, vs0, d0, ds0, p0, q0, hargs, rfl, rfl, h0, r0⟩ := trodAll_cons hA
  obtain ⟨v1, vs1, d1, ds1, p1, q1, rfl, rfl, rfl, h1, r1⟩ := trodAll_cons r0
  obtain ⟨v2, vs2, d2, ds2, p2, q2, rfl, rfl, rfl, h2, r2⟩ := trodAll_cons r1
  obtain ⟨rfl, rfl, rfl⟩ := trodAll_nil r2
  obtain rfl : args = #[v0, v1, v2] := by cases args; simp_all
  obtain ⟨rfl, rfl⟩ := trodVars_none hV
  obtain ⟨a0, len0, cap0, rfl⟩ := okWide_slice Try.underlying46 (hval 0 46 v0 rfl rfl)
  obtain ⟨a1, len1, cap1, rfl⟩ := okWide_slice Try.underlying40 (hval 1 40 v1 rfl rfl)
  obtain ⟨a2, len2, cap2, rfl⟩ := okWide_slice Try.underlying24 (hval 2 24 v2 rfl rfl)
  have k0 := h0
  have lt0 : ∀ x ∈ p0, x.block < W.heap.size := by obtain ⟨m, hm⟩ := k0; exact DataW.trod_lt m _ _ _ hm
  have k1 := h1
  have lt1 : ∀ x ∈ p1, x.block < W.heap.size := by obtain ⟨m, hm⟩ := k1; exact DataW.trod_lt m _ _ _ hm
  have k2 := h2
  have lt2 : ∀ x ∈ p2, x.block < W.heap.size := by obtain ⟨m, hm⟩ := k2; exact DataW.trod_lt m _ _ _ hm
  obtain ⟨fuel0, hf0⟩ := h0
  obtain ⟨cs, rfl, hcc, hsc, hlc⟩ := openCaps (by simpa [Value.cells] using hf0)
  obtain ⟨fuel, hf⟩ := h1
  obtain ⟨fs, rfl, hc, hs, hl⟩ := openFlights (by simpa [Value.cells] using hf)
  obtain ⟨fuel1, hf1⟩ := h2
  obtain ⟨ss, rfl, hc', hl1⟩ := openInts (by simpa [Value.cells] using hf1)
  clear hA0 hval0
  refine (fitsLaw_walk a0 a1 a2 cap0 cap1 cap2 cs fs ss W hcc hc hc' hsc hs hlc hl hl1).mono fun e W' ⟨he, bel⟩ => ?_
  subst he
  exact ⟨_, rfl, _, _, _, [], _, [], hW', trodAll_mk1 (shut_bool Try.underlying4 _), (trodAll_cons_mk (Below.trod laid_outT (by kernel_rfl) (of_decide_eq_true (by kernel_rfl)) k0 bel lt0) (trodAll_cons_mk (Below.trod laid_outT (by kernel_rfl) (of_decide_eq_true (by kernel_rfl)) k1 bel lt1) (trodAll_cons_mk (Below.trod laid_outT (by kernel_rfl) (of_decide_eq_true (by kernel_rfl)) k2 bel lt2) trodAll_mk0))), rfl, bel.frame _, fun h => by cases h⟩

theorem fnExactFlowFits_holds : Rows.FnExactFlowFitsSaid :=
  OpenClaim.holds_of_wide 8 Try.f8 rfl rfl rfl rfl rfl rfl rfl ⟨rfl, rfl, rfl, rfl, rfl⟩ rfl rfl rfl rfl rfl (by kernel_rfl) Try.func8 (by kernel_rfl)
    (of_decide_eq_true (by kernel_rfl)) (by unfold Func.isWrapper; first | (rw [if_pos (by decide +kernel)]; kernel_rfl) | (rw [if_neg (by decide +kernel)]; exact ⟨rfl, rfl⟩))
    (fun os started H enc _ => fitsLaw_lifted os started H enc)
#print axioms fnExactFlowFits_holds

end Go.Proofs.Ytciacofibljmoaa
