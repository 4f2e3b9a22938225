/- At every list of flights FlowFlightsOk answers as the document's model does, and leaves its argument as it was: the law FnExactFlowFlightsOk returns true for every input, and each argument reads afterwards as before. No condition: every input that can be read. -/
import Derived.Test.YtciacofibljmoaaImplFl
import Derived.Test.YtciacofibljmoaaOpenFl
import Derived.OpenShut
import Derived.ShutString
import Derived.ChangeOld
namespace Go.Proofs.Ytciacofibljmoaa
open Go.ChangeShapes Go.WideShapes Go.ChangeAt Go.RowKit

theorem own_knobF : ownKnob Try.prog.godebug = none := by kernel_rfl
theorem laid_outF : laidOutB Try.prog = true := by kernel_rfl

set_option maxRecDepth 100000 in
set_option maxHeartbeats 800000 in
theorem flLaw_walk (a : Option Addr) (cap : Nat) (fs : List Fli) (w : World) (hc : FlightsIn w a fs) (hs : ∀ c ∈ fs, SizesOk c) (hl : fs.length ≤ maxLen) :
    Calls Try.prog 4 #[.slice a fs.length cap] w fun e w' => e = .returned (.bool true) ∧ Below w.heap.size w w' := by
  go_enter Try.func4, Try.ntmps4
  go_wp2_with fail
  refine (szFlowFlightS_any a cap fs 1048576 w hc hs hl (by omega) (by omega)).mono ?_
  rintro e w1 ⟨⟨r, rfl, hr⟩, hb1⟩
  rcases hr with rfl | ⟨hr, hr2, hr3, hr4⟩
  · go_wp2
    go_ret
    exact ⟨rfl, hb1⟩
  · have hl2 : fs.length ≤ 1048576 := by omega
    have HVL : Hid (∀ f ∈ fs, f.2.2.2.length ≤ 1048576) := fun f hf => by have := hr4 f hf; omega
    clear hr2 hr3 hr4
    have hc1 := hide (hc.later hb1)
    have hc0 := hide hc
    have hs0 := hide hs
    clear hc hs
    go_wp2_with fail
    refine (toFlowFlightS_any a cap fs _ hc1.out hl2 HVL.out).mono ?_
    rintro e w2 ⟨g2, rfl, hrow2, hb2⟩
    have hR2 := hide (FlightsIn.ofOwn hrow2)
    have hB2 := hide (below_two hb1 hb2)
    clear hrow2 hb2
    go_wp2_with fail
    refine (specFlightsOk_any _ _ fs _ hR2.out hl2 HVL.out hs0.out).mono ?_
    rintro e w3 ⟨rfl, hb3⟩
    have hB3 := hide (below_two hB2.out hb3)
    clear hb3
    go_wp2_with fail
    refine (toFlowFlightS_any a cap fs _ (hc0.out.later hB3.out) hl2 HVL.out).mono ?_
    rintro e w4 ⟨g4, rfl, hrow4, hb4⟩
    have hR4 := hide (FlightsIn.ofOwn hrow4)
    have hB4 := hide (below_two hB3.out hb4)
    clear hrow4 hb4
    go_wp2_with fail
    refine (implFlightsOk_any _ _ fs _ hR4.out hl2 HVL.out hs0.out).mono ?_
    rintro e w5 ⟨rfl, hb5⟩
    have hR5 := hide (hR4.out.later hb5)
    have hB5 := hide (below_two hB4.out hb5)
    clear hb5
    generalize flisB fs = q
    go_wp2_with fail
    refine (toFlowFlightS_any a cap fs _ (hc0.out.later hB5.out) hl2 HVL.out).mono ?_
    rintro e w6 ⟨g6, rfl, hrow6, hb6⟩
    have hR6 := hide (FlightsIn.ofOwn hrow6)
    have hR5' := hide (hR5.out.later hb6)
    have hB6 := hide (below_two hB5.out hb6)
    clear hrow6 hb6
    go_wp2_with fail
    refine (eqFlowFlightS_same _ _ _ _ fs _ hR5'.out hR6.out hl2 HVL.out).mono ?_
    rintro e w7 ⟨rfl, hb7⟩
    have hB7 := hide (below_two hB6.out hb7)
    clear hb7
    go_wp2
    go_ret
    exact ⟨rfl, hB7.out⟩

set_option maxRecDepth 100000 in
theorem flLaw_lifted (os : Os) (started : os.Started) (H : Type) (enc : TypeId × Value → H) :
    ReturnsInHanded {} Try.checked os 4 .any (Rows.fnExactFlowFlightsOkSpec.pre6 enc Try.prog Try.f4 Rows.fnExactFlowFlightsOkRow.domain false) (Rows.fnExactFlowFlightsOkSpec.post enc Try.prog Try.f4 false true false false) := by
  refine returnsInHanded_of_change (C := Try.checked) own_knobF started (by kernel_rfl) Try.func4
    (ChangeSpec.witness6 (enc := enc) (C := Try.checked) false ⟨#[], #[.slice none 0 0], []⟩ 8 (by kernel_rfl) (by kernel_rfl) (by kernel_rfl) (by kernel_rfl)) ?_
  intro W base args ds gs before hval0 hW hcnd _
  have hval : ∀ (j : Nat) t v, Try.f4.params[j]? = some t → args[j]? = some v → Value.okWide Try.prog W .any base t v := hval0
  have hW' := hW
  obtain ⟨p, q, hA0, hV, rfl, hfz, hnd⟩ := hW
  have hA : DataW.TrodAll enc Try.prog W 0 (fun _ => true) true Try.f4.params.toList args.toList ds p := hA0
  rw [Try.params4] at hA hval
  obtain ⟨v0, vs0, d0, ds0, p0, q0, hargs, rfl, rfl, h0, r0⟩ := trodAll_cons hA
  obtain ⟨rfl, rfl, rfl⟩ := trodAll_nil r0
  obtain rfl : args = #[v0] := by cases args; simp_all
  obtain ⟨rfl, rfl⟩ := trodVars_none hV
  obtain ⟨a0, len0, cap0, rfl⟩ := okWide_slice Try.underlying40 (hval 0 40 v0 rfl rfl)
  have k0 := h0
  have lt0 : ∀ x ∈ p0, x.block < W.heap.size := by obtain ⟨m, hm⟩ := k0; exact DataW.trod_lt m _ _ _ hm
  obtain ⟨fuel, hf⟩ := h0
  obtain ⟨fs, rfl, hc, hs, hl⟩ := openFlights (by simpa [Value.cells] using hf)
  clear hA0 hval0
  refine (flLaw_walk a0 cap0 fs W hc hs hl).mono fun e W' ⟨he, bel⟩ => ?_
  subst he
  exact ⟨_, rfl, _, _, _, [], _, [], hW', trodAll_mk1 (shut_bool Try.underlying4 _), (trodAll_cons_mk (Below.trod laid_outF (by kernel_rfl) (of_decide_eq_true (by kernel_rfl)) k0 bel lt0) trodAll_mk0), rfl, bel.frame _, fun h => by cases h⟩

theorem fnExactFlowFlightsOk_holds : Rows.FnExactFlowFlightsOkSaid :=
  OpenClaim.holds_of_wide 4 Try.f4 rfl rfl rfl rfl rfl rfl rfl ⟨rfl, rfl, rfl, rfl, rfl⟩ rfl rfl rfl rfl rfl (by kernel_rfl) Try.func4 (by kernel_rfl)
    (of_decide_eq_true (by kernel_rfl)) (by unfold Func.isWrapper; first | (rw [if_pos (by decide +kernel)]; kernel_rfl) | (rw [if_neg (by decide +kernel)]; exact ⟨rfl, rfl⟩))
    (fun os started H enc _ => flLaw_lifted os started H enc)
#print axioms fnExactFlowFlightsOk_holds

end Go.Proofs.Ytciacofibljmoaa
