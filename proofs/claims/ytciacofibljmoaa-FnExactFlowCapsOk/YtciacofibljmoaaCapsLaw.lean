/- At every list of caps FlowCapsOk answers as the document's model does, and leaves its argument as it was: the law FnExactFlowCapsOk returns true for every input, and each argument reads afterwards as before. No condition: every input that can be read. -/
import Derived.Test.YtciacofibljmoaaImplCaps
import Derived.Test.YtciacofibljmoaaOpenCaps
import Derived.OpenShut
import Derived.ShutString
import Derived.ChangeOld
namespace Go.Proofs.Ytciacofibljmoaa
open Go.ChangeShapes Go.WideShapes Go.ChangeAt Go.RowKit

theorem own_knob : ownKnob Try.prog.godebug = none := by kernel_rfl
theorem laid_out : laidOutB Try.prog = true := by kernel_rfl

set_option maxRecDepth 100000 in
set_option maxHeartbeats 800000 in
theorem capsLaw_walk (a : Option Addr) (cap : Nat) (cs : List (ByteArray × Int)) (w : World) (hc : CapsIn w a cs) (hs : ∀ c ∈ cs, c.1.size ≤ maxLen) (hl : cs.length ≤ maxLen) :
    Calls Try.prog 5 #[.slice a cs.length cap] w fun e w' => e = .returned (.bool true) ∧ Below w.heap.size w w' := by
  go_enter Try.func5, Try.ntmps5
  go_wp2_with fail
  refine (szFlowCapS_any a cap cs 1048576 w hc hs hl (by omega) (by omega)).mono ?_
  rintro e w1 ⟨⟨r, rfl, hr⟩, hb1⟩
  rcases hr with hr | ⟨hr, hr2⟩
  · go_wp2
    go_ret
    exact ⟨rfl, hb1⟩
  · have hl2 : cs.length ≤ 1048576 := by omega
    clear hr2
    have hc1 := hide (hc.later hb1)
    have hc0 := hide hc
    have hs0 := hide hs
    clear hc hs
    go_wp2_with fail
    refine (toFlowCapS_any a cap cs _ hc1.out hl2).mono ?_
    rintro e w2 ⟨g2, rfl, hg2, hrow2, hb2⟩
    have hR2 := hide (CapsIn.ofRow hrow2)
    have hB2 := hide (below_two hb1 hb2)
    clear hrow2 hb2 hg2
    go_wp2_with fail
    refine (specCapsOk_any _ _ cs _ hR2.out hl2 hs0.out).mono ?_
    rintro e w3 ⟨rfl, hb3⟩
    have hB3 := hide (below_two hB2.out hb3)
    clear hb3
    go_wp2_with fail
    refine (toFlowCapS_any a cap cs _ (hc0.out.later hB3.out) hl2).mono ?_
    rintro e w4 ⟨g4, rfl, hg4, hrow4, hb4⟩
    have hR4 := hide (CapsIn.ofRow hrow4)
    have hB4 := hide (below_two hB3.out hb4)
    clear hrow4 hb4 hg4
    go_wp2_with fail
    refine (implCapsOk_any _ _ cs _ hR4.out hl2 hs0.out).mono ?_
    rintro e w5 ⟨rfl, hb5⟩
    have hR5 := hide (hR4.out.later hb5)
    have hB5 := hide (below_two hB4.out hb5)
    clear hb5
    generalize capsB cs = q
    go_wp2_with fail
    refine (toFlowCapS_any a cap cs _ (hc0.out.later hB5.out) hl2).mono ?_
    rintro e w6 ⟨g6, rfl, hg6, hrow6, hb6⟩
    have hR6 := hide (CapsIn.ofRow hrow6)
    have hR5' := hide (hR5.out.later hb6)
    have hB6 := hide (below_two hB5.out hb6)
    clear hrow6 hb6 hg6
    go_wp2_with fail
    refine (eqFlowCapS_same _ _ _ _ cs _ hR5'.out hR6.out hl2).mono ?_
    rintro e w7 ⟨rfl, hb7⟩
    have hB7 := hide (below_two hB6.out hb7)
    clear hb7
    go_wp2
    go_ret
    exact ⟨rfl, hB7.out⟩

set_option maxRecDepth 100000 in
theorem capsLaw_lifted (os : Os) (started : os.Started) (H : Type) (enc : TypeId × Value → H) :
    ReturnsInHanded {} Try.checked os 5 .any (Rows.fnExactFlowCapsOkSpec.pre6 enc Try.prog Try.f5 Rows.fnExactFlowCapsOkRow.domain false) (Rows.fnExactFlowCapsOkSpec.post enc Try.prog Try.f5 false true false false) := by
  refine returnsInHanded_of_change (C := Try.checked) own_knob started (by kernel_rfl) Try.func5
    (ChangeSpec.witness6 (enc := enc) (C := Try.checked) false ⟨#[], #[.slice none 0 0], []⟩ 8 (by kernel_rfl) (by kernel_rfl) (by kernel_rfl) (by kernel_rfl)) ?_
  intro W base args ds gs before hval0 hW hcnd _
  have hval : ∀ (j : Nat) t v, Try.f5.params[j]? = some t → args[j]? = some v → Value.okWide Try.prog W .any base t v := hval0
  have hW' := hW
  obtain ⟨p, q, hA0, hV, rfl, hfz, hnd⟩ := hW
  have hA : DataW.TrodAll enc Try.prog W 0 (fun _ => true) true Try.f5.params.toList args.toList ds p := hA0
  rw [Try.params5] at hA hval
  obtain ⟨v0, vs0, d0, ds0, p0, q0, hargs, rfl, rfl, h0, r0⟩ := trodAll_cons hA
  obtain ⟨rfl, rfl, rfl⟩ := trodAll_nil r0
  obtain rfl : args = #[v0] := by cases args; simp_all
  obtain ⟨rfl, rfl⟩ := trodVars_none hV
  obtain ⟨a0, len0, cap0, rfl⟩ := okWide_slice Try.underlying46 (hval 0 46 v0 rfl rfl)
  have k0 := h0
  have lt0 : ∀ x ∈ p0, x.block < W.heap.size := by obtain ⟨m, hm⟩ := k0; exact DataW.trod_lt m _ _ _ hm
  obtain ⟨fuel, hf⟩ := h0
  obtain ⟨cs, rfl, hc, hs, hl⟩ := openCaps (by simpa [Value.cells] using hf)
  clear hA0 hval0
  refine (capsLaw_walk a0 cap0 cs W hc hs hl).mono fun e W' ⟨he, bel⟩ => ?_
  subst he
  exact ⟨_, rfl, _, _, _, [], _, [], hW', trodAll_mk1 (shut_bool Try.underlying4 _), (trodAll_cons_mk (Below.trod laid_out (by kernel_rfl) (of_decide_eq_true (by kernel_rfl)) k0 bel lt0) trodAll_mk0), rfl, bel.frame _, fun h => by cases h⟩

theorem fnExactFlowCapsOk_holds : Rows.FnExactFlowCapsOkSaid :=
  OpenClaim.holds_of_wide 5 Try.f5 rfl rfl rfl rfl rfl rfl rfl ⟨rfl, rfl, rfl, rfl, rfl⟩ rfl rfl rfl rfl rfl (by kernel_rfl) Try.func5 (by kernel_rfl)
    (of_decide_eq_true (by kernel_rfl)) (by unfold Func.isWrapper; first | (rw [if_pos (by decide +kernel)]; kernel_rfl) | (rw [if_neg (by decide +kernel)]; exact ⟨rfl, rfl⟩))
    (fun os started H enc _ => capsLaw_lifted os started H enc)
#print axioms fnExactFlowCapsOk_holds

end Go.Proofs.Ytciacofibljmoaa
