/- At every list of flights FlowOrder answers as the document's model does, leaves its argument as it was, and its answer owns its memory: the law FnExactFlowOrder returns true for every input, and each argument reads afterwards as before. No condition: every input that can be read. -/
import Derived.Test.YtciacofibljmoabImplOrder
import Derived.Test.YtciacofibljmoabLeaving
import Derived.Test.YtciacofibljmoabIntMarks
import Derived.Test.YtciacofibljmoabOpenFl
import Derived.OpenShut
import Derived.ChangeOld
namespace Go.Proofs.Ytciacofibljmoab
open Go.ChangeShapes Go.WideShapes Go.ChangeAt Go.RowKit

theorem own_knobO : ownKnob Try.prog.godebug = none := by kernel_rfl
theorem laid_outO : laidOutB Try.prog = true := by kernel_rfl
/-- What a touch above leaves of the world below. -/
theorem below_thenO {w a b : World} {lo hi : Nat} (h : Below w.heap.size w a) (ht : Touch lo hi a b) (hl : w.heap.size ≤ lo) : Below w.heap.size w b :=
  h.trans ⟨ht.os, ht.tape, ht.output, ht.size, fun k hk => ht.block k (Nat.lt_of_lt_of_le hk h.size) (.inl (by omega))⟩

set_option maxRecDepth 100000 in
set_option maxHeartbeats 25600000 in
theorem orderLaw_walk (a : Option Addr) (cap : Nat) (fs : List Fli) (w : World) (hc : FlightsIn w a fs) (hs : ∀ c ∈ fs, SizesOk c) (hl : fs.length ≤ maxLen) :
    Calls Try.prog 3 #[.slice a fs.length cap] w fun e w' => e = .returned (.bool true) ∧ Below w.heap.size w w' := by
  have HC := hide hc
  have HS := hide hs
  clear hc hs
  go_enter Try.func3, Try.ntmps3
  go_wp2_with fail
  refine (szFlowFlightS_any a cap fs 1048576 w HC.out HS.out hl (by omega) (by omega)).mono ?_
  rintro e w1 ⟨⟨r, rfl, hr⟩, hb1⟩
  have hB1 := hide hb1
  clear hb1
  rcases hr with rfl | ⟨hr, hr2, hr3, hr4⟩
  · go_wp2
    go_ret
    exact ⟨rfl, hB1.out⟩
  have hl2 : fs.length ≤ 1048576 := by omega
  have HVL : Hid (∀ f ∈ fs, f.2.2.2.length ≤ 1048576) := fun f hf => by have := hr4 f hf; omega
  clear hr2 hr3 hr4 hl
  -- the model's answer
  go_wp2_with fail
  refine (toFlowFlightS_any a cap fs _ (HC.out.later hB1.out) hl2 HVL.out).mono ?_
  rintro e w2 ⟨g2, rfl, hrow2, hb2⟩
  have hR2 := hide (FlightsIn.ofOwn hrow2)
  have hB2 := hide (below_two hB1.out hb2)
  clear hrow2 hb2
  go_wp2_with fail
  refine (specOrder_any _ _ fs _ hR2.out hl2).mono ?_
  rintro e w4 ⟨v0, rfl, hown4, hb4⟩
  have hO4 := hide (ownInI_of hown4)
  have hB4 := hide (below_two hB2.out hb4)
  clear hown4 hb4 hR2
  -- the argument and the answer
  go_wp2_with fail
  refine (toFlowFlightS_any a cap fs _ (HC.out.later hB4.out) hl2 HVL.out).mono ?_
  rintro e w5 ⟨g5, rfl, hrow5, hb5⟩
  have hS5 := hide (shape_of hrow5 HVL.out)
  have hR5 := hide (FlightsIn.ofOwn hrow5)
  have hO5 := hide (ownInI_later hO4.out hb5)
  have hB5 := hide (below_two hB4.out hb5)
  have h45 := hb5.size
  clear hrow5 hb5 hO4
  obtain ⟨gv, mm, hS5b⟩ := hS5.out
  have hS5c := hide hS5b
  clear hS5 hS5b
  go_wp2_with fail
  refine (implOrder_any _ _ fs _ hR5.out hl2).mono ?_
  rintro e w7 ⟨v1, rfl, hown7, hb7⟩
  have hP7 := hide (ownInI_of hown7)
  have hR5_7 := hide (hR5.out.later hb7)
  have hS7 := hide (shape_later hS5c.out hb7)
  have hO7 := hide (ownInI_later hO5.out hb7)
  have hB7 := hide (below_two hB5.out hb7)
  have h67 := hb7.size
  clear hown7 hb7 hR5 hS5c hO5
  have hzl : (nums (ordTo fs fs.length)).length ≤ 1048576 := by
    have : (nums (ordTo fs fs.length)).length = fs.length := by simp [nums, ordTo_len]
    omega
  generalize hrs : nums (ordTo fs fs.length) = zs at hP7 hO7 hzl
  have HRS := hide hrs
  clear hrs
  obtain ⟨aw, cw, rfl, _⟩ := ownI_slice hO7.out.1
  obtain ⟨ag, cg, rfl, _⟩ := ownI_slice hP7.out.1
  go_wp2_with fail
  refine (eqIntS_same _ _ _ _ zs _ (ints_of hP7.out.1) (ints_of hO7.out.1) hzl).mono ?_
  rintro e w8 ⟨rfl, hb8⟩
  have hR5_8 := hide (hR5_7.out.later hb8)
  have hS8 := hide (shape_later hS7.out hb8)
  have hO8 := hide (ownInI_later hO7.out hb8)
  have hP8 := hide (ownInI_later hP7.out hb8)
  have hB8 := hide (below_two hB7.out hb8)
  have hz8 := hb8.size
  clear hb8 hR5_7 hS7 hO7 hP7
  go_wp2_with fail
  refine (toFlowFlightS_any a cap fs _ (HC.out.later hB8.out) hl2 HVL.out).mono ?_
  rintro e w9 ⟨gA, rfl, hrowA, hb9⟩
  have hR5_9 := hide (hR5_8.out.later hb9)
  have hS9 := hide (shape_later hS8.out hb9)
  have hO9 := hide (ownInI_later hO8.out hb9)
  have hP9 := hide (ownInI_later hP8.out hb9)
  have hN9 := hide (FlightsIn.ofOwn hrowA)
  have hB9 := hide (below_two hB8.out hb9)
  have hz9 := hb9.size
  clear hrowA hb9 hR5_8 hS8 hO8 hP8
  go_wp2_with fail
  refine (eqFlowFlightS_same _ _ _ _ fs _ hR5_9.out hN9.out hl2 HVL.out).mono ?_
  rintro e w10 ⟨rfl, hb10⟩
  have hS12 := hide (shape_later hS9.out hb10)
  have hO12 := hide (ownInI_later hO9.out hb10)
  have hP12 := hide (ownInI_later hP9.out hb10)
  have hB12 := hide (below_two hB9.out hb10)
  have hz10 := hb10.size
  clear hb10 hS9 hO9 hP9 hN9 hR5_9
  go_wp2_with fail
  refine (markFlowFlightS_any _ _ _ _ _ gv mm _ hS12.out hl2).mono ?_
  rintro e w13 ⟨⟨qa, rfl, hqa0, hqa1⟩, ht13⟩
  have hO14 := hide (ownInI_touch hO12.out ht13 (by omega))
  have hP14 := hide (ownInI_touch hP12.out ht13 (by omega))
  have hB14 := hide (below_thenO hB12.out ht13 hB4.out.size)
  have hz13 := ht13.size
  clear ht13 hS12 hO12 hP12
  go_wp2_with fail
  refine (eqIntS_same _ _ _ _ zs _ (ints_of hP14.out.1) (ints_of hO14.out.1) hzl).mono ?_
  rintro e w15 ⟨rfl, hb15⟩
  have hO15 := hide (ownInI_later hO14.out hb15)
  have hP15 := hide (ownInI_later hP14.out hb15)
  have hB15 := hide (below_two hB14.out hb15)
  have hz15 := hb15.size
  clear hb15 hO14 hP14
  rcases own_splitI hP15.out.1 with ⟨rfl, hrs0, rfl⟩ | ⟨gg, rfl, hgg0, ff, hff, hcg⟩
  · subst hrs0
    simp only [List.length_nil] at *
    have hqq : ((1 : Int) != 1) = false := by simp
    go_wp2_with fail
    refine (markIntS_none _ _ _).mono ?_
    rintro e w16 ⟨rfl, hb16⟩
    have hO16 := hide (ownInI_later hO15.out hb16)
    have hB16 := hide (below_two hB15.out hb16)
    clear hb16 hO15
    go_wp2_with fail
    refine (heldIntS_none _ _ _).mono ?_
    rintro e w17 ⟨rfl, hb17⟩
    have hO17 := hide (ownInI_later hO16.out hb17)
    have hB17 := hide (below_two hB16.out hb17)
    clear hb17 hO16
    go_wp2_with fail
    refine (toFlowFlightS_any a cap fs _ (HC.out.later hB17.out) hl2 HVL.out).mono ?_
    rintro e w18 ⟨gD, rfl, hrowD, hb18⟩
    have hO18 := hide (ownInI_later hO17.out hb18)
    have hN18 := hide (FlightsIn.ofOwn hrowD)
    have hB18 := hide (below_two hB17.out hb18)
    clear hrowD hb18 hO17
    go_wp2_with fail
    refine (implOrder_any _ _ fs _ hN18.out hl2).mono ?_
    rintro e w20 ⟨vh, rfl, hownh, hb20⟩
    have hO20 := hide (ownInI_later hO18.out hb20)
    rw [HRS.out] at hownh
    have hP20 := hide (ownInI_of hownh)
    have hB20 := hide (below_two hB18.out hb20)
    clear hownh hN18 hb20 hO18
    obtain ⟨ah, ch, rfl, _⟩ := ownI_slice hP20.out.1
    go_wp2_with fail
    refine (eqIntS_same _ _ _ _ [] _ (ints_of hP20.out.1) (ints_of hO20.out.1) hzl).mono ?_
    rintro e w21 ⟨rfl, hb21⟩
    have hB21 := hide (below_two hB20.out hb21)
    clear hb21 hO20
    go_wp2_with fail
    refine (heldIntS_none _ _ _).mono ?_
    rintro e w22 ⟨rfl, hb22⟩
    have hB22 := hide (below_two hB21.out hb22)
    clear hb22
    go_wp2
    go_ret
    exact ⟨rfl, hB22.out⟩
  · have hqq : (1 + (zs.length : Int) != 1 + (zs.length : Int)) = false := by simp
    have hnn : ¬ (1 + (zs.length : Int) < 0) := by omega
    go_wp2_with fail
    refine (markIntS_own gg zs.length cg _ ff _ hff hcg hzl).mono ?_
    rintro e w16 ⟨rfl, ⟨f2, hG0, hM0⟩, ht16⟩
    have hG16 := hide hG0
    have HM := hide hM0
    have hO16 := hide (ownInI_touch hO15.out ht16 (by omega))
    have hB16 := hide (below_thenO hB15.out ht16 (by have := hB5.out.size; omega))
    clear ht16 hG0 hM0 hO15 hff
    go_wp2_with fail
    refine (heldIntS_any gg zs.length cg _ f2 _ hG16.out hcg hzl HM.out).mono ?_
    rintro e w17 ⟨rfl, hb17⟩
    have hO17 := hide (ownInI_later hO16.out hb17)
    have hG17 := hide (hG16.out.of_block (hb17.block _ hG16.out.lt))
    have hB17 := hide (below_two hB16.out hb17)
    clear hb17 hO16 hG16
    go_wp2_with fail
    refine (toFlowFlightS_any a cap fs _ (HC.out.later hB17.out) hl2 HVL.out).mono ?_
    rintro e w18 ⟨gD, rfl, hrowD, hb18⟩
    have hO18 := hide (ownInI_later hO17.out hb18)
    have hG18 := hide (hG17.out.of_block (hb18.block _ hG17.out.lt))
    have hN18 := hide (FlightsIn.ofOwn hrowD)
    have hB18 := hide (below_two hB17.out hb18)
    clear hrowD hb18 hO17 hG17
    go_wp2_with fail
    refine (implOrder_any _ _ fs _ hN18.out hl2).mono ?_
    rintro e w20 ⟨vh, rfl, hownh, hb20⟩
    have hO20 := hide (ownInI_later hO18.out hb20)
    have hG20 := hide (hG18.out.of_block (hb20.block _ hG18.out.lt))
    rw [HRS.out] at hownh
    have hP20 := hide (ownInI_of hownh)
    have hB20 := hide (below_two hB18.out hb20)
    clear hownh hN18 hb20 hO18 hG18
    obtain ⟨ah, ch, rfl, _⟩ := ownI_slice hP20.out.1
    go_wp2_with fail
    refine (eqIntS_same _ _ _ _ zs _ (ints_of hP20.out.1) (ints_of hO20.out.1) hzl).mono ?_
    rintro e w21 ⟨rfl, hb21⟩
    have hG21 := hide (hG20.out.of_block (hb21.block _ hG20.out.lt))
    have hB21 := hide (below_two hB20.out hb21)
    clear hb21 hO20 hG20
    go_wp2_with fail
    refine (heldIntS_any gg zs.length cg _ f2 _ hG21.out hcg hzl HM.out).mono ?_
    rintro e w22 ⟨rfl, hb22⟩
    have hB22 := hide (below_two hB21.out hb22)
    clear hb22
    go_wp2
    go_ret
    exact ⟨rfl, hB22.out⟩

set_option maxRecDepth 100000 in
theorem orderLaw_lifted (os : Os) (started : os.Started) (H : Type) (enc : TypeId × Value → H) :
    ReturnsInHanded {} Try.checked os 3 .any (Rows.fnExactFlowOrderSpec.pre6 enc Try.prog Try.f3 Rows.fnExactFlowOrderRow.domain false) (Rows.fnExactFlowOrderSpec.post enc Try.prog Try.f3 false true false false) := by
  refine returnsInHanded_of_change (C := Try.checked) own_knobO started (by kernel_rfl) Try.func3
    (ChangeSpec.witness6 (enc := enc) (C := Try.checked) false ⟨#[], #[.slice none 0 0], []⟩ 8 (by kernel_rfl) (by kernel_rfl) (by kernel_rfl) (by kernel_rfl)) ?_
  intro W base args ds gs before hval0 hW hcnd _
  have hval : ∀ (j : Nat) t v, Try.f3.params[j]? = some t → args[j]? = some v → Value.okWide Try.prog W .any base t v := hval0
  have hW' := hW
  obtain ⟨p, q, hA0, hV, rfl, hfz, hnd⟩ := hW
  have hA : DataW.TrodAll enc Try.prog W 0 (fun _ => true) true Try.f3.params.toList args.toList ds p := hA0
  rw [Try.params3] at hA hval
  obtain ⟨v0, vs0, d0, ds0, p0, q0, hargs, rfl, rfl, h0, r0⟩ := trodAll_cons hA
  obtain ⟨rfl, rfl, rfl⟩ := trodAll_nil r0
  obtain rfl : args = #[v0] := by cases args; simp_all
  obtain ⟨rfl, rfl⟩ := trodVars_none hV
  obtain ⟨a0, len0, cap0, rfl⟩ := okWide_slice Try.underlying22 (hval 0 22 v0 rfl rfl)
  have k0 := h0
  have lt0 : ∀ x ∈ p0, x.block < W.heap.size := by obtain ⟨m, hm⟩ := k0; exact DataW.trod_lt m _ _ _ hm
  obtain ⟨fuel, hf⟩ := h0
  obtain ⟨fs, rfl, hc, hs, hl⟩ := openFlights (by simpa [Value.cells] using hf)
  clear hA0 hval0
  refine (orderLaw_walk a0 cap0 fs W hc hs hl).mono fun e W' ⟨he, bel⟩ => ?_
  subst he
  exact ⟨_, rfl, _, _, _, [], _, [], hW', trodAll_mk1 (shut_bool Try.underlying4 _), trodAll_cons_mk (Below.trod laid_outO (by kernel_rfl) (of_decide_eq_true (by kernel_rfl)) k0 bel lt0) trodAll_mk0, rfl, bel.frame _, fun h => by cases h⟩

theorem fnExactFlowOrder_holds : Rows.FnExactFlowOrderSaid := by
  first
  | exact OpenClaim.holds_of_wide 3 Try.f3 rfl rfl rfl rfl rfl rfl rfl ⟨rfl, rfl, rfl, rfl, rfl⟩ rfl rfl rfl rfl rfl (by kernel_rfl) Try.func3 (by kernel_rfl)
      (of_decide_eq_true (by kernel_rfl)) (by unfold Func.isWrapper; first | (rw [if_pos (by decide +kernel)]; kernel_rfl) | (rw [if_neg (by decide +kernel)]; exact ⟨rfl, rfl⟩))
      (fun os started H enc _ => orderLaw_lifted os started H enc)
  | exact OpenClaim.holds_of_wide_leaving 3 Try.f3 rfl rfl rfl rfl rfl rfl rfl ⟨rfl, rfl, rfl, rfl, rfl⟩ rfl rfl rfl rfl rfl (by kernel_rfl) Try.func3 (by kernel_rfl)
      (of_decide_eq_true (by kernel_rfl)) (by unfold Func.isWrapper; first | (rw [if_pos (by decide +kernel)]; kernel_rfl) | (rw [if_neg (by decide +kernel)]; exact ⟨rfl, rfl⟩))
      (fun os started H enc _ => leaving_of_handed (orderLaw_lifted os started H enc))
#print axioms fnExactFlowOrder_holds

end Go.Proofs.Ytciacofibljmoab
