/- At every caps and flights FlowGive answers as the document's model does, leaves its arguments as they were, and its answer owns its memory: the law FnExactFlowGive returns true for every input, and each argument reads afterwards as before. No condition: every input that can be read. -/
import Derived.Test.YtciacofibljmoabGreatImplGive
import Derived.Test.YtciacofibljmoabGreatMarkMore
import Derived.Test.YtciacofibljmoabGreatOpenFl
import Derived.OpenShut
import Derived.ChangeOld
namespace Go.Proofs.YtciacofibljmoabGreat
open Go.ChangeShapes Go.WideShapes Go.ChangeAt Go.RowKit

theorem own_knobG : ownKnob Tryz.prog.godebug = none := by kernel_rfl
theorem laid_outG : laidOutB Tryz.prog = true := by kernel_rfl
theorem below_thenG {w a b : World} {lo hi : Nat} (h : Below w.heap.size w a) (ht : Touch lo hi a b) (hl : w.heap.size ≤ lo) : Below w.heap.size w b :=
  h.trans ⟨ht.os, ht.tape, ht.output, ht.size, fun k hk => ht.block k (Nat.lt_of_lt_of_le hk h.size) (.inl (by omega))⟩
theorem szFlowCapS_oneG (a : Option Addr) (cap : Nat) (cs : List (ByteArray × Int)) (left : Int) (w : World) (hc : CapsIn w a cs) (hs : ∀ c ∈ cs, c.1.size ≤ maxLen) (hl : cs.length ≤ maxLen) (h0 : 0 ≤ left) (h1 : left ≤ 1048576) :
    Calls Tryz.prog 5 #[.slice a cs.length cap, .int .i64 left] w fun e w' => (∃ r : Int, e = .returned (.int .i64 r) ∧ (r < 0 ∨ (0 ≤ r ∧ r ≤ left ∧ (cs.length : Int) ≤ left))) ∧ Below w.heap.size w w' :=
  (szFlowCapS_any a cap cs left w hc hs hl h0 h1).mono fun _ _ ⟨⟨r, he, hr⟩, hb⟩ => ⟨⟨r, he, by omega⟩, hb⟩
theorem giveV_le (cs : List (ByteArray × Int)) (fs : List Fli) : (giveV cs fs).length ≤ fs.length := by
  unfold giveV
  split
  · rw [giveTo_len]; exact Nat.le_refl _
  · simp

set_option maxRecDepth 100000 in
set_option maxHeartbeats 25600000 in
theorem giveLaw_walk (ac a : Option Addr) (capc cap : Nat) (cs : List (ByteArray × Int)) (fs : List Fli) (w : World) (hcc : CapsIn w ac cs) (hc : FlightsIn w a fs) (hsc : ∀ c ∈ cs, c.1.size ≤ maxLen) (hs : ∀ c ∈ fs, SizesOk c) (hlc : cs.length ≤ maxLen) (hl : fs.length ≤ maxLen) :
    Calls Tryz.prog 3 #[.slice ac cs.length capc, .slice a fs.length cap] w fun e w' => e = .returned (.bool true) ∧ Below w.heap.size w w' := by
  have HCC := hide hcc
  have HC := hide hc
  have HSC := hide hsc
  have HS := hide hs
  clear hcc hc hsc hs
  go_enter Tryz.func3, Tryz.ntmps3
  go_wp2_with fail
  refine (szFlowCapS_oneG ac capc cs 1048576 w HCC.out HSC.out hlc (by omega) (by omega)).mono ?_
  rintro e wa ⟨⟨r0, rfl, hr0⟩, hba⟩
  have Ba := hide hba
  clear hba
  rcases hr0 with hr0 | ⟨hr0, hr1, hr2⟩
  · go_wp2
    go_ret
    exact ⟨rfl, Ba.out⟩
  have hlc2 : cs.length ≤ 1048576 := by omega
  clear hr2
  go_wp2_with fail
  refine (szFlowFlightS_any a cap fs r0 wa (HC.out.later Ba.out) HS.out hl (by omega) (by omega)).mono ?_
  rintro e w0 ⟨⟨r, rfl, hr⟩, hb0⟩
  have B0 := hide (below_two Ba.out hb0)
  clear hb0
  rcases hr with rfl | ⟨hr, hr2, hr3, hr4⟩
  · go_wp2
    go_ret
    exact ⟨rfl, B0.out⟩
  have hl2 : fs.length ≤ 1048576 := by omega
  have HVL : Hid (∀ f ∈ fs, f.2.2.2.length ≤ 1048576) := fun f hf => by have := hr4 f hf; omega
  clear hr2 hr3 hr4 hl hlc
  go_wp2_with fail
  refine (toFlowCapS_any ac capc cs _ (HCC.out.later B0.out) hlc2).mono ?_
  rintro e w1 ⟨g1, rfl, _, hrowa, hb1⟩
  have c1_0 := hide (CapsIn.ofRow hrowa)
  have B1 := hide (below_two B0.out hb1)
  have hz1 := hb1.size
  clear hb1 hrowa
  go_wp2_with fail
  refine (toFlowFlightS_any a cap fs _ (HC.out.later B1.out) hl2 HVL.out).mono ?_
  rintro e w2 ⟨g2, rfl, hrowb, hb2⟩
  have c1_1 := hide (c1_0.out.later hb2)
  have f1_0 := hide (FlightsIn.ofOwn hrowb)
  have B2 := hide (below_two B1.out hb2)
  have hz2 := hb2.size
  clear hb2 c1_0 hrowb
  go_wp2_with fail
  refine (specGive_any _ _ _ _ cs fs _ c1_1.out f1_0.out hlc2 hl2 HSC.out HVL.out HS.out).mono ?_
  rintro e w3 ⟨v0, rfl, howna, hb3⟩
  have o_0 := hide (ownInI_of howna)
  have B3 := hide (below_two B2.out hb3)
  have hz3 := hb3.size
  clear hb3 howna c1_1 f1_0
  go_wp2_with fail
  refine (toFlowCapS_any ac capc cs _ (HCC.out.later B3.out) hlc2).mono ?_
  rintro e w4 ⟨g4, rfl, hg4, hrowc, hb4⟩
  have hg4lt := hrowc.lt
  have o_1 := hide (ownInI_later o_0.out hb4)
  have k_0 := hide (hrowc)
  have c2_0 := hide (CapsIn.ofRow hrowc)
  have B4 := hide (below_two B3.out hb4)
  have hz4 := hb4.size
  clear hb4 o_0 hrowc
  go_wp2_with fail
  refine (toFlowFlightS_any a cap fs _ (HC.out.later B4.out) hl2 HVL.out).mono ?_
  rintro e w5 ⟨g5, rfl, hrowd, hb5⟩
  obtain ⟨gv, mm, hshape⟩ := shape_of hrowd HVL.out
  have o_2 := hide (ownInI_later o_1.out hb5)
  have k_1 := hide (k_0.out.of_block (hb5.block _ k_0.out.lt))
  have c2_1 := hide (c2_0.out.later hb5)
  have f2_0 := hide (FlightsIn.ofOwn hrowd)
  have B5 := hide (below_two B4.out hb5)
  have hz5 := hb5.size
  clear hb5 o_1 k_0 c2_0
  have s_0 := hide hshape
  clear hshape hrowd
  go_wp2_with fail
  refine (implGive_any _ _ _ _ cs fs _ c2_1.out f2_0.out hlc2 hl2 HSC.out HVL.out HS.out).mono ?_
  rintro e w6 ⟨v1, rfl, hownb, hb6⟩
  have o_3 := hide (ownInI_later o_2.out hb6)
  have k_2 := hide (k_1.out.of_block (hb6.block _ k_1.out.lt))
  have c2_2 := hide (c2_1.out.later hb6)
  have f2_1 := hide (f2_0.out.later hb6)
  have s_1 := hide (shape_later s_0.out hb6)
  have q_0 := hide (ownInI_of hownb)
  have B6 := hide (below_two B5.out hb6)
  have hz6 := hb6.size
  clear hb6 o_2 k_1 c2_1 f2_0 s_0 hownb
  have hzl : (giveV cs fs).length ≤ 1048576 := Nat.le_trans (giveV_le cs fs) hl2
  generalize hrs : giveV cs fs = zs at q_0 o_3 hzl
  have HRS := hide hrs
  clear hrs
  obtain ⟨aw, cw, rfl, _⟩ := ownI_slice o_3.out.1
  obtain ⟨ag, cg, rfl, _⟩ := ownI_slice q_0.out.1
  go_wp2_with fail
  refine (eqIntS_same _ _ _ _ zs _ (ints_of q_0.out.1) (ints_of o_3.out.1) hzl).mono ?_
  rintro e w7 ⟨rfl, hb7⟩
  have o_4 := hide (ownInI_later o_3.out hb7)
  have k_3 := hide (k_2.out.of_block (hb7.block _ k_2.out.lt))
  have c2_3 := hide (c2_2.out.later hb7)
  have f2_2 := hide (f2_1.out.later hb7)
  have s_2 := hide (shape_later s_1.out hb7)
  have q_1 := hide (ownInI_later q_0.out hb7)
  have B7 := hide (below_two B6.out hb7)
  have hz7 := hb7.size
  clear hb7 o_3 k_2 c2_2 f2_1 s_1 q_0
  go_wp2_with fail
  refine (toFlowCapS_any ac capc cs _ (HCC.out.later B7.out) hlc2).mono ?_
  rintro e w8 ⟨g8, rfl, _, hrowe, hb8⟩
  have o_5 := hide (ownInI_later o_4.out hb8)
  have k_4 := hide (k_3.out.of_block (hb8.block _ k_3.out.lt))
  have c2_4 := hide (c2_3.out.later hb8)
  have f2_3 := hide (f2_2.out.later hb8)
  have s_3 := hide (shape_later s_2.out hb8)
  have q_2 := hide (ownInI_later q_1.out hb8)
  have c3_0 := hide (CapsIn.ofRow hrowe)
  have B8 := hide (below_two B7.out hb8)
  have hz8 := hb8.size
  clear hb8 o_4 k_3 c2_3 f2_2 s_2 q_1 hrowe
  go_wp2_with fail
  refine (eqFlowCapS_same _ _ _ _ cs _ c2_4.out c3_0.out hlc2).mono ?_
  rintro e w9 ⟨rfl, hb9⟩
  have o_6 := hide (ownInI_later o_5.out hb9)
  have k_5 := hide (k_4.out.of_block (hb9.block _ k_4.out.lt))
  have f2_4 := hide (f2_3.out.later hb9)
  have s_4 := hide (shape_later s_3.out hb9)
  have q_3 := hide (ownInI_later q_2.out hb9)
  have B9 := hide (below_two B8.out hb9)
  have hz9 := hb9.size
  clear hb9 o_5 k_4 f2_3 s_3 q_2 c2_4 c3_0
  go_wp2_with fail
  refine (toFlowFlightS_any a cap fs _ (HC.out.later B9.out) hl2 HVL.out).mono ?_
  rintro e w10 ⟨g10, rfl, hrowf, hb10⟩
  have o_7 := hide (ownInI_later o_6.out hb10)
  have k_6 := hide (k_5.out.of_block (hb10.block _ k_5.out.lt))
  have f2_5 := hide (f2_4.out.later hb10)
  have s_5 := hide (shape_later s_4.out hb10)
  have q_4 := hide (ownInI_later q_3.out hb10)
  have f3_0 := hide (FlightsIn.ofOwn hrowf)
  have B10 := hide (below_two B9.out hb10)
  have hz10 := hb10.size
  clear hb10 o_6 k_5 f2_4 s_4 q_3 hrowf
  go_wp2_with fail
  refine (eqFlowFlightS_same _ _ _ _ fs _ f2_5.out f3_0.out hl2 HVL.out).mono ?_
  rintro e w11 ⟨rfl, hb11⟩
  have o_8 := hide (ownInI_later o_7.out hb11)
  have k_7 := hide (k_6.out.of_block (hb11.block _ k_6.out.lt))
  have s_6 := hide (shape_later s_5.out hb11)
  have q_5 := hide (ownInI_later q_4.out hb11)
  have B11 := hide (below_two B10.out hb11)
  have hz11 := hb11.size
  clear hb11 o_7 k_6 s_5 q_4 f2_5 f3_0
  go_wp2_with fail
  refine (markFlowCapS_any _ _ _ _ _ k_7.out hlc2).mono ?_
  rintro e w12 ⟨⟨qa, rfl, hqa0, hqa1⟩, hb12⟩
  have o_9 := hide (ownInI_touch o_8.out hb12 (by omega))
  have s_7 := hide (shape_touch s_6.out hb12 (by omega))
  have q_6 := hide (ownInI_touch q_5.out hb12 (by omega))
  have B12 := hide (below_thenG B11.out hb12 (by have := B3.out.size; omega))
  have hz12 := hb12.size
  clear hb12 o_8 s_6 q_5 k_7
  go_wp2_with fail
  refine (markFlowFlightS_from _ _ _ _ _ gv mm qa hqa0 hqa1 _ s_7.out hl2).mono ?_
  rintro e w13 ⟨⟨qb, rfl, hqb0, hqb1⟩, hb13⟩
  have o_10 := hide (ownInI_touch o_9.out hb13 (by omega))
  have q_7 := hide (ownInI_touch q_6.out hb13 (by omega))
  have B13 := hide (below_thenG B12.out hb13 (by have := B4.out.size; omega))
  have hz13 := hb13.size
  clear hb13 o_9 q_6 s_7
  go_wp2_with fail
  refine (eqIntS_same _ _ _ _ zs _ (ints_of q_7.out.1) (ints_of o_10.out.1) hzl).mono ?_
  rintro e w14 ⟨rfl, hb14⟩
  have o_11 := hide (ownInI_later o_10.out hb14)
  have q_8 := hide (ownInI_later q_7.out hb14)
  have B14 := hide (below_two B13.out hb14)
  have hz14 := hb14.size
  clear hb14 o_10 q_7
  rcases own_splitI q_8.out.1 with ⟨rfl, hrs0, rfl⟩ | ⟨gg, rfl, hgg0, ff, hff, hcg⟩
  · subst hrs0
    simp only [List.length_nil] at *
    have hqq : ((1 : Int) != 1) = false := by simp
    go_wp2_with fail
    refine (markIntS_none _ _ _).mono ?_
    rintro e w15 ⟨rfl, hb15⟩
    have o_12 := hide (ownInI_later o_11.out hb15)
    have B15 := hide (below_two B14.out hb15)
    have hz15 := hb15.size
    clear hb15 o_11 q_8
    go_wp2_with fail
    refine (heldIntS_none _ _ _).mono ?_
    rintro e w16 ⟨rfl, hb16⟩
    have o_13 := hide (ownInI_later o_12.out hb16)
    have B16 := hide (below_two B15.out hb16)
    have hz16 := hb16.size
    clear hb16 o_12
    go_wp2_with fail
    refine (toFlowCapS_any ac capc cs _ (HCC.out.later B16.out) hlc2).mono ?_
    rintro e w17 ⟨gD, rfl, _, hrowg, hb17⟩
    have o_14 := hide (ownInI_later o_13.out hb17)
    have c4_0 := hide (CapsIn.ofRow hrowg)
    have B17 := hide (below_two B16.out hb17)
    have hz17 := hb17.size
    clear hb17 o_13 hrowg
    go_wp2_with fail
    refine (toFlowFlightS_any a cap fs _ (HC.out.later B17.out) hl2 HVL.out).mono ?_
    rintro e w18 ⟨gE, rfl, hrowh, hb18⟩
    have o_15 := hide (ownInI_later o_14.out hb18)
    have c4_1 := hide (c4_0.out.later hb18)
    have f4_0 := hide (FlightsIn.ofOwn hrowh)
    have B18 := hide (below_two B17.out hb18)
    have hz18 := hb18.size
    clear hb18 o_14 c4_0 hrowh
    go_wp2_with fail
    refine (implGive_any _ _ _ _ cs fs _ c4_1.out f4_0.out hlc2 hl2 HSC.out HVL.out HS.out).mono ?_
    rintro e w19 ⟨vh, rfl, hownh, hb19⟩
    rw [HRS.out] at hownh
    have o_16 := hide (ownInI_later o_15.out hb19)
    have h_0 := hide (ownInI_of hownh)
    have B19 := hide (below_two B18.out hb19)
    have hz19 := hb19.size
    clear hb19 o_15 hownh c4_1 f4_0
    obtain ⟨ah, ch, rfl, _⟩ := ownI_slice h_0.out.1
    go_wp2_with fail
    refine (eqIntS_same _ _ _ _ [] _ (ints_of h_0.out.1) (ints_of o_16.out.1) hzl).mono ?_
    rintro e w20 ⟨rfl, hb20⟩
    have B20 := hide (below_two B19.out hb20)
    have hz20 := hb20.size
    clear hb20 h_0 o_16
    go_wp2_with fail
    refine (heldIntS_none _ _ _).mono ?_
    rintro e w21 ⟨rfl, hb21⟩
    have B21 := hide (below_two B20.out hb21)
    have hz21 := hb21.size
    clear hb21
    go_wp2
    go_ret
    exact ⟨rfl, B21.out⟩
  · have hqq : (1 + (zs.length : Int) != 1 + (zs.length : Int)) = false := by simp
    have hnn : ¬ (1 + (zs.length : Int) < 0) := by omega
    go_wp2_with fail
    refine (markIntS_own gg zs.length cg _ ff _ hff hcg hzl).mono ?_
    rintro e w15 ⟨rfl, ⟨f2, hG0, hM0⟩, hb15⟩
    have HM := hide hM0
    have o_12 := hide (ownInI_touch o_11.out hb15 (by omega))
    have g_0 := hide (hG0)
    have B15 := hide (below_thenG B14.out hb15 (by have := B5.out.size; omega))
    have hz15 := hb15.size
    clear hb15 o_11 hG0 hM0 hff q_8
    go_wp2_with fail
    refine (heldIntS_any gg zs.length cg _ f2 _ g_0.out hcg hzl HM.out).mono ?_
    rintro e w16 ⟨rfl, hb16⟩
    have o_13 := hide (ownInI_later o_12.out hb16)
    have g_1 := hide (g_0.out.of_block (hb16.block _ g_0.out.lt))
    have B16 := hide (below_two B15.out hb16)
    have hz16 := hb16.size
    clear hb16 o_12 g_0
    go_wp2_with fail
    refine (toFlowCapS_any ac capc cs _ (HCC.out.later B16.out) hlc2).mono ?_
    rintro e w17 ⟨gD, rfl, _, hrowg, hb17⟩
    have o_14 := hide (ownInI_later o_13.out hb17)
    have g_2 := hide (g_1.out.of_block (hb17.block _ g_1.out.lt))
    have c4_0 := hide (CapsIn.ofRow hrowg)
    have B17 := hide (below_two B16.out hb17)
    have hz17 := hb17.size
    clear hb17 o_13 g_1 hrowg
    go_wp2_with fail
    refine (toFlowFlightS_any a cap fs _ (HC.out.later B17.out) hl2 HVL.out).mono ?_
    rintro e w18 ⟨gE, rfl, hrowh, hb18⟩
    have o_15 := hide (ownInI_later o_14.out hb18)
    have g_3 := hide (g_2.out.of_block (hb18.block _ g_2.out.lt))
    have c4_1 := hide (c4_0.out.later hb18)
    have f4_0 := hide (FlightsIn.ofOwn hrowh)
    have B18 := hide (below_two B17.out hb18)
    have hz18 := hb18.size
    clear hb18 o_14 g_2 c4_0 hrowh
    go_wp2_with fail
    refine (implGive_any _ _ _ _ cs fs _ c4_1.out f4_0.out hlc2 hl2 HSC.out HVL.out HS.out).mono ?_
    rintro e w19 ⟨vh, rfl, hownh, hb19⟩
    rw [HRS.out] at hownh
    have o_16 := hide (ownInI_later o_15.out hb19)
    have g_4 := hide (g_3.out.of_block (hb19.block _ g_3.out.lt))
    have h_0 := hide (ownInI_of hownh)
    have B19 := hide (below_two B18.out hb19)
    have hz19 := hb19.size
    clear hb19 o_15 g_3 hownh c4_1 f4_0
    obtain ⟨ah, ch, rfl, _⟩ := ownI_slice h_0.out.1
    go_wp2_with fail
    refine (eqIntS_same _ _ _ _ zs _ (ints_of h_0.out.1) (ints_of o_16.out.1) hzl).mono ?_
    rintro e w20 ⟨rfl, hb20⟩
    have g_5 := hide (g_4.out.of_block (hb20.block _ g_4.out.lt))
    have B20 := hide (below_two B19.out hb20)
    have hz20 := hb20.size
    clear hb20 g_4 h_0 o_16
    go_wp2_with fail
    refine (heldIntS_any gg zs.length cg _ f2 _ g_5.out hcg hzl HM.out).mono ?_
    rintro e w21 ⟨rfl, hb21⟩
    have g_6 := hide (g_5.out.of_block (hb21.block _ g_5.out.lt))
    have B21 := hide (below_two B20.out hb21)
    have hz21 := hb21.size
    clear hb21 g_5
    go_wp2
    go_ret
    exact ⟨rfl, B21.out⟩

set_option maxRecDepth 100000 in
theorem giveLaw_lifted (os : Os) (started : os.Started) (H : Type) (enc : TypeId × Value → H) :
    ReturnsInHanded {} Tryz.checked os 3 .any (Rows.fnExactFlowGiveSpec.pre6 enc Tryz.prog Tryz.f3 Rows.fnExactFlowGiveRow.domain false) (Rows.fnExactFlowGiveSpec.post enc Tryz.prog Tryz.f3 false true false false) := by
  refine returnsInHanded_of_change (C := Tryz.checked) own_knobG started (by kernel_rfl) Tryz.func3
    (ChangeSpec.witness6 (enc := enc) (C := Tryz.checked) false ⟨#[], #[.slice none 0 0, .slice none 0 0], []⟩ 8 (by kernel_rfl) (by kernel_rfl) (by kernel_rfl) (by kernel_rfl)) ?_
  intro W base args ds gs before hval0 hW hcnd _
  have hval : ∀ (j : Nat) t v, Tryz.f3.params[j]? = some t → args[j]? = some v → Value.okWide Tryz.prog W .any base t v := hval0
  have hW' := hW
  obtain ⟨p, q, hA0, hV, rfl, hfz, hnd⟩ := hW
  have hA : DataW.TrodAll enc Tryz.prog W 0 (fun _ => true) true Tryz.f3.params.toList args.toList ds p := hA0
  rw [Tryz.params3] at hA hval
  obtain ⟨v0, vs0, d0, ds0, p0, q0, hargs, rfl, rfl, h0, r0⟩ := trodAll_cons hA
  obtain ⟨v1, vs1, d1, ds1, p1, q1, rfl, rfl, rfl, h1, r1⟩ := trodAll_cons r0
  obtain ⟨rfl, rfl, rfl⟩ := trodAll_nil r1
  obtain rfl : args = #[v0, v1] := by cases args; simp_all
  obtain ⟨rfl, rfl⟩ := trodVars_none hV
  obtain ⟨a0, len0, cap0, rfl⟩ := okWide_slice Tryz.underlying22 (hval 0 22 v0 rfl rfl)
  obtain ⟨a1, len1, cap1, rfl⟩ := okWide_slice Tryz.underlying23 (hval 1 23 v1 rfl rfl)
  have k0 := h0
  have lt0 : ∀ x ∈ p0, x.block < W.heap.size := by obtain ⟨m, hm⟩ := k0; exact DataW.trod_lt m _ _ _ hm
  have k1 := h1
  have lt1 : ∀ x ∈ p1, x.block < W.heap.size := by obtain ⟨m, hm⟩ := k1; exact DataW.trod_lt m _ _ _ hm
  obtain ⟨fuel0, hf0⟩ := h0
  obtain ⟨cs, rfl, hcc, hsc, hlc⟩ := openCaps (by simpa [Value.cells] using hf0)
  obtain ⟨fuel, hf⟩ := h1
  obtain ⟨fs, rfl, hc, hs, hl⟩ := openFlights (by simpa [Value.cells] using hf)
  clear hA0 hval0
  refine (giveLaw_walk a0 a1 cap0 cap1 cs fs W hcc hc hsc hs hlc hl).mono fun e W' ⟨he, bel⟩ => ?_
  subst he
  exact ⟨_, rfl, _, _, _, [], _, [], hW', trodAll_mk1 (shut_bool Tryz.underlying4 _), trodAll_cons_mk (Below.trod laid_outG (by kernel_rfl) (of_decide_eq_true (by kernel_rfl)) k0 bel lt0) (trodAll_cons_mk (Below.trod laid_outG (by kernel_rfl) (of_decide_eq_true (by kernel_rfl)) k1 bel lt1) trodAll_mk0), rfl, bel.frame _, fun h => by cases h⟩

theorem fnExactFlowGive_holds : Rows.FnExactFlowGiveSaid :=
  OpenClaim.holds_of_wide 3 Tryz.f3 rfl rfl rfl rfl rfl rfl rfl ⟨rfl, rfl, rfl, rfl, rfl⟩ rfl rfl rfl rfl rfl (by kernel_rfl) Tryz.func3 (by kernel_rfl)
    (of_decide_eq_true (by kernel_rfl)) (by unfold Func.isWrapper; first | (rw [if_pos (by decide +kernel)]; kernel_rfl) | (rw [if_neg (by decide +kernel)]; exact ⟨rfl, rfl⟩))
    (fun os started H enc _ => giveLaw_lifted os started H enc)
#print axioms fnExactFlowGive_holds

end Go.Proofs.YtciacofibljmoabGreat
