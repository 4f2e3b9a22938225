/- At every flights, slots and sector FlowRuns answers as the document's model does, leaves its arguments as they were, and its answer owns its memory: the law FnExactFlowRuns returns true for every input, and each argument reads afterwards as before. No condition: every input that can be read. -/
import Derived.Test.YtciacofibljmoaaMarks
import Derived.Test.YtciacofibljmoaaOpenFl
import Derived.Test.YtciacofibljmoaaOpenInts
import Derived.OpenShut
import Derived.ShutString
import Derived.ChangeOld
namespace Go.Proofs.Ytciacofibljmoaa
open Go.ChangeShapes Go.WideShapes Go.ChangeAt Go.RowKit
open Go.ChangeMaps (open_string shut_string)

theorem own_knobR : ownKnob Try.prog.godebug = none := by kernel_rfl
theorem laid_outR : laidOutB Try.prog = true := by kernel_rfl

/-- The runs that the document asks for. -/
def runsV (fs : List Fli) (ss : List Int) (sec : ByteArray) : List Run := if slotsB fs ss = true then runsL fs ss sec else []
theorem own_base {w : World} {base base' : Nat} {v : Value} {rs : List Run} (h : OwnRuns w base v rs) (hb : base' ≤ base) : OwnRuns w base' v rs := by
  obtain ⟨h1, h2⟩ := h
  refine ⟨h1, ?_⟩
  rcases h2 with h2 | ⟨g, cap, cur, e1, e2, e3⟩
  · exact .inl h2
  · exact .inr ⟨g, cap, cur, e1, by omega, e3⟩

set_option maxRecDepth 100000 in
set_option maxHeartbeats 1600000 in
theorem implRuns_any (a a' : Option Addr) (cap cap' : Nat) (fs : List Fli) (ss : List Int) (sec : ByteArray) (w : World) (hc : FlightsIn w a fs) (hc' : IntsIn w a' ss) (hl : fs.length ≤ 1048576) (hl' : ss.length ≤ 1048576) (hvl : ∀ f ∈ fs, f.2.2.2.length ≤ 1048576) (hs : ∀ f ∈ fs, SizesOk f) :
    Calls Try.prog 10 #[.slice a fs.length cap, .slice a' ss.length cap', .string sec] w fun e w' => ∃ v, e = .returned v ∧ OwnRuns w' w.heap.size v (runsV fs ss sec) ∧ (runsV fs ss sec).length ≤ 1000 ∧ Below w.heap.size w w' := by
  have HC := hide hc
  have HC' := hide hc'
  have HVL := hide hvl
  have HS := hide hs
  clear hc hc' hvl hs
  cases hq : slotsB fs ss
  · have H2 := hide hq
    have HV : Hid (runsV fs ss sec = []) := by show _ = _; unfold runsV; rw [hq]; rfl
    clear hq
    go_enter Try.func10, Try.ntmps10
    go_wp2_with (go_at_call 41; refine (slotsOk_val a a' cap cap' fs ss _ H2.out _ HC.out HC'.out hl hl' HVL.out HS.out).mono ?_; rintro e w1 ⟨rfl, hb1⟩)
    go_ret
    exact ⟨_, rfl, by rw [HV.out]; exact World.ownsRow_nil _ _ _ _, by rw [HV.out]; simp, hb1⟩
  · have H2 := hide hq
    have HV : Hid (runsV fs ss sec = runsL fs ss sec) := by show _ = _; unfold runsV; rw [hq]; rfl
    have HHY := hide (changes_hyps hq sec)
    clear hq
    go_enter Try.func10, Try.ntmps10
    go_wp2_with fail
    refine (slotsOk_val a a' cap cap' fs ss _ H2.out _ HC.out HC'.out hl hl' HVL.out HS.out).mono ?_
    rintro e w1 ⟨rfl, hb1⟩
    have HB1 := hide hb1
    clear hb1
    go_wp2_with fail
    refine (loadChanges_any a a' cap cap' fs ss sec w1 (HC.out.later HB1.out) (HC'.out.later HB1.out) H2.out).mono ?_
    rintro e w4 ⟨rfl, ⟨n, DD, hn, hchg⟩, hb4⟩
    have HCH := hide hchg
    have HB4 := hide (below_two HB1.out hb4)
    clear hchg hb4
    go_wp2_with fail
    refine (runsOf_any w1.heap.size n DD _ _ w4 HCH.out (by omega) HHY.out.1 HHY.out.2).mono ?_
    rintro e w5 ⟨v, zs, rfl, hz, hm, hor, hle, hb5⟩
    rw [impl_runs H2.out hz hm, ← HV.out] at hor hle
    have HO := hide (own_base hor HB4.out.size)
    have HB5 := hide (below_two HB4.out hb5)
    clear hz hm hor hb5
    go_wp2
    go_ret
    exact ⟨_, rfl, HO.out, hle, HB5.out⟩

theorem runs_of {w : World} {base : Nat} {a : Option Addr} {n cap : Nat} {rs : List Run} (h : OwnRuns w base (.slice a n cap) rs) : RunsIn w a rs := by
  obtain ⟨a', cap', e, hr⟩ := own_runs h
  simp at e
  obtain ⟨rfl, _, _⟩ := e
  exact hr
theorem own_split {w : World} {base : Nat} {a : Option Addr} {cap : Nat} {rs : List Run} (h : OwnRuns w base (.slice a rs.length cap) rs) :
    (a = none ∧ rs = [] ∧ cap = 0) ∨ ∃ g, a = some ⟨g, 0, none⟩ ∧ base ≤ g ∧ ∃ f, w.rowIs g 31 (cap * 3) f ∧ rs.length ≤ cap := by
  have hh := h
  unfold OwnRuns at h
  rcases h.2 with ⟨h0, h1⟩ | ⟨g', cap', cur, e, hg, _⟩
  · simp at h0
    exact .inl ⟨h0.1, h0.2.1, h0.2.2⟩
  · simp at e
    obtain ⟨rfl, rfl⟩ := e
    obtain ⟨_, h1, f, h2, h3⟩ := row_of_own hh
    exact .inr ⟨g', rfl, h1, f, h2, h3⟩

/-- What a touch above leaves of the world below. -/
theorem below_then {w a b : World} {lo hi : Nat} (h : Below w.heap.size w a) (ht : Touch lo hi a b) (hl : w.heap.size ≤ lo) : Below w.heap.size w b :=
  h.trans ⟨ht.os, ht.tape, ht.output, ht.size, fun k hk => ht.block k (Nat.lt_of_lt_of_le hk h.size) (.inl (by omega))⟩

set_option maxRecDepth 100000 in
set_option maxHeartbeats 25600000 in
theorem runsLaw_walk (a a' : Option Addr) (cap cap' : Nat) (fs : List Fli) (ss : List Int) (sec : ByteArray) (w : World) (hc : FlightsIn w a fs) (hc' : IntsIn w a' ss) (hs : ∀ c ∈ fs, SizesOk c) (hl : fs.length ≤ maxLen) (hm : ss.length ≤ maxLen) (_hsec : sec.size ≤ maxLen) :
    Calls Try.prog 7 #[.slice a fs.length cap, .slice a' ss.length cap', .string sec] w fun e w' => e = .returned (.bool true) ∧ Below w.heap.size w w' := by
  unfold maxLen at hm _hsec
  have HC := hide hc
  have HC' := hide hc'
  have HS := hide hs
  clear hc hc' hs
  by_cases h1 : (1048576 : Int) < (ss.length : Int)
  · go_enter Try.func7, Try.ntmps7
    go_wp2
    go_ret
    exact ⟨rfl, Below.refl _ _⟩
  by_cases h2 : (1048576 : Int) < (sec.size : Int)
  · go_enter Try.func7, Try.ntmps7
    go_wp2
    go_ret
    exact ⟨rfl, Below.refl _ _⟩
  have hl' : ss.length ≤ 1048576 := by omega
  go_enter Try.func7, Try.ntmps7
  go_wp2_with fail
  refine (szFlowFlightS_any a cap fs 1048576 w HC.out HS.out hl (by omega) (by omega)).mono ?_
  rintro e w1 ⟨⟨r, rfl, hr⟩, hb1⟩
  have hB1 := hide hb1
  clear hb1
  rcases hr with rfl | ⟨hr, hr2, hr3, hr4⟩
  · go_wp2
    go_ret
    exact ⟨rfl, hB1.out⟩
  have hl2 : fs.length ≤ 1048576 := by omega
  have HVL : Hid (∀ f ∈ fs, f.2.2.2.length ≤ 1048576) := fun f hf => by have := hr4 f hf; omega
  clear hr2 hr3 hr4 hl hm
  -- the model's answer
  go_wp2_with fail
  refine (toFlowFlightS_any a cap fs _ (HC.out.later hB1.out) hl2 HVL.out).mono ?_
  rintro e w2 ⟨g2, rfl, hrow2, hb2⟩
  have hR2 := hide (FlightsIn.ofOwn hrow2)
  have hB2 := hide (below_two hB1.out hb2)
  clear hrow2 hb2
  go_wp2_with fail
  refine (toIntS_any a' cap' ss _ (HC'.out.later hB2.out) hl').mono ?_
  rintro e w3 ⟨g3, rfl, _, hrow3, hb3⟩
  have hR3 := hide (IntsIn.ofRow hrow3)
  have hR2' := hide (hR2.out.later hb3)
  have hB3 := hide (below_two hB2.out hb3)
  clear hrow3 hb3 hR2
  go_wp2_with fail
  refine (specRuns_any _ _ _ _ fs ss sec _ hR2'.out hR3.out hl2 hl' HVL.out HS.out).mono ?_
  rintro e w4 ⟨v0, rfl, hown4, hb4⟩
  have hO4 := hide (ownIn_of (rs := runsV fs ss sec) hown4)
  have hB4 := hide (below_two hB3.out hb4)
  clear hown4 hb4 hR2' hR3
  -- the arguments and the answer
  go_wp2_with fail
  refine (toFlowFlightS_any a cap fs _ (HC.out.later hB4.out) hl2 HVL.out).mono ?_
  rintro e w5 ⟨g5, rfl, hrow5, hb5⟩
  have hS5 := hide (shape_of hrow5 HVL.out)
  have hR5 := hide (FlightsIn.ofOwn hrow5)
  have hO5 := hide (ownIn_later hO4.out hb5)
  have hB5 := hide (below_two hB4.out hb5)
  have h45 := hb5.size
  clear hrow5 hb5 hO4
  obtain ⟨gv, mm, hS5b⟩ := hS5.out
  have hS5c := hide hS5b
  clear hS5 hS5b
  go_wp2_with fail
  refine (toIntS_any a' cap' ss _ (HC'.out.later hB5.out) hl').mono ?_
  rintro e w6 ⟨g6, rfl, hg6, hrow6, hb6⟩
  have hI6 := hide hrow6
  have hg6lt := hrow6.lt
  have hR6 := hide (IntsIn.ofRow hrow6)
  have hR5' := hide (hR5.out.later hb6)
  have hS6 := hide (shape_later hS5c.out hb6)
  have hO6 := hide (ownIn_later hO5.out hb6)
  have hB6 := hide (below_two hB5.out hb6)
  have h56 := hb6.size
  clear hrow6 hb6 hR5 hS5c hO5
  go_wp2_with fail
  refine (implRuns_any _ _ _ _ fs ss sec _ hR5'.out hR6.out hl2 hl' HVL.out HS.out).mono ?_
  rintro e w7 ⟨v1, rfl, hown7, hle7, hb7⟩
  have hP7 := hide (ownIn_of hown7)
  have hI7 := hide (hI6.out.of_block (hb7.block _ hI6.out.lt))
  have hR57 := hide (hR5'.out.later hb7)
  have hR67 := hide (hR6.out.later hb7)
  have hS7 := hide (shape_later hS6.out hb7)
  have hO7 := hide (ownIn_later hO6.out hb7)
  have hB7 := hide (below_two hB6.out hb7)
  have h67 := hb7.size
  clear hown7 hb7 hI6 hR5' hR6 hS6 hO6
  generalize hrs : runsV fs ss sec = rs at hle7 hP7 hO7
  have HRS := hide hrs
  clear hrs
  obtain ⟨aw, cw, rfl, _⟩ := own_runs hO7.out.1
  obtain ⟨ag, cg, rfl, _⟩ := own_runs hP7.out.1
  have hrl : rs.length ≤ 1048576 := by omega
  have hR5_7 := hR57
  have hR6_7 := hR67
  clear hR57 hR67
  go_wp2_with fail
  refine (eqFlowRunS_same _ _ _ _ rs _ (runs_of hP7.out.1) (runs_of hO7.out.1) hrl).mono ?_
  rintro e w8 ⟨rfl, hb8⟩
  have hI8 := hide (hI7.out.of_block (hb8.block _ hI7.out.lt))
  have hR5_8 := hide (hR5_7.out.later hb8)
  have hR6_8 := hide (hR6_7.out.later hb8)
  have hS8 := hide (shape_later hS7.out hb8)
  have hO8 := hide (ownIn_later hO7.out hb8)
  have hP8 := hide (ownIn_later hP7.out hb8)
  have hB8 := hide (below_two hB7.out hb8)
  have hz8 := hb8.size
  clear hb8 hI7 hR5_7 hR6_7 hS7 hO7 hP7
  go_wp2_with fail
  refine (toFlowFlightS_any a cap fs _ (HC.out.later hB8.out) hl2 HVL.out).mono ?_
  rintro e w9 ⟨gA, rfl, hrowA, hb9⟩
  have hI9 := hide (hI8.out.of_block (hb9.block _ hI8.out.lt))
  have hR5_9 := hide (hR5_8.out.later hb9)
  have hR6_9 := hide (hR6_8.out.later hb9)
  have hS9 := hide (shape_later hS8.out hb9)
  have hO9 := hide (ownIn_later hO8.out hb9)
  have hP9 := hide (ownIn_later hP8.out hb9)
  have hN9 := hide (FlightsIn.ofOwn hrowA)
  clear hrowA
  have hB9 := hide (below_two hB8.out hb9)
  have hz9 := hb9.size
  clear hb9 hI8 hR5_8 hR6_8 hS8 hO8 hP8
  go_wp2_with fail
  refine (eqFlowFlightS_same _ _ _ _ fs _ hR5_9.out hN9.out hl2 HVL.out).mono ?_
  rintro e w10 ⟨rfl, hb10⟩
  have hI10 := hide (hI9.out.of_block (hb10.block _ hI9.out.lt))
  have hR6_10 := hide (hR6_9.out.later hb10)
  have hS10 := hide (shape_later hS9.out hb10)
  have hO10 := hide (ownIn_later hO9.out hb10)
  have hP10 := hide (ownIn_later hP9.out hb10)
  have hB10 := hide (below_two hB9.out hb10)
  have hz10 := hb10.size
  clear hb10 hI9 hR6_9 hS9 hO9 hP9
  clear hN9 hR5_9
  go_wp2_with fail
  refine (toIntS_any a' cap' ss _ (HC'.out.later hB10.out) hl').mono ?_
  rintro e w11 ⟨gC, rfl, _, hrowC, hb11⟩
  have hI11 := hide (hI10.out.of_block (hb11.block _ hI10.out.lt))
  have hR6_11 := hide (hR6_10.out.later hb11)
  have hS11 := hide (shape_later hS10.out hb11)
  have hO11 := hide (ownIn_later hO10.out hb11)
  have hP11 := hide (ownIn_later hP10.out hb11)
  have hN11 := hide (IntsIn.ofRow hrowC)
  clear hrowC
  have hB11 := hide (below_two hB10.out hb11)
  have hz11 := hb11.size
  clear hb11 hI10 hR6_10 hS10 hO10 hP10
  go_wp2_with fail
  refine (eqIntS_same _ _ _ _ ss _ hR6_11.out hN11.out hl').mono ?_
  rintro e w12 ⟨rfl, hb12⟩
  have hI12 := hide (hI11.out.of_block (hb12.block _ hI11.out.lt))
  have hS12 := hide (shape_later hS11.out hb12)
  have hO12 := hide (ownIn_later hO11.out hb12)
  have hP12 := hide (ownIn_later hP11.out hb12)
  have hB12 := hide (below_two hB11.out hb12)
  have hz12 := hb12.size
  clear hb12 hI11 hS11 hO11 hP11
  clear hN11 hR6_11
  go_wp2_with fail
  refine (markFlowFlightS_any _ _ _ _ _ gv mm _ hS12.out hl2).mono ?_
  rintro e w13 ⟨⟨qa, rfl, hqa0, hqa1⟩, ht13⟩
  have hI13 := hide (row_touch hI12.out ht13 (by omega))
  have hO13 := hide (ownIn_touch hO12.out ht13 (by omega))
  have hP13 := hide (ownIn_touch hP12.out ht13 (by omega))
  have hB13 := hide (below_then hB12.out ht13 hB4.out.size)
  have hz13 := ht13.size
  clear ht13 hS12 hI12 hO12 hP12
  go_wp2_with fail
  refine (markIntS_any _ _ _ _ qa _ hI13.out hl' (by omega) (by omega)).mono ?_
  rintro e w14 ⟨⟨qb, rfl, hqb0⟩, ht14⟩
  have hO14 := hide (ownIn_touch hO13.out ht14 (by omega))
  have hP14 := hide (ownIn_touch hP13.out ht14 (by omega))
  have hB14 := hide (below_then hB13.out ht14 (by have := hB5.out.size; omega))
  have hz14 := ht14.size
  clear ht14 hI13 hO13 hP13
  go_wp2_with fail
  refine (eqFlowRunS_same _ _ _ _ rs _ (runs_of hP14.out.1) (runs_of hO14.out.1) hrl).mono ?_
  rintro e w15 ⟨rfl, hb15⟩
  have hO15 := hide (ownIn_later hO14.out hb15)
  have hP15 := hide (ownIn_later hP14.out hb15)
  have hB15 := hide (below_two hB14.out hb15)
  have hz15 := hb15.size
  clear hb15 hO14 hP14
  rcases own_split hP15.out.1 with ⟨rfl, hrs0, rfl⟩ | ⟨gg, rfl, hgg0, ff, hff, hcg⟩
  · subst hrs0
    simp only [List.length_nil] at *
    have hqq : ((1 : Int) != 1) = false := by simp
    go_wp2_with fail
    refine (markFlowRunS_none _ _ _).mono ?_
    rintro e w16 ⟨rfl, hb16⟩
    have hO16 := hide (ownIn_later hO15.out hb16)
    have hB16 := hide (below_two hB15.out hb16)
    have hz16 := hb16.size
    clear hb16 hO15
    go_wp2_with fail
    refine (heldFlowRunS_none _ _ _).mono ?_
    rintro e w17 ⟨rfl, hb17⟩
    have hO17 := hide (ownIn_later hO16.out hb17)
    have hB17 := hide (below_two hB16.out hb17)
    have hz17 := hb17.size
    clear hb17 hO16
    go_wp2_with fail
    refine (toFlowFlightS_any a cap fs _ (HC.out.later hB17.out) hl2 HVL.out).mono ?_
    rintro e w18 ⟨gD, rfl, hrowD, hb18⟩
    have hO18 := hide (ownIn_later hO17.out hb18)
    have hN18 := hide (FlightsIn.ofOwn hrowD)
    clear hrowD
    have hB18 := hide (below_two hB17.out hb18)
    have hz18 := hb18.size
    clear hb18 hO17
    go_wp2_with fail
    refine (toIntS_any a' cap' ss _ (HC'.out.later hB18.out) hl').mono ?_
    rintro e w19 ⟨gE, rfl, _, hrowE, hb19⟩
    have hO19 := hide (ownIn_later hO18.out hb19)
    have hN19 := hide (hN18.out.later hb19)
    have hNI19 := hide (IntsIn.ofRow hrowE)
    clear hrowE
    have hB19 := hide (below_two hB18.out hb19)
    have hz19 := hb19.size
    clear hb19 hO18 hN18
    go_wp2_with fail
    refine (implRuns_any _ _ _ _ fs ss sec _ hN19.out hNI19.out hl2 hl' HVL.out HS.out).mono ?_
    rintro e w20 ⟨vh, rfl, hownh, _, hb20⟩
    have hO20 := hide (ownIn_later hO19.out hb20)
    rw [HRS.out] at hownh
    have hP20 := hide (ownIn_of hownh)
    clear hownh hN19 hNI19
    have hB20 := hide (below_two hB19.out hb20)
    have hz20 := hb20.size
    clear hb20 hO19
    obtain ⟨ah, ch, rfl, _⟩ := own_runs hP20.out.1
    go_wp2_with fail
    refine (eqFlowRunS_same _ _ _ _ [] _ (runs_of hP20.out.1) (runs_of hO20.out.1) hrl).mono ?_
    rintro e w21 ⟨rfl, hb21⟩
    have hO21 := hide (ownIn_later hO20.out hb21)
    have hB21 := hide (below_two hB20.out hb21)
    have hz21 := hb21.size
    clear hb21 hO20
    go_wp2_with fail
    refine (heldFlowRunS_none _ _ _).mono ?_
    rintro e w22 ⟨rfl, hb22⟩
    have hO22 := hide (ownIn_later hO21.out hb22)
    have hB22 := hide (below_two hB21.out hb22)
    have hz22 := hb22.size
    clear hb22 hO21
    go_wp2
    go_ret
    exact ⟨rfl, hB22.out⟩
  · have hqq : (1 + 3 * (rs.length : Int) != 1 + 3 * (rs.length : Int)) = false := by simp
    have hnn : ¬ (1 + 3 * (rs.length : Int) < 0) := by omega
    go_wp2_with fail
    refine (markFlowRunS_any gg rs.length cg _ ff _ hff (by omega) hrl).mono ?_
    rintro e w16 ⟨rfl, ⟨f2, hG0, hM0⟩, ht16⟩
    have hG16 := hide hG0
    have HM := hide hM0
    have hO16 := hide (ownIn_touch hO15.out ht16 (by omega))
    have hB16 := hide (below_then hB15.out ht16 (by have := hB6.out.size; omega))
    clear ht16 hG0 hM0 hO15 hff
    go_wp2_with fail
    refine (heldFlowRunS_any gg rs.length cg _ f2 _ hG16.out (by omega) hrl HM.out).mono ?_
    rintro e w17 ⟨rfl, hb17⟩
    have hO17 := hide (ownIn_later hO16.out hb17)
    have hG17 := hide (hG16.out.of_block (hb17.block _ hG16.out.lt))
    have hB17 := hide (below_two hB16.out hb17)
    have hz17 := hb17.size
    clear hb17 hO16 hG16
    go_wp2_with fail
    refine (toFlowFlightS_any a cap fs _ (HC.out.later hB17.out) hl2 HVL.out).mono ?_
    rintro e w18 ⟨gD, rfl, hrowD, hb18⟩
    have hO18 := hide (ownIn_later hO17.out hb18)
    have hG18 := hide (hG17.out.of_block (hb18.block _ hG17.out.lt))
    have hN18 := hide (FlightsIn.ofOwn hrowD)
    clear hrowD
    have hB18 := hide (below_two hB17.out hb18)
    have hz18 := hb18.size
    clear hb18 hO17 hG17
    go_wp2_with fail
    refine (toIntS_any a' cap' ss _ (HC'.out.later hB18.out) hl').mono ?_
    rintro e w19 ⟨gE, rfl, _, hrowE, hb19⟩
    have hO19 := hide (ownIn_later hO18.out hb19)
    have hN19 := hide (hN18.out.later hb19)
    have hG19 := hide (hG18.out.of_block (hb19.block _ hG18.out.lt))
    have hNI19 := hide (IntsIn.ofRow hrowE)
    clear hrowE
    have hB19 := hide (below_two hB18.out hb19)
    have hz19 := hb19.size
    clear hb19 hO18 hN18 hG18
    go_wp2_with fail
    refine (implRuns_any _ _ _ _ fs ss sec _ hN19.out hNI19.out hl2 hl' HVL.out HS.out).mono ?_
    rintro e w20 ⟨vh, rfl, hownh, _, hb20⟩
    have hO20 := hide (ownIn_later hO19.out hb20)
    have hG20 := hide (hG19.out.of_block (hb20.block _ hG19.out.lt))
    rw [HRS.out] at hownh
    have hP20 := hide (ownIn_of hownh)
    clear hownh hN19 hNI19
    have hB20 := hide (below_two hB19.out hb20)
    have hz20 := hb20.size
    clear hb20 hO19 hG19
    obtain ⟨ah, ch, rfl, _⟩ := own_runs hP20.out.1
    go_wp2_with fail
    refine (eqFlowRunS_same _ _ _ _ rs _ (runs_of hP20.out.1) (runs_of hO20.out.1) hrl).mono ?_
    rintro e w21 ⟨rfl, hb21⟩
    have hO21 := hide (ownIn_later hO20.out hb21)
    have hG21 := hide (hG20.out.of_block (hb21.block _ hG20.out.lt))
    have hB21 := hide (below_two hB20.out hb21)
    have hz21 := hb21.size
    clear hb21 hO20 hG20
    go_wp2_with fail
    refine (heldFlowRunS_any gg rs.length cg _ f2 _ hG21.out (by omega) hrl HM.out).mono ?_
    rintro e w22 ⟨rfl, hb22⟩
    have hO22 := hide (ownIn_later hO21.out hb22)
    have hB22 := hide (below_two hB21.out hb22)
    have hz22 := hb22.size
    clear hb22 hO21
    go_wp2
    go_ret
    exact ⟨rfl, hB22.out⟩

set_option maxRecDepth 100000 in
theorem runsLaw_lifted (os : Os) (started : os.Started) (H : Type) (enc : TypeId × Value → H) :
    ReturnsInHanded {} Try.checked os 7 .any (Rows.fnExactFlowRunsSpec.pre6 enc Try.prog Try.f7 Rows.fnExactFlowRunsRow.domain false) (Rows.fnExactFlowRunsSpec.post enc Try.prog Try.f7 false true false false) := by
  refine returnsInHanded_of_change (C := Try.checked) own_knobR started (by kernel_rfl) Try.func7
    (ChangeSpec.witness6 (enc := enc) (C := Try.checked) false ⟨#[], #[.slice none 0 0, .slice none 0 0, .string .empty], []⟩ 8 (by kernel_rfl) (by kernel_rfl) (by kernel_rfl) (by kernel_rfl)) ?_
  intro W base args ds gs before hval0 hW hcnd _
  have hval : ∀ (j : Nat) t v, Try.f7.params[j]? = some t → args[j]? = some v → Value.okWide Try.prog W .any base t v := hval0
  have hW' := hW
  obtain ⟨p, q, hA0, hV, rfl, hfz, hnd⟩ := hW
  have hA : DataW.TrodAll enc Try.prog W 0 (fun _ => true) true Try.f7.params.toList args.toList ds p := hA0
  rw [Try.params7] at hA hval
  obtain ⟨v0, vs0, d0, ds0, p0, q0, hargs, rfl, rfl, h0, r0⟩ := trodAll_cons hA
  obtain ⟨v1, vs1, d1, ds1, p1, q1, rfl, rfl, rfl, h1, r1⟩ := trodAll_cons r0
  obtain ⟨v2, vs2, d2, ds2, p2, q2, rfl, rfl, rfl, h2, r2⟩ := trodAll_cons r1
  obtain ⟨rfl, rfl, rfl⟩ := trodAll_nil r2
  obtain rfl : args = #[v0, v1, v2] := by cases args; simp_all
  obtain ⟨rfl, rfl⟩ := trodVars_none hV
  obtain ⟨a0, len0, cap0, rfl⟩ := okWide_slice Try.underlying40 (hval 0 40 v0 rfl rfl)
  obtain ⟨a1, len1, cap1, rfl⟩ := okWide_slice Try.underlying24 (hval 1 24 v1 rfl rfl)
  have k0 := h0
  have lt0 : ∀ x ∈ p0, x.block < W.heap.size := by obtain ⟨m, hm⟩ := k0; exact DataW.trod_lt m _ _ _ hm
  have k1 := h1
  have lt1 : ∀ x ∈ p1, x.block < W.heap.size := by obtain ⟨m, hm⟩ := k1; exact DataW.trod_lt m _ _ _ hm
  obtain ⟨fuel, hf⟩ := h0
  obtain ⟨fs, rfl, hc, hs, hl⟩ := openFlights (by simpa [Value.cells] using hf)
  obtain ⟨fuel1, hf1⟩ := h1
  obtain ⟨ss, rfl, hc', hl1⟩ := openInts (by simpa [Value.cells] using hf1)
  obtain ⟨s2, rfl, rfl, rfl, hmax⟩ := open_string Try.underlying9 (hval 2 9 v2 rfl rfl) h2
  clear hA0 hval0
  refine (runsLaw_walk a0 a1 cap0 cap1 fs ss s2 W hc hc' hs hl hl1 hmax).mono fun e W' ⟨he, bel⟩ => ?_
  subst he
  exact ⟨_, rfl, _, _, _, [], _, [], hW', trodAll_mk1 (shut_bool Try.underlying4 _), (trodAll_cons_mk (Below.trod laid_outR (by kernel_rfl) (of_decide_eq_true (by kernel_rfl)) k0 bel lt0) (trodAll_cons_mk (Below.trod laid_outR (by kernel_rfl) (of_decide_eq_true (by kernel_rfl)) k1 bel lt1) (trodAll_cons_mk (shut_string Try.underlying9 hmax) trodAll_mk0))), rfl, bel.frame _, fun h => by cases h⟩

theorem fnExactFlowRuns_holds : Rows.FnExactFlowRunsSaid :=
  OpenClaim.holds_of_wide 7 Try.f7 rfl rfl rfl rfl rfl rfl rfl ⟨rfl, rfl, rfl, rfl, rfl⟩ rfl rfl rfl rfl rfl (by kernel_rfl) Try.func7 (by kernel_rfl)
    (of_decide_eq_true (by kernel_rfl)) (by unfold Func.isWrapper; first | (rw [if_pos (by decide +kernel)]; kernel_rfl) | (rw [if_neg (by decide +kernel)]; exact ⟨rfl, rfl⟩))
    (fun os started H enc _ => runsLaw_lifted os started H enc)
#print axioms fnExactFlowRuns_holds

end Go.Proofs.Ytciacofibljmoaa
