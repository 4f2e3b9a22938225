/- At every flights, slots, sector and tick FlowLoad answers as the document's model does, and leaves its arguments as they were: the law FnExactFlowLoad returns true for every input, and each argument reads afterwards as before. No condition: every input that can be read. -/
import Derived.Test.YtciacofibljmoaaLoad
import Derived.Test.YtciacofibljmoaaOpenFl
import Derived.Test.YtciacofibljmoaaOpenInts
import Derived.OpenShut
import Derived.ShutString
import Derived.ChangeOld
namespace Go.Proofs.Ytciacofibljmoaa
open Go.ChangeShapes Go.WideShapes Go.ChangeAt Go.RowKit
open Go.ChangeMaps (open_string shut_string)

theorem own_knobL : ownKnob Try.prog.godebug = none := by kernel_rfl
theorem laid_outL : laidOutB Try.prog = true := by kernel_rfl

/-- The load that the document asks for. -/
def loadV (fs : List Fli) (ss : List Int) (sec : ByteArray) (t : Int) : Int := if slotsB fs ss = true then (loadTo fs ss sec t fs.length : Nat) else 0

set_option maxHeartbeats 800000 in
theorem specLoad_any (a a' : Option Addr) (cap cap' : Nat) (fs : List Fli) (ss : List Int) (sec : ByteArray) (t : Int) (w : World) (hc : FlightsIn w a fs) (hc' : IntsIn w a' ss) (hl : fs.length ≤ 1048576) (hl' : ss.length ≤ 1048576) (hvl : ∀ f ∈ fs, f.2.2.2.length ≤ 1048576) (hs : ∀ f ∈ fs, SizesOk f) :
    Calls Try.prog 12 #[.slice a fs.length cap, .slice a' ss.length cap', .string sec, .int .i64 t] w fun e w' => e = .returned (.int .i64 (loadV fs ss sec t)) ∧ Below w.heap.size w w' := by
  have HC := hide hc
  have HC' := hide hc'
  have HS := hide hs
  have HVL := hide hvl
  clear hc hc' hs hvl
  cases hq : slotsB fs ss
  · have HQ := hide hq
    have HR : Hid (loadV fs ss sec t = 0) := by show _ = _; unfold loadV; rw [hq]; rfl
    clear hq
    go_enter Try.func12, Try.ntmps12
    go_wp2_with (go_at_call 45; refine (l2SlotsOk_val a a' cap cap' fs ss _ HQ.out _ HC.out HC'.out hl hl' HVL.out HS.out).mono ?_; rintro e w1 ⟨rfl, hb1⟩)
    go_ret
    exact ⟨by rw [HR.out]; rfl, hb1⟩
  · have HQ := hide hq
    have HR : Hid (loadV fs ss sec t = (loadTo fs ss sec t fs.length : Nat)) := by show _ = _; unfold loadV; rw [hq]; rfl
    clear hq
    go_enter Try.func12, Try.ntmps12
    go_wp2_with fail
    refine (l2SlotsOk_val a a' cap cap' fs ss _ HQ.out _ HC.out HC'.out hl hl' HVL.out HS.out).mono ?_
    rintro e w1 ⟨rfl, hb1⟩
    have HB := hide hb1
    clear hb1
    go_wp2_with fail
    refine (l2Load_any a a' cap cap' fs ss sec t _ (HC.out.later HB.out) (HC'.out.later HB.out) hl HVL.out HQ.out).mono ?_
    rintro e w2 ⟨rfl, hb2⟩
    go_wp2
    go_ret
    exact ⟨by rw [HR.out]; rfl, below_two HB.out hb2⟩

set_option maxHeartbeats 800000 in
theorem implLoad_any (a a' : Option Addr) (cap cap' : Nat) (fs : List Fli) (ss : List Int) (sec : ByteArray) (t : Int) (w : World) (hc : FlightsIn w a fs) (hc' : IntsIn w a' ss) (hl : fs.length ≤ 1048576) (hl' : ss.length ≤ 1048576) (hvl : ∀ f ∈ fs, f.2.2.2.length ≤ 1048576) (hs : ∀ f ∈ fs, SizesOk f) :
    Calls Try.prog 11 #[.slice a fs.length cap, .slice a' ss.length cap', .string sec, .int .i64 t] w fun e w' => e = .returned (.int .i64 (loadV fs ss sec t)) ∧ Below w.heap.size w w' := by
  cases hq : slotsB fs ss
  · have HC := hide hc
    have HC' := hide hc'
    have HS := hide hs
    have HVL := hide hvl
    clear hc hc' hs hvl
    have HQ := hide hq
    have HR : Hid (loadV fs ss sec t = 0) := by show _ = _; unfold loadV; rw [hq]; rfl
    clear hq
    go_enter Try.func11, Try.ntmps11
    go_wp2_with (go_at_call 41; refine (slotsOk_val a a' cap cap' fs ss _ HQ.out _ HC.out HC'.out hl hl' HVL.out HS.out).mono ?_; rintro e w1 ⟨rfl, hb1⟩)
    go_ret
    exact ⟨by rw [HR.out]; rfl, hb1⟩
  · have HR : loadV fs ss sec t = (loadTo fs ss sec t fs.length : Nat) := by unfold loadV; rw [hq]; rfl
    rw [HR]
    exact implLoad_ok a a' cap cap' fs ss sec t w hc hc' hl hvl hq hl' hs

set_option maxRecDepth 100000 in
set_option maxHeartbeats 1600000 in
theorem loadLaw_walk (a a' : Option Addr) (cap cap' : Nat) (fs : List Fli) (ss : List Int) (sec : ByteArray) (t : Int) (w : World) (hc : FlightsIn w a fs) (hc' : IntsIn w a' ss) (hs : ∀ c ∈ fs, SizesOk c) (hl : fs.length ≤ maxLen) (hm : ss.length ≤ maxLen) (_hsec : sec.size ≤ maxLen) :
    Calls Try.prog 6 #[.slice a fs.length cap, .slice a' ss.length cap', .string sec, .int .i64 t] w fun e w' => e = .returned (.bool true) ∧ Below w.heap.size w w' := by
  unfold maxLen at hm _hsec
  have HC := hide hc
  have HC' := hide hc'
  have HS := hide hs
  clear hc hc' hs
  by_cases h1 : (1048576 : Int) < (ss.length : Int)
  · go_enter Try.func6, Try.ntmps6
    go_wp2
    go_ret
    exact ⟨rfl, Below.refl _ _⟩
  by_cases h2 : (1048576 : Int) < (sec.size : Int)
  · go_enter Try.func6, Try.ntmps6
    go_wp2
    go_ret
    exact ⟨rfl, Below.refl _ _⟩
  have hl' : ss.length ≤ 1048576 := by omega
  go_enter Try.func6, Try.ntmps6
  go_wp2_with fail
  refine (szFlowFlightS_any a cap fs 1048576 w HC.out HS.out hl (by omega) (by omega)).mono ?_
  rintro e w1 ⟨⟨r, rfl, hr⟩, hb1⟩
  have hB1 := hide hb1
  clear hb1
  rcases hr with rfl | ⟨hr, hr2, hr3, hr4⟩
  · go_wp2
    go_ret
    exact ⟨rfl, hB1.out⟩
  have hl2 : fs.length ≤ 1048576 := by omega
  have HVL : Hid (∀ f ∈ fs, f.2.2.2.length ≤ 1048576) := fun f hf => by have := hr4 f hf; omega
  clear hr2 hr3 hr4 hl hm
  go_wp2_with fail
  refine (toFlowFlightS_any a cap fs _ (HC.out.later hB1.out) hl2 HVL.out).mono ?_
  rintro e w2 ⟨g2, rfl, hrow2, hb2⟩
  have hR2 := hide (FlightsIn.ofOwn hrow2)
  have hB2 := hide (below_two hB1.out hb2)
  clear hrow2 hb2
  go_wp2_with fail
  refine (toIntS_any a' cap' ss _ (HC'.out.later hB2.out) hl').mono ?_
  rintro e w3 ⟨g3, rfl, _, hrow3, hb3⟩
  have hR3 := hide (IntsIn.ofRow hrow3)
  have hR2' := hide (hR2.out.later hb3)
  have hB3 := hide (below_two hB2.out hb3)
  clear hrow3 hb3 hR2
  go_wp2_with fail
  refine (specLoad_any _ _ _ _ fs ss sec t _ hR2'.out hR3.out hl2 hl' HVL.out HS.out).mono ?_
  rintro e w4 ⟨rfl, hb4⟩
  have hB4 := hide (below_two hB3.out hb4)
  clear hb4 hR2' hR3
  go_wp2_with fail
  refine (toFlowFlightS_any a cap fs _ (HC.out.later hB4.out) hl2 HVL.out).mono ?_
  rintro e w5 ⟨g5, rfl, hrow5, hb5⟩
  have hR5 := hide (FlightsIn.ofOwn hrow5)
  have hB5 := hide (below_two hB4.out hb5)
  clear hrow5 hb5
  go_wp2_with fail
  refine (toIntS_any a' cap' ss _ (HC'.out.later hB5.out) hl').mono ?_
  rintro e w6 ⟨g6, rfl, _, hrow6, hb6⟩
  have hR6 := hide (IntsIn.ofRow hrow6)
  have hR5' := hide (hR5.out.later hb6)
  have hB6 := hide (below_two hB5.out hb6)
  clear hrow6 hb6 hR5
  go_wp2_with fail
  refine (implLoad_any _ _ _ _ fs ss sec t _ hR5'.out hR6.out hl2 hl' HVL.out HS.out).mono ?_
  rintro e w7 ⟨rfl, hb7⟩
  have hR5b := hide (hR5'.out.later hb7)
  have hR6b := hide (hR6.out.later hb7)
  have hB7 := hide (below_two hB6.out hb7)
  clear hb7 hR5' hR6
  generalize loadV fs ss sec t = q
  have hqq : (q != q) = false := by simp
  go_wp2_with fail
  refine (toFlowFlightS_any a cap fs _ (HC.out.later hB7.out) hl2 HVL.out).mono ?_
  rintro e w8 ⟨g8, rfl, hrow8, hb8⟩
  have hR8 := hide (FlightsIn.ofOwn hrow8)
  have hR5c := hide (hR5b.out.later hb8)
  have hR6c := hide (hR6b.out.later hb8)
  have hB8 := hide (below_two hB7.out hb8)
  clear hrow8 hb8 hR5b hR6b
  go_wp2_with fail
  refine (eqFlowFlightS_same _ _ _ _ fs _ hR5c.out hR8.out hl2 HVL.out).mono ?_
  rintro e w9 ⟨rfl, hb9⟩
  have hR6d := hide (hR6c.out.later hb9)
  have hB9 := hide (below_two hB8.out hb9)
  clear hb9 hR5c hR8 hR6c
  go_wp2_with fail
  refine (toIntS_any a' cap' ss _ (HC'.out.later hB9.out) hl').mono ?_
  rintro e w10 ⟨g10, rfl, _, hrow10, hb10⟩
  have hR10 := hide (IntsIn.ofRow hrow10)
  have hR6e := hide (hR6d.out.later hb10)
  have hB10 := hide (below_two hB9.out hb10)
  clear hrow10 hb10 hR6d
  go_wp2_with fail
  refine (eqIntS_same _ _ _ _ ss _ hR6e.out hR10.out hl').mono ?_
  rintro e w11 ⟨rfl, hb11⟩
  have hB11 := hide (below_two hB10.out hb11)
  clear hb11
  go_wp2
  go_ret
  exact ⟨rfl, hB11.out⟩

set_option maxRecDepth 100000 in
theorem loadLaw_lifted (os : Os) (started : os.Started) (H : Type) (enc : TypeId × Value → H) :
    ReturnsInHanded {} Try.checked os 6 .any (Rows.fnExactFlowLoadSpec.pre6 enc Try.prog Try.f6 Rows.fnExactFlowLoadRow.domain false) (Rows.fnExactFlowLoadSpec.post enc Try.prog Try.f6 false true false false) := by
  refine returnsInHanded_of_change (C := Try.checked) own_knobL started (by kernel_rfl) Try.func6
    (ChangeSpec.witness6 (enc := enc) (C := Try.checked) false ⟨#[], #[.slice none 0 0, .slice none 0 0, .string .empty, .int .i64 0], []⟩ 8 (by kernel_rfl) (by kernel_rfl) (by kernel_rfl) (by kernel_rfl)) ?_
  intro W base args ds gs before hval0 hW hcnd _
  have hval : ∀ (j : Nat) t v, Try.f6.params[j]? = some t → args[j]? = some v → Value.okWide Try.prog W .any base t v := hval0
  have hW' := hW
  obtain ⟨p, q, hA0, hV, rfl, hfz, hnd⟩ := hW
  have hA : DataW.TrodAll enc Try.prog W 0 (fun _ => true) true Try.f6.params.toList args.toList ds p := hA0
  rw [Try.params6] at hA hval
  obtain ⟨v0, vs0, d0, ds0, p0, q0, hargs, rfl, rfl, h0, r0⟩ := trodAll_cons hA
  obtain ⟨v1, vs1, d1, ds1, p1, q1, rfl, rfl, rfl, h1, r1⟩ := trodAll_cons r0
  obtain ⟨v2, vs2, d2, ds2, p2, q2, rfl, rfl, rfl, h2, r2⟩ := trodAll_cons r1
  obtain ⟨v3, vs3, d3, ds3, p3, q3, rfl, rfl, rfl, h3, r3⟩ := trodAll_cons r2
  obtain ⟨rfl, rfl, rfl⟩ := trodAll_nil r3
  obtain rfl : args = #[v0, v1, v2, v3] := by cases args; simp_all
  obtain ⟨rfl, rfl⟩ := trodVars_none hV
  obtain ⟨a0, len0, cap0, rfl⟩ := okWide_slice Try.underlying40 (hval 0 40 v0 rfl rfl)
  obtain ⟨a1, len1, cap1, rfl⟩ := okWide_slice Try.underlying24 (hval 1 24 v1 rfl rfl)
  have k0 := h0
  have lt0 : ∀ x ∈ p0, x.block < W.heap.size := by obtain ⟨m, hm⟩ := k0; exact DataW.trod_lt m _ _ _ hm
  have k1 := h1
  have lt1 : ∀ x ∈ p1, x.block < W.heap.size := by obtain ⟨m, hm⟩ := k1; exact DataW.trod_lt m _ _ _ hm
  obtain ⟨fuel, hf⟩ := h0
  obtain ⟨fs, rfl, hc, hs, hl⟩ := openFlights (by simpa [Value.cells] using hf)
  obtain ⟨fuel1, hf1⟩ := h1
  obtain ⟨ss, rfl, hc', hl1⟩ := openInts (by simpa [Value.cells] using hf1)
  obtain ⟨s2, rfl, rfl, rfl, hmax⟩ := open_string Try.underlying9 (hval 2 9 v2 rfl rfl) h2
  obtain ⟨n3, rfl, rfl, rfl, w3⟩ := open_int Try.underlying3 (hval 3 3 v3 rfl rfl) h3
  clear hA0 hval0
  refine (loadLaw_walk a0 a1 cap0 cap1 fs ss s2 n3 W hc hc' hs hl hl1 hmax).mono fun e W' ⟨he, bel⟩ => ?_
  subst he
  exact ⟨_, rfl, _, _, _, [], _, [], hW', trodAll_mk1 (shut_bool Try.underlying4 _), (trodAll_cons_mk (Below.trod laid_outL (by kernel_rfl) (of_decide_eq_true (by kernel_rfl)) k0 bel lt0) (trodAll_cons_mk (Below.trod laid_outL (by kernel_rfl) (of_decide_eq_true (by kernel_rfl)) k1 bel lt1) (trodAll_cons_mk (shut_string Try.underlying9 hmax) (trodAll_cons_mk (shut_int Try.underlying3 w3) trodAll_mk0)))), rfl, bel.frame _, fun h => by cases h⟩

theorem fnExactFlowLoad_holds : Rows.FnExactFlowLoadSaid :=
  OpenClaim.holds_of_wide 6 Try.f6 rfl rfl rfl rfl rfl rfl rfl ⟨rfl, rfl, rfl, rfl, rfl⟩ rfl rfl rfl rfl rfl (by kernel_rfl) Try.func6 (by kernel_rfl)
    (of_decide_eq_true (by kernel_rfl)) (by unfold Func.isWrapper; first | (rw [if_pos (by decide +kernel)]; kernel_rfl) | (rw [if_neg (by decide +kernel)]; exact ⟨rfl, rfl⟩))
    (fun os started H enc _ => loadLaw_lifted os started H enc)
#print axioms fnExactFlowLoad_holds

end Go.Proofs.Ytciacofibljmoaa
