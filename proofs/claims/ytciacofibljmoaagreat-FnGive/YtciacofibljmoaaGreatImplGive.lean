/- Slots by who is planned first: the program's own way, walked. -/
import Derived.Test.YtciacofibljmoaaGreatImplLeast
import Derived.Test.YtciacofibljmoaaGreatImplOrder
import Derived.Test.YtciacofibljmoaaGreatRepeat
import Derived.Test.YtciacofibljmoaaGreatGiveMath
namespace Go.Proofs.YtciacofibljmoaaGreat
open Go.RowKit

attribute [local go_sem ↓] Go.wp_at_zero Go.wp_at_succ

theorem implLeast_at (ac a a' : Option Addr) (capc cap cap' : Nat) (cs : List (ByteArray × Int)) (fs : List Fli) (ss : List Int) (n : Nat) (hn : ss.length = n) (i : Nat) (w : World) (hcc : CapsIn w ac cs) (hc : FlightsIn w a fs) (hc' : IntsIn w a' ss) (hlc : cs.length ≤ 1048576) (hl : fs.length ≤ 1048576) (hl' : ss.length ≤ 1048576)
    (hsc : ∀ c ∈ cs, c.1.size ≤ maxLen) (hvl : ∀ f ∈ fs, f.2.2.2.length ≤ 1048576) (hs : ∀ f ∈ fs, SizesOk f) (hfit : fitsB cs fs ss = true) (hi : i < fs.length) :
    Calls Tryz.prog 26 #[.slice ac cs.length capc, .slice a fs.length cap, .slice a' n cap', .int .i64 (i : Nat)] w fun e w' => e = .returned (.int .i64 (leastV cs fs ss i)) ∧ Below w.heap.size w w' := by
  subst hn
  exact implLeast_ok ac a a' capc cap cap' cs fs ss i w hcc hc hc' hlc hl hl' hsc hvl hs hfit hi
theorem own_nilI (w : World) (base : Nat) : OwnI w base (.slice none 0 0) [] := World.ownsRow_nil _ _ _ _

set_option maxRecDepth 100000 in
set_option maxHeartbeats 6400000 in
theorem implGive_any (ac a : Option Addr) (capc cap : Nat) (cs : List (ByteArray × Int)) (fs : List Fli) (w : World) (hcc : CapsIn w ac cs) (hc : FlightsIn w a fs) (hlc : cs.length ≤ 1048576) (hl : fs.length ≤ 1048576)
    (hsc : ∀ c ∈ cs, c.1.size ≤ maxLen) (hvl : ∀ f ∈ fs, f.2.2.2.length ≤ 1048576) (hs : ∀ f ∈ fs, SizesOk f) :
    Calls Tryz.prog 7 #[.slice ac cs.length capc, .slice a fs.length cap] w fun e w' => ∃ v, e = .returned v ∧ OwnI w' w.heap.size v (giveV cs fs) ∧ Below w.heap.size w w' := by
  have HCC := hide hcc
  have HC := hide hc
  have HSC := hide hsc
  have HVL := hide hvl
  have HS := hide hs
  clear hcc hc hsc hvl hs
  cases hq1 : capsB cs with
  | false =>
    have H1 := hide hq1
    have HR : Hid (giveV cs fs = []) := by show _ = _; unfold giveV; rw [if_neg (by rw [hq1]; simp)]
    clear hq1
    go_enter Tryz.func7, Tryz.ntmps7
    go_wp2_with (go_at_call 12; refine (implCapsOk_val ac capc cs _ H1.out _ HCC.out hlc HSC.out).mono ?_; rintro e w1 ⟨rfl, hb1⟩; have HB1 := hide hb1; clear hb1)
    go_ret
    exact ⟨_, rfl, by rw [HR.out]; exact own_nilI _ _, HB1.out⟩
  | true =>
    cases hq2 : flisB fs with
    | false =>
      have H1 := hide hq1
      have H2 := hide hq2
      have HR : Hid (giveV cs fs = []) := by show _ = _; unfold giveV; rw [if_neg (by rw [hq2]; simp)]
      clear hq1 hq2
      go_enter Tryz.func7, Tryz.ntmps7
      go_wp2_with (first
        | (go_at_call 12; refine (implCapsOk_val ac capc cs _ H1.out _ HCC.out hlc HSC.out).mono ?_; rintro e w1 ⟨rfl, hb1⟩; have HB1 := hide hb1; clear hb1)
        | (go_at_call 37; refine (implFlightsOk_val a cap fs _ H2.out _ (HC.out.later HB1.out) hl HVL.out HS.out).mono ?_; rintro e w2 ⟨rfl, hb2⟩; have HB2 := hide (below_two HB1.out hb2); clear hb2))
      go_ret
      exact ⟨_, rfl, by rw [HR.out]; exact own_nilI _ _, HB2.out⟩
    | true =>
      have H1 := hide hq1
      have H2 := hide hq2
      have HR : Hid (giveV cs fs = giveTo cs fs fs.length) := by show _ = _; unfold giveV; rw [if_pos ⟨hq1, hq2⟩]
      have hf8 := (flis_bd hq2).1
      have HGF := hide (give_fits hq1 hq2)
      clear hq1 hq2
      go_enter Tryz.func7, Tryz.ntmps7
      go_wp2_with fail
      refine (implCapsOk_val ac capc cs _ H1.out _ HCC.out hlc HSC.out).mono ?_
      rintro e w1 ⟨rfl, hb1⟩
      have HB1 := hide hb1
      clear hb1
      go_wp2_with fail
      refine (implFlightsOk_val a cap fs _ H2.out _ (HC.out.later HB1.out) hl HVL.out HS.out).mono ?_
      rintro e w2 ⟨rfl, hb2⟩
      have HB2 := hide (below_two HB1.out hb2)
      clear hb2
      go_wp2_with fail
      refine (repeat_any w2.heap.size 0 fs.length _ (by simp) hf8).mono ?_
      rintro e w3 ⟨g, rfl, hown3, hb3⟩
      have HB3 := hide (below_two (HB2.out.alloc HB2.out.size (.cells #[.int .i64 (-1)] 3)) hb3)
      have HO3 := hide (show OwnI w3 w.heap.size (.slice (some ⟨g, 0, none⟩) fs.length fs.length) (giveTo cs fs 0) from owns_base hown3 (by have := HB2.out.size; simp; omega))
      clear hown3 hb3
      go_wp2_with fail
      refine (implOrder_any a cap fs w3 (HC.out.later HB3.out) hl).mono ?_
      rintro e w4 ⟨vo, rfl, hown4, hb4⟩
      have HB4 := hide (below_two HB3.out hb4)
      have HO4 := hide (owns_later HO3.out hb4)
      have hg3 : g < w3.heap.size := (World.ownsRow.lt HO3.out g rfl).2
      have hgb : w.heap.size ≤ g := (World.ownsRow.lt HO3.out g rfl).1
      have hnl : (nums (ordTo fs fs.length)).length = fs.length := by simp [nums, ordTo_len]
      obtain ⟨ao, co, hvo, hco, hcm, hin, hpo⟩ := OwnI.form hown4
      rw [hnl] at hvo
      subst hvo
      have HOI := hide hin
      have HPO : Hid (∀ p, ao = some p → w3.heap.size ≤ p.block) := fun p hp => (hpo p hp).2.1
      clear hown4 hb4 hin hpo hco hcm HO3
      go_wp2
      go_loopw [23] (fun i wr => ∃ (k : Nat), k ≤ fs.length ∧ i = .int .i64 k ∧ Hid (OwnI wr w.heap.size (.slice (some ⟨g, 0, none⟩) fs.length fs.length) (giveTo cs fs k)) ∧ Hid (IntsIn wr ao (nums (ordTo fs fs.length))) ∧ Hid (Below w.heap.size w wr)) (fun i _ => fs.length - (RowKit.intOf i).toNat)
      case atStart => exact ⟨0, Nat.zero_le _, rfl, HO4.out, HOI.out, HB4.out⟩
      case round =>
        obtain ⟨k, hk, rfl, HO, HI, HB⟩ := hrel
        by_cases hlt : k < fs.length
        · obtain ⟨b, off, rfl, hblt, e0⟩ := HI.out k (by rw [hnl]; exact hlt)
          have hkn : k < (ordTo fs fs.length).length := by rw [ordTo_len]; exact hlt
          have hon : (nums (ordTo fs fs.length))[k]'(by rw [hnl]; exact hlt) = (((ordTo fs fs.length)[k] : Nat) : Int) := by simp [nums]
          rw [hon] at e0
          have holt : (ordTo fs fs.length)[k] < fs.length := ordTo_lt fs fs.length _ (List.getElem_mem hkn)
          have HGS := hide (giveTo_succ cs fs hlt)
          have hgl : (giveTo cs fs k).length = fs.length := giveTo_len cs fs k
          have hne : b ≠ g := fun h => by have := HPO.out _ rfl; simp at this; omega
          generalize (ordTo fs fs.length)[k] = o at e0 holt HGS
          have HFK := hide (HGF.out k hk)
          generalize giveTo cs fs k = gk at HO HGS HFK hgl
          have HGL := hide hgl
          have o0 : (0 : Int) ≤ (o : Int) := by omega
          have o1 : (o : Int) < (fs.length : Int) := by omega
          have o2 : o < gk.length := by omega
          clear hon hgl hnl
          go_wp2_with fail
          refine (implLeast_at _ _ _ _ _ _ cs fs gk fs.length HGL.out o wr (HCC.out.later HB.out) (HC.out.later HB.out) (ints_of HO.out) hlc hl (by have := HGL.out; omega) HSC.out HVL.out HS.out HFK.out holt).mono ?_
          rintro e w5 ⟨rfl, hb5⟩
          have HO5 := hide (owns_later HO.out hb5)
          have HI5 := hide (HI.out.later hb5)
          have HB5 := hide (below_two HB.out hb5)
          clear hb5
          obtain ⟨x0, z0⟩ := own_cellI HO5.out (k := o) o2
          go_wp2
          go_roundw
          case rel =>
            refine ⟨k + 1, by omega, by go_num, ?_, ?_, below_set HB5.out g o hgb _⟩
            · show OwnI _ _ _ _
              rw [HGS.out]
              exact own_setI HO5.out (k := o) _
            · intro q hq
              obtain ⟨b9, o9, e9, h9, c9⟩ := HI5.out q hq
              simp at e9
              obtain ⟨rfl, rfl⟩ := e9
              refine ⟨b, off, rfl, by simpa using h9, ?_⟩
              rw [World.cell?_of_block (w := w5) (Below.heap_setCell _ _ _ _ hne)]
              exact c9
          case measure => simp [RowKit.intOf]; omega
        · go_wp2
          go_ret
          have : k = fs.length := by omega
          subst this
          exact ⟨_, rfl, by rw [HR.out]; exact HO.out, HB.out⟩

end Go.Proofs.YtciacofibljmoaaGreat
