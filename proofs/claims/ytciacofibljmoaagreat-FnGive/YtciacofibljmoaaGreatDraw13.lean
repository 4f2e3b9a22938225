/- Giving, one behind the other, as the document's model has it. -/
import Derived.Test.YtciacofibljmoaaGreatDraw12
namespace Go.Proofs.YtciacofibljmoaaGreat
open Go.RowKit

attribute [local go_sem ↓] Go.wp_at_zero Go.wp_at_succ

theorem flis_bd {fs : List Fli} (h : flisB fs = true) : fs.length ≤ 8 ∧ ∀ i (hi : i < fs.length), VisBd fs[i].2.2.2 ∧ (0 ≤ fs[i].2.1 ∧ fs[i].2.1 ≤ 10000) ∧ (0 ≤ fs[i].2.2.1 ∧ fs[i].2.2.1 ≤ 60) ∧ 1 ≤ fs[i].2.2.2.length ∧ fs[i].2.2.2.length ≤ 5 := by
  have hs : slotsB fs (List.replicate fs.length (-1)) = true := by
    unfold slotsB
    rw [h]
    simp only [List.length_replicate, decide_true, Bool.true_and]
    unfold slotsTo
    rw [List.all_eq_true]
    intro i hi
    have hi' : i < fs.length := List.mem_range.1 hi
    unfold slotOkAt
    rw [getD_at _ i _ (by simpa using hi'), inB_eq]
    simp
  obtain ⟨_, h8, _, h9⟩ := slots_bd hs
  exact ⟨h8, h9⟩
/-- One more has the least slot that fits. -/
def giveOne (cs : List (ByteArray × Int)) (fs : List Fli) (ss : List Int) (i : Nat) : List Int := ss.set i (leastV cs fs ss i)
def giveTo (cs : List (ByteArray × Int)) (fs : List Fli) (k : Nat) : List Int := ((ordTo fs fs.length).take k).foldl (giveOne cs fs) (List.replicate fs.length (-1))
def giveV (cs : List (ByteArray × Int)) (fs : List Fli) : List Int := if capsB cs = true ∧ flisB fs = true then giveTo cs fs fs.length else []
theorem giveOne_len (cs : List (ByteArray × Int)) (fs : List Fli) (ss : List Int) (i : Nat) : (giveOne cs fs ss i).length = ss.length := by simp [giveOne]
theorem giveFold_len (cs : List (ByteArray × Int)) (fs : List Fli) : ∀ (l : List Nat) (ss : List Int), (l.foldl (giveOne cs fs) ss).length = ss.length
  | [], ss => rfl
  | i :: l, ss => by rw [List.foldl_cons, giveFold_len cs fs l, giveOne_len]
theorem giveTo_len (cs : List (ByteArray × Int)) (fs : List Fli) (k : Nat) : (giveTo cs fs k).length = fs.length := by
  unfold giveTo
  rw [giveFold_len]
  simp
theorem giveTo_succ (cs : List (ByteArray × Int)) (fs : List Fli) {k : Nat} (hk : k < fs.length) : giveTo cs fs (k + 1) = (giveTo cs fs k).set ((ordTo fs fs.length)[k]'(by rw [ordTo_len]; exact hk)) (leastV cs fs (giveTo cs fs k) ((ordTo fs fs.length)[k]'(by rw [ordTo_len]; exact hk))) := by
  unfold giveTo
  rw [List.take_succ_eq_append_getElem (by rw [ordTo_len]; exact hk), List.foldl_append]
  rfl
theorem l3Least_at (ac a a' : Option Addr) (capc cap cap' : Nat) (cs : List (ByteArray × Int)) (fs : List Fli) (ss : List Int) (n : Nat) (hn : ss.length = n) (i : Nat) (w : World) (hcc : CapsIn w ac cs) (hc : FlightsIn w a fs) (hc' : IntsIn w a' ss) (hlc : cs.length ≤ 1048576) (hl : fs.length ≤ 1048576) (hln : ss.length = fs.length)
    (hsc : ∀ c ∈ cs, c.1.size ≤ maxLen) (hvl : ∀ f ∈ fs, f.2.2.2.length ≤ 1048576) (hs : ∀ f ∈ fs, SizesOk f) (hi' : i < fs.length) (hb : flisB fs = true) :
    Calls Tryz.prog 40 #[.slice ac cs.length capc, .slice a fs.length cap, .slice a' n cap', .int .i64 (i : Nat)] w fun e w' => e = .returned (.int .i64 (leastV cs fs ss i)) ∧ Below w.heap.size w w' := by
  subst hn
  obtain ⟨_, h2, h3, _⟩ := (flis_bd hb).2 i hi'
  exact l3Least_any ac a a' capc cap cap' cs fs ss i w hcc hc hc' hlc hl hln hsc hvl hs hi' h2.1 h2.2 h3.1 h3.2

theorem nums_len (os : List Nat) : (nums os).length = os.length := by simp [nums]
theorem own_some {w : World} {base n c : Nat} {a : Option Addr} {zs : List Int} (h : OwnI w base (.slice a n c) zs) (h1 : 1 ≤ zs.length) : ∃ g, a = some ⟨g, 0, none⟩ ∧ base ≤ g ∧ g < w.heap.size ∧ n = zs.length := by
  obtain ⟨a', c', e, _, _, hin, hp⟩ := OwnI.form h
  simp at e
  obtain ⟨rfl, rfl, rfl⟩ := e
  obtain ⟨b, off, rfl, _⟩ := hin 0 (by omega)
  obtain ⟨q1, q2, q3⟩ := hp _ rfl
  simp at q1
  subst q1
  exact ⟨b, rfl, q2, q3, rfl⟩
theorem ints_of {w : World} {base n c : Nat} {a : Option Addr} {zs : List Int} (h : OwnI w base (.slice a n c) zs) : IntsIn w a zs := by
  obtain ⟨a', c', e, _, _, hin, hp⟩ := OwnI.form h
  simp at e
  obtain ⟨rfl, rfl, rfl⟩ := e
  exact hin

set_option maxRecDepth 100000 in
set_option maxHeartbeats 6400000 in
theorem specGive_any (ac a : Option Addr) (capc cap : Nat) (cs : List (ByteArray × Int)) (fs : List Fli) (w : World) (hcc : CapsIn w ac cs) (hc : FlightsIn w a fs) (hlc : cs.length ≤ 1048576) (hl : fs.length ≤ 1048576)
    (hsc : ∀ c ∈ cs, c.1.size ≤ maxLen) (hvl : ∀ f ∈ fs, f.2.2.2.length ≤ 1048576) (hs : ∀ f ∈ fs, SizesOk f) :
    Calls Tryz.prog 9 #[.slice ac cs.length capc, .slice a fs.length cap] w fun e w' => ∃ v, e = .returned v ∧ OwnI w' w.heap.size v (giveV cs fs) ∧ Below w.heap.size w w' := by
  have HCC := hide hcc
  have HC := hide hc
  have HSC := hide hsc
  have HVL := hide hvl
  have HS := hide hs
  clear hcc hc hsc hvl hs
  have EMP : Hid (∀ W : World, Below w.heap.size w W → OwnI (W.alloc (.cells #[] 3)) w.heap.size (.slice (some ⟨W.heap.size, 0, none⟩) 0 0) [] ∧ Below w.heap.size w (W.alloc (.cells #[] 3))) := fun W hW => ⟨owns_base (own_emptyI W) hW.size, hW.alloc hW.size _⟩
  cases hq1 : capsB cs with
  | false =>
    have H1 := hide hq1
    have HV : Hid (giveV cs fs = []) := by show _ = _; unfold giveV; rw [hq1]; simp
    clear hq1
    go_enter Tryz.func9, Tryz.ntmps9
    go_wp2_with (go_at_call 13; refine (specCapsOk_val ac capc cs _ H1.out _ HCC.out hlc HSC.out).mono ?_; rintro e w1 ⟨rfl, hb1⟩; have HB1 := hide hb1; clear hb1)
    go_ret
    exact ⟨_, rfl, by rw [HV.out]; exact (EMP.out _ HB1.out).1, (EMP.out _ HB1.out).2⟩
  | true =>
    cases hq2 : flisB fs with
    | false =>
      have H1 := hide hq1
      have H2 := hide hq2
      have HV : Hid (giveV cs fs = []) := by show _ = _; unfold giveV; rw [hq2]; simp
      clear hq1 hq2
      go_enter Tryz.func9, Tryz.ntmps9
      go_wp2_with (first
        | (go_at_call 13; refine (specCapsOk_val ac capc cs _ H1.out _ HCC.out hlc HSC.out).mono ?_; rintro e w1 ⟨rfl, hb1⟩; have HB1 := hide hb1; clear hb1)
        | (go_at_call 14; refine (specFlightsOk_val a cap fs _ H2.out _ (HC.out.later HB1.out) (by omega) HVL.out HS.out).mono ?_; rintro e w2 ⟨rfl, hb2⟩; have HB2 := hide (below_seq HB1.out hb2); clear hb2))
      go_ret
      exact ⟨_, rfl, by rw [HV.out]; exact (EMP.out _ HB2.out).1, (EMP.out _ HB2.out).2⟩
    | true =>
      have H1 := hide hq1
      have H2 := hide hq2
      have HV : Hid (giveV cs fs = giveTo cs fs fs.length) := by show _ = _; unfold giveV; rw [hq1, hq2]; simp
      clear hq1 hq2
      go_enter Tryz.func9, Tryz.ntmps9
      go_upto_region 5 with (first
        | (go_at_call 13; refine (specCapsOk_val ac capc cs _ H1.out _ HCC.out hlc HSC.out).mono ?_; rintro e w1 ⟨rfl, hb1⟩; have HB1 := hide hb1; clear hb1)
        | (go_at_call 14; refine (specFlightsOk_val a cap fs _ H2.out _ (HC.out.later HB1.out) (by omega) HVL.out HS.out).mono ?_; rintro e w2 ⟨rfl, hb2⟩; have HB2 := hide (below_seq HB1.out hb2); clear hb2)
        | (go_at_call 39; refine (l3None_any fs.length w2 (by have := (flis_bd H2.out).1; omega)).mono ?_; rintro e w3 ⟨v3, rfl, ho3, hb3⟩; have O3 := hide ho3; have HB3 := hide (below_seq HB2.out hb3); clear ho3 hb3)
        | (go_at_call 11; refine (specOrder_any a cap fs w3 (HC.out.later HB3.out) hl).mono ?_; rintro e w4 ⟨v4, rfl, ho4, hb4⟩; have O4 := hide ho4; have O5 := hide (owns_later O3.out hb4); have HB4 := hide (below_seq HB3.out hb4); clear ho4 hb4))
      obtain ⟨a3, c3, hv3, -⟩ := OwnI.form O3.out
      rw [List.length_replicate] at hv3
      subst hv3
      obtain ⟨a4, c4, hv4, -⟩ := OwnI.form O4.out
      rw [nums_len, ordTo_len] at hv4
      subst hv4
      have O5' : Hid (OwnI w4 w2.heap.size (.slice a3 fs.length c3) (giveTo cs fs 0)) := O5.out
      have OL : Hid (∀ g, a3 = some ⟨g, 0, none⟩ → w2.heap.size ≤ g ∧ g < w3.heap.size) := fun g hg => World.ownsRow.lt O3.out g (by rw [hg]; rfl)
      have h23 : Hid (w.heap.size ≤ w2.heap.size) := HB2.out.size
      clear O5 O3 HB1 HB2 HB3
      go_wp2
      go_loopw [7] (fun i wr => ∃ (k : Nat), k ≤ fs.length ∧ i = .int .i64 k ∧ Hid (OwnI wr w2.heap.size (.slice a3 fs.length c3) (giveTo cs fs k)) ∧ Hid (OwnI wr w3.heap.size (.slice a4 fs.length c4) (nums (ordTo fs fs.length))) ∧ Hid (Below w.heap.size w wr)) (fun i _ => fs.length - (RowKit.intOf i).toNat)
      case atStart => exact ⟨0, Nat.zero_le _, rfl, O5'.out, O4.out, HB4.out⟩
      case round =>
        obtain ⟨k, hk, rfl, OA, OB, HB⟩ := hrel
        clear O5' O4 HB4
        by_cases hlt : k < fs.length
        · have hlt' : (k : Int) < (fs.length : Int) := by omega
          have k0 : (0 : Int) ≤ (k : Int) := by omega
          obtain ⟨g3, rfl, -⟩ := own_some OA.out (by rw [giveTo_len]; omega)
          obtain ⟨g4, rfl, h4b, -⟩ := own_some OB.out (by rw [nums_len, ordTo_len]; omega)
          obtain ⟨h3a, h3b⟩ := OL.out g3 rfl
          have hol : k < (ordTo fs fs.length).length := by rw [ordTo_len]; exact hlt
          have cj := (own_cellI OB.out (k := k) (by rw [nums_len]; exact hol)).1
          have hnj : (nums (ordTo fs fs.length))[k]'(by rw [nums_len]; exact hol) = (((ordTo fs fs.length)[k]'hol : Nat) : Int) := by simp [nums]
          rw [hnj] at cj
          have hjl := ordTo_lt fs fs.length _ (List.getElem_mem hol)
          have HG := hide (giveTo_succ cs fs hlt)
          generalize (ordTo fs fs.length)[k]'hol = j at cj hjl HG
          have j0 : (0 : Int) ≤ (j : Int) := by omega
          have j1 : (j : Int) < (fs.length : Int) := by omega
          have HLN : Hid ((giveTo cs fs k).length = fs.length) := giveTo_len cs fs k
          generalize giveTo cs fs k = ss at OA HG HLN
          have hne : g4 ≠ g3 := by omega
          clear hnj hol
          go_wp2
          go_region_held3 (fun W => W.cell? ⟨g4, k, none⟩ = some (.int .i64 (j : Nat)))
            (first | exact cj | exact cjA | exact cell_other hne cjA)
            (first
              | (go_at_call 40; refine (l3Least_at _ _ _ _ _ _ cs fs ss fs.length HLN.out j _ (HCC.out.later HB.out.drew) (HC.out.later HB.out.drew) (ints_of OA.out) hlc hl HLN.out HSC.out HVL.out HS.out hjl H2.out).mono ?_; rintro e wA ⟨rfl, hbA⟩; have OAA : OwnI wA w2.heap.size (.slice (some ⟨g3, 0, none⟩) fs.length c3) ss := owns_later (w := wr.drew) OA.out hbA; have OBA := hide (owns_later (w := wr.drew) OB.out hbA); have HBA := hide (below_seq (b := wr.drew) HB.out.drew hbA); obtain ⟨x0, x1⟩ := own_cellI OAA (k := j) (by rw [HLN.out]; exact hjl); have OAB := hide OAA; have cjA := cell_later hbA cj; clear OAA hbA)
              | (fail))
          rename_i hH
          clear hH
          have OA2 : Hid (OwnI (wA.setCell ⟨g3, j, none⟩ (.int .i64 (leastV cs fs ss j))) w2.heap.size (.slice (some ⟨g3, 0, none⟩) fs.length c3) (giveTo cs fs (k + 1))) := by
            show OwnI _ _ _ _
            rw [HG.out]
            exact own_setI OAB.out _
          have OB2 : Hid (OwnI (wA.setCell ⟨g3, j, none⟩ (.int .i64 (leastV cs fs ss j))) w3.heap.size (.slice (some ⟨g4, 0, none⟩) fs.length c4) (nums (ordTo fs fs.length))) := owns_keep OBA.out (fun g hg => by
            have he : some g4 = some g := hg
            simp at he
            subst he
            exact Below.heap_setCell wA ⟨g3, j, none⟩ _ g4 hne)
          have HB2 := hide (below_set HBA.out g3 j (Nat.le_trans h23.out h3a) (.int .i64 (leastV cs fs ss j)))
          clear OBA HBA OAB cjA x0 x1 OA OB HB cj
          go_wp2
          go_roundw
          case rel => exact ⟨k + 1, by omega, by go_num, OA2.out, OB2.out, HB2.out⟩
          case measure => simp [RowKit.intOf]; omega
        · have hkn : k = fs.length := by omega
          subst hkn
          go_wp2
          go_ret
          exact ⟨_, rfl, by rw [HV.out]; exact owns_base OA.out h23.out, HB.out⟩

end Go.Proofs.YtciacofibljmoaaGreat
