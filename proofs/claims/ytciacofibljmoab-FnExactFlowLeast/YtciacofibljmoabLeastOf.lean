/- The least slot at every argument: the program's and the document's reading. -/
import Derived.Test.YtciacofibljmoabImplLeast
import Derived.Test.YtciacofibljmoabDraw13
namespace Go.Proofs.Ytciacofibljmoab
open Go.RowKit

/-- The least slot that the document asks for. -/
def lstV (cs : List (ByteArray × Int)) (fs : List Fli) (ss : List Int) (at' : Int) : Int := if fitsB cs fs ss = true ∧ 0 ≤ at' ∧ at' < fs.length then leastV cs fs ss at'.toNat else -1

set_option maxRecDepth 100000 in
set_option maxHeartbeats 3200000 in
theorem implLeast_any (ac a a' : Option Addr) (capc cap cap' : Nat) (cs : List (ByteArray × Int)) (fs : List Fli) (ss : List Int) (at' : Int) (w : World) (hcc : CapsIn w ac cs) (hc : FlightsIn w a fs) (hc' : IntsIn w a' ss) (hlc : cs.length ≤ 1048576) (hl : fs.length ≤ 1048576) (hl' : ss.length ≤ 1048576)
    (hsc : ∀ c ∈ cs, c.1.size ≤ maxLen) (hvl : ∀ f ∈ fs, f.2.2.2.length ≤ 1048576) (hs : ∀ f ∈ fs, SizesOk f) :
    Calls Try.prog 22 #[.slice ac cs.length capc, .slice a fs.length cap, .slice a' ss.length cap', .int .i64 at'] w fun e w' => e = .returned (.int .i64 (lstV cs fs ss at')) ∧ Below w.heap.size w w' := by
  by_cases hin : 0 ≤ at' ∧ at' < (fs.length : Int)
  · cases hfit : fitsB cs fs ss
    · have HV : Hid (lstV cs fs ss at' = -1) := by show _ = _; unfold lstV; rw [if_neg (by rw [hfit]; simp)]
      have HIN : Hid (inB at' 0 ((fs.length : Int) - 1) = true) := inB_iff.2 (by omega)
      have HFIT := hide hfit
      have HCC := hide hcc
      have HC := hide hc
      have HC' := hide hc'
      have HSC := hide hsc
      have HVL := hide hvl
      have HS := hide hs
      obtain ⟨wA, hA⟩ : ∃ wA, w.alloc (.cells #[.int .i64 0] 3) = wA := ⟨_, rfl⟩
      have HRC : Hid (wA.cell? ⟨w.heap.size, 0, none⟩ = some (.int .i64 0) ∧ wA.frozen? ⟨w.heap.size, 0, none⟩ = false) := by rw [← hA]; exact ⟨by simp, by simp⟩
      have hAs : wA.heap.size = w.heap.size + 1 := by rw [← hA]; simp
      have HBA : Hid (Below w.heap.size w wA) := by rw [← hA]; exact (Below.refl _ _).alloc (Nat.le_refl _) _
      have HA := hide hA
      clear hA hfit hcc hc hc' hsc hvl hs hin
      go_enter Try.func22, Try.ntmps22
      go_wp2_with fail
      rw [HA.out]
      refine (within_val _ _ _ true HIN.out _).mono ?_
      rintro e w1 ⟨rfl, hw1⟩
      rw [hw1]
      clear hw1 w1
      go_wp2_with fail
      have hfits := implFits_any ac a a' capc cap cap' cs fs ss wA (HCC.out.later HBA.out) (HC.out.later HBA.out) (HC'.out.later HBA.out) hlc hl hl' HSC.out HVL.out HS.out
      rw [HFIT.out] at hfits
      refine hfits.mono ?_
      clear hfits
      rintro e w2 ⟨rfl, hb2⟩
      have HB2 := hide (HBA.out.trans (hb2.mono (by omega)))
      have r0 := cell_later hb2 HRC.out.1
      have r1 : w2.frozen? ⟨w.heap.size, 0, none⟩ = false := by
        have hb : w2.heap[w.heap.size]? = wA.heap[w.heap.size]? := hb2.block _ (by omega)
        have := HRC.out.2
        rw [World.frozen?] at this ⊢
        rw [hb]
        exact this
      have HC5 := hide (World.cell?_setCell_same' w2 ⟨w.heap.size, 0, none⟩ (.int .i64 (-1)) (by rw [r0]; rfl))
      clear hb2
      go_wp2
      have hc5 := HC5.out
      exact bodyPost_ret (v := .int .i64 (-1)) (by simp [results, Try.results22, go_sem, hc5]) rfl ⟨by rw [HV.out], HB2.out.setCell (p := ⟨w.heap.size, 0, none⟩) (Nat.le_refl _) _⟩
    · have h := implLeast_ok ac a a' capc cap cap' cs fs ss at'.toNat w hcc hc hc' hlc hl hl' hsc hvl hs hfit (by omega)
      have e : ((at'.toNat : Nat) : Int) = at' := by omega
      have hv : lstV cs fs ss at' = leastV cs fs ss at'.toNat := by unfold lstV; rw [if_pos ⟨hfit, hin⟩]
      rw [e, ← hv] at h
      exact h
  · have HV : Hid (lstV cs fs ss at' = -1) := by show _ = _; unfold lstV; rw [if_neg (fun h => hin h.2)]
    have HIN : Hid (inB at' 0 ((fs.length : Int) - 1) = false) := by
      show _ = _
      cases hq : inB at' 0 ((fs.length : Int) - 1)
      · rfl
      · exact absurd (inB_iff.1 hq) (fun h => hin (by omega))
    clear hin hcc hc hc' hsc hvl hs
    go_enter Try.func22, Try.ntmps22
    go_wp2_with (go_at_call 50; refine (within_val _ _ _ false HIN.out _).mono ?_; rintro e w1 ⟨rfl, rfl⟩)
    exact bodyPost_ret (v := .int .i64 (-1)) (by simp [results, Try.results22, go_sem]) rfl ⟨by rw [HV.out], (Below.refl _ _).alloc (Nat.le_refl _) _⟩

set_option maxRecDepth 100000 in
set_option maxHeartbeats 3200000 in
theorem specLeast_any (ac a a' : Option Addr) (capc cap cap' : Nat) (cs : List (ByteArray × Int)) (fs : List Fli) (ss : List Int) (at' : Int) (w : World) (hcc : CapsIn w ac cs) (hc : FlightsIn w a fs) (hc' : IntsIn w a' ss) (hlc : cs.length ≤ 1048576) (hl : fs.length ≤ 1048576) (hl' : ss.length ≤ 1048576)
    (hsc : ∀ c ∈ cs, c.1.size ≤ maxLen) (hvl : ∀ f ∈ fs, f.2.2.2.length ≤ 1048576) (hs : ∀ f ∈ fs, SizesOk f) :
    Calls Try.prog 19 #[.slice ac cs.length capc, .slice a fs.length cap, .slice a' ss.length cap', .int .i64 at'] w fun e w' => e = .returned (.int .i64 (lstV cs fs ss at')) ∧ Below w.heap.size w w' := by
  have HCC := hide hcc
  have HC := hide hc
  have HC' := hide hc'
  have HSC := hide hsc
  have HVL := hide hvl
  have HS := hide hs
  clear hcc hc hc' hsc hvl hs
  cases hfit : fitsB cs fs ss
  · have HV : Hid (lstV cs fs ss at' = -1) := by show _ = _; unfold lstV; rw [if_neg (by rw [hfit]; simp)]
    have HFIT := hide hfit
    clear hfit
    go_enter Try.func19, Try.ntmps19
    go_wp2_with (go_at_call 46; refine (specFits_at ac a a' capc cap cap' cs fs ss _ rfl false HFIT.out _ HCC.out HC.out HC'.out hlc hl hl' HSC.out HVL.out HS.out).mono ?_; rintro e w1 ⟨rfl, hb1⟩; have HB1 := hide hb1; clear hb1)
    go_ret
    exact ⟨by rw [HV.out]; rfl, HB1.out⟩
  · by_cases hin : 0 ≤ at' ∧ at' < (fs.length : Int)
    · have HV : Hid (lstV cs fs ss at' = leastV cs fs ss at'.toNat) := by show _ = _; unfold lstV; rw [if_pos ⟨hfit, hin⟩]
      have HIN : Hid (inB at' 0 ((fs.length : Int) - 1) = true) := inB_iff.2 (by omega)
      have hff : flisB fs = true ∧ ss.length = fs.length := by
        have h := hfit
        unfold fitsB at h
        simp only [Bool.and_eq_true] at h
        have h2 := h.1.1.2
        refine ⟨?_, (slots_bd h2).1⟩
        unfold slotsB at h2
        simp only [Bool.and_eq_true] at h2
        exact h2.1.1
      have HFIT := hide hfit
      have HFF := hide hff
      have e : ((at'.toNat : Nat) : Int) = at' := by omega
      have HL : Hid (∀ W : World, Below w.heap.size w W → Calls Try.prog 48 #[.slice ac cs.length capc, .slice a fs.length cap, .slice a' ss.length cap', .int .i64 at'] W fun e w' => e = .returned (.int .i64 (lstV cs fs ss at')) ∧ Below W.heap.size W w') := fun W hW => by
        have h := l3Least_at ac a a' capc cap cap' cs fs ss _ rfl at'.toNat W (HCC.out.later hW) (HC.out.later hW) (HC'.out.later hW) hlc hl HFF.out.2 HSC.out HVL.out HS.out (by omega) HFF.out.1
        rw [e, ← HV.out] at h
        exact h
      clear hfit hff e hin
      go_enter Try.func19, Try.ntmps19
      go_wp2_with (first
        | (go_at_call 46; refine (specFits_at ac a a' capc cap cap' cs fs ss _ rfl true HFIT.out _ HCC.out HC.out HC'.out hlc hl hl' HSC.out HVL.out HS.out).mono ?_; rintro e w1 ⟨rfl, hb1⟩; have HB1 := hide hb1; clear hb1)
        | (go_at_call 47; refine (l1In_val _ _ _ true HIN.out _).mono ?_; rintro e w2 ⟨rfl, rfl⟩)
        | (go_at_call 48; refine (HL.out _ HB1.out).mono ?_; rintro e w3 ⟨rfl, hb3⟩))
      go_ret
      exact ⟨rfl, below_two HB1.out hb3⟩
    · have HV : Hid (lstV cs fs ss at' = -1) := by show _ = _; unfold lstV; rw [if_neg (fun h => hin h.2)]
      have HIN : Hid (inB at' 0 ((fs.length : Int) - 1) = false) := by
        show _ = _
        cases hq : inB at' 0 ((fs.length : Int) - 1)
        · rfl
        · exact absurd (inB_iff.1 hq) (fun h => hin (by omega))
      have HFIT := hide hfit
      clear hin hfit
      go_enter Try.func19, Try.ntmps19
      go_wp2_with (first
        | (go_at_call 46; refine (specFits_at ac a a' capc cap cap' cs fs ss _ rfl true HFIT.out _ HCC.out HC.out HC'.out hlc hl hl' HSC.out HVL.out HS.out).mono ?_; rintro e w1 ⟨rfl, hb1⟩; have HB1 := hide hb1; clear hb1)
        | (go_at_call 47; refine (l1In_val _ _ _ false HIN.out _).mono ?_; rintro e w2 ⟨rfl, rfl⟩))
      go_ret
      exact ⟨by rw [HV.out]; rfl, HB1.out⟩

end Go.Proofs.Ytciacofibljmoab
