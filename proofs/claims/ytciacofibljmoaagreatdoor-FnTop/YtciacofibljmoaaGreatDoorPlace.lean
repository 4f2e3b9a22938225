/- The place of a name in a book, the program's way: by halves. -/
import Derived.Test.YtciacofibljmoaaGreatDoorMathsC
import Derived.Test.YtciacofibljmoaaGreatDoorCmpOrd
import Derived.Test.YtciacofibljmoaaGreatDoorBook
import Derived.Test.YtciacofibljmoaaGreatDoorVisB
namespace Go.Proofs.YtciacofibljmoaaGreatDoor
open Go.RowKit

theorem cmpS_neg {x y : ByteArray} : cmpS x y < 0 ↔ x.toList < y.toList := by
  unfold cmpS
  rw [less_eq]
  by_cases h : x.toList < y.toList
  · rw [if_pos (decide_eq_true h)]
    exact ⟨fun _ => h, fun _ => by omega⟩
  · rw [if_neg (by simpa using h)]
    refine ⟨fun hh => ?_, fun hh => absurd hh h⟩
    by_cases h2 : (x.toList == y.toList) = true
    · rw [if_pos h2] at hh; omega
    · rw [if_neg h2] at hh; omega
theorem cmpS_zero {x y : ByteArray} : cmpS x y = 0 ↔ x.toList = y.toList := by
  unfold cmpS
  rw [less_eq]
  by_cases h : x.toList < y.toList
  · rw [if_pos (decide_eq_true h)]
    exact ⟨fun hh => by omega, fun hh => by rw [hh] at h; exact absurd h (List.lt_irrefl _)⟩
  · rw [if_neg (by simpa using h)]
    by_cases h2 : (x.toList == y.toList) = true
    · rw [if_pos h2]
      exact ⟨fun _ => eq_of_beq h2, fun _ => rfl⟩
    · rw [if_neg h2]
      exact ⟨fun hh => by omega, fun hh => absurd (by rw [hh]; exact beq_self_eq_true _) h2⟩

set_option maxHeartbeats 400000 in
theorem place1_any (f : Fli) (av : Option Addr) (cv : Nat) (nm : ByteArray) (w : World) :
    Calls Tryz.prog 141 #[.agg #[.string f.1, .int .i64 f.2.1, .int .i64 f.2.2.1, .slice av f.2.2.2.length cv], .string nm] w fun e w' => e = .returned (.int .i64 (cmpS f.1 nm)) ∧ Below w.heap.size w w' := by
  have hm1 := fli_method_name
  obtain ⟨s, n, m, vs⟩ := f
  go_enter Tryz.func141, Tryz.ntmps141
  go_wp2_with (first
    | (go_at_call 130; refine (fliName_any (s, n, m, vs) av cv _).mono ?_; rintro e wB ⟨rfl, hb1⟩; have B1 := hide hb1; clear hb1)
    | (go_at_call 142; refine (compareS _ _ _).mono ?_; rintro e wA ⟨rfl, rfl⟩))
  go_ret
  exact ⟨rfl, by first | exact B1.out | exact below_two ((Below.refl _ _).alloc (Nat.le_refl _) _) B1.out⟩

set_option maxRecDepth 100000 in
set_option maxHeartbeats 3200000 in
theorem search_any (a : Option Addr) (cap : Nat) (fs : List Fli) (nm : ByteArray) (w : World) (hc : FlightsIn w a fs) (hl : fs.length ≤ 1048576) (ho : InOrder fs) :
    Calls Tryz.prog 140 #[.slice a fs.length cap, .string nm, .func (.func 141) #[] #[]] w fun e w' => e = .returned (.tuple #[.int .i64 (placeV fs nm : Nat), .bool (thereB fs nm)]) ∧ Below w.heap.size w w' := by
  have HC := hide hc
  have HO := hide ho
  clear hc ho
  go_enter Tryz.func140, Tryz.ntmps140
  go_wp2
  go_loopw [9, 10] (fun i j wr => ∃ (p q : Nat), i = .int .i64 p ∧ j = .int .i64 q ∧ p ≤ q ∧ q ≤ fs.length ∧ Hid (∀ r (hr : r < fs.length), r < p → fs[r].1.toList < nm.toList) ∧ Hid (∀ (hr : q < fs.length), ¬ fs[q].1.toList < nm.toList) ∧ Hid (Below w.heap.size w wr)) (fun i j _ => (intOf j).toNat - (intOf i).toNat)
  case atStart => exact ⟨0, fs.length, rfl, rfl, Nat.zero_le _, Nat.le_refl _, fun r _ h => by omega, fun h => by omega, Below.refl _ _⟩
  case round =>
    obtain ⟨p, q, rfl, rfl, hpq, hqn, HP, HQ, HB⟩ := hrel
    by_cases hlt : p < q
    · obtain ⟨h, hdef⟩ : ∃ h, (p + q) / 2 = h := ⟨_, rfl⟩
      have hdv : ((p : Int) + (q : Int)) / 2 = (h : Int) := by omega
      have hdn : h < q := by omega
      have hdp : p ≤ h := by omega
      have hh : h < fs.length := by omega
      obtain ⟨b, off, rfl, hblt, e0, e1, e2, av, cv, e3, -⟩ := HC.out.later HB.out h hh
      have HLE : Hid (fs[h].1.toList < nm.toList → ∀ r (hr : r < fs.length), r < h + 1 → fs[r].1.toList < nm.toList) := fun h1 r hr h2 => by
        rcases Nat.lt_or_ge r h with h3 | h3
        · exact List.lt_trans (order_at HO.out h3 hh) h1
        · have : r = h := by omega
          subst this
          exact h1
      generalize hhf : fs[h] = f at e0 e1 e2 e3 HLE
      have HEQ := hide hhf
      have h0 : (0 : Int) ≤ (h : Int) := by omega
      have h1 : (h : Int) < (fs.length : Int) := by omega
      clear hhf hdef
      go_wp2_with fail
      refine (place1_any f av cv nm wr).mono ?_
      rintro e w1 ⟨rfl, hb1⟩
      have B1 := hide (below_two HB.out hb1)
      clear hb1 e0 e1 e2 e3
      by_cases hc : cmpS f.1 nm < 0
      · have HP2 := hide (HLE.out (cmpS_neg.1 hc))
        go_wp2
        go_roundw
        case rel => exact ⟨h + 1, q, by go_num, rfl, by omega, hqn, HP2.out, HQ.out, B1.out⟩
        case measure => simp [intOf]; omega
      · have HQ2 : Hid (∀ (hr : h < fs.length), ¬ fs[h].1.toList < nm.toList) := fun _ hx => hc (cmpS_neg.2 (by rw [← HEQ.out]; exact hx))
        go_wp2
        go_roundw
        case rel => exact ⟨p, h, rfl, rfl, hdp, by omega, HP.out, HQ2.out, B1.out⟩
        case measure => simp [intOf]; omega
    · have hpe : q = p := by omega
      subst hpe
      have HPL : Hid (placeV fs nm = q) := place_is HO.out hqn (fun r hr h => HP.out r hr h) HQ.out
      by_cases hlast : q < fs.length
      · obtain ⟨b, off, rfl, hblt, e0, e1, e2, av, cv, e3, -⟩ := HC.out.later HB.out q hlast
        have HTH : Hid (thereB fs nm = decide (cmpS fs[q].1 nm = 0)) := by
          show _ = _
          by_cases hz : cmpS fs[q].1 nm = 0
          · rw [decide_eq_true hz]
            refine (there_iff HO.out).2 ?_
            rw [HPL.out]
            exact ⟨hlast, cmpS_zero.1 hz⟩
          · rw [decide_eq_false hz]
            refine Bool.eq_false_iff.2 fun hh => hz ?_
            obtain ⟨h1, h2⟩ := (there_iff HO.out).1 hh
            simp only [HPL.out] at h2
            exact cmpS_zero.2 h2
        generalize fs[q] = f at e0 e1 e2 e3 HTH
        have h0 : (0 : Int) ≤ (q : Int) := by omega
        have h1 : (q : Int) < (fs.length : Int) := by omega
        have h2 : decide (q < fs.length) = true := decide_eq_true hlast
        go_wp2_with fail
        refine (place1_any f av cv nm wr).mono ?_
        rintro e w1 ⟨rfl, hb1⟩
        have B1 := hide (below_two HB.out hb1)
        clear hb1 e0 e1 e2 e3
        generalize cmpS f.1 nm = z at HTH
        go_wp2
        exact bodyPost_ret (v := .tuple #[.int .i64 (q : Nat), .bool (z == 0)]) (by simp [results, Tryz.results140, go_sem]) rfl ⟨by rw [HPL.out, HTH.out]; rfl, B1.out⟩
      · have HTH : Hid (thereB fs nm = false) := Bool.eq_false_iff.2 fun hh => by
          obtain ⟨h1, _⟩ := (there_iff HO.out).1 hh
          rw [HPL.out] at h1
          exact hlast h1
        go_wp2
        exact bodyPost_ret (v := .tuple #[.int .i64 (q : Nat), .bool false]) (by simp [results, Tryz.results140, go_sem]) rfl ⟨by rw [HPL.out, HTH.out], HB.out⟩

set_option maxHeartbeats 800000 in
theorem placeOf_any (a : Option Addr) (cap : Nat) (fs : List Fli) (nm : ByteArray) (w : World) (hc : FlightsIn w a fs) (hl : fs.length ≤ 1048576) (ho : InOrder fs) :
    Calls Tryz.prog 136 #[.slice a fs.length cap, .string nm] w fun e w' => e = .returned (.tuple #[.int .i64 (placeV fs nm : Nat), .bool (thereB fs nm)]) ∧ Below w.heap.size w w' := by
  have HC := hide hc
  have HO := hide ho
  clear hc ho
  go_enter Tryz.func136, Tryz.ntmps136
  go_wp2_with fail
  refine (search_any a cap fs nm w HC.out hl HO.out).mono ?_
  rintro e w1 ⟨rfl, hb1⟩
  have B1 := hide hb1
  clear hb1
  go_wp2
  exact bodyPost_ret (v := .tuple #[.int .i64 (placeV fs nm : Nat), .bool (thereB fs nm)]) (by simp [results, Tryz.results136, go_sem]) rfl ⟨rfl, B1.out⟩

end Go.Proofs.YtciacofibljmoaaGreatDoor
