/- Who stays is not later: by a flight that comes, by one that goes. -/
import Derived.Test.YtciacofibljmoaaGreatDoorPuts
import Derived.Test.YtciacofibljmoaaGreatDoorDocB
import Derived.Test.YtciacofibljmoaaGreatDoorGiveWalk
import Derived.Test.YtciacofibljmoaaGreatDoorEvs
import Derived.Test.YtciacofibljmoaaGreatDoorStable
import Derived.Test.YtciacofibljmoaaGreatDoorDrops
import Derived.Test.YtciacofibljmoaaGreatDoorAdds
namespace Go.Proofs.YtciacofibljmoaaGreatDoor

/-- Somebody's slot, -2 if they are not there. -/
def slotV (fs : List Fli) (ss : List Int) (nm : ByteArray) : Int := if thereB fs nm = true then (ss[placeV fs nm]?).getD (-2) else -2
theorem place_at {fs : List Fli} {nm : ByteArray} (ho : InOrder fs) {k : Nat} (hk : k < fs.length) (he : fs[k].1.toList = nm.toList) : thereB fs nm = true ∧ placeV fs nm = k :=
  ⟨List.any_eq_true.2 ⟨fs[k], List.getElem_mem _, by simp [he]⟩, place_is ho (by omega) (fun i hi hlt => by
    have := order_at ho hlt hk
    rw [he] at this
    exact this) (fun _ => by rw [he]; exact List.lt_irrefl _)⟩
theorem slot_hit {fs : List Fli} {ss : List Int} {nm : ByteArray} (ho : InOrder fs) {k : Nat} (hk : k < fs.length) (hk' : k < ss.length) (he : fs[k].1.toList = nm.toList) : slotV fs ss nm = ss[k] := by
  obtain ⟨h1, h2⟩ := place_at ho hk he
  unfold slotV
  rw [if_pos h1, h2, List.getElem?_eq_getElem hk']
  rfl
theorem slot_miss {fs : List Fli} {ss : List Int} {nm : ByteArray} (h : ∀ j (hj : j < fs.length), fs[j].1.toList ≠ nm.toList) : slotV fs ss nm = -2 := by
  unfold slotV
  rw [if_neg]
  intro ht
  obtain ⟨f, hf, he⟩ := List.any_eq_true.1 ht
  obtain ⟨i, hi, rfl⟩ := List.getElem_of_mem hf
  exact h i hi (by simpa using he)
theorem slot_none {fs : List Fli} {ss : List Int} {nm : ByteArray} (h : thereB fs nm = false) : slotV fs ss nm = -2 := by
  unfold slotV
  rw [h]
  rfl
/-- Nobody who stays is later, or has lost the slot. -/
def NoLate (fs : List Fli) (ss : List Int) (fs2 : List Fli) (ss2 : List Int) : Prop := ∀ i (h : i < fs2.length) (h2 : i < ss2.length), 0 ≤ slotV fs ss fs2[i].1 → 0 ≤ ss2[i] ∧ ss2[i] ≤ slotV fs ss fs2[i].1
theorem noLate_same {fs : List Fli} {ss : List Int} (ho : InOrder fs) : NoLate fs ss fs ss := fun i h h2 h0 => by
  have e := slot_hit (ss := ss) ho h h2 rfl
  rw [e] at h0 ⊢
  exact ⟨h0, Int.le_refl _⟩
theorem fits_order {cs : List (ByteArray × Int)} {fs : List Fli} {ss : List Int} (h : fitsB cs fs ss = true) : InOrder fs := (flis_iff.1 (fits_flis h)).2.2

theorem noLate_drop {cs : List (ByteArray × Int)} {fs : List Fli} {ss : List Int} (h : fitsB cs fs ss = true) {p : Nat} (hp : p < fs.length) : NoLate fs ss (fs.eraseIdx p) (compV cs (fs.eraseIdx p) (ss.eraseIdx p)) := fun i h1 h2 h0 => by
  have hls := fits_len h
  have hl1 : (fs.eraseIdx p).length = fs.length - 1 := List.length_eraseIdx_of_lt hp
  have hl2 : (ss.eraseIdx p).length = ss.length - 1 := List.length_eraseIdx_of_lt (by omega)
  obtain ⟨j1, e1⟩ := er_at hp h1
  obtain ⟨j2, e2⟩ := er_at (l := ss) (i := p) (by omega) (show i < (ss.eraseIdx p).length by omega)
  have e : slotV fs ss (fs.eraseIdx p)[i].1 = (ss.eraseIdx p)[i]'(by omega) := by
    rw [e2]
    exact slot_hit (fits_order h) j1 j2 (by rw [e1])
  rw [e] at h0 ⊢
  exact (comp_all (drop_fits h p)).2.2.1 i (by omega) h2 h0
theorem putAt_ne {α : Type} {l : List α} {k i : Nat} {x : α} (hk : k ≤ l.length) (hne : i ≠ k) (h : i < (putAt l k x).length) : ∃ j, ∃ hj : j < l.length, (putAt l k x)[i] = l[j] ∧ j = if i < k then i else i - 1 := by
  rw [putAt_len] at h
  by_cases hi : i < k
  · exact ⟨i, by omega, putAt_lt l hk hi x _, by rw [if_pos hi]⟩
  · have h3 := putAt_gt l (k := k) (i := i - 1) (x := x) (by omega) (by omega) (by rw [putAt_len]; omega)
    refine ⟨i - 1, by omega, ?_, by rw [if_neg hi]⟩
    rw [← h3]
    congr 1
    omega
theorem newS_at {cs : List (ByteArray × Int)} {fs : List Fli} {ss : List Int} {f : Fli} {k i : Nat} (hne : i ≠ k) (h : i < (newS cs fs ss f k).length) : (newS cs fs ss f k)[i] = (putAt ss k (-1))[i]'(by rw [newS_len] at h; rw [putAt_len]; exact h) := by
  simp only [newS, List.getElem_set, if_neg (Ne.symm hne)]
theorem noLate_add {cs : List (ByteArray × Int)} {fs : List Fli} {ss : List Int} (h : fitsB cs fs ss = true) {f : Fli} (hn : thereB fs f.1 = false) : NoLate fs ss (putAt fs (placeV fs f.1) f) (newS cs fs ss f (placeV fs f.1)) ∧ NoLate (putAt fs (placeV fs f.1) f) (newS cs fs ss f (placeV fs f.1)) fs ss := by
  have hls := fits_len h
  have hk := place_le fs f.1
  have ho := fits_order h
  obtain ⟨k, hkd⟩ : ∃ k, placeV fs f.1 = k := ⟨_, rfl⟩
  have ho2 := putAt_order ho hn
  rw [hkd] at hk ho2 ⊢
  constructor
  · intro i h1 h2 h0
    by_cases hik : i = k
    · subst hik
      rw [putAt_self fs hk] at h0
      rw [slot_none hn] at h0
      omega
    · obtain ⟨j, hj, ej, hji⟩ := putAt_ne (x := f) hk hik h1
      obtain ⟨j2, hj2, ej2, hji2⟩ := putAt_ne (l := ss) (x := (-1 : Int)) (by omega) hik (by rw [newS_len] at h2; rw [putAt_len]; exact h2)
      have hjj : j = j2 := by omega
      subst hjj
      have e := slot_hit (ss := ss) (nm := (putAt fs k f)[i].1) ho hj hj2 (by rw [ej])
      rw [e] at h0 ⊢
      rw [newS_at hik h2, ej2]
      exact ⟨h0, Int.le_refl _⟩
  · intro j h1 h2 h0
    obtain ⟨i, hi, hif⟩ : ∃ i, ∃ hi : i < (putAt fs k f).length, i ≠ k ∧ (putAt fs k f)[i] = fs[j] ∧ ∀ (hs : i < (newS cs fs ss f k).length), (newS cs fs ss f k)[i] = ss[j] := by
      by_cases hjk : j < k
      · refine ⟨j, by rw [putAt_len]; omega, by omega, putAt_lt fs hk hjk f _, fun hs => ?_⟩
        rw [newS_at (by omega) hs]
        exact putAt_lt ss (by omega) hjk (-1) _
      · refine ⟨j + 1, by rw [putAt_len]; omega, by omega, putAt_gt fs (by omega) h1 f _, fun hs => ?_⟩
        rw [newS_at (by omega) hs]
        exact putAt_gt ss (by omega) h2 (-1) _
    obtain ⟨hne, e1, e2⟩ := hif
    have hs : i < (newS cs fs ss f k).length := by rw [newS_len]; rw [putAt_len] at hi; omega
    have e := slot_hit (ss := newS cs fs ss f k) (nm := fs[j].1) ho2 hi hs (by rw [e1])
    rw [e, e2 hs] at h0 ⊢
    exact ⟨h0, Int.le_refl _⟩

/-- What FlowDrop leads to. -/
theorem drop_all {cs : List (ByteArray × Int)} {fs : List Fli} {ss : List Int} (h : fitsB cs fs ss = true) (nm : ByteArray) : okC cs fs ss = cs ∧ fitsB cs (dropF cs fs ss nm) (dropS cs fs ss nm) = true ∧ NoLate fs ss (dropF cs fs ss nm) (dropS cs fs ss nm) ∧ (dropK cs fs ss nm = 0 → StableV cs (dropF cs fs ss nm) (dropS cs fs ss nm)) := by
  unfold okC dropF dropS dropK
  simp only [h, if_true]
  cases ht : thereB fs nm
  · simp only [Bool.false_eq_true, if_false]
    exact ⟨trivial, h, noLate_same (fits_order h), fun e => by omega⟩
  · simp only [if_true]
    obtain ⟨hp, _⟩ := (there_iff (fits_order h)).1 ht
    exact ⟨trivial, (comp_all (drop_fits h _)).2.1, noLate_drop h hp, fun _ => comp_stable (drop_fits h _)⟩
/-- What FlowAdd leads to. -/
theorem add_all {cs : List (ByteArray × Int)} {fs : List Fli} {ss : List Int} (h : fitsB cs fs ss = true) (f : Fli) : okC cs fs ss = cs ∧ fitsB cs (addF cs fs ss f) (addS cs fs ss f) = true ∧ NoLate fs ss (addF cs fs ss f) (addS cs fs ss f) ∧ NoLate (addF cs fs ss f) (addS cs fs ss f) fs ss := by
  unfold okC addF addS
  simp only [h, if_true]
  by_cases h0 : addN fs f = 0
  · simp only [h0, if_true]
    obtain ⟨h1, h2, h3⟩ := addN_zero h0
    have h8 := (flis_iff.1 (fits_flis h)).1
    have hp := put_fits h h1 (by omega) h2
    have hk := place_le fs f.1
    obtain ⟨n1, n2⟩ := noLate_add h h2
    exact ⟨trivial, giveOne_fits hp (by rw [putAt_len]; omega), n1, n2⟩
  · simp only [h0, if_false]
    exact ⟨trivial, h, noLate_same (fits_order h), noLate_same (fits_order h)⟩
end Go.Proofs.YtciacofibljmoaaGreatDoor

/- Books held against each other, the law's way: the same; nobody who stays later. -/
namespace Go.Proofs.YtciacofibljmoaaGreatDoor
open Go.RowKit

set_option maxRecDepth 100000 in
set_option maxHeartbeats 800000 in
theorem wSlot_any (ac a a' : Option Addr) (capc cap cap' : Nat) (cs : List (ByteArray × Int)) (fs : List Fli) (ss : List Int) (nm : ByteArray) (w : World) (hc : FlightsIn w a fs) (hi : IntsIn w a' ss) (hls : ss.length = fs.length) (hl : fs.length ≤ 1048576) (ho : InOrder fs) :
    Calls Tryz.prog 30 #[bkV ac a a' capc cap cap' cs fs ss, .string nm] w fun e w' => e = .returned (.int .i64 (slotV fs ss nm)) ∧ Below w.heap.size w w' := by
  have HC := hide hc
  have HI := hide hi
  have HO := hide ho
  have HLS := hide hls
  clear hc ho hi hls
  obtain ⟨W, hW, x0, x1, x2, hWb⟩ := alloc3 w (.slice ac cs.length capc) (.slice a fs.length cap) (.slice a' ss.length cap') 29
  have HW := hide hW
  have WB := hide hWb
  clear hW hWb
  go_enter Tryz.func30, Tryz.ntmps30
  go_wp2_with fail
  rw [HW.out]
  go_loopw [5] (fun i wr => ∃ (k : Nat), k ≤ fs.length ∧ i = .int .i64 k ∧ Hid (∀ j (hj : j < fs.length), j < k → fs[j].1.toList ≠ nm.toList) ∧ wr = W) (fun i _ => fs.length - (intOf i).toNat)
  case atStart => exact ⟨0, Nat.zero_le _, rfl, fun j _ h => absurd h (by omega), rfl⟩
  case round =>
    obtain ⟨k, hk, rfl, HK, rfl⟩ := hrel
    by_cases hlt : k < fs.length
    · have k0 : (0 : Int) ≤ (k : Int) := by omega
      have k1 : (k : Int) < (fs.length : Int) := by omega
      obtain ⟨b, off, rfl, hblt, c0, -⟩ := (HC.out.later WB.out) k hlt
      by_cases he : fs[k].1.toList = nm.toList
      · have hk' : k < ss.length := by have := HLS.out; omega
        have HE := hide (slot_hit HO.out hlt hk' he)
        obtain ⟨b2, off2, rfl, hblt2, d0⟩ := (HI.out.later WB.out) k hk'
        have k2 : (k : Int) < (ss.length : Int) := by omega
        generalize fs[k].1 = s at c0 he
        generalize ss[k] = z at d0 HE
        have he' : (s.toList == nm.toList) = true := by simpa using he
        clear he
        go_wp2
        go_ret
        exact ⟨by rw [HE.out]; rfl, WB.out⟩
      · generalize hs : fs[k].1 = s at c0
        have HN : Hid (∀ j (hj : j < fs.length), j < k + 1 → fs[j].1.toList ≠ nm.toList) := fun j hj hjk => by
          by_cases hj' : j < k
          · exact HK.out j hj hj'
          · obtain rfl : j = k := by omega
            exact he
        rw [hs] at he
        have he' : (s.toList == nm.toList) = false := by simpa using he
        clear hs he
        go_wp2
        go_roundw
        case rel => exact ⟨k + 1, by omega, by go_num, HN, trivial⟩
        case measure => simp [intOf]; omega
    · have k1 : (fs.length : Int) ≤ (k : Int) := by omega
      have HE := hide (slot_miss (ss := ss) (fun j hj => HK.out j hj (by omega)))
      go_wp2
      go_ret
      exact ⟨by rw [HE.out]; rfl, WB.out⟩

/-- The boxes of a function of two books. -/
theorem two_boxes (w : World) (v0 v1 v2 u0 u1 u2 : Value) : ∃ W, (w.alloc (.cells #[v0, v1, v2] 29)).alloc (.cells #[u0, u1, u2] 29) = W ∧ W.heap.size = w.heap.size + 2 ∧ BkAt W w.heap.size v0 v1 v2 ∧ BkAt W (w.heap.size + 1) u0 u1 u2 ∧ Below w.heap.size w W :=
  ⟨_, rfl, by simp, (BkAt.newAt w _ rfl _ _ _).later ((Below.refl _ _).alloc (Nat.le_refl _) _), BkAt.newAt _ _ (by simp) _ _ _, ((Below.refl _ _).alloc (Nat.le_refl _) _).alloc (by simp) _⟩

set_option maxRecDepth 100000 in
set_option maxHeartbeats 1600000 in
theorem wNoLater_ok (ac a a' bc b b' : Option Addr) (capc cap cap' cbc cb cb' : Nat) (cs ds : List (ByteArray × Int)) (fs gs : List Fli) (ss ts : List Int) (w : World) (hc : FlightsIn w a fs) (hi : IntsIn w a' ss) (hls : ss.length = fs.length) (hl : fs.length ≤ 1048576) (ho : InOrder fs) (hc2 : FlightsIn w b gs) (hi2 : IntsIn w b' ts) (hlt2 : ts.length = gs.length) (hl2 : gs.length ≤ 1048576) (hn : NoLate fs ss gs ts) :
    Calls Tryz.prog 9 #[bkV ac a a' capc cap cap' cs fs ss, bkV bc b b' cbc cb cb' ds gs ts] w fun e w' => e = .returned (.bool true) ∧ Below w.heap.size w w' := by
  have HC := hide hc
  have HI := hide hi
  have HO := hide ho
  have HLS := hide hls
  have HL := hide hl
  have HC2 := hide hc2
  have HI2 := hide hi2
  have HLT := hide hlt2
  have HN := hide hn
  clear hc ho hi hls hl hc2 hi2 hlt2 hn
  obtain ⟨W, hW, hWs, f0, r0, hWb⟩ := two_boxes w (.slice ac cs.length capc) (.slice a fs.length cap) (.slice a' ss.length cap') (.slice bc ds.length cbc) (.slice b gs.length cb) (.slice b' ts.length cb')
  have HW := hide hW
  have WB := hide hWb
  have F0 := hide f0
  have R0 := hide r0
  clear hW hWb f0 r0 hWs
  go_enter Tryz.func9, Tryz.ntmps9
  go_wp2_with fail
  rw [HW.out]
  go_loopw [5] (fun i wr => ∃ (k : Nat), k ≤ gs.length ∧ i = .int .i64 k ∧ Hid (Below W.heap.size W wr)) (fun i _ => gs.length - (intOf i).toNat)
  case atStart => exact ⟨0, Nat.zero_le _, rfl, Below.refl _ _⟩
  case round =>
    obtain ⟨k, hk, rfl, BK⟩ := hrel
    obtain ⟨x0, x1, x2, -⟩ := (F0.out.later BK.out).cells
    obtain ⟨y0, y1, y2, -⟩ := (R0.out.later BK.out).cells
    by_cases hlt : k < gs.length
    · have k0 : (0 : Int) ≤ (k : Int) := by omega
      have k1 : (k : Int) < (gs.length : Int) := by omega
      have hk' : k < ts.length := by have := HLT.out; omega
      have k2 : (k : Int) < (ts.length : Int) := by omega
      obtain ⟨g, off, rfl, hblt, c0, -⟩ := ((HC2.out.later WB.out).later BK.out) k hlt
      obtain ⟨g2, off2, rfl, hblt2, d0⟩ := ((HI2.out.later WB.out).later BK.out) k hk'
      have HX := hide (HN.out k hlt hk')
      generalize gs[k].1 = s at c0 HX
      generalize ts[k] = z at d0 HX
      go_wp2_with fail
      go_region_held3 (fun X => X.cell? ⟨w.heap.size, 0, none⟩ = some (.slice ac cs.length capc) ∧ X.cell? ⟨w.heap.size, 1, none⟩ = some (.slice a fs.length cap) ∧ X.cell? ⟨w.heap.size, 2, none⟩ = some (.slice a' ss.length cap') ∧ X.cell? ⟨w.heap.size + 1, 1, none⟩ = some (.slice (some ⟨g, off, none⟩) gs.length cb) ∧ X.cell? ⟨g, off + k * 4, none⟩ = some (.string s))
        (first | exact ⟨x0, x1, x2, y1, c0⟩ | exact ⟨cell_later hbA x0, cell_later hbA x1, cell_later hbA x2, cell_later hbA y1, cell_later hbA c0⟩)
        (first
          | (go_at_call 30; refine (wSlot_any ac a a' capc cap cap' cs fs ss s wr.drew ((HC.out.later WB.out).later BK.out.drew) ((HI.out.later WB.out).later BK.out.drew) HLS.out HL.out HO.out).mono ?_; rintro e wA ⟨rfl, hbA⟩)
          | (fail))
      rename_i hH
      have BA := hide (below_two BK.out (below_dr hbA))
      have y2A := cell_later hbA (show wr.drew.cell? _ = _ from y2)
      have d0A := cell_later hbA (show wr.drew.cell? _ = _ from d0)
      clear hH hbA x0 x1 x2 y0 y1 y2 c0 d0
      generalize slotV fs ss s = t at HX
      by_cases ht : 0 ≤ t
      · obtain ⟨h1, h2⟩ := HX.out ht
        have n1 : ¬ (z < 0) := by omega
        have n2 : ¬ (t < z) := by omega
        go_wp2
        go_roundw
        case rel => exact ⟨k + 1, by omega, by go_num, BA.out⟩
        case measure => simp [intOf]; omega
      · go_wp2
        go_roundw
        case rel => exact ⟨k + 1, by omega, by go_num, BA.out⟩
        case measure => simp [intOf]; omega
    · have k1 : ¬ ((k : Int) < (gs.length : Int)) := by omega
      go_wp2
      go_ret
      exact ⟨rfl, below_two WB.out BK.out⟩
end Go.Proofs.YtciacofibljmoaaGreatDoor

/- Books held against each other, the law's way: the same. -/
namespace Go.Proofs.YtciacofibljmoaaGreatDoor
open Go.RowKit

set_option maxRecDepth 100000 in
set_option maxHeartbeats 1600000 in
theorem wFlights_same (a b : Option Addr) (cap cb : Nat) (fs : List Fli) (w : World) (hc : FlightsIn w a fs) (hc2 : FlightsIn w b fs) (hl : fs.length ≤ 1048576) (hvl : ∀ f ∈ fs, f.2.2.2.length ≤ 1048576) :
    Calls Tryz.prog 28 #[.slice a fs.length cap, .slice b fs.length cb] w fun e w' => e = .returned (.bool true) ∧ Below w.heap.size w w' := by
  have HC := hide hc
  have HC2 := hide hc2
  have HVL := hide hvl
  clear hc hc2 hvl
  go_enter Tryz.func28, Tryz.ntmps28
  go_wp2
  go_loopw [5] (fun i wr => ∃ (k : Nat), k ≤ fs.length ∧ i = .int .i64 k ∧ Hid (Below w.heap.size w wr)) (fun i _ => fs.length - (intOf i).toNat)
  case atStart => exact ⟨0, Nat.zero_le _, rfl, Below.refl _ _⟩
  case round =>
    obtain ⟨k, hk, rfl, BK⟩ := hrel
    by_cases hlt : k < fs.length
    · have k0 : (0 : Int) ≤ (k : Int) := by omega
      have k1 : (k : Int) < (fs.length : Int) := by omega
      obtain ⟨g, off, rfl, -, -⟩ := HC.out k hlt
      obtain ⟨g2, off2, rfl, -, -⟩ := HC2.out k hlt
      have HA : Hid (∃ av cv, ∀ X, Below w.heap.size w X → X.cell? ⟨g, off + k * 4, none⟩ = some (.string fs[k].1) ∧ X.cell? ⟨g, off + k * 4 + 1, none⟩ = some (.int .i64 fs[k].2.1) ∧ X.cell? ⟨g, off + k * 4 + 2, none⟩ = some (.int .i64 fs[k].2.2.1) ∧ X.cell? ⟨g, off + k * 4 + 3, none⟩ = some (.slice av fs[k].2.2.2.length cv) ∧ VisitsIn X av fs[k].2.2.2) := by
        obtain ⟨_, _, e, _, c0, c1, c2, av, cv, c3, hv⟩ := HC.out k hlt
        simp at e
        obtain ⟨rfl, rfl⟩ := e
        exact ⟨av, cv, fun X hX => ⟨cell_later hX c0, cell_later hX c1, cell_later hX c2, cell_later hX c3, hv.later hX⟩⟩
      have HA2 : Hid (∃ av cv, ∀ X, Below w.heap.size w X → X.cell? ⟨g2, off2 + k * 4, none⟩ = some (.string fs[k].1) ∧ X.cell? ⟨g2, off2 + k * 4 + 1, none⟩ = some (.int .i64 fs[k].2.1) ∧ X.cell? ⟨g2, off2 + k * 4 + 2, none⟩ = some (.int .i64 fs[k].2.2.1) ∧ X.cell? ⟨g2, off2 + k * 4 + 3, none⟩ = some (.slice av fs[k].2.2.2.length cv) ∧ VisitsIn X av fs[k].2.2.2) := by
        obtain ⟨_, _, e, _, c0, c1, c2, av, cv, c3, hv⟩ := HC2.out k hlt
        simp at e
        obtain ⟨rfl, rfl⟩ := e
        exact ⟨av, cv, fun X hX => ⟨cell_later hX c0, cell_later hX c1, cell_later hX c2, cell_later hX c3, hv.later hX⟩⟩
      have hvk := HVL.out fs[k] (List.getElem_mem hlt)
      generalize fs[k] = f at HA HA2 hvk
      obtain ⟨nm, pl, lt, vs⟩ := f
      obtain ⟨av, cv, h1⟩ := HA.out
      obtain ⟨av2, cv2, h2⟩ := HA2.out
      have H1 := hide h1
      have H2 := hide h2
      clear h1 h2 HA HA2
      obtain ⟨c0, c1, c2, c3, -⟩ := H1.out wr BK.out
      obtain ⟨d0, d1, d2, d3, -⟩ := H2.out wr BK.out
      simp only at c0 c1 c2 c3 d0 d1 d2 d3 hvk
      go_upto_region 6 with fail
      go_quiet (fail)
      clear c0 c1 c2 c3 d0 d1 d2 d3
      have BQ := hide (Go.below_drewN BK.out nq)
      generalize wr.drewN nq = wq at *
      go_wp2_with fail
      go_loopw [6] (fun i wz => ∃ (j : Nat), j ≤ vs.length ∧ i = .int .i64 j ∧ Hid (Below w.heap.size w wz)) (fun i _ => vs.length - (intOf i).toNat)
      case atStart => exact ⟨0, Nat.zero_le _, rfl, BQ.out⟩
      case round =>
        obtain ⟨j, hj, rfl, BZ⟩ := hrel
        obtain ⟨-, -, -, c3, v1⟩ := H1.out _ BZ.out
        obtain ⟨-, -, -, d3, v2⟩ := H2.out _ BZ.out
        by_cases hjl : j < vs.length
        · have j0 : (0 : Int) ≤ (j : Int) := by omega
          have j1 : (j : Int) < (vs.length : Int) := by omega
          obtain ⟨h, o, rfl, -, e0, e1, e2⟩ := v1 j hjl
          obtain ⟨h2, o2, rfl, -, m0, m1, m2⟩ := v2 j hjl
          generalize vs[j] = x at e0 e1 e2 m0 m1 m2
          obtain ⟨xs, xa, xt⟩ := x
          simp only at c3 d3 e0 e1 e2 m0 m1 m2
          go_upto_region 11 with fail
          go_quiet (fail)
          clear c3 d3 e0 e1 e2 m0 m1 m2
          go_wp2
          go_roundw
          case rel => exact ⟨j + 1, by omega, by go_num, Go.below_drewN BZ.out _⟩
          case measure => simp [intOf]; omega
        · have j1 : ¬ ((j : Int) < (vs.length : Int)) := by omega
          go_wp2
          go_roundw
          case rel => exact ⟨k + 1, by omega, by go_num, BZ.out⟩
          case measure => simp [intOf]; omega
    · have k1 : ¬ ((k : Int) < (fs.length : Int)) := by omega
      go_wp2
      go_ret
      exact ⟨rfl, BK.out⟩

set_option maxRecDepth 100000 in
set_option maxHeartbeats 1600000 in
theorem wBook_same (ac a a' bc b b' : Option Addr) (capc cap cap' cbc cb cb' : Nat) (cs : List (ByteArray × Int)) (fs : List Fli) (ss : List Int) (w : World) (h1 : BookIn w ac a a' cs fs ss) (h2 : BookIn w bc b b' cs fs ss) (hm : BookSm cs fs ss) :
    Calls Tryz.prog 8 #[bkV ac a a' capc cap cap' cs fs ss, bkV bc b b' cbc cb cb' cs fs ss] w fun e w' => e = .returned (.bool true) ∧ Below w.heap.size w w' := by
  have hnc := hm.nc
  have H1 := hide h1
  have H2 := hide h2
  have HM := hide hm
  clear h1 h2 hm
  obtain ⟨W, hW, hWs, f0, r0, hWb⟩ := two_boxes w (.slice ac cs.length capc) (.slice a fs.length cap) (.slice a' ss.length cap') (.slice bc cs.length cbc) (.slice b fs.length cb) (.slice b' ss.length cb')
  have HW := hide hW
  have WB := hide hWb
  have F0 := hide f0
  have R0 := hide r0
  clear hW hWb f0 r0 hWs
  go_enter Tryz.func8, Tryz.ntmps8
  go_wp2_with fail
  rw [HW.out]
  refine (wFlights_same a b cap cb fs W (H1.out.later WB.out).fl (H2.out.later WB.out).fl HM.out.nf HM.out.vl).mono ?_
  rintro e w1 ⟨rfl, hb1⟩
  have B1 := hide hb1
  clear hb1
  obtain ⟨x0, x1, x2, -⟩ := (F0.out.later B1.out).cells
  obtain ⟨y0, y1, y2, -⟩ := (R0.out.later B1.out).cells
  go_wp2_with fail
  refine (wInts_same a' b' cap' cb' ss w1 ((H1.out.later WB.out).later B1.out).ints ((H2.out.later WB.out).later B1.out).ints HM.out.ns).mono ?_
  rintro e w2 ⟨rfl, hb2⟩
  have B2 := hide (below_two B1.out hb2)
  clear hb2 x0 x1 x2 y0 y1 y2
  go_wp2_with fail
  go_loopw [5] (fun i wr => ∃ (k : Nat), k ≤ cs.length ∧ i = .int .i64 k ∧ Hid (Below W.heap.size W wr)) (fun i _ => cs.length - (intOf i).toNat)
  case atStart => exact ⟨0, Nat.zero_le _, rfl, B2.out⟩
  case round =>
    obtain ⟨k, hk, rfl, BK⟩ := hrel
    obtain ⟨x0, x1, x2, -⟩ := (F0.out.later BK.out).cells
    obtain ⟨y0, y1, y2, -⟩ := (R0.out.later BK.out).cells
    by_cases hlt : k < cs.length
    · have k0 : (0 : Int) ≤ (k : Int) := by omega
      have k1 : (k : Int) < (cs.length : Int) := by omega
      obtain ⟨g, off, rfl, -, c0, c1⟩ := ((H1.out.later WB.out).later BK.out).caps k hlt
      obtain ⟨g2, off2, rfl, -, d0, d1⟩ := ((H2.out.later WB.out).later BK.out).caps k hlt
      generalize cs[k] = c at c0 c1 d0 d1
      obtain ⟨cn, cv⟩ := c
      simp only at c0 c1 d0 d1
      go_upto_region 6 with fail
      go_quiet (fail)
      clear x0 x1 x2 y0 y1 y2 c0 c1 d0 d1
      go_wp2
      go_roundw
      case rel => exact ⟨k + 1, by omega, by go_num, Go.below_drewN BK.out _⟩
      case measure => simp [intOf]; omega
    · have k1 : ¬ ((k : Int) < (cs.length : Int)) := by omega
      go_wp2
      go_ret
      exact ⟨rfl, below_two WB.out BK.out⟩
end Go.Proofs.YtciacofibljmoaaGreatDoor

/- Small things for the law of books: books with nobody, sizes, stable ones. -/
namespace Go.Proofs.YtciacofibljmoaaGreatDoor
open Go.RowKit

theorem fits_nobody {cs : List (ByteArray × Int)} (h : capsB cs = true) : fitsB cs [] [] = true := by
  have h2 : slotsB [] [] = true := by decide
  have h3 : inTimeB [] [] = true := by decide
  have h4 : roomB cs [] [] = true := by
    unfold roomB
    simp only [List.all_eq_true]
    intro i _
    simp [notFullAt, fullB]
  unfold fitsB
  rw [h, h2, h3, h4]
  rfl
theorem sm_nobody {cs : List (ByteArray × Int)} (h : capsB cs = true) (h8 : ∀ c ∈ cs, c.1.size ≤ 8) : BookSm cs [] [] := by
  have h1 : cs.length ≤ 6 := by
    unfold capsB at h
    simp only [Bool.and_eq_true, decide_eq_true_eq] at h
    exact h.1
  exact ⟨by omega, by simp, by simp, fun c hc => by have := h8 c hc; unfold maxLen; omega, by simp, by simp⟩
theorem in_nobody {w : World} {ac : Option Addr} {cs : List (ByteArray × Int)} (h : CapsIn w ac cs) : BookIn w ac none none cs [] [] := ⟨h, fun i hi => by simp at hi, fun i hi => by simp at hi⟩
theorem drop_small {cs : List (ByteArray × Int)} {fs : List Fli} {ss : List Int} (nm : ByteArray) (h : BookSm cs fs ss) : BookSm (okC cs fs ss) (dropF cs fs ss nm) (dropS cs fs ss nm) := by
  unfold okC dropF dropS
  cases hq : fitsB cs fs ss
  · exact ⟨by simp, by simp, by simp, by simp, by simp, by simp⟩
  · cases ht : thereB fs nm
    · exact ⟨h.nc, h.nf, h.ns, h.sc, h.vl, h.sf⟩
    · have h' := drop_sm h (placeV fs nm)
      refine ⟨h'.nc, h'.nf, ?_, h'.sc, h'.vl, h'.sf⟩
      show (compV cs _ _).length ≤ _
      rw [comp_len (drop_fits hq (placeV fs nm))]
      exact h'.ns
theorem stable_true {cs : List (ByteArray × Int)} {fs : List Fli} {ss : List Int} (h : fitsB cs fs ss = true) (hs : StableV cs fs ss) : stableB cs fs ss = true := by
  have hl := fits_len h
  unfold stableB
  rw [h, Bool.true_and, List.all_eq_true]
  intro i hi
  have hi' : i < fs.length := by simpa using hi
  have hi2 : i < ss.length := by omega
  unfold stableAt
  simp only [decide_eq_true_eq]
  rw [hs i hi' hi2, List.getD_eq_getElem?_getD, List.getElem?_eq_getElem hi2]
  rfl
theorem ev_sizes {f : Fli} (h : FlSm 3 f) : f.2.2.2.length ≤ 1048576 ∧ SizesOk f := by
  obtain ⟨h1, _, _, h2, h3⟩ := h
  refine ⟨by omega, ?_, ?_, ?_⟩
  · unfold maxLen; omega
  · unfold maxLen; omega
  · intro v hv
    have := h3 v hv
    unfold maxLen; omega
theorem bk_newT (w : World) (v0 v1 v2 : Value) : ∃ V, w.alloc (.cells #[v0, v1, v2] 29) = V ∧ V.heap.size = w.heap.size + 1 ∧ BkAt V w.heap.size v0 v1 v2 ∧ Below w.heap.size w V := ⟨_, rfl, by simp, BkAt.newAt w _ rfl _ _ _, (Below.refl _ _).alloc (Nat.le_refl _) _⟩
theorem fl_newT (w : World) (u0 u1 u2 u3 : Value) : ∃ W, w.alloc (.cells #[u0, u1, u2, u3] 32) = W ∧ W.heap.size = w.heap.size + 1 ∧ (∀ X, Below W.heap.size W X → X.cell? ⟨w.heap.size, 0, none⟩ = some u0 ∧ X.cell? ⟨w.heap.size, 1, none⟩ = some u1 ∧ X.cell? ⟨w.heap.size, 2, none⟩ = some u2 ∧ X.cell? ⟨w.heap.size, 3, none⟩ = some u3) ∧ Below w.heap.size w W := by
  have hr := World.rowIs_alloc w #[u0, u1, u2, u3] 32 (fun i => #[u0, u1, u2, u3].getD i undef) (fun i hi => by rw [Array.getD_eq_getD_getElem?, Array.getElem?_eq_getElem hi]; rfl)
  exact ⟨_, rfl, by simp, fun X hX => ⟨cell_later hX (hr.cell (i := 0) (by simp)), cell_later hX (hr.cell (i := 1) (by simp)), cell_later hX (hr.cell (i := 2) (by simp)), cell_later hX (hr.cell (i := 3) (by simp))⟩, (Below.refl _ _).alloc (Nat.le_refl _) _⟩
theorem below_set3T {B b : Nat} {w X : World} (h : Below B w X) (hb : B ≤ b) (u0 u1 u2 : Value) : Below B w (((X.setCell ⟨b, 0, none⟩ u0).setCell ⟨b, 1, none⟩ u1).setCell ⟨b, 2, none⟩ u2) := ((h.setCell hb _).setCell hb _).setCell hb _
end Go.Proofs.YtciacofibljmoaaGreatDoor
