/- What happens to a book, with its code, the program's way. -/
import Derived.Test.YtciacofibljmoaaGreatDoorDrops
import Derived.Test.YtciacofibljmoaaGreatDoorAsRef
import Derived.Test.YtciacofibljmoaaGreatDoorPuts
import Derived.Stop.Asserts
namespace Go.Proofs.YtciacofibljmoaaGreatDoor
open Go.RowKit

/-- What the laid variable holds. -/
def ErrT (w : World) : Prop := w.cell? ⟨0, 0, none⟩ = some (.iface 136 (.agg #[.pointer (some ⟨1, 80, none⟩)]))
theorem ErrT.lt {w : World} (h : ErrT w) : 0 < w.heap.size := by
  rcases Nat.lt_or_ge 0 w.heap.size with h' | h'
  · exact h'
  · have : w.heap[0]? = none := Array.getElem?_eq_none h'
    unfold ErrT at h
    simp [World.cell?, this] at h
theorem ErrT.later {w w' : World} (h : ErrT w) (hb : Below w.heap.size w w') : ErrT w' := cell_later hb h

set_option maxRecDepth 100000 in
set_option maxHeartbeats 1600000 in
theorem happen_any (cv : Value) (k : Int) (cs1 : List (ByteArray × Int)) (fs1 : List Fli) (ss1 : List Int) (ac a a' : Option Addr) (capc cap cap' : Nat) (cs : List (ByteArray × Int)) (fs : List Fli) (ss : List Int) (w : World) (hg : ErrT w)
    (hC : ∀ W, Below w.heap.size w W → Calls Tryz.prog 41 #[bkV ac a a' capc cap cap' cs fs ss, cv] W fun e w' => ∃ bc b b' cc cb cb', e = .returned (.tuple #[bkV bc b b' cc cb cb' cs1 fs1 ss1, whyV k]) ∧ OwnBk W.heap.size w' bc b b' cc cb cb' cs1 fs1 ss1 ∧ Below W.heap.size W w') :
    Calls Tryz.prog 23 #[bkV ac a a' capc cap cap' cs fs ss, cv] w fun e w' => ∃ bc b b' cc cb cb', e = .returned (.tuple #[bkV bc b b' cc cb cb' cs1 fs1 ss1, .int .i64 k]) ∧ OwnBk w.heap.size w' bc b b' cc cb cb' cs1 fs1 ss1 ∧ Below w.heap.size w w' := by
  have HG := hide hg
  have HC := hide hC
  clear hg hC
  obtain ⟨W, hW, hWs, f0, r0, b0⟩ := bk_boxes w (.slice ac cs.length capc) (.slice a fs.length cap) (.slice a' ss.length cap')
  have HW := hide hW
  have R0 := hide r0
  have B0 := hide b0
  have G0 := hide (HG.out.later b0)
  clear hW f0 r0 b0
  go_enter Tryz.func23, Tryz.ntmps23
  go_wp2_with fail
  rw [HW.out]
  refine (HC.out W B0.out).mono ?_
  rintro e w1 ⟨bc, b, b', cc, cb, cb', rfl, hown, hb1⟩
  have R1 := hide (R0.out.later hb1)
  have B1 := hide (below_two B0.out hb1)
  have G1 := hide (G0.out.later hb1)
  have O1 := hide hown.to
  have hs1 := hb1.size
  clear hb1 hown
  obtain ⟨V, hV, hVs, VB, BV⟩ : ∃ V, w1.alloc (.cells #[.slice bc cs1.length cc, .slice b fs1.length cb, .slice b' ss1.length cb'] 29) = V ∧ V.heap.size = w1.heap.size + 1 ∧ BkAt V w1.heap.size (.slice bc cs1.length cc) (.slice b fs1.length cb) (.slice b' ss1.length cb') ∧ Below w1.heap.size w1 V := ⟨_, rfl, by simp, BkAt.newAt w1 _ rfl _ _ _, (Below.refl _ _).alloc (Nat.le_refl _) _⟩
  obtain ⟨V2, hV2, hVs2, C2, BV2⟩ : ∃ V2, V.alloc (.cells #[.int .i64 0] 83) = V2 ∧ V2.heap.size = w1.heap.size + 2 ∧ V2.rowIs (w1.heap.size + 1) 83 1 (fun _ => .int .i64 0) ∧ Below V.heap.size V V2 := by
    have hr := World.rowIs_alloc V #[.int .i64 0] 83 (fun _ => .int .i64 0) (fun i hi => by simp at hi; subst hi; rfl)
    exact ⟨_, rfl, by simp; omega, by rw [← hVs]; exact hr, (Below.refl _ _).alloc (Nat.le_refl _) _⟩
  have HV := hide (show (w1.alloc (.cells #[.slice bc cs1.length cc, .slice b fs1.length cb, .slice b' ss1.length cb'] 29)).alloc (.cells #[.int .i64 0] 83) = V2 by rw [hV]; exact hV2)
  have O2 := hide ((O1.out.later BV).later BV2)
  have R2 := hide ((R1.out.later BV).later BV2)
  have K2 := hide (VB.later BV2)
  have B2 := hide (below_two (below_two B1.out BV) BV2)
  have G2 := hide ((G1.out.later BV).later BV2)
  clear BV BV2 VB hV hV2 hVs O1 R1 G1 B1
  by_cases hk : k = 0
  · subst hk
    have eW : whyV 0 = .nilIface := rfl
    rw [eW]
    go_wp2_with fail
    rw [HV.out]
    refine (as_nil _ V2).mono ?_
    rintro e w2 ⟨rfl, rfl⟩
    obtain ⟨x0, x1, x2, -⟩ := K2.out.cells
    obtain ⟨k0, k1, k2, t0, t1, t2⟩ := R2.out.cells
    have RX := hide (R2.out.set3 (.slice bc cs1.length cc) (.slice b fs1.length cb) (.slice b' ss1.length cb'))
    have TX := hide (set3_touch w2 (w.heap.size + 1) (.slice bc cs1.length cc) (.slice b fs1.length cb) (.slice b' ss1.length cb'))
    go_wp2
    generalize ((World.setCell w2 ⟨w.heap.size + 1, 0, none⟩ (.slice bc cs1.length cc)).setCell ⟨w.heap.size + 1, 1, none⟩ (.slice b fs1.length cb)).setCell ⟨w.heap.size + 1, 2, none⟩ (.slice b' ss1.length cb') = Y at *
    obtain ⟨y0, y1, y2, -⟩ := RX.out.cells
    refine bodyPost_ret (v := .tuple #[bkV bc b b' cc cb cb' cs1 fs1 ss1, .int .i64 0]) (by simp [results, Tryz.results23, go_sem, y0, y1, y2, bkV]) rfl ⟨bc, b, b', cc, cb, cb', rfl, (O2.out.touch (S := fun q => q = w.heap.size + 1) TX.out (fun k h1 _ => by omega)).own.base (by omega), B2.out.trans (below_ofS (S := fun q => q = w.heap.size + 1) TX.out (by omega) (fun q hq => by omega))⟩
  · have eW : whyV k = .iface 83 (.int .i64 k) := by unfold whyV; rw [if_neg hk]
    rw [eW]
    go_wp2_with fail
    rw [HV.out]
    refine (as_hit k ⟨w1.heap.size + 1, 0, none⟩ (.int .i64 0) V2 G2.out (C2.cell (i := 0) (by omega)) (C2.frozen 0)).mono ?_
    rintro e w3 ⟨rfl, hw3⟩
    have M1 : Below V2.heap.size V2 ((((V2.alloc (.cells #[.pointer (some ⟨w1.heap.size + 1, 0, none⟩)] 85)).alloc (.cells #[.pointer (some ⟨1, 85, none⟩), .pointer (some ⟨V2.heap.size, 0, none⟩), .int .u64 150] 115)).alloc (.cells #[.pointer (some ⟨1, 85, none⟩), .pointer (some ⟨V2.heap.size, 0, none⟩), .int .u64 150] 115)).alloc (.cells #[.int .i64 k] 83)) := ((((Below.refl _ _).alloc (Nat.le_refl _) _).alloc (by simp) _).alloc (by simp; omega) _).alloc (by simp; omega) _
    generalize ((((V2.alloc (.cells #[.pointer (some ⟨w1.heap.size + 1, 0, none⟩)] 85)).alloc (.cells #[.pointer (some ⟨1, 85, none⟩), .pointer (some ⟨V2.heap.size, 0, none⟩), .int .u64 150] 115)).alloc (.cells #[.pointer (some ⟨1, 85, none⟩), .pointer (some ⟨V2.heap.size, 0, none⟩), .int .u64 150] 115)).alloc (.cells #[.int .i64 k] 83)) = M at *
    have T3 : Hid (TouchS (fun q => q = w1.heap.size + 1) V2 w3) := by
      rw [hw3]; exact touchS_trans (touchS_below M1) (touch1_set (touchS_refl _ M) 0 _)
    have hcM : w3.cell? ⟨w1.heap.size + 1, 0, none⟩ = some (.int .i64 k) := by
      have hr := (row_touchS C2 (touchS_below (S := fun _ => False) M1) (fun h => h)).set 0 (.int .i64 k)
      rw [hw3, hr.cell (i := 0) (by omega)]
      rfl
    clear M1 hw3
    have O3 := hide (O2.out.touch (S := fun q => q = w1.heap.size + 1) T3.out (fun q h1 h2 => by omega))
    have R3 := hide (BkAt.touchS (S := fun q => q = w1.heap.size + 1) R2.out T3.out (by omega))
    have K3 := hide (BkAt.touchS (S := fun q => q = w1.heap.size + 1) K2.out T3.out (by omega))
    have B3 := hide (B2.out.trans (below_ofS (S := fun q => q = w1.heap.size + 1) T3.out (by omega) (fun q hq => by omega)))
    have hs3 := T3.out.size
    obtain ⟨x0, x1, x2, -⟩ := K3.out.cells
    obtain ⟨k0, k1, k2, t0, t1, t2⟩ := R3.out.cells
    have RX := hide (R3.out.set3 (.slice bc cs1.length cc) (.slice b fs1.length cb) (.slice b' ss1.length cb'))
    have TX := hide (set3_touch w3 (w.heap.size + 1) (.slice bc cs1.length cc) (.slice b fs1.length cb) (.slice b' ss1.length cb'))
    go_wp2_with fail
    go_region
    generalize ((World.setCell w3 ⟨w.heap.size + 1, 0, none⟩ (.slice bc cs1.length cc)).setCell ⟨w.heap.size + 1, 1, none⟩ (.slice b fs1.length cb)).setCell ⟨w.heap.size + 1, 2, none⟩ (.slice b' ss1.length cb') = Y at *
    have TY := hide (touchS_trans (S := fun q => q = w.heap.size + 1) TX.out (touchS_drewB _ Y))
    obtain ⟨y0, y1, y2, -⟩ := RX.out.cells
    have z0 : Y.drew.cell? ⟨w.heap.size + 1, 0, none⟩ = some (.slice bc cs1.length cc) := y0
    have z1 : Y.drew.cell? ⟨w.heap.size + 1, 1, none⟩ = some (.slice b fs1.length cb) := y1
    have z2 : Y.drew.cell? ⟨w.heap.size + 1, 2, none⟩ = some (.slice b' ss1.length cb') := y2
    generalize Y.drew = Z at *
    clear y0 y1 y2
    go_wp2
    refine bodyPost_ret (v := .tuple #[bkV bc b b' cc cb cb' cs1 fs1 ss1, .int .i64 k]) (by simp [results, Tryz.results23, go_sem, z0, z1, z2, bkV]) rfl ⟨bc, b, b', cc, cb, cb', rfl, (O3.out.touch (S := fun q => q = w.heap.size + 1) TY.out (fun k h1 _ => by omega)).own.base (by omega), B3.out.trans (below_ofS (S := fun q => q = w.heap.size + 1) TY.out (by omega) (fun q hq => by omega))⟩

set_option maxRecDepth 100000 in
set_option maxHeartbeats 1600000 in
theorem implDrop_any (nm : ByteArray) (ac a a' : Option Addr) (capc cap cap' : Nat) (cs : List (ByteArray × Int)) (fs : List Fli) (ss : List Int) (w : World) (hg : ErrT w) (hb : BookIn w ac a a' cs fs ss) (hm : BookSm cs fs ss) :
    Calls Tryz.prog 6 #[bkV ac a a' capc cap cap' cs fs ss, .string nm] w fun e w' => ∃ bc b b' cc cb cb', e = .returned (.tuple #[bkV bc b b' cc cb cb' (okC cs fs ss) (dropF cs fs ss nm) (dropS cs fs ss nm), .int .i64 (dropK cs fs ss nm)]) ∧ OwnBk w.heap.size w' bc b b' cc cb cb' (okC cs fs ss) (dropF cs fs ss nm) (dropS cs fs ss nm) ∧ Below w.heap.size w w' := by
  have HG := hide hg
  have HB := hide hb
  have HM := hide hm
  clear hg hb hm
  obtain ⟨W, hW, hWs, f0, r0, b0⟩ := bk_boxes w (.slice ac cs.length capc) (.slice a fs.length cap) (.slice a' ss.length cap')
  have HW := hide hW
  have R0 := hide r0
  have B0 := hide b0
  have G0 := hide (HG.out.later b0)
  clear hW f0 r0 b0
  have HC := hide (fun W' (hW' : Below W.heap.size W W') => changedDrop_any nm ac a a' capc cap cap' cs fs ss W' ((HB.out.later B0.out).later hW') HM.out)
  generalize okC cs fs ss = cs1 at *
  generalize dropF cs fs ss nm = fs1 at *
  generalize dropS cs fs ss nm = ss1 at *
  generalize dropK cs fs ss nm = kk at *
  go_enter Tryz.func6, Tryz.ntmps6
  go_wp2_with fail
  rw [HW.out]
  refine (happen_any _ _ _ _ _ ac a a' capc cap cap' cs fs ss W G0.out HC.out).mono ?_
  rintro e w1 ⟨bc, b, b', cc, cb, cb', rfl, hown, hb1⟩
  have R1 := hide (R0.out.later hb1)
  have B1 := hide (below_two B0.out hb1)
  have O1 := hide hown
  have hs1 := hb1.size
  clear hb1 hown
  obtain ⟨k0, k1, k2, t0, t1, t2⟩ := R1.out.cells
  have RX := hide (R1.out.set3 (.slice bc cs1.length cc) (.slice b fs1.length cb) (.slice b' ss1.length cb'))
  have TX := hide (set3_touch w1 (w.heap.size + 1) (.slice bc cs1.length cc) (.slice b fs1.length cb) (.slice b' ss1.length cb'))
  go_wp2
  generalize ((World.setCell w1 ⟨w.heap.size + 1, 0, none⟩ (.slice bc cs1.length cc)).setCell ⟨w.heap.size + 1, 1, none⟩ (.slice b fs1.length cb)).setCell ⟨w.heap.size + 1, 2, none⟩ (.slice b' ss1.length cb') = Y at *
  obtain ⟨y0, y1, y2, -⟩ := RX.out.cells
  refine bodyPost_ret (v := .tuple #[bkV bc b b' cc cb cb' cs1 fs1 ss1, .int .i64 kk]) (by simp [results, Tryz.results6, go_sem, y0, y1, y2, bkV]) rfl ⟨bc, b, b', cc, cb, cb', rfl, OwnBk.base (lo := W.heap.size) (OwnBk.touch (S := fun q => q = w.heap.size + 1) O1.out TX.out (fun q h1 _ he => by have he' : q = w.heap.size + 1 := he; omega)) (by omega), B1.out.trans (below_ofS (S := fun q => q = w.heap.size + 1) TX.out (by omega) (fun q hq => by omega))⟩
end Go.Proofs.YtciacofibljmoaaGreatDoor

/- A flight comes in, the program's way, walked whole. -/
namespace Go.Proofs.YtciacofibljmoaaGreatDoor
open Go.RowKit

theorem addClears (f : Fli) (av : Option Addr) (cv : Nat) (U : World) : (Instr.typeAssert (.iface 64 (.agg #[.string f.1, .int .i64 f.2.1, .int .i64 f.2.2.1, .slice av f.2.2.2.length cv])) 78 109 true).run Tryz.prog U = .ok (.tuple #[.nilIface, .bool false]) U := run_typeAssert_lacksB Tryz.underlying109 (by kernel_rfl) (by kernel_rfl) _ _ _
theorem whyV_ne {k : Int} (h : k ≠ 0) : whyV k = .iface 83 (.int .i64 k) := by unfold whyV; rw [if_neg h]

set_option maxRecDepth 100000 in
set_option maxHeartbeats 1600000 in
theorem changedAdd_any (f : Fli) (av : Option Addr) (cv : Nat) (ac a a' : Option Addr) (capc cap cap' : Nat) (cs : List (ByteArray × Int)) (fs : List Fli) (ss : List Int) (w : World) (hb : BookIn w ac a a' cs fs ss) (hm : BookSm cs fs ss) (hv : VisitsIn w av f.2.2.2) (hvl : f.2.2.2.length ≤ 1048576) (hsz : SizesOk f) :
    Calls Tryz.prog 41 #[bkV ac a a' capc cap cap' cs fs ss, .iface 64 (.agg #[.string f.1, .int .i64 f.2.1, .int .i64 f.2.2.1, .slice av f.2.2.2.length cv])] w fun e w' => ∃ bc b b' cc cb cb', e = .returned (.tuple #[bkV bc b b' cc cb cb' (okC cs fs ss) (addF cs fs ss f) (addS cs fs ss f), whyV (addK cs fs ss f)]) ∧ OwnBk w.heap.size w' bc b b' cc cb cb' (okC cs fs ss) (addF cs fs ss f) (addS cs fs ss f) ∧ Below w.heap.size w w' := by
  have HB := hide hb
  have HM := hide hm
  have HV0 := hide hv
  have HVL := hide hvl
  have HSZ := hide hsz
  clear hb hm hv hvl hsz
  obtain ⟨W, hW, hWs, f0, r0, b0⟩ := bk_boxes w (.slice ac cs.length capc) (.slice a fs.length cap) (.slice a' ss.length cap')
  have HW := hide hW
  have F0 := hide f0
  have R0 := hide r0
  have B0 := hide b0
  clear hW f0 r0 b0
  cases hq : fitsB cs fs ss
  · have HQ := hide hq
    have e1 : okC cs fs ss = [] := by unfold okC; rw [hq]; rfl
    have e2 : addF cs fs ss f = [] := by unfold addF; rw [hq]; rfl
    have e3 : addS cs fs ss f = [] := by unfold addS; rw [hq]; rfl
    have e4 : whyV (addK cs fs ss f) = .iface 83 (.int .i64 1) := by unfold addK; rw [hq]; rfl
    rw [e1, e2, e3, e4]
    clear hq e1 e2 e3 e4
    go_enter Tryz.func41, Tryz.ntmps41
    go_wp2_with fail
    rw [HW.out]
    refine (implBookOk_val ac a a' capc cap cap' cs fs ss _ HQ.out W (HB.out.later B0.out) HM.out).mono ?_
    rintro e w1 ⟨rfl, hb1⟩
    have R1 := hide (R0.out.later hb1)
    have B1 := hide (below_two B0.out hb1)
    have hs1 := hb1.size
    obtain ⟨k0, k1, k2, t0, t1, t2⟩ := R1.out.cells
    have RX := hide (R1.out.set3 (.slice none 0 0) (.slice none 0 0) (.slice none 0 0))
    have TX := hide (set3_touch w1 (w.heap.size + 1) (.slice none 0 0) (.slice none 0 0) (.slice none 0 0))
    clear hb1
    go_wp2
    generalize ((w1.setCell ⟨w.heap.size + 1, 0, none⟩ (.slice none 0 0)).setCell ⟨w.heap.size + 1, 1, none⟩ (.slice none 0 0)).setCell ⟨w.heap.size + 1, 2, none⟩ (.slice none 0 0) = Y at *
    obtain ⟨y0, y1, y2, -⟩ := RX.out.cells
    exact bodyPost_ret (v := .tuple #[bkV none none none 0 0 0 [] [] [], .iface 83 (.int .i64 1)]) (by simp [results, Tryz.results41, go_sem, y0, y1, y2]) rfl ⟨none, none, none, 0, 0, 0, rfl, ownBk_none _ _, B1.out.trans (below_ofS (S := fun q => q = w.heap.size + 1) TX.out (by omega) (fun q hq => by omega))⟩
  · have HQ := hide hq
    have e1 : okC cs fs ss = cs := by unfold okC; rw [hq]; rfl
    have e2 : addF cs fs ss f = (if addN fs f = 0 then putAt fs (placeV fs f.1) f else fs) := by unfold addF; rw [hq]; rfl
    have e3 : addS cs fs ss f = (if addN fs f = 0 then newS cs fs ss f (placeV fs f.1) else ss) := by unfold addS; rw [hq]; rfl
    have e4 : addK cs fs ss f = addN fs f := by unfold addK; rw [hq]; rfl
    obtain ⟨k, hk⟩ : ∃ k, addN fs f = k := ⟨_, rfl⟩
    rw [hk] at e2 e3 e4
    rw [e1, e4]
    have HK := hide hk
    have E2 := hide e2
    have E3 := hide e3
    have HV : Hid (∀ f ∈ fs, 1 ≤ f.2.2.2.length) := fun f hf => by
      obtain ⟨i, hi, rfl⟩ := List.getElem_of_mem hf
      exact ((slots_bd (fits_slots hq)).2.2.2 i hi).2.2.2.1
    have HO := hide (flis_iff.1 (fits_iff.1 hq).2.1).2.2
    clear hq e1 e2 e3 e4 hk
    go_enter Tryz.func41, Tryz.ntmps41
    go_wp2_with fail
    rw [HW.out]
    refine (implBookOk_val ac a a' capc cap cap' cs fs ss _ HQ.out W (HB.out.later B0.out) HM.out).mono ?_
    rintro e w1 ⟨rfl, hb1⟩
    have F1 := hide (F0.out.later hb1)
    have R1 := hide (R0.out.later hb1)
    have B1 := hide (below_two B0.out hb1)
    have hs1 := hb1.size
    obtain ⟨x0, x1, x2, -⟩ := F1.out.cells
    clear hb1
    go_wp2_with fail
    refine (copyBook_full ac a a' capc cap cap' cs fs ss w1 (HB.out.later B1.out) HM.out HV.out).mono ?_
    rintro e w2 ⟨bc, b, b', cc, cb, cb', rfl, ⟨gs, hgs, hown⟩, hb2⟩
    have R2 := hide (R1.out.later hb2)
    have B2 := hide (below_two B1.out hb2)
    have hs2 := hb2.size
    obtain ⟨V, hV, VB, BV⟩ : ∃ V, w2.alloc (.cells #[.slice bc cs.length cc, .slice b fs.length cb, .slice b' ss.length cb'] 29) = V ∧ BkAt V w2.heap.size (.slice bc cs.length cc) (.slice b fs.length cb) (.slice b' ss.length cb') ∧ Below w2.heap.size w2 V := ⟨_, rfl, BkAt.newAt w2 _ rfl _ _ _, (Below.refl _ _).alloc (Nat.le_refl _) _⟩
    have HINF : Hid (∀ q, InFull bc b b' gs q → w1.heap.size ≤ q ∧ q < w2.heap.size) := fun q hq => hown.within hq
    have O2 := hide (hown.later BV)
    have HGS := hide hgs
    have R3 := hide (R2.out.later BV)
    have B3 := hide (below_two B2.out BV)
    have K3 := hide VB
    have HV2 := hide hV
    have hs3 := BV.size
    have hs3b := VB.lt
    clear hb2 hown BV VB hV x0 x1 x2 R2 hgs
    go_wp2_with fail
    rw [HV2.out]
    refine (addRefused_any f av cv bc b b' cc cb cb' cs fs ss V (by have := O2.out.flights; rwa [HGS.out] at this) HM.out.nf HO.out (HV0.out.later B3.out) HVL.out HSZ.out k HK.out).mono ?_
    rintro e w3 ⟨rfl, hb3⟩
    have O3 := hide (O2.out.later hb3)
    have R4 := hide (R3.out.later hb3)
    have K4 := hide (K3.out.later hb3)
    have B4 := hide (below_two B3.out hb3)
    have hs4 := hb3.size
    clear hb3
    obtain ⟨x0, x1, x2, y0, y1, y2⟩ := K4.out.cells
    by_cases hk0 : k = 0
    · subst hk0
      have e2 := E2.out
      have e3 := E3.out
      rw [if_pos rfl] at e2 e3
      clear E2 E3
      have E2 := hide e2
      have E3 := hide e3
      clear e2 e3
      have hw0 : whyV 0 = .nilIface := rfl
      rw [hw0]
      go_wp2_with fail
      refine (addApplied_any f av cv w1.heap.size bc b b' cc cb cb' cs fs ss gs w3 O3.out HGS.out (by omega) HM.out HQ.out (HV0.out.later B4.out) HVL.out HSZ.out HK.out).mono ?_
      rintro e w4 ⟨a5, a6, c5, c6, gs2, rfl, hg2, hfb, ht, hnb⟩
      have HT : Hid (∀ q, (InA b q ∨ InA b' q) → w1.heap.size ≤ q ∧ q < w2.heap.size) := fun q hq => HINF.out q (hq.elim (fun h => .inr (.inl h)) (fun h => .inr (.inr (.inl h))))
      have HG2 := hide hg2
      have FB4 := hide hfb
      have R5 := hide (R4.out.touchS ht (fun hq => by have := HT.out _ hq; omega))
      have K5 := hide (K4.out.touchS ht (fun hq => by have := HT.out _ hq; omega))
      have B5 := hide (B4.out.trans (below_ofS ht (by omega) (fun q hq => by have := HT.out _ hq; omega)))
      have hs5 := ht.size
      clear hg2 hfb ht x0 x1 x2 y0 y1 y2
      obtain ⟨x0, x1, x2, y0, y1, y2⟩ := K5.out.cells
      obtain ⟨fs', hfs'⟩ : ∃ fs', fs' = putAt fs (placeV fs f.1) f := ⟨_, rfl⟩
      obtain ⟨ss', hss'⟩ : ∃ ss', ss' = newS cs fs ss f (placeV fs f.1) := ⟨_, rfl⟩
      have G2 : Hid (gs2.map Prod.fst = fs') := by rw [hfs']; exact HG2
      have FB5 : Hid (FullBk w1.heap.size w4 bc a5 a6 cc c5 c6 cs gs2 ss') := by rw [hss']; exact FB4
      have E2' : Hid (addF cs fs ss f = fs') := by rw [hfs']; exact E2
      have E3' : Hid (addS cs fs ss f = ss') := by rw [hss']; exact E3
      have NB : Hid (∀ q, InFull bc a5 a6 gs2 q → w1.heap.size ≤ q ∧ q ≠ w2.heap.size) := fun q hq => ⟨(FB5.out.within hq).1, fun e => by
        rcases hnb q hq with h | h
        · have := (HINF.out q h).2; omega
        · omega⟩
      clear HG2 FB4 E2 E3 hnb
      rw [← hfs', ← hss']
      clear hfs' hss'
      obtain ⟨U, hU⟩ : ∃ U, ((w4.setCell ⟨w2.heap.size, 0, none⟩ (.slice bc cs.length cc)).setCell ⟨w2.heap.size, 1, none⟩ (.slice a5 fs'.length c5)).setCell ⟨w2.heap.size, 2, none⟩ (.slice a6 ss'.length c6) = U := ⟨_, rfl⟩
      have K6 : Hid (BkAt U w2.heap.size (.slice bc cs.length cc) (.slice a5 fs'.length c5) (.slice a6 ss'.length c6)) := by rw [← hU]; exact K5.out.set3 _ _ _
      have T6 : Hid (TouchS (fun q => q = w2.heap.size) w4 U) := by rw [← hU]; exact set3_touch w4 w2.heap.size _ _ _
      have HU := hide hU
      have FB6 := hide (FullBk.touchIn (S := fun q => q = w2.heap.size) FB5.out T6.out (fun q hq => (NB.out q hq).2))
      have R6 := hide (BkAt.touchS (S := fun q => q = w2.heap.size) R5.out T6.out (by omega))
      have B6 := hide (B5.out.trans (below_ofS (S := fun q => q = w2.heap.size) T6.out (by omega) (fun q hq => by omega)))
      have hs6 := T6.out.size
      clear hU
      go_upto_region 8 with fail
      rw [HU.out]
      clear x0 x1 x2 y0 y1 y2
      obtain ⟨x0, x1, x2, -⟩ := K6.out.cells
      obtain ⟨k0, k1, k2, t0, t1, t2⟩ := R6.out.cells
      have hta := addClears f av cv U
      have RX := hide (R6.out.set3 (.slice bc cs.length cc) (.slice a5 fs'.length c5) (.slice a6 ss'.length c6))
      have TX := hide (set3_touch U (w.heap.size + 1) (.slice bc cs.length cc) (.slice a5 fs'.length c5) (.slice a6 ss'.length c6))
      go_wp2
      generalize ((U.setCell ⟨w.heap.size + 1, 0, none⟩ (.slice bc cs.length cc)).setCell ⟨w.heap.size + 1, 1, none⟩ (.slice a5 fs'.length c5)).setCell ⟨w.heap.size + 1, 2, none⟩ (.slice a6 ss'.length c6) = Y at *
      obtain ⟨z0, z1, z2, -⟩ := RX.out.cells
      refine bodyPost_ret (v := .tuple #[bkV bc a5 a6 cc c5 c6 cs fs' ss', .nilIface]) (by simp [results, Tryz.results41, go_sem, z0, z1, z2, bkV]) rfl ⟨bc, a5, a6, cc, c5, c6, by rw [E2'.out, E3'.out]; rfl, by rw [E2'.out, E3'.out, ← G2.out]; exact ((FullBk.touchIn (S := fun q => q = w.heap.size + 1) FB6.out TX.out (fun q hq hh => by have := (NB.out q hq).1; have hh' : q = w.heap.size + 1 := hh; omega)).own).base (by omega), B6.out.trans (below_ofS (S := fun q => q = w.heap.size + 1) TX.out (by omega) (fun q hq => by omega))⟩
    · have e2 := E2.out
      have e3 := E3.out
      rw [if_neg hk0] at e2 e3
      clear E2 E3
      have E2 := hide e2
      have E3 := hide e3
      clear e2 e3
      have HWY := hide (whyV_ne hk0)
      rw [HWY.out]
      obtain ⟨k0, k1, k2, t0, t1, t2⟩ := R4.out.cells
      have RX := hide (R4.out.set3 (.slice bc cs.length cc) (.slice b fs.length cb) (.slice b' ss.length cb'))
      have TX := hide (set3_touch w3 (w.heap.size + 1) (.slice bc cs.length cc) (.slice b fs.length cb) (.slice b' ss.length cb'))
      go_wp2
      generalize ((w3.setCell ⟨w.heap.size + 1, 0, none⟩ (.slice bc cs.length cc)).setCell ⟨w.heap.size + 1, 1, none⟩ (.slice b fs.length cb)).setCell ⟨w.heap.size + 1, 2, none⟩ (.slice b' ss.length cb') = Y at *
      obtain ⟨z0, z1, z2, -⟩ := RX.out.cells
      refine bodyPost_ret (v := .tuple #[bkV bc b b' cc cb cb' cs fs ss, .iface 83 (.int .i64 k)]) (by simp [results, Tryz.results41, go_sem, z0, z1, z2, bkV]) rfl ⟨bc, b, b', cc, cb, cb', by rw [E2.out, E3.out, HWY.out], by rw [E2.out, E3.out, ← HGS.out]; exact ((FullBk.touchIn (S := fun q => q = w.heap.size + 1) O3.out TX.out (fun q hq hh => by have := (HINF.out q hq).1; have hh' : q = w.heap.size + 1 := hh; omega)).own).base (by omega), B4.out.trans (below_ofS (S := fun q => q = w.heap.size + 1) TX.out (by omega) (fun q hq => by omega))⟩

/-- The boxes of FlowAdd: the book's, the flight's, the answer's. -/
theorem fa_boxes (w : World) (u0 u1 u2 u3 v0 v1 v2 : Value) : ∃ W, ((w.alloc (.cells #[v0, v1, v2] 29)).alloc (.cells #[u0, u1, u2, u3] 32)).alloc (.cells #[.slice none 0 0, .slice none 0 0, .slice none 0 0] 29) = W ∧ W.heap.size = w.heap.size + 3 ∧ BkAt W (w.heap.size + 2) (.slice none 0 0) (.slice none 0 0) (.slice none 0 0) ∧ Below w.heap.size w W :=
  ⟨_, rfl, by simp, BkAt.newAt _ _ (by simp) _ _ _, (((Below.refl _ _).alloc (Nat.le_refl _) _).alloc (by simp) _).alloc (by simp; omega) _⟩

set_option maxRecDepth 100000 in
set_option maxHeartbeats 1600000 in
theorem implAdd_any (f : Fli) (av : Option Addr) (cv : Nat) (ac a a' : Option Addr) (capc cap cap' : Nat) (cs : List (ByteArray × Int)) (fs : List Fli) (ss : List Int) (w : World) (hg : ErrT w) (hb : BookIn w ac a a' cs fs ss) (hm : BookSm cs fs ss) (hv : VisitsIn w av f.2.2.2) (hvl : f.2.2.2.length ≤ 1048576) (hsz : SizesOk f) :
    Calls Tryz.prog 11 #[bkV ac a a' capc cap cap' cs fs ss, .agg #[.string f.1, .int .i64 f.2.1, .int .i64 f.2.2.1, .slice av f.2.2.2.length cv]] w fun e w' => ∃ bc b b' cc cb cb', e = .returned (.tuple #[bkV bc b b' cc cb cb' (okC cs fs ss) (addF cs fs ss f) (addS cs fs ss f), .int .i64 (addK cs fs ss f)]) ∧ OwnBk w.heap.size w' bc b b' cc cb cb' (okC cs fs ss) (addF cs fs ss f) (addS cs fs ss f) ∧ Below w.heap.size w w' := by
  have HG := hide hg
  have HB := hide hb
  have HM := hide hm
  have HV := hide hv
  have HVL := hide hvl
  have HSZ := hide hsz
  clear hg hb hm hv hvl hsz
  obtain ⟨W, hW, hWs, r0, b0⟩ := fa_boxes w (.string f.1) (.int .i64 f.2.1) (.int .i64 f.2.2.1) (.slice av f.2.2.2.length cv) (.slice ac cs.length capc) (.slice a fs.length cap) (.slice a' ss.length cap')
  have HW := hide hW
  have R0 := hide r0
  have B0 := hide b0
  have G0 := hide (HG.out.later b0)
  clear hW r0 b0
  have HC := hide (fun W' (hW' : Below W.heap.size W W') => changedAdd_any f av cv ac a a' capc cap cap' cs fs ss W' ((HB.out.later B0.out).later hW') HM.out ((HV.out.later B0.out).later hW') HVL.out HSZ.out)
  generalize okC cs fs ss = cs1 at *
  generalize addF cs fs ss f = fs1 at *
  generalize addS cs fs ss f = ss1 at *
  generalize addK cs fs ss f = kk at *
  go_enter Tryz.func11, Tryz.ntmps11
  go_wp2_with fail
  rw [HW.out]
  refine (happen_any _ _ _ _ _ ac a a' capc cap cap' cs fs ss W G0.out HC.out).mono ?_
  rintro e w1 ⟨bc, b, b', cc, cb, cb', rfl, hown, hb1⟩
  have R1 := hide (R0.out.later hb1)
  have B1 := hide (below_two B0.out hb1)
  have O1 := hide hown
  have hs1 := hb1.size
  clear hb1 hown
  obtain ⟨k0, k1, k2, t0, t1, t2⟩ := R1.out.cells
  have RX := hide (R1.out.set3 (.slice bc cs1.length cc) (.slice b fs1.length cb) (.slice b' ss1.length cb'))
  have TX := hide (set3_touch w1 (w.heap.size + 2) (.slice bc cs1.length cc) (.slice b fs1.length cb) (.slice b' ss1.length cb'))
  go_wp2
  generalize ((World.setCell w1 ⟨w.heap.size + 2, 0, none⟩ (.slice bc cs1.length cc)).setCell ⟨w.heap.size + 2, 1, none⟩ (.slice b fs1.length cb)).setCell ⟨w.heap.size + 2, 2, none⟩ (.slice b' ss1.length cb') = Y at *
  obtain ⟨y0, y1, y2, -⟩ := RX.out.cells
  refine bodyPost_ret (v := .tuple #[bkV bc b b' cc cb cb' cs1 fs1 ss1, .int .i64 kk]) (by simp [results, Tryz.results11, go_sem, y0, y1, y2, bkV]) rfl ⟨bc, b, b', cc, cb, cb', rfl, OwnBk.base (lo := W.heap.size) (OwnBk.touch (S := fun q => q = w.heap.size + 2) O1.out TX.out (fun q h1 _ he => by have he' : q = w.heap.size + 2 := he; omega)) (by omega), B1.out.trans (below_ofS (S := fun q => q = w.heap.size + 2) TX.out (by omega) (fun q hq => by omega))⟩
end Go.Proofs.YtciacofibljmoaaGreatDoor
