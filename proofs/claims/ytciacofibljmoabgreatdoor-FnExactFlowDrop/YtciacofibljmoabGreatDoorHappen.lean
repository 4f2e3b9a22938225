/- What happens to a book, with its code, the program's way. -/
import Derived.Test.YtciacofibljmoabGreatDoorDropIn
import Derived.Test.YtciacofibljmoabGreatDoorAsRef
namespace Go.Proofs.YtciacofibljmoabGreatDoor
open Go.RowKit

/-- What the laid variable holds. -/
def ErrT (w : World) : Prop := w.cell? ⟨0, 0, none⟩ = some (.iface 131 (.agg #[.pointer (some ⟨1, 94, none⟩)]))
theorem ErrT.lt {w : World} (h : ErrT w) : 0 < w.heap.size := by
  rcases Nat.lt_or_ge 0 w.heap.size with h' | h'
  · exact h'
  · have : w.heap[0]? = none := Array.getElem?_eq_none h'
    unfold ErrT at h
    simp [World.cell?, this] at h
theorem ErrT.later {w w' : World} (h : ErrT w) (hb : Below w.heap.size w w') : ErrT w' := cell_later hb h

set_option maxRecDepth 100000 in
set_option maxHeartbeats 1600000 in
theorem happen_any (cv : Value) (k : Int) (cs1 : List (ByteArray × Int)) (fs1 : List Fli) (ss1 : List Int) (ac a a' : Option Addr) (capc cap cap' : Nat) (cs : List (ByteArray × Int)) (fs : List Fli) (ss : List Int) (w : World) (hg : ErrT w)
    (hC : ∀ W, Below w.heap.size w W → Calls Tryz.prog 54 #[bkV ac a a' capc cap cap' cs fs ss, cv] W fun e w' => ∃ bc b b' cc cb cb', e = .returned (.tuple #[bkV bc b b' cc cb cb' cs1 fs1 ss1, whyV k]) ∧ OwnBk W.heap.size w' bc b b' cc cb cb' cs1 fs1 ss1 ∧ Below W.heap.size W w') :
    Calls Tryz.prog 32 #[bkV ac a a' capc cap cap' cs fs ss, cv] w fun e w' => ∃ bc b b' cc cb cb', e = .returned (.tuple #[bkV bc b b' cc cb cb' cs1 fs1 ss1, .int .i64 k]) ∧ OwnBk w.heap.size w' bc b b' cc cb cb' cs1 fs1 ss1 ∧ Below w.heap.size w w' := by
  have HG := hide hg
  have HC := hide hC
  clear hg hC
  obtain ⟨W, hW, hWs, f0, r0, b0⟩ := bk_boxes w (.slice ac cs.length capc) (.slice a fs.length cap) (.slice a' ss.length cap')
  have HW := hide hW
  have R0 := hide r0
  have B0 := hide b0
  have G0 := hide (HG.out.later b0)
  clear hW f0 r0 b0
  go_enter Tryz.func32, Tryz.ntmps32
  go_wp2_with fail
  rw [HW.out]
  refine (HC.out W B0.out).mono ?_
  rintro e w1 ⟨bc, b, b', cc, cb, cb', rfl, hown, hb1⟩
  have R1 := hide (R0.out.later hb1)
  have B1 := hide (below_two B0.out hb1)
  have G1 := hide (G0.out.later hb1)
  have O1 := hide hown.to
  have hs1 := hb1.size
  clear hb1 hown
  obtain ⟨V, hV, hVs, VB, BV⟩ : ∃ V, w1.alloc (.cells #[.slice bc cs1.length cc, .slice b fs1.length cb, .slice b' ss1.length cb'] 35) = V ∧ V.heap.size = w1.heap.size + 1 ∧ BkAt V w1.heap.size (.slice bc cs1.length cc) (.slice b fs1.length cb) (.slice b' ss1.length cb') ∧ Below w1.heap.size w1 V := ⟨_, rfl, by simp, BkAt.newAt w1 _ rfl _ _ _, (Below.refl _ _).alloc (Nat.le_refl _) _⟩
  obtain ⟨V2, hV2, hVs2, C2, BV2⟩ : ∃ V2, V.alloc (.cells #[.int .i64 0] 97) = V2 ∧ V2.heap.size = w1.heap.size + 2 ∧ V2.rowIs (w1.heap.size + 1) 97 1 (fun _ => .int .i64 0) ∧ Below V.heap.size V V2 := by
    have hr := World.rowIs_alloc V #[.int .i64 0] 97 (fun _ => .int .i64 0) (fun i hi => by simp at hi; subst hi; rfl)
    exact ⟨_, rfl, by simp; omega, by rw [← hVs]; exact hr, (Below.refl _ _).alloc (Nat.le_refl _) _⟩
  have HV := hide (show (w1.alloc (.cells #[.slice bc cs1.length cc, .slice b fs1.length cb, .slice b' ss1.length cb'] 35)).alloc (.cells #[.int .i64 0] 97) = V2 by rw [hV]; exact hV2)
  have O2 := hide ((O1.out.later BV).later BV2)
  have R2 := hide ((R1.out.later BV).later BV2)
  have K2 := hide (VB.later BV2)
  have B2 := hide (below_two (below_two B1.out BV) BV2)
  have G2 := hide ((G1.out.later BV).later BV2)
  clear BV BV2 VB hV hV2 hVs O1 R1 G1 B1
  by_cases hk : k = 0
  · subst hk
    have eW : whyV 0 = .nilIface := rfl
    rw [eW]
    go_wp2_with fail
    rw [HV.out]
    refine (as_nil _ V2).mono ?_
    rintro e w2 ⟨rfl, rfl⟩
    obtain ⟨x0, x1, x2, -⟩ := K2.out.cells
    obtain ⟨k0, k1, k2, t0, t1, t2⟩ := R2.out.cells
    have RX := hide (R2.out.set3 (.slice bc cs1.length cc) (.slice b fs1.length cb) (.slice b' ss1.length cb'))
    have TX := hide (set3_touch w2 (w.heap.size + 1) (.slice bc cs1.length cc) (.slice b fs1.length cb) (.slice b' ss1.length cb'))
    go_wp2
    generalize ((World.setCell w2 ⟨w.heap.size + 1, 0, none⟩ (.slice bc cs1.length cc)).setCell ⟨w.heap.size + 1, 1, none⟩ (.slice b fs1.length cb)).setCell ⟨w.heap.size + 1, 2, none⟩ (.slice b' ss1.length cb') = Y at *
    obtain ⟨y0, y1, y2, -⟩ := RX.out.cells
    refine bodyPost_ret (v := .tuple #[bkV bc b b' cc cb cb' cs1 fs1 ss1, .int .i64 0]) (by simp [results, Tryz.results32, go_sem, y0, y1, y2, bkV]) rfl ⟨bc, b, b', cc, cb, cb', rfl, (O2.out.touch (S := fun q => q = w.heap.size + 1) TX.out (fun k h1 _ => by omega)).own.base (by omega), B2.out.trans (below_ofS (S := fun q => q = w.heap.size + 1) TX.out (by omega) (fun q hq => by omega))⟩
  · have eW : whyV k = .iface 97 (.int .i64 k) := by unfold whyV; rw [if_neg hk]
    rw [eW]
    go_wp2_with fail
    rw [HV.out]
    refine (as_hit k ⟨w1.heap.size + 1, 0, none⟩ (.int .i64 0) V2 G2.out (C2.cell (i := 0) (by omega)) (C2.frozen 0)).mono ?_
    rintro e w3 ⟨rfl, hw3⟩
    have M1 : Below V2.heap.size V2 ((((V2.alloc (.cells #[.pointer (some ⟨w1.heap.size + 1, 0, none⟩)] 99)).alloc (.cells #[.pointer (some ⟨1, 99, none⟩), .pointer (some ⟨V2.heap.size, 0, none⟩), .int .u64 150] 116)).alloc (.cells #[.pointer (some ⟨1, 99, none⟩), .pointer (some ⟨V2.heap.size, 0, none⟩), .int .u64 150] 116)).alloc (.cells #[.int .i64 k] 97)) := ((((Below.refl _ _).alloc (Nat.le_refl _) _).alloc (by simp) _).alloc (by simp; omega) _).alloc (by simp; omega) _
    generalize ((((V2.alloc (.cells #[.pointer (some ⟨w1.heap.size + 1, 0, none⟩)] 99)).alloc (.cells #[.pointer (some ⟨1, 99, none⟩), .pointer (some ⟨V2.heap.size, 0, none⟩), .int .u64 150] 116)).alloc (.cells #[.pointer (some ⟨1, 99, none⟩), .pointer (some ⟨V2.heap.size, 0, none⟩), .int .u64 150] 116)).alloc (.cells #[.int .i64 k] 97)) = M at *
    have T3 : Hid (TouchS (fun q => q = w1.heap.size + 1) V2 w3) := by
      rw [hw3]; exact touchS_trans (touchS_below M1) (touch1_set (touchS_refl _ M) 0 _)
    have hcM : w3.cell? ⟨w1.heap.size + 1, 0, none⟩ = some (.int .i64 k) := by
      have hr := (row_touchS C2 (touchS_below (S := fun _ => False) M1) (fun h => h)).set 0 (.int .i64 k)
      rw [hw3, hr.cell (i := 0) (by omega)]
      rfl
    clear M1 hw3
    have O3 := hide (O2.out.touch (S := fun q => q = w1.heap.size + 1) T3.out (fun q h1 h2 => by omega))
    have R3 := hide (BkAt.touchS (S := fun q => q = w1.heap.size + 1) R2.out T3.out (by omega))
    have K3 := hide (BkAt.touchS (S := fun q => q = w1.heap.size + 1) K2.out T3.out (by omega))
    have B3 := hide (B2.out.trans (below_ofS (S := fun q => q = w1.heap.size + 1) T3.out (by omega) (fun q hq => by omega)))
    have hs3 := T3.out.size
    obtain ⟨x0, x1, x2, -⟩ := K3.out.cells
    obtain ⟨k0, k1, k2, t0, t1, t2⟩ := R3.out.cells
    have RX := hide (R3.out.set3 (.slice bc cs1.length cc) (.slice b fs1.length cb) (.slice b' ss1.length cb'))
    have TX := hide (set3_touch w3 (w.heap.size + 1) (.slice bc cs1.length cc) (.slice b fs1.length cb) (.slice b' ss1.length cb'))
    go_wp2_with fail
    go_region
    generalize ((World.setCell w3 ⟨w.heap.size + 1, 0, none⟩ (.slice bc cs1.length cc)).setCell ⟨w.heap.size + 1, 1, none⟩ (.slice b fs1.length cb)).setCell ⟨w.heap.size + 1, 2, none⟩ (.slice b' ss1.length cb') = Y at *
    have TY := hide (touchS_trans (S := fun q => q = w.heap.size + 1) TX.out (touchS_drewB _ Y))
    obtain ⟨y0, y1, y2, -⟩ := RX.out.cells
    have z0 : Y.drew.cell? ⟨w.heap.size + 1, 0, none⟩ = some (.slice bc cs1.length cc) := y0
    have z1 : Y.drew.cell? ⟨w.heap.size + 1, 1, none⟩ = some (.slice b fs1.length cb) := y1
    have z2 : Y.drew.cell? ⟨w.heap.size + 1, 2, none⟩ = some (.slice b' ss1.length cb') := y2
    generalize Y.drew = Z at *
    clear y0 y1 y2
    go_wp2
    refine bodyPost_ret (v := .tuple #[bkV bc b b' cc cb cb' cs1 fs1 ss1, .int .i64 k]) (by simp [results, Tryz.results32, go_sem, z0, z1, z2, bkV]) rfl ⟨bc, b, b', cc, cb, cb', rfl, (O3.out.touch (S := fun q => q = w.heap.size + 1) TY.out (fun k h1 _ => by omega)).own.base (by omega), B3.out.trans (below_ofS (S := fun q => q = w.heap.size + 1) TY.out (by omega) (fun q hq => by omega))⟩

set_option maxRecDepth 100000 in
set_option maxHeartbeats 1600000 in
theorem implDrop_any (nm : ByteArray) (ac a a' : Option Addr) (capc cap cap' : Nat) (cs : List (ByteArray × Int)) (fs : List Fli) (ss : List Int) (w : World) (hg : ErrT w) (hb : BookIn w ac a a' cs fs ss) (hm : BookSm cs fs ss) :
    Calls Tryz.prog 17 #[bkV ac a a' capc cap cap' cs fs ss, .string nm] w fun e w' => ∃ bc b b' cc cb cb', e = .returned (.tuple #[bkV bc b b' cc cb cb' (okC cs fs ss) (dropF cs fs ss nm) (dropS cs fs ss nm), .int .i64 (dropK cs fs ss nm)]) ∧ OwnBk w.heap.size w' bc b b' cc cb cb' (okC cs fs ss) (dropF cs fs ss nm) (dropS cs fs ss nm) ∧ Below w.heap.size w w' := by
  have HG := hide hg
  have HB := hide hb
  have HM := hide hm
  clear hg hb hm
  obtain ⟨W, hW, hWs, f0, r0, b0⟩ := bk_boxes w (.slice ac cs.length capc) (.slice a fs.length cap) (.slice a' ss.length cap')
  have HW := hide hW
  have R0 := hide r0
  have B0 := hide b0
  have G0 := hide (HG.out.later b0)
  clear hW f0 r0 b0
  have HC := hide (fun W' (hW' : Below W.heap.size W W') => changedDrop_any nm ac a a' capc cap cap' cs fs ss W' ((HB.out.later B0.out).later hW') HM.out)
  generalize okC cs fs ss = cs1 at *
  generalize dropF cs fs ss nm = fs1 at *
  generalize dropS cs fs ss nm = ss1 at *
  generalize dropK cs fs ss nm = kk at *
  go_enter Tryz.func17, Tryz.ntmps17
  go_wp2_with fail
  rw [HW.out]
  refine (happen_any _ _ _ _ _ ac a a' capc cap cap' cs fs ss W G0.out HC.out).mono ?_
  rintro e w1 ⟨bc, b, b', cc, cb, cb', rfl, hown, hb1⟩
  have R1 := hide (R0.out.later hb1)
  have B1 := hide (below_two B0.out hb1)
  have O1 := hide hown
  have hs1 := hb1.size
  clear hb1 hown
  obtain ⟨k0, k1, k2, t0, t1, t2⟩ := R1.out.cells
  have RX := hide (R1.out.set3 (.slice bc cs1.length cc) (.slice b fs1.length cb) (.slice b' ss1.length cb'))
  have TX := hide (set3_touch w1 (w.heap.size + 1) (.slice bc cs1.length cc) (.slice b fs1.length cb) (.slice b' ss1.length cb'))
  go_wp2
  generalize ((World.setCell w1 ⟨w.heap.size + 1, 0, none⟩ (.slice bc cs1.length cc)).setCell ⟨w.heap.size + 1, 1, none⟩ (.slice b fs1.length cb)).setCell ⟨w.heap.size + 1, 2, none⟩ (.slice b' ss1.length cb') = Y at *
  obtain ⟨y0, y1, y2, -⟩ := RX.out.cells
  refine bodyPost_ret (v := .tuple #[bkV bc b b' cc cb cb' cs1 fs1 ss1, .int .i64 kk]) (by simp [results, Tryz.results17, go_sem, y0, y1, y2, bkV]) rfl ⟨bc, b, b', cc, cb, cb', rfl, OwnBk.base (lo := W.heap.size) (OwnBk.touch (S := fun q => q = w.heap.size + 1) O1.out TX.out (fun q h1 _ he => by have he' : q = w.heap.size + 1 := he; omega)) (by omega), B1.out.trans (below_ofS (S := fun q => q = w.heap.size + 1) TX.out (by omega) (fun q hq => by omega))⟩
end Go.Proofs.YtciacofibljmoabGreatDoor
