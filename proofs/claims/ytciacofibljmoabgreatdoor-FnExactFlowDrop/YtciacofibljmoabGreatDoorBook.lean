/- A book in memory: the walks over books that the law itself makes and compares; whether a book is ok. -/
import Derived.Test.YtciacofibljmoabGreatDoorMarkMore
import Derived.Test.YtciacofibljmoabGreatDoorDrawsB
import Derived.Test.YtciacofibljmoabGreatDoorFitsAll
namespace Go.Proofs.YtciacofibljmoabGreatDoor
open Go.RowKit

/-- Three slices lead to caps, flights and slots. -/
structure BookIn (w : World) (ac a a' : Option Addr) (cs : List (ByteArray × Int)) (fs : List Fli) (ss : List Int) : Prop where
  caps : CapsIn w ac cs
  fl : FlightsIn w a fs
  ints : IntsIn w a' ss
theorem BookIn.later {w w' : World} {ac a a' : Option Addr} {cs : List (ByteArray × Int)} {fs : List Fli} {ss : List Int} (h : BookIn w ac a a' cs fs ss) (hb : Below w.heap.size w w') : BookIn w' ac a a' cs fs ss :=
  ⟨h.caps.later hb, h.fl.later hb, h.ints.later hb⟩
/-- How great a book may be. -/
structure BookSm (cs : List (ByteArray × Int)) (fs : List Fli) (ss : List Int) : Prop where
  nc : cs.length ≤ 1048576
  nf : fs.length ≤ 1048576
  ns : ss.length ≤ 1048576
  sc : ∀ c ∈ cs, c.1.size ≤ maxLen
  vl : ∀ f ∈ fs, f.2.2.2.length ≤ 1048576
  sf : ∀ f ∈ fs, SizesOk f
abbrev bkV (ac a a' : Option Addr) (capc cap cap' : Nat) (cs : List (ByteArray × Int)) (fs : List Fli) (ss : List Int) : Value := .agg #[.slice ac cs.length capc, .slice a fs.length cap, .slice a' ss.length cap']

set_option maxHeartbeats 400000 in
theorem szIntS_any (a : Option Addr) (n cap : Nat) (left : Int) (w : World) (hl : n ≤ maxLen) (h0 : 0 ≤ left) (h1 : left ≤ 1048576) :
    Calls Tryz.prog 20 #[.slice a n cap, .int .i64 left] w fun e w' => (∃ r : Int, e = .returned (.int .i64 r) ∧ (r < 0 ∨ (0 ≤ r ∧ r ≤ left ∧ (n : Int) ≤ left))) ∧ Below w.heap.size w w' := by
  unfold maxLen at hl
  by_cases h : left < n
  · go_enter Tryz.func20, Tryz.ntmps20
    go_wp2
    go_ret
    exact ⟨⟨-1, rfl, .inl (by omega)⟩, Below.refl _ _⟩
  · go_enter Tryz.func20, Tryz.ntmps20
    go_wp2
    go_ret
    exact ⟨⟨left - (n : Int), rfl, .inr (by omega)⟩, Below.refl _ _⟩

set_option maxHeartbeats 800000 in
theorem szFlowBook_any (ac a a' : Option Addr) (capc cap cap' : Nat) (cs : List (ByteArray × Int)) (fs : List Fli) (ss : List Int) (left : Int) (w : World) (hb : BookIn w ac a a' cs fs ss) (hsc : ∀ c ∈ cs, c.1.size ≤ maxLen) (hs : ∀ f ∈ fs, SizesOk f) (hlc : cs.length ≤ maxLen) (hl : fs.length ≤ maxLen) (hl' : ss.length ≤ maxLen) (h0 : 0 ≤ left) (h1 : left ≤ 1048576) :
    Calls Tryz.prog 5 #[bkV ac a a' capc cap cap' cs fs ss, .int .i64 left] w fun e w' => (∃ r : Int, e = .returned (.int .i64 r) ∧ (r < 0 ∨ (0 ≤ r ∧ r ≤ left ∧ BookSm cs fs ss))) ∧ Below w.heap.size w w' := by
  have HB := hide hb
  have HSC := hide hsc
  have HS := hide hs
  clear hb hsc hs
  go_enter Tryz.func5, Tryz.ntmps5
  go_wp2_with fail
  obtain ⟨W, hW, x0, x1, x2, hWb⟩ := alloc3 w (.slice ac cs.length capc) (.slice a fs.length cap) (.slice a' ss.length cap') 26
  rw [hW]
  have WB := hide hWb
  clear hW hWb
  refine (szFlowCapS_any ac capc cs left W (HB.out.caps.later WB.out) HSC.out hlc h0 h1).mono ?_
  rintro e w1 ⟨⟨r1, rfl, hr1⟩, hb1⟩
  have y1 := cell_later hb1 x1
  have y2 := cell_later hb1 x2
  have B1 := hide (below_two WB.out hb1)
  clear hb1 x0 x1 x2
  by_cases hr1n : r1 < 0
  · clear hr1
    go_wp2
    go_ret
    exact ⟨⟨-1, rfl, .inl (by omega)⟩, B1.out⟩
  have hr1a : 0 ≤ r1 ∧ r1 ≤ left ∧ (cs.length : Int) ≤ left := by omega
  clear hr1
  obtain ⟨hr1a, hr1b, hr1c⟩ := hr1a
  go_wp2_with fail
  refine (szFlowFlightS_any a cap fs r1 w1 (HB.out.fl.later B1.out) HS.out hl hr1a (by omega)).mono ?_
  rintro e w2 ⟨⟨r2, rfl, hr2⟩, hb2⟩
  have z2 := cell_later hb2 y2
  have B2 := hide (below_two B1.out hb2)
  clear hb2 y1 y2
  rcases hr2 with rfl | ⟨hr2a, hr2b, hr2c, hr2d⟩
  · go_wp2
    go_ret
    exact ⟨⟨-1, rfl, .inl (by omega)⟩, B2.out⟩
  have HD := hide hr2d
  clear hr2d
  go_wp2_with fail
  refine (szIntS_any a' ss.length cap' r2 w2 hl' hr2a (by omega)).mono ?_
  rintro e w3 ⟨⟨r3, rfl, hr3⟩, hb3⟩
  have B3 := hide (below_two B2.out hb3)
  clear hb3 z2
  rcases hr3 with hr3 | ⟨hr3a, hr3b, hr3c⟩
  · go_wp2
    go_ret
    exact ⟨⟨-1, rfl, .inl (by omega)⟩, B3.out⟩
  · go_wp2
    go_ret
    exact ⟨⟨r3, rfl, .inr ⟨hr3a, by omega, ⟨by omega, by omega, by omega, HSC.out, fun f hf => by have := HD.out f hf; omega, HS.out⟩⟩⟩, B3.out⟩

/-- A book that the law itself has made. -/
def MadeB (lo : Nat) (w : World) (gc gf gi : Nat) (cs : List (ByteArray × Int)) (fs : List Fli) (ss : List Int) : Prop :=
  ∃ l1 l2, lo ≤ gc ∧ gc < l1 ∧ l1 ≤ l2 ∧ l2 ≤ gi ∧ gi < w.heap.size ∧ w.rowIs gc 87 (cs.length * 2) (capCell cs) ∧ FlightsOwn l1 w gf fs ∧ (∀ f ∈ fs, f.2.2.2.length ≤ 1048576) ∧ (∃ gv m, ShapeFl l1 l2 w gf fs.length gv m) ∧ w.rowIs gi 3 ss.length (intCell ss)

theorem MadeB.book {lo : Nat} {w : World} {gc gf gi : Nat} {cs : List (ByteArray × Int)} {fs : List Fli} {ss : List Int} (h : MadeB lo w gc gf gi cs fs ss) : BookIn w (some ⟨gc, 0, none⟩) (some ⟨gf, 0, none⟩) (some ⟨gi, 0, none⟩) cs fs ss := by
  obtain ⟨l1, l2, _, _, _, _, _, h1, h2, _, _, h3⟩ := h
  exact ⟨CapsIn.ofRow h1, FlightsIn.ofOwn h2, IntsIn.ofRow h3⟩
theorem own_laterFl {lo : Nat} {w w' : World} {g : Nat} {fs : List Fli} (h : FlightsOwn lo w g fs) (hb : Below w.heap.size w w') : FlightsOwn lo w' g fs := by
  obtain ⟨h0, f, hr, hf⟩ := h
  refine ⟨h0, f, hr.of_block (hb.block _ hr.lt), fun i hi => ?_⟩
  obtain ⟨a, b, c, gv, d, e1, e2, e3⟩ := hf i hi
  exact ⟨a, b, c, gv, d, e1, e2, e3.of_block (hb.block _ e3.lt)⟩
theorem MadeB.later {lo : Nat} {w w' : World} {gc gf gi : Nat} {cs : List (ByteArray × Int)} {fs : List Fli} {ss : List Int} (h : MadeB lo w gc gf gi cs fs ss) (hb : Below w.heap.size w w') : MadeB lo w' gc gf gi cs fs ss := by
  obtain ⟨l1, l2, a1, a2, a3, a4, a5, h1, h2, h4, ⟨gv, m, h5⟩, h3⟩ := h
  exact ⟨l1, l2, a1, a2, a3, a4, Nat.lt_of_lt_of_le a5 hb.size, h1.of_block (hb.block _ h1.lt), own_laterFl h2 hb, h4, ⟨gv, m, shape_later h5 hb⟩, h3.of_block (hb.block _ h3.lt)⟩

theorem own_touchFl {lo lo' hi' : Nat} {w w' : World} {g : Nat} {fs : List Fli} (h : FlightsOwn lo w g fs) (ht : Touch lo' hi' w w') (ho : hi' ≤ lo) : FlightsOwn lo w' g fs := by
  obtain ⟨h0, f, hr, hf⟩ := h
  refine ⟨h0, f, row_touch hr ht (by omega), fun i hi => ?_⟩
  obtain ⟨a, b, c, gv, d, e1, e2, e3⟩ := hf i hi
  exact ⟨a, b, c, gv, d, e1, e2, row_touch e3 ht (by omega)⟩
/-- A book's box, and two more. -/
theorem box_three (w : World) (a b c : Value) (t t' : TypeId) (z : Value) : ∃ W, ((w.alloc (.cells #[a, b, c] t)).alloc (.cells #[z, z, z] t')).alloc (.cells #[z, z, z] t') = W ∧ W.heap.size = w.heap.size + 3 ∧
    W.cell? ⟨w.heap.size, 0, none⟩ = some a ∧ W.cell? ⟨w.heap.size, 1, none⟩ = some b ∧ W.cell? ⟨w.heap.size, 2, none⟩ = some c ∧ W.rowIs (w.heap.size + 1) t' 3 (fun _ => z) ∧ W.rowIs (w.heap.size + 1 + 1) t' 3 (fun _ => z) ∧ Below w.heap.size w W := by
  have hb : Below w.heap.size w (((w.alloc (.cells #[a, b, c] t)).alloc (.cells #[z, z, z] t')).alloc (.cells #[z, z, z] t')) := (((Below.refl _ _).alloc (Nat.le_refl _) _).alloc (by simp) _).alloc (by simp; omega) _
  have h2 := World.rowIs_alloc (w.alloc (.cells #[a, b, c] t)) #[z, z, z] t' (fun _ => z) (fun i hi => by
    match i, hi with
    | 0, _ => rfl
    | 1, _ => rfl
    | 2, _ => rfl)
  have h3 := World.rowIs_alloc ((w.alloc (.cells #[a, b, c] t)).alloc (.cells #[z, z, z] t')) #[z, z, z] t' (fun _ => z) (fun i hi => by
    match i, hi with
    | 0, _ => rfl
    | 1, _ => rfl
    | 2, _ => rfl)
  simp only [Deep.nblk_alloc] at h2 h3
  have h0 : ∀ i u, (w.alloc (.cells #[a, b, c] t)).cell? ⟨w.heap.size, i, none⟩ = some u → (((w.alloc (.cells #[a, b, c] t)).alloc (.cells #[z, z, z] t')).alloc (.cells #[z, z, z] t')).cell? ⟨w.heap.size, i, none⟩ = some u := fun i u hu =>
    cell_later (((Below.refl _ _).alloc (Nat.le_refl _) _).alloc (by simp) _) hu
  exact ⟨_, rfl, by simp, h0 0 a (by simp), h0 1 b (by simp), h0 2 c (by simp), h2.alloc _, h3, hb⟩

set_option maxRecDepth 100000 in
set_option maxHeartbeats 1600000 in
theorem toFlowBook_any (ac a a' : Option Addr) (capc cap cap' : Nat) (cs : List (ByteArray × Int)) (fs : List Fli) (ss : List Int) (w : World) (hb : BookIn w ac a a' cs fs ss) (hm : BookSm cs fs ss) :
    Calls Tryz.prog 8 #[bkV ac a a' capc cap cap' cs fs ss] w fun e w' => ∃ gc gf gi, e = .returned (bkV (some ⟨gc, 0, none⟩) (some ⟨gf, 0, none⟩) (some ⟨gi, 0, none⟩) cs.length fs.length ss.length cs fs ss) ∧ MadeB w.heap.size w' gc gf gi cs fs ss ∧ Below w.heap.size w w' := by
  have HB := hide hb
  have HM := hide hm
  clear hb hm
  obtain ⟨W, hW, hsz, x0, x1, x2, r1, r2, hWb⟩ := box_three w (.slice ac cs.length capc) (.slice a fs.length cap) (.slice a' ss.length cap') 26 35 (.slice none 0 0)
  have HX1 := hide x1
  have HX2 := hide x2
  have HR1 := hide r1
  have HR2 := hide r2
  have HWb := hide hWb
  have HW := hide hW
  have HSZ := hide hsz
  clear hW hWb r1 r2 x1 x2 hsz
  go_enter Tryz.func8, Tryz.ntmps8
  go_wp2_with fail
  rw [HW.out]
  refine (toFlowCapS_any ac capc cs W (HB.out.caps.later HWb.out) HM.out.nc).mono ?_
  rintro e w1 ⟨gc, rfl, hgc, hrc, hb1⟩
  have y1 := cell_later hb1 HX1.out
  have R2 := hide (HR2.out.of_block (hb1.block _ HR2.out.lt))
  have z0 := R2.out.cell (i := 0) (by omega)
  have z1 := R2.out.frozen 0
  have hgcl := hrc.lt
  have HRC := hide hrc
  have B1 := hide hb1
  clear hb1 hrc x0
  go_wp2_with fail
  obtain ⟨X, hX⟩ : ∃ X, w1.setCell ⟨w.heap.size + 1 + 1, 0, none⟩ (.slice (some ⟨gc, 0, none⟩) cs.length cs.length) = X := ⟨_, rfl⟩
  rw [hX]
  have hsz := HSZ.out
  have B2 : Hid (Below w.heap.size w X) := by
    show Below _ _ _
    rw [← hX]
    exact (below_two HWb.out B1.out).setCell (by show w.heap.size ≤ w.heap.size + 1 + 1; omega) _
  have hXs : X.heap.size = w1.heap.size := by rw [← hX]; simp
  have R2b : Hid (X.rowIs (w.heap.size + 1 + 1) 35 3 (fun i => if i = 0 then .slice (some ⟨gc, 0, none⟩) cs.length cs.length else .slice none 0 0)) := by
    show World.rowIs _ _ _ _ _
    rw [← hX]
    exact R2.out.set 0 _
  have R1b : Hid (X.rowIs (w.heap.size + 1) 35 3 (fun _ => .slice none 0 0)) := by
    show World.rowIs _ _ _ _ _
    rw [← hX]
    exact (HR1.out.of_block (B1.out.block _ HR1.out.lt)).setOther (by simp) _
  have RCb : Hid (X.rowIs gc 87 (cs.length * 2) (capCell cs)) := by
    show World.rowIs _ _ _ _ _
    rw [← hX]
    exact HRC.out.setOther (by simp; omega) _
  have x2 : X.cell? ⟨w.heap.size, 2, none⟩ = some (.slice a' ss.length cap') := by
    rw [← hX]
    exact cell_other (by omega) (cell_later B1.out HX2.out)
  have HX2b := hide x2
  clear R2 HRC HR1 HR2 y1 z0 z1 HX1 HX2 B1 hX x2
  refine (toFlowFlightS_any a cap fs X (HB.out.fl.later B2.out) HM.out.nf HM.out.vl).mono ?_
  rintro e w2 ⟨gf, rfl, hfo, hb2⟩
  obtain ⟨gv, m, hsh⟩ := shape_of hfo HM.out.vl
  have y2 := cell_later hb2 HX2b.out
  have R2 := hide (R2b.out.of_block (hb2.block _ R2b.out.lt))
  have R1 := hide (R1b.out.of_block (hb2.block _ R1b.out.lt))
  have RC := hide (RCb.out.of_block (hb2.block _ RCb.out.lt))
  have FO := hide hfo
  have SH := hide hsh
  have z0 := R2.out.cell (i := 1) (by omega)
  have z1 := R2.out.frozen 1
  have hs2 := hb2.size
  have B3 := hide (below_two B2.out hb2)
  clear hb2 hfo hsh R2b R1b RCb HX2b B2
  go_wp2_with fail
  obtain ⟨Y, hY⟩ : ∃ Y, w2.setCell ⟨w.heap.size + 1 + 1, 1, none⟩ (.slice (some ⟨gf, 0, none⟩) fs.length fs.length) = Y := ⟨_, rfl⟩
  rw [hY]
  have hl1 : X.heap.size ≤ gf := FO.out.1
  have B4 : Hid (Below w.heap.size w Y) := by
    show Below _ _ _
    rw [← hY]
    exact B3.out.setCell (by show w.heap.size ≤ w.heap.size + 1 + 1; omega) _
  have hYs : Y.heap.size = w2.heap.size := by rw [← hY]; simp
  have R2b : Hid (Y.rowIs (w.heap.size + 1 + 1) 35 3 (fun i => if i = 1 then .slice (some ⟨gf, 0, none⟩) fs.length fs.length else if i = 0 then .slice (some ⟨gc, 0, none⟩) cs.length cs.length else .slice none 0 0)) := by
    show World.rowIs _ _ _ _ _
    rw [← hY]
    exact R2.out.set 1 _
  have R1b : Hid (Y.rowIs (w.heap.size + 1) 35 3 (fun _ => .slice none 0 0)) := by
    show World.rowIs _ _ _ _ _
    rw [← hY]
    exact R1.out.setOther (by simp) _
  have RCb : Hid (Y.rowIs gc 87 (cs.length * 2) (capCell cs)) := by
    show World.rowIs _ _ _ _ _
    rw [← hY]
    exact RC.out.setOther (by simp; omega) _
  have TY : Hid (Touch (w.heap.size + 1 + 1) (w.heap.size + 1 + 1 + 1) w2 Y) := by
    show Touch _ _ _ _
    rw [← hY]
    exact touch_set (touch_refl _ _ _) (p := ⟨w.heap.size + 1 + 1, 1, none⟩) (Nat.le_refl _) (Nat.lt_succ_self _) _
  have hXl : w.heap.size + 1 + 1 + 1 ≤ X.heap.size := by have := RCb.out.lt; omega
  have FOb := hide (own_touchFl FO.out TY.out (by omega))
  have SHb := hide (shape_touch SH.out TY.out (by omega))
  clear R2 R1 RC FO SH B3 TY hY y2 z0 z1
  refine (toIntS_any a' cap' ss Y (HB.out.ints.later B4.out) HM.out.ns).mono ?_
  rintro e w3 ⟨gi, rfl, hgi, hri, hb3⟩
  have R2 := hide (R2b.out.of_block (hb3.block _ R2b.out.lt))
  have R1 := hide (R1b.out.of_block (hb3.block _ R1b.out.lt))
  have RC := hide (RCb.out.of_block (hb3.block _ RCb.out.lt))
  have FO := hide (own_laterFl FOb.out hb3)
  have SH := hide (shape_later SHb.out hb3)
  have RI := hide hri
  have B5 := hide (below_two B4.out hb3)
  have z0 := R2.out.cell (i := 2) (by omega)
  have z1 := R2.out.frozen 2
  have x0 : w3.cell? ⟨w.heap.size + 1 + 1, 0, none⟩ = some (.slice (some ⟨gc, 0, none⟩) cs.length cs.length) := R2.out.cell (i := 0) (by omega)
  have x1 : w3.cell? ⟨w.heap.size + 1 + 1, 1, none⟩ = some (.slice (some ⟨gf, 0, none⟩) fs.length fs.length) := R2.out.cell (i := 1) (by omega)
  have q0 := R1.out.cell (i := 0) (by omega)
  have q1 := R1.out.cell (i := 1) (by omega)
  have q2 := R1.out.cell (i := 2) (by omega)
  have t0 := R1.out.frozen 0
  have t1 := R1.out.frozen 1
  have t2 := R1.out.frozen 2
  have hgil := hri.lt
  have hgcl2 := RC.out.lt
  have hs3 := hb3.size
  clear hb3 hri R2b R1b RCb FOb SHb B4
  go_wp2
  obtain ⟨Z, hZ, BZ, SZ⟩ : ∃ Z, ((((w3.setCell ⟨w.heap.size + 1 + 1, 2, none⟩ (.slice (some ⟨gi, 0, none⟩) ss.length ss.length)).setCell ⟨w.heap.size + 1, 0, none⟩ (.slice (some ⟨gc, 0, none⟩) cs.length cs.length)).setCell ⟨w.heap.size + 1, 1, none⟩ (.slice (some ⟨gf, 0, none⟩) fs.length fs.length)).setCell ⟨w.heap.size + 1, 2, none⟩ (.slice (some ⟨gi, 0, none⟩) ss.length ss.length)) = Z ∧ Touch (w.heap.size + 1) (w.heap.size + 1 + 1 + 1) w3 Z ∧ Z.rowIs (w.heap.size + 1) 35 3 (fun i => if i = 2 then .slice (some ⟨gi, 0, none⟩) ss.length ss.length else if i = 1 then .slice (some ⟨gf, 0, none⟩) fs.length fs.length else if i = 0 then .slice (some ⟨gc, 0, none⟩) cs.length cs.length else .slice none 0 0) :=
    ⟨_, rfl, touch_set (touch_set (touch_set (touch_set (touch_refl _ _ _) (p := ⟨w.heap.size + 1 + 1, 2, none⟩) (by simp) (by simp) _) (p := ⟨w.heap.size + 1, 0, none⟩) (by simp) (by simp) _) (p := ⟨w.heap.size + 1, 1, none⟩) (by simp) (by simp) _) (p := ⟨w.heap.size + 1, 2, none⟩) (by simp) (by simp) _,
      (((R1.out.setOther (by simp) _).set 0 _).set 1 _).set 2 _⟩
  rw [hZ]
  have v0 : Z.cell? ⟨w.heap.size + 1, 0, none⟩ = some (.slice (some ⟨gc, 0, none⟩) cs.length cs.length) := SZ.cell (i := 0) (by omega)
  have v1 : Z.cell? ⟨w.heap.size + 1, 1, none⟩ = some (.slice (some ⟨gf, 0, none⟩) fs.length fs.length) := SZ.cell (i := 1) (by omega)
  have v2 : Z.cell? ⟨w.heap.size + 1, 2, none⟩ = some (.slice (some ⟨gi, 0, none⟩) ss.length ss.length) := SZ.cell (i := 2) (by omega)
  refine bodyPost_ret (v := bkV (some ⟨gc, 0, none⟩) (some ⟨gf, 0, none⟩) (some ⟨gi, 0, none⟩) cs.length fs.length ss.length cs fs ss) ?_ rfl ⟨gc, gf, gi, rfl, ⟨X.heap.size, w2.heap.size, by omega, by omega, by omega, by omega, ?_, row_touch RC.out BZ (by omega), own_touchFl FO.out BZ (by omega), HM.out.vl, ⟨gv, m, shape_touch SH.out BZ (by omega)⟩, row_touch RI.out BZ (by omega)⟩, ?_⟩
  · simp [results, Tryz.results8, go_sem, v0, v1, v2]
  · have := BZ.size; omega
  · exact B5.out.trans (below_touch BZ (by omega) |>.mono (by omega))

set_option maxHeartbeats 800000 in
theorem eqFlowBook_same (ac a a' bc b b' : Option Addr) (capc cap cap' capd cbp cbp' : Nat) (cs : List (ByteArray × Int)) (fs : List Fli) (ss : List Int) (w : World) (h1 : BookIn w ac a a' cs fs ss) (h2 : BookIn w bc b b' cs fs ss) (hm : BookSm cs fs ss) :
    Calls Tryz.prog 11 #[bkV ac a a' capc cap cap' cs fs ss, bkV bc b b' capd cbp cbp' cs fs ss] w fun e w' => e = .returned (.bool true) ∧ Below w.heap.size w w' := by
  have H1 := hide h1
  have H2 := hide h2
  have HM := hide hm
  clear h1 h2 hm
  obtain ⟨W, hW, x0, x1, x2, hWb⟩ := alloc3 w (.slice ac cs.length capc) (.slice a fs.length cap) (.slice a' ss.length cap') 35
  obtain ⟨V, hV, y0, y1, y2, hVb⟩ := alloc3 W (.slice bc cs.length capd) (.slice b fs.length cbp) (.slice b' ss.length cbp') 35
  have hWs : W.heap.size = w.heap.size + 1 := by rw [← hW]; simp
  rw [hWs] at y0 y1 y2
  have hE : (w.alloc (.cells #[.slice ac cs.length capc, .slice a fs.length cap, .slice a' ss.length cap'] 35)).alloc (.cells #[.slice bc cs.length capd, .slice b fs.length cbp, .slice b' ss.length cbp'] 35) = V := by rw [hW, hV]
  have HE := hide hE
  have X0 := hide (cell_later hVb x0)
  have X1 := hide (cell_later hVb x1)
  have X2 := hide (cell_later hVb x2)
  have Y0 := hide y0
  have Y1 := hide y1
  have Y2 := hide y2
  have VB := hide (below_two hWb hVb)
  clear hW hV hE hWs x0 x1 x2 y0 y1 y2 hWb hVb
  go_enter Tryz.func11, Tryz.ntmps11
  go_wp2_with fail
  rw [HE.out]
  refine (eqFlowCapS_same ac bc capc capd cs V (H1.out.caps.later VB.out) (H2.out.caps.later VB.out) HM.out.nc).mono ?_
  rintro e w1 ⟨rfl, hb1⟩
  have p1 := cell_later hb1 X1.out
  have q1 := cell_later hb1 Y1.out
  have P2 := hide (cell_later hb1 X2.out)
  have Q2 := hide (cell_later hb1 Y2.out)
  have B1 := hide (below_two VB.out hb1)
  clear hb1
  go_wp2_with fail
  refine (eqFlowFlightS_same a b cap cbp fs w1 (H1.out.fl.later B1.out) (H2.out.fl.later B1.out) HM.out.nf HM.out.vl).mono ?_
  rintro e w2 ⟨rfl, hb2⟩
  have p2 := cell_later hb2 P2.out
  have q2 := cell_later hb2 Q2.out
  have B2 := hide (below_two B1.out hb2)
  clear hb2 p1 q1
  go_wp2_with fail
  refine (eqIntS_same a' b' cap' cbp' ss w2 (H1.out.ints.later B2.out) (H2.out.ints.later B2.out) HM.out.ns).mono ?_
  rintro e w3 ⟨rfl, hb3⟩
  have B3 := hide (below_two B2.out hb3)
  clear hb3 p2 q2
  go_wp2
  go_ret
  exact ⟨rfl, B3.out⟩

set_option maxHeartbeats 800000 in
theorem specBookOk_val (ac a a' : Option Addr) (capc cap cap' : Nat) (cs : List (ByteArray × Int)) (fs : List Fli) (ss : List Int) (q : Bool) (hq : fitsB cs fs ss = q) (w : World) (hb : BookIn w ac a a' cs fs ss) (hm : BookSm cs fs ss) :
    Calls Tryz.prog 22 #[bkV ac a a' capc cap cap' cs fs ss] w fun e w' => e = .returned (.bool q) ∧ Below w.heap.size w w' := by
  subst hq
  have HB := hide hb
  have HM := hide hm
  clear hb hm
  obtain ⟨W, hW, x0, x1, x2, hWb⟩ := alloc3 w (.slice ac cs.length capc) (.slice a fs.length cap) (.slice a' ss.length cap') 35
  have HW := hide hW
  have WB := hide hWb
  clear hW hWb
  go_enter Tryz.func22, Tryz.ntmps22
  go_wp2_with fail
  rw [HW.out]
  refine (specFits_any ac a a' capc cap cap' cs fs ss W (HB.out.caps.later WB.out) (HB.out.fl.later WB.out) (HB.out.ints.later WB.out) HM.out.nc HM.out.nf HM.out.ns HM.out.sc HM.out.vl HM.out.sf).mono ?_
  rintro e w1 ⟨rfl, hb1⟩
  have B1 := hide (below_two WB.out hb1)
  clear hb1 x0 x1 x2
  go_wp2
  go_ret
  exact ⟨rfl, B1.out⟩

set_option maxHeartbeats 800000 in
theorem implBookOk_val (ac a a' : Option Addr) (capc cap cap' : Nat) (cs : List (ByteArray × Int)) (fs : List Fli) (ss : List Int) (q : Bool) (hq : fitsB cs fs ss = q) (w : World) (hb : BookIn w ac a a' cs fs ss) (hm : BookSm cs fs ss) :
    Calls Tryz.prog 64 #[bkV ac a a' capc cap cap' cs fs ss] w fun e w' => e = .returned (.bool q) ∧ Below w.heap.size w w' := by
  subst hq
  have HB := hide hb
  have HM := hide hm
  clear hb hm
  obtain ⟨W, hW, x0, x1, x2, hWb⟩ := alloc3 w (.slice ac cs.length capc) (.slice a fs.length cap) (.slice a' ss.length cap') 35
  have HW := hide hW
  have WB := hide hWb
  clear hW hWb
  go_enter Tryz.func64, Tryz.ntmps64
  go_wp2_with fail
  rw [HW.out]
  refine (implFits_any ac a a' capc cap cap' cs fs ss W (HB.out.caps.later WB.out) (HB.out.fl.later WB.out) (HB.out.ints.later WB.out) HM.out.nc HM.out.nf HM.out.ns HM.out.sc HM.out.vl HM.out.sf).mono ?_
  rintro e w1 ⟨rfl, hb1⟩
  have B1 := hide (below_two WB.out hb1)
  clear hb1 x0 x1 x2
  go_wp2
  go_ret
  exact ⟨rfl, B1.out⟩

end Go.Proofs.YtciacofibljmoabGreatDoor
