/- A book in memory: the walks over books that the law itself makes and compares; whether a book is ok. -/
import Derived.Test.YtciacofibljmoaaGreatDoorMarkMore
import Derived.Test.YtciacofibljmoaaGreatDoorDrawsB
import Derived.Test.YtciacofibljmoaaGreatDoorFitsAll
namespace Go.Proofs.YtciacofibljmoaaGreatDoor
open Go.RowKit

/-- Three slices lead to caps, flights and slots. -/
structure BookIn (w : World) (ac a a' : Option Addr) (cs : List (ByteArray × Int)) (fs : List Fli) (ss : List Int) : Prop where
  caps : CapsIn w ac cs
  fl : FlightsIn w a fs
  ints : IntsIn w a' ss
theorem BookIn.later {w w' : World} {ac a a' : Option Addr} {cs : List (ByteArray × Int)} {fs : List Fli} {ss : List Int} (h : BookIn w ac a a' cs fs ss) (hb : Below w.heap.size w w') : BookIn w' ac a a' cs fs ss :=
  ⟨h.caps.later hb, h.fl.later hb, h.ints.later hb⟩
/-- How great a book may be. -/
structure BookSm (cs : List (ByteArray × Int)) (fs : List Fli) (ss : List Int) : Prop where
  nc : cs.length ≤ 1048576
  nf : fs.length ≤ 1048576
  ns : ss.length ≤ 1048576
  sc : ∀ c ∈ cs, c.1.size ≤ maxLen
  vl : ∀ f ∈ fs, f.2.2.2.length ≤ 1048576
  sf : ∀ f ∈ fs, SizesOk f
abbrev bkV (ac a a' : Option Addr) (capc cap cap' : Nat) (cs : List (ByteArray × Int)) (fs : List Fli) (ss : List Int) : Value := .agg #[.slice ac cs.length capc, .slice a fs.length cap, .slice a' ss.length cap']

/-- A book that the law itself has made. -/
def MadeB (lo : Nat) (w : World) (gc gf gi : Nat) (cs : List (ByteArray × Int)) (fs : List Fli) (ss : List Int) : Prop :=
  ∃ l1 l2, lo ≤ gc ∧ gc < l1 ∧ l1 ≤ l2 ∧ l2 ≤ gi ∧ gi < w.heap.size ∧ w.rowIs gc 61 (cs.length * 2) (capCell cs) ∧ FlightsOwn l1 w gf fs ∧ (∀ f ∈ fs, f.2.2.2.length ≤ 1048576) ∧ (∃ gv m, ShapeFl l1 l2 w gf fs.length gv m) ∧ w.rowIs gi 3 ss.length (intCell ss)

theorem MadeB.book {lo : Nat} {w : World} {gc gf gi : Nat} {cs : List (ByteArray × Int)} {fs : List Fli} {ss : List Int} (h : MadeB lo w gc gf gi cs fs ss) : BookIn w (some ⟨gc, 0, none⟩) (some ⟨gf, 0, none⟩) (some ⟨gi, 0, none⟩) cs fs ss := by
  obtain ⟨l1, l2, _, _, _, _, _, h1, h2, _, _, h3⟩ := h
  exact ⟨CapsIn.ofRow h1, FlightsIn.ofOwn h2, IntsIn.ofRow h3⟩
theorem own_laterFl {lo : Nat} {w w' : World} {g : Nat} {fs : List Fli} (h : FlightsOwn lo w g fs) (hb : Below w.heap.size w w') : FlightsOwn lo w' g fs := by
  obtain ⟨h0, f, hr, hf⟩ := h
  refine ⟨h0, f, hr.of_block (hb.block _ hr.lt), fun i hi => ?_⟩
  obtain ⟨a, b, c, gv, d, e1, e2, e3⟩ := hf i hi
  exact ⟨a, b, c, gv, d, e1, e2, e3.of_block (hb.block _ e3.lt)⟩
theorem MadeB.later {lo : Nat} {w w' : World} {gc gf gi : Nat} {cs : List (ByteArray × Int)} {fs : List Fli} {ss : List Int} (h : MadeB lo w gc gf gi cs fs ss) (hb : Below w.heap.size w w') : MadeB lo w' gc gf gi cs fs ss := by
  obtain ⟨l1, l2, a1, a2, a3, a4, a5, h1, h2, h4, ⟨gv, m, h5⟩, h3⟩ := h
  exact ⟨l1, l2, a1, a2, a3, a4, Nat.lt_of_lt_of_le a5 hb.size, h1.of_block (hb.block _ h1.lt), own_laterFl h2 hb, h4, ⟨gv, m, shape_later h5 hb⟩, h3.of_block (hb.block _ h3.lt)⟩

theorem own_touchFl {lo lo' hi' : Nat} {w w' : World} {g : Nat} {fs : List Fli} (h : FlightsOwn lo w g fs) (ht : Touch lo' hi' w w') (ho : hi' ≤ lo) : FlightsOwn lo w' g fs := by
  obtain ⟨h0, f, hr, hf⟩ := h
  refine ⟨h0, f, row_touch hr ht (by omega), fun i hi => ?_⟩
  obtain ⟨a, b, c, gv, d, e1, e2, e3⟩ := hf i hi
  exact ⟨a, b, c, gv, d, e1, e2, row_touch e3 ht (by omega)⟩
/-- A book's box, and two more. -/
theorem box_three (w : World) (a b c : Value) (t t' : TypeId) (z : Value) : ∃ W, ((w.alloc (.cells #[a, b, c] t)).alloc (.cells #[z, z, z] t')).alloc (.cells #[z, z, z] t') = W ∧ W.heap.size = w.heap.size + 3 ∧
    W.cell? ⟨w.heap.size, 0, none⟩ = some a ∧ W.cell? ⟨w.heap.size, 1, none⟩ = some b ∧ W.cell? ⟨w.heap.size, 2, none⟩ = some c ∧ W.rowIs (w.heap.size + 1) t' 3 (fun _ => z) ∧ W.rowIs (w.heap.size + 1 + 1) t' 3 (fun _ => z) ∧ Below w.heap.size w W := by
  have hb : Below w.heap.size w (((w.alloc (.cells #[a, b, c] t)).alloc (.cells #[z, z, z] t')).alloc (.cells #[z, z, z] t')) := (((Below.refl _ _).alloc (Nat.le_refl _) _).alloc (by simp) _).alloc (by simp; omega) _
  have h2 := World.rowIs_alloc (w.alloc (.cells #[a, b, c] t)) #[z, z, z] t' (fun _ => z) (fun i hi => by
    match i, hi with
    | 0, _ => rfl
    | 1, _ => rfl
    | 2, _ => rfl)
  have h3 := World.rowIs_alloc ((w.alloc (.cells #[a, b, c] t)).alloc (.cells #[z, z, z] t')) #[z, z, z] t' (fun _ => z) (fun i hi => by
    match i, hi with
    | 0, _ => rfl
    | 1, _ => rfl
    | 2, _ => rfl)
  simp only [Deep.nblk_alloc] at h2 h3
  have h0 : ∀ i u, (w.alloc (.cells #[a, b, c] t)).cell? ⟨w.heap.size, i, none⟩ = some u → (((w.alloc (.cells #[a, b, c] t)).alloc (.cells #[z, z, z] t')).alloc (.cells #[z, z, z] t')).cell? ⟨w.heap.size, i, none⟩ = some u := fun i u hu =>
    cell_later (((Below.refl _ _).alloc (Nat.le_refl _) _).alloc (by simp) _) hu
  exact ⟨_, rfl, by simp, h0 0 a (by simp), h0 1 b (by simp), h0 2 c (by simp), h2.alloc _, h3, hb⟩

set_option maxHeartbeats 800000 in
theorem specBookOk_val (ac a a' : Option Addr) (capc cap cap' : Nat) (cs : List (ByteArray × Int)) (fs : List Fli) (ss : List Int) (q : Bool) (hq : fitsB cs fs ss = q) (w : World) (hb : BookIn w ac a a' cs fs ss) (hm : BookSm cs fs ss) :
    Calls Tryz.prog 24 #[bkV ac a a' capc cap cap' cs fs ss] w fun e w' => e = .returned (.bool q) ∧ Below w.heap.size w w' := by
  subst hq
  have HB := hide hb
  have HM := hide hm
  clear hb hm
  obtain ⟨W, hW, x0, x1, x2, hWb⟩ := alloc3 w (.slice ac cs.length capc) (.slice a fs.length cap) (.slice a' ss.length cap') 29
  have HW := hide hW
  have WB := hide hWb
  clear hW hWb
  go_enter Tryz.func24, Tryz.ntmps24
  go_wp2_with fail
  rw [HW.out]
  refine (specFits_any ac a a' capc cap cap' cs fs ss W (HB.out.caps.later WB.out) (HB.out.fl.later WB.out) (HB.out.ints.later WB.out) HM.out.nc HM.out.nf HM.out.ns HM.out.sc HM.out.vl HM.out.sf).mono ?_
  rintro e w1 ⟨rfl, hb1⟩
  have B1 := hide (below_two WB.out hb1)
  clear hb1 x0 x1 x2
  go_wp2
  go_ret
  exact ⟨rfl, B1.out⟩

set_option maxHeartbeats 800000 in
theorem implBookOk_val (ac a a' : Option Addr) (capc cap cap' : Nat) (cs : List (ByteArray × Int)) (fs : List Fli) (ss : List Int) (q : Bool) (hq : fitsB cs fs ss = q) (w : World) (hb : BookIn w ac a a' cs fs ss) (hm : BookSm cs fs ss) :
    Calls Tryz.prog 13 #[bkV ac a a' capc cap cap' cs fs ss] w fun e w' => e = .returned (.bool q) ∧ Below w.heap.size w w' := by
  subst hq
  have HB := hide hb
  have HM := hide hm
  clear hb hm
  obtain ⟨W, hW, x0, x1, x2, hWb⟩ := alloc3 w (.slice ac cs.length capc) (.slice a fs.length cap) (.slice a' ss.length cap') 29
  have HW := hide hW
  have WB := hide hWb
  clear hW hWb
  go_enter Tryz.func13, Tryz.ntmps13
  go_wp2_with fail
  rw [HW.out]
  refine (implFits_any ac a a' capc cap cap' cs fs ss W (HB.out.caps.later WB.out) (HB.out.fl.later WB.out) (HB.out.ints.later WB.out) HM.out.nc HM.out.nf HM.out.ns HM.out.sc HM.out.vl HM.out.sf).mono ?_
  rintro e w1 ⟨rfl, hb1⟩
  have B1 := hide (below_two WB.out hb1)
  clear hb1 x0 x1 x2
  go_wp2
  go_ret
  exact ⟨rfl, B1.out⟩

end Go.Proofs.YtciacofibljmoaaGreatDoor
