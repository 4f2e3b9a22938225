/- Drawn slots. -/
import Derived.Test.YtciacofibljmoaaGreatDoorDrawsB
import Derived.Deep.RegionWith
namespace Go.Proofs.YtciacofibljmoaaGreatDoor
open Go.RowKit

attribute [local go_sem ↓] Go.wp_at_zero Go.wp_at_succ

theorem giveV_len (cs : List (ByteArray × Int)) (fs : List Fli) : (giveV cs fs).length = fs.length ∨ (giveV cs fs).length = 0 := by
  unfold giveV
  split
  · exact .inl (giveTo_len cs fs _)
  · exact .inr rfl
theorem sm_sizes {gs : List FlV} (h : ∀ x ∈ gs, FlSm 6 x.1) : (∀ f ∈ gs.map Prod.fst, f.2.2.2.length ≤ 1048576) ∧ ∀ f ∈ gs.map Prod.fst, SizesOk f := by
  constructor
  · intro f hf
    obtain ⟨x, hx, rfl⟩ := List.mem_map.1 hf
    have := (h x hx).2.2.2.1
    omega
  · intro f hf
    obtain ⟨x, hx, rfl⟩ := List.mem_map.1 hf
    obtain ⟨h1, _, _, h2, h3⟩ := h x hx
    refine ⟨?_, ?_, fun v hv => ?_⟩
    · unfold maxLen; omega
    · unfold maxLen; omega
    · have := h3 v hv
      unfold maxLen; omega
theorem wrap_one (q : Int) (h0 : 0 ≤ q) (h1 : q ≤ 1000) : IntKind.i64.wrap (1 + q) = 1 + q := by
  simp [IntKind.wrap, IntKind.bits, IntKind.signed]
  omega
theorem caps_sizes {m : Nat} {cs : List (ByteArray × Int)} (h : CapsSm m cs) : ∀ c ∈ cs, c.1.size ≤ maxLen := fun c hc => by
  have := h.2 c hc
  unfold maxLen; omega

/-- The five that a slot is spoilt by. -/
def listOf (z : Int) : Obj := .cells #[.int .i64 (-1), .int .i64 (IntKind.i64.wrap (z + 1)), .int .i64 (IntKind.i64.wrap (z - 1)), .int .i64 (-2), .int .i64 10061] 3
theorem slots_fin {w X : World} {r N g n c : Nat} {zs : List Int} (hO : OwnI X w.heap.size (.slice (some ⟨g, 0, none⟩) n c) zs) (hR : Rd X r N) (hT : Touch r (r + 1) w X) (hrl : r < w.heap.size) (k : Nat) (z : Int) :
    OwnI (X.setCell ⟨g, k, none⟩ (.int .i64 z)) w.heap.size (.slice (some ⟨g, 0, none⟩) n c) (zs.set k z) ∧ Rd (X.setCell ⟨g, k, none⟩ (.int .i64 z)) r N ∧ Touch r (r + 1) w (X.setCell ⟨g, k, none⟩ (.int .i64 z)) := by
  have hg := (World.ownsRow.lt hO g rfl).1
  have hB := below_set (Below.refl w.heap.size X) g k hg (.int .i64 z)
  exact ⟨own_setI hO z, hR.below hB hrl, touch_then hT hB⟩
theorem slotP1 (r M g n c k base : Nat) (zs : List Int) (w W : World) (hr2 : r + 1 ≤ base) (hR : Rd W r M) (hO : OwnI W base (.slice (some ⟨g, 0, none⟩) n c) zs) (hT : Touch r (r + 1) w W) (hk : k < zs.length) (hrl : r < w.heap.size) (z0 : Int) (hM : M ≤ 1000000) (hb : base = w.heap.size) (hz0 : zs[k] = z0) :
    Calls Tryz.prog 19 #[.pointer (some ⟨r, 0, none⟩), .int .i64 5] W fun e w' => ∃ (j : Nat) (zl : Int), e = .returned (.int .i64 (j : Nat)) ∧ (0 : Int) ≤ (j : Int) ∧ (j : Int) < 5 ∧ (w'.alloc (listOf z0)).cell? ⟨w'.heap.size, j, none⟩ = some (.int .i64 zl) ∧ w'.cell? ⟨g, k, none⟩ = some (.int .i64 z0) ∧ w'.frozen? ⟨g, k, none⟩ = false ∧ (w'.alloc (listOf z0)).cell? ⟨g, k, none⟩ = some (.int .i64 z0) ∧ (w'.alloc (listOf z0)).frozen? ⟨g, k, none⟩ = false ∧
      Hid (OwnI ((w'.alloc (listOf z0)).setCell ⟨g, k, none⟩ (.int .i64 zl)) base (.slice (some ⟨g, 0, none⟩) n c) (zs.set k zl) ∧ Rd ((w'.alloc (listOf z0)).setCell ⟨g, k, none⟩ (.int .i64 zl)) r (M + 1) ∧ Touch r (r + 1) w ((w'.alloc (listOf z0)).setCell ⟨g, k, none⟩ (.int .i64 zl))) := by
  subst hb
  refine (pick_any r M 5 W hR hM (by omega)).mono ?_
  rintro e w' ⟨⟨q, rfl, hq0, hq1⟩, hr, ht⟩
  obtain ⟨j, rfl⟩ := Int.eq_ofNat_of_zero_le hq0
  obtain ⟨zl, hzl⟩ := ints_ex w' 3 [-1, IntKind.i64.wrap (z0 + 1), IntKind.i64.wrap (z0 - 1), -2, 10061] #[.int .i64 (-1), .int .i64 (IntKind.i64.wrap (z0 + 1)), .int .i64 (IntKind.i64.wrap (z0 - 1)), .int .i64 (-2), .int .i64 10061] rfl j (by show j < 5; omega)
  have hO' : OwnI w' w.heap.size (.slice (some ⟨g, 0, none⟩) n c) zs := owns_touch hO ht hr2
  have hB := (Below.refl w'.heap.size w').alloc (Nat.le_refl _) (listOf z0)
  have hO2 : OwnI (w'.alloc (listOf z0)) w.heap.size (.slice (some ⟨g, 0, none⟩) n c) zs := owns_later hO' hB
  have hT' := touch_trans hT ht
  have y1 := (own_cellI hO' hk).1
  have y2 := (own_cellI hO2 hk).1
  rw [hz0] at y1 y2
  exact ⟨j, zl, rfl, hq0, hq1, hzl, y1, (own_cellI hO' hk).2, y2, (own_cellI hO2 hk).2, slots_fin hO2 (hr.later hB) (touch_then hT' (hB.mono hT'.size)) hrl k zl⟩
theorem slotP2 (r M g n c k base : Nat) (zs : List Int) (w w5 W : World) (hr2 : r + 1 ≤ base) (hr1 : r + 1 ≤ w5.heap.size) (hR : Rd W r M) (hO : OwnI W base (.slice (some ⟨g, 0, none⟩) n c) zs) (hT : Touch r (r + 1) w W) (hk : k < zs.length) (hrl : r < w.heap.size) (z0 : Int) (hW : W.heap = (w5.alloc (listOf z0)).heap) (hM : M ≤ 1000000) (hb : base = w.heap.size) (hz0 : zs[k] = z0) :
    Calls Tryz.prog 19 #[.pointer (some ⟨r, 0, none⟩), .int .i64 5] W fun e w' => ∃ (j : Nat) (zl : Int), e = .returned (.int .i64 (j : Nat)) ∧ (0 : Int) ≤ (j : Int) ∧ (j : Int) < 5 ∧ w'.cell? ⟨w5.heap.size, j, none⟩ = some (.int .i64 zl) ∧ w'.cell? ⟨g, k, none⟩ = some (.int .i64 z0) ∧ w'.frozen? ⟨g, k, none⟩ = false ∧
      Hid (OwnI (w'.setCell ⟨g, k, none⟩ (.int .i64 zl)) base (.slice (some ⟨g, 0, none⟩) n c) (zs.set k zl) ∧ Rd (w'.setCell ⟨g, k, none⟩ (.int .i64 zl)) r (M + 1) ∧ Touch r (r + 1) w (w'.setCell ⟨g, k, none⟩ (.int .i64 zl))) := by
  subst hb
  refine (pick_any r M 5 W hR hM (by omega)).mono ?_
  rintro e w' ⟨⟨q, rfl, hq0, hq1⟩, hr, ht⟩
  obtain ⟨j, rfl⟩ := Int.eq_ofNat_of_zero_le hq0
  obtain ⟨zl, hzl⟩ := ints_ex w5 3 [-1, IntKind.i64.wrap (z0 + 1), IntKind.i64.wrap (z0 - 1), -2, 10061] #[.int .i64 (-1), .int .i64 (IntKind.i64.wrap (z0 + 1)), .int .i64 (IntKind.i64.wrap (z0 - 1)), .int .i64 (-2), .int .i64 10061] rfl j (by show j < 5; omega)
  have hzl2 : W.cell? ⟨w5.heap.size, j, none⟩ = some (.int .i64 zl) := (World.cell?_of_block (w := (w5.alloc (listOf z0))) (a := ⟨w5.heap.size, j, none⟩) (by rw [hW])).trans hzl
  have hO' : OwnI w' w.heap.size (.slice (some ⟨g, 0, none⟩) n c) zs := owns_touch hO ht hr2
  have y1 := (own_cellI hO' hk).1
  rw [hz0] at y1
  exact ⟨j, zl, rfl, hq0, hq1, cell_touch ht hzl2 (.inr hr1), y1, (own_cellI hO' hk).2, slots_fin hO' hr (touch_trans hT ht) hrl k zl⟩

end Go.Proofs.YtciacofibljmoaaGreatDoor

/- What the law draws: flights, slots, a sector and a tick; caps, flights and slots. -/
namespace Go.Proofs.YtciacofibljmoaaGreatDoor
open Go.RowKit

theorem below_touched {B hi : Nat} {w w1 w' : World} (h : Below B w w1) (ht : Touch B hi w1 w') (hB : B ≤ w1.heap.size) : Below B w w' :=
  h.trans ⟨ht.os, ht.tape, ht.output, ht.size, fun k hk => ht.block k (by omega) (.inl hk)⟩

end Go.Proofs.YtciacofibljmoaaGreatDoor

/- What the law of giving draws: caps and flights. -/
namespace Go.Proofs.YtciacofibljmoaaGreatDoor
open Go.RowKit

end Go.Proofs.YtciacofibljmoaaGreatDoor
