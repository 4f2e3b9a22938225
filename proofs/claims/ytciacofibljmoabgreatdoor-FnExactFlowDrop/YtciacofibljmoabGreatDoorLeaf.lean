/- The contracts of the smallest functions, proved over the translation. -/
import Derived.Test.YtciacofibljmoabGreatDoorRows
import Derived.WalkKit
import Derived.WalkLawsBesides
import Derived.WalkSpells
import Derived.ProofKit
import Derived.Below
import Derived.Outline
import Derived.Deep.OwnRows
import Derived.Deep.RegionHeld3
namespace Go.Proofs.YtciacofibljmoabGreatDoor
open Go.RowKit

/-- n lies in lo .. hi. -/
def inB (n lo hi : Int) : Bool := decide (lo ≤ n) && decide (n ≤ hi)

set_option maxHeartbeats 400000 in
theorem within_any (n lo hi : Int) (w : World) :
    Calls Tryz.prog 89 #[.int .i64 n, .int .i64 lo, .int .i64 hi] w fun e w' => e = .returned (.bool (inB n lo hi)) ∧ w' = w := by
  by_cases h : lo ≤ n
  · by_cases h2 : n ≤ hi
    · go_enter Tryz.func89, Tryz.ntmps89
      go_wp2
      go_ret
      exact ⟨by simp [inB, h, h2], rfl⟩
    · go_enter Tryz.func89, Tryz.ntmps89
      go_wp2
      go_ret
      exact ⟨by simp [inB, h, h2], rfl⟩
  · have h' : decide (lo ≤ n) = false := by simpa using h
    go_enter Tryz.func89, Tryz.ntmps89
    go_wp2
    go_ret
    exact ⟨by simp [inB, h'], rfl⟩

set_option maxHeartbeats 400000 in
theorem szFlowCap_any (s : ByteArray) (n left : Int) (w : World) (hs : s.size ≤ maxLen) (h0 : 0 ≤ left) (h1 : left ≤ 1048576) :
    Calls Tryz.prog 45 #[.agg #[.string s, .int .i64 n], .int .i64 left] w fun e w' => e = .returned (.int .i64 (if left < s.size then -1 else left - s.size)) ∧ Below w.heap.size w w' := by
  unfold maxLen at hs
  by_cases h : left < s.size
  · go_enter Tryz.func45, Tryz.ntmps45
    go_wp2
    go_ret
    exact ⟨by simp, (Below.refl _ _).alloc (Nat.le_refl _) _⟩
  · go_enter Tryz.func45, Tryz.ntmps45
    go_wp2
    go_ret
    exact ⟨by simp, (Below.refl _ _).alloc (Nat.le_refl _) _⟩

set_option maxHeartbeats 400000 in
theorem toFlowCap_any (s : ByteArray) (n : Int) (w : World) :
    Calls Tryz.prog 52 #[.agg #[.string s, .int .i64 n]] w fun e w' => e = .returned (.agg #[.string s, .int .i64 n]) ∧ Below w.heap.size w w' := by
  go_enter Tryz.func52, Tryz.ntmps52
  go_wp2
  exact bodyPost_ret (v := .agg #[.string s, .int .i64 n]) (by simp [results, Tryz.results52, go_sem]) rfl ⟨rfl, by repeat (first | exact Below.refl _ _ | (refine Below.alloc ?_ (by simp <;> omega) _) | (refine Below.setCell ?_ (by simp <;> omega) _))⟩

set_option maxHeartbeats 400000 in
theorem eqFlowCap_same (s : ByteArray) (n : Int) (w : World) :
    Calls Tryz.prog 56 #[.agg #[.string s, .int .i64 n], .agg #[.string s, .int .i64 n]] w fun e w' => e = .returned (.bool true) ∧ Below w.heap.size w w' := by
  go_enter Tryz.func56, Tryz.ntmps56
  go_wp2
  go_ret
  exact ⟨rfl, ((Below.refl _ _).alloc (Nat.le_refl _) _).alloc (by simp) _⟩

/-- Element i of a slice of caps that begins at a block and an offset. -/
def capAt (w : World) (b off i : Nat) (c : ByteArray × Int) : Prop :=
  w.cell? ⟨b, off + i * 2, none⟩ = some (.string c.1) ∧ w.cell? ⟨b, off + i * 2 + 1, none⟩ = some (.int .i64 c.2)
/-- A slice's address leads to these caps. -/
def CapsIn (w : World) (a : Option Addr) (cs : List (ByteArray × Int)) : Prop :=
  ∀ i (hi : i < cs.length), ∃ b off, a = some ⟨b, off, none⟩ ∧ b < w.heap.size ∧ capAt w b off i cs[i]
theorem CapsIn.later {w w' : World} {a : Option Addr} {cs : List (ByteArray × Int)} (h : CapsIn w a cs) (hb : Below w.heap.size w w') : CapsIn w' a cs := fun i hi => by
  obtain ⟨b, off, ha, hlt, h0, h1⟩ := h i hi
  exact ⟨b, off, ha, by have := hb.size; omega, by rw [hb.cell (p := ⟨b, _, none⟩) hlt]; exact h0, by rw [hb.cell (p := ⟨b, _, none⟩) hlt]; exact h1⟩

set_option maxHeartbeats 400000 in
theorem szFlowCapS_any (a : Option Addr) (cap : Nat) (cs : List (ByteArray × Int)) (left : Int) (w : World) (hc : CapsIn w a cs) (hs : ∀ c ∈ cs, c.1.size ≤ maxLen) (hl : cs.length ≤ maxLen) (h0 : 0 ≤ left) (h1 : left ≤ 1048576) :
    Calls Tryz.prog 18 #[.slice a cs.length cap, .int .i64 left] w fun e w' => (∃ r : Int, e = .returned (.int .i64 r) ∧ (r < 0 ∨ (0 ≤ r ∧ r + cs.length ≤ left))) ∧ Below w.heap.size w w' := by
  unfold maxLen at hl
  by_cases h : left < cs.length
  · go_enter Tryz.func18, Tryz.ntmps18
    go_wp2
    go_ret
    exact ⟨⟨-1, rfl, .inl (by omega)⟩, Below.refl _ _⟩
  · go_enter Tryz.func18, Tryz.ntmps18
    go_wp2
    go_loopw [1, 5] (fun l i wr => ∃ (k : Nat) (r : Int), k ≤ cs.length ∧ i = .int .i64 k ∧ l = .int .i64 r ∧ 0 ≤ r ∧ r + cs.length ≤ left ∧ Below w.heap.size w wr) (fun _ i _ => cs.length - (intOf i).toNat)
    case atStart => exact ⟨0, _, Nat.zero_le _, rfl, rfl, by omega, by omega, Below.refl _ _⟩
    case round =>
      obtain ⟨k, r, hk, rfl, rfl, hr0, hr1, hbw⟩ := hrel
      by_cases hlt : k < cs.length
      · obtain ⟨b, off, rfl, hblt, e0, e1⟩ := hc.later hbw k hlt
        have hsz := hs _ (List.getElem_mem hlt)
        generalize cs[k] = c at e0 e1 hsz
        by_cases hx : r < c.1.size
        · go_wp2_with (go_at_call 45; refine (szFlowCap_any _ _ _ _ hsz hr0 (by omega)).mono ?_; rw [if_pos hx]; rintro e w' ⟨rfl, hb'⟩)
          go_ret
          exact ⟨⟨-1, rfl, .inl (by omega)⟩, hbw.trans (hb'.mono hbw.size)⟩
        · go_wp2_with (go_at_call 45; refine (szFlowCap_any _ _ _ _ hsz hr0 (by omega)).mono ?_; rw [if_neg hx]; rintro e w' ⟨rfl, hb'⟩)
          go_roundw
          case rel => exact ⟨k + 1, _, by omega, by go_num, rfl, by omega, by omega, hbw.trans (hb'.mono hbw.size)⟩
          case measure => simp [intOf]; omega
      · go_wp2
        go_ret
        exact ⟨⟨r, rfl, .inr ⟨hr0, hr1⟩⟩, hbw⟩

theorem info_cap : (Tryz.prog.info? 87).map (fun i => (i.zero, i.size, i.bytes)) = some (some (.agg #[.string ⟨#[]⟩, .int .i64 0]), 2, 24) := by kernel_rfl

/-- What the cells of a row of caps hold. -/
def capCell (cs : List (ByteArray × Int)) (j : Nat) : Value := if j % 2 = 0 then .string (cs.getD (j / 2) (ByteArray.empty, 0)).1 else .int .i64 (cs.getD (j / 2) (ByteArray.empty, 0)).2
theorem capCell_even (cs : List (ByteArray × Int)) (k : Nat) (h : k < cs.length) : capCell cs (k * 2) = .string cs[k].1 := by
  unfold capCell
  rw [if_pos (by omega), show k * 2 / 2 = k by omega]
  simp [List.getD, List.getElem?_eq_getElem h]
theorem capCell_odd (cs : List (ByteArray × Int)) (k : Nat) (h : k < cs.length) : capCell cs (k * 2 + 1) = .int .i64 cs[k].2 := by
  unfold capCell
  rw [if_neg (by omega), show (k * 2 + 1) / 2 = k by omega]
  simp [List.getD, List.getElem?_eq_getElem h]
theorem CapsIn.ofRow {w : World} {g : Nat} {t : TypeId} {cs : List (ByteArray × Int)} (h : w.rowIs g t (cs.length * 2) (capCell cs)) : CapsIn w (some ⟨g, 0, none⟩) cs := fun i hi =>
  ⟨g, 0, rfl, h.lt, by rw [Nat.zero_add, h.cell (by omega), capCell_even _ _ hi], by rw [Nat.zero_add, h.cell (by omega), capCell_odd _ _ hi]⟩

theorem run_make_caps (n : Nat) (hn : n ≤ 1048576) (u : World) : (Instr.makeSlice 32 (.int .i64 (n : Int)) (.int .i64 (n : Int))).run Tryz.prog u =
      .ok (.slice (some ⟨u.heap.size, 0, none⟩) n n) (u.alloc (.cells (madeCells #[.string ⟨#[]⟩, .int .i64 0] (n * 2)) 87)) := by
  obtain ⟨i0, hi, hz0, hz1, hz2⟩ := info_parts info_cap
  have h := run_make (P := Tryz.prog) u 32 87 i0 (.agg #[.string ⟨#[]⟩, .int .i64 0]) Tryz.underlying32 hi hz0 .i64 .i64 (n : Int) (n : Int) (by omega) (Int.le_refl _) (by rw [hz2]; omega) (by omega)
  simpa [hz1, Value.cells] using h

theorem rowIs_made' (w : World) (z : Array Value) (n : Nat) (t : TypeId) : ∃ f, (w.alloc (.cells (madeCells z n) t)).rowIs w.heap.size t n f :=
  ⟨fun i => z[i % z.size]!, _, Deep.blk_alloc_new _ _, size_madeCells _ _, fun i hi => by simp [madeCells, hi]⟩

set_option maxHeartbeats 400000 in
theorem toFlowCapS_any (a : Option Addr) (cap : Nat) (cs : List (ByteArray × Int)) (w : World) (hc : CapsIn w a cs) (hl : cs.length ≤ 1048576) :
    Calls Tryz.prog 28 #[.slice a cs.length cap] w fun e w' => ∃ g, e = .returned (.slice (some ⟨g, 0, none⟩) cs.length cs.length) ∧ w.heap.size ≤ g ∧ w'.rowIs g 87 (cs.length * 2) (capCell cs) ∧ Below w.heap.size w w' := by
  have hmk := run_make_caps cs.length hl
  obtain ⟨f0, hf0⟩ := rowIs_made' w #[.string ⟨#[]⟩, .int .i64 0] (cs.length * 2) 87
  have hb0 : Below w.heap.size w (w.alloc (.cells (madeCells #[.string ⟨#[]⟩, .int .i64 0] (cs.length * 2)) 87)) := (Below.refl _ _).alloc (Nat.le_refl _) _
  go_enter Tryz.func28, Tryz.ntmps28
  go_wp2
  go_loopw [4] (fun i wr => ∃ (k : Nat) (f : Nat → Value), k ≤ cs.length ∧ i = .int .i64 k ∧ wr.rowIs w.heap.size 87 (cs.length * 2) f ∧ (∀ j, j < k * 2 → f j = capCell cs j) ∧ Below w.heap.size w wr) (fun i _ => cs.length - (intOf i).toNat)
  case atStart => exact ⟨0, f0, Nat.zero_le _, rfl, hf0, fun j hj => by omega, hb0⟩
  case round =>
    obtain ⟨k, f, hk, rfl, hrow, hf, hbw⟩ := hrel
    by_cases hlt : k < cs.length
    · obtain ⟨b, off, rfl, hblt, e0, e1⟩ := hc.later hbw k hlt
      have q0 := capCell_even cs k hlt
      have q1 := capCell_odd cs k hlt
      have hf' : Hid (∀ j, j < k * 2 → f j = capCell cs j) := hf
      have hc' : Hid (CapsIn w (some ⟨b, off, none⟩) cs) := hc
      have hrow' : Hid (wr.rowIs w.heap.size 87 (cs.length * 2) f) := hrow
      clear hf hc hmk hrow hf0 hb0
      generalize cs[k] = c at e0 e1 q0 q1
      have Q0 : Hid (capCell cs (k * 2) = .string c.1) := q0
      have Q1 : Hid (capCell cs (k * 2 + 1) = .int .i64 c.2) := q1
      clear q0 q1
      go_wp2_with (go_at_call 52; refine (toFlowCap_any _ _ _).mono ?_; rintro e w1 ⟨rfl, hb'⟩
                   have R1 : Hid (w1.rowIs w.heap.size 87 (cs.length * 2) f) := hrow'.out.of_block (hb'.block _ hrow'.out.lt)
                   have c0 := R1.out.cell (i := k * 2) (by omega)
                   have c1 := R1.out.cell (i := k * 2 + 1) (by omega)
                   have z0 := R1.out.frozen (k * 2)
                   have z1 := R1.out.frozen (k * 2 + 1))
      go_roundw
      case rel =>
        refine ⟨k + 1, _, by omega, by go_num, (R1.out.set (k * 2) (.string c.1)).set (k * 2 + 1) (.int .i64 c.2), fun j hj => ?_, (((hbw.trans (hb'.mono hbw.size)).setCell (Nat.le_refl _) _).setCell (Nat.le_refl _) _)⟩
        by_cases j1 : j = k * 2 + 1
        · rw [if_pos j1, j1, Q1.out]
        · rw [if_neg j1]
          by_cases j0 : j = k * 2
          · rw [if_pos j0, j0, Q0.out]
          · rw [if_neg j0]; exact hf'.out j (by omega)
      case measure => simp [intOf]; omega
    · go_wp2
      go_ret
      have : k = cs.length := by omega
      subst this
      exact ⟨_, rfl, Nat.le_refl _, hrow.congr (fun i hi => hf i hi), hbw⟩

end Go.Proofs.YtciacofibljmoabGreatDoor
