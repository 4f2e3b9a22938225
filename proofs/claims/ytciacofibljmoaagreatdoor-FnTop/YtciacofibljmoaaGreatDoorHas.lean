/- Whether a flight is in a sector at a tick: the program's and the document's reading, walked. -/
import Derived.Test.YtciacofibljmoaaGreatDoorInts
namespace Go.Proofs.YtciacofibljmoaaGreatDoor
open Go.RowKit

/-- By the visit at a place. -/
def hasAt (vs : List Vis) (slot : Int) (sec : ByteArray) (t : Int) (i : Nat) : Bool :=
  ((vs.getD i (ByteArray.empty, 0, 0)).1.toList == sec.toList) && inB t (slot + (vs.getD i (ByteArray.empty, 0, 0)).2.1) (slot + (vs.getD i (ByteArray.empty, 0, 0)).2.1 + (vs.getD i (ByteArray.empty, 0, 0)).2.2 - 1)
def hasB (vs : List Vis) (slot : Int) (sec : ByteArray) (t : Int) : Bool := (List.range vs.length).any (hasAt vs slot sec t)
theorem any_yes {p : Nat → Bool} {k n : Nat} (hk : k < n) (h : p k = true) : (List.range n).any p = true := List.any_eq_true.2 ⟨k, List.mem_range.2 hk, h⟩
theorem any_no {p : Nat → Bool} {n : Nat} (h : ∀ j, j < n → p j = false) : (List.range n).any p = false := by
  rw [List.any_eq_false]
  intro j hj
  rw [h j (List.mem_range.1 hj)]
  simp
/-- What is known of visits that are ok. -/
def VisBd (vs : List Vis) : Prop := ∀ v ∈ vs, (0 ≤ v.2.1 ∧ v.2.1 ≤ 200) ∧ 1 ≤ v.2.2 ∧ v.2.2 ≤ 30
theorem alloc3 (wr : World) (a b c : Value) (t : TypeId) : ∃ W, wr.alloc (.cells #[a, b, c] t) = W ∧ W.cell? ⟨wr.heap.size, 0, none⟩ = some a ∧ W.cell? ⟨wr.heap.size, 1, none⟩ = some b ∧ W.cell? ⟨wr.heap.size, 2, none⟩ = some c ∧ Below wr.heap.size wr W :=
  ⟨_, rfl, by simp, by simp, by simp, (Below.refl _ _).alloc (Nat.le_refl _) _⟩

set_option maxHeartbeats 1600000 in
theorem l2Has_any (f : Fli) (av : Option Addr) (cv : Nat) (slot : Int) (sec : ByteArray) (t : Int) (w : World) (hv : VisitsIn w av f.2.2.2) (hl : f.2.2.2.length ≤ 1048576) (hbd : VisBd f.2.2.2) (hs0 : 0 ≤ slot) (hs1 : slot ≤ 10060) :
    Calls Tryz.prog 90 #[.agg #[.string f.1, .int .i64 f.2.1, .int .i64 f.2.2.1, .slice av f.2.2.2.length cv], .int .i64 slot, .string sec, .int .i64 t] w fun e w' => e = .returned (.bool (hasB f.2.2.2 slot sec t)) ∧ Below w.heap.size w w' := by
  obtain ⟨s, n, m, vs⟩ := f
  simp only at hv hl hbd ⊢
  obtain ⟨W, hW, _, _, _, x3, hWb⟩ := alloc4 w (.string s) (.int .i64 n) (.int .i64 m) (.slice av vs.length cv) 32
  go_enter Tryz.func90, Tryz.ntmps90
  go_wp2
  go_loopw [9] (fun i wr => ∃ (k : Nat), k ≤ vs.length ∧ i = .int .i64 k ∧ Hid (∀ j, j < k → hasAt vs slot sec t j = false) ∧ Below W.heap.size W wr) (fun i _ => vs.length - (intOf i).toNat)
  case atStart => exact ⟨0, Nat.zero_le _, rfl, fun j hj => by omega, by first | exact Below.refl _ _ | (rw [← hW]; exact Below.refl _ _)⟩
  case round =>
    obtain ⟨k, hk, rfl, HK, hbw⟩ := hrel
    have x3' := cell_later hbw x3
    have hBW := hide (below_two hWb hbw)
    by_cases hlt : k < vs.length
    · obtain ⟨b, off, rfl, hblt, e0, e1, e2⟩ := (hv.later hWb).later hbw k hlt
      obtain ⟨⟨b0, b1⟩, b2, b3⟩ := hbd _ (List.getElem_mem hlt)
      have HA : Hid (hasAt vs slot sec t k = ((vs[k].1.toList == sec.toList) && inB t (slot + vs[k].2.1) (slot + vs[k].2.1 + vs[k].2.2 - 1))) := by
        show _ = _
        unfold hasAt
        rw [getD_at vs k _ hlt]
      clear hv hbd hW x3 hWb
      generalize vs[k] = c at e0 e1 e2 HA b0 b1 b2 b3
      cases hq : (c.1.toList == sec.toList)
      · have HF : Hid (hasAt vs slot sec t k = false) := by show _ = _; rw [HA.out, hq]; rfl
        clear HA
        go_wp2
        go_roundw
        case rel => exact ⟨k + 1, by omega, by go_num, fun j hj => by
          by_cases ej : j = k
          · rw [ej]; exact HF.out
          · exact HK.out j (by omega), hbw.alloc hbw.size _⟩
        case measure => simp [intOf]; omega
      · cases hi : inB t (slot + c.2.1) (slot + c.2.1 + c.2.2 - 1)
        · have HF : Hid (hasAt vs slot sec t k = false) := by show _ = _; rw [HA.out, hi]; simp
          have HI := hide hi
          clear HA hi
          go_wp2_with (go_at_call 51; refine (l1In_val _ _ _ _ HI.out _).mono ?_; rintro e w1 ⟨rfl, rfl⟩)
          go_roundw
          case rel => exact ⟨k + 1, by omega, by go_num, fun j hj => by
            by_cases ej : j = k
            · rw [ej]; exact HF.out
            · exact HK.out j (by omega), hbw.alloc hbw.size _⟩
          case measure => simp [intOf]; omega
        · have HT : Hid (hasAt vs slot sec t k = true) := by show _ = _; rw [HA.out, hi, hq]; rfl
          have HI := hide hi
          clear HA hi
          go_wp2_with (go_at_call 51; refine (l1In_val _ _ _ _ HI.out _).mono ?_; rintro e w1 ⟨rfl, rfl⟩)
          go_ret
          exact ⟨by unfold hasB; rw [any_yes hlt HT.out]; rfl, (hBW.out).alloc hBW.out.size _⟩
    · clear hW x3 hWb
      go_wp2
      go_ret
      have : k = vs.length := by omega
      subst this
      exact ⟨by unfold hasB; rw [any_no HK.out]; rfl, hBW.out⟩

end Go.Proofs.YtciacofibljmoaaGreatDoor
