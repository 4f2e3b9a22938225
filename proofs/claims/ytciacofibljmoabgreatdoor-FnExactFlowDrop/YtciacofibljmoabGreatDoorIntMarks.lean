/- Marks in an answer of numbers: it owns its memory. -/
import Derived.Test.YtciacofibljmoabGreatDoorMarks
import Derived.Test.YtciacofibljmoabGreatDoorDrawsB
namespace Go.Proofs.YtciacofibljmoabGreatDoor
open Go.RowKit

/-- Numbers of a call's own, in a block from lo to just below hi. -/
def OwnInI (lo hi : Nat) (w : World) (v : Value) (zs : List Int) : Prop := OwnI w lo v zs ∧ ∀ g, v.ownBlock = some g → g < hi
theorem ownInI_of {w : World} {base : Nat} {v : Value} {zs : List Int} (h : OwnI w base v zs) : OwnInI base w.heap.size w v zs := ⟨h, fun g hg => (World.ownsRow.lt h g hg).2⟩
theorem ownInI_keep {lo hi : Nat} {w w' : World} {v : Value} {zs : List Int} (h : OwnInI lo hi w v zs) (hk : ∀ k, k < w.heap.size → lo ≤ k → k < hi → w'.heap[k]? = w.heap[k]?) : OwnInI lo hi w' v zs := by
  obtain ⟨h0, hb⟩ := h
  obtain ⟨h1, h2⟩ := h0
  refine ⟨⟨h1, ?_⟩, hb⟩
  rcases h2 with h2 | ⟨g, cap, cur, rfl, e2, e3, e4⟩
  · exact .inl h2
  · exact .inr ⟨g, cap, cur, rfl, e2, (hk g (Array.getElem?_eq_some_iff.1 e3).1 e2 (hb g rfl)).trans e3, e4⟩
theorem ownInI_later {lo hi : Nat} {w w' : World} {v : Value} {zs : List Int} (h : OwnInI lo hi w v zs) (hb : Below w.heap.size w w') : OwnInI lo hi w' v zs := ownInI_keep h fun k hk _ _ => hb.block k hk
theorem ownInI_touch {lo hi lo' hi' : Nat} {w w' : World} {v : Value} {zs : List Int} (h : OwnInI lo hi w v zs) (ht : Touch lo' hi' w w') (ho : hi ≤ lo' ∨ hi' ≤ lo) : OwnInI lo hi w' v zs := ownInI_keep h fun k hk h1 h2 => ht.block k hk (by omega)
theorem ownI_slice {w : World} {base : Nat} {v : Value} {zs : List Int} (h : OwnI w base v zs) : ∃ a cap, v = .slice a zs.length cap ∧ IntsIn w a zs := by
  obtain ⟨a', c', e, _, _, hin, hp⟩ := OwnI.form h
  exact ⟨a', c', e, hin⟩
theorem row_of_ownI {w : World} {base g n cap : Nat} {zs : List Int} (h : OwnI w base (.slice (some ⟨g, 0, none⟩) n cap) zs) : n = zs.length ∧ base ≤ g ∧ ∃ f, w.rowIs g 3 cap f ∧ n ≤ cap := by
  unfold OwnI at h
  rcases h.2 with ⟨h0, _⟩ | ⟨g', cap', cur, e, hg, hh, h1, h2, h3, h4⟩
  · simp at h0
  · simp at e
    obtain ⟨rfl, rfl, rfl⟩ := e
    rw [Nat.mul_one] at h3
    exact ⟨rfl, hg, fun i => cur.getD i undef, ⟨cur, hh, h3, fun i hi => by simp [hi, h3]⟩, h1⟩
theorem own_splitI {w : World} {base : Nat} {a : Option Addr} {cap : Nat} {zs : List Int} (h : OwnI w base (.slice a zs.length cap) zs) :
    (a = none ∧ zs = [] ∧ cap = 0) ∨ ∃ g, a = some ⟨g, 0, none⟩ ∧ base ≤ g ∧ ∃ f, w.rowIs g 3 cap f ∧ zs.length ≤ cap := by
  have hh := h
  unfold OwnI at h
  rcases h.2 with ⟨h0, h1⟩ | ⟨g', cap', cur, e, hg, _⟩
  · simp at h0
    exact .inl ⟨h0.1, h0.2.1, h0.2.2⟩
  · simp at e
    obtain ⟨rfl, rfl⟩ := e
    obtain ⟨_, h1, f, h2, h3⟩ := row_of_ownI hh
    exact .inr ⟨g', rfl, h1, f, h2, h3⟩

set_option maxHeartbeats 800000 in
theorem markIntS_own (g n cap N : Nat) (f : Nat → Value) (w : World) (hr : w.rowIs g 3 N f) (hN : n ≤ N) (hn : n ≤ 1048576) :
    Calls Tryz.prog 39 #[.slice (some ⟨g, 0, none⟩) n cap, .int .i64 1] w fun e w' => e = .returned (.int .i64 (1 + (n : Int))) ∧ (∃ f', w'.rowIs g 3 N f' ∧ ∀ q, q < n → f' q = .int .i64 (1 + (q : Int))) ∧ Touch g (g + 1) w w' := by
  have HR := hide hr
  clear hr
  go_enter Tryz.func39, Tryz.ntmps39
  go_wp2
  go_loopw [1, 5] (fun q i wr => ∃ (j : Nat) (f' : Nat → Value), j ≤ n ∧ i = .int .i64 j ∧ q = .int .i64 (1 + (j : Int)) ∧ Hid (wr.rowIs g 3 N f') ∧ Hid (∀ q, q < j → f' q = .int .i64 (1 + (q : Int))) ∧ Hid (Touch g (g + 1) w wr)) (fun _ i _ => n - (RowKit.intOf i).toNat)
  case atStart => exact ⟨0, f, Nat.zero_le _, rfl, by go_num, HR.out, fun q hq => by omega, touch_refl _ _ _⟩
  case round =>
    obtain ⟨j, f', hj, rfl, rfl, HRj, HF, HT⟩ := hrel
    by_cases hlt : j < n
    · have c0 := HRj.out.cell (i := j) (by omega)
      have z0 := HRj.out.frozen j
      go_wp2
      go_roundw
      case rel =>
        refine ⟨j + 1, _, by omega, by go_num, by go_num, HRj.out.set j _, fun q hq => ?_, touch_set HT.out (Nat.le_refl _) (by simp) _⟩
        by_cases q0 : q = j
        · rw [if_pos q0, q0]
        rw [if_neg q0]
        exact HF.out q (by omega)
      case measure => simp [RowKit.intOf]; omega
    · go_wp2
      go_ret
      have : j = n := by omega
      subst this
      exact ⟨rfl, ⟨f', HRj.out, HF.out⟩, HT.out⟩

set_option maxHeartbeats 800000 in
theorem heldIntS_any (g n cap N : Nat) (f : Nat → Value) (w : World) (hr : w.rowIs g 3 N f) (hN : n ≤ N) (hn : n ≤ 1048576) (hf : ∀ q, q < n → f q = .int .i64 (1 + (q : Int))) :
    Calls Tryz.prog 43 #[.slice (some ⟨g, 0, none⟩) n cap, .int .i64 1] w fun e w' => e = .returned (.int .i64 (1 + (n : Int))) ∧ Below w.heap.size w w' := by
  have HR := hide hr
  have HF := hide hf
  clear hr hf
  go_enter Tryz.func43, Tryz.ntmps43
  go_wp2
  go_loopw [1, 5] (fun q i wr => ∃ (j : Nat), j ≤ n ∧ i = .int .i64 j ∧ q = .int .i64 (1 + (j : Int)) ∧ Hid (Below w.heap.size w wr)) (fun _ i _ => n - (RowKit.intOf i).toNat)
  case atStart => exact ⟨0, Nat.zero_le _, rfl, by go_num, Below.refl _ _⟩
  case round =>
    obtain ⟨j, hj, rfl, rfl, HB⟩ := hrel
    by_cases hlt : j < n
    · have c0 := cell_later HB.out ((HR.out.cell (i := j) (by omega)).trans (congrArg some (HF.out j (by omega))))
      have b0 : (1 + (j : Int) != 1 + (j : Int)) = false := by simp
      go_wp2
      go_roundw
      case rel => exact ⟨j + 1, by omega, by go_num, by go_num, HB.out⟩
      case measure => simp [RowKit.intOf]; omega
    · go_wp2
      go_ret
      have : j = n := by omega
      subst this
      exact ⟨rfl, HB.out⟩
set_option maxHeartbeats 400000 in
theorem markIntS_none (a : Option Addr) (cap : Nat) (w : World) :
    Calls Tryz.prog 39 #[.slice a 0 cap, .int .i64 1] w fun e w' => e = .returned (.int .i64 1) ∧ Below w.heap.size w w' := by
  go_enter Tryz.func39, Tryz.ntmps39
  go_wp2
  go_loopw [1, 5] (fun q i wr => i = .int .i64 0 ∧ q = .int .i64 1 ∧ Below w.heap.size w wr) (fun _ _ _ => 0)
  case atStart => exact ⟨rfl, rfl, Below.refl _ _⟩
  case round =>
    obtain ⟨rfl, rfl, hb⟩ := hrel
    go_wp2
    go_ret
    exact ⟨rfl, hb⟩
set_option maxHeartbeats 400000 in
theorem heldIntS_none (a : Option Addr) (cap : Nat) (w : World) :
    Calls Tryz.prog 43 #[.slice a 0 cap, .int .i64 1] w fun e w' => e = .returned (.int .i64 1) ∧ Below w.heap.size w w' := by
  go_enter Tryz.func43, Tryz.ntmps43
  go_wp2
  go_loopw [1, 5] (fun q i wr => i = .int .i64 0 ∧ q = .int .i64 1 ∧ Below w.heap.size w wr) (fun _ _ _ => 0)
  case atStart => exact ⟨rfl, rfl, Below.refl _ _⟩
  case round =>
    obtain ⟨rfl, rfl, hb⟩ := hrel
    go_wp2
    go_ret
    exact ⟨rfl, hb⟩

end Go.Proofs.YtciacofibljmoabGreatDoor
