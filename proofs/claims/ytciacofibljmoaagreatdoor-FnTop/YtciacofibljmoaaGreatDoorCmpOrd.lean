/- The order of flights, as the program's comparison tells it. -/
import Derived.Test.YtciacofibljmoaaGreatDoorMaths
import Derived.Sort.Grow
namespace Go.Proofs.YtciacofibljmoaaGreatDoor
open Go.RowKit

attribute [local go_sem ↓] Go.wp_at_zero Go.wp_at_succ

def cmpI (x y : Int) : Int := if x < y then -1 else if y < x then 1 else 0
def cmpS (x y : ByteArray) : Int := if Op.bytesLess x.toList y.toList = true then -1 else if (x.toList == y.toList) = true then 0 else 1
def or3 (x y z : Int) : Int := if x = 0 then (if y = 0 then z else y) else x

set_option maxHeartbeats 400000 in
theorem isNaNI (x : Int) (w : World) : Calls Tryz.prog 111 #[.int .i64 x] w fun e w' => e = .returned (.bool false) ∧ w' = w := by
  have b0 : (x != x) = false := by simp
  go_enter Tryz.func111, Tryz.ntmps111
  go_wp2
  go_ret
  exact ⟨rfl, rfl⟩
set_option maxHeartbeats 400000 in
theorem isNaNS (x : ByteArray) (w : World) : Calls Tryz.prog 145 #[.string x] w fun e w' => e = .returned (.bool false) ∧ w' = w := by
  have b0 : (x.toList == x.toList) = true := by simp
  go_enter Tryz.func145, Tryz.ntmps145
  go_wp2
  go_ret
  exact ⟨rfl, rfl⟩
set_option maxHeartbeats 800000 in
theorem compareI (x y : Int) (w : World) : Calls Tryz.prog 149 #[.int .i64 x, .int .i64 y] w fun e w' => e = .returned (.int .i64 (cmpI x y)) ∧ w' = w := by
  by_cases h1 : x < y
  · have HR : Hid (cmpI x y = -1) := by show _ = _; unfold cmpI; rw [if_pos h1]
    go_enter Tryz.func149, Tryz.ntmps149
    go_wp2_with (go_at_call 111; refine (isNaNI _ _).mono ?_; rintro e w1 ⟨rfl, rfl⟩)
    go_ret
    exact ⟨by rw [HR.out]; rfl, rfl⟩
  · by_cases h2 : y < x
    · have HR : Hid (cmpI x y = 1) := by show _ = _; unfold cmpI; rw [if_neg h1, if_pos h2]
      go_enter Tryz.func149, Tryz.ntmps149
      go_wp2_with (go_at_call 111; refine (isNaNI _ _).mono ?_; rintro e w1 ⟨rfl, rfl⟩)
      go_ret
      exact ⟨by rw [HR.out]; rfl, rfl⟩
    · have HR : Hid (cmpI x y = 0) := by show _ = _; unfold cmpI; rw [if_neg h1, if_neg h2]
      go_enter Tryz.func149, Tryz.ntmps149
      go_wp2_with (go_at_call 111; refine (isNaNI _ _).mono ?_; rintro e w1 ⟨rfl, rfl⟩)
      go_ret
      exact ⟨by rw [HR.out]; rfl, rfl⟩
set_option maxHeartbeats 800000 in
theorem compareS (x y : ByteArray) (w : World) : Calls Tryz.prog 142 #[.string x, .string y] w fun e w' => e = .returned (.int .i64 (cmpS x y)) ∧ w' = w := by
  cases h1 : Op.bytesLess x.toList y.toList
  · cases h2 : (x.toList == y.toList)
    · have HR : Hid (cmpS x y = 1) := by show _ = _; unfold cmpS; rw [h1, h2]; rfl
      go_enter Tryz.func142, Tryz.ntmps142
      go_wp2_with (go_at_call 145; refine (isNaNS _ _).mono ?_; rintro e w1 ⟨rfl, rfl⟩)
      go_ret
      exact ⟨by rw [HR.out]; rfl, rfl⟩
    · have HR : Hid (cmpS x y = 0) := by show _ = _; unfold cmpS; rw [h1, h2]; rfl
      go_enter Tryz.func142, Tryz.ntmps142
      go_wp2_with (go_at_call 145; refine (isNaNS _ _).mono ?_; rintro e w1 ⟨rfl, rfl⟩)
      go_ret
      exact ⟨by rw [HR.out]; rfl, rfl⟩
  · have HR : Hid (cmpS x y = -1) := by show _ = _; unfold cmpS; rw [h1]; rfl
    go_enter Tryz.func142, Tryz.ntmps142
    go_wp2_with (go_at_call 145; refine (isNaNS _ _).mono ?_; rintro e w1 ⟨rfl, rfl⟩)
    go_ret
    exact ⟨by rw [HR.out]; rfl, rfl⟩

/-- The first of a list that is not 0. -/
def orV (zs : List Int) : Int := (zs.find? fun z => z != 0).getD 0
theorem orV_at {zs : List Int} {k : Nat} (hk : k < zs.length) (h0 : ∀ j (hj : j < zs.length), j < k → zs[j] = 0) (h1 : zs[k] ≠ 0) : orV zs = zs[k] := by
  unfold orV
  have : zs.find? (fun z => z != 0) = some zs[k] := by
    rw [List.find?_eq_some_iff_getElem]
    exact ⟨by simpa using h1, k, hk, rfl, fun j hj => by simp [h0 j (by omega) hj]⟩
  rw [this]
  rfl
theorem orV_none {zs : List Int} (h0 : ∀ j (hj : j < zs.length), zs[j] = 0) : orV zs = 0 := by
  unfold orV
  have : zs.find? (fun z => z != 0) = none := by
    rw [List.find?_eq_none]
    intro z hz
    obtain ⟨j, hj, rfl⟩ := List.getElem_of_mem hz
    simp [h0 j hj]
  rw [this]
  rfl
theorem orV_three (x y z : Int) : orV [x, y, z] = or3 x y z := by
  unfold orV or3
  by_cases hx : x = 0
  · subst hx
    by_cases hy : y = 0
    · subst hy
      by_cases hz : z = 0
      · subst hz; rfl
      · simp [hz]
    · simp [hy]
  · simp [hx]
set_option maxHeartbeats 800000 in
theorem cmpOr_any (a : Option Addr) (cap : Nat) (zs : List Int) (w : World) (hc : IntsIn w a zs) (hl : zs.length ≤ 1048576) : Calls Tryz.prog 148 #[.slice a zs.length cap] w fun e w' => e = .returned (.int .i64 (orV zs)) ∧ w' = w := by
  have HC := hide hc
  clear hc
  go_enter Tryz.func148, Tryz.ntmps148
  go_wp2
  go_loopw [8] (fun i wr => ∃ (k : Nat), k ≤ zs.length ∧ i = .int .i64 k ∧ Hid (∀ j (hj : j < zs.length), j < k → zs[j] = 0) ∧ wr = w) (fun i _ => zs.length - (RowKit.intOf i).toNat)
  case atStart => exact ⟨0, Nat.zero_le _, rfl, fun j _ hj => by omega, rfl⟩
  case round =>
    obtain ⟨k, hk, rfl, HK, rfl⟩ := hrel
    by_cases hlt : k < zs.length
    · obtain ⟨b, off, rfl, hblt, e0⟩ := HC.out k hlt
      by_cases hz : zs[k] = 0
      · have HZ := hide hz
        rw [hz] at e0
        have b0 : ((0 : Int) != 0) = false := by simp
        clear hz
        go_wp2
        go_roundw
        case rel => exact ⟨k + 1, by omega, by go_num, fun j hj hj' => by
          by_cases ej : j = k
          · subst ej; exact HZ.out
          · exact HK.out j hj (by omega), by first | rfl | trivial⟩
        case measure => simp [RowKit.intOf]; omega
      · have HR := hide (orV_at hlt HK.out hz)
        generalize zs[k] = z at e0 hz HR
        have b0 : (z != 0) = true := by simpa using hz
        clear hz
        go_wp2
        go_ret
        exact ⟨by rw [HR.out]; rfl, rfl⟩
    · have HR := hide (orV_none (zs := zs) (fun j hj => HK.out j hj (by omega)))
      go_wp2
      go_ret
      exact ⟨by rw [HR.out]; rfl, rfl⟩

/-- The comparison by Plan, then by Name, then by place. -/
def ordC (fs : List Fli) (i j : Nat) : Int := or3 (cmpI (planAt fs i) (planAt fs j)) (cmpS (fs.getD i (ByteArray.empty, 0, 0, [])).1 (fs.getD j (ByteArray.empty, 0, 0, [])).1) (cmpI i j)
theorem ordC_neg (fs : List Fli) (i j : Nat) : ordC fs i j < 0 ↔ bef fs i j := by
  unfold ordC bef or3 cmpI cmpS
  rw [less_eq]
  show _ ↔ _ ∨ _ ∧ ((fs.getD i _).1.toList < (fs.getD j _).1.toList ∨ (fs.getD i _).1.toList = (fs.getD j _).1.toList ∧ _)
  generalize (fs.getD i (ByteArray.empty, 0, 0, [])).1.toList = s
  generalize (fs.getD j (ByteArray.empty, 0, 0, [])).1.toList = t
  simp only [decide_eq_true_eq, beq_iff_eq]
  by_cases h1 : planAt fs i < planAt fs j
  · simp [h1]
  · by_cases h2 : planAt fs j < planAt fs i
    · have : ¬ planAt fs i = planAt fs j := by omega
      simp [h1, h2, this]
    · have he : planAt fs i = planAt fs j := by omega
      rw [he]
      rcases names_total s t with h | h | h
      · simp [h]
      · subst h
        have hn : ¬ s < s := List.lt_irrefl _
        by_cases g1 : i < j
        · simp [hn, g1]
        · by_cases g2 : j < i
          · simp [hn, g1, g2]
          · simp [hn, g1, g2]
      · have hn : ¬ s < t := fun hh => List.lt_irrefl _ (List.lt_trans h hh)
        have hne : ¬ s = t := fun hh => by subst hh; exact List.lt_irrefl _ h
        simp [hn, hne]
theorem bef_total (fs : List Fli) (i j : Nat) (h : ¬ bef fs i j) (h2 : ¬ bef fs j i) : i = j := by
  unfold bef at *
  by_cases h1 : planAt fs i < planAt fs j
  · exact absurd (.inl h1) h
  · by_cases h3 : planAt fs j < planAt fs i
    · exact absurd (.inl h3) h2
    · have he : planAt fs i = planAt fs j := by omega
      rcases names_total (nameAt fs i) (nameAt fs j) with q | q | q
      · exact absurd (.inr ⟨he, .inl q⟩) h
      · by_cases g : i < j
        · exact absurd (.inr ⟨he, .inr ⟨q, g⟩⟩) h
        · by_cases g2 : j < i
          · exact absurd (.inr ⟨he.symm, .inr ⟨q.symm, g2⟩⟩) h2
          · omega
      · exact absurd (.inr ⟨he.symm, .inl q⟩) h2

end Go.Proofs.YtciacofibljmoaaGreatDoor
