/- Visits and flights by themselves: the program's own checks, walked. -/
import Derived.Test.YtciacofibljmoaaGreatVisOk
namespace Go.Proofs.YtciacofibljmoaaGreat
open Go.RowKit

/-- From when on the next visit may begin. -/
def freeAt (vs : List Vis) (k : Nat) : Int := if k = 0 then 0 else (vs.getD (k - 1) (ByteArray.empty, 0, 0)).2.1 + (vs.getD (k - 1) (ByteArray.empty, 0, 0)).2.2
theorem freeAt_succ (vs : List Vis) (k : Nat) (h : k < vs.length) : freeAt vs (k + 1) = vs[k].2.1 + vs[k].2.2 := by
  unfold freeAt
  rw [if_neg (by omega), show k + 1 - 1 = k from rfl, getD_at vs k _ h]
theorem freeAt_bd {vs : List Vis} {k : Nat} (h : visTo vs k = true) (hk : k ≤ vs.length) : 0 ≤ freeAt vs k ∧ freeAt vs k ≤ 230 := by
  cases k with
  | zero => simp [freeAt]
  | succ j =>
    have := vis_bounds h (show j < j + 1 by omega) (show j < vs.length by omega)
    rw [freeAt_succ vs j (by omega)]
    omega
theorem vis_free {vs : List Vis} {k : Nat} (h : visTo vs k = true) (hk : k < vs.length) : visOkAt vs k = (nameB vs[k].1 && inB vs[k].2.1 (freeAt vs k) 200 && inB vs[k].2.2 1 30) := by
  have hb := freeAt_bd h (Nat.le_of_lt hk)
  unfold visOkAt
  rw [getD_at vs k _ hk]
  generalize vs[k] = c
  cases nameB c.1
  · rfl
  cases k with
  | zero => simp [freeAt]
  | succ j =>
    have e : (vs.getD (j + 1 - 1) (ByteArray.empty, 0, 0)).2.1 + (vs.getD (j + 1 - 1) (ByteArray.empty, 0, 0)).2.2 = freeAt vs (j + 1) := by
      unfold freeAt; rw [if_neg (by omega)]
    rw [e]
    generalize freeAt vs (j + 1) = f at hb
    rw [Bool.eq_iff_iff]
    simp [inB]
    omega

/-- A struct of three cells laid in a new block is still there. -/
theorem new3 {wr w1 : World} {u v x : Value} {t : TypeId} (h : Below (wr.alloc (.cells #[u, v, x] t)).heap.size (wr.alloc (.cells #[u, v, x] t)) w1) :
    Below (wr.heap.size + 1) (wr.alloc (.cells #[u, v, x] t)) w1 ∧ wr.heap.size + 1 ≤ w1.heap.size ∧ w1.cell? ⟨wr.heap.size, 0, none⟩ = some u ∧ w1.cell? ⟨wr.heap.size, 1, none⟩ = some v ∧ w1.cell? ⟨wr.heap.size, 2, none⟩ = some x := by
  have hB : Below (wr.heap.size + 1) (wr.alloc (.cells #[u, v, x] t)) w1 := h.mono (by simp)
  exact ⟨hB, by simpa using hB.size, by rw [hB.cell (p := ⟨wr.heap.size, 0, none⟩) (by simp)]; simp, by rw [hB.cell (p := ⟨wr.heap.size, 1, none⟩) (by simp)]; simp, by rw [hB.cell (p := ⟨wr.heap.size, 2, none⟩) (by simp)]; simp⟩

set_option maxRecDepth 100000 in
set_option maxHeartbeats 1600000 in
theorem visitsOk_any (a : Option Addr) (cap : Nat) (vs : List Vis) (w : World) (hc : VisitsIn w a vs) (hl : vs.length ≤ 1048576) (hs : ∀ v ∈ vs, v.1.size ≤ maxLen) :
    Calls Tryz.prog 200 #[.slice a vs.length cap] w fun e w' => e = .returned (.bool (visB vs)) ∧ Below w.heap.size w w' := by
  cases h5 : inB (vs.length : Int) 1 5
  · go_enter Tryz.func200, Tryz.ntmps200
    have H5 := hide h5
    clear h5
    go_wp2_with (go_at_call 64; refine (within_val _ _ _ _ H5.out _).mono ?_; rintro e w' ⟨rfl, rfl⟩)
    go_ret
    exact ⟨by unfold visB; rw [H5.out]; rfl, Below.refl _ _⟩
  · have D : Hid (visB vs = visTo vs vs.length) := by show _ = _; unfold visB; rw [h5]; rfl
    have H5 := hide h5
    clear h5
    go_enter Tryz.func200, Tryz.ntmps200
    go_wp2_with (go_at_call 64; refine (within_val _ _ _ _ H5.out _).mono ?_; rintro e w0 ⟨rfl, rfl⟩)
    go_loopw [3, 12] (fun q i wr => ∃ (k : Nat), k ≤ vs.length ∧ i = .int .i64 k ∧ q = .int .i64 (freeAt vs k) ∧ Hid (visTo vs k = true) ∧ Below w0.heap.size w0 wr) (fun _ i _ => vs.length - (intOf i).toNat)
    case atStart => exact ⟨0, Nat.zero_le _, rfl, rfl, rfl, Below.refl _ _⟩
    case round =>
      obtain ⟨k, hk, rfl, rfl, HK, hbw⟩ := hrel
      by_cases hlt : k < vs.length
      · obtain ⟨b, off, rfl, hblt, e0, e1, e2⟩ := hc.later hbw k hlt
        have hsz := hs _ (List.getElem_mem hlt)
        obtain ⟨f0, f1⟩ := freeAt_bd HK.out hk
        have HV := hide (vis_free HK.out hlt)
        have HFS := hide (freeAt_succ vs k hlt)
        clear hc hs
        generalize vs[k] = c at e0 e1 e2 hsz HV HFS
        generalize freeAt vs k = fr at f0 f1 HV
        cases hn : nameB c.1
        · have HN := hide hn
          have HF : Hid (visOkAt vs k = false) := by show _ = _; rw [HV.out, hn]; rfl
          clear hn
          go_wp2_with (first
            | (go_at_call 90; refine (nameOk_val _ _ HN.out hsz _).mono ?_; rintro e w1 ⟨rfl, hb1⟩; obtain ⟨B1, hz1, x0, x1, x2⟩ := new3 hb1; clear hb1))
          go_ret
          exact ⟨by rw [D.out]; exact congrArg (fun b => Ending.returned (.bool b)) (all_bad hlt HF.out).symm, below_old hbw B1⟩
        cases ha : inB c.2.1 fr 200
        · have HN := hide hn
          have HA := hide ha
          have HF : Hid (visOkAt vs k = false) := by show _ = _; rw [HV.out, hn, ha]; rfl
          clear hn ha
          go_wp2_with (first
            | (go_at_call 90; refine (nameOk_val _ _ HN.out hsz _).mono ?_; rintro e w1 ⟨rfl, hb1⟩; obtain ⟨B1, hz1, x0, x1, x2⟩ := new3 hb1; clear hb1)
            | (go_at_call_of 64 (Value.int .i64 200); refine (within_val _ _ _ _ HA.out _).mono ?_; rintro e w2 ⟨rfl, rfl⟩))
          go_ret
          exact ⟨by rw [D.out]; exact congrArg (fun b => Ending.returned (.bool b)) (all_bad hlt HF.out).symm, below_old hbw B1⟩
        cases hS : inB c.2.2 1 30
        · have HN := hide hn
          have HA := hide ha
          have HS := hide hS
          have HF : Hid (visOkAt vs k = false) := by show _ = _; rw [HV.out, hn, ha, hS]; rfl
          clear hn ha hS
          go_wp2_with (first
            | (go_at_call 90; refine (nameOk_val _ _ HN.out hsz _).mono ?_; rintro e w1 ⟨rfl, hb1⟩; obtain ⟨B1, hz1, x0, x1, x2⟩ := new3 hb1; clear hb1)
            | (go_at_call_of 64 (Value.int .i64 200); refine (within_val _ _ _ _ HA.out _).mono ?_; rintro e w2 ⟨rfl, rfl⟩)
            | (go_at_call_of 64 (Value.int .i64 30); refine (within_val _ _ _ _ HS.out _).mono ?_; rintro e w3 ⟨rfl, rfl⟩))
          go_ret
          exact ⟨by rw [D.out]; exact congrArg (fun b => Ending.returned (.bool b)) (all_bad hlt HF.out).symm, below_old hbw B1⟩
        have HN := hide hn
        have HA := hide ha
        have HS := hide hS
        have HT : Hid (visOkAt vs k = true) := by show _ = _; rw [HV.out, hn, ha, hS]; rfl
        obtain ⟨a0, a1⟩ := inB_iff.1 ha
        obtain ⟨s0, s1⟩ := inB_iff.1 hS
        clear hn ha hS
        go_wp2_with (first
          | (go_at_call 90; refine (nameOk_val _ _ HN.out hsz _).mono ?_; rintro e w1 ⟨rfl, hb1⟩; obtain ⟨B1, hz1, x0, x1, x2⟩ := new3 hb1; clear hb1)
          | (go_at_call_of 64 (Value.int .i64 200); refine (within_val _ _ _ _ HA.out _).mono ?_; rintro e w2 ⟨rfl, rfl⟩)
          | (go_at_call_of 64 (Value.int .i64 30); refine (within_val _ _ _ _ HS.out _).mono ?_; rintro e w3 ⟨rfl, rfl⟩))
        go_roundw
        case rel => exact ⟨k + 1, by omega, by go_num, by rw [HFS.out], all_succ HK.out HT.out, below_old hbw B1⟩
        case measure => simp [intOf]; omega
      · go_wp2
        go_ret
        have : k = vs.length := by omega
        subst this
        exact ⟨by rw [D.out, HK.out]; rfl, hbw⟩

end Go.Proofs.YtciacofibljmoaaGreat
