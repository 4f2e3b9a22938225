/- Visits that are ok: the document's reading and the program's check, walked. -/
import Derived.Test.YtciacofibljmoaaGreatDoorVisFl
namespace Go.Proofs.YtciacofibljmoaaGreatDoor
open Go.RowKit

theorem l1In_val (n lo hi : Int) (q : Bool) (h : inB n lo hi = q) (w : World) : Calls Tryz.prog 51 #[.int .i64 n, .int .i64 lo, .int .i64 hi] w fun e w' => e = .returned (.bool q) ∧ w' = w := by
  rw [← h]; exact l1In_any n lo hi w
theorem within_val (n lo hi : Int) (q : Bool) (h : inB n lo hi = q) (w : World) : Calls Tryz.prog 46 #[.int .i64 n, .int .i64 lo, .int .i64 hi] w fun e w' => e = .returned (.bool q) ∧ w' = w := by
  rw [← h]; exact within_any n lo hi w
theorem l1NameOk_val (s : ByteArray) (q : Bool) (h : nameB s = q) (hs : s.size ≤ maxLen) (w : World) : Calls Tryz.prog 50 #[.string s] w fun e w' => e = .returned (.bool q) ∧ w' = w := by
  rw [← h]; exact l1NameOk_any s w hs
theorem nameOk_val (s : ByteArray) (q : Bool) (h : nameB s = q) (hs : s.size ≤ maxLen) (w : World) : Calls Tryz.prog 84 #[.string s] w fun e w' => e = .returned (.bool q) ∧ Below w.heap.size w w' := by
  rw [← h]; exact nameOk_any s w hs

/-- The visit at a place is ok, and behind the one ahead of it. -/
def visOkAt (vs : List Vis) (i : Nat) : Bool :=
  nameB (vs.getD i (ByteArray.empty, 0, 0)).1 && inB (vs.getD i (ByteArray.empty, 0, 0)).2.1 0 200 && inB (vs.getD i (ByteArray.empty, 0, 0)).2.2 1 30 &&
    (decide (i = 0) || !decide ((vs.getD i (ByteArray.empty, 0, 0)).2.1 < (vs.getD (i - 1) (ByteArray.empty, 0, 0)).2.1 + (vs.getD (i - 1) (ByteArray.empty, 0, 0)).2.2))
def visTo (vs : List Vis) (k : Nat) : Bool := (List.range k).all (visOkAt vs)
def visB (vs : List Vis) : Bool := inB (vs.length : Int) 1 5 && visTo vs vs.length
theorem all_succ {p : Nat → Bool} {k : Nat} (h : (List.range k).all p = true) (h2 : p k = true) : (List.range (k + 1)).all p = true := by
  rw [List.range_succ, List.all_append, h]
  simp [h2]
theorem all_bad {p : Nat → Bool} {k n : Nat} (hk : k < n) (h2 : p k = false) : (List.range n).all p = false := by
  rw [List.all_eq_false]
  exact ⟨k, List.mem_range.2 hk, by simp [h2]⟩
theorem all_at {p : Nat → Bool} {k n : Nat} (h : (List.range n).all p = true) (hk : k < n) : p k = true := List.all_eq_true.1 h k (List.mem_range.2 hk)

/-- What is known of a visit ahead. -/
theorem vis_bounds {vs : List Vis} {k j : Nat} (h : visTo vs k = true) (hj : j < k) (hl : j < vs.length) : (0 ≤ vs[j].2.1 ∧ vs[j].2.1 ≤ 200) ∧ 1 ≤ vs[j].2.2 ∧ vs[j].2.2 ≤ 30 := by
  have := all_at h hj
  unfold visOkAt at this
  rw [getD_at vs j _ hl] at this
  simp only [Bool.and_eq_true] at this
  exact ⟨inB_iff.1 this.1.1.2, inB_iff.1 this.1.2⟩

set_option maxRecDepth 100000 in
set_option maxHeartbeats 1600000 in
theorem l1VisitsOk_any (a : Option Addr) (cap : Nat) (vs : List Vis) (w : World) (hc : VisitsIn w a vs) (hl : vs.length ≤ 1048576) (hs : ∀ v ∈ vs, v.1.size ≤ maxLen) :
    Calls Tryz.prog 52 #[.slice a vs.length cap] w fun e w' => e = .returned (.bool (visB vs)) ∧ Below w.heap.size w w' := by
  cases h5 : inB (vs.length : Int) 1 5
  · go_enter Tryz.func52, Tryz.ntmps52
    have H5 := hide h5
    clear h5
    go_wp2_with (go_at_call 51; refine (l1In_val _ _ _ _ H5.out _).mono ?_; rintro e w' ⟨rfl, rfl⟩)
    go_ret
    exact ⟨by unfold visB; rw [H5.out]; rfl, Below.refl _ _⟩
  · have D : Hid (visB vs = visTo vs vs.length) := by show _ = _; unfold visB; rw [h5]; rfl
    have H5 := hide h5
    clear h5
    go_enter Tryz.func52, Tryz.ntmps52
    go_wp2_with (go_at_call 51; refine (l1In_val _ _ _ _ H5.out _).mono ?_; rintro e w0 ⟨rfl, rfl⟩)
    go_loopw [3] (fun i wr => ∃ (k : Nat), k ≤ vs.length ∧ i = .int .i64 k ∧ Hid (visTo vs k = true) ∧ Below w0.heap.size w0 wr) (fun i _ => vs.length - (intOf i).toNat)
    case atStart => exact ⟨0, Nat.zero_le _, rfl, rfl, Below.refl _ _⟩
    case round =>
      obtain ⟨k, hk, rfl, HK, hbw⟩ := hrel
      by_cases hlt : k < vs.length
      · obtain ⟨b, off, rfl, hblt, e0, e1, e2⟩ := hc.later hbw k hlt
        have hsz := hs _ (List.getElem_mem hlt)
        have k0 : (0 : Int) ≤ (k : Int) := by omega
        have k1 : (k : Int) < (vs.length : Int) := by omega
        have HC := hide hc
        have HV : Hid (visOkAt vs k = (nameB vs[k].1 && inB vs[k].2.1 0 200 && inB vs[k].2.2 1 30 && (decide (k = 0) || !decide (vs[k].2.1 < (vs.getD (k - 1) (ByteArray.empty, 0, 0)).2.1 + (vs.getD (k - 1) (ByteArray.empty, 0, 0)).2.2)))) := by
          show _ = _
          unfold visOkAt
          rw [getD_at vs k _ hlt]
        clear hc hs
        generalize vs[k] = c at e0 e1 e2 hsz HV
        cases hn : nameB c.1
        · have HN := hide hn
          have HF : Hid (visOkAt vs k = false) := by show _ = _; rw [HV.out, hn]; rfl
          clear hn
          go_wp2
          go_quiet (((go_at_call 50; exact Calls.quiet_of_same (l1NameOk_val _ _ HN.out hsz _))))
          go_wp2
          go_ret
          exact ⟨by rw [D.out]; exact congrArg (fun b => Ending.returned (.bool b)) (all_bad hlt HF.out).symm, below_drewN (hbw.alloc hbw.size _) _⟩
        cases ha : inB c.2.1 0 200
        · have HN := hide hn
          have HA := hide ha
          have HF : Hid (visOkAt vs k = false) := by show _ = _; rw [HV.out, hn, ha]; rfl
          clear hn ha
          go_wp2
          go_quiet ((first | (go_at_call 50; exact Calls.quiet_of_same (l1NameOk_val _ _ HN.out hsz _)) | (go_at_call_of 51 (Value.int .i64 200); exact Calls.quiet_of_same (l1In_val _ _ _ _ HA.out _))))
          go_wp2
          go_ret
          exact ⟨by rw [D.out]; exact congrArg (fun b => Ending.returned (.bool b)) (all_bad hlt HF.out).symm, below_drewN (hbw.alloc hbw.size _) _⟩
        cases hS : inB c.2.2 1 30
        · have HN := hide hn
          have HA := hide ha
          have HS := hide hS
          have HF : Hid (visOkAt vs k = false) := by show _ = _; rw [HV.out, hn, ha, hS]; rfl
          clear hn ha hS
          go_wp2
          go_quiet ((first | (go_at_call 50; exact Calls.quiet_of_same (l1NameOk_val _ _ HN.out hsz _)) | (go_at_call_of 51 (Value.int .i64 200); exact Calls.quiet_of_same (l1In_val _ _ _ _ HA.out _)) | (go_at_call_of 51 (Value.int .i64 30); exact Calls.quiet_of_same (l1In_val _ _ _ _ HS.out _))))
          go_wp2
          go_ret
          exact ⟨by rw [D.out]; exact congrArg (fun b => Ending.returned (.bool b)) (all_bad hlt HF.out).symm, below_drewN (hbw.alloc hbw.size _) _⟩
        have HN := hide hn
        have HA := hide ha
        have HS := hide hS
        rw [hn, ha, hS] at HV
        clear hn ha hS
        cases k with
        | zero =>
          simp only [Nat.zero_mul, Nat.add_zero] at e0 e1 e2
          have HT : Hid (visOkAt vs 0 = true) := by show _ = _; rw [HV.out]; rfl
          go_wp2
          go_quiet ((first | (go_at_call 50; exact Calls.quiet_of_same (l1NameOk_val _ _ HN.out hsz _)) | (go_at_call_of 51 (Value.int .i64 200); exact Calls.quiet_of_same (l1In_val _ _ _ _ HA.out _)) | (go_at_call_of 51 (Value.int .i64 30); exact Calls.quiet_of_same (l1In_val _ _ _ _ HS.out _))))
          go_wp2
          go_roundw
          case rel => exact ⟨_ + 1, by omega, by go_num, all_succ HK.out HT.out, below_drewN (hbw.alloc hbw.size _) _⟩
          case measure => simp [intOf]; omega
        | succ j =>
          obtain ⟨b', off', hsame, _, g0, g1, g2⟩ := HC.out.later hbw j (by omega)
          obtain ⟨rfl, rfl⟩ : b = b' ∧ off = off' := by simpa using hsame
          rw [show j + 1 - 1 = j from rfl, getD_at vs j _ (by omega)] at HV
          obtain ⟨⟨p0, p1⟩, p2, p3⟩ := vis_bounds HK.out (show j < j + 1 by omega) (show j < vs.length by omega)
          obtain ⟨c0, c1⟩ := inB_iff.1 HA.out
          generalize vs[j] = p at g0 g1 g2 HV p0 p1 p2 p3
          clear hsame
          have j0 : (0 : Int) ≤ (j : Int) := by omega
          have j1 : (j : Int) < (vs.length : Int) := by omega
          by_cases hq : c.2.1 < p.2.1 + p.2.2
          · have HF : Hid (visOkAt vs (j + 1) = false) := by show _ = _; rw [HV.out, decide_eq_true hq]; rfl
            go_wp2
            go_quiet ((first | (go_at_call 50; exact Calls.quiet_of_same (l1NameOk_val _ _ HN.out hsz _)) | (go_at_call_of 51 (Value.int .i64 200); exact Calls.quiet_of_same (l1In_val _ _ _ _ HA.out _)) | (go_at_call_of 51 (Value.int .i64 30); exact Calls.quiet_of_same (l1In_val _ _ _ _ HS.out _))))
            go_wp2
            go_ret
            exact ⟨by rw [D.out]; exact congrArg (fun b => Ending.returned (.bool b)) (all_bad hlt HF.out).symm, below_drewN (hbw.alloc hbw.size _) _⟩
          · have hq' : decide (c.2.1 < p.2.1 + p.2.2) = false := decide_eq_false hq
            have HT : Hid (visOkAt vs (j + 1) = true) := by show _ = _; rw [HV.out, hq']; rfl
            clear hq
            go_wp2
            go_quiet ((first | (go_at_call 50; exact Calls.quiet_of_same (l1NameOk_val _ _ HN.out hsz _)) | (go_at_call_of 51 (Value.int .i64 200); exact Calls.quiet_of_same (l1In_val _ _ _ _ HA.out _)) | (go_at_call_of 51 (Value.int .i64 30); exact Calls.quiet_of_same (l1In_val _ _ _ _ HS.out _))))
            go_wp2
            go_roundw
            case rel => exact ⟨_ + 1, by omega, by go_num, all_succ HK.out HT.out, below_drewN (hbw.alloc hbw.size _) _⟩
            case measure => simp [intOf]; omega
      · go_wp2
        go_ret
        have : k = vs.length := by omega
        subst this
        exact ⟨by rw [D.out, HK.out]; rfl, hbw⟩

end Go.Proofs.YtciacofibljmoaaGreatDoor

/- Visits and flights by themselves: the program's own checks, walked. -/
namespace Go.Proofs.YtciacofibljmoaaGreatDoor
open Go.RowKit

/-- From when on the next visit may begin. -/
def freeAt (vs : List Vis) (k : Nat) : Int := if k = 0 then 0 else (vs.getD (k - 1) (ByteArray.empty, 0, 0)).2.1 + (vs.getD (k - 1) (ByteArray.empty, 0, 0)).2.2
theorem freeAt_succ (vs : List Vis) (k : Nat) (h : k < vs.length) : freeAt vs (k + 1) = vs[k].2.1 + vs[k].2.2 := by
  unfold freeAt
  rw [if_neg (by omega), show k + 1 - 1 = k from rfl, getD_at vs k _ h]
theorem freeAt_bd {vs : List Vis} {k : Nat} (h : visTo vs k = true) (hk : k ≤ vs.length) : 0 ≤ freeAt vs k ∧ freeAt vs k ≤ 230 := by
  cases k with
  | zero => simp [freeAt]
  | succ j =>
    have := vis_bounds h (show j < j + 1 by omega) (show j < vs.length by omega)
    rw [freeAt_succ vs j (by omega)]
    omega
theorem vis_free {vs : List Vis} {k : Nat} (h : visTo vs k = true) (hk : k < vs.length) : visOkAt vs k = (nameB vs[k].1 && inB vs[k].2.1 (freeAt vs k) 200 && inB vs[k].2.2 1 30) := by
  have hb := freeAt_bd h (Nat.le_of_lt hk)
  unfold visOkAt
  rw [getD_at vs k _ hk]
  generalize vs[k] = c
  cases nameB c.1
  · rfl
  cases k with
  | zero => simp [freeAt]
  | succ j =>
    have e : (vs.getD (j + 1 - 1) (ByteArray.empty, 0, 0)).2.1 + (vs.getD (j + 1 - 1) (ByteArray.empty, 0, 0)).2.2 = freeAt vs (j + 1) := by
      unfold freeAt; rw [if_neg (by omega)]
    rw [e]
    generalize freeAt vs (j + 1) = f at hb
    rw [Bool.eq_iff_iff]
    simp [inB]
    omega

/-- A struct of three cells laid in a new block is still there. -/
theorem new3 {wr w1 : World} {u v x : Value} {t : TypeId} (h : Below (wr.alloc (.cells #[u, v, x] t)).heap.size (wr.alloc (.cells #[u, v, x] t)) w1) :
    Below (wr.heap.size + 1) (wr.alloc (.cells #[u, v, x] t)) w1 ∧ wr.heap.size + 1 ≤ w1.heap.size ∧ w1.cell? ⟨wr.heap.size, 0, none⟩ = some u ∧ w1.cell? ⟨wr.heap.size, 1, none⟩ = some v ∧ w1.cell? ⟨wr.heap.size, 2, none⟩ = some x := by
  have hB : Below (wr.heap.size + 1) (wr.alloc (.cells #[u, v, x] t)) w1 := h.mono (by simp)
  exact ⟨hB, by simpa using hB.size, by rw [hB.cell (p := ⟨wr.heap.size, 0, none⟩) (by simp)]; simp, by rw [hB.cell (p := ⟨wr.heap.size, 1, none⟩) (by simp)]; simp, by rw [hB.cell (p := ⟨wr.heap.size, 2, none⟩) (by simp)]; simp⟩

set_option maxRecDepth 100000 in
set_option maxHeartbeats 1600000 in
theorem visitsOk_any (a : Option Addr) (cap : Nat) (vs : List Vis) (w : World) (hc : VisitsIn w a vs) (hl : vs.length ≤ 1048576) (hs : ∀ v ∈ vs, v.1.size ≤ maxLen) :
    Calls Tryz.prog 132 #[.slice a vs.length cap] w fun e w' => e = .returned (.bool (visB vs)) ∧ Below w.heap.size w w' := by
  cases h5 : inB (vs.length : Int) 1 5
  · go_enter Tryz.func132, Tryz.ntmps132
    have H5 := hide h5
    clear h5
    go_wp2_with (go_at_call 46; refine (within_val _ _ _ _ H5.out _).mono ?_; rintro e w' ⟨rfl, rfl⟩)
    go_ret
    exact ⟨by unfold visB; rw [H5.out]; rfl, Below.refl _ _⟩
  · have D : Hid (visB vs = visTo vs vs.length) := by show _ = _; unfold visB; rw [h5]; rfl
    have H5 := hide h5
    clear h5
    go_enter Tryz.func132, Tryz.ntmps132
    go_wp2_with (go_at_call 46; refine (within_val _ _ _ _ H5.out _).mono ?_; rintro e w0 ⟨rfl, rfl⟩)
    go_loopw [3, 12] (fun q i wr => ∃ (k : Nat), k ≤ vs.length ∧ i = .int .i64 k ∧ q = .int .i64 (freeAt vs k) ∧ Hid (visTo vs k = true) ∧ Below w0.heap.size w0 wr) (fun _ i _ => vs.length - (intOf i).toNat)
    case atStart => exact ⟨0, Nat.zero_le _, rfl, rfl, rfl, Below.refl _ _⟩
    case round =>
      obtain ⟨k, hk, rfl, rfl, HK, hbw⟩ := hrel
      by_cases hlt : k < vs.length
      · obtain ⟨b, off, rfl, hblt, e0, e1, e2⟩ := hc.later hbw k hlt
        have hsz := hs _ (List.getElem_mem hlt)
        obtain ⟨f0, f1⟩ := freeAt_bd HK.out hk
        have HV := hide (vis_free HK.out hlt)
        have HFS := hide (freeAt_succ vs k hlt)
        clear hc hs
        generalize vs[k] = c at e0 e1 e2 hsz HV HFS
        generalize freeAt vs k = fr at f0 f1 HV
        cases hn : nameB c.1
        · have HN := hide hn
          have HF : Hid (visOkAt vs k = false) := by show _ = _; rw [HV.out, hn]; rfl
          clear hn
          go_wp2_with (first
            | (go_at_call 84; refine (nameOk_val _ _ HN.out hsz _).mono ?_; rintro e w1 ⟨rfl, hb1⟩; obtain ⟨B1, hz1, x0, x1, x2⟩ := new3 hb1; clear hb1))
          go_ret
          exact ⟨by rw [D.out]; exact congrArg (fun b => Ending.returned (.bool b)) (all_bad hlt HF.out).symm, below_old hbw B1⟩
        cases ha : inB c.2.1 fr 200
        · have HN := hide hn
          have HA := hide ha
          have HF : Hid (visOkAt vs k = false) := by show _ = _; rw [HV.out, hn, ha]; rfl
          clear hn ha
          go_wp2_with (first
            | (go_at_call 84; refine (nameOk_val _ _ HN.out hsz _).mono ?_; rintro e w1 ⟨rfl, hb1⟩; obtain ⟨B1, hz1, x0, x1, x2⟩ := new3 hb1; clear hb1)
            | (go_at_call_of 46 (Value.int .i64 200); refine (within_val _ _ _ _ HA.out _).mono ?_; rintro e w2 ⟨rfl, rfl⟩))
          go_ret
          exact ⟨by rw [D.out]; exact congrArg (fun b => Ending.returned (.bool b)) (all_bad hlt HF.out).symm, below_old hbw B1⟩
        cases hS : inB c.2.2 1 30
        · have HN := hide hn
          have HA := hide ha
          have HS := hide hS
          have HF : Hid (visOkAt vs k = false) := by show _ = _; rw [HV.out, hn, ha, hS]; rfl
          clear hn ha hS
          go_wp2_with (first
            | (go_at_call 84; refine (nameOk_val _ _ HN.out hsz _).mono ?_; rintro e w1 ⟨rfl, hb1⟩; obtain ⟨B1, hz1, x0, x1, x2⟩ := new3 hb1; clear hb1)
            | (go_at_call_of 46 (Value.int .i64 200); refine (within_val _ _ _ _ HA.out _).mono ?_; rintro e w2 ⟨rfl, rfl⟩)
            | (go_at_call_of 46 (Value.int .i64 30); refine (within_val _ _ _ _ HS.out _).mono ?_; rintro e w3 ⟨rfl, rfl⟩))
          go_ret
          exact ⟨by rw [D.out]; exact congrArg (fun b => Ending.returned (.bool b)) (all_bad hlt HF.out).symm, below_old hbw B1⟩
        have HN := hide hn
        have HA := hide ha
        have HS := hide hS
        have HT : Hid (visOkAt vs k = true) := by show _ = _; rw [HV.out, hn, ha, hS]; rfl
        obtain ⟨a0, a1⟩ := inB_iff.1 ha
        obtain ⟨s0, s1⟩ := inB_iff.1 hS
        clear hn ha hS
        go_wp2_with (first
          | (go_at_call 84; refine (nameOk_val _ _ HN.out hsz _).mono ?_; rintro e w1 ⟨rfl, hb1⟩; obtain ⟨B1, hz1, x0, x1, x2⟩ := new3 hb1; clear hb1)
          | (go_at_call_of 46 (Value.int .i64 200); refine (within_val _ _ _ _ HA.out _).mono ?_; rintro e w2 ⟨rfl, rfl⟩)
          | (go_at_call_of 46 (Value.int .i64 30); refine (within_val _ _ _ _ HS.out _).mono ?_; rintro e w3 ⟨rfl, rfl⟩))
        go_roundw
        case rel => exact ⟨k + 1, by omega, by go_num, by rw [HFS.out], all_succ HK.out HT.out, below_old hbw B1⟩
        case measure => simp [intOf]; omega
      · go_wp2
        go_ret
        have : k = vs.length := by omega
        subst this
        exact ⟨by rw [D.out, HK.out]; rfl, hbw⟩

end Go.Proofs.YtciacofibljmoaaGreatDoor

/- A region that draws its order, whose own operations only read, and whose callees may make memory: one walk in the order of the text. -/
namespace Go.Proofs.YtciacofibljmoaaGreatDoor
open Go.RowKit

/-- A world that has grown out of W: what was there is as it was. -/
structure Grow (W : World) where
  val : World
  below : Below W.heap.size W val

theorem grow_some (W : World) : Nonempty (Grow W) := ⟨⟨W, Below.refl _ _⟩⟩
theorem wp_region_grow {P : Program} {id : Nat} {Q : Exit → Act → World → Prop} {a : Act} {w : World} {l : List Oper} (hm : P.follows .mixedOrders = true) (hB : Region.lexB .any l.toArray = true)
    (h : wpQuiet P l.toArray (fun w' => ∃ u : Grow w, w' = u.val) (fun a' => ∀ w', (∃ u : Grow w, w' = u.val) → Q .normal a' w') l a) : (Code.region id l.toArray true).wp P Q a w :=
  wp_region_quiet (C := fun w' => ∃ u : Grow w, w' = u.val) hm hB ⟨⟨w.drew, (Below.refl _ _).drew⟩, rfl⟩ (by simpa using h)
theorem grow_of {P : Program} {f : FuncId} {args : Array Value} {W : World} {u : Grow W} {v : Value} (h : Calls P f args u.val fun e w' => e = .returned v ∧ Below u.val.heap.size u.val w') :
    Calls P f args u.val fun e w'' => e = .returned v ∧ ∃ u' : Grow W, w'' = u'.val := h.mono fun _ w1 ⟨he, hb⟩ => ⟨he, ⟨w1, below_two u.below hb⟩, rfl⟩
theorem grow_same {P : Program} {f : FuncId} {args : Array Value} {W : World} {u : Grow W} {v : Value} (h : Calls P f args u.val fun e w' => e = .returned v ∧ w' = u.val) :
    Calls P f args u.val fun e w'' => e = .returned v ∧ ∃ u' : Grow W, w'' = u'.val := h.mono fun _ _ ⟨he, hb⟩ => ⟨he, u, hb⟩
theorem grow_cell {W : World} {a : Addr} {v : Value} (h : W.cell? a = some v) (u : Grow W) : u.val.cell? a = some v := cell_later u.below h

theorem alloc4 (wr : World) (a b c d : Value) (t : TypeId) : ∃ W, wr.alloc (.cells #[a, b, c, d] t) = W ∧ W.cell? ⟨wr.heap.size, 0, none⟩ = some a ∧ W.cell? ⟨wr.heap.size, 1, none⟩ = some b ∧ W.cell? ⟨wr.heap.size, 2, none⟩ = some c ∧ W.cell? ⟨wr.heap.size, 3, none⟩ = some d ∧ Below wr.heap.size wr W :=
  ⟨_, rfl, by simp, by simp, by simp, by simp, (Below.refl _ _).alloc (Nat.le_refl _) _⟩

/-- A flight at a place is ok, and behind the one ahead of it. -/
def fliOkAt (fs : List Fli) (i : Nat) : Bool :=
  nameB (fs.getD i (ByteArray.empty, 0, 0, [])).1 && (decide (i = 0) || ahead (fs.getD (i - 1) (ByteArray.empty, 0, 0, [])).1 (fs.getD i (ByteArray.empty, 0, 0, [])).1) &&
    inB (fs.getD i (ByteArray.empty, 0, 0, [])).2.1 0 10000 && inB (fs.getD i (ByteArray.empty, 0, 0, [])).2.2.1 0 60 && visB (fs.getD i (ByteArray.empty, 0, 0, [])).2.2.2
def flisTo (fs : List Fli) (k : Nat) : Bool := (List.range k).all (fliOkAt fs)
def flisB (fs : List Fli) : Bool := decide (fs.length ≤ 8) && flisTo fs fs.length

theorem l1VisitsOk_val (a : Option Addr) (cap : Nat) (vs : List Vis) (q : Bool) (h : visB vs = q) (w : World) (hc : VisitsIn w a vs) (hl : vs.length ≤ 1048576) (hs : ∀ v ∈ vs, v.1.size ≤ maxLen) :
    Calls Tryz.prog 52 #[.slice a vs.length cap] w fun e w' => e = .returned (.bool q) ∧ Below w.heap.size w w' := by rw [← h]; exact l1VisitsOk_any a cap vs w hc hl hs

set_option maxRecDepth 100000 in
set_option maxHeartbeats 3200000 in
theorem specFlightsOk_any (a : Option Addr) (cap : Nat) (fs : List Fli) (w : World) (hc : FlightsIn w a fs) (hl : fs.length ≤ 1048576) (hvl : ∀ f ∈ fs, f.2.2.2.length ≤ 1048576) (hs : ∀ f ∈ fs, SizesOk f) :
    Calls Tryz.prog 32 #[.slice a fs.length cap] w fun e w' => e = .returned (.bool (flisB fs)) ∧ Below w.heap.size w w' := by
  by_cases h8 : (8 : Int) < (fs.length : Int)
  · go_enter Tryz.func32, Tryz.ntmps32
    go_wp2
    go_ret
    have : decide (fs.length ≤ 8) = false := decide_eq_false (by omega)
    exact ⟨by simp [flisB, this], Below.refl _ _⟩
  · have d8 : decide (fs.length ≤ 8) = true := decide_eq_true (by omega)
    have D : Hid (flisB fs = flisTo fs fs.length) := by show _ = _; simp [flisB, d8]
    clear d8
    go_enter Tryz.func32, Tryz.ntmps32
    go_wp2
    go_loopw [3] (fun i wr => ∃ (k : Nat), k ≤ fs.length ∧ i = .int .i64 k ∧ Hid (flisTo fs k = true) ∧ Below w.heap.size w wr) (fun i _ => fs.length - (intOf i).toNat)
    case atStart => exact ⟨0, Nat.zero_le _, rfl, rfl, Below.refl _ _⟩
    case round =>
      obtain ⟨k, hk, rfl, HK, hbw⟩ := hrel
      by_cases hlt : k < fs.length
      · obtain ⟨b, off, rfl, hblt, e0, e1, e2, av, cv, e3, hv⟩ := hc.later hbw k hlt
        obtain ⟨hsz, _, hvs⟩ := hs _ (List.getElem_mem hlt)
        have hvk := hvl _ (List.getElem_mem hlt)
        have k0 : (0 : Int) ≤ (k : Int) := by omega
        have k1 : (k : Int) < (fs.length : Int) := by omega
        have HC := hide hc
        have HA : Hid (fliOkAt fs k = (nameB fs[k].1 && (decide (k = 0) || ahead (fs.getD (k - 1) (ByteArray.empty, 0, 0, [])).1 fs[k].1) && inB fs[k].2.1 0 10000 && inB fs[k].2.2.1 0 60 && visB fs[k].2.2.2)) := by
          show _ = _
          unfold fliOkAt
          rw [getD_at fs k _ hlt]
        clear hc hs hvl
        have HV := hide hv
        have HVS := hide hvs
        clear hv hvs
        generalize fs[k] = c at e0 e1 e2 e3 hsz HV HVS hvk HA
        cases hn : nameB c.1
        · have HN := hide hn
          have HF : Hid (fliOkAt fs k = false) := by show _ = _; rw [HA.out, hn]; rfl
          clear hn
          go_wp2
          obtain ⟨W, hW, x0, x1, x2, x3, hWb⟩ := alloc4 wr (.string c.1) (.int .i64 c.2.1) (.int .i64 c.2.2.1) (.slice av c.2.2.2.length cv) 32
          rw [hW]
          have y0 := grow_cell x0
          have y1 := grow_cell x1
          have y2 := grow_cell x2
          have y3 := grow_cell x3
          have hne := grow_some W
          clear hW x0 x1 x2 x3
          refine wp_region_grow (by kernel_rfl) (by kernel_rfl) ?_
          repeat (go_big_quiet_step (((go_at_call 50; exact grow_same (l1NameOk_val _ _ HN.out hsz _)))))
          refine wpQuiet_nil ?_
          intro _ hw'
          obtain ⟨u, hw''⟩ := hw'
          subst hw''
          go_wp2
          go_ret
          exact ⟨by rw [D.out]; exact congrArg (fun b => Ending.returned (.bool b)) (all_bad hlt HF.out).symm, below_two (below_two hbw hWb) u.below⟩
        have HN := hide hn
        rw [hn] at HA
        clear hn
        cases k with
        | zero =>
          simp only [Nat.zero_mul, Nat.add_zero] at e0 e1 e2 e3
          cases hp : inB c.2.1 0 10000
          · have HP := hide hp
            have HF : Hid (fliOkAt fs 0 = false) := by show _ = _; rw [HA.out, hp]; simp
            clear hp
            go_wp2
            obtain ⟨W, hW, x0, x1, x2, x3, hWb⟩ := alloc4 wr (.string c.1) (.int .i64 c.2.1) (.int .i64 c.2.2.1) (.slice av c.2.2.2.length cv) 32
            rw [hW]
            have y0 := grow_cell x0
            have y1 := grow_cell x1
            have y2 := grow_cell x2
            have y3 := grow_cell x3
            have hne := grow_some W
            clear hW x0 x1 x2 x3
            refine wp_region_grow (by kernel_rfl) (by kernel_rfl) ?_
            repeat (go_big_quiet_step ((first | (go_at_call 50; exact grow_same (l1NameOk_val _ _ HN.out hsz _)) | (go_at_call_of 51 (Value.int .i64 10000); exact grow_same (l1In_val _ _ _ _ HP.out _)))))
            refine wpQuiet_nil ?_
            intro _ hw'
            obtain ⟨u, hw''⟩ := hw'
            subst hw''
            go_wp2
            go_ret
            exact ⟨by rw [D.out]; exact congrArg (fun b => Ending.returned (.bool b)) (all_bad hlt HF.out).symm, below_two (below_two hbw hWb) u.below⟩
          cases hq : inB c.2.2.1 0 60
          · have HP := hide hp
            have HL := hide hq
            have HF : Hid (fliOkAt fs 0 = false) := by show _ = _; rw [HA.out, hq]; simp
            clear hp hq
            go_wp2
            obtain ⟨W, hW, x0, x1, x2, x3, hWb⟩ := alloc4 wr (.string c.1) (.int .i64 c.2.1) (.int .i64 c.2.2.1) (.slice av c.2.2.2.length cv) 32
            rw [hW]
            have y0 := grow_cell x0
            have y1 := grow_cell x1
            have y2 := grow_cell x2
            have y3 := grow_cell x3
            have hne := grow_some W
            clear hW x0 x1 x2 x3
            refine wp_region_grow (by kernel_rfl) (by kernel_rfl) ?_
            repeat (go_big_quiet_step ((first | (go_at_call 50; exact grow_same (l1NameOk_val _ _ HN.out hsz _)) | (go_at_call_of 51 (Value.int .i64 10000); exact grow_same (l1In_val _ _ _ _ HP.out _)) | (go_at_call_of 51 (Value.int .i64 60); exact grow_same (l1In_val _ _ _ _ HL.out _)))))
            refine wpQuiet_nil ?_
            intro _ hw'
            obtain ⟨u, hw''⟩ := hw'
            subst hw''
            go_wp2
            go_ret
            exact ⟨by rw [D.out]; exact congrArg (fun b => Ending.returned (.bool b)) (all_bad hlt HF.out).symm, below_two (below_two hbw hWb) u.below⟩
          cases hb : visB c.2.2.2
          · have HP := hide hp
            have HL := hide hq
            have HB := hide hb
            have HF : Hid (fliOkAt fs 0 = false) := by show _ = _; rw [HA.out, hb]; simp
            clear hp hq hb
            go_wp2
            obtain ⟨W, hW, x0, x1, x2, x3, hWb⟩ := alloc4 wr (.string c.1) (.int .i64 c.2.1) (.int .i64 c.2.2.1) (.slice av c.2.2.2.length cv) 32
            rw [hW]
            have y0 := grow_cell x0
            have y1 := grow_cell x1
            have y2 := grow_cell x2
            have y3 := grow_cell x3
            have hne := grow_some W
            clear hW x0 x1 x2 x3
            refine wp_region_grow (by kernel_rfl) (by kernel_rfl) ?_
            repeat (go_big_quiet_step ((first | (go_at_call 50; exact grow_same (l1NameOk_val _ _ HN.out hsz _)) | (go_at_call_of 51 (Value.int .i64 10000); exact grow_same (l1In_val _ _ _ _ HP.out _)) | (go_at_call_of 51 (Value.int .i64 60); exact grow_same (l1In_val _ _ _ _ HL.out _)) | (go_at_call 52; exact grow_of (l1VisitsOk_val _ _ _ _ HB.out _ ((HV.out.later hWb).later (Grow.below _)) hvk HVS.out)))))
            refine wpQuiet_nil ?_
            intro _ hw'
            obtain ⟨u, hw''⟩ := hw'
            subst hw''
            go_wp2
            go_ret
            exact ⟨by rw [D.out]; exact congrArg (fun b => Ending.returned (.bool b)) (all_bad hlt HF.out).symm, below_two (below_two hbw hWb) u.below⟩
          have HP := hide hp
          have HL := hide hq
          have HB := hide hb
          have HT : Hid (fliOkAt fs 0 = true) := by show _ = _; rw [HA.out, hp, hq, hb]; rfl
          clear hp hq hb
          go_wp2
          obtain ⟨W, hW, x0, x1, x2, x3, hWb⟩ := alloc4 wr (.string c.1) (.int .i64 c.2.1) (.int .i64 c.2.2.1) (.slice av c.2.2.2.length cv) 32
          rw [hW]
          have y0 := grow_cell x0
          have y1 := grow_cell x1
          have y2 := grow_cell x2
          have y3 := grow_cell x3
          have hne := grow_some W
          clear hW x0 x1 x2 x3
          refine wp_region_grow (by kernel_rfl) (by kernel_rfl) ?_
          repeat (go_big_quiet_step ((first | (go_at_call 50; exact grow_same (l1NameOk_val _ _ HN.out hsz _)) | (go_at_call_of 51 (Value.int .i64 10000); exact grow_same (l1In_val _ _ _ _ HP.out _)) | (go_at_call_of 51 (Value.int .i64 60); exact grow_same (l1In_val _ _ _ _ HL.out _)) | (go_at_call 52; exact grow_of (l1VisitsOk_val _ _ _ _ HB.out _ ((HV.out.later hWb).later (Grow.below _)) hvk HVS.out)))))
          refine wpQuiet_nil ?_
          intro _ hw'
          obtain ⟨u, hw''⟩ := hw'
          subst hw''
          go_wp2
          go_roundw
          case rel => exact ⟨_ + 1, by omega, by go_num, all_succ HK.out HT.out, below_two (below_two hbw hWb) u.below⟩
          case measure => simp [intOf]; omega
        | succ j =>
          obtain ⟨b', off', hsame, _, g0, _⟩ := HC.out.later hbw j (by omega)
          obtain ⟨rfl, rfl⟩ : b = b' ∧ off = off' := by simpa using hsame
          rw [show j + 1 - 1 = j from rfl, getD_at fs j _ (by omega)] at HA
          generalize fs[j] = p at g0 HA
          clear hsame
          have j0 : (0 : Int) ≤ (j : Int) := by omega
          have j1 : (j : Int) < (fs.length : Int) := by omega
          cases ht : ahead p.1 c.1
          · have ht' : Op.bytesLess p.1.toList c.1.toList = false := ht
            have HF : Hid (fliOkAt fs (j + 1) = false) := by show _ = _; rw [HA.out, ht]; simp
            clear ht
            go_wp2
            obtain ⟨W, hW, x0, x1, x2, x3, hWb⟩ := alloc4 wr (.string c.1) (.int .i64 c.2.1) (.int .i64 c.2.2.1) (.slice av c.2.2.2.length cv) 32
            rw [hW]
            have y0 := grow_cell x0
            have y1 := grow_cell x1
            have y2 := grow_cell x2
            have y3 := grow_cell x3
            have y9 := grow_cell (cell_later hWb g0)
            have hne := grow_some W
            clear hW x0 x1 x2 x3 g0
            refine wp_region_grow (by kernel_rfl) (by kernel_rfl) ?_
            repeat (go_big_quiet_step (((go_at_call 50; exact grow_same (l1NameOk_val _ _ HN.out hsz _)))))
            refine wpQuiet_nil ?_
            intro _ hw'
            obtain ⟨u, hw''⟩ := hw'
            subst hw''
            go_wp2
            go_ret
            exact ⟨by rw [D.out]; exact congrArg (fun b => Ending.returned (.bool b)) (all_bad hlt HF.out).symm, below_two (below_two hbw hWb) u.below⟩
          have ht' : Op.bytesLess p.1.toList c.1.toList = true := ht
          rw [ht] at HA
          clear ht
          cases hp : inB c.2.1 0 10000
          · have HP := hide hp
            have HF : Hid (fliOkAt fs (j + 1) = false) := by show _ = _; rw [HA.out, hp]; simp
            clear hp
            go_wp2
            obtain ⟨W, hW, x0, x1, x2, x3, hWb⟩ := alloc4 wr (.string c.1) (.int .i64 c.2.1) (.int .i64 c.2.2.1) (.slice av c.2.2.2.length cv) 32
            rw [hW]
            have y0 := grow_cell x0
            have y1 := grow_cell x1
            have y2 := grow_cell x2
            have y3 := grow_cell x3
            have y9 := grow_cell (cell_later hWb g0)
            have hne := grow_some W
            clear hW x0 x1 x2 x3 g0
            refine wp_region_grow (by kernel_rfl) (by kernel_rfl) ?_
            repeat (go_big_quiet_step ((first | (go_at_call 50; exact grow_same (l1NameOk_val _ _ HN.out hsz _)) | (go_at_call_of 51 (Value.int .i64 10000); exact grow_same (l1In_val _ _ _ _ HP.out _)))))
            refine wpQuiet_nil ?_
            intro _ hw'
            obtain ⟨u, hw''⟩ := hw'
            subst hw''
            go_wp2
            go_ret
            exact ⟨by rw [D.out]; exact congrArg (fun b => Ending.returned (.bool b)) (all_bad hlt HF.out).symm, below_two (below_two hbw hWb) u.below⟩
          cases hq : inB c.2.2.1 0 60
          · have HP := hide hp
            have HL := hide hq
            have HF : Hid (fliOkAt fs (j + 1) = false) := by show _ = _; rw [HA.out, hq]; simp
            clear hp hq
            go_wp2
            obtain ⟨W, hW, x0, x1, x2, x3, hWb⟩ := alloc4 wr (.string c.1) (.int .i64 c.2.1) (.int .i64 c.2.2.1) (.slice av c.2.2.2.length cv) 32
            rw [hW]
            have y0 := grow_cell x0
            have y1 := grow_cell x1
            have y2 := grow_cell x2
            have y3 := grow_cell x3
            have y9 := grow_cell (cell_later hWb g0)
            have hne := grow_some W
            clear hW x0 x1 x2 x3 g0
            refine wp_region_grow (by kernel_rfl) (by kernel_rfl) ?_
            repeat (go_big_quiet_step ((first | (go_at_call 50; exact grow_same (l1NameOk_val _ _ HN.out hsz _)) | (go_at_call_of 51 (Value.int .i64 10000); exact grow_same (l1In_val _ _ _ _ HP.out _)) | (go_at_call_of 51 (Value.int .i64 60); exact grow_same (l1In_val _ _ _ _ HL.out _)))))
            refine wpQuiet_nil ?_
            intro _ hw'
            obtain ⟨u, hw''⟩ := hw'
            subst hw''
            go_wp2
            go_ret
            exact ⟨by rw [D.out]; exact congrArg (fun b => Ending.returned (.bool b)) (all_bad hlt HF.out).symm, below_two (below_two hbw hWb) u.below⟩
          cases hb : visB c.2.2.2
          · have HP := hide hp
            have HL := hide hq
            have HB := hide hb
            have HF : Hid (fliOkAt fs (j + 1) = false) := by show _ = _; rw [HA.out, hb]; simp
            clear hp hq hb
            go_wp2
            obtain ⟨W, hW, x0, x1, x2, x3, hWb⟩ := alloc4 wr (.string c.1) (.int .i64 c.2.1) (.int .i64 c.2.2.1) (.slice av c.2.2.2.length cv) 32
            rw [hW]
            have y0 := grow_cell x0
            have y1 := grow_cell x1
            have y2 := grow_cell x2
            have y3 := grow_cell x3
            have y9 := grow_cell (cell_later hWb g0)
            have hne := grow_some W
            clear hW x0 x1 x2 x3 g0
            refine wp_region_grow (by kernel_rfl) (by kernel_rfl) ?_
            repeat (go_big_quiet_step ((first | (go_at_call 50; exact grow_same (l1NameOk_val _ _ HN.out hsz _)) | (go_at_call_of 51 (Value.int .i64 10000); exact grow_same (l1In_val _ _ _ _ HP.out _)) | (go_at_call_of 51 (Value.int .i64 60); exact grow_same (l1In_val _ _ _ _ HL.out _)) | (go_at_call 52; exact grow_of (l1VisitsOk_val _ _ _ _ HB.out _ ((HV.out.later hWb).later (Grow.below _)) hvk HVS.out)))))
            refine wpQuiet_nil ?_
            intro _ hw'
            obtain ⟨u, hw''⟩ := hw'
            subst hw''
            go_wp2
            go_ret
            exact ⟨by rw [D.out]; exact congrArg (fun b => Ending.returned (.bool b)) (all_bad hlt HF.out).symm, below_two (below_two hbw hWb) u.below⟩
          have HP := hide hp
          have HL := hide hq
          have HB := hide hb
          have HT : Hid (fliOkAt fs (j + 1) = true) := by show _ = _; rw [HA.out, hp, hq, hb]; rfl
          clear hp hq hb
          go_wp2
          obtain ⟨W, hW, x0, x1, x2, x3, hWb⟩ := alloc4 wr (.string c.1) (.int .i64 c.2.1) (.int .i64 c.2.2.1) (.slice av c.2.2.2.length cv) 32
          rw [hW]
          have y0 := grow_cell x0
          have y1 := grow_cell x1
          have y2 := grow_cell x2
          have y3 := grow_cell x3
          have y9 := grow_cell (cell_later hWb g0)
          have hne := grow_some W
          clear hW x0 x1 x2 x3 g0
          refine wp_region_grow (by kernel_rfl) (by kernel_rfl) ?_
          repeat (go_big_quiet_step ((first | (go_at_call 50; exact grow_same (l1NameOk_val _ _ HN.out hsz _)) | (go_at_call_of 51 (Value.int .i64 10000); exact grow_same (l1In_val _ _ _ _ HP.out _)) | (go_at_call_of 51 (Value.int .i64 60); exact grow_same (l1In_val _ _ _ _ HL.out _)) | (go_at_call 52; exact grow_of (l1VisitsOk_val _ _ _ _ HB.out _ ((HV.out.later hWb).later (Grow.below _)) hvk HVS.out)))))
          refine wpQuiet_nil ?_
          intro _ hw'
          obtain ⟨u, hw''⟩ := hw'
          subst hw''
          go_wp2
          go_roundw
          case rel => exact ⟨_ + 1, by omega, by go_num, all_succ HK.out HT.out, below_two (below_two hbw hWb) u.below⟩
          case measure => simp [intOf]; omega
      · go_wp2
        go_ret
        have : k = fs.length := by omega
        subst this
        exact ⟨by rw [D.out, HK.out]; rfl, hbw⟩

end Go.Proofs.YtciacofibljmoaaGreatDoor

/- The program's check of flights, walked. -/
namespace Go.Proofs.YtciacofibljmoaaGreatDoor
open Go.RowKit

set_option maxHeartbeats 400000 in
theorem fliName_any (f : Fli) (av : Option Addr) (cv : Nat) (w : World) :
    Calls Tryz.prog 130 #[.agg #[.string f.1, .int .i64 f.2.1, .int .i64 f.2.2.1, .slice av f.2.2.2.length cv]] w fun e w' => e = .returned (.string f.1) ∧ Below w.heap.size w w' := by
  go_enter Tryz.func130, Tryz.ntmps130
  go_wp2
  go_ret
  exact ⟨rfl, (Below.refl _ _).alloc (Nat.le_refl _) _⟩

/-- What a flight's own parts ask. -/
def partsB (f : Fli) : Bool := inB f.2.1 0 10000 && inB f.2.2.1 0 60 && visB f.2.2.2
theorem visitsOk_val (a : Option Addr) (cap : Nat) (vs : List Vis) (q : Bool) (h : visB vs = q) (w : World) (hc : VisitsIn w a vs) (hl : vs.length ≤ 1048576) (hs : ∀ v ∈ vs, v.1.size ≤ maxLen) :
    Calls Tryz.prog 132 #[.slice a vs.length cap] w fun e w' => e = .returned (.bool q) ∧ Below w.heap.size w w' := by rw [← h]; exact visitsOk_any a cap vs w hc hl hs

set_option maxHeartbeats 800000 in
theorem fliParts_any (f : Fli) (av : Option Addr) (cv : Nat) (w : World) (hv : VisitsIn w av f.2.2.2) (hl : f.2.2.2.length ≤ 1048576) (hs : ∀ v ∈ f.2.2.2, v.1.size ≤ maxLen) :
    Calls Tryz.prog 131 #[.agg #[.string f.1, .int .i64 f.2.1, .int .i64 f.2.2.1, .slice av f.2.2.2.length cv]] w fun e w' => e = .returned (.bool (partsB f)) ∧ Below w.heap.size w w' := by
  have hb0 : ∀ o, Below w.heap.size w (w.alloc o) := fun o => (Below.refl _ _).alloc (Nat.le_refl _) _
  have HV := hide hv
  have HS := hide hs
  clear hv hs
  cases hp : inB f.2.1 0 10000
  · have HP := hide hp
    have HR : Hid (partsB f = false) := by show _ = _; unfold partsB; rw [hp]; rfl
    clear hp
    go_enter Tryz.func131, Tryz.ntmps131
    go_wp2_with (go_at_call_of 46 (Value.int .i64 10000); refine (within_val _ _ _ _ HP.out _).mono ?_; rintro e w1 ⟨rfl, rfl⟩)
    go_ret
    exact ⟨by rw [HR.out]; rfl, hb0 _⟩
  cases hq : inB f.2.2.1 0 60
  · have HP := hide hp
    have HQ := hide hq
    have HR : Hid (partsB f = false) := by show _ = _; unfold partsB; rw [hp, hq]; rfl
    clear hp hq
    go_enter Tryz.func131, Tryz.ntmps131
    go_wp2_with (first | (go_at_call_of 46 (Value.int .i64 10000); refine (within_val _ _ _ _ HP.out _).mono ?_; rintro e w1 ⟨rfl, rfl⟩) | (go_at_call_of 46 (Value.int .i64 60); refine (within_val _ _ _ _ HQ.out _).mono ?_; rintro e w1 ⟨rfl, rfl⟩))
    go_ret
    exact ⟨by rw [HR.out]; rfl, hb0 _⟩
  have HP := hide hp
  have HQ := hide hq
  have HR : Hid (partsB f = visB f.2.2.2) := by show _ = _; unfold partsB; rw [hp, hq]; rfl
  clear hp hq
  go_enter Tryz.func131, Tryz.ntmps131
  go_wp2_with (first | (go_at_call_of 46 (Value.int .i64 10000); refine (within_val _ _ _ _ HP.out _).mono ?_; rintro e w1 ⟨rfl, rfl⟩) | (go_at_call_of 46 (Value.int .i64 60); refine (within_val _ _ _ _ HQ.out _).mono ?_; rintro e w1 ⟨rfl, rfl⟩) | (go_at_call 132; refine (visitsOk_any _ _ _ _ (HV.out.later (hb0 _)) hl HS.out).mono ?_; rintro e w2 ⟨rfl, hb2⟩))
  go_ret
  exact ⟨by rw [HR.out]; rfl, below_two (hb0 _) hb2⟩
theorem fliParts_val (f : Fli) (av : Option Addr) (cv : Nat) (q : Bool) (h : partsB f = q) (w : World) (hv : VisitsIn w av f.2.2.2) (hl : f.2.2.2.length ≤ 1048576) (hs : ∀ v ∈ f.2.2.2, v.1.size ≤ maxLen) :
    Calls Tryz.prog 131 #[.agg #[.string f.1, .int .i64 f.2.1, .int .i64 f.2.2.1, .slice av f.2.2.2.length cv]] w fun e w' => e = .returned (.bool q) ∧ Below w.heap.size w w' := by
  rw [← h]; exact fliParts_any f av cv w hv hl hs

theorem fli_method_name (f : Nat) (x : Value) (w : World) : (method (f + 1) 32 x "loop.example/lapflow/impl.name").run Tryz.prog w = .ok (130, x) w := by kernel_rfl
theorem fli_method_parts (f : Nat) (x : Value) (w : World) : (method (f + 1) 32 x "loop.example/lapflow/impl.partsOk").run Tryz.prog w = .ok (131, x) w := by kernel_rfl

theorem new4 {wr w1 : World} {u v x y : Value} {t : TypeId} (h : Below (wr.alloc (.cells #[u, v, x, y] t)).heap.size (wr.alloc (.cells #[u, v, x, y] t)) w1) :
    Below (wr.heap.size + 1) (wr.alloc (.cells #[u, v, x, y] t)) w1 ∧ wr.heap.size + 1 ≤ w1.heap.size ∧ w1.cell? ⟨wr.heap.size, 0, none⟩ = some u ∧ w1.cell? ⟨wr.heap.size, 1, none⟩ = some v ∧ w1.cell? ⟨wr.heap.size, 2, none⟩ = some x ∧ w1.cell? ⟨wr.heap.size, 3, none⟩ = some y := by
  have hB : Below (wr.heap.size + 1) (wr.alloc (.cells #[u, v, x, y] t)) w1 := h.mono (by simp)
  exact ⟨hB, by simpa using hB.size, by rw [hB.cell (p := ⟨wr.heap.size, 0, none⟩) (by simp)]; simp, by rw [hB.cell (p := ⟨wr.heap.size, 1, none⟩) (by simp)]; simp, by rw [hB.cell (p := ⟨wr.heap.size, 2, none⟩) (by simp)]; simp, by rw [hB.cell (p := ⟨wr.heap.size, 3, none⟩) (by simp)]; simp⟩

set_option maxRecDepth 100000 in
set_option maxHeartbeats 3200000 in
theorem namedFlights_any (a : Option Addr) (cap : Nat) (fs : List Fli) (w : World) (hc : FlightsIn w a fs) (hl : fs.length ≤ 1048576) (hvl : ∀ f ∈ fs, f.2.2.2.length ≤ 1048576) (hs : ∀ f ∈ fs, SizesOk f) :
    Calls Tryz.prog 85 #[.slice a fs.length cap, .int .i64 8] w fun e w' => e = .returned (.bool (flisB fs)) ∧ Below w.heap.size w w' := by
  by_cases h8 : (8 : Int) < (fs.length : Int)
  · go_enter Tryz.func85, Tryz.ntmps85
    go_wp2
    go_ret
    have : decide (fs.length ≤ 8) = false := decide_eq_false (by omega)
    exact ⟨by simp [flisB, this], Below.refl _ _⟩
  · have d8 : decide (fs.length ≤ 8) = true := decide_eq_true (by omega)
    have D : Hid (flisB fs = flisTo fs fs.length) := by show _ = _; simp [flisB, d8]
    clear d8
    go_enter Tryz.func85, Tryz.ntmps85
    go_wp2
    go_loopw [13] (fun i wr => ∃ (k : Nat), k ≤ fs.length ∧ i = .int .i64 k ∧ Hid (flisTo fs k = true) ∧ Below w.heap.size w wr) (fun i _ => fs.length - (intOf i).toNat)
    case atStart => exact ⟨0, Nat.zero_le _, rfl, rfl, Below.refl _ _⟩
    case round =>
      obtain ⟨k, hk, rfl, HK, hbw⟩ := hrel
      by_cases hlt : k < fs.length
      · obtain ⟨b, off, rfl, hblt, e0, e1, e2, av, cv, e3, hv⟩ := hc.later hbw k hlt
        obtain ⟨hsz, _, hvs⟩ := hs _ (List.getElem_mem hlt)
        have hvk := hvl _ (List.getElem_mem hlt)
        have k0 : (0 : Int) ≤ (k : Int) := by omega
        have k1 : (k : Int) < (fs.length : Int) := by omega
        have HC := hide hc
        have HA : Hid (fliOkAt fs k = (nameB fs[k].1 && (decide (k = 0) || ahead (fs.getD (k - 1) (ByteArray.empty, 0, 0, [])).1 fs[k].1) && partsB fs[k])) := by
          show _ = _
          unfold fliOkAt partsB
          rw [getD_at fs k _ hlt, Bool.and_assoc, Bool.and_assoc, Bool.and_assoc, Bool.and_assoc, Bool.and_assoc]
        clear hc hs hvl
        have HV := hide hv
        have HVS := hide hvs
        clear hv hvs
        generalize fs[k] = c at e0 e1 e2 e3 hsz HV HVS hvk HA
        have hm1 := fli_method_name
        have hm2 := fli_method_parts
        cases hn : nameB c.1
        · have HN := hide hn
          have HF : Hid (fliOkAt fs k = false) := by show _ = _; rw [HA.out, hn]; rfl
          clear hn
          go_wp2_with (first
            | (go_at_call 130; refine (fliName_any c av cv _).mono ?_; rintro e w1 ⟨rfl, hb1⟩; obtain ⟨B1, hz1, x0, x1, x2, x3⟩ := new4 hb1; clear hb1)
            | (go_at_call 84; refine (nameOk_val _ _ HN.out hsz _).mono ?_; rintro e w2 ⟨rfl, hb2⟩; have y0 := cell_later hb2 x0; have y1 := cell_later hb2 x1; have y2 := cell_later hb2 x2; have y3 := cell_later hb2 x3; have B2 := below_next B1 hz1 hb2; have hz2 := Nat.le_trans hz1 hb2.size; clear hb2))
          go_ret
          exact ⟨by rw [D.out]; exact congrArg (fun b => Ending.returned (.bool b)) (all_bad hlt HF.out).symm, below_old hbw B2⟩
        cases hp : partsB c
        · have HN := hide hn
          have HP := hide hp
          have HF : Hid (fliOkAt fs k = false) := by show _ = _; rw [HA.out, hp]; simp
          clear hn hp
          go_wp2_with (first
            | (go_at_call 130; refine (fliName_any c av cv _).mono ?_; rintro e w1 ⟨rfl, hb1⟩; obtain ⟨B1, hz1, x0, x1, x2, x3⟩ := new4 hb1; clear hb1)
            | (go_at_call 84; refine (nameOk_val _ _ HN.out hsz _).mono ?_; rintro e w2 ⟨rfl, hb2⟩; have y0 := cell_later hb2 x0; have y1 := cell_later hb2 x1; have y2 := cell_later hb2 x2; have y3 := cell_later hb2 x3; have B2 := below_next B1 hz1 hb2; have hz2 := Nat.le_trans hz1 hb2.size; clear hb2)
            | (go_at_call 131; refine (fliParts_val c av cv _ HP.out _ (HV.out.later (below_old (Below.refl _ _) B2)) hvk HVS.out).mono ?_; rintro e w3 ⟨rfl, hb3⟩; have t0 := cell_later hb3 y0; have t1 := cell_later hb3 y1; have t2 := cell_later hb3 y2; have t3 := cell_later hb3 y3; have B3 := below_next B2 hz2 hb3; clear hb3))
          go_ret
          exact ⟨by rw [D.out]; exact congrArg (fun b => Ending.returned (.bool b)) (all_bad hlt HF.out).symm, below_old hbw B3⟩
        have HN := hide hn
        have HP := hide hp
        rw [hn, hp] at HA
        clear hn hp
        cases k with
        | zero =>
          have HT : Hid (fliOkAt fs 0 = true) := by show _ = _; rw [HA.out]; rfl
          simp only [Nat.zero_mul, Nat.add_zero] at e0 e1 e2 e3
          go_wp2_with (first
            | (go_at_call 130; refine (fliName_any c av cv _).mono ?_; rintro e w1 ⟨rfl, hb1⟩; obtain ⟨B1, hz1, x0, x1, x2, x3⟩ := new4 hb1; clear hb1)
            | (go_at_call 84; refine (nameOk_val _ _ HN.out hsz _).mono ?_; rintro e w2 ⟨rfl, hb2⟩; have y0 := cell_later hb2 x0; have y1 := cell_later hb2 x1; have y2 := cell_later hb2 x2; have y3 := cell_later hb2 x3; have B2 := below_next B1 hz1 hb2; have hz2 := Nat.le_trans hz1 hb2.size; clear hb2)
            | (go_at_call 131; refine (fliParts_val c av cv _ HP.out _ (HV.out.later (below_old (Below.refl _ _) B2)) hvk HVS.out).mono ?_; rintro e w3 ⟨rfl, hb3⟩; have t0 := cell_later hb3 y0; have t1 := cell_later hb3 y1; have t2 := cell_later hb3 y2; have t3 := cell_later hb3 y3; have B3 := below_next B2 hz2 hb3; clear hb3))
          have hBW := below_old hbw B3
          have hne := grow_some w3
          refine wp_region_grow (by kernel_rfl) (by kernel_rfl) ?_
          repeat (go_big_quiet_step (fail))
          refine wpQuiet_nil ?_
          intro _ hw'
          obtain ⟨u, hw''⟩ := hw'
          subst hw''
          go_wp2
          go_roundw
          case rel => exact ⟨_ + 1, by omega, by go_num, all_succ HK.out HT.out, below_two hBW u.below⟩
          case measure => simp [intOf]; omega
        | succ j =>
          obtain ⟨b', off', hsame, _, g0, g1, g2, av', cv', g3, _⟩ := HC.out.later hbw j (by omega)
          obtain ⟨rfl, rfl⟩ : b = b' ∧ off = off' := by simpa using hsame
          rw [show j + 1 - 1 = j from rfl, getD_at fs j _ (by omega)] at HA
          generalize fs[j] = p at g0 g1 g2 g3 HA
          clear hsame
          have j0 : (0 : Int) ≤ (j : Int) := by omega
          have j1 : (j : Int) < (fs.length : Int) := by omega
          cases ht : ahead p.1 c.1
          · have ht' : Op.bytesLess p.1.toList c.1.toList = false := ht
            have HF : Hid (fliOkAt fs (j + 1) = false) := by show _ = _; rw [HA.out, ht]; simp
            clear ht
            go_wp2_with (first
              | (go_at_call 130; refine (fliName_any c av cv _).mono ?_; rintro e w1 ⟨rfl, hb1⟩; obtain ⟨B1, hz1, x0, x1, x2, x3⟩ := new4 hb1; clear hb1)
              | (go_at_call 84; refine (nameOk_val _ _ HN.out hsz _).mono ?_; rintro e w2 ⟨rfl, hb2⟩; have y0 := cell_later hb2 x0; have y1 := cell_later hb2 x1; have y2 := cell_later hb2 x2; have y3 := cell_later hb2 x3; have B2 := below_next B1 hz1 hb2; have hz2 := Nat.le_trans hz1 hb2.size; clear hb2)
              | (go_at_call 131; refine (fliParts_val c av cv _ HP.out _ (HV.out.later (below_old (Below.refl _ _) B2)) hvk HVS.out).mono ?_; rintro e w3 ⟨rfl, hb3⟩; have t0 := cell_later hb3 y0; have t1 := cell_later hb3 y1; have t2 := cell_later hb3 y2; have t3 := cell_later hb3 y3; have B3 := below_next B2 hz2 hb3; clear hb3))
            have hBW := below_old hbw B3
            have r0 := grow_cell t0
            have r1 := grow_cell t1
            have r2 := grow_cell t2
            have r3 := grow_cell t3
            have l0 := grow_cell (cell_far hbw B3 g0)
            have l1 := grow_cell (cell_far hbw B3 g1)
            have l2 := grow_cell (cell_far hbw B3 g2)
            have l3 := grow_cell (cell_far hbw B3 g3)
            have hne := grow_some w3
            refine wp_region_grow (by kernel_rfl) (by kernel_rfl) ?_
            repeat (go_big_quiet_step ((first | (go_at_call_of 130 (Value.string p.1); exact grow_of (fliName_any p _ _ _)) | (go_at_call_of 130 (Value.string c.1); exact grow_of (fliName_any c _ _ _)))))
            refine wpQuiet_nil ?_
            intro _ hw'
            obtain ⟨u, hw''⟩ := hw'
            subst hw''
            go_wp2
            go_ret
            exact ⟨by rw [D.out]; exact congrArg (fun b => Ending.returned (.bool b)) (all_bad hlt HF.out).symm, below_two hBW u.below⟩
          have ht' : Op.bytesLess p.1.toList c.1.toList = true := ht
          have HT : Hid (fliOkAt fs (j + 1) = true) := by show _ = _; rw [HA.out, ht]; simp
          clear ht
          go_wp2_with (first
            | (go_at_call 130; refine (fliName_any c av cv _).mono ?_; rintro e w1 ⟨rfl, hb1⟩; obtain ⟨B1, hz1, x0, x1, x2, x3⟩ := new4 hb1; clear hb1)
            | (go_at_call 84; refine (nameOk_val _ _ HN.out hsz _).mono ?_; rintro e w2 ⟨rfl, hb2⟩; have y0 := cell_later hb2 x0; have y1 := cell_later hb2 x1; have y2 := cell_later hb2 x2; have y3 := cell_later hb2 x3; have B2 := below_next B1 hz1 hb2; have hz2 := Nat.le_trans hz1 hb2.size; clear hb2)
            | (go_at_call 131; refine (fliParts_val c av cv _ HP.out _ (HV.out.later (below_old (Below.refl _ _) B2)) hvk HVS.out).mono ?_; rintro e w3 ⟨rfl, hb3⟩; have t0 := cell_later hb3 y0; have t1 := cell_later hb3 y1; have t2 := cell_later hb3 y2; have t3 := cell_later hb3 y3; have B3 := below_next B2 hz2 hb3; clear hb3))
          have hBW := below_old hbw B3
          have r0 := grow_cell t0
          have r1 := grow_cell t1
          have r2 := grow_cell t2
          have r3 := grow_cell t3
          have l0 := grow_cell (cell_far hbw B3 g0)
          have l1 := grow_cell (cell_far hbw B3 g1)
          have l2 := grow_cell (cell_far hbw B3 g2)
          have l3 := grow_cell (cell_far hbw B3 g3)
          have hne := grow_some w3
          refine wp_region_grow (by kernel_rfl) (by kernel_rfl) ?_
          repeat (go_big_quiet_step ((first | (go_at_call_of 130 (Value.string p.1); exact grow_of (fliName_any p _ _ _)) | (go_at_call_of 130 (Value.string c.1); exact grow_of (fliName_any c _ _ _)))))
          refine wpQuiet_nil ?_
          intro _ hw'
          obtain ⟨u, hw''⟩ := hw'
          subst hw''
          go_wp2
          go_roundw
          case rel => exact ⟨_ + 1, by omega, by go_num, all_succ HK.out HT.out, below_two hBW u.below⟩
          case measure => simp [intOf]; omega
      · go_wp2
        go_ret
        have : k = fs.length := by omega
        subst this
        exact ⟨by rw [D.out, HK.out]; rfl, hbw⟩

set_option maxHeartbeats 400000 in
theorem implFlightsOk_any (a : Option Addr) (cap : Nat) (fs : List Fli) (w : World) (hc : FlightsIn w a fs) (hl : fs.length ≤ 1048576) (hvl : ∀ f ∈ fs, f.2.2.2.length ≤ 1048576) (hs : ∀ f ∈ fs, SizesOk f) :
    Calls Tryz.prog 73 #[.slice a fs.length cap] w fun e w' => e = .returned (.bool (flisB fs)) ∧ Below w.heap.size w w' := by
  go_enter Tryz.func73, Tryz.ntmps73
  go_wp2_with (go_at_call 85; refine (namedFlights_any _ _ _ _ hc hl hvl hs).mono ?_; rintro e w' ⟨rfl, hb⟩)
  go_ret
  exact ⟨rfl, hb⟩

end Go.Proofs.YtciacofibljmoaaGreatDoor
