/- The program's check of caps, walked. -/
import Derived.Test.YtciacofibljmoaaGreatDoorSpecCaps
namespace Go.Proofs.YtciacofibljmoaaGreatDoor
open Go.RowKit

set_option maxHeartbeats 400000 in
theorem capName_any (s : ByteArray) (n : Int) (w : World) :
    Calls Tryz.prog 163 #[.agg #[.string s, .int .i64 n]] w fun e w' => e = .returned (.string s) ∧ Below w.heap.size w w' := by
  go_enter Tryz.func163, Tryz.ntmps163
  go_wp2
  go_ret
  exact ⟨rfl, (Below.refl _ _).alloc (Nat.le_refl _) _⟩

set_option maxHeartbeats 400000 in
theorem capParts_any (s : ByteArray) (n : Int) (w : World) :
    Calls Tryz.prog 164 #[.agg #[.string s, .int .i64 n]] w fun e w' => e = .returned (.bool (inB n 0 20)) ∧ Below w.heap.size w w' := by
  go_enter Tryz.func164, Tryz.ntmps164
  go_wp2_with (go_at_call 46; refine (within_any _ _ _ _).mono ?_; rintro e w' ⟨rfl, rfl⟩)
  go_ret
  exact ⟨rfl, (Below.refl _ _).alloc (Nat.le_refl _) _⟩

theorem cap_method_name (f : Nat) (x : Value) (w : World) : (method (f + 1) 61 x "loop.example/lapflow/impl.name").run Tryz.prog w = .ok (163, x) w := by kernel_rfl
theorem cap_method_parts (f : Nat) (x : Value) (w : World) : (method (f + 1) 61 x "loop.example/lapflow/impl.partsOk").run Tryz.prog w = .ok (164, x) w := by kernel_rfl

/-- A struct of two cells laid in a new block is still there. -/
theorem new2 {wr w1 : World} {u v : Value} {t : TypeId} (h : Below (wr.alloc (.cells #[u, v] t)).heap.size (wr.alloc (.cells #[u, v] t)) w1) :
    Below (wr.heap.size + 1) (wr.alloc (.cells #[u, v] t)) w1 ∧ wr.heap.size + 1 ≤ w1.heap.size ∧ w1.cell? ⟨wr.heap.size, 0, none⟩ = some u ∧ w1.cell? ⟨wr.heap.size, 1, none⟩ = some v := by
  have hB : Below (wr.heap.size + 1) (wr.alloc (.cells #[u, v] t)) w1 := h.mono (by simp)
  exact ⟨hB, by simpa using hB.size, by rw [hB.cell (p := ⟨wr.heap.size, 0, none⟩) (by simp)]; simp, by rw [hB.cell (p := ⟨wr.heap.size, 1, none⟩) (by simp)]; simp⟩
theorem below_next {B : Nat} {a b c : World} (h : Below B a b) (hB : B ≤ b.heap.size) (k : Below b.heap.size b c) : Below B a c := h.trans (k.mono hB)
theorem below_old {w wr w1 : World} {o : Obj} (hbw : Below w.heap.size w wr) (h : Below (wr.heap.size + 1) (wr.alloc o) w1) : Below w.heap.size w w1 :=
  (hbw.alloc hbw.size o).trans (h.mono (by have := hbw.size; omega))
theorem cell_far {w wr w1 : World} {o : Obj} {a : Addr} {v : Value} (_hbw : Below w.heap.size w wr) (h : Below (wr.heap.size + 1) (wr.alloc o) w1) (hc : wr.cell? a = some v) : w1.cell? a = some v := by
  have hlt := World.block_lt_of_cell? _ _ hc
  rw [h.cell (by omega), Below.cell (B := wr.heap.size) ((Below.refl _ _).alloc (Nat.le_refl _) _) hlt, hc]
theorem below_two {w w1 w2 : World} (h : Below w.heap.size w w1) (k : Below w1.heap.size w1 w2) : Below w.heap.size w w2 := h.trans (k.mono h.size)
theorem below_twod {w w1 w2 : World} (h : Below w.heap.size w w1) (k : Below w1.drew.heap.size w1.drew w2) : Below w.heap.size w w2 := h.drew.trans (k.mono h.size)

set_option maxRecDepth 100000 in
set_option maxHeartbeats 1600000 in
theorem namedCaps_any (a : Option Addr) (cap : Nat) (cs : List (ByteArray × Int)) (w : World) (hc : CapsIn w a cs) (hl : cs.length ≤ 1048576) (hs : ∀ c ∈ cs, c.1.size ≤ maxLen) :
    Calls Tryz.prog 72 #[.slice a cs.length cap, .int .i64 6] w fun e w' => e = .returned (.bool (capsB cs)) ∧ Below w.heap.size w w' := by
  by_cases h6 : (6 : Int) < (cs.length : Int)
  · go_enter Tryz.func72, Tryz.ntmps72
    go_wp2
    go_ret
    have : decide (cs.length ≤ 6) = false := decide_eq_false (by omega)
    exact ⟨by simp [capsB, this], Below.refl _ _⟩
  · have d6 : decide (cs.length ≤ 6) = true := decide_eq_true (by omega)
    have D : Hid (capsB cs = capsTo cs cs.length) := by show _ = _; simp [capsB, d6]
    clear d6
    go_enter Tryz.func72, Tryz.ntmps72
    go_wp2
    go_loopw [13] (fun i wr => ∃ (k : Nat), k ≤ cs.length ∧ i = .int .i64 k ∧ Hid (capsTo cs k = true) ∧ Below w.heap.size w wr) (fun i _ => cs.length - (intOf i).toNat)
    case atStart => exact ⟨0, Nat.zero_le _, rfl, rfl, Below.refl _ _⟩
    case round =>
      obtain ⟨k, hk, rfl, HK, hbw⟩ := hrel
      by_cases hlt : k < cs.length
      · obtain ⟨b, off, rfl, hblt, e0, e1⟩ := hc.later hbw k hlt
        have hsz := hs _ (List.getElem_mem hlt)
        have k0 : (0 : Int) ≤ (k : Int) := by omega
        have k1 : (k : Int) < (cs.length : Int) := by omega
        have HC : Hid (CapsIn w (some ⟨b, off, none⟩) cs) := hc
        have HA : Hid (capOkAt cs k = (nameB cs[k].1 && (decide (k = 0) || ahead (cs.getD (k - 1) (ByteArray.empty, 0)).1 cs[k].1) && inB cs[k].2 0 20)) := by
          show _ = _
          unfold capOkAt
          rw [getD_at cs k _ hlt]
        clear hc hs
        generalize cs[k] = c at e0 e1 hsz HA
        have hm1 := cap_method_name
        have hm2 := cap_method_parts
        cases hn : nameB c.1
        · have HN : Hid (nameB c.1 = false) := hn
          have HF : Hid (capOkAt cs k = false) := by show _ = _; rw [HA.out, hn]; rfl
          clear hn
          go_wp2_with (first
            | (go_at_call 163; refine (capName_any _ _ _).mono ?_; rintro e w1 ⟨rfl, hb1⟩; obtain ⟨B1, hz1, x0, x1⟩ := new2 hb1)
            | (go_at_call 84; refine (nameOk_any _ _ hsz).mono ?_; rw [HN.out]; rintro e w2 ⟨rfl, hb2⟩; have y0 := cell_later hb2 x0; have y1 := cell_later hb2 x1; have B2 := below_next B1 hz1 hb2; have hz2 := Nat.le_trans hz1 hb2.size))
          go_ret
          exact ⟨by rw [D.out, capsTo_bad cs _ _ hlt HF.out]; rfl, below_old hbw B2⟩
        · have HN : Hid (nameB c.1 = true) := hn
          cases hp : inB c.2 0 20
          · have HP : Hid (inB c.2 0 20 = false) := hp
            have HF : Hid (capOkAt cs k = false) := by show _ = _; rw [HA.out, hp]; simp
            clear hn hp
            go_wp2_with (first
              | (go_at_call 163; refine (capName_any _ _ _).mono ?_; rintro e w1 ⟨rfl, hb1⟩; obtain ⟨B1, hz1, x0, x1⟩ := new2 hb1)
              | (go_at_call 84; refine (nameOk_any _ _ hsz).mono ?_; rw [HN.out]; rintro e w2 ⟨rfl, hb2⟩; have y0 := cell_later hb2 x0; have y1 := cell_later hb2 x1; have B2 := below_next B1 hz1 hb2; have hz2 := Nat.le_trans hz1 hb2.size)
              | (go_at_call 164; refine (capParts_any _ _ _).mono ?_; rw [HP.out]; rintro e w3 ⟨rfl, hb3⟩; have t0 := cell_later hb3 y0; have t1 := cell_later hb3 y1; have B3 := below_next B2 hz2 hb3))
            go_ret
            exact ⟨by rw [D.out, capsTo_bad cs _ _ hlt HF.out]; rfl, below_old hbw B3⟩
          · have HP : Hid (inB c.2 0 20 = true) := hp
            cases k with
            | zero =>
              have HT : Hid (capOkAt cs 0 = true) := by show _ = _; rw [HA.out, hn, hp]; simp
              clear hn hp
              simp only [Nat.zero_mul, Nat.add_zero] at e0 e1
              go_wp2_with (first
                | (go_at_call 163; refine (capName_any _ _ _).mono ?_; rintro e w1 ⟨rfl, hb1⟩; obtain ⟨B1, hz1, x0, x1⟩ := new2 hb1)
                | (go_at_call 84; refine (nameOk_any _ _ hsz).mono ?_; rw [HN.out]; rintro e w2 ⟨rfl, hb2⟩; have y0 := cell_later hb2 x0; have y1 := cell_later hb2 x1; have B2 := below_next B1 hz1 hb2; have hz2 := Nat.le_trans hz1 hb2.size)
                | (go_at_call 164; refine (capParts_any _ _ _).mono ?_; rw [HP.out]; rintro e w3 ⟨rfl, hb3⟩; have t0 := cell_later hb3 y0; have t1 := cell_later hb3 y1; have B3 := below_next B2 hz2 hb3))
              go_quiet (fail)
              go_wp2
              go_roundw
              case rel => exact ⟨_ + 1, by omega, by go_num, capsTo_succ cs _ HK.out HT.out, below_drewN (below_old hbw B3) _⟩
              case measure => simp [intOf]; omega
            | succ j =>
              obtain ⟨b', off', hsame, _, g0, g1⟩ := HC.out.later hbw j (by omega)
              obtain ⟨rfl, rfl⟩ : b = b' ∧ off = off' := by simpa using hsame
              rw [show j + 1 - 1 = j from rfl, getD_at cs j _ (by omega)] at HA
              generalize cs[j] = p at g0 g1 HA
              clear hsame
              have j0 : (0 : Int) ≤ (j : Int) := by omega
              have j1 : (j : Int) < (cs.length : Int) := by omega
              have hg : (0 : Int) < (j : Int) + 1 := by omega
              have hwr : IntKind.i64.wrap (j : Int) = (j : Int) := by rw [IntKind.wrap_i64]; omega
              cases hq : ahead p.1 c.1
              · have HF : Hid (capOkAt cs (j + 1) = false) := by show _ = _; rw [HA.out, hq]; simp
                have hq' : Op.bytesLess p.1.toList c.1.toList = false := hq
                clear hn hp hq
                go_wp2_with (first
                  | (go_at_call 163; refine (capName_any _ _ _).mono ?_; rintro e w1 ⟨rfl, hb1⟩; obtain ⟨B1, hz1, x0, x1⟩ := new2 hb1)
                  | (go_at_call 84; refine (nameOk_any _ _ hsz).mono ?_; rw [HN.out]; rintro e w2 ⟨rfl, hb2⟩; have y0 := cell_later hb2 x0; have y1 := cell_later hb2 x1; have B2 := below_next B1 hz1 hb2; have hz2 := Nat.le_trans hz1 hb2.size)
                  | (go_at_call 164; refine (capParts_any _ _ _).mono ?_; rw [HP.out]; rintro e w3 ⟨rfl, hb3⟩; have t0 := cell_later hb3 y0; have t1 := cell_later hb3 y1; have B3 := below_next B2 hz2 hb3))
                have l0 := cell_far hbw B3 g0
                have l1 := cell_far hbw B3 g1
                have hBW := below_old hbw B3
                go_region_held3 (fun w' => w'.cell? ⟨b, off + j * 2, none⟩ = some (.string p.1) ∧ w'.cell? ⟨b, off + j * 2 + 1, none⟩ = some (.int .i64 p.2) ∧ w'.cell? ⟨wr.heap.size, 0, none⟩ = some (.string c.1) ∧ w'.cell? ⟨wr.heap.size, 1, none⟩ = some (.int .i64 c.2) ∧ Below w.heap.size w w')
                  (first | exact ⟨l0, l1, t0, t1, hBW.drew⟩ | exact ⟨cell_later hbA l0, cell_later hbA l1, cell_later hbA t0, cell_later hbA t1, below_twod hBW hbA⟩ | exact ⟨cell_later hbB l0, cell_later hbB l1, cell_later hbB t0, cell_later hbB t1, below_twod hBW hbB⟩ | exact ⟨cell_later hbB (cell_later hbA l0), cell_later hbB (cell_later hbA l1), cell_later hbB (cell_later hbA t0), cell_later hbB (cell_later hbA t1), below_two (below_twod hBW hbA) hbB⟩ | exact ⟨cell_later hbA (cell_later hbB l0), cell_later hbA (cell_later hbB l1), cell_later hbA (cell_later hbB t0), cell_later hbA (cell_later hbB t1), below_two (below_twod hBW hbB) hbA⟩)
                  (first | (go_at_call_of 163 (Value.agg #[Value.string p.1, Value.int .i64 p.2]); refine (capName_any _ _ _).mono ?_; rintro e wA ⟨rfl, hbA⟩) | (go_at_call_of 163 (Value.agg #[Value.string c.1, Value.int .i64 c.2]); refine (capName_any _ _ _).mono ?_; rintro e wB ⟨rfl, hbB⟩))
                all_goals
                  rename_i hH
                  obtain ⟨_, _, _, _, hBF⟩ := hH
                  go_wp2
                  go_ret
                  exact ⟨by rw [D.out, capsTo_bad cs _ _ hlt HF.out]; rfl, hBF⟩
              · have HT : Hid (capOkAt cs (j + 1) = true) := by show _ = _; rw [HA.out, hn, hp, hq]; simp
                have hq' : Op.bytesLess p.1.toList c.1.toList = true := hq
                clear hn hp hq
                go_wp2_with (first
                  | (go_at_call 163; refine (capName_any _ _ _).mono ?_; rintro e w1 ⟨rfl, hb1⟩; obtain ⟨B1, hz1, x0, x1⟩ := new2 hb1)
                  | (go_at_call 84; refine (nameOk_any _ _ hsz).mono ?_; rw [HN.out]; rintro e w2 ⟨rfl, hb2⟩; have y0 := cell_later hb2 x0; have y1 := cell_later hb2 x1; have B2 := below_next B1 hz1 hb2; have hz2 := Nat.le_trans hz1 hb2.size)
                  | (go_at_call 164; refine (capParts_any _ _ _).mono ?_; rw [HP.out]; rintro e w3 ⟨rfl, hb3⟩; have t0 := cell_later hb3 y0; have t1 := cell_later hb3 y1; have B3 := below_next B2 hz2 hb3))
                have l0 := cell_far hbw B3 g0
                have l1 := cell_far hbw B3 g1
                have hBW := below_old hbw B3
                go_region_held3 (fun w' => w'.cell? ⟨b, off + j * 2, none⟩ = some (.string p.1) ∧ w'.cell? ⟨b, off + j * 2 + 1, none⟩ = some (.int .i64 p.2) ∧ w'.cell? ⟨wr.heap.size, 0, none⟩ = some (.string c.1) ∧ w'.cell? ⟨wr.heap.size, 1, none⟩ = some (.int .i64 c.2) ∧ Below w.heap.size w w')
                  (first | exact ⟨l0, l1, t0, t1, hBW.drew⟩ | exact ⟨cell_later hbA l0, cell_later hbA l1, cell_later hbA t0, cell_later hbA t1, below_twod hBW hbA⟩ | exact ⟨cell_later hbB l0, cell_later hbB l1, cell_later hbB t0, cell_later hbB t1, below_twod hBW hbB⟩ | exact ⟨cell_later hbB (cell_later hbA l0), cell_later hbB (cell_later hbA l1), cell_later hbB (cell_later hbA t0), cell_later hbB (cell_later hbA t1), below_two (below_twod hBW hbA) hbB⟩ | exact ⟨cell_later hbA (cell_later hbB l0), cell_later hbA (cell_later hbB l1), cell_later hbA (cell_later hbB t0), cell_later hbA (cell_later hbB t1), below_two (below_twod hBW hbB) hbA⟩)
                  (first | (go_at_call_of 163 (Value.agg #[Value.string p.1, Value.int .i64 p.2]); refine (capName_any _ _ _).mono ?_; rintro e wA ⟨rfl, hbA⟩) | (go_at_call_of 163 (Value.agg #[Value.string c.1, Value.int .i64 c.2]); refine (capName_any _ _ _).mono ?_; rintro e wB ⟨rfl, hbB⟩))
                all_goals
                  rename_i hH
                  obtain ⟨_, _, _, _, hBF⟩ := hH
                  go_wp2
                  go_roundw
                  case rel => exact ⟨_ + 1, by omega, by go_num, capsTo_succ cs _ HK.out HT.out, hBF⟩
                  case measure => simp [intOf]; omega
      · go_wp2
        go_ret
        have : k = cs.length := by omega
        subst this
        exact ⟨by rw [D.out, HK.out]; rfl, hbw⟩

set_option maxHeartbeats 400000 in
theorem implCapsOk_any (a : Option Addr) (cap : Nat) (cs : List (ByteArray × Int)) (w : World) (hc : CapsIn w a cs) (hl : cs.length ≤ 1048576) (hs : ∀ c ∈ cs, c.1.size ≤ maxLen) :
    Calls Tryz.prog 53 #[.slice a cs.length cap] w fun e w' => e = .returned (.bool (capsB cs)) ∧ Below w.heap.size w w' := by
  go_enter Tryz.func53, Tryz.ntmps53
  go_wp2_with (go_at_call 72; refine (namedCaps_any _ _ _ _ hc hl hs).mono ?_; rintro e w' ⟨rfl, hb⟩)
  go_ret
  exact ⟨rfl, hb⟩

end Go.Proofs.YtciacofibljmoaaGreatDoor
