/- A row of the same number: the library's slices.Repeat, walked for as many as there are flights. -/
import Derived.Test.YtciacofibljmoaaGreatDraw13
import Derived.Laws.CopyOwn
import Derived.Deep.RegionLaw
namespace Go.Proofs.YtciacofibljmoaaGreat
open Go.RowKit

attribute [local go_sem ↓] Go.wp_at_zero Go.wp_at_succ

set_option maxRecDepth 100000 in
set_option maxHeartbeats 3200000 in
theorem mul64_small (n : Nat) (hn : n ≤ 8) (w : World) : Calls Tryz.prog 134 #[.int .u64 1, .int .u64 (n : Nat)] w fun e w' => e = .returned (.tuple #[.int .u64 0, .int .u64 (n : Nat)]) ∧ w' = w := by
  have h : n = 0 ∨ n = 1 ∨ n = 2 ∨ n = 3 ∨ n = 4 ∨ n = 5 ∨ n = 6 ∨ n = 7 ∨ n = 8 := by omega
  clear hn
  rcases h with rfl | rfl | rfl | rfl | rfl | rfl | rfl | rfl | rfl
  all_goals
    go_enter Tryz.func134, Tryz.ntmps134
    go_wp2
    exact bodyPost_ret (v := .tuple #[.int .u64 0, .int .u64 _]) (by simp [results, Tryz.results134, go_sem]; decide +kernel) rfl ⟨rfl, rfl⟩
set_option maxRecDepth 100000 in
set_option maxHeartbeats 1600000 in
theorem mul_small (n : Nat) (hn : n ≤ 8) (w : World) : Calls Tryz.prog 85 #[.int .u64 1, .int .u64 (n : Nat)] w fun e w' => e = .returned (.tuple #[.int .u64 0, .int .u64 (n : Nat)]) ∧ w' = w := by
  go_enter Tryz.func85, Tryz.ntmps85
  go_wp2_with (go_at_call 134; refine (mul64_small n hn _).mono ?_; rintro e w1 ⟨rfl, rfl⟩)
  exact bodyPost_ret (v := .tuple #[.int .u64 0, .int .u64 (n : Nat)]) (by simp [results, Tryz.results85, go_sem]) rfl ⟨rfl, rfl⟩

/-- m of n are laid. -/
def rowR (n m : Nat) : List Value := List.replicate m (.int .i64 (-1)) ++ List.replicate (n - m) (.int .i64 0)
theorem rowR_len {n m : Nat} (h : m ≤ n) : (rowR n m).length = n := by simp [rowR]; omega
theorem rowR_splice {n m k : Nat} (_h : m + k ≤ n) : splice (rowR n m) m (List.replicate k (.int .i64 (-1))) = rowR n (m + k) := by
  unfold splice rowR
  have e1 : (List.replicate m (Value.int .i64 (-1)) ++ List.replicate (n - m) (Value.int .i64 0)).take m = List.replicate m (.int .i64 (-1)) := by
    rw [List.take_append_of_le_length (by simp), List.take_of_length_le (by simp)]
  have e2 : (List.replicate m (Value.int .i64 (-1)) ++ List.replicate (n - m) (Value.int .i64 0)).drop (m + (List.replicate k (Value.int .i64 (-1))).length) = List.replicate (n - (m + k)) (.int .i64 0) := by
    rw [List.drop_append, List.drop_eq_nil_of_le (by simp), List.nil_append, List.drop_replicate]
    congr 1
    simp
    omega
  rw [e1, e2, ← List.append_assoc, List.replicate_append_replicate]
theorem rowR_at {n m j : Nat} (h : j < m) : (rowR n m)[j]? = some (.int .i64 (-1)) := by
  unfold rowR
  rw [List.getElem?_append_left (by simpa using h)]
  simp [h]

theorem info_int1 : (Tryz.prog.info? 3).map (·.size) = some 1 := by kernel_rfl
theorem made_row (w : World) (n : Nat) : (w.alloc (.cells (madeCells #[.int .i64 0] n) 3)).heap[w.heap.size]? = some (.cells (rowR n 0).toArray 3 (0, 0)) := by
  rw [World.alloc_heap_new]
  congr 2
  have h := toList_madeCells_one (.int .i64 0) n
  apply Array.toList_inj.1
  rw [h]
  simp [rowR]
theorem rowR_own {w : World} {base g n : Nat} (h : w.heap[g]? = some (.cells (rowR n n).toArray 3 (0, 0))) (hb : base ≤ g) (hn : n ≤ maxLen) : OwnI w base (.slice (some ⟨g, 0, none⟩) n n) (List.replicate n (-1)) := by
  have e : rowR n n = List.replicate n (.int .i64 (-1)) := by simp [rowR]
  rw [e] at h
  unfold OwnI
  rw [List.length_replicate]
  refine ⟨by simp [intVals], .inr ⟨g, n, _, rfl, hb, h, Nat.le_refl _, hn, by simp, ?_⟩⟩
  simp [intVals]

theorem one_src {w : World} {b off : Nat} {x : Value} (hc : w.cell? ⟨b, off, none⟩ = some x) : ∀ j u, [x][j]? = some u → w.cell? ((⟨b, off, none⟩ : Addr).add j) = some u := fun j u hj => by
  cases j with
  | zero =>
    have : x = u := by simpa using hj
    subst this
    rw [plain_add']
    exact hc
  | succ j => simp at hj
theorem row_src {w : World} {g n m k : Nat} (h : w.heap[g]? = some (.cells (rowR n m).toArray 3 (0, 0))) (hk : k ≤ m) : ∀ j u, (List.replicate k (Value.int .i64 (-1)))[j]? = some u → w.cell? ((⟨g, 0, none⟩ : Addr).add j) = some u := fun j u hj => by
  by_cases hj' : j < k
  · have hu : u = .int .i64 (-1) := by rw [List.getElem?_replicate, if_pos hj'] at hj; simpa using hj.symm
    subst hu
    rw [plain_add', World.cell?, h]
    simpa using rowR_at (n := n) (Nat.lt_of_lt_of_le hj' hk)
  · rw [List.getElem?_eq_none (by simpa using hj')] at hj; cases hj

/-- Some of the row is laid: what a copy within it does. -/
theorem copy_more {w : World} {B g n m k : Nat} {a : Addr} {sl sc : Nat} (h : w.heap[g]? = some (.cells (rowR n m).toArray 3 (0, 0))) (hk : k = Nat.min sl (n - m)) (hmk : m + k ≤ n) (hs : ∀ j u, (List.replicate k (Value.int .i64 (-1)))[j]? = some u → w.cell? (a.add j) = some u) (w0 : World) (hb : Below B w0 w) (hB : B ≤ g) :
    ∃ w', (Builtin.copy_ #[27, 27] 3 #[.slice (some ⟨g, m, none⟩) (n - m) (n - m), .slice (some a) sl sc]).run Tryz.prog w = .ok (.int .i64 (k : Nat)) w' ∧ w'.heap[g]? = some (.cells (rowR n (m + k)).toArray 3 (0, 0)) ∧ Below B w0 w' := by
  have hl : (List.replicate k (Value.int .i64 (-1))).length = k := by simp
  have hrun := run_copy_row (P := Tryz.prog) w 27 27 3 3 g m (n - m) (n - m) a sl sc (rowR n m).toArray 3 (List.replicate k (.int .i64 (-1))) Tryz.underlying27 info_int1 h (by rw [hl]; exact hk) hs (by rw [hl]; simp [rowR]; omega) (fun x hx => by have := List.eq_of_mem_replicate hx; subst this; rfl)
  rw [hl] at hrun
  have e : (rowR n m).toArray.toList.take m ++ List.replicate k (Value.int .i64 (-1)) ++ (rowR n m).toArray.toList.drop (m + k) = rowR n (m + k) := by
    have e := rowR_splice (n := n) (m := m) (k := k) hmk
    unfold splice at e
    rw [hl] at e
    rw [List.append_assoc]
    exact e
  rw [e] at hrun
  exact ⟨_, hrun, setRow_heap w g _ _ 3 _ h, below_setRow hb hB _⟩

set_option maxRecDepth 100000 in
set_option maxHeartbeats 3200000 in
theorem repeat_some (b off n : Nat) (w : World) (hc : w.cell? ⟨b, off, none⟩ = some (.int .i64 (-1))) (hn : n ≤ 8) (h1 : 1 ≤ n) :
    Calls Tryz.prog 38 #[.slice (some ⟨b, off, none⟩) 1 1, .int .i64 (n : Nat)] w fun e w' => ∃ g, e = .returned (.slice (some ⟨g, 0, none⟩) n n) ∧ OwnI w' w.heap.size (.slice (some ⟨g, 0, none⟩) n n) (List.replicate n (-1)) ∧ Below w.heap.size w w' := by
  have hmk := run_make_row' (P := Tryz.prog) 27 3 (.int .i64 0) 8 Tryz.underlying27 info_int rfl .i64 .i64 n (by omega) (by omega)
  have HG := hide (made_row w n)
  have HB := hide ((Below.refl w.heap.size w).alloc (Nat.le_refl _) (.cells (madeCells #[.int .i64 0] n) 3))
  have HC := hide (cell_later HB.out hc)
  clear hc
  go_enter Tryz.func38, Tryz.ntmps38
  go_wp2_with fail
  refine (mul_small n hn _).mono ?_
  rintro e w1 ⟨rfl, hw1⟩
  rw [hw1]
  clear hw1 w1
  obtain ⟨w2, hrun2, hg2, hb2⟩ := copy_more (w := w.alloc (.cells (madeCells #[.int .i64 0] n) 3)) (m := 0) (k := 1) (sl := 1) (sc := 1) HG.out (by simp [Nat.min_def]; omega) (by omega) (by simpa using one_src HC.out) w HB.out (Nat.le_refl _)
  have HG3 := hide hg2
  have HB2 := hide hb2
  simp only [Nat.sub_zero] at hrun2
  clear hg2 hb2
  go_wp2
  clear hrun2
  clear HG HB HC hmk
  go_loopw [8] (fun v wr => ∃ (m : Nat), 1 ≤ m ∧ m ≤ n ∧ v = .int .i64 m ∧ Hid (wr.heap[w.heap.size]? = some (.cells (rowR n m).toArray 3 (0, 0))) ∧ Hid (Below w.heap.size w wr)) (fun v _ => n - (RowKit.intOf v).toNat)
  case atStart => exact ⟨1, Nat.le_refl _, h1, rfl, HG3.out, HB2.out⟩
  case round =>
    obtain ⟨m, hm1, hmn, rfl, HGm, HBm⟩ := hrel
    clear HG3 HB2
    by_cases hlt : m < n
    · have hlt' : (m : Int) < (n : Int) := by omega
      have hne : ¬ n = m := by omega
      obtain ⟨kk, hkk, hkm, hkn, hk1⟩ : ∃ kk, kk = Nat.min m (n - m) ∧ kk ≤ m ∧ kk ≤ n - m ∧ 1 ≤ kk := ⟨min m (n - m), rfl, Nat.min_le_left _ _, Nat.min_le_right _ _, by omega⟩
      obtain ⟨w4, hrun4, hg4, hb4⟩ := copy_more (w := wr.drew) (m := m) (k := kk) (sl := m) (sc := n) HGm.out hkk (by omega) (row_src (show wr.drew.heap[w.heap.size]? = _ from HGm.out) hkm) w HBm.out.drew (Nat.le_refl _)
      have HG4 := hide hg4
      have HB4 := hide hb4
      clear hg4 hb4 hkk
      go_wp2
      go_region_held3 (fun _ => True) (trivial) (fail)
      rename_i hH
      clear hH hrun4
      have hwr : IntKind.i64.wrap ((m : Int) + (kk : Int)) = (m : Int) + (kk : Int) := by
        simp [IntKind.wrap, IntKind.bits, IntKind.signed]
        omega
      go_wp2
      go_roundw
      case rel => exact ⟨m + kk, by omega, by omega, by go_num, HG4.out, HB4.out⟩
      case measure => simp [RowKit.intOf]; omega
    · have : m = n := by omega
      subst this
      have HO := hide (rowR_own (base := w.heap.size) HGm.out (Nat.le_refl _) (by unfold maxLen; omega))
      go_wp2
      go_ret
      exact ⟨_, rfl, HO.out, HBm.out⟩

set_option maxRecDepth 100000 in
set_option maxHeartbeats 3200000 in
theorem repeat_none (b off : Nat) (w : World) :
    Calls Tryz.prog 38 #[.slice (some ⟨b, off, none⟩) 1 1, .int .i64 0] w fun e w' => ∃ g, e = .returned (.slice (some ⟨g, 0, none⟩) 0 0) ∧ OwnI w' w.heap.size (.slice (some ⟨g, 0, none⟩) 0 0) [] ∧ Below w.heap.size w w' := by
  have hmk := run_make_row' (P := Tryz.prog) 27 3 (.int .i64 0) 8 Tryz.underlying27 info_int rfl .i64 .i64 0 (by omega) (by omega)
  simp only [Int.cast_ofNat_Int] at hmk
  have HG := hide (made_row w 0)
  have HB := hide ((Below.refl w.heap.size w).alloc (Nat.le_refl _) (.cells (madeCells #[.int .i64 0] 0) 3))
  have HM := mul_small 0 (by omega)
  have HCN := fun W => run_copy_none (P := Tryz.prog) W 27 27 3 3 (some ⟨w.heap.size, 0, none⟩) (some ⟨b, off, none⟩) 0 0 1 1 Tryz.underlying27 info_int1 rfl
  go_enter Tryz.func38, Tryz.ntmps38
  go_wp2_with fail
  refine (HM _).mono ?_
  rintro e w1 ⟨rfl, hw1⟩
  rw [hw1]
  clear hw1 w1 HM
  go_wp2
  clear HCN hmk
  go_loopw [8] (fun v wr => v = .int .i64 0 ∧ wr = w.alloc (.cells (madeCells #[.int .i64 0] 0) 3)) (fun _ _ => 0)
  case atStart => exact ⟨rfl, rfl⟩
  case round =>
    obtain ⟨rfl, rfl⟩ := hrel
    have HO := hide (rowR_own (n := 0) (base := w.heap.size) HG.out (Nat.le_refl _) (Nat.zero_le _))
    go_wp2
    go_ret
    exact ⟨_, rfl, HO.out, HB.out⟩
theorem repeat_any (b off n : Nat) (w : World) (hc : w.cell? ⟨b, off, none⟩ = some (.int .i64 (-1))) (hn : n ≤ 8) :
    Calls Tryz.prog 38 #[.slice (some ⟨b, off, none⟩) 1 1, .int .i64 (n : Nat)] w fun e w' => ∃ g, e = .returned (.slice (some ⟨g, 0, none⟩) n n) ∧ OwnI w' w.heap.size (.slice (some ⟨g, 0, none⟩) n n) (List.replicate n (-1)) ∧ Below w.heap.size w w' := by
  by_cases h : n = 0
  · subst h
    exact repeat_none b off w
  · exact repeat_some b off n w hc hn (by omega)

end Go.Proofs.YtciacofibljmoaaGreat
