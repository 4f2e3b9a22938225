/- A row of the same number: the library's slices.Repeat, walked for as many as there are flights. -/
import Derived.Test.YtciacofibljmoaaGreatDoorDrawsB
import Derived.Laws.CopyOwn
import Derived.Deep.RegionLaw
namespace Go.Proofs.YtciacofibljmoaaGreatDoor
open Go.RowKit

attribute [local go_sem ↓] Go.wp_at_zero Go.wp_at_succ

/-- m of n are laid. -/
def rowR (n m : Nat) : List Value := List.replicate m (.int .i64 (-1)) ++ List.replicate (n - m) (.int .i64 0)
theorem rowR_len {n m : Nat} (h : m ≤ n) : (rowR n m).length = n := by simp [rowR]; omega
theorem rowR_splice {n m k : Nat} (_h : m + k ≤ n) : splice (rowR n m) m (List.replicate k (.int .i64 (-1))) = rowR n (m + k) := by
  unfold splice rowR
  have e1 : (List.replicate m (Value.int .i64 (-1)) ++ List.replicate (n - m) (Value.int .i64 0)).take m = List.replicate m (.int .i64 (-1)) := by
    rw [List.take_append_of_le_length (by simp), List.take_of_length_le (by simp)]
  have e2 : (List.replicate m (Value.int .i64 (-1)) ++ List.replicate (n - m) (Value.int .i64 0)).drop (m + (List.replicate k (Value.int .i64 (-1))).length) = List.replicate (n - (m + k)) (.int .i64 0) := by
    rw [List.drop_append, List.drop_eq_nil_of_le (by simp), List.nil_append, List.drop_replicate]
    congr 1
    simp
    omega
  rw [e1, e2, ← List.append_assoc, List.replicate_append_replicate]
theorem rowR_at {n m j : Nat} (h : j < m) : (rowR n m)[j]? = some (.int .i64 (-1)) := by
  unfold rowR
  rw [List.getElem?_append_left (by simpa using h)]
  simp [h]

theorem info_int1 : (Tryz.prog.info? 3).map (·.size) = some 1 := by kernel_rfl
theorem made_row (w : World) (n : Nat) : (w.alloc (.cells (madeCells #[.int .i64 0] n) 3)).heap[w.heap.size]? = some (.cells (rowR n 0).toArray 3 (0, 0)) := by
  rw [World.alloc_heap_new]
  congr 2
  have h := toList_madeCells_one (.int .i64 0) n
  apply Array.toList_inj.1
  rw [h]
  simp [rowR]
theorem rowR_own {w : World} {base g n : Nat} (h : w.heap[g]? = some (.cells (rowR n n).toArray 3 (0, 0))) (hb : base ≤ g) (hn : n ≤ maxLen) : OwnI w base (.slice (some ⟨g, 0, none⟩) n n) (List.replicate n (-1)) := by
  have e : rowR n n = List.replicate n (.int .i64 (-1)) := by simp [rowR]
  rw [e] at h
  unfold OwnI
  rw [List.length_replicate]
  refine ⟨by simp [intVals], .inr ⟨g, n, _, rfl, hb, h, Nat.le_refl _, hn, by simp, ?_⟩⟩
  simp [intVals]

theorem one_src {w : World} {b off : Nat} {x : Value} (hc : w.cell? ⟨b, off, none⟩ = some x) : ∀ j u, [x][j]? = some u → w.cell? ((⟨b, off, none⟩ : Addr).add j) = some u := fun j u hj => by
  cases j with
  | zero =>
    have : x = u := by simpa using hj
    subst this
    rw [plain_add']
    exact hc
  | succ j => simp at hj
theorem row_src {w : World} {g n m k : Nat} (h : w.heap[g]? = some (.cells (rowR n m).toArray 3 (0, 0))) (hk : k ≤ m) : ∀ j u, (List.replicate k (Value.int .i64 (-1)))[j]? = some u → w.cell? ((⟨g, 0, none⟩ : Addr).add j) = some u := fun j u hj => by
  by_cases hj' : j < k
  · have hu : u = .int .i64 (-1) := by rw [List.getElem?_replicate, if_pos hj'] at hj; simpa using hj.symm
    subst hu
    rw [plain_add', World.cell?, h]
    simpa using rowR_at (n := n) (Nat.lt_of_lt_of_le hj' hk)
  · rw [List.getElem?_eq_none (by simpa using hj')] at hj; cases hj

/-- Some of the row is laid: what a copy within it does. -/
theorem copy_more {w : World} {B g n m k : Nat} {a : Addr} {sl sc : Nat} (h : w.heap[g]? = some (.cells (rowR n m).toArray 3 (0, 0))) (hk : k = Nat.min sl (n - m)) (hmk : m + k ≤ n) (hs : ∀ j u, (List.replicate k (Value.int .i64 (-1)))[j]? = some u → w.cell? (a.add j) = some u) (w0 : World) (hb : Below B w0 w) (hB : B ≤ g) :
    ∃ w', (Builtin.copy_ #[27, 27] 3 #[.slice (some ⟨g, m, none⟩) (n - m) (n - m), .slice (some a) sl sc]).run Tryz.prog w = .ok (.int .i64 (k : Nat)) w' ∧ w'.heap[g]? = some (.cells (rowR n (m + k)).toArray 3 (0, 0)) ∧ Below B w0 w' := by
  have hl : (List.replicate k (Value.int .i64 (-1))).length = k := by simp
  have hrun := run_copy_row (P := Tryz.prog) w 27 27 3 3 g m (n - m) (n - m) a sl sc (rowR n m).toArray 3 (List.replicate k (.int .i64 (-1))) Tryz.underlying27 info_int1 h (by rw [hl]; exact hk) hs (by rw [hl]; simp [rowR]; omega) (fun x hx => by have := List.eq_of_mem_replicate hx; subst this; rfl)
  rw [hl] at hrun
  have e : (rowR n m).toArray.toList.take m ++ List.replicate k (Value.int .i64 (-1)) ++ (rowR n m).toArray.toList.drop (m + k) = rowR n (m + k) := by
    have e := rowR_splice (n := n) (m := m) (k := k) hmk
    unfold splice at e
    rw [hl] at e
    rw [List.append_assoc]
    exact e
  rw [e] at hrun
  exact ⟨_, hrun, setRow_heap w g _ _ 3 _ h, below_setRow hb hB _⟩

end Go.Proofs.YtciacofibljmoaaGreatDoor
