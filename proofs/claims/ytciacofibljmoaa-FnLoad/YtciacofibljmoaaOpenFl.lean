/- How flights that come in lie in memory. -/
import Derived.Test.YtciacofibljmoaaFlights
import Derived.Test.YtciacofibljmoaaOpenCaps
namespace Go.Proofs.Ytciacofibljmoaa
open Go.RowKit

theorem cells_lawvisit : Try.prog.cellsOf 126 = 3 := by kernel_rfl
theorem cells_lawflight : Try.prog.cellsOf 83 = 4 := by kernel_rfl
theorem cells_lawvisits : Try.prog.cellsOf 81 = 1 := by kernel_rfl

set_option maxRecDepth 100000 in
theorem openVisit1 {H : Type} {enc : TypeId × Value → H} {W : World} {n : Nat} {a : Addr} {i : Nat} {cs' : List Value} {y : DataW H × List MemPlace}
    (ha : a = ⟨a.block, a.off, none⟩) (h1 : W.cells? 0 (a.add (i * 3)) 3 = some cs') (h2 : DataW.trod enc Try.prog W 0 (fun _ => true) true n 126 cs' = some y) :
    ∃ c : Vis, (a.block < W.heap.size ∧ visitAt W a.block a.off i c) ∧ c.1.size ≤ maxLen := by
  obtain ⟨_, hlen, hcell⟩ := World.cells?_some h1
  obtain ⟨xs, k, hk, hxy, _, hxl, hf⟩ := DataW.trod_struct Try.underlying126 h2
  match xs, hxl, cs', hlen with
  | [y0, y1, y2], _, [v0, v1, v2], _ =>
    have g0 := hf 0 _ rfl
    have g1 := hf 1 _ rfl
    have g2 := hf 2 _ rfl
    simp [cells_str, cells_int] at g0 g1 g2
    obtain ⟨s, e0, _, hs⟩ := DataW.trod_string Try.underlying9 g0
    obtain ⟨m, e1, _, _⟩ := DataW.trod_int Try.underlying3 g1
    obtain ⟨m2, e2, _, _⟩ := DataW.trod_int Try.underlying3 g2
    simp at e0 e1 e2
    subst e0 e1 e2
    have q0 := hcell 0 (by simp)
    have q1 := hcell 1 (by simp)
    have q2 := hcell 2 (by simp)
    rw [Deep.add_add] at q0 q1 q2
    rw [ha] at q0 q1 q2
    simp [add_plain] at q0 q1 q2
    have hlt : a.block < W.heap.size := World.block_lt_of_cell? W ⟨a.block, a.off + i * 3, none⟩ q0
    exact ⟨(s, m, m2), ⟨hlt, q0, by rw [Nat.add_assoc]; exact q1, by rw [Nat.add_assoc]; exact q2⟩, hs⟩

theorem openVisits {H : Type} {enc : TypeId × Value → H} {W : World} {fuel : Nat} {cs0 : List Value} {x : DataW H × List MemPlace}
    (h : DataW.trod enc Try.prog W 0 (fun _ => true) true fuel 81 cs0 = some x) :
    ∃ (a : Option Addr) (cap : Nat) (vs : List Vis), cs0 = [.slice a vs.length cap] ∧ VisitsIn W a vs ∧ (∀ c ∈ vs, c.1.size ≤ maxLen) ∧ vs.length ≤ maxLen := by
  rcases Deep.open_slice Try.underlying81 h with ⟨hcs, _⟩ | ⟨a', len', cap', m, n, D, Pl, hcs, _, hl, hm, hmm, _, hx⟩
  · exact ⟨none, 0, [], hcs, fun i hi => by simp at hi, by simp, Nat.zero_le _⟩
  · rw [cells_lawvisit] at hx
    have each : ∀ i, i < len' → ∃ c : Vis, (a'.block < W.heap.size ∧ visitAt W a'.block a'.off i c) ∧ c.1.size ≤ maxLen := fun i hi => by
      obtain ⟨cs1, z1, _⟩ := hx 0 (by rw [hmm]; simp; omega)
      rw [Nat.zero_mul] at z1
      obtain ⟨cs', h1, h2⟩ := hx i (by rw [hmm]; simp; omega)
      exact openVisit1 (addr_plain z1 (by omega)) h1 h2
    obtain ⟨f, hf⟩ := Deep.choose_lt each
    refine ⟨some a', cap', (List.range len').map f, by rw [hcs]; simp, fun i hi => ?_, fun c hc => ?_, by simp; omega⟩
    · have hi' : i < len' := by simpa using hi
      obtain ⟨⟨hlt, hc⟩, _⟩ := hf i hi'
      obtain ⟨cs1, z1, _⟩ := hx 0 (by rw [hmm]; simp; omega)
      rw [Nat.zero_mul] at z1
      exact ⟨a'.block, a'.off, by rw [← addr_plain z1 (by omega)], hlt, by simpa using hc⟩
    · simp at hc
      obtain ⟨i, hi, rfl⟩ := hc
      exact (hf i hi).2

set_option maxRecDepth 100000 in
theorem openFlight1 {H : Type} {enc : TypeId × Value → H} {W : World} {n : Nat} {a : Addr} {i : Nat} {cs' : List Value} {y : DataW H × List MemPlace}
    (ha : a = ⟨a.block, a.off, none⟩) (h1 : W.cells? 0 (a.add (i * 4)) 4 = some cs') (h2 : DataW.trod enc Try.prog W 0 (fun _ => true) true n 83 cs' = some y) :
    ∃ c : Fli, (a.block < W.heap.size ∧ flightAt W a.block a.off i c) ∧ SizesOk c := by
  obtain ⟨_, hlen, hcell⟩ := World.cells?_some h1
  obtain ⟨xs, k, hk, hxy, _, hxl, hf⟩ := DataW.trod_struct Try.underlying83 h2
  match xs, hxl, cs', hlen with
  | [y0, y1, y2, y3], _, [v0, v1, v2, v3], _ =>
    have g0 := hf 0 _ rfl
    have g1 := hf 1 _ rfl
    have g2 := hf 2 _ rfl
    have g3 := hf 3 _ rfl
    simp [cells_str, cells_int, cells_lawvisits] at g0 g1 g2 g3
    obtain ⟨s, e0, _, hs⟩ := DataW.trod_string Try.underlying9 g0
    obtain ⟨m, e1, _, _⟩ := DataW.trod_int Try.underlying3 g1
    obtain ⟨m2, e2, _, _⟩ := DataW.trod_int Try.underlying3 g2
    obtain ⟨av, cv, vs, e3, hv, hvs, hvl⟩ := openVisits g3
    simp at e0 e1 e2 e3
    subst e0 e1 e2 e3
    have q0 := hcell 0 (by simp)
    have q1 := hcell 1 (by simp)
    have q2 := hcell 2 (by simp)
    have q3 := hcell 3 (by simp)
    rw [Deep.add_add] at q0 q1 q2 q3
    rw [ha] at q0 q1 q2 q3
    simp [add_plain] at q0 q1 q2 q3
    have hlt : a.block < W.heap.size := World.block_lt_of_cell? W ⟨a.block, a.off + i * 4, none⟩ q0
    exact ⟨(s, m, m2, vs), ⟨hlt, q0, by rw [Nat.add_assoc]; exact q1, by rw [Nat.add_assoc]; exact q2, av, cv, by rw [Nat.add_assoc]; exact q3, hv⟩, hs, hvl, hvs⟩

theorem openFlights {H : Type} {enc : TypeId × Value → H} {W : World} {fuel : Nat} {a : Option Addr} {len cap : Nat} {x : DataW H × List MemPlace}
    (h : DataW.trod enc Try.prog W 0 (fun _ => true) true fuel 40 [.slice a len cap] = some x) :
    ∃ fs : List Fli, fs.length = len ∧ FlightsIn W a fs ∧ (∀ c ∈ fs, SizesOk c) ∧ len ≤ maxLen := by
  rcases Deep.open_slice Try.underlying40 h with ⟨hcs, _⟩ | ⟨a', len', cap', m, n, D, Pl, hcs, _, hl, hm, hmm, _, hx⟩
  · simp at hcs
    obtain ⟨rfl, rfl, rfl⟩ := hcs
    exact ⟨[], rfl, fun i hi => by simp at hi, by simp, Nat.zero_le _⟩
  · simp at hcs
    obtain ⟨rfl, rfl, rfl⟩ := hcs
    rw [cells_lawflight] at hx
    have each : ∀ i, i < len → ∃ c : Fli, (a'.block < W.heap.size ∧ flightAt W a'.block a'.off i c) ∧ SizesOk c := fun i hi => by
      obtain ⟨cs0, z1, _⟩ := hx 0 (by rw [hmm]; simp; omega)
      rw [Nat.zero_mul] at z1
      obtain ⟨cs', h1, h2⟩ := hx i (by rw [hmm]; simp; omega)
      exact openFlight1 (addr_plain z1 (by omega)) h1 h2
    obtain ⟨f, hf⟩ := Deep.choose_lt each
    refine ⟨(List.range len).map f, by simp, fun i hi => ?_, fun c hc => ?_, by omega⟩
    · have hi' : i < len := by simpa using hi
      obtain ⟨⟨hlt, hc⟩, _⟩ := hf i hi'
      obtain ⟨cs0, z1, _⟩ := hx 0 (by rw [hmm]; simp; omega)
      rw [Nat.zero_mul] at z1
      exact ⟨a'.block, a'.off, by rw [← addr_plain z1 (by omega)], hlt, by simpa using hc⟩
    · simp at hc
      obtain ⟨i, hi, rfl⟩ := hc
      exact (hf i hi).2

end Go.Proofs.Ytciacofibljmoaa
