/- How caps that come in lie in memory. -/
import Derived.Test.YtciacofibljmoabGreatDoorLeaf
import Derived.Deep.Slices
import Derived.ChangeArms
import Derived.Test.YtciacofibljmoabGreatDoorVisFl
import Derived.Test.YtciacofibljmoabGreatDoorInts
namespace Go.Proofs.YtciacofibljmoabGreatDoor
open Go.RowKit

theorem cells_lawcap : Tryz.prog.cellsOf 78 = 2 := by kernel_rfl
theorem cells_str : Tryz.prog.cellsOf 9 = 1 := by kernel_rfl
theorem cells_int : Tryz.prog.cellsOf 3 = 1 := by kernel_rfl

/-- The address of what is read cell by cell bears no spot. -/
theorem addr_plain {w : World} {a : Addr} {n : Nat} {cs : List Value} (h : w.cells? 0 (a.add 0) n = some cs) (hn : 0 < n) : a = ⟨a.block, a.off, none⟩ := by
  obtain ⟨_, hlen, hcell⟩ := World.cells?_some h
  have q0 := hcell 0 hn
  rw [List.getElem?_eq_getElem (show 0 < cs.length by omega)] at q0
  have q := World.cell?_spot q0
  cases a with
  | mk b o s => simp [Addr.add] at q; subst q; rfl

theorem add_plain (b o k : Nat) : (⟨b, o, none⟩ : Addr).add k = ⟨b, o + k, none⟩ := by
  unfold Addr.add
  split
  · rename_i h; subst h; rfl
  · rfl

set_option maxRecDepth 100000 in
theorem openCap1 {H : Type} {enc : TypeId × Value → H} {W : World} {n : Nat} {a : Addr} {i : Nat} {cs' : List Value} {y : DataW H × List MemPlace}
    (ha : a = ⟨a.block, a.off, none⟩) (h1 : W.cells? 0 (a.add (i * 2)) 2 = some cs') (h2 : DataW.trod enc Tryz.prog W 0 (fun _ => true) true n 78 cs' = some y) :
    ∃ c : ByteArray × Int, (a.block < W.heap.size ∧ capAt W a.block a.off i c) ∧ c.1.size ≤ maxLen := by
  obtain ⟨_, hlen, hcell⟩ := World.cells?_some h1
  obtain ⟨xs, k, hk, hxy, _, hxl, hf⟩ := DataW.trod_struct Tryz.underlying78 h2
  match xs, hxl, cs', hlen with
  | [y0, y1], _, [v0, v1], _ =>
    have g0 := hf 0 _ rfl
    have g1 := hf 1 _ rfl
    simp [cells_str, cells_int] at g0 g1
    obtain ⟨s, e0, _, hs⟩ := DataW.trod_string Tryz.underlying9 g0
    obtain ⟨m, e1, _, _⟩ := DataW.trod_int Tryz.underlying3 g1
    simp at e0 e1
    subst e0 e1
    have q0 := hcell 0 (by simp)
    have q1 := hcell 1 (by simp)
    rw [Deep.add_add] at q0 q1
    rw [ha] at q0 q1
    simp [add_plain] at q0 q1
    have hlt : a.block < W.heap.size := World.block_lt_of_cell? W ⟨a.block, a.off + i * 2, none⟩ q0
    exact ⟨(s, m), ⟨hlt, q0, by rw [Nat.add_assoc]; exact q1⟩, hs⟩

theorem openCaps {H : Type} {enc : TypeId × Value → H} {W : World} {fuel : Nat} {a : Option Addr} {len cap : Nat} {x : DataW H × List MemPlace}
    (h : DataW.trod enc Tryz.prog W 0 (fun _ => true) true fuel 22 [.slice a len cap] = some x) :
    ∃ cs : List (ByteArray × Int), cs.length = len ∧ CapsIn W a cs ∧ (∀ c ∈ cs, c.1.size ≤ maxLen) ∧ len ≤ maxLen := by
  rcases Deep.open_slice Tryz.underlying22 h with ⟨hcs, _⟩ | ⟨a', len', cap', m, n, D, Pl, hcs, _, hl, hm, hmm, _, hx⟩
  · simp at hcs
    obtain ⟨rfl, rfl, rfl⟩ := hcs
    exact ⟨[], rfl, fun i hi => by simp at hi, by simp, Nat.zero_le _⟩
  · simp at hcs
    obtain ⟨rfl, rfl, rfl⟩ := hcs
    rw [cells_lawcap] at hx
    have each : ∀ i, i < len → ∃ c : ByteArray × Int, (a'.block < W.heap.size ∧ capAt W a'.block a'.off i c) ∧ c.1.size ≤ maxLen := fun i hi => by
      obtain ⟨cs0, z1, _⟩ := hx 0 (by rw [hmm]; simp; omega)
      rw [Nat.zero_mul] at z1
      obtain ⟨cs', h1, h2⟩ := hx i (by rw [hmm]; simp; omega)
      exact openCap1 (addr_plain z1 (by omega)) h1 h2
    obtain ⟨f, hf⟩ := Deep.choose_lt each
    refine ⟨(List.range len).map f, by simp, fun i hi => ?_, fun c hc => ?_, by omega⟩
    · have hi' : i < len := by simpa using hi
      obtain ⟨⟨hlt, hc⟩, _⟩ := hf i hi'
      obtain ⟨cs0, z1, _⟩ := hx 0 (by rw [hmm]; simp; omega)
      rw [Nat.zero_mul] at z1
      exact ⟨a'.block, a'.off, by rw [← addr_plain z1 (by omega)], hlt, by simpa using hc⟩
    · simp at hc
      obtain ⟨i, hi, rfl⟩ := hc
      exact (hf i hi).2

end Go.Proofs.YtciacofibljmoabGreatDoor

/- How flights that come in lie in memory. -/
namespace Go.Proofs.YtciacofibljmoabGreatDoor
open Go.RowKit

theorem cells_lawvisit : Tryz.prog.cellsOf 81 = 3 := by kernel_rfl
theorem cells_lawflight : Tryz.prog.cellsOf 29 = 4 := by kernel_rfl
theorem cells_lawvisits : Tryz.prog.cellsOf 27 = 1 := by kernel_rfl

set_option maxRecDepth 100000 in
theorem openVisit1 {H : Type} {enc : TypeId × Value → H} {W : World} {n : Nat} {a : Addr} {i : Nat} {cs' : List Value} {y : DataW H × List MemPlace}
    (ha : a = ⟨a.block, a.off, none⟩) (h1 : W.cells? 0 (a.add (i * 3)) 3 = some cs') (h2 : DataW.trod enc Tryz.prog W 0 (fun _ => true) true n 81 cs' = some y) :
    ∃ c : Vis, (a.block < W.heap.size ∧ visitAt W a.block a.off i c) ∧ c.1.size ≤ maxLen := by
  obtain ⟨_, hlen, hcell⟩ := World.cells?_some h1
  obtain ⟨xs, k, hk, hxy, _, hxl, hf⟩ := DataW.trod_struct Tryz.underlying81 h2
  match xs, hxl, cs', hlen with
  | [y0, y1, y2], _, [v0, v1, v2], _ =>
    have g0 := hf 0 _ rfl
    have g1 := hf 1 _ rfl
    have g2 := hf 2 _ rfl
    simp [cells_str, cells_int] at g0 g1 g2
    obtain ⟨s, e0, _, hs⟩ := DataW.trod_string Tryz.underlying9 g0
    obtain ⟨m, e1, _, _⟩ := DataW.trod_int Tryz.underlying3 g1
    obtain ⟨m2, e2, _, _⟩ := DataW.trod_int Tryz.underlying3 g2
    simp at e0 e1 e2
    subst e0 e1 e2
    have q0 := hcell 0 (by simp)
    have q1 := hcell 1 (by simp)
    have q2 := hcell 2 (by simp)
    rw [Deep.add_add] at q0 q1 q2
    rw [ha] at q0 q1 q2
    simp [add_plain] at q0 q1 q2
    have hlt : a.block < W.heap.size := World.block_lt_of_cell? W ⟨a.block, a.off + i * 3, none⟩ q0
    exact ⟨(s, m, m2), ⟨hlt, q0, by rw [Nat.add_assoc]; exact q1, by rw [Nat.add_assoc]; exact q2⟩, hs⟩

theorem openVisits {H : Type} {enc : TypeId × Value → H} {W : World} {fuel : Nat} {cs0 : List Value} {x : DataW H × List MemPlace}
    (h : DataW.trod enc Tryz.prog W 0 (fun _ => true) true fuel 27 cs0 = some x) :
    ∃ (a : Option Addr) (cap : Nat) (vs : List Vis), cs0 = [.slice a vs.length cap] ∧ VisitsIn W a vs ∧ (∀ c ∈ vs, c.1.size ≤ maxLen) ∧ vs.length ≤ maxLen := by
  rcases Deep.open_slice Tryz.underlying27 h with ⟨hcs, _⟩ | ⟨a', len', cap', m, n, D, Pl, hcs, _, hl, hm, hmm, _, hx⟩
  · exact ⟨none, 0, [], hcs, fun i hi => by simp at hi, by simp, Nat.zero_le _⟩
  · rw [cells_lawvisit] at hx
    have each : ∀ i, i < len' → ∃ c : Vis, (a'.block < W.heap.size ∧ visitAt W a'.block a'.off i c) ∧ c.1.size ≤ maxLen := fun i hi => by
      obtain ⟨cs1, z1, _⟩ := hx 0 (by rw [hmm]; simp; omega)
      rw [Nat.zero_mul] at z1
      obtain ⟨cs', h1, h2⟩ := hx i (by rw [hmm]; simp; omega)
      exact openVisit1 (addr_plain z1 (by omega)) h1 h2
    obtain ⟨f, hf⟩ := Deep.choose_lt each
    refine ⟨some a', cap', (List.range len').map f, by rw [hcs]; simp, fun i hi => ?_, fun c hc => ?_, by simp; omega⟩
    · have hi' : i < len' := by simpa using hi
      obtain ⟨⟨hlt, hc⟩, _⟩ := hf i hi'
      obtain ⟨cs1, z1, _⟩ := hx 0 (by rw [hmm]; simp; omega)
      rw [Nat.zero_mul] at z1
      exact ⟨a'.block, a'.off, by rw [← addr_plain z1 (by omega)], hlt, by simpa using hc⟩
    · simp at hc
      obtain ⟨i, hi, rfl⟩ := hc
      exact (hf i hi).2

set_option maxRecDepth 100000 in
theorem openFlight1 {H : Type} {enc : TypeId × Value → H} {W : World} {n : Nat} {a : Addr} {i : Nat} {cs' : List Value} {y : DataW H × List MemPlace}
    (ha : a = ⟨a.block, a.off, none⟩) (h1 : W.cells? 0 (a.add (i * 4)) 4 = some cs') (h2 : DataW.trod enc Tryz.prog W 0 (fun _ => true) true n 29 cs' = some y) :
    ∃ c : Fli, (a.block < W.heap.size ∧ flightAt W a.block a.off i c) ∧ SizesOk c := by
  obtain ⟨_, hlen, hcell⟩ := World.cells?_some h1
  obtain ⟨xs, k, hk, hxy, _, hxl, hf⟩ := DataW.trod_struct Tryz.underlying29 h2
  match xs, hxl, cs', hlen with
  | [y0, y1, y2, y3], _, [v0, v1, v2, v3], _ =>
    have g0 := hf 0 _ rfl
    have g1 := hf 1 _ rfl
    have g2 := hf 2 _ rfl
    have g3 := hf 3 _ rfl
    simp [cells_str, cells_int, cells_lawvisits] at g0 g1 g2 g3
    obtain ⟨s, e0, _, hs⟩ := DataW.trod_string Tryz.underlying9 g0
    obtain ⟨m, e1, _, _⟩ := DataW.trod_int Tryz.underlying3 g1
    obtain ⟨m2, e2, _, _⟩ := DataW.trod_int Tryz.underlying3 g2
    obtain ⟨av, cv, vs, e3, hv, hvs, hvl⟩ := openVisits g3
    simp at e0 e1 e2 e3
    subst e0 e1 e2 e3
    have q0 := hcell 0 (by simp)
    have q1 := hcell 1 (by simp)
    have q2 := hcell 2 (by simp)
    have q3 := hcell 3 (by simp)
    rw [Deep.add_add] at q0 q1 q2 q3
    rw [ha] at q0 q1 q2 q3
    simp [add_plain] at q0 q1 q2 q3
    have hlt : a.block < W.heap.size := World.block_lt_of_cell? W ⟨a.block, a.off + i * 4, none⟩ q0
    exact ⟨(s, m, m2, vs), ⟨hlt, q0, by rw [Nat.add_assoc]; exact q1, by rw [Nat.add_assoc]; exact q2, av, cv, by rw [Nat.add_assoc]; exact q3, hv⟩, hs, hvl, hvs⟩

theorem openFlights {H : Type} {enc : TypeId × Value → H} {W : World} {fuel : Nat} {a : Option Addr} {len cap : Nat} {x : DataW H × List MemPlace}
    (h : DataW.trod enc Tryz.prog W 0 (fun _ => true) true fuel 23 [.slice a len cap] = some x) :
    ∃ fs : List Fli, fs.length = len ∧ FlightsIn W a fs ∧ (∀ c ∈ fs, SizesOk c) ∧ len ≤ maxLen := by
  rcases Deep.open_slice Tryz.underlying23 h with ⟨hcs, _⟩ | ⟨a', len', cap', m, n, D, Pl, hcs, _, hl, hm, hmm, _, hx⟩
  · simp at hcs
    obtain ⟨rfl, rfl, rfl⟩ := hcs
    exact ⟨[], rfl, fun i hi => by simp at hi, by simp, Nat.zero_le _⟩
  · simp at hcs
    obtain ⟨rfl, rfl, rfl⟩ := hcs
    rw [cells_lawflight] at hx
    have each : ∀ i, i < len → ∃ c : Fli, (a'.block < W.heap.size ∧ flightAt W a'.block a'.off i c) ∧ SizesOk c := fun i hi => by
      obtain ⟨cs0, z1, _⟩ := hx 0 (by rw [hmm]; simp; omega)
      rw [Nat.zero_mul] at z1
      obtain ⟨cs', h1, h2⟩ := hx i (by rw [hmm]; simp; omega)
      exact openFlight1 (addr_plain z1 (by omega)) h1 h2
    obtain ⟨f, hf⟩ := Deep.choose_lt each
    refine ⟨(List.range len).map f, by simp, fun i hi => ?_, fun c hc => ?_, by omega⟩
    · have hi' : i < len := by simpa using hi
      obtain ⟨⟨hlt, hc⟩, _⟩ := hf i hi'
      obtain ⟨cs0, z1, _⟩ := hx 0 (by rw [hmm]; simp; omega)
      rw [Nat.zero_mul] at z1
      exact ⟨a'.block, a'.off, by rw [← addr_plain z1 (by omega)], hlt, by simpa using hc⟩
    · simp at hc
      obtain ⟨i, hi, rfl⟩ := hc
      exact (hf i hi).2

end Go.Proofs.YtciacofibljmoabGreatDoor

/- How slots that come in lie in memory. -/
namespace Go.Proofs.YtciacofibljmoabGreatDoor
open Go.RowKit

theorem openInts {H : Type} {enc : TypeId × Value → H} {W : World} {fuel : Nat} {a : Option Addr} {len cap : Nat} {x : DataW H × List MemPlace}
    (h : DataW.trod enc Tryz.prog W 0 (fun _ => true) true fuel 24 [.slice a len cap] = some x) :
    ∃ zs : List Int, zs.length = len ∧ IntsIn W a zs ∧ len ≤ maxLen := by
  rcases Deep.open_slice1 Tryz.underlying24 cells_int h with ⟨hcs, _⟩ | ⟨a', len', cap', m, n, V, D, Pl, hcs, _, hl, hm, hmm, _, hx⟩
  · simp at hcs
    obtain ⟨rfl, rfl, rfl⟩ := hcs
    exact ⟨[], rfl, fun i hi => by simp at hi, Nat.zero_le _⟩
  · simp at hcs
    obtain ⟨rfl, rfl, rfl⟩ := hcs
    have each : ∀ i, i < len → ∃ z : Int, a' = ⟨a'.block, a'.off, none⟩ ∧ a'.block < W.heap.size ∧ W.cell? ⟨a'.block, a'.off + i, none⟩ = some (.int .i64 z) := fun i hi => by
      obtain ⟨q0, _⟩ := hx 0 (by rw [hmm]; simp; omega)
      have hsp := World.cell?_spot q0
      have ha : a' = ⟨a'.block, a'.off, none⟩ := by
        cases a' with
        | mk b o s => simp [Addr.add] at hsp; subst hsp; rfl
      obtain ⟨q1, g1⟩ := hx i (by rw [hmm]; simp; omega)
      obtain ⟨z, e1, _, _⟩ := DataW.trod_int Tryz.underlying3 g1
      simp at e1
      rw [e1, ha, add_plain] at q1
      exact ⟨z, ha, World.block_lt_of_cell? W ⟨a'.block, a'.off + i, none⟩ q1, q1⟩
    obtain ⟨f, hf⟩ := Deep.choose_lt each
    refine ⟨(List.range len).map f, by simp, fun i hi => ?_, by omega⟩
    have hi' : i < len := by simpa using hi
    obtain ⟨ha, hlt, hc⟩ := hf i hi'
    exact ⟨a'.block, a'.off, by rw [← ha], hlt, by simpa using hc⟩

end Go.Proofs.YtciacofibljmoabGreatDoor

/- How a book that comes in lies in memory. -/
namespace Go.Proofs.YtciacofibljmoabGreatDoor
open Go.RowKit

theorem cells_lawcaps : Tryz.prog.cellsOf 22 = 1 := by kernel_rfl
theorem cells_lawflights : Tryz.prog.cellsOf 23 = 1 := by kernel_rfl
theorem cells_ints : Tryz.prog.cellsOf 24 = 1 := by kernel_rfl
theorem cells_lawbook : Tryz.prog.cellsOf 26 = 3 := by kernel_rfl

theorem slice_form {H : Type} {enc : TypeId × Value → H} {W : World} {fuel : Nat} {t et : TypeId} {cs0 : List Value} {x : DataW H × List MemPlace} (ht : Tryz.prog.underlying t = some (.slice et))
    (h : DataW.trod enc Tryz.prog W 0 (fun _ => true) true fuel t cs0 = some x) : ∃ a len cap, cs0 = [.slice a len cap] := by
  rcases Deep.open_slice ht h with ⟨hcs, _⟩ | ⟨a', len', cap', m, n, D, Pl, hcs, _⟩
  · exact ⟨none, 0, 0, hcs⟩
  · exact ⟨some a', len', cap', hcs⟩

set_option maxRecDepth 100000 in
theorem openBook {H : Type} {enc : TypeId × Value → H} {W : World} {n : Nat} {vs : List Value} (hl : vs.length = 3) {y : DataW H × List MemPlace}
    (h : DataW.trod enc Tryz.prog W 0 (fun _ => true) true n 26 vs = some y) :
    ∃ ac capc cs a cap fs a' cap' ss, vs = [.slice ac (List.length cs) capc, .slice a (List.length fs) cap, .slice a' (List.length ss) cap'] ∧ CapsIn W ac cs ∧ FlightsIn W a fs ∧ IntsIn W a' ss ∧
      (∀ c ∈ cs, c.1.size ≤ maxLen) ∧ (∀ c ∈ fs, SizesOk c) ∧ cs.length ≤ maxLen ∧ fs.length ≤ maxLen ∧ ss.length ≤ maxLen := by
  obtain ⟨xs, k, hk, hxy, _, hxl, hf⟩ := DataW.trod_struct Tryz.underlying26 h
  match xs, hxl, vs, hl with
  | [y0, y1, y2], _, [v0, v1, v2], _ =>
    have g0 := hf 0 _ rfl
    have g1 := hf 1 _ rfl
    have g2 := hf 2 _ rfl
    simp [cells_lawcaps, cells_lawflights, cells_ints] at g0 g1 g2
    obtain ⟨a0, n0, c0, e0⟩ := slice_form Tryz.underlying22 g0
    obtain ⟨a1, n1, c1, e1⟩ := slice_form Tryz.underlying23 g1
    obtain ⟨a2, n2, c2, e2⟩ := slice_form Tryz.underlying24 g2
    simp at e0 e1 e2
    subst e0 e1 e2
    obtain ⟨cs, rfl, h1, h2, h3⟩ := openCaps g0
    obtain ⟨fs, rfl, h4, h5, h6⟩ := openFlights g1
    obtain ⟨ss, rfl, h7, h8⟩ := openInts g2
    exact ⟨a0, c0, cs, a1, c1, fs, a2, c2, ss, rfl, h1, h4, h7, h2, h5, h3, h6, h8⟩

end Go.Proofs.YtciacofibljmoabGreatDoor
