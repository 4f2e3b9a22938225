/- How caps that come in lie in memory. -/
import Derived.Test.YtciacofibljmoaaLeaf
import Derived.Deep.Slices
import Derived.ChangeArms
namespace Go.Proofs.Ytciacofibljmoaa
open Go.RowKit

theorem cells_lawcap : Try.prog.cellsOf 90 = 2 := by kernel_rfl
theorem cells_str : Try.prog.cellsOf 9 = 1 := by kernel_rfl
theorem cells_int : Try.prog.cellsOf 3 = 1 := by kernel_rfl

/-- The address of what is read cell by cell bears no spot. -/
theorem addr_plain {w : World} {a : Addr} {n : Nat} {cs : List Value} (h : w.cells? 0 (a.add 0) n = some cs) (hn : 0 < n) : a = ⟨a.block, a.off, none⟩ := by
  obtain ⟨_, hlen, hcell⟩ := World.cells?_some h
  have q0 := hcell 0 hn
  rw [List.getElem?_eq_getElem (show 0 < cs.length by omega)] at q0
  have q := World.cell?_spot q0
  cases a with
  | mk b o s => simp [Addr.add] at q; subst q; rfl

theorem add_plain (b o k : Nat) : (⟨b, o, none⟩ : Addr).add k = ⟨b, o + k, none⟩ := by
  unfold Addr.add
  split
  · rename_i h; subst h; rfl
  · rfl

set_option maxRecDepth 100000 in
theorem openCap1 {H : Type} {enc : TypeId × Value → H} {W : World} {n : Nat} {a : Addr} {i : Nat} {cs' : List Value} {y : DataW H × List MemPlace}
    (ha : a = ⟨a.block, a.off, none⟩) (h1 : W.cells? 0 (a.add (i * 2)) 2 = some cs') (h2 : DataW.trod enc Try.prog W 0 (fun _ => true) true n 90 cs' = some y) :
    ∃ c : ByteArray × Int, (a.block < W.heap.size ∧ capAt W a.block a.off i c) ∧ c.1.size ≤ maxLen := by
  obtain ⟨_, hlen, hcell⟩ := World.cells?_some h1
  obtain ⟨xs, k, hk, hxy, _, hxl, hf⟩ := DataW.trod_struct Try.underlying90 h2
  match xs, hxl, cs', hlen with
  | [y0, y1], _, [v0, v1], _ =>
    have g0 := hf 0 _ rfl
    have g1 := hf 1 _ rfl
    simp [cells_str, cells_int] at g0 g1
    obtain ⟨s, e0, _, hs⟩ := DataW.trod_string Try.underlying9 g0
    obtain ⟨m, e1, _, _⟩ := DataW.trod_int Try.underlying3 g1
    simp at e0 e1
    subst e0 e1
    have q0 := hcell 0 (by simp)
    have q1 := hcell 1 (by simp)
    rw [Deep.add_add] at q0 q1
    rw [ha] at q0 q1
    simp [add_plain] at q0 q1
    have hlt : a.block < W.heap.size := World.block_lt_of_cell? W ⟨a.block, a.off + i * 2, none⟩ q0
    exact ⟨(s, m), ⟨hlt, q0, by rw [Nat.add_assoc]; exact q1⟩, hs⟩

theorem openCaps {H : Type} {enc : TypeId × Value → H} {W : World} {fuel : Nat} {a : Option Addr} {len cap : Nat} {x : DataW H × List MemPlace}
    (h : DataW.trod enc Try.prog W 0 (fun _ => true) true fuel 46 [.slice a len cap] = some x) :
    ∃ cs : List (ByteArray × Int), cs.length = len ∧ CapsIn W a cs ∧ (∀ c ∈ cs, c.1.size ≤ maxLen) ∧ len ≤ maxLen := by
  rcases Deep.open_slice Try.underlying46 h with ⟨hcs, _⟩ | ⟨a', len', cap', m, n, D, Pl, hcs, _, hl, hm, hmm, _, hx⟩
  · simp at hcs
    obtain ⟨rfl, rfl, rfl⟩ := hcs
    exact ⟨[], rfl, fun i hi => by simp at hi, by simp, Nat.zero_le _⟩
  · simp at hcs
    obtain ⟨rfl, rfl, rfl⟩ := hcs
    rw [cells_lawcap] at hx
    have each : ∀ i, i < len → ∃ c : ByteArray × Int, (a'.block < W.heap.size ∧ capAt W a'.block a'.off i c) ∧ c.1.size ≤ maxLen := fun i hi => by
      obtain ⟨cs0, z1, _⟩ := hx 0 (by rw [hmm]; simp; omega)
      rw [Nat.zero_mul] at z1
      obtain ⟨cs', h1, h2⟩ := hx i (by rw [hmm]; simp; omega)
      exact openCap1 (addr_plain z1 (by omega)) h1 h2
    obtain ⟨f, hf⟩ := Deep.choose_lt each
    refine ⟨(List.range len).map f, by simp, fun i hi => ?_, fun c hc => ?_, by omega⟩
    · have hi' : i < len := by simpa using hi
      obtain ⟨⟨hlt, hc⟩, _⟩ := hf i hi'
      obtain ⟨cs0, z1, _⟩ := hx 0 (by rw [hmm]; simp; omega)
      rw [Nat.zero_mul] at z1
      exact ⟨a'.block, a'.off, by rw [← addr_plain z1 (by omega)], hlt, by simpa using hc⟩
    · simp at hc
      obtain ⟨i, hi, rfl⟩ := hc
      exact (hf i hi).2

end Go.Proofs.Ytciacofibljmoaa
