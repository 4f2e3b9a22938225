/- How a book that comes in lies in memory. -/
import Derived.Test.YtciacofibljmoabGreatOpenFl
import Derived.Test.YtciacofibljmoabGreatOpenInts
namespace Go.Proofs.YtciacofibljmoabGreat
open Go.RowKit

theorem cells_lawcaps : Tryz.prog.cellsOf 22 = 1 := by kernel_rfl
theorem cells_lawflights : Tryz.prog.cellsOf 23 = 1 := by kernel_rfl
theorem cells_ints : Tryz.prog.cellsOf 26 = 1 := by kernel_rfl
theorem cells_lawbook : Tryz.prog.cellsOf 40 = 3 := by kernel_rfl

theorem slice_form {H : Type} {enc : TypeId × Value → H} {W : World} {fuel : Nat} {t et : TypeId} {cs0 : List Value} {x : DataW H × List MemPlace} (ht : Tryz.prog.underlying t = some (.slice et))
    (h : DataW.trod enc Tryz.prog W 0 (fun _ => true) true fuel t cs0 = some x) : ∃ a len cap, cs0 = [.slice a len cap] := by
  rcases Deep.open_slice ht h with ⟨hcs, _⟩ | ⟨a', len', cap', m, n, D, Pl, hcs, _⟩
  · exact ⟨none, 0, 0, hcs⟩
  · exact ⟨some a', len', cap', hcs⟩

set_option maxRecDepth 100000 in
theorem openBook {H : Type} {enc : TypeId × Value → H} {W : World} {n : Nat} {vs : List Value} (hl : vs.length = 3) {y : DataW H × List MemPlace}
    (h : DataW.trod enc Tryz.prog W 0 (fun _ => true) true n 40 vs = some y) :
    ∃ ac capc cs a cap fs a' cap' ss, vs = [.slice ac (List.length cs) capc, .slice a (List.length fs) cap, .slice a' (List.length ss) cap'] ∧ CapsIn W ac cs ∧ FlightsIn W a fs ∧ IntsIn W a' ss ∧
      (∀ c ∈ cs, c.1.size ≤ maxLen) ∧ (∀ c ∈ fs, SizesOk c) ∧ cs.length ≤ maxLen ∧ fs.length ≤ maxLen ∧ ss.length ≤ maxLen := by
  obtain ⟨xs, k, hk, hxy, _, hxl, hf⟩ := DataW.trod_struct Tryz.underlying40 h
  match xs, hxl, vs, hl with
  | [y0, y1, y2], _, [v0, v1, v2], _ =>
    have g0 := hf 0 _ rfl
    have g1 := hf 1 _ rfl
    have g2 := hf 2 _ rfl
    simp [cells_lawcaps, cells_lawflights, cells_ints] at g0 g1 g2
    obtain ⟨a0, n0, c0, e0⟩ := slice_form Tryz.underlying22 g0
    obtain ⟨a1, n1, c1, e1⟩ := slice_form Tryz.underlying23 g1
    obtain ⟨a2, n2, c2, e2⟩ := slice_form Tryz.underlying26 g2
    simp at e0 e1 e2
    subst e0 e1 e2
    obtain ⟨cs, rfl, h1, h2, h3⟩ := openCaps g0
    obtain ⟨fs, rfl, h4, h5, h6⟩ := openFlights g1
    obtain ⟨ss, rfl, h7, h8⟩ := openInts g2
    exact ⟨a0, c0, cs, a1, c1, fs, a2, c2, ss, rfl, h1, h4, h7, h2, h5, h3, h6, h8⟩

end Go.Proofs.YtciacofibljmoabGreat
