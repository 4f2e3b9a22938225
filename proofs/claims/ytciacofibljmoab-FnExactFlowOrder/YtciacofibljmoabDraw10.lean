/- Caps are spoilt; any caps are drawn. -/
import Derived.Test.YtciacofibljmoabDraw9
namespace Go.Proofs.Ytciacofibljmoab
open Go.RowKit

theorem capVals_len (cs : List (ByteArray × Int)) : (capVals cs).length = cs.length * 2 := by
  induction cs with
  | nil => rfl
  | cons r l ih => simp only [capVals, List.flatMap_cons, List.length_append, List.length_cons, List.length_nil] at *; omega
theorem caps_news {w : World} {a : Option Addr} {cs : List (ByteArray × Int)} (h : CapsIn w a cs) (h1 : 1 ≤ cs.length) : ∃ b off, a = some ⟨b, off, none⟩ ∧ ∀ j u, (capVals cs)[j]? = some u → w.cell? ((⟨b, off, none⟩ : Addr).add j) = some u := by
  obtain ⟨b, off, e, hb, _⟩ := h 0 (by omega)
  refine ⟨b, off, e, fun j u hj => ?_⟩
  have hlt : j < (capVals cs).length := by
    rcases Nat.lt_or_ge j (capVals cs).length with hh | hh
    · exact hh
    · rw [List.getElem?_eq_none hh] at hj; simp at hj
  rw [capVals_len] at hlt
  have hi : j / 2 < cs.length := by omega
  obtain ⟨b', off', e', _, c0, c1⟩ := h (j / 2) hi
  rw [e] at e'
  simp at e'
  obtain ⟨rfl, rfl⟩ := e'
  obtain ⟨q0, q1⟩ := capVals_at cs (j / 2) hi
  have ha : (⟨b, off, none⟩ : Addr).add j = ⟨b, off + j, none⟩ := by
    by_cases hz : j = 0
    · subst hz; rfl
    · simp [Addr.add, hz]
  rw [ha]
  have hm : j % 2 = 0 ∨ j % 2 = 1 := by omega
  rcases hm with hm | hm
  · rw [show j / 2 * 2 = j by omega] at q0 c0
    rw [hj] at q0
    rw [c0, ← q0]
  · rw [show j / 2 * 2 + 1 = j by omega] at q1
    rw [show off + j / 2 * 2 + 1 = off + j by omega] at c1
    rw [hj] at q1
    rw [c1, ← q1]
theorem capVals_one (cs : List (ByteArray × Int)) : ∀ u ∈ capVals cs, u.oneCell' = true := fun u hu => by
  unfold capVals at hu
  obtain ⟨v, _, hv⟩ := List.mem_flatMap.1 hu
  simp at hv
  rcases hv with rfl | rfl <;> rfl
theorem capVals_set0 : ∀ (cs : List (ByteArray × Int)) (k : Nat) (hk : k < cs.length) (s : ByteArray), (capVals cs).set (k * 2) (.string s) = capVals (cs.set k (s, cs[k].2))
  | [], k, hk, _ => by simp at hk
  | c :: cs, 0, _, z => by simp [capVals]
  | c :: cs, k + 1, hk, z => by
    have ih := capVals_set0 cs k (by simpa using hk) z
    rw [show (k + 1) * 2 = k * 2 + 1 + 1 by omega]
    simpa [capVals] using ih
theorem capVals_set1 : ∀ (cs : List (ByteArray × Int)) (k : Nat) (hk : k < cs.length) (z : Int), (capVals cs).set (k * 2 + 1) (.int .i64 z) = capVals (cs.set k (cs[k].1, z))
  | [], k, hk, _ => by simp at hk
  | c :: cs, 0, _, z => by simp [capVals]
  | c :: cs, k + 1, hk, z => by
    have ih := capVals_set1 cs k (by simpa using hk) z
    rw [show (k + 1) * 2 + 1 = k * 2 + 1 + 1 + 1 by omega]
    simpa [capVals] using ih
theorem own_setC0 {w : World} {base g cp : Nat} {cs : List (ByteArray × Int)} (h : OwnC w base (.slice (some ⟨g, 0, none⟩) cs.length cp) cs) {k : Nat} (hk : k < cs.length) (s : ByteArray) :
    OwnC (w.setCell ⟨g, k * 2, none⟩ (.string s)) base (.slice (some ⟨g, 0, none⟩) cs.length cp) (cs.set k (s, cs[k].2)) := by
  have hs := (World.ownsRow.stored h (k * 2) (.string s)).1
  rw [capVals_set0 cs k hk s] at hs
  unfold OwnC
  rw [List.length_set]
  exact hs
theorem own_setC1 {w : World} {base g cp : Nat} {cs : List (ByteArray × Int)} (h : OwnC w base (.slice (some ⟨g, 0, none⟩) cs.length cp) cs) {k : Nat} (hk : k < cs.length) (z : Int) :
    OwnC (w.setCell ⟨g, k * 2 + 1, none⟩ (.int .i64 z)) base (.slice (some ⟨g, 0, none⟩) cs.length cp) (cs.set k (cs[k].1, z)) := by
  have hs := (World.ownsRow.stored h (k * 2 + 1) (.int .i64 z)).1
  rw [capVals_set1 cs k hk z] at hs
  unfold OwnC
  rw [List.length_set]
  exact hs
theorem own_cellsC {w : World} {base g n c : Nat} {cs : List (ByteArray × Int)} (h : OwnC w base (.slice (some ⟨g, 0, none⟩) n c) cs) {k : Nat} (hk : k < cs.length) :
    (w.cell? ⟨g, k * 2, none⟩ = some (.string cs[k].1) ∧ w.frozen? ⟨g, k * 2, none⟩ = false) ∧ (w.cell? ⟨g, k * 2 + 1, none⟩ = some (.int .i64 cs[k].2) ∧ w.frozen? ⟨g, k * 2 + 1, none⟩ = false) := by
  obtain ⟨a', c', e, _, _, _, hc⟩ := owns_slice h
  simp at e
  obtain ⟨rfl, _⟩ := e
  obtain ⟨q0, q1⟩ := capVals_at cs k hk
  obtain ⟨g0, e0, _, _, r0, s0⟩ := hc _ _ q0
  obtain ⟨g1, e1, _, _, r1, s1⟩ := hc _ _ q1
  simp at e0 e1
  subst e0
  subst e1
  exact ⟨⟨r0, s0⟩, r1, s1⟩
theorem CapsSm.set {m : Nat} {cs : List (ByteArray × Int)} (h : CapsSm m cs) (k : Nat) (c : ByteArray × Int) (hc : c.1.size ≤ 8) : CapsSm m (cs.set k c) := by
  obtain ⟨h1, h2⟩ := h
  refine ⟨by simpa using h1, fun v hv => ?_⟩
  rcases List.mem_or_eq_of_mem_set hv with hv | rfl
  · exact h2 v hv
  · exact hc
theorem CapsSm.snoc {m : Nat} {cs : List (ByteArray × Int)} (h : CapsSm m cs) (c : ByteArray × Int) (hc : c.1.size ≤ 8) : CapsSm (m + 1) (cs ++ [c]) := by
  obtain ⟨h1, h2⟩ := h
  refine ⟨by simp; omega, fun v hv => ?_⟩
  rcases List.mem_append.1 hv with hv | hv
  · exact h2 v hv
  · simp at hv; subst hv; exact hc
theorem CapsSm.mono {m n : Nat} {cs : List (ByteArray × Int)} (h : CapsSm m cs) (hn : m ≤ n) : CapsSm n cs := ⟨Nat.le_trans h.1 hn, h.2⟩
def spoilCaps : List ByteArray := [⟨#[]⟩, ⟨#[69]⟩, ⟨#[122, 122]⟩, ⟨#[101]⟩]
theorem spoilCaps_size : ∀ s ∈ spoilCaps, s.size ≤ 8 := by decide

end Go.Proofs.Ytciacofibljmoab
