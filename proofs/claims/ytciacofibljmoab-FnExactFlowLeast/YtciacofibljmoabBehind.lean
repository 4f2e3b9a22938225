/- What is full stands in a map: how it is laid, and the program's closure over it. -/
import Derived.Test.YtciacofibljmoabFullRuns
import Derived.Maps.OwnOps
import Derived.StringKeys
namespace Go.Proofs.Ytciacofibljmoab
open Go.RowKit Go.Maps

attribute [local go_sem ↓] Go.wp_at_zero Go.wp_at_succ

/-- Every value reads as itself. -/
def heldE (v : Value) : Option (DataW Value × List MemPlace) := some (.held v, [])
theorem law_string : Keyed Try.prog 9 := string_keyed Try.underlying9
theorem zero_runs (w : World) : (zeroValue 116).run Try.prog w = .ok (.slice none 0 0) w := by kernel_rfl
theorem wpList_lookup_held {P : Program} (w : World) {ops : Array Oper} {rest : List Oper} {o : Oper} {a : Act} {Q : Exit → Act → World → Prop}
    (hg : o.guard = none) (m x : Operand) (t : TypeId) (hop : o.op = Op.lookup t m x false)
    (k e : TypeId) (K : Keyed P k) (ht : P.underlying t = some (.map k e)) (z : Value) (hz : (zeroValue e).run P w = .ok z w) (b n : Nat) (D : DataW Value)
    (hm : a.eval m = .map (some b)) (hown : w.ownsMap P k heldE b n D) (key : Value) (kl : Lit) (hx : a.eval x = key) (hkey : keyOf P k key = some kl) (v : Value) (hv : D.atKey kl (.held z) = .held v)
    (hK : wpList P ops Q rest (a.put o.dst v) w) :
    wpList P ops Q (o :: rest) a w := by
  refine wpList_plain hg fun K' hK' => ?_
  obtain ⟨v', ps, hrun, hv'⟩ := hown.lookup K ht hz (zd := .held z) (zp := []) rfl hkey
  have e : v' = v := by
    simp only [heldE, Option.some.injEq, Prod.mk.injEq] at hv'
    rw [hv] at hv'
    simpa using hv'.1
  subst e
  unfold Oper.wp
  simp [execOp, hop, hm, hx, hrun, Result.andThen]
  exact hK' _ _ hK
theorem step_mapUpdate_own {H : Type} {P : Program} {w : World} {ops : Array Oper} {o : Oper} {a : Act} {K : Act → World → Prop} {Q : Exit → Act → World → Prop} {E : Prop} (hgd : o.guard = none) (m x v : Operand) (t : TypeId) (hop : o.op = Op.mapUpdate t m x v)
    (k e : TypeId) (Ky : Keyed P k) (ht : P.underlying t = some (.map k e)) (R : Value → Option (DataW H × List MemPlace)) (b n : Nat) (D : DataW H)
    (hm : a.eval m = .map (some b)) (hown : w.ownsMap P k R b n D) (hn : n < maxLen) (key val : Value) (kl : Lit) (hx : a.eval x = key) (hv : a.eval v = val) (hkey : keyOf P k key = some kl)
    (d : DataW H) (ps : List MemPlace) (hval : R val = some (d, ps))
    (h : ∀ w', w'.ownsMap P k R b (n + 1) (D.put kl d) → w.grownBy w' (some b) → K (a.put o.dst undef) w') :
    if Region.wanted o (yielded ops a.tmps) = true then Oper.wp P o a w K Q else E := by
  have hw : Region.wanted o (yielded ops a.tmps) = true := by simp [Region.wanted, hgd]
  rw [if_pos hw]
  obtain ⟨w', hrun, r1, r2⟩ := hown.update Ky ht hn hkey hval
  unfold Oper.wp
  simp [execOp, hop, hm, hx, hv, hrun, Result.andThen]
  exact h w' r1 r2

/-- Block B is a map that holds the runs F, by sectors. -/
def Taken (w : World) (B n : Nat) (D : DataW Value) (F : ByteArray → List Run) : Prop :=
  w.ownsMap Try.prog 9 heldE B n D ∧ ∀ s : ByteArray, ∃ a cap, D.atKey (.string s.data.toList) (.held (.slice none 0 0)) = .held (.slice a (F s).length cap) ∧ RunsIn w a (F s)
theorem Taken.later {w w' : World} {B n : Nat} {D : DataW Value} {F : ByteArray → List Run} (h : Taken w B n D F) (hb : Below w.heap.size w w') : Taken w' B n D F := by
  obtain ⟨hown, r⟩ := h
  have hlt := hown.lt
  obtain ⟨es, clock, hB, Ft, hs, hD⟩ := hown
  refine ⟨⟨es, clock, (hb.block B hlt).trans hB, Ft, hs, hD⟩, fun s => ?_⟩
  obtain ⟨a, cap, h1, h2⟩ := r s
  exact ⟨a, cap, h1, h2.later hb⟩
/-- Runs that lie in cells are as they were where a map alone was written. -/
theorem RunsIn.grown {w w' : World} {B : Nat} {a : Option Addr} {rs : List Run} (h : RunsIn w a rs) (hg : w.grownBy w' (some B)) (hB : ∃ es cl, w.heap[B]? = some (.map es cl)) : RunsIn w' a rs := fun i hi => by
  obtain ⟨b, off, ha, hlt, h0, h1, h2⟩ := h i hi
  have hne : some b ≠ some B := fun e => by
    obtain ⟨es, cl, hm⟩ := hB
    have hb : b = B := by simpa using e
    subst hb
    simp [World.cell?, hm] at h0
  exact ⟨b, off, ha, Nat.lt_of_lt_of_le hlt hg.size, cell_grown hg h0 hne, cell_grown hg h1 hne, cell_grown hg h2 hne⟩
theorem taken_put {w w' : World} {B n : Nat} {D : DataW Value} {F : ByteArray → List Run} (h : Taken w B n D F) (s : ByteArray) {a : Option Addr} {rs : List Run} {cap : Nat} (hr : RunsIn w a rs) (hg : w.grownBy w' (some B))
    (hown : w'.ownsMap Try.prog 9 heldE B (n + 1) (D.put (.string s.data.toList) (.held (.slice a rs.length cap)))) :
    Taken w' B (n + 1) (D.put (.string s.data.toList) (.held (.slice a rs.length cap))) (fun t => if s.toList = t.toList then rs else F t) := by
  have hm := h.1.isMap
  have hB : ∃ es cl, w.heap[B]? = some (.map es cl) := by
    obtain ⟨es, cl, hb, _⟩ := h.1
    exact ⟨es, cl, hb⟩
  refine ⟨hown, fun t => ?_⟩
  dsimp only
  by_cases e : s.toList = t.toList
  · rw [if_pos e]
    have e2 : s = t := toList_inj e
    subst e2
    exact ⟨a, cap, atKey_put_same hm (by simp [WideAt.IsKeyLit]) _ _, hr.grown hg hB⟩
  · rw [if_neg e]
    obtain ⟨a', cap', h1, h2⟩ := h.2 t
    refine ⟨a', cap', ?_, h2.grown hg hB⟩
    rw [atKey_put_other (fun hh => e ?_)]
    · exact h1
    · simp only [Lit.string.injEq] at hh
      rw [ByteArray.toList_eq, ByteArray.toList_eq]
      exact hh.symm

end Go.Proofs.Ytciacofibljmoab
