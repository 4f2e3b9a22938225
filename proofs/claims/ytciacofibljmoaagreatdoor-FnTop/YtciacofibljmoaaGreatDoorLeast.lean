/- Where a sector has no room for one more: the program's own way, walked. -/
import Derived.Test.YtciacofibljmoaaGreatDoorMathsB
import Derived.Test.YtciacofibljmoaaGreatDoorFitsAll
import Derived.Maps.OwnOps
import Derived.StringKeys
import Derived.RangeFuncNested
import Derived.RangeFuncBound
import Derived.RangeFuncCalls
import Derived.RangeFuncLeaves
import Derived.Shelf.Abstract
import Derived.Shelf.RegionOpen
import Derived.OwnWalkIn
import Derived.TacticsInMore
import Derived.LoopNIn
import Derived.LoopIn
import Derived.Deep.RegionHeld3
namespace Go.Proofs.YtciacofibljmoaaGreatDoor
open Go.RowKit

theorem own_one (W : World) (base : Nat) (hb : base ≤ W.heap.size) (x y z : Int) : OwnRuns (W.alloc (.cells #[.int .i64 x, .int .i64 y, .int .i64 z] 105)) base (.slice (some ⟨W.heap.size, 0, none⟩) 1 1) [(x, y, z)] :=
  ⟨rfl, .inr ⟨W.heap.size, 1, _, rfl, hb, World.alloc_heap_new W _, Nat.le_refl _, by unfold maxLen; omega, rfl, rfl⟩⟩
theorem filter_take {rs : List Run} {p : Run → Bool} {k : Nat} (hk : k < rs.length) : (rs.take (k + 1)).filter p = (rs.take k).filter p ++ if p rs[k] = true then [rs[k]] else [] := by
  rw [List.take_succ_eq_append_getElem hk, List.filter_append]
  congr 1
  by_cases h : p rs[k] = true
  · simp [h]
  · simp [h]
theorem own_baseR {w : World} {base base' : Nat} {v : Value} {rs : List Run} (h : OwnRuns w base v rs) (hb : base' ≤ base) : OwnRuns w base' v rs := by
  obtain ⟨h1, h2⟩ := h
  refine ⟨h1, ?_⟩
  rcases h2 with h2 | ⟨g, cap, cur, e1, e2, e3⟩
  · exact .inl h2
  · exact .inr ⟨g, cap, cur, e1, by omega, e3⟩

set_option maxRecDepth 100000 in
set_option maxHeartbeats 3200000 in
theorem fullRuns_any (c : ByteArray × Int) (a a' : Option Addr) (cap cap' : Nat) (fs : List Fli) (ss : List Int) (w : World) (hc : FlightsIn w a fs) (hc' : IntsIn w a' ss) (hok : slotsB fs ss = true) :
    Calls Tryz.prog 70 #[.agg #[.string c.1, .int .i64 c.2], .slice a fs.length cap, .slice a' ss.length cap'] w fun e w' => ∃ v, e = .returned v ∧ OwnRuns w' w.heap.size v (fullV c.2 (runsL fs ss c.1)) ∧ Below w.heap.size w w' := by
  obtain ⟨i0, hi, iz0, iz1, iz2⟩ := info_parts info_run
  have HC := hide hc
  have HC' := hide hc'
  have H2 := hide hok
  have HHY := hide (changes_hyps hok c.1)
  clear hc hc' hok
  obtain ⟨sec, cp⟩ := c
  simp only at HHY ⊢
  by_cases h0 : cp = 0
  · subst h0
    have HV : Hid (fullV 0 (runsL fs ss sec) = [(0, 10290, 0)]) := by show _ = _; unfold fullV; rw [if_pos rfl]
    have hd2 : ((0 : Int) == 0) = true := rfl
    go_enter Tryz.func70, Tryz.ntmps70
    go_wp2
    go_ret
    refine ⟨_, rfl, ?_, ((Below.refl _ _).alloc (Nat.le_refl _) _).alloc (by simp) _⟩
    rw [HV.out]
    have := own_one (w.alloc (.cells #[.string sec, .int .i64 0] 61)) w.heap.size (by simp) 0 10290 0
    simpa using this
  · have HV : Hid (fullV cp (runsL fs ss sec) = (runsL fs ss sec).filter fun r => decide (cp ≤ r.2.2)) := by show _ = _; unfold fullV; rw [if_neg h0]
    have hd2 : (cp == 0) = false := beq_eq_false_iff_ne.2 h0
    clear h0
    obtain ⟨W, hW, x0, x1, hWb⟩ := alloc2 w (.string sec) (.int .i64 cp) 61
    have X1 := hide x1
    have HWB := hide hWb
    have HW := hide hW
    clear x0 x1 hWb hW
    go_enter Tryz.func70, Tryz.ntmps70
    go_wp2_with fail
    rw [HW.out]
    refine (loadChanges_any a a' cap cap' fs ss sec W (HC.out.later HWB.out) (HC'.out.later HWB.out) H2.out).mono ?_
    rintro e w4 ⟨rfl, ⟨n, DD, hn, hchg⟩, hb4⟩
    have HCH := hide hchg
    have HB4 := hide hb4
    clear hchg hb4
    go_wp2_with fail
    refine (runsOf_any W.heap.size n DD _ _ w4 HCH.out (by omega) HHY.out.1 HHY.out.2).mono ?_
    rintro e w5 ⟨v, zs, rfl, hz, hm, hor, hle, hb5⟩
    rw [impl_runs H2.out hz hm] at hor hle
    obtain ⟨ar, cr, rfl, hri⟩ := own_runs hor
    have HRI := hide hri
    have HB5 := hide (below_two HB4.out hb5)
    have HX := hide (cell_later hb5 (cell_later HB4.out X1.out))
    have hBase := hide (below_two HWB.out HB5.out)
    clear hz hm hor hri hb5 HCH HHY
    generalize hrs : runsL fs ss sec = rs at HV HRI hle
    have HRS := hide hrs
    clear hrs
    go_wp2
    go_loopw [7, 22] (fun v i wr => ∃ (k : Nat), k ≤ rs.length ∧ i = .int .i64 k ∧ Hid (OwnRuns wr w5.heap.size v ((rs.take k).filter fun r => decide (cp ≤ r.2.2))) ∧ Hid (Below w5.heap.size w5 wr)) (fun _ i _ => rs.length - (RowKit.intOf i).toNat)
    case atStart => exact ⟨0, Nat.zero_le _, rfl, World.ownsRow_nil _ _ _ _, Below.refl _ _⟩
    case round =>
      obtain ⟨k, hk, rfl, HO, HB⟩ := hrel
      by_cases hlt : k < rs.length
      · obtain ⟨br, orr, rfl, hbr, r0, r1, r2⟩ := HRI.out.later HB.out k hlt
        have hcap := cell_later HB.out HX.out
        have hlt6 : w.heap.size < wr.heap.size := World.block_lt_of_cell? wr ⟨w.heap.size, 1, none⟩ hcap
        have HFT := hide (filter_take (p := fun r => decide (cp ≤ r.2.2)) hlt)
        have hlen : ((rs.take k).filter fun r => decide (cp ≤ r.2.2)).length ≤ k := Nat.le_trans (List.length_filter_le _ _) (by simp; omega)
        generalize rs[k] = r at r0 r1 r2 HFT
        generalize (rs.take k).filter (fun r => decide (cp ≤ r.2.2)) = out at HO HFT hlen
        by_cases hge : cp ≤ r.2.2
        · have HF : Hid ((rs.take (k + 1)).filter (fun r => decide (cp ≤ r.2.2)) = out ++ [r]) := by show _ = _; rw [HFT.out, if_pos (by simpa using hge)]
          clear HFT
          go_wp2_with (first
            | (at_builtin; refine wpList_append_own _ rfl _ _ 100 rfl w5.heap.size 105 i0 (.agg #[.int .i64 0, .int .i64 0, .int .i64 0]) 3 24 Tryz.underlying100 hi iz0 iz1 iz2 rfl (by decide) _ _ _ rfl ((HO.out.alloc _).alloc _) ⟨wr.heap.size + 1, 0, none⟩ 1 1 [.int .i64 r.1, .int .i64 r.2.1, .int .i64 r.2.2] rfl rfl (by have := cell_three_new (wr.alloc (.cells #[.int .i64 r.1, .int .i64 r.2.1, .int .i64 r.2.2] 105)) (.int .i64 r.1) (.int .i64 r.2.1) (.int .i64 r.2.2) 105; simpa using this) (fun x hx => by simp at hx; rcases hx with rfl | rfl | rfl <;> rfl) (by unfold maxLen; omega) (by omega) (by have := HB.out.size; simp; omega) ?_; intro v' w3 hown3 hgrow3 hnil3; have HO3 := hide hown3; have HB3 := hide (Below.grown ((HB.out.alloc HB.out.size _).alloc (by have := HB.out.size; simp; omega) _) hgrow3 (by have := HB.out.size; simp; omega) (fun q hq => (HO.out.lt _ hq).1)); clear hown3 hgrow3 hnil3))
          go_roundw
          case rel => exact ⟨k + 1, by omega, by go_num, by show OwnRuns _ _ _ _; rw [HF.out]; show World.ownsRow _ _ _ _ _ _ _; rw [runCells_snoc, List.length_append]; exact HO3.out, HB3.out⟩
          case measure => simp [RowKit.intOf]; omega
        · have hge' : decide (cp ≤ r.2.2) = false := decide_eq_false hge
          have HF : Hid ((rs.take (k + 1)).filter (fun r => decide (cp ≤ r.2.2)) = out) := by show _ = _; rw [HFT.out, if_neg (by simpa using hge), List.append_nil]
          clear HFT
          go_wp2
          go_roundw
          case rel => exact ⟨k + 1, by omega, by go_num, by show OwnRuns _ _ _ _; rw [HF.out]; exact World.ownsRow.alloc HO.out _, HB.out.alloc HB.out.size _⟩
          case measure => simp [RowKit.intOf]; omega
      · go_wp2
        go_ret
        have : k = rs.length := by omega
        subst this
        refine ⟨_, rfl, ?_, below_two hBase.out HB.out⟩
        rw [HRS.out, HV.out]
        have h3 := HO.out
        rw [List.take_length] at h3
        exact own_baseR h3 hBase.out.size

end Go.Proofs.YtciacofibljmoaaGreatDoor

/- What is full stands in a map: how it is laid, and the program's closure over it. -/
namespace Go.Proofs.YtciacofibljmoaaGreatDoor
open Go.RowKit Go.Maps

attribute [local go_sem ↓] Go.wp_at_zero Go.wp_at_succ

/-- Every value reads as itself. -/
def heldE (v : Value) : Option (DataW Value × List MemPlace) := some (.held v, [])
theorem law_string : Keyed Tryz.prog 9 := string_keyed Tryz.underlying9
theorem zero_runs (w : World) : (zeroValue 100).run Tryz.prog w = .ok (.slice none 0 0) w := by kernel_rfl
theorem wpList_lookup_held {P : Program} (w : World) {ops : Array Oper} {rest : List Oper} {o : Oper} {a : Act} {Q : Exit → Act → World → Prop}
    (hg : o.guard = none) (m x : Operand) (t : TypeId) (hop : o.op = Op.lookup t m x false)
    (k e : TypeId) (K : Keyed P k) (ht : P.underlying t = some (.map k e)) (z : Value) (hz : (zeroValue e).run P w = .ok z w) (b n : Nat) (D : DataW Value)
    (hm : a.eval m = .map (some b)) (hown : w.ownsMap P k heldE b n D) (key : Value) (kl : Lit) (hx : a.eval x = key) (hkey : keyOf P k key = some kl) (v : Value) (hv : D.atKey kl (.held z) = .held v)
    (hK : wpList P ops Q rest (a.put o.dst v) w) :
    wpList P ops Q (o :: rest) a w := by
  refine wpList_plain hg fun K' hK' => ?_
  obtain ⟨v', ps, hrun, hv'⟩ := hown.lookup K ht hz (zd := .held z) (zp := []) rfl hkey
  have e : v' = v := by
    simp only [heldE, Option.some.injEq, Prod.mk.injEq] at hv'
    rw [hv] at hv'
    simpa using hv'.1
  subst e
  unfold Oper.wp
  simp [execOp, hop, hm, hx, hrun, Result.andThen]
  exact hK' _ _ hK
theorem step_mapUpdate_own {H : Type} {P : Program} {w : World} {ops : Array Oper} {o : Oper} {a : Act} {K : Act → World → Prop} {Q : Exit → Act → World → Prop} {E : Prop} (hgd : o.guard = none) (m x v : Operand) (t : TypeId) (hop : o.op = Op.mapUpdate t m x v)
    (k e : TypeId) (Ky : Keyed P k) (ht : P.underlying t = some (.map k e)) (R : Value → Option (DataW H × List MemPlace)) (b n : Nat) (D : DataW H)
    (hm : a.eval m = .map (some b)) (hown : w.ownsMap P k R b n D) (hn : n < maxLen) (key val : Value) (kl : Lit) (hx : a.eval x = key) (hv : a.eval v = val) (hkey : keyOf P k key = some kl)
    (d : DataW H) (ps : List MemPlace) (hval : R val = some (d, ps))
    (h : ∀ w', w'.ownsMap P k R b (n + 1) (D.put kl d) → w.grownBy w' (some b) → K (a.put o.dst undef) w') :
    if Region.wanted o (yielded ops a.tmps) = true then Oper.wp P o a w K Q else E := by
  have hw : Region.wanted o (yielded ops a.tmps) = true := by simp [Region.wanted, hgd]
  rw [if_pos hw]
  obtain ⟨w', hrun, r1, r2⟩ := hown.update Ky ht hn hkey hval
  unfold Oper.wp
  simp [execOp, hop, hm, hx, hv, hrun, Result.andThen]
  exact h w' r1 r2

/-- Block B is a map that holds the runs F, by sectors. -/
def Taken (w : World) (B n : Nat) (D : DataW Value) (F : ByteArray → List Run) : Prop :=
  w.ownsMap Tryz.prog 9 heldE B n D ∧ ∀ s : ByteArray, ∃ a cap, D.atKey (.string s.data.toList) (.held (.slice none 0 0)) = .held (.slice a (F s).length cap) ∧ RunsIn w a (F s)
theorem Taken.later {w w' : World} {B n : Nat} {D : DataW Value} {F : ByteArray → List Run} (h : Taken w B n D F) (hb : Below w.heap.size w w') : Taken w' B n D F := by
  obtain ⟨hown, r⟩ := h
  have hlt := hown.lt
  obtain ⟨es, clock, hB, Ft, hs, hD⟩ := hown
  refine ⟨⟨es, clock, (hb.block B hlt).trans hB, Ft, hs, hD⟩, fun s => ?_⟩
  obtain ⟨a, cap, h1, h2⟩ := r s
  exact ⟨a, cap, h1, h2.later hb⟩
/-- Runs that lie in cells are as they were where a map alone was written. -/
theorem RunsIn.grown {w w' : World} {B : Nat} {a : Option Addr} {rs : List Run} (h : RunsIn w a rs) (hg : w.grownBy w' (some B)) (hB : ∃ es cl, w.heap[B]? = some (.map es cl)) : RunsIn w' a rs := fun i hi => by
  obtain ⟨b, off, ha, hlt, h0, h1, h2⟩ := h i hi
  have hne : some b ≠ some B := fun e => by
    obtain ⟨es, cl, hm⟩ := hB
    have hb : b = B := by simpa using e
    subst hb
    simp [World.cell?, hm] at h0
  exact ⟨b, off, ha, Nat.lt_of_lt_of_le hlt hg.size, cell_grown hg h0 hne, cell_grown hg h1 hne, cell_grown hg h2 hne⟩
theorem taken_put {w w' : World} {B n : Nat} {D : DataW Value} {F : ByteArray → List Run} (h : Taken w B n D F) (s : ByteArray) {a : Option Addr} {rs : List Run} {cap : Nat} (hr : RunsIn w a rs) (hg : w.grownBy w' (some B))
    (hown : w'.ownsMap Tryz.prog 9 heldE B (n + 1) (D.put (.string s.data.toList) (.held (.slice a rs.length cap)))) :
    Taken w' B (n + 1) (D.put (.string s.data.toList) (.held (.slice a rs.length cap))) (fun t => if s.toList = t.toList then rs else F t) := by
  have hm := h.1.isMap
  have hB : ∃ es cl, w.heap[B]? = some (.map es cl) := by
    obtain ⟨es, cl, hb, _⟩ := h.1
    exact ⟨es, cl, hb⟩
  refine ⟨hown, fun t => ?_⟩
  dsimp only
  by_cases e : s.toList = t.toList
  · rw [if_pos e]
    have e2 : s = t := toList_inj e
    subst e2
    exact ⟨a, cap, atKey_put_same hm (by simp [WideAt.IsKeyLit]) _ _, hr.grown hg hB⟩
  · rw [if_neg e]
    obtain ⟨a', cap', h1, h2⟩ := h.2 t
    refine ⟨a', cap', ?_, h2.grown hg hB⟩
    rw [atKey_put_other (fun hh => e ?_)]
    · exact h1
    · simp only [Lit.string.injEq] at hh
      rw [ByteArray.toList_eq, ByteArray.toList_eq]
      exact hh.symm

end Go.Proofs.YtciacofibljmoaaGreatDoor

/- The closure that remembers what is taken: it answers the slot itself, or one behind which nothing that it leaps over is free. -/
namespace Go.Proofs.YtciacofibljmoaaGreatDoor
open Go.RowKit Go.Maps

attribute [local go_sem ↓] Go.wp_at_zero Go.wp_at_succ

def FreeF (F : ByteArray → List Run) (vs : List Vis) (t : Int) : Prop := ∀ v ∈ vs, ∀ r ∈ F v.1, ¬ Meets r (t + v.2.1) v.2.2
theorem leap_not {F : ByteArray → List Run} {vs : List Vis} {v : Vis} (hv : v ∈ vs) {r : Run} (hr : r ∈ F v.1) {slot : Int} (_h1 : slot + v.2.1 ≤ r.2.1) (h2 : r.1 < slot + v.2.1 + v.2.2) : ∀ u, slot ≤ u → u < r.2.1 + 1 - v.2.1 → ¬ FreeF F vs u := fun u u0 u1 hf =>
  hf v hv r hr ⟨by omega, by omega⟩
/-- What the visit at a place meets. -/
def meetsNot (F : ByteArray → List Run) (v : Vis) (slot : Int) : Prop := ∀ r ∈ F v.1, ¬ Meets r (slot + v.2.1) v.2.2
theorem free_all {F : ByteArray → List Run} {vs : List Vis} {slot : Int} (h : ∀ j (hj : j < vs.length), meetsNot F vs[j] slot) : FreeF F vs slot := fun v hv => by
  obtain ⟨j, hj, rfl⟩ := List.getElem_of_mem hv
  exact h j hj
theorem meets_all {rs : List Run} {a n : Int} (h : ∀ q (hq : q < rs.length), ¬ Meets rs[q] a n) : ∀ r ∈ rs, ¬ Meets r a n := fun r hr => by
  obtain ⟨j, hj, rfl⟩ := List.getElem_of_mem hr
  exact h j hj

set_option maxRecDepth 100000 in
set_option maxHeartbeats 6400000 in
theorem behind_any (f : Fli) (av : Option Addr) (cv : Nat) (slot : Int) (Bx B n : Nat) (D : DataW Value) (F : ByteArray → List Run) (w : World) (hx : w.cell? ⟨Bx, 0, none⟩ = some (.map (some B))) (hT : Taken w B n D F) (hv : VisitsIn w av f.2.2.2) (hl : f.2.2.2.length ≤ 5) (hbd : VisBd f.2.2.2) (hvs : ∀ v ∈ f.2.2.2, v.1.size ≤ maxLen)
    (hF : ∀ s, ∀ r ∈ F s, (0 ≤ r.1 ∧ r.1 ≤ 20001) ∧ 0 ≤ r.2.1 ∧ r.2.1 ≤ 20001) (hFl : ∀ s, (F s).length ≤ 1048576) (hs0 : 0 ≤ slot) (hs1 : slot ≤ 10060) :
    Calls Tryz.prog 71 #[.agg #[.string f.1, .int .i64 f.2.1, .int .i64 f.2.2.1, .slice av f.2.2.2.length cv], .int .i64 slot, .pointer (some ⟨Bx, 0, none⟩)] w fun e w' => (∃ res : Int, e = .returned (.int .i64 res) ∧ res ≤ 20002 ∧ ((FreeF F f.2.2.2 slot ∧ res = slot) ∨ (slot < res ∧ ∀ u, slot ≤ u → u < res → ¬ FreeF F f.2.2.2 u))) ∧ Below w.heap.size w w' := by
  obtain ⟨nm, pl, lt, vs⟩ := f
  simp only at hv hl hbd hvs ⊢
  have HX := hide hx
  have HT := hide hT
  have HV := hide hv
  have HBD := hide hbd
  have HVS := hide hvs
  have HF := hide hF
  have HFL := hide hFl
  clear hx hT hv hbd hvs hF hFl
  have hb0 := hide ((Below.refl w.heap.size w).alloc (Nat.le_refl _) (.cells #[.string nm, .int .i64 pl, .int .i64 lt, .slice av vs.length cv] 32))
  go_enter Tryz.func71, Tryz.ntmps71
  go_wp2
  go_loopw [14] (fun i wr => ∃ (k : Nat), k ≤ vs.length ∧ i = .int .i64 k ∧ Hid (∀ j (hj : j < vs.length), j < k → meetsNot F vs[j] slot) ∧ Hid (Below w.heap.size w wr)) (fun i _ => vs.length - (RowKit.intOf i).toNat)
  case atStart => exact ⟨0, Nat.zero_le _, rfl, fun j _ hj => by omega, hb0.out⟩
  case round =>
    obtain ⟨k, hk, rfl, HK, HB⟩ := hrel
    by_cases hlt : k < vs.length
    · obtain ⟨b, off, rfl, hblt, e0, e1, e2⟩ := HV.out.later HB.out k hlt
      obtain ⟨⟨b0, b1⟩, b2, b3⟩ := HBD.out _ (List.getElem_mem hlt)
      have hsz := HVS.out _ (List.getElem_mem hlt)
      have HMV := hide (List.getElem_mem hlt)
      have HKS : Hid (meetsNot F vs[k] slot → ∀ j (hj : j < vs.length), j < k + 1 → meetsNot F vs[j] slot) := fun h j hj hj' => by
        by_cases e : j = k
        · subst e; exact h
        · exact HK.out j hj (by omega)
      generalize vs[k] = v at e0 e1 e2 b0 b1 b2 b3 hsz HMV HKS
      have HTr := hide (HT.out.later HB.out)
      have HXr := hide (cell_later HB.out HX.out)
      obtain ⟨ar, cr, hat, hri⟩ := HTr.out.2 v.1
      have HAT := hide hat
      have HRI := hide hri
      have hfl := HFL.out v.1
      have HFv := hide (HF.out v.1)
      have HME : Hid (meetsNot F v slot ↔ ∀ r ∈ F v.1, ¬ Meets r (slot + v.2.1) v.2.2) := Iff.rfl
      have HLE : Hid (∀ r ∈ F v.1, slot + v.2.1 ≤ r.2.1 → r.1 < slot + v.2.1 + v.2.2 → ∀ u, slot ≤ u → u < r.2.1 + 1 - v.2.1 → ¬ FreeF F vs u) := fun r hr h1 h2 => leap_not HMV.out hr h1 h2
      clear hat hri
      generalize F v.1 = rs at HAT HRI hfl HFv HME HLE
      obtain ⟨W, hW, x0, x1, x2, hWb⟩ := alloc3 wr (.string v.1) (.int .i64 v.2.1) (.int .i64 v.2.2) 76
      have hcx := HXr.out
      have hbx : Bx < wr.heap.size := World.block_lt_of_cell? wr _ hcx
      have HRIW := hide (HRI.out.later hWb)
      have HBW := hide (below_two HB.out hWb)
      have HW := hide hW
      have X1 := hide x1
      have X2 := hide x2
      have HLT : Hid (∀ (wx : World) (u : Value), wx.cell? ⟨wr.heap.size, 1, none⟩ = some u → wr.heap.size < wx.heap.size) := fun wx u h => World.block_lt_of_cell? wx ⟨wr.heap.size, 1, none⟩ h
      clear hW hWb x0 x1 x2 HRI
      have tok1 : True := trivial
      go_wp2_with (first
        | (at_lookup; have _t := tok1; refine wpList_lookup_held _ rfl _ _ 128 rfl 9 100 law_string Tryz.underlying128 (.slice none 0 0) (zero_runs _) B n D rfl (HTr.out.1.alloc _) _ _ rfl (Go.WideMaps.keyOf_string_mk Tryz.underlying9 hsz) (.slice ar rs.length cr) HAT.out ?_; clear tok1))
      rw [HW.out]
      go_loopw [27] (fun i wi => ∃ (q : Nat), q ≤ rs.length ∧ i = .int .i64 q ∧ Hid (∀ j (hj : j < rs.length), j < q → ¬ Meets rs[j] (slot + v.2.1) v.2.2) ∧ Hid (Below W.heap.size W wi)) (fun i _ => rs.length - (RowKit.intOf i).toNat)
      case atStart => exact ⟨0, Nat.zero_le _, rfl, fun j _ hj => by omega, Below.refl _ _⟩
      case round =>
        obtain ⟨q, hq, rfl, HQ, HBi⟩ := hrel
        clear hcx e0 e1 e2
        by_cases hql : q < rs.length
        · obtain ⟨br, orr, rfl, hbr, r0, r1, r2⟩ := HRIW.out.later HBi.out q hql
          have y1 := cell_later HBi.out X1.out
          have y2 := cell_later HBi.out X2.out
          have hlt6 := HLT.out _ _ y1
          obtain ⟨⟨p0, p1⟩, p2, p3⟩ := HFv.out _ (List.getElem_mem hql)
          have HRM := hide (List.getElem_mem hql)
          have HQS : Hid (¬ Meets rs[q] (slot + v.2.1) v.2.2 → ∀ j (hj : j < rs.length), j < q + 1 → ¬ Meets rs[j] (slot + v.2.1) v.2.2) := fun h j hj hj' => by
            by_cases e : j = q
            · subst e; exact h
            · exact HQ.out j hj (by omega)
          generalize rs[q] = r at r0 r1 r2 p0 p1 p2 p3 HRM HQS
          have HBr := hide (below_two HBW.out HBi.out)
          by_cases hA : slot + v.2.1 ≤ r.2.1
          · by_cases hBB : r.1 < slot + v.2.1 + v.2.2
            · have hle := hide (HLE.out r HRM.out hA hBB)
              clear HQS
              go_wp2
              go_ret
              exact ⟨⟨r.2.1 + 1 - v.2.1, by go_num, by omega, .inr ⟨by omega, hle.out⟩⟩, HBr.out.alloc HBr.out.size _⟩
            · have hB2 : decide (r.1 < slot + v.2.1 + v.2.2) = false := decide_eq_false hBB
              have HN := hide (HQS.out (fun h => hBB h.2))
              clear HQS
              go_wp2
              go_roundw
              case rel => exact ⟨q + 1, by omega, by go_num, HN.out, HBi.out.alloc HBi.out.size _⟩
              case measure => simp [RowKit.intOf]; omega
          · have hA2 : decide (slot + v.2.1 ≤ r.2.1) = false := decide_eq_false hA
            have HN := hide (HQS.out (fun h => hA h.1))
            clear HQS
            go_wp2
            go_roundw
            case rel => exact ⟨q + 1, by omega, by go_num, HN.out, HBi.out.alloc HBi.out.size _⟩
            case measure => simp [RowKit.intOf]; omega
        · have hqn : q = rs.length := by omega
          have HALL := hide (HKS.out (HME.out.2 (meets_all (fun j hj => HQ.out j hj (by omega)))))
          clear hqn
          go_wp2
          go_roundw
          case rel => exact ⟨k + 1, by omega, by go_num, HALL.out, below_two HBW.out HBi.out⟩
          case measure => simp [RowKit.intOf]; omega
    · have HR := hide (free_all (F := F) (vs := vs) (slot := slot) (fun j hj => HK.out j hj (by omega)))
      go_wp2
      go_ret
      exact ⟨⟨slot, rfl, by omega, .inl ⟨HR.out, rfl⟩⟩, HB.out⟩

end Go.Proofs.YtciacofibljmoaaGreatDoor

/- The iterator over free slots: it leaps behind what is full. -/
namespace Go.Proofs.YtciacofibljmoaaGreatDoor
open Go.RowKit Go.Shelf Go.Maps

/-- What the iterator reads: the flight, the closure, and what is full. -/
def FreeIn (w : World) (Bf Bg Bx B n : Nat) (D : DataW Value) (F : ByteArray → List Run) (f : Fli) (av : Option Addr) (cv : Nat) : Prop :=
  (w.cell? ⟨Bf, 0, none⟩ = some (.string f.1) ∧ w.cell? ⟨Bf, 1, none⟩ = some (.int .i64 f.2.1) ∧ w.cell? ⟨Bf, 2, none⟩ = some (.int .i64 f.2.2.1) ∧ w.cell? ⟨Bf, 3, none⟩ = some (.slice av f.2.2.2.length cv)) ∧
  VisitsIn w av f.2.2.2 ∧ w.cell? ⟨Bg, 0, none⟩ = some (.func (.func 71) #[] #[.pointer (some ⟨Bx, 0, none⟩)]) ∧ w.cell? ⟨Bx, 0, none⟩ = some (.map (some B)) ∧ Taken w B n D F
theorem FreeIn.later {w w' : World} {Bf Bg Bx B n : Nat} {D : DataW Value} {F : ByteArray → List Run} {f : Fli} {av : Option Addr} {cv : Nat} (h : FreeIn w Bf Bg Bx B n D F f av cv) (hb : Below w.heap.size w w') : FreeIn w' Bf Bg Bx B n D F f av cv := by
  obtain ⟨⟨h0, h1, h2, h3⟩, h4, h5, h6, h7⟩ := h
  exact ⟨⟨cell_later hb h0, cell_later hb h1, cell_later hb h2, cell_later hb h3⟩, h4.later hb, cell_later hb h5, cell_later hb h6, h7.later hb⟩
/-- All free slots have come, or the first. -/
def allCame (F : ByteArray → List Run) (f : Fli) (xs : List Int) : Prop := xs = [] → ∀ u, f.2.1 ≤ u → u ≤ f.2.1 + f.2.2.1 → ¬ FreeF F f.2.2.2 u
def oneCame (F : ByteArray → List Run) (f : Fli) (xs : List Int) : Prop := ∀ x, xs = [x] → f.2.1 ≤ x ∧ x ≤ f.2.1 + f.2.2.1 ∧ FreeF F f.2.2.2 x ∧ ∀ u, f.2.1 ≤ u → u < x → ¬ FreeF F f.2.2.2 u

set_option maxRecDepth 100000 in
set_option maxHeartbeats 4000000 in
theorem free1_in (l m : Nat) (Bf Bg Bx B n : Nat) (D : DataW Value) (F : ByteArray → List Run) (f : Fli) (av : Option Addr) (cv : Nat) (J Jx : List Int → World → Prop) (w W : World) (hW : Below w.heap.size w W) (h : FreeIn w Bf Bg Bx B n D F f av cv)
    (hl : f.2.2.2.length ≤ 5) (hbd : VisBd f.2.2.2) (hvs : ∀ v ∈ f.2.2.2, v.1.size ≤ maxLen) (hF : ∀ s, ∀ r ∈ F s, (0 ≤ r.1 ∧ r.1 ≤ 20001) ∧ 0 ≤ r.2.1 ∧ r.2.1 ≤ 20001) (hFl : ∀ s, (F s).length ≤ 1048576) (hp : 0 ≤ f.2.1 ∧ f.2.1 ≤ 10000) (hq : 0 ≤ f.2.2.1 ∧ f.2.2.1 ≤ 60)
    (hJ : AbidesFrom W.heap.size J)
    (hY : ∀ pre x W1, J pre W1 → pre.length < 62 → YieldAt Fence.wide (m - 1) Tryz.prog l #[.int .i64 x] W1 fun e W' => (e = .returned (.bool true) ∧ J (pre ++ [x]) W' ∧ Below w.heap.size W1 W') ∨ (e = .returned (.bool false) ∧ Jx (pre ++ [x]) W'))
    (h0 : J [] W) :
    CallsIn Fence.wide m Tryz.prog 69 #[.func (.yield l) #[] #[], .pointer (some ⟨Bf, 0, none⟩), .pointer (some ⟨Bg, 0, none⟩)] W fun e W' => (∃ v, e = .returned v) ∧ ((∃ xs, allCame F f xs ∧ J xs W') ∨ (∃ pre, oneCame F f pre ∧ Jx pre W')) := by
  obtain ⟨hp0, hp1⟩ := hp
  obtain ⟨hq0, hq1⟩ := hq
  have HH := hide h
  have HW := hide hW
  have HBD := hide hbd
  have HVS := hide hvs
  have HF := hide hF
  have HFL := hide hFl
  have HJ := hide hJ
  have HY := hide hY
  have H0 := hide h0
  have g1 := (HH.out.later HW.out).1.2.1
  clear h hW hbd hvs hF hFl hJ hY h0
  refine callsIn_of_wp Tryz.func69 rfl trivial ?_ rfl
  simp only [Tryz.ntmps69, List.size_toArray, List.length_cons, List.length_nil, Nat.reduceAdd, Nat.reduceSub, Array.replicate_succ, Array.replicate_zero, List.push_toArray, List.append_toArray, List.nil_append, List.cons_append]
  gi_wp2
  clear g1
  gi_loopw [4] (fun p wr => ∃ (s : Int) (pre : List Int), p = .int .i64 s ∧ f.2.1 ≤ s ∧ s ≤ 20002 ∧ Hid ((pre.length : Int) ≤ s - f.2.1) ∧ Hid (pre = [] → ∀ u, f.2.1 ≤ u → u < s → ¬ FreeF F f.2.2.2 u) ∧ Hid (J pre wr) ∧ Hid (Below w.heap.size w wr)) (fun p _ => (f.2.1 + f.2.2.1 + 1 - RowKit.intOf p).toNat)
  case atStart => exact ⟨f.2.1, [], rfl, Int.le_refl _, by omega, by show (_ : Int) ≤ _; simp, fun _ u h1 h2 => by omega, H0.out, HW.out⟩
  case round =>
    obtain ⟨s, pre, rfl, hs0, hs1, HL, HN, HJs, HB⟩ := hrel
    obtain ⟨⟨c0, c1, c2, c3⟩, cv4, c5, c6, c7⟩ := HH.out.later HB.out
    have HV := hide cv4
    have HT := hide c7
    have HX := hide c6
    clear cv4 c7 c6
    by_cases hle : s ≤ f.2.1 + f.2.2.1
    · have hle' : decide (s ≤ f.2.1 + f.2.2.1) = true := decide_eq_true hle
      gi_wp2_with fail
      refine ⟨trivial, fun h => by simp [Fence.wide] at h, (callsIn_wide.2 (behind_any f av cv s Bx B n D F wr HX.out HT.out HV.out hl HBD.out HVS.out HF.out HFL.out (by omega) (by omega))).mono ?_⟩
      rintro e w2 ⟨⟨res, rfl, hr1, hr2⟩, hb2⟩
      have HB2 := hide (HB.out.trans (hb2.mono HB.out.size))
      have HJ2 := hide (HJ.out pre wr w2 none HJs.out ⟨hb2.os, hb2.tape, hb2.output, hb2.size, fun i hi _ => hb2.block i hi⟩ (fun r e => by cases e))
      clear hb2 HJs c0 c1 c2 c3 c5
      rcases hr2 with ⟨hfree, rfl⟩ | ⟨hlt, hnot⟩
      · have HFR := hide hfree
        obtain ⟨fn, tmps, assign, body, hy, hR⟩ := HY.out pre res w2 HJ2.out (by have := HL.out; omega)
        have HR := hide hR
        have hgt : decide (res < res) = false := by simp
        clear hfree hR
        gi_wp2
        refine ⟨fun h => by simp [Fence.wide] at h, HR.out.mono ?_⟩
        rintro e W3 (⟨rfl, hJ3, hk3⟩ | ⟨rfl, hJx3⟩)
        · have HJ3 := hide hJ3
          have HB3 := hide (HB2.out.trans hk3)
          clear hJ3 hk3
          gi_wp2
          go_roundw
          case rel => exact ⟨res + 1, pre ++ [res], by go_num, by omega, by omega, by show (_ : Int) ≤ _; have := HL.out; simp; omega, fun h => by simp at h, HJ3.out, HB3.out⟩
          case measure => simp [RowKit.intOf]; omega
        · have HJx := hide hJx3
          clear hJx3
          gi_wp2
          refine bodyPost_ret (results_none rfl _ _ _) rfl ?_
          refine ⟨⟨_, rfl⟩, .inr ⟨pre ++ [res], fun x hx => ?_, HJx.out⟩⟩
          have hpe : pre = [] := by
            cases pre with
            | nil => rfl
            | cons a t => simp at hx
          subst hpe
          have hx' : res = x := by simpa using hx
          subst hx'
          exact ⟨hs0, hle, HFR.out, HN.out rfl⟩
      · have HNO := hide hnot
        clear hnot
        gi_wp2
        go_roundw
        case rel => exact ⟨res, pre, rfl, by omega, by omega, by show (_ : Int) ≤ _; have := HL.out; omega, fun h u u0 u1 => by
          by_cases e : u < s
          · exact HN.out h u u0 e
          · exact HNO.out u (by omega) u1, HJ2.out, HB2.out⟩
        case measure => simp [RowKit.intOf]; omega
    · have hle' : decide (s ≤ f.2.1 + f.2.2.1) = false := decide_eq_false hle
      gi_wp2
      go_end0
      exact ⟨⟨_, rfl⟩, .inl ⟨pre, fun hpe u h1 h2 => HN.out hpe u h1 (by omega), HJs.out⟩⟩

end Go.Proofs.YtciacofibljmoaaGreatDoor

/- What is full, by sectors: the program lays it into a map. -/
namespace Go.Proofs.YtciacofibljmoaaGreatDoor
open Go.RowKit Go.Maps

attribute [local go_sem ↓] Go.wp_at_zero Go.wp_at_succ

theorem taken_made (w : World) (cs : List (ByteArray × Int)) (fs : List Fli) (ss : List Int) : Taken (w.alloc (.map #[] 0)) w.heap.size 0 (.map []) (fun s => takenTo cs fs ss s 0) :=
  ⟨World.ownsMap_made _ _ _ _, fun s => ⟨none, 0, rfl, fun i hi => by simp [takenTo] at hi⟩⟩
theorem takenTo_succ (cs : List (ByteArray × Int)) (fs : List Fli) (ss : List Int) (k : Nat) (hk : k < cs.length) : (fun s => takenTo cs fs ss s (k + 1)) = fun s => if cs[k].1.toList = s.toList then fullV cs[k].2 (runsL fs ss cs[k].1) else takenTo cs fs ss s k := by
  funext s
  rw [takenTo]
  unfold capRuns
  rw [getD_at cs k _ hk]

theorem taken_step {w : World} {B n : Nat} {D : DataW Value} {F : ByteArray → List Run} (h : Taken w B n D F) (hn : n < maxLen) (s : ByteArray) (hs : s.size ≤ maxLen) {a : Option Addr} {rs : List Run} (cap : Nat) (hr : RunsIn w a rs) :
    ∃ w', (Instr.mapUpdate 128 (.map (some B)) (.string s) (.slice a rs.length cap)).run Tryz.prog w = .ok () w' ∧ (∃ D', Taken w' B (n + 1) D' (fun t => if s.toList = t.toList then rs else F t)) ∧ w.grownBy w' (some B) ∧ ∀ p u, w.cell? p = some u → w'.cell? p = some u := by
  obtain ⟨w', hrun, hown, hg⟩ := h.1.update law_string Tryz.underlying128 hn (Go.WideMaps.keyOf_string_mk Tryz.underlying9 hs) (show heldE (.slice a rs.length cap) = some (.held _, []) from rfl)
  refine ⟨w', hrun, ⟨_, taken_put h s hr hg hown⟩, hg, fun p u hp => cell_grown hg hp (fun e => ?_)⟩
  obtain ⟨es, cl, hm, _⟩ := h.1
  simp only [Option.some.injEq] at e
  rw [World.cell?, e, hm] at hp
  simp at hp

set_option maxRecDepth 100000 in
set_option maxHeartbeats 6400000 in
theorem takenBy_any (ac a a' : Option Addr) (capc cap cap' : Nat) (cs : List (ByteArray × Int)) (fs : List Fli) (ss : List Int) (w : World) (hcc : CapsIn w ac cs) (hc : FlightsIn w a fs) (hc' : IntsIn w a' ss) (hok : slotsB fs ss = true) (hlc : cs.length ≤ 6) (hsc : ∀ c ∈ cs, c.1.size ≤ maxLen) :
    Calls Tryz.prog 49 #[.slice ac cs.length capc, .slice a fs.length cap, .slice a' ss.length cap'] w fun e w' => e = .returned (.func (.func 71) #[] #[.pointer (some ⟨w.heap.size + 1, 0, none⟩)]) ∧ w'.cell? ⟨w.heap.size + 1, 0, none⟩ = some (.map (some w.heap.size)) ∧ (∃ n D, Taken w' w.heap.size n D (fun s => takenTo cs fs ss s cs.length)) ∧ Below w.heap.size w w' := by
  have HCC := hide hcc
  have HC := hide hc
  have HC' := hide hc'
  have H2 := hide hok
  have HSC := hide hsc
  clear hcc hc hc' hok hsc
  have hmm := @run_makeMap Tryz.prog
  go_enter Tryz.func49, Tryz.ntmps49
  go_wp2
  go_loopw [13] (fun i wr => ∃ (k n : Nat) (D : DataW Value), k ≤ cs.length ∧ n ≤ k ∧ i = .int .i64 k ∧ Hid (Taken wr w.heap.size n D (fun s => takenTo cs fs ss s k)) ∧ Hid (wr.cell? ⟨w.heap.size + 1, 0, none⟩ = some (.map (some w.heap.size))) ∧ Hid (Below w.heap.size w wr)) (fun i _ => cs.length - (RowKit.intOf i).toNat)
  case atStart => exact ⟨0, 0, .map [], Nat.zero_le _, Nat.zero_le _, rfl, (taken_made w cs fs ss).later ((Below.refl _ _).alloc (Nat.le_refl _) _), by show _ = _; simp, ((Below.refl _ _).alloc (Nat.le_refl _) _).alloc (by simp) _⟩
  case round =>
    obtain ⟨k, n, D, hk, hn, rfl, HM, HX, HB⟩ := hrel
    by_cases hlt : k < cs.length
    · obtain ⟨b, off, rfl, hblt, e0, e1⟩ := HCC.out.later HB.out k hlt
      have hsz := HSC.out _ (List.getElem_mem hlt)
      have HTS := hide (takenTo_succ cs fs ss k hlt)
      generalize cs[k] = c at e0 e1 HTS hsz
      clear hmm
      obtain ⟨W, hW, x0, x1, hWb⟩ := alloc2 wr (.string c.1) (.int .i64 c.2) 61
      have HW := hide hW
      have HWB := hide hWb
      have hws : wr.heap.size < W.heap.size := World.block_lt_of_cell? W _ x0
      have hcx := cell_later hWb HX.out
      have HMW := hide (HM.out.later hWb)
      have HBW := hide (below_two HB.out hWb)
      have hxl : w.heap.size + 1 < W.heap.size := World.block_lt_of_cell? W _ hcx
      clear hW hWb HM HX
      have tok1 : True := trivial
      have tok2 : True := trivial
      go_wp2
      rw [HW.out]
      go_region_held3 (fun w' => w'.cell? ⟨w.heap.size + 1, 0, none⟩ = some (.map (some w.heap.size)) ∧ w'.cell? ⟨wr.heap.size, 0, none⟩ = some (.string c.1) ∧ w'.cell? ⟨wr.heap.size, 1, none⟩ = some (.int .i64 c.2))
        (first | exact ⟨hcx, x0, x1⟩ | exact ⟨cA, cB, cC⟩ | exact ⟨dA, dB, dC⟩ | (fail))
        (first
          | (go_at_call 70; have _t := tok1; refine (fullRuns_any c a a' cap cap' fs ss _ (HC.out.later (below_two HBW.out (Below.refl _ _).drew)) (HC'.out.later (below_two HBW.out (Below.refl _ _).drew)) H2.out).mono ?_; rintro e wA ⟨v, rfl, hown, hbA⟩; have hWA := (Below.refl W.heap.size W).drew.trans hbA; have cA := cell_later hWA hcx; have cB := cell_later hWA x0; have cC := cell_later hWA x1; have HWA := hide hWA; clear tok1 hWA; obtain ⟨ar, cr, rfl, hri⟩ := own_runs hown; have HTA := hide (HMW.out.later HWA.out); have HBA := hide (below_two HBW.out HWA.out); have HRI := hide hri; obtain ⟨wB, hrunB, hownB, hgB, hcB⟩ := taken_step HTA.out (by unfold maxLen; omega) c.1 hsz cr hri; have dA := hcB _ _ cA; have dB := hcB _ _ cB; have dC := hcB _ _ cC; have HOB := hide hownB; have HGB := hide hgB; clear hown hbA hri hownB hgB hcB)
          | (fail))
      rename_i hH
      clear hH
      obtain ⟨D', HT'⟩ := HOB.out
      have HTT := hide HT'
      have HBB := hide (Below.grown HBA.out HGB.out HBA.out.size (fun q hq => by cases hq; exact Nat.le_refl _))
      clear HT' HOB HGB cB cC dB dC cA hrunB
      have HDA := hide dA
      clear dA
      go_wp2
      go_roundw
      case rel => exact ⟨k + 1, n + 1, D', by omega, by omega, by go_num, by show Taken _ _ _ _ _; rw [HTS.out]; exact HTT.out, HDA.out, HBB.out⟩
      case measure => simp [RowKit.intOf]; omega
    · go_wp2
      go_ret
      have : k = cs.length := by omega
      subst this
      exact ⟨rfl, HX.out, ⟨n, D, HM.out⟩, HB.out⟩

end Go.Proofs.YtciacofibljmoaaGreatDoor
