/- The closure that remembers what is taken: it answers the slot itself, or one behind which nothing that it leaps over is free. -/
import Derived.Test.YtciacofibljmoabGreatBehind
namespace Go.Proofs.YtciacofibljmoabGreat
open Go.RowKit Go.Maps

attribute [local go_sem ↓] Go.wp_at_zero Go.wp_at_succ

def FreeF (F : ByteArray → List Run) (vs : List Vis) (t : Int) : Prop := ∀ v ∈ vs, ∀ r ∈ F v.1, ¬ Meets r (t + v.2.1) v.2.2
theorem leap_not {F : ByteArray → List Run} {vs : List Vis} {v : Vis} (hv : v ∈ vs) {r : Run} (hr : r ∈ F v.1) {slot : Int} (_h1 : slot + v.2.1 ≤ r.2.1) (h2 : r.1 < slot + v.2.1 + v.2.2) : ∀ u, slot ≤ u → u < r.2.1 + 1 - v.2.1 → ¬ FreeF F vs u := fun u u0 u1 hf =>
  hf v hv r hr ⟨by omega, by omega⟩
/-- What the visit at a place meets. -/
def meetsNot (F : ByteArray → List Run) (v : Vis) (slot : Int) : Prop := ∀ r ∈ F v.1, ¬ Meets r (slot + v.2.1) v.2.2
theorem free_all {F : ByteArray → List Run} {vs : List Vis} {slot : Int} (h : ∀ j (hj : j < vs.length), meetsNot F vs[j] slot) : FreeF F vs slot := fun v hv => by
  obtain ⟨j, hj, rfl⟩ := List.getElem_of_mem hv
  exact h j hj
theorem meets_all {rs : List Run} {a n : Int} (h : ∀ q (hq : q < rs.length), ¬ Meets rs[q] a n) : ∀ r ∈ rs, ¬ Meets r a n := fun r hr => by
  obtain ⟨j, hj, rfl⟩ := List.getElem_of_mem hr
  exact h j hj

set_option maxRecDepth 100000 in
set_option maxHeartbeats 6400000 in
theorem behind_any (f : Fli) (av : Option Addr) (cv : Nat) (slot : Int) (Bx B n : Nat) (D : DataW Value) (F : ByteArray → List Run) (w : World) (hx : w.cell? ⟨Bx, 0, none⟩ = some (.map (some B))) (hT : Taken w B n D F) (hv : VisitsIn w av f.2.2.2) (hl : f.2.2.2.length ≤ 5) (hbd : VisBd f.2.2.2) (hvs : ∀ v ∈ f.2.2.2, v.1.size ≤ maxLen)
    (hF : ∀ s, ∀ r ∈ F s, (0 ≤ r.1 ∧ r.1 ≤ 20001) ∧ 0 ≤ r.2.1 ∧ r.2.1 ≤ 20001) (hFl : ∀ s, (F s).length ≤ 1048576) (hs0 : 0 ≤ slot) (hs1 : slot ≤ 10060) :
    Calls Tryz.prog 97 #[.agg #[.string f.1, .int .i64 f.2.1, .int .i64 f.2.2.1, .slice av f.2.2.2.length cv], .int .i64 slot, .pointer (some ⟨Bx, 0, none⟩)] w fun e w' => (∃ res : Int, e = .returned (.int .i64 res) ∧ res ≤ 20002 ∧ ((FreeF F f.2.2.2 slot ∧ res = slot) ∨ (slot < res ∧ ∀ u, slot ≤ u → u < res → ¬ FreeF F f.2.2.2 u))) ∧ Below w.heap.size w w' := by
  obtain ⟨nm, pl, lt, vs⟩ := f
  simp only at hv hl hbd hvs ⊢
  have HX := hide hx
  have HT := hide hT
  have HV := hide hv
  have HBD := hide hbd
  have HVS := hide hvs
  have HF := hide hF
  have HFL := hide hFl
  clear hx hT hv hbd hvs hF hFl
  have hb0 := hide ((Below.refl w.heap.size w).alloc (Nat.le_refl _) (.cells #[.string nm, .int .i64 pl, .int .i64 lt, .slice av vs.length cv] 65))
  go_enter Tryz.func97, Tryz.ntmps97
  go_wp2
  go_loopw [14] (fun i wr => ∃ (k : Nat), k ≤ vs.length ∧ i = .int .i64 k ∧ Hid (∀ j (hj : j < vs.length), j < k → meetsNot F vs[j] slot) ∧ Hid (Below w.heap.size w wr)) (fun i _ => vs.length - (RowKit.intOf i).toNat)
  case atStart => exact ⟨0, Nat.zero_le _, rfl, fun j _ hj => by omega, hb0.out⟩
  case round =>
    obtain ⟨k, hk, rfl, HK, HB⟩ := hrel
    by_cases hlt : k < vs.length
    · obtain ⟨b, off, rfl, hblt, e0, e1, e2⟩ := HV.out.later HB.out k hlt
      obtain ⟨⟨b0, b1⟩, b2, b3⟩ := HBD.out _ (List.getElem_mem hlt)
      have hsz := HVS.out _ (List.getElem_mem hlt)
      have HMV := hide (List.getElem_mem hlt)
      have HKS : Hid (meetsNot F vs[k] slot → ∀ j (hj : j < vs.length), j < k + 1 → meetsNot F vs[j] slot) := fun h j hj hj' => by
        by_cases e : j = k
        · subst e; exact h
        · exact HK.out j hj (by omega)
      generalize vs[k] = v at e0 e1 e2 b0 b1 b2 b3 hsz HMV HKS
      have HTr := hide (HT.out.later HB.out)
      have HXr := hide (cell_later HB.out HX.out)
      obtain ⟨ar, cr, hat, hri⟩ := HTr.out.2 v.1
      have HAT := hide hat
      have HRI := hide hri
      have hfl := HFL.out v.1
      have HFv := hide (HF.out v.1)
      have HME : Hid (meetsNot F v slot ↔ ∀ r ∈ F v.1, ¬ Meets r (slot + v.2.1) v.2.2) := Iff.rfl
      have HLE : Hid (∀ r ∈ F v.1, slot + v.2.1 ≤ r.2.1 → r.1 < slot + v.2.1 + v.2.2 → ∀ u, slot ≤ u → u < r.2.1 + 1 - v.2.1 → ¬ FreeF F vs u) := fun r hr h1 h2 => leap_not HMV.out hr h1 h2
      clear hat hri
      generalize F v.1 = rs at HAT HRI hfl HFv HME HLE
      obtain ⟨W, hW, x0, x1, x2, hWb⟩ := alloc3 wr (.string v.1) (.int .i64 v.2.1) (.int .i64 v.2.2) 98
      have hcx := HXr.out
      have hbx : Bx < wr.heap.size := World.block_lt_of_cell? wr _ hcx
      have HRIW := hide (HRI.out.later hWb)
      have HBW := hide (below_two HB.out hWb)
      have HW := hide hW
      have X1 := hide x1
      have X2 := hide x2
      have HLT : Hid (∀ (wx : World) (u : Value), wx.cell? ⟨wr.heap.size, 1, none⟩ = some u → wr.heap.size < wx.heap.size) := fun wx u h => World.block_lt_of_cell? wx ⟨wr.heap.size, 1, none⟩ h
      clear hW hWb x0 x1 x2 HRI
      have tok1 : True := trivial
      go_wp2_with (first
        | (at_lookup; have _t := tok1; refine wpList_lookup_held _ rfl _ _ 127 rfl 9 121 law_string Tryz.underlying127 (.slice none 0 0) (zero_runs _) B n D rfl (HTr.out.1.alloc _) _ _ rfl (Go.WideMaps.keyOf_string_mk Tryz.underlying9 hsz) (.slice ar rs.length cr) HAT.out ?_; clear tok1))
      rw [HW.out]
      go_loopw [27] (fun i wi => ∃ (q : Nat), q ≤ rs.length ∧ i = .int .i64 q ∧ Hid (∀ j (hj : j < rs.length), j < q → ¬ Meets rs[j] (slot + v.2.1) v.2.2) ∧ Hid (Below W.heap.size W wi)) (fun i _ => rs.length - (RowKit.intOf i).toNat)
      case atStart => exact ⟨0, Nat.zero_le _, rfl, fun j _ hj => by omega, Below.refl _ _⟩
      case round =>
        obtain ⟨q, hq, rfl, HQ, HBi⟩ := hrel
        clear hcx e0 e1 e2
        by_cases hql : q < rs.length
        · obtain ⟨br, orr, rfl, hbr, r0, r1, r2⟩ := HRIW.out.later HBi.out q hql
          have y1 := cell_later HBi.out X1.out
          have y2 := cell_later HBi.out X2.out
          have hlt6 := HLT.out _ _ y1
          obtain ⟨⟨p0, p1⟩, p2, p3⟩ := HFv.out _ (List.getElem_mem hql)
          have HRM := hide (List.getElem_mem hql)
          have HQS : Hid (¬ Meets rs[q] (slot + v.2.1) v.2.2 → ∀ j (hj : j < rs.length), j < q + 1 → ¬ Meets rs[j] (slot + v.2.1) v.2.2) := fun h j hj hj' => by
            by_cases e : j = q
            · subst e; exact h
            · exact HQ.out j hj (by omega)
          generalize rs[q] = r at r0 r1 r2 p0 p1 p2 p3 HRM HQS
          have HBr := hide (below_two HBW.out HBi.out)
          by_cases hA : slot + v.2.1 ≤ r.2.1
          · by_cases hBB : r.1 < slot + v.2.1 + v.2.2
            · have hle := hide (HLE.out r HRM.out hA hBB)
              clear HQS
              go_wp2
              go_ret
              exact ⟨⟨r.2.1 + 1 - v.2.1, by go_num, by omega, .inr ⟨by omega, hle.out⟩⟩, HBr.out.alloc HBr.out.size _⟩
            · have hB2 : decide (r.1 < slot + v.2.1 + v.2.2) = false := decide_eq_false hBB
              have HN := hide (HQS.out (fun h => hBB h.2))
              clear HQS
              go_wp2
              go_roundw
              case rel => exact ⟨q + 1, by omega, by go_num, HN.out, HBi.out.alloc HBi.out.size _⟩
              case measure => simp [RowKit.intOf]; omega
          · have hA2 : decide (slot + v.2.1 ≤ r.2.1) = false := decide_eq_false hA
            have HN := hide (HQS.out (fun h => hA h.1))
            clear HQS
            go_wp2
            go_roundw
            case rel => exact ⟨q + 1, by omega, by go_num, HN.out, HBi.out.alloc HBi.out.size _⟩
            case measure => simp [RowKit.intOf]; omega
        · have hqn : q = rs.length := by omega
          have HALL := hide (HKS.out (HME.out.2 (meets_all (fun j hj => HQ.out j hj (by omega)))))
          clear hqn
          go_wp2
          go_roundw
          case rel => exact ⟨k + 1, by omega, by go_num, HALL.out, below_two HBW.out HBi.out⟩
          case measure => simp [RowKit.intOf]; omega
    · have HR := hide (free_all (F := F) (vs := vs) (slot := slot) (fun j hj => HK.out j hj (by omega)))
      go_wp2
      go_ret
      exact ⟨⟨slot, rfl, by omega, .inl ⟨HR.out, rfl⟩⟩, HB.out⟩

end Go.Proofs.YtciacofibljmoabGreat
