/- The iterator over free slots: it leaps behind what is full. -/
import Derived.Test.YtciacofibljmoabGreatBehindV
import Derived.RangeFuncNested
import Derived.RangeFuncBound
import Derived.RangeFuncCalls
import Derived.RangeFuncLeaves
import Derived.Shelf.Abstract
import Derived.Shelf.RegionOpen
import Derived.OwnWalkIn
import Derived.TacticsInMore
import Derived.LoopNIn
import Derived.LoopIn
namespace Go.Proofs.YtciacofibljmoabGreat
open Go.RowKit Go.Shelf Go.Maps

/-- What the iterator reads: the flight, the closure, and what is full. -/
def FreeIn (w : World) (Bf Bg Bx B n : Nat) (D : DataW Value) (F : ByteArray → List Run) (f : Fli) (av : Option Addr) (cv : Nat) : Prop :=
  (w.cell? ⟨Bf, 0, none⟩ = some (.string f.1) ∧ w.cell? ⟨Bf, 1, none⟩ = some (.int .i64 f.2.1) ∧ w.cell? ⟨Bf, 2, none⟩ = some (.int .i64 f.2.2.1) ∧ w.cell? ⟨Bf, 3, none⟩ = some (.slice av f.2.2.2.length cv)) ∧
  VisitsIn w av f.2.2.2 ∧ w.cell? ⟨Bg, 0, none⟩ = some (.func (.func 97) #[] #[.pointer (some ⟨Bx, 0, none⟩)]) ∧ w.cell? ⟨Bx, 0, none⟩ = some (.map (some B)) ∧ Taken w B n D F
theorem FreeIn.later {w w' : World} {Bf Bg Bx B n : Nat} {D : DataW Value} {F : ByteArray → List Run} {f : Fli} {av : Option Addr} {cv : Nat} (h : FreeIn w Bf Bg Bx B n D F f av cv) (hb : Below w.heap.size w w') : FreeIn w' Bf Bg Bx B n D F f av cv := by
  obtain ⟨⟨h0, h1, h2, h3⟩, h4, h5, h6, h7⟩ := h
  exact ⟨⟨cell_later hb h0, cell_later hb h1, cell_later hb h2, cell_later hb h3⟩, h4.later hb, cell_later hb h5, cell_later hb h6, h7.later hb⟩
/-- All free slots have come, or the first. -/
def allCame (F : ByteArray → List Run) (f : Fli) (xs : List Int) : Prop := xs = [] → ∀ u, f.2.1 ≤ u → u ≤ f.2.1 + f.2.2.1 → ¬ FreeF F f.2.2.2 u
def oneCame (F : ByteArray → List Run) (f : Fli) (xs : List Int) : Prop := ∀ x, xs = [x] → f.2.1 ≤ x ∧ x ≤ f.2.1 + f.2.2.1 ∧ FreeF F f.2.2.2 x ∧ ∀ u, f.2.1 ≤ u → u < x → ¬ FreeF F f.2.2.2 u

set_option maxRecDepth 100000 in
set_option maxHeartbeats 4000000 in
theorem free1_in (l m : Nat) (Bf Bg Bx B n : Nat) (D : DataW Value) (F : ByteArray → List Run) (f : Fli) (av : Option Addr) (cv : Nat) (J Jx : List Int → World → Prop) (w W : World) (hW : Below w.heap.size w W) (h : FreeIn w Bf Bg Bx B n D F f av cv)
    (hl : f.2.2.2.length ≤ 5) (hbd : VisBd f.2.2.2) (hvs : ∀ v ∈ f.2.2.2, v.1.size ≤ maxLen) (hF : ∀ s, ∀ r ∈ F s, (0 ≤ r.1 ∧ r.1 ≤ 20001) ∧ 0 ≤ r.2.1 ∧ r.2.1 ≤ 20001) (hFl : ∀ s, (F s).length ≤ 1048576) (hp : 0 ≤ f.2.1 ∧ f.2.1 ≤ 10000) (hq : 0 ≤ f.2.2.1 ∧ f.2.2.1 ≤ 60)
    (hJ : AbidesFrom W.heap.size J)
    (hY : ∀ pre x W1, J pre W1 → pre.length < 62 → YieldAt Fence.wide (m - 1) Tryz.prog l #[.int .i64 x] W1 fun e W' => (e = .returned (.bool true) ∧ J (pre ++ [x]) W' ∧ Below w.heap.size W1 W') ∨ (e = .returned (.bool false) ∧ Jx (pre ++ [x]) W'))
    (h0 : J [] W) :
    CallsIn Fence.wide m Tryz.prog 95 #[.func (.yield l) #[] #[], .pointer (some ⟨Bf, 0, none⟩), .pointer (some ⟨Bg, 0, none⟩)] W fun e W' => (∃ v, e = .returned v) ∧ ((∃ xs, allCame F f xs ∧ J xs W') ∨ (∃ pre, oneCame F f pre ∧ Jx pre W')) := by
  obtain ⟨hp0, hp1⟩ := hp
  obtain ⟨hq0, hq1⟩ := hq
  have HH := hide h
  have HW := hide hW
  have HBD := hide hbd
  have HVS := hide hvs
  have HF := hide hF
  have HFL := hide hFl
  have HJ := hide hJ
  have HY := hide hY
  have H0 := hide h0
  have g1 := (HH.out.later HW.out).1.2.1
  clear h hW hbd hvs hF hFl hJ hY h0
  refine callsIn_of_wp Tryz.func95 rfl trivial ?_ rfl
  simp only [Tryz.ntmps95, List.size_toArray, List.length_cons, List.length_nil, Nat.reduceAdd, Nat.reduceSub, Array.replicate_succ, Array.replicate_zero, List.push_toArray, List.append_toArray, List.nil_append, List.cons_append]
  gi_wp2
  clear g1
  gi_loopw [4] (fun p wr => ∃ (s : Int) (pre : List Int), p = .int .i64 s ∧ f.2.1 ≤ s ∧ s ≤ 20002 ∧ Hid ((pre.length : Int) ≤ s - f.2.1) ∧ Hid (pre = [] → ∀ u, f.2.1 ≤ u → u < s → ¬ FreeF F f.2.2.2 u) ∧ Hid (J pre wr) ∧ Hid (Below w.heap.size w wr)) (fun p _ => (f.2.1 + f.2.2.1 + 1 - RowKit.intOf p).toNat)
  case atStart => exact ⟨f.2.1, [], rfl, Int.le_refl _, by omega, by show (_ : Int) ≤ _; simp, fun _ u h1 h2 => by omega, H0.out, HW.out⟩
  case round =>
    obtain ⟨s, pre, rfl, hs0, hs1, HL, HN, HJs, HB⟩ := hrel
    obtain ⟨⟨c0, c1, c2, c3⟩, cv4, c5, c6, c7⟩ := HH.out.later HB.out
    have HV := hide cv4
    have HT := hide c7
    have HX := hide c6
    clear cv4 c7 c6
    by_cases hle : s ≤ f.2.1 + f.2.2.1
    · have hle' : decide (s ≤ f.2.1 + f.2.2.1) = true := decide_eq_true hle
      gi_wp2_with fail
      refine ⟨trivial, fun h => by simp [Fence.wide] at h, (callsIn_wide.2 (behind_any f av cv s Bx B n D F wr HX.out HT.out HV.out hl HBD.out HVS.out HF.out HFL.out (by omega) (by omega))).mono ?_⟩
      rintro e w2 ⟨⟨res, rfl, hr1, hr2⟩, hb2⟩
      have HB2 := hide (HB.out.trans (hb2.mono HB.out.size))
      have HJ2 := hide (HJ.out pre wr w2 none HJs.out ⟨hb2.os, hb2.tape, hb2.output, hb2.size, fun i hi _ => hb2.block i hi⟩ (fun r e => by cases e))
      clear hb2 HJs c0 c1 c2 c3 c5
      rcases hr2 with ⟨hfree, rfl⟩ | ⟨hlt, hnot⟩
      · have HFR := hide hfree
        obtain ⟨fn, tmps, assign, body, hy, hR⟩ := HY.out pre res w2 HJ2.out (by have := HL.out; omega)
        have HR := hide hR
        have hgt : decide (res < res) = false := by simp
        clear hfree hR
        gi_wp2
        refine ⟨fun h => by simp [Fence.wide] at h, HR.out.mono ?_⟩
        rintro e W3 (⟨rfl, hJ3, hk3⟩ | ⟨rfl, hJx3⟩)
        · have HJ3 := hide hJ3
          have HB3 := hide (HB2.out.trans hk3)
          clear hJ3 hk3
          gi_wp2
          go_roundw
          case rel => exact ⟨res + 1, pre ++ [res], by go_num, by omega, by omega, by show (_ : Int) ≤ _; have := HL.out; simp; omega, fun h => by simp at h, HJ3.out, HB3.out⟩
          case measure => simp [RowKit.intOf]; omega
        · have HJx := hide hJx3
          clear hJx3
          gi_wp2
          refine bodyPost_ret (results_none rfl _ _ _) rfl ?_
          refine ⟨⟨_, rfl⟩, .inr ⟨pre ++ [res], fun x hx => ?_, HJx.out⟩⟩
          have hpe : pre = [] := by
            cases pre with
            | nil => rfl
            | cons a t => simp at hx
          subst hpe
          have hx' : res = x := by simpa using hx
          subst hx'
          exact ⟨hs0, hle, HFR.out, HN.out rfl⟩
      · have HNO := hide hnot
        clear hnot
        gi_wp2
        go_roundw
        case rel => exact ⟨res, pre, rfl, by omega, by omega, by show (_ : Int) ≤ _; have := HL.out; omega, fun h u u0 u1 => by
          by_cases e : u < s
          · exact HN.out h u u0 e
          · exact HNO.out u (by omega) u1, HJ2.out, HB2.out⟩
        case measure => simp [RowKit.intOf]; omega
    · have hle' : decide (s ≤ f.2.1 + f.2.2.1) = false := decide_eq_false hle
      gi_wp2
      go_end0
      exact ⟨⟨_, rfl⟩, .inl ⟨pre, fun hpe u h1 h2 => HN.out hpe u h1 (by omega), HJs.out⟩⟩

end Go.Proofs.YtciacofibljmoabGreat
