/- What is full, by sectors: the program lays it into a map. -/
import Derived.Test.YtciacofibljmoabGreatBehind
import Derived.Deep.RegionHeld3
namespace Go.Proofs.YtciacofibljmoabGreat
open Go.RowKit Go.Maps

attribute [local go_sem ↓] Go.wp_at_zero Go.wp_at_succ

theorem taken_made (w : World) (cs : List (ByteArray × Int)) (fs : List Fli) (ss : List Int) : Taken (w.alloc (.map #[] 0)) w.heap.size 0 (.map []) (fun s => takenTo cs fs ss s 0) :=
  ⟨World.ownsMap_made _ _ _ _, fun s => ⟨none, 0, rfl, fun i hi => by simp [takenTo] at hi⟩⟩
theorem takenTo_succ (cs : List (ByteArray × Int)) (fs : List Fli) (ss : List Int) (k : Nat) (hk : k < cs.length) : (fun s => takenTo cs fs ss s (k + 1)) = fun s => if cs[k].1.toList = s.toList then fullV cs[k].2 (runsL fs ss cs[k].1) else takenTo cs fs ss s k := by
  funext s
  rw [takenTo]
  unfold capRuns
  rw [getD_at cs k _ hk]

theorem taken_step {w : World} {B n : Nat} {D : DataW Value} {F : ByteArray → List Run} (h : Taken w B n D F) (hn : n < maxLen) (s : ByteArray) (hs : s.size ≤ maxLen) {a : Option Addr} {rs : List Run} (cap : Nat) (hr : RunsIn w a rs) :
    ∃ w', (Instr.mapUpdate 127 (.map (some B)) (.string s) (.slice a rs.length cap)).run Tryz.prog w = .ok () w' ∧ (∃ D', Taken w' B (n + 1) D' (fun t => if s.toList = t.toList then rs else F t)) ∧ w.grownBy w' (some B) ∧ ∀ p u, w.cell? p = some u → w'.cell? p = some u := by
  obtain ⟨w', hrun, hown, hg⟩ := h.1.update law_string Tryz.underlying127 hn (Go.WideMaps.keyOf_string_mk Tryz.underlying9 hs) (show heldE (.slice a rs.length cap) = some (.held _, []) from rfl)
  refine ⟨w', hrun, ⟨_, taken_put h s hr hg hown⟩, hg, fun p u hp => cell_grown hg hp (fun e => ?_)⟩
  obtain ⟨es, cl, hm, _⟩ := h.1
  simp only [Option.some.injEq] at e
  rw [World.cell?, e, hm] at hp
  simp at hp

set_option maxRecDepth 100000 in
set_option maxHeartbeats 6400000 in
theorem takenBy_any (ac a a' : Option Addr) (capc cap cap' : Nat) (cs : List (ByteArray × Int)) (fs : List Fli) (ss : List Int) (w : World) (hcc : CapsIn w ac cs) (hc : FlightsIn w a fs) (hc' : IntsIn w a' ss) (hok : slotsB fs ss = true) (hlc : cs.length ≤ 6) (hsc : ∀ c ∈ cs, c.1.size ≤ maxLen) :
    Calls Tryz.prog 71 #[.slice ac cs.length capc, .slice a fs.length cap, .slice a' ss.length cap'] w fun e w' => e = .returned (.func (.func 97) #[] #[.pointer (some ⟨w.heap.size + 1, 0, none⟩)]) ∧ w'.cell? ⟨w.heap.size + 1, 0, none⟩ = some (.map (some w.heap.size)) ∧ (∃ n D, Taken w' w.heap.size n D (fun s => takenTo cs fs ss s cs.length)) ∧ Below w.heap.size w w' := by
  have HCC := hide hcc
  have HC := hide hc
  have HC' := hide hc'
  have H2 := hide hok
  have HSC := hide hsc
  clear hcc hc hc' hok hsc
  have hmm := @run_makeMap Tryz.prog
  go_enter Tryz.func71, Tryz.ntmps71
  go_wp2
  go_loopw [13] (fun i wr => ∃ (k n : Nat) (D : DataW Value), k ≤ cs.length ∧ n ≤ k ∧ i = .int .i64 k ∧ Hid (Taken wr w.heap.size n D (fun s => takenTo cs fs ss s k)) ∧ Hid (wr.cell? ⟨w.heap.size + 1, 0, none⟩ = some (.map (some w.heap.size))) ∧ Hid (Below w.heap.size w wr)) (fun i _ => cs.length - (RowKit.intOf i).toNat)
  case atStart => exact ⟨0, 0, .map [], Nat.zero_le _, Nat.zero_le _, rfl, (taken_made w cs fs ss).later ((Below.refl _ _).alloc (Nat.le_refl _) _), by show _ = _; simp, ((Below.refl _ _).alloc (Nat.le_refl _) _).alloc (by simp) _⟩
  case round =>
    obtain ⟨k, n, D, hk, hn, rfl, HM, HX, HB⟩ := hrel
    by_cases hlt : k < cs.length
    · obtain ⟨b, off, rfl, hblt, e0, e1⟩ := HCC.out.later HB.out k hlt
      have hsz := HSC.out _ (List.getElem_mem hlt)
      have HTS := hide (takenTo_succ cs fs ss k hlt)
      generalize cs[k] = c at e0 e1 HTS hsz
      clear hmm
      obtain ⟨W, hW, x0, x1, hWb⟩ := alloc2 wr (.string c.1) (.int .i64 c.2) 61
      have HW := hide hW
      have HWB := hide hWb
      have hws : wr.heap.size < W.heap.size := World.block_lt_of_cell? W _ x0
      have hcx := cell_later hWb HX.out
      have HMW := hide (HM.out.later hWb)
      have HBW := hide (below_two HB.out hWb)
      have hxl : w.heap.size + 1 < W.heap.size := World.block_lt_of_cell? W _ hcx
      clear hW hWb HM HX
      have tok1 : True := trivial
      have tok2 : True := trivial
      go_wp2
      rw [HW.out]
      go_region_held3 (fun w' => w'.cell? ⟨w.heap.size + 1, 0, none⟩ = some (.map (some w.heap.size)) ∧ w'.cell? ⟨wr.heap.size, 0, none⟩ = some (.string c.1) ∧ w'.cell? ⟨wr.heap.size, 1, none⟩ = some (.int .i64 c.2))
        (first | exact ⟨hcx, x0, x1⟩ | exact ⟨cA, cB, cC⟩ | exact ⟨dA, dB, dC⟩ | (fail))
        (first
          | (go_at_call 96; have _t := tok1; refine (fullRuns_any c a a' cap cap' fs ss _ (HC.out.later (below_two HBW.out (Below.refl _ _).drew)) (HC'.out.later (below_two HBW.out (Below.refl _ _).drew)) H2.out).mono ?_; rintro e wA ⟨v, rfl, hown, hbA⟩; have hWA := (Below.refl W.heap.size W).drew.trans hbA; have cA := cell_later hWA hcx; have cB := cell_later hWA x0; have cC := cell_later hWA x1; have HWA := hide hWA; clear tok1 hWA; obtain ⟨ar, cr, rfl, hri⟩ := own_runs hown; have HTA := hide (HMW.out.later HWA.out); have HBA := hide (below_two HBW.out HWA.out); have HRI := hide hri; obtain ⟨wB, hrunB, hownB, hgB, hcB⟩ := taken_step HTA.out (by unfold maxLen; omega) c.1 hsz cr hri; have dA := hcB _ _ cA; have dB := hcB _ _ cB; have dC := hcB _ _ cC; have HOB := hide hownB; have HGB := hide hgB; clear hown hbA hri hownB hgB hcB)
          | (fail))
      rename_i hH
      clear hH
      obtain ⟨D', HT'⟩ := HOB.out
      have HTT := hide HT'
      have HBB := hide (Below.grown HBA.out HGB.out HBA.out.size (fun q hq => by cases hq; exact Nat.le_refl _))
      clear HT' HOB HGB cB cC dB dC cA hrunB
      have HDA := hide dA
      clear dA
      go_wp2
      go_roundw
      case rel => exact ⟨k + 1, n + 1, D', by omega, by omega, by go_num, by show Taken _ _ _ _ _; rw [HTS.out]; exact HTT.out, HDA.out, HBB.out⟩
      case measure => simp [RowKit.intOf]; omega
    · go_wp2
      go_ret
      have : k = cs.length := by omega
      subst this
      exact ⟨rfl, HX.out, ⟨n, D, HM.out⟩, HB.out⟩

end Go.Proofs.YtciacofibljmoabGreat
