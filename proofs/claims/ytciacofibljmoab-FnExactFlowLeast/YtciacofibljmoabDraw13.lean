/- Giving, one behind the other, as the document's model has it. -/
import Derived.Test.YtciacofibljmoabDraw12
namespace Go.Proofs.Ytciacofibljmoab
open Go.RowKit

attribute [local go_sem ↓] Go.wp_at_zero Go.wp_at_succ

theorem flis_bd {fs : List Fli} (h : flisB fs = true) : fs.length ≤ 8 ∧ ∀ i (hi : i < fs.length), VisBd fs[i].2.2.2 ∧ (0 ≤ fs[i].2.1 ∧ fs[i].2.1 ≤ 10000) ∧ (0 ≤ fs[i].2.2.1 ∧ fs[i].2.2.1 ≤ 60) ∧ 1 ≤ fs[i].2.2.2.length ∧ fs[i].2.2.2.length ≤ 5 := by
  have hs : slotsB fs (List.replicate fs.length (-1)) = true := by
    unfold slotsB
    rw [h]
    simp only [List.length_replicate, decide_true, Bool.true_and]
    unfold slotsTo
    rw [List.all_eq_true]
    intro i hi
    have hi' : i < fs.length := List.mem_range.1 hi
    unfold slotOkAt
    rw [getD_at _ i _ (by simpa using hi'), inB_eq]
    simp
  obtain ⟨_, h8, _, h9⟩ := slots_bd hs
  exact ⟨h8, h9⟩
/-- One more has the least slot that fits. -/
def giveOne (cs : List (ByteArray × Int)) (fs : List Fli) (ss : List Int) (i : Nat) : List Int := ss.set i (leastV cs fs ss i)
def giveTo (cs : List (ByteArray × Int)) (fs : List Fli) (k : Nat) : List Int := ((ordTo fs fs.length).take k).foldl (giveOne cs fs) (List.replicate fs.length (-1))
def giveV (cs : List (ByteArray × Int)) (fs : List Fli) : List Int := if capsB cs = true ∧ flisB fs = true then giveTo cs fs fs.length else []
theorem giveOne_len (cs : List (ByteArray × Int)) (fs : List Fli) (ss : List Int) (i : Nat) : (giveOne cs fs ss i).length = ss.length := by simp [giveOne]
theorem giveFold_len (cs : List (ByteArray × Int)) (fs : List Fli) : ∀ (l : List Nat) (ss : List Int), (l.foldl (giveOne cs fs) ss).length = ss.length
  | [], ss => rfl
  | i :: l, ss => by rw [List.foldl_cons, giveFold_len cs fs l, giveOne_len]
theorem giveTo_len (cs : List (ByteArray × Int)) (fs : List Fli) (k : Nat) : (giveTo cs fs k).length = fs.length := by
  unfold giveTo
  rw [giveFold_len]
  simp
theorem giveTo_succ (cs : List (ByteArray × Int)) (fs : List Fli) {k : Nat} (hk : k < fs.length) : giveTo cs fs (k + 1) = (giveTo cs fs k).set ((ordTo fs fs.length)[k]'(by rw [ordTo_len]; exact hk)) (leastV cs fs (giveTo cs fs k) ((ordTo fs fs.length)[k]'(by rw [ordTo_len]; exact hk))) := by
  unfold giveTo
  rw [List.take_succ_eq_append_getElem (by rw [ordTo_len]; exact hk), List.foldl_append]
  rfl
theorem l3Least_at (ac a a' : Option Addr) (capc cap cap' : Nat) (cs : List (ByteArray × Int)) (fs : List Fli) (ss : List Int) (n : Nat) (hn : ss.length = n) (i : Nat) (w : World) (hcc : CapsIn w ac cs) (hc : FlightsIn w a fs) (hc' : IntsIn w a' ss) (hlc : cs.length ≤ 1048576) (hl : fs.length ≤ 1048576) (hln : ss.length = fs.length)
    (hsc : ∀ c ∈ cs, c.1.size ≤ maxLen) (hvl : ∀ f ∈ fs, f.2.2.2.length ≤ 1048576) (hs : ∀ f ∈ fs, SizesOk f) (hi' : i < fs.length) (hb : flisB fs = true) :
    Calls Try.prog 48 #[.slice ac cs.length capc, .slice a fs.length cap, .slice a' n cap', .int .i64 (i : Nat)] w fun e w' => e = .returned (.int .i64 (leastV cs fs ss i)) ∧ Below w.heap.size w w' := by
  subst hn
  obtain ⟨_, h2, h3, _⟩ := (flis_bd hb).2 i hi'
  exact l3Least_any ac a a' capc cap cap' cs fs ss i w hcc hc hc' hlc hl hln hsc hvl hs hi' h2.1 h2.2 h3.1 h3.2

theorem nums_len (os : List Nat) : (nums os).length = os.length := by simp [nums]
theorem own_some {w : World} {base n c : Nat} {a : Option Addr} {zs : List Int} (h : OwnI w base (.slice a n c) zs) (h1 : 1 ≤ zs.length) : ∃ g, a = some ⟨g, 0, none⟩ ∧ base ≤ g ∧ g < w.heap.size ∧ n = zs.length := by
  obtain ⟨a', c', e, _, _, hin, hp⟩ := OwnI.form h
  simp at e
  obtain ⟨rfl, rfl, rfl⟩ := e
  obtain ⟨b, off, rfl, _⟩ := hin 0 (by omega)
  obtain ⟨q1, q2, q3⟩ := hp _ rfl
  simp at q1
  subst q1
  exact ⟨b, rfl, q2, q3, rfl⟩
theorem ints_of {w : World} {base n c : Nat} {a : Option Addr} {zs : List Int} (h : OwnI w base (.slice a n c) zs) : IntsIn w a zs := by
  obtain ⟨a', c', e, _, _, hin, hp⟩ := OwnI.form h
  simp at e
  obtain ⟨rfl, rfl, rfl⟩ := e
  exact hin

end Go.Proofs.Ytciacofibljmoab
