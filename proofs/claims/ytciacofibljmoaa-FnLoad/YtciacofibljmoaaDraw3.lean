/- The draws that make rows: a reader opened, no slots, caps. -/
import Derived.Test.YtciacofibljmoaaDraw2
import Derived.Deep.AppendLies
import Derived.Deep.DrawnRows
namespace Go.Proofs.Ytciacofibljmoaa
open Go.RowKit

attribute [local go_sem ↓] Go.wp_at_zero Go.wp_at_succ

theorem plain_add (g j : Nat) : (⟨g, 0, none⟩ : Addr).add j = ⟨g, j, none⟩ := by
  by_cases h : j = 0
  · subst h; rfl
  · simp [Addr.add, h]
section
variable {w w' : World} {base : Nat} {e : TypeId} {size : Nat} {v : Value} {n : Nat} {xs : List Value}
theorem owns_keep (h : w.ownsRow base e size v n xs) (hk : ∀ g, v.ownBlock = some g → w'.heap[g]? = w.heap[g]?) : w'.ownsRow base e size v n xs := by
  obtain ⟨h1, h2⟩ := h
  refine ⟨h1, ?_⟩
  rcases h2 with h2 | ⟨g, cap, cur, rfl, e2, e3, e4⟩
  · exact .inl h2
  · exact .inr ⟨g, cap, cur, rfl, e2, by rw [hk g rfl]; exact e3, e4⟩
theorem owns_later (h : w.ownsRow base e size v n xs) (hb : Below w.heap.size w w') : w'.ownsRow base e size v n xs := owns_keep h fun g hg => hb.block g (h.lt g hg).2
theorem owns_touch {lo hi : Nat} (h : w.ownsRow base e size v n xs) (ht : Touch lo hi w w') (hh : hi ≤ base) : w'.ownsRow base e size v n xs := owns_keep h fun g hg => ht.block g (h.lt g hg).2 (.inr (Nat.le_trans hh (h.lt g hg).1))
theorem owns_base {base' : Nat} (h : w.ownsRow base e size v n xs) (hb : base' ≤ base) : w.ownsRow base' e size v n xs := by
  obtain ⟨h1, h2⟩ := h
  refine ⟨h1, ?_⟩
  rcases h2 with h2 | ⟨g, cap, cur, e1, e2, e3⟩
  · exact .inl h2
  · exact .inr ⟨g, cap, cur, e1, by omega, e3⟩
/-- What a row of one's own is: a slice, its cells read. -/
theorem owns_slice (h : w.ownsRow base e size v n xs) : ∃ a cap, v = .slice a n cap ∧ n ≤ cap ∧ cap ≤ maxLen ∧ (∀ p, a = some p → p = ⟨p.block, 0, none⟩ ∧ base ≤ p.block ∧ p.block < w.heap.size) ∧
    ∀ j u, xs[j]? = some u → ∃ g, a = some ⟨g, 0, none⟩ ∧ base ≤ g ∧ g < w.heap.size ∧ w.cell? ⟨g, j, none⟩ = some u ∧ w.frozen? ⟨g, j, none⟩ = false := by
  have hh := h
  obtain ⟨h1, h2⟩ := h
  rcases h2 with ⟨rfl, rfl⟩ | ⟨g, cap, cur, rfl, e2, e3, e4, e5, e6, e7⟩
  · exact ⟨none, 0, rfl, Nat.le_refl _, Nat.zero_le _, fun p hp => by simp at hp, fun j u hj => by simp at h1; subst h1; simp at hj⟩
  · refine ⟨_, cap, rfl, e4, e5, fun p hp => ?_, fun j u hj => ⟨g, rfl, e2, (hh.lt g rfl).2, ?_, ?_⟩⟩
    · simp at hp; subst hp
      exact ⟨rfl, e2, (hh.lt g rfl).2⟩
    · have := hh.cells (g := g) rfl j u hj
      rw [plain_add] at this
      exact this
    · simp [World.frozen?, e3]
end
theorem touch_then {lo hi : Nat} {a w w' : World} (h : Touch lo hi a w) (hb : Below a.heap.size w w') : Touch lo hi a w' :=
  ⟨hb.os.trans h.os, hb.tape.trans h.tape, hb.output.trans h.output, Nat.le_trans h.size hb.size, fun k hk ho => (hb.block k hk).trans (h.block k hk ho)⟩

/-- Numbers, as a row's cells. -/
def intVals (zs : List Int) : List Value := zs.map (Value.int .i64)
def OwnI (w : World) (base : Nat) (v : Value) (zs : List Int) : Prop := w.ownsRow base 3 1 v zs.length (intVals zs)
theorem OwnI.form {w : World} {base : Nat} {v : Value} {zs : List Int} (h : OwnI w base v zs) : ∃ a cap, v = .slice a zs.length cap ∧ zs.length ≤ cap ∧ cap ≤ maxLen ∧ IntsIn w a zs ∧ (∀ p, a = some p → p = ⟨p.block, 0, none⟩ ∧ base ≤ p.block ∧ p.block < w.heap.size) := by
  obtain ⟨a, cap, h1, h2, h3, h4, h5⟩ := owns_slice h
  refine ⟨a, cap, h1, h2, h3, fun i hi => ?_, h4⟩
  obtain ⟨g, e1, e2, e3, e4, _⟩ := h5 i (.int .i64 zs[i]) (by simp [intVals, hi])
  exact ⟨g, 0, e1, e3, by rw [Nat.zero_add]; exact e4⟩
/-- Caps, as a row's cells. -/
def capVals (cs : List (ByteArray × Int)) : List Value := cs.flatMap fun c => [.string c.1, .int .i64 c.2]
def OwnC (w : World) (base : Nat) (v : Value) (cs : List (ByteArray × Int)) : Prop := w.ownsRow base 77 2 v cs.length (capVals cs)
theorem capVals_at : ∀ (cs : List (ByteArray × Int)) (i : Nat) (hi : i < cs.length), (capVals cs)[i * 2]? = some (.string cs[i].1) ∧ (capVals cs)[i * 2 + 1]? = some (.int .i64 cs[i].2)
  | [], i, hi => by simp at hi
  | c :: cs, 0, _ => by simp [capVals]
  | c :: cs, i + 1, hi => by
    have ih := capVals_at cs i (by simpa using hi)
    rw [show (i + 1) * 2 = i * 2 + 1 + 1 by omega]
    simpa [capVals] using ih
theorem OwnC.form {w : World} {base : Nat} {v : Value} {cs : List (ByteArray × Int)} (h : OwnC w base v cs) : ∃ a cap, v = .slice a cs.length cap ∧ cs.length ≤ cap ∧ cap ≤ maxLen ∧ CapsIn w a cs ∧ (∀ p, a = some p → p = ⟨p.block, 0, none⟩ ∧ base ≤ p.block ∧ p.block < w.heap.size) := by
  obtain ⟨a, cap, h1, h2, h3, h4, h5⟩ := owns_slice h
  refine ⟨a, cap, h1, h2, h3, fun i hi => ?_, h4⟩
  obtain ⟨q0, q1⟩ := capVals_at cs i hi
  obtain ⟨g, e1, e2, e3, e4, _⟩ := h5 _ _ q0
  obtain ⟨g', e1', _, _, e4', _⟩ := h5 _ _ q1
  rw [e1] at e1'
  simp at e1'
  subst e1'
  exact ⟨g, 0, e1, e3, by rw [Nat.zero_add]; exact e4, by rw [Nat.zero_add]; exact e4'⟩

set_option maxRecDepth 100000 in
set_option maxHeartbeats 800000 in
theorem l6Dec_any (n : Nat) (w : World) (h : n < 10) :
    Calls Try.prog 89 #[.int .i64 (n : Nat)] w fun e w' => (∃ s : ByteArray, e = .returned (.string s) ∧ s.size = 1) ∧ Below w.heap.size w w' := by
  obtain ⟨c, hc1, hcv⟩ := conv1 w (48 + (n : Int))
  go_enter Try.func89, Try.ntmps89
  go_wp2
  go_ret
  exact ⟨⟨c, rfl, hc1⟩, (Below.refl _ _).alloc (Nat.le_refl _) _⟩

set_option maxHeartbeats 800000 in
theorem l1Open_any (a : Option Addr) (n cap : Nat) (w : World) (hb : BytesIn w.heap.size w a n) (hc : n ≤ cap) (hl : cap ≤ maxLen) :
    Calls Try.prog 35 #[.slice a n cap] w fun e w' => e = .returned (.pointer (some ⟨w.heap.size, 0, none⟩)) ∧ Rd w' w.heap.size 0 ∧ Below w.heap.size w w' := by
  unfold maxLen at hl
  have HB := hide hb
  clear hb
  have key : ∀ m, m ≤ n → m ≤ 2000 → ∀ cp, Rd (w.alloc (.cells #[.slice a m cp, .int .i64 0] 100)) w.heap.size 0 := fun m hm hm2 cp =>
    ⟨fun i => (#[Value.slice a m cp, .int .i64 0] : Array Value).getD i undef, a, m, cp, 0, World.rowIs_alloc w _ _ _ (fun i hi => by simp at hi; rcases i with _ | _ | i <;> first | rfl | omega), rfl, rfl, Nat.le_refl _, hm2, fun i hi => by
      obtain ⟨b, off, z, e1, e2, e3, e4, e5⟩ := HB.out i (by omega)
      exact ⟨b, off, z, e1, e2, e3, e4, cell_later ((Below.refl w.heap.size w).alloc (Nat.le_refl _) _) e5⟩⟩
  have HK := hide key
  clear key
  by_cases h : (2000 : Int) < (n : Int)
  · obtain ⟨b, off, z, rfl, _⟩ := HB.out 0 (by omega)
    go_enter Try.func35, Try.ntmps35
    go_wp2
    go_ret
    exact ⟨rfl, HK.out 2000 (by omega) (by omega) _, (Below.refl _ _).alloc (Nat.le_refl _) _⟩
  · go_enter Try.func35, Try.ntmps35
    go_wp2
    go_ret
    exact ⟨rfl, HK.out n (by omega) (by omega) _, (Below.refl _ _).alloc (Nat.le_refl _) _⟩

theorem cell_one_new (w : World) (a : Value) (t : TypeId) : ∀ j u, [a][j]? = some u → (w.alloc (.cells #[a] t)).cell? ((⟨w.heap.size, 0, none⟩ : Addr).add j) = some u := by
  intro j u hj
  match j, hj with
  | 0, hj => simp at hj; subst hj; simp [Addr.add]
theorem own_emptyI (w : World) : OwnI (w.alloc (.cells #[] 3)) w.heap.size (.slice (some ⟨w.heap.size, 0, none⟩) 0 0) [] := World.ownsRow_made w #[] 0 (Nat.le_refl _) (Nat.zero_le _) (by simp)
theorem own_emptyC (w : World) : OwnC (w.alloc (.cells #[] 77)) w.heap.size (.slice (some ⟨w.heap.size, 0, none⟩) 0 0) [] := World.ownsRow_made w #[] 0 (Nat.le_refl _) (Nat.zero_le _) (by simp)

set_option maxHeartbeats 800000 in
theorem l3None_any (n : Nat) (w : World) (hn : n ≤ 1000) :
    Calls Try.prog 83 #[.int .i64 (n : Nat)] w fun e w' => ∃ v, e = .returned v ∧ OwnI w' w.heap.size v (List.replicate n (-1)) ∧ Below w.heap.size w w' := by
  obtain ⟨i0, hi, iz0, iz1, iz2⟩ := info_parts info_int
  go_enter Try.func83, Try.ntmps83
  go_wp2
  go_loopw [3, 4] (fun v i wr => ∃ (k : Nat), k ≤ n ∧ i = .int .i64 k ∧ Hid (OwnI wr w.heap.size v (List.replicate k (-1))) ∧ Hid (Below w.heap.size w wr)) (fun _ i _ => n - (RowKit.intOf i).toNat)
  case atStart => exact ⟨0, Nat.zero_le _, rfl, own_emptyI w, (Below.refl _ _).alloc (Nat.le_refl _) _⟩
  case round =>
    obtain ⟨k, hk, rfl, HO, HB⟩ := hrel
    by_cases hlt : k < n
    · have hlt' : (k : Int) < (n : Int) := by omega
      go_wp2_with (first
        | (at_builtin; refine wpList_append_own _ rfl _ _ 24 rfl w.heap.size 3 i0 (.int .i64 0) 1 8 Try.underlying24 hi iz0 iz1 iz2 rfl (by decide) _ _ _ rfl (World.ownsRow.alloc HO.out _) ⟨wr.heap.size, 0, none⟩ 1 1 [.int .i64 (-1)] rfl rfl (cell_one_new _ _ _) (fun x hx => by simp at hx; subst hx; rfl) (by simp; unfold maxLen; omega) (by simp; omega) (by have := HB.out.size; simp; omega) ?_; intro v' w3 hown3 hgrow3 hnil3; have HO3 := hide hown3; have HB3 := hide (Below.grown (HB.out.alloc HB.out.size _) hgrow3 (by have := HB.out.size; simp; omega) (fun q hq => (HO.out.lt _ hq).1)); clear hown3 hgrow3 hnil3))
      go_roundw
      case rel => exact ⟨k + 1, by omega, by go_num, by show World.ownsRow _ _ _ _ _ _ _; have h3 := HO3.out; rw [List.replicate_succ']; simpa [intVals] using h3, HB3.out⟩
      case measure => simp [RowKit.intOf]; omega
    · go_wp2
      go_ret
      have : k = n := by omega
      subst this
      exact ⟨_, rfl, HO.out, HB.out⟩

end Go.Proofs.Ytciacofibljmoaa
