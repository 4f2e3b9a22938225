/- The reader of a code: what it hands out is a number from 0 on, below what was asked. -/
import Derived.Test.YtciacofibljmoabGreatDoorMarks
import Derived.BigQuiet
import Derived.Laws.Bits64
import Derived.Deep.AppendLies
import Derived.Deep.DrawnRows
import Derived.Deep.Cut
import Derived.Deep.CutRange
import Derived.Deep.RegionWith
namespace Go.Proofs.YtciacofibljmoabGreatDoor
open Go.RowKit

/-- Bytes that lie below a block. -/
def BytesIn (r : Nat) (w : World) (a : Option Addr) (n : Nat) : Prop :=
  ∀ i, i < n → ∃ b off, ∃ z : Int, a = some ⟨b, off, none⟩ ∧ b < r ∧ 0 ≤ z ∧ z ≤ 255 ∧ w.cell? ⟨b, off + i, none⟩ = some (.int .u8 z)
theorem cell_touch {lo hi : Nat} {w w' : World} {a : Addr} {v : Value} (ht : Touch lo hi w w') (h : w.cell? a = some v) (ho : a.block < lo ∨ hi ≤ a.block) : w'.cell? a = some v := by
  rw [World.cell?_of_block (w := w) (ht.block _ (World.block_lt_of_cell? w a h) ho)]; exact h
theorem touch_drewN {lo hi m : Nat} {w w' : World} (h : Touch lo hi w w') : Touch lo hi w (w'.drewN m) := ⟨h.os, h.tape, h.output, h.size, h.block⟩
theorem touch_drew {lo hi : Nat} {w w' : World} (h : Touch lo hi w w') : Touch lo hi w w'.drew := ⟨h.os, h.tape, h.output, h.size, h.block⟩
theorem xor_bd (x : Int) (h0 : 0 ≤ x) (h1 : x < 1000000000000) : 0 ≤ bits .xor .i64 x (x / 64) := by
  obtain ⟨n, rfl⟩ := Int.eq_ofNat_of_zero_le h0
  have hx : n ^^^ (n / 64) < 2 ^ 41 := Nat.xor_lt_two_pow (by omega) (by omega)
  have e : ((n : Int) / 64) = ((n / 64 : Nat) : Int) := by omega
  have h2 : (BitVec.ofInt 64 (n : Int)).toNat = n := by
    rw [BitVec.ofInt_natCast, BitVec.toNat_ofNat]; exact Nat.mod_eq_of_lt (by omega)
  have h3 : (BitVec.ofInt 64 ((n / 64 : Nat) : Int)).toNat = n / 64 := by
    rw [BitVec.ofInt_natCast, BitVec.toNat_ofNat]; exact Nat.mod_eq_of_lt (by omega)
  rw [e]
  show 0 ≤ IntKind.i64.wrap ((BitVec.ofInt 64 (n : Int) ^^^ BitVec.ofInt 64 ((n / 64 : Nat) : Int)).toNat : Int)
  rw [BitVec.toNat_xor, h2, h3]
  generalize n ^^^ (n / 64) = y at hx
  simp [IntKind.wrap, IntKind.bits, IntKind.signed]
  omega
theorem byte_set {w : World} {r : Nat} {a : Option Addr} {n : Nat} (h5 : BytesIn r w a n) {i : Nat} (hi : i < n) (v : Value) : ∃ b off, ∃ z : Int, a = some ⟨b, off, none⟩ ∧ b < r ∧ 0 ≤ z ∧ z ≤ 255 ∧ (w.setCell ⟨r, 1, none⟩ v).cell? ⟨b, off + i, none⟩ = some (.int .u8 z) := by
  obtain ⟨b, off, z, e, hb, z0, z1, hc⟩ := h5 i hi
  exact ⟨b, off, z, e, hb, z0, z1, cell_touch (touch_set (touch_refl r (r + 1) w) (p := ⟨r, 1, none⟩) (Nat.le_refl _) (Nat.lt_succ_self _) _) hc (.inl (by show b < _; omega))⟩

end Go.Proofs.YtciacofibljmoabGreatDoor

/- The small draws: a text of a list, a sector, the names, numbers without a sign. -/
namespace Go.Proofs.YtciacofibljmoabGreatDoor
open Go.RowKit

/-- Texts that lie above a block. -/
def StrsIn (r : Nat) (w : World) (a : Option Addr) (ss : List ByteArray) : Prop :=
  ∀ i (hi : i < ss.length), ∃ b off, a = some ⟨b, off, none⟩ ∧ r < b ∧ w.cell? ⟨b, off + i, none⟩ = some (.string ss[i])
theorem StrsIn.touch {r lo hi : Nat} {w w' : World} {a : Option Addr} {ss : List ByteArray} (h : StrsIn r w a ss) (ht : Touch lo hi w w') (hh : hi ≤ r + 1) : StrsIn r w' a ss := fun i hi' => by
  obtain ⟨b, off, e, hb, hc⟩ := h i hi'
  exact ⟨b, off, e, hb, cell_touch ht hc (.inr (by show hi ≤ b; omega))⟩
theorem StrsIn.later {r : Nat} {w w' : World} {a : Option Addr} {ss : List ByteArray} (h : StrsIn r w a ss) (hb : Below w.heap.size w w') : StrsIn r w' a ss := fun i hi' => by
  obtain ⟨b, off, e, hb', hc⟩ := h i hi'
  exact ⟨b, off, e, hb', cell_later hb hc⟩
theorem strs_alloc {r : Nat} {w : World} (hr : r < w.heap.size) (t : TypeId) (c : Array Value) (ss : List ByteArray) (hc : c = (ss.map Value.string).toArray) : StrsIn r (w.alloc (.cells c t)) (some ⟨w.heap.size, 0, none⟩) ss := fun i hi => by
  subst hc
  refine ⟨_, _, rfl, hr, ?_⟩
  simp [hi]

/-- The sectors that are drawn. -/
def secs : List ByteArray := [⟨#[101]⟩, ⟨#[101]⟩, ⟨#[110, 45, 49]⟩, ⟨#[119]⟩, ⟨#[119]⟩, ⟨#[122, 122]⟩]
theorem secs_size : ∀ s ∈ secs, s.size ≤ 8 := by decide

/-- The names that are drawn. -/
def nams : List ByteArray := [⟨#[97, 49]⟩, ⟨#[98, 97]⟩, ⟨#[99, 45, 99]⟩, ⟨#[100]⟩, ⟨#[107, 108, 49]⟩, ⟨#[108, 104]⟩, ⟨#[113]⟩, ⟨#[120, 57]⟩]
theorem nams_size : ∀ s ∈ nams, s.size ≤ 8 := by decide

end Go.Proofs.YtciacofibljmoabGreatDoor

/- The draws that make rows: a reader opened, no slots, caps. -/
namespace Go.Proofs.YtciacofibljmoabGreatDoor
open Go.RowKit

attribute [local go_sem ↓] Go.wp_at_zero Go.wp_at_succ

theorem plain_add (g j : Nat) : (⟨g, 0, none⟩ : Addr).add j = ⟨g, j, none⟩ := by
  by_cases h : j = 0
  · subst h; rfl
  · simp [Addr.add, h]
section
variable {w w' : World} {base : Nat} {e : TypeId} {size : Nat} {v : Value} {n : Nat} {xs : List Value}
theorem owns_keep (h : w.ownsRow base e size v n xs) (hk : ∀ g, v.ownBlock = some g → w'.heap[g]? = w.heap[g]?) : w'.ownsRow base e size v n xs := by
  obtain ⟨h1, h2⟩ := h
  refine ⟨h1, ?_⟩
  rcases h2 with h2 | ⟨g, cap, cur, rfl, e2, e3, e4⟩
  · exact .inl h2
  · exact .inr ⟨g, cap, cur, rfl, e2, by rw [hk g rfl]; exact e3, e4⟩
theorem owns_later (h : w.ownsRow base e size v n xs) (hb : Below w.heap.size w w') : w'.ownsRow base e size v n xs := owns_keep h fun g hg => hb.block g (h.lt g hg).2
theorem owns_touch {lo hi : Nat} (h : w.ownsRow base e size v n xs) (ht : Touch lo hi w w') (hh : hi ≤ base) : w'.ownsRow base e size v n xs := owns_keep h fun g hg => ht.block g (h.lt g hg).2 (.inr (Nat.le_trans hh (h.lt g hg).1))
theorem owns_base {base' : Nat} (h : w.ownsRow base e size v n xs) (hb : base' ≤ base) : w.ownsRow base' e size v n xs := by
  obtain ⟨h1, h2⟩ := h
  refine ⟨h1, ?_⟩
  rcases h2 with h2 | ⟨g, cap, cur, e1, e2, e3⟩
  · exact .inl h2
  · exact .inr ⟨g, cap, cur, e1, by omega, e3⟩
/-- What a row of one's own is: a slice, its cells read. -/
theorem owns_slice (h : w.ownsRow base e size v n xs) : ∃ a cap, v = .slice a n cap ∧ n ≤ cap ∧ cap ≤ maxLen ∧ (∀ p, a = some p → p = ⟨p.block, 0, none⟩ ∧ base ≤ p.block ∧ p.block < w.heap.size) ∧
    ∀ j u, xs[j]? = some u → ∃ g, a = some ⟨g, 0, none⟩ ∧ base ≤ g ∧ g < w.heap.size ∧ w.cell? ⟨g, j, none⟩ = some u ∧ w.frozen? ⟨g, j, none⟩ = false := by
  have hh := h
  obtain ⟨h1, h2⟩ := h
  rcases h2 with ⟨rfl, rfl⟩ | ⟨g, cap, cur, rfl, e2, e3, e4, e5, e6, e7⟩
  · exact ⟨none, 0, rfl, Nat.le_refl _, Nat.zero_le _, fun p hp => by simp at hp, fun j u hj => by simp at h1; subst h1; simp at hj⟩
  · refine ⟨_, cap, rfl, e4, e5, fun p hp => ?_, fun j u hj => ⟨g, rfl, e2, (hh.lt g rfl).2, ?_, ?_⟩⟩
    · simp at hp; subst hp
      exact ⟨rfl, e2, (hh.lt g rfl).2⟩
    · have := hh.cells (g := g) rfl j u hj
      rw [plain_add] at this
      exact this
    · simp [World.frozen?, e3]
end
theorem touch_then {lo hi : Nat} {a w w' : World} (h : Touch lo hi a w) (hb : Below a.heap.size w w') : Touch lo hi a w' :=
  ⟨hb.os.trans h.os, hb.tape.trans h.tape, hb.output.trans h.output, Nat.le_trans h.size hb.size, fun k hk ho => (hb.block k hk).trans (h.block k hk ho)⟩

/-- Numbers, as a row's cells. -/
def intVals (zs : List Int) : List Value := zs.map (Value.int .i64)
def OwnI (w : World) (base : Nat) (v : Value) (zs : List Int) : Prop := w.ownsRow base 3 1 v zs.length (intVals zs)
theorem OwnI.form {w : World} {base : Nat} {v : Value} {zs : List Int} (h : OwnI w base v zs) : ∃ a cap, v = .slice a zs.length cap ∧ zs.length ≤ cap ∧ cap ≤ maxLen ∧ IntsIn w a zs ∧ (∀ p, a = some p → p = ⟨p.block, 0, none⟩ ∧ base ≤ p.block ∧ p.block < w.heap.size) := by
  obtain ⟨a, cap, h1, h2, h3, h4, h5⟩ := owns_slice h
  refine ⟨a, cap, h1, h2, h3, fun i hi => ?_, h4⟩
  obtain ⟨g, e1, e2, e3, e4, _⟩ := h5 i (.int .i64 zs[i]) (by simp [intVals, hi])
  exact ⟨g, 0, e1, e3, by rw [Nat.zero_add]; exact e4⟩
/-- Caps, as a row's cells. -/
def capVals (cs : List (ByteArray × Int)) : List Value := cs.flatMap fun c => [.string c.1, .int .i64 c.2]
def OwnC (w : World) (base : Nat) (v : Value) (cs : List (ByteArray × Int)) : Prop := w.ownsRow base 87 2 v cs.length (capVals cs)
theorem capVals_at : ∀ (cs : List (ByteArray × Int)) (i : Nat) (hi : i < cs.length), (capVals cs)[i * 2]? = some (.string cs[i].1) ∧ (capVals cs)[i * 2 + 1]? = some (.int .i64 cs[i].2)
  | [], i, hi => by simp at hi
  | c :: cs, 0, _ => by simp [capVals]
  | c :: cs, i + 1, hi => by
    have ih := capVals_at cs i (by simpa using hi)
    rw [show (i + 1) * 2 = i * 2 + 1 + 1 by omega]
    simpa [capVals] using ih
theorem OwnC.form {w : World} {base : Nat} {v : Value} {cs : List (ByteArray × Int)} (h : OwnC w base v cs) : ∃ a cap, v = .slice a cs.length cap ∧ cs.length ≤ cap ∧ cap ≤ maxLen ∧ CapsIn w a cs ∧ (∀ p, a = some p → p = ⟨p.block, 0, none⟩ ∧ base ≤ p.block ∧ p.block < w.heap.size) := by
  obtain ⟨a, cap, h1, h2, h3, h4, h5⟩ := owns_slice h
  refine ⟨a, cap, h1, h2, h3, fun i hi => ?_, h4⟩
  obtain ⟨q0, q1⟩ := capVals_at cs i hi
  obtain ⟨g, e1, e2, e3, e4, _⟩ := h5 _ _ q0
  obtain ⟨g', e1', _, _, e4', _⟩ := h5 _ _ q1
  rw [e1] at e1'
  simp at e1'
  subst e1'
  exact ⟨g, 0, e1, e3, by rw [Nat.zero_add]; exact e4, by rw [Nat.zero_add]; exact e4'⟩

theorem cell_one_new (w : World) (a : Value) (t : TypeId) : ∀ j u, [a][j]? = some u → (w.alloc (.cells #[a] t)).cell? ((⟨w.heap.size, 0, none⟩ : Addr).add j) = some u := by
  intro j u hj
  match j, hj with
  | 0, hj => simp at hj; subst hj; simp [Addr.add]
theorem own_emptyI (w : World) : OwnI (w.alloc (.cells #[] 3)) w.heap.size (.slice (some ⟨w.heap.size, 0, none⟩) 0 0) [] := World.ownsRow_made w #[] 0 (Nat.le_refl _) (Nat.zero_le _) (by simp)
theorem own_emptyC (w : World) : OwnC (w.alloc (.cells #[] 87)) w.heap.size (.slice (some ⟨w.heap.size, 0, none⟩) 0 0) [] := World.ownsRow_made w #[] 0 (Nat.le_refl _) (Nat.zero_le _) (by simp)

end Go.Proofs.YtciacofibljmoabGreatDoor

/- Caps are drawn. -/
namespace Go.Proofs.YtciacofibljmoabGreatDoor
open Go.RowKit

attribute [local go_sem ↓] Go.wp_at_zero Go.wp_at_succ

def capNams : List ByteArray := [⟨#[101]⟩, ⟨#[110, 45, 49]⟩, ⟨#[119]⟩]
theorem capNams_size : ∀ s ∈ capNams, s.size ≤ 8 := by decide
/-- Caps that are no longer, and no longer of name, than drawn ones. -/
def CapsSm (m : Nat) (cs : List (ByteArray × Int)) : Prop := cs.length ≤ m ∧ ∀ c ∈ cs, c.1.size ≤ 8
theorem cell_two_new (w : World) (a b : Value) (t : TypeId) : ∀ j u, [a, b][j]? = some u → (w.alloc (.cells #[a, b] t)).cell? ((⟨w.heap.size, 0, none⟩ : Addr).add j) = some u := by
  intro j u hj
  rw [plain_add]
  match j, hj with
  | 0, hj => simp at hj; subst hj; simp
  | 1, hj => simp at hj; subst hj; simp
theorem capVals_snoc (cs : List (ByteArray × Int)) (c : ByteArray × Int) : capVals (cs ++ [c]) = capVals cs ++ [.string c.1, .int .i64 c.2] := by simp [capVals]

theorem StrsIn.grown {r : Nat} {w w' : World} {a : Option Addr} {ss : List ByteArray} {row : Option Nat} (h : StrsIn r w a ss) (hg : w.grownBy w' row) (hne : ∀ p, a = some p → row ≠ some p.block) : StrsIn r w' a ss := fun i hi' => by
  obtain ⟨b, off, e, hb', hc⟩ := h i hi'
  exact ⟨b, off, e, hb', World.grownBy.cell hg hc (fun hh => hne _ e hh.symm)⟩
theorem below_grow {a w w' : World} {o : Obj} {row : Option Nat} (ha : a.heap.size ≤ w.heap.size) (hg : (w.alloc o).grownBy w' row) (hr : ∀ k, row = some k → a.heap.size ≤ k) : Below a.heap.size w w' :=
  Below.grown ((Below.refl _ _).alloc ha _) hg (by simp; omega) hr

end Go.Proofs.YtciacofibljmoabGreatDoor

/- A flight is drawn. -/
namespace Go.Proofs.YtciacofibljmoabGreatDoor
open Go.RowKit

attribute [local go_sem ↓] Go.wp_at_zero Go.wp_at_succ

/-- Visits, as a row's cells. -/
def visVals (vs : List Vis) : List Value := vs.flatMap fun v => [.string v.1, .int .i64 v.2.1, .int .i64 v.2.2]
def OwnV (w : World) (base : Nat) (v : Value) (vs : List Vis) : Prop := w.ownsRow base 89 3 v vs.length (visVals vs)
theorem visVals_at : ∀ (vs : List Vis) (i : Nat) (hi : i < vs.length), (visVals vs)[i * 3]? = some (.string vs[i].1) ∧ (visVals vs)[i * 3 + 1]? = some (.int .i64 vs[i].2.1) ∧ (visVals vs)[i * 3 + 2]? = some (.int .i64 vs[i].2.2)
  | [], i, hi => by simp at hi
  | c :: cs, 0, _ => by simp [visVals]
  | c :: cs, i + 1, hi => by
    have ih := visVals_at cs i (by simpa using hi)
    rw [show (i + 1) * 3 = i * 3 + 1 + 1 + 1 by omega]
    simpa [visVals] using ih
theorem visVals_len (vs : List Vis) : (visVals vs).length = vs.length * 3 := by
  induction vs with
  | nil => rfl
  | cons r l ih => simp only [visVals, List.flatMap_cons, List.length_append, List.length_cons, List.length_nil] at *; omega
theorem visVals_snoc (vs : List Vis) (v : Vis) : visVals (vs ++ [v]) = visVals vs ++ [.string v.1, .int .i64 v.2.1, .int .i64 v.2.2] := by simp [visVals]
theorem OwnV.form {w : World} {base : Nat} {v : Value} {vs : List Vis} (h : OwnV w base v vs) : ∃ a cap, v = .slice a vs.length cap ∧ vs.length ≤ cap ∧ cap ≤ maxLen ∧ VisitsIn w a vs ∧ (∀ p, a = some p → p = ⟨p.block, 0, none⟩ ∧ base ≤ p.block ∧ p.block < w.heap.size) := by
  obtain ⟨a, cap, h1, h2, h3, h4, h5⟩ := owns_slice h
  refine ⟨a, cap, h1, h2, h3, fun i hi => ?_, h4⟩
  obtain ⟨q0, q1, q2⟩ := visVals_at vs i hi
  obtain ⟨g, e1, e2, e3, e4, _⟩ := h5 _ _ q0
  obtain ⟨g', e1', _, _, e4', _⟩ := h5 _ _ q1
  obtain ⟨g'', e1'', _, _, e4'', _⟩ := h5 _ _ q2
  rw [e1] at e1' e1''
  simp at e1' e1''
  subst e1'
  subst e1''
  exact ⟨g, 0, e1, e3, by rw [Nat.zero_add]; exact e4, by rw [Nat.zero_add]; exact e4', by rw [Nat.zero_add]; exact e4''⟩
/-- Visits whose sectors are short, m of them at most. -/
def VisSm (m : Nat) (vs : List Vis) : Prop := vs.length ≤ m ∧ ∀ v ∈ vs, v.1.size ≤ 8

/-- Four cells of a flight in a block. -/
def FlAt (w : World) (F : Nat) (nm : ByteArray) (p l : Int) (v : Value) : Prop :=
  ∃ f, w.rowIs F 41 4 f ∧ f 0 = .string nm ∧ f 1 = .int .i64 p ∧ f 2 = .int .i64 l ∧ f 3 = v
theorem FlAt.cells {w : World} {F : Nat} {nm : ByteArray} {p l : Int} {v : Value} (h : FlAt w F nm p l v) :
    w.cell? ⟨F, 0, none⟩ = some (.string nm) ∧ w.cell? ⟨F, 1, none⟩ = some (.int .i64 p) ∧ w.cell? ⟨F, 2, none⟩ = some (.int .i64 l) ∧ w.cell? ⟨F, 3, none⟩ = some v ∧
      w.frozen? ⟨F, 0, none⟩ = false ∧ w.frozen? ⟨F, 1, none⟩ = false ∧ w.frozen? ⟨F, 2, none⟩ = false ∧ w.frozen? ⟨F, 3, none⟩ = false := by
  obtain ⟨f, h0, h1, h2, h3, h4⟩ := h
  exact ⟨h1 ▸ h0.cell (by omega), h2 ▸ h0.cell (by omega), h3 ▸ h0.cell (by omega), h4 ▸ h0.cell (by omega), h0.frozen _, h0.frozen _, h0.frozen _, h0.frozen _⟩
theorem FlAt.keep {w w' : World} {F : Nat} {nm : ByteArray} {p l : Int} {v : Value} (h : FlAt w F nm p l v) (hk : w'.heap[F]? = w.heap[F]?) : FlAt w' F nm p l v := by
  obtain ⟨f, h0, h1⟩ := h
  exact ⟨f, h0.of_block hk, h1⟩
theorem FlAt.lt {w : World} {F : Nat} {nm : ByteArray} {p l : Int} {v : Value} (h : FlAt w F nm p l v) : F < w.heap.size := by
  obtain ⟨f, h0, h1⟩ := h
  exact h0.lt
theorem FlAt.touch {w w' : World} {F lo hi : Nat} {nm : ByteArray} {p l : Int} {v : Value} (h : FlAt w F nm p l v) (ht : Touch lo hi w w') (ho : hi ≤ F) : FlAt w' F nm p l v := h.keep (ht.block F h.lt (.inr ho))
theorem FlAt.later {w w' : World} {F : Nat} {nm : ByteArray} {p l : Int} {v : Value} (h : FlAt w F nm p l v) (hb : Below w.heap.size w w') : FlAt w' F nm p l v := h.keep (hb.block F h.lt)
theorem FlAt.new (w : World) (nm : ByteArray) (p l : Int) (v : Value) : FlAt (w.alloc (.cells #[.string nm, .int .i64 p, .int .i64 l, v] 41)) w.heap.size nm p l v :=
  ⟨fun i => (#[.string nm, .int .i64 p, .int .i64 l, v] : Array Value).getD i undef, World.rowIs_alloc w _ _ _ (fun i hi => by simp at hi; match i, hi with | 0, _ => rfl | 1, _ => rfl | 2, _ => rfl | 3, _ => rfl), rfl, rfl, rfl, rfl⟩
theorem FlAt.setPlan {w : World} {F : Nat} {nm : ByteArray} {p l : Int} {v : Value} (h : FlAt w F nm p l v) (p' : Int) : FlAt (w.setCell ⟨F, 1, none⟩ (.int .i64 p')) F nm p' l v := by
  obtain ⟨f, h0, h1, h2, h3, h4⟩ := h
  exact ⟨_, h0.set 1 _, by simp [h1], by simp, by simp [h3], by simp [h4]⟩
theorem FlAt.setLate {w : World} {F : Nat} {nm : ByteArray} {p l : Int} {v : Value} (h : FlAt w F nm p l v) (l' : Int) : FlAt (w.setCell ⟨F, 2, none⟩ (.int .i64 l')) F nm p l' v := by
  obtain ⟨f, h0, h1, h2, h3, h4⟩ := h
  exact ⟨_, h0.set 2 _, by simp [h1], by simp [h2], by simp, by simp [h4]⟩
theorem FlAt.setVis {w : World} {F : Nat} {nm : ByteArray} {p l : Int} {v : Value} (h : FlAt w F nm p l v) (v' : Value) : FlAt (w.setCell ⟨F, 3, none⟩ v') F nm p l v' := by
  obtain ⟨f, h0, h1, h2, h3, h4⟩ := h
  exact ⟨_, h0.set 3 _, by simp [h1], by simp [h2], by simp [h3], by simp⟩
theorem FlAt.setName {w : World} {F : Nat} {nm : ByteArray} {p l : Int} {v : Value} (h : FlAt w F nm p l v) (nm' : ByteArray) : FlAt (w.setCell ⟨F, 0, none⟩ (.string nm')) F nm' p l v := by
  obtain ⟨f, h0, h1, h2, h3, h4⟩ := h
  exact ⟨_, h0.set 0 _, by simp, by simp [h2], by simp [h3], by simp [h4]⟩
theorem VisitsIn.keep {w w' : World} {a : Option Addr} {vs : List Vis} (h : VisitsIn w a vs) (hk : ∀ p, a = some p → w'.heap[p.block]? = w.heap[p.block]?) (hs : w.heap.size ≤ w'.heap.size) : VisitsIn w' a vs := fun i hi => by
  obtain ⟨b, off, e, hlt, h0, h1, h2⟩ := h i hi
  have hb := hk _ e
  exact ⟨b, off, e, Nat.lt_of_lt_of_le hlt hs, (World.cell?_of_block (w := w) (a := ⟨b, off + i * 3, none⟩) hb).trans h0, (World.cell?_of_block (w := w) (a := ⟨b, off + i * 3 + 1, none⟩) hb).trans h1, (World.cell?_of_block (w := w) (a := ⟨b, off + i * 3 + 2, none⟩) hb).trans h2⟩
theorem FlAt.grown {w w' : World} {o : Obj} {row : Option Nat} {F : Nat} {nm : ByteArray} {p l : Int} {v : Value} (h : FlAt w F nm p l v) (hg : (w.alloc o).grownBy w' row) (hne : row ≠ some F) : FlAt w' F nm p l v :=
  (h.later ((Below.refl _ _).alloc (Nat.le_refl _) o)).keep (hg.block F (by have := h.lt; simp; omega) (fun hh => hne hh.symm))
theorem below_set {w w' : World} {B : Nat} (h : Below B w w') (b i : Nat) (ha : B ≤ b) (v : Value) : Below B w (w'.setCell ⟨b, i, none⟩ v) := h.setCell ha v

end Go.Proofs.YtciacofibljmoabGreatDoor

/- A flight is copied. -/
namespace Go.Proofs.YtciacofibljmoabGreatDoor
open Go.RowKit

theorem vis_news {w : World} {a : Option Addr} {vs : List Vis} (h : VisitsIn w a vs) (h1 : 1 ≤ vs.length) : ∃ b off, a = some ⟨b, off, none⟩ ∧ ∀ j u, (visVals vs)[j]? = some u → w.cell? ((⟨b, off, none⟩ : Addr).add j) = some u := by
  obtain ⟨b, off, e, hb, _⟩ := h 0 (by omega)
  refine ⟨b, off, e, fun j u hj => ?_⟩
  have hlt : j < (visVals vs).length := by
    rcases Nat.lt_or_ge j (visVals vs).length with hh | hh
    · exact hh
    · rw [List.getElem?_eq_none hh] at hj; simp at hj
  rw [visVals_len] at hlt
  have hi : j / 3 < vs.length := by omega
  obtain ⟨b', off', e', _, c0, c1, c2⟩ := h (j / 3) hi
  rw [e] at e'
  simp at e'
  obtain ⟨rfl, rfl⟩ := e'
  obtain ⟨q0, q1, q2⟩ := visVals_at vs (j / 3) hi
  have ha : (⟨b, off, none⟩ : Addr).add j = ⟨b, off + j, none⟩ := by
    by_cases hz : j = 0
    · subst hz; rfl
    · simp [Addr.add, hz]
  rw [ha]
  have hm : j % 3 = 0 ∨ j % 3 = 1 ∨ j % 3 = 2 := by omega
  rcases hm with hm | hm | hm
  · rw [show j / 3 * 3 = j by omega] at q0 c0
    rw [hj] at q0
    rw [c0, ← q0]
  · rw [show j / 3 * 3 + 1 = j by omega] at q1
    rw [show off + j / 3 * 3 + 1 = off + j by omega] at c1
    rw [hj] at q1
    rw [c1, ← q1]
  · rw [show j / 3 * 3 + 2 = j by omega] at q2
    rw [show off + j / 3 * 3 + 2 = off + j by omega] at c2
    rw [hj] at q2
    rw [c2, ← q2]
theorem visVals_one (vs : List Vis) : ∀ u ∈ visVals vs, u.oneCell' = true := fun u hu => by
  unfold visVals at hu
  obtain ⟨v, _, hv⟩ := List.mem_flatMap.1 hu
  simp at hv
  rcases hv with rfl | rfl | rfl <;> rfl
theorem FlAt.newAt (w : World) (B : Nat) (hB : w.heap.size = B) (nm : ByteArray) (p l : Int) (v : Value) : FlAt (w.alloc (.cells #[.string nm, .int .i64 p, .int .i64 l, v] 41)) B nm p l v := by
  subst hB; exact FlAt.new w nm p l v
theorem own_emptyV (w : World) : OwnV (w.alloc (.cells #[] 89)) w.heap.size (.slice (some ⟨w.heap.size, 0, none⟩) 0 0) [] := World.ownsRow_made w #[] 0 (Nat.le_refl _) (Nat.zero_le _) (by simp)

set_option maxRecDepth 100000 in
set_option maxHeartbeats 3200000 in
theorem l1Flight_any (nm : ByteArray) (p l : Int) (vs : List Vis) (av : Option Addr) (cv : Nat) (w : World) (hv : VisitsIn w av vs) (h1 : 1 ≤ vs.length) (h2 : vs.length ≤ 1000) :
    Calls Tryz.prog 26 #[.agg #[.string nm, .int .i64 p, .int .i64 l, .slice av vs.length cv]] w fun e w' =>
      ∃ g cp, e = .returned (.agg #[.string nm, .int .i64 p, .int .i64 l, .slice (some ⟨g, 0, none⟩) vs.length cp]) ∧ OwnV w' w.heap.size (.slice (some ⟨g, 0, none⟩) vs.length cp) vs ∧ Below w.heap.size w w' := by
  obtain ⟨i0, hi, iz0, iz1, iz2⟩ := info_parts info_visit
  have HV := hide hv
  clear hv
  go_enter Tryz.func26, Tryz.ntmps26
  go_upto_region 1 with fail
  have F0 := hide ((FlAt.new w nm p l (.slice av vs.length cv)).later ((Below.refl _ _).alloc (Nat.le_refl _) (.cells #[.string ⟨#[]⟩, .int .i64 0, .int .i64 0, .slice none 0 0] 41)))
  have R0 := hide (FlAt.newAt (w.alloc (.cells #[.string nm, .int .i64 p, .int .i64 l, .slice av vs.length cv] 41)) (w.heap.size + 1) (by simp) ⟨#[]⟩ 0 0 (.slice none 0 0))
  have B0 := hide (((Below.refl w.heap.size w).alloc (Nat.le_refl _) (.cells #[.string nm, .int .i64 p, .int .i64 l, .slice av vs.length cv] 41)).alloc (by simp) (.cells #[.string ⟨#[]⟩, .int .i64 0, .int .i64 0, .slice none 0 0] 41))
  generalize (w.alloc (.cells #[.string nm, .int .i64 p, .int .i64 l, .slice av vs.length cv] 41)).alloc (.cells #[.string ⟨#[]⟩, .int .i64 0, .int .i64 0, .slice none 0 0] 41) = W at *
  obtain ⟨b, off, rfl, hnews⟩ := vis_news (HV.out.later B0.out) h1
  have HN := hide hnews
  have hRW := R0.out.lt
  clear hnews
  obtain ⟨c0, c1, c2, c3, z0, z1, z2, z3⟩ := F0.out.cells
  have e3 : (W.alloc (.cells #[] 89)).cell? ⟨w.heap.size, 3, none⟩ = some (.slice (some ⟨b, off, none⟩) vs.length cv) := cell_later ((Below.refl _ _).alloc (Nat.le_refl _) _) c3
  have n3 : ¬ w.heap.size = W.heap.size := by omega
  have hnF : ¬ (some W.heap.size = some w.heap.size) := by simp; omega
  have hnR : ¬ (some W.heap.size = some (w.heap.size + 1)) := by simp; omega
  have n4 : ¬ W.heap.size = w.heap.size := by omega
  go_upto_region 2 with (first
    | (at_builtin; refine wpList_append_lies _ rfl _ _ 39 rfl W.heap.size 89 i0 (.agg #[.string ⟨#[]⟩, .int .i64 0, .int .i64 0]) 3 32 Tryz.underlying39 hi iz0 iz1 iz2 rfl (by decide) _ 0 [] rfl (own_emptyV W) ⟨b, off, none⟩ vs.length cv (visVals vs) rfl (visVals_len vs) (fun j u hj => cell_later ((Below.refl _ _).alloc (Nat.le_refl _) _) (HN.out j u hj)) (visVals_one vs) (by omega) (by unfold maxLen; omega) (by omega) (by simp) (W.heap.size + 1) (by simp) ?_; intro g cp wE hownE hgrowE hatE hltE; have FE := hide (F0.out.grown hgrowE (fun hh => hnF (show some W.heap.size = some w.heap.size from hh))); have RE := hide (R0.out.grown hgrowE (fun hh => hnR (show some W.heap.size = some (w.heap.size + 1) from hh))); have d0 := FE.out.cells.1; have d1 := FE.out.cells.2.1; have d2 := FE.out.cells.2.2.1; have d3 := FE.out.cells.2.2.2.1; have y3 := FE.out.cells.2.2.2.2.2.2.2))
  have hgF : g ≠ w.heap.size := by
    rcases hatE with he | he
    · have he2 : some W.heap.size = some g := he
      simp at he2; omega
    · omega
  have hgR : g ≠ w.heap.size + 1 := by
    rcases hatE with he | he
    · have he2 : some W.heap.size = some g := he
      simp at he2; omega
    · omega
  have hgb : W.heap.size ≤ g := by
    rcases hatE with he | he
    · have he2 : some W.heap.size = some g := he
      simp at he2; omega
    · omega
  have FX := hide (FE.out.setVis (.slice (some ⟨g, 0, none⟩) vs.length cp))
  have RX := hide (RE.out.keep (w' := wE.setCell ⟨w.heap.size, 3, none⟩ (.slice (some ⟨g, 0, none⟩) vs.length cp)) (Below.heap_setCell _ _ _ _ (by show w.heap.size + 1 ≠ w.heap.size; omega)))
  have hs0 := B0.out.size
  have hown2 : World.ownsRow wE W.heap.size 89 3 (.slice (some ⟨g, 0, none⟩) vs.length cp) vs.length (visVals vs) := by simpa using hownE
  have OX := hide (owns_base (owns_keep (w' := wE.setCell ⟨w.heap.size, 3, none⟩ (.slice (some ⟨g, 0, none⟩) vs.length cp)) hown2 (fun q hq => Below.heap_setCell _ _ _ _ (by simp [Value.ownBlock] at hq; show q ≠ w.heap.size; omega))) hs0)
  have BX := hide (below_set (B0.out.trans (below_grow (a := w) (w := W) hs0 hgrowE (fun q hq => by have he2 : some W.heap.size = some q := hq; simp at he2; omega))) w.heap.size 3 (Nat.le_refl _) (.slice (some ⟨g, 0, none⟩) vs.length cp))
  clear hownE hgrowE hatE hltE FE RE d0 d1 d2 d3 y3 c0 c1 c2 c3 z0 z1 z2 z3 e3 n3 n4 hnF hnR HN F0 R0 hown2
  generalize wE.setCell ⟨w.heap.size, 3, none⟩ (.slice (some ⟨g, 0, none⟩) vs.length cp) = X at *
  obtain ⟨f0, f1, f2, f3, _⟩ := FX.out.cells
  obtain ⟨k0, k1, k2, k3, g0, g1, g2, g3⟩ := RX.out.cells
  have B9 := hide (below_set (below_set (below_set (below_set (Below.refl w.heap.size X) (w.heap.size + 1) 0 (by omega) (.string nm)) (w.heap.size + 1) 1 (by omega) (.int .i64 p)) (w.heap.size + 1) 2 (by omega) (.int .i64 l)) (w.heap.size + 1) 3 (by omega) (.slice (some ⟨g, 0, none⟩) vs.length cp))
  have KP : Hid (∀ q, q ≠ w.heap.size + 1 → (((((X).setCell ⟨w.heap.size + 1, 0, none⟩ (.string nm)).setCell ⟨w.heap.size + 1, 1, none⟩ (.int .i64 p)).setCell ⟨w.heap.size + 1, 2, none⟩ (.int .i64 l)).setCell ⟨w.heap.size + 1, 3, none⟩ (.slice (some ⟨g, 0, none⟩) vs.length cp)).heap[q]? = (X).heap[q]?) := fun q hq => by
    rw [Below.heap_setCell _ _ _ _ (by exact hq), Below.heap_setCell _ _ _ _ (by exact hq), Below.heap_setCell _ _ _ _ (by exact hq), Below.heap_setCell _ _ _ _ (by exact hq)]
  have Y9 := (((RX.out.setName nm).setPlan p).setLate l).setVis (.slice (some ⟨g, 0, none⟩) vs.length cp)
  have Z0 := hide Y9.cells.1
  have Z1 := hide Y9.cells.2.1
  have Z2 := hide Y9.cells.2.2.1
  have Z3 := hide Y9.cells.2.2.2.1
  clear Y9
  go_wp2
  generalize ((((X).setCell ⟨w.heap.size + 1, 0, none⟩ (.string nm)).setCell ⟨w.heap.size + 1, 1, none⟩ (.int .i64 p)).setCell ⟨w.heap.size + 1, 2, none⟩ (.int .i64 l)).setCell ⟨w.heap.size + 1, 3, none⟩ (.slice (some ⟨g, 0, none⟩) vs.length cp) = Y at *
  have y0 := Z0.out
  have y1 := Z1.out
  have y2 := Z2.out
  have y3 := Z3.out
  exact bodyPost_ret (v := .agg #[.string nm, .int .i64 p, .int .i64 l, .slice (some ⟨g, 0, none⟩) vs.length cp]) (by simp [results, Tryz.results26, go_sem, y0, y1, y2, y3]) rfl ⟨g, cp, rfl, owns_keep OX.out (fun q hq => KP.out q (by simp [Value.ownBlock] at hq; omega)), BX.out.trans B9.out⟩

end Go.Proofs.YtciacofibljmoabGreatDoor

/- A flight is spoilt. -/
namespace Go.Proofs.YtciacofibljmoabGreatDoor
open Go.RowKit

attribute [local go_sem ↓] Go.wp_at_zero Go.wp_at_succ

theorem visVals_set1 : ∀ (vs : List Vis) (k : Nat) (hk : k < vs.length) (z : Int), (visVals vs).set (k * 3 + 1) (.int .i64 z) = visVals (vs.set k (vs[k].1, z, vs[k].2.2))
  | [], k, hk, _ => by simp at hk
  | c :: cs, 0, _, z => by simp [visVals]
  | c :: cs, k + 1, hk, z => by
    have ih := visVals_set1 cs k (by simpa using hk) z
    rw [show (k + 1) * 3 + 1 = k * 3 + 1 + 1 + 1 + 1 by omega]
    simpa [visVals] using ih
theorem visVals_set2 : ∀ (vs : List Vis) (k : Nat) (hk : k < vs.length) (z : Int), (visVals vs).set (k * 3 + 2) (.int .i64 z) = visVals (vs.set k (vs[k].1, vs[k].2.1, z))
  | [], k, hk, _ => by simp at hk
  | c :: cs, 0, _, z => by simp [visVals]
  | c :: cs, k + 1, hk, z => by
    have ih := visVals_set2 cs k (by simpa using hk) z
    rw [show (k + 1) * 3 + 2 = k * 3 + 2 + 1 + 1 + 1 by omega]
    simpa [visVals] using ih
theorem own_set1 {w : World} {base g cp : Nat} {vs : List Vis} (h : OwnV w base (.slice (some ⟨g, 0, none⟩) vs.length cp) vs) {k : Nat} (hk : k < vs.length) (z : Int) :
    OwnV (w.setCell ⟨g, k * 3 + 1, none⟩ (.int .i64 z)) base (.slice (some ⟨g, 0, none⟩) vs.length cp) (vs.set k (vs[k].1, z, vs[k].2.2)) := by
  have hs := (World.ownsRow.stored h (k * 3 + 1) (.int .i64 z)).1
  rw [visVals_set1 vs k hk z] at hs
  unfold OwnV
  rw [List.length_set]
  exact hs
theorem own_set2 {w : World} {base g cp : Nat} {vs : List Vis} (h : OwnV w base (.slice (some ⟨g, 0, none⟩) vs.length cp) vs) {k : Nat} (hk : k < vs.length) (z : Int) :
    OwnV (w.setCell ⟨g, k * 3 + 2, none⟩ (.int .i64 z)) base (.slice (some ⟨g, 0, none⟩) vs.length cp) (vs.set k (vs[k].1, vs[k].2.1, z)) := by
  have hs := (World.ownsRow.stored h (k * 3 + 2) (.int .i64 z)).1
  rw [visVals_set2 vs k hk z] at hs
  unfold OwnV
  rw [List.length_set]
  exact hs
theorem VisSm.set {m : Nat} {vs : List Vis} (h : VisSm m vs) {k : Nat} (hk : k < vs.length) (a b : Int) : VisSm m (vs.set k (vs[k].1, a, b)) := by
  obtain ⟨h1, h2⟩ := h
  refine ⟨by simpa using h1, fun v hv => ?_⟩
  rcases List.mem_or_eq_of_mem_set hv with hv | rfl
  · exact h2 v hv
  · exact h2 vs[k] (List.getElem_mem hk)
theorem VisSm.mono {m n : Nat} {vs : List Vis} (h : VisSm m vs) (hn : m ≤ n) : VisSm n vs := ⟨Nat.le_trans h.1 hn, h.2⟩
/-- A number of a list that was just laid. -/
theorem ints_new (w : World) (t : TypeId) (zs : List Int) (c : Array Value) (hc : c = (zs.map (Value.int .i64)).toArray) (j : Nat) (hj : j < zs.length) : (w.alloc (.cells c t)).cell? ⟨w.heap.size, j, none⟩ = some (.int .i64 zs[j]) := by
  subst hc
  simp [hj]
theorem ints_ex (w : World) (t : TypeId) (zs : List Int) (c : Array Value) (hc : c = (zs.map (Value.int .i64)).toArray) (j : Nat) (hj : j < zs.length) : ∃ z : Int, (w.alloc (.cells c t)).cell? ⟨w.heap.size, j, none⟩ = some (.int .i64 z) := ⟨_, ints_new w t zs c hc j hj⟩
theorem OwnV.visits {w : World} {base : Nat} {a : Option Addr} {n c : Nat} {vs : List Vis} (h : OwnV w base (.slice a n c) vs) : VisitsIn w a vs ∧ ∀ p, a = some p → base ≤ p.block := by
  obtain ⟨a', c', e, _, _, h1, h2⟩ := OwnV.form h
  simp at e
  obtain ⟨rfl, _, _⟩ := e
  exact ⟨h1, fun p hp => (h2 p hp).2.1⟩
theorem own_cell {w : World} {base g n c : Nat} {vs : List Vis} (h : OwnV w base (.slice (some ⟨g, 0, none⟩) n c) vs) {k : Nat} (hk : k < vs.length) :
    (w.cell? ⟨g, k * 3 + 1, none⟩ = some (.int .i64 vs[k].2.1) ∧ w.frozen? ⟨g, k * 3 + 1, none⟩ = false) ∧ (w.cell? ⟨g, k * 3 + 2, none⟩ = some (.int .i64 vs[k].2.2) ∧ w.frozen? ⟨g, k * 3 + 2, none⟩ = false) := by
  obtain ⟨a', c', e, _, _, _, hc⟩ := owns_slice h
  simp at e
  obtain ⟨rfl, _, _⟩ := e
  obtain ⟨_, q1, q2⟩ := visVals_at vs k hk
  obtain ⟨g1, e1, _, _, r1, s1⟩ := hc _ _ q1
  obtain ⟨g2, e2, _, _, r2, s2⟩ := hc _ _ q2
  simp at e1 e2
  subst e1
  subst e2
  exact ⟨⟨r1, s1⟩, r2, s2⟩
theorem cell_other {w : World} {F g i j : Nat} {v u : Value} (hne : F ≠ g) (h : w.cell? ⟨F, i, none⟩ = some v) : (w.setCell ⟨g, j, none⟩ u).cell? ⟨F, i, none⟩ = some v :=
  (World.cell?_of_block (w := w) (a := ⟨F, i, none⟩) (Below.heap_setCell w ⟨g, j, none⟩ u F hne)).trans h
def spoilNams : List ByteArray := [⟨#[]⟩, ⟨#[65]⟩, ⟨#[122, 122]⟩, ⟨#[97, 49]⟩]
theorem spoilNams_size : ∀ s ∈ spoilNams, s.size ≤ 8 := by decide
theorem late_bd : ∀ z ∈ ([-1, 60, 61] : List Int), -1 ≤ z ∧ z ≤ 61 := by decide
theorem vis_take {w : World} {a : Option Addr} {vs : List Vis} (h : VisitsIn w a vs) (k : Nat) : VisitsIn w a (vs.take k) := fun i hi => by
  have hi' : i < vs.length := by simp at hi; omega
  obtain ⟨b, off, e, h1, h2⟩ := h i hi'
  refine ⟨b, off, e, h1, ?_⟩
  rw [List.getElem_take]
  exact h2

end Go.Proofs.YtciacofibljmoabGreatDoor

/- Flights are drawn. -/
namespace Go.Proofs.YtciacofibljmoabGreatDoor
open Go.RowKit

/-- A flight and where its visits lie. -/
abbrev FlV := Fli × Option Addr × Nat
def flVals (gs : List FlV) : List Value := gs.flatMap fun x => [.string x.1.1, .int .i64 x.1.2.1, .int .i64 x.1.2.2.1, .slice x.2.1 x.1.2.2.2.length x.2.2]
theorem flVals_snoc (gs : List FlV) (x : FlV) : flVals (gs ++ [x]) = flVals gs ++ [.string x.1.1, .int .i64 x.1.2.1, .int .i64 x.1.2.2.1, .slice x.2.1 x.1.2.2.2.length x.2.2] := by simp [flVals]
theorem flVals_at : ∀ (gs : List FlV) (i : Nat) (hi : i < gs.length), (flVals gs)[i * 4]? = some (.string gs[i].1.1) ∧ (flVals gs)[i * 4 + 1]? = some (.int .i64 gs[i].1.2.1) ∧ (flVals gs)[i * 4 + 2]? = some (.int .i64 gs[i].1.2.2.1) ∧ (flVals gs)[i * 4 + 3]? = some (.slice gs[i].2.1 gs[i].1.2.2.2.length gs[i].2.2)
  | [], i, hi => by simp at hi
  | c :: cs, 0, _ => by simp [flVals]
  | c :: cs, i + 1, hi => by
    have ih := flVals_at cs i (by simpa using hi)
    rw [show (i + 1) * 4 = i * 4 + 1 + 1 + 1 + 1 by omega]
    simpa [flVals] using ih
/-- The visits of a flight, apart from the row that bears it. -/
def FlOk (w : World) (base : Nat) (v : Value) (x : FlV) : Prop := VisitsIn w x.2.1 x.1.2.2.2 ∧ ∀ p, x.2.1 = some p → base ≤ p.block ∧ v.ownBlock ≠ some p.block
def OwnF (w : World) (base : Nat) (v : Value) (gs : List FlV) : Prop := w.ownsRow base 41 4 v gs.length (flVals gs) ∧ ∀ x ∈ gs, FlOk w base v x
/-- How great a drawn flight may be. -/
def FlSm (m : Nat) (f : Fli) : Prop := f.1.size ≤ 8 ∧ -1 ≤ f.2.2.1 ∧ f.2.2.1 ≤ 61 ∧ VisSm m f.2.2.2
theorem VisitsIn.touch {w w' : World} {a : Option Addr} {vs : List Vis} {lo hi : Nat} (h : VisitsIn w a vs) (ht : Touch lo hi w w') (ho : ∀ p, a = some p → hi ≤ p.block) : VisitsIn w' a vs := fun i hi' => by
  obtain ⟨b, off, e, hlt, h0, h1, h2⟩ := h i hi'
  have hb := ho _ e
  exact ⟨b, off, e, Nat.lt_of_lt_of_le hlt ht.size, cell_touch ht h0 (.inr hb), cell_touch ht h1 (.inr hb), cell_touch ht h2 (.inr hb)⟩
theorem OwnF.touch {w w' : World} {base lo hi : Nat} {v : Value} {gs : List FlV} (h : OwnF w base v gs) (ht : Touch lo hi w w') (hb : hi ≤ base) : OwnF w' base v gs :=
  ⟨owns_touch h.1 ht hb, fun x hx => ⟨(h.2 x hx).1.touch ht (fun p hp => Nat.le_trans hb ((h.2 x hx).2 p hp).1), (h.2 x hx).2⟩⟩
theorem OwnF.later {w w' : World} {base : Nat} {v : Value} {gs : List FlV} (h : OwnF w base v gs) (hb : Below w.heap.size w w') : OwnF w' base v gs :=
  ⟨owns_later h.1 hb, fun x hx => ⟨(h.2 x hx).1.later hb, (h.2 x hx).2⟩⟩
theorem OwnF.base {w : World} {base base' : Nat} {v : Value} {gs : List FlV} (h : OwnF w base v gs) (hb : base' ≤ base) : OwnF w base' v gs :=
  ⟨owns_base h.1 hb, fun x hx => ⟨(h.2 x hx).1, fun p hp => ⟨Nat.le_trans hb ((h.2 x hx).2 p hp).1, ((h.2 x hx).2 p hp).2⟩⟩⟩
theorem OwnF.form {w : World} {base : Nat} {v : Value} {gs : List FlV} (h : OwnF w base v gs) : ∃ a cap, v = .slice a (gs.map Prod.fst).length cap ∧ gs.length ≤ cap ∧ FlightsIn w a (gs.map Prod.fst) ∧ (∀ p, a = some p → p = ⟨p.block, 0, none⟩ ∧ base ≤ p.block ∧ p.block < w.heap.size) := by
  obtain ⟨a, cap, h1, h2, h3, h4, h5⟩ := owns_slice h.1
  refine ⟨a, cap, by rw [List.length_map]; exact h1, h2, fun i hi => ?_, h4⟩
  have hi' : i < gs.length := by simpa using hi
  obtain ⟨q0, q1, q2, q3⟩ := flVals_at gs i hi'
  obtain ⟨g, e1, e2, e3, e4, _⟩ := h5 _ _ q0
  obtain ⟨g', e1', _, _, e4', _⟩ := h5 _ _ q1
  obtain ⟨g'', e1'', _, _, e4'', _⟩ := h5 _ _ q2
  obtain ⟨g3, e13, _, _, e43, _⟩ := h5 _ _ q3
  rw [e1] at e1' e1'' e13
  simp at e1' e1'' e13
  subst e1'
  subst e1''
  subst e13
  have hm := (h.2 _ (List.getElem_mem hi')).1
  refine ⟨g, 0, e1, e3, ?_⟩
  rw [List.getElem_map]
  exact ⟨by rw [Nat.zero_add]; exact e4, by rw [Nat.zero_add]; exact e4', by rw [Nat.zero_add]; exact e4'', _, _, by rw [Nat.zero_add]; exact e43, hm⟩
theorem VisitsIn.grown {w w' : World} {o : Obj} {row : Option Nat} {a : Option Addr} {vs : List Vis} (h : VisitsIn w a vs) (hg : (w.alloc o).grownBy w' row) (hne : ∀ p, a = some p → row ≠ some p.block) : VisitsIn w' a vs := fun i hi => by
  obtain ⟨b, off, e, hlt, h0, h1, h2⟩ := (h.later ((Below.refl _ _).alloc (Nat.le_refl _) o)) i hi
  have hb := hne _ e
  exact ⟨b, off, e, Nat.lt_of_lt_of_le hlt hg.size, World.grownBy.cell hg h0 (fun hh => hb hh.symm), World.grownBy.cell hg h1 (fun hh => hb hh.symm), World.grownBy.cell hg h2 (fun hh => hb hh.symm)⟩
theorem vis_lt {w : World} {a : Option Addr} {vs : List Vis} (h : VisitsIn w a vs) (h1 : 1 ≤ vs.length) {p : Addr} (hp : a = some p) : p.block < w.heap.size := by
  obtain ⟨b, off, e, hlt, _⟩ := h 0 (by omega)
  rw [hp] at e
  simp at e
  rw [e]
  exact hlt
theorem cell_four_new (w : World) (a b c d : Value) (t : TypeId) : ∀ j u, [a, b, c, d][j]? = some u → (w.alloc (.cells #[a, b, c, d] t)).cell? ((⟨w.heap.size, 0, none⟩ : Addr).add j) = some u := by
  intro j u hj
  rw [plain_add]
  match j, hj with
  | 0, hj => simp at hj; subst hj; simp
  | 1, hj => simp at hj; subst hj; simp
  | 2, hj => simp at hj; subst hj; simp
  | 3, hj => simp at hj; subst hj; simp
theorem own_emptyF (w : World) : World.ownsRow (w.alloc (.cells #[] 41)) w.heap.size 41 4 (.slice (some ⟨w.heap.size, 0, none⟩) 0 0) 0 [] := World.ownsRow_made w #[] 0 (Nat.le_refl _) (Nat.zero_le _) (by simp)

end Go.Proofs.YtciacofibljmoabGreatDoor

/- Any flights are drawn. -/
namespace Go.Proofs.YtciacofibljmoabGreatDoor
open Go.RowKit

theorem flVals_set : ∀ (gs : List FlV) (k : Nat) (_ : k < gs.length) (x : FlV), ((((flVals gs).set (k * 4) (.string x.1.1)).set (k * 4 + 1) (.int .i64 x.1.2.1)).set (k * 4 + 2) (.int .i64 x.1.2.2.1)).set (k * 4 + 3) (.slice x.2.1 x.1.2.2.2.length x.2.2) = flVals (gs.set k x)
  | [], k, hk, _ => by simp at hk
  | c :: cs, 0, _, z => by simp [flVals]
  | c :: cs, k + 1, hk, z => by
    have ih := flVals_set cs k (by simpa using hk) z
    rw [show (k + 1) * 4 = k * 4 + 1 + 1 + 1 + 1 by omega, show k * 4 + 1 + 1 + 1 + 1 + 1 = k * 4 + 1 + 1 + 1 + 1 + 1 by omega, show k * 4 + 1 + 1 + 1 + 1 + 2 = k * 4 + 2 + 1 + 1 + 1 + 1 by omega, show k * 4 + 1 + 1 + 1 + 1 + 3 = k * 4 + 3 + 1 + 1 + 1 + 1 by omega]
    simpa [flVals] using ih
theorem owns_set4 {w : World} {base g cp : Nat} {gs : List FlV} (h : World.ownsRow w base 41 4 (.slice (some ⟨g, 0, none⟩) gs.length cp) gs.length (flVals gs)) {k : Nat} (hk : k < gs.length) (x : FlV) :
    World.ownsRow ((((w.setCell ⟨g, k * 4, none⟩ (.string x.1.1)).setCell ⟨g, k * 4 + 1, none⟩ (.int .i64 x.1.2.1)).setCell ⟨g, k * 4 + 2, none⟩ (.int .i64 x.1.2.2.1)).setCell ⟨g, k * 4 + 3, none⟩ (.slice x.2.1 x.1.2.2.2.length x.2.2)) base 41 4 (.slice (some ⟨g, 0, none⟩) gs.length cp) gs.length (flVals (gs.set k x)) := by
  have h1 := (World.ownsRow.stored h (k * 4) (.string x.1.1)).1
  have h2 := (World.ownsRow.stored h1 (k * 4 + 1) (.int .i64 x.1.2.1)).1
  have h3 := (World.ownsRow.stored h2 (k * 4 + 2) (.int .i64 x.1.2.2.1)).1
  have h4 := (World.ownsRow.stored h3 (k * 4 + 3) (.slice x.2.1 x.1.2.2.2.length x.2.2)).1
  rw [flVals_set gs k hk x] at h4
  exact h4
theorem own_cells4 {w : World} {base g n c : Nat} {gs : List FlV} (h : World.ownsRow w base 41 4 (.slice (some ⟨g, 0, none⟩) n c) n (flVals gs)) {k : Nat} (hk : k < gs.length) :
    (w.cell? ⟨g, k * 4, none⟩ = some (.string gs[k].1.1) ∧ w.frozen? ⟨g, k * 4, none⟩ = false) ∧ (w.cell? ⟨g, k * 4 + 1, none⟩ = some (.int .i64 gs[k].1.2.1) ∧ w.frozen? ⟨g, k * 4 + 1, none⟩ = false) ∧ (w.cell? ⟨g, k * 4 + 2, none⟩ = some (.int .i64 gs[k].1.2.2.1) ∧ w.frozen? ⟨g, k * 4 + 2, none⟩ = false) ∧ (w.cell? ⟨g, k * 4 + 3, none⟩ = some (.slice gs[k].2.1 gs[k].1.2.2.2.length gs[k].2.2) ∧ w.frozen? ⟨g, k * 4 + 3, none⟩ = false) := by
  obtain ⟨a', c', e, _, _, _, hc⟩ := owns_slice h
  simp at e
  obtain ⟨rfl, _⟩ := e
  obtain ⟨q0, q1, q2, q3⟩ := flVals_at gs k hk
  obtain ⟨g0, e0, _, _, r0, s0⟩ := hc _ _ q0
  obtain ⟨g1, e1, _, _, r1, s1⟩ := hc _ _ q1
  obtain ⟨g2, e2, _, _, r2, s2⟩ := hc _ _ q2
  obtain ⟨g3, e3, _, _, r3, s3⟩ := hc _ _ q3
  simp at e0 e1 e2 e3
  subst e0
  subst e1
  subst e2
  subst e3
  exact ⟨⟨r0, s0⟩, ⟨r1, s1⟩, ⟨r2, s2⟩, r3, s3⟩
theorem FlSm.mono {m n : Nat} {f : Fli} (h : FlSm m f) (hn : m ≤ n) : FlSm n f := ⟨h.1, h.2.1, h.2.2.1, h.2.2.2.mono hn⟩

end Go.Proofs.YtciacofibljmoabGreatDoor

/- Caps are spoilt; any caps are drawn. -/
namespace Go.Proofs.YtciacofibljmoabGreatDoor
open Go.RowKit

theorem capVals_len (cs : List (ByteArray × Int)) : (capVals cs).length = cs.length * 2 := by
  induction cs with
  | nil => rfl
  | cons r l ih => simp only [capVals, List.flatMap_cons, List.length_append, List.length_cons, List.length_nil] at *; omega
theorem caps_news {w : World} {a : Option Addr} {cs : List (ByteArray × Int)} (h : CapsIn w a cs) (h1 : 1 ≤ cs.length) : ∃ b off, a = some ⟨b, off, none⟩ ∧ ∀ j u, (capVals cs)[j]? = some u → w.cell? ((⟨b, off, none⟩ : Addr).add j) = some u := by
  obtain ⟨b, off, e, hb, _⟩ := h 0 (by omega)
  refine ⟨b, off, e, fun j u hj => ?_⟩
  have hlt : j < (capVals cs).length := by
    rcases Nat.lt_or_ge j (capVals cs).length with hh | hh
    · exact hh
    · rw [List.getElem?_eq_none hh] at hj; simp at hj
  rw [capVals_len] at hlt
  have hi : j / 2 < cs.length := by omega
  obtain ⟨b', off', e', _, c0, c1⟩ := h (j / 2) hi
  rw [e] at e'
  simp at e'
  obtain ⟨rfl, rfl⟩ := e'
  obtain ⟨q0, q1⟩ := capVals_at cs (j / 2) hi
  have ha : (⟨b, off, none⟩ : Addr).add j = ⟨b, off + j, none⟩ := by
    by_cases hz : j = 0
    · subst hz; rfl
    · simp [Addr.add, hz]
  rw [ha]
  have hm : j % 2 = 0 ∨ j % 2 = 1 := by omega
  rcases hm with hm | hm
  · rw [show j / 2 * 2 = j by omega] at q0 c0
    rw [hj] at q0
    rw [c0, ← q0]
  · rw [show j / 2 * 2 + 1 = j by omega] at q1
    rw [show off + j / 2 * 2 + 1 = off + j by omega] at c1
    rw [hj] at q1
    rw [c1, ← q1]
theorem capVals_one (cs : List (ByteArray × Int)) : ∀ u ∈ capVals cs, u.oneCell' = true := fun u hu => by
  unfold capVals at hu
  obtain ⟨v, _, hv⟩ := List.mem_flatMap.1 hu
  simp at hv
  rcases hv with rfl | rfl <;> rfl
theorem capVals_set0 : ∀ (cs : List (ByteArray × Int)) (k : Nat) (hk : k < cs.length) (s : ByteArray), (capVals cs).set (k * 2) (.string s) = capVals (cs.set k (s, cs[k].2))
  | [], k, hk, _ => by simp at hk
  | c :: cs, 0, _, z => by simp [capVals]
  | c :: cs, k + 1, hk, z => by
    have ih := capVals_set0 cs k (by simpa using hk) z
    rw [show (k + 1) * 2 = k * 2 + 1 + 1 by omega]
    simpa [capVals] using ih
theorem capVals_set1 : ∀ (cs : List (ByteArray × Int)) (k : Nat) (hk : k < cs.length) (z : Int), (capVals cs).set (k * 2 + 1) (.int .i64 z) = capVals (cs.set k (cs[k].1, z))
  | [], k, hk, _ => by simp at hk
  | c :: cs, 0, _, z => by simp [capVals]
  | c :: cs, k + 1, hk, z => by
    have ih := capVals_set1 cs k (by simpa using hk) z
    rw [show (k + 1) * 2 + 1 = k * 2 + 1 + 1 + 1 by omega]
    simpa [capVals] using ih
theorem own_setC0 {w : World} {base g cp : Nat} {cs : List (ByteArray × Int)} (h : OwnC w base (.slice (some ⟨g, 0, none⟩) cs.length cp) cs) {k : Nat} (hk : k < cs.length) (s : ByteArray) :
    OwnC (w.setCell ⟨g, k * 2, none⟩ (.string s)) base (.slice (some ⟨g, 0, none⟩) cs.length cp) (cs.set k (s, cs[k].2)) := by
  have hs := (World.ownsRow.stored h (k * 2) (.string s)).1
  rw [capVals_set0 cs k hk s] at hs
  unfold OwnC
  rw [List.length_set]
  exact hs
theorem own_setC1 {w : World} {base g cp : Nat} {cs : List (ByteArray × Int)} (h : OwnC w base (.slice (some ⟨g, 0, none⟩) cs.length cp) cs) {k : Nat} (hk : k < cs.length) (z : Int) :
    OwnC (w.setCell ⟨g, k * 2 + 1, none⟩ (.int .i64 z)) base (.slice (some ⟨g, 0, none⟩) cs.length cp) (cs.set k (cs[k].1, z)) := by
  have hs := (World.ownsRow.stored h (k * 2 + 1) (.int .i64 z)).1
  rw [capVals_set1 cs k hk z] at hs
  unfold OwnC
  rw [List.length_set]
  exact hs
theorem own_cellsC {w : World} {base g n c : Nat} {cs : List (ByteArray × Int)} (h : OwnC w base (.slice (some ⟨g, 0, none⟩) n c) cs) {k : Nat} (hk : k < cs.length) :
    (w.cell? ⟨g, k * 2, none⟩ = some (.string cs[k].1) ∧ w.frozen? ⟨g, k * 2, none⟩ = false) ∧ (w.cell? ⟨g, k * 2 + 1, none⟩ = some (.int .i64 cs[k].2) ∧ w.frozen? ⟨g, k * 2 + 1, none⟩ = false) := by
  obtain ⟨a', c', e, _, _, _, hc⟩ := owns_slice h
  simp at e
  obtain ⟨rfl, _⟩ := e
  obtain ⟨q0, q1⟩ := capVals_at cs k hk
  obtain ⟨g0, e0, _, _, r0, s0⟩ := hc _ _ q0
  obtain ⟨g1, e1, _, _, r1, s1⟩ := hc _ _ q1
  simp at e0 e1
  subst e0
  subst e1
  exact ⟨⟨r0, s0⟩, r1, s1⟩
theorem CapsSm.set {m : Nat} {cs : List (ByteArray × Int)} (h : CapsSm m cs) (k : Nat) (c : ByteArray × Int) (hc : c.1.size ≤ 8) : CapsSm m (cs.set k c) := by
  obtain ⟨h1, h2⟩ := h
  refine ⟨by simpa using h1, fun v hv => ?_⟩
  rcases List.mem_or_eq_of_mem_set hv with hv | rfl
  · exact h2 v hv
  · exact hc
theorem CapsSm.snoc {m : Nat} {cs : List (ByteArray × Int)} (h : CapsSm m cs) (c : ByteArray × Int) (hc : c.1.size ≤ 8) : CapsSm (m + 1) (cs ++ [c]) := by
  obtain ⟨h1, h2⟩ := h
  refine ⟨by simp; omega, fun v hv => ?_⟩
  rcases List.mem_append.1 hv with hv | hv
  · exact h2 v hv
  · simp at hv; subst hv; exact hc
theorem CapsSm.mono {m n : Nat} {cs : List (ByteArray × Int)} (h : CapsSm m cs) (hn : m ≤ n) : CapsSm n cs := ⟨Nat.le_trans h.1 hn, h.2⟩
def spoilCaps : List ByteArray := [⟨#[]⟩, ⟨#[69]⟩, ⟨#[122, 122]⟩, ⟨#[101]⟩]
theorem spoilCaps_size : ∀ s ∈ spoilCaps, s.size ≤ 8 := by decide

end Go.Proofs.YtciacofibljmoabGreatDoor
