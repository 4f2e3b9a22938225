/- Marks in a book of the call's own: what is written stays, in each row by itself. -/
import Derived.Test.YtciacofibljmoaaGreatDoorMarkMore
namespace Go.Proofs.YtciacofibljmoaaGreatDoor
open Go.RowKit

/-- The one digit that the law puts ahead. -/
def digT (n : Nat) : ByteArray := ByteArray.empty.push (UInt8.ofNat (48 + n % 10))
def txF : Nat → Nat → ByteArray → ByteArray
  | 0, _, b => b
  | f + 1, n, b => if n = 0 then b else txF f (n / 10) (digT n ++ b)
theorem txF_fuel : ∀ (f n : Nat) (b : ByteArray), n ≤ f → txF (f + 1) n b = txF f n b
  | 0, n, b, h => by
    have : n = 0 := by omega
    subst this
    rfl
  | f + 1, n, b, h => by
    show (if n = 0 then b else txF (f + 1) (n / 10) (digT n ++ b)) = if n = 0 then b else txF f (n / 10) (digT n ++ b)
    by_cases h0 : n = 0
    · rw [if_pos h0, if_pos h0]
    · rw [if_neg h0, if_neg h0]
      exact txF_fuel f (n / 10) _ (by omega)
/-- A number's mark. -/
def markTx (k : Int) : ByteArray := "m".toUTF8 ++ txF k.toNat k.toNat ByteArray.empty

theorem conv1T (W : World) (x : Int) (n : Nat) (hx : x = 48 + (n : Int) % 10) : (convert 22 9 (.slice (some ⟨W.heap.size, 0, none⟩) 1 1)).run Tryz.prog (W.alloc (.cells #[.int .u8 x] 5)) = .ok (.string (digT n)) (W.alloc (.cells #[.int .u8 x] 5)) := by
  have e : digT n = ByteArray.empty.push (UInt8.ofNat x.toNat) := by
    unfold digT
    have : x.toNat = 48 + n % 10 := by omega
    rw [this]
  rw [e, run_convert_bytes_string _ _ _ 5 _ _ _ Tryz.underlying22 Tryz.underlying5 Tryz.underlying9, run_bytesToString _ _ _ _ [x]]
  · rfl
  · simp [loadCells, go_sem]

/-- Blocks apart from a set stand as they were. -/
structure TouchS (S : Nat → Prop) (w w' : World) : Prop where
  os : w'.os = w.os
  tape : w'.tape = w.tape
  output : w'.output = w.output
  size : w.heap.size ≤ w'.heap.size
  block : ∀ k, k < w.heap.size → ¬ S k → w'.heap[k]? = w.heap[k]?
theorem touchS_refl (S : Nat → Prop) (w : World) : TouchS S w w := ⟨rfl, rfl, rfl, Nat.le_refl _, fun _ _ _ => rfl⟩
theorem touchS_trans {S : Nat → Prop} {a b c : World} (h : TouchS S a b) (k : TouchS S b c) : TouchS S a c :=
  ⟨k.os.trans h.os, k.tape.trans h.tape, k.output.trans h.output, Nat.le_trans h.size k.size, fun i hi hn => (k.block i (Nat.lt_of_lt_of_le hi h.size) hn).trans (h.block i hi hn)⟩
theorem touchS_mono {S T : Nat → Prop} {a b : World} (h : TouchS S a b) (hs : ∀ k, S k → T k) : TouchS T a b := ⟨h.os, h.tape, h.output, h.size, fun i hi hn => h.block i hi fun hh => hn (hs i hh)⟩
theorem touchS_below {S : Nat → Prop} {w w' : World} (h : Below w.heap.size w w') : TouchS S w w' := ⟨h.os, h.tape, h.output, h.size, fun k hk _ => h.block k hk⟩
theorem touchS_set {S : Nat → Prop} {a w : World} (h : TouchS S a w) {p : Addr} (h1 : S p.block) (u : Value) : TouchS S a (w.setCell p u) := by
  have := touch_set (touch_refl p.block (p.block + 1) w) (p := p) (Nat.le_refl _) (Nat.lt_succ_self _) u
  exact touchS_trans h ⟨this.os, this.tape, this.output, this.size, fun k hk hn => this.block k hk (by
    by_cases e : k = p.block
    · subst e; exact absurd h1 hn
    · omega)⟩
theorem touch_ofS {S : Nat → Prop} {w w' : World} {lo hi : Nat} (h : TouchS S w w') (hs : ∀ k, S k → lo ≤ k ∧ k < hi) : Touch lo hi w w' := ⟨h.os, h.tape, h.output, h.size, fun k hk ho => h.block k hk fun hh => by have := hs k hh; omega⟩
theorem row_touchS {S : Nat → Prop} {g : Nat} {w w' : World} {t : TypeId} {n : Nat} {f : Nat → Value} (h : w.rowIs g t n f) (ht : TouchS S w w') (ho : ¬ S g) : w'.rowIs g t n f := h.of_block (ht.block g h.lt ho)

/-- The block of an address. -/
def InA (a : Option Addr) (k : Nat) : Prop := ∃ p, a = some p ∧ p.block = k
/-- The block of a row that is not empty. -/
def InN (n : Nat) (a : Option Addr) (k : Nat) : Prop := n ≠ 0 ∧ InA a k
/-- A row that can be written. -/
def RowW (w : World) (t : TypeId) (sz : Nat) (a : Option Addr) (n c : Nat) : Prop := n = 0 ∨ ∃ g f, a = some ⟨g, 0, none⟩ ∧ w.rowIs g t (c * sz) f ∧ n ≤ c
theorem rowW_touch {S : Nat → Prop} {w w' : World} {t : TypeId} {sz : Nat} {a : Option Addr} {n c : Nat} (h : RowW w t sz a n c) (ht : TouchS S w w') (ho : ∀ k, InN n a k → ¬ S k) : RowW w' t sz a n c := by
  by_cases h0 : n = 0
  · exact .inl h0
  rcases h with h | ⟨g, f, e, hr, hn⟩
  · exact .inl h
  · exact .inr ⟨g, f, e, row_touchS hr ht (ho g ⟨h0, _, e, rfl⟩), hn⟩
/-- A row that bears marks from a number on, as a rule says. -/
def Held (w : World) (t : TypeId) (sz : Nat) (m : Nat → Value) (a : Option Addr) (n c : Nat) : Prop := n = 0 ∨ ∃ g f, a = some ⟨g, 0, none⟩ ∧ w.rowIs g t (c * sz) f ∧ n ≤ c ∧ ∀ q, q < n * sz → f q = m q
theorem held_touch {S : Nat → Prop} {w w' : World} {t : TypeId} {sz : Nat} {m : Nat → Value} {a : Option Addr} {n c : Nat} (h : Held w t sz m a n c) (ht : TouchS S w w') (ho : ∀ k, InN n a k → ¬ S k) : Held w' t sz m a n c := by
  by_cases h0 : n = 0
  · exact .inl h0
  rcases h with h | ⟨g, f, e, hr, hn, hm⟩
  · exact .inl h
  · exact .inr ⟨g, f, e, row_touchS hr ht (ho g ⟨h0, _, e, rfl⟩), hn, hm⟩
theorem held_later {w w' : World} {t : TypeId} {sz : Nat} {m : Nat → Value} {a : Option Addr} {n c : Nat} (h : Held w t sz m a n c) (hb : Below w.heap.size w w') : Held w' t sz m a n c :=
  held_touch h (touchS_below (S := fun _ => False) hb) (fun _ _ h => h)
theorem held_row {w : World} {t : TypeId} {sz : Nat} {m : Nat → Value} {a : Option Addr} {n c : Nat} (h : Held w t sz m a n c) : RowW w t sz a n c := by
  rcases h with h | ⟨g, f, e, hr, hn, hm⟩
  · exact .inl h
  · exact .inr ⟨g, f, e, hr, hn⟩

theorem touchN_set {n g : Nat} {a w : World} (h : TouchS (InN n (some ⟨g, 0, none⟩)) a w) (hn : n ≠ 0) (i : Nat) (u : Value) : TouchS (InN n (some ⟨g, 0, none⟩)) a (w.setCell ⟨g, i, none⟩ u) := touchS_set h (p := ⟨g, i, none⟩) ⟨hn, _, rfl, rfl⟩ u
def mI (k : Int) (q : Nat) : Value := .int .i64 (k + (q : Int))
def mC (k : Int) (q : Nat) : Value := if q % 2 = 0 then .string (markTx (k + (q : Int))) else .int .i64 (k + (q : Int))
def mV (k : Int) (q : Nat) : Value := if q % 3 = 0 then .string (markTx (k + (q : Int))) else .int .i64 (k + (q : Int))

/-- Where the visits of the flights of a row lie: address, length, room. -/
abbrev VisAt := Option Addr × Nat × Nat
/-- The number with which the marks of flight j begin. -/
def kAt (k : Int) (va : List VisAt) (j : Nat) : Int := k + ((va.take j).map fun x => 3 + 3 * (x.2.1 : Int)).sum
theorem kAt_succ (k : Int) (va : List VisAt) {j : Nat} (hj : j < va.length) : kAt k va (j + 1) = kAt k va j + 3 + 3 * (va[j].2.1 : Int) := by
  unfold kAt
  rw [List.take_succ_eq_append_getElem hj, List.map_append, List.sum_append]
  simp
  omega
theorem kAt_bd (k : Int) (va : List VisAt) (hv : ∀ x ∈ va, x.2.1 ≤ 1048576) : ∀ j, j ≤ va.length → k ≤ kAt k va j ∧ kAt k va j ≤ k + 3145731 * (j : Int)
  | 0, _ => by unfold kAt; simp
  | j + 1, hj => by
    have ih := kAt_bd k va hv j (by omega)
    have h := hv _ (List.getElem_mem (show j < va.length by omega))
    rw [kAt_succ k va (show j < va.length by omega)]
    omega
def InF (a : Option Addr) (va : List VisAt) (k : Nat) : Prop := InN va.length a k ∨ ∃ x ∈ va, InN x.2.1 x.1 k
/-- Each row apart from the others. -/
def ApartF (a : Option Addr) (va : List VisAt) : Prop := (∀ x ∈ va, ∀ k, InA a k → ¬ InN x.2.1 x.1 k) ∧ va.Pairwise fun x y => ∀ k, InN x.2.1 x.1 k → ¬ InN y.2.1 y.1 k
/-- Flights in rows that can be written. -/
def FlW (w : World) (a : Option Addr) (c : Nat) (va : List VisAt) : Prop :=
  va = [] ∨ ∃ g f, a = some ⟨g, 0, none⟩ ∧ w.rowIs g 32 (c * 4) f ∧ va.length ≤ c ∧ (∀ j (hj : j < va.length), f (j * 4 + 3) = .slice va[j].1 va[j].2.1 va[j].2.2) ∧ ∀ x ∈ va, RowW w 76 3 x.1 x.2.1 x.2.2
def mFl (k : Int) (va : List VisAt) (f : Nat → Value) (j : Nat) : Prop := f (j * 4) = .string (markTx (kAt k va j)) ∧ f (j * 4 + 1) = .int .i64 (kAt k va j + 1) ∧ f (j * 4 + 2) = .int .i64 (kAt k va j + 1 + 1)
def HeldF (w : World) (k : Int) (a : Option Addr) (c : Nat) (va : List VisAt) : Prop :=
  va = [] ∨ ∃ g f, a = some ⟨g, 0, none⟩ ∧ w.rowIs g 32 (c * 4) f ∧ va.length ≤ c ∧ (∀ j (hj : j < va.length), f (j * 4 + 3) = .slice va[j].1 va[j].2.1 va[j].2.2 ∧ mFl k va f j ∧ Held w 76 3 (mV (kAt k va j + 1 + 1 + 1)) va[j].1 va[j].2.1 va[j].2.2)
theorem heldF_touch {S : Nat → Prop} {w w' : World} {k : Int} {a : Option Addr} {c : Nat} {va : List VisAt} (h : HeldF w k a c va) (ht : TouchS S w w') (ho : ∀ q, InF a va q → ¬ S q) : HeldF w' k a c va := by
  by_cases h0 : va = []
  · exact .inl h0
  rcases h with h | ⟨g, f, e, hr, hn, hm⟩
  · exact .inl h
  · refine .inr ⟨g, f, e, row_touchS hr ht (ho g (.inl ⟨fun hh => h0 (List.length_eq_zero_iff.1 hh), _, e, rfl⟩)), hn, fun j hj => ?_⟩
    obtain ⟨h1, h2, h3⟩ := hm j hj
    exact ⟨h1, h2, held_touch h3 ht fun q hq => ho q (.inr ⟨_, List.getElem_mem hj, hq⟩)⟩
theorem heldF_later {w w' : World} {k : Int} {a : Option Addr} {c : Nat} {va : List VisAt} (h : HeldF w k a c va) (hb : Below w.heap.size w w') : HeldF w' k a c va :=
  heldF_touch h (touchS_below (S := fun _ => False) hb) (fun _ _ h => h)

/-- How far the marking of flights has come. -/
def FlTo (w : World) (k : Int) (g c : Nat) (va : List VisAt) (j : Nat) : Prop :=
  ∃ f, w.rowIs g 32 (c * 4) f ∧ (∀ i (hi : i < va.length), f (i * 4 + 3) = .slice va[i].1 va[i].2.1 va[i].2.2) ∧ (∀ x ∈ va, RowW w 76 3 x.1 x.2.1 x.2.2) ∧
    ∀ i (hi : i < va.length), i < j → mFl k va f i ∧ Held w 76 3 (mV (kAt k va i + 1 + 1 + 1)) va[i].1 va[i].2.1 va[i].2.2
theorem flTo_later {w w' : World} {k : Int} {g c : Nat} {va : List VisAt} {j : Nat} (h : FlTo w k g c va j) (hb : Below w.heap.size w w') : FlTo w' k g c va j := by
  obtain ⟨f, h1, h2, h3, h4⟩ := h
  have ht : TouchS (fun _ => False) w w' := touchS_below hb
  exact ⟨f, row_touchS h1 ht (fun h => h), h2, fun x hx => rowW_touch (h3 x hx) ht (fun _ _ h => h), fun i hi hj => ⟨(h4 i hi hj).1, held_touch (h4 i hi hj).2 ht (fun _ _ h => h)⟩⟩
/-- The three marks of a flight itself. -/
theorem flTo_set {w : World} {k : Int} {g c : Nat} {va : List VisAt} {j : Nat} (h : FlTo w k g c va j) (_hj : j < va.length) (hap : ApartF (some ⟨g, 0, none⟩) va) (v0 v1 v2 : Value) :
    ∃ f, (((w.setCell ⟨g, j * 4, none⟩ v0).setCell ⟨g, j * 4 + 1, none⟩ v1).setCell ⟨g, j * 4 + 2, none⟩ v2).rowIs g 32 (c * 4) f ∧ f (j * 4) = v0 ∧ f (j * 4 + 1) = v1 ∧ f (j * 4 + 2) = v2 ∧
      (∀ i (hi : i < va.length), f (i * 4 + 3) = .slice va[i].1 va[i].2.1 va[i].2.2) ∧ (∀ x ∈ va, RowW (((w.setCell ⟨g, j * 4, none⟩ v0).setCell ⟨g, j * 4 + 1, none⟩ v1).setCell ⟨g, j * 4 + 2, none⟩ v2) 76 3 x.1 x.2.1 x.2.2) ∧
      ∀ i (hi : i < va.length), i < j → mFl k va f i ∧ Held (((w.setCell ⟨g, j * 4, none⟩ v0).setCell ⟨g, j * 4 + 1, none⟩ v1).setCell ⟨g, j * 4 + 2, none⟩ v2) 76 3 (mV (kAt k va i + 1 + 1 + 1)) va[i].1 va[i].2.1 va[i].2.2 := by
  obtain ⟨f, h1, h2, h3, h4⟩ := h
  have ht : TouchS (InA (some ⟨g, 0, none⟩)) w (((w.setCell ⟨g, j * 4, none⟩ v0).setCell ⟨g, j * 4 + 1, none⟩ v1).setCell ⟨g, j * 4 + 2, none⟩ v2) := touchS_set (touchS_set (touchS_set (touchS_refl _ _) (p := ⟨g, j * 4, none⟩) ⟨_, rfl, rfl⟩ _) (p := ⟨g, j * 4 + 1, none⟩) ⟨_, rfl, rfl⟩ _) (p := ⟨g, j * 4 + 2, none⟩) ⟨_, rfl, rfl⟩ _
  have hr := ((h1.set (j * 4) v0).set (j * 4 + 1) v1).set (j * 4 + 2) v2
  refine ⟨_, hr, ?_, ?_, ?_, fun i hi => ?_, fun x hx => rowW_touch (h3 x hx) ht (fun q hq hq2 => hap.1 x hx q hq2 hq), fun i hi hij => ⟨?_, held_touch (h4 i hi hij).2 ht (fun q hq hq2 => hap.1 _ (List.getElem_mem hi) q hq2 hq)⟩⟩
  · rw [if_neg (by omega), if_neg (by omega), if_pos rfl]
  · rw [if_neg (by omega), if_pos rfl]
  · rw [if_pos rfl]
  · rw [if_neg (by omega), if_neg (by omega), if_neg (by omega)]; exact h2 i hi
  · obtain ⟨m1, m2, m3⟩ := (h4 i hi hij).1
    refine ⟨?_, ?_, ?_⟩
    · show (if _ = _ then _ else if _ = _ then _ else if _ = _ then _ else _) = _; rw [if_neg (by omega), if_neg (by omega), if_neg (by omega)]; exact m1
    · show (if _ = _ then _ else if _ = _ then _ else if _ = _ then _ else _) = _; rw [if_neg (by omega), if_neg (by omega), if_neg (by omega)]; exact m2
    · show (if _ = _ then _ else if _ = _ then _ else if _ = _ then _ else _) = _; rw [if_neg (by omega), if_neg (by omega), if_neg (by omega)]; exact m3

/-- The rows of a book that can be written, each apart from the others. -/
structure BkW (w : World) (ac a a' : Option Addr) (nc cc c ns cn : Nat) (va : List VisAt) : Prop where
  caps : RowW w 61 2 ac nc cc
  fl : FlW w a c va
  ints : RowW w 3 1 a' ns cn
  apF : ApartF a va
  cf : ∀ k, InN nc ac k → ¬ InF a va k
  ci : ∀ k, InN nc ac k → ¬ InN ns a' k
  fi : ∀ k, InF a va k → ¬ InN ns a' k
def InB (ac a a' : Option Addr) (nc ns : Nat) (va : List VisAt) (k : Nat) : Prop := InN nc ac k ∨ InF a va k ∨ InN ns a' k
theorem flW_touch {S : Nat → Prop} {w w' : World} {a : Option Addr} {c : Nat} {va : List VisAt} (h : FlW w a c va) (ht : TouchS S w w') (ho : ∀ q, InF a va q → ¬ S q) : FlW w' a c va := by
  by_cases h0 : va = []
  · exact .inl h0
  rcases h with h | ⟨g, f, e, hr, hn, hm, hx⟩
  · exact .inl h
  · exact .inr ⟨g, f, e, row_touchS hr ht (ho g (.inl ⟨fun hh => h0 (List.length_eq_zero_iff.1 hh), _, e, rfl⟩)), hn, hm, fun x hx' => rowW_touch (hx x hx') ht fun q hq => ho q (.inr ⟨x, hx', hq⟩)⟩
theorem rowW_lt {w : World} {t : TypeId} {sz : Nat} {a : Option Addr} {n c : Nat} (h : RowW w t sz a n c) {k : Nat} (hk : InN n a k) : k < w.heap.size := by
  rcases h with h | ⟨g, f, e, hr, _⟩
  · exact absurd h hk.1
  · obtain ⟨_, p, hp, rfl⟩ := hk
    rw [e] at hp
    cases hp
    exact hr.lt
theorem bkW_lt {w : World} {ac a a' : Option Addr} {nc cc c ns cn : Nat} {va : List VisAt} (h : BkW w ac a a' nc cc c ns cn va) : ∀ q, InB ac a a' nc ns va q → q < w.heap.size := by
  intro q hq
  rcases hq with hq | hq | hq
  · exact rowW_lt h.caps hq
  · rcases hq with hq | ⟨x, hx, hq⟩
    · rcases h.fl with h0 | ⟨g, f, e, hr, _⟩
      · rw [h0] at hq; exact absurd rfl hq.1
      · obtain ⟨_, p, hp, rfl⟩ := hq
        rw [e] at hp
        cases hp
        exact hr.lt
    · rcases h.fl with h0 | ⟨g, f, e, hr, _, _, hw⟩
      · rw [h0] at hx; simp at hx
      · exact rowW_lt (hw x hx) hq
  · exact rowW_lt h.ints hq
/-- Marks that a book bears. -/
structure BkHeld (w : World) (k : Int) (ac a a' : Option Addr) (nc cc c ns cn : Nat) (va : List VisAt) : Prop where
  caps : Held w 61 2 (mC k) ac nc cc
  fl : HeldF w (k + 2 * (nc : Int)) a c va
  ints : Held w 3 1 (mI (kAt (k + 2 * (nc : Int)) va va.length)) a' ns cn
theorem bkHeld_touch {S : Nat → Prop} {w w' : World} {k : Int} {ac a a' : Option Addr} {nc cc c ns cn : Nat} {va : List VisAt} (h : BkHeld w k ac a a' nc cc c ns cn va) (ht : TouchS S w w') (ho : ∀ q, InB ac a a' nc ns va q → ¬ S q) : BkHeld w' k ac a a' nc cc c ns cn va :=
  ⟨held_touch h.caps ht fun q hq => ho q (.inl hq), heldF_touch h.fl ht fun q hq => ho q (.inr (.inl hq)), held_touch h.ints ht fun q hq => ho q (.inr (.inr hq))⟩
theorem bkHeld_later {w w' : World} {k : Int} {ac a a' : Option Addr} {nc cc c ns cn : Nat} {va : List VisAt} (h : BkHeld w k ac a a' nc cc c ns cn va) (hb : Below w.heap.size w w') : BkHeld w' k ac a a' nc cc c ns cn va :=
  bkHeld_touch h (touchS_below (S := fun _ => False) hb) (fun _ _ h => h)

end Go.Proofs.YtciacofibljmoaaGreatDoor
