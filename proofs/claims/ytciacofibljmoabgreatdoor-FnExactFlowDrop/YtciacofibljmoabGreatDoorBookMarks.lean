/- Marks in a book of the call's own: what is written stays, in each row by itself. -/
import Derived.Test.YtciacofibljmoabGreatDoorMarkMore
namespace Go.Proofs.YtciacofibljmoabGreatDoor
open Go.RowKit

/-- The one digit that the law puts ahead. -/
def digT (n : Nat) : ByteArray := ByteArray.empty.push (UInt8.ofNat (48 + n % 10))
def txF : Nat → Nat → ByteArray → ByteArray
  | 0, _, b => b
  | f + 1, n, b => if n = 0 then b else txF f (n / 10) (digT n ++ b)
theorem txF_fuel : ∀ (f n : Nat) (b : ByteArray), n ≤ f → txF (f + 1) n b = txF f n b
  | 0, n, b, h => by
    have : n = 0 := by omega
    subst this
    rfl
  | f + 1, n, b, h => by
    show (if n = 0 then b else txF (f + 1) (n / 10) (digT n ++ b)) = if n = 0 then b else txF f (n / 10) (digT n ++ b)
    by_cases h0 : n = 0
    · rw [if_pos h0, if_pos h0]
    · rw [if_neg h0, if_neg h0]
      exact txF_fuel f (n / 10) _ (by omega)
/-- A number's mark. -/
def markTx (k : Int) : ByteArray := "m".toUTF8 ++ txF k.toNat k.toNat ByteArray.empty

theorem conv1T (W : World) (x : Int) (n : Nat) (hx : x = 48 + (n : Int) % 10) : (convert 126 9 (.slice (some ⟨W.heap.size, 0, none⟩) 1 1)).run Tryz.prog (W.alloc (.cells #[.int .u8 x] 5)) = .ok (.string (digT n)) (W.alloc (.cells #[.int .u8 x] 5)) := by
  have e : digT n = ByteArray.empty.push (UInt8.ofNat x.toNat) := by
    unfold digT
    have : x.toNat = 48 + n % 10 := by omega
    rw [this]
  rw [e, run_convert_bytes_string _ _ _ 5 _ _ _ Tryz.underlying126 Tryz.underlying5 Tryz.underlying9, run_bytesToString _ _ _ _ [x]]
  · rfl
  · simp [loadCells, go_sem]

set_option maxRecDepth 100000 in
set_option maxHeartbeats 1600000 in
theorem markText_is (k : Int) (w : World) (h0 : 1 ≤ k) (h1 : k ≤ 1000000000000000000) :
    Calls Tryz.prog 58 #[.int .i64 k] w fun e w' => e = .returned (.string (markTx k)) ∧ Below w.heap.size w w' := by
  have hp : ¬ k ≤ 0 := by omega
  go_enter Tryz.func58, Tryz.ntmps58
  go_wp2
  go_loopw [0, 3] (fun q s wr => ∃ (n : Nat) (b : ByteArray), n ≤ k.toNat ∧ (b.size : Int) + n ≤ 1000000000000000001 ∧ q = .int .i64 n ∧ s = .string b ∧ Hid (txF k.toNat n b = txF k.toNat k.toNat ByteArray.empty) ∧ Below w.heap.size w wr) (fun q _ _ => (RowKit.intOf q).toNat)
  case atStart => exact ⟨k.toNat, _, Nat.le_refl _, by show ((0 : Nat) : Int) + _ ≤ _; omega, by rw [Int.toNat_of_nonneg (by omega)], rfl, rfl, Below.refl _ _⟩
  case round =>
    obtain ⟨n, b, hn0, hn1, rfl, rfl, HX, hbw⟩ := hrel
    by_cases hlt : (0 : Int) < (n : Int)
    · have hcv := conv1T wr (48 + (n : Int) % 10) n rfl
      have HY : Hid (txF k.toNat (n / 10) (digT n ++ b) = txF k.toNat k.toNat ByteArray.empty) := by
        show _ = _
        rw [← HX.out]
        obtain ⟨K, hK⟩ : ∃ K, k.toNat = K + 1 := ⟨k.toNat - 1, by omega⟩
        rw [hK]
        show _ = if n = 0 then b else txF K (n / 10) (digT n ++ b)
        rw [if_neg (by omega)]
        exact txF_fuel K _ _ (by omega)
      have hsd : (digT n).size = 1 := rfl
      go_wp2
      go_roundw
      case rel => exact ⟨n / 10, digT n ++ b, by omega, by rw [ByteArray.size_append, hsd]; omega, by go_num, rfl, HY.out, hbw.alloc hbw.size _⟩
      case measure => simp [RowKit.intOf]; omega
    · go_wp2
      go_ret
      refine ⟨?_, hbw⟩
      have hn : n = 0 := by omega
      subst hn
      have : b = txF k.toNat k.toNat ByteArray.empty := by
        rw [← HX.out]
        cases k.toNat <;> rfl
      rw [this]
      rfl

/-- Blocks apart from a set stand as they were. -/
structure TouchS (S : Nat → Prop) (w w' : World) : Prop where
  os : w'.os = w.os
  tape : w'.tape = w.tape
  output : w'.output = w.output
  size : w.heap.size ≤ w'.heap.size
  block : ∀ k, k < w.heap.size → ¬ S k → w'.heap[k]? = w.heap[k]?
theorem touchS_refl (S : Nat → Prop) (w : World) : TouchS S w w := ⟨rfl, rfl, rfl, Nat.le_refl _, fun _ _ _ => rfl⟩
theorem touchS_trans {S : Nat → Prop} {a b c : World} (h : TouchS S a b) (k : TouchS S b c) : TouchS S a c :=
  ⟨k.os.trans h.os, k.tape.trans h.tape, k.output.trans h.output, Nat.le_trans h.size k.size, fun i hi hn => (k.block i (Nat.lt_of_lt_of_le hi h.size) hn).trans (h.block i hi hn)⟩
theorem touchS_mono {S T : Nat → Prop} {a b : World} (h : TouchS S a b) (hs : ∀ k, S k → T k) : TouchS T a b := ⟨h.os, h.tape, h.output, h.size, fun i hi hn => h.block i hi fun hh => hn (hs i hh)⟩
theorem touchS_below {S : Nat → Prop} {w w' : World} (h : Below w.heap.size w w') : TouchS S w w' := ⟨h.os, h.tape, h.output, h.size, fun k hk _ => h.block k hk⟩
theorem touchS_set {S : Nat → Prop} {a w : World} (h : TouchS S a w) {p : Addr} (h1 : S p.block) (u : Value) : TouchS S a (w.setCell p u) := by
  have := touch_set (touch_refl p.block (p.block + 1) w) (p := p) (Nat.le_refl _) (Nat.lt_succ_self _) u
  exact touchS_trans h ⟨this.os, this.tape, this.output, this.size, fun k hk hn => this.block k hk (by
    by_cases e : k = p.block
    · subst e; exact absurd h1 hn
    · omega)⟩
theorem touch_ofS {S : Nat → Prop} {w w' : World} {lo hi : Nat} (h : TouchS S w w') (hs : ∀ k, S k → lo ≤ k ∧ k < hi) : Touch lo hi w w' := ⟨h.os, h.tape, h.output, h.size, fun k hk ho => h.block k hk fun hh => by have := hs k hh; omega⟩
theorem row_touchS {S : Nat → Prop} {g : Nat} {w w' : World} {t : TypeId} {n : Nat} {f : Nat → Value} (h : w.rowIs g t n f) (ht : TouchS S w w') (ho : ¬ S g) : w'.rowIs g t n f := h.of_block (ht.block g h.lt ho)

/-- The block of an address. -/
def InA (a : Option Addr) (k : Nat) : Prop := ∃ p, a = some p ∧ p.block = k
/-- The block of a row that is not empty. -/
def InN (n : Nat) (a : Option Addr) (k : Nat) : Prop := n ≠ 0 ∧ InA a k
/-- A row that can be written. -/
def RowW (w : World) (t : TypeId) (sz : Nat) (a : Option Addr) (n c : Nat) : Prop := n = 0 ∨ ∃ g f, a = some ⟨g, 0, none⟩ ∧ w.rowIs g t (c * sz) f ∧ n ≤ c
theorem rowW_touch {S : Nat → Prop} {w w' : World} {t : TypeId} {sz : Nat} {a : Option Addr} {n c : Nat} (h : RowW w t sz a n c) (ht : TouchS S w w') (ho : ∀ k, InN n a k → ¬ S k) : RowW w' t sz a n c := by
  by_cases h0 : n = 0
  · exact .inl h0
  rcases h with h | ⟨g, f, e, hr, hn⟩
  · exact .inl h
  · exact .inr ⟨g, f, e, row_touchS hr ht (ho g ⟨h0, _, e, rfl⟩), hn⟩
/-- A row that bears marks from a number on, as a rule says. -/
def Held (w : World) (t : TypeId) (sz : Nat) (m : Nat → Value) (a : Option Addr) (n c : Nat) : Prop := n = 0 ∨ ∃ g f, a = some ⟨g, 0, none⟩ ∧ w.rowIs g t (c * sz) f ∧ n ≤ c ∧ ∀ q, q < n * sz → f q = m q
theorem held_touch {S : Nat → Prop} {w w' : World} {t : TypeId} {sz : Nat} {m : Nat → Value} {a : Option Addr} {n c : Nat} (h : Held w t sz m a n c) (ht : TouchS S w w') (ho : ∀ k, InN n a k → ¬ S k) : Held w' t sz m a n c := by
  by_cases h0 : n = 0
  · exact .inl h0
  rcases h with h | ⟨g, f, e, hr, hn, hm⟩
  · exact .inl h
  · exact .inr ⟨g, f, e, row_touchS hr ht (ho g ⟨h0, _, e, rfl⟩), hn, hm⟩
theorem held_later {w w' : World} {t : TypeId} {sz : Nat} {m : Nat → Value} {a : Option Addr} {n c : Nat} (h : Held w t sz m a n c) (hb : Below w.heap.size w w') : Held w' t sz m a n c :=
  held_touch h (touchS_below (S := fun _ => False) hb) (fun _ _ h => h)
theorem held_row {w : World} {t : TypeId} {sz : Nat} {m : Nat → Value} {a : Option Addr} {n c : Nat} (h : Held w t sz m a n c) : RowW w t sz a n c := by
  rcases h with h | ⟨g, f, e, hr, hn, hm⟩
  · exact .inl h
  · exact .inr ⟨g, f, e, hr, hn⟩

theorem touchN_set {n g : Nat} {a w : World} (h : TouchS (InN n (some ⟨g, 0, none⟩)) a w) (hn : n ≠ 0) (i : Nat) (u : Value) : TouchS (InN n (some ⟨g, 0, none⟩)) a (w.setCell ⟨g, i, none⟩ u) := touchS_set h (p := ⟨g, i, none⟩) ⟨hn, _, rfl, rfl⟩ u
theorem markText_val (k : Int) (tx : ByteArray) (h : markTx k = tx) (w : World) (h0 : 1 ≤ k) (h1 : k ≤ 1000000000000000000) :
    Calls Tryz.prog 58 #[.int .i64 k] w fun e w' => e = .returned (.string tx) ∧ Below w.heap.size w w' := by
  subst h
  exact markText_is k w h0 h1

def mI (k : Int) (q : Nat) : Value := .int .i64 (k + (q : Int))
def mC (k : Int) (q : Nat) : Value := if q % 2 = 0 then .string (markTx (k + (q : Int))) else .int .i64 (k + (q : Int))
def mV (k : Int) (q : Nat) : Value := if q % 3 = 0 then .string (markTx (k + (q : Int))) else .int .i64 (k + (q : Int))

set_option maxHeartbeats 800000 in
theorem markInts_is (a : Option Addr) (n c : Nat) (k : Int) (w : World) (hr : RowW w 3 1 a n c) (hn : n ≤ 1048576) (h0 : 1 ≤ k) (h1 : k ≤ 1000000000000000) :
    Calls Tryz.prog 39 #[.slice a n c, .int .i64 k] w fun e w' => e = .returned (.int .i64 (k + (n : Int))) ∧ Held w' 3 1 (mI k) a n c ∧ TouchS (InN n a) w w' := by
  rcases hr with rfl | ⟨g, f, rfl, hr, hN⟩
  · go_enter Tryz.func39, Tryz.ntmps39
    go_wp2
    go_loopw [1, 5] (fun q i wr => i = .int .i64 0 ∧ q = .int .i64 k ∧ wr = w) (fun _ _ _ => 0)
    case atStart => exact ⟨rfl, rfl, rfl⟩
    case round =>
      obtain ⟨rfl, rfl, rfl⟩ := hrel
      go_wp2
      go_ret
      exact ⟨by simp, .inl rfl, touchS_refl _ _⟩
  have HR : Hid (w.rowIs g 3 (c * 1) f) := hr
  clear hr
  go_enter Tryz.func39, Tryz.ntmps39
  go_wp2
  go_loopw [1, 5] (fun q i wr => ∃ (j : Nat) (f' : Nat → Value), j ≤ n ∧ i = .int .i64 j ∧ q = .int .i64 (k + (j : Int)) ∧ Hid (wr.rowIs g 3 (c * 1) f') ∧ Hid (∀ q, q < j → f' q = mI k q) ∧ Hid (TouchS (InN n (some ⟨g, 0, none⟩)) w wr)) (fun _ i _ => n - (RowKit.intOf i).toNat)
  case atStart => exact ⟨0, f, Nat.zero_le _, rfl, by go_num, HR.out, fun q hq => by omega, touchS_refl _ _⟩
  case round =>
    obtain ⟨j, f', hj, rfl, rfl, HRj, HF, HT⟩ := hrel
    by_cases hlt : j < n
    · have c0 := HRj.out.cell (i := j) (by omega)
      have z0 := HRj.out.frozen j
      go_wp2
      go_roundw
      case rel =>
        refine ⟨j + 1, _, by omega, by go_num, by go_num, HRj.out.set j _, fun q hq => ?_, touchN_set HT.out (by omega) _ _⟩
        by_cases q0 : q = j
        · rw [if_pos q0, q0]; rfl
        rw [if_neg q0]
        exact HF.out q (by omega)
      case measure => simp [RowKit.intOf]; omega
    · go_wp2
      go_ret
      have : j = n := by omega
      subst this
      exact ⟨rfl, .inr ⟨g, f', rfl, HRj.out, hN, fun q hq => HF.out q (by omega)⟩, HT.out⟩

set_option maxHeartbeats 800000 in
theorem heldInts_is (a : Option Addr) (n c : Nat) (k : Int) (w : World) (hr : Held w 3 1 (mI k) a n c) (hn : n ≤ 1048576) (h0 : 1 ≤ k) (h1 : k ≤ 1000000000000000) :
    Calls Tryz.prog 43 #[.slice a n c, .int .i64 k] w fun e w' => e = .returned (.int .i64 (k + (n : Int))) ∧ Below w.heap.size w w' := by
  rcases hr with rfl | ⟨g, f, rfl, hr, hN, hm⟩
  · go_enter Tryz.func43, Tryz.ntmps43
    go_wp2
    go_loopw [1, 5] (fun q i wr => i = .int .i64 0 ∧ q = .int .i64 k ∧ wr = w) (fun _ _ _ => 0)
    case atStart => exact ⟨rfl, rfl, rfl⟩
    case round =>
      obtain ⟨rfl, rfl, rfl⟩ := hrel
      go_wp2
      go_ret
      exact ⟨by simp, Below.refl _ _⟩
  have HR := hide hr
  have HF := hide hm
  clear hr hm
  go_enter Tryz.func43, Tryz.ntmps43
  go_wp2
  go_loopw [1, 5] (fun q i wr => ∃ (j : Nat), j ≤ n ∧ i = .int .i64 j ∧ q = .int .i64 (k + (j : Int)) ∧ Hid (Below w.heap.size w wr)) (fun _ i _ => n - (RowKit.intOf i).toNat)
  case atStart => exact ⟨0, Nat.zero_le _, rfl, by go_num, Below.refl _ _⟩
  case round =>
    obtain ⟨j, hj, rfl, rfl, HB⟩ := hrel
    by_cases hlt : j < n
    · have c0 := cell_later HB.out ((HR.out.cell (i := j) (by omega)).trans (congrArg some (HF.out j (by omega))))
      unfold mI at c0
      have b0 : (k + (j : Int) != k + (j : Int)) = false := by simp
      go_wp2
      go_roundw
      case rel => exact ⟨j + 1, by omega, by go_num, by go_num, HB.out⟩
      case measure => simp [RowKit.intOf]; omega
    · go_wp2
      go_ret
      have : j = n := by omega
      subst this
      exact ⟨rfl, HB.out⟩

set_option maxRecDepth 100000 in
set_option maxHeartbeats 800000 in
theorem markCaps_is (a : Option Addr) (n c : Nat) (k : Int) (w : World) (hr : RowW w 87 2 a n c) (hn : n ≤ 1048576) (h0 : 1 ≤ k) (h1 : k ≤ 1000000000000000) :
    Calls Tryz.prog 37 #[.slice a n c, .int .i64 k] w fun e w' => e = .returned (.int .i64 (k + 2 * (n : Int))) ∧ Held w' 87 2 (mC k) a n c ∧ TouchS (InN n a) w w' := by
  rcases hr with rfl | ⟨g, f, rfl, hr, hN⟩
  · go_enter Tryz.func37, Tryz.ntmps37
    go_wp2
    go_loopw [1, 5] (fun q i wr => i = .int .i64 0 ∧ q = .int .i64 k ∧ wr = w) (fun _ _ _ => 0)
    case atStart => exact ⟨rfl, rfl, rfl⟩
    case round =>
      obtain ⟨rfl, rfl, rfl⟩ := hrel
      go_wp2
      go_ret
      exact ⟨by simp, .inl rfl, touchS_refl _ _⟩
  have HR := hide hr
  clear hr
  go_enter Tryz.func37, Tryz.ntmps37
  go_wp2
  go_loopw [1, 5] (fun q i wr => ∃ (j : Nat) (f' : Nat → Value), j ≤ n ∧ i = .int .i64 j ∧ q = .int .i64 (k + 2 * (j : Int)) ∧ Hid (wr.rowIs g 87 (c * 2) f') ∧ Hid (∀ q, q < j * 2 → f' q = mC k q) ∧ Hid (TouchS (InN n (some ⟨g, 0, none⟩)) w wr)) (fun _ i _ => n - (RowKit.intOf i).toNat)
  case atStart => exact ⟨0, f, Nat.zero_le _, rfl, by go_num, HR.out, fun q hq => by omega, touchS_refl _ _⟩
  case round =>
    obtain ⟨j, f', hj, rfl, rfl, HRj, HF, HT⟩ := hrel
    by_cases hlt : j < n
    · go_wp2_with (go_at_call 58; refine (markText_is _ _ (by omega) (by omega)).mono ?_; rintro e w1 ⟨rfl, hb1⟩
                   have R1 : Hid (w1.rowIs g 87 (c * 2) f') := HRj.out.of_block (hb1.block _ HRj.out.lt)
                   have T1 := hide (touchS_trans HT.out (touchS_below hb1))
                   have c0 := R1.out.cell (i := j * 2) (by omega)
                   have c1 := R1.out.cell (i := j * 2 + 1) (by omega)
                   have z0 := R1.out.frozen (j * 2)
                   have z1 := R1.out.frozen (j * 2 + 1)
                   clear hb1)
      go_roundw
      case rel =>
        refine ⟨j + 1, _, by omega, by go_num, by go_num, (R1.out.set (j * 2) _).set (j * 2 + 1) _, fun q hq => ?_, touchN_set (touchN_set T1.out (by omega) _ _) (by omega) _ _⟩
        by_cases q1 : q = j * 2 + 1
        · rw [if_pos q1, q1]
          unfold mC
          rw [if_neg (by omega)]
          exact congrArg (Value.int .i64) (by omega)
        rw [if_neg q1]
        by_cases q0 : q = j * 2
        · rw [if_pos q0, q0]
          unfold mC
          rw [if_pos (by omega)]
          exact congrArg (fun x => Value.string (markTx x)) (by omega)
        rw [if_neg q0]
        exact HF.out q (by omega)
      case measure => simp [RowKit.intOf]; omega
    · go_wp2
      go_ret
      have : j = n := by omega
      subst this
      exact ⟨rfl, .inr ⟨g, f', rfl, HRj.out, hN, HF.out⟩, HT.out⟩

set_option maxRecDepth 100000 in
set_option maxHeartbeats 800000 in
theorem heldCaps_is (a : Option Addr) (n c : Nat) (k : Int) (w : World) (hr : Held w 87 2 (mC k) a n c) (hn : n ≤ 1048576) (h0 : 1 ≤ k) (h1 : k ≤ 1000000000000000) :
    Calls Tryz.prog 41 #[.slice a n c, .int .i64 k] w fun e w' => e = .returned (.int .i64 (k + 2 * (n : Int))) ∧ Below w.heap.size w w' := by
  rcases hr with rfl | ⟨g, f, rfl, hr, hN, hm⟩
  · go_enter Tryz.func41, Tryz.ntmps41
    go_wp2
    go_loopw [1, 5] (fun q i wr => i = .int .i64 0 ∧ q = .int .i64 k ∧ wr = w) (fun _ _ _ => 0)
    case atStart => exact ⟨rfl, rfl, rfl⟩
    case round =>
      obtain ⟨rfl, rfl, rfl⟩ := hrel
      go_wp2
      go_ret
      exact ⟨by simp, Below.refl _ _⟩
  have HR := hide hr
  have HF := hide hm
  clear hr hm
  go_enter Tryz.func41, Tryz.ntmps41
  go_wp2
  go_loopw [1, 5] (fun q i wr => ∃ (j : Nat), j ≤ n ∧ i = .int .i64 j ∧ q = .int .i64 (k + 2 * (j : Int)) ∧ Hid (Below w.heap.size w wr)) (fun _ i _ => n - (RowKit.intOf i).toNat)
  case atStart => exact ⟨0, Nat.zero_le _, rfl, by go_num, Below.refl _ _⟩
  case round =>
    obtain ⟨j, hj, rfl, rfl, HB⟩ := hrel
    by_cases hlt : j < n
    · have m0 : f (j * 2) = .string (markTx (k + 2 * (j : Int))) := by
        rw [HF.out (j * 2) (by omega)]
        unfold mC
        rw [if_pos (by omega)]
        exact congrArg (fun x => Value.string (markTx x)) (by omega)
      have m1 : f (j * 2 + 1) = .int .i64 (k + 2 * (j : Int) + 1) := by
        rw [HF.out (j * 2 + 1) (by omega)]
        unfold mC
        rw [if_neg (by omega)]
        exact congrArg (Value.int .i64) (by omega)
      have HC0 := hide ((HR.out.cell (i := j * 2) (by omega)).trans (congrArg some m0))
      have HC1 := hide ((HR.out.cell (i := j * 2 + 1) (by omega)).trans (congrArg some m1))
      have c0 := cell_later HB.out HC0.out
      clear m0 m1
      generalize htx : markTx (k + 2 * (j : Int)) = tx at c0 HC0
      have HTX := hide htx
      clear htx
      have b0 : (k + 2 * (j : Int) + 1 != k + 2 * (j : Int) + 1) = false := by simp
      go_wp2
      have y0 := grow_cell c0
      have hne := grow_some wr
      refine wp_region_grow (by kernel_rfl) (by kernel_rfl) ?_
      repeat (go_big_quiet_step (((go_at_call 58; exact grow_of (markText_val _ _ HTX.out _ (by omega) (by omega))))))
      refine wpQuiet_nil ?_
      intro _ hw'
      obtain ⟨u, hw''⟩ := hw'
      subst hw''
      have HB1 := hide (below_two HB.out u.below)
      have d0 := cell_later HB1.out HC0.out
      have d1 := cell_later HB1.out HC1.out
      go_wp2
      go_roundw
      case rel => exact ⟨j + 1, by omega, by go_num, by go_num, HB1.out⟩
      case measure => simp [RowKit.intOf]; omega
    · go_wp2
      go_ret
      have : j = n := by omega
      subst this
      exact ⟨rfl, HB.out⟩

set_option maxRecDepth 100000 in
set_option maxHeartbeats 800000 in
theorem markVis_is (a : Option Addr) (n c : Nat) (k : Int) (w : World) (hr : RowW w 89 3 a n c) (hn : n ≤ 1048576) (h0 : 1 ≤ k) (h1 : k ≤ 1000000000000000) :
    Calls Tryz.prog 40 #[.slice a n c, .int .i64 k] w fun e w' => e = .returned (.int .i64 (k + 3 * (n : Int))) ∧ Held w' 89 3 (mV k) a n c ∧ TouchS (InN n a) w w' := by
  rcases hr with rfl | ⟨g, f, rfl, hr, hN⟩
  · go_enter Tryz.func40, Tryz.ntmps40
    go_wp2
    go_loopw [1, 5] (fun q i wr => i = .int .i64 0 ∧ q = .int .i64 k ∧ wr = w) (fun _ _ _ => 0)
    case atStart => exact ⟨rfl, rfl, rfl⟩
    case round =>
      obtain ⟨rfl, rfl, rfl⟩ := hrel
      go_wp2
      go_ret
      exact ⟨by simp, .inl rfl, touchS_refl _ _⟩
  have HR := hide hr
  clear hr
  go_enter Tryz.func40, Tryz.ntmps40
  go_wp2
  go_loopw [1, 5] (fun q i wr => ∃ (j : Nat) (f' : Nat → Value), j ≤ n ∧ i = .int .i64 j ∧ q = .int .i64 (k + 3 * (j : Int)) ∧ Hid (wr.rowIs g 89 (c * 3) f') ∧ Hid (∀ q, q < j * 3 → f' q = mV k q) ∧ Hid (TouchS (InN n (some ⟨g, 0, none⟩)) w wr)) (fun _ i _ => n - (RowKit.intOf i).toNat)
  case atStart => exact ⟨0, f, Nat.zero_le _, rfl, by go_num, HR.out, fun q hq => by omega, touchS_refl _ _⟩
  case round =>
    obtain ⟨j, f', hj, rfl, rfl, HRj, HF, HT⟩ := hrel
    by_cases hlt : j < n
    · go_wp2_with (go_at_call 58; refine (markText_is _ _ (by omega) (by omega)).mono ?_; rintro e w1 ⟨rfl, hb1⟩
                   have R1 : Hid (w1.rowIs g 89 (c * 3) f') := HRj.out.of_block (hb1.block _ HRj.out.lt)
                   have T1 := hide (touchS_trans HT.out (touchS_below hb1))
                   have c0 := R1.out.cell (i := j * 3) (by omega)
                   have c1 := R1.out.cell (i := j * 3 + 1) (by omega)
                   have z0 := R1.out.frozen (j * 3)
                   have z1 := R1.out.frozen (j * 3 + 1)
                   have c2 := R1.out.cell (i := j * 3 + 2) (by omega)
                   have z2 := R1.out.frozen (j * 3 + 2)
                   clear hb1)
      go_roundw
      case rel =>
        refine ⟨j + 1, _, by omega, by go_num, by go_num, ((R1.out.set (j * 3) _).set (j * 3 + 1) _).set (j * 3 + 2) _, fun q hq => ?_, touchN_set (touchN_set (touchN_set T1.out (by omega) _ _) (by omega) _ _) (by omega) _ _⟩
        by_cases q2 : q = j * 3 + 2
        · rw [if_pos q2, q2]
          unfold mV
          rw [if_neg (by omega)]
          exact congrArg (Value.int .i64) (by omega)
        rw [if_neg q2]
        by_cases q1 : q = j * 3 + 1
        · rw [if_pos q1, q1]
          unfold mV
          rw [if_neg (by omega)]
          exact congrArg (Value.int .i64) (by omega)
        rw [if_neg q1]
        by_cases q0 : q = j * 3
        · rw [if_pos q0, q0]
          unfold mV
          rw [if_pos (by omega)]
          exact congrArg (fun x => Value.string (markTx x)) (by omega)
        rw [if_neg q0]
        exact HF.out q (by omega)
      case measure => simp [RowKit.intOf]; omega
    · go_wp2
      go_ret
      have : j = n := by omega
      subst this
      exact ⟨rfl, .inr ⟨g, f', rfl, HRj.out, hN, HF.out⟩, HT.out⟩

set_option maxRecDepth 100000 in
set_option maxHeartbeats 800000 in
theorem heldVis_is (a : Option Addr) (n c : Nat) (k : Int) (w : World) (hr : Held w 89 3 (mV k) a n c) (hn : n ≤ 1048576) (h0 : 1 ≤ k) (h1 : k ≤ 1000000000000000) :
    Calls Tryz.prog 59 #[.slice a n c, .int .i64 k] w fun e w' => e = .returned (.int .i64 (k + 3 * (n : Int))) ∧ Below w.heap.size w w' := by
  rcases hr with rfl | ⟨g, f, rfl, hr, hN, hm⟩
  · go_enter Tryz.func59, Tryz.ntmps59
    go_wp2
    go_loopw [1, 5] (fun q i wr => i = .int .i64 0 ∧ q = .int .i64 k ∧ wr = w) (fun _ _ _ => 0)
    case atStart => exact ⟨rfl, rfl, rfl⟩
    case round =>
      obtain ⟨rfl, rfl, rfl⟩ := hrel
      go_wp2
      go_ret
      exact ⟨by simp, Below.refl _ _⟩
  have HR := hide hr
  have HF := hide hm
  clear hr hm
  go_enter Tryz.func59, Tryz.ntmps59
  go_wp2
  go_loopw [1, 5] (fun q i wr => ∃ (j : Nat), j ≤ n ∧ i = .int .i64 j ∧ q = .int .i64 (k + 3 * (j : Int)) ∧ Hid (Below w.heap.size w wr)) (fun _ i _ => n - (RowKit.intOf i).toNat)
  case atStart => exact ⟨0, Nat.zero_le _, rfl, by go_num, Below.refl _ _⟩
  case round =>
    obtain ⟨j, hj, rfl, rfl, HB⟩ := hrel
    by_cases hlt : j < n
    · have m0 : f (j * 3) = .string (markTx (k + 3 * (j : Int))) := by
        rw [HF.out (j * 3) (by omega)]
        unfold mV
        rw [if_pos (by omega)]
        exact congrArg (fun x => Value.string (markTx x)) (by omega)
      have m1 : f (j * 3 + 1) = .int .i64 (k + 3 * (j : Int) + 1) := by
        rw [HF.out (j * 3 + 1) (by omega)]
        unfold mV
        rw [if_neg (by omega)]
        exact congrArg (Value.int .i64) (by omega)
      have m2 : f (j * 3 + 2) = .int .i64 (k + 3 * (j : Int) + 1 + 1) := by
        rw [HF.out (j * 3 + 2) (by omega)]
        unfold mV
        rw [if_neg (by omega)]
        exact congrArg (Value.int .i64) (by omega)
      have HC2 := hide ((HR.out.cell (i := j * 3 + 2) (by omega)).trans (congrArg some m2))
      have HC0 := hide ((HR.out.cell (i := j * 3) (by omega)).trans (congrArg some m0))
      have HC1 := hide ((HR.out.cell (i := j * 3 + 1) (by omega)).trans (congrArg some m1))
      have c0 := cell_later HB.out HC0.out
      clear m0 m1 m2
      generalize htx : markTx (k + 3 * (j : Int)) = tx at c0 HC0
      have HTX := hide htx
      clear htx
      have b0 : (k + 3 * (j : Int) + 1 != k + 3 * (j : Int) + 1) = false := by simp
      have b1 : (k + 3 * (j : Int) + 1 + 1 != k + 3 * (j : Int) + 1 + 1) = false := by simp
      go_wp2
      have y0 := grow_cell c0
      have hne := grow_some wr
      refine wp_region_grow (by kernel_rfl) (by kernel_rfl) ?_
      repeat (go_big_quiet_step (((go_at_call 58; exact grow_of (markText_val _ _ HTX.out _ (by omega) (by omega))))))
      refine wpQuiet_nil ?_
      intro _ hw'
      obtain ⟨u, hw''⟩ := hw'
      subst hw''
      have HB1 := hide (below_two HB.out u.below)
      have d0 := cell_later HB1.out HC0.out
      have d1 := cell_later HB1.out HC1.out
      have d2 := cell_later HB1.out HC2.out
      go_wp2
      go_roundw
      case rel => exact ⟨j + 1, by omega, by go_num, by go_num, HB1.out⟩
      case measure => simp [RowKit.intOf]; omega
    · go_wp2
      go_ret
      have : j = n := by omega
      subst this
      exact ⟨rfl, HB.out⟩


/-- Where the visits of the flights of a row lie: address, length, room. -/
abbrev VisAt := Option Addr × Nat × Nat
/-- The number with which the marks of flight j begin. -/
def kAt (k : Int) (va : List VisAt) (j : Nat) : Int := k + ((va.take j).map fun x => 3 + 3 * (x.2.1 : Int)).sum
theorem kAt_succ (k : Int) (va : List VisAt) {j : Nat} (hj : j < va.length) : kAt k va (j + 1) = kAt k va j + 3 + 3 * (va[j].2.1 : Int) := by
  unfold kAt
  rw [List.take_succ_eq_append_getElem hj, List.map_append, List.sum_append]
  simp
  omega
theorem kAt_bd (k : Int) (va : List VisAt) (hv : ∀ x ∈ va, x.2.1 ≤ 1048576) : ∀ j, j ≤ va.length → k ≤ kAt k va j ∧ kAt k va j ≤ k + 3145731 * (j : Int)
  | 0, _ => by unfold kAt; simp
  | j + 1, hj => by
    have ih := kAt_bd k va hv j (by omega)
    have h := hv _ (List.getElem_mem (show j < va.length by omega))
    rw [kAt_succ k va (show j < va.length by omega)]
    omega
def InF (a : Option Addr) (va : List VisAt) (k : Nat) : Prop := InN va.length a k ∨ ∃ x ∈ va, InN x.2.1 x.1 k
/-- Each row apart from the others. -/
def ApartF (a : Option Addr) (va : List VisAt) : Prop := (∀ x ∈ va, ∀ k, InA a k → ¬ InN x.2.1 x.1 k) ∧ va.Pairwise fun x y => ∀ k, InN x.2.1 x.1 k → ¬ InN y.2.1 y.1 k
/-- Flights in rows that can be written. -/
def FlW (w : World) (a : Option Addr) (c : Nat) (va : List VisAt) : Prop :=
  va = [] ∨ ∃ g f, a = some ⟨g, 0, none⟩ ∧ w.rowIs g 41 (c * 4) f ∧ va.length ≤ c ∧ (∀ j (hj : j < va.length), f (j * 4 + 3) = .slice va[j].1 va[j].2.1 va[j].2.2) ∧ ∀ x ∈ va, RowW w 89 3 x.1 x.2.1 x.2.2
def mFl (k : Int) (va : List VisAt) (f : Nat → Value) (j : Nat) : Prop := f (j * 4) = .string (markTx (kAt k va j)) ∧ f (j * 4 + 1) = .int .i64 (kAt k va j + 1) ∧ f (j * 4 + 2) = .int .i64 (kAt k va j + 1 + 1)
def HeldF (w : World) (k : Int) (a : Option Addr) (c : Nat) (va : List VisAt) : Prop :=
  va = [] ∨ ∃ g f, a = some ⟨g, 0, none⟩ ∧ w.rowIs g 41 (c * 4) f ∧ va.length ≤ c ∧ (∀ j (hj : j < va.length), f (j * 4 + 3) = .slice va[j].1 va[j].2.1 va[j].2.2 ∧ mFl k va f j ∧ Held w 89 3 (mV (kAt k va j + 1 + 1 + 1)) va[j].1 va[j].2.1 va[j].2.2)
theorem heldF_touch {S : Nat → Prop} {w w' : World} {k : Int} {a : Option Addr} {c : Nat} {va : List VisAt} (h : HeldF w k a c va) (ht : TouchS S w w') (ho : ∀ q, InF a va q → ¬ S q) : HeldF w' k a c va := by
  by_cases h0 : va = []
  · exact .inl h0
  rcases h with h | ⟨g, f, e, hr, hn, hm⟩
  · exact .inl h
  · refine .inr ⟨g, f, e, row_touchS hr ht (ho g (.inl ⟨fun hh => h0 (List.length_eq_zero_iff.1 hh), _, e, rfl⟩)), hn, fun j hj => ?_⟩
    obtain ⟨h1, h2, h3⟩ := hm j hj
    exact ⟨h1, h2, held_touch h3 ht fun q hq => ho q (.inr ⟨_, List.getElem_mem hj, hq⟩)⟩
theorem heldF_later {w w' : World} {k : Int} {a : Option Addr} {c : Nat} {va : List VisAt} (h : HeldF w k a c va) (hb : Below w.heap.size w w') : HeldF w' k a c va :=
  heldF_touch h (touchS_below (S := fun _ => False) hb) (fun _ _ h => h)

/-- How far the marking of flights has come. -/
def FlTo (w : World) (k : Int) (g c : Nat) (va : List VisAt) (j : Nat) : Prop :=
  ∃ f, w.rowIs g 41 (c * 4) f ∧ (∀ i (hi : i < va.length), f (i * 4 + 3) = .slice va[i].1 va[i].2.1 va[i].2.2) ∧ (∀ x ∈ va, RowW w 89 3 x.1 x.2.1 x.2.2) ∧
    ∀ i (hi : i < va.length), i < j → mFl k va f i ∧ Held w 89 3 (mV (kAt k va i + 1 + 1 + 1)) va[i].1 va[i].2.1 va[i].2.2
theorem flTo_later {w w' : World} {k : Int} {g c : Nat} {va : List VisAt} {j : Nat} (h : FlTo w k g c va j) (hb : Below w.heap.size w w') : FlTo w' k g c va j := by
  obtain ⟨f, h1, h2, h3, h4⟩ := h
  have ht : TouchS (fun _ => False) w w' := touchS_below hb
  exact ⟨f, row_touchS h1 ht (fun h => h), h2, fun x hx => rowW_touch (h3 x hx) ht (fun _ _ h => h), fun i hi hj => ⟨(h4 i hi hj).1, held_touch (h4 i hi hj).2 ht (fun _ _ h => h)⟩⟩
/-- The three marks of a flight itself. -/
theorem flTo_set {w : World} {k : Int} {g c : Nat} {va : List VisAt} {j : Nat} (h : FlTo w k g c va j) (_hj : j < va.length) (hap : ApartF (some ⟨g, 0, none⟩) va) (v0 v1 v2 : Value) :
    ∃ f, (((w.setCell ⟨g, j * 4, none⟩ v0).setCell ⟨g, j * 4 + 1, none⟩ v1).setCell ⟨g, j * 4 + 2, none⟩ v2).rowIs g 41 (c * 4) f ∧ f (j * 4) = v0 ∧ f (j * 4 + 1) = v1 ∧ f (j * 4 + 2) = v2 ∧
      (∀ i (hi : i < va.length), f (i * 4 + 3) = .slice va[i].1 va[i].2.1 va[i].2.2) ∧ (∀ x ∈ va, RowW (((w.setCell ⟨g, j * 4, none⟩ v0).setCell ⟨g, j * 4 + 1, none⟩ v1).setCell ⟨g, j * 4 + 2, none⟩ v2) 89 3 x.1 x.2.1 x.2.2) ∧
      ∀ i (hi : i < va.length), i < j → mFl k va f i ∧ Held (((w.setCell ⟨g, j * 4, none⟩ v0).setCell ⟨g, j * 4 + 1, none⟩ v1).setCell ⟨g, j * 4 + 2, none⟩ v2) 89 3 (mV (kAt k va i + 1 + 1 + 1)) va[i].1 va[i].2.1 va[i].2.2 := by
  obtain ⟨f, h1, h2, h3, h4⟩ := h
  have ht : TouchS (InA (some ⟨g, 0, none⟩)) w (((w.setCell ⟨g, j * 4, none⟩ v0).setCell ⟨g, j * 4 + 1, none⟩ v1).setCell ⟨g, j * 4 + 2, none⟩ v2) := touchS_set (touchS_set (touchS_set (touchS_refl _ _) (p := ⟨g, j * 4, none⟩) ⟨_, rfl, rfl⟩ _) (p := ⟨g, j * 4 + 1, none⟩) ⟨_, rfl, rfl⟩ _) (p := ⟨g, j * 4 + 2, none⟩) ⟨_, rfl, rfl⟩ _
  have hr := ((h1.set (j * 4) v0).set (j * 4 + 1) v1).set (j * 4 + 2) v2
  refine ⟨_, hr, ?_, ?_, ?_, fun i hi => ?_, fun x hx => rowW_touch (h3 x hx) ht (fun q hq hq2 => hap.1 x hx q hq2 hq), fun i hi hij => ⟨?_, held_touch (h4 i hi hij).2 ht (fun q hq hq2 => hap.1 _ (List.getElem_mem hi) q hq2 hq)⟩⟩
  · rw [if_neg (by omega), if_neg (by omega), if_pos rfl]
  · rw [if_neg (by omega), if_pos rfl]
  · rw [if_pos rfl]
  · rw [if_neg (by omega), if_neg (by omega), if_neg (by omega)]; exact h2 i hi
  · obtain ⟨m1, m2, m3⟩ := (h4 i hi hij).1
    refine ⟨?_, ?_, ?_⟩
    · show (if _ = _ then _ else if _ = _ then _ else if _ = _ then _ else _) = _; rw [if_neg (by omega), if_neg (by omega), if_neg (by omega)]; exact m1
    · show (if _ = _ then _ else if _ = _ then _ else if _ = _ then _ else _) = _; rw [if_neg (by omega), if_neg (by omega), if_neg (by omega)]; exact m2
    · show (if _ = _ then _ else if _ = _ then _ else if _ = _ then _ else _) = _; rw [if_neg (by omega), if_neg (by omega), if_neg (by omega)]; exact m3

set_option maxRecDepth 100000 in
set_option maxHeartbeats 1600000 in
theorem markFls_is (a : Option Addr) (c : Nat) (va : List VisAt) (k : Int) (w : World) (hr : FlW w a c va) (hap : ApartF a va) (hn : va.length ≤ 1048576) (hv : ∀ x ∈ va, x.2.1 ≤ 1048576) (h0 : 1 ≤ k) (h1 : k ≤ 1000000000000) :
    Calls Tryz.prog 38 #[.slice a va.length c, .int .i64 k] w fun e w' => e = .returned (.int .i64 (kAt k va va.length)) ∧ HeldF w' k a c va ∧ TouchS (InF a va) w w' := by
  rcases hr with rfl | ⟨g, f, rfl, hr, hN, hf, hw⟩
  · go_enter Tryz.func38, Tryz.ntmps38
    go_wp2
    go_loopw [1, 5] (fun q i wr => i = .int .i64 0 ∧ q = .int .i64 k ∧ wr = w) (fun _ _ _ => 0)
    case atStart => exact ⟨rfl, rfl, rfl⟩
    case round =>
      obtain ⟨rfl, rfl, rfl⟩ := hrel
      go_wp2
      go_ret
      exact ⟨by simp [kAt], .inl rfl, touchS_refl _ _⟩
  have HT0 : Hid (FlTo w k g c va 0) := ⟨f, hr, hf, hw, fun i hi h => by omega⟩
  have HAP := hide hap
  have HV := hide hv
  clear hr hf hw hap hv
  go_enter Tryz.func38, Tryz.ntmps38
  go_wp2
  go_loopw [1, 5] (fun q i wr => ∃ (j : Nat), j ≤ va.length ∧ i = .int .i64 j ∧ q = .int .i64 (kAt k va j) ∧ Hid (FlTo wr k g c va j) ∧ Hid (TouchS (InF (some ⟨g, 0, none⟩) va) w wr)) (fun _ i _ => va.length - (RowKit.intOf i).toNat)
  case atStart => exact ⟨0, Nat.zero_le _, rfl, by show _ = Value.int .i64 (kAt k va 0); unfold kAt; simp, HT0.out, touchS_refl _ _⟩
  case round =>
    obtain ⟨j, hj, rfl, rfl, HS, HT⟩ := hrel
    clear HT0
    by_cases hlt : j < va.length
    · obtain ⟨hkb0, hkb1⟩ := kAt_bd k va HV.out j hj
      have hvj := HV.out _ (List.getElem_mem hlt)
      have HK := hide (kAt_succ k va hlt)
      generalize hkj : kAt k va j = kj at hkb0 hkb1 HK
      have HKJ := hide hkj
      clear hkj
      go_wp2_with (first
        | (go_at_call 58; refine (markText_is _ _ (by omega) (by omega)).mono ?_; rintro e w1 ⟨rfl, hb1⟩
           have S1 := hide (flTo_later HS.out hb1)
           have T1 := hide (touchS_trans HT.out (touchS_below hb1))
           have S4 := hide (flTo_set S1.out hlt HAP.out (.string (markTx kj)) (.int .i64 (kj + 1)) (.int .i64 (kj + 1 + 1)))
           obtain ⟨f1, hrow, hf1, _⟩ := S1.out
           have hc3 := hf1 j hlt
           have c0 := hrow.cell (i := j * 4) (by omega)
           have c1 := hrow.cell (i := j * 4 + 1) (by omega)
           have c2 := hrow.cell (i := j * 4 + 2) (by omega)
           have c3 := (hrow.cell (i := j * 4 + 3) (by omega)).trans (congrArg some hc3)
           have z0 := hrow.frozen (j * 4)
           have z1 := hrow.frozen (j * 4 + 1)
           have z2 := hrow.frozen (j * 4 + 2)
           clear hb1 hrow hf1 hc3))
      have T4 := hide (touchS_set (touchS_set (touchS_set T1.out (p := ⟨g, j * 4, none⟩) (.inl ⟨by omega, _, rfl, rfl⟩) (.string (markTx kj))) (p := ⟨g, j * 4 + 1, none⟩) (.inl ⟨by omega, _, rfl, rfl⟩) (.int .i64 (kj + 1))) (p := ⟨g, j * 4 + 2, none⟩) (.inl ⟨by omega, _, rfl, rfl⟩) (.int .i64 (kj + 1 + 1)))
      obtain ⟨f4, r4, m0, m1, m2, g4, w4, h4⟩ := S4.out
      refine (markVis_is va[j].1 va[j].2.1 va[j].2.2 (kj + 1 + 1 + 1) _ (w4 _ (List.getElem_mem hlt)) hvj (by omega) (by omega)).mono ?_
      rintro e w2 ⟨rfl, hh2, ht2⟩
      have T5 := hide (touchS_trans T4.out (touchS_mono ht2 fun q hq => .inr ⟨_, List.getElem_mem hlt, hq⟩))
      have S5 : Hid (FlTo w2 k g c va (j + 1)) := by
        refine ⟨f4, row_touchS r4 ht2 (fun hq => HAP.out.1 _ (List.getElem_mem hlt) g ⟨_, rfl, rfl⟩ hq), g4, fun x hx => ?_, fun i hi hij => ?_⟩
        · obtain ⟨i, hi, rfl⟩ := List.getElem_of_mem hx
          by_cases e : i = j
          · subst e; exact held_row hh2
          · refine rowW_touch (w4 _ hx) ht2 fun q hq hq2 => ?_
            rcases Nat.lt_or_ge i j with hl | hl
            · exact List.pairwise_iff_getElem.1 HAP.out.2 i j hi hlt hl q hq hq2
            · exact List.pairwise_iff_getElem.1 HAP.out.2 j i hlt hi (by omega) q hq2 hq
        · by_cases e : i = j
          · subst e
            rw [HKJ.out]
            exact ⟨⟨by rw [HKJ.out]; exact m0, by rw [HKJ.out]; exact m1, by rw [HKJ.out]; exact m2⟩, hh2⟩
          · refine ⟨(h4 i hi (by omega)).1, held_touch (h4 i hi (by omega)).2 ht2 fun q hq hq2 => ?_⟩
            exact List.pairwise_iff_getElem.1 HAP.out.2 i j hi hlt (by omega) q hq hq2
      clear c0 c1 c2 c3 z0 z1 z2 S1 S4 T1 T4 HT HS hh2 ht2 r4 m0 m1 m2 g4 w4 h4
      go_wp2
      go_roundw
      case rel => exact ⟨j + 1, by omega, by go_num, by rw [HK.out]; exact congrArg (Value.int .i64) (by omega), S5.out, T5.out⟩
      case measure => simp [RowKit.intOf]; omega
    · go_wp2
      go_ret
      have : j = va.length := by omega
      subst this
      obtain ⟨f', r1, r2, r3, r4⟩ := HS.out
      exact ⟨rfl, .inr ⟨g, f', rfl, r1, hN, fun i hi => ⟨r2 i hi, (r4 i hi hi).1, (r4 i hi hi).2⟩⟩, HT.out⟩

set_option maxRecDepth 100000 in
set_option maxHeartbeats 1600000 in
theorem heldFls_is (a : Option Addr) (c : Nat) (va : List VisAt) (k : Int) (w : World) (hr : HeldF w k a c va) (hn : va.length ≤ 1048576) (hv : ∀ x ∈ va, x.2.1 ≤ 1048576) (h0 : 1 ≤ k) (h1 : k ≤ 1000000000000) :
    Calls Tryz.prog 42 #[.slice a va.length c, .int .i64 k] w fun e w' => e = .returned (.int .i64 (kAt k va va.length)) ∧ Below w.heap.size w w' := by
  rcases hr with rfl | ⟨g, f, rfl, hr, hN, hf⟩
  · go_enter Tryz.func42, Tryz.ntmps42
    go_wp2
    go_loopw [1, 5] (fun q i wr => i = .int .i64 0 ∧ q = .int .i64 k ∧ wr = w) (fun _ _ _ => 0)
    case atStart => exact ⟨rfl, rfl, rfl⟩
    case round =>
      obtain ⟨rfl, rfl, rfl⟩ := hrel
      go_wp2
      go_ret
      exact ⟨by simp [kAt], Below.refl _ _⟩
  have HR := hide hr
  have HF := hide hf
  have HV := hide hv
  clear hr hf hv
  go_enter Tryz.func42, Tryz.ntmps42
  go_wp2
  go_loopw [1, 5] (fun q i wr => ∃ (j : Nat), j ≤ va.length ∧ i = .int .i64 j ∧ q = .int .i64 (kAt k va j) ∧ Hid (Below w.heap.size w wr)) (fun _ i _ => va.length - (RowKit.intOf i).toNat)
  case atStart => exact ⟨0, Nat.zero_le _, rfl, by show _ = Value.int .i64 (kAt k va 0); unfold kAt; simp, Below.refl _ _⟩
  case round =>
    obtain ⟨j, hj, rfl, rfl, HB⟩ := hrel
    by_cases hlt : j < va.length
    · obtain ⟨hkb0, hkb1⟩ := kAt_bd k va HV.out j hj
      have hvj := HV.out _ (List.getElem_mem hlt)
      have HK := hide (kAt_succ k va hlt)
      obtain ⟨hc3, ⟨m0, m1, m2⟩, hh⟩ := HF.out j hlt
      generalize kAt k va j = kj at hkb0 hkb1 HK m0 m1 m2 hh
      have HH := hide hh
      have HC0 := hide ((HR.out.cell (i := j * 4) (by omega)).trans (congrArg some m0))
      have HC1 := hide ((HR.out.cell (i := j * 4 + 1) (by omega)).trans (congrArg some m1))
      have HC2 := hide ((HR.out.cell (i := j * 4 + 2) (by omega)).trans (congrArg some m2))
      have HC3 := hide ((HR.out.cell (i := j * 4 + 3) (by omega)).trans (congrArg some hc3))
      clear hc3 m0 m1 m2 hh
      have c0 := cell_later HB.out HC0.out
      generalize htx : markTx kj = tx at c0 HC0
      have HTX := hide htx
      clear htx
      have b0 : (kj + 1 != kj + 1) = false := by simp
      have b1 : (kj + 1 + 1 != kj + 1 + 1) = false := by simp
      go_wp2
      have y0 := grow_cell c0
      have hne := grow_some wr
      refine wp_region_grow (by kernel_rfl) (by kernel_rfl) ?_
      repeat (go_big_quiet_step (((go_at_call 58; exact grow_of (markText_val _ _ HTX.out _ (by omega) (by omega))))))
      refine wpQuiet_nil ?_
      intro _ hw'
      obtain ⟨u, hw''⟩ := hw'
      subst hw''
      have HB1 := hide (below_two HB.out u.below)
      have d0 := cell_later HB1.out HC0.out
      have d1 := cell_later HB1.out HC1.out
      have d2 := cell_later HB1.out HC2.out
      have d3 := cell_later HB1.out HC3.out
      go_wp2_with fail
      refine (heldVis_is va[j].1 va[j].2.1 va[j].2.2 (kj + 1 + 1 + 1) _ (held_later HH.out HB1.out) hvj (by omega) (by omega)).mono ?_
      rintro e w2 ⟨rfl, hb2⟩
      have HB2 := hide (below_two HB1.out hb2)
      have hnn : ¬ (kj + 1 + 1 + 1 + 3 * (va[j].2.1 : Int) < 0) := by omega
      clear hb2 d0 d1 d2 d3 c0
      go_wp2
      go_roundw
      case rel => exact ⟨j + 1, by omega, by go_num, by rw [HK.out]; exact congrArg (Value.int .i64) (by omega), HB2.out⟩
      case measure => simp [RowKit.intOf]; omega
    · go_wp2
      go_ret
      have : j = va.length := by omega
      subst this
      exact ⟨rfl, HB.out⟩

/-- The rows of a book that can be written, each apart from the others. -/
structure BkW (w : World) (ac a a' : Option Addr) (nc cc c ns cn : Nat) (va : List VisAt) : Prop where
  caps : RowW w 87 2 ac nc cc
  fl : FlW w a c va
  ints : RowW w 3 1 a' ns cn
  apF : ApartF a va
  cf : ∀ k, InN nc ac k → ¬ InF a va k
  ci : ∀ k, InN nc ac k → ¬ InN ns a' k
  fi : ∀ k, InF a va k → ¬ InN ns a' k
def InB (ac a a' : Option Addr) (nc ns : Nat) (va : List VisAt) (k : Nat) : Prop := InN nc ac k ∨ InF a va k ∨ InN ns a' k
theorem flW_touch {S : Nat → Prop} {w w' : World} {a : Option Addr} {c : Nat} {va : List VisAt} (h : FlW w a c va) (ht : TouchS S w w') (ho : ∀ q, InF a va q → ¬ S q) : FlW w' a c va := by
  by_cases h0 : va = []
  · exact .inl h0
  rcases h with h | ⟨g, f, e, hr, hn, hm, hx⟩
  · exact .inl h
  · exact .inr ⟨g, f, e, row_touchS hr ht (ho g (.inl ⟨fun hh => h0 (List.length_eq_zero_iff.1 hh), _, e, rfl⟩)), hn, hm, fun x hx' => rowW_touch (hx x hx') ht fun q hq => ho q (.inr ⟨x, hx', hq⟩)⟩
theorem rowW_lt {w : World} {t : TypeId} {sz : Nat} {a : Option Addr} {n c : Nat} (h : RowW w t sz a n c) {k : Nat} (hk : InN n a k) : k < w.heap.size := by
  rcases h with h | ⟨g, f, e, hr, _⟩
  · exact absurd h hk.1
  · obtain ⟨_, p, hp, rfl⟩ := hk
    rw [e] at hp
    cases hp
    exact hr.lt
theorem bkW_lt {w : World} {ac a a' : Option Addr} {nc cc c ns cn : Nat} {va : List VisAt} (h : BkW w ac a a' nc cc c ns cn va) : ∀ q, InB ac a a' nc ns va q → q < w.heap.size := by
  intro q hq
  rcases hq with hq | hq | hq
  · exact rowW_lt h.caps hq
  · rcases hq with hq | ⟨x, hx, hq⟩
    · rcases h.fl with h0 | ⟨g, f, e, hr, _⟩
      · rw [h0] at hq; exact absurd rfl hq.1
      · obtain ⟨_, p, hp, rfl⟩ := hq
        rw [e] at hp
        cases hp
        exact hr.lt
    · rcases h.fl with h0 | ⟨g, f, e, hr, _, _, hw⟩
      · rw [h0] at hx; simp at hx
      · exact rowW_lt (hw x hx) hq
  · exact rowW_lt h.ints hq
/-- Marks that a book bears. -/
structure BkHeld (w : World) (k : Int) (ac a a' : Option Addr) (nc cc c ns cn : Nat) (va : List VisAt) : Prop where
  caps : Held w 87 2 (mC k) ac nc cc
  fl : HeldF w (k + 2 * (nc : Int)) a c va
  ints : Held w 3 1 (mI (kAt (k + 2 * (nc : Int)) va va.length)) a' ns cn
theorem bkHeld_touch {S : Nat → Prop} {w w' : World} {k : Int} {ac a a' : Option Addr} {nc cc c ns cn : Nat} {va : List VisAt} (h : BkHeld w k ac a a' nc cc c ns cn va) (ht : TouchS S w w') (ho : ∀ q, InB ac a a' nc ns va q → ¬ S q) : BkHeld w' k ac a a' nc cc c ns cn va :=
  ⟨held_touch h.caps ht fun q hq => ho q (.inl hq), heldF_touch h.fl ht fun q hq => ho q (.inr (.inl hq)), held_touch h.ints ht fun q hq => ho q (.inr (.inr hq))⟩
theorem bkHeld_later {w w' : World} {k : Int} {ac a a' : Option Addr} {nc cc c ns cn : Nat} {va : List VisAt} (h : BkHeld w k ac a a' nc cc c ns cn va) (hb : Below w.heap.size w w') : BkHeld w' k ac a a' nc cc c ns cn va :=
  bkHeld_touch h (touchS_below (S := fun _ => False) hb) (fun _ _ h => h)

set_option maxRecDepth 100000 in
set_option maxHeartbeats 800000 in
theorem markBook_is (ac a a' : Option Addr) (nc cc c ns cn : Nat) (va : List VisAt) (w : World) (h : BkW w ac a a' nc cc c ns cn va) (hc : nc ≤ 1048576) (hn : va.length ≤ 1048576) (hs : ns ≤ 1048576) (hv : ∀ x ∈ va, x.2.1 ≤ 1048576) :
    Calls Tryz.prog 13 #[.agg #[.slice ac nc cc, .slice a va.length c, .slice a' ns cn], .int .i64 1] w fun e w' => e = .returned (.int .i64 (kAt (1 + 2 * (nc : Int)) va va.length + (ns : Int))) ∧ BkHeld w' 1 ac a a' nc cc c ns cn va ∧ TouchS (InB ac a a' nc ns va) w w' := by
  have H := hide h
  have HV := hide hv
  have hkb := kAt_bd (1 + 2 * (nc : Int)) va hv va.length (Nat.le_refl _)
  clear h hv
  obtain ⟨W, hW, x0, x1, x2, hWb⟩ := alloc3 w (.slice ac nc cc) (.slice a va.length c) (.slice a' ns cn) 35
  have T0 : Hid (TouchS (fun _ => False) w W) := touchS_below hWb
  have HW := hide hW
  have X1 := hide x1
  have X2 := hide x2
  have hlt : W.heap.size = w.heap.size + 1 := by rw [← hW]; simp
  have hin : Hid (∀ q, InB ac a a' nc ns va q → q < w.heap.size) := bkW_lt H.out
  clear hW hWb x0 x1 x2
  go_enter Tryz.func13, Tryz.ntmps13
  go_wp2_with fail
  rw [HW.out]
  refine (markCaps_is ac nc cc 1 W (rowW_touch H.out.caps T0.out (fun _ _ h => h)) hc (by omega) (by omega)).mono ?_
  rintro e w1 ⟨rfl, hh1, ht1⟩
  have HC := hide hh1
  have T1 := hide (touchS_trans (touchS_mono T0.out (T := InB ac a a' nc ns va) (fun _ h => h.elim)) (touchS_mono ht1 fun q hq => .inl hq))
  have y1 := (World.cell?_of_block (w := W) (a := ⟨w.heap.size, 1, none⟩) (ht1.block w.heap.size (by omega) (fun hq => by have := hin.out _ (.inl hq); omega))).trans X1.out
  have Y2 := hide ((World.cell?_of_block (w := W) (a := ⟨w.heap.size, 2, none⟩) (ht1.block w.heap.size (by omega) (fun hq => by have := hin.out _ (.inl hq); omega))).trans X2.out)
  have W1 := hide (flW_touch (flW_touch H.out.fl T0.out (fun _ _ h => h)) ht1 (fun q hq hq2 => H.out.cf q hq2 hq))
  have I1 := hide (rowW_touch (rowW_touch H.out.ints T0.out (fun _ _ h => h)) ht1 (fun q hq hq2 => H.out.ci q hq2 hq))
  have hs1 := ht1.size
  clear hh1 ht1
  go_wp2_with fail
  refine (markFls_is a c va (1 + 2 * (nc : Int)) w1 W1.out H.out.apF hn HV.out (by omega) (by omega)).mono ?_
  rintro e w2 ⟨rfl, hh2, ht2⟩
  have HF := hide hh2
  have HC2 := hide (held_touch HC.out ht2 (fun q hq hq2 => H.out.cf q hq hq2))
  have T2 := hide (touchS_trans T1.out (touchS_mono ht2 fun q hq => .inr (.inl hq)))
  have y2 := (World.cell?_of_block (w := w1) (a := ⟨w.heap.size, 2, none⟩) (ht2.block w.heap.size (by omega) (fun hq => by have := hin.out _ (.inr (.inl hq)); omega))).trans Y2.out
  have I2 := hide (rowW_touch I1.out ht2 (fun q hq hq2 => H.out.fi q hq2 hq))
  clear hh2 ht2 y1 HC I1 T1
  generalize hkk : kAt (1 + 2 * (nc : Int)) va va.length = kk at hkb
  have HKK := hide hkk
  clear hkk
  go_wp2_with fail
  refine (markInts_is a' ns cn kk w2 I2.out hs (by omega) (by omega)).mono ?_
  rintro e w3 ⟨rfl, hh3, ht3⟩
  have HI := hide hh3
  have HC3 := hide (held_touch HC2.out ht3 (fun q hq hq2 => H.out.ci q hq hq2))
  have HF3 := hide (heldF_touch HF.out ht3 (fun q hq hq2 => H.out.fi q hq hq2))
  have T3 := hide (touchS_trans T2.out (touchS_mono ht3 fun q hq => .inr (.inr hq)))
  clear hh3 ht3 y2
  go_wp2
  go_ret
  exact ⟨by rw [HKK.out]; rfl, ⟨HC3.out, HF3.out, by rw [HKK.out]; exact HI.out⟩, T3.out⟩

set_option maxRecDepth 100000 in
set_option maxHeartbeats 800000 in
theorem heldBook_is (ac a a' : Option Addr) (nc cc c ns cn : Nat) (va : List VisAt) (w : World) (h : BkHeld w 1 ac a a' nc cc c ns cn va) (hc : nc ≤ 1048576) (hn : va.length ≤ 1048576) (hs : ns ≤ 1048576) (hv : ∀ x ∈ va, x.2.1 ≤ 1048576) :
    Calls Tryz.prog 15 #[.agg #[.slice ac nc cc, .slice a va.length c, .slice a' ns cn], .int .i64 1] w fun e w' => e = .returned (.int .i64 (kAt (1 + 2 * (nc : Int)) va va.length + (ns : Int))) ∧ Below w.heap.size w w' := by
  have H := hide h
  have HV := hide hv
  have hkb := kAt_bd (1 + 2 * (nc : Int)) va hv va.length (Nat.le_refl _)
  clear h hv
  obtain ⟨W, hW, x0, x1, x2, hWb⟩ := alloc3 w (.slice ac nc cc) (.slice a va.length c) (.slice a' ns cn) 35
  have WB := hide hWb
  have HW := hide hW
  have X1 := hide x1
  have X2 := hide x2
  clear hW hWb x0 x1 x2
  go_enter Tryz.func15, Tryz.ntmps15
  go_wp2_with fail
  rw [HW.out]
  refine (heldCaps_is ac nc cc 1 W (held_later H.out.caps WB.out) hc (by omega) (by omega)).mono ?_
  rintro e w1 ⟨rfl, hb1⟩
  have B1 := hide (below_two WB.out hb1)
  have y1 := cell_later hb1 X1.out
  have Y2 := hide (cell_later hb1 X2.out)
  have hnn : ¬ (1 + 2 * (nc : Int) < 0) := by omega
  clear hb1
  go_wp2_with fail
  refine (heldFls_is a c va (1 + 2 * (nc : Int)) w1 (heldF_later H.out.fl B1.out) hn HV.out (by omega) (by omega)).mono ?_
  rintro e w2 ⟨rfl, hb2⟩
  have B2 := hide (below_two B1.out hb2)
  have y2 := cell_later hb2 Y2.out
  clear hb2 y1
  have HI := hide H.out.ints
  generalize hkk : kAt (1 + 2 * (nc : Int)) va va.length = kk at hkb HI
  have HKK := hide hkk
  clear hkk
  have hnn2 : ¬ (kk < 0) := by omega
  go_wp2_with fail
  refine (heldInts_is a' ns cn kk w2 (held_later HI.out B2.out) hs (by omega) (by omega)).mono ?_
  rintro e w3 ⟨rfl, hb3⟩
  have B3 := hide (below_two B2.out hb3)
  have hnn3 : ¬ (kk + (ns : Int) < 0) := by omega
  clear hb3 y2
  go_wp2
  go_ret
  exact ⟨by rw [HKK.out]; rfl, B3.out⟩

end Go.Proofs.YtciacofibljmoabGreatDoor
