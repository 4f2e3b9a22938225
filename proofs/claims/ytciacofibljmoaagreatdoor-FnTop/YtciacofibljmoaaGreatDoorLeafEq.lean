/- The contracts of the smallest functions, proved over the translation. -/
import Derived.Test.YtciacofibljmoaaGreatDoorRows
import Derived.WalkKit
import Derived.WalkLawsBesides
import Derived.WalkSpells
import Derived.ProofKit
import Derived.Below
import Derived.Outline
import Derived.Deep.OwnRows
import Derived.Deep.RegionHeld3
import Derived.Laws.RangeAny
namespace Go.Proofs.YtciacofibljmoaaGreatDoor
open Go.RowKit

/-- n lies in lo .. hi. -/
def inB (n lo hi : Int) : Bool := decide (lo ≤ n) && decide (n ≤ hi)

set_option maxHeartbeats 400000 in
theorem within_any (n lo hi : Int) (w : World) :
    Calls Tryz.prog 46 #[.int .i64 n, .int .i64 lo, .int .i64 hi] w fun e w' => e = .returned (.bool (inB n lo hi)) ∧ w' = w := by
  by_cases h : lo ≤ n
  · by_cases h2 : n ≤ hi
    · go_enter Tryz.func46, Tryz.ntmps46
      go_wp2
      go_ret
      exact ⟨by simp [inB, h, h2], rfl⟩
    · go_enter Tryz.func46, Tryz.ntmps46
      go_wp2
      go_ret
      exact ⟨by simp [inB, h, h2], rfl⟩
  · have h' : decide (lo ≤ n) = false := by simpa using h
    go_enter Tryz.func46, Tryz.ntmps46
    go_wp2
    go_ret
    exact ⟨by simp [inB, h'], rfl⟩

/-- Element i of a slice of caps that begins at a block and an offset. -/
def capAt (w : World) (b off i : Nat) (c : ByteArray × Int) : Prop :=
  w.cell? ⟨b, off + i * 2, none⟩ = some (.string c.1) ∧ w.cell? ⟨b, off + i * 2 + 1, none⟩ = some (.int .i64 c.2)
/-- A slice's address leads to these caps. -/
def CapsIn (w : World) (a : Option Addr) (cs : List (ByteArray × Int)) : Prop :=
  ∀ i (hi : i < cs.length), ∃ b off, a = some ⟨b, off, none⟩ ∧ b < w.heap.size ∧ capAt w b off i cs[i]
theorem CapsIn.later {w w' : World} {a : Option Addr} {cs : List (ByteArray × Int)} (h : CapsIn w a cs) (hb : Below w.heap.size w w') : CapsIn w' a cs := fun i hi => by
  obtain ⟨b, off, ha, hlt, h0, h1⟩ := h i hi
  exact ⟨b, off, ha, by have := hb.size; omega, by rw [hb.cell (p := ⟨b, _, none⟩) hlt]; exact h0, by rw [hb.cell (p := ⟨b, _, none⟩) hlt]; exact h1⟩

theorem info_cap : (Tryz.prog.info? 61).map (fun i => (i.zero, i.size, i.bytes)) = some (some (.agg #[.string ⟨#[]⟩, .int .i64 0]), 2, 24) := by kernel_rfl

/-- What the cells of a row of caps hold. -/
def capCell (cs : List (ByteArray × Int)) (j : Nat) : Value := if j % 2 = 0 then .string (cs.getD (j / 2) (ByteArray.empty, 0)).1 else .int .i64 (cs.getD (j / 2) (ByteArray.empty, 0)).2
theorem capCell_even (cs : List (ByteArray × Int)) (k : Nat) (h : k < cs.length) : capCell cs (k * 2) = .string cs[k].1 := by
  unfold capCell
  rw [if_pos (by omega), show k * 2 / 2 = k by omega]
  simp [List.getD, List.getElem?_eq_getElem h]
theorem capCell_odd (cs : List (ByteArray × Int)) (k : Nat) (h : k < cs.length) : capCell cs (k * 2 + 1) = .int .i64 cs[k].2 := by
  unfold capCell
  rw [if_neg (by omega), show (k * 2 + 1) / 2 = k by omega]
  simp [List.getD, List.getElem?_eq_getElem h]
theorem CapsIn.ofRow {w : World} {g : Nat} {t : TypeId} {cs : List (ByteArray × Int)} (h : w.rowIs g t (cs.length * 2) (capCell cs)) : CapsIn w (some ⟨g, 0, none⟩) cs := fun i hi =>
  ⟨g, 0, rfl, h.lt, by rw [Nat.zero_add, h.cell (by omega), capCell_even _ _ hi], by rw [Nat.zero_add, h.cell (by omega), capCell_odd _ _ hi]⟩

theorem run_make_caps (n : Nat) (hn : n ≤ 1048576) (u : World) : (Instr.makeSlice 23 (.int .i64 (n : Int)) (.int .i64 (n : Int))).run Tryz.prog u =
      .ok (.slice (some ⟨u.heap.size, 0, none⟩) n n) (u.alloc (.cells (madeCells #[.string ⟨#[]⟩, .int .i64 0] (n * 2)) 61)) := by
  obtain ⟨i0, hi, hz0, hz1, hz2⟩ := info_parts info_cap
  have h := run_make (P := Tryz.prog) u 23 61 i0 (.agg #[.string ⟨#[]⟩, .int .i64 0]) Tryz.underlying23 hi hz0 .i64 .i64 (n : Int) (n : Int) (by omega) (Int.le_refl _) (by rw [hz2]; omega) (by omega)
  simpa [hz1, Value.cells] using h

theorem rowIs_made' (w : World) (z : Array Value) (n : Nat) (t : TypeId) : ∃ f, (w.alloc (.cells (madeCells z n) t)).rowIs w.heap.size t n f :=
  ⟨fun i => z[i % z.size]!, _, Deep.blk_alloc_new _ _, size_madeCells _ _, fun i hi => by simp [madeCells, hi]⟩

end Go.Proofs.YtciacofibljmoaaGreatDoor

/- Names: what the program and the document's reading of it say of a text. -/
namespace Go.Proofs.YtciacofibljmoaaGreatDoor
open Go.RowKit

/-- One of a to z, a digit or '-'. -/
def okRune (r : Int) : Bool := (decide (97 ≤ r) && decide (r ≤ 122)) || (decide (48 ≤ r) && decide (r ≤ 57)) || (r == 45)
/-- From the place k on all bytes are such. -/
def nameTail (s : ByteArray) (k : Nat) : Bool := (s.data.toList.drop k).all fun c => okRune (c.toNat : Int)
/-- A text is a name. -/
def nameB (s : ByteArray) : Bool := decide (1 ≤ s.size) && decide (s.size ≤ 8) && nameTail s 0

theorem nameTail_end (s : ByteArray) (k : Nat) (h : ¬ k < s.size) : nameTail s k = true := by
  unfold nameTail
  rw [List.drop_eq_nil_of_le (by rw [Array.length_toList]; exact Nat.le_of_not_lt h)]
  rfl
theorem nameTail_step (s : ByteArray) (k : Nat) (h : k < s.size) : nameTail s k = (okRune ((s[k]'h).toNat : Int) && nameTail s (k + 1)) := by
  unfold nameTail
  have hl : k < s.data.toList.length := by rw [Array.length_toList]; exact h
  rw [List.drop_eq_getElem_cons hl, List.all_cons]
  rfl

set_option maxHeartbeats 400000 in
theorem nameRune_any (r : Int) (w : World) :
    Calls Tryz.prog 91 #[.int .i32 r] w fun e w' => e = .returned (.bool (okRune r)) ∧ w' = w := by
  have key : ∀ b, b = okRune r → Ending.returned (.bool b) = .returned (.bool (okRune r)) := fun b h => by rw [h]
  by_cases h1 : 97 ≤ r
  · by_cases h2 : r ≤ 122
    · go_enter Tryz.func91, Tryz.ntmps91
      go_wp2
      go_ret
      exact ⟨key _ (by simp [okRune, h1, h2]), rfl⟩
    · have d2 : decide (r ≤ 122) = false := by simpa using h2
      have d3 : decide (48 ≤ r) = true := by simp; omega
      have d4 : decide (r ≤ 57) = false := by simp; omega
      have d5 : (r == 45) = false := by simp; omega
      go_enter Tryz.func91, Tryz.ntmps91
      go_wp2
      go_ret
      exact ⟨key _ (by simp [okRune, d2, d4, d5]), rfl⟩
  · have d1 : decide (97 ≤ r) = false := by simpa using h1
    by_cases h3 : 48 ≤ r
    · by_cases h4 : r ≤ 57
      · go_enter Tryz.func91, Tryz.ntmps91
        go_wp2
        go_ret
        exact ⟨key _ (by simp [okRune, h3, h4]), rfl⟩
      · have d4 : decide (r ≤ 57) = false := by simpa using h4
        have d5 : (r == 45) = false := by simp; omega
        go_enter Tryz.func91, Tryz.ntmps91
        go_wp2
        go_ret
        exact ⟨key _ (by simp [okRune, d1, d4, d5]), rfl⟩
    · have d3 : decide (48 ≤ r) = false := by simpa using h3
      go_enter Tryz.func91, Tryz.ntmps91
      go_wp2
      go_ret
      exact ⟨key _ (by simp [okRune, d1, d3]), rfl⟩

theorem hide {p : Prop} (h : p) : Hid p := h

/-- The six ways of a sign, each with the tests in the walk's form. -/
theorem rune_cases (r : Int) :
    (97 ≤ r ∧ r ≤ 122 ∧ okRune r = true) ∨ (97 ≤ r ∧ decide (r ≤ 122) = false ∧ 48 ≤ r ∧ decide (r ≤ 57) = false ∧ (r == 45) = false ∧ okRune r = false) ∨
    (decide (97 ≤ r) = false ∧ 48 ≤ r ∧ r ≤ 57 ∧ okRune r = true) ∨ (decide (97 ≤ r) = false ∧ 48 ≤ r ∧ decide (r ≤ 57) = false ∧ (r == 45) = false ∧ okRune r = false) ∨
    (decide (97 ≤ r) = false ∧ decide (48 ≤ r) = false ∧ (r == 45) = true ∧ okRune r = true) ∨ (decide (97 ≤ r) = false ∧ decide (48 ≤ r) = false ∧ (r == 45) = false ∧ okRune r = false) := by
  by_cases h1 : 97 ≤ r
  · by_cases h2 : r ≤ 122
    · exact .inl ⟨h1, h2, by simp [okRune, h1, h2]⟩
    · have d2 : decide (r ≤ 122) = false := decide_eq_false h2
      have d4 : decide (r ≤ 57) = false := decide_eq_false (by omega)
      have d5 : (r == 45) = false := beq_eq_false_iff_ne.2 (by omega)
      exact .inr (.inl ⟨h1, d2, by omega, d4, d5, by simp [okRune, d2, d4, d5]⟩)
  · have d1 : decide (97 ≤ r) = false := decide_eq_false h1
    by_cases h3 : 48 ≤ r
    · by_cases h4 : r ≤ 57
      · exact .inr (.inr (.inl ⟨d1, h3, h4, by simp [okRune, h3, h4]⟩))
      · have d4 : decide (r ≤ 57) = false := decide_eq_false h4
        have d5 : (r == 45) = false := beq_eq_false_iff_ne.2 (by omega)
        exact .inr (.inr (.inr (.inl ⟨d1, h3, d4, d5, by simp [okRune, d1, d4, d5]⟩)))
    · have d3 : decide (48 ≤ r) = false := decide_eq_false h3
      cases d5 : r == 45
      · exact .inr (.inr (.inr (.inr (.inr ⟨d1, d3, rfl, by simp [okRune, d1, d3, d5]⟩))))
      · exact .inr (.inr (.inr (.inr (.inl ⟨d1, d3, rfl, by simp [okRune, d5]⟩))))

theorem ok_small (r : Int) (h : okRune r = true) : r < 128 := by
  unfold okRune at h
  simp at h
  omega

set_option maxHeartbeats 800000 in
theorem nameOk_any (s : ByteArray) (w : World) (hs : s.size ≤ maxLen) :
    Calls Tryz.prog 84 #[.string s] w fun e w' => e = .returned (.bool (nameB s)) ∧ Below w.heap.size w w' := by
  unfold maxLen at hs
  by_cases h1 : (s.size : Int) < 1
  · go_enter Tryz.func84, Tryz.ntmps84
    go_wp2
    go_ret
    exact ⟨by have : decide (1 ≤ s.size) = false := decide_eq_false (by omega)
              simp [nameB, this], Below.refl _ _⟩
  · by_cases h2 : (8 : Int) < (s.size : Int)
    · go_enter Tryz.func84, Tryz.ntmps84
      go_wp2
      go_ret
      exact ⟨by have : decide (s.size ≤ 8) = false := decide_eq_false (by omega)
                simp [nameB, this], Below.refl _ _⟩
    · have d1 : decide (1 ≤ s.size) = true := decide_eq_true (by omega)
      have d2 : decide (s.size ≤ 8) = true := decide_eq_true (by omega)
      have D : Hid (nameB s = nameTail s 0) := by show _ = _; simp [nameB, d1, d2]
      clear d1 d2
      go_enter Tryz.func84, Tryz.ntmps84
      go_wp2
      go_loopw [4] (fun _ wr => ∃ k : Nat, k ≤ s.size ∧ wr = w.iter s k ∧ Hid (nameTail s 0 = nameTail s k)) (fun _ wr => s.size - wr.iterPos w.heap.size)
      case atStart => exact ⟨0, Nat.zero_le _, rfl, rfl⟩
      case round =>
        obtain ⟨k, hk, rfl, HK⟩ := hrel
        by_cases hlt : k < s.size
        · have hst := nameTail_step s k hlt
          by_cases ha : (s[k]'hlt).toNat < 128
          · have hnx := fun ty => run_next_ascii (P := Tryz.prog) w s k ty hlt ha
            have HS : Hid (nameTail s k = (okRune ((s[k]'hlt).toNat : Int) && nameTail s (k + 1))) := hst
            clear hst
            cases hok : okRune ((s[k]'hlt).toNat : Int)
            · have HO : Hid (okRune ((s[k]'hlt).toNat : Int) = false) := hok
              go_wp2_with (go_at_call 91; refine (nameRune_any _ _).mono ?_; rw [HO.out]; rintro e w' ⟨rfl, rfl⟩)
              go_ret
              exact ⟨by rw [D.out, HK.out, HS.out, HO.out]; rfl, (Below.refl _ _).alloc (Nat.le_refl _) _⟩
            · have HO : Hid (okRune ((s[k]'hlt).toNat : Int) = true) := hok
              go_wp2_with (go_at_call 91; refine (nameRune_any _ _).mono ?_; rw [HO.out]; rintro e w' ⟨rfl, rfl⟩)
              go_roundw
              case rel => exact ⟨k + 1, by omega, rfl, by show _ = _; rw [HK.out, HS.out, HO.out]; rfl⟩
              case measure => simp; omega
          · have hnx := fun ty => run_next_any (P := Tryz.prog) w s k ty hlt
            have hhi := decode_high s k hlt (by omega)
            have HO : Hid (okRune ((Utf8.decode s k).1 : Int) = false) := by
              show _ = _
              cases h : okRune ((Utf8.decode s k).1 : Int)
              · rfl
              · have := ok_small _ h; omega
            have HO' : Hid (okRune ((s[k]'hlt).toNat : Int) = false) := by
              show _ = _
              cases h : okRune ((s[k]'hlt).toNat : Int)
              · rfl
              · have := ok_small _ h; omega
            have HS : Hid (nameTail s k = (okRune ((s[k]'hlt).toNat : Int) && nameTail s (k + 1))) := hst
            clear hst
            generalize (Utf8.decode s k) = d at hnx HO hhi
            go_wp2_with (go_at_call 91; refine (nameRune_any _ _).mono ?_; rw [HO.out]; rintro e w' ⟨rfl, rfl⟩)
            go_ret
            exact ⟨by rw [D.out, HK.out, HS.out, HO'.out]; rfl, (Below.refl _ _).alloc (Nat.le_refl _) _⟩
        · have hnx := fun ty => run_next_end (P := Tryz.prog) w s k ty hlt
          go_wp2
          go_ret
          exact ⟨by rw [D.out, HK.out, nameTail_end s k hlt]; rfl, (Below.refl _ _).alloc (Nat.le_refl _) _⟩

set_option maxHeartbeats 400000 in
theorem l1In_any (n lo hi : Int) (w : World) :
    Calls Tryz.prog 51 #[.int .i64 n, .int .i64 lo, .int .i64 hi] w fun e w' => e = .returned (.bool (inB n lo hi)) ∧ w' = w := by
  by_cases h : lo ≤ n
  · by_cases h2 : n ≤ hi
    · go_enter Tryz.func51, Tryz.ntmps51
      go_wp2
      go_ret
      exact ⟨by simp [inB, h, h2], rfl⟩
    · go_enter Tryz.func51, Tryz.ntmps51
      go_wp2
      go_ret
      exact ⟨by simp [inB, h, h2], rfl⟩
  · have h' : decide (lo ≤ n) = false := by simpa using h
    go_enter Tryz.func51, Tryz.ntmps51
    go_wp2
    go_ret
    exact ⟨by simp [inB, h'], rfl⟩

theorem inB_true {n lo hi : Int} (h1 : lo ≤ n) (h2 : n ≤ hi) : inB n lo hi = true := by simp [inB, h1, h2]
theorem inB_false {n lo hi : Int} (h : n < lo ∨ hi < n) : inB n lo hi = false := by
  rcases h with h | h
  · have : decide (lo ≤ n) = false := decide_eq_false (by omega)
    simp [inB, this]
  · have : decide (n ≤ hi) = false := decide_eq_false (by omega)
    simp [inB, this]
theorem inB_iff {n lo hi : Int} : inB n lo hi = true ↔ lo ≤ n ∧ n ≤ hi := by simp [inB]

set_option maxHeartbeats 800000 in
theorem l1NameOk_any (s : ByteArray) (w : World) (hs : s.size ≤ maxLen) :
    Calls Tryz.prog 50 #[.string s] w fun e w' => e = .returned (.bool (nameB s)) ∧ w' = w := by
  unfold maxLen at hs
  by_cases h : 1 ≤ s.size ∧ s.size ≤ 8
  · have h1 : decide (1 ≤ s.size) = true := decide_eq_true h.1
    have h2 : decide (s.size ≤ 8) = true := decide_eq_true h.2
    have D : Hid (nameB s = nameTail s 0) := by show _ = _; simp [nameB, h1, h2]
    have HB : Hid (inB (s.size : Int) 1 8 = true) := inB_true (by omega) (by omega)
    clear h1 h2
    obtain ⟨h1, h2⟩ := h
    go_enter Tryz.func50, Tryz.ntmps50
    go_wp2_with (go_at_call 51; refine (l1In_any _ _ _ _).mono ?_; rw [HB.out]; rintro e w' ⟨rfl, rfl⟩)
    go_loop [3, 4] (fun i _ => ∃ k : Nat, k ≤ s.size ∧ i = .int .i64 k ∧ Hid (nameTail s 0 = nameTail s k)) (fun i _ => s.size - (intOf i).toNat)
    case atStart => exact ⟨0, Nat.zero_le _, rfl, rfl⟩
    case round =>
      obtain ⟨k, hk, rfl, HK⟩ := hrel
      by_cases hlt : k < s.size
      · have HS : Hid (nameTail s k = (okRune ((s[k]'hlt).toNat : Int) && nameTail s (k + 1))) := nameTail_step s k hlt
        generalize hb : (s[k]'hlt) = cc at HS
        have HB' : Hid ((s[k]'hlt) = cc) := hb
        have hb2 : s[k]'hlt = cc := hb
        clear hb
        rcases rune_cases (cc.toNat : Int) with ⟨q1, q2, hO⟩ | ⟨q1, q2, q3, q4, q5, hO⟩ | ⟨q1, q2, q3, hO⟩ | ⟨q1, q2, q3, q4, hO⟩ | ⟨q1, q2, q3, hO⟩ | ⟨q1, q2, q3, hO⟩
        · have HO := hide hO
          clear hO
          go_wp2
          go_round
          case rel => exact ⟨k + 1, by omega, by go_num, by show _ = _; rw [HK.out, HS.out, HO.out]; rfl⟩
          case measure => simp [intOf]; omega
        · have HO := hide hO
          clear hO
          go_wp2
          go_ret
          exact ⟨by rw [D.out, HK.out, HS.out, HO.out]; rfl, rfl⟩
        · have HO := hide hO
          clear hO
          go_wp2
          go_round
          case rel => exact ⟨k + 1, by omega, by go_num, by show _ = _; rw [HK.out, HS.out, HO.out]; rfl⟩
          case measure => simp [intOf]; omega
        · have HO := hide hO
          clear hO
          go_wp2
          go_ret
          exact ⟨by rw [D.out, HK.out, HS.out, HO.out]; rfl, rfl⟩
        · have HO := hide hO
          clear hO
          go_wp2
          go_round
          case rel => exact ⟨k + 1, by omega, by go_num, by show _ = _; rw [HK.out, HS.out, HO.out]; rfl⟩
          case measure => simp [intOf]; omega
        · have HO := hide hO
          clear hO
          go_wp2
          go_ret
          exact ⟨by rw [D.out, HK.out, HS.out, HO.out]; rfl, rfl⟩
      · go_wp2
        go_ret
        exact ⟨by rw [D.out, HK.out, nameTail_end s k hlt]; rfl, rfl⟩
  · have HB : Hid (inB (s.size : Int) 1 8 = false) := inB_false (by omega)
    go_enter Tryz.func50, Tryz.ntmps50
    go_wp2_with (go_at_call 51; refine (l1In_any _ _ _ _).mono ?_; rw [HB.out]; rintro e w' ⟨rfl, rfl⟩)
    go_ret
    refine ⟨?_, rfl⟩
    have : (decide (1 ≤ s.size) && decide (s.size ≤ 8)) = false := by
      rw [Bool.and_eq_false_iff, decide_eq_false_iff_not, decide_eq_false_iff_not]; omega
    simp [nameB, this]

end Go.Proofs.YtciacofibljmoaaGreatDoor

/- The comparing of two slices that hold the same. -/
namespace Go.Proofs.YtciacofibljmoaaGreatDoor
open Go.RowKit

end Go.Proofs.YtciacofibljmoaaGreatDoor
