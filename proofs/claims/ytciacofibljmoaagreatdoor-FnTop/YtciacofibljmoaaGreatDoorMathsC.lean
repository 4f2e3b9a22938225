/- Plain mathematics of compressing: rounds in which each has its least slot, until nothing changes. -/
import Derived.Test.YtciacofibljmoaaGreatDoorMaths
import Derived.Test.YtciacofibljmoaaGreatDoorMathsB
namespace Go.Proofs.YtciacofibljmoaaGreatDoor

theorem fits_slots {cs : List (ByteArray × Int)} {fs : List Fli} {ss : List Int} (h : fitsB cs fs ss = true) : slotsB fs ss = true := by
  unfold fitsB at h
  simp only [Bool.and_eq_true] at h
  exact h.1.1.2
theorem fits_caps {cs : List (ByteArray × Int)} {fs : List Fli} {ss : List Int} (h : fitsB cs fs ss = true) : capsB cs = true := by
  unfold fitsB at h
  simp only [Bool.and_eq_true] at h
  exact h.1.1.1
theorem fits_flis {cs : List (ByteArray × Int)} {fs : List Fli} {ss : List Int} (h : fitsB cs fs ss = true) : flisB fs = true := by
  have := fits_slots h
  unfold slotsB at this
  simp only [Bool.and_eq_true] at this
  exact this.1.1
theorem fits_len {cs : List (ByteArray × Int)} {fs : List Fli} {ss : List Int} (h : fitsB cs fs ss = true) : ss.length = fs.length := (slots_bd (fits_slots h)).1
theorem fits_time {cs : List (ByteArray × Int)} {fs : List Fli} {ss : List Int} (h : fitsB cs fs ss = true) {i : Nat} (hi : i < fs.length) (hi' : i < ss.length) (h0 : 0 ≤ ss[i]) : fs[i].2.1 ≤ ss[i] ∧ ss[i] ≤ fs[i].2.1 + fs[i].2.2.1 := by
  unfold fitsB at h
  simp only [Bool.and_eq_true] at h
  have := all_at h.1.2 hi
  unfold inTimeAt at this
  rw [getD_at ss i _ hi', getD_at fs i _ hi, inB_eq] at this
  simp only [Bool.or_eq_true, decide_eq_true_eq] at this
  omega

theorem leastV_bd {cs : List (ByteArray × Int)} {fs : List Fli} {ss : List Int} {i : Nat} (hi : i < fs.length) (h0 : 0 ≤ fs[i].2.2.1) (h : leastV cs fs ss i ≠ -1) : fs[i].2.1 ≤ leastV cs fs ss i ∧ leastV cs fs ss i ≤ fs[i].2.1 + fs[i].2.2.1 := by
  unfold leastV at *
  rw [getD_at fs i _ hi] at *
  cases hf : (ticks fs[i].2.1 (fs[i].2.2.1.toNat + 1)).find? (fun t => fitsB cs fs (ss.set i t)) with
  | none => rw [hf] at h; simp at h
  | some t =>
    rw [Option.getD_some]
    have := (mem_ticks _ _ t).1 (List.mem_of_find?_eq_some hf)
    omega
/-- A slot that fits is no earlier than the least. -/
theorem leastV_le {cs : List (ByteArray × Int)} {fs : List Fli} {ss : List Int} {i : Nat} (hi : i < fs.length) {t : Int} (h1 : fs[i].2.1 ≤ t) (h2 : t ≤ fs[i].2.1 + fs[i].2.2.1) (hf : fitsB cs fs (ss.set i t) = true) : leastV cs fs ss i ≤ t ∧ (0 ≤ fs[i].2.1 → leastV cs fs ss i ≠ -1) := by
  unfold leastV
  rw [getD_at fs i _ hi]
  cases hg : (ticks fs[i].2.1 (fs[i].2.2.1.toNat + 1)).find? (fun t => fitsB cs fs (ss.set i t)) with
  | none =>
    rw [List.find?_eq_none] at hg
    exact absurd hf (hg t ((mem_ticks _ _ t).2 ⟨h1, by omega⟩))
  | some u =>
    rw [Option.getD_some]
    have hu := (mem_ticks _ _ u).1 (List.mem_of_find?_eq_some hg)
    refine ⟨?_, by omega⟩
    rcases Int.lt_or_le t u with hlt | hle
    · exfalso
      obtain ⟨_, la, lb, he, hn⟩ := List.find?_eq_some_iff_append.1 hg
      have hmem : t ∈ la := by
        have h9 : t ∈ ticks fs[i].2.1 (fs[i].2.2.1.toNat + 1) := (mem_ticks _ _ t).2 ⟨h1, by omega⟩
        have hasc := ticks_asc fs[i].2.1 (fs[i].2.2.1.toNat + 1)
        rw [he] at h9 hasc
        rcases List.mem_append.1 h9 with h9 | h9
        · exact h9
        · exfalso
          rcases List.mem_cons.1 h9 with h9 | h9
          · omega
          · have := (List.pairwise_cons.1 (List.pairwise_append.1 hasc).2.1).1 t h9
            omega
      have := hn t hmem
      simp only [hf] at this
      simp at this
    · exact hle
theorem set_self {ss : List Int} {i : Nat} (hi : i < ss.length) : ss.set i ss[i] = ss := List.set_getElem_self hi
/-- Who has a slot has one that is no later; who has none may get one. -/
theorem least_no_later {cs : List (ByteArray × Int)} {fs : List Fli} {ss : List Int} (h : fitsB cs fs ss = true) {i : Nat} (hi : i < fs.length) (hi' : i < ss.length) (h0 : 0 ≤ ss[i]) : 0 ≤ leastV cs fs ss i ∧ leastV cs fs ss i ≤ ss[i] := by
  obtain ⟨a, b⟩ := fits_time h hi hi' h0
  obtain ⟨_, hp, hq, _⟩ := (slots_bd (fits_slots h)).2.2.2 i hi
  obtain ⟨c, d⟩ := leastV_le (cs := cs) (ss := ss) hi a b (by rw [set_self hi']; exact h)
  have e := leastV_bd (cs := cs) (ss := ss) hi hq.1 (d hp.1)
  omega
theorem giveOne_fits {cs : List (ByteArray × Int)} {fs : List Fli} {ss : List Int} (h : fitsB cs fs ss = true) {i : Nat} (hi : i < fs.length) : fitsB cs fs (giveOne cs fs ss i) = true := by
  have hi' : i < ss.length := by rw [fits_len h]; exact hi
  unfold giveOne
  by_cases hl : leastV cs fs ss i = -1
  · by_cases h0 : 0 ≤ ss[i]
    · have := least_no_later h hi hi' h0
      omega
    · have h1 := ((slots_bd (fits_slots h)).2.2.1 i hi').1
      have : leastV cs fs ss i = ss[i] := by omega
      rw [this, set_self hi']
      exact h
  · exact least_fits hl

/-- How far each could come ahead at most; who has none, farther than any. -/
def potAt (fs : List Fli) (ss : List Int) (i : Nat) : Nat := if ss.getD i 0 < 0 then 61 else (ss.getD i 0 - (fs.getD i (ByteArray.empty, 0, 0, [])).2.1).toNat
def potTo (fs : List Fli) (ss : List Int) : Nat → Nat
  | 0 => 0
  | k + 1 => potTo fs ss k + potAt fs ss k
def potV (fs : List Fli) (ss : List Int) : Nat := potTo fs ss fs.length
theorem potTo_le {fs : List Fli} {ss ss' : List Int} : ∀ k, (∀ i, i < k → potAt fs ss' i ≤ potAt fs ss i) → potTo fs ss' k ≤ potTo fs ss k
  | 0, _ => Nat.le_refl _
  | k + 1, h => by
    have h1 := potTo_le k (fun i hi => h i (by omega))
    have h2 := h k (by omega)
    unfold potTo
    omega
theorem potTo_lt {fs : List Fli} {ss ss' : List Int} {j : Nat} (hj : potAt fs ss' j < potAt fs ss j) : ∀ k, j < k → (∀ i, i < k → potAt fs ss' i ≤ potAt fs ss i) → potTo fs ss' k < potTo fs ss k
  | 0, h, _ => by omega
  | k + 1, hk, h => by
    have h2 := h k (by omega)
    unfold potTo
    by_cases e : j = k
    · subst e
      have h1 := potTo_le j (fun i hi => h i (by omega))
      omega
    · have h1 := potTo_lt hj k (by omega) (fun i hi => h i (by omega))
      omega
theorem potAt_set_ne {fs : List Fli} {ss : List Int} {i j : Nat} (t : Int) (h : i ≠ j) : potAt fs (ss.set i t) j = potAt fs ss j := by
  unfold potAt
  have : (ss.set i t).getD j 0 = ss.getD j 0 := by simp [List.getD, List.getElem?_set_ne h]
  rw [this]
/-- Whoever comes ahead comes ahead. -/
theorem pot_one {cs : List (ByteArray × Int)} {fs : List Fli} {ss : List Int} (h : fitsB cs fs ss = true) {i : Nat} (hi : i < fs.length) : giveOne cs fs ss i = ss ∨ potV fs (giveOne cs fs ss i) < potV fs ss := by
  have hi' : i < ss.length := by rw [fits_len h]; exact hi
  obtain ⟨_, hp, hq, _⟩ := (slots_bd (fits_slots h)).2.2.2 i hi
  by_cases he : leastV cs fs ss i = ss[i]
  · left
    unfold giveOne
    rw [he, set_self hi']
  · right
    unfold potV giveOne
    have hlt : potAt fs (ss.set i (leastV cs fs ss i)) i < potAt fs ss i := by
      unfold potAt
      rw [getD_at _ i _ (by simpa using hi'), getD_at ss i _ hi', getD_at fs i _ hi, List.getElem_set_self]
      by_cases h0 : 0 ≤ ss[i]
      · obtain ⟨a, b⟩ := least_no_later h hi hi' h0
        obtain ⟨c, d⟩ := fits_time h hi hi' h0
        have e := leastV_bd (cs := cs) (ss := ss) hi hq.1 (by omega)
        rw [if_neg (by omega), if_neg (by omega)]
        omega
      · have h1 := ((slots_bd (fits_slots h)).2.2.1 i hi').1
        have e := leastV_bd (cs := cs) (ss := ss) hi hq.1 (by omega)
        rw [if_neg (by omega), if_pos (by omega)]
        omega
    refine potTo_lt hlt fs.length hi (fun j hj => ?_)
    by_cases e : i = j
    · subst e; omega
    · rw [potAt_set_ne _ e]; exact Nat.le_refl _

/-- One round. -/
def roundV (cs : List (ByteArray × Int)) (fs : List Fli) (ss : List Int) : List Int := (ordTo fs fs.length).foldl (giveOne cs fs) ss
/-- A round's first k. -/
def roundTo (cs : List (ByteArray × Int)) (fs : List Fli) (ss : List Int) (k : Nat) : List Int := ((ordTo fs fs.length).take k).foldl (giveOne cs fs) ss
theorem roundTo_all (cs : List (ByteArray × Int)) (fs : List Fli) (ss : List Int) : roundTo cs fs ss fs.length = roundV cs fs ss := by
  unfold roundTo roundV
  rw [List.take_of_length_le (by rw [ordTo_len]; exact Nat.le_refl _)]
theorem roundTo_succ (cs : List (ByteArray × Int)) (fs : List Fli) (ss : List Int) {k : Nat} (hk : k < fs.length) : roundTo cs fs ss (k + 1) = (roundTo cs fs ss k).set ((ordTo fs fs.length)[k]'(by rw [ordTo_len]; exact hk)) (leastV cs fs (roundTo cs fs ss k) ((ordTo fs fs.length)[k]'(by rw [ordTo_len]; exact hk))) := by
  unfold roundTo
  rw [List.take_succ_eq_append_getElem (by rw [ordTo_len]; exact hk), List.foldl_append]
  rfl
theorem roundTo_len (cs : List (ByteArray × Int)) (fs : List Fli) (ss : List Int) (k : Nat) : (roundTo cs fs ss k).length = ss.length := by
  unfold roundTo
  rw [giveFold_len]
theorem roundV_len (cs : List (ByteArray × Int)) (fs : List Fli) (ss : List Int) : (roundV cs fs ss).length = ss.length := by
  unfold roundV
  rw [giveFold_len]
/-- What holds of each that is no later. -/
def NoLater (ss ss' : List Int) : Prop := ∀ i (h1 : i < ss.length) (h2 : i < ss'.length), 0 ≤ ss[i] → 0 ≤ ss'[i] ∧ ss'[i] ≤ ss[i]
theorem NoLater.refl (ss : List Int) : NoLater ss ss := fun _ _ _ h => ⟨h, Int.le_refl _⟩
theorem NoLater.trans {a b c : List Int} (hl : a.length = b.length) (h : NoLater a b) (k : NoLater b c) : NoLater a c := fun i h1 h2 h0 => by
  obtain ⟨p, q⟩ := h i h1 (by omega) h0
  obtain ⟨r, s⟩ := k i (by omega) h2 p
  exact ⟨r, Int.le_trans s q⟩
theorem one_noLater {cs : List (ByteArray × Int)} {fs : List Fli} {ss : List Int} (h : fitsB cs fs ss = true) {i : Nat} (hi : i < fs.length) : NoLater ss (giveOne cs fs ss i) := fun j h1 h2 h0 => by
  unfold giveOne at *
  by_cases e : i = j
  · subst e
    rw [List.getElem_set_self]
    exact least_no_later h hi h1 h0
  · rw [List.getElem_set_ne e]
    exact ⟨h0, Int.le_refl _⟩
theorem fold_all {cs : List (ByteArray × Int)} {fs : List Fli} : ∀ (l : List Nat) (ss : List Int), (∀ i ∈ l, i < fs.length) → fitsB cs fs ss = true →
    fitsB cs fs (l.foldl (giveOne cs fs) ss) = true ∧ NoLater ss (l.foldl (giveOne cs fs) ss) ∧ potV fs (l.foldl (giveOne cs fs) ss) ≤ potV fs ss ∧ (potV fs (l.foldl (giveOne cs fs) ss) = potV fs ss → l.foldl (giveOne cs fs) ss = ss ∧ ∀ i ∈ l, giveOne cs fs ss i = ss)
  | [], ss, _, h => ⟨h, NoLater.refl ss, Nat.le_refl _, fun _ => ⟨rfl, fun i hi => by simp at hi⟩⟩
  | i :: l, ss, hl, h => by
    have hi := hl i (List.mem_cons_self ..)
    have h1 := giveOne_fits h hi
    obtain ⟨a, b, c, d⟩ := fold_all l (giveOne cs fs ss i) (fun j hj => hl j (List.mem_cons_of_mem _ hj)) h1
    rw [List.foldl_cons]
    refine ⟨a, NoLater.trans (by simp [giveOne]) (one_noLater h hi) b, ?_, fun he => ?_⟩
    · rcases pot_one h hi with e | e
      · rw [e] at c ⊢; exact c
      · omega
    · rcases pot_one h hi with e | e
      · rw [e] at d ⊢
        rw [e] at he
        obtain ⟨x, y⟩ := d he
        refine ⟨x, fun j hj => ?_⟩
        rcases List.mem_cons.1 hj with rfl | hj
        · exact e
        · exact y j hj
      · omega
theorem round_all {cs : List (ByteArray × Int)} {fs : List Fli} {ss : List Int} (h : fitsB cs fs ss = true) :
    fitsB cs fs (roundV cs fs ss) = true ∧ NoLater ss (roundV cs fs ss) ∧ potV fs (roundV cs fs ss) ≤ potV fs ss ∧ (potV fs (roundV cs fs ss) = potV fs ss → roundV cs fs ss = ss ∧ ∀ i ∈ ordTo fs fs.length, giveOne cs fs ss i = ss) :=
  fold_all _ ss (ordTo_lt fs fs.length) h
theorem roundTo_fits {cs : List (ByteArray × Int)} {fs : List Fli} {ss : List Int} (h : fitsB cs fs ss = true) (k : Nat) : fitsB cs fs (roundTo cs fs ss k) = true :=
  (fold_all _ ss (fun i hi => ordTo_lt fs fs.length i (List.mem_of_mem_take hi)) h).1
/-- Nothing has changed up to the k-th, or something has and stays changed. -/
theorem roundTo_same {cs : List (ByteArray × Int)} {fs : List Fli} {ss : List Int} (h : fitsB cs fs ss = true) {k j : Nat} (hkj : k ≤ j) (he : roundTo cs fs ss j = ss) : roundTo cs fs ss k = ss := by
  have h1 := fold_all ((ordTo fs fs.length).take k) ss (fun i hi => ordTo_lt fs fs.length i (List.mem_of_mem_take hi)) h
  have hsp : (ordTo fs fs.length).take j = (ordTo fs fs.length).take k ++ ((ordTo fs fs.length).take j).drop k := by
    have := List.take_append_drop k ((ordTo fs fs.length).take j)
    rw [List.take_take, Nat.min_eq_left hkj] at this
    exact this.symm
  have h2 := fold_all (((ordTo fs fs.length).take j).drop k) (roundTo cs fs ss k) (fun i hi => ordTo_lt fs fs.length i (List.mem_of_mem_take (List.mem_of_mem_drop hi))) h1.1
  have e : roundTo cs fs ss j = (((ordTo fs fs.length).take j).drop k).foldl (giveOne cs fs) (roundTo cs fs ss k) := by
    unfold roundTo
    rw [← List.foldl_append, ← hsp]
  rw [← e, he] at h2
  exact (h1.2.2.2 (Nat.le_antisymm h1.2.2.1 h2.2.2.1)).1
theorem ord_all (fs : List Fli) {i : Nat} (hi : i < fs.length) : i ∈ ordTo fs fs.length := (ordTo_perm fs fs.length).mem_iff.2 (List.mem_range.2 hi)
/-- Nobody can come ahead alone, and who has none can have none. -/
def StableV (cs : List (ByteArray × Int)) (fs : List Fli) (ss : List Int) : Prop := ∀ i (h1 : i < fs.length) (h2 : i < ss.length), leastV cs fs ss i = ss[i]
theorem stable_iff {cs : List (ByteArray × Int)} {fs : List Fli} {ss : List Int} (h : fitsB cs fs ss = true) : StableV cs fs ss ↔ roundV cs fs ss = ss := by
  have hln := fits_len h
  constructor
  · intro hs
    have : ∀ (l : List Nat), (∀ i ∈ l, i < fs.length) → l.foldl (giveOne cs fs) ss = ss := by
      intro l
      induction l with
      | nil => intro _; rfl
      | cons i l ih =>
        intro hl
        have hi := hl i (List.mem_cons_self ..)
        have e : giveOne cs fs ss i = ss := by
          unfold giveOne
          rw [hs i hi (by omega), set_self]
        rw [List.foldl_cons, e]
        exact ih (fun j hj => hl j (List.mem_cons_of_mem _ hj))
    exact this _ (ordTo_lt fs fs.length)
  · intro he i h1 h2
    have := ((round_all h).2.2.2 (by rw [he])).2 i (ord_all fs h1)
    unfold giveOne at this
    have h3 : (ss.set i (leastV cs fs ss i))[i]? = ss[i]? := by rw [this]
    rw [List.getElem?_set_self h2, List.getElem?_eq_getElem h2] at h3
    simpa using h3
theorem pot_round {cs : List (ByteArray × Int)} {fs : List Fli} {ss : List Int} (h : fitsB cs fs ss = true) (hne : roundV cs fs ss ≠ ss) : potV fs (roundV cs fs ss) < potV fs ss := by
  have := round_all h
  rcases Nat.lt_or_ge (potV fs (roundV cs fs ss)) (potV fs ss) with h1 | h1
  · exact h1
  · exact absurd (this.2.2.2 (Nat.le_antisymm this.2.2.1 h1)).1 hne

/-- Rounds, until nothing changes. -/
def compN (cs : List (ByteArray × Int)) (fs : List Fli) : Nat → List Int → List Int
  | 0, ss => ss
  | n + 1, ss => if roundV cs fs ss = ss then ss else compN cs fs n (roundV cs fs ss)
def compV (cs : List (ByteArray × Int)) (fs : List Fli) (ss : List Int) : List Int := compN cs fs (potV fs ss) ss
theorem compN_all {cs : List (ByteArray × Int)} {fs : List Fli} (n : Nat) : ∀ (ss : List Int), fitsB cs fs ss = true → potV fs ss ≤ n →
    roundV cs fs (compN cs fs n ss) = compN cs fs n ss ∧ fitsB cs fs (compN cs fs n ss) = true ∧ NoLater ss (compN cs fs n ss) ∧ (compN cs fs n ss).length = ss.length ∧ compN cs fs n ss = compN cs fs (potV fs ss) ss := by
  induction n using Nat.strongRecOn with
  | ind n IH =>
    intro ss h hp
    cases n with
    | zero =>
      have h0 : roundV cs fs ss = ss := Classical.byContradiction fun hne => by have := pot_round h hne; omega
      have hz : potV fs ss = 0 := by omega
      rw [hz]
      exact ⟨h0, h, NoLater.refl ss, rfl, rfl⟩
    | succ n =>
      by_cases e : roundV cs fs ss = ss
      · have h1 : compN cs fs (n + 1) ss = ss := by unfold compN; rw [if_pos e]
        have h2 : compN cs fs (potV fs ss) ss = ss := by
          cases potV fs ss with
          | zero => rfl
          | succ m => unfold compN; rw [if_pos e]
        rw [h1, h2]
        exact ⟨e, h, NoLater.refl ss, rfl, rfl⟩
      · have hlt := pot_round h e
        obtain ⟨hf, hn, _, _⟩ := round_all h
        have h1 : compN cs fs (n + 1) ss = compN cs fs n (roundV cs fs ss) := by rw [compN, if_neg e]
        obtain ⟨m, hm⟩ : ∃ m, potV fs ss = m + 1 := ⟨potV fs ss - 1, by omega⟩
        have h2 : compN cs fs (potV fs ss) ss = compN cs fs m (roundV cs fs ss) := by rw [hm, compN, if_neg e]
        obtain ⟨a, b, c, d, f⟩ := IH n (by omega) (roundV cs fs ss) hf (by omega)
        have g : compN cs fs m (roundV cs fs ss) = compN cs fs (potV fs (roundV cs fs ss)) (roundV cs fs ss) := (IH m (by omega) (roundV cs fs ss) hf (by omega)).2.2.2.2
        rw [h1, h2, g, ← f]
        refine ⟨a, b, NoLater.trans ?_ hn c, ?_, rfl⟩
        · rw [roundV_len]
        · rw [d, roundV_len]
theorem comp_all {cs : List (ByteArray × Int)} {fs : List Fli} {ss : List Int} (h : fitsB cs fs ss = true) :
    roundV cs fs (compV cs fs ss) = compV cs fs ss ∧ fitsB cs fs (compV cs fs ss) = true ∧ NoLater ss (compV cs fs ss) ∧ (compV cs fs ss).length = ss.length := by
  obtain ⟨a, b, c, d, _⟩ := compN_all (potV fs ss) ss h (Nat.le_refl _)
  exact ⟨a, b, c, d⟩
theorem comp_stop {cs : List (ByteArray × Int)} {fs : List Fli} {ss : List Int} (he : roundV cs fs ss = ss) : compV cs fs ss = ss := by
  unfold compV
  cases potV fs ss with
  | zero => rfl
  | succ m => unfold compN; rw [if_pos he]
theorem comp_round {cs : List (ByteArray × Int)} {fs : List Fli} {ss : List Int} (h : fitsB cs fs ss = true) : compV cs fs (roundV cs fs ss) = compV cs fs ss := by
  by_cases e : roundV cs fs ss = ss
  · rw [e]
  · have hlt := pot_round h e
    obtain ⟨m, hm⟩ : ∃ m, potV fs ss = m + 1 := ⟨potV fs ss - 1, by omega⟩
    have h2 : compV cs fs ss = compN cs fs m (roundV cs fs ss) := by unfold compV; rw [hm, compN, if_neg e]
    rw [h2]
    exact ((compN_all m (roundV cs fs ss) (round_all h).1 (by omega)).2.2.2.2).symm
theorem comp_stable {cs : List (ByteArray × Int)} {fs : List Fli} {ss : List Int} (h : fitsB cs fs ss = true) : StableV cs fs (compV cs fs ss) := (stable_iff (comp_all h).2.1).2 (comp_all h).1
theorem comp_twice {cs : List (ByteArray × Int)} {fs : List Fli} {ss : List Int} (h : fitsB cs fs ss = true) : compV cs fs (compV cs fs ss) = compV cs fs ss := comp_stop (comp_all h).1

end Go.Proofs.YtciacofibljmoaaGreatDoor

/- Plain mathematics of a book: who comes in, and who goes. -/
namespace Go.Proofs.YtciacofibljmoaaGreatDoor

/-- One flight is ok. -/
def oneB (f : Fli) : Bool := nameB f.1 && inB f.2.1 0 10000 && inB f.2.2.1 0 60 && visB f.2.2.2
/-- Flights stand in order. -/
def InOrder (fs : List Fli) : Prop := fs.Pairwise fun f g => f.1.toList < g.1.toList

theorem order_of_steps : ∀ (fs : List Fli), (∀ i (h : i + 1 < fs.length), fs[i].1.toList < fs[i + 1].1.toList) → InOrder fs
  | [], _ => List.Pairwise.nil
  | [f], _ => List.pairwise_singleton _ _
  | f :: g :: fs, h => by
    have ih := order_of_steps (g :: fs) (fun i hi => h (i + 1) (by simpa using hi))
    refine List.Pairwise.cons (fun x hx => ?_) ih
    have h0 : f.1.toList < g.1.toList := h 0 (by simp)
    rcases List.mem_cons.1 hx with rfl | hx
    · exact h0
    · exact List.lt_trans h0 (List.rel_of_pairwise_cons ih hx)
theorem order_at {fs : List Fli} (h : InOrder fs) {i j : Nat} (hij : i < j) (hj : j < fs.length) : (fs[i]'(by omega)).1.toList < fs[j].1.toList := List.pairwise_iff_getElem.1 h i j (by omega) hj hij

/-- Flights are ok, by each and by their order. -/
theorem flis_iff {fs : List Fli} : flisB fs = true ↔ fs.length ≤ 8 ∧ (∀ f ∈ fs, oneB f = true) ∧ InOrder fs := by
  unfold flisB flisTo
  simp only [Bool.and_eq_true, decide_eq_true_eq]
  constructor
  · rintro ⟨h8, h⟩
    refine ⟨h8, fun f hf => ?_, order_of_steps fs fun i hi => ?_⟩
    · obtain ⟨i, hi, rfl⟩ := List.getElem_of_mem hf
      have := all_at h hi
      unfold fliOkAt at this
      rw [getD_at fs i _ hi] at this
      unfold oneB
      simp only [Bool.and_eq_true] at this ⊢
      exact ⟨⟨⟨this.1.1.1.1, this.1.1.2⟩, this.1.2⟩, this.2⟩
    · have := all_at h hi
      unfold fliOkAt at this
      rw [getD_at fs (i + 1) _ hi, show i + 1 - 1 = i by omega, getD_at fs i _ (by omega)] at this
      simp only [Bool.and_eq_true, Bool.or_eq_true, decide_eq_true_eq] at this
      rcases this.1.1.1.2 with h0 | h0
      · omega
      · unfold ahead at h0
        rw [less_eq] at h0
        simpa using h0
  · rintro ⟨h8, h1, h2⟩
    refine ⟨h8, List.all_eq_true.2 fun i hi => ?_⟩
    have hi := List.mem_range.1 hi
    unfold fliOkAt
    rw [getD_at fs i _ hi]
    have := h1 _ (List.getElem_mem hi)
    unfold oneB at this
    simp only [Bool.and_eq_true, Bool.or_eq_true, decide_eq_true_eq] at this ⊢
    refine ⟨⟨⟨⟨this.1.1.1, ?_⟩, this.1.1.2⟩, this.1.2⟩, this.2⟩
    by_cases h0 : i = 0
    · exact .inl h0
    · right
      rw [getD_at fs (i - 1) _ (by omega)]
      unfold ahead
      rw [less_eq]
      exact decide_eq_true (order_at h2 (by omega) hi)
theorem one_iff {f : Fli} : flisB [f] = true ↔ oneB f = true := by
  rw [flis_iff]
  constructor
  · exact fun h => h.2.1 f (List.mem_singleton.2 rfl)
  · exact fun h => ⟨by simp, fun g hg => by rw [List.mem_singleton.1 hg]; exact h, List.pairwise_singleton _ _⟩

/-- Somebody with a slot is there. -/
def fliesB (sec : ByteArray) (t : Int) (p : Fli × Int) : Bool := decide (0 ≤ p.2) && hasB p.1.2.2.2 p.2 sec t
theorem load_zip : ∀ (fs : List Fli) (ss : List Int), ss.length = fs.length → ∀ (sec : ByteArray) (t : Int), loadTo fs ss sec t fs.length = (fs.zip ss).countP (fliesB sec t) := by
  intro fs ss hl sec t
  have key : ∀ k, k ≤ fs.length → loadTo fs ss sec t k = ((fs.zip ss).take k).countP (fliesB sec t) := by
    intro k
    induction k with
    | zero => intro _; simp [loadTo]
    | succ k ih =>
      intro hk
      have hz : k < (fs.zip ss).length := by rw [List.length_zip]; omega
      rw [List.take_succ_eq_append_getElem hz, List.countP_append, ← ih (by omega)]
      unfold loadTo
      rw [List.range_succ, List.filter_append, List.length_append]
      congr 1
      have e : flyAt fs ss sec t k = fliesB sec t (fs.zip ss)[k] := by
        unfold flyAt fliesB
        rw [getD_at fs k _ (by omega), getD_at ss k _ (by omega), List.getElem_zip]
      rw [List.filter_cons, List.countP_cons, List.countP_nil, ← e]
      cases flyAt fs ss sec t k <;> rfl
  have := key fs.length (Nat.le_refl _)
  rw [this, List.take_of_length_le (by rw [List.length_zip]; omega)]

/-- Slots fit, by each flight with its slot. -/
theorem fits_iff {cs : List (ByteArray × Int)} {fs : List Fli} {ss : List Int} : fitsB cs fs ss = true ↔ capsB cs = true ∧ flisB fs = true ∧ ss.length = fs.length ∧ (∀ s ∈ ss, -1 ≤ s ∧ s ≤ 10060) ∧
    (∀ p ∈ fs.zip ss, p.2 < 0 ∨ (p.1.2.1 ≤ p.2 ∧ p.2 ≤ p.1.2.1 + p.1.2.2.1)) ∧ ∀ c ∈ cs, ∀ t : Int, 0 ≤ t → t < 20001 → (((fs.zip ss).countP (fliesB c.1 t) : Nat) : Int) ≤ c.2 := by
  constructor
  · intro h
    have h' := h
    unfold fitsB at h
    simp only [Bool.and_eq_true] at h
    obtain ⟨⟨⟨hc, hs⟩, hT⟩, hr⟩ := h
    have hcap : ∀ i (hi : i < cs.length), 0 ≤ cs[i].2 := fun i hi => ((caps_bd hc).2 i hi).1
    have hr := (room_iff hcap hs).1 hr
    unfold slotsB at hs
    simp only [Bool.and_eq_true, decide_eq_true_eq] at hs
    obtain ⟨⟨hf, hln⟩, hst⟩ := hs
    refine ⟨hc, hf, hln, fun s hs => ?_, fun p hp => ?_, fun c hc t t0 t1 => ?_⟩
    · obtain ⟨i, hi, rfl⟩ := List.getElem_of_mem hs
      have := all_at hst hi
      unfold slotOkAt at this
      rw [getD_at ss i _ hi] at this
      exact inB_iff.1 this
    · obtain ⟨i, hi, rfl⟩ := List.getElem_of_mem hp
      rw [List.length_zip] at hi
      have := all_at hT (k := i) (by omega)
      unfold inTimeAt at this
      rw [getD_at ss i _ (by omega), getD_at fs i _ (by omega), inB_eq] at this
      simp only [Bool.or_eq_true, decide_eq_true_eq] at this
      rw [List.getElem_zip]
      exact this
    · obtain ⟨i, hi, rfl⟩ := List.getElem_of_mem hc
      rw [← load_zip fs ss hln]
      exact hr i hi t t0 t1
  · rintro ⟨hc, hf, hln, h1, h2, h3⟩
    have hs : slotsB fs ss = true := by
      unfold slotsB
      rw [hf, decide_eq_true hln]
      refine List.all_eq_true.2 fun i hi => ?_
      have hi := List.mem_range.1 hi
      unfold slotOkAt
      rw [getD_at ss i _ hi]
      exact inB_iff.2 (h1 _ (List.getElem_mem hi))
    have hcap : ∀ i (hi : i < cs.length), 0 ≤ cs[i].2 := fun i hi => ((caps_bd hc).2 i hi).1
    unfold fitsB
    rw [hc, hs]
    have hT : inTimeB fs ss = true := List.all_eq_true.2 fun i hi => by
      have hi := List.mem_range.1 hi
      unfold inTimeAt
      rw [getD_at ss i _ (by omega), getD_at fs i _ (by omega), inB_eq]
      have := h2 ((fs.zip ss)[i]'(by rw [List.length_zip]; omega)) (List.getElem_mem _)
      rw [List.getElem_zip] at this
      simp only [Bool.or_eq_true, decide_eq_true_eq]
      exact this
    rw [hT, (room_iff hcap hs).2 fun i hi t t0 t1 => by rw [load_zip fs ss hln]; exact h3 _ (List.getElem_mem hi) t t0 t1]
    rfl

/-- Something put into a list at a place. -/
abbrev putAt {α : Type} (l : List α) (k : Nat) (x : α) : List α := l.take k ++ x :: l.drop k
theorem putAt_len {α : Type} (l : List α) (k : Nat) (x : α) : (putAt l k x).length = l.length + 1 := by
  unfold putAt
  simp only [List.length_append, List.length_cons, List.length_take, List.length_drop]
  omega
theorem putAt_mem {α : Type} {l : List α} {k : Nat} {x y : α} : y ∈ putAt l k x ↔ y = x ∨ y ∈ l := by
  have : y ∈ l ↔ y ∈ l.take k ++ l.drop k := by rw [List.take_append_drop]
  rw [this]
  unfold putAt
  simp only [List.mem_append, List.mem_cons]
  constructor
  · rintro (h | h | h)
    · exact .inr (.inl h)
    · exact .inl h
    · exact .inr (.inr h)
  · rintro (h | h | h)
    · exact .inr (.inl h)
    · exact .inl h
    · exact .inr (.inr h)
theorem putAt_self {α : Type} (l : List α) {k : Nat} (hk : k ≤ l.length) (x : α) (h : k < (putAt l k x).length) : (putAt l k x)[k] = x := by
  unfold putAt
  rw [List.getElem_append_right (by rw [List.length_take]; omega)]
  simp [List.length_take, Nat.min_eq_left hk]
theorem putAt_lt {α : Type} (l : List α) {k i : Nat} (hk : k ≤ l.length) (hi : i < k) (x : α) (h : i < (putAt l k x).length) : (putAt l k x)[i] = l[i]'(by omega) := by
  unfold putAt
  rw [List.getElem_append_left (by rw [List.length_take]; omega), List.getElem_take]
theorem putAt_gt {α : Type} (l : List α) {k i : Nat} (hk : k ≤ i) (hi : i < l.length) (x : α) (h : i + 1 < (putAt l k x).length) : (putAt l k x)[i + 1] = l[i] := by
  unfold putAt
  rw [List.getElem_append_right (by rw [List.length_take]; omega)]
  have e : i + 1 - (l.take k).length = (i - k) + 1 := by rw [List.length_take]; omega
  simp only [e, List.getElem_cons_succ, List.getElem_drop]
  congr 1
  omega
theorem zip_putAt {α β : Type} (l : List α) (m : List β) (hl : m.length = l.length) (k : Nat) (x : α) (y : β) : (putAt l k x).zip (putAt m k y) = putAt (l.zip m) k (x, y) := by
  unfold putAt
  rw [List.zip_append (by simp [List.length_take, hl]), List.zip_cons_cons]
  simp only [List.zip, List.take_zipWith, List.drop_zipWith]
theorem putAt_count {α : Type} (l : List α) (k : Nat) (x : α) (p : α → Bool) (hx : p x = false) : (putAt l k x).countP p = l.countP p := by
  unfold putAt
  rw [List.countP_append, List.countP_cons_of_neg (by simp [hx]), ← List.countP_append, List.take_append_drop]

/-- The place of a name among flights. -/
def placeV (fs : List Fli) (nm : ByteArray) : Nat := (fs.takeWhile fun f => decide (f.1.toList < nm.toList)).length
theorem place_le (fs : List Fli) (nm : ByteArray) : placeV fs nm ≤ fs.length := by
  unfold placeV
  exact (List.takeWhile_prefix _).length_le
theorem place_lt {fs : List Fli} {nm : ByteArray} {i : Nat} (hi : i < placeV fs nm) : (fs[i]'(Nat.lt_of_lt_of_le hi (place_le fs nm))).1.toList < nm.toList := by
  unfold placeV at hi
  have := List.all_eq_true.1 (List.all_takeWhile (p := fun f : Fli => decide (f.1.toList < nm.toList)) (l := fs)) _ (List.getElem_mem hi)
  simp only [decide_eq_true_eq] at this
  have e : (fs.takeWhile fun f => decide (f.1.toList < nm.toList))[i] = fs[i]'(Nat.lt_of_lt_of_le hi (List.takeWhile_prefix _).length_le) := (List.takeWhile_prefix _).getElem hi
  rw [e] at this
  exact this
theorem place_ge {fs : List Fli} (ho : InOrder fs) {nm : ByteArray} {i : Nat} (hi : placeV fs nm ≤ i) (h : i < fs.length) : ¬ fs[i].1.toList < nm.toList := by
  have key : ∀ (l : List Fli), InOrder l → ∀ i, placeV l nm ≤ i → ∀ h : i < l.length, ¬ l[i].1.toList < nm.toList := by
    intro l
    induction l with
    | nil => intro _ i _ h; simp at h
    | cons f l ih =>
      intro ho i hi h
      by_cases hf : f.1.toList < nm.toList
      · have e : placeV (f :: l) nm = placeV l nm + 1 := by
          unfold placeV
          rw [List.takeWhile_cons_of_pos (by simpa using hf), List.length_cons]
        rw [e] at hi
        cases i with
        | zero => omega
        | succ i => exact ih (List.Pairwise.of_cons ho) i (by omega) (by simpa using h)
      · cases i with
        | zero => exact hf
        | succ i =>
          intro hc
          have : f.1.toList < (f :: l)[i + 1].1.toList := List.rel_of_pairwise_cons ho (List.getElem_mem _)
          exact hf (List.lt_trans this hc)
  exact key fs ho i hi h
/-- What a place is. -/
theorem place_is {fs : List Fli} {nm : ByteArray} {k : Nat} (ho : InOrder fs) (hk : k ≤ fs.length) (h1 : ∀ i (hi : i < fs.length), i < k → fs[i].1.toList < nm.toList) (h2 : ∀ (hi : k < fs.length), ¬ fs[k].1.toList < nm.toList) : placeV fs nm = k := by
  rcases Nat.lt_trichotomy (placeV fs nm) k with h | h | h
  · exact absurd (h1 _ (by omega) h) (place_ge ho (Nat.le_refl _) (by omega))
  · exact h
  · exact absurd (place_lt h) (h2 (Nat.lt_of_lt_of_le h (place_le fs nm)))
/-- Whether a name is there. -/
def thereB (fs : List Fli) (nm : ByteArray) : Bool := fs.any fun f => decide (f.1.toList = nm.toList)
theorem there_iff {fs : List Fli} (ho : InOrder fs) {nm : ByteArray} : thereB fs nm = true ↔ ∃ h : placeV fs nm < fs.length, fs[placeV fs nm].1.toList = nm.toList := by
  unfold thereB
  rw [List.any_eq_true]
  constructor
  · rintro ⟨f, hf, he⟩
    obtain ⟨i, hi, rfl⟩ := List.getElem_of_mem hf
    have he : fs[i].1.toList = nm.toList := by simpa using he
    have : placeV fs nm = i := place_is ho (by omega) (fun j hj hji => by rw [← he]; exact order_at ho hji hi) (fun _ => by rw [he]; exact List.lt_irrefl _)
    exact ⟨by omega, by simp only [this]; exact he⟩
  · rintro ⟨h, he⟩
    exact ⟨_, List.getElem_mem h, by simpa using he⟩

theorem putAt_order {fs : List Fli} (ho : InOrder fs) {f : Fli} (hn : thereB fs f.1 = false) : InOrder (putAt fs (placeV fs f.1) f) := by
  have hnot : ∀ g ∈ fs, g.1.toList ≠ f.1.toList := fun g hg he => by
    unfold thereB at hn
    have := (List.any_eq_false.1 hn) g hg
    simp [he] at this
  unfold InOrder putAt
  rw [List.pairwise_append]
  refine ⟨List.Pairwise.sublist (List.take_sublist _ _) ho, List.Pairwise.cons (fun g hg => ?_) (List.Pairwise.sublist (List.drop_sublist _ _) ho), fun a ha b hb => ?_⟩
  · obtain ⟨i, hi, rfl⟩ := List.getElem_of_mem hg
    rw [List.length_drop] at hi
    rw [List.getElem_drop]
    have := place_ge ho (nm := f.1) (i := placeV fs f.1 + i) (by omega) (by omega)
    have hne := hnot fs[placeV fs f.1 + i] (List.getElem_mem _)
    rcases Classical.em (f.1.toList < (fs[placeV fs f.1 + i]).1.toList) with h | h
    · exact h
    · exact absurd (List.le_antisymm (List.not_lt.1 h) (List.not_lt.1 this)) hne
  · obtain ⟨i, hi, rfl⟩ := List.getElem_of_mem ha
    rw [List.length_take] at hi
    rw [List.getElem_take]
    have h1 := place_lt (fs := fs) (nm := f.1) (i := i) (by omega)
    rcases List.mem_cons.1 hb with rfl | hb
    · exact h1
    · obtain ⟨j, hj, rfl⟩ := List.getElem_of_mem hb
      rw [List.length_drop] at hj
      rw [List.getElem_drop]
      exact order_at ho (by omega) (by omega)

/-- Who comes in without a slot: all fits as before. -/
theorem put_fits {cs : List (ByteArray × Int)} {fs : List Fli} {ss : List Int} (h : fitsB cs fs ss = true) {f : Fli} (hf : oneB f = true) (h8 : fs.length < 8) (hn : thereB fs f.1 = false) :
    fitsB cs (putAt fs (placeV fs f.1) f) (putAt ss (placeV fs f.1) (-1)) = true := by
  obtain ⟨hc, hfl, hln, h1, h2, h3⟩ := fits_iff.1 h
  obtain ⟨_, g1, g2⟩ := flis_iff.1 hfl
  refine fits_iff.2 ⟨hc, flis_iff.2 ⟨by rw [putAt_len]; omega, fun g hg => ?_, putAt_order g2 hn⟩, by rw [putAt_len, putAt_len, hln], fun s hs => ?_, fun p hp => ?_, fun c hcc t t0 t1 => ?_⟩
  · rcases putAt_mem.1 hg with rfl | hg
    · exact hf
    · exact g1 g hg
  · rcases putAt_mem.1 hs with rfl | hs
    · omega
    · exact h1 s hs
  · rw [zip_putAt fs ss hln] at hp
    rcases putAt_mem.1 hp with rfl | hp
    · exact .inl (by show (-1 : Int) < 0; omega)
    · exact h2 p hp
  · rw [zip_putAt fs ss hln, putAt_count _ _ _ _ (by unfold fliesB; rfl)]
    exact h3 c hcc t t0 t1

theorem zip_eraseIdx {α β : Type} : ∀ (l : List α) (m : List β) (k : Nat), (l.eraseIdx k).zip (m.eraseIdx k) = (l.zip m).eraseIdx k
  | [], m, k => by simp
  | a :: l, [], k => by simp
  | a :: l, b :: m, 0 => by simp
  | a :: l, b :: m, k + 1 => by simp [zip_eraseIdx l m k]
/-- Who goes: the rest fits. -/
theorem drop_fits {cs : List (ByteArray × Int)} {fs : List Fli} {ss : List Int} (h : fitsB cs fs ss = true) (k : Nat) : fitsB cs (fs.eraseIdx k) (ss.eraseIdx k) = true := by
  obtain ⟨hc, hfl, hln, h1, h2, h3⟩ := fits_iff.1 h
  obtain ⟨g0, g1, g2⟩ := flis_iff.1 hfl
  refine fits_iff.2 ⟨hc, flis_iff.2 ⟨Nat.le_trans (List.eraseIdx_sublist _ _).length_le g0, fun g hg => g1 g ((List.eraseIdx_sublist _ _).subset hg), List.Pairwise.sublist (List.eraseIdx_sublist _ _) g2⟩, by simp only [List.length_eraseIdx, hln], fun s hs => h1 s ((List.eraseIdx_sublist _ _).subset hs), fun p hp => ?_, fun c hcc t t0 t1 => ?_⟩
  · rw [zip_eraseIdx] at hp
    exact h2 p ((List.eraseIdx_sublist _ _).subset hp)
  · rw [zip_eraseIdx]
    have := h3 c hcc t t0 t1
    have := (List.eraseIdx_sublist (fs.zip ss) k).countP_le (p := fliesB c.1 t)
    omega

end Go.Proofs.YtciacofibljmoaaGreatDoor
