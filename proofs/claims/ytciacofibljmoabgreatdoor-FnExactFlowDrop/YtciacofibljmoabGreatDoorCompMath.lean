/- Plain mathematics of compressing: rounds in which each has its least slot, until nothing changes. -/
import Derived.Test.YtciacofibljmoabGreatDoorGiveMath
namespace Go.Proofs.YtciacofibljmoabGreatDoor

theorem fits_slots {cs : List (ByteArray × Int)} {fs : List Fli} {ss : List Int} (h : fitsB cs fs ss = true) : slotsB fs ss = true := by
  unfold fitsB at h
  simp only [Bool.and_eq_true] at h
  exact h.1.1.2
theorem fits_caps {cs : List (ByteArray × Int)} {fs : List Fli} {ss : List Int} (h : fitsB cs fs ss = true) : capsB cs = true := by
  unfold fitsB at h
  simp only [Bool.and_eq_true] at h
  exact h.1.1.1
theorem fits_flis {cs : List (ByteArray × Int)} {fs : List Fli} {ss : List Int} (h : fitsB cs fs ss = true) : flisB fs = true := by
  have := fits_slots h
  unfold slotsB at this
  simp only [Bool.and_eq_true] at this
  exact this.1.1
theorem fits_len {cs : List (ByteArray × Int)} {fs : List Fli} {ss : List Int} (h : fitsB cs fs ss = true) : ss.length = fs.length := (slots_bd (fits_slots h)).1
theorem fits_time {cs : List (ByteArray × Int)} {fs : List Fli} {ss : List Int} (h : fitsB cs fs ss = true) {i : Nat} (hi : i < fs.length) (hi' : i < ss.length) (h0 : 0 ≤ ss[i]) : fs[i].2.1 ≤ ss[i] ∧ ss[i] ≤ fs[i].2.1 + fs[i].2.2.1 := by
  unfold fitsB at h
  simp only [Bool.and_eq_true] at h
  have := all_at h.1.2 hi
  unfold inTimeAt at this
  rw [getD_at ss i _ hi', getD_at fs i _ hi, inB_eq] at this
  simp only [Bool.or_eq_true, decide_eq_true_eq] at this
  omega

theorem leastV_bd {cs : List (ByteArray × Int)} {fs : List Fli} {ss : List Int} {i : Nat} (hi : i < fs.length) (h0 : 0 ≤ fs[i].2.2.1) (h : leastV cs fs ss i ≠ -1) : fs[i].2.1 ≤ leastV cs fs ss i ∧ leastV cs fs ss i ≤ fs[i].2.1 + fs[i].2.2.1 := by
  unfold leastV at *
  rw [getD_at fs i _ hi] at *
  cases hf : (ticks fs[i].2.1 (fs[i].2.2.1.toNat + 1)).find? (fun t => fitsB cs fs (ss.set i t)) with
  | none => rw [hf] at h; simp at h
  | some t =>
    rw [Option.getD_some]
    have := (mem_ticks _ _ t).1 (List.mem_of_find?_eq_some hf)
    omega
/-- A slot that fits is no earlier than the least. -/
theorem leastV_le {cs : List (ByteArray × Int)} {fs : List Fli} {ss : List Int} {i : Nat} (hi : i < fs.length) {t : Int} (h1 : fs[i].2.1 ≤ t) (h2 : t ≤ fs[i].2.1 + fs[i].2.2.1) (hf : fitsB cs fs (ss.set i t) = true) : leastV cs fs ss i ≤ t ∧ (0 ≤ fs[i].2.1 → leastV cs fs ss i ≠ -1) := by
  unfold leastV
  rw [getD_at fs i _ hi]
  cases hg : (ticks fs[i].2.1 (fs[i].2.2.1.toNat + 1)).find? (fun t => fitsB cs fs (ss.set i t)) with
  | none =>
    rw [List.find?_eq_none] at hg
    exact absurd hf (hg t ((mem_ticks _ _ t).2 ⟨h1, by omega⟩))
  | some u =>
    rw [Option.getD_some]
    have hu := (mem_ticks _ _ u).1 (List.mem_of_find?_eq_some hg)
    refine ⟨?_, by omega⟩
    rcases Int.lt_or_le t u with hlt | hle
    · exfalso
      obtain ⟨_, la, lb, he, hn⟩ := List.find?_eq_some_iff_append.1 hg
      have hmem : t ∈ la := by
        have h9 : t ∈ ticks fs[i].2.1 (fs[i].2.2.1.toNat + 1) := (mem_ticks _ _ t).2 ⟨h1, by omega⟩
        have hasc := ticks_asc fs[i].2.1 (fs[i].2.2.1.toNat + 1)
        rw [he] at h9 hasc
        rcases List.mem_append.1 h9 with h9 | h9
        · exact h9
        · exfalso
          rcases List.mem_cons.1 h9 with h9 | h9
          · omega
          · have := (List.pairwise_cons.1 (List.pairwise_append.1 hasc).2.1).1 t h9
            omega
      have := hn t hmem
      simp only [hf] at this
      simp at this
    · exact hle
theorem set_self {ss : List Int} {i : Nat} (hi : i < ss.length) : ss.set i ss[i] = ss := List.set_getElem_self hi
/-- Who has a slot has one that is no later; who has none may get one. -/
theorem least_no_later {cs : List (ByteArray × Int)} {fs : List Fli} {ss : List Int} (h : fitsB cs fs ss = true) {i : Nat} (hi : i < fs.length) (hi' : i < ss.length) (h0 : 0 ≤ ss[i]) : 0 ≤ leastV cs fs ss i ∧ leastV cs fs ss i ≤ ss[i] := by
  obtain ⟨a, b⟩ := fits_time h hi hi' h0
  obtain ⟨_, hp, hq, _⟩ := (slots_bd (fits_slots h)).2.2.2 i hi
  obtain ⟨c, d⟩ := leastV_le (cs := cs) (ss := ss) hi a b (by rw [set_self hi']; exact h)
  have e := leastV_bd (cs := cs) (ss := ss) hi hq.1 (d hp.1)
  omega
theorem giveOne_fits {cs : List (ByteArray × Int)} {fs : List Fli} {ss : List Int} (h : fitsB cs fs ss = true) {i : Nat} (hi : i < fs.length) : fitsB cs fs (giveOne cs fs ss i) = true := by
  have hi' : i < ss.length := by rw [fits_len h]; exact hi
  unfold giveOne
  by_cases hl : leastV cs fs ss i = -1
  · by_cases h0 : 0 ≤ ss[i]
    · have := least_no_later h hi hi' h0
      omega
    · have h1 := ((slots_bd (fits_slots h)).2.2.1 i hi').1
      have : leastV cs fs ss i = ss[i] := by omega
      rw [this, set_self hi']
      exact h
  · exact least_fits hl

/-- How far each could come ahead at most; who has none, farther than any. -/
def potAt (fs : List Fli) (ss : List Int) (i : Nat) : Nat := if ss.getD i 0 < 0 then 61 else (ss.getD i 0 - (fs.getD i (ByteArray.empty, 0, 0, [])).2.1).toNat
def potTo (fs : List Fli) (ss : List Int) : Nat → Nat
  | 0 => 0
  | k + 1 => potTo fs ss k + potAt fs ss k
def potV (fs : List Fli) (ss : List Int) : Nat := potTo fs ss fs.length
theorem potTo_le {fs : List Fli} {ss ss' : List Int} : ∀ k, (∀ i, i < k → potAt fs ss' i ≤ potAt fs ss i) → potTo fs ss' k ≤ potTo fs ss k
  | 0, _ => Nat.le_refl _
  | k + 1, h => by
    have h1 := potTo_le k (fun i hi => h i (by omega))
    have h2 := h k (by omega)
    unfold potTo
    omega
theorem potTo_lt {fs : List Fli} {ss ss' : List Int} {j : Nat} (hj : potAt fs ss' j < potAt fs ss j) : ∀ k, j < k → (∀ i, i < k → potAt fs ss' i ≤ potAt fs ss i) → potTo fs ss' k < potTo fs ss k
  | 0, h, _ => by omega
  | k + 1, hk, h => by
    have h2 := h k (by omega)
    unfold potTo
    by_cases e : j = k
    · subst e
      have h1 := potTo_le j (fun i hi => h i (by omega))
      omega
    · have h1 := potTo_lt hj k (by omega) (fun i hi => h i (by omega))
      omega
theorem potAt_set_ne {fs : List Fli} {ss : List Int} {i j : Nat} (t : Int) (h : i ≠ j) : potAt fs (ss.set i t) j = potAt fs ss j := by
  unfold potAt
  have : (ss.set i t).getD j 0 = ss.getD j 0 := by simp [List.getD, List.getElem?_set_ne h]
  rw [this]
/-- Whoever comes ahead comes ahead. -/
theorem pot_one {cs : List (ByteArray × Int)} {fs : List Fli} {ss : List Int} (h : fitsB cs fs ss = true) {i : Nat} (hi : i < fs.length) : giveOne cs fs ss i = ss ∨ potV fs (giveOne cs fs ss i) < potV fs ss := by
  have hi' : i < ss.length := by rw [fits_len h]; exact hi
  obtain ⟨_, hp, hq, _⟩ := (slots_bd (fits_slots h)).2.2.2 i hi
  by_cases he : leastV cs fs ss i = ss[i]
  · left
    unfold giveOne
    rw [he, set_self hi']
  · right
    unfold potV giveOne
    have hlt : potAt fs (ss.set i (leastV cs fs ss i)) i < potAt fs ss i := by
      unfold potAt
      rw [getD_at _ i _ (by simpa using hi'), getD_at ss i _ hi', getD_at fs i _ hi, List.getElem_set_self]
      by_cases h0 : 0 ≤ ss[i]
      · obtain ⟨a, b⟩ := least_no_later h hi hi' h0
        obtain ⟨c, d⟩ := fits_time h hi hi' h0
        have e := leastV_bd (cs := cs) (ss := ss) hi hq.1 (by omega)
        rw [if_neg (by omega), if_neg (by omega)]
        omega
      · have h1 := ((slots_bd (fits_slots h)).2.2.1 i hi').1
        have e := leastV_bd (cs := cs) (ss := ss) hi hq.1 (by omega)
        rw [if_neg (by omega), if_pos (by omega)]
        omega
    refine potTo_lt hlt fs.length hi (fun j hj => ?_)
    by_cases e : i = j
    · subst e; omega
    · rw [potAt_set_ne _ e]; exact Nat.le_refl _

/-- One round. -/
def roundV (cs : List (ByteArray × Int)) (fs : List Fli) (ss : List Int) : List Int := (ordTo fs fs.length).foldl (giveOne cs fs) ss
/-- A round's first k. -/
def roundTo (cs : List (ByteArray × Int)) (fs : List Fli) (ss : List Int) (k : Nat) : List Int := ((ordTo fs fs.length).take k).foldl (giveOne cs fs) ss
theorem roundTo_all (cs : List (ByteArray × Int)) (fs : List Fli) (ss : List Int) : roundTo cs fs ss fs.length = roundV cs fs ss := by
  unfold roundTo roundV
  rw [List.take_of_length_le (by rw [ordTo_len]; exact Nat.le_refl _)]
theorem roundTo_succ (cs : List (ByteArray × Int)) (fs : List Fli) (ss : List Int) {k : Nat} (hk : k < fs.length) : roundTo cs fs ss (k + 1) = (roundTo cs fs ss k).set ((ordTo fs fs.length)[k]'(by rw [ordTo_len]; exact hk)) (leastV cs fs (roundTo cs fs ss k) ((ordTo fs fs.length)[k]'(by rw [ordTo_len]; exact hk))) := by
  unfold roundTo
  rw [List.take_succ_eq_append_getElem (by rw [ordTo_len]; exact hk), List.foldl_append]
  rfl
theorem roundTo_len (cs : List (ByteArray × Int)) (fs : List Fli) (ss : List Int) (k : Nat) : (roundTo cs fs ss k).length = ss.length := by
  unfold roundTo
  rw [giveFold_len]
theorem roundV_len (cs : List (ByteArray × Int)) (fs : List Fli) (ss : List Int) : (roundV cs fs ss).length = ss.length := by
  unfold roundV
  rw [giveFold_len]
/-- What holds of each that is no later. -/
def NoLater (ss ss' : List Int) : Prop := ∀ i (h1 : i < ss.length) (h2 : i < ss'.length), 0 ≤ ss[i] → 0 ≤ ss'[i] ∧ ss'[i] ≤ ss[i]
theorem NoLater.refl (ss : List Int) : NoLater ss ss := fun _ _ _ h => ⟨h, Int.le_refl _⟩
theorem NoLater.trans {a b c : List Int} (hl : a.length = b.length) (h : NoLater a b) (k : NoLater b c) : NoLater a c := fun i h1 h2 h0 => by
  obtain ⟨p, q⟩ := h i h1 (by omega) h0
  obtain ⟨r, s⟩ := k i (by omega) h2 p
  exact ⟨r, Int.le_trans s q⟩
theorem one_noLater {cs : List (ByteArray × Int)} {fs : List Fli} {ss : List Int} (h : fitsB cs fs ss = true) {i : Nat} (hi : i < fs.length) : NoLater ss (giveOne cs fs ss i) := fun j h1 h2 h0 => by
  unfold giveOne at *
  by_cases e : i = j
  · subst e
    rw [List.getElem_set_self]
    exact least_no_later h hi h1 h0
  · rw [List.getElem_set_ne e]
    exact ⟨h0, Int.le_refl _⟩
theorem fold_all {cs : List (ByteArray × Int)} {fs : List Fli} : ∀ (l : List Nat) (ss : List Int), (∀ i ∈ l, i < fs.length) → fitsB cs fs ss = true →
    fitsB cs fs (l.foldl (giveOne cs fs) ss) = true ∧ NoLater ss (l.foldl (giveOne cs fs) ss) ∧ potV fs (l.foldl (giveOne cs fs) ss) ≤ potV fs ss ∧ (potV fs (l.foldl (giveOne cs fs) ss) = potV fs ss → l.foldl (giveOne cs fs) ss = ss ∧ ∀ i ∈ l, giveOne cs fs ss i = ss)
  | [], ss, _, h => ⟨h, NoLater.refl ss, Nat.le_refl _, fun _ => ⟨rfl, fun i hi => by simp at hi⟩⟩
  | i :: l, ss, hl, h => by
    have hi := hl i (List.mem_cons_self ..)
    have h1 := giveOne_fits h hi
    obtain ⟨a, b, c, d⟩ := fold_all l (giveOne cs fs ss i) (fun j hj => hl j (List.mem_cons_of_mem _ hj)) h1
    rw [List.foldl_cons]
    refine ⟨a, NoLater.trans (by simp [giveOne]) (one_noLater h hi) b, ?_, fun he => ?_⟩
    · rcases pot_one h hi with e | e
      · rw [e] at c ⊢; exact c
      · omega
    · rcases pot_one h hi with e | e
      · rw [e] at d ⊢
        rw [e] at he
        obtain ⟨x, y⟩ := d he
        refine ⟨x, fun j hj => ?_⟩
        rcases List.mem_cons.1 hj with rfl | hj
        · exact e
        · exact y j hj
      · omega
theorem round_all {cs : List (ByteArray × Int)} {fs : List Fli} {ss : List Int} (h : fitsB cs fs ss = true) :
    fitsB cs fs (roundV cs fs ss) = true ∧ NoLater ss (roundV cs fs ss) ∧ potV fs (roundV cs fs ss) ≤ potV fs ss ∧ (potV fs (roundV cs fs ss) = potV fs ss → roundV cs fs ss = ss ∧ ∀ i ∈ ordTo fs fs.length, giveOne cs fs ss i = ss) :=
  fold_all _ ss (ordTo_lt fs fs.length) h
theorem roundTo_fits {cs : List (ByteArray × Int)} {fs : List Fli} {ss : List Int} (h : fitsB cs fs ss = true) (k : Nat) : fitsB cs fs (roundTo cs fs ss k) = true :=
  (fold_all _ ss (fun i hi => ordTo_lt fs fs.length i (List.mem_of_mem_take hi)) h).1
/-- Nothing has changed up to the k-th, or something has and stays changed. -/
theorem roundTo_same {cs : List (ByteArray × Int)} {fs : List Fli} {ss : List Int} (h : fitsB cs fs ss = true) {k j : Nat} (hkj : k ≤ j) (he : roundTo cs fs ss j = ss) : roundTo cs fs ss k = ss := by
  have h1 := fold_all ((ordTo fs fs.length).take k) ss (fun i hi => ordTo_lt fs fs.length i (List.mem_of_mem_take hi)) h
  have hsp : (ordTo fs fs.length).take j = (ordTo fs fs.length).take k ++ ((ordTo fs fs.length).take j).drop k := by
    have := List.take_append_drop k ((ordTo fs fs.length).take j)
    rw [List.take_take, Nat.min_eq_left hkj] at this
    exact this.symm
  have h2 := fold_all (((ordTo fs fs.length).take j).drop k) (roundTo cs fs ss k) (fun i hi => ordTo_lt fs fs.length i (List.mem_of_mem_take (List.mem_of_mem_drop hi))) h1.1
  have e : roundTo cs fs ss j = (((ordTo fs fs.length).take j).drop k).foldl (giveOne cs fs) (roundTo cs fs ss k) := by
    unfold roundTo
    rw [← List.foldl_append, ← hsp]
  rw [← e, he] at h2
  exact (h1.2.2.2 (Nat.le_antisymm h1.2.2.1 h2.2.2.1)).1
theorem ord_all (fs : List Fli) {i : Nat} (hi : i < fs.length) : i ∈ ordTo fs fs.length := (ordTo_perm fs fs.length).mem_iff.2 (List.mem_range.2 hi)
/-- Nobody can come ahead alone, and who has none can have none. -/
def StableV (cs : List (ByteArray × Int)) (fs : List Fli) (ss : List Int) : Prop := ∀ i (h1 : i < fs.length) (h2 : i < ss.length), leastV cs fs ss i = ss[i]
theorem stable_iff {cs : List (ByteArray × Int)} {fs : List Fli} {ss : List Int} (h : fitsB cs fs ss = true) : StableV cs fs ss ↔ roundV cs fs ss = ss := by
  have hln := fits_len h
  constructor
  · intro hs
    have : ∀ (l : List Nat), (∀ i ∈ l, i < fs.length) → l.foldl (giveOne cs fs) ss = ss := by
      intro l
      induction l with
      | nil => intro _; rfl
      | cons i l ih =>
        intro hl
        have hi := hl i (List.mem_cons_self ..)
        have e : giveOne cs fs ss i = ss := by
          unfold giveOne
          rw [hs i hi (by omega), set_self]
        rw [List.foldl_cons, e]
        exact ih (fun j hj => hl j (List.mem_cons_of_mem _ hj))
    exact this _ (ordTo_lt fs fs.length)
  · intro he i h1 h2
    have := ((round_all h).2.2.2 (by rw [he])).2 i (ord_all fs h1)
    unfold giveOne at this
    have h3 : (ss.set i (leastV cs fs ss i))[i]? = ss[i]? := by rw [this]
    rw [List.getElem?_set_self h2, List.getElem?_eq_getElem h2] at h3
    simpa using h3
theorem pot_round {cs : List (ByteArray × Int)} {fs : List Fli} {ss : List Int} (h : fitsB cs fs ss = true) (hne : roundV cs fs ss ≠ ss) : potV fs (roundV cs fs ss) < potV fs ss := by
  have := round_all h
  rcases Nat.lt_or_ge (potV fs (roundV cs fs ss)) (potV fs ss) with h1 | h1
  · exact h1
  · exact absurd (this.2.2.2 (Nat.le_antisymm this.2.2.1 h1)).1 hne

/-- Rounds, until nothing changes. -/
def compN (cs : List (ByteArray × Int)) (fs : List Fli) : Nat → List Int → List Int
  | 0, ss => ss
  | n + 1, ss => if roundV cs fs ss = ss then ss else compN cs fs n (roundV cs fs ss)
def compV (cs : List (ByteArray × Int)) (fs : List Fli) (ss : List Int) : List Int := compN cs fs (potV fs ss) ss
theorem compN_all {cs : List (ByteArray × Int)} {fs : List Fli} (n : Nat) : ∀ (ss : List Int), fitsB cs fs ss = true → potV fs ss ≤ n →
    roundV cs fs (compN cs fs n ss) = compN cs fs n ss ∧ fitsB cs fs (compN cs fs n ss) = true ∧ NoLater ss (compN cs fs n ss) ∧ (compN cs fs n ss).length = ss.length ∧ compN cs fs n ss = compN cs fs (potV fs ss) ss := by
  induction n using Nat.strongRecOn with
  | ind n IH =>
    intro ss h hp
    cases n with
    | zero =>
      have h0 : roundV cs fs ss = ss := Classical.byContradiction fun hne => by have := pot_round h hne; omega
      have hz : potV fs ss = 0 := by omega
      rw [hz]
      exact ⟨h0, h, NoLater.refl ss, rfl, rfl⟩
    | succ n =>
      by_cases e : roundV cs fs ss = ss
      · have h1 : compN cs fs (n + 1) ss = ss := by unfold compN; rw [if_pos e]
        have h2 : compN cs fs (potV fs ss) ss = ss := by
          cases potV fs ss with
          | zero => rfl
          | succ m => unfold compN; rw [if_pos e]
        rw [h1, h2]
        exact ⟨e, h, NoLater.refl ss, rfl, rfl⟩
      · have hlt := pot_round h e
        obtain ⟨hf, hn, _, _⟩ := round_all h
        have h1 : compN cs fs (n + 1) ss = compN cs fs n (roundV cs fs ss) := by rw [compN, if_neg e]
        obtain ⟨m, hm⟩ : ∃ m, potV fs ss = m + 1 := ⟨potV fs ss - 1, by omega⟩
        have h2 : compN cs fs (potV fs ss) ss = compN cs fs m (roundV cs fs ss) := by rw [hm, compN, if_neg e]
        obtain ⟨a, b, c, d, f⟩ := IH n (by omega) (roundV cs fs ss) hf (by omega)
        have g : compN cs fs m (roundV cs fs ss) = compN cs fs (potV fs (roundV cs fs ss)) (roundV cs fs ss) := (IH m (by omega) (roundV cs fs ss) hf (by omega)).2.2.2.2
        rw [h1, h2, g, ← f]
        refine ⟨a, b, NoLater.trans ?_ hn c, ?_, rfl⟩
        · rw [roundV_len]
        · rw [d, roundV_len]
theorem comp_all {cs : List (ByteArray × Int)} {fs : List Fli} {ss : List Int} (h : fitsB cs fs ss = true) :
    roundV cs fs (compV cs fs ss) = compV cs fs ss ∧ fitsB cs fs (compV cs fs ss) = true ∧ NoLater ss (compV cs fs ss) ∧ (compV cs fs ss).length = ss.length := by
  obtain ⟨a, b, c, d, _⟩ := compN_all (potV fs ss) ss h (Nat.le_refl _)
  exact ⟨a, b, c, d⟩
theorem comp_stop {cs : List (ByteArray × Int)} {fs : List Fli} {ss : List Int} (he : roundV cs fs ss = ss) : compV cs fs ss = ss := by
  unfold compV
  cases potV fs ss with
  | zero => rfl
  | succ m => unfold compN; rw [if_pos he]
theorem comp_round {cs : List (ByteArray × Int)} {fs : List Fli} {ss : List Int} (h : fitsB cs fs ss = true) : compV cs fs (roundV cs fs ss) = compV cs fs ss := by
  by_cases e : roundV cs fs ss = ss
  · rw [e]
  · have hlt := pot_round h e
    obtain ⟨m, hm⟩ : ∃ m, potV fs ss = m + 1 := ⟨potV fs ss - 1, by omega⟩
    have h2 : compV cs fs ss = compN cs fs m (roundV cs fs ss) := by unfold compV; rw [hm, compN, if_neg e]
    rw [h2]
    exact ((compN_all m (roundV cs fs ss) (round_all h).1 (by omega)).2.2.2.2).symm
theorem comp_stable {cs : List (ByteArray × Int)} {fs : List Fli} {ss : List Int} (h : fitsB cs fs ss = true) : StableV cs fs (compV cs fs ss) := (stable_iff (comp_all h).2.1).2 (comp_all h).1
theorem comp_twice {cs : List (ByteArray × Int)} {fs : List Fli} {ss : List Int} (h : fitsB cs fs ss = true) : compV cs fs (compV cs fs ss) = compV cs fs ss := comp_stop (comp_all h).1

end Go.Proofs.YtciacofibljmoabGreatDoor
