/- Plain mathematics of the bound: who come at some ticks, let in one behind the other, at most c at one tick. -/
import Derived.Test.YtciacofibljmoabRows
namespace Go.Proofs.Ytciacofibljmoab
theorem getD_eqI {α : Type} (l : List α) (i : Nat) (d : α) (h : i < l.length) : l.getD i d = l[i] := by simp [List.getD, List.getElem?_eq_getElem h]
theorem getD_appI (l m : List Int) (i : Nat) (d : Int) (h : i < l.length) : (l ++ m).getD i d = l.getD i d := by simp [List.getD, List.getElem?_append_left h]
/-- The sum of numbers. -/
def sumI (l : List Int) : Int := l.foldr (· + ·) 0
theorem sumI_cons (a : Int) (l : List Int) : sumI (a :: l) = a + sumI l := rfl
theorem sumI_append (l m : List Int) : sumI (l ++ m) = sumI l + sumI m := by
  induction l with
  | nil => simp [sumI]
  | cons a l ih => rw [List.cons_append, sumI_cons, sumI_cons, ih]; omega
theorem sumI_perm {l m : List Int} (h : l.Perm m) : sumI l = sumI m := by
  induction h with
  | nil => rfl
  | cons a _ ih => rw [sumI_cons, sumI_cons, ih]
  | swap a b l => simp only [sumI_cons]; omega
  | trans _ _ h1 h2 => exact h1.trans h2
theorem sumI_le {l m : List Int} (hl : l.length = m.length) (h : ∀ i (h1 : i < l.length) (h2 : i < m.length), l[i] ≤ m[i]) : sumI l ≤ sumI m := by
  induction l generalizing m with
  | nil => cases m with
    | nil => exact Int.le_refl _
    | cons b m => simp at hl
  | cons a l ih => cases m with
    | nil => simp at hl
    | cons b m =>
      have h0 := h 0 (by simp) (by simp)
      have := ih (m := m) (by simpa using hl) (fun i h1 h2 => h (i + 1) (by simpa using h1) (by simpa using h2))
      simp only [List.getElem_cons_zero] at h0
      rw [sumI_cons, sumI_cons]; omega

/-- A list that goes up. -/
def Up (l : List Int) : Prop := l.Pairwise (· ≤ ·)
theorem up_count {l : List Int} (h : Up l) (x : Int) : ∀ i (hi : i < l.length), l[i] ≤ x ↔ i < l.countP (fun y => decide (y ≤ x)) := by
  induction l with
  | nil => intro i hi; simp at hi
  | cons a l ih =>
    have h1 := (List.pairwise_cons.1 h).1
    have ih := ih (List.pairwise_cons.1 h).2
    intro i hi
    by_cases ha : a ≤ x
    · rw [List.countP_cons_of_pos (by simpa using ha)]
      cases i with
      | zero => simp [ha]
      | succ i =>
        have := ih i (by simpa using hi)
        rw [List.getElem_cons_succ, this]; omega
    · rw [List.countP_cons_of_neg (by simpa using ha)]
      have hz : l.countP (fun y => decide (y ≤ x)) = 0 := by
        rw [List.countP_eq_zero]
        intro y hy
        have := h1 y hy
        simp; omega
      rw [hz]
      constructor
      · intro h9
        exfalso
        cases i with
        | zero => exact ha h9
        | succ i =>
          rw [List.getElem_cons_succ] at h9
          have := h1 _ (List.getElem_mem (show i < l.length by simpa using hi))
          omega
      · intro h9; omega
theorem up_at {l : List Int} (h : Up l) {i j : Nat} (hij : i ≤ j) (hj : j < l.length) : l[i]'(by omega) ≤ l[j] := by
  rcases Nat.lt_or_ge i j with h1 | h1
  · exact List.pairwise_iff_getElem.1 h i j (by omega) hj h1
  · have : i = j := by omega
    subst this
    exact Int.le_refl _

/-- Put in where it belongs. -/
def insUp (l : List Int) (t : Int) : List Int := l.takeWhile (fun y => decide (y ≤ t)) ++ t :: l.dropWhile (fun y => decide (y ≤ t))
theorem insUp_perm (l : List Int) (t : Int) : (insUp l t).Perm (t :: l) := by
  unfold insUp
  have h := List.perm_middle (a := t) (l₁ := l.takeWhile (fun y => decide (y ≤ t))) (l₂ := l.dropWhile (fun y => decide (y ≤ t)))
  rwa [List.takeWhile_append_dropWhile] at h
theorem insUp_cons_le {a t : Int} (l : List Int) (h : a ≤ t) : insUp (a :: l) t = a :: insUp l t := by
  simp [insUp, h]
theorem insUp_cons_gt {a t : Int} (l : List Int) (h : ¬ a ≤ t) : insUp (a :: l) t = t :: a :: l := by
  simp [insUp, h]
theorem insUp_up {l : List Int} (h : Up l) (t : Int) : Up (insUp l t) := by
  induction l with
  | nil => simp [insUp, Up]
  | cons a l ih =>
    obtain ⟨h1, h2⟩ := List.pairwise_cons.1 h
    by_cases ha : a ≤ t
    · rw [insUp_cons_le _ ha]
      refine List.pairwise_cons.2 ⟨fun y hy => ?_, ih h2⟩
      rcases List.mem_cons.1 ((insUp_perm l t).mem_iff.1 hy) with rfl | hy
      · exact ha
      · exact h1 y hy
    · rw [insUp_cons_gt _ ha]
      refine List.pairwise_cons.2 ⟨fun y hy => ?_, h⟩
      rcases List.mem_cons.1 hy with rfl | hy
      · omega
      · have := h1 y hy; omega
def sortUp (l : List Int) : List Int := l.foldl insUp []
theorem foldUp_perm (l : List Int) : ∀ m : List Int, (l.foldl insUp m).Perm (l ++ m) := by
  induction l with
  | nil => intro m; exact List.Perm.refl _
  | cons a l ih =>
    intro m
    refine (ih (insUp m a)).trans ?_
    refine ((List.Perm.append_left l (insUp_perm m a))).trans ?_
    exact List.perm_middle
theorem foldUp_up (l : List Int) : ∀ m : List Int, Up m → Up (l.foldl insUp m) := by
  induction l with
  | nil => intro m h; exact h
  | cons a l ih => intro m h; exact ih _ (insUp_up h a)
theorem sortUp_perm (l : List Int) : (sortUp l).Perm l := by have := foldUp_perm l []; rwa [List.append_nil] at this
theorem sortUp_up (l : List Int) : Up (sortUp l) := foldUp_up l [] List.Pairwise.nil

/-- When each is let in, of those that come at r, at most c at one tick: the first k. -/
def letTo (c : Nat) (r : List Int) : Nat → List Int
  | 0 => []
  | k + 1 => letTo c r k ++ [if c ≤ k ∧ r.getD k 0 ≤ (letTo c r k).getD (k - c) 0 then (letTo c r k).getD (k - c) 0 + 1 else r.getD k 0]
theorem letTo_len (c : Nat) (r : List Int) : ∀ k, (letTo c r k).length = k
  | 0 => rfl
  | k + 1 => by rw [letTo, List.length_append, letTo_len c r k]; rfl
theorem letTo_get (c : Nat) (r : List Int) (d : Int) : ∀ k j i, i < k → (letTo c r (k + j)).getD i d = (letTo c r k).getD i d := by
  intro k j
  induction j with
  | zero => intro i _; rfl
  | succ j ih =>
    intro i hi
    rw [← Nat.add_assoc, letTo, getD_appI _ _ _ _ (by rw [letTo_len]; omega), ih i hi]
/-- The k-th is let in at. -/
def letAt (c : Nat) (r : List Int) (k : Nat) : Int := (letTo c r (k + 1)).getD k 0
theorem letTo_at {c : Nat} {r : List Int} {k i : Nat} (h : i < k) (d : Int) : (letTo c r k).getD i d = letAt c r i := by
  have := letTo_get c r d (i + 1) (k - (i + 1)) i (by omega)
  rw [show i + 1 + (k - (i + 1)) = k by omega] at this
  rw [this]
  unfold letAt
  rw [getD_eqI _ _ _ (by rw [letTo_len]; omega), getD_eqI _ _ _ (by rw [letTo_len]; omega)]
theorem letAt_eq {c : Nat} (hc : 1 ≤ c) (r : List Int) (k : Nat) : letAt c r k = if c ≤ k ∧ r.getD k 0 ≤ letAt c r (k - c) then letAt c r (k - c) + 1 else r.getD k 0 := by
  unfold letAt
  rw [letTo]
  by_cases h : c ≤ k
  · rw [letTo_at (by omega)]
    simp only [List.getD_eq_getElem?_getD]
    rw [List.getElem?_append_right (by rw [letTo_len]; omega), letTo_len, Nat.sub_self]
    rfl
  · rw [if_neg (fun h9 => h h9.1), if_neg (fun h9 => h h9.1)]
    simp only [List.getD_eq_getElem?_getD]
    rw [List.getElem?_append_right (by rw [letTo_len]; omega), letTo_len, Nat.sub_self]
    rfl
theorem letAt_ge {c : Nat} (hc : 1 ≤ c) (r : List Int) (k : Nat) : r.getD k 0 ≤ letAt c r k := by
  rw [letAt_eq hc]
  split
  · rename_i h; omega
  · exact Int.le_refl _
theorem letAt_behind {c : Nat} (hc : 1 ≤ c) (r : List Int) {k : Nat} (hk : c ≤ k) : letAt c r (k - c) + 1 ≤ letAt c r k := by
  rw [letAt_eq hc r k]
  split
  · exact Int.le_refl _
  · rename_i h
    have : ¬ r.getD k 0 ≤ letAt c r (k - c) := fun h9 => h ⟨hk, h9⟩
    omega
/-- No times are earlier. -/
theorem let_least {c : Nat} (hc : 1 ≤ c) {r t : List Int} (hl : r.length = t.length) (ht : Up t) (hle : ∀ i (h1 : i < r.length) (h2 : i < t.length), r[i] ≤ t[i]) (hcap : ∀ x, t.countP (fun y => decide (y = x)) ≤ c) :
    ∀ i (hi : i < t.length), letAt c r i ≤ t[i] := by
  intro i
  induction i using Nat.strongRecOn with
  | ind i ih =>
    intro hi
    rw [letAt_eq hc]
    have h0 : r.getD i 0 ≤ t[i] := by rw [getD_eqI _ _ _ (by omega)]; exact hle i (by omega) hi
    split
    · rename_i h
      have h1 := ih (i - c) (by omega) (by omega)
      have h2 := up_at ht (show i - c ≤ i by omega) hi
      by_cases he : t[i - c]'(by omega) = t[i]
      · exfalso
        have hsub : (t.drop (i - c)).take (c + 1) = List.replicate (c + 1) t[i] := by
          apply List.ext_getElem
          · simp; omega
          · intro j h5 h6
            simp only [List.length_replicate] at h6
            simp only [List.getElem_take, List.getElem_drop, List.getElem_replicate]
            have a1 := up_at ht (show i - c ≤ i - c + j by omega) (by omega)
            have a2 := up_at ht (show i - c + j ≤ i by omega) hi
            omega
        have hcnt := hcap t[i]
        have h7 : ((t.drop (i - c)).take (c + 1)).countP (fun y => decide (y = t[i])) ≤ t.countP (fun y => decide (y = t[i])) :=
          ((List.take_sublist _ _).trans (List.drop_sublist _ _)).countP_le
        rw [hsub, List.countP_replicate, if_pos (by simp)] at h7
        omega
      · omega
    · exact h0
/-- Who come at r, let in at t, each not before it comes, at most c at one tick: all together no earlier than when let in one behind the other. -/
theorem let_sum {c : Nat} (hc : 1 ≤ c) {r t : List Int} (hl : r.length = t.length) (hle : ∀ i (h1 : i < r.length) (h2 : i < t.length), r[i] ≤ t[i]) (hcap : ∀ x, t.countP (fun y => decide (y = x)) ≤ c) :
    sumI (letTo c (sortUp r) r.length) ≤ sumI t := by
  have hp := sortUp_perm t
  rw [← sumI_perm hp]
  have hrl : (sortUp r).length = r.length := (sortUp_perm r).length_eq
  have htl : (sortUp t).length = t.length := hp.length_eq
  have hdom : ∀ i (h1 : i < (sortUp r).length) (h2 : i < (sortUp t).length), (sortUp r)[i] ≤ (sortUp t)[i] := fun i h1 h2 => by
    rw [up_count (sortUp_up r)]
    have h3 := (up_count (sortUp_up t) (sortUp t)[i] i h2).1 (Int.le_refl _)
    generalize (sortUp t)[i] = x at h3
    refine Nat.lt_of_lt_of_le h3 ?_
    rw [(sortUp_perm r).countP_eq, hp.countP_eq]
    clear h3 h1 h2 hrl htl hp hcap
    induction r generalizing t with
    | nil => cases t with
      | nil => exact Nat.le_refl _
      | cons b t => simp at hl
    | cons a r ih => cases t with
      | nil => simp at hl
      | cons b t =>
        have := ih (t := t) (by simpa using hl) (fun i h1 h2 => hle (i + 1) (by simpa using h1) (by simpa using h2))
        have h0 := hle 0 (by simp) (by simp)
        simp only [List.getElem_cons_zero] at h0
        simp only [List.countP_cons]
        by_cases hb : b ≤ x
        · have : a ≤ x := by omega
          simp [hb, this]; assumption
        · have hb' : decide (b ≤ x) = false := decide_eq_false hb
          rw [hb', if_neg (by simp)]
          omega
  have hlt := let_least hc (r := sortUp r) (t := sortUp t) (by omega) (sortUp_up t) hdom (fun x => by rw [hp.countP_eq]; exact hcap x)
  refine sumI_le (by rw [letTo_len]; omega) (fun i h1 h2 => ?_)
  have := hlt i h2
  rw [← letTo_at (k := r.length) (by rw [letTo_len] at h1; exact h1) 0, getD_eqI _ _ _ h1] at this
  exact this

/-- One behind the other, each at the least tick from its own on at which not yet c are let in: that is how they are let in. -/
theorem letAt_up {c : Nat} (hc : 1 ≤ c) {r : List Int} (hr : Up r) : ∀ k, k + 1 < r.length → letAt c r k ≤ letAt c r (k + 1) := by
  intro k
  induction k using Nat.strongRecOn with
  | ind k ih =>
    intro hk
    have h0 : r.getD k 0 ≤ r.getD (k + 1) 0 := by
      rw [getD_eqI _ _ _ (by omega), getD_eqI _ _ _ (by omega)]
      exact up_at hr (by omega) hk
    have h1 := letAt_ge hc r (k + 1)
    rw [letAt_eq hc r k]
    split
    · rename_i h
      have h2 := letAt_behind hc r (show c ≤ k + 1 by omega)
      have h3 := ih (k - c) (by omega) (by omega)
      rw [show k + 1 - c = k - c + 1 by omega] at h2
      omega
    · omega
theorem letAt_mono {c : Nat} (hc : 1 ≤ c) {r : List Int} (hr : Up r) {i j : Nat} (hij : i ≤ j) (hj : j < r.length) : letAt c r i ≤ letAt c r j := by
  induction j with
  | zero => have : i = 0 := by omega
            subst this; exact Int.le_refl _
  | succ j ih =>
    by_cases h : i = j + 1
    · subst h; exact Int.le_refl _
    · exact Int.le_trans (ih (by omega) (by omega)) (letAt_up hc hr j hj)
theorem letAt_late {c : Nat} (hc : 1 ≤ c) {r : List Int} (hr : Up r) : ∀ k, k < r.length → letAt c r k ≤ r.getD k 0 + k := by
  intro k
  induction k using Nat.strongRecOn with
  | ind k ih =>
    intro hk
    rw [letAt_eq hc r k]
    split
    · rename_i h
      have := ih (k - c) (by omega) (by omega)
      have h0 : r.getD (k - c) 0 ≤ r.getD k 0 := by
        rw [getD_eqI _ _ _ (by omega), getD_eqI _ _ _ (by omega)]
        exact up_at hr (by omega) hk
      omega
    · omega
/-- How many of the first k are let in at a tick. -/
def letCount (c : Nat) (r : List Int) (x : Int) (k : Nat) : Nat := ((List.range k).filter fun j => decide (letAt c r j = x)).length
theorem letCount_lt {c : Nat} (hc : 1 ≤ c) {r : List Int} (hr : Up r) {k : Nat} (hk : k < r.length) : letCount c r (letAt c r k) k < c := by
  unfold letCount
  have hsub : (List.range k).filter (fun j => decide (letAt c r j = letAt c r k)) = ((List.range k).filter (fun j => decide (k < j + c))).filter (fun j => decide (letAt c r j = letAt c r k)) := by
    rw [List.filter_filter]
    apply List.filter_congr
    intro j hj
    have hj' := List.mem_range.1 hj
    by_cases h : letAt c r j = letAt c r k
    · have : k < j + c := by
        rcases Nat.lt_or_ge k (j + c) with h9 | h9
        · exact h9
        · exfalso
          have h1 := letAt_mono hc hr (show j ≤ k - c by omega) (by omega)
          have h2 := letAt_behind hc r (show c ≤ k by omega)
          omega
      simp [h, this]
    · simp [h]
  rw [hsub]
  refine Nat.lt_of_le_of_lt (List.length_filter_le _ _) ?_
  have hcnt : ∀ m, ((List.range m).filter (fun j => decide (k < j + c))).length = m - (k + 1 - c) := by
    intro m
    induction m with
    | zero => simp
    | succ m ih =>
      rw [List.range_succ, List.filter_append, List.length_append, ih]
      by_cases h : k < m + c
      · simp [h]; omega
      · simp [h]; omega
  rw [hcnt]
  omega
theorem letCount_full {c : Nat} (hc : 1 ≤ c) {r : List Int} (hr : Up r) {k : Nat} (hk : k < r.length) {x : Int} (h0 : r.getD k 0 ≤ x) (h1 : x < letAt c r k) : c ≤ letCount c r x k := by
  have hdef := letAt_eq hc r k
  have hcond : c ≤ k ∧ r.getD k 0 ≤ letAt c r (k - c) := by
    rcases Classical.em (c ≤ k ∧ r.getD k 0 ≤ letAt c r (k - c)) with h | h
    · exact h
    · rw [if_neg h] at hdef; omega
  rw [if_pos hcond] at hdef
  have hrj : ∀ j, j ≤ k → r.getD j 0 ≤ x := fun j hj => by
    rw [getD_eqI _ _ _ (by omega)] at h0 ⊢
    have := up_at hr hj hk
    omega
  have hex : ∃ m, m ≤ k - c ∧ x ≤ letAt c r m ∧ ∀ j, j < m → letAt c r j < x := by
    have : ∀ n, (∃ m, m ≤ n ∧ x ≤ letAt c r m ∧ ∀ j, j < m → letAt c r j < x) ∨ ∀ j, j ≤ n → letAt c r j < x := by
      intro n
      induction n with
      | zero =>
        by_cases h : x ≤ letAt c r 0
        · exact .inl ⟨0, Nat.le_refl _, h, fun j hj => by omega⟩
        · exact .inr fun j hj => by have : j = 0 := by omega
                                    subst this; omega
      | succ n ih =>
        rcases ih with ⟨m, a, b, d⟩ | ih
        · exact .inl ⟨m, by omega, b, d⟩
        · by_cases h : x ≤ letAt c r (n + 1)
          · exact .inl ⟨n + 1, Nat.le_refl _, h, fun j hj => ih j (by omega)⟩
          · exact .inr fun j hj => by
              by_cases e : j = n + 1
              · subst e; omega
              · exact ih j (by omega)
    rcases this (k - c) with h | h
    · exact h
    · exfalso; have := h (k - c) (Nat.le_refl _); omega
  obtain ⟨m, hm, hxm, hbelow⟩ := hex
  have hat : ∀ j, m ≤ j → j < m + c → letAt c r j = x := by
    intro j hmj hjc
    have h2 : x ≤ letAt c r j := Int.le_trans hxm (letAt_mono hc hr hmj (by omega))
    have h3 := hrj j (by omega)
    have h4 := letAt_eq hc r j
    by_cases h5 : c ≤ j ∧ r.getD j 0 ≤ letAt c r (j - c)
    · rw [if_pos h5] at h4
      have := hbelow (j - c) (by omega)
      omega
    · rw [if_neg h5] at h4
      omega
  unfold letCount
  have hge : ∀ n, m + n ≤ k → n ≤ c → n ≤ ((List.range (m + n)).filter fun j => decide (letAt c r j = x)).length := by
    intro n
    induction n with
    | zero => intro _ _; exact Nat.zero_le _
    | succ n ih =>
      intro h5 h6
      have := ih (by omega) (by omega)
      rw [← Nat.add_assoc, List.range_succ, List.filter_append, List.length_append]
      simp only [List.filter_cons, hat (m + n) (by omega) (by omega), decide_true, if_pos, List.filter_nil, List.length_singleton]
      omega
  refine Nat.le_trans (hge c (by omega) (Nat.le_refl _)) ?_
  have hsplit : List.range k = List.range (m + c) ++ (List.range (k - (m + c))).map (m + c + ·) := by
    rw [← List.range_add]; congr 1; omega
  rw [hsplit, List.filter_append, List.length_append]
  omega

end Go.Proofs.Ytciacofibljmoab
