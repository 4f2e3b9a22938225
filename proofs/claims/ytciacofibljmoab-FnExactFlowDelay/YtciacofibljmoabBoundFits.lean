/- The bound held against slots that fit: nobody is less late together; and who are in one sector for one tick each meet it. -/
import Derived.Test.YtciacofibljmoabBoundMath
import Derived.Test.YtciacofibljmoabLeastMath
import Derived.Test.YtciacofibljmoabCompMath
namespace Go.Proofs.Ytciacofibljmoab

/-- How long behind leaving the first visit to a sector begins. -/
def firstAft (vs : List Vis) (sec : ByteArray) : Option Int := (vs.find? fun v => v.1.toList == sec.toList).map fun v => v.2.1
/-- When a flight is first in a sector, by when it is planned; -1 if it never is. -/
def firstV (f : Fli) (sec : ByteArray) : Int := match firstAft f.2.2.2 sec with
  | some a => f.2.1 + a
  | none => -1
/-- How many a sector can guide, -1 if nothing is said of it. -/
def capOf (cs : List (ByteArray × Int)) (sec : ByteArray) : Int := ((cs.find? fun c => c.1.toList == sec.toList).map fun c => c.2).getD (-1)
def comesAt (fs : List Fli) (p : Nat → Int) (sec : ByteArray) (i : Nat) : List Int := match firstAft (fs.getD i (ByteArray.empty, 0, 0, [])).2.2.2 sec with
  | some a => [p i + a]
  | none => []
/-- When the first k come into a sector, if they leave at p. -/
def comesTo (fs : List Fli) (p : Nat → Int) (sec : ByteArray) : Nat → List Int
  | 0 => []
  | k + 1 => comesTo fs p sec k ++ comesAt fs p sec k
/-- By how much the first k are late. -/
def delTo (fs : List Fli) (ss : List Int) : Nat → Int
  | 0 => 0
  | k + 1 => delTo fs ss k + if 0 ≤ ss.getD k 0 then ss.getD k 0 - planAt fs k else 0
def delayV (fs : List Fli) (ss : List Int) : Int := if slotsB fs ss = true then delTo fs ss fs.length else 0
/-- First ticks in a sector, ascending. -/
def firstsUp (fs : List Fli) (sec : ByteArray) (k : Nat) : List Int := sortUp (comesTo fs (planAt fs) sec k)
def boundV (cs : List (ByteArray × Int)) (fs : List Fli) (sec : ByteArray) : Int :=
  if capsB cs = true ∧ flisB fs = true ∧ 1 ≤ capOf cs sec then sumI (letTo (capOf cs sec).toNat (firstsUp fs sec fs.length) (firstsUp fs sec fs.length).length) - sumI (firstsUp fs sec fs.length) else 0

theorem comes_len (fs : List Fli) (p q : Nat → Int) (sec : ByteArray) : ∀ k, (comesTo fs p sec k).length = (comesTo fs q sec k).length
  | 0 => rfl
  | k + 1 => by
    unfold comesTo
    rw [List.length_append, List.length_append, comes_len fs p q sec k]
    unfold comesAt
    cases firstAft (fs.getD k (ByteArray.empty, 0, 0, [])).2.2.2 sec <;> rfl
theorem comesAt_le (fs : List Fli) (p q : Nat → Int) (sec : ByteArray) (k : Nat) (hk : p k ≤ q k) (i j : Nat) (hij : i = j) (h1 : i < (comesAt fs p sec k).length) (h2 : j < (comesAt fs q sec k).length) : (comesAt fs p sec k)[i] ≤ (comesAt fs q sec k)[j] := by
  subst hij
  cases hf : firstAft (fs.getD k (ByteArray.empty, 0, 0, [])).2.2.2 sec with
  | none =>
    have e : comesAt fs p sec k = [] := by unfold comesAt; rw [hf]
    rw [e] at h1
    simp at h1
  | some a =>
    have e : comesAt fs p sec k = [p k + a] := by unfold comesAt; rw [hf]
    have e' : comesAt fs q sec k = [q k + a] := by unfold comesAt; rw [hf]
    simp only [e, e', List.getElem_singleton]
    omega
theorem comes_le (fs : List Fli) (p q : Nat → Int) (sec : ByteArray) : ∀ k, (∀ i, i < k → p i ≤ q i) → ∀ i (h1 : i < (comesTo fs p sec k).length) (h2 : i < (comesTo fs q sec k).length), (comesTo fs p sec k)[i] ≤ (comesTo fs q sec k)[i]
  | 0, _, i, h1, _ => by simp [comesTo] at h1
  | k + 1, h, i, h1, h2 => by
    have ih := comes_le fs p q sec k (fun i hi => h i (by omega))
    have hl := comes_len fs p q sec k
    have hk := h k (by omega)
    unfold comesTo at h1 h2 ⊢
    by_cases hi : i < (comesTo fs p sec k).length
    · rw [List.getElem_append_left hi, List.getElem_append_left (by omega)]
      exact ih i hi (by omega)
    · rw [List.getElem_append_right (by omega), List.getElem_append_right (by omega)]
      exact comesAt_le fs p q sec k hk _ _ (by omega) _ _
theorem comes_sum (fs : List Fli) (ss : List Int) (sec : ByteArray) : ∀ k, (∀ i, i < k → 0 ≤ ss.getD i 0 ∧ planAt fs i ≤ ss.getD i 0) → sumI (comesTo fs (fun i => ss.getD i 0) sec k) - sumI (comesTo fs (planAt fs) sec k) ≤ delTo fs ss k
  | 0, _ => by simp [comesTo, sumI, delTo]
  | k + 1, h => by
    have ih := comes_sum fs ss sec k (fun i hi => h i (by omega))
    obtain ⟨h0, h1⟩ := h k (by omega)
    unfold comesTo delTo
    rw [sumI_append, sumI_append, if_pos h0]
    unfold comesAt
    cases firstAft (fs.getD k (ByteArray.empty, 0, 0, [])).2.2.2 sec with
    | none => simp only [sumI, List.foldr_nil]; simp only [sumI] at ih; omega
    | some a => simp only [sumI_cons, show sumI [] = 0 from rfl]; omega
theorem first_mem {vs : List Vis} {sec : ByteArray} {a : Int} (h : firstAft vs sec = some a) : ∃ v ∈ vs, v.1.toList = sec.toList ∧ v.2.1 = a := by
  unfold firstAft at h
  cases hf : vs.find? (fun v => v.1.toList == sec.toList) with
  | none => rw [hf] at h; simp at h
  | some v =>
    rw [hf] at h
    simp at h
    exact ⟨v, List.mem_of_find?_eq_some hf, by simpa using List.find?_some hf, h⟩
/-- Who come in at a tick are there then. -/
theorem comes_load {fs : List Fli} {ss : List Int} (hv : ∀ i (hi : i < fs.length), VisBd fs[i].2.2.2) (sec : ByteArray) (x : Int) : ∀ k, k ≤ fs.length → (∀ i, i < k → 0 ≤ ss.getD i 0) → (comesTo fs (fun i => ss.getD i 0) sec k).countP (fun y => decide (y = x)) ≤ loadTo fs ss sec x k
  | 0, _, _ => by simp [comesTo]
  | k + 1, hk, h => by
    have ih := comes_load hv sec x k (by omega) (fun i hi => h i (by omega))
    have h0 := h k (by omega)
    unfold comesTo
    rw [List.countP_append]
    cases hfly : flyAt fs ss sec x k with
    | true =>
      rw [loadTo_yes hfly]
      have : (comesAt fs (fun i => ss.getD i 0) sec k).countP (fun y => decide (y = x)) ≤ 1 := by
        unfold comesAt
        cases firstAft (fs.getD k (ByteArray.empty, 0, 0, [])).2.2.2 sec with
        | none => simp
        | some a => exact Nat.le_trans List.countP_le_length (by simp)
      omega
    | false =>
      rw [loadTo_no hfly]
      have : (comesAt fs (fun i => ss.getD i 0) sec k).countP (fun y => decide (y = x)) = 0 := by
        unfold comesAt
        cases hf : firstAft (fs.getD k (ByteArray.empty, 0, 0, [])).2.2.2 sec with
        | none => simp
        | some a =>
          by_cases he : ss.getD k 0 + a = x
          · exfalso
            obtain ⟨v, hvm, hv1, hv2⟩ := first_mem hf
            have hb : VisBd (fs.getD k (ByteArray.empty, 0, 0, [])).2.2.2 := by rw [getD_at fs k _ (by omega)]; exact hv k (by omega)
            have hb := hb v hvm
            have hh : hasB (fs.getD k (ByteArray.empty, 0, 0, [])).2.2.2 (ss.getD k 0) sec x = true := has_mem.2 ⟨v, hvm, hv1, by omega, by omega⟩
            unfold flyAt at hfly
            rw [hh, decide_eq_true h0] at hfly
            simp at hfly
          · rw [List.countP_singleton, if_neg (by simpa using he)]
      omega
theorem capOf_at {cs : List (ByteArray × Int)} {sec : ByteArray} (h : 0 ≤ capOf cs sec) : ∃ i, ∃ hi : i < cs.length, cs[i].1.toList = sec.toList ∧ cs[i].2 = capOf cs sec := by
  unfold capOf at *
  cases hf : cs.find? (fun c => c.1.toList == sec.toList) with
  | none => rw [hf] at h; simp at h
  | some c =>
    obtain ⟨i, hi, rfl⟩ := List.getElem_of_mem (List.mem_of_find?_eq_some hf)
    exact ⟨i, hi, by simpa using List.find?_some hf, by simp⟩
theorem load_name {fs : List Fli} {ss : List Int} {s s' : ByteArray} (h : s.toList = s'.toList) (t : Int) (k : Nat) : loadTo fs ss s t k = loadTo fs ss s' t k := by
  rw [toList_inj h]
theorem comes_in {fs : List Fli} {ss : List Int} (hv : ∀ i (hi : i < fs.length), VisBd fs[i].2.2.2) (sec : ByteArray) : ∀ k, k ≤ fs.length → (∀ i, i < k → 0 ≤ ss.getD i 0 ∧ ss.getD i 0 ≤ 10060) → ∀ x ∈ comesTo fs (fun i => ss.getD i 0) sec k, 0 ≤ x ∧ x < 20001
  | 0, _, _, x, hx => by simp [comesTo] at hx
  | k + 1, hk, h, x, hx => by
    unfold comesTo at hx
    rcases List.mem_append.1 hx with hx | hx
    · exact comes_in hv sec k (by omega) (fun i hi => h i (by omega)) x hx
    · have h0 := h k (by omega)
      unfold comesAt at hx
      cases hf : firstAft (fs.getD k (ByteArray.empty, 0, 0, [])).2.2.2 sec with
      | none => rw [hf] at hx; simp at hx
      | some a =>
        rw [hf] at hx
        have hx : x = ss.getD k 0 + a := List.mem_singleton.1 hx
        obtain ⟨v, hvm, hv1, hv2⟩ := first_mem hf
        have hb : VisBd (fs.getD k (ByteArray.empty, 0, 0, [])).2.2.2 := by rw [getD_at fs k _ (by omega)]; exact hv k (by omega)
        have hb := hb v hvm
        omega
/-- All together are no less late than the bound of each sector says, if slots fit and all have one. -/
theorem bound_le {cs : List (ByteArray × Int)} {fs : List Fli} {ss : List Int} (h : fitsB cs fs ss = true) (hall : ∀ i (hi : i < ss.length), 0 ≤ ss[i]) (sec : ByteArray) : boundV cs fs sec ≤ delayV fs ss := by
  obtain ⟨hln, h8, hsb, hfb⟩ := slots_bd (fits_slots h)
  have hg : ∀ i, i < fs.length → 0 ≤ ss.getD i 0 ∧ planAt fs i ≤ ss.getD i 0 := fun i hi => by
    have h0 := hall i (by omega)
    rw [getD_at ss i _ (by omega)]
    unfold planAt
    rw [getD_at fs i _ hi]
    exact ⟨h0, (fits_time h hi (by omega) h0).1⟩
  have hd : delayV fs ss = delTo fs ss fs.length := by unfold delayV; rw [if_pos (fits_slots h)]
  have hsum := comes_sum fs ss sec fs.length hg
  have hle := comes_le fs (planAt fs) (fun i => ss.getD i 0) sec fs.length (fun i hi => (hg i hi).2)
  have hlen := comes_len fs (planAt fs) (fun i => ss.getD i 0) sec fs.length
  rw [hd]
  unfold boundV
  split
  · rename_i hc
    obtain ⟨hc1, hc2, hc3⟩ := hc
    obtain ⟨j, hj, hj1, hj2⟩ := capOf_at (cs := cs) (sec := sec) (by omega)
    have hcap : ∀ x, (comesTo fs (fun i => ss.getD i 0) sec fs.length).countP (fun y => decide (y = x)) ≤ (capOf cs sec).toNat := fun x => by
      by_cases hx : x ∈ comesTo fs (fun i => ss.getD i 0) sec fs.length
      · obtain ⟨x0, x1⟩ := comes_in (fun i hi => (hfb i hi).1) sec fs.length (Nat.le_refl _) (fun i hi => ⟨(hg i hi).1, by rw [getD_at ss i _ (by omega)]; exact (hsb i (by omega)).2⟩) x hx
        have h1 := comes_load (fun i hi => (hfb i hi).1) sec x fs.length (Nat.le_refl _) (fun i hi => (hg i hi).1)
        have h2 := fits_load h (fun i hi => ((caps_bd hc1).2 i hi).1) hj x0 x1
        rw [load_name hj1, hj2] at h2
        omega
      · have : (comesTo fs (fun i => ss.getD i 0) sec fs.length).countP (fun y => decide (y = x)) = 0 := by
          rw [List.countP_eq_zero]
          intro y hy hyx
          exact hx (by simpa using (of_decide_eq_true hyx) ▸ hy)
        omega
    have hs := let_sum (c := (capOf cs sec).toNat) (by omega) hlen hle hcap
    have e1 : (firstsUp fs sec fs.length).length = (comesTo fs (planAt fs) sec fs.length).length := (sortUp_perm _).length_eq
    have e2 : sumI (firstsUp fs sec fs.length) = sumI (comesTo fs (planAt fs) sec fs.length) := sumI_perm (sortUp_perm _)
    rw [e1, e2]
    unfold firstsUp
    omega
  · have := comes_sum fs ss sec fs.length hg
    have hnn : ∀ k, k ≤ fs.length → 0 ≤ delTo fs ss k := by
      intro k
      induction k with
      | zero => intro _; exact Int.le_refl _
      | succ k ih =>
        intro hk
        have := ih (by omega)
        obtain ⟨a, b⟩ := hg k (by omega)
        unfold delTo
        rw [if_pos a]
        omega
    exact hnn _ (Nat.le_refl _)

theorem up_unique {l m : List Int} (hl : Up l) (hm : Up m) (hp : l.Perm m) : l = m := by
  apply List.ext_getElem hp.length_eq
  intro i h1 h2
  have a : l[i] ≤ m[i] := by
    rw [up_count hl, hp.countP_eq]
    exact (up_count hm m[i] i h2).1 (Int.le_refl _)
  have b : m[i] ≤ l[i] := by
    rw [up_count hm, ← hp.countP_eq]
    exact (up_count hl l[i] i h1).1 (Int.le_refl _)
  omega
theorem bef_plan {fs : List Fli} {i j : Nat} (h : bef fs i j) : planAt fs i ≤ planAt fs j := by
  unfold bef at h
  rcases h with h | h
  · omega
  · omega

theorem perm_filter_len {l m : List Nat} (h : l.Perm m) (p : Nat → Bool) : (l.filter p).length = (m.filter p).length := (h.filter p).length_eq
theorem ord_range (fs : List Fli) : ordTo fs fs.length = (List.range fs.length).map fun j => (ordTo fs fs.length).getD j 0 := by
  apply List.ext_getElem
  · simp [ordTo_len]
  · intro i h1 h2
    rw [List.getElem_map, List.getElem_range, getD_at _ i _ h1]
theorem sum_range (f g : Nat → Int) : ∀ n, (∀ j, j < n → f j = g j) → sumI ((List.range n).map f) = sumI ((List.range n).map g)
  | 0, _ => rfl
  | n + 1, h => by
    rw [List.range_succ, List.map_append, List.map_append, sumI_append, sumI_append, sum_range f g n (fun j hj => h j (by omega))]
    simp [h n (by omega)]
theorem sum_sub (f g : Nat → Int) : ∀ n, sumI ((List.range n).map fun j => f j - g j) = sumI ((List.range n).map f) - sumI ((List.range n).map g)
  | 0 => rfl
  | n + 1 => by
    rw [List.range_succ, List.map_append, List.map_append, List.map_append, sumI_append, sumI_append, sumI_append, sum_sub f g n]
    simp [sumI]
    omega
theorem letTo_range (c : Nat) (r : List Int) : ∀ k, letTo c r k = (List.range k).map (letAt c r) := by
  intro k
  apply List.ext_getElem
  · simp [letTo_len]
  · intro i h1 h2
    have : i < k := by simpa [letTo_len] using h1
    rw [List.getElem_map, List.getElem_range, ← letTo_at (k := k) this 0, getD_eqI _ _ _ h1]
theorem list_range (r : List Int) : r = (List.range r.length).map fun j => r.getD j 0 := by
  apply List.ext_getElem
  · simp
  · intro i h1 h2
    rw [List.getElem_map, List.getElem_range, getD_eqI _ _ _ h1]
theorem delTo_sum (fs : List Fli) (ss : List Int) : ∀ k, delTo fs ss k = sumI ((List.range k).map fun i => if 0 ≤ ss.getD i 0 then ss.getD i 0 - planAt fs i else 0)
  | 0 => rfl
  | k + 1 => by
    rw [List.range_succ, List.map_append, sumI_append, ← delTo_sum fs ss k]
    simp [delTo, sumI]

/-- The plans, in order. -/
def plansUp (fs : List Fli) : List Int := (ordTo fs fs.length).map (planAt fs)
theorem plansUp_up (fs : List Fli) : Up (plansUp fs) := by
  unfold plansUp Up
  rw [List.pairwise_map]
  exact (ordTo_sorted fs fs.length).imp bef_plan
theorem plansUp_len (fs : List Fli) : (plansUp fs).length = fs.length := by unfold plansUp; rw [List.length_map, ordTo_len]
theorem plansUp_at (fs : List Fli) {j : Nat} (hj : j < fs.length) : (plansUp fs).getD j 0 = planAt fs ((ordTo fs fs.length)[j]'(by rw [ordTo_len]; exact hj)) := by
  rw [getD_eqI _ _ _ (by rw [plansUp_len]; exact hj)]
  unfold plansUp
  rw [List.getElem_map]
theorem has_short {fs : List Fli} {e : ByteArray} (hv : ∀ i (h : i < fs.length), fs[i].2.2.1 = 60 ∧ fs[i].2.2.2 = [(e, 0, 1)]) {o : Nat} (ho : o < fs.length) (t x : Int) : hasB fs[o].2.2.2 t e x = decide (x = t) := by
  rw [(hv o ho).2]
  by_cases h : x = t
  · rw [decide_eq_true h]
    exact has_mem.2 ⟨_, List.mem_singleton.2 rfl, rfl, by simp; omega, by simp; omega⟩
  · rw [decide_eq_false h]
    cases hh : hasB [(e, 0, 1)] t e x with
    | false => rfl
    | true =>
      obtain ⟨v, hvm, _, h1, h2⟩ := has_mem.1 hh
      simp at hvm
      subst hvm
      simp at h1 h2
      omega
/-- How many are there at a tick, when the first k in order have been let in. -/
theorem load_met {fs : List Fli} {e : ByteArray} {c : Nat} (hv : ∀ i (h : i < fs.length), fs[i].2.2.1 = 60 ∧ fs[i].2.2.2 = [(e, 0, 1)]) {gk : List Int} {k : Nat} (hk : k ≤ fs.length) (hl : gk.length = fs.length) (hg : ∀ j (hj : j < (ordTo fs fs.length).length), gk.getD (ordTo fs fs.length)[j] 0 = if j < k then letAt c (plansUp fs) j else -1) {x : Int} (hx : 0 ≤ x) :
    loadTo fs gk e x fs.length = letCount c (plansUp fs) x k := by
  unfold loadTo
  rw [← perm_filter_len (ordTo_perm fs fs.length), ord_range fs, List.filter_map, List.length_map]
  have hfun : ∀ j, j < fs.length → (flyAt fs gk e x ∘ fun j => (ordTo fs fs.length).getD j 0) j = decide (j < k ∧ letAt c (plansUp fs) j = x) := fun j hj => by
    have hjo : j < (ordTo fs fs.length).length := by rw [ordTo_len]; exact hj
    have ho : (ordTo fs fs.length)[j] < fs.length := ordTo_lt fs fs.length _ (List.getElem_mem hjo)
    simp only [Function.comp]
    rw [getD_at _ j _ hjo]
    unfold flyAt
    rw [hg j hjo, getD_at fs _ _ ho, has_short hv ho]
    by_cases h1 : j < k
    · rw [if_pos h1]
      by_cases h2 : letAt c (plansUp fs) j = x
      · rw [decide_eq_true (show 0 ≤ letAt c (plansUp fs) j by omega), decide_eq_true h2.symm, decide_eq_true ⟨h1, h2⟩]; rfl
      · rw [decide_eq_false (show ¬ x = letAt c (plansUp fs) j from fun h => h2 h.symm), decide_eq_false (show ¬ (j < k ∧ letAt c (plansUp fs) j = x) from fun h => h2 h.2), Bool.and_false]
    · rw [if_neg h1, decide_eq_false (show ¬ (0 : Int) ≤ -1 by omega), decide_eq_false (show ¬ (j < k ∧ letAt c (plansUp fs) j = x) from fun h => h1 h.1), Bool.false_and]
  have e1 : (List.range fs.length).filter (flyAt fs gk e x ∘ fun j => (ordTo fs fs.length).getD j 0) = (List.range fs.length).filter (fun j => decide (j < k ∧ letAt c (plansUp fs) j = x)) :=
    List.filter_congr fun j hj => hfun j (List.mem_range.1 hj)
  rw [e1]
  unfold letCount
  have hsplit : List.range fs.length = List.range k ++ (List.range (fs.length - k)).map (k + ·) := by
    rw [← List.range_add]; congr 1; omega
  rw [hsplit, List.filter_append, List.length_append]
  have e2 : ((List.range (fs.length - k)).map (k + ·)).filter (fun j => decide (j < k ∧ letAt c (plansUp fs) j = x)) = [] := by
    rw [List.filter_eq_nil_iff]
    intro j hj
    obtain ⟨m, _, rfl⟩ := List.mem_map.1 hj
    simp only [decide_eq_true_eq]
    omega
  have e3 : (List.range k).filter (fun j => decide (j < k ∧ letAt c (plansUp fs) j = x)) = (List.range k).filter (fun j => decide (letAt c (plansUp fs) j = x)) :=
    List.filter_congr fun j hj => by
      have := List.mem_range.1 hj
      simp [this]
  rw [e2, e3]
  simp
theorem give_met {fs : List Fli} {e : ByteArray} {c : Nat} (hc : 1 ≤ c) (hf : flisB fs = true) (hcs : capsB [(e, (c : Int))] = true) (hv : ∀ i (h : i < fs.length), fs[i].2.2.1 = 60 ∧ fs[i].2.2.2 = [(e, 0, 1)]) : ∀ k, k ≤ fs.length → ∀ j (hj : j < (ordTo fs fs.length).length), (giveTo [(e, (c : Int))] fs k).getD (ordTo fs fs.length)[j] 0 = if j < k then letAt c (plansUp fs) j else -1 := by
  intro k
  induction k with
  | zero =>
    intro _ j hj
    have ho : (ordTo fs fs.length)[j] < fs.length := ordTo_lt fs fs.length _ (List.getElem_mem hj)
    rw [if_neg (by omega), getD_at _ _ _ (by rw [giveTo_len]; exact ho)]
    simp [giveTo]
  | succ k ih =>
    intro hk j hj
    have ih := ih (by omega)
    have hfit := give_fits hcs hf k (by omega)
    have hkn : k < (ordTo fs fs.length).length := by rw [ordTo_len]; omega
    have hnone := give_none [(e, (c : Int))] fs hkn
    have hnd : ∀ j (hj : j < (ordTo fs fs.length).length), j ≠ k → (ordTo fs fs.length)[j] ≠ (ordTo fs fs.length)[k] := fun j hj hjk he => by
      rcases Nat.lt_or_ge j k with h1 | h1
      · exact List.pairwise_iff_getElem.1 (ordTo_nodup fs fs.length) j k hj hkn h1 he
      · exact List.pairwise_iff_getElem.1 (ordTo_nodup fs fs.length) k j hkn hj (by omega) he.symm
    rw [giveTo_succ _ _ (by omega)]
    have hgl : (giveTo [(e, (c : Int))] fs k).length = fs.length := giveTo_len _ _ _
    have hol : (ordTo fs fs.length)[k] < fs.length := ordTo_lt fs fs.length _ (List.getElem_mem hkn)
    have hload := fun (x : Int) (hx : 0 ≤ x) => load_met hv (k := k) (by omega) hgl ih hx
    have hpl : (plansUp fs).getD k 0 = planAt fs (ordTo fs fs.length)[k] := plansUp_at fs (by omega)
    generalize hO : (ordTo fs fs.length)[k] = o at *
    generalize hG : giveTo [(e, (c : Int))] fs k = gk at *
    have hset : gk.set o (-1) = gk := by
      rw [List.getElem?_eq_getElem (by omega)] at hnone
      simp only [Option.some.injEq] at hnone
      rw [← hnone, List.set_getElem_self]
    obtain ⟨h8, hbd⟩ := flis_bd hf
    obtain ⟨_, hp, _⟩ := hbd o hol
    have hplan : planAt fs o = fs[o].2.1 := by unfold planAt; rw [getD_at fs o _ hol]
    have hkr : k < (plansUp fs).length := by rw [plansUp_len]; omega
    have hge := letAt_ge hc (plansUp fs) k
    have hlate := letAt_late hc (plansUp_up fs) k hkr
    rw [hpl, hplan] at hge hlate
    have hiff : ∀ t : Int, fs[o].2.1 ≤ t → t ≤ fs[o].2.1 + 60 → (fitsB [(e, (c : Int))] fs (gk.set o t) = true ↔ letCount c (plansUp fs) t k < c) := fun t t0 t1 => by
      have hs := fits_slots hfit
      have hT : inTimeB fs gk = true := by
        have := hfit
        unfold fitsB at this
        simp only [Bool.and_eq_true] at this
        exact this.1.2
      have hst := slots_set hs (i := o) (t := t) (by omega) (by omega)
      have hcap : ∀ i (hi : i < [(e, (c : Int))].length), 0 ≤ [(e, (c : Int))][i].2 := fun i hi => by
        have : i = 0 := by simp at hi; exact hi
        subst this
        simp
      have e9 : fitsB [(e, (c : Int))] fs (gk.set o t) = roomB [(e, (c : Int))] fs (gk.set o t) := by
        unfold fitsB
        rw [hcs, hst, inTime_set hT hgl hol t0 (by rw [(hv o hol).1]; exact t1)]
        rfl
      rw [e9, room_iff hcap hst]
      have hset2 : ∀ u, loadTo fs (gk.set o t) e u fs.length = loadTo fs gk e u fs.length + if u = t then 1 else 0 := fun u => by
        have := load_set_all fs gk e u hol hgl (t := t) (by omega)
        rw [hset, has_short hv hol] at this
        rw [this]
        simp
      constructor
      · intro hall
        have := hall 0 (by simp) t (by omega) (by omega)
        simp only [List.getElem_cons_zero] at this
        rw [hset2, if_pos rfl, hload t (by omega)] at this
        omega
      · intro hlt i hi u u0 u1
        have : i = 0 := by simp at hi; exact hi
        subst this
        simp only [List.getElem_cons_zero]
        rw [hset2]
        by_cases hu : u = t
        · subst hu
          rw [if_pos rfl, hload u u0]
          omega
        · rw [if_neg hu]
          have := fits_load hfit hcap (i := 0) (by simp) u0 u1
          simpa using this
    have hleast : leastV [(e, (c : Int))] fs gk o = letAt c (plansUp fs) k := by
      have e9 : fs[o].2.1 + (((letAt c (plansUp fs) k - fs[o].2.1).toNat : Nat) : Int) = letAt c (plansUp fs) k := by omega
      have g1 : ∀ i, i < (letAt c (plansUp fs) k - fs[o].2.1).toNat → fitsB [(e, (c : Int))] fs (gk.set o (fs[o].2.1 + (i : Nat))) = false := fun i hi => by
        cases hb : fitsB [(e, (c : Int))] fs (gk.set o (fs[o].2.1 + (i : Nat))) with
        | false => rfl
        | true =>
          exfalso
          have h1 := (hiff _ (by omega) (by omega)).1 hb
          have h2 := letCount_full hc (plansUp_up fs) hkr (x := fs[o].2.1 + (i : Nat)) (by rw [hpl, hplan]; omega) (by omega)
          omega
      have g2 : fitsB [(e, (c : Int))] fs (gk.set o (fs[o].2.1 + (((letAt c (plansUp fs) k - fs[o].2.1).toNat : Nat) : Int))) = true := by
        rw [e9]
        exact (hiff _ (by omega) (by omega)).2 (letCount_lt hc (plansUp_up fs) hkr)
      rw [leastV_at (k := (letAt c (plansUp fs) k - fs[o].2.1).toNat) hol (by rw [(hv o hol).1]; omega) g1 g2, e9]
    by_cases hjk : j = k
    · subst hjk
      rw [hO, if_pos (by omega), getD_at _ _ _ (by rw [List.length_set, hgl]; exact hol), List.getElem_set_self, hleast]
    · have hne := hnd j hj hjk
      have hjl : (ordTo fs fs.length)[j] < fs.length := ordTo_lt fs fs.length _ (List.getElem_mem hj)
      have := ih j hj
      rw [getD_at _ _ _ (by omega)] at this
      rw [getD_at _ _ _ (by rw [List.length_set]; omega), List.getElem_set_ne (fun h => hne h.symm), this]
      by_cases h1 : j < k
      · rw [if_pos h1, if_pos (by omega)]
      · rw [if_neg h1, if_neg (by omega)]
/-- For flights that are in one sector, for one tick each, as soon as they leave, and may be late enough, giving meets the bound. -/
theorem bound_met {fs : List Fli} {e : ByteArray} {c : Nat} (hc : 1 ≤ c) (hf : flisB fs = true) (hcs : capsB [(e, (c : Int))] = true) (hv : ∀ i (h : i < fs.length), fs[i].2.2.1 = 60 ∧ fs[i].2.2.2 = [(e, 0, 1)]) : delayV fs (giveV [(e, (c : Int))] fs) = boundV [(e, (c : Int))] fs e ∧ (giveV [(e, (c : Int))] fs).length = fs.length := by
  have hg : giveV [(e, (c : Int))] fs = giveTo [(e, (c : Int))] fs fs.length := by unfold giveV; rw [if_pos ⟨hcs, hf⟩]
  rw [hg]
  refine ⟨?_, giveTo_len _ _ _⟩
  have hfit := give_fits hcs hf fs.length (Nat.le_refl _)
  have hmet := give_met hc hf hcs hv fs.length (Nat.le_refl _)
  obtain ⟨h8, hbd⟩ := flis_bd hf
  unfold delayV
  rw [if_pos (fits_slots hfit), delTo_sum]
  have hcap : capOf [(e, (c : Int))] e = c := by simp [capOf]
  have hcomes : ∀ k, k ≤ fs.length → comesTo fs (planAt fs) e k = (List.range k).map (planAt fs) := by
    intro k
    induction k with
    | zero => intro _; rfl
    | succ k ih =>
      intro hk
      unfold comesTo
      rw [ih (by omega), List.range_succ, List.map_append]
      have : comesAt fs (planAt fs) e k = [planAt fs k] := by
        unfold comesAt
        rw [getD_at fs k _ (by omega), (hv k (by omega)).2]
        simp [firstAft]
      rw [this]
      rfl
  have hr : firstsUp fs e fs.length = plansUp fs := by
    refine up_unique (sortUp_up _) (plansUp_up fs) ((sortUp_perm _).trans ?_)
    rw [hcomes _ (Nat.le_refl _)]
    exact ((ordTo_perm fs fs.length).map (planAt fs)).symm
  unfold boundV
  rw [if_pos ⟨hcs, hf, by rw [hcap]; omega⟩, hcap, hr, plansUp_len]
  have e1 : sumI (List.map (fun i => if 0 ≤ (giveTo [(e, (c : Int))] fs fs.length).getD i 0 then (giveTo [(e, (c : Int))] fs fs.length).getD i 0 - planAt fs i else 0) (List.range fs.length)) =
      sumI ((List.range fs.length).map fun j => letAt c (plansUp fs) j - (plansUp fs).getD j 0) := by
    rw [← sumI_perm ((ordTo_perm fs fs.length).map _)]
    have hor := ord_range fs
    conv => lhs; rw [hor]
    rw [List.map_map]
    refine sum_range _ _ _ (fun j hj => ?_)
    have hjo : j < (ordTo fs fs.length).length := by rw [ordTo_len]; exact hj
    have ho : (ordTo fs fs.length)[j] < fs.length := ordTo_lt fs fs.length _ (List.getElem_mem hjo)
    simp only [Function.comp]
    rw [getD_at _ j _ hjo, hmet j hjo, if_pos hj, plansUp_at fs hj]
    have hge := letAt_ge hc (plansUp fs) j
    rw [plansUp_at fs hj] at hge
    have hp : 0 ≤ planAt fs (ordTo fs fs.length)[j] := by
      unfold planAt
      rw [getD_at fs _ _ ho]
      exact (hbd _ ho).2.1.1
    rw [if_pos (by omega)]
  rw [e1, sum_sub, letTo_range]
  congr 1
  have hl := list_range (plansUp fs)
  rw [plansUp_len] at hl
  rw [← hl]

end Go.Proofs.Ytciacofibljmoab
