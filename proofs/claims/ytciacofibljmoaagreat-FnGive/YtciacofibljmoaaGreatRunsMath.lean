/- Plain mathematics of runs: changes of a load, put in order, give the same runs as a look at every tick. -/
import Derived.Test.YtciacofibljmoaaGreatLoad
namespace Go.Proofs.YtciacofibljmoaaGreat

abbrev Run := Int × Int × Int

/-- One tick of the program's way: changes d; the runs so far, from when on, the load. -/
def stepR (d : Int → Int) (s : List Run × Int × Int) (t : Int) : List Run × Int × Int :=
  if d t = 0 then s else ((if 0 < s.2.2 then s.1 ++ [(s.2.1, t - 1, s.2.2)] else s.1), t, s.2.2 + d t)
/-- One tick of the document's way: the load n; the runs so far. -/
def stepS (n : Int → Int) (out : List Run) (t : Int) : List Run :=
  if n t = 0 then out else
    match out.getLast? with
    | some r => if r.2.1 = t - 1 ∧ r.2.2 = n t then out.dropLast ++ [(r.1, t, r.2.2)] else out ++ [(t, t, n t)]
    | none => out ++ [(t, t, n t)]
def ticks (low : Int) (m : Nat) : List Int := (List.range m).map fun i : Nat => low + (i : Int)
theorem ticks_succ (low : Int) (m : Nat) : ticks low (m + 1) = ticks low m ++ [low + (m : Int)] := by simp [ticks, List.range_succ]
theorem mem_ticks (low : Int) (m : Nat) (x : Int) : x ∈ ticks low m ↔ low ≤ x ∧ x < low + m := by
  simp only [ticks, List.mem_map, List.mem_range]
  constructor
  · rintro ⟨i, hi, rfl⟩; omega
  · rintro ⟨h1, h2⟩; exact ⟨(x - low).toNat, by omega, by omega⟩
theorem ticks_asc (low : Int) : ∀ m : Nat, (ticks low m).Pairwise (· < ·)
  | 0 => by simp [ticks]
  | m + 1 => by
    rw [ticks_succ, List.pairwise_append]
    refine ⟨ticks_asc low m, by simp, fun a ha b hb => ?_⟩
    have := (mem_ticks low m a).1 ha
    simp at hb
    omega

theorem stepS_same {n : Int → Int} {runs : List Run} {fr T ld t : Int} (h0 : n t ≠ 0) (h1 : T = t - 1) (h2 : ld = n t) : stepS n (runs ++ [(fr, T, ld)]) t = runs ++ [(fr, t, ld)] := by
  unfold stepS
  rw [if_neg h0, List.getLast?_concat]
  simp [h1, h2]
theorem stepS_new {n : Int → Int} {out : List Run} {t : Int} (h0 : n t ≠ 0) (h : ∀ r, out.getLast? = some r → ¬ (r.2.1 = t - 1 ∧ r.2.2 = n t)) : stepS n out t = out ++ [(t, t, n t)] := by
  unfold stepS
  rw [if_neg h0]
  cases hl : out.getLast? with
  | none => rfl
  | some r => simp only; rw [if_neg (h r hl)]

/-- The two ways go hand in hand. -/
theorem hand_in_hand (d cum : Int → Int) (low : Int) (h0 : cum (low - 1) = 0) (hs : ∀ t, cum t = cum (t - 1) + d t) (hp : ∀ t, 0 ≤ cum t) : ∀ m : Nat,
    ∃ runs fr, (ticks low m).foldl (stepR d) ([], 0, 0) = (runs, fr, cum (low + m - 1)) ∧
      (ticks low m).foldl (stepS cum) [] = runs ++ (if 0 < cum (low + m - 1) then [(fr, low + m - 1, cum (low + m - 1))] else []) ∧
      (∀ r, runs.getLast? = some r → r.2.1 < fr ∧ fr ≤ low + m - 1)
  | 0 => by
    refine ⟨[], 0, ?_, ?_, by simp⟩
    · simp [ticks, h0]
    · simp [ticks, h0]
  | m + 1 => by
    obtain ⟨runs, fr, e1, e2, hl⟩ := hand_in_hand d cum low h0 hs hp m
    have hst := hs (low + (m : Int))
    have hpt := hp (low + (m : Int))
    have hpT := hp (low + (m : Int) - 1)
    rw [ticks_succ, List.foldl_append, List.foldl_append, e1, e2, List.foldl_cons, List.foldl_nil, List.foldl_cons, List.foldl_nil]
    have eT : low + ((m + 1 : Nat) : Int) - 1 = low + (m : Int) := by omega
    rw [eT]
    generalize hT : low + (m : Int) - 1 = T at *
    have ht : low + (m : Int) = T + 1 := by omega
    rw [ht] at hst hpt ⊢
    have e3 : T + 1 - 1 = T := by omega
    by_cases hd : d (T + 1) = 0
    · have hc : cum (T + 1) = cum T := by omega
      refine ⟨runs, fr, by unfold stepR; rw [if_pos hd, hc], ?_, fun r hr => by have := hl r hr; omega⟩
      by_cases hn : cum (T + 1) = 0
      · rw [if_neg (by omega), if_neg (by omega)]
        unfold stepS; rw [if_pos hn]
      · rw [if_pos (by omega), if_pos (by omega), stepS_same hn (by omega) hc.symm, hc]
    · refine ⟨_, T + 1, by unfold stepR; rw [if_neg hd, ← hst], ?_, ?_⟩
      · simp only [e3]
        by_cases hn : cum (T + 1) = 0
        · rw [if_neg (c := 0 < cum (T + 1)) (by omega), List.append_nil]
          unfold stepS; rw [if_pos hn]
          split <;> simp
        · rw [if_pos (c := 0 < cum (T + 1)) (by omega), stepS_new hn]
          · split <;> simp
          · intro r hr
            split at hr
            · rw [List.getLast?_concat] at hr
              simp at hr
              subst hr
              simp only
              omega
            · rw [List.append_nil] at hr
              have := hl r hr
              omega
      · intro r hr
        simp only [e3] at hr
        split at hr
        · rw [List.getLast?_concat] at hr
          simp at hr
          subst hr
          simp only
          omega
        · have := hl r hr
          omega

/-- Ticks at which nothing changes may be left out. -/
theorem fold_skip (d : Int → Int) : ∀ (l : List Int) (s : List Run × Int × Int), l.foldl (stepR d) s = (l.filter fun t => decide (d t ≠ 0)).foldl (stepR d) s
  | [], s => rfl
  | t :: l, s => by
    by_cases h : d t = 0
    · rw [List.foldl_cons, List.filter_cons_of_neg (by simpa using h), fold_skip d l]
      have : stepR d s t = s := by unfold stepR; rw [if_pos h]
      rw [this]
    · rw [List.foldl_cons, List.filter_cons_of_pos (by simpa using h), List.foldl_cons, fold_skip d l]

theorem asc_eq {l l' : List Int} (h : l.Pairwise (· < ·)) (h' : l'.Pairwise (· < ·)) (hm : ∀ x, x ∈ l ↔ x ∈ l') : l = l' := by
  have nd : ∀ {l : List Int}, l.Pairwise (· < ·) → l.Nodup := fun h => h.imp fun h => by omega
  refine List.Perm.eq_of_pairwise (le := fun a b => a < b) (fun a b _ _ h1 h2 => by omega) h h' ((List.perm_ext_iff_of_nodup (nd h) (nd h')).2 hm)

/-- The keys in order do as well as all ticks. -/
theorem keys_do (d : Int → Int) (ks : List Int) (low : Int) (m : Nat) (hk : ks.Pairwise (· < ·)) (h1 : ∀ x, d x ≠ 0 → x ∈ ks) (h2 : ∀ x, d x ≠ 0 → low ≤ x ∧ x < low + m) (s : List Run × Int × Int) :
    ks.foldl (stepR d) s = (ticks low m).foldl (stepR d) s := by
  rw [fold_skip d ks, fold_skip d (ticks low m)]
  congr 1
  refine asc_eq (hk.filter _) ((ticks_asc low m).filter _) fun x => ?_
  simp only [List.mem_filter, decide_eq_true_eq]
  constructor
  · rintro ⟨_, hx⟩; exact ⟨(mem_ticks low m x).2 (h2 x hx), hx⟩
  · rintro ⟨_, hx⟩; exact ⟨h1 x hx, hx⟩

/-- Changes and loads of spans: from the first number to just ahead of the second. -/
def one (p : Prop) [Decidable p] : Int := if p then 1 else 0
def dAt (sp : List (Int × Int)) (t : Int) : Int := (sp.map fun p => one (t = p.1) - one (t = p.2)).sum
def cumAt (sp : List (Int × Int)) (t : Int) : Int := (sp.map fun p => one (p.1 ≤ t) - one (p.2 ≤ t)).sum
theorem cum_step (sp : List (Int × Int)) (t : Int) : cumAt sp t = cumAt sp (t - 1) + dAt sp t := by
  unfold cumAt dAt
  induction sp with
  | nil => rfl
  | cons p r ih =>
    simp only [List.map_cons, List.sum_cons]
    rw [ih]
    unfold one
    have a : (if p.1 ≤ t then (1 : Int) else 0) = (if p.1 ≤ t - 1 then 1 else 0) + (if t = p.1 then 1 else 0) := by repeat' split <;> omega
    have b : (if p.2 ≤ t then (1 : Int) else 0) = (if p.2 ≤ t - 1 then 1 else 0) + (if t = p.2 then 1 else 0) := by repeat' split <;> omega
    omega
theorem cum_zero (sp : List (Int × Int)) (t : Int) (h : ∀ p ∈ sp, (t < p.1 ∧ t < p.2) ∨ (p.1 ≤ t ∧ p.2 ≤ t)) : cumAt sp t = 0 := by
  unfold cumAt
  induction sp with
  | nil => rfl
  | cons p r ih =>
    simp only [List.map_cons, List.sum_cons]
    rw [ih fun q hq => h q (by simp [hq])]
    have := h p (by simp)
    unfold one
    repeat' split <;> omega
theorem cum_append (a b : List (Int × Int)) (t : Int) : cumAt (a ++ b) t = cumAt a t + cumAt b t := by simp [cumAt, List.sum_append]
theorem dAt_append (a b : List (Int × Int)) (t : Int) : dAt (a ++ b) t = dAt a t + dAt b t := by simp [dAt, List.sum_append]
theorem dAt_mem {sp : List (Int × Int)} {t : Int} (h : dAt sp t ≠ 0) : ∃ p ∈ sp, t = p.1 ∨ t = p.2 := by
  unfold dAt at h
  induction sp with
  | nil => exact absurd rfl h
  | cons p r ih =>
    by_cases hp : t = p.1 ∨ t = p.2
    · exact ⟨p, by simp, hp⟩
    · simp only [List.map_cons, List.sum_cons] at h
      have e : one (t = p.1) - one (t = p.2) = 0 := by unfold one; rw [if_neg (fun h => hp (.inl h)), if_neg (fun h => hp (.inr h))]; rfl
      rw [e, Int.zero_add] at h
      obtain ⟨q, hq, hh⟩ := ih h
      exact ⟨q, by simp [hq], hh⟩

/-- The spans of the first j visits to a sector. -/
def spanV (vs : List Vis) (slot : Int) (sec : ByteArray) (j : Nat) : List (Int × Int) :=
  ((vs.take j).filter fun v => v.1.toList == sec.toList).map fun v => (slot + v.2.1, slot + v.2.1 + v.2.2)
theorem spanV_zero (vs : List Vis) (slot : Int) (sec : ByteArray) : spanV vs slot sec 0 = [] := rfl
theorem spanV_yes {vs : List Vis} {slot : Int} {sec : ByteArray} {j : Nat} (hj : j < vs.length) (h : (vs[j].1.toList == sec.toList) = true) : spanV vs slot sec (j + 1) = spanV vs slot sec j ++ [(slot + vs[j].2.1, slot + vs[j].2.1 + vs[j].2.2)] := by
  unfold spanV
  rw [List.take_succ_eq_append_getElem hj, List.filter_append]
  simp [h]
theorem spanV_no {vs : List Vis} {slot : Int} {sec : ByteArray} {j : Nat} (hj : j < vs.length) (h : (vs[j].1.toList == sec.toList) = false) : spanV vs slot sec (j + 1) = spanV vs slot sec j := by
  unfold spanV
  rw [List.take_succ_eq_append_getElem hj, List.filter_append]
  simp [h]

theorem vis_at {vs : List Vis} (hv : visTo vs vs.length = true) {j : Nat} (hj : j < vs.length) : (freeAt vs j ≤ vs[j].2.1 ∧ vs[j].2.1 ≤ 200) ∧ 1 ≤ vs[j].2.2 ∧ vs[j].2.2 ≤ 30 := by
  have hk : visTo vs j = true := by
    unfold visTo
    rw [List.all_eq_true]
    intro i hi
    exact all_at hv (Nat.lt_trans (List.mem_range.1 hi) hj)
  have := all_at hv hj
  rw [vis_free hk hj] at this
  simp only [Bool.and_eq_true] at this
  exact ⟨inB_iff.1 this.1.2, inB_iff.1 this.2⟩
theorem free_mono {vs : List Vis} (hv : visTo vs vs.length = true) {j : Nat} (hj : j < vs.length) : freeAt vs j + 1 ≤ freeAt vs (j + 1) := by
  have := vis_at hv hj
  rw [freeAt_succ vs j hj]
  omega

theorem inB_eq (n lo hi : Int) : inB n lo hi = decide (lo ≤ n ∧ n ≤ hi) := by simp [inB]
/-- Of one flight at most one visit covers a tick. -/
theorem cum_flight {vs : List Vis} (hv : visTo vs vs.length = true) (slot : Int) (sec : ByteArray) (t : Int) : ∀ j, j ≤ vs.length →
    (cumAt (spanV vs slot sec j) t = 0 ∧ ∀ i, i < j → hasAt vs slot sec t i = false) ∨ (cumAt (spanV vs slot sec j) t = 1 ∧ (∃ i, i < j ∧ hasAt vs slot sec t i = true) ∧ t < slot + freeAt vs j)
  | 0, _ => .inl ⟨rfl, fun i hi => by omega⟩
  | j + 1, hj => by
    have hjl : j < vs.length := by omega
    have hA : hasAt vs slot sec t j = ((vs[j].1.toList == sec.toList) && inB t (slot + vs[j].2.1) (slot + vs[j].2.1 + vs[j].2.2 - 1)) := by
      unfold hasAt
      rw [getD_at vs j _ hjl]
    have hb := vis_at hv hjl
    have hf := freeAt_succ vs j hjl
    have ext : (∀ i, i < j → hasAt vs slot sec t i = false) → hasAt vs slot sec t j = false → ∀ i, i < j + 1 → hasAt vs slot sec t i = false := fun h h2 i hi => by
      by_cases e : i = j
      · rw [e]; exact h2
      · exact h i (by omega)
    cases hq : (vs[j].1.toList == sec.toList)
    · rw [spanV_no hjl hq]
      rw [hq] at hA
      rcases cum_flight hv slot sec t j (by omega) with ⟨h1, h2⟩ | ⟨h1, ⟨i, hi, h2⟩, h3⟩
      · exact .inl ⟨h1, ext h2 hA⟩
      · exact .inr ⟨h1, ⟨i, by omega, h2⟩, by omega⟩
    · rw [spanV_yes hjl hq, cum_append]
      rw [hq, Bool.true_and, inB_eq] at hA
      have e1 : cumAt [(slot + vs[j].2.1, slot + vs[j].2.1 + vs[j].2.2)] t = if slot + vs[j].2.1 ≤ t ∧ t ≤ slot + vs[j].2.1 + vs[j].2.2 - 1 then 1 else 0 := by
        simp only [cumAt, List.map_cons, List.map_nil, List.sum_cons, List.sum_nil, one]
        repeat' split <;> omega
      rw [e1]
      rcases cum_flight hv slot sec t j (by omega) with ⟨h1, h2⟩ | ⟨h1, ⟨i, hi, h2⟩, h3⟩
      · by_cases hin : slot + vs[j].2.1 ≤ t ∧ t ≤ slot + vs[j].2.1 + vs[j].2.2 - 1
        · rw [decide_eq_true hin] at hA
          exact .inr ⟨by rw [if_pos hin]; omega, ⟨j, by omega, hA⟩, by omega⟩
        · rw [decide_eq_false hin] at hA
          exact .inl ⟨by rw [if_neg hin]; omega, ext h2 hA⟩
      · exact .inr ⟨by rw [if_neg (by omega)]; omega, ⟨i, by omega, h2⟩, by omega⟩

theorem cum_has {vs : List Vis} (hv : visTo vs vs.length = true) (slot : Int) (sec : ByteArray) (t : Int) : cumAt (spanV vs slot sec vs.length) t = if hasB vs slot sec t = true then 1 else 0 := by
  rcases cum_flight hv slot sec t vs.length (Nat.le_refl _) with ⟨h1, h2⟩ | ⟨h1, ⟨i, hi, h2⟩, _⟩
  · rw [h1]
    unfold hasB
    rw [any_no h2]
    rfl
  · rw [h1]
    unfold hasB
    rw [any_yes hi h2]
    rfl

/-- The spans of the flights ahead of k. -/
def spansOne (fs : List Fli) (ss : List Int) (sec : ByteArray) (i : Nat) : List (Int × Int) :=
  if 0 ≤ ss.getD i 0 then spanV (fs.getD i (ByteArray.empty, 0, 0, [])).2.2.2 (ss.getD i 0) sec (fs.getD i (ByteArray.empty, 0, 0, [])).2.2.2.length else []
def spansTo (fs : List Fli) (ss : List Int) (sec : ByteArray) (k : Nat) : List (Int × Int) := (List.range k).flatMap (spansOne fs ss sec)
theorem spansTo_succ (fs : List Fli) (ss : List Int) (sec : ByteArray) (k : Nat) : spansTo fs ss sec (k + 1) = spansTo fs ss sec k ++ spansOne fs ss sec k := by
  simp [spansTo, List.range_succ, List.flatMap_append]

/-- All flights' visits are ok. -/
def AllVis (fs : List Fli) : Prop := ∀ i (hi : i < fs.length), visTo fs[i].2.2.2 fs[i].2.2.2.length = true
theorem cum_load {fs : List Fli} (hv : AllVis fs) (ss : List Int) (sec : ByteArray) (t : Int) : ∀ k, k ≤ fs.length → cumAt (spansTo fs ss sec k) t = (loadTo fs ss sec t k : Nat)
  | 0, _ => rfl
  | k + 1, hk => by
    rw [spansTo_succ, cum_append, cum_load hv ss sec t k (by omega)]
    have hkl : k < fs.length := by omega
    unfold spansOne
    rw [getD_at fs k _ hkl]
    have hF : flyAt fs ss sec t k = (decide (0 ≤ ss.getD k 0) && hasB fs[k].2.2.2 (ss.getD k 0) sec t) := by
      unfold flyAt
      rw [getD_at fs k _ hkl]
    by_cases hz : 0 ≤ ss.getD k 0
    · rw [if_pos hz, cum_has (hv k hkl)]
      rw [decide_eq_true hz, Bool.true_and] at hF
      by_cases hh : hasB fs[k].2.2.2 (ss.getD k 0) sec t = true
      · rw [if_pos hh, loadTo_yes (by rw [hF, hh])]; omega
      · rw [if_neg hh, loadTo_no (by rw [hF]; simpa using hh)]; omega
    · rw [if_neg hz]
      rw [decide_eq_false hz] at hF
      rw [loadTo_no hF]
      simp [cumAt]

end Go.Proofs.YtciacofibljmoaaGreat
