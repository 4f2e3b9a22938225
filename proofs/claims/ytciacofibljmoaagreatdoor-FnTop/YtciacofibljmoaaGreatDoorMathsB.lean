/- Plain mathematics of runs: they are the loads, tick by tick; slots that fit leave no sector with more than it can guide. -/
import Derived.Test.YtciacofibljmoaaGreatDoorFitsAll
import Derived.Test.YtciacofibljmoaaGreatDoorMaths
import Derived.WideShapes
namespace Go.Proofs.YtciacofibljmoaaGreatDoor

theorem at_end {α : Type} (l : List α) (x : α) (h : l.length < (l ++ [x]).length) : (l ++ [x])[l.length] = x := by simp
/-- Runs of a load n, of all ticks ahead of T. -/
def Good (n : Int → Int) (T : Int) (out : List Run) : Prop :=
  (∀ i (_ : i < out.length), 0 ≤ out[i].1 ∧ out[i].1 ≤ out[i].2.1 ∧ out[i].2.1 < T ∧ out[i].2.2 ≠ 0 ∧ ∀ t, out[i].1 ≤ t → t ≤ out[i].2.1 → n t = out[i].2.2) ∧
  (∀ i (_ : i + 1 < out.length), out[i].2.1 < out[i + 1].1 ∧ ¬ (out[i + 1].1 = out[i].2.1 + 1 ∧ out[i + 1].2.2 = out[i].2.2)) ∧
  ∀ t, 0 ≤ t → t < T → n t ≠ 0 → ∃ i, ∃ _ : i < out.length, out[i].1 ≤ t ∧ t ≤ out[i].2.1

theorem good_step {n : Int → Int} {t : Int} {out : List Run} (h : Good n t out) (h0 : 0 ≤ t) : Good n (t + 1) (stepS n out t) := by
  obtain ⟨h1, h2, h3⟩ := h
  by_cases hn : n t = 0
  · unfold stepS
    rw [if_pos hn]
    refine ⟨fun i hi => ?_, h2, fun s s0 s1 hs => ?_⟩
    · obtain ⟨a, b, c, d, e⟩ := h1 i hi
      exact ⟨a, b, by omega, d, e⟩
    · have : s ≠ t := by rintro rfl; exact hs hn
      exact h3 s s0 (by omega) hs
  · rcases List.eq_nil_or_concat out with rfl | ⟨runs, r, rfl⟩
    · rw [stepS_new hn (by simp)]
      refine ⟨fun i hi => ?_, fun i hi => by simp at hi, fun s s0 s1 hs => ?_⟩
      · have : i = 0 := by simpa using hi
        subst this
        refine ⟨h0, by simp, by simp; omega, hn, fun s a b => ?_⟩
        have : s = t := by simp at a b; omega
        subst this
        rfl
      · by_cases he : s = t
        · subst he; exact ⟨0, by simp, by simp⟩
        · obtain ⟨i, hi, _⟩ := h3 s s0 (by omega) hs
          simp at hi
    · obtain ⟨fr, T, ld⟩ := r
      simp only [List.concat_eq_append] at *
      have hlast := h1 runs.length (by simp)
      simp only [at_end] at hlast
      obtain ⟨l0, l1, l2, l3, l4⟩ := hlast
      by_cases hm : T = t - 1 ∧ ld = n t
      · rw [stepS_same hn hm.1 hm.2]
        refine ⟨fun i hi => ?_, fun i hi => ?_, fun s s0 s1 hs => ?_⟩
        · by_cases hi' : i < runs.length
          · have := h1 i (by simp; omega)
            simp only [List.getElem_append_left hi'] at this ⊢
            obtain ⟨a, b, c, d, e⟩ := this
            exact ⟨a, b, by omega, d, e⟩
          · have : i = runs.length := by simp at hi; omega
            subst this
            simp only [at_end]
            refine ⟨l0, by omega, by omega, l3, fun s a b => ?_⟩
            by_cases he : s = t
            · subst he; exact hm.2.symm
            · exact l4 s a (by omega)
        · have hi' : i < runs.length := by simp at hi; omega
          have := h2 i (by simp; omega)
          by_cases hi2 : i + 1 < runs.length
          · simp only [List.getElem_append_left hi', List.getElem_append_left hi2] at this ⊢
            exact this
          · have he : i + 1 = runs.length := by simp at hi; omega
            simp only [List.getElem_append_left hi'] at this ⊢
            rw [List.getElem_append_right (by omega)] at this ⊢
            simp only [show i + 1 - runs.length = 0 by omega, List.getElem_cons_zero] at this ⊢
            exact this
        · by_cases he : s = t
          · exact ⟨runs.length, by simp, by simp only [at_end]; omega⟩
          · obtain ⟨i, hi, a, b⟩ := h3 s s0 (by omega) hs
            refine ⟨i, by simpa using hi, ?_⟩
            by_cases hi' : i < runs.length
            · simp only [List.getElem_append_left hi'] at a b ⊢
              exact ⟨a, b⟩
            · have : i = runs.length := by simp at hi; omega
              subst this
              simp only [at_end] at a b ⊢
              omega
      · rw [stepS_new hn (by intro r hr; rw [List.getLast?_concat] at hr; simp at hr; subst hr; exact hm)]
        refine ⟨fun i hi => ?_, fun i hi => ?_, fun s s0 s1 hs => ?_⟩
        · by_cases hi' : i < (runs ++ [(fr, T, ld)]).length
          · have := h1 i hi'
            rw [List.getElem_append_left hi']
            obtain ⟨a, b, c, d, e⟩ := this
            exact ⟨a, b, by omega, d, e⟩
          · have he : i = (runs ++ [(fr, T, ld)]).length := by simp at hi hi' ⊢; omega
            subst he
            simp only [at_end]
            refine ⟨h0, by omega, by omega, hn, fun s a b => ?_⟩
            have : s = t := by omega
            subst this
            rfl
        · by_cases hi2 : i + 1 < (runs ++ [(fr, T, ld)]).length
          · have hi' : i < (runs ++ [(fr, T, ld)]).length := by omega
            have := h2 i hi2
            rw [List.getElem_append_left hi', List.getElem_append_left hi2]
            exact this
          · have he : i = runs.length := by simp at hi hi2; omega
            subst he
            have e1 : ((runs ++ [(fr, T, ld)]) ++ [(t, t, n t)])[runs.length] = (fr, T, ld) := by
              rw [List.getElem_append_left (by simp)]; simp
            have e2 : ((runs ++ [(fr, T, ld)]) ++ [(t, t, n t)])[runs.length + 1] = (t, t, n t) := by
              rw [List.getElem_append_right (by simp)]; simp
            rw [e1, e2]
            refine ⟨l2, fun hh => hm ⟨?_, ?_⟩⟩
            · have := hh.1; simp only at this; omega
            · exact hh.2.symm
        · by_cases he : s = t
          · exact ⟨(runs ++ [(fr, T, ld)]).length, by simp, by simp only [at_end]; omega⟩
          · obtain ⟨i, hi, a, b⟩ := h3 s s0 (by omega) hs
            refine ⟨i, by rw [List.length_append]; omega, ?_⟩
            rw [List.getElem_append_left hi]
            exact ⟨a, b⟩
theorem good_ticks (n : Int → Int) : ∀ m : Nat, Good n (m : Nat) ((ticks 0 m).foldl (stepS n) [])
  | 0 => ⟨fun i hi => by simp [ticks] at hi, fun i hi => by simp [ticks] at hi, fun t a b => by omega⟩
  | m + 1 => by
    rw [ticks_succ, List.foldl_append]
    have := good_step (good_ticks n m) (by omega)
    simp only [List.foldl_cons, List.foldl_nil, Int.zero_add]
    exact this
theorem good_runs (fs : List Fli) (ss : List Int) (sec : ByteArray) : Good (fun t => (loadTo fs ss sec t fs.length : Nat)) 20001 (runsL fs ss sec) := good_ticks _ 20001
theorem good_mono {n : Int → Int} {T : Int} {out : List Run} (h : Good n T out) : ∀ (d i : Nat) (hi : i + d < out.length), out[i].1 ≤ out[i + d].1
  | 0, i, hi => Int.le_refl _
  | d + 1, i, hi => by
    have a := good_mono h d i (by omega)
    have b := (h.2.1 (i + d) (by omega)).1
    have c := (h.1 (i + d) (by omega)).2.1
    have e : i + (d + 1) = i + d + 1 := by omega
    simp only [e]
    omega
theorem good_in {n : Int → Int} {T : Int} {out : List Run} (h : Good n T out) {t : Int} {k : Nat} (hk : k < out.length) (h1 : out[k].1 ≤ t) (h2 : t ≤ out[k].2.1) : n t = out[k].2.2 := (h.1 k hk).2.2.2.2 t h1 h2
theorem good_out {n : Int → Int} {T : Int} {out : List Run} (h : Good n T out) {t : Int} {k : Nat} (h0 : 0 ≤ t) (hT : t < T) (hk : ∀ j (_ : j < out.length), j < k → out[j].2.1 < t) (h1 : ∀ hk : k < out.length, t < out[k].1) : n t = 0 := by
  by_cases hn : n t = 0
  · exact hn
  · obtain ⟨i, hi, a, b⟩ := h.2.2 t h0 hT hn
    exfalso
    by_cases hik : i < k
    · have := hk i hi hik
      omega
    · have hkl : k < out.length := by omega
      have c := h1 hkl
      have d := good_mono h (i - k) k (by omega)
      have e : k + (i - k) = i := by omega
      simp only [e] at d
      omega
/-- Slots that fit: no sector with a cap has more than it can guide. -/
theorem fits_load {cs : List (ByteArray × Int)} {fs : List Fli} {ss : List Int} (h : fitsB cs fs ss = true) (hcap : ∀ i (hi : i < cs.length), 0 ≤ cs[i].2) {i : Nat} (hi : i < cs.length) {t : Int} (h0 : 0 ≤ t) (h1 : t < 20001) : ((loadTo fs ss cs[i].1 t fs.length : Nat) : Int) ≤ cs[i].2 := by
  unfold fitsB at h
  simp only [Bool.and_eq_true] at h
  obtain ⟨⟨⟨_, hs⟩, _⟩, hr⟩ := h
  have hg := good_runs fs ss cs[i].1
  have hc := hcap i hi
  have ho := over_full hs cs[i].1 hc
  unfold roomB at hr
  have hf := List.all_eq_true.1 hr i (List.mem_range.2 hi)
  unfold notFullAt at hf
  rw [getD_at cs i _ hi] at hf
  have hf' : fullB fs ss cs[i].1 cs[i].2 = false := by simpa using hf
  rw [hf'] at ho
  unfold overB at ho
  by_cases hn : ((loadTo fs ss cs[i].1 t fs.length : Nat) : Int) = 0
  · omega
  · obtain ⟨j, hj, a, b⟩ := hg.2.2 t h0 h1 hn
    have he := good_in hg hj a b
    have := (List.any_eq_false.1 ho) _ (List.getElem_mem hj)
    simp at this
    omega

end Go.Proofs.YtciacofibljmoaaGreatDoor

/- Plain mathematics of the least slot: it is the first at which a flight meets nothing that is full. -/
namespace Go.Proofs.YtciacofibljmoaaGreatDoor

theorem toList_inj {a b : ByteArray} (h : a.toList = b.toList) : a = b := WideShapes.bytes_inj (by rw [← ByteArray.toList_eq, ← ByteArray.toList_eq]; exact h)

/-- Where a sector has no room for one more, out of its runs. -/
def fullV (cap : Int) (rs : List Run) : List Run := if cap = 0 then [(0, 10290, 0)] else rs.filter fun r => decide (cap ≤ r.2.2)
def capRuns (cs : List (ByteArray × Int)) (fs : List Fli) (ss : List Int) (k : Nat) : List Run := fullV (cs.getD k (ByteArray.empty, 0)).2 (runsL fs ss (cs.getD k (ByteArray.empty, 0)).1)
/-- The same by the sector's name, as the first k caps tell it. -/
def takenTo (cs : List (ByteArray × Int)) (fs : List Fli) (ss : List Int) (s : ByteArray) : Nat → List Run
  | 0 => []
  | k + 1 => if (cs.getD k (ByteArray.empty, 0)).1.toList = s.toList then capRuns cs fs ss k else takenTo cs fs ss s k
def Meets (r : Run) (a n : Int) : Prop := a ≤ r.2.1 ∧ r.1 < a + n
/-- With this slot the visits meet nothing that is full. -/
def Free (cs : List (ByteArray × Int)) (fs : List Fli) (ss : List Int) (vs : List Vis) (t : Int) : Prop := ∀ v ∈ vs, ∀ r ∈ takenTo cs fs ss v.1 cs.length, ¬ Meets r (t + v.2.1) v.2.2

theorem caps_lt {cs : List (ByteArray × Int)} (h : capsB cs = true) : ∀ (d i : Nat) (hj : i + d + 1 < cs.length), cs[i].1.toList < cs[i + d + 1].1.toList := by
  unfold capsB at h
  simp only [Bool.and_eq_true] at h
  have hstep : ∀ i (hi : i + 1 < cs.length), cs[i].1.toList < cs[i + 1].1.toList := fun i hi => by
    have := all_at h.2 hi
    unfold capOkAt at this
    rw [getD_at cs (i + 1) _ hi, show i + 1 - 1 = i by omega, getD_at cs i _ (by omega)] at this
    simp only [Bool.and_eq_true, Bool.or_eq_true, decide_eq_true_eq] at this
    rcases this.1.2 with h0 | h0
    · omega
    · unfold ahead at h0
      rw [less_eq] at h0
      simpa using h0
  intro d
  induction d with
  | zero => exact fun i hj => hstep i hj
  | succ d ih =>
    intro i hj
    have h1 := ih i (by omega)
    have h2 := hstep (i + d + 1) (by omega)
    exact List.lt_trans h1 h2
theorem caps_ne {cs : List (ByteArray × Int)} (h : capsB cs = true) {i j : Nat} (hi : i < cs.length) (hj : j < cs.length) (hne : i ≠ j) : cs[i].1.toList ≠ cs[j].1.toList := fun he => by
  rcases Nat.lt_or_ge i j with hl | hl
  · have := caps_lt h (j - i - 1) i (by omega)
    simp only [show i + (j - i - 1) + 1 = j by omega] at this
    rw [he] at this
    exact List.lt_irrefl _ this
  · have := caps_lt h (i - j - 1) j (by omega)
    simp only [show j + (i - j - 1) + 1 = i by omega] at this
    rw [he] at this
    exact List.lt_irrefl _ this
theorem taken_at {cs : List (ByteArray × Int)} (h : capsB cs = true) (fs : List Fli) (ss : List Int) {i : Nat} (hi : i < cs.length) {s : ByteArray} (hs : cs[i].1.toList = s.toList) : ∀ k, i < k → k ≤ cs.length → takenTo cs fs ss s k = capRuns cs fs ss i := by
  intro k
  induction k with
  | zero => intro h0; omega
  | succ k ih =>
    intro h1 h2
    unfold takenTo
    by_cases e : i = k
    · subst e
      rw [getD_at cs i _ hi, if_pos hs]
    · rw [getD_at cs k _ (by omega), if_neg (fun he => caps_ne h (by omega) hi (fun hh => e hh.symm) (he.trans hs.symm))]
      exact ih (by omega) (by omega)
theorem taken_some {cs : List (ByteArray × Int)} {fs : List Fli} {ss : List Int} {s : ByteArray} : ∀ k, k ≤ cs.length → takenTo cs fs ss s k ≠ [] → ∃ i, ∃ hi : i < cs.length, cs[i].1.toList = s.toList := by
  intro k
  induction k with
  | zero => intro _ h; exact absurd rfl h
  | succ k ih =>
    intro h2 h
    unfold takenTo at h
    by_cases e : (cs.getD k (ByteArray.empty, 0)).1.toList = s.toList
    · rw [getD_at cs k _ (by omega)] at e
      exact ⟨k, by omega, e⟩
    · rw [if_neg e] at h
      exact ih (by omega) h

/-- To meet what is full is to be there when it is. -/
theorem meets_iff {fs : List Fli} {ss : List Int} {sec : ByteArray} {cap : Int} (hc : 0 ≤ cap) {a n : Int} (ha : 0 ≤ a) (hn : 1 ≤ n) (hb : a + n ≤ 10291) :
    (∃ r ∈ fullV cap (runsL fs ss sec), Meets r a n) ↔ ∃ t, a ≤ t ∧ t < a + n ∧ cap ≤ (loadTo fs ss sec t fs.length : Nat) := by
  have hg := good_runs fs ss sec
  unfold fullV Meets
  by_cases h0 : cap = 0
  · rw [if_pos h0]
    constructor
    · intro _
      exact ⟨a, by omega, by omega, by omega⟩
    · intro _
      exact ⟨_, List.mem_singleton.2 rfl, by show a ≤ 10290; omega, by show 0 < a + n; omega⟩
  · rw [if_neg h0]
    constructor
    · rintro ⟨r, hr, h1, h2⟩
      obtain ⟨hr1, hr2⟩ := List.mem_filter.1 hr
      obtain ⟨i, hi, rfl⟩ := List.getElem_of_mem hr1
      obtain ⟨g1, g2, g3, g4, g5⟩ := hg.1 i hi
      have hr2' : cap ≤ (runsL fs ss sec)[i].2.2 := by simpa using hr2
      by_cases hle : a ≤ (runsL fs ss sec)[i].1
      · exact ⟨(runsL fs ss sec)[i].1, hle, h2, by have := g5 _ (Int.le_refl _) g2; dsimp only at this; omega⟩
      · exact ⟨a, Int.le_refl _, by omega, by have := g5 a (by omega) h1; dsimp only at this; omega⟩
    · rintro ⟨t, h1, h2, h3⟩
      have hne : ((loadTo fs ss sec t fs.length : Nat) : Int) ≠ 0 := by omega
      obtain ⟨i, hi, g1, g2⟩ := hg.2.2 t (by omega) (by omega) hne
      have hn' := (hg.1 i hi).2.2.2.2 t g1 g2
      refine ⟨_, List.mem_filter.2 ⟨List.getElem_mem hi, ?_⟩, by omega, by omega⟩
      rw [← hn']
      simpa using h3
/-- Nowhere too many just if no load is above the cap. -/
theorem over_iff {fs : List Fli} {ss : List Int} {sec : ByteArray} {cap : Int} (hc : 0 ≤ cap) : overB (runsL fs ss sec) cap = false ↔ ∀ t, 0 ≤ t → t < 20001 → ((loadTo fs ss sec t fs.length : Nat) : Int) ≤ cap := by
  have hg := good_runs fs ss sec
  unfold overB
  rw [List.any_eq_false]
  constructor
  · intro h t h0 h1
    by_cases hn : ((loadTo fs ss sec t fs.length : Nat) : Int) = 0
    · omega
    · obtain ⟨i, hi, g1, g2⟩ := hg.2.2 t h0 h1 hn
      have hn' := (hg.1 i hi).2.2.2.2 t g1 g2
      have := h _ (List.getElem_mem hi)
      simp only [decide_eq_true_eq] at this
      dsimp only at hn'
      omega
  · intro h r hr
    obtain ⟨i, hi, rfl⟩ := List.getElem_of_mem hr
    obtain ⟨g1, g2, g3, g4, g5⟩ := hg.1 i hi
    have := h _ g1 (by omega)
    have g6 := g5 _ (Int.le_refl _) g2
    dsimp only at g6
    simp only [decide_eq_true_eq]
    omega
theorem load_set (fs : List Fli) (ss : List Int) (sec : ByteArray) (u : Int) {i : Nat} (hi : i < fs.length) (hln : ss.length = fs.length) {t : Int} (ht : 0 ≤ t) : ∀ k, k ≤ fs.length →
    loadTo fs (ss.set i t) sec u k = loadTo fs (ss.set i (-1)) sec u k + if i < k ∧ hasB fs[i].2.2.2 t sec u = true then 1 else 0 := by
  intro k
  induction k with
  | zero => intro _; simp [loadTo]
  | succ k ih =>
    intro hk
    have ih := ih (by omega)
    by_cases e : k = i
    · subst e
      have h2 : flyAt fs (ss.set k (-1)) sec u k = false := by
        unfold flyAt
        rw [getD_at _ k _ (by simp; omega)]
        simp
      have h1 : flyAt fs (ss.set k t) sec u k = hasB fs[k].2.2.2 t sec u := by
        unfold flyAt
        rw [getD_at _ k _ (by simp; omega), getD_at fs k _ hi]
        simp [ht]
      rw [loadTo_no h2]
      cases hh : hasB fs[k].2.2.2 t sec u
      · rw [hh] at h1
        rw [loadTo_no h1, ih]
        simp
      · rw [hh] at h1
        rw [loadTo_yes h1, ih]
        simp
    · have hg : ∀ x, (ss.set i x).getD k 0 = ss.getD k 0 := fun x => by
        rw [getD_at _ k _ (by simp; omega), getD_at ss k _ (by omega), List.getElem_set_ne (fun h => e h.symm)]
      have hf : ∀ x, flyAt fs (ss.set i x) sec u k = flyAt fs ss sec u k := fun x => by
        unfold flyAt
        rw [hg x]
      have hlt : (i < k + 1 ∧ hasB fs[i].2.2.2 t sec u = true) ↔ (i < k ∧ hasB fs[i].2.2.2 t sec u = true) := by
        constructor
        · rintro ⟨a, b⟩; exact ⟨by omega, b⟩
        · rintro ⟨a, b⟩; exact ⟨by omega, b⟩
      simp only [hlt]
      cases hh : flyAt fs ss sec u k
      · rw [loadTo_no ((hf t).trans hh), loadTo_no ((hf (-1)).trans hh), ih]
      · rw [loadTo_yes ((hf t).trans hh), loadTo_yes ((hf (-1)).trans hh), ih]
        omega
theorem load_set_all (fs : List Fli) (ss : List Int) (sec : ByteArray) (u : Int) {i : Nat} (hi : i < fs.length) (hln : ss.length = fs.length) {t : Int} (ht : 0 ≤ t) :
    loadTo fs (ss.set i t) sec u fs.length = loadTo fs (ss.set i (-1)) sec u fs.length + if hasB fs[i].2.2.2 t sec u = true then 1 else 0 := by
  have := load_set fs ss sec u hi hln ht fs.length (Nat.le_refl _)
  simpa [hi] using this
theorem slots_set {fs : List Fli} {ss : List Int} (h : slotsB fs ss = true) {i : Nat} {t : Int} (h0 : -1 ≤ t) (h1 : t ≤ 10060) : slotsB fs (ss.set i t) = true := by
  unfold slotsB at *
  simp only [Bool.and_eq_true, decide_eq_true_eq, List.length_set] at *
  refine ⟨h.1, ?_⟩
  have h2 := h.2
  unfold slotsTo at *
  rw [List.all_eq_true] at *
  intro j hj
  have := h2 j hj
  have hj' := List.mem_range.1 hj
  unfold slotOkAt at *
  rw [getD_at _ j _ (by simpa using hj')]
  rw [getD_at _ j _ hj'] at this
  by_cases e : i = j
  · subst e
    rw [List.getElem_set_self]
    exact inB_iff.2 ⟨h0, h1⟩
  · rw [List.getElem_set_ne e]
    exact this
theorem inTime_set {fs : List Fli} {ss : List Int} (h : inTimeB fs ss = true) (hln : ss.length = fs.length) {i : Nat} (hi : i < fs.length) {t : Int} (h0 : fs[i].2.1 ≤ t) (h1 : t ≤ fs[i].2.1 + fs[i].2.2.1) : inTimeB fs (ss.set i t) = true := by
  unfold inTimeB at *
  rw [List.all_eq_true] at *
  intro j hj
  have := h j hj
  have hj' := List.mem_range.1 hj
  unfold inTimeAt at *
  rw [getD_at _ j _ (by simp; omega)]
  rw [getD_at ss j _ (by omega)] at this
  by_cases e : i = j
  · subst e
    rw [List.getElem_set_self, getD_at fs i _ hi]
    have : inB t fs[i].2.1 (fs[i].2.1 + fs[i].2.2.1) = true := inB_iff.2 ⟨h0, h1⟩
    simp [this]
  · rw [List.getElem_set_ne e]
    exact this
theorem has_mem {vs : List Vis} {slot : Int} {sec : ByteArray} {u : Int} : hasB vs slot sec u = true ↔ ∃ v ∈ vs, v.1.toList = sec.toList ∧ slot + v.2.1 ≤ u ∧ u < slot + v.2.1 + v.2.2 := by
  constructor
  · intro h
    obtain ⟨j, hj, hh⟩ := has_at h
    unfold hasAt at hh
    rw [getD_at vs j _ hj] at hh
    simp only [Bool.and_eq_true, beq_iff_eq] at hh
    have := inB_iff.1 hh.2
    exact ⟨vs[j], List.getElem_mem hj, hh.1, by omega, by omega⟩
  · rintro ⟨v, hv, h1, h2, h3⟩
    obtain ⟨j, hj, rfl⟩ := List.getElem_of_mem hv
    unfold hasB
    refine any_yes hj ?_
    unfold hasAt
    rw [getD_at vs j _ hj]
    simp only [Bool.and_eq_true, beq_iff_eq]
    exact ⟨h1, inB_iff.2 ⟨by omega, by omega⟩⟩
theorem room_iff {cs : List (ByteArray × Int)} {fs : List Fli} {ss : List Int} (hcap : ∀ i (hi : i < cs.length), 0 ≤ cs[i].2) (hs : slotsB fs ss = true) : roomB cs fs ss = true ↔ ∀ i (hi : i < cs.length) (t : Int), 0 ≤ t → t < 20001 → ((loadTo fs ss cs[i].1 t fs.length : Nat) : Int) ≤ cs[i].2 := by
  unfold roomB
  rw [List.all_eq_true]
  constructor
  · intro h i hi
    have := h i (List.mem_range.2 hi)
    unfold notFullAt at this
    rw [getD_at cs i _ hi, ← over_full hs _ (hcap i hi)] at this
    exact (over_iff (hcap i hi)).1 (by simpa using this)
  · intro h i hi
    have hi := List.mem_range.1 hi
    unfold notFullAt
    rw [getD_at cs i _ hi, ← over_full hs _ (hcap i hi), (over_iff (hcap i hi)).2 (h i hi)]
    rfl

/-- To fit with a slot is to meet nothing that is full without it. -/
theorem fits_set {cs : List (ByteArray × Int)} {fs : List Fli} {ss : List Int} (h : fitsB cs fs ss = true) {i : Nat} (hi : i < fs.length) {t : Int} (h0 : fs[i].2.1 ≤ t) (h1 : t ≤ fs[i].2.1 + fs[i].2.2.1) :
    fitsB cs fs (ss.set i t) = true ↔ Free cs fs (ss.set i (-1)) fs[i].2.2.2 t := by
  have hfit := h
  unfold fitsB at h
  simp only [Bool.and_eq_true] at h
  obtain ⟨⟨⟨hc, hs⟩, hT⟩, hr⟩ := h
  obtain ⟨hln, h8, hsb, hfb⟩ := slots_bd hs
  obtain ⟨hvb, hp, hlt, hv1, hv5⟩ := hfb i hi
  have hcap : ∀ i (hi : i < cs.length), 0 ≤ cs[i].2 := fun i hi => ((caps_bd hc).2 i hi).1
  have hst := slots_set hs (i := i) (t := t) (by omega) (by omega)
  have e : fitsB cs fs (ss.set i t) = roomB cs fs (ss.set i t) := by
    unfold fitsB
    rw [hc, hst, inTime_set hT hln hi h0 h1]
    rfl
  rw [e, room_iff hcap hst]
  have hoth : ∀ j (hj : j < cs.length) (u : Int), 0 ≤ u → u < 20001 → ((loadTo fs (ss.set i (-1)) cs[j].1 u fs.length : Nat) : Int) ≤ cs[j].2 := fun j hj u u0 u1 => by
    have hl := (room_iff hcap hs).1 hr j hj u u0 u1
    by_cases hm : ss[i]'(by omega) = -1
    · have : ss.set i (-1) = ss := by rw [← hm, List.set_getElem_self]
      rw [this]
      exact hl
    · have hz := hsb i (by omega)
      have := load_set_all fs ss cs[j].1 u hi hln (t := ss[i]'(by omega)) (by omega)
      rw [List.set_getElem_self] at this
      omega
  constructor
  · intro hall v hv r hr' hm
    obtain ⟨vb1, vb2⟩ := hvb v hv
    obtain ⟨j, hj, hjs⟩ := taken_some cs.length (Nat.le_refl _) (List.ne_nil_of_mem hr')
    rw [taken_at hc fs _ hj hjs cs.length hj (Nat.le_refl _)] at hr'
    unfold capRuns at hr'
    rw [getD_at cs j _ hj] at hr'
    obtain ⟨u, u0, u1, u2⟩ := (meets_iff (hcap j hj) (by omega) vb2.1 (by omega)).1 ⟨r, hr', hm⟩
    have hl := hall j hj u (by omega) (by omega)
    rw [load_set_all fs ss cs[j].1 u hi hln (by omega), if_pos (has_mem.2 ⟨v, hv, hjs.symm, u0, u1⟩)] at hl
    omega
  · intro hfree j hj u u0 u1
    have ho := hoth j hj u u0 u1
    rw [load_set_all fs ss cs[j].1 u hi hln (by omega)]
    by_cases hh : hasB fs[i].2.2.2 t cs[j].1 u = true
    · rw [if_pos hh]
      obtain ⟨v, hv, v1, v2, v3⟩ := has_mem.1 hh
      obtain ⟨vb1, vb2⟩ := hvb v hv
      by_cases hle : cs[j].2 ≤ (loadTo fs (ss.set i (-1)) cs[j].1 u fs.length : Nat)
      · exfalso
        obtain ⟨r, hr', hm⟩ := (meets_iff (fs := fs) (ss := ss.set i (-1)) (sec := cs[j].1) (hcap j hj) (a := t + v.2.1) (n := v.2.2) (by omega) vb2.1 (by omega)).2 ⟨u, v2, v3, hle⟩
        refine hfree v hv r ?_ hm
        rw [taken_at hc fs _ hj v1.symm cs.length hj (Nat.le_refl _)]
        unfold capRuns
        rw [getD_at cs j _ hj]
        exact hr'
      · omega
    · rw [if_neg hh]
      omega

theorem least_is {cs : List (ByteArray × Int)} {fs : List Fli} {ss : List Int} (h : fitsB cs fs ss = true) {i : Nat} (hi : i < fs.length) {t : Int} (h0 : fs[i].2.1 ≤ t) (h1 : t ≤ fs[i].2.1 + fs[i].2.2.1)
    (hf : Free cs fs (ss.set i (-1)) fs[i].2.2.2 t) (hn : ∀ u, fs[i].2.1 ≤ u → u < t → ¬ Free cs fs (ss.set i (-1)) fs[i].2.2.2 u) : leastV cs fs ss i = t := by
  have e : fs[i].2.1 + ((t - fs[i].2.1).toNat : Nat) = t := by omega
  have g1 : ∀ j, j < (t - fs[i].2.1).toNat → fitsB cs fs (ss.set i (fs[i].2.1 + (j : Nat))) = false := fun j hj => by
    have := mt (fits_set h hi (t := fs[i].2.1 + (j : Nat)) (by omega) (by omega)).1 (hn _ (by omega) (by omega))
    simpa using this
  have g2 : fitsB cs fs (ss.set i (fs[i].2.1 + ((t - fs[i].2.1).toNat : Nat))) = true := by
    rw [e]
    exact (fits_set h hi h0 h1).2 hf
  rw [leastV_at (k := (t - fs[i].2.1).toNat) hi (by omega) g1 g2, e]
theorem least_not {cs : List (ByteArray × Int)} {fs : List Fli} {ss : List Int} (h : fitsB cs fs ss = true) {i : Nat} (hi : i < fs.length) (hn : ∀ u, fs[i].2.1 ≤ u → u ≤ fs[i].2.1 + fs[i].2.2.1 → ¬ Free cs fs (ss.set i (-1)) fs[i].2.2.2 u) : leastV cs fs ss i = -1 := by
  have hs : slotsB fs ss = true := by
    unfold fitsB at h
    simp only [Bool.and_eq_true] at h
    exact h.1.1.2
  obtain ⟨_, _, _, hfb⟩ := slots_bd hs
  refine leastV_none hi (fun j hj => ?_) (hfb i hi).2.2.1.1
  have := mt (fits_set h hi (t := fs[i].2.1 + (j : Nat)) (by omega) (by omega)).1 (hn _ (by omega) (by omega))
  simpa using this

end Go.Proofs.YtciacofibljmoaaGreatDoor
