/- Plain mathematics of runs: they are the loads, tick by tick; slots that fit leave no sector with more than it can guide. -/
import Derived.Test.YtciacofibljmoaaGreatFits
namespace Go.Proofs.YtciacofibljmoaaGreat

theorem at_end {α : Type} (l : List α) (x : α) (h : l.length < (l ++ [x]).length) : (l ++ [x])[l.length] = x := by simp
/-- Runs of a load n, of all ticks ahead of T. -/
def Good (n : Int → Int) (T : Int) (out : List Run) : Prop :=
  (∀ i (_ : i < out.length), 0 ≤ out[i].1 ∧ out[i].1 ≤ out[i].2.1 ∧ out[i].2.1 < T ∧ out[i].2.2 ≠ 0 ∧ ∀ t, out[i].1 ≤ t → t ≤ out[i].2.1 → n t = out[i].2.2) ∧
  (∀ i (_ : i + 1 < out.length), out[i].2.1 < out[i + 1].1 ∧ ¬ (out[i + 1].1 = out[i].2.1 + 1 ∧ out[i + 1].2.2 = out[i].2.2)) ∧
  ∀ t, 0 ≤ t → t < T → n t ≠ 0 → ∃ i, ∃ _ : i < out.length, out[i].1 ≤ t ∧ t ≤ out[i].2.1

theorem good_step {n : Int → Int} {t : Int} {out : List Run} (h : Good n t out) (h0 : 0 ≤ t) : Good n (t + 1) (stepS n out t) := by
  obtain ⟨h1, h2, h3⟩ := h
  by_cases hn : n t = 0
  · unfold stepS
    rw [if_pos hn]
    refine ⟨fun i hi => ?_, h2, fun s s0 s1 hs => ?_⟩
    · obtain ⟨a, b, c, d, e⟩ := h1 i hi
      exact ⟨a, b, by omega, d, e⟩
    · have : s ≠ t := by rintro rfl; exact hs hn
      exact h3 s s0 (by omega) hs
  · rcases List.eq_nil_or_concat out with rfl | ⟨runs, r, rfl⟩
    · rw [stepS_new hn (by simp)]
      refine ⟨fun i hi => ?_, fun i hi => by simp at hi, fun s s0 s1 hs => ?_⟩
      · have : i = 0 := by simpa using hi
        subst this
        refine ⟨h0, by simp, by simp; omega, hn, fun s a b => ?_⟩
        have : s = t := by simp at a b; omega
        subst this
        rfl
      · by_cases he : s = t
        · subst he; exact ⟨0, by simp, by simp⟩
        · obtain ⟨i, hi, _⟩ := h3 s s0 (by omega) hs
          simp at hi
    · obtain ⟨fr, T, ld⟩ := r
      simp only [List.concat_eq_append] at *
      have hlast := h1 runs.length (by simp)
      simp only [at_end] at hlast
      obtain ⟨l0, l1, l2, l3, l4⟩ := hlast
      by_cases hm : T = t - 1 ∧ ld = n t
      · rw [stepS_same hn hm.1 hm.2]
        refine ⟨fun i hi => ?_, fun i hi => ?_, fun s s0 s1 hs => ?_⟩
        · by_cases hi' : i < runs.length
          · have := h1 i (by simp; omega)
            simp only [List.getElem_append_left hi'] at this ⊢
            obtain ⟨a, b, c, d, e⟩ := this
            exact ⟨a, b, by omega, d, e⟩
          · have : i = runs.length := by simp at hi; omega
            subst this
            simp only [at_end]
            refine ⟨l0, by omega, by omega, l3, fun s a b => ?_⟩
            by_cases he : s = t
            · subst he; exact hm.2.symm
            · exact l4 s a (by omega)
        · have hi' : i < runs.length := by simp at hi; omega
          have := h2 i (by simp; omega)
          by_cases hi2 : i + 1 < runs.length
          · simp only [List.getElem_append_left hi', List.getElem_append_left hi2] at this ⊢
            exact this
          · have he : i + 1 = runs.length := by simp at hi; omega
            simp only [List.getElem_append_left hi'] at this ⊢
            rw [List.getElem_append_right (by omega)] at this ⊢
            simp only [show i + 1 - runs.length = 0 by omega, List.getElem_cons_zero] at this ⊢
            exact this
        · by_cases he : s = t
          · exact ⟨runs.length, by simp, by simp only [at_end]; omega⟩
          · obtain ⟨i, hi, a, b⟩ := h3 s s0 (by omega) hs
            refine ⟨i, by simpa using hi, ?_⟩
            by_cases hi' : i < runs.length
            · simp only [List.getElem_append_left hi'] at a b ⊢
              exact ⟨a, b⟩
            · have : i = runs.length := by simp at hi; omega
              subst this
              simp only [at_end] at a b ⊢
              omega
      · rw [stepS_new hn (by intro r hr; rw [List.getLast?_concat] at hr; simp at hr; subst hr; exact hm)]
        refine ⟨fun i hi => ?_, fun i hi => ?_, fun s s0 s1 hs => ?_⟩
        · by_cases hi' : i < (runs ++ [(fr, T, ld)]).length
          · have := h1 i hi'
            rw [List.getElem_append_left hi']
            obtain ⟨a, b, c, d, e⟩ := this
            exact ⟨a, b, by omega, d, e⟩
          · have he : i = (runs ++ [(fr, T, ld)]).length := by simp at hi hi' ⊢; omega
            subst he
            simp only [at_end]
            refine ⟨h0, by omega, by omega, hn, fun s a b => ?_⟩
            have : s = t := by omega
            subst this
            rfl
        · by_cases hi2 : i + 1 < (runs ++ [(fr, T, ld)]).length
          · have hi' : i < (runs ++ [(fr, T, ld)]).length := by omega
            have := h2 i hi2
            rw [List.getElem_append_left hi', List.getElem_append_left hi2]
            exact this
          · have he : i = runs.length := by simp at hi hi2; omega
            subst he
            have e1 : ((runs ++ [(fr, T, ld)]) ++ [(t, t, n t)])[runs.length] = (fr, T, ld) := by
              rw [List.getElem_append_left (by simp)]; simp
            have e2 : ((runs ++ [(fr, T, ld)]) ++ [(t, t, n t)])[runs.length + 1] = (t, t, n t) := by
              rw [List.getElem_append_right (by simp)]; simp
            rw [e1, e2]
            refine ⟨l2, fun hh => hm ⟨?_, ?_⟩⟩
            · have := hh.1; simp only at this; omega
            · exact hh.2.symm
        · by_cases he : s = t
          · exact ⟨(runs ++ [(fr, T, ld)]).length, by simp, by simp only [at_end]; omega⟩
          · obtain ⟨i, hi, a, b⟩ := h3 s s0 (by omega) hs
            refine ⟨i, by rw [List.length_append]; omega, ?_⟩
            rw [List.getElem_append_left hi]
            exact ⟨a, b⟩
theorem good_ticks (n : Int → Int) : ∀ m : Nat, Good n (m : Nat) ((ticks 0 m).foldl (stepS n) [])
  | 0 => ⟨fun i hi => by simp [ticks] at hi, fun i hi => by simp [ticks] at hi, fun t a b => by omega⟩
  | m + 1 => by
    rw [ticks_succ, List.foldl_append]
    have := good_step (good_ticks n m) (by omega)
    simp only [List.foldl_cons, List.foldl_nil, Int.zero_add]
    exact this
theorem good_runs (fs : List Fli) (ss : List Int) (sec : ByteArray) : Good (fun t => (loadTo fs ss sec t fs.length : Nat)) 20001 (runsL fs ss sec) := good_ticks _ 20001
theorem good_mono {n : Int → Int} {T : Int} {out : List Run} (h : Good n T out) : ∀ (d i : Nat) (hi : i + d < out.length), out[i].1 ≤ out[i + d].1
  | 0, i, hi => Int.le_refl _
  | d + 1, i, hi => by
    have a := good_mono h d i (by omega)
    have b := (h.2.1 (i + d) (by omega)).1
    have c := (h.1 (i + d) (by omega)).2.1
    have e : i + (d + 1) = i + d + 1 := by omega
    simp only [e]
    omega
theorem good_in {n : Int → Int} {T : Int} {out : List Run} (h : Good n T out) {t : Int} {k : Nat} (hk : k < out.length) (h1 : out[k].1 ≤ t) (h2 : t ≤ out[k].2.1) : n t = out[k].2.2 := (h.1 k hk).2.2.2.2 t h1 h2
theorem good_out {n : Int → Int} {T : Int} {out : List Run} (h : Good n T out) {t : Int} {k : Nat} (h0 : 0 ≤ t) (hT : t < T) (hk : ∀ j (_ : j < out.length), j < k → out[j].2.1 < t) (h1 : ∀ hk : k < out.length, t < out[k].1) : n t = 0 := by
  by_cases hn : n t = 0
  · exact hn
  · obtain ⟨i, hi, a, b⟩ := h.2.2 t h0 hT hn
    exfalso
    by_cases hik : i < k
    · have := hk i hi hik
      omega
    · have hkl : k < out.length := by omega
      have c := h1 hkl
      have d := good_mono h (i - k) k (by omega)
      have e : k + (i - k) = i := by omega
      simp only [e] at d
      omega
/-- Slots that fit: no sector with a cap has more than it can guide. -/
theorem fits_load {cs : List (ByteArray × Int)} {fs : List Fli} {ss : List Int} (h : fitsB cs fs ss = true) (hcap : ∀ i (hi : i < cs.length), 0 ≤ cs[i].2) {i : Nat} (hi : i < cs.length) {t : Int} (h0 : 0 ≤ t) (h1 : t < 20001) : ((loadTo fs ss cs[i].1 t fs.length : Nat) : Int) ≤ cs[i].2 := by
  unfold fitsB at h
  simp only [Bool.and_eq_true] at h
  obtain ⟨⟨⟨_, hs⟩, _⟩, hr⟩ := h
  have hg := good_runs fs ss cs[i].1
  have hc := hcap i hi
  have ho := over_full hs cs[i].1 hc
  unfold roomB at hr
  have hf := List.all_eq_true.1 hr i (List.mem_range.2 hi)
  unfold notFullAt at hf
  rw [getD_at cs i _ hi] at hf
  have hf' : fullB fs ss cs[i].1 cs[i].2 = false := by simpa using hf
  rw [hf'] at ho
  unfold overB at ho
  by_cases hn : ((loadTo fs ss cs[i].1 t fs.length : Nat) : Int) = 0
  · omega
  · obtain ⟨j, hj, a, b⟩ := hg.2.2 t h0 h1 hn
    have he := good_in hg hj a b
    have := (List.any_eq_false.1 ho) _ (List.getElem_mem hj)
    simp at this
    omega

end Go.Proofs.YtciacofibljmoaaGreat
