/- Plain mathematics: the runs in order are the runs tick by tick; a sector has too many at some tick just if it has at some arrival. -/
import Derived.Test.YtciacofibljmoaaGreatChanges
namespace Go.Proofs.YtciacofibljmoaaGreat

/-- The runs that the document asks for, of slots that are ok: tick by tick. -/
def runsL (fs : List Fli) (ss : List Int) (sec : ByteArray) : List Run := (ticks 0 20001).foldl (stepS (fun t => (loadTo fs ss sec t fs.length : Nat))) []

theorem slots_vis {fs : List Fli} {ss : List Int} (h : slotsB fs ss = true) : AllVis fs := fun i hi => by
  unfold slotsB at h
  simp only [Bool.and_eq_true] at h
  have h1 := h.1.1
  unfold flisB at h1
  simp only [Bool.and_eq_true] at h1
  have := all_at h1.2 hi
  unfold fliOkAt at this
  rw [getD_at fs i _ hi] at this
  simp only [Bool.and_eq_true] at this
  have h2 := this.2
  unfold visB at h2
  simp only [Bool.and_eq_true] at h2
  exact h2.2

theorem spanV_bd {vs : List Vis} (hv : VisBd vs) {slot : Int} (h0 : 0 ≤ slot) (h1 : slot ≤ 10060) {sec : ByteArray} {j : Nat} : ∀ p ∈ spanV vs slot sec j, 0 ≤ p.1 ∧ p.1 < p.2 ∧ p.2 ≤ 10290 := fun p hp => by
  unfold spanV at hp
  obtain ⟨v, hv1, rfl⟩ := List.mem_map.1 hp
  have hm := List.mem_of_mem_take (List.mem_filter.1 hv1).1
  have := hv v hm
  simp only
  omega
theorem spansTo_bd {fs : List Fli} {ss : List Int} (h : slotsB fs ss = true) {sec : ByteArray} {k : Nat} (hk : k ≤ fs.length) : ∀ p ∈ spansTo fs ss sec k, 0 ≤ p.1 ∧ p.1 < p.2 ∧ p.2 ≤ 10290 := fun p hp => by
  obtain ⟨hln, _, hsb, hfb⟩ := slots_bd h
  unfold spansTo at hp
  obtain ⟨i, hi, hpi⟩ := List.mem_flatMap.1 hp
  have hi' : i < fs.length := by have := List.mem_range.1 hi; omega
  unfold spansOne at hpi
  rw [getD_at fs i _ hi', getD_at ss i _ (by omega)] at hpi
  split at hpi
  · rename_i hz
    exact spanV_bd (hfb i hi').1 hz (hsb i (by omega)).2 p hpi
  · simp at hpi

theorem impl_runs {fs : List Fli} {ss : List Int} (h : slotsB fs ss = true) {sec : ByteArray} {zs : List Int} (hz : zs.Pairwise (· < ·)) (hm : ∀ x, x ∈ zs ↔ isEnd (spansTo fs ss sec fs.length) x) :
    (zs.foldl (stepR (dAt (spansTo fs ss sec fs.length))) ([], 0, 0)).1 = runsL fs ss sec := by
  have hb := spansTo_bd h (sec := sec) (Nat.le_refl fs.length)
  have hc := cum_load (slots_vis h) ss sec
  have hd : ∀ x, dAt (spansTo fs ss sec fs.length) x ≠ 0 → isEnd (spansTo fs ss sec fs.length) x := fun x hx => dAt_mem hx
  rw [keys_do (dAt (spansTo fs ss sec fs.length)) zs 0 20001 hz (fun x hx => (hm x).2 (hd x hx)) (fun x hx => by
    obtain ⟨p, hp, hh⟩ := hd x hx
    have := hb p hp
    omega)]
  obtain ⟨runs, fr, e1, e2, _⟩ := hand_in_hand (dAt (spansTo fs ss sec fs.length)) (cumAt (spansTo fs ss sec fs.length)) 0 (cum_zero _ _ fun p hp => by have := hb p hp; omega) (cum_step _) (fun t => by rw [hc t _ (Nat.le_refl _)]; omega) 20001
  rw [e1]
  have ez : cumAt (spansTo fs ss sec fs.length) (0 + ((20001 : Nat) : Int) - 1) = 0 := cum_zero _ _ fun p hp => by have := hb p hp; omega
  rw [ez, if_neg (by omega), List.append_nil] at e2
  unfold runsL
  have ef : (fun t => ((loadTo fs ss sec t fs.length : Nat) : Int)) = cumAt (spansTo fs ss sec fs.length) := funext fun t => (hc t _ (Nat.le_refl _)).symm
  rw [ef, e2]

/-- The loads of the runs are the loads of the ticks. -/
theorem stepS_loads (n : Int → Int) : ∀ (l : List Int) (out : List Run) (T : Int → Prop), (∀ r ∈ out, ∃ t, T t ∧ n t = r.2.2 ∧ n t ≠ 0) → (∀ t, T t → n t ≠ 0 → ∃ r ∈ out, r.2.2 = n t) →
    (∀ r ∈ l.foldl (stepS n) out, ∃ t, (T t ∨ t ∈ l) ∧ n t = r.2.2 ∧ n t ≠ 0) ∧ (∀ t, (T t ∨ t ∈ l) → n t ≠ 0 → ∃ r ∈ l.foldl (stepS n) out, r.2.2 = n t)
  | [], out, T, h1, h2 => ⟨fun r hr => by obtain ⟨t, a, b⟩ := h1 r hr; exact ⟨t, .inl a, b⟩, fun t ht hn => by
      rcases ht with ht | ht
      · exact h2 t ht hn
      · simp at ht⟩
  | t :: l, out, T, h1, h2 => by
    have key : (∀ r ∈ stepS n out t, ∃ s, (T s ∨ s = t) ∧ n s = r.2.2 ∧ n s ≠ 0) ∧ (∀ s, (T s ∨ s = t) → n s ≠ 0 → ∃ r ∈ stepS n out t, r.2.2 = n s) := by
      by_cases h0 : n t = 0
      · have e : stepS n out t = out := by unfold stepS; rw [if_pos h0]
        rw [e]
        refine ⟨fun r hr => by obtain ⟨s, a, b⟩ := h1 r hr; exact ⟨s, .inl a, b⟩, fun s hs hn => ?_⟩
        rcases hs with hs | rfl
        · exact h2 s hs hn
        · exact absurd h0 hn
      · have app : ∀ out', (∀ r ∈ out', ∃ s, T s ∧ n s = r.2.2 ∧ n s ≠ 0) → (∀ s, T s → n s ≠ 0 → ∃ r ∈ out' ++ [(t, t, n t)], r.2.2 = n s) →
            (∀ r ∈ out' ++ [(t, t, n t)], ∃ s, (T s ∨ s = t) ∧ n s = r.2.2 ∧ n s ≠ 0) ∧ (∀ s, (T s ∨ s = t) → n s ≠ 0 → ∃ r ∈ out' ++ [(t, t, n t)], r.2.2 = n s) := fun out' g1 g2 => by
          refine ⟨fun r hr => ?_, fun s hs hn => ?_⟩
          · rcases List.mem_append.1 hr with hr | hr
            · obtain ⟨s, a, b⟩ := g1 r hr; exact ⟨s, .inl a, b⟩
            · simp at hr; subst hr; exact ⟨t, .inr rfl, rfl, h0⟩
          · rcases hs with hs | rfl
            · exact g2 s hs hn
            · exact ⟨(s, s, n s), by simp, rfl⟩
        unfold stepS
        rw [if_neg h0]
        cases hl : out.getLast? with
        | none =>
          simp only
          exact app out h1 fun s hs hn => by obtain ⟨r, a, b⟩ := h2 s hs hn; exact ⟨r, List.mem_append.2 (.inl a), b⟩
        | some q =>
          simp only
          have hq : out = out.dropLast ++ [q] := by
            have hne : out ≠ [] := fun e => by rw [e] at hl; simp at hl
            rw [List.getLast?_eq_some_getLast hne] at hl
            simp at hl
            rw [← hl]
            exact (List.dropLast_concat_getLast hne).symm
          split
          · rename_i hh
            refine ⟨fun r hr => ?_, fun s hs hn => ?_⟩
            · rcases List.mem_append.1 hr with hr | hr
              · obtain ⟨s, a, b⟩ := h1 r (by rw [hq]; exact List.mem_append.2 (.inl hr)); exact ⟨s, .inl a, b⟩
              · simp at hr; subst hr; exact ⟨t, .inr rfl, hh.2.symm, h0⟩
            · rcases hs with hs | rfl
              · obtain ⟨r, a, b⟩ := h2 s hs hn
                rw [hq] at a
                rcases List.mem_append.1 a with a | a
                · exact ⟨r, List.mem_append.2 (.inl a), b⟩
                · simp at a; subst a; exact ⟨(r.1, t, r.2.2), by simp, b⟩
              · exact ⟨(q.1, s, q.2.2), by simp, hh.2⟩
          · exact app out h1 fun s hs hn => by obtain ⟨r, a, b⟩ := h2 s hs hn; exact ⟨r, List.mem_append.2 (.inl a), b⟩
    obtain ⟨k1, k2⟩ := stepS_loads n l (stepS n out t) (fun s => T s ∨ s = t) key.1 key.2
    rw [List.foldl_cons]
    refine ⟨fun r hr => ?_, fun s hs hn => ?_⟩
    · obtain ⟨s, a, b⟩ := k1 r hr
      refine ⟨s, ?_, b⟩
      rcases a with (a | rfl) | a
      · exact .inl a
      · exact .inr (by simp)
      · exact .inr (by simp [a])
    · refine k2 s ?_ hn
      rcases hs with a | a
      · exact .inl (.inl a)
      · rcases List.mem_cons.1 a with rfl | a
        · exact .inl (.inr rfl)
        · exact .inr a

theorem filter_le {p q : Nat → Bool} (h : ∀ i, p i = true → q i = true) : ∀ l : List Nat, (l.filter p).length ≤ (l.filter q).length
  | [] => Nat.le_refl _
  | i :: l => by
    have ih := filter_le h l
    cases hp : p i
    · rw [List.filter_cons_of_neg (by simp [hp])]
      cases hq : q i
      · rw [List.filter_cons_of_neg (by simp [hq])]; exact ih
      · rw [List.filter_cons_of_pos (by simp [hq])]; simp; omega
    · rw [List.filter_cons_of_pos (by simp [hp]), List.filter_cons_of_pos (by simp [h i hp])]; simp; exact ih
theorem max_exists (P : Int → Prop) (t : Int) (h : ∀ a, P a → a ≤ t) : ∀ (n : Nat) (a0 : Int), (t - a0).toNat ≤ n → P a0 → ∃ a, P a ∧ ∀ b, P b → b ≤ a
  | 0, a0, hn, h0 => ⟨a0, h0, fun b hb => by have := h b hb; have := h a0 h0; omega⟩
  | n + 1, a0, hn, h0 => by
    by_cases hx : ∃ b, P b ∧ a0 < b
    · obtain ⟨b, hb, hlt⟩ := hx
      exact max_exists P t h n b (by have := h b hb; omega) hb
    · exact ⟨a0, h0, fun b hb => by
        by_cases hl : b ≤ a0
        · exact hl
        · exact absurd ⟨b, hb, by omega⟩ hx⟩

/-- By the visit j of flight i the sector has too many as it comes in. -/
def fullVis (fs : List Fli) (ss : List Int) (sec : ByteArray) (cap : Int) (vs : List Vis) (slot : Int) (j : Nat) : Bool :=
  ((vs.getD j (ByteArray.empty, 0, 0)).1.toList == sec.toList) && decide (cap < (loadTo fs ss sec (slot + (vs.getD j (ByteArray.empty, 0, 0)).2.1) fs.length : Nat))
def fullAt (fs : List Fli) (ss : List Int) (sec : ByteArray) (cap : Int) (i : Nat) : Bool :=
  decide (0 ≤ ss.getD i 0) && (List.range (fs.getD i (ByteArray.empty, 0, 0, [])).2.2.2.length).any (fullVis fs ss sec cap (fs.getD i (ByteArray.empty, 0, 0, [])).2.2.2 (ss.getD i 0))
def fullB (fs : List Fli) (ss : List Int) (sec : ByteArray) (cap : Int) : Bool := (List.range fs.length).any (fullAt fs ss sec cap)
def overB (rs : List Run) (cap : Int) : Bool := rs.any fun r => decide (cap < r.2.2)

theorem has_at {vs : List Vis} {slot : Int} {sec : ByteArray} {t : Int} (h : hasB vs slot sec t = true) : ∃ j, j < vs.length ∧ hasAt vs slot sec t j = true := by
  unfold hasB at h
  obtain ⟨j, hj, hh⟩ := List.any_eq_true.1 h
  exact ⟨j, List.mem_range.1 hj, hh⟩

/-- Too many at some tick just if too many at some arrival. -/
theorem over_full {fs : List Fli} {ss : List Int} (h : slotsB fs ss = true) (sec : ByteArray) {cap : Int} (hc : 0 ≤ cap) : overB (runsL fs ss sec) cap = fullB fs ss sec cap := by
  obtain ⟨hln, _, hsb, hfb⟩ := slots_bd h
  obtain ⟨g1, g2⟩ := stepS_loads (fun t => (loadTo fs ss sec t fs.length : Nat)) (ticks 0 20001) [] (fun _ => False) (by simp) (by simp)
  rw [Bool.eq_iff_iff]
  constructor
  · intro ho
    unfold overB at ho
    obtain ⟨r, hr, hcr⟩ := List.any_eq_true.1 ho
    obtain ⟨t, _, ht, hne⟩ := g1 r hr
    have hcr' : cap < (loadTo fs ss sec t fs.length : Nat) := by rw [ht]; simpa using hcr
    have hP : ∀ i, i < fs.length → flyAt fs ss sec t i = true → ∃ j a, j < (fs.getD i (ByteArray.empty, 0, 0, [])).2.2.2.length ∧ 0 ≤ ss.getD i 0 ∧ hasAt (fs.getD i (ByteArray.empty, 0, 0, [])).2.2.2 (ss.getD i 0) sec t j = true ∧ a = ss.getD i 0 + ((fs.getD i (ByteArray.empty, 0, 0, [])).2.2.2.getD j (ByteArray.empty, 0, 0)).2.1 := fun i hi hf => by
      unfold flyAt at hf
      simp only [Bool.and_eq_true, decide_eq_true_eq] at hf
      obtain ⟨j, hj, hh⟩ := has_at hf.2
      exact ⟨j, _, hj, hf.1, hh, rfl⟩
    let P : Int → Prop := fun a => ∃ i j, i < fs.length ∧ j < (fs.getD i (ByteArray.empty, 0, 0, [])).2.2.2.length ∧ 0 ≤ ss.getD i 0 ∧ hasAt (fs.getD i (ByteArray.empty, 0, 0, [])).2.2.2 (ss.getD i 0) sec t j = true ∧ a = ss.getD i 0 + ((fs.getD i (ByteArray.empty, 0, 0, [])).2.2.2.getD j (ByteArray.empty, 0, 0)).2.1
    have hle : ∀ a, P a → a ≤ t := fun a ⟨i, j, _, _, _, hh, e⟩ => by
      unfold hasAt at hh
      simp only [Bool.and_eq_true] at hh
      have := inB_iff.1 hh.2
      omega
    have hex : ∃ a0, P a0 := by
      have hpos : 0 < loadTo fs ss sec t fs.length := by omega
      unfold loadTo at hpos
      obtain ⟨i, hi⟩ := List.exists_mem_of_length_pos hpos
      obtain ⟨hi1, hi2⟩ := List.mem_filter.1 hi
      obtain ⟨j, a, q⟩ := hP i (List.mem_range.1 hi1) hi2
      exact ⟨a, i, j, List.mem_range.1 hi1, q⟩
    obtain ⟨a0, ha0⟩ := hex
    obtain ⟨a, ⟨i, j, hi, hj, hz, hh, ea⟩, hmax⟩ := max_exists P t hle _ a0 (Nat.le_refl _) ha0
    have hat := hle a ⟨i, j, hi, hj, hz, hh, ea⟩
    have hload : loadTo fs ss sec t fs.length ≤ loadTo fs ss sec a fs.length := by
      unfold loadTo
      have hall : ∀ i', i' < fs.length → flyAt fs ss sec t i' = true → flyAt fs ss sec a i' = true := fun i' hi' hf => by
        obtain ⟨j', a', hj', hz', hh', ea'⟩ := hP i' hi' hf
        have hma := hmax a' ⟨i', j', hi', hj', hz', hh', ea'⟩
        unfold flyAt
        rw [decide_eq_true hz', Bool.true_and]
        unfold hasB
        refine any_yes hj' ?_
        unfold hasAt at hh' ⊢
        simp only [Bool.and_eq_true] at hh' ⊢
        have := inB_iff.1 hh'.2
        exact ⟨hh'.1, inB_iff.2 (by omega)⟩
      have := filter_le (p := fun i => decide (i < fs.length) && flyAt fs ss sec t i) (q := fun i => decide (i < fs.length) && flyAt fs ss sec a i) (fun i hh => by
        simp only [Bool.and_eq_true, decide_eq_true_eq] at hh ⊢
        exact ⟨hh.1, hall i hh.1 hh.2⟩) (List.range fs.length)
      have e : ∀ t', (List.range fs.length).filter (fun i => decide (i < fs.length) && flyAt fs ss sec t' i) = (List.range fs.length).filter (flyAt fs ss sec t') := fun t' => List.filter_congr fun i hi => by
        rw [decide_eq_true (List.mem_range.1 hi), Bool.true_and]
      rw [e, e] at this
      exact this
    unfold fullB
    refine any_yes hi ?_
    unfold fullAt
    rw [decide_eq_true hz, Bool.true_and]
    refine any_yes hj ?_
    unfold fullVis
    unfold hasAt at hh
    simp only [Bool.and_eq_true] at hh ⊢
    exact ⟨hh.1, decide_eq_true (by rw [← ea]; omega)⟩
  · intro hf
    unfold fullB at hf
    obtain ⟨i, hi, h1⟩ := List.any_eq_true.1 hf
    have hi' := List.mem_range.1 hi
    unfold fullAt at h1
    simp only [Bool.and_eq_true, decide_eq_true_eq] at h1
    obtain ⟨hz, h2⟩ := h1
    obtain ⟨j, hj, h3⟩ := List.any_eq_true.1 h2
    have hj' := List.mem_range.1 hj
    unfold fullVis at h3
    simp only [Bool.and_eq_true, decide_eq_true_eq] at h3
    rw [getD_at fs i _ hi'] at hj' h3
    rw [getD_at ss i _ (by omega)] at hz h3
    rw [getD_at _ j _ hj'] at h3
    have hb := (hfb i hi').1 _ (List.getElem_mem hj')
    have hs := hsb i (by omega)
    obtain ⟨r, hr, e⟩ := g2 (ss[i] + fs[i].2.2.2[j].2.1) (.inr ((mem_ticks 0 20001 _).2 (by omega))) (by omega)
    unfold overB
    exact List.any_eq_true.2 ⟨r, hr, decide_eq_true (by rw [e]; exact h3.2)⟩

end Go.Proofs.YtciacofibljmoaaGreat
