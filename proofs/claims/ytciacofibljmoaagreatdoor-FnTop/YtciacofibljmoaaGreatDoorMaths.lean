/- Plain mathematics of the order in which flights are planned: it is the one order by Plan, then by Name, then by place. -/
import Derived.Test.YtciacofibljmoaaGreatDoorDrawsB
namespace Go.Proofs.YtciacofibljmoaaGreatDoor

theorem less_eq : ∀ (x y : List UInt8), Op.bytesLess x y = decide (x < y)
  | x, [] => by cases x <;> simp [Op.bytesLess]
  | [], b :: y => by simp [Op.bytesLess]
  | a :: x, b :: y => by
    rw [Op.bytesLess, less_eq x y]
    by_cases h : a < b
    · simp [h, List.cons_lt_cons_iff]
    · by_cases he : a = b
      · subst he; simp
      · simp [h, he, List.cons_lt_cons_iff]
def planAt (fs : List Fli) (i : Nat) : Int := (fs.getD i (ByteArray.empty, 0, 0, [])).2.1
def nameAt (fs : List Fli) (i : Nat) : List UInt8 := (fs.getD i (ByteArray.empty, 0, 0, [])).1.toList
/-- The one at place i comes ahead of the one at place j. -/
def bef (fs : List Fli) (i j : Nat) : Prop :=
  planAt fs i < planAt fs j ∨ (planAt fs i = planAt fs j ∧ (nameAt fs i < nameAt fs j ∨ (nameAt fs i = nameAt fs j ∧ i < j)))
theorem goes_iff (fs : List Fli) (i j : Nat) : goesB fs i j = true ↔ planAt fs j < planAt fs i ∨ (planAt fs j = planAt fs i ∧ (nameAt fs j < nameAt fs i ∨ nameAt fs j = nameAt fs i)) := by
  unfold goesB
  rw [less_eq]
  simp [planAt, nameAt]
theorem bef_irrefl (fs : List Fli) (i : Nat) : ¬ bef fs i i := by
  unfold bef
  rintro (h | ⟨_, h | ⟨_, h⟩⟩)
  · omega
  · exact List.lt_irrefl _ h
  · omega
theorem bef_trans {fs : List Fli} {i j k : Nat} (h1 : bef fs i j) (h2 : bef fs j k) : bef fs i k := by
  unfold bef at *
  rcases h1 with h1 | ⟨e1, h1⟩
  · rcases h2 with h2 | ⟨e2, h2⟩
    · exact .inl (by omega)
    · exact .inl (by omega)
  · rcases h2 with h2 | ⟨e2, h2⟩
    · exact .inl (by omega)
    · refine .inr ⟨by omega, ?_⟩
      rcases h1 with h1 | ⟨n1, h1⟩
      · rcases h2 with h2 | ⟨n2, h2⟩
        · exact .inl (List.lt_trans h1 h2)
        · exact .inl (by rw [← n2]; exact h1)
      · rcases h2 with h2 | ⟨n2, h2⟩
        · exact .inl (by rw [n1]; exact h2)
        · exact .inr ⟨by rw [n1, n2], by omega⟩
theorem bef_asymm {fs : List Fli} {i j : Nat} (h1 : bef fs i j) (h2 : bef fs j i) : False := bef_irrefl fs i (bef_trans h1 h2)
theorem names_total (x y : List UInt8) : x < y ∨ x = y ∨ y < x := by
  by_cases h : x < y
  · exact .inl h
  · by_cases h2 : y < x
    · exact .inr (.inr h2)
    · exact .inr (.inl (List.le_antisymm (List.not_lt.1 h2) (List.not_lt.1 h)))
/-- Of two places the one ahead goes ahead, or with. -/
theorem goes_bef {fs : List Fli} {i j : Nat} (h : j < i) (hg : goesB fs i j = true) : bef fs j i := by
  rcases (goes_iff fs i j).1 hg with h1 | ⟨h1, h2 | h2⟩
  · exact .inl h1
  · exact .inr ⟨h1, .inl h2⟩
  · exact .inr ⟨h1, .inr ⟨h2, h⟩⟩
theorem not_goes {fs : List Fli} {i j : Nat} (hg : goesB fs i j = false) : bef fs i j := by
  have hn : ¬ (planAt fs j < planAt fs i ∨ (planAt fs j = planAt fs i ∧ (nameAt fs j < nameAt fs i ∨ nameAt fs j = nameAt fs i))) := by
    rw [← goes_iff, hg]
    simp
  unfold bef
  by_cases h1 : planAt fs i < planAt fs j
  · exact .inl h1
  · refine .inr ⟨?_, .inl ?_⟩
    · by_cases h2 : planAt fs j < planAt fs i
      · exact absurd (.inl h2) hn
      · omega
    · have he : planAt fs j = planAt fs i := by
        by_cases h2 : planAt fs j < planAt fs i
        · exact absurd (.inl h2) hn
        · omega
      rcases names_total (nameAt fs i) (nameAt fs j) with h | h | h
      · exact h
      · exact absurd (.inr ⟨he, .inr h.symm⟩) hn
      · exact absurd (.inr ⟨he, .inl h⟩) hn
theorem ordIns_perm (fs : List Fli) (os : List Nat) (i : Nat) : (ordIns fs os i).Perm (i :: os) := by
  unfold ordIns
  have := List.takeWhile_append_dropWhile (p := goesB fs i) (l := os)
  exact List.perm_middle.trans (by rw [this])
theorem ordTo_perm (fs : List Fli) : ∀ k, (ordTo fs k).Perm (List.range k)
  | 0 => List.Perm.refl _
  | k + 1 => by
    rw [ordTo_succ, List.range_succ]
    exact ((ordIns_perm fs _ k).trans ((ordTo_perm fs k).cons k)).trans (List.perm_append_singleton k (List.range k)).symm
theorem dropWhile_bef {fs : List Fli} {i : Nat} : ∀ (os : List Nat), os.Pairwise (bef fs) → ∀ x ∈ os.dropWhile (goesB fs i), bef fs i x
  | [], _, x, hx => by simp at hx
  | y :: l, hp, x, hx => by
    cases hg : goesB fs i y with
    | true =>
      rw [List.dropWhile_cons_of_pos hg] at hx
      exact dropWhile_bef l (List.pairwise_cons.1 hp).2 x hx
    | false =>
      rw [List.dropWhile_cons_of_neg (by simp [hg])] at hx
      rcases List.mem_cons.1 hx with rfl | hx
      · exact not_goes hg
      · exact bef_trans (not_goes hg) ((List.pairwise_cons.1 hp).1 x hx)
theorem takeWhile_bef {fs : List Fli} {i : Nat} : ∀ (os : List Nat), (∀ x ∈ os, x < i) → ∀ x ∈ os.takeWhile (goesB fs i), bef fs x i
  | [], _, x, hx => by simp at hx
  | y :: l, hlt, x, hx => by
    cases hg : goesB fs i y with
    | true =>
      rw [List.takeWhile_cons_of_pos hg] at hx
      rcases List.mem_cons.1 hx with rfl | hx
      · exact goes_bef (hlt _ (List.mem_cons_self ..)) hg
      · exact takeWhile_bef l (fun z hz => hlt z (List.mem_cons_of_mem _ hz)) x hx
    | false =>
      rw [List.takeWhile_cons_of_neg (by simp [hg])] at hx
      simp at hx
theorem ordIns_sorted {fs : List Fli} {os : List Nat} {i : Nat} (hp : os.Pairwise (bef fs)) (hlt : ∀ x ∈ os, x < i) : (ordIns fs os i).Pairwise (bef fs) := by
  unfold ordIns
  have hsp := List.takeWhile_append_dropWhile (p := goesB fs i) (l := os)
  have hp2 := hp
  rw [← hsp, List.pairwise_append] at hp2
  rw [List.pairwise_append, List.pairwise_cons]
  refine ⟨hp2.1, ⟨dropWhile_bef os hp, hp2.2.1⟩, fun a ha b hb => ?_⟩
  rcases List.mem_cons.1 hb with rfl | hb
  · exact takeWhile_bef os hlt a ha
  · exact hp2.2.2 a ha b hb
theorem ordTo_sorted (fs : List Fli) : ∀ k, (ordTo fs k).Pairwise (bef fs)
  | 0 => by simp [ordTo]
  | k + 1 => by
    rw [ordTo_succ]
    exact ordIns_sorted (ordTo_sorted fs k) (ordTo_lt fs k)
/-- There is one such order. -/
theorem ord_unique {fs : List Fli} {k : Nat} {l : List Nat} (hp : l.Perm (List.range k)) (hs : l.Pairwise (bef fs)) : l = ordTo fs k :=
  List.Perm.eq_of_pairwise (fun _ _ _ _ h1 h2 => absurd h2 (fun h => bef_asymm h1 h)) hs (ordTo_sorted fs k) (hp.trans (ordTo_perm fs k).symm)

end Go.Proofs.YtciacofibljmoaaGreatDoor

/- Plain mathematics of giving: the slots given fit at every step, each has the least that fits with those ahead of it. -/
namespace Go.Proofs.YtciacofibljmoaaGreatDoor

theorem least_fits {cs : List (ByteArray × Int)} {fs : List Fli} {ss : List Int} {i : Nat} (h : leastV cs fs ss i ≠ -1) : fitsB cs fs (ss.set i (leastV cs fs ss i)) = true := by
  unfold leastV at *
  cases hf : (ticks (fs.getD i (ByteArray.empty, 0, 0, [])).2.1 ((fs.getD i (ByteArray.empty, 0, 0, [])).2.2.1.toNat + 1)).find? (fun t => fitsB cs fs (ss.set i t)) with
  | none => rw [hf] at h; simp at h
  | some t =>
    rw [Option.getD_some]
    exact List.find?_some (p := fun t => fitsB cs fs (ss.set i t)) hf
theorem giveFold_other (cs : List (ByteArray × Int)) (fs : List Fli) (j : Nat) : ∀ (l : List Nat) (ss : List Int), j ∉ l → (l.foldl (giveOne cs fs) ss)[j]? = ss[j]?
  | [], ss, _ => rfl
  | i :: l, ss, h => by
    rw [List.foldl_cons, giveFold_other cs fs j l _ (fun hh => h (List.mem_cons_of_mem _ hh))]
    unfold giveOne
    rw [List.getElem?_set_ne]
    rintro rfl
    exact h (List.mem_cons_self ..)
theorem ordTo_nodup (fs : List Fli) (k : Nat) : (ordTo fs k).Nodup := (ordTo_perm fs k).nodup_iff.2 List.nodup_range
theorem ord_not_ahead (fs : List Fli) {k : Nat} (hk : k < (ordTo fs fs.length).length) : (ordTo fs fs.length)[k] ∉ (ordTo fs fs.length).take k := by
  intro h
  obtain ⟨j, hj, he⟩ := List.mem_take_iff_getElem.1 h
  exact List.pairwise_iff_getElem.1 (ordTo_nodup fs fs.length) j k (by omega) hk (by omega) he
theorem ord_not_behind (fs : List Fli) {k : Nat} (hk : k < (ordTo fs fs.length).length) : (ordTo fs fs.length)[k] ∉ (ordTo fs fs.length).drop (k + 1) := by
  intro h
  obtain ⟨j, hj, he⟩ := List.mem_drop_iff_getElem.1 h
  exact List.pairwise_iff_getElem.1 (ordTo_nodup fs fs.length) k (k + 1 + j) hk (by omega) (by omega) he.symm
/-- Who is not yet asked has none. -/
theorem give_none (cs : List (ByteArray × Int)) (fs : List Fli) {k : Nat} (hk : k < (ordTo fs fs.length).length) : (giveTo cs fs k)[(ordTo fs fs.length)[k]]? = some (-1) := by
  unfold giveTo
  rw [giveFold_other cs fs _ _ _ (ord_not_ahead fs hk)]
  have := ordTo_lt fs fs.length _ (List.getElem_mem hk)
  simp [this]
/-- Who is asked keeps what it then has. -/
theorem give_at (cs : List (ByteArray × Int)) (fs : List Fli) {k : Nat} (hk : k < (ordTo fs fs.length).length) : (giveTo cs fs fs.length)[(ordTo fs fs.length)[k]]? = some (leastV cs fs (giveTo cs fs k) (ordTo fs fs.length)[k]) := by
  have hkf : k < fs.length := by rw [ordTo_len] at hk; exact hk
  have hlt := ordTo_lt fs fs.length _ (List.getElem_mem hk)
  have hsp : (ordTo fs fs.length).take fs.length = (ordTo fs fs.length).take (k + 1) ++ (ordTo fs fs.length).drop (k + 1) := by
    rw [List.take_append_drop, List.take_of_length_le (by rw [ordTo_len]; exact Nat.le_refl _)]
  have e : giveTo cs fs fs.length = ((ordTo fs fs.length).drop (k + 1)).foldl (giveOne cs fs) (giveTo cs fs (k + 1)) := by
    unfold giveTo
    rw [hsp, List.foldl_append]
  rw [e, giveFold_other cs fs _ _ _ (ord_not_behind fs hk), giveTo_succ cs fs hkf]
  rw [List.getElem?_set_self (by rw [giveTo_len]; exact hlt)]
theorem none_fits {cs : List (ByteArray × Int)} {fs : List Fli} (hc : capsB cs = true) (hf : flisB fs = true) : fitsB cs fs (List.replicate fs.length (-1)) = true := by
  have hg : ∀ i, i < fs.length → (List.replicate fs.length (-1 : Int)).getD i 0 = -1 := fun i hi => by
    rw [getD_at _ i _ (by simpa using hi)]; simp
  unfold fitsB
  rw [hc, Bool.true_and]
  simp only [Bool.and_eq_true]
  refine ⟨⟨?_, ?_⟩, ?_⟩
  · unfold slotsB
    rw [hf]
    simp only [List.length_replicate, decide_true, Bool.true_and]
    unfold slotsTo
    rw [List.all_eq_true]
    intro i hi
    unfold slotOkAt
    rw [hg i (List.mem_range.1 hi), inB_eq]
    simp
  · unfold inTimeB
    rw [List.all_eq_true]
    intro i hi
    unfold inTimeAt
    rw [hg i (List.mem_range.1 hi)]
    simp
  · unfold roomB
    rw [List.all_eq_true]
    intro i hi
    unfold notFullAt
    have : fullB fs (List.replicate fs.length (-1)) (cs.getD i (ByteArray.empty, 0)).1 (cs.getD i (ByteArray.empty, 0)).2 = false := by
      unfold fullB
      refine any_no (fun j hj => ?_)
      unfold fullAt
      rw [hg j hj]
      simp
    rw [this]
    rfl
theorem give_fits {cs : List (ByteArray × Int)} {fs : List Fli} (hc : capsB cs = true) (hf : flisB fs = true) : ∀ k, k ≤ fs.length → fitsB cs fs (giveTo cs fs k) = true
  | 0, _ => none_fits hc hf
  | k + 1, hk => by
    have hko : k < (ordTo fs fs.length).length := by rw [ordTo_len]; omega
    rw [giveTo_succ cs fs (by omega)]
    by_cases h : leastV cs fs (giveTo cs fs k) (ordTo fs fs.length)[k] = -1
    · rw [h]
      have hn := give_none cs fs hko
      have hlt := ordTo_lt fs fs.length _ (List.getElem_mem hko)
      have : (giveTo cs fs k).set (ordTo fs fs.length)[k] (-1) = giveTo cs fs k := by
        rw [List.getElem?_eq_getElem (by rw [giveTo_len]; exact hlt)] at hn
        simp only [Option.some.injEq] at hn
        rw [← hn, List.set_getElem_self]
      rw [this]
      exact give_fits hc hf k (by omega)
    · exact least_fits h

end Go.Proofs.YtciacofibljmoaaGreatDoor
