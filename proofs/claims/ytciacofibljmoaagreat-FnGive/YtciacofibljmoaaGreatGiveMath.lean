/- Plain mathematics of giving: the slots given fit at every step, each has the least that fits with those ahead of it. -/
import Derived.Test.YtciacofibljmoaaGreatDraw13
import Derived.Test.YtciacofibljmoaaGreatOrdMath
namespace Go.Proofs.YtciacofibljmoaaGreat

theorem least_fits {cs : List (ByteArray × Int)} {fs : List Fli} {ss : List Int} {i : Nat} (h : leastV cs fs ss i ≠ -1) : fitsB cs fs (ss.set i (leastV cs fs ss i)) = true := by
  unfold leastV at *
  cases hf : (ticks (fs.getD i (ByteArray.empty, 0, 0, [])).2.1 ((fs.getD i (ByteArray.empty, 0, 0, [])).2.2.1.toNat + 1)).find? (fun t => fitsB cs fs (ss.set i t)) with
  | none => rw [hf] at h; simp at h
  | some t =>
    rw [Option.getD_some]
    exact List.find?_some (p := fun t => fitsB cs fs (ss.set i t)) hf
theorem giveFold_other (cs : List (ByteArray × Int)) (fs : List Fli) (j : Nat) : ∀ (l : List Nat) (ss : List Int), j ∉ l → (l.foldl (giveOne cs fs) ss)[j]? = ss[j]?
  | [], ss, _ => rfl
  | i :: l, ss, h => by
    rw [List.foldl_cons, giveFold_other cs fs j l _ (fun hh => h (List.mem_cons_of_mem _ hh))]
    unfold giveOne
    rw [List.getElem?_set_ne]
    rintro rfl
    exact h (List.mem_cons_self ..)
theorem ordTo_nodup (fs : List Fli) (k : Nat) : (ordTo fs k).Nodup := (ordTo_perm fs k).nodup_iff.2 List.nodup_range
theorem ord_not_ahead (fs : List Fli) {k : Nat} (hk : k < (ordTo fs fs.length).length) : (ordTo fs fs.length)[k] ∉ (ordTo fs fs.length).take k := by
  intro h
  obtain ⟨j, hj, he⟩ := List.mem_take_iff_getElem.1 h
  exact List.pairwise_iff_getElem.1 (ordTo_nodup fs fs.length) j k (by omega) hk (by omega) he
theorem ord_not_behind (fs : List Fli) {k : Nat} (hk : k < (ordTo fs fs.length).length) : (ordTo fs fs.length)[k] ∉ (ordTo fs fs.length).drop (k + 1) := by
  intro h
  obtain ⟨j, hj, he⟩ := List.mem_drop_iff_getElem.1 h
  exact List.pairwise_iff_getElem.1 (ordTo_nodup fs fs.length) k (k + 1 + j) hk (by omega) (by omega) he.symm
/-- Who is not yet asked has none. -/
theorem give_none (cs : List (ByteArray × Int)) (fs : List Fli) {k : Nat} (hk : k < (ordTo fs fs.length).length) : (giveTo cs fs k)[(ordTo fs fs.length)[k]]? = some (-1) := by
  unfold giveTo
  rw [giveFold_other cs fs _ _ _ (ord_not_ahead fs hk)]
  have := ordTo_lt fs fs.length _ (List.getElem_mem hk)
  simp [this]
/-- Who is asked keeps what it then has. -/
theorem give_at (cs : List (ByteArray × Int)) (fs : List Fli) {k : Nat} (hk : k < (ordTo fs fs.length).length) : (giveTo cs fs fs.length)[(ordTo fs fs.length)[k]]? = some (leastV cs fs (giveTo cs fs k) (ordTo fs fs.length)[k]) := by
  have hkf : k < fs.length := by rw [ordTo_len] at hk; exact hk
  have hlt := ordTo_lt fs fs.length _ (List.getElem_mem hk)
  have hsp : (ordTo fs fs.length).take fs.length = (ordTo fs fs.length).take (k + 1) ++ (ordTo fs fs.length).drop (k + 1) := by
    rw [List.take_append_drop, List.take_of_length_le (by rw [ordTo_len]; exact Nat.le_refl _)]
  have e : giveTo cs fs fs.length = ((ordTo fs fs.length).drop (k + 1)).foldl (giveOne cs fs) (giveTo cs fs (k + 1)) := by
    unfold giveTo
    rw [hsp, List.foldl_append]
  rw [e, giveFold_other cs fs _ _ _ (ord_not_behind fs hk), giveTo_succ cs fs hkf]
  rw [List.getElem?_set_self (by rw [giveTo_len]; exact hlt)]
theorem none_fits {cs : List (ByteArray × Int)} {fs : List Fli} (hc : capsB cs = true) (hf : flisB fs = true) : fitsB cs fs (List.replicate fs.length (-1)) = true := by
  have hg : ∀ i, i < fs.length → (List.replicate fs.length (-1 : Int)).getD i 0 = -1 := fun i hi => by
    rw [getD_at _ i _ (by simpa using hi)]; simp
  unfold fitsB
  rw [hc, Bool.true_and]
  simp only [Bool.and_eq_true]
  refine ⟨⟨?_, ?_⟩, ?_⟩
  · unfold slotsB
    rw [hf]
    simp only [List.length_replicate, decide_true, Bool.true_and]
    unfold slotsTo
    rw [List.all_eq_true]
    intro i hi
    unfold slotOkAt
    rw [hg i (List.mem_range.1 hi), inB_eq]
    simp
  · unfold inTimeB
    rw [List.all_eq_true]
    intro i hi
    unfold inTimeAt
    rw [hg i (List.mem_range.1 hi)]
    simp
  · unfold roomB
    rw [List.all_eq_true]
    intro i hi
    unfold notFullAt
    have : fullB fs (List.replicate fs.length (-1)) (cs.getD i (ByteArray.empty, 0)).1 (cs.getD i (ByteArray.empty, 0)).2 = false := by
      unfold fullB
      refine any_no (fun j hj => ?_)
      unfold fullAt
      rw [hg j hj]
      simp
    rw [this]
    rfl
theorem give_fits {cs : List (ByteArray × Int)} {fs : List Fli} (hc : capsB cs = true) (hf : flisB fs = true) : ∀ k, k ≤ fs.length → fitsB cs fs (giveTo cs fs k) = true
  | 0, _ => none_fits hc hf
  | k + 1, hk => by
    have hko : k < (ordTo fs fs.length).length := by rw [ordTo_len]; omega
    rw [giveTo_succ cs fs (by omega)]
    by_cases h : leastV cs fs (giveTo cs fs k) (ordTo fs fs.length)[k] = -1
    · rw [h]
      have hn := give_none cs fs hko
      have hlt := ordTo_lt fs fs.length _ (List.getElem_mem hko)
      have : (giveTo cs fs k).set (ordTo fs fs.length)[k] (-1) = giveTo cs fs k := by
        rw [List.getElem?_eq_getElem (by rw [giveTo_len]; exact hlt)] at hn
        simp only [Option.some.injEq] at hn
        rw [← hn, List.set_getElem_self]
      rw [this]
      exact give_fits hc hf k (by omega)
    · exact least_fits h

end Go.Proofs.YtciacofibljmoaaGreat
