/- Plain mathematics of runs: changes of a load, put in order, give the same runs as a look at every tick. -/
import Derived.Test.YtciacofibljmoaaGreatDoorLoad
import Derived.Maps.OwnOps
import Derived.Maps.OwnSet
import Derived.Test.YtciacofibljmoaaGreatDoorRows
import Derived.Shelf.SlIterI.Nil
import Derived.Shelf.SortM.Plain
import Derived.Shelf.SortM.SortNone
namespace Go.Proofs.YtciacofibljmoaaGreatDoor

abbrev Run := Int × Int × Int

/-- One tick of the program's way: changes d; the runs so far, from when on, the load. -/
def stepR (d : Int → Int) (s : List Run × Int × Int) (t : Int) : List Run × Int × Int :=
  if d t = 0 then s else ((if 0 < s.2.2 then s.1 ++ [(s.2.1, t - 1, s.2.2)] else s.1), t, s.2.2 + d t)
/-- One tick of the document's way: the load n; the runs so far. -/
def stepS (n : Int → Int) (out : List Run) (t : Int) : List Run :=
  if n t = 0 then out else
    match out.getLast? with
    | some r => if r.2.1 = t - 1 ∧ r.2.2 = n t then out.dropLast ++ [(r.1, t, r.2.2)] else out ++ [(t, t, n t)]
    | none => out ++ [(t, t, n t)]
def ticks (low : Int) (m : Nat) : List Int := (List.range m).map fun i : Nat => low + (i : Int)
theorem ticks_succ (low : Int) (m : Nat) : ticks low (m + 1) = ticks low m ++ [low + (m : Int)] := by simp [ticks, List.range_succ]
theorem mem_ticks (low : Int) (m : Nat) (x : Int) : x ∈ ticks low m ↔ low ≤ x ∧ x < low + m := by
  simp only [ticks, List.mem_map, List.mem_range]
  constructor
  · rintro ⟨i, hi, rfl⟩; omega
  · rintro ⟨h1, h2⟩; exact ⟨(x - low).toNat, by omega, by omega⟩
theorem ticks_asc (low : Int) : ∀ m : Nat, (ticks low m).Pairwise (· < ·)
  | 0 => by simp [ticks]
  | m + 1 => by
    rw [ticks_succ, List.pairwise_append]
    refine ⟨ticks_asc low m, by simp, fun a ha b hb => ?_⟩
    have := (mem_ticks low m a).1 ha
    simp at hb
    omega

theorem stepS_same {n : Int → Int} {runs : List Run} {fr T ld t : Int} (h0 : n t ≠ 0) (h1 : T = t - 1) (h2 : ld = n t) : stepS n (runs ++ [(fr, T, ld)]) t = runs ++ [(fr, t, ld)] := by
  unfold stepS
  rw [if_neg h0, List.getLast?_concat]
  simp [h1, h2]
theorem stepS_new {n : Int → Int} {out : List Run} {t : Int} (h0 : n t ≠ 0) (h : ∀ r, out.getLast? = some r → ¬ (r.2.1 = t - 1 ∧ r.2.2 = n t)) : stepS n out t = out ++ [(t, t, n t)] := by
  unfold stepS
  rw [if_neg h0]
  cases hl : out.getLast? with
  | none => rfl
  | some r => simp only; rw [if_neg (h r hl)]

/-- The two ways go hand in hand. -/
theorem hand_in_hand (d cum : Int → Int) (low : Int) (h0 : cum (low - 1) = 0) (hs : ∀ t, cum t = cum (t - 1) + d t) (hp : ∀ t, 0 ≤ cum t) : ∀ m : Nat,
    ∃ runs fr, (ticks low m).foldl (stepR d) ([], 0, 0) = (runs, fr, cum (low + m - 1)) ∧
      (ticks low m).foldl (stepS cum) [] = runs ++ (if 0 < cum (low + m - 1) then [(fr, low + m - 1, cum (low + m - 1))] else []) ∧
      (∀ r, runs.getLast? = some r → r.2.1 < fr ∧ fr ≤ low + m - 1)
  | 0 => by
    refine ⟨[], 0, ?_, ?_, by simp⟩
    · simp [ticks, h0]
    · simp [ticks, h0]
  | m + 1 => by
    obtain ⟨runs, fr, e1, e2, hl⟩ := hand_in_hand d cum low h0 hs hp m
    have hst := hs (low + (m : Int))
    have hpt := hp (low + (m : Int))
    have hpT := hp (low + (m : Int) - 1)
    rw [ticks_succ, List.foldl_append, List.foldl_append, e1, e2, List.foldl_cons, List.foldl_nil, List.foldl_cons, List.foldl_nil]
    have eT : low + ((m + 1 : Nat) : Int) - 1 = low + (m : Int) := by omega
    rw [eT]
    generalize hT : low + (m : Int) - 1 = T at *
    have ht : low + (m : Int) = T + 1 := by omega
    rw [ht] at hst hpt ⊢
    have e3 : T + 1 - 1 = T := by omega
    by_cases hd : d (T + 1) = 0
    · have hc : cum (T + 1) = cum T := by omega
      refine ⟨runs, fr, by unfold stepR; rw [if_pos hd, hc], ?_, fun r hr => by have := hl r hr; omega⟩
      by_cases hn : cum (T + 1) = 0
      · rw [if_neg (by omega), if_neg (by omega)]
        unfold stepS; rw [if_pos hn]
      · rw [if_pos (by omega), if_pos (by omega), stepS_same hn (by omega) hc.symm, hc]
    · refine ⟨_, T + 1, by unfold stepR; rw [if_neg hd, ← hst], ?_, ?_⟩
      · simp only [e3]
        by_cases hn : cum (T + 1) = 0
        · rw [if_neg (c := 0 < cum (T + 1)) (by omega), List.append_nil]
          unfold stepS; rw [if_pos hn]
          split <;> simp
        · rw [if_pos (c := 0 < cum (T + 1)) (by omega), stepS_new hn]
          · split <;> simp
          · intro r hr
            split at hr
            · rw [List.getLast?_concat] at hr
              simp at hr
              subst hr
              simp only
              omega
            · rw [List.append_nil] at hr
              have := hl r hr
              omega
      · intro r hr
        simp only [e3] at hr
        split at hr
        · rw [List.getLast?_concat] at hr
          simp at hr
          subst hr
          simp only
          omega
        · have := hl r hr
          omega

/-- Ticks at which nothing changes may be left out. -/
theorem fold_skip (d : Int → Int) : ∀ (l : List Int) (s : List Run × Int × Int), l.foldl (stepR d) s = (l.filter fun t => decide (d t ≠ 0)).foldl (stepR d) s
  | [], s => rfl
  | t :: l, s => by
    by_cases h : d t = 0
    · rw [List.foldl_cons, List.filter_cons_of_neg (by simpa using h), fold_skip d l]
      have : stepR d s t = s := by unfold stepR; rw [if_pos h]
      rw [this]
    · rw [List.foldl_cons, List.filter_cons_of_pos (by simpa using h), List.foldl_cons, fold_skip d l]

theorem asc_eq {l l' : List Int} (h : l.Pairwise (· < ·)) (h' : l'.Pairwise (· < ·)) (hm : ∀ x, x ∈ l ↔ x ∈ l') : l = l' := by
  have nd : ∀ {l : List Int}, l.Pairwise (· < ·) → l.Nodup := fun h => h.imp fun h => by omega
  refine List.Perm.eq_of_pairwise (le := fun a b => a < b) (fun a b _ _ h1 h2 => by omega) h h' ((List.perm_ext_iff_of_nodup (nd h) (nd h')).2 hm)

/-- The keys in order do as well as all ticks. -/
theorem keys_do (d : Int → Int) (ks : List Int) (low : Int) (m : Nat) (hk : ks.Pairwise (· < ·)) (h1 : ∀ x, d x ≠ 0 → x ∈ ks) (h2 : ∀ x, d x ≠ 0 → low ≤ x ∧ x < low + m) (s : List Run × Int × Int) :
    ks.foldl (stepR d) s = (ticks low m).foldl (stepR d) s := by
  rw [fold_skip d ks, fold_skip d (ticks low m)]
  congr 1
  refine asc_eq (hk.filter _) ((ticks_asc low m).filter _) fun x => ?_
  simp only [List.mem_filter, decide_eq_true_eq]
  constructor
  · rintro ⟨_, hx⟩; exact ⟨(mem_ticks low m x).2 (h2 x hx), hx⟩
  · rintro ⟨_, hx⟩; exact ⟨h1 x hx, hx⟩

/-- Changes and loads of spans: from the first number to just ahead of the second. -/
def one (p : Prop) [Decidable p] : Int := if p then 1 else 0
def dAt (sp : List (Int × Int)) (t : Int) : Int := (sp.map fun p => one (t = p.1) - one (t = p.2)).sum
def cumAt (sp : List (Int × Int)) (t : Int) : Int := (sp.map fun p => one (p.1 ≤ t) - one (p.2 ≤ t)).sum
theorem cum_step (sp : List (Int × Int)) (t : Int) : cumAt sp t = cumAt sp (t - 1) + dAt sp t := by
  unfold cumAt dAt
  induction sp with
  | nil => rfl
  | cons p r ih =>
    simp only [List.map_cons, List.sum_cons]
    rw [ih]
    unfold one
    have a : (if p.1 ≤ t then (1 : Int) else 0) = (if p.1 ≤ t - 1 then 1 else 0) + (if t = p.1 then 1 else 0) := by repeat' split <;> omega
    have b : (if p.2 ≤ t then (1 : Int) else 0) = (if p.2 ≤ t - 1 then 1 else 0) + (if t = p.2 then 1 else 0) := by repeat' split <;> omega
    omega
theorem cum_zero (sp : List (Int × Int)) (t : Int) (h : ∀ p ∈ sp, (t < p.1 ∧ t < p.2) ∨ (p.1 ≤ t ∧ p.2 ≤ t)) : cumAt sp t = 0 := by
  unfold cumAt
  induction sp with
  | nil => rfl
  | cons p r ih =>
    simp only [List.map_cons, List.sum_cons]
    rw [ih fun q hq => h q (by simp [hq])]
    have := h p (by simp)
    unfold one
    repeat' split <;> omega
theorem cum_append (a b : List (Int × Int)) (t : Int) : cumAt (a ++ b) t = cumAt a t + cumAt b t := by simp [cumAt, List.sum_append]
theorem dAt_append (a b : List (Int × Int)) (t : Int) : dAt (a ++ b) t = dAt a t + dAt b t := by simp [dAt, List.sum_append]
theorem dAt_mem {sp : List (Int × Int)} {t : Int} (h : dAt sp t ≠ 0) : ∃ p ∈ sp, t = p.1 ∨ t = p.2 := by
  unfold dAt at h
  induction sp with
  | nil => exact absurd rfl h
  | cons p r ih =>
    by_cases hp : t = p.1 ∨ t = p.2
    · exact ⟨p, by simp, hp⟩
    · simp only [List.map_cons, List.sum_cons] at h
      have e : one (t = p.1) - one (t = p.2) = 0 := by unfold one; rw [if_neg (fun h => hp (.inl h)), if_neg (fun h => hp (.inr h))]; rfl
      rw [e, Int.zero_add] at h
      obtain ⟨q, hq, hh⟩ := ih h
      exact ⟨q, by simp [hq], hh⟩

/-- The spans of the first j visits to a sector. -/
def spanV (vs : List Vis) (slot : Int) (sec : ByteArray) (j : Nat) : List (Int × Int) :=
  ((vs.take j).filter fun v => v.1.toList == sec.toList).map fun v => (slot + v.2.1, slot + v.2.1 + v.2.2)
theorem spanV_zero (vs : List Vis) (slot : Int) (sec : ByteArray) : spanV vs slot sec 0 = [] := rfl
theorem spanV_yes {vs : List Vis} {slot : Int} {sec : ByteArray} {j : Nat} (hj : j < vs.length) (h : (vs[j].1.toList == sec.toList) = true) : spanV vs slot sec (j + 1) = spanV vs slot sec j ++ [(slot + vs[j].2.1, slot + vs[j].2.1 + vs[j].2.2)] := by
  unfold spanV
  rw [List.take_succ_eq_append_getElem hj, List.filter_append]
  simp [h]
theorem spanV_no {vs : List Vis} {slot : Int} {sec : ByteArray} {j : Nat} (hj : j < vs.length) (h : (vs[j].1.toList == sec.toList) = false) : spanV vs slot sec (j + 1) = spanV vs slot sec j := by
  unfold spanV
  rw [List.take_succ_eq_append_getElem hj, List.filter_append]
  simp [h]

theorem vis_at {vs : List Vis} (hv : visTo vs vs.length = true) {j : Nat} (hj : j < vs.length) : (freeAt vs j ≤ vs[j].2.1 ∧ vs[j].2.1 ≤ 200) ∧ 1 ≤ vs[j].2.2 ∧ vs[j].2.2 ≤ 30 := by
  have hk : visTo vs j = true := by
    unfold visTo
    rw [List.all_eq_true]
    intro i hi
    exact all_at hv (Nat.lt_trans (List.mem_range.1 hi) hj)
  have := all_at hv hj
  rw [vis_free hk hj] at this
  simp only [Bool.and_eq_true] at this
  exact ⟨inB_iff.1 this.1.2, inB_iff.1 this.2⟩
theorem free_mono {vs : List Vis} (hv : visTo vs vs.length = true) {j : Nat} (hj : j < vs.length) : freeAt vs j + 1 ≤ freeAt vs (j + 1) := by
  have := vis_at hv hj
  rw [freeAt_succ vs j hj]
  omega

theorem inB_eq (n lo hi : Int) : inB n lo hi = decide (lo ≤ n ∧ n ≤ hi) := by simp [inB]
/-- Of one flight at most one visit covers a tick. -/
theorem cum_flight {vs : List Vis} (hv : visTo vs vs.length = true) (slot : Int) (sec : ByteArray) (t : Int) : ∀ j, j ≤ vs.length →
    (cumAt (spanV vs slot sec j) t = 0 ∧ ∀ i, i < j → hasAt vs slot sec t i = false) ∨ (cumAt (spanV vs slot sec j) t = 1 ∧ (∃ i, i < j ∧ hasAt vs slot sec t i = true) ∧ t < slot + freeAt vs j)
  | 0, _ => .inl ⟨rfl, fun i hi => by omega⟩
  | j + 1, hj => by
    have hjl : j < vs.length := by omega
    have hA : hasAt vs slot sec t j = ((vs[j].1.toList == sec.toList) && inB t (slot + vs[j].2.1) (slot + vs[j].2.1 + vs[j].2.2 - 1)) := by
      unfold hasAt
      rw [getD_at vs j _ hjl]
    have hb := vis_at hv hjl
    have hf := freeAt_succ vs j hjl
    have ext : (∀ i, i < j → hasAt vs slot sec t i = false) → hasAt vs slot sec t j = false → ∀ i, i < j + 1 → hasAt vs slot sec t i = false := fun h h2 i hi => by
      by_cases e : i = j
      · rw [e]; exact h2
      · exact h i (by omega)
    cases hq : (vs[j].1.toList == sec.toList)
    · rw [spanV_no hjl hq]
      rw [hq] at hA
      rcases cum_flight hv slot sec t j (by omega) with ⟨h1, h2⟩ | ⟨h1, ⟨i, hi, h2⟩, h3⟩
      · exact .inl ⟨h1, ext h2 hA⟩
      · exact .inr ⟨h1, ⟨i, by omega, h2⟩, by omega⟩
    · rw [spanV_yes hjl hq, cum_append]
      rw [hq, Bool.true_and, inB_eq] at hA
      have e1 : cumAt [(slot + vs[j].2.1, slot + vs[j].2.1 + vs[j].2.2)] t = if slot + vs[j].2.1 ≤ t ∧ t ≤ slot + vs[j].2.1 + vs[j].2.2 - 1 then 1 else 0 := by
        simp only [cumAt, List.map_cons, List.map_nil, List.sum_cons, List.sum_nil, one]
        repeat' split <;> omega
      rw [e1]
      rcases cum_flight hv slot sec t j (by omega) with ⟨h1, h2⟩ | ⟨h1, ⟨i, hi, h2⟩, h3⟩
      · by_cases hin : slot + vs[j].2.1 ≤ t ∧ t ≤ slot + vs[j].2.1 + vs[j].2.2 - 1
        · rw [decide_eq_true hin] at hA
          exact .inr ⟨by rw [if_pos hin]; omega, ⟨j, by omega, hA⟩, by omega⟩
        · rw [decide_eq_false hin] at hA
          exact .inl ⟨by rw [if_neg hin]; omega, ext h2 hA⟩
      · exact .inr ⟨by rw [if_neg (by omega)]; omega, ⟨i, by omega, h2⟩, by omega⟩

theorem cum_has {vs : List Vis} (hv : visTo vs vs.length = true) (slot : Int) (sec : ByteArray) (t : Int) : cumAt (spanV vs slot sec vs.length) t = if hasB vs slot sec t = true then 1 else 0 := by
  rcases cum_flight hv slot sec t vs.length (Nat.le_refl _) with ⟨h1, h2⟩ | ⟨h1, ⟨i, hi, h2⟩, _⟩
  · rw [h1]
    unfold hasB
    rw [any_no h2]
    rfl
  · rw [h1]
    unfold hasB
    rw [any_yes hi h2]
    rfl

/-- The spans of the flights ahead of k. -/
def spansOne (fs : List Fli) (ss : List Int) (sec : ByteArray) (i : Nat) : List (Int × Int) :=
  if 0 ≤ ss.getD i 0 then spanV (fs.getD i (ByteArray.empty, 0, 0, [])).2.2.2 (ss.getD i 0) sec (fs.getD i (ByteArray.empty, 0, 0, [])).2.2.2.length else []
def spansTo (fs : List Fli) (ss : List Int) (sec : ByteArray) (k : Nat) : List (Int × Int) := (List.range k).flatMap (spansOne fs ss sec)
theorem spansTo_succ (fs : List Fli) (ss : List Int) (sec : ByteArray) (k : Nat) : spansTo fs ss sec (k + 1) = spansTo fs ss sec k ++ spansOne fs ss sec k := by
  simp [spansTo, List.range_succ, List.flatMap_append]

/-- All flights' visits are ok. -/
def AllVis (fs : List Fli) : Prop := ∀ i (hi : i < fs.length), visTo fs[i].2.2.2 fs[i].2.2.2.length = true
theorem cum_load {fs : List Fli} (hv : AllVis fs) (ss : List Int) (sec : ByteArray) (t : Int) : ∀ k, k ≤ fs.length → cumAt (spansTo fs ss sec k) t = (loadTo fs ss sec t k : Nat)
  | 0, _ => rfl
  | k + 1, hk => by
    rw [spansTo_succ, cum_append, cum_load hv ss sec t k (by omega)]
    have hkl : k < fs.length := by omega
    unfold spansOne
    rw [getD_at fs k _ hkl]
    have hF : flyAt fs ss sec t k = (decide (0 ≤ ss.getD k 0) && hasB fs[k].2.2.2 (ss.getD k 0) sec t) := by
      unfold flyAt
      rw [getD_at fs k _ hkl]
    by_cases hz : 0 ≤ ss.getD k 0
    · rw [if_pos hz, cum_has (hv k hkl)]
      rw [decide_eq_true hz, Bool.true_and] at hF
      by_cases hh : hasB fs[k].2.2.2 (ss.getD k 0) sec t = true
      · rw [if_pos hh, loadTo_yes (by rw [hF, hh])]; omega
      · rw [if_neg hh, loadTo_no (by rw [hF]; simpa using hh)]; omega
    · rw [if_neg hz]
      rw [decide_eq_false hz] at hF
      rw [loadTo_no hF]
      simp [cumAt]

end Go.Proofs.YtciacofibljmoaaGreatDoor

/- The changes of a load, by ticks, in a map: the program's own walk. -/
namespace Go.Proofs.YtciacofibljmoaaGreatDoor
open Go.RowKit Go.Maps

theorem law_int : Keyed Tryz.prog 3 := int_keyed Tryz.underlying3
theorem zero_int (w : World) : (zeroValue 3).run Tryz.prog w = .ok (.int .i64 0) w := by kernel_rfl

/-- Block B is a map that holds f, at the keys of which K holds. -/
def Chg (w : World) (B n : Nat) (D : DataW Unit) (f : Int → Int) (K : Int → Prop) : Prop :=
  w.ownsMap Tryz.prog 3 (plainElem Tryz.prog 3) B n D ∧ (∀ k : Int, D.atKey (.int .i64 k) (.lit (.int .i64 0)) = .lit (.int .i64 (f k))) ∧ ∀ k : Int, has D (.int .i64 k) = true ↔ K k
theorem Chg.later {w w' : World} {B n : Nat} {D : DataW Unit} {f : Int → Int} {K : Int → Prop} (h : Chg w B n D f K) (hb : Below w.heap.size w w') : Chg w' B n D f K := by
  obtain ⟨hown, r⟩ := h
  have hlt := hown.lt
  obtain ⟨es, clock, hB, Ft, hs, hD⟩ := hown
  exact ⟨⟨es, clock, (hb.block B hlt).trans hB, Ft, hs, hD⟩, r⟩
theorem chg_at {w : World} {B n : Nat} {D : DataW Unit} {f : Int → Int} {K : Int → Prop} (h : Chg w B n D f K) {a c : Int} (hat : D.atKey (.int .i64 a) (.lit (.int .i64 0)) = .lit (.int .i64 c)) : c = f a := by
  have := hat.symm.trans (h.2.1 a)
  simpa using this
theorem chg_put {w w' : World} {B n : Nat} {D : DataW Unit} {f : Int → Int} {K : Int → Prop} (h : Chg w B n D f K) {a v : Int} (hown : w'.ownsMap Tryz.prog 3 (plainElem Tryz.prog 3) B (n + 1) (D.put (.int .i64 a) (.lit (.int .i64 v)))) :
    Chg w' B (n + 1) (D.put (.int .i64 a) (.lit (.int .i64 v))) (fun k => if k = a then v else f k) (fun k => k = a ∨ K k) := by
  have hm := h.1.isMap
  refine ⟨hown, fun k => ?_, fun k => ?_⟩
  · by_cases e : k = a
    · subst e; dsimp only; rw [if_pos rfl]; exact atKey_put_same hm (by simp [WideAt.IsKeyLit]) _ _
    · dsimp only; rw [if_neg e, atKey_put_other (by simpa using e)]; exact h.2.1 k
  · by_cases e : k = a
    · subst e; simp [has_put_same hm (show WideAt.IsKeyLit (.int .i64 k) by simp [WideAt.IsKeyLit])]
    · rw [has_put_other (by simpa using e), h.2.2 k]
      simp [e]

/-- The ends of spans. -/
def isEnd (sp : List (Int × Int)) (k : Int) : Prop := ∃ p ∈ sp, k = p.1 ∨ k = p.2
theorem dAt_bd (sp : List (Int × Int)) (t : Int) : -(sp.length : Int) ≤ dAt sp t ∧ dAt sp t ≤ (sp.length : Int) := by
  unfold dAt
  induction sp with
  | nil => simp
  | cons p r ih =>
    simp only [List.map_cons, List.sum_cons, List.length_cons]
    have : -1 ≤ one (t = p.1) - one (t = p.2) ∧ one (t = p.1) - one (t = p.2) ≤ 1 := by unfold one; repeat' split <;> omega
    omega
/-- Both changes of one span. -/
theorem chg_span {w : World} {B n : Nat} {D : DataW Unit} {sp : List (Int × Int)} {a b : Int} (hab : a ≠ b)
    (h : Chg w B n D (fun k => if k = b then dAt sp b - 1 else if k = a then dAt sp a + 1 else dAt sp k) (fun k => k = b ∨ k = a ∨ isEnd sp k)) : Chg w B n D (dAt (sp ++ [(a, b)])) (isEnd (sp ++ [(a, b)])) := by
  obtain ⟨h1, h2, h3⟩ := h
  refine ⟨h1, fun k => ?_, fun k => ?_⟩
  · rw [h2 k]
    dsimp only
    have e : dAt (sp ++ [(a, b)]) k = dAt sp k + (one (k = a) - one (k = b)) := by rw [dAt_append]; simp [dAt]
    rw [e]
    unfold one
    by_cases e1 : k = b
    · subst e1
      rw [if_pos rfl, if_neg (fun h => hab h.symm), if_pos rfl]
      congr 2
    · rw [if_neg e1, if_neg e1]
      by_cases e2 : k = a
      · subst e2; rw [if_pos rfl, if_pos rfl]; congr 2
      · rw [if_neg e2, if_neg e2]; congr 2; omega
  · rw [h3 k]
    unfold isEnd
    simp only [List.mem_append, List.mem_singleton]
    constructor
    · rintro (rfl | rfl | ⟨p, hp, hh⟩)
      · exact ⟨_, .inr rfl, .inr rfl⟩
      · exact ⟨_, .inr rfl, .inl rfl⟩
      · exact ⟨p, .inl hp, hh⟩
    · rintro ⟨p, hp | rfl, hh⟩
      · exact .inr (.inr ⟨p, hp, hh⟩)
      · rcases hh with hh | hh
        · exact .inr (.inl hh)
        · exact .inl hh

theorem cell_grown {w w' : World} {row : Option Nat} {a : Addr} {v : Value} (hg : w.grownBy w' row) (hc : w.cell? a = some v) (hne : some a.block ≠ row) : w'.cell? a = some v :=
  (World.cell?_of_block (w := w) (hg.block a.block (World.block_lt_of_cell? _ _ hc) hne)).trans hc
theorem spanV_len (vs : List Vis) (slot : Int) (sec : ByteArray) (j : Nat) : (spanV vs slot sec j).length ≤ j := by
  unfold spanV
  rw [List.length_map]
  exact Nat.le_trans (List.length_filter_le _ _) (List.length_take_le _ _)
theorem spansTo_len {fs : List Fli} (hf : ∀ i (hi : i < fs.length), VisBd fs[i].2.2.2 ∧ (0 ≤ fs[i].2.1 ∧ fs[i].2.1 ≤ 10000) ∧ (0 ≤ fs[i].2.2.1 ∧ fs[i].2.2.1 ≤ 60) ∧ 1 ≤ fs[i].2.2.2.length ∧ fs[i].2.2.2.length ≤ 5) {ss : List Int} {sec : ByteArray} : ∀ k, k ≤ fs.length → (spansTo fs ss sec k).length ≤ 5 * k
  | 0, _ => by simp [spansTo]
  | k + 1, hk => by
    rw [spansTo_succ, List.length_append]
    have ih := spansTo_len hf (ss := ss) (sec := sec) k (by omega)
    have : (spansOne fs ss sec k).length ≤ 5 := by
      unfold spansOne
      rw [getD_at fs k _ (by omega)]
      split
      · exact Nat.le_trans (spanV_len _ _ _ _) (hf k (by omega)).2.2.2.2
      · simp
    omega

set_option maxRecDepth 100000 in
set_option maxHeartbeats 3200000 in
theorem loadChanges_any (a a' : Option Addr) (cap cap' : Nat) (fs : List Fli) (ss : List Int) (sec : ByteArray) (w : World) (hc : FlightsIn w a fs) (hc' : IntsIn w a' ss) (hok : slotsB fs ss = true) :
    Calls Tryz.prog 57 #[.slice a fs.length cap, .slice a' ss.length cap', .string sec] w fun e w' => e = .returned (.map (some w.heap.size)) ∧ (∃ n D, n ≤ 80 ∧ Chg w' w.heap.size n D (dAt (spansTo fs ss sec fs.length)) (isEnd (spansTo fs ss sec fs.length))) ∧ Below w.heap.size w w' := by
  obtain ⟨hln, h8, hsb, hfb⟩ := slots_bd hok
  have HC := hide hc
  have HC' := hide hc'
  have HSB := hide hsb
  have HFB := hide hfb
  have hln1 : fs.length ≤ ss.length := by omega
  clear hc hc' hsb hfb hok hln
  have hmm := @run_makeMap Tryz.prog
  go_enter Tryz.func57, Tryz.ntmps57
  go_wp2
  go_loopw [16] (fun i wr => ∃ (k n : Nat) (D : DataW Unit), k ≤ fs.length ∧ n ≤ 10 * k ∧ i = .int .i64 k ∧ Hid (Chg wr w.heap.size n D (dAt (spansTo fs ss sec k)) (isEnd (spansTo fs ss sec k))) ∧ Hid (Below w.heap.size w wr)) (fun i _ => fs.length - (intOf i).toNat)
  case atStart => exact ⟨0, 0, .map [], Nat.zero_le _, Nat.zero_le _, rfl, ⟨World.ownsMap_made _ _ _ _, fun k => rfl, fun k => by simp [has, isEnd, spansTo]⟩, (Below.refl _ _).alloc (Nat.le_refl _) _⟩
  case round =>
    obtain ⟨k, n, D, hk, hn, rfl, HM, HB⟩ := hrel
    by_cases hlt : k < fs.length
    · have hlt2 : k < ss.length := by omega
      obtain ⟨b, off, rfl, hblt, q0, q1, q2, av, cv, q3, hv⟩ := HC.out k hlt
      obtain ⟨b', off', rfl, hblt', t0⟩ := HC'.out k hlt2
      have e0 := cell_later HB.out q0
      have e1 := cell_later HB.out q1
      have e2 := cell_later HB.out q2
      have e3 := cell_later HB.out q3
      have s0 := cell_later HB.out t0
      have T0 := hide t0
      have hbw1 : b < wr.heap.size := Nat.lt_of_lt_of_le hblt HB.out.size
      have hbw2 : b' < wr.heap.size := Nat.lt_of_lt_of_le hblt' HB.out.size
      clear q0 q1 q2 q3 t0
      obtain ⟨z0, z1⟩ := HSB.out k hlt2
      obtain ⟨hbd, _, _, hvl0, hvl1⟩ := HFB.out k hlt
      have HSP : Hid (spansTo fs ss sec (k + 1) = spansTo fs ss sec k ++ (if 0 ≤ ss[k] then spanV fs[k].2.2.2 ss[k] sec fs[k].2.2.2.length else [])) := by
        show _ = _
        rw [spansTo_succ]
        unfold spansOne
        rw [getD_at fs k _ hlt, getD_at ss k _ hlt2]
      have HV := hide hv
      have HBD := hide hbd
      clear hv hbd
      generalize fs[k] = c at e0 e1 e2 e3 HV HBD hvl0 hvl1 HSP
      generalize ss[k] = z at s0 T0 z0 z1 HSP
      have hspl := spansTo_len HFB.out (ss := ss) (sec := sec) k hk
      generalize spansTo fs ss sec k = sp at HM HSP hspl
      have k0 : (0 : Int) ≤ (k : Int) := by omega
      have k1 : (k : Int) < (fs.length : Int) := by omega
      have k2 : (k : Int) < (ss.length : Int) := by omega
      by_cases hz : 0 ≤ z
      · have hz2 : (z == -1) = false := beq_eq_false_iff_ne.2 (by omega)
        rw [if_pos hz] at HSP
        go_wp2
        go_loopw [29] (fun i wi => ∃ (j m : Nat) (D' : DataW Unit), j ≤ c.2.2.2.length ∧ m ≤ 10 * k + 2 * j ∧ i = .int .i64 j ∧ Hid (Chg wi w.heap.size m D' (dAt (sp ++ spanV c.2.2.2 z sec j)) (isEnd (sp ++ spanV c.2.2.2 z sec j))) ∧ Hid (Below w.heap.size w wi)) (fun i _ => c.2.2.2.length - (intOf i).toNat)
        case atStart => exact ⟨0, n, D, Nat.zero_le _, by omega, rfl, by show Chg _ _ _ _ _ _; rw [spanV_zero, List.append_nil]; exact HM.out.later ((Below.refl _ _).alloc (Nat.le_refl _) _), HB.out.alloc HB.out.size _⟩
        case round =>
          obtain ⟨j, m, D', hj, hm, rfl, HMi, HBi⟩ := hrel
          by_cases hjl : j < c.2.2.2.length
          · obtain ⟨bv, ov, rfl, hbv, v0, v1, v2⟩ := HV.out.later HBi.out j hjl
            obtain ⟨⟨a0, a1⟩, a2, a3⟩ := HBD.out _ (List.getElem_mem hjl)
            have s1 := cell_later HBi.out T0.out
            have HYES : Hid ((c.2.2.2[j].1.toList == sec.toList) = true → sp ++ spanV c.2.2.2 z sec (j + 1) = (sp ++ spanV c.2.2.2 z sec j) ++ [(z + c.2.2.2[j].2.1, z + c.2.2.2[j].2.1 + c.2.2.2[j].2.2)]) := fun h => by rw [spanV_yes hjl h, List.append_assoc]
            have HNO : Hid ((c.2.2.2[j].1.toList == sec.toList) = false → sp ++ spanV c.2.2.2 z sec (j + 1) = sp ++ spanV c.2.2.2 z sec j) := fun h => by rw [spanV_no hjl h]
            generalize c.2.2.2[j] = v at v0 v1 v2 a0 a1 a2 a3 HYES HNO
            have HLEN : Hid (((sp ++ spanV c.2.2.2 z sec j).length : Int) ≤ 1000) := by
              show (_ : Int) ≤ _
              have := spanV_len c.2.2.2 z sec j
              rw [List.length_append]
              omega
            generalize sp ++ spanV c.2.2.2 z sec j = sp2 at HMi HYES HNO HLEN
            clear HM HB e0 e1 e2 e3 s0
            cases hq : (v.1.toList == sec.toList)
            · have HN := hide (HNO.out hq)
              clear HYES HNO
              go_wp2
              go_roundw
              case rel => exact ⟨j + 1, m, D', by omega, by omega, by go_num, by show Chg _ _ _ _ _ _; rw [HN.out]; exact HMi.out.later ((Below.refl _ _).alloc (Nat.le_refl _) _), HBi.out.alloc HBi.out.size _⟩
              case measure => simp [intOf]; omega
            · have HY := hide (HYES.out hq)
              clear HYES HNO
              go_wp2
              obtain ⟨W, hW, x0, x1, x2, hWb⟩ := alloc3 wr (.string v.1) (.int .i64 v.2.1) (.int .i64 v.2.2) 76
              rw [hW]
              have y1 := grow_cell x1
              have ys := grow_cell (cell_later hWb s1)
              have X2 := hide x2
              have hlt3 : wr.heap.size < W.heap.size := World.block_lt_of_cell? W ⟨wr.heap.size, 2, none⟩ x2
              have hB0 : w.heap.size ≤ wr.heap.size := HBi.out.size
              have hBlt : w.heap.size < wr.heap.size := HMi.out.1.lt
              have hne := grow_some W
              clear hW x0 x1 x2 s1 v0 v1 v2
              refine wp_region_grow (by kernel_rfl) (by kernel_rfl) ?_
              repeat (go_big_quiet_step (fail))
              refine wpQuiet_nil ?_
              intro _ hw'
              obtain ⟨u, hw''⟩ := hw'
              subst hw''
              have HM2 := hide ((HMi.out.later hWb).later u.below)
              have HB2 := hide (below_two (below_two HBi.out hWb) u.below)
              have x2 := grow_cell X2.out u
              have hd1 := dAt_bd sp2 (z + v.2.1)
              have hd2 := dAt_bd sp2 (z + v.2.1 + v.2.2)
              have hsl : (sp2.length : Int) ≤ 1000 := HLEN.out
              clear y1 ys HMi HBi
              have tok1 : True := trivial
              have tok2 : True := trivial
              have tok3 : True := trivial
              have tok4 : True := trivial
              go_wp2_with (first
                | (at_lookup; have _t := tok1; refine wpList_lookup_own_int _ rfl _ _ 102 rfl 3 3 .i64 law_int Tryz.underlying102 Tryz.underlying3 (zero_int _) w.heap.size m D' rfl HM2.out.1 _ _ rfl (keyOf_int_mk Tryz.underlying3 (WalkArith.wf_i64 (by omega))) ?_; intro c1 hat1 hwc1; obtain rfl := chg_at HM2.out hat1; clear tok1 hat1 hwc1)
                | (at_mapUpdate; have _t := tok2; refine wpList_mapUpdate_own _ rfl _ _ _ 102 rfl 3 3 law_int Tryz.underlying102 _ w.heap.size m D' rfl HM2.out.1 (by unfold maxLen; omega) _ _ _ rfl rfl (keyOf_int_mk Tryz.underlying3 (WalkArith.wf_i64 (by omega))) _ [] (plainElem_int Tryz.underlying3 (WalkArith.wf_i64 (by omega))) ?_; intro w3 hown3 hgrow3; have HM3 := hide (chg_put HM2.out hown3); have x3 := cell_grown hgrow3 x2 (by simp; omega); have HB3 := hide (HB2.out.grown hgrow3 HB2.out.size (fun q hq => by cases hq; exact Nat.le_refl _)); clear tok2 hown3 hgrow3)
                | (at_lookup; have _t := tok3; refine wpList_lookup_own_int _ rfl _ _ 102 rfl 3 3 .i64 law_int Tryz.underlying102 Tryz.underlying3 (zero_int _) w.heap.size (m + 1) _ rfl HM3.out.1 _ _ rfl (keyOf_int_mk Tryz.underlying3 (WalkArith.wf_i64 (by omega))) ?_; intro c2 hat2 hwc2; obtain rfl := (chg_at HM3.out hat2).trans (if_neg (by omega)); clear tok3 hat2 hwc2)
                | (at_mapUpdate; have _t := tok4; refine wpList_mapUpdate_own _ rfl _ _ _ 102 rfl 3 3 law_int Tryz.underlying102 _ w.heap.size (m + 1) _ rfl HM3.out.1 (by unfold maxLen; omega) _ _ _ rfl rfl (keyOf_int_mk Tryz.underlying3 (WalkArith.wf_i64 (by omega))) _ [] (plainElem_int Tryz.underlying3 (WalkArith.wf_i64 (by omega))) ?_; intro w5 hown5 hgrow5; have HM5 := hide (chg_put HM3.out hown5); have HB5 := hide (HB3.out.grown hgrow5 HB3.out.size (fun q hq => by cases hq; exact Nat.le_refl _)); clear tok4 hown5 hgrow5))
              go_roundw
              case rel => exact ⟨j + 1, m + 1 + 1, _, by omega, by omega, by go_num, by show Chg _ _ _ _ _ _; rw [HY.out]; exact chg_span (by omega) HM5.out, HB5.out⟩
              case measure => simp [intOf]; omega
          · have : j = c.2.2.2.length := by omega
            subst this
            have HN := hide HSP.out
            go_wp2
            go_roundw
            case rel => exact ⟨k + 1, m, D', by omega, by omega, by go_num, by show Chg _ _ _ _ _ _; rw [HN.out]; exact HMi.out, HBi.out⟩
            case measure => simp [intOf]; omega
      · have hz1 : z = -1 := by omega
        have HN : Hid (spansTo fs ss sec (k + 1) = sp) := by show _ = _; rw [HSP.out, if_neg hz, List.append_nil]
        clear HSP hz
        subst hz1
        go_wp2
        go_roundw
        case rel => exact ⟨k + 1, n, D, by omega, by omega, by go_num, by show Chg _ _ _ _ _ _; rw [HN.out]; exact HM.out.later ((Below.refl _ _).alloc (Nat.le_refl _) _), HB.out.alloc HB.out.size _⟩
        case measure => simp [intOf]; omega
    · go_wp2
      go_ret
      have : k = fs.length := by omega
      subst this
      exact ⟨rfl, ⟨n, D, by omega, HM.out⟩, HB.out⟩

end Go.Proofs.YtciacofibljmoaaGreatDoor

/- Plain mathematics: the runs in order are the runs tick by tick; a sector has too many at some tick just if it has at some arrival. -/
namespace Go.Proofs.YtciacofibljmoaaGreatDoor

/-- The runs that the document asks for, of slots that are ok: tick by tick. -/
def runsL (fs : List Fli) (ss : List Int) (sec : ByteArray) : List Run := (ticks 0 20001).foldl (stepS (fun t => (loadTo fs ss sec t fs.length : Nat))) []

theorem slots_vis {fs : List Fli} {ss : List Int} (h : slotsB fs ss = true) : AllVis fs := fun i hi => by
  unfold slotsB at h
  simp only [Bool.and_eq_true] at h
  have h1 := h.1.1
  unfold flisB at h1
  simp only [Bool.and_eq_true] at h1
  have := all_at h1.2 hi
  unfold fliOkAt at this
  rw [getD_at fs i _ hi] at this
  simp only [Bool.and_eq_true] at this
  have h2 := this.2
  unfold visB at h2
  simp only [Bool.and_eq_true] at h2
  exact h2.2

theorem spanV_bd {vs : List Vis} (hv : VisBd vs) {slot : Int} (h0 : 0 ≤ slot) (h1 : slot ≤ 10060) {sec : ByteArray} {j : Nat} : ∀ p ∈ spanV vs slot sec j, 0 ≤ p.1 ∧ p.1 < p.2 ∧ p.2 ≤ 10290 := fun p hp => by
  unfold spanV at hp
  obtain ⟨v, hv1, rfl⟩ := List.mem_map.1 hp
  have hm := List.mem_of_mem_take (List.mem_filter.1 hv1).1
  have := hv v hm
  simp only
  omega
theorem spansTo_bd {fs : List Fli} {ss : List Int} (h : slotsB fs ss = true) {sec : ByteArray} {k : Nat} (hk : k ≤ fs.length) : ∀ p ∈ spansTo fs ss sec k, 0 ≤ p.1 ∧ p.1 < p.2 ∧ p.2 ≤ 10290 := fun p hp => by
  obtain ⟨hln, _, hsb, hfb⟩ := slots_bd h
  unfold spansTo at hp
  obtain ⟨i, hi, hpi⟩ := List.mem_flatMap.1 hp
  have hi' : i < fs.length := by have := List.mem_range.1 hi; omega
  unfold spansOne at hpi
  rw [getD_at fs i _ hi', getD_at ss i _ (by omega)] at hpi
  split at hpi
  · rename_i hz
    exact spanV_bd (hfb i hi').1 hz (hsb i (by omega)).2 p hpi
  · simp at hpi

theorem impl_runs {fs : List Fli} {ss : List Int} (h : slotsB fs ss = true) {sec : ByteArray} {zs : List Int} (hz : zs.Pairwise (· < ·)) (hm : ∀ x, x ∈ zs ↔ isEnd (spansTo fs ss sec fs.length) x) :
    (zs.foldl (stepR (dAt (spansTo fs ss sec fs.length))) ([], 0, 0)).1 = runsL fs ss sec := by
  have hb := spansTo_bd h (sec := sec) (Nat.le_refl fs.length)
  have hc := cum_load (slots_vis h) ss sec
  have hd : ∀ x, dAt (spansTo fs ss sec fs.length) x ≠ 0 → isEnd (spansTo fs ss sec fs.length) x := fun x hx => dAt_mem hx
  rw [keys_do (dAt (spansTo fs ss sec fs.length)) zs 0 20001 hz (fun x hx => (hm x).2 (hd x hx)) (fun x hx => by
    obtain ⟨p, hp, hh⟩ := hd x hx
    have := hb p hp
    omega)]
  obtain ⟨runs, fr, e1, e2, _⟩ := hand_in_hand (dAt (spansTo fs ss sec fs.length)) (cumAt (spansTo fs ss sec fs.length)) 0 (cum_zero _ _ fun p hp => by have := hb p hp; omega) (cum_step _) (fun t => by rw [hc t _ (Nat.le_refl _)]; omega) 20001
  rw [e1]
  have ez : cumAt (spansTo fs ss sec fs.length) (0 + ((20001 : Nat) : Int) - 1) = 0 := cum_zero _ _ fun p hp => by have := hb p hp; omega
  rw [ez, if_neg (by omega), List.append_nil] at e2
  unfold runsL
  have ef : (fun t => ((loadTo fs ss sec t fs.length : Nat) : Int)) = cumAt (spansTo fs ss sec fs.length) := funext fun t => (hc t _ (Nat.le_refl _)).symm
  rw [ef, e2]

/-- The loads of the runs are the loads of the ticks. -/
theorem stepS_loads (n : Int → Int) : ∀ (l : List Int) (out : List Run) (T : Int → Prop), (∀ r ∈ out, ∃ t, T t ∧ n t = r.2.2 ∧ n t ≠ 0) → (∀ t, T t → n t ≠ 0 → ∃ r ∈ out, r.2.2 = n t) →
    (∀ r ∈ l.foldl (stepS n) out, ∃ t, (T t ∨ t ∈ l) ∧ n t = r.2.2 ∧ n t ≠ 0) ∧ (∀ t, (T t ∨ t ∈ l) → n t ≠ 0 → ∃ r ∈ l.foldl (stepS n) out, r.2.2 = n t)
  | [], out, T, h1, h2 => ⟨fun r hr => by obtain ⟨t, a, b⟩ := h1 r hr; exact ⟨t, .inl a, b⟩, fun t ht hn => by
      rcases ht with ht | ht
      · exact h2 t ht hn
      · simp at ht⟩
  | t :: l, out, T, h1, h2 => by
    have key : (∀ r ∈ stepS n out t, ∃ s, (T s ∨ s = t) ∧ n s = r.2.2 ∧ n s ≠ 0) ∧ (∀ s, (T s ∨ s = t) → n s ≠ 0 → ∃ r ∈ stepS n out t, r.2.2 = n s) := by
      by_cases h0 : n t = 0
      · have e : stepS n out t = out := by unfold stepS; rw [if_pos h0]
        rw [e]
        refine ⟨fun r hr => by obtain ⟨s, a, b⟩ := h1 r hr; exact ⟨s, .inl a, b⟩, fun s hs hn => ?_⟩
        rcases hs with hs | rfl
        · exact h2 s hs hn
        · exact absurd h0 hn
      · have app : ∀ out', (∀ r ∈ out', ∃ s, T s ∧ n s = r.2.2 ∧ n s ≠ 0) → (∀ s, T s → n s ≠ 0 → ∃ r ∈ out' ++ [(t, t, n t)], r.2.2 = n s) →
            (∀ r ∈ out' ++ [(t, t, n t)], ∃ s, (T s ∨ s = t) ∧ n s = r.2.2 ∧ n s ≠ 0) ∧ (∀ s, (T s ∨ s = t) → n s ≠ 0 → ∃ r ∈ out' ++ [(t, t, n t)], r.2.2 = n s) := fun out' g1 g2 => by
          refine ⟨fun r hr => ?_, fun s hs hn => ?_⟩
          · rcases List.mem_append.1 hr with hr | hr
            · obtain ⟨s, a, b⟩ := g1 r hr; exact ⟨s, .inl a, b⟩
            · simp at hr; subst hr; exact ⟨t, .inr rfl, rfl, h0⟩
          · rcases hs with hs | rfl
            · exact g2 s hs hn
            · exact ⟨(s, s, n s), by simp, rfl⟩
        unfold stepS
        rw [if_neg h0]
        cases hl : out.getLast? with
        | none =>
          simp only
          exact app out h1 fun s hs hn => by obtain ⟨r, a, b⟩ := h2 s hs hn; exact ⟨r, List.mem_append.2 (.inl a), b⟩
        | some q =>
          simp only
          have hq : out = out.dropLast ++ [q] := by
            have hne : out ≠ [] := fun e => by rw [e] at hl; simp at hl
            rw [List.getLast?_eq_some_getLast hne] at hl
            simp at hl
            rw [← hl]
            exact (List.dropLast_concat_getLast hne).symm
          split
          · rename_i hh
            refine ⟨fun r hr => ?_, fun s hs hn => ?_⟩
            · rcases List.mem_append.1 hr with hr | hr
              · obtain ⟨s, a, b⟩ := h1 r (by rw [hq]; exact List.mem_append.2 (.inl hr)); exact ⟨s, .inl a, b⟩
              · simp at hr; subst hr; exact ⟨t, .inr rfl, hh.2.symm, h0⟩
            · rcases hs with hs | rfl
              · obtain ⟨r, a, b⟩ := h2 s hs hn
                rw [hq] at a
                rcases List.mem_append.1 a with a | a
                · exact ⟨r, List.mem_append.2 (.inl a), b⟩
                · simp at a; subst a; exact ⟨(r.1, t, r.2.2), by simp, b⟩
              · exact ⟨(q.1, s, q.2.2), by simp, hh.2⟩
          · exact app out h1 fun s hs hn => by obtain ⟨r, a, b⟩ := h2 s hs hn; exact ⟨r, List.mem_append.2 (.inl a), b⟩
    obtain ⟨k1, k2⟩ := stepS_loads n l (stepS n out t) (fun s => T s ∨ s = t) key.1 key.2
    rw [List.foldl_cons]
    refine ⟨fun r hr => ?_, fun s hs hn => ?_⟩
    · obtain ⟨s, a, b⟩ := k1 r hr
      refine ⟨s, ?_, b⟩
      rcases a with (a | rfl) | a
      · exact .inl a
      · exact .inr (by simp)
      · exact .inr (by simp [a])
    · refine k2 s ?_ hn
      rcases hs with a | a
      · exact .inl (.inl a)
      · rcases List.mem_cons.1 a with rfl | a
        · exact .inl (.inr rfl)
        · exact .inr a

theorem filter_le {p q : Nat → Bool} (h : ∀ i, p i = true → q i = true) : ∀ l : List Nat, (l.filter p).length ≤ (l.filter q).length
  | [] => Nat.le_refl _
  | i :: l => by
    have ih := filter_le h l
    cases hp : p i
    · rw [List.filter_cons_of_neg (by simp [hp])]
      cases hq : q i
      · rw [List.filter_cons_of_neg (by simp [hq])]; exact ih
      · rw [List.filter_cons_of_pos (by simp [hq])]; simp; omega
    · rw [List.filter_cons_of_pos (by simp [hp]), List.filter_cons_of_pos (by simp [h i hp])]; simp; exact ih
theorem max_exists (P : Int → Prop) (t : Int) (h : ∀ a, P a → a ≤ t) : ∀ (n : Nat) (a0 : Int), (t - a0).toNat ≤ n → P a0 → ∃ a, P a ∧ ∀ b, P b → b ≤ a
  | 0, a0, hn, h0 => ⟨a0, h0, fun b hb => by have := h b hb; have := h a0 h0; omega⟩
  | n + 1, a0, hn, h0 => by
    by_cases hx : ∃ b, P b ∧ a0 < b
    · obtain ⟨b, hb, hlt⟩ := hx
      exact max_exists P t h n b (by have := h b hb; omega) hb
    · exact ⟨a0, h0, fun b hb => by
        by_cases hl : b ≤ a0
        · exact hl
        · exact absurd ⟨b, hb, by omega⟩ hx⟩

/-- By the visit j of flight i the sector has too many as it comes in. -/
def fullVis (fs : List Fli) (ss : List Int) (sec : ByteArray) (cap : Int) (vs : List Vis) (slot : Int) (j : Nat) : Bool :=
  ((vs.getD j (ByteArray.empty, 0, 0)).1.toList == sec.toList) && decide (cap < (loadTo fs ss sec (slot + (vs.getD j (ByteArray.empty, 0, 0)).2.1) fs.length : Nat))
def fullAt (fs : List Fli) (ss : List Int) (sec : ByteArray) (cap : Int) (i : Nat) : Bool :=
  decide (0 ≤ ss.getD i 0) && (List.range (fs.getD i (ByteArray.empty, 0, 0, [])).2.2.2.length).any (fullVis fs ss sec cap (fs.getD i (ByteArray.empty, 0, 0, [])).2.2.2 (ss.getD i 0))
def fullB (fs : List Fli) (ss : List Int) (sec : ByteArray) (cap : Int) : Bool := (List.range fs.length).any (fullAt fs ss sec cap)
def overB (rs : List Run) (cap : Int) : Bool := rs.any fun r => decide (cap < r.2.2)

theorem has_at {vs : List Vis} {slot : Int} {sec : ByteArray} {t : Int} (h : hasB vs slot sec t = true) : ∃ j, j < vs.length ∧ hasAt vs slot sec t j = true := by
  unfold hasB at h
  obtain ⟨j, hj, hh⟩ := List.any_eq_true.1 h
  exact ⟨j, List.mem_range.1 hj, hh⟩

/-- Too many at some tick just if too many at some arrival. -/
theorem over_full {fs : List Fli} {ss : List Int} (h : slotsB fs ss = true) (sec : ByteArray) {cap : Int} (hc : 0 ≤ cap) : overB (runsL fs ss sec) cap = fullB fs ss sec cap := by
  obtain ⟨hln, _, hsb, hfb⟩ := slots_bd h
  obtain ⟨g1, g2⟩ := stepS_loads (fun t => (loadTo fs ss sec t fs.length : Nat)) (ticks 0 20001) [] (fun _ => False) (by simp) (by simp)
  rw [Bool.eq_iff_iff]
  constructor
  · intro ho
    unfold overB at ho
    obtain ⟨r, hr, hcr⟩ := List.any_eq_true.1 ho
    obtain ⟨t, _, ht, hne⟩ := g1 r hr
    have hcr' : cap < (loadTo fs ss sec t fs.length : Nat) := by rw [ht]; simpa using hcr
    have hP : ∀ i, i < fs.length → flyAt fs ss sec t i = true → ∃ j a, j < (fs.getD i (ByteArray.empty, 0, 0, [])).2.2.2.length ∧ 0 ≤ ss.getD i 0 ∧ hasAt (fs.getD i (ByteArray.empty, 0, 0, [])).2.2.2 (ss.getD i 0) sec t j = true ∧ a = ss.getD i 0 + ((fs.getD i (ByteArray.empty, 0, 0, [])).2.2.2.getD j (ByteArray.empty, 0, 0)).2.1 := fun i hi hf => by
      unfold flyAt at hf
      simp only [Bool.and_eq_true, decide_eq_true_eq] at hf
      obtain ⟨j, hj, hh⟩ := has_at hf.2
      exact ⟨j, _, hj, hf.1, hh, rfl⟩
    let P : Int → Prop := fun a => ∃ i j, i < fs.length ∧ j < (fs.getD i (ByteArray.empty, 0, 0, [])).2.2.2.length ∧ 0 ≤ ss.getD i 0 ∧ hasAt (fs.getD i (ByteArray.empty, 0, 0, [])).2.2.2 (ss.getD i 0) sec t j = true ∧ a = ss.getD i 0 + ((fs.getD i (ByteArray.empty, 0, 0, [])).2.2.2.getD j (ByteArray.empty, 0, 0)).2.1
    have hle : ∀ a, P a → a ≤ t := fun a ⟨i, j, _, _, _, hh, e⟩ => by
      unfold hasAt at hh
      simp only [Bool.and_eq_true] at hh
      have := inB_iff.1 hh.2
      omega
    have hex : ∃ a0, P a0 := by
      have hpos : 0 < loadTo fs ss sec t fs.length := by omega
      unfold loadTo at hpos
      obtain ⟨i, hi⟩ := List.exists_mem_of_length_pos hpos
      obtain ⟨hi1, hi2⟩ := List.mem_filter.1 hi
      obtain ⟨j, a, q⟩ := hP i (List.mem_range.1 hi1) hi2
      exact ⟨a, i, j, List.mem_range.1 hi1, q⟩
    obtain ⟨a0, ha0⟩ := hex
    obtain ⟨a, ⟨i, j, hi, hj, hz, hh, ea⟩, hmax⟩ := max_exists P t hle _ a0 (Nat.le_refl _) ha0
    have hat := hle a ⟨i, j, hi, hj, hz, hh, ea⟩
    have hload : loadTo fs ss sec t fs.length ≤ loadTo fs ss sec a fs.length := by
      unfold loadTo
      have hall : ∀ i', i' < fs.length → flyAt fs ss sec t i' = true → flyAt fs ss sec a i' = true := fun i' hi' hf => by
        obtain ⟨j', a', hj', hz', hh', ea'⟩ := hP i' hi' hf
        have hma := hmax a' ⟨i', j', hi', hj', hz', hh', ea'⟩
        unfold flyAt
        rw [decide_eq_true hz', Bool.true_and]
        unfold hasB
        refine any_yes hj' ?_
        unfold hasAt at hh' ⊢
        simp only [Bool.and_eq_true] at hh' ⊢
        have := inB_iff.1 hh'.2
        exact ⟨hh'.1, inB_iff.2 (by omega)⟩
      have := filter_le (p := fun i => decide (i < fs.length) && flyAt fs ss sec t i) (q := fun i => decide (i < fs.length) && flyAt fs ss sec a i) (fun i hh => by
        simp only [Bool.and_eq_true, decide_eq_true_eq] at hh ⊢
        exact ⟨hh.1, hall i hh.1 hh.2⟩) (List.range fs.length)
      have e : ∀ t', (List.range fs.length).filter (fun i => decide (i < fs.length) && flyAt fs ss sec t' i) = (List.range fs.length).filter (flyAt fs ss sec t') := fun t' => List.filter_congr fun i hi => by
        rw [decide_eq_true (List.mem_range.1 hi), Bool.true_and]
      rw [e, e] at this
      exact this
    unfold fullB
    refine any_yes hi ?_
    unfold fullAt
    rw [decide_eq_true hz, Bool.true_and]
    refine any_yes hj ?_
    unfold fullVis
    unfold hasAt at hh
    simp only [Bool.and_eq_true] at hh ⊢
    exact ⟨hh.1, decide_eq_true (by rw [← ea]; omega)⟩
  · intro hf
    unfold fullB at hf
    obtain ⟨i, hi, h1⟩ := List.any_eq_true.1 hf
    have hi' := List.mem_range.1 hi
    unfold fullAt at h1
    simp only [Bool.and_eq_true, decide_eq_true_eq] at h1
    obtain ⟨hz, h2⟩ := h1
    obtain ⟨j, hj, h3⟩ := List.any_eq_true.1 h2
    have hj' := List.mem_range.1 hj
    unfold fullVis at h3
    simp only [Bool.and_eq_true, decide_eq_true_eq] at h3
    rw [getD_at fs i _ hi'] at hj' h3
    rw [getD_at ss i _ (by omega)] at hz h3
    rw [getD_at _ j _ hj'] at h3
    have hb := (hfb i hi').1 _ (List.getElem_mem hj')
    have hs := hsb i (by omega)
    obtain ⟨r, hr, e⟩ := g2 (ss[i] + fs[i].2.2.2[j].2.1) (.inr ((mem_ticks 0 20001 _).2 (by omega))) (by omega)
    unfold overB
    exact List.any_eq_true.2 ⟨r, hr, decide_eq_true (by rw [e]; exact h3.2)⟩

end Go.Proofs.YtciacofibljmoaaGreatDoor

/- The library's contracts for slices.Sorted(maps.Keys(m)) and slices.Sort, laid at this translation: tables of numbers, and closed facts that the kernel checks. -/
namespace Go.Proofs.YtciacofibljmoaaGreatDoor
open Go.RowKit Go.Maps Go.Sort Go.Shelf

def keysA_ren : Go.Shelf.Ren := ⟨fun | 7 => 75 | 10 => 88 | n => n, fun | 23 => 102 | 26 => 3 | 3 => 3 | 28 => 92 | 0 => 0 | 27 => 91 | 33 => 127 | 4 => 4 | n => n, fun | n => n⟩
theorem keysA : Go.Proofs.SlLaysZI.n7 Tryz.prog keysA_ren := {
  mixed := by kernel_rfl
  f7 := ⟨Tryz.f75.name, by decide, Tryz.func75.trans (congrArg some (by kernel_rfl))⟩
  f10 := ⟨Tryz.f88.name, by decide, Tryz.func88.trans (congrArg some (by kernel_rfl))⟩
  t0 := Tryz.underlying0
  a0 := Tryz.isAgg0
  z0 := Tryz.sizeOf0
  v0 := Tryz.zeroValue0
  t4 := Tryz.underlying4
  a4 := Tryz.isAgg4
  z4 := Tryz.sizeOf4
  v4 := Tryz.zeroValue4
  t23 := Tryz.underlying102
  a23 := Tryz.isAgg102
  z23 := Tryz.sizeOf102
  v23 := Tryz.zeroValue102
  t26 := Tryz.underlying3
  a26 := Tryz.isAgg3
  z26 := Tryz.sizeOf3
  v26 := Tryz.zeroValue3
  t27 := Tryz.underlying91
  a27 := Tryz.isAgg91
  z27 := Tryz.sizeOf91
  v27 := Tryz.zeroValue91
  t28 := Tryz.underlying92
  a28 := Tryz.isAgg92
  z28 := Tryz.sizeOf92
  v28 := Tryz.zeroValue92
  t33 := Tryz.underlying127
  a33 := Tryz.isAgg127
  z33 := Tryz.sizeOf127
  v33 := Tryz.zeroValue127 }
def sortedA_ren : Go.Shelf.Ren := ⟨fun | 6 => 74 | 8 => 86 | 9 => 87 | 11 => 92 | 13 => 94 | 12 => 93 | 23 => 104 | 24 => 105 | 14 => 95 | 15 => 96 | 16 => 97 | 17 => 98 | 18 => 99 | 19 => 100 | 20 => 101 | 21 => 102 | 22 => 103 | 25 => 106 | 26 => 107 | 27 => 108 | 28 => 109 | 29 => 110 | 30 => 111 | 31 => 112 | n => n, fun | 26 => 3 | 28 => 92 | 24 => 27 | 0 => 0 | 3 => 3 | 37 => 158 | 48 => 169 | 50 => 171 | 4 => 4 | 40 => 161 | 39 => 160 | 45 => 166 | 5 => 5 | 9 => 9 | 51 => 172 | 55 => 176 | 57 => 178 | 58 => 179 | 33 => 127 | n => n, fun | n => n⟩
theorem sortedA : Go.Proofs.SlLaysZI.n6 Tryz.prog sortedA_ren := {
  mixed := by kernel_rfl
  f6 := ⟨Tryz.f74.name, by decide, Tryz.func74.trans (congrArg some (by kernel_rfl))⟩
  f8 := ⟨Tryz.f86.name, by decide, Tryz.func86.trans (congrArg some (by kernel_rfl))⟩
  f11 := ⟨Tryz.f92.name, by decide, Tryz.func92.trans (congrArg some (by kernel_rfl))⟩
  t0 := Tryz.underlying0
  a0 := Tryz.isAgg0
  z0 := Tryz.sizeOf0
  v0 := Tryz.zeroValue0
  t24 := Tryz.underlying27
  a24 := Tryz.isAgg27
  z24 := Tryz.sizeOf27
  v24 := Tryz.zeroValue27
  t26 := Tryz.underlying3
  a26 := Tryz.isAgg3
  z26 := Tryz.sizeOf3
  v26 := Tryz.zeroValue3
  t28 := Tryz.underlying92
  a28 := Tryz.isAgg92
  z28 := Tryz.sizeOf92
  v28 := Tryz.zeroValue92
  i26 := by kernel_rfl }
def sortA_ren : Go.Shelf.Ren := ⟨fun | 5 => 87 | 8 => 94 | 7 => 93 | 19 => 104 | 20 => 105 | 10 => 95 | 11 => 96 | 12 => 97 | 13 => 98 | 14 => 99 | 15 => 100 | 16 => 101 | 17 => 102 | 18 => 103 | 30 => 106 | 31 => 107 | 32 => 108 | 33 => 109 | 34 => 110 | 35 => 111 | 40 => 112 | n => n, fun | 23 => 27 | 25 => 3 | 3 => 3 | 32 => 158 | 22 => 27 | 0 => 0 | 44 => 169 | 46 => 171 | 4 => 4 | 36 => 161 | 35 => 160 | 41 => 166 | 5 => 5 | 9 => 9 | 53 => 172 | 57 => 176 | 63 => 178 | 64 => 179 | n => n, fun | n => n⟩
theorem sortA : Go.Proofs.SlLaysM.n5 Tryz.prog sortA_ren := {
  mixed := by kernel_rfl
  f5 := ⟨Tryz.f87.name, by decide, Tryz.func87.trans (congrArg some (by kernel_rfl))⟩
  f7 := ⟨Tryz.f93.name, by decide, Tryz.func93.trans (congrArg some (by kernel_rfl))⟩
  f8 := Tryz.func94.trans (congrArg some (by kernel_rfl))
  f10 := ⟨Tryz.f95.name, by decide, Tryz.func95.trans (congrArg some (by kernel_rfl))⟩
  f11 := ⟨Tryz.f96.name, by decide, Tryz.func96.trans (congrArg some (by kernel_rfl))⟩
  f12 := ⟨Tryz.f97.name, by decide, Tryz.func97.trans (congrArg some (by kernel_rfl))⟩
  f13 := ⟨Tryz.f98.name, by decide, Tryz.func98.trans (congrArg some (by kernel_rfl))⟩
  f14 := ⟨Tryz.f99.name, by decide, Tryz.func99.trans (congrArg some (by kernel_rfl))⟩
  f15 := ⟨Tryz.f100.name, by decide, Tryz.func100.trans (congrArg some (by kernel_rfl))⟩
  f16 := ⟨Tryz.f101.name, by decide, Tryz.func101.trans (congrArg some (by kernel_rfl))⟩
  f17 := ⟨Tryz.f102.name, by decide, Tryz.func102.trans (congrArg some (by kernel_rfl))⟩
  f18 := ⟨Tryz.f103.name, by decide, Tryz.func103.trans (congrArg some (by kernel_rfl))⟩
  f19 := Tryz.func104.trans (congrArg some (by kernel_rfl))
  f20 := Tryz.func105.trans (congrArg some (by kernel_rfl))
  f30 := ⟨Tryz.f106.name, by decide, Tryz.func106.trans (congrArg some (by kernel_rfl))⟩
  f31 := Tryz.func107.trans (congrArg some (by kernel_rfl))
  f32 := Tryz.func108.trans (congrArg some (by kernel_rfl))
  f33 := ⟨Tryz.f109.name, by decide, Tryz.func109.trans (congrArg some (by kernel_rfl))⟩
  f34 := ⟨Tryz.f110.name, by decide, Tryz.func110.trans (congrArg some (by kernel_rfl))⟩
  f35 := ⟨Tryz.f111.name, by decide, Tryz.func111.trans (congrArg some (by kernel_rfl))⟩
  f40 := ⟨Tryz.f112.name, by decide, Tryz.func112.trans (congrArg some (by kernel_rfl))⟩
  t0 := Tryz.underlying0
  a0 := Tryz.isAgg0
  z0 := Tryz.sizeOf0
  v0 := Tryz.zeroValue0
  t3 := Tryz.underlying3
  a3 := Tryz.isAgg3
  z3 := Tryz.sizeOf3
  v3 := Tryz.zeroValue3
  t4 := Tryz.underlying4
  a4 := Tryz.isAgg4
  z4 := Tryz.sizeOf4
  v4 := Tryz.zeroValue4
  t5 := Tryz.underlying5
  a5 := Tryz.isAgg5
  z5 := Tryz.sizeOf5
  v5 := Tryz.zeroValue5
  t9 := Tryz.underlying9
  a9 := Tryz.isAgg9
  z9 := Tryz.sizeOf9
  v9 := Tryz.zeroValue9
  t22 := Tryz.underlying27
  a22 := Tryz.isAgg27
  z22 := Tryz.sizeOf27
  v22 := Tryz.zeroValue27
  t23 := Tryz.underlying27
  a23 := Tryz.isAgg27
  z23 := Tryz.sizeOf27
  v23 := Tryz.zeroValue27
  t25 := Tryz.underlying3
  a25 := Tryz.isAgg3
  z25 := Tryz.sizeOf3
  v25 := Tryz.zeroValue3
  t32 := Tryz.underlying158
  a32 := Tryz.isAgg158
  z32 := Tryz.sizeOf158
  v32 := Tryz.zeroValue158
  t35 := Tryz.underlying160
  a35 := Tryz.isAgg160
  z35 := Tryz.sizeOf160
  v35 := Tryz.zeroValue160
  t36 := Tryz.underlying161
  a36 := Tryz.isAgg161
  z36 := Tryz.sizeOf161
  v36 := Tryz.zeroValue161
  t41 := Tryz.underlying166
  a41 := Tryz.isAgg166
  z41 := Tryz.sizeOf166
  v41 := Tryz.zeroValue166
  t44 := Tryz.underlying169
  a44 := Tryz.isAgg169
  z44 := Tryz.sizeOf169
  v44 := Tryz.zeroValue169
  t46 := Tryz.underlying171
  a46 := Tryz.isAgg171
  z46 := Tryz.sizeOf171
  v46 := Tryz.zeroValue171
  t53 := Tryz.underlying172
  a53 := Tryz.isAgg172
  z53 := Tryz.sizeOf172
  v53 := Tryz.zeroValue172
  t57 := Tryz.underlying176
  a57 := Tryz.isAgg176
  z57 := Tryz.sizeOf176
  v57 := Tryz.zeroValue176
  t63 := Tryz.underlying178
  a63 := Tryz.isAgg178
  z63 := Tryz.sizeOf178
  v63 := Tryz.zeroValue178
  t64 := Tryz.underlying179
  a64 := Tryz.isAgg179
  z64 := Tryz.sizeOf179
  v64 := Tryz.zeroValue179 }

end Go.Proofs.YtciacofibljmoaaGreatDoor

/- The ticks of the changes, in order. -/
namespace Go.Proofs.YtciacofibljmoaaGreatDoor
open Go.RowKit Go.Maps Go.Sort Go.Shelf

theorem sortsA (m : Nat) : AnyZI.SortsIn Tryz.prog sortedA_ren Fence.wide m :=
  ⟨fun blk off cap ss W hH hblk hsz => callsIn_wide.2 (AnyM.slices_Sort_int sortA blk off cap ss W hH hblk hsz),
   fun p cap W => callsIn_wide.2 (AnyM.slices_Sort_int_none sortA p cap W)⟩
theorem keys_calls (mb : Option Nat) (W : World) : Calls Tryz.prog 75 #[.map mb] W fun e w' => e = .returned (.func (.func 88) #[] #[.pointer (some ⟨W.heap.size, 0, none⟩)]) ∧ w' = W.alloc (.cells #[.map mb] 102) :=
  callsIn_wide.1 (AnyZI.keys_in keysA Fence.wide 5 trivial rfl mb W)

theorem chg_size {w : World} {B n : Nat} {D : DataW Unit} {f : Int → Int} {K : Int → Prop} (h : Chg w B n D f K) : Maps.size D ≤ n := by
  obtain ⟨⟨es, clock, _, _, hs, hD⟩, _⟩ := h
  subst hD
  rw [size_eq, length_read]
  simpa using hs
theorem chg_keys {w : World} {B n : Nat} {D : DataW Unit} {f : Int → Int} {K : Int → Prop} (h : Chg w B n D f K) : (intKeys D).Nodup ∧ ∀ x, x ∈ intKeys D ↔ K x := by
  obtain ⟨hown, _, hk⟩ := h
  obtain ⟨es, hD, hpw, _⟩ := hown.entries law_int
  obtain ⟨es', hD', hko⟩ := hown.keysOf
  obtain rfl : es = es' := by rw [hD] at hD'; simpa using hD'
  subst hD
  have hint : ∀ p ∈ es, ∃ x, p.1 = .int .i64 x := fun p hp => by obtain ⟨v, hv⟩ := hko p hp; obtain ⟨x, _, hx, _⟩ := Maps.keyOf_i64 Tryz.underlying3 hv; exact ⟨x, hx⟩
  refine ⟨?_, fun x => ?_⟩
  · show (es.map fun p => Go.intOf p.1).Nodup
    refine List.pairwise_map.2 (hpw.imp_of_mem fun {p q} hp' hq' hne e => hne ?_)
    obtain ⟨a, ha⟩ := hint p hp'
    obtain ⟨b, hb⟩ := hint q hq'
    rw [ha, hb] at e ⊢
    exact congrArg _ e
  · rw [← hk x, has_eq, List.any_eq_true]
    show x ∈ es.map (fun p => Go.intOf p.1) ↔ _
    rw [List.mem_map]
    constructor
    · rintro ⟨p, hp', rfl⟩
      obtain ⟨a, ha⟩ := hint p hp'
      exact ⟨p, hp', by rw [ha]; simp [Lit.sameKey, Go.intOf]⟩
    · rintro ⟨p, hp', hs⟩
      obtain ⟨a, ha⟩ := hint p hp'
      rw [ha] at hs
      exact ⟨p, hp', by rw [ha]; simpa [Lit.sameKey, Go.intOf] using hs⟩

theorem asc_of {zs : List Int} (h : zs.Pairwise (fun a b => leI a b = true)) (hn : zs.Nodup) : zs.Pairwise (· < ·) := by
  have := List.Pairwise.and h hn
  refine this.imp fun {a b} hh => ?_
  obtain ⟨h1, h2⟩ := hh
  simp only [leI, decide_eq_true_eq] at h1
  omega

set_option maxHeartbeats 1000000 in
theorem sorted_calls (B n : Nat) (D : DataW Unit) (f : Int → Int) (K : Int → Prop) (w : World) (h : Chg w B n D f K) (hn : n ≤ 1000) :
    Calls Tryz.prog 74 #[.func (.func 88) #[] #[.pointer (some ⟨w.heap.size, 0, none⟩)]] (w.alloc (.cells #[.map (some B)] 102)) fun e w' =>
      ∃ (a : Option Addr) (cap : Nat) (zs : List Int), e = .returned (.slice a zs.length cap) ∧ IntsIn w' a zs ∧ zs.Pairwise (· < ·) ∧ (∀ x, x ∈ zs ↔ K x) ∧ zs.length ≤ n ∧ Below w.heap.size w w' := by
  have hown := h.1
  have hbl := hown.lt
  have hsz := chg_size h
  obtain ⟨hnd, hmem⟩ := chg_keys h
  have hlen : (intKeys D).length = Maps.size D := by
    obtain ⟨es, rfl⟩ := hown.isMap
    simp [intKeys, size_eq]
  have hseq : SeqGives Fence.wide 2 Tryz.prog 88 #[.pointer (some ⟨w.heap.size, 0, none⟩)] encZ (fun ss => ss.Perm (intKeys D)) (Maps.size D) (w.alloc (.cells #[.map (some B)] 102)) :=
    AnyZI.keys_gives (ρ := keysA_ren) { keysA with } Fence.wide _ trivial rfl (by omega) w.heap.size B n D _ (by simp) (by simp) (by
      obtain ⟨es, clock, hb, Ft, hs, hD⟩ := hown
      exact ⟨es, clock, (Below.heap_alloc _ _ B hbl).trans hb, Ft, hs, hD⟩)
  have cS := AnyZI.sorted_in sortedA Fence.wide 5 trivial trivial trivial trivial rfl (by omega) (sortsA _) (enters_of Tryz.func87 (by kernel_rfl) rfl) 88 #[.pointer (some ⟨w.heap.size, 0, none⟩)] trivial (enters_of Tryz.func88 (by kernel_rfl) rfl) _ _ (by unfold maxLen; omega) (by omega) _ hseq
  change CallsIn _ _ Tryz.prog 74 _ _ _ at cS
  refine (callsIn_wide.1 cS).mono ?_
  rintro e w' ⟨v, ss, rfl, hS, hrow, hnil, hb⟩
  have hB : Below w.heap.size w w' := ((Below.refl _ w).alloc (Nat.le_refl _) _).trans (hb.mono (by simp))
  have tr : ∀ a b c : Int, leI a b = true → leI b c = true → leI a c = true := fun a b c h1 h2 => by simp only [leI, decide_eq_true_eq] at *; exact Int.le_trans h1 h2
  have to : ∀ a b : Int, (leI a b || leI b a) = true := fun a b => by simp only [leI, Bool.or_eq_true, decide_eq_true_eq]; exact Int.le_total a b
  have hp := List.mergeSort_perm ss leI
  have hasc := asc_of (List.pairwise_mergeSort tr to ss) ((hp.nodup_iff).2 ((hS.nodup_iff).2 hnd))
  have hm : ∀ x, x ∈ ss.mergeSort leI ↔ K x := fun x => by rw [hp.mem_iff, hS.mem_iff, hmem x]
  have hl : (ss.mergeSort leI).length = ss.length := hp.length_eq
  have hl2 : ss.length ≤ n := by rw [hS.length_eq, hlen]; exact hsz
  have hrow' : w'.ownsRow (w.alloc (.cells #[.map (some B)] 102)).heap.size 3 1 v ss.length ((ss.mergeSort leI).map encZ) := hrow
  generalize ss.mergeSort leI = zs at hasc hm hl hrow'
  rcases hrow'.2 with ⟨rfl, h0⟩ | ⟨g, cap, cur, rfl, hg, hh, h1, h2, h3, h4⟩
  · have : zs = [] := by apply List.eq_nil_of_length_eq_zero; omega
    subst this
    exact ⟨none, 0, [], rfl, fun i hi => by simp at hi, hasc, hm, by simp, hB⟩
  · refine ⟨some ⟨g, 0, none⟩, cap, zs, by rw [hl], fun i hi => ?_, hasc, hm, by omega, hB⟩
    refine ⟨g, 0, rfl, (Array.getElem?_eq_some_iff.1 hh).1, ?_⟩
    have q : (cur.toList.take (ss.length * 1))[i]? = (zs.map encZ)[i]? := by rw [h4]
    rw [List.getElem?_take_of_lt (by omega)] at q
    simp only [World.cell?, hh, Nat.zero_add]
    simp only [Option.isSome_none, Bool.false_eq_true, if_false]
    rw [← Array.getElem?_toList, q]
    simp [hi]

end Go.Proofs.YtciacofibljmoaaGreatDoor

/- The runs, out of the changes in order: the program's own walk. -/
namespace Go.Proofs.YtciacofibljmoaaGreatDoor
open Go.RowKit Go.Maps

/-- The cells of runs. -/
def runCells (rs : List Run) : List Value := rs.flatMap fun r => [.int .i64 r.1, .int .i64 r.2.1, .int .i64 r.2.2]
theorem runCells_len (rs : List Run) : (runCells rs).length = rs.length * 3 := by
  induction rs with
  | nil => rfl
  | cons r l ih => simp only [runCells, List.flatMap_cons, List.length_append, List.length_cons, List.length_nil] at *; omega
theorem runCells_snoc (rs : List Run) (r : Run) : runCells (rs ++ [r]) = runCells rs ++ [.int .i64 r.1, .int .i64 r.2.1, .int .i64 r.2.2] := by simp [runCells, List.flatMap_append]
/-- A slice of the call's own that holds these runs. -/
def OwnRuns (w : World) (base : Nat) (v : Value) (rs : List Run) : Prop := w.ownsRow base 105 3 v rs.length (runCells rs)

theorem info_run : (Tryz.prog.info? 105).map (fun i => (i.zero, i.size, i.bytes)) = some (some (.agg #[.int .i64 0, .int .i64 0, .int .i64 0]), 3, 24) := by kernel_rfl
theorem cell_three_new (w : World) (a b c : Value) (t : TypeId) : ∀ j u, [a, b, c][j]? = some u → (w.alloc (.cells #[a, b, c] t)).cell? ((⟨w.heap.size, 0, none⟩ : Addr).add j) = some u := by
  intro j u hj
  match j, hj with
  | 0, hj => simp at hj; subst hj; simp [Addr.add]
  | 1, hj => simp at hj; subst hj; simp [Addr.add]
  | 2, hj => simp at hj; subst hj; simp [Addr.add]
  | j + 3, hj => simp at hj

set_option maxRecDepth 100000 in
set_option maxHeartbeats 3200000 in
theorem runsOf_any (B n : Nat) (D : DataW Unit) (f : Int → Int) (K : Int → Prop) (w : World) (h : Chg w B n D f K) (hn : n ≤ 1000) (hK : ∀ x, K x → 0 ≤ x ∧ x ≤ 20000) (hf : ∀ x, -1000 ≤ f x ∧ f x ≤ 1000) :
    Calls Tryz.prog 56 #[.map (some B)] w fun e w' => ∃ (v : Value) (zs : List Int), e = .returned v ∧ zs.Pairwise (· < ·) ∧ (∀ x, x ∈ zs ↔ K x) ∧ OwnRuns w' w.heap.size v (zs.foldl (stepR f) ([], 0, 0)).1 ∧ (zs.foldl (stepR f) ([], 0, 0)).1.length ≤ 1000 ∧ Below w.heap.size w w' := by
  obtain ⟨i0, hi, hz0, hz1, hz2⟩ := info_parts info_run
  have HCH := hide h
  have HKB := hide hK
  have HF := hide hf
  clear h hK hf
  go_enter Tryz.func56, Tryz.ntmps56
  go_wp2_with fail
  refine (keys_calls (some B) w).mono ?_
  rintro e w1 ⟨rfl, rfl⟩
  go_wp2_with fail
  refine (sorted_calls B n D f K w HCH.out hn).mono ?_
  rintro e w2 ⟨a, cap, zs, rfl, hzs, hasc, hmem, hlen, hb2⟩
  have HZ := hide hzs
  have HAS := hide hasc
  have HME := hide hmem
  have HB2 := hide hb2
  have HC2 := hide (HCH.out.later hb2)
  have hlen2 : zs.length ≤ 1000 := by omega
  clear hzs hasc hmem hlen hb2 HCH
  go_wp2
  go_loopw [3, 4, 5, 12] (fun v q l i wr => ∃ (k : Nat) (rs : List Run) (fr ld : Int), k ≤ zs.length ∧ i = .int .i64 k ∧ q = .int .i64 fr ∧ l = .int .i64 ld ∧ -(1000 * (k : Int)) ≤ ld ∧ ld ≤ 1000 * (k : Int) ∧ rs.length ≤ k ∧ Hid ((zs.take k).foldl (stepR f) ([], 0, 0) = (rs, fr, ld)) ∧ Hid (OwnRuns wr w2.heap.size v rs) ∧ Hid (Below w2.heap.size w2 wr)) (fun _ _ _ i _ => zs.length - (RowKit.intOf i).toNat)
  case atStart => exact ⟨0, [], 0, 0, Nat.zero_le _, rfl, rfl, rfl, by omega, by omega, Nat.le_refl _, rfl, World.ownsRow_nil _ _ _ _, Below.refl _ _⟩
  case round =>
    obtain ⟨k, rs, fr, ld, hk, rfl, rfl, rfl, hl0, hl1, hrl, HR, HO, HB⟩ := hrel
    by_cases hlt : k < zs.length
    · obtain ⟨b, off, rfl, hblt, e0⟩ := HZ.out.later HB.out k hlt
      have hkey := HKB.out _ ((HME.out _).1 (List.getElem_mem hlt))
      have hfb := HF.out zs[k]
      have HST : Hid ((zs.take (k + 1)).foldl (stepR f) ([], 0, 0) = stepR f (rs, fr, ld) zs[k]) := by
        show _ = _
        rw [List.take_succ_eq_append_getElem hlt, List.foldl_append, HR.out]
        rfl
      clear HR
      generalize zs[k] = t at e0 hkey hfb HST
      obtain ⟨ht0, ht1⟩ := hkey
      obtain ⟨hf0, hf1⟩ := hfb
      have HC3 := hide (HC2.out.later HB.out)
      have tok1 : True := trivial
      have tok2 : True := trivial
      generalize hft : f t = ft at hf0 hf1
      have HFT := hide hft
      clear hft
      by_cases hd : ft = 0
      · have hd2 : (ft == 0) = true := by rw [hd]; rfl
        have HST2 : Hid ((zs.take (k + 1)).foldl (stepR f) ([], 0, 0) = (rs, fr, ld)) := by
          show _ = _
          rw [HST.out]; unfold stepR; rw [if_pos (by rw [HFT.out, hd])]
        have HD := hide hd
        clear hd HST
        go_wp2_with (first
          | (at_lookup; have _t := tok1; refine wpList_lookup_own_int _ rfl _ _ 102 rfl 3 3 .i64 law_int Tryz.underlying102 Tryz.underlying3 (zero_int _) B n D rfl HC3.out.1 _ _ rfl (keyOf_int_mk Tryz.underlying3 (WalkArith.wf_i64 (by omega))) ?_; intro c1 hat1 hwc1; obtain rfl := ((chg_at HC3.out hat1).trans HFT.out).symm; clear tok1 hat1 hwc1))
        go_roundw
        case rel => exact ⟨k + 1, rs, fr, ld, by omega, by go_num, rfl, rfl, by omega, by omega, by omega, HST2, HO.out, HB.out⟩
        case measure => simp [RowKit.intOf]; omega
      · have hd2 : (ft == 0) = false := beq_eq_false_iff_ne.2 hd
        by_cases hpos : 0 < ld
        · have HST2 : Hid ((zs.take (k + 1)).foldl (stepR f) ([], 0, 0) = (rs ++ [(fr, t - 1, ld)], t, ld + ft)) := by
            show _ = _
            rw [HST.out]; unfold stepR; rw [if_neg (by rw [HFT.out]; exact hd), if_pos hpos, HFT.out]
          have HD := hide hd
          clear hd HST
          go_wp2_with (first
            | (at_lookup; have _t := tok1; refine wpList_lookup_own_int _ rfl _ _ 102 rfl 3 3 .i64 law_int Tryz.underlying102 Tryz.underlying3 (zero_int _) B n D rfl HC3.out.1 _ _ rfl (keyOf_int_mk Tryz.underlying3 (WalkArith.wf_i64 (by omega))) ?_; intro c1 hat1 hwc1; obtain rfl := ((chg_at HC3.out hat1).trans HFT.out).symm; clear tok1 hat1 hwc1)
            | (at_builtin; refine wpList_append_own _ rfl _ _ 100 rfl w2.heap.size 105 i0 (.agg #[.int .i64 0, .int .i64 0, .int .i64 0]) 3 24 Tryz.underlying100 hi hz0 hz1 hz2 rfl (by decide) _ _ _ rfl (HO.out.alloc _) ⟨wr.heap.size, 0, none⟩ 1 1 [.int .i64 fr, .int .i64 (t - 1), .int .i64 ld] rfl rfl (cell_three_new _ _ _ _ _) (fun x hx => by simp at hx; rcases hx with rfl | rfl | rfl <;> rfl) (by unfold maxLen; omega) (by omega) (by have := HB.out.size; simp; omega) ?_; intro v' w3 hown3 hgrow3 hnil3; have HO3 := hide hown3; have HB3 := hide (Below.grown (HB.out.alloc HB.out.size _) hgrow3 (by have := HB.out.size; simp; omega) (fun q hq => (HO.out.lt _ hq).1)); have HC4 := hide (HC2.out.later HB3.out); clear hown3 hgrow3 hnil3)
            | (at_lookup; have _t := tok2; refine wpList_lookup_own_int _ rfl _ _ 102 rfl 3 3 .i64 law_int Tryz.underlying102 Tryz.underlying3 (zero_int _) B n D rfl HC4.out.1 _ _ rfl (keyOf_int_mk Tryz.underlying3 (WalkArith.wf_i64 (by omega))) ?_; intro c2 hat2 hwc2; obtain rfl := ((chg_at HC4.out hat2).trans HFT.out).symm; clear tok2 hat2 hwc2))
          go_roundw
          case rel => exact ⟨k + 1, rs ++ [(fr, t - 1, ld)], t, ld + ft, by omega, by go_num, rfl, rfl, by omega, by omega, by simp; omega, HST2, by show World.ownsRow _ _ _ _ _ _ _; rw [runCells_snoc, List.length_append]; exact HO3.out, HB3.out⟩
          case measure => simp [RowKit.intOf]; omega
        · have HST2 : Hid ((zs.take (k + 1)).foldl (stepR f) ([], 0, 0) = (rs, t, ld + ft)) := by
            show _ = _
            rw [HST.out]; unfold stepR; rw [if_neg (by rw [HFT.out]; exact hd), if_neg hpos, HFT.out]
          have HD := hide hd
          clear hd HST
          go_wp2_with (first
            | (at_lookup; have _t := tok1; refine wpList_lookup_own_int _ rfl _ _ 102 rfl 3 3 .i64 law_int Tryz.underlying102 Tryz.underlying3 (zero_int _) B n D rfl HC3.out.1 _ _ rfl (keyOf_int_mk Tryz.underlying3 (WalkArith.wf_i64 (by omega))) ?_; intro c1 hat1 hwc1; obtain rfl := ((chg_at HC3.out hat1).trans HFT.out).symm; clear tok1 hat1 hwc1)
            | (at_lookup; have _t := tok2; refine wpList_lookup_own_int _ rfl _ _ 102 rfl 3 3 .i64 law_int Tryz.underlying102 Tryz.underlying3 (zero_int _) B n D rfl HC3.out.1 _ _ rfl (keyOf_int_mk Tryz.underlying3 (WalkArith.wf_i64 (by omega))) ?_; intro c2 hat2 hwc2; obtain rfl := ((chg_at HC3.out hat2).trans HFT.out).symm; clear tok2 hat2 hwc2))
          go_roundw
          case rel => exact ⟨k + 1, rs, t, ld + ft, by omega, by go_num, rfl, rfl, by omega, by omega, by omega, HST2, HO.out, HB.out⟩
          case measure => simp [RowKit.intOf]; omega
    · go_wp2
      go_ret
      have : k = zs.length := by omega
      subst this
      have hR := HR.out
      rw [List.take_length] at hR
      refine ⟨_, zs, rfl, HAS.out, HME.out, ?_, by rw [hR]; show rs.length ≤ 1000; omega, ?_⟩
      · rw [hR]
        have h2 := HB2.out.size
        have h3 := HO.out
        obtain ⟨q1, q2⟩ := h3
        refine ⟨q1, ?_⟩
        rcases q2 with q2 | ⟨g, cp, cur, e1, e2, e3⟩
        · exact .inl q2
        · exact .inr ⟨g, cp, cur, e1, by omega, e3⟩
      · exact below_two HB2.out HB.out

end Go.Proofs.YtciacofibljmoaaGreatDoor
