/- The ticks of the changes, in order. -/
import Derived.Test.YtciacofibljmoaaGreatLays
import Derived.Test.YtciacofibljmoaaGreatChanges
namespace Go.Proofs.YtciacofibljmoaaGreat
open Go.RowKit Go.Maps Go.Sort Go.Shelf

theorem sortsA (m : Nat) : AnyZI.SortsIn Tryz.prog sortedA_ren Fence.wide m :=
  ⟨fun blk off cap ss W hH hblk hsz => callsIn_wide.2 (AnyM.slices_Sort_int sortA blk off cap ss W hH hblk hsz),
   fun p cap W => callsIn_wide.2 (AnyM.slices_Sort_int_none sortA p cap W)⟩
theorem keys_calls (mb : Option Nat) (W : World) : Calls Tryz.prog 92 #[.map mb] W fun e w' => e = .returned (.func (.func 148) #[] #[.pointer (some ⟨W.heap.size, 0, none⟩)]) ∧ w' = W.alloc (.cells #[.map mb] 73) :=
  callsIn_wide.1 (AnyZI.keys_in keysA Fence.wide 5 trivial rfl mb W)

theorem chg_size {w : World} {B n : Nat} {D : DataW Unit} {f : Int → Int} {K : Int → Prop} (h : Chg w B n D f K) : Maps.size D ≤ n := by
  obtain ⟨⟨es, clock, _, _, hs, hD⟩, _⟩ := h
  subst hD
  rw [size_eq, length_read]
  simpa using hs
theorem chg_keys {w : World} {B n : Nat} {D : DataW Unit} {f : Int → Int} {K : Int → Prop} (h : Chg w B n D f K) : (intKeys D).Nodup ∧ ∀ x, x ∈ intKeys D ↔ K x := by
  obtain ⟨hown, _, hk⟩ := h
  obtain ⟨es, hD, hpw, _⟩ := hown.entries law_int
  obtain ⟨es', hD', hko⟩ := hown.keysOf
  obtain rfl : es = es' := by rw [hD] at hD'; simpa using hD'
  subst hD
  have hint : ∀ p ∈ es, ∃ x, p.1 = .int .i64 x := fun p hp => by obtain ⟨v, hv⟩ := hko p hp; obtain ⟨x, _, hx, _⟩ := Maps.keyOf_i64 Tryz.underlying3 hv; exact ⟨x, hx⟩
  refine ⟨?_, fun x => ?_⟩
  · show (es.map fun p => Go.intOf p.1).Nodup
    refine List.pairwise_map.2 (hpw.imp_of_mem fun {p q} hp' hq' hne e => hne ?_)
    obtain ⟨a, ha⟩ := hint p hp'
    obtain ⟨b, hb⟩ := hint q hq'
    rw [ha, hb] at e ⊢
    exact congrArg _ e
  · rw [← hk x, has_eq, List.any_eq_true]
    show x ∈ es.map (fun p => Go.intOf p.1) ↔ _
    rw [List.mem_map]
    constructor
    · rintro ⟨p, hp', rfl⟩
      obtain ⟨a, ha⟩ := hint p hp'
      exact ⟨p, hp', by rw [ha]; simp [Lit.sameKey, Go.intOf]⟩
    · rintro ⟨p, hp', hs⟩
      obtain ⟨a, ha⟩ := hint p hp'
      rw [ha] at hs
      exact ⟨p, hp', by rw [ha]; simpa [Lit.sameKey, Go.intOf] using hs⟩

theorem asc_of {zs : List Int} (h : zs.Pairwise (fun a b => leI a b = true)) (hn : zs.Nodup) : zs.Pairwise (· < ·) := by
  have := List.Pairwise.and h hn
  refine this.imp fun {a b} hh => ?_
  obtain ⟨h1, h2⟩ := hh
  simp only [leI, decide_eq_true_eq] at h1
  omega

set_option maxHeartbeats 1000000 in
theorem sorted_calls (B n : Nat) (D : DataW Unit) (f : Int → Int) (K : Int → Prop) (w : World) (h : Chg w B n D f K) (hn : n ≤ 1000) :
    Calls Tryz.prog 91 #[.func (.func 148) #[] #[.pointer (some ⟨w.heap.size, 0, none⟩)]] (w.alloc (.cells #[.map (some B)] 73)) fun e w' =>
      ∃ (a : Option Addr) (cap : Nat) (zs : List Int), e = .returned (.slice a zs.length cap) ∧ IntsIn w' a zs ∧ zs.Pairwise (· < ·) ∧ (∀ x, x ∈ zs ↔ K x) ∧ zs.length ≤ n ∧ Below w.heap.size w w' := by
  have hown := h.1
  have hbl := hown.lt
  have hsz := chg_size h
  obtain ⟨hnd, hmem⟩ := chg_keys h
  have hlen : (intKeys D).length = Maps.size D := by
    obtain ⟨es, rfl⟩ := hown.isMap
    simp [intKeys, size_eq]
  have hseq : SeqGives Fence.wide 2 Tryz.prog 148 #[.pointer (some ⟨w.heap.size, 0, none⟩)] encZ (fun ss => ss.Perm (intKeys D)) (Maps.size D) (w.alloc (.cells #[.map (some B)] 73)) :=
    AnyZI.keys_gives (ρ := keysA_ren) { keysA with } Fence.wide _ trivial rfl (by omega) w.heap.size B n D _ (by simp) (by simp) (by
      obtain ⟨es, clock, hb, Ft, hs, hD⟩ := hown
      exact ⟨es, clock, (Below.heap_alloc _ _ B hbl).trans hb, Ft, hs, hD⟩)
  have cS := AnyZI.sorted_in sortedA Fence.wide 5 trivial trivial trivial trivial rfl (by omega) (sortsA _) (enters_of Tryz.func147 (by kernel_rfl) rfl) 148 #[.pointer (some ⟨w.heap.size, 0, none⟩)] trivial (enters_of Tryz.func148 (by kernel_rfl) rfl) _ _ (by unfold maxLen; omega) (by omega) _ hseq
  change CallsIn _ _ Tryz.prog 91 _ _ _ at cS
  refine (callsIn_wide.1 cS).mono ?_
  rintro e w' ⟨v, ss, rfl, hS, hrow, hnil, hb⟩
  have hB : Below w.heap.size w w' := ((Below.refl _ w).alloc (Nat.le_refl _) _).trans (hb.mono (by simp))
  have tr : ∀ a b c : Int, leI a b = true → leI b c = true → leI a c = true := fun a b c h1 h2 => by simp only [leI, decide_eq_true_eq] at *; exact Int.le_trans h1 h2
  have to : ∀ a b : Int, (leI a b || leI b a) = true := fun a b => by simp only [leI, Bool.or_eq_true, decide_eq_true_eq]; exact Int.le_total a b
  have hp := List.mergeSort_perm ss leI
  have hasc := asc_of (List.pairwise_mergeSort tr to ss) ((hp.nodup_iff).2 ((hS.nodup_iff).2 hnd))
  have hm : ∀ x, x ∈ ss.mergeSort leI ↔ K x := fun x => by rw [hp.mem_iff, hS.mem_iff, hmem x]
  have hl : (ss.mergeSort leI).length = ss.length := hp.length_eq
  have hl2 : ss.length ≤ n := by rw [hS.length_eq, hlen]; exact hsz
  have hrow' : w'.ownsRow (w.alloc (.cells #[.map (some B)] 73)).heap.size 3 1 v ss.length ((ss.mergeSort leI).map encZ) := hrow
  generalize ss.mergeSort leI = zs at hasc hm hl hrow'
  rcases hrow'.2 with ⟨rfl, h0⟩ | ⟨g, cap, cur, rfl, hg, hh, h1, h2, h3, h4⟩
  · have : zs = [] := by apply List.eq_nil_of_length_eq_zero; omega
    subst this
    exact ⟨none, 0, [], rfl, fun i hi => by simp at hi, hasc, hm, by simp, hB⟩
  · refine ⟨some ⟨g, 0, none⟩, cap, zs, by rw [hl], fun i hi => ?_, hasc, hm, by omega, hB⟩
    refine ⟨g, 0, rfl, (Array.getElem?_eq_some_iff.1 hh).1, ?_⟩
    have q : (cur.toList.take (ss.length * 1))[i]? = (zs.map encZ)[i]? := by rw [h4]
    rw [List.getElem?_take_of_lt (by omega)] at q
    simp only [World.cell?, hh, Nat.zero_add]
    simp only [Option.isSome_none, Bool.false_eq_true, if_false]
    rw [← Array.getElem?_toList, q]
    simp [hi]

end Go.Proofs.YtciacofibljmoaaGreat
