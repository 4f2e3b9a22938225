/- slices.Delete of one element, on a row that can be written: flights, slots. -/
import Derived.Test.YtciacofibljmoaaGreatDoorCopies
import Derived.Deep.RegionLaw
import Derived.Lib.LazyBuf
import Derived.Lib.SliceRun
import Derived.Test.YtciacofibljmoaaGreatDoorRounds
namespace Go.Proofs.YtciacofibljmoaaGreatDoor
open Go.RowKit

theorem run_clear_oneX {P : Program} (w : World) (t e ty : TypeId) (z : Value) (zs : List Value) (ht : P.underlying t = some (.slice e)) (hv : ∀ w, (zeroValue e).run P w = .ok z w) (hz : z.cells = zs.toArray) (h1 : ∀ v ∈ zs, v.oneCell' = true) (b o c : Nat)
    (hc : ∀ j, j < zs.length → (w.cell? ⟨b, o + j, none⟩).isSome = true) (hf : ∀ j, j < zs.length → w.frozen? ⟨b, o + j, none⟩ = false) :
    (Builtin.clear_ #[t] ty #[.slice (some ⟨b, o, none⟩) 1 c]).run P w = .ok (.tuple #[]) (w.setCells b o zs) := by
  have hzc : (Builtin.zeroCells z.cells 1).toList = zs := by
    rw [hz]
    apply List.ext_getElem
    · simp [Builtin.zeroCells]
    · intro i h1 h2
      simp only [Builtin.zeroCells, Array.getElem_toList, Array.getElem_map, Array.getElem_range, List.size_toArray]
      rw [Nat.mod_eq_of_lt h2]
      simp [h2]
  have hst := run_storeCells_cells (P := P) b o zs 0 w (by simpa using hc) (by simpa using hf) h1
  simp only [Nat.add_zero] at hst
  simp [Builtin.clear_, Sem.run_bind, run_underlying ht, hv, Result.andThen, hzc, hst]
theorem size_setC (b : Nat) : ∀ (vs : List Value) (o : Nat) (w : World), (w.setCells b o vs).heap.size = w.heap.size
  | [], _, _ => rfl
  | v :: r, o, w => (size_setC b r (o + 1) _).trans (World.size_setCell w ⟨b, o, none⟩ v)
theorem touchS_drewB (S : Nat → Prop) (w : World) : TouchS S w w.drew := ⟨rfl, rfl, rfl, Nat.le_refl _, fun _ _ _ => rfl⟩
theorem touch_setC {S : Nat → Prop} (b : Nat) (hb : S b) : ∀ (vs : List Value) (o : Nat) (w : World), TouchS S w (w.setCells b o vs)
  | [], _, w => touchS_refl S w
  | v :: r, o, w => touchS_trans (touchS_set (touchS_refl S w) (p := ⟨b, o, none⟩) hb v) (touch_setC b hb r (o + 1) _)
/-- What a row holds behind the striking of an element of sz cells. -/
def strikeF (sz n i : Nat) (f f' : Nat → Value) : Prop := ∀ j, j < (n - 1) * sz → f' j = if j < i * sz then f j else f (j + sz)
theorem strike_row {w : World} {g : Nat} {t : TypeId} {sz cap n i : Nat} {f : Nat → Value} (hr : w.rowIs g t (cap * sz) f) (hi : i < n) (zs : List Value) (news : List Value) (hl : news.length = (n - (i + 1)) * sz) (hg : ∀ k, k < (n - (i + 1)) * sz → news[k]? = some (f ((i + 1) * sz + k))) (o1 o2 : Nat) (e1 : o1 = i * sz) (e2 : o2 = (n - 1) * sz) :
    ∃ f', ((w.setCells g o1 news).setCells g o2 zs).rowIs g t (cap * sz) f' ∧ strikeF sz n i f f' := by
  subst e1 e2
  refine ⟨_, Go.rowIs_setCells zs _ _ _ (Go.rowIs_setCells news _ _ _ hr), fun j hj => ?_⟩
  have hs : (n - (i + 1)) * sz + i * sz = (n - 1) * sz := by rw [← Nat.add_mul]; congr 1; omega
  rw [if_neg (by omega), hl]
  by_cases h : j < i * sz
  · rw [if_neg (by omega), if_pos h]
  · rw [if_pos (by omega), if_neg h, hg _ (by omega)]
    have : (i + 1) * sz + (j - i * sz) = j + sz := by rw [Nat.add_mul]; omega
    rw [this]
    rfl

set_option maxHeartbeats 4000000 in
set_option maxRecDepth 1000000 in
theorem deleteF_any (g n cap i : Nat) (f : Nat → Value) (w : World) (hr : w.rowIs g 32 (cap * 4) f) (hone : ∀ j, j < n * 4 → (f j).oneCell' = true) (hn : n ≤ cap) (hi : i < n) :
    Calls Tryz.prog 137 #[.slice (some ⟨g, 0, none⟩) n cap, .int .i64 i, .int .i64 ((i : Int) + 1)] w fun e w' => e = .returned (.slice (some ⟨g, 0, none⟩) (n - 1) cap) ∧ (∃ f', w'.rowIs g 32 (cap * 4) f' ∧ strikeF 4 n i f f') ∧ TouchS (fun k => k = g) w w' ∧ w'.heap.size = w.heap.size := by
  obtain ⟨j, hj⟩ : ∃ j : Nat, j = i + 1 := ⟨_, rfl⟩
  have ej : ((i : Int) + 1) = ((j : Nat) : Int) := by omega
  rw [ej]
  obtain ⟨news, hnews⟩ : ∃ news, news = (List.range ((n - (i + 1)) * 4)).map (fun t => f ((i + 1) * 4 + t)) := ⟨_, rfl⟩
  have hlen : news.length = (n - (i + 1)) * 4 := by rw [hnews]; simp
  have hget : ∀ k, k < (n - (i + 1)) * 4 → news[k]? = some (f ((i + 1) * 4 + k)) := fun k hk => by rw [hnews, List.getElem?_map, List.getElem?_range hk]; rfl
  have hlt : ∀ k u, news[k]? = some u → k < (n - (i + 1)) * 4 := fun k u hu => by
    have := (List.getElem?_eq_some_iff.1 hu).1
    rwa [hlen] at this
  obtain ⟨A, hA, hsrc⟩ : ∃ A : Addr, (if cap = j then some (⟨g, 0, none⟩ : Addr) else some ⟨g, j * 4, none⟩) = some A ∧ Hid (∀ t u, news[t]? = some u → w.drew.cell? (A.add t) = some u) := by
    by_cases h : cap = j
    · refine ⟨⟨g, 0, none⟩, by simp [h], fun t u hu => ?_⟩
      have := hlt t u hu
      omega
    · refine ⟨⟨g, j * 4, none⟩, by simp [h], fun t u hu => ?_⟩
      have ht := hlt t u hu
      rw [hget t ht] at hu
      rw [Addr.add_lit, hj]
      have q := (hr.cell (i := (i + 1) * 4 + t) (by omega)).trans hu
      exact q
  have s1 : Hid (news.length = (n - j) * 4) := by rw [hj]; exact hlen
  have s2 : Hid (∀ u ∈ news, u.oneCell' = true) := by
    intro u hu
    rw [hnews] at hu
    obtain ⟨x, hx, rfl⟩ := List.mem_map.1 hu
    have := List.mem_range.1 hx
    exact hone _ (by omega)
  have s3 : Hid (∀ t, t < news.length → (w.drew.cell? ⟨g, 0 + i * 4 + t, none⟩).isSome = true ∧ w.drew.frozen? ⟨g, 0 + i * 4 + t, none⟩ = false) := by
    intro t ht
    rw [hlen] at ht
    rw [Nat.zero_add]
    exact ⟨by show (w.cell? _).isSome = true; rw [hr.cell (by omega)]; rfl, hr.frozen _⟩
  obtain ⟨W1, hW1⟩ : ∃ W1, W1 = w.drew.setCells g (0 + i * 4) news := ⟨_, rfl⟩
  have hr1 : ∃ f1, W1.rowIs g 32 (cap * 4) f1 := ⟨_, by rw [hW1]; exact Go.rowIs_setCells news _ _ _ (show w.drew.rowIs g 32 (cap * 4) f from hr)⟩
  have hcl : ∀ ty, (Builtin.clear_ #[24] ty #[.slice (some ⟨g, (i + (n - j)) * 4, none⟩) (n - (i + (n - j))) (cap - (i + (n - j)))]).run Tryz.prog W1 = .ok (.tuple #[]) (W1.setCells g ((i + (n - j)) * 4) [.string ⟨#[]⟩, .int .i64 0, .int .i64 0, .slice none 0 0]) := fun ty => by
    obtain ⟨f1, hr1⟩ := hr1
    rw [show n - (i + (n - j)) = 1 by omega]
    exact run_clear_oneX W1 _ _ ty _ _ Tryz.underlying24 (fun w => Tryz.zeroValue32 w) rfl (by intro v hv; simp at hv; rcases hv with rfl | rfl | rfl | rfl <;> rfl) g _ _ (fun k hk => by rw [hr1.cell (by simp at hk; omega)]; rfl) (fun k _ => hr1.frozen _)
  have fin : ∃ f', (W1.setCells g ((i + (n - j)) * 4) [.string ⟨#[]⟩, .int .i64 0, .int .i64 0, .slice none 0 0]).rowIs g 32 (cap * 4) f' ∧ strikeF 4 n i f f' := by
    rw [hW1]
    exact strike_row (show w.drew.rowIs g 32 (cap * 4) f from hr) hi _ news hlen hget _ _ (by omega) (by omega)
  have tch : TouchS (fun k => k = g) w (W1.setCells g ((i + (n - j)) * 4) [.string ⟨#[]⟩, .int .i64 0, .int .i64 0, .slice none 0 0]) := by
    rw [hW1]
    exact touchS_trans (touchS_trans (touchS_drewB _ w) (touch_setC (S := fun k => k = g) g rfl news _ w.drew)) (touch_setC (S := fun k => k = g) g rfl _ _ _)
  have hsz : (W1.setCells g ((i + (n - j)) * 4) [.string ⟨#[]⟩, .int .i64 0, .int .i64 0, .slice none 0 0]).heap.size = w.heap.size := by
    rw [size_setC, hW1, size_setC]
    rfl
  have out : Hid ((∃ f', (W1.setCells g ((i + (n - j)) * 4) [.string ⟨#[]⟩, .int .i64 0, .int .i64 0, .slice none 0 0]).rowIs g 32 (cap * 4) f' ∧ strikeF 4 n i f f') ∧ TouchS (fun k => k = g) w (W1.setCells g ((i + (n - j)) * 4) [.string ⟨#[]⟩, .int .i64 0, .int .i64 0, .slice none 0 0]) ∧ (W1.setCells g ((i + (n - j)) * 4) [.string ⟨#[]⟩, .int .i64 0, .int .i64 0, .slice none 0 0]).heap.size = w.heap.size) := ⟨fin, tch, hsz⟩
  have hW : Hid (W1 = w.drew.setCells g (0 + i * 4) news) := hW1
  obtain ⟨i0, hi0, hz0⟩ : ∃ i0, Tryz.prog.info? 32 = some i0 ∧ i0.size = 4 := by
    have h := info_flight
    cases h' : Tryz.prog.info? 32 with
    | none => rw [h'] at h; simp at h
    | some q => rw [h'] at h; simp at h; exact ⟨q, rfl, h.2.1⟩
  have hic : i ≤ cap := by omega
  have hjc : j ≤ cap := by omega
  have hjn : j ≤ n := by omega
  have hij : i ≤ j := by omega
  have hne : i ≠ j := by omega
  have hj' : Hid (j = i + 1) := hj
  clear fin tch hsz hr1 hW1 hr hget hnews hlen hlt ej hj hone
  go_enter Tryz.func137, Tryz.ntmps137
  go_wp2_with fail
  go_region_law (refine step_append_room rfl (.tmp 22) (.tmp 25) 24 rfl 32 i0 4 Tryz.underlying24 hi0 hz0 g 0 i cap (by simp [Act.eval, Act.put]) A (n - j) (cap - j) news (by simp [Act.eval, Act.put]) s1.out hsrc.out s2.out (by omega) s3.out ?_; rw [← hW.out])
  go_wp2
  go_ret
  have := hj'.out
  exact ⟨by rw [show n - 1 = i + (n - j) by omega]; rfl, out.out⟩

set_option maxHeartbeats 4000000 in
set_option maxRecDepth 1000000 in
theorem deleteI_any (g n cap i : Nat) (f : Nat → Value) (w : World) (hr : w.rowIs g 3 (cap * 1) f) (hone : ∀ j, j < n * 1 → (f j).oneCell' = true) (hn : n ≤ cap) (hi : i < n) :
    Calls Tryz.prog 138 #[.slice (some ⟨g, 0, none⟩) n cap, .int .i64 i, .int .i64 ((i : Int) + 1)] w fun e w' => e = .returned (.slice (some ⟨g, 0, none⟩) (n - 1) cap) ∧ (∃ f', w'.rowIs g 3 (cap * 1) f' ∧ strikeF 1 n i f f') ∧ TouchS (fun k => k = g) w w' ∧ w'.heap.size = w.heap.size := by
  obtain ⟨j, hj⟩ : ∃ j : Nat, j = i + 1 := ⟨_, rfl⟩
  have ej : ((i : Int) + 1) = ((j : Nat) : Int) := by omega
  rw [ej]
  obtain ⟨news, hnews⟩ : ∃ news, news = (List.range ((n - (i + 1)) * 1)).map (fun t => f ((i + 1) * 1 + t)) := ⟨_, rfl⟩
  have hlen : news.length = (n - (i + 1)) * 1 := by rw [hnews]; simp
  have hget : ∀ k, k < (n - (i + 1)) * 1 → news[k]? = some (f ((i + 1) * 1 + k)) := fun k hk => by rw [hnews, List.getElem?_map, List.getElem?_range hk]; rfl
  have hlt : ∀ k u, news[k]? = some u → k < (n - (i + 1)) * 1 := fun k u hu => by
    have := (List.getElem?_eq_some_iff.1 hu).1
    rwa [hlen] at this
  obtain ⟨A, hA, hsrc⟩ : ∃ A : Addr, (if cap = j then some (⟨g, 0, none⟩ : Addr) else some ⟨g, j, none⟩) = some A ∧ Hid (∀ t u, news[t]? = some u → w.drew.cell? (A.add t) = some u) := by
    by_cases h : cap = j
    · refine ⟨⟨g, 0, none⟩, by simp [h], fun t u hu => ?_⟩
      have := hlt t u hu
      omega
    · refine ⟨⟨g, j, none⟩, by simp [h], fun t u hu => ?_⟩
      have ht := hlt t u hu
      rw [hget t ht] at hu
      rw [Addr.add_lit, hj]
      have q := (hr.cell (i := (i + 1) * 1 + t) (by omega)).trans hu
      rw [Nat.mul_one] at q; exact q
  have s1 : Hid (news.length = (n - j) * 1) := by rw [hj]; exact hlen
  have s2 : Hid (∀ u ∈ news, u.oneCell' = true) := by
    intro u hu
    rw [hnews] at hu
    obtain ⟨x, hx, rfl⟩ := List.mem_map.1 hu
    have := List.mem_range.1 hx
    exact hone _ (by omega)
  have s3 : Hid (∀ t, t < news.length → (w.drew.cell? ⟨g, 0 + i * 1 + t, none⟩).isSome = true ∧ w.drew.frozen? ⟨g, 0 + i * 1 + t, none⟩ = false) := by
    intro t ht
    rw [hlen] at ht
    rw [Nat.zero_add]
    exact ⟨by show (w.cell? _).isSome = true; rw [hr.cell (by omega)]; rfl, hr.frozen _⟩
  obtain ⟨W1, hW1⟩ : ∃ W1, W1 = w.drew.setCells g (0 + i * 1) news := ⟨_, rfl⟩
  have hr1 : ∃ f1, W1.rowIs g 3 (cap * 1) f1 := ⟨_, by rw [hW1]; exact Go.rowIs_setCells news _ _ _ (show w.drew.rowIs g 3 (cap * 1) f from hr)⟩
  have hcl : ∀ ty, (Builtin.clear_ #[27] ty #[.slice (some ⟨g, (i + (n - j)), none⟩) (n - (i + (n - j))) (cap - (i + (n - j)))]).run Tryz.prog W1 = .ok (.tuple #[]) (W1.setCells g ((i + (n - j))) [.int .i64 0]) := fun ty => by
    obtain ⟨f1, hr1⟩ := hr1
    rw [show n - (i + (n - j)) = 1 by omega]
    exact run_clear_oneX W1 _ _ ty _ _ Tryz.underlying27 (fun w => Tryz.zeroValue3 w) rfl (by intro v hv; simp at hv; subst hv; rfl) g _ _ (fun k hk => by rw [hr1.cell (by simp at hk; omega)]; rfl) (fun k _ => hr1.frozen _)
  have fin : ∃ f', (W1.setCells g ((i + (n - j))) [.int .i64 0]).rowIs g 3 (cap * 1) f' ∧ strikeF 1 n i f f' := by
    rw [hW1]
    exact strike_row (show w.drew.rowIs g 3 (cap * 1) f from hr) hi _ news hlen hget _ _ (by omega) (by omega)
  have tch : TouchS (fun k => k = g) w (W1.setCells g ((i + (n - j))) [.int .i64 0]) := by
    rw [hW1]
    exact touchS_trans (touchS_trans (touchS_drewB _ w) (touch_setC (S := fun k => k = g) g rfl news _ w.drew)) (touch_setC (S := fun k => k = g) g rfl _ _ _)
  have hsz : (W1.setCells g ((i + (n - j))) [.int .i64 0]).heap.size = w.heap.size := by
    rw [size_setC, hW1, size_setC]
    rfl
  have out : Hid ((∃ f', (W1.setCells g ((i + (n - j))) [.int .i64 0]).rowIs g 3 (cap * 1) f' ∧ strikeF 1 n i f f') ∧ TouchS (fun k => k = g) w (W1.setCells g ((i + (n - j))) [.int .i64 0]) ∧ (W1.setCells g ((i + (n - j))) [.int .i64 0]).heap.size = w.heap.size) := ⟨fin, tch, hsz⟩
  have hW : Hid (W1 = w.drew.setCells g (0 + i * 1) news) := hW1
  obtain ⟨i0, hi0, hz0⟩ : ∃ i0, Tryz.prog.info? 3 = some i0 ∧ i0.size = 1 := by
    have h := info_int
    cases h' : Tryz.prog.info? 3 with
    | none => rw [h'] at h; simp at h
    | some q => rw [h'] at h; simp at h; exact ⟨q, rfl, h.2.1⟩
  have hic : i ≤ cap := by omega
  have hjc : j ≤ cap := by omega
  have hjn : j ≤ n := by omega
  have hij : i ≤ j := by omega
  have hne : i ≠ j := by omega
  have hj' : Hid (j = i + 1) := hj
  clear fin tch hsz hr1 hW1 hr hget hnews hlen hlt ej hj hone
  go_enter Tryz.func138, Tryz.ntmps138
  go_wp2_with fail
  go_region_law (refine step_append_room rfl (.tmp 22) (.tmp 25) 27 rfl 3 i0 1 Tryz.underlying27 hi0 hz0 g 0 i cap (by simp [Act.eval, Act.put]) A (n - j) (cap - j) news (by simp [Act.eval, Act.put]) s1.out hsrc.out s2.out (by omega) s3.out ?_; rw [← hW.out])
  go_wp2
  go_ret
  have := hj'.out
  exact ⟨by rw [show n - 1 = i + (n - j) by omega]; rfl, out.out⟩
end Go.Proofs.YtciacofibljmoaaGreatDoor

/- A book of its own with a flight struck. -/
namespace Go.Proofs.YtciacofibljmoaaGreatDoor
open Go.RowKit

theorem strike_at {sz n i : Nat} {f f' : Nat → Value} (h : strikeF sz n i f f') {k r : Nat} (hr : r < sz) (hk : k < n - 1) : f' (k * sz + r) = if k < i then f (k * sz + r) else f ((k + 1) * sz + r) := by
  have h1 : k * sz + r < (n - 1) * sz := by
    have := Nat.mul_le_mul_right sz (show k + 1 ≤ n - 1 by omega)
    rw [Nat.add_mul] at this
    omega
  rw [h _ h1]
  by_cases hh : k < i
  · rw [if_pos hh, if_pos]
    have := Nat.mul_le_mul_right sz (show k + 1 ≤ i by omega)
    rw [Nat.add_mul] at this
    omega
  · rw [if_neg hh, if_neg]
    · rw [Nat.add_mul]; congr 1; omega
    · have := Nat.mul_le_mul_right sz (show i ≤ k by omega)
      omega
/-- A book of its own in blocks from lo to up. -/
structure OwnTo (lo up : Nat) (w : World) (ac a a' : Option Addr) (capc cap cap' : Nat) (cs : List (ByteArray × Int)) (fs : List Fli) (ss : List Int) : Prop where
  book : BookIn w ac a a' cs fs ss
  rows : ∃ va : List VisAt, BkW w ac a a' cs.length capc cap ss.length cap' va ∧ va.length = fs.length ∧ (∀ i (h1 : i < va.length) (h2 : i < fs.length), va[i].2.1 = fs[i].2.2.2.length) ∧ ∀ k, InB ac a a' cs.length ss.length va k → lo ≤ k ∧ k < up
  le : up ≤ w.heap.size
theorem OwnTo.own {lo up : Nat} {w : World} {ac a a' : Option Addr} {capc cap cap' : Nat} {cs : List (ByteArray × Int)} {fs : List Fli} {ss : List Int} (h : OwnTo lo up w ac a a' capc cap cap' cs fs ss) : OwnBk lo w ac a a' capc cap cap' cs fs ss := by
  obtain ⟨h1, ⟨va, h2, h3, h4, h5⟩, h6⟩ := h
  exact ⟨h1, va, h2, h3, h4, fun k hk => ⟨(h5 k hk).1, Nat.lt_of_lt_of_le (h5 k hk).2 h6⟩⟩
theorem OwnBk.to {lo : Nat} {w : World} {ac a a' : Option Addr} {capc cap cap' : Nat} {cs : List (ByteArray × Int)} {fs : List Fli} {ss : List Int} (h : OwnBk lo w ac a a' capc cap cap' cs fs ss) : OwnTo lo w.heap.size w ac a a' capc cap cap' cs fs ss := by
  obtain ⟨h1, va, h2, h3, h4, h5⟩ := h
  exact ⟨h1, ⟨va, h2, h3, h4, h5⟩, Nat.le_refl _⟩
theorem OwnTo.touch {S : Nat → Prop} {lo up : Nat} {w w' : World} {ac a a' : Option Addr} {capc cap cap' : Nat} {cs : List (ByteArray × Int)} {fs : List Fli} {ss : List Int} (h : OwnTo lo up w ac a a' capc cap cap' cs fs ss) (ht : TouchS S w w') (ho : ∀ k, lo ≤ k → k < up → ¬ S k) : OwnTo lo up w' ac a a' capc cap cap' cs fs ss := by
  obtain ⟨h1, ⟨va, h2, h3, h4, h5⟩, h6⟩ := h
  have hq : ∀ q, InB ac a a' cs.length ss.length va q → ¬ S q := fun q hq => ho q (h5 q hq).1 (h5 q hq).2
  exact ⟨⟨caps_touch h1.caps ht fun q hh => hq q (.inl hh), fl_touch h1.fl h2.fl h3 ht fun q hh => hq q (.inr (.inl hh)), ints_touch h1.ints ht fun q hh => hq q (.inr (.inr hh))⟩, ⟨va, ⟨rowW_touch h2.caps ht fun q hh => hq q (.inl hh), flW_touch h2.fl ht fun q hh => hq q (.inr (.inl hh)), rowW_touch h2.ints ht fun q hh => hq q (.inr (.inr hh)), h2.apF, h2.cf, h2.ci, h2.fi⟩, h3, h4, h5⟩, Nat.le_trans h6 ht.size⟩
theorem OwnTo.later {lo up : Nat} {w w' : World} {ac a a' : Option Addr} {capc cap cap' : Nat} {cs : List (ByteArray × Int)} {fs : List Fli} {ss : List Int} (h : OwnTo lo up w ac a a' capc cap cap' cs fs ss) (hb : Below w.heap.size w w') : OwnTo lo up w' ac a a' capc cap cap' cs fs ss :=
  h.touch (S := fun _ => False) (touchS_below hb) (fun _ _ _ h => h)
/-- The row of a book's flights. -/
theorem OwnTo.rowF {lo up : Nat} {w : World} {ac a a' : Option Addr} {capc cap cap' : Nat} {cs : List (ByteArray × Int)} {fs : List Fli} {ss : List Int} (h : OwnTo lo up w ac a a' capc cap cap' cs fs ss) (h0 : 0 < fs.length) :
    ∃ g f, a = some ⟨g, 0, none⟩ ∧ w.rowIs g 32 (cap * 4) f ∧ fs.length ≤ cap ∧ (∀ j, j < fs.length * 4 → (f j).oneCell' = true) ∧ lo ≤ g ∧ g < up := by
  obtain ⟨h1, ⟨va, h2, h3, h4, h5⟩, h6⟩ := h
  rcases h2.fl with h0 | ⟨g, f, e, hr, hn, hf, hw⟩
  · rw [h0] at h3; simp at h3; omega
  have hg := h5 g (.inr (.inl (.inl ⟨by omega, _, e, rfl⟩)))
  refine ⟨g, f, e, hr, by omega, fun j hj => ?_, hg.1, hg.2⟩
  obtain ⟨b, off, e', hlt, c0, c1, c2, av, cv, c3, hv⟩ := h1.fl (j / 4) (by omega)
  rw [e] at e'
  simp at e'
  obtain ⟨rfl, rfl⟩ := e'
  have hc := hr.cell (i := j) (by omega)
  have h4 : j % 4 = 0 ∨ j % 4 = 1 ∨ j % 4 = 2 ∨ j % 4 = 3 := by omega
  rcases h4 with r | r | r | r
  · rw [show 0 + j / 4 * 4 = j by omega, hc] at c0; rw [Option.some.inj c0]; rfl
  · rw [show 0 + j / 4 * 4 + 1 = j by omega, hc] at c1; rw [Option.some.inj c1]; rfl
  · rw [show 0 + j / 4 * 4 + 2 = j by omega, hc] at c2; rw [Option.some.inj c2]; rfl
  · rw [show 0 + j / 4 * 4 + 3 = j by omega, hc] at c3; rw [Option.some.inj c3]; rfl
theorem OwnTo.rowI {lo up : Nat} {w : World} {ac a a' : Option Addr} {capc cap cap' : Nat} {cs : List (ByteArray × Int)} {fs : List Fli} {ss : List Int} (h : OwnTo lo up w ac a a' capc cap cap' cs fs ss) (h0 : 0 < ss.length) :
    ∃ g f, a' = some ⟨g, 0, none⟩ ∧ w.rowIs g 3 (cap' * 1) f ∧ ss.length ≤ cap' ∧ (∀ j, j < ss.length * 1 → (f j).oneCell' = true) ∧ lo ≤ g ∧ g < up := by
  obtain ⟨h1, ⟨va, h2, h3, h4, h5⟩, h6⟩ := h
  rcases h2.ints with h0 | ⟨g, f, e, hr, hn⟩
  · omega
  have hg := h5 g (.inr (.inr ⟨by omega, _, e, rfl⟩))
  refine ⟨g, f, e, hr, by omega, fun j hj => ?_, hg.1, hg.2⟩
  obtain ⟨b, off, e', hlt, c0⟩ := h1.ints j (by omega)
  rw [e] at e'
  simp at e'
  obtain ⟨rfl, rfl⟩ := e'
  rw [Nat.zero_add, hr.cell (i := j) (by omega)] at c0
  rw [Option.some.inj c0]; rfl
theorem row_same {w : World} {g : Nat} {t t' : TypeId} {n : Nat} {f f' : Nat → Value} (h : w.rowIs g t n f) (h' : w.rowIs g t' n f') {j : Nat} (hj : j < n) : f j = f' j := by
  have := h.cell hj
  rw [h'.cell hj] at this
  exact (Option.some.inj this).symm
theorem er_at {α : Type} {l : List α} {i k : Nat} (hi : i < l.length) (hk : k < (l.eraseIdx i).length) : ∃ (h1 : (if k < i then k else k + 1) < l.length), (l.eraseIdx i)[k] = l[if k < i then k else k + 1] := by
  have hl : (l.eraseIdx i).length = l.length - 1 := List.length_eraseIdx_of_lt hi
  refine ⟨by split <;> omega, ?_⟩
  rw [List.getElem_eraseIdx]
  by_cases h : k < i
  · simp [h]
  · simp [h]
theorem inF_er {a : Option Addr} {va : List VisAt} {i q : Nat} (h : InF a (va.eraseIdx i) q) : InF a va q := by
  rcases h with ⟨hn, hh⟩ | ⟨x, hx, hq⟩
  · exact .inl ⟨fun e => hn (by rw [List.length_eq_zero_iff.1 e]; rfl), hh⟩
  · exact .inr ⟨x, List.mem_of_mem_eraseIdx hx, hq⟩
theorem inN_er {a : Option Addr} {ss : List Int} {i q : Nat} (h : InN (ss.eraseIdx i).length a q) : InN ss.length a q :=
  ⟨fun e => h.1 (by rw [List.length_eq_zero_iff.1 e]; rfl), h.2⟩
/-- A flight is struck. -/
theorem OwnTo.strikeF {lo up : Nat} {w w' : World} {ac a a' : Option Addr} {capc cap cap' : Nat} {cs : List (ByteArray × Int)} {fs : List Fli} {ss : List Int} (h : OwnTo lo up w ac a a' capc cap cap' cs fs ss) {i : Nat} (hi : i < fs.length) {g : Nat} {f f' : Nat → Value} (ha : a = some ⟨g, 0, none⟩) (hr : w.rowIs g 32 (cap * 4) f) (hr' : w'.rowIs g 32 (cap * 4) f') (hs : strikeF 4 fs.length i f f') (ht : TouchS (fun k => k = g) w w') :
    OwnTo lo up w' ac a a' capc cap cap' cs (fs.eraseIdx i) ss := by
  obtain ⟨h1, ⟨va, h2, h3, h4, h5⟩, h6⟩ := h
  subst ha
  have hin : InF (some ⟨g, 0, none⟩) va g := .inl ⟨by omega, _, rfl, rfl⟩
  have hC : ∀ q, InN cs.length ac q → ¬ q = g := fun q hq e => h2.cf q hq (by rw [e]; exact hin)
  have hI : ∀ q, InN ss.length a' q → ¬ q = g := fun q hq e => h2.fi g hin (by rw [← e]; exact hq)
  have hV : ∀ x ∈ va, ∀ q, InN x.2.1 x.1 q → ¬ q = g := fun x hx q hq e => h2.apF.1 x hx g ⟨_, rfl, rfl⟩ (by rw [← e]; exact hq)
  have hl : (fs.eraseIdx i).length = fs.length - 1 := List.length_eraseIdx_of_lt hi
  have hl' : (va.eraseIdx i).length = va.length - 1 := List.length_eraseIdx_of_lt (by omega)
  rcases h2.fl with h0 | ⟨g2, f2, e2, hr2, hn2, hf2, hw2⟩
  · rw [h0] at h3; simp at h3; omega
  simp at e2
  subst e2
  refine ⟨⟨caps_touch h1.caps ht hC, fun k hk => ?_, ints_touch h1.ints ht hI⟩, ⟨va.eraseIdx i, ⟨rowW_touch h2.caps ht hC, .inr ⟨g, f', rfl, hr', by omega, fun j hj => ?_, fun x hx => rowW_touch (hw2 x (List.mem_of_mem_eraseIdx hx)) ht (hV x (List.mem_of_mem_eraseIdx hx))⟩, rowW_touch h2.ints ht hI, ⟨fun x hx => h2.apF.1 x (List.mem_of_mem_eraseIdx hx), h2.apF.2.sublist (List.eraseIdx_sublist _ _)⟩, fun q hq hh => h2.cf q hq (inF_er hh), h2.ci, fun q hq => h2.fi q (inF_er hq)⟩, by omega, fun k k1 k2 => ?_, fun q hq => ?_⟩, Nat.le_trans h6 ht.size⟩
  · obtain ⟨k1, ek⟩ := er_at hi hk
    rw [ek]
    have hc : ∀ r, r < 4 → w'.cell? ⟨g, 0 + k * 4 + r, none⟩ = w.cell? ⟨g, 0 + (if k < i then k else k + 1) * 4 + r, none⟩ := fun r hrr => by
      rw [Nat.zero_add, Nat.zero_add, hr'.cell (by omega), strike_at hs hrr (by omega)]
      split
      · rw [hr.cell (by omega)]
      · rw [hr.cell (by omega)]
    obtain ⟨b, off, e', hlt, c0, c1, c2, av, cv, c3, hv⟩ := h1.fl _ k1
    simp at e'
    obtain ⟨rfl, rfl⟩ := e'
    have c3' := c3
    rw [Nat.zero_add, hr2.cell (by omega), hf2 _ (by omega)] at c3'
    simp only [Option.some.injEq, Value.slice.injEq] at c3'
    obtain ⟨e1, e3, _⟩ := c3'
    refine ⟨g, 0, rfl, Nat.lt_of_lt_of_le hlt ht.size, (hc 0 (by omega)).trans c0, (hc 1 (by omega)).trans c1, (hc 2 (by omega)).trans c2, av, cv, (hc 3 (by omega)).trans c3, vis_touchS hv ht fun q hq => hV _ (List.getElem_mem (show (if k < i then k else k + 1) < va.length by omega)) q ?_⟩
    rw [e1, e3]
    exact hq
  · obtain ⟨j1, ej⟩ := er_at (show i < va.length by omega) hj
    rw [ej, strike_at hs (show 3 < 4 by omega) (by omega)]
    rw [← hf2 _ j1]
    split
    · rw [row_same hr hr2 (by omega)]
    · rw [row_same hr hr2 (by omega)]
  · obtain ⟨q1, e1⟩ := er_at (show i < va.length by omega) k1
    obtain ⟨q2, e2⟩ := er_at hi k2
    rw [e1, e2]
    exact h4 _ q1 q2
  · have := h5 q (hq.elim .inl fun hh => .inr (hh.elim (fun hf => .inl (inF_er hf)) .inr))
    exact this
/-- A slot is struck. -/
theorem OwnTo.strikeI {lo up : Nat} {w w' : World} {ac a a' : Option Addr} {capc cap cap' : Nat} {cs : List (ByteArray × Int)} {fs : List Fli} {ss : List Int} (h : OwnTo lo up w ac a a' capc cap cap' cs fs ss) {i : Nat} (hi : i < ss.length) {g : Nat} {f f' : Nat → Value} (ha : a' = some ⟨g, 0, none⟩) (hr : w.rowIs g 3 (cap' * 1) f) (hn : ss.length ≤ cap') (hr' : w'.rowIs g 3 (cap' * 1) f') (hs : Go.Proofs.YtciacofibljmoaaGreatDoor.strikeF 1 ss.length i f f') (ht : TouchS (fun k => k = g) w w') :
    OwnTo lo up w' ac a a' capc cap cap' cs fs (ss.eraseIdx i) := by
  obtain ⟨h1, ⟨va, h2, h3, h4, h5⟩, h6⟩ := h
  subst ha
  have hin : InN ss.length (some ⟨g, 0, none⟩) g := ⟨by omega, _, rfl, rfl⟩
  have hC : ∀ q, InN cs.length ac q → ¬ q = g := fun q hq e => h2.ci q hq (by rw [e]; exact hin)
  have hF : ∀ q, InF a va q → ¬ q = g := fun q hq e => h2.fi q hq (by rw [e]; exact hin)
  have hl : (ss.eraseIdx i).length = ss.length - 1 := List.length_eraseIdx_of_lt hi
  refine ⟨⟨caps_touch h1.caps ht hC, fl_touch h1.fl h2.fl h3 ht hF, fun k hk => ?_⟩, ⟨va, ⟨rowW_touch h2.caps ht hC, flW_touch h2.fl ht hF, .inr ⟨g, f', rfl, hr', by omega⟩, h2.apF, h2.cf, fun q hq hh => h2.ci q hq (inN_er hh), fun q hq hh => h2.fi q hq (inN_er hh)⟩, h3, h4, fun q hq => ?_⟩, Nat.le_trans h6 ht.size⟩
  · obtain ⟨k1, ek⟩ := er_at hi hk
    rw [ek]
    obtain ⟨b, off, e', hlt, c0⟩ := h1.ints _ k1
    simp at e'
    obtain ⟨rfl, rfl⟩ := e'
    refine ⟨g, 0, rfl, Nat.lt_of_lt_of_le hlt ht.size, ?_⟩
    have hk' := strike_at hs (show 0 < 1 by omega) (show k < ss.length - 1 by omega)
    rw [Nat.mul_one, Nat.mul_one, Nat.add_zero, Nat.add_zero] at hk'
    rw [← c0, Nat.zero_add, Nat.zero_add, hr'.cell (by omega), hk', hr.cell (by omega)]
    split <;> rfl
  · have := h5 q (hq.elim .inl fun hh => .inr (hh.elim .inl fun hf => .inr (inN_er hf)))
    exact this
end Go.Proofs.YtciacofibljmoaaGreatDoor
