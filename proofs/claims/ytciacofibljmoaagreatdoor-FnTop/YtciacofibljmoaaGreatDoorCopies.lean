/- Copies of slices, the library's way, walked: caps, flights, visits, slots. -/
import Derived.Test.YtciacofibljmoaaGreatDoorImplLeast
import Derived.Test.YtciacofibljmoaaGreatDoorDraws
import Derived.Laws.AppendOwnNone
import Derived.Test.YtciacofibljmoaaGreatDoorBookMarks
import Derived.Test.YtciacofibljmoaaGreatDoorBook
import Derived.Test.YtciacofibljmoaaGreatDoorMathsC
namespace Go.Proofs.YtciacofibljmoaaGreatDoor
open Go.RowKit

theorem flVals_len (gs : List FlV) : (flVals gs).length = gs.length * 4 := by
  induction gs with
  | nil => rfl
  | cons r l ih => simp only [flVals, List.flatMap_cons, List.length_append, List.length_cons, List.length_nil] at *; omega
theorem flVals_one (gs : List FlV) : ∀ u ∈ flVals gs, u.oneCell' = true := fun u hu => by
  unfold flVals at hu
  obtain ⟨v, _, hv⟩ := List.mem_flatMap.1 hu
  simp at hv
  rcases hv with rfl | rfl | rfl | rfl <;> rfl
/-- Flights that come in, each with where its visits lie. -/
theorem fl_open {w : World} {a : Option Addr} {fs : List Fli} (h : FlightsIn w a fs) : ∃ gs : List FlV, gs.map Prod.fst = fs ∧ (∀ x ∈ gs, VisitsIn w x.2.1 x.1.2.2.2) ∧ (∀ ad, a = some ad → ∀ j u, (flVals gs)[j]? = some u → w.cell? (ad.add j) = some u) := by
  have each : ∀ i, i < fs.length → ∃ x : FlV, fs[i]? = some x.1 ∧ VisitsIn w x.2.1 x.1.2.2.2 ∧ ∃ b off, a = some ⟨b, off, none⟩ ∧ w.cell? ⟨b, off + i * 4, none⟩ = some (.string x.1.1) ∧ w.cell? ⟨b, off + i * 4 + 1, none⟩ = some (.int .i64 x.1.2.1) ∧ w.cell? ⟨b, off + i * 4 + 2, none⟩ = some (.int .i64 x.1.2.2.1) ∧ w.cell? ⟨b, off + i * 4 + 3, none⟩ = some (.slice x.2.1 x.1.2.2.2.length x.2.2) := fun i hi => by
    obtain ⟨b, off, e, hlt, c0, c1, c2, av, cv, c3, hv⟩ := h i hi
    exact ⟨(fs[i], av, cv), by simp [hi], hv, b, off, e, c0, c1, c2, c3⟩
  obtain ⟨f, hf⟩ := Deep.choose_lt each
  have hm : ((List.range fs.length).map f).map Prod.fst = fs := by
    apply List.ext_getElem?
    intro i
    by_cases hi : i < fs.length
    · obtain ⟨e, _⟩ := hf i hi
      rw [e]
      simp [hi]
    · rw [List.getElem?_eq_none (by simp; omega), List.getElem?_eq_none (by omega)]
  refine ⟨(List.range fs.length).map f, hm, fun x hx => ?_, fun ad he j u hj => ?_⟩
  · obtain ⟨i, hi, rfl⟩ := List.mem_map.1 hx
    exact (hf i (List.mem_range.1 hi)).2.1
  · have hlt : j < (flVals ((List.range fs.length).map f)).length := by
      rcases Nat.lt_or_ge j (flVals ((List.range fs.length).map f)).length with hh | hh
      · exact hh
      · rw [List.getElem?_eq_none hh] at hj; simp at hj
    rw [flVals_len, List.length_map, List.length_range] at hlt
    have hi : j / 4 < fs.length := by omega
    obtain ⟨_, _, b, off, e, c0, c1, c2, c3⟩ := hf (j / 4) hi
    rw [he] at e
    simp at e
    subst e
    obtain ⟨q0, q1, q2, q3⟩ := flVals_at ((List.range fs.length).map f) (j / 4) (by simpa using hi)
    simp only [List.getElem_map, List.getElem_range] at q0 q1 q2 q3
    rw [plain_add']
    have h4 : j % 4 = 0 ∨ j % 4 = 1 ∨ j % 4 = 2 ∨ j % 4 = 3 := by omega
    rcases h4 with r | r | r | r
    · have ej : j = j / 4 * 4 := by omega
      rw [ej, q0] at hj
      rw [← hj, ← c0]
      exact congrArg (fun x => w.cell? ⟨b, off + x, none⟩) ej
    · have ej : j = j / 4 * 4 + 1 := by omega
      rw [ej, q1] at hj
      rw [← hj, ← c1]
      exact congrArg (fun x => w.cell? ⟨b, x, none⟩) (by omega)
    · have ej : j = j / 4 * 4 + 2 := by omega
      rw [ej, q2] at hj
      rw [← hj, ← c2]
      exact congrArg (fun x => w.cell? ⟨b, x, none⟩) (by omega)
    · have ej : j = j / 4 * 4 + 3 := by omega
      rw [ej, q3] at hj
      rw [← hj, ← c3]
      exact congrArg (fun x => w.cell? ⟨b, x, none⟩) (by omega)
theorem own_none {w : World} {base : Nat} {e : TypeId} {size : Nat} : w.ownsRow base e size (.slice none 0 0) 0 [] := ⟨by simp, .inl ⟨rfl, rfl⟩⟩
theorem own_newE (w : World) (e : TypeId) (size : Nat) : World.ownsRow (w.alloc (.cells #[] e)) w.heap.size e size (.slice (some ⟨w.heap.size, 0, none⟩) 0 0) 0 [] := World.ownsRow_made w #[] 0 (Nat.le_refl _) (Nat.zero_le _) (by simp)

set_option maxRecDepth 100000 in
set_option maxHeartbeats 1600000 in
theorem cloneC_all (a : Option Addr) (n cap : Nat) (news : List Value) (w : World) (hl : news.length = n * 2) (hn : ∀ ad, a = some ad → ∀ j u, news[j]? = some u → w.cell? (ad.add j) = some u) (h0 : a = none → n = 0) (hb : ∀ ad, a = some ad → 0 < n → ad.block < w.heap.size) (h1 : ∀ u ∈ news, u.oneCell' = true) (hm : n ≤ 1048576) :
    Calls Tryz.prog 79 #[.slice a n cap] w fun e w' => ∃ v, e = .returned v ∧ World.ownsRow w' w.heap.size 61 2 v n news ∧ Below w.heap.size w w' := by
  obtain ⟨i0, hi, iz0, iz1, iz2⟩ := info_parts info_cap
  have q22 : ∀ (w : World) (a : Option Addr) (n c n' c' : Nat), (binOp .eql 23 (.slice a n c) (.slice none n' c')).run Tryz.prog w = .ok (.bool a.isNone) w := fun w a n c n' c' => Lib.run_eql_slice_nil w _ _ a n c n' c' Tryz.underlying23
  cases a with
  | none =>
    obtain rfl := h0 rfl
    obtain rfl : news = [] := List.length_eq_zero_iff.1 (by simpa using hl)
    clear hn h0 hb h1
    go_enter Tryz.func79, Tryz.ntmps79
    go_wp2
    go_ret
    exact ⟨_, rfl, own_none, Below.refl _ _⟩
  | some ad =>
    have Bz := hide ((Below.refl w.heap.size w).alloc (Nat.le_refl _) (.cells #[] 61))
    have HN : Hid (∀ j u, news[j]? = some u → (w.alloc (.cells #[] 61)).cell? (ad.add j) = some u) := fun j u hj => cell_later Bz.out (hn ad rfl j u hj)
    have HL := hide hl
    have H1 := hide h1
    clear hn h0 hb h1 hl
    go_enter Tryz.func79, Tryz.ntmps79
    go_wp2_with (first
      | (at_builtin; refine wpList_append_own _ rfl _ _ 23 rfl w.heap.size 61 i0 (.agg #[.string ⟨#[]⟩, .int .i64 0]) 2 24 Tryz.underlying23 hi iz0 iz1 iz2 rfl (by decide) _ 0 [] rfl (own_newE w 61 2) ad n cap news rfl HL.out HN.out H1.out (by unfold maxLen; omega) (by omega) (by simp) ?_; intro v' X hownE hgrowE hnilE; have OX := hide hownE; have GX := hide hgrowE; clear hownE hgrowE hnilE))
    go_ret
    refine ⟨v', rfl, ?_, below_grow (a := w) (w := w) (Nat.le_refl _) GX.out (fun q hq => by have he2 : some w.heap.size = some q := hq; simp at he2; omega)⟩
    simpa using OX.out

set_option maxRecDepth 100000 in
set_option maxHeartbeats 1600000 in
theorem cloneI_all (a : Option Addr) (n cap : Nat) (news : List Value) (w : World) (hl : news.length = n * 1) (hn : ∀ ad, a = some ad → ∀ j u, news[j]? = some u → w.cell? (ad.add j) = some u) (h0 : a = none → n = 0) (hb : ∀ ad, a = some ad → 0 < n → ad.block < w.heap.size) (h1 : ∀ u ∈ news, u.oneCell' = true) (hm : n ≤ 1048576) :
    Calls Tryz.prog 47 #[.slice a n cap] w fun e w' => ∃ v, e = .returned v ∧ World.ownsRow w' w.heap.size 3 1 v n news ∧ Below w.heap.size w w' := by
  obtain ⟨i0, hi, iz0, iz1, iz2⟩ := info_parts info_int
  have q22 : ∀ (w : World) (a : Option Addr) (n c n' c' : Nat), (binOp .eql 27 (.slice a n c) (.slice none n' c')).run Tryz.prog w = .ok (.bool a.isNone) w := fun w a n c n' c' => Lib.run_eql_slice_nil w _ _ a n c n' c' Tryz.underlying27
  cases a with
  | none =>
    obtain rfl := h0 rfl
    obtain rfl : news = [] := List.length_eq_zero_iff.1 (by simpa using hl)
    clear hn h0 hb h1
    go_enter Tryz.func47, Tryz.ntmps47
    go_wp2
    go_ret
    exact ⟨_, rfl, own_none, Below.refl _ _⟩
  | some ad =>
    have Bz := hide ((Below.refl w.heap.size w).alloc (Nat.le_refl _) (.cells #[] 3))
    have HN : Hid (∀ j u, news[j]? = some u → (w.alloc (.cells #[] 3)).cell? (ad.add j) = some u) := fun j u hj => cell_later Bz.out (hn ad rfl j u hj)
    have HL := hide hl
    have H1 := hide h1
    clear hn h0 hb h1 hl
    go_enter Tryz.func47, Tryz.ntmps47
    go_wp2_with (first
      | (at_builtin; refine wpList_append_own _ rfl _ _ 27 rfl w.heap.size 3 i0 (.int .i64 0) 1 8 Tryz.underlying27 hi iz0 iz1 iz2 rfl (by decide) _ 0 [] rfl (own_newE w 3 1) ad n cap news rfl HL.out HN.out H1.out (by unfold maxLen; omega) (by omega) (by simp) ?_; intro v' X hownE hgrowE hnilE; have OX := hide hownE; have GX := hide hgrowE; clear hownE hgrowE hnilE))
    go_ret
    refine ⟨v', rfl, ?_, below_grow (a := w) (w := w) (Nat.le_refl _) GX.out (fun q hq => by have he2 : some w.heap.size = some q := hq; simp at he2; omega)⟩
    simpa using OX.out

set_option maxRecDepth 100000 in
set_option maxHeartbeats 1600000 in
theorem cloneV_all (a : Option Addr) (n cap : Nat) (news : List Value) (w : World) (hl : news.length = n * 3) (hn : ∀ ad, a = some ad → ∀ j u, news[j]? = some u → w.cell? (ad.add j) = some u) (h0 : a = none → n = 0) (hb : ∀ ad, a = some ad → 0 < n → ad.block < w.heap.size) (h1 : ∀ u ∈ news, u.oneCell' = true) (hm : n ≤ 1048576) :
    Calls Tryz.prog 89 #[.slice a n cap] w fun e w' => ∃ v, e = .returned v ∧ World.ownsRow w' w.heap.size 76 3 v n news ∧ Below w.heap.size w w' := by
  obtain ⟨i0, hi, iz0, iz1, iz2⟩ := info_parts info_visit
  have q22 : ∀ (w : World) (a : Option Addr) (n c n' c' : Nat), (binOp .eql 30 (.slice a n c) (.slice none n' c')).run Tryz.prog w = .ok (.bool a.isNone) w := fun w a n c n' c' => Lib.run_eql_slice_nil w _ _ a n c n' c' Tryz.underlying30
  cases a with
  | none =>
    obtain rfl := h0 rfl
    obtain rfl : news = [] := List.length_eq_zero_iff.1 (by simpa using hl)
    clear hn h0 hb h1
    go_enter Tryz.func89, Tryz.ntmps89
    go_wp2
    go_ret
    exact ⟨_, rfl, own_none, Below.refl _ _⟩
  | some ad =>
    have Bz := hide ((Below.refl w.heap.size w).alloc (Nat.le_refl _) (.cells #[] 76))
    have HN : Hid (∀ j u, news[j]? = some u → (w.alloc (.cells #[] 76)).cell? (ad.add j) = some u) := fun j u hj => cell_later Bz.out (hn ad rfl j u hj)
    have HL := hide hl
    have H1 := hide h1
    clear hn h0 hb h1 hl
    go_enter Tryz.func89, Tryz.ntmps89
    go_wp2_with (first
      | (at_builtin; refine wpList_append_own _ rfl _ _ 30 rfl w.heap.size 76 i0 (.agg #[.string ⟨#[]⟩, .int .i64 0, .int .i64 0]) 3 32 Tryz.underlying30 hi iz0 iz1 iz2 rfl (by decide) _ 0 [] rfl (own_newE w 76 3) ad n cap news rfl HL.out HN.out H1.out (by unfold maxLen; omega) (by omega) (by simp) ?_; intro v' X hownE hgrowE hnilE; have OX := hide hownE; have GX := hide hgrowE; clear hownE hgrowE hnilE))
    go_ret
    refine ⟨v', rfl, ?_, below_grow (a := w) (w := w) (Nat.le_refl _) GX.out (fun q hq => by have he2 : some w.heap.size = some q := hq; simp at he2; omega)⟩
    simpa using OX.out

set_option maxRecDepth 100000 in
set_option maxHeartbeats 1600000 in
theorem cloneF_all (a : Option Addr) (n cap : Nat) (news : List Value) (w : World) (hl : news.length = n * 4) (hn : ∀ ad, a = some ad → ∀ j u, news[j]? = some u → w.cell? (ad.add j) = some u) (h0 : a = none → n = 0) (hb : ∀ ad, a = some ad → 0 < n → ad.block < w.heap.size) (h1 : ∀ u ∈ news, u.oneCell' = true) (hm : n ≤ 1048576) :
    Calls Tryz.prog 77 #[.slice a n cap] w fun e w' => ∃ v, e = .returned v ∧ World.ownsRow w' w.heap.size 32 4 v n news ∧ Below w.heap.size w w' := by
  obtain ⟨i0, hi, iz0, iz1, iz2⟩ := info_parts info_flight
  have q22 : ∀ (w : World) (a : Option Addr) (n c n' c' : Nat), (binOp .eql 24 (.slice a n c) (.slice none n' c')).run Tryz.prog w = .ok (.bool a.isNone) w := fun w a n c n' c' => Lib.run_eql_slice_nil w _ _ a n c n' c' Tryz.underlying24
  cases a with
  | none =>
    obtain rfl := h0 rfl
    obtain rfl : news = [] := List.length_eq_zero_iff.1 (by simpa using hl)
    clear hn h0 hb h1
    go_enter Tryz.func77, Tryz.ntmps77
    go_wp2
    go_ret
    exact ⟨_, rfl, own_none, Below.refl _ _⟩
  | some ad =>
    have Bz := hide ((Below.refl w.heap.size w).alloc (Nat.le_refl _) (.cells #[] 32))
    have HN : Hid (∀ j u, news[j]? = some u → (w.alloc (.cells #[] 32)).cell? (ad.add j) = some u) := fun j u hj => cell_later Bz.out (hn ad rfl j u hj)
    have HL := hide hl
    have H1 := hide h1
    clear hn h0 hb h1 hl
    go_enter Tryz.func77, Tryz.ntmps77
    go_wp2_with (first
      | (at_builtin; refine wpList_append_own _ rfl _ _ 24 rfl w.heap.size 32 i0 (.agg #[.string ⟨#[]⟩, .int .i64 0, .int .i64 0, .slice none 0 0]) 4 56 Tryz.underlying24 hi iz0 iz1 iz2 rfl (by decide) _ 0 [] rfl (own_newE w 32 4) ad n cap news rfl HL.out HN.out H1.out (by unfold maxLen; omega) (by omega) (by simp) ?_; intro v' X hownE hgrowE hnilE; have OX := hide hownE; have GX := hide hgrowE; clear hownE hgrowE hnilE))
    go_ret
    refine ⟨v', rfl, ?_, below_grow (a := w) (w := w) (Nat.le_refl _) GX.out (fun q hq => by have he2 : some w.heap.size = some q := hq; simp at he2; omega)⟩
    simpa using OX.out

theorem addr_of {n : Nat} {a : Option Addr} (h : ∀ i, i < n → ∃ b off, a = some ⟨b, off, none⟩) : a = none → n = 0 := fun e => by
  rcases Nat.eq_zero_or_pos n with h0 | h0
  · exact h0
  · obtain ⟨b, off, e'⟩ := h 0 h0
    rw [e] at e'
    cases e'
theorem cloneI_any (a : Option Addr) (cap : Nat) (zs : List Int) (w : World) (hc : IntsIn w a zs) (hl : zs.length ≤ 1048576) :
    Calls Tryz.prog 47 #[.slice a zs.length cap] w fun e w' => ∃ v, e = .returned v ∧ OwnI w' w.heap.size v zs ∧ Below w.heap.size w w' := by
  refine cloneI_all a zs.length cap (intVals zs) w (intVals_len zs) (fun ad e j u hj => ?_) (addr_of fun i hi => (hc i hi).elim fun b hb => hb.elim fun off h => ⟨b, off, h.1⟩) (fun ad e h0 => ?_) (intVals_one zs) hl
  · have h1 : 1 ≤ zs.length := by
      rcases Nat.eq_zero_or_pos zs.length with h0 | h0
      · rw [List.length_eq_zero_iff.1 h0] at hj; simp [intVals] at hj
      · exact h0
    obtain ⟨b, off, e', _, hn⟩ := ints_news hc h1
    rw [e] at e'
    cases e'
    exact hn j u hj
  · obtain ⟨b, off, e', hlt, _⟩ := hc 0 h0
    rw [e] at e'
    cases e'
    exact hlt
theorem cloneC_any (a : Option Addr) (cap : Nat) (cs : List (ByteArray × Int)) (w : World) (hc : CapsIn w a cs) (hl : cs.length ≤ 1048576) :
    Calls Tryz.prog 79 #[.slice a cs.length cap] w fun e w' => ∃ v, e = .returned v ∧ OwnC w' w.heap.size v cs ∧ Below w.heap.size w w' := by
  refine cloneC_all a cs.length cap (capVals cs) w (capVals_len cs) (fun ad e j u hj => ?_) (addr_of fun i hi => (hc i hi).elim fun b hb => hb.elim fun off h => ⟨b, off, h.1⟩) (fun ad e h0 => ?_) (capVals_one cs) hl
  · have h1 : 1 ≤ cs.length := by
      rcases Nat.eq_zero_or_pos cs.length with h0 | h0
      · rw [List.length_eq_zero_iff.1 h0] at hj; simp [capVals] at hj
      · exact h0
    obtain ⟨b, off, e', hn⟩ := caps_news hc h1
    rw [e] at e'
    cases e'
    exact hn j u hj
  · obtain ⟨b, off, e', hlt, _⟩ := hc 0 h0
    rw [e] at e'
    cases e'
    exact hlt
theorem cloneV_any (a : Option Addr) (cap : Nat) (vs : List Vis) (w : World) (hc : VisitsIn w a vs) (hl : vs.length ≤ 1048576) :
    Calls Tryz.prog 89 #[.slice a vs.length cap] w fun e w' => ∃ v, e = .returned v ∧ OwnV w' w.heap.size v vs ∧ Below w.heap.size w w' := by
  refine cloneV_all a vs.length cap (visVals vs) w (visVals_len vs) (fun ad e j u hj => ?_) (addr_of fun i hi => (hc i hi).elim fun b hb => hb.elim fun off h => ⟨b, off, h.1⟩) (fun ad e h0 => ?_) (visVals_one vs) hl
  · have h1 : 1 ≤ vs.length := by
      rcases Nat.eq_zero_or_pos vs.length with h0 | h0
      · rw [List.length_eq_zero_iff.1 h0] at hj; simp [visVals] at hj
      · exact h0
    obtain ⟨b, off, e', hn⟩ := vis_news hc h1
    rw [e] at e'
    cases e'
    exact hn j u hj
  · obtain ⟨b, off, e', hlt, _⟩ := hc 0 h0
    rw [e] at e'
    cases e'
    exact hlt
theorem cloneF_any (a : Option Addr) (cap : Nat) (fs : List Fli) (w : World) (hc : FlightsIn w a fs) (hl : fs.length ≤ 1048576) :
    Calls Tryz.prog 77 #[.slice a fs.length cap] w fun e w' => ∃ v gs, e = .returned v ∧ gs.map Prod.fst = fs ∧ (∀ x ∈ gs, VisitsIn w x.2.1 x.1.2.2.2) ∧ World.ownsRow w' w.heap.size 32 4 v gs.length (flVals gs) ∧ Below w.heap.size w w' := by
  obtain ⟨gs, h1, h2, h3⟩ := fl_open hc
  have hlen : gs.length = fs.length := by rw [← h1, List.length_map]
  rw [← hlen]
  rw [← hlen] at hl
  refine (cloneF_all a gs.length cap (flVals gs) w (flVals_len gs) h3 (addr_of fun i hi => (hc i (by omega)).elim fun b hb => hb.elim fun off h => ⟨b, off, h.1⟩) (fun ad e h0 => ?_) (flVals_one gs) hl).mono fun e w' ⟨v, e1, e2, e3⟩ => ⟨v, gs, e1, h1, h2, e2, e3⟩
  obtain ⟨b, off, e', hlt, _⟩ := hc 0 (by omega)
  rw [e] at e'
  cases e'
  exact hlt

end Go.Proofs.YtciacofibljmoaaGreatDoor

/- A book copied, the program's way: each slice in memory of its own. -/
namespace Go.Proofs.YtciacofibljmoaaGreatDoor
open Go.RowKit

/-- A box that holds a book. -/
def BkAt (w : World) (F : Nat) (v0 v1 v2 : Value) : Prop := ∃ f, w.rowIs F 29 3 f ∧ f 0 = v0 ∧ f 1 = v1 ∧ f 2 = v2
theorem BkAt.cells {w : World} {F : Nat} {v0 v1 v2 : Value} (h : BkAt w F v0 v1 v2) :
    w.cell? ⟨F, 0, none⟩ = some v0 ∧ w.cell? ⟨F, 1, none⟩ = some v1 ∧ w.cell? ⟨F, 2, none⟩ = some v2 ∧ w.frozen? ⟨F, 0, none⟩ = false ∧ w.frozen? ⟨F, 1, none⟩ = false ∧ w.frozen? ⟨F, 2, none⟩ = false := by
  obtain ⟨f, h0, h1, h2, h3⟩ := h
  exact ⟨h1 ▸ h0.cell (by omega), h2 ▸ h0.cell (by omega), h3 ▸ h0.cell (by omega), h0.frozen _, h0.frozen _, h0.frozen _⟩
theorem BkAt.keep {w w' : World} {F : Nat} {v0 v1 v2 : Value} (h : BkAt w F v0 v1 v2) (hk : w'.heap[F]? = w.heap[F]?) : BkAt w' F v0 v1 v2 := by
  obtain ⟨f, h0, h1⟩ := h
  exact ⟨f, h0.of_block hk, h1⟩
theorem BkAt.lt {w : World} {F : Nat} {v0 v1 v2 : Value} (h : BkAt w F v0 v1 v2) : F < w.heap.size := by
  obtain ⟨f, h0, h1⟩ := h
  exact h0.lt
theorem BkAt.later {w w' : World} {F : Nat} {v0 v1 v2 : Value} (h : BkAt w F v0 v1 v2) (hb : Below w.heap.size w w') : BkAt w' F v0 v1 v2 := h.keep (hb.block F h.lt)
theorem BkAt.touchS {S : Nat → Prop} {w w' : World} {F : Nat} {v0 v1 v2 : Value} (h : BkAt w F v0 v1 v2) (ht : TouchS S w w') (ho : ¬ S F) : BkAt w' F v0 v1 v2 := h.keep (ht.block F h.lt ho)
theorem BkAt.newAt (w : World) (B : Nat) (hB : w.heap.size = B) (v0 v1 v2 : Value) : BkAt (w.alloc (.cells #[v0, v1, v2] 29)) B v0 v1 v2 := by
  subst hB
  exact ⟨fun i => (#[v0, v1, v2] : Array Value).getD i undef, World.rowIs_alloc w _ _ _ (fun i hi => by simp at hi; match i, hi with | 0, _ => rfl | 1, _ => rfl | 2, _ => rfl), rfl, rfl, rfl⟩
theorem BkAt.set3 {w : World} {F : Nat} {v0 v1 v2 : Value} (h : BkAt w F v0 v1 v2) (u0 u1 u2 : Value) : BkAt (((w.setCell ⟨F, 0, none⟩ u0).setCell ⟨F, 1, none⟩ u1).setCell ⟨F, 2, none⟩ u2) F u0 u1 u2 := by
  obtain ⟨f, h0, h1, h2, h3⟩ := h
  exact ⟨_, ((h0.set 0 _).set 1 _).set 2 _, by simp, by simp, by simp⟩
/-- The param's box and the result's, of a function from book to book. -/
theorem bk_boxes (w : World) (v0 v1 v2 : Value) : ∃ W, (w.alloc (.cells #[v0, v1, v2] 29)).alloc (.cells #[.slice none 0 0, .slice none 0 0, .slice none 0 0] 29) = W ∧ W.heap.size = w.heap.size + 2 ∧
    BkAt W w.heap.size v0 v1 v2 ∧ BkAt W (w.heap.size + 1) (.slice none 0 0) (.slice none 0 0) (.slice none 0 0) ∧ Below w.heap.size w W := by
  refine ⟨_, rfl, by simp, (BkAt.newAt w _ rfl v0 v1 v2).later ((Below.refl _ _).alloc (Nat.le_refl _) _), BkAt.newAt _ _ (by simp) _ _ _, ((Below.refl _ _).alloc (Nat.le_refl _) _).alloc (by simp) _⟩
theorem touch1_set {F : Nat} {a w : World} (h : TouchS (fun k => k = F) a w) (i : Nat) (u : Value) : TouchS (fun k => k = F) a (w.setCell ⟨F, i, none⟩ u) := touchS_set h (p := ⟨F, i, none⟩) rfl u
theorem set3_touch (w : World) (F : Nat) (u0 u1 u2 : Value) : TouchS (fun k => k = F) w (((w.setCell ⟨F, 0, none⟩ u0).setCell ⟨F, 1, none⟩ u1).setCell ⟨F, 2, none⟩ u2) :=
  touch1_set (touch1_set (touch1_set (touchS_refl _ _) 0 u0) 1 u1) 2 u2
theorem set4_touch (w : World) (F i : Nat) (u0 u1 u2 u3 : Value) : TouchS (fun k => k = F) w ((((w.setCell ⟨F, i, none⟩ u0).setCell ⟨F, i + 1, none⟩ u1).setCell ⟨F, i + 2, none⟩ u2).setCell ⟨F, i + 3, none⟩ u3) :=
  touch1_set (touch1_set (touch1_set (touch1_set (touchS_refl _ _) i u0) (i + 1) u1) (i + 2) u2) (i + 3) u3
theorem below_ofS {S : Nat → Prop} {B : Nat} {w w' : World} (h : TouchS S w w') (hB : B ≤ w.heap.size) (hs : ∀ k, S k → B ≤ k) : Below B w w' :=
  ⟨h.os, h.tape, h.output, h.size, fun k hk => h.block k (Nat.lt_of_lt_of_le hk hB) fun hh => by have := hs k hh; omega⟩

theorem rowW_of_owns {w : World} {base : Nat} {t : TypeId} {sz : Nat} {a : Option Addr} {n c : Nat} {xs : List Value} (h : w.ownsRow base t sz (.slice a n c) n xs) : RowW w t sz a n c := by
  rcases h.2 with ⟨h0, _⟩ | ⟨g, cap, cur, e, hg, hh, h1, h2, h3, _⟩
  · simp at h0
    exact .inl h0.2.1
  · simp at e
    obtain ⟨rfl, rfl⟩ := e
    exact .inr ⟨g, fun i => cur.getD i undef, rfl, ⟨cur, hh, h3, fun i hi => by simp [hi, h3]⟩, h1⟩
theorem owns_in {w : World} {base : Nat} {t : TypeId} {sz : Nat} {a : Option Addr} {n c : Nat} {xs : List Value} (h : w.ownsRow base t sz (.slice a n c) n xs) {k : Nat} (hk : InA a k) : base ≤ k ∧ k < w.heap.size := by
  obtain ⟨p, rfl, rfl⟩ := hk
  obtain ⟨a', cap', e, _, _, h4, _⟩ := owns_slice h
  simp at e
  obtain ⟨e1, _⟩ := e
  exact ⟨(h4 p e1.symm).2.1, (h4 p e1.symm).2.2⟩

set_option maxRecDepth 100000 in
set_option maxHeartbeats 1600000 in
theorem copyFlight_any (nm : ByteArray) (p l : Int) (vs : List Vis) (av : Option Addr) (cv : Nat) (w : World) (hv : VisitsIn w av vs) (hl : vs.length ≤ 1048576) :
    Calls Tryz.prog 78 #[.agg #[.string nm, .int .i64 p, .int .i64 l, .slice av vs.length cv]] w fun e w' =>
      ∃ a2 c2, e = .returned (.agg #[.string nm, .int .i64 p, .int .i64 l, .slice a2 vs.length c2]) ∧ OwnV w' w.heap.size (.slice a2 vs.length c2) vs ∧ Below w.heap.size w w' := by
  have HV := hide hv
  clear hv
  obtain ⟨W, hW, hWs, F0, R0, B0⟩ : ∃ W, (w.alloc (.cells #[.string nm, .int .i64 p, .int .i64 l, .slice av vs.length cv] 32)).alloc (.cells #[.string ⟨#[]⟩, .int .i64 0, .int .i64 0, .slice none 0 0] 32) = W ∧ W.heap.size = w.heap.size + 2 ∧ Hid (FlAt W w.heap.size nm p l (.slice av vs.length cv)) ∧ Hid (FlAt W (w.heap.size + 1) ⟨#[]⟩ 0 0 (.slice none 0 0)) ∧ Hid (Below w.heap.size w W) :=
    ⟨_, rfl, by simp, (FlAt.new w nm p l (.slice av vs.length cv)).later ((Below.refl _ _).alloc (Nat.le_refl _) _), FlAt.newAt _ (w.heap.size + 1) (by simp) ⟨#[]⟩ 0 0 (.slice none 0 0), ((Below.refl _ _).alloc (Nat.le_refl _) _).alloc (by simp) _⟩
  have HW := hide hW
  clear hW
  go_enter Tryz.func78, Tryz.ntmps78
  go_wp2_with fail
  rw [HW.out]
  refine (cloneV_any av cv vs W (HV.out.later B0.out) hl).mono ?_
  rintro e w1 ⟨v, rfl, hown, hb1⟩
  obtain ⟨a2, c2, rfl, _⟩ := owns_slice hown
  have F1 := hide (F0.out.later hb1)
  have R1 := hide (R0.out.later hb1)
  have O1 := hide hown
  have B1 := hide (below_two B0.out hb1)
  have hs1 := hb1.size
  obtain ⟨c0, c1, c2', c3, _, _, _, z3⟩ := F1.out.cells
  obtain ⟨k0, k1, k2, k3, g0, g1, g2, g3⟩ := R1.out.cells
  have FX := hide (F1.out.setVis (.slice a2 vs.length c2))
  have RX := hide (R1.out.keep (w' := w1.setCell ⟨w.heap.size, 3, none⟩ (.slice a2 vs.length c2)) (Below.heap_setCell _ _ _ _ (by show w.heap.size + 1 ≠ w.heap.size; omega)))
  have Y9 := (((RX.out.setName nm).setPlan p).setLate l).setVis (.slice a2 vs.length c2)
  have T9 : Hid (TouchS (fun k => k = w.heap.size ∨ k = w.heap.size + 1) w1 ((((((w1.setCell ⟨w.heap.size, 3, none⟩ (.slice a2 vs.length c2))).setCell ⟨w.heap.size + 1, 0, none⟩ (.string nm)).setCell ⟨w.heap.size + 1, 1, none⟩ (.int .i64 p)).setCell ⟨w.heap.size + 1, 2, none⟩ (.int .i64 l)).setCell ⟨w.heap.size + 1, 3, none⟩ (.slice a2 vs.length c2))) :=
    touchS_set (touchS_set (touchS_set (touchS_set (touchS_set (touchS_refl _ _) (p := ⟨w.heap.size, 3, none⟩) (.inl rfl) _) (p := ⟨w.heap.size + 1, 0, none⟩) (.inr rfl) _) (p := ⟨w.heap.size + 1, 1, none⟩) (.inr rfl) _) (p := ⟨w.heap.size + 1, 2, none⟩) (.inr rfl) _) (p := ⟨w.heap.size + 1, 3, none⟩) (.inr rfl) _
  have Z0 := hide Y9.cells.1
  have Z1 := hide Y9.cells.2.1
  have Z2 := hide Y9.cells.2.2.1
  have Z3 := hide Y9.cells.2.2.2.1
  clear Y9 hown hb1 FX RX F0 R0
  go_wp2
  generalize ((((((w1.setCell ⟨w.heap.size, 3, none⟩ (.slice a2 vs.length c2))).setCell ⟨w.heap.size + 1, 0, none⟩ (.string nm)).setCell ⟨w.heap.size + 1, 1, none⟩ (.int .i64 p)).setCell ⟨w.heap.size + 1, 2, none⟩ (.int .i64 l)).setCell ⟨w.heap.size + 1, 3, none⟩ (.slice a2 vs.length c2)) = Y at *
  have y0 := Z0.out
  have y1 := Z1.out
  have y2 := Z2.out
  have y3 := Z3.out
  refine bodyPost_ret (v := .agg #[.string nm, .int .i64 p, .int .i64 l, .slice a2 vs.length c2]) (by simp [results, Tryz.results78, go_sem, y0, y1, y2, y3]) rfl ⟨a2, c2, rfl, ?_, ?_⟩
  · refine owns_base (owns_keep O1.out fun q hq => T9.out.block q (World.ownsRow.lt O1.out q hq).2 ?_) (by omega)
    have := (World.ownsRow.lt O1.out q hq).1
    omega
  · exact B1.out.trans (below_ofS T9.out (by omega) (fun k hk => by omega))

def visV (x : FlV) : Value := .slice x.2.1 x.1.2.2.2.length x.2.2
/-- The first k flights of a row have visits of their own, each made behind the one ahead. -/
def AscTo (w : World) (lo g0 : Nat) (gs : List FlV) (k : Nat) : Prop :=
  ∀ i (hi : i < gs.length), i < k → OwnV w lo (visV gs[i]) gs[i].1.2.2.2 ∧ ∃ g, gs[i].2.1 = some ⟨g, 0, none⟩ ∧ g0 < g ∧ ∀ j (hj : j < gs.length), j < i → ∀ g', gs[j].2.1 = some ⟨g', 0, none⟩ → g' < g
theorem owns_some {w : World} {base : Nat} {t : TypeId} {sz : Nat} {a : Option Addr} {n c : Nat} {xs : List Value} (h : w.ownsRow base t sz (.slice a n c) n xs) (h1 : 1 ≤ n) : ∃ g, a = some ⟨g, 0, none⟩ ∧ base ≤ g ∧ g < w.heap.size := by
  rcases h.2 with ⟨h0, _⟩ | ⟨g, cap, cur, e, hg, hh, _⟩
  · simp at h0; omega
  · simp at e
    obtain ⟨rfl, rfl⟩ := e
    exact ⟨g, rfl, hg, (Array.getElem?_eq_some_iff.1 hh).1⟩
theorem own_cell4 {w : World} {base g cp : Nat} {gs : List FlV} (h : World.ownsRow w base 32 4 (.slice (some ⟨g, 0, none⟩) gs.length cp) gs.length (flVals gs)) {k : Nat} (hk : k < gs.length) :
    (w.cell? ⟨g, k * 4, none⟩ = some (.string gs[k].1.1) ∧ w.cell? ⟨g, k * 4 + 1, none⟩ = some (.int .i64 gs[k].1.2.1) ∧ w.cell? ⟨g, k * 4 + 2, none⟩ = some (.int .i64 gs[k].1.2.2.1) ∧ w.cell? ⟨g, k * 4 + 3, none⟩ = some (visV gs[k])) ∧
      w.frozen? ⟨g, k * 4, none⟩ = false ∧ w.frozen? ⟨g, k * 4 + 1, none⟩ = false ∧ w.frozen? ⟨g, k * 4 + 2, none⟩ = false ∧ w.frozen? ⟨g, k * 4 + 3, none⟩ = false := by
  obtain ⟨a, cap, e, _, _, _, h5⟩ := owns_slice h
  obtain ⟨q0, q1, q2, q3⟩ := flVals_at gs k hk
  simp at e
  obtain ⟨rfl, rfl⟩ := e
  obtain ⟨x0, e0, _, _, c0, z0⟩ := h5 _ _ q0
  obtain ⟨x1, e1, _, _, c1, z1⟩ := h5 _ _ q1
  obtain ⟨x2, e2, _, _, c2, z2⟩ := h5 _ _ q2
  obtain ⟨x3, e3, _, _, c3, z3⟩ := h5 _ _ q3
  simp at e0 e1 e2 e3
  subst e0 e1 e2 e3
  exact ⟨⟨c0, c1, c2, c3⟩, z0, z1, z2, z3⟩
theorem asc_keep {w w' : World} {lo g0 : Nat} {gs : List FlV} {k : Nat} (h : AscTo w lo g0 gs k) {S : Nat → Prop} (ht : TouchS S w w') (hs : ∀ q, S q → q ≤ g0) : AscTo w' lo g0 gs k := fun i hi hik => by
  obtain ⟨h1, g, h2, h3, h4⟩ := h i hi hik
  refine ⟨owns_keep h1 fun q hq => ht.block q (World.ownsRow.lt h1 q hq).2 fun hh => ?_, g, h2, h3, h4⟩
  unfold visV at hq
  rw [h2] at hq
  simp [Value.ownBlock] at hq
  have := hs q hh
  omega
/-- One more flight has visits of its own. -/
theorem asc_succ {w w' : World} {lo g0 : Nat} {gs : List FlV} {k : Nat} (h : AscTo w lo g0 gs k) (hk : k < gs.length) {S : Nat → Prop} (ht : TouchS S w w') (hs : ∀ q, S q → q ≤ g0) (x : FlV) (hx : OwnV w' lo (visV x) x.1.2.2.2) {g : Nat} (hg : x.2.1 = some ⟨g, 0, none⟩) (hg0 : g0 < g) (hB : w.heap.size ≤ g) :
    AscTo w' lo g0 (gs.set k x) (k + 1) := fun i hi hik => by
  have hi' : i < gs.length := by simpa using hi
  by_cases e : i = k
  · subst e
    rw [List.getElem_set_self]
    refine ⟨hx, g, hg, hg0, fun j hj hji g' hg' => ?_⟩
    have hj' : j < gs.length := by simpa using hj
    rw [List.getElem_set_ne (by omega)] at hg'
    obtain ⟨h1, g2, h2, h3, h4⟩ := h j hj' (by omega)
    rw [h2] at hg'
    simp at hg'
    subst hg'
    have := (World.ownsRow.lt h1 g2 (by unfold visV; rw [h2]; rfl)).2
    omega
  · rw [List.getElem_set_ne (fun hh => e hh.symm)]
    obtain ⟨h1, g2, h2, h3, h4⟩ := asc_keep h ht hs i hi' (by omega)
    refine ⟨h1, g2, h2, h3, fun j hj hji g' hg' => ?_⟩
    have hj' : j < gs.length := by simpa using hj
    rw [List.getElem_set_ne (by omega)] at hg'
    exact h4 j hj' hji g' hg'

/-- A book in memory of its own, from block lo on: each row apart from the others. -/
structure OwnBk (lo : Nat) (w : World) (ac a a' : Option Addr) (capc cap cap' : Nat) (cs : List (ByteArray × Int)) (fs : List Fli) (ss : List Int) : Prop where
  book : BookIn w ac a a' cs fs ss
  rows : ∃ va : List VisAt, BkW w ac a a' cs.length capc cap ss.length cap' va ∧ va.length = fs.length ∧ (∀ i (h1 : i < va.length) (h2 : i < fs.length), va[i].2.1 = fs[i].2.2.2.length) ∧ ∀ k, InB ac a a' cs.length ss.length va k → lo ≤ k ∧ k < w.heap.size

theorem caps_of {w : World} {base : Nat} {a : Option Addr} {c : Nat} {cs : List (ByteArray × Int)} (h : OwnC w base (.slice a cs.length c) cs) : CapsIn w a cs := by
  obtain ⟨a', c', e, _, _, h4, _⟩ := OwnC.form h
  simp at e
  obtain ⟨rfl, rfl⟩ := e
  exact h4
theorem vis_of {w : World} {base : Nat} {a : Option Addr} {c : Nat} {vs : List Vis} (h : OwnV w base (.slice a vs.length c) vs) : VisitsIn w a vs := (OwnV.visits h).1
/-- What a row of flights with visits of their own reads as. -/
theorem fls_of {w : World} {base lo g0 : Nat} {a1 : Option Addr} {c1 : Nat} {gs : List FlV} (h : World.ownsRow w base 32 4 (.slice a1 gs.length c1) gs.length (flVals gs)) (ha : AscTo w lo g0 gs gs.length) : FlightsIn w a1 (gs.map Prod.fst) := fun i hi => by
  have hi' : i < gs.length := by simpa using hi
  obtain ⟨g, rfl, hg, hlt⟩ := owns_some h (by omega)
  obtain ⟨⟨c0, c1', c2, c3⟩, _⟩ := own_cell4 h hi'
  have hv := vis_of (ha i hi' hi').1
  refine ⟨g, 0, rfl, hlt, ?_⟩
  rw [List.getElem_map]
  exact ⟨by rw [Nat.zero_add]; exact c0, by rw [Nat.zero_add]; exact c1', by rw [Nat.zero_add]; exact c2, _, _, by rw [Nat.zero_add]; exact c3, hv⟩
/-- The rows of flights with visits of their own can be written, each apart from the others. -/
theorem flW_of {w : World} {base lo g0 : Nat} {a1 : Option Addr} {c1 : Nat} {gs : List FlV} (h : World.ownsRow w base 32 4 (.slice a1 gs.length c1) gs.length (flVals gs)) (ha : AscTo w lo g0 gs gs.length) (hg0 : 1 ≤ gs.length → a1 = some ⟨g0, 0, none⟩) :
    FlW w a1 c1 (gs.map fun x => (x.2.1, x.1.2.2.2.length, x.2.2)) ∧ ApartF a1 (gs.map fun x => (x.2.1, x.1.2.2.2.length, x.2.2)) := by
  by_cases hn : gs.length = 0
  · obtain rfl := List.length_eq_zero_iff.1 hn
    exact ⟨.inl rfl, by simp, List.Pairwise.nil⟩
  obtain rfl := hg0 (by omega)
  constructor
  · rcases rowW_of_owns h with h0 | ⟨g, f, e, hr, hc⟩
    · exact absurd h0 hn
    · simp at e
      subst e
      refine .inr ⟨g0, f, rfl, hr, by simpa using hc, fun j hj => ?_, fun x hx => ?_⟩
      · have hj' : j < gs.length := by simpa using hj
        have q := hr.cell (i := j * 4 + 3) (by omega)
        rw [(own_cell4 h hj').1.2.2.2] at q
        simp only [List.getElem_map]
        exact (Option.some.inj q).symm
      · obtain ⟨y, hy, rfl⟩ := List.mem_map.1 hx
        obtain ⟨i, hi, rfl⟩ := List.getElem_of_mem hy
        exact rowW_of_owns (ha i hi hi).1
  · constructor
    · intro x hx k hk hk2
      obtain ⟨y, hy, rfl⟩ := List.mem_map.1 hx
      obtain ⟨i, hi, rfl⟩ := List.getElem_of_mem hy
      obtain ⟨_, g, hg, hgg, _⟩ := ha i hi hi
      obtain ⟨p, hp, rfl⟩ := hk
      obtain ⟨_, q, hq, e⟩ := hk2
      simp at hp
      subst hp
      rw [hg] at hq
      simp at hq
      subst hq
      simp at e
      omega
    · rw [List.pairwise_map, List.pairwise_iff_getElem]
      intro i j hi hj hij k hk hk2
      obtain ⟨_, g, hg, _, _⟩ := ha i hi hi
      obtain ⟨_, g2, hg2, _, hlt⟩ := ha j hj hj
      obtain ⟨_, p, hp, rfl⟩ := hk
      obtain ⟨_, q, hq, e⟩ := hk2
      have := hlt i hi hij g hg
      simp only at hp hq
      rw [hg] at hp
      rw [hg2] at hq
      simp at hp hq
      subst hp hq
      simp at e
      omega
/-- Where those rows lie. -/
theorem inF_of {w : World} {base lo g0 : Nat} {a1 : Option Addr} {c1 : Nat} {gs : List FlV} (h : World.ownsRow w base 32 4 (.slice a1 gs.length c1) gs.length (flVals gs)) (ha : AscTo w lo g0 gs gs.length) {k : Nat} (hk : InF a1 (gs.map fun x => (x.2.1, x.1.2.2.2.length, x.2.2)) k) : min base lo ≤ k ∧ k < w.heap.size := by
  rcases hk with ⟨_, hk⟩ | ⟨x, hx, _, hk⟩
  · have := owns_in h hk
    omega
  · obtain ⟨y, hy, rfl⟩ := List.mem_map.1 hx
    obtain ⟨i, hi, rfl⟩ := List.getElem_of_mem hy
    have := owns_in (ha i hi hi).1 hk
    omega

end Go.Proofs.YtciacofibljmoaaGreatDoor

/- A book of its own, each row of it known whole and apart from the others. -/
namespace Go.Proofs.YtciacofibljmoaaGreatDoor
open Go.RowKit

theorem visits_full {w : World} {base : Nat} {x : FlV} (h : OwnV w base (visV x) x.1.2.2.2) : VisitsIn w x.2.1 x.1.2.2.2 := vis_of h
/-- A book of its own: all its rows known whole, each apart from the others. -/
structure FullBk (lo : Nat) (w : World) (ac a a' : Option Addr) (capc cap cap' : Nat) (cs : List (ByteArray × Int)) (gs : List FlV) (ss : List Int) : Prop where
  caps : OwnC w lo (.slice ac cs.length capc) cs
  fl : World.ownsRow w lo 32 4 (.slice a gs.length cap) gs.length (flVals gs)
  vis : ∀ x ∈ gs, OwnV w lo (visV x) x.1.2.2.2
  ints : OwnI w lo (.slice a' ss.length cap') ss
  cf : ∀ k, InA ac k → ¬ InA a k
  ci : ∀ k, InA ac k → ¬ InA a' k
  fi : ∀ k, InA a k → ¬ InA a' k
  vc : ∀ x ∈ gs, ∀ k, InA x.2.1 k → ¬ InA ac k ∧ ¬ InA a k ∧ ¬ InA a' k
  vv : gs.Pairwise fun x y => ∀ k, InA x.2.1 k → ¬ InA y.2.1 k

theorem FullBk.flights {lo : Nat} {w : World} {ac a a' : Option Addr} {capc cap cap' : Nat} {cs : List (ByteArray × Int)} {gs : List FlV} {ss : List Int} (h : FullBk lo w ac a a' capc cap cap' cs gs ss) : FlightsIn w a (gs.map Prod.fst) := fun i hi => by
  have hi' : i < gs.length := by simpa using hi
  obtain ⟨g, rfl, hg, hlt⟩ := owns_some h.fl (by omega)
  obtain ⟨⟨c0, c1', c2, c3⟩, _⟩ := own_cell4 h.fl hi'
  have hv := visits_full (h.vis gs[i] (List.getElem_mem hi'))
  refine ⟨g, 0, rfl, hlt, ?_⟩
  rw [List.getElem_map]
  exact ⟨by rw [Nat.zero_add]; exact c0, by rw [Nat.zero_add]; exact c1', by rw [Nat.zero_add]; exact c2, _, _, by rw [Nat.zero_add]; exact c3, hv⟩
theorem FullBk.book {lo : Nat} {w : World} {ac a a' : Option Addr} {capc cap cap' : Nat} {cs : List (ByteArray × Int)} {gs : List FlV} {ss : List Int} (h : FullBk lo w ac a a' capc cap cap' cs gs ss) : BookIn w ac a a' cs (gs.map Prod.fst) ss := ⟨caps_of h.caps, h.flights, ints_of h.ints⟩

theorem FullBk.own {lo : Nat} {w : World} {ac a a' : Option Addr} {capc cap cap' : Nat} {cs : List (ByteArray × Int)} {gs : List FlV} {ss : List Int} (h : FullBk lo w ac a a' capc cap cap' cs gs ss) : OwnBk lo w ac a a' capc cap cap' cs (gs.map Prod.fst) ss := by
  have hF : ∀ k, InF a (gs.map fun x => (x.2.1, x.1.2.2.2.length, x.2.2)) k → InA a k ∨ ∃ x ∈ gs, InA x.2.1 k := fun k hk => by
    rcases hk with hk | ⟨x, hx, hk⟩
    · exact .inl hk.2
    · obtain ⟨y, hy, rfl⟩ := List.mem_map.1 hx
      exact .inr ⟨y, hy, hk.2⟩
  refine ⟨h.book, gs.map fun x => (x.2.1, x.1.2.2.2.length, x.2.2), ⟨rowW_of_owns h.caps, ?_, rowW_of_owns h.ints, ⟨fun x hx k hk hk2 => ?_, ?_⟩, fun k hk hk2 => ?_, fun k hk hk2 => h.ci k hk.2 hk2.2, fun k hk hk2 => ?_⟩, by simp, fun i h1 h2 => by simp, fun k hk => ?_⟩
  · by_cases hn : gs.length = 0
    · obtain rfl := List.length_eq_zero_iff.1 hn
      exact .inl rfl
    rcases rowW_of_owns h.fl with h0 | ⟨g, f, e, hr, hc⟩
    · exact absurd h0 hn
    subst e
    refine .inr ⟨g, f, rfl, hr, by simpa using hc, fun j hj => ?_, fun x hx => ?_⟩
    · have hj' : j < gs.length := by simpa using hj
      have q := hr.cell (i := j * 4 + 3) (by omega)
      rw [(own_cell4 h.fl hj').1.2.2.2] at q
      simp only [List.getElem_map]
      exact (Option.some.inj q).symm
    · obtain ⟨y, hy, rfl⟩ := List.mem_map.1 hx
      exact rowW_of_owns (h.vis y hy)
  · obtain ⟨y, hy, rfl⟩ := List.mem_map.1 hx
    exact (h.vc y hy k hk2.2).2.1 hk
  · rw [List.pairwise_map]
    exact h.vv.imp fun hh k hk hk2 => hh k hk.2 hk2.2
  · rcases hF k hk2 with hh | ⟨x, hx, hh⟩
    · exact h.cf k hk.2 hh
    · exact (h.vc x hx k hh).1 hk.2
  · rcases hF k hk with hh | ⟨x, hx, hh⟩
    · exact h.fi k hh hk2.2
    · exact (h.vc x hx k hh).2.2 hk2.2
  · rcases hk with hk | hk | hk
    · exact owns_in h.caps hk.2
    · rcases hF k hk with hh | ⟨x, hx, hh⟩
      · exact owns_in h.fl hh
      · exact owns_in (h.vis x hx) hh
    · exact owns_in h.ints hk.2
theorem ownB_in {a : Option Addr} {n c q : Nat} (h : (Value.slice a n c).ownBlock = some q) : InA a q := by
  cases a with
  | none => simp [Value.ownBlock] at h
  | some p => simp [Value.ownBlock] at h; exact ⟨p, rfl, h⟩
theorem FullBk.touch {S : Nat → Prop} {lo : Nat} {w w' : World} {ac a a' : Option Addr} {capc cap cap' : Nat} {cs : List (ByteArray × Int)} {gs : List FlV} {ss : List Int} (h : FullBk lo w ac a a' capc cap cap' cs gs ss) (ht : TouchS S w w') (ho : ∀ k, lo ≤ k → k < w.heap.size → ¬ S k) : FullBk lo w' ac a a' capc cap cap' cs gs ss := by
  have K : ∀ {e : TypeId} {sz : Nat} {v : Value} {n : Nat} {xs : List Value}, w.ownsRow lo e sz v n xs → w'.ownsRow lo e sz v n xs := fun hh => owns_keep hh fun g hg => ht.block g (hh.lt g hg).2 (ho g (hh.lt g hg).1 (hh.lt g hg).2)
  exact ⟨K h.caps, K h.fl, fun x hx => K (h.vis x hx), K h.ints, h.cf, h.ci, h.fi, h.vc, h.vv⟩
theorem FullBk.later {lo : Nat} {w w' : World} {ac a a' : Option Addr} {capc cap cap' : Nat} {cs : List (ByteArray × Int)} {gs : List FlV} {ss : List Int} (h : FullBk lo w ac a a' capc cap cap' cs gs ss) (hb : Below w.heap.size w w') : FullBk lo w' ac a a' capc cap cap' cs gs ss :=
  h.touch (S := fun _ => False) (touchS_below hb) (fun _ _ _ h => h)
/-- The blocks of a book of its own. -/
def InFull (ac a a' : Option Addr) (gs : List FlV) (q : Nat) : Prop := InA ac q ∨ InA a q ∨ InA a' q ∨ ∃ x ∈ gs, InA x.2.1 q
theorem FullBk.within {lo : Nat} {w : World} {ac a a' : Option Addr} {capc cap cap' : Nat} {cs : List (ByteArray × Int)} {gs : List FlV} {ss : List Int} (h : FullBk lo w ac a a' capc cap cap' cs gs ss) {q : Nat} (hq : InFull ac a a' gs q) : lo ≤ q ∧ q < w.heap.size := by
  rcases hq with hq | hq | hq | ⟨x, hx, hq⟩
  · exact owns_in h.caps hq
  · exact owns_in h.fl hq
  · exact owns_in h.ints hq
  · exact owns_in (h.vis x hx) hq
theorem FullBk.touchIn {S : Nat → Prop} {lo : Nat} {w w' : World} {ac a a' : Option Addr} {capc cap cap' : Nat} {cs : List (ByteArray × Int)} {gs : List FlV} {ss : List Int} (h : FullBk lo w ac a a' capc cap cap' cs gs ss) (ht : TouchS S w w') (ho : ∀ q, InFull ac a a' gs q → ¬ S q) : FullBk lo w' ac a a' capc cap cap' cs gs ss := by
  have K : ∀ {e : TypeId} {sz : Nat} {b : Option Addr} {m c n : Nat} {xs : List Value}, w.ownsRow lo e sz (.slice b m c) n xs → (∀ k, InA b k → ¬ S k) → w'.ownsRow lo e sz (.slice b m c) n xs := fun hh hk => owns_keep hh fun g hg => ht.block g (hh.lt g hg).2 (hk g (ownB_in hg))
  exact ⟨K h.caps fun k hk => ho k (.inl hk), K h.fl fun k hk => ho k (.inr (.inl hk)), fun x hx => K (h.vis x hx) fun k hk => ho k (.inr (.inr (.inr ⟨x, hx, hk⟩))), K h.ints fun k hk => ho k (.inr (.inr (.inl hk))), h.cf, h.ci, h.fi, h.vc, h.vv⟩
theorem putAt_pair {α : Type} {R : α → α → Prop} (hs : ∀ x y, R x y → R y x) {l : List α} (h : l.Pairwise R) (k : Nat) {x : α} (hx : ∀ y ∈ l, R x y) : (putAt l k x).Pairwise R := by
  have h1 : (l.take k ++ l.drop k).Pairwise R := by rw [List.take_append_drop]; exact h
  rw [List.pairwise_append] at h1
  unfold putAt
  rw [List.pairwise_append]
  refine ⟨h1.1, List.pairwise_cons.2 ⟨fun y hy => hx y (List.mem_of_mem_drop hy), h1.2.1⟩, fun y hy z hz => ?_⟩
  rcases List.mem_cons.1 hz with rfl | hz
  · exact hs _ _ (hx y (List.mem_of_mem_take hy))
  · exact h1.2.2 y hy z hz
theorem flVals_put (gs : List FlV) (i : Nat) (x : FlV) : flVals (putAt gs i x) = (flVals gs).take (i * 4) ++ [.string x.1.1, .int .i64 x.1.2.1, .int .i64 x.1.2.2.1, visV x] ++ (flVals gs).drop (i * 4) := by
  have h : ∀ (gs : List FlV) (i : Nat), (flVals gs).take (i * 4) = flVals (gs.take i) ∧ (flVals gs).drop (i * 4) = flVals (gs.drop i) := by
    intro gs
    induction gs with
    | nil => intro i; simp [flVals]
    | cons y r ih =>
      intro i
      cases i with
      | zero => simp [flVals]
      | succ i =>
        obtain ⟨h1, h2⟩ := ih i
        rw [show (i + 1) * 4 = i * 4 + 1 + 1 + 1 + 1 by omega]
        simp only [flVals, List.flatMap_cons, List.cons_append, List.nil_append, List.take_succ_cons, List.drop_succ_cons] at h1 h2 ⊢
        rw [h1, h2]
        exact ⟨rfl, rfl⟩
  obtain ⟨h1, h2⟩ := h gs i
  rw [h1, h2]
  simp [putAt, flVals, visV]
/-- A flight is put in. -/
theorem FullBk.putF {lo : Nat} {w w' : World} {ac a a' a2 : Option Addr} {capc cap cap' c2 : Nat} {cs : List (ByteArray × Int)} {gs : List FlV} {ss : List Int} (h : FullBk lo w ac a a' capc cap cap' cs gs ss) (i : Nat) (x : FlV) (hx : OwnV w lo (visV x) x.1.2.2.2) (hxa : ∀ k, InA x.2.1 k → ¬ InA ac k ∧ ¬ InA a k ∧ ¬ InA a' k ∧ ∀ y ∈ gs, ¬ InA y.2.1 k)
    (hr : World.ownsRow w' lo 32 4 (.slice a2 (gs.length + 1) c2) (gs.length + 1) (flVals (putAt gs i x))) (ht : TouchS (InA a) w w') (hn : ∀ k, InA a2 k → InA a k ∨ w.heap.size ≤ k) :
    FullBk lo w' ac a2 a' capc c2 cap' cs (putAt gs i x) ss := by
  have K : ∀ {e : TypeId} {sz : Nat} {b : Option Addr} {m c n : Nat} {xs : List Value}, w.ownsRow lo e sz (.slice b m c) n xs → (∀ k, InA b k → ¬ InA a k) → w'.ownsRow lo e sz (.slice b m c) n xs := fun hh hk => owns_keep hh fun g hg => ht.block g (hh.lt g hg).2 (hk g (ownB_in hg))
  have hlc : ∀ k, InA ac k → k < w.heap.size := fun k hk => (owns_in h.caps hk).2
  have hli : ∀ k, InA a' k → k < w.heap.size := fun k hk => (owns_in h.ints hk).2
  have hlv : ∀ y ∈ gs, ∀ k, InA y.2.1 k → k < w.heap.size := fun y hy k hk => (owns_in (h.vis y hy) hk).2
  have hlx : ∀ k, InA x.2.1 k → k < w.heap.size := fun k hk => (owns_in hx hk).2
  refine ⟨K h.caps h.cf, by rw [putAt_len]; exact hr, fun y hy => ?_, K h.ints fun k h1 h2 => h.fi k h2 h1, fun k h1 h2 => ?_, h.ci, fun k h1 h2 => ?_, fun y hy k hk => ?_, putAt_pair (fun p q hpq k h1 h2 => hpq k h2 h1) h.vv i fun y hy k hk => (hxa k hk).2.2.2 y hy⟩
  · rcases putAt_mem.1 hy with rfl | hy
    · exact K hx fun k hk => (hxa k hk).2.1
    · exact K (h.vis y hy) fun k hk => (h.vc y hy k hk).2.1
  · rcases hn k h2 with h3 | h3
    · exact h.cf k h1 h3
    · have := hlc k h1; omega
  · rcases hn k h1 with h3 | h3
    · exact h.fi k h3 h2
    · have := hli k h2; omega
  · rcases putAt_mem.1 hy with rfl | hy
    · obtain ⟨q1, q2, q3, _⟩ := hxa k hk
      refine ⟨q1, fun h2 => ?_, q3⟩
      rcases hn k h2 with h3 | h3
      · exact q2 h3
      · have := hlx k hk; omega
    · obtain ⟨q1, q2, q3⟩ := h.vc y hy k hk
      refine ⟨q1, fun h2 => ?_, q3⟩
      rcases hn k h2 with h3 | h3
      · exact q2 h3
      · have := hlv y hy k hk; omega
/-- The slots become others, in a row of their own. -/
theorem FullBk.putI {lo : Nat} {w w' : World} {ac a a' a2 : Option Addr} {capc cap cap' c2 : Nat} {cs : List (ByteArray × Int)} {gs : List FlV} {ss zs : List Int} (h : FullBk lo w ac a a' capc cap cap' cs gs ss) (hr : OwnI w' lo (.slice a2 zs.length c2) zs) (ht : TouchS (InA a') w w') (hn : ∀ k, InA a2 k → InA a' k ∨ w.heap.size ≤ k) :
    FullBk lo w' ac a a2 capc cap c2 cs gs zs := by
  have K : ∀ {e : TypeId} {sz : Nat} {b : Option Addr} {m c n : Nat} {xs : List Value}, w.ownsRow lo e sz (.slice b m c) n xs → (∀ k, InA b k → ¬ InA a' k) → w'.ownsRow lo e sz (.slice b m c) n xs := fun hh hk => owns_keep hh fun g hg => ht.block g (hh.lt g hg).2 (hk g (ownB_in hg))
  refine ⟨K h.caps h.ci, K h.fl h.fi, fun y hy => K (h.vis y hy) fun k hk => (h.vc y hy k hk).2.2, hr, h.cf, fun k h1 h2 => ?_, fun k h1 h2 => ?_, fun y hy k hk => ?_, h.vv⟩
  · rcases hn k h2 with h3 | h3
    · exact h.ci k h1 h3
    · have := (owns_in h.caps h1).2; omega
  · rcases hn k h2 with h3 | h3
    · exact h.fi k h1 h3
    · have := (owns_in h.fl h1).2; omega
  · obtain ⟨q1, q2, q3⟩ := h.vc y hy k hk
    refine ⟨q1, q2, fun h2 => ?_⟩
    rcases hn k h2 with h3 | h3
    · exact q3 h3
    · have := (owns_in (h.vis y hy) hk).2; omega
end Go.Proofs.YtciacofibljmoaaGreatDoor

/- A book copied, the program's way, walked whole. -/
namespace Go.Proofs.YtciacofibljmoaaGreatDoor
open Go.RowKit

set_option maxRecDepth 100000 in
set_option maxHeartbeats 6400000 in
theorem copyBook_full (ac a a' : Option Addr) (capc cap cap' : Nat) (cs : List (ByteArray × Int)) (fs : List Fli) (ss : List Int) (w : World) (hb : BookIn w ac a a' cs fs ss) (hm : BookSm cs fs ss) (hv1 : ∀ f ∈ fs, 1 ≤ f.2.2.2.length) :
    Calls Tryz.prog 60 #[bkV ac a a' capc cap cap' cs fs ss] w fun e w' => ∃ bc b b' cc cb cb', e = .returned (bkV bc b b' cc cb cb' cs fs ss) ∧ (∃ gs, gs.map Prod.fst = fs ∧ FullBk w.heap.size w' bc b b' cc cb cb' cs gs ss) ∧ Below w.heap.size w w' := by
  have HB := hide hb
  have HM := hide hm
  have HV1 := hide hv1
  have hnf := hm.nf
  clear hb hm hv1
  obtain ⟨W, hW, hWs, f0, r0, b0⟩ := bk_boxes w (.slice ac cs.length capc) (.slice a fs.length cap) (.slice a' ss.length cap')
  have HW := hide hW
  have F0 := hide f0
  have R0 := hide r0
  have B0 := hide b0
  clear hW f0 r0 b0
  go_enter Tryz.func60, Tryz.ntmps60
  go_wp2_with fail
  rw [HW.out]
  refine (cloneF_any a cap fs W (HB.out.fl.later B0.out) hnf).mono ?_
  rintro e w1 ⟨v, gs0, rfl, hgs0, hvis0, hown0, hb1⟩
  obtain ⟨a1, c1, rfl, hc1, hc2, -⟩ := owns_slice hown0
  have hlen0 : gs0.length = fs.length := by rw [← hgs0, List.length_map]
  obtain ⟨g0, hg0⟩ : ∃ g0, 1 ≤ fs.length → a1 = some ⟨g0, 0, none⟩ ∧ W.heap.size ≤ g0 := by
    by_cases h1 : 1 ≤ fs.length
    · obtain ⟨g, e1, e2, _⟩ := owns_some hown0 (by omega)
      exact ⟨g, fun _ => ⟨e1, e2⟩⟩
    · exact ⟨0, fun hh => absurd hh h1⟩
  have G0 := hide hg0
  have O0 := hide hown0
  have VI := hide hvis0
  have GS := hide hgs0
  have B1 := hide hb1
  have HL0 := hide hlen0
  have hc3 : fs.length ≤ c1 := by omega
  rw [hlen0] at O0
  clear hg0 hown0 hvis0 hgs0 hb1
  rw [hlen0]
  clear hlen0 hc1
  go_wp2
  go_loopw [11] (fun i wr => ∃ (k : Nat) (gs : List FlV), k ≤ fs.length ∧ i = .int .i64 k ∧ Hid (gs.map Prod.fst = fs) ∧ Hid (World.ownsRow wr W.heap.size 32 4 (.slice a1 gs.length c1) gs.length (flVals gs)) ∧ Hid (AscTo wr W.heap.size g0 gs k) ∧ Hid (∀ i (hi : i < gs.length), k ≤ i → VisitsIn W gs[i].2.1 gs[i].1.2.2.2) ∧ Hid (Below W.heap.size W wr)) (fun i _ => fs.length - (intOf i).toNat)
  case atStart => exact ⟨0, gs0, Nat.zero_le _, rfl, GS.out, by show World.ownsRow _ _ _ _ _ _ _; rw [HL0.out]; exact O0.out, fun i hi h => by omega, fun i hi _ => VI.out _ (List.getElem_mem hi), B1.out⟩
  case round =>
    obtain ⟨k, gs, hk, rfl, GSk, OK, AK, VK, BK⟩ := hrel
    clear O0 VI GS B1
    have hlen : gs.length = fs.length := by rw [← GSk.out, List.length_map]
    by_cases hlt : k < fs.length
    · obtain ⟨rfl, hg1⟩ := G0.out (by omega)
      obtain ⟨⟨y0, y1, y2, y3⟩, -⟩ := own_cell4 OK.out (k := k) (by omega)
      have hgk : (gs[k]'(by omega)).1 ∈ gs.map Prod.fst := List.mem_map_of_mem (List.getElem_mem _)
      rw [GSk.out] at hgk
      have hvl := HM.out.vl _ hgk
      have hv1 := HV1.out _ hgk
      have VV := hide (VK.out k (by omega) (Nat.le_refl _))
      have HX : Hid ((gs[k]'(by omega)).1 = fs[k]) := by show _ = _; simp only [← GSk.out, List.getElem_map]
      have k0 : (0 : Int) ≤ (k : Int) := by omega
      have k1 : (k : Int) < (fs.length : Int) := by omega
      unfold visV at y3
      generalize hx : gs[k]'(by omega) = x at y0 y1 y2 y3 hvl hv1 VV HX
      obtain ⟨⟨nm, pl, lt, vs⟩, av, cv⟩ := x
      simp only at y0 y1 y2 y3 hvl hv1 VV HX
      clear hgk hx
      have HLN := hide hlen
      clear hlen
      go_wp2_with fail
      obtain ⟨V, hV, -, -, -, -, hVb⟩ := alloc4 wr (.string nm) (.int .i64 pl) (.int .i64 lt) (.slice av vs.length cv) 32
      rw [hV]
      have HVb := hide hVb
      clear hV hVb y0 y1 y2 y3
      refine (copyFlight_any nm pl lt vs av cv V ((VV.out.later BK.out).later HVb.out) hvl).mono ?_
      rintro e w2 ⟨a2, c2, rfl, ho2, hb2⟩
      have O2 := hide (owns_later (owns_later OK.out HVb.out) hb2)
      have hs1 := HVb.out.size
      have hs2 := hb2.size
      have hsw := BK.out.size
      obtain ⟨⟨x0, x1, x2, x3⟩, z0, z1, z2, z3⟩ := own_cell4 O2.out (k := k) (by rw [HLN.out]; exact hlt)
      obtain ⟨g, rfl, hgb, hgl⟩ := owns_some ho2 hv1
      have BB := hide (below_two (below_two BK.out HVb.out) hb2)
      have T2 : Hid (TouchS (fun q => q = g0) wr w2) := touchS_trans (touchS_below HVb.out) (touchS_below hb2)
      have OV := hide ho2
      have hglt := (World.ownsRow.lt OK.out g0 rfl).2
      clear hb2 ho2 OK HVb BK
      go_wp2
      go_roundw
      case rel =>
        have T9 : TouchS (fun q => q = g0) w2 ((((w2.setCell ⟨g0, k * 4, none⟩ (.string nm)).setCell ⟨g0, k * 4 + 1, none⟩ (.int .i64 pl)).setCell ⟨g0, k * 4 + 2, none⟩ (.int .i64 lt)).setCell ⟨g0, k * 4 + 3, none⟩ (.slice (some ⟨g, 0, none⟩) vs.length c2)) := set4_touch w2 g0 (k * 4) _ _ _ _
        refine ⟨k + 1, gs.set k ((nm, pl, lt, vs), some ⟨g, 0, none⟩, c2), by omega, by go_num, ?_, ?_, ?_, ?_, ?_⟩
        · show _ = _
          rw [List.map_set, GSk.out, HX.out, List.set_getElem_self]
        · show World.ownsRow _ _ _ _ _ _ _
          rw [List.length_set]
          exact owns_set4 O2.out (by rw [HLN.out]; exact hlt) ((nm, pl, lt, vs), some ⟨g, 0, none⟩, c2)
        · refine asc_succ AK.out (by rw [HLN.out]; exact hlt) (touchS_trans T2.out T9) (fun q hq => by omega) _ ?_ (g := g) rfl (by omega) (by omega)
          refine owns_base (owns_keep OV.out fun q hq => T9.block q (World.ownsRow.lt OV.out q hq).2 (fun hh => ?_)) (by omega)
          have := (World.ownsRow.lt OV.out q hq).1
          omega
        · intro i hi hki
          have hi' : i < gs.length := by simpa using hi
          rw [List.getElem_set_ne (by omega)]
          exact VK.out i hi' (by omega)
        · exact BB.out.trans (below_ofS (S := fun q => q = g0) T9 BB.out.size (fun q hq => by omega))
      case measure => simp [intOf]; omega
    · have hkf : k = fs.length := by omega
      subst hkf
      have F1 := hide (F0.out.later BK.out)
      have R1 := hide (R0.out.later BK.out)
      have HLN := hide hlen
      clear hlen VK
      obtain ⟨x0, x1, x2, -⟩ := F1.out.cells
      have hne : w.heap.size ≠ w.heap.size + 1 := by omega
      go_wp2_with fail
      go_region_held3 (fun X => X.cell? ⟨w.heap.size, 0, none⟩ = some (.slice ac cs.length capc) ∧ X.cell? ⟨w.heap.size, 2, none⟩ = some (.slice a' ss.length cap'))
        (first | exact ⟨x0, x2⟩ | exact ⟨cell_later hbA x0, cell_later hbA x2⟩ | exact ⟨cell_later hbB (cell_later hbA x0), cell_later hbB (cell_later hbA x2)⟩ | exact ⟨cell_other hne (cell_other hne (cell_other hne (cell_later hbB (cell_later hbA x0)))), cell_other hne (cell_other hne (cell_other hne (cell_later hbB (cell_later hbA x2))))⟩)
        (first
          | (go_at_call 79; refine (cloneC_any ac capc cs wr.drew (HB.out.caps.later (below_two B0.out BK.out).drew) HM.out.nc).mono ?_; rintro e wA ⟨vc, rfl, hoA, hbA⟩; obtain ⟨aA, cA, rfl, -, -, -, -⟩ := OwnC.form hoA)
          | (go_at_call 47; refine (cloneI_any a' cap' ss wA ((HB.out.ints.later (below_two B0.out BK.out).drew).later hbA) HM.out.ns).mono ?_; rintro e wB ⟨vi, rfl, hoB, hbB⟩; obtain ⟨aB, cB, rfl, -, -, -, -⟩ := OwnI.form hoB; obtain ⟨r0, r1, r2, t0, t1, t2⟩ := ((R1.out.later (below_dr hbA)).later hbB).cells)
          | (fail))
      rename_i hH
      clear hH
      have hsw := BK.out.size
      have hsA := hbA.size
      have hsB := hbB.size
      have hszd : wr.drew.heap.size = wr.heap.size := rfl
      have RX := hide (((R1.out.later (below_dr hbA)).later hbB).set3 (.slice aA cs.length cA) (.slice a1 fs.length c1) (.slice aB ss.length cB))
      have TX := hide (set3_touch wB (w.heap.size + 1) (.slice aA cs.length cA) (.slice a1 fs.length c1) (.slice aB ss.length cB))
      have BAB := hide (below_two (below_dr hbA) hbB)
      have OF := hide (owns_later OK.out BAB.out)
      have AF : Hid (AscTo wB W.heap.size g0 gs gs.length) := by
        show AscTo _ _ _ _ _
        rw [HLN.out]
        exact asc_keep (S := fun _ => False) AK.out (touchS_below BAB.out) (fun _ h => h.elim)
      have IC : Hid (∀ q, InA aA q → wr.heap.size ≤ q ∧ q < wA.heap.size) := fun q hq => owns_in hoA hq
      have IF : Hid (∀ q, InF a1 (gs.map fun x => (x.2.1, x.1.2.2.2.length, x.2.2)) q → W.heap.size ≤ q ∧ q < wr.heap.size) := fun q hq => by
        have := inF_of OK.out (g0 := g0) (lo := W.heap.size) (by rw [HLN.out]; exact AK.out) hq
        omega
      have OC := hide (owns_later hoA hbB)
      have OI := hide hoB
      have BT := hide (below_two (below_two B0.out BK.out) BAB.out)
      have hfl : gs.length = fs.length := HLN.out
      clear hbA hbB hoA hoB x0 x1 x2 r0 r1 r2 t0 t1 t2
      go_wp2
      generalize hY : ((wB.setCell ⟨w.heap.size + 1, 0, none⟩ (.slice aA cs.length cA)).setCell ⟨w.heap.size + 1, 1, none⟩ (.slice a1 fs.length c1)).setCell ⟨w.heap.size + 1, 2, none⟩ (.slice aB ss.length cB) = Y at *
      clear hY
      obtain ⟨y0, y1, y2, -⟩ := RX.out.cells
      have notB : ∀ q, w.heap.size + 2 ≤ q → ¬ (q = w.heap.size + 1) := fun q hq => by omega
      have OF2 : World.ownsRow Y W.heap.size 32 4 (.slice a1 gs.length c1) gs.length (flVals gs) := owns_keep OF.out fun q hq => TX.out.block q (World.ownsRow.lt OF.out q hq).2 (notB q (by have := (World.ownsRow.lt OF.out q hq).1; omega))
      have AF2 : AscTo Y W.heap.size g0 gs gs.length := fun i hi hik => by
        obtain ⟨h1, g, h2, h3, h4⟩ := AF.out i hi hik
        exact ⟨owns_keep h1 fun q hq => TX.out.block q (World.ownsRow.lt h1 q hq).2 (notB q (by have := (World.ownsRow.lt h1 q hq).1; omega)), g, h2, h3, h4⟩
      have OC2 : OwnC Y wr.heap.size (.slice aA cs.length cA) cs := owns_keep OC.out fun q hq => TX.out.block q (World.ownsRow.lt OC.out q hq).2 (notB q (by have := (World.ownsRow.lt OC.out q hq).1; omega))
      have OI2 : OwnI Y wA.heap.size (.slice aB ss.length cB) ss := owns_keep OI.out fun q hq => TX.out.block q (World.ownsRow.lt OI.out q hq).2 (notB q (by have := (World.ownsRow.lt OI.out q hq).1; omega))
      have hYs := TX.out.size
      -- where each lies
      have inC := IC.out
      have inI : ∀ q, InA aB q → wA.heap.size ≤ q ∧ q < Y.heap.size := fun q hq => owns_in OI2 hq
      have OA := hide (fun q (hq : InA a1 q) => owns_in OK.out hq)
      have AP := hide (flW_of OF2 AF2 (fun h => (G0.out (by omega)).1)).2
      have HV2 : Hid (∀ x ∈ gs, 1 ≤ x.1.2.2.2.length) := fun x hx => HV1.out _ (by rw [← GSk.out]; exact List.mem_map_of_mem hx)
      have inV : ∀ x ∈ gs, ∀ q, InA x.2.1 q → W.heap.size ≤ q ∧ q < wr.heap.size := fun x hx q hq => IF.out q (.inr ⟨_, List.mem_map_of_mem hx, by have := HV2.out x hx; show x.1.2.2.2.length ≠ 0; omega, hq⟩)
      refine bodyPost_ret (v := bkV aA a1 aB cA c1 cB cs fs ss) (by simp [results, Tryz.results60, go_sem, y0, y1, y2]) rfl ⟨aA, a1, aB, cA, c1, cB, rfl, ⟨gs, GSk.out, ⟨owns_base OC2 (by omega), owns_base OF2 (by omega), fun x hx => ?_, owns_base OI2 (by omega), fun q h1 h2 => ?_, fun q h1 h2 => ?_, fun q h1 h2 => ?_, fun x hx q hq => ⟨fun h2 => ?_, fun h2 => ?_, fun h2 => ?_⟩, ?_⟩⟩, ?_⟩
      · obtain ⟨i, hi, rfl⟩ := List.getElem_of_mem hx
        exact owns_base (AF2 i hi hi).1 (by omega)
      · have := inC q h1; have := OA.out q h2; omega
      · have := inC q h1; have := inI q h2; omega
      · have := OA.out q h1; have := inI q h2; omega
      · have := inV x hx q hq; have := inC q h2; omega
      · exact AP.out.1 _ (List.mem_map_of_mem hx) q h2 ⟨by have := HV2.out x hx; show x.1.2.2.2.length ≠ 0; omega, hq⟩
      · have := inV x hx q hq; have := inI q h2; omega
      · have h9 := AP.out.2
        rw [List.pairwise_map] at h9
        exact List.Pairwise.imp_of_mem (fun {x y} hx hy hh k h1 h2 => hh k ⟨by have := HV2.out x hx; show x.1.2.2.2.length ≠ 0; omega, h1⟩ ⟨by have := HV2.out y hy; show y.1.2.2.2.length ≠ 0; omega, h2⟩) h9
      · exact BT.out.trans (below_ofS (S := fun q => q = w.heap.size + 1) TX.out (by omega) (fun q hq => by omega))

theorem copyBook_any (ac a a' : Option Addr) (capc cap cap' : Nat) (cs : List (ByteArray × Int)) (fs : List Fli) (ss : List Int) (w : World) (hb : BookIn w ac a a' cs fs ss) (hm : BookSm cs fs ss) (hv1 : ∀ f ∈ fs, 1 ≤ f.2.2.2.length) :
    Calls Tryz.prog 60 #[bkV ac a a' capc cap cap' cs fs ss] w fun e w' => ∃ bc b b' cc cb cb', e = .returned (bkV bc b b' cc cb cb' cs fs ss) ∧ OwnBk w.heap.size w' bc b b' cc cb cb' cs fs ss ∧ Below w.heap.size w w' := by
  refine (copyBook_full ac a a' capc cap cap' cs fs ss w hb hm hv1).mono ?_
  rintro e w' ⟨bc, b, b', cc, cb, cb', rfl, ⟨gs, hg, h⟩, hb⟩
  exact ⟨bc, b, b', cc, cb, cb', rfl, by rw [← hg]; exact h.own, hb⟩

end Go.Proofs.YtciacofibljmoaaGreatDoor
