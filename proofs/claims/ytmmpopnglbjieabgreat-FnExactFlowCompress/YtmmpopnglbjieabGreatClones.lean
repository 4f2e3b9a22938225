/- Copies of slices, the library's way, walked: caps, flights, visits, slots. -/
import Derived.Test.YtmmpopnglbjieabGreatImplLeast
import Derived.Test.YtmmpopnglbjieabGreatDraws
import Derived.Laws.AppendOwnNone
namespace Go.Proofs.YtmmpopnglbjieabGreat
open Go.RowKit

theorem flVals_len (gs : List FlV) : (flVals gs).length = gs.length * 4 := by
  induction gs with
  | nil => rfl
  | cons r l ih => simp only [flVals, List.flatMap_cons, List.length_append, List.length_cons, List.length_nil] at *; omega
theorem flVals_one (gs : List FlV) : ∀ u ∈ flVals gs, u.oneCell' = true := fun u hu => by
  unfold flVals at hu
  obtain ⟨v, _, hv⟩ := List.mem_flatMap.1 hu
  simp at hv
  rcases hv with rfl | rfl | rfl | rfl <;> rfl
/-- Flights that come in, each with where its visits lie. -/
theorem fl_open {w : World} {a : Option Addr} {fs : List Fli} (h : FlightsIn w a fs) : ∃ gs : List FlV, gs.map Prod.fst = fs ∧ (∀ x ∈ gs, VisitsIn w x.2.1 x.1.2.2.2) ∧ (∀ ad, a = some ad → ∀ j u, (flVals gs)[j]? = some u → w.cell? (ad.add j) = some u) := by
  have each : ∀ i, i < fs.length → ∃ x : FlV, fs[i]? = some x.1 ∧ VisitsIn w x.2.1 x.1.2.2.2 ∧ ∃ b off, a = some ⟨b, off, none⟩ ∧ w.cell? ⟨b, off + i * 4, none⟩ = some (.string x.1.1) ∧ w.cell? ⟨b, off + i * 4 + 1, none⟩ = some (.int .i64 x.1.2.1) ∧ w.cell? ⟨b, off + i * 4 + 2, none⟩ = some (.int .i64 x.1.2.2.1) ∧ w.cell? ⟨b, off + i * 4 + 3, none⟩ = some (.slice x.2.1 x.1.2.2.2.length x.2.2) := fun i hi => by
    obtain ⟨b, off, e, hlt, c0, c1, c2, av, cv, c3, hv⟩ := h i hi
    exact ⟨(fs[i], av, cv), by simp [hi], hv, b, off, e, c0, c1, c2, c3⟩
  obtain ⟨f, hf⟩ := Deep.choose_lt each
  have hm : ((List.range fs.length).map f).map Prod.fst = fs := by
    apply List.ext_getElem?
    intro i
    by_cases hi : i < fs.length
    · obtain ⟨e, _⟩ := hf i hi
      rw [e]
      simp [hi]
    · rw [List.getElem?_eq_none (by simp; omega), List.getElem?_eq_none (by omega)]
  refine ⟨(List.range fs.length).map f, hm, fun x hx => ?_, fun ad he j u hj => ?_⟩
  · obtain ⟨i, hi, rfl⟩ := List.mem_map.1 hx
    exact (hf i (List.mem_range.1 hi)).2.1
  · have hlt : j < (flVals ((List.range fs.length).map f)).length := by
      rcases Nat.lt_or_ge j (flVals ((List.range fs.length).map f)).length with hh | hh
      · exact hh
      · rw [List.getElem?_eq_none hh] at hj; simp at hj
    rw [flVals_len, List.length_map, List.length_range] at hlt
    have hi : j / 4 < fs.length := by omega
    obtain ⟨_, _, b, off, e, c0, c1, c2, c3⟩ := hf (j / 4) hi
    rw [he] at e
    simp at e
    subst e
    obtain ⟨q0, q1, q2, q3⟩ := flVals_at ((List.range fs.length).map f) (j / 4) (by simpa using hi)
    simp only [List.getElem_map, List.getElem_range] at q0 q1 q2 q3
    rw [plain_add']
    have h4 : j % 4 = 0 ∨ j % 4 = 1 ∨ j % 4 = 2 ∨ j % 4 = 3 := by omega
    rcases h4 with r | r | r | r
    · have ej : j = j / 4 * 4 := by omega
      rw [ej, q0] at hj
      rw [← hj, ← c0]
      exact congrArg (fun x => w.cell? ⟨b, off + x, none⟩) ej
    · have ej : j = j / 4 * 4 + 1 := by omega
      rw [ej, q1] at hj
      rw [← hj, ← c1]
      exact congrArg (fun x => w.cell? ⟨b, x, none⟩) (by omega)
    · have ej : j = j / 4 * 4 + 2 := by omega
      rw [ej, q2] at hj
      rw [← hj, ← c2]
      exact congrArg (fun x => w.cell? ⟨b, x, none⟩) (by omega)
    · have ej : j = j / 4 * 4 + 3 := by omega
      rw [ej, q3] at hj
      rw [← hj, ← c3]
      exact congrArg (fun x => w.cell? ⟨b, x, none⟩) (by omega)
theorem own_none {w : World} {base : Nat} {e : TypeId} {size : Nat} : w.ownsRow base e size (.slice none 0 0) 0 [] := ⟨by simp, .inl ⟨rfl, rfl⟩⟩
theorem own_newE (w : World) (e : TypeId) (size : Nat) : World.ownsRow (w.alloc (.cells #[] e)) w.heap.size e size (.slice (some ⟨w.heap.size, 0, none⟩) 0 0) 0 [] := World.ownsRow_made w #[] 0 (Nat.le_refl _) (Nat.zero_le _) (by simp)

set_option maxRecDepth 100000 in
set_option maxHeartbeats 1600000 in
theorem cloneC_all (a : Option Addr) (n cap : Nat) (news : List Value) (w : World) (hl : news.length = n * 2) (hn : ∀ ad, a = some ad → ∀ j u, news[j]? = some u → w.cell? (ad.add j) = some u) (h0 : a = none → n = 0) (hb : ∀ ad, a = some ad → 0 < n → ad.block < w.heap.size) (h1 : ∀ u ∈ news, u.oneCell' = true) (hm : n ≤ 1048576) :
    Calls Tryz.prog 77 #[.slice a n cap] w fun e w' => ∃ v, e = .returned v ∧ World.ownsRow w' w.heap.size 61 2 v n news ∧ Below w.heap.size w w' := by
  obtain ⟨i0, hi, iz0, iz1, iz2⟩ := info_parts info_cap
  have q22 : ∀ (w : World) (a : Option Addr) (n c n' c' : Nat), (binOp .eql 28 (.slice a n c) (.slice none n' c')).run Tryz.prog w = .ok (.bool a.isNone) w := fun w a n c n' c' => Lib.run_eql_slice_nil w _ _ a n c n' c' Tryz.underlying28
  cases a with
  | none =>
    obtain rfl := h0 rfl
    obtain rfl : news = [] := List.length_eq_zero_iff.1 (by simpa using hl)
    clear hn h0 hb h1
    go_enter Tryz.func77, Tryz.ntmps77
    go_wp2
    go_ret
    exact ⟨_, rfl, own_none, Below.refl _ _⟩
  | some ad =>
    have Bz := hide ((Below.refl w.heap.size w).alloc (Nat.le_refl _) (.cells #[] 61))
    have HN : Hid (∀ j u, news[j]? = some u → (w.alloc (.cells #[] 61)).cell? (ad.add j) = some u) := fun j u hj => cell_later Bz.out (hn ad rfl j u hj)
    have HL := hide hl
    have H1 := hide h1
    clear hn h0 hb h1 hl
    go_enter Tryz.func77, Tryz.ntmps77
    go_wp2_with (first
      | (at_builtin; refine wpList_append_own _ rfl _ _ 28 rfl w.heap.size 61 i0 (.agg #[.string ⟨#[]⟩, .int .i64 0]) 2 24 Tryz.underlying28 hi iz0 iz1 iz2 rfl (by decide) _ 0 [] rfl (own_newE w 61 2) ad n cap news rfl HL.out HN.out H1.out (by unfold maxLen; omega) (by omega) (by simp) ?_; intro v' X hownE hgrowE hnilE; have OX := hide hownE; have GX := hide hgrowE; clear hownE hgrowE hnilE))
    go_ret
    refine ⟨v', rfl, ?_, below_grow (a := w) (w := w) (Nat.le_refl _) GX.out (fun q hq => by have he2 : some w.heap.size = some q := hq; simp at he2; omega)⟩
    simpa using OX.out

set_option maxRecDepth 100000 in
set_option maxHeartbeats 1600000 in
theorem cloneI_all (a : Option Addr) (n cap : Nat) (news : List Value) (w : World) (hl : news.length = n * 1) (hn : ∀ ad, a = some ad → ∀ j u, news[j]? = some u → w.cell? (ad.add j) = some u) (h0 : a = none → n = 0) (hb : ∀ ad, a = some ad → 0 < n → ad.block < w.heap.size) (h1 : ∀ u ∈ news, u.oneCell' = true) (hm : n ≤ 1048576) :
    Calls Tryz.prog 69 #[.slice a n cap] w fun e w' => ∃ v, e = .returned v ∧ World.ownsRow w' w.heap.size 3 1 v n news ∧ Below w.heap.size w w' := by
  obtain ⟨i0, hi, iz0, iz1, iz2⟩ := info_parts info_int
  have q22 : ∀ (w : World) (a : Option Addr) (n c n' c' : Nat), (binOp .eql 26 (.slice a n c) (.slice none n' c')).run Tryz.prog w = .ok (.bool a.isNone) w := fun w a n c n' c' => Lib.run_eql_slice_nil w _ _ a n c n' c' Tryz.underlying26
  cases a with
  | none =>
    obtain rfl := h0 rfl
    obtain rfl : news = [] := List.length_eq_zero_iff.1 (by simpa using hl)
    clear hn h0 hb h1
    go_enter Tryz.func69, Tryz.ntmps69
    go_wp2
    go_ret
    exact ⟨_, rfl, own_none, Below.refl _ _⟩
  | some ad =>
    have Bz := hide ((Below.refl w.heap.size w).alloc (Nat.le_refl _) (.cells #[] 3))
    have HN : Hid (∀ j u, news[j]? = some u → (w.alloc (.cells #[] 3)).cell? (ad.add j) = some u) := fun j u hj => cell_later Bz.out (hn ad rfl j u hj)
    have HL := hide hl
    have H1 := hide h1
    clear hn h0 hb h1 hl
    go_enter Tryz.func69, Tryz.ntmps69
    go_wp2_with (first
      | (at_builtin; refine wpList_append_own _ rfl _ _ 26 rfl w.heap.size 3 i0 (.int .i64 0) 1 8 Tryz.underlying26 hi iz0 iz1 iz2 rfl (by decide) _ 0 [] rfl (own_newE w 3 1) ad n cap news rfl HL.out HN.out H1.out (by unfold maxLen; omega) (by omega) (by simp) ?_; intro v' X hownE hgrowE hnilE; have OX := hide hownE; have GX := hide hgrowE; clear hownE hgrowE hnilE))
    go_ret
    refine ⟨v', rfl, ?_, below_grow (a := w) (w := w) (Nat.le_refl _) GX.out (fun q hq => by have he2 : some w.heap.size = some q := hq; simp at he2; omega)⟩
    simpa using OX.out

set_option maxRecDepth 100000 in
set_option maxHeartbeats 1600000 in
theorem cloneV_all (a : Option Addr) (n cap : Nat) (news : List Value) (w : World) (hl : news.length = n * 3) (hn : ∀ ad, a = some ad → ∀ j u, news[j]? = some u → w.cell? (ad.add j) = some u) (h0 : a = none → n = 0) (hb : ∀ ad, a = some ad → 0 < n → ad.block < w.heap.size) (h1 : ∀ u ∈ news, u.oneCell' = true) (hm : n ≤ 1048576) :
    Calls Tryz.prog 100 #[.slice a n cap] w fun e w' => ∃ v, e = .returned v ∧ World.ownsRow w' w.heap.size 98 3 v n news ∧ Below w.heap.size w w' := by
  obtain ⟨i0, hi, iz0, iz1, iz2⟩ := info_parts info_visit
  have q22 : ∀ (w : World) (a : Option Addr) (n c n' c' : Nat), (binOp .eql 63 (.slice a n c) (.slice none n' c')).run Tryz.prog w = .ok (.bool a.isNone) w := fun w a n c n' c' => Lib.run_eql_slice_nil w _ _ a n c n' c' Tryz.underlying63
  cases a with
  | none =>
    obtain rfl := h0 rfl
    obtain rfl : news = [] := List.length_eq_zero_iff.1 (by simpa using hl)
    clear hn h0 hb h1
    go_enter Tryz.func100, Tryz.ntmps100
    go_wp2
    go_ret
    exact ⟨_, rfl, own_none, Below.refl _ _⟩
  | some ad =>
    have Bz := hide ((Below.refl w.heap.size w).alloc (Nat.le_refl _) (.cells #[] 98))
    have HN : Hid (∀ j u, news[j]? = some u → (w.alloc (.cells #[] 98)).cell? (ad.add j) = some u) := fun j u hj => cell_later Bz.out (hn ad rfl j u hj)
    have HL := hide hl
    have H1 := hide h1
    clear hn h0 hb h1 hl
    go_enter Tryz.func100, Tryz.ntmps100
    go_wp2_with (first
      | (at_builtin; refine wpList_append_own _ rfl _ _ 63 rfl w.heap.size 98 i0 (.agg #[.string ⟨#[]⟩, .int .i64 0, .int .i64 0]) 3 32 Tryz.underlying63 hi iz0 iz1 iz2 rfl (by decide) _ 0 [] rfl (own_newE w 98 3) ad n cap news rfl HL.out HN.out H1.out (by unfold maxLen; omega) (by omega) (by simp) ?_; intro v' X hownE hgrowE hnilE; have OX := hide hownE; have GX := hide hgrowE; clear hownE hgrowE hnilE))
    go_ret
    refine ⟨v', rfl, ?_, below_grow (a := w) (w := w) (Nat.le_refl _) GX.out (fun q hq => by have he2 : some w.heap.size = some q := hq; simp at he2; omega)⟩
    simpa using OX.out

set_option maxRecDepth 100000 in
set_option maxHeartbeats 1600000 in
theorem cloneF_all (a : Option Addr) (n cap : Nat) (news : List Value) (w : World) (hl : news.length = n * 4) (hn : ∀ ad, a = some ad → ∀ j u, news[j]? = some u → w.cell? (ad.add j) = some u) (h0 : a = none → n = 0) (hb : ∀ ad, a = some ad → 0 < n → ad.block < w.heap.size) (h1 : ∀ u ∈ news, u.oneCell' = true) (hm : n ≤ 1048576) :
    Calls Tryz.prog 75 #[.slice a n cap] w fun e w' => ∃ v, e = .returned v ∧ World.ownsRow w' w.heap.size 65 4 v n news ∧ Below w.heap.size w w' := by
  obtain ⟨i0, hi, iz0, iz1, iz2⟩ := info_parts info_flight
  have q22 : ∀ (w : World) (a : Option Addr) (n c n' c' : Nat), (binOp .eql 30 (.slice a n c) (.slice none n' c')).run Tryz.prog w = .ok (.bool a.isNone) w := fun w a n c n' c' => Lib.run_eql_slice_nil w _ _ a n c n' c' Tryz.underlying30
  cases a with
  | none =>
    obtain rfl := h0 rfl
    obtain rfl : news = [] := List.length_eq_zero_iff.1 (by simpa using hl)
    clear hn h0 hb h1
    go_enter Tryz.func75, Tryz.ntmps75
    go_wp2
    go_ret
    exact ⟨_, rfl, own_none, Below.refl _ _⟩
  | some ad =>
    have Bz := hide ((Below.refl w.heap.size w).alloc (Nat.le_refl _) (.cells #[] 65))
    have HN : Hid (∀ j u, news[j]? = some u → (w.alloc (.cells #[] 65)).cell? (ad.add j) = some u) := fun j u hj => cell_later Bz.out (hn ad rfl j u hj)
    have HL := hide hl
    have H1 := hide h1
    clear hn h0 hb h1 hl
    go_enter Tryz.func75, Tryz.ntmps75
    go_wp2_with (first
      | (at_builtin; refine wpList_append_own _ rfl _ _ 30 rfl w.heap.size 65 i0 (.agg #[.string ⟨#[]⟩, .int .i64 0, .int .i64 0, .slice none 0 0]) 4 56 Tryz.underlying30 hi iz0 iz1 iz2 rfl (by decide) _ 0 [] rfl (own_newE w 65 4) ad n cap news rfl HL.out HN.out H1.out (by unfold maxLen; omega) (by omega) (by simp) ?_; intro v' X hownE hgrowE hnilE; have OX := hide hownE; have GX := hide hgrowE; clear hownE hgrowE hnilE))
    go_ret
    refine ⟨v', rfl, ?_, below_grow (a := w) (w := w) (Nat.le_refl _) GX.out (fun q hq => by have he2 : some w.heap.size = some q := hq; simp at he2; omega)⟩
    simpa using OX.out

theorem addr_of {n : Nat} {a : Option Addr} (h : ∀ i, i < n → ∃ b off, a = some ⟨b, off, none⟩) : a = none → n = 0 := fun e => by
  rcases Nat.eq_zero_or_pos n with h0 | h0
  · exact h0
  · obtain ⟨b, off, e'⟩ := h 0 h0
    rw [e] at e'
    cases e'
theorem cloneI_any (a : Option Addr) (cap : Nat) (zs : List Int) (w : World) (hc : IntsIn w a zs) (hl : zs.length ≤ 1048576) :
    Calls Tryz.prog 69 #[.slice a zs.length cap] w fun e w' => ∃ v, e = .returned v ∧ OwnI w' w.heap.size v zs ∧ Below w.heap.size w w' := by
  refine cloneI_all a zs.length cap (intVals zs) w (intVals_len zs) (fun ad e j u hj => ?_) (addr_of fun i hi => (hc i hi).elim fun b hb => hb.elim fun off h => ⟨b, off, h.1⟩) (fun ad e h0 => ?_) (intVals_one zs) hl
  · have h1 : 1 ≤ zs.length := by
      rcases Nat.eq_zero_or_pos zs.length with h0 | h0
      · rw [List.length_eq_zero_iff.1 h0] at hj; simp [intVals] at hj
      · exact h0
    obtain ⟨b, off, e', _, hn⟩ := ints_news hc h1
    rw [e] at e'
    cases e'
    exact hn j u hj
  · obtain ⟨b, off, e', hlt, _⟩ := hc 0 h0
    rw [e] at e'
    cases e'
    exact hlt
theorem cloneC_any (a : Option Addr) (cap : Nat) (cs : List (ByteArray × Int)) (w : World) (hc : CapsIn w a cs) (hl : cs.length ≤ 1048576) :
    Calls Tryz.prog 77 #[.slice a cs.length cap] w fun e w' => ∃ v, e = .returned v ∧ OwnC w' w.heap.size v cs ∧ Below w.heap.size w w' := by
  refine cloneC_all a cs.length cap (capVals cs) w (capVals_len cs) (fun ad e j u hj => ?_) (addr_of fun i hi => (hc i hi).elim fun b hb => hb.elim fun off h => ⟨b, off, h.1⟩) (fun ad e h0 => ?_) (capVals_one cs) hl
  · have h1 : 1 ≤ cs.length := by
      rcases Nat.eq_zero_or_pos cs.length with h0 | h0
      · rw [List.length_eq_zero_iff.1 h0] at hj; simp [capVals] at hj
      · exact h0
    obtain ⟨b, off, e', hn⟩ := caps_news hc h1
    rw [e] at e'
    cases e'
    exact hn j u hj
  · obtain ⟨b, off, e', hlt, _⟩ := hc 0 h0
    rw [e] at e'
    cases e'
    exact hlt
theorem cloneV_any (a : Option Addr) (cap : Nat) (vs : List Vis) (w : World) (hc : VisitsIn w a vs) (hl : vs.length ≤ 1048576) :
    Calls Tryz.prog 100 #[.slice a vs.length cap] w fun e w' => ∃ v, e = .returned v ∧ OwnV w' w.heap.size v vs ∧ Below w.heap.size w w' := by
  refine cloneV_all a vs.length cap (visVals vs) w (visVals_len vs) (fun ad e j u hj => ?_) (addr_of fun i hi => (hc i hi).elim fun b hb => hb.elim fun off h => ⟨b, off, h.1⟩) (fun ad e h0 => ?_) (visVals_one vs) hl
  · have h1 : 1 ≤ vs.length := by
      rcases Nat.eq_zero_or_pos vs.length with h0 | h0
      · rw [List.length_eq_zero_iff.1 h0] at hj; simp [visVals] at hj
      · exact h0
    obtain ⟨b, off, e', hn⟩ := vis_news hc h1
    rw [e] at e'
    cases e'
    exact hn j u hj
  · obtain ⟨b, off, e', hlt, _⟩ := hc 0 h0
    rw [e] at e'
    cases e'
    exact hlt
theorem cloneF_any (a : Option Addr) (cap : Nat) (fs : List Fli) (w : World) (hc : FlightsIn w a fs) (hl : fs.length ≤ 1048576) :
    Calls Tryz.prog 75 #[.slice a fs.length cap] w fun e w' => ∃ v gs, e = .returned v ∧ gs.map Prod.fst = fs ∧ (∀ x ∈ gs, VisitsIn w x.2.1 x.1.2.2.2) ∧ World.ownsRow w' w.heap.size 65 4 v gs.length (flVals gs) ∧ Below w.heap.size w w' := by
  obtain ⟨gs, h1, h2, h3⟩ := fl_open hc
  have hlen : gs.length = fs.length := by rw [← h1, List.length_map]
  rw [← hlen]
  rw [← hlen] at hl
  refine (cloneF_all a gs.length cap (flVals gs) w (flVals_len gs) h3 (addr_of fun i hi => (hc i (by omega)).elim fun b hb => hb.elim fun off h => ⟨b, off, h.1⟩) (fun ad e h0 => ?_) (flVals_one gs) hl).mono fun e w' ⟨v, e1, e2, e3⟩ => ⟨v, gs, e1, h1, h2, e2, e3⟩
  obtain ⟨b, off, e', hlt, _⟩ := hc 0 (by omega)
  rw [e] at e'
  cases e'
  exact hlt

end Go.Proofs.YtmmpopnglbjieabGreat
