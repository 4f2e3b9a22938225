/- The order of flights, as the document's model reckons it. -/
import Derived.Test.YtciacofibljmoaaGreatDoorDraws
namespace Go.Proofs.YtciacofibljmoaaGreatDoor
open Go.RowKit

attribute [local go_sem ↓] Go.wp_at_zero Go.wp_at_succ

theorem step_append_own {P : Program} {w : World} {ops : Array Oper} {o : Oper} {a : Act} {K : Act → World → Prop} {Q : Exit → Act → World → Prop} {E : Prop} (hgd : o.guard = none) (s x : Operand) (t : TypeId)
    (ho : o.op = .call { callee := .builtin .append, args := #[s, x], argTypes := #[t, t] })
    (base : Nat) (e : TypeId) (i : TypeInfo) (z : Value) (size bytes : Nat) (ht : P.underlying t = some (.slice e)) (hi : P.info? e = some i) (hz : i.zero = some z)
    (hsize : i.size = size) (hby : i.bytes = bytes) (hzs : z.cells.size = size) (hsz : 0 < size)
    (v : Value) (n : Nat) (xs : List Value) (hs : a.eval s = v) (hown : w.ownsRow base e size v n xs)
    (ad : Addr) (m c : Nat) (news : List Value) (hx : a.eval x = .slice (some ad) m c) (hl : news.length = m * size) (hnews : ∀ j u, news[j]? = some u → w.cell? (ad.add j) = some u) (h1 : ∀ u ∈ news, u.oneCell' = true)
    (h63 : n + m ≤ maxLen) (hbytes : (n + m) * bytes ≤ 140737488355328) (hbase : base ≤ w.heap.size)
    (h : ∀ v' w', w'.ownsRow base e size v' (n + m) (xs ++ news) → w.grownBy w' v.ownBlock → (v' = .slice none 0 0 ↔ v = .slice none 0 0 ∧ m = 0) → K (a.put o.dst v') w') :
    if Region.wanted o (yielded ops a.tmps) = true then Oper.wp P o a w K Q else E := by
  have hw : Region.wanted o (yielded ops a.tmps) = true := by simp [Region.wanted, hgd]
  rw [if_pos hw]
  exact wp_append_own w s x t ho base e i z size bytes ht hi hz hsize hby hzs hsz v n xs hs hown ad m c news hx hl hnews h1 h63 hbytes hbase h

theorem plain_add' (b off j : Nat) : (⟨b, off, none⟩ : Addr).add j = ⟨b, off + j, none⟩ := by
  by_cases hz : j = 0
  · subst hz; rfl
  · simp [Addr.add, hz]
theorem ints_news {w : World} {a : Option Addr} {zs : List Int} (h : IntsIn w a zs) (h1 : 1 ≤ zs.length) : ∃ b off, a = some ⟨b, off, none⟩ ∧ b < w.heap.size ∧ ∀ j u, (intVals zs)[j]? = some u → w.cell? ((⟨b, off, none⟩ : Addr).add j) = some u := by
  obtain ⟨b, off, e, hb, _⟩ := h 0 (by omega)
  refine ⟨b, off, e, hb, fun j u hj => ?_⟩
  have hlt : j < (intVals zs).length := by
    rcases Nat.lt_or_ge j (intVals zs).length with hh | hh
    · exact hh
    · rw [List.getElem?_eq_none hh] at hj; simp at hj
  have hi : j < zs.length := by simpa [intVals] using hlt
  obtain ⟨b', off', e', _, c0⟩ := h j hi
  rw [e] at e'
  simp at e'
  obtain ⟨rfl, rfl⟩ := e'
  rw [plain_add', c0]
  rw [← hj]
  simp [intVals, hi]
theorem intVals_one (zs : List Int) : ∀ u ∈ intVals zs, u.oneCell' = true := fun u hu => by
  obtain ⟨z, _, rfl⟩ := List.mem_map.1 hu
  rfl
theorem intVals_len (zs : List Int) : (intVals zs).length = zs.length * 1 := by simp [intVals]
theorem intVals_set (zs : List Int) (k : Nat) (z : Int) : (intVals zs).set k (.int .i64 z) = intVals (zs.set k z) := by
  unfold intVals; rw [List.map_set]
theorem own_setI {w : World} {base g n cp : Nat} {zs : List Int} (h : OwnI w base (.slice (some ⟨g, 0, none⟩) n cp) zs) {k : Nat} (z : Int) :
    OwnI (w.setCell ⟨g, k, none⟩ (.int .i64 z)) base (.slice (some ⟨g, 0, none⟩) n cp) (zs.set k z) := by
  obtain ⟨_, _, e, _, _⟩ := owns_slice h
  simp at e
  obtain ⟨_, rfl, _⟩ := e
  have hs := (World.ownsRow.stored h k (.int .i64 z)).1
  rw [intVals_set zs k z] at hs
  unfold OwnI
  rw [List.length_set]
  exact hs
theorem own_cellI {w : World} {base g n c : Nat} {zs : List Int} (h : OwnI w base (.slice (some ⟨g, 0, none⟩) n c) zs) {k : Nat} (hk : k < zs.length) :
    w.cell? ⟨g, k, none⟩ = some (.int .i64 zs[k]) ∧ w.frozen? ⟨g, k, none⟩ = false := by
  obtain ⟨a', c', e, _, _, _, hc⟩ := owns_slice h
  simp at e
  obtain ⟨rfl, _, _⟩ := e
  obtain ⟨g', e', _, _, c1, c2⟩ := hc k (.int .i64 zs[k]) (by simp [intVals, hk])
  simp at e'
  subst e'
  exact ⟨c1, c2⟩

/-- The one at place j goes ahead of the one at place i, or with it. -/
def goesB (fs : List Fli) (i j : Nat) : Bool :=
  decide ((fs.getD j (ByteArray.empty, 0, 0, [])).2.1 < (fs.getD i (ByteArray.empty, 0, 0, [])).2.1) || (((fs.getD j (ByteArray.empty, 0, 0, [])).2.1 == (fs.getD i (ByteArray.empty, 0, 0, [])).2.1) && (Op.bytesLess (fs.getD j (ByteArray.empty, 0, 0, [])).1.toList (fs.getD i (ByteArray.empty, 0, 0, [])).1.toList || ((fs.getD j (ByteArray.empty, 0, 0, [])).1.toList == (fs.getD i (ByteArray.empty, 0, 0, [])).1.toList)))
def ordIns (fs : List Fli) (os : List Nat) (i : Nat) : List Nat := os.takeWhile (goesB fs i) ++ i :: os.dropWhile (goesB fs i)
def ordTo (fs : List Fli) (k : Nat) : List Nat := (List.range k).foldl (ordIns fs) []
theorem ordTo_succ (fs : List Fli) (k : Nat) : ordTo fs (k + 1) = ordIns fs (ordTo fs k) k := by simp [ordTo, List.range_succ]
theorem ordIns_len (fs : List Fli) (os : List Nat) (i : Nat) : (ordIns fs os i).length = os.length + 1 := by
  unfold ordIns
  have := congrArg List.length (List.takeWhile_append_dropWhile (p := goesB fs i) (l := os))
  simp only [List.length_append, List.length_cons] at *
  omega
theorem ordTo_len (fs : List Fli) : ∀ k, (ordTo fs k).length = k
  | 0 => rfl
  | k + 1 => by rw [ordTo_succ, ordIns_len, ordTo_len fs k]
theorem ordIns_mem (fs : List Fli) (os : List Nat) (i x : Nat) (h : x ∈ ordIns fs os i) : x = i ∨ x ∈ os := by
  unfold ordIns at h
  rcases List.mem_append.1 h with h | h
  · exact .inr (List.takeWhile_subset _ h)
  · rcases List.mem_cons.1 h with h | h
    · exact .inl h
    · exact .inr (List.dropWhile_subset _ h)
theorem ordTo_lt (fs : List Fli) : ∀ k, ∀ x ∈ ordTo fs k, x < k
  | 0, x, h => by simp [ordTo] at h
  | k + 1, x, h => by
    rw [ordTo_succ] at h
    rcases ordIns_mem fs _ _ _ h with rfl | h
    · omega
    · have := ordTo_lt fs k x h
      omega
/-- Where all ahead of k go and k doesn't, or there is none: the one is put in at k. -/
theorem ordIns_at (fs : List Fli) (os : List Nat) (i k : Nat) (hk : k ≤ os.length) (h1 : ∀ j (hj : j < os.length), j < k → goesB fs i os[j] = true) (h2 : ∀ hj : k < os.length, goesB fs i os[k] = false) : ordIns fs os i = os.take k ++ i :: os.drop k := by
  have ht : os.takeWhile (goesB fs i) = os.take k ∧ os.dropWhile (goesB fs i) = os.drop k := by
    induction os generalizing k with
    | nil => simp at hk; subst hk; simp
    | cons x l ih =>
      cases k with
      | zero =>
        have := h2 (by simp)
        simp at this
        simp [this]
      | succ k =>
        have h0 := h1 0 (by simp) (by omega)
        simp at h0
        have := ih k (by simpa using hk) (fun j hj hjk => h1 (j + 1) (by simpa using hj) (by omega)) (fun hj => h2 (by simpa using hj))
        simp [h0, this.1, this.2]
  unfold ordIns
  rw [ht.1, ht.2]
/-- The one at place m of os goes ahead of the one at place i of the flights, or with it. -/
def goesAt (fs : List Fli) (os : List Nat) (i m : Nat) : Bool := decide (m < os.length) && goesB fs i (os.getD m 0)
/-- Places, as numbers. -/
def nums (os : List Nat) : List Int := os.map fun (j : Nat) => (j : Int)

theorem own_empty_at (W : World) (base B : Nat) (hB : W.heap.size = B) (hb : base ≤ B) : World.ownsRow (W.alloc (.cells #[] 3)) base 3 1 (.slice (some ⟨B, 0, none⟩) 0 0) 0 [] := by
  subst hB
  exact owns_base (own_emptyI W) hb
theorem cell_one_at (W : World) (B : Nat) (hB : W.heap.size = B) (a : Value) (t : TypeId) : ∀ j u, [a][j]? = some u → (W.alloc (.cells #[a] t)).cell? ((⟨B, 0, none⟩ : Addr).add j) = some u := by
  subst hB
  exact cell_one_new W a t
theorem belA (w : World) (o : Obj) : Below w.heap.size w (w.alloc o).drew := ((Below.refl _ _).alloc (Nat.le_refl _) o).drew
theorem belB (w : World) (o o' : Obj) : Below w.heap.size w ((w.alloc o).alloc o').drew := (((Below.refl _ _).alloc (Nat.le_refl _) o).alloc (by simp) o').drew
theorem row1 (w : World) : World.ownsRow (w.alloc (.cells #[] 3)).drew w.heap.size 3 1 (.slice (some ⟨w.heap.size, 0, none⟩) 0 0) 0 [] := own_empty_at w _ _ rfl (Nat.le_refl _)
theorem row2 (w : World) (o : Obj) : World.ownsRow ((w.alloc (.cells #[] 3)).alloc o).drew w.heap.size 3 1 (.slice (some ⟨w.heap.size, 0, none⟩) 0 0) 0 [] := World.ownsRow.alloc (own_empty_at w _ _ rfl (Nat.le_refl _)) o
theorem row3 (w : World) (o : Obj) : World.ownsRow ((w.alloc o).alloc (.cells #[] 3)).drew w.heap.size 3 1 (.slice (some ⟨w.heap.size + 1, 0, none⟩) 0 0) 0 [] := own_empty_at (w.alloc o) _ _ (by simp) (Nat.le_succ _)
theorem cell2 (w : World) (a : Value) : ∀ j u, [a][j]? = some u → ((w.alloc (.cells #[] 3)).alloc (.cells #[a] 3)).drew.cell? ((⟨w.heap.size + 1, 0, none⟩ : Addr).add j) = some u := cell_one_at (w.alloc (.cells #[] 3)) (w.heap.size + 1) (by simp) a _
theorem cell3 (w : World) (a : Value) : ∀ j u, [a][j]? = some u → ((w.alloc (.cells #[a] 3)).alloc (.cells #[] 3)).drew.cell? ((⟨w.heap.size, 0, none⟩ : Addr).add j) = some u := fun j u hj => cell_later (wx := ((w.alloc (.cells #[a] 3)).alloc (.cells #[] 3))) ((Below.refl _ _).alloc (Nat.le_refl _) _) (cell_one_at w w.heap.size rfl a _ j u hj)
theorem hi2 {w w1 : World} {a : Value} (hg : ((w.alloc (.cells #[] 3)).alloc (.cells #[a] 3)).drew.grownBy w1 (Value.slice (some ⟨w.heap.size, 0, none⟩) 0 0).ownBlock) : ∀ j u, [a][j]? = some u → w1.cell? ((⟨w.heap.size + 1, 0, none⟩ : Addr).add j) = some u := fun j u hj => by
  have h := cell2 w a j u hj
  rw [plain_add] at h ⊢
  exact World.grownBy.cell hg h (by simp [Value.ownBlock])
theorem hi3 {w w1 : World} {a : Value} (hg : ((w.alloc (.cells #[a] 3)).alloc (.cells #[] 3)).drew.grownBy w1 (Value.slice (some ⟨w.heap.size + 1, 0, none⟩) 0 0).ownBlock) : ∀ j u, [a][j]? = some u → w1.cell? ((⟨w.heap.size, 0, none⟩ : Addr).add j) = some u := fun j u hj => by
  have h := cell3 w a j u hj
  rw [plain_add] at h ⊢
  exact World.grownBy.cell hg h (by simp [Value.ownBlock])
theorem own_join {w3 : World} {B B' : Nat} {v3 : Value} {os : List Nat} {m k : Nat} (h : w3.ownsRow B 3 1 v3 (0 + m + 1 + (k - m)) ([] ++ intVals (nums (os.take m)) ++ [.int .i64 (k : Nat)] ++ intVals (nums (os.drop m)))) (hb : B' ≤ B) (hm : m ≤ k) (hos : os.length = k) :
    ∃ g3 cp3, v3 = .slice (some ⟨g3, 0, none⟩) (k + 1) cp3 ∧ OwnI w3 B' v3 (nums (os.take m ++ k :: os.drop m)) := by
  have e : [] ++ intVals (nums (os.take m)) ++ [.int .i64 (k : Nat)] ++ intVals (nums (os.drop m)) = intVals (nums (os.take m ++ k :: os.drop m)) := by simp [intVals, nums]
  have e2 : 0 + m + 1 + (k - m) = (nums (os.take m ++ k :: os.drop m)).length := by simp [nums]; omega
  have hk1 : (nums (os.take m ++ k :: os.drop m)).length = k + 1 := by rw [← e2]; omega
  rw [e, e2] at h
  have h' : OwnI w3 B' v3 (nums (os.take m ++ k :: os.drop m)) := owns_base h hb
  obtain ⟨a, cp, rfl, _, _, hin, hp⟩ := OwnI.form h'
  obtain ⟨b, off, rfl, _⟩ := hin 0 (by omega)
  have := (hp _ rfl).1
  simp at this
  subst this
  exact ⟨b, cp, by rw [hk1], h'⟩
theorem below_seq {a b c : World} (h : Below a.heap.size a b) (h' : Below b.heap.size b c) : Below a.heap.size a c := h.trans (h'.mono h.size)
/-- What an append takes of a row, in every later world. -/
theorem src_at {w : World} {base g n cp : Nat} {os : List Nat} (h : OwnI w base (.slice (some ⟨g, 0, none⟩) n cp) (nums os)) (hos : os.length = n) (m : Nat) (hm : m ≤ n) : ∀ W : World, Below w.heap.size w W →
    (∀ j u, (intVals (nums (os.take m)))[j]? = some u → W.cell? ((⟨g, 0, none⟩ : Addr).add j) = some u) ∧ ∀ j u, (intVals (nums (os.drop m)))[j]? = some u → W.cell? ((⟨g, m, none⟩ : Addr).add j) = some u := fun W hW => by
  have key : ∀ j (hj : j < os.length), W.cell? ⟨g, j, none⟩ = some (.int .i64 (os[j] : Nat)) := fun j hj => by
    have := cell_later hW (own_cellI h (k := j) (by simpa [nums] using hj)).1
    rw [this]
    simp [nums]
  constructor
  · intro j u hj
    rw [plain_add', Nat.zero_add]
    have hl : j < (intVals (nums (os.take m))).length := by
      rcases Nat.lt_or_ge j (intVals (nums (os.take m))).length with hh | hh
      · exact hh
      · rw [List.getElem?_eq_none hh] at hj; simp at hj
    simp [intVals, nums] at hl
    rw [key j (by omega), ← hj]
    simp [intVals, nums, hl]
    try (rw [List.getElem?_eq_getElem (by omega)]; simp)
  · intro j u hj
    rw [plain_add']
    have hl : j < (intVals (nums (os.drop m))).length := by
      rcases Nat.lt_or_ge j (intVals (nums (os.drop m))).length with hh | hh
      · exact hh
      · rw [List.getElem?_eq_none hh] at hj; simp at hj
    simp [intVals, nums] at hl
    rw [key (m + j) (by omega), ← hj]
    simp [intVals, nums, List.getElem?_drop]
    try (rw [List.getElem?_eq_getElem (by omega)]; simp)

set_option maxRecDepth 100000 in
set_option maxHeartbeats 8000000 in
theorem specOrder_any (a : Option Addr) (cap : Nat) (fs : List Fli) (w : World) (hc : FlightsIn w a fs) (hl : fs.length ≤ 1048576) :
    Calls Tryz.prog 68 #[.slice a fs.length cap] w fun e w' => ∃ v, e = .returned v ∧ OwnI w' w.heap.size v (nums (ordTo fs fs.length)) ∧ Below w.heap.size w w' := by
  obtain ⟨i0, hi, iz0, iz1, iz2⟩ := info_parts info_int
  have HC := hide hc
  clear hc
  go_enter Tryz.func68, Tryz.ntmps68
  go_wp2
  go_loopw [3, 4] (fun v i wr => ∃ (k g cp : Nat), k ≤ fs.length ∧ i = .int .i64 k ∧ v = .slice (some ⟨g, 0, none⟩) k cp ∧ Hid (OwnI wr w.heap.size v (nums (ordTo fs k))) ∧ Hid (Below w.heap.size w wr)) (fun _ i _ => fs.length - (RowKit.intOf i).toNat)
  case atStart => exact ⟨0, w.heap.size, 0, Nat.zero_le _, rfl, rfl, own_emptyI w, (Below.refl _ _).alloc (Nat.le_refl _) _⟩
  case round =>
    obtain ⟨k, g, cp, hk, rfl, rfl, HO, HB⟩ := hrel
    by_cases hlt : k < fs.length
    · have hlt' : (k : Int) < (fs.length : Int) := by omega
      obtain ⟨b, off, rfl, _⟩ := HC.out k hlt
      generalize ho : ordTo fs k = os at HO
      have hos : os.length = k := by rw [← ho]; exact ordTo_len fs k
      have HLT : Hid (∀ x ∈ os, x < k) := by rw [← ho]; exact ordTo_lt fs k
      have HOS := hide ho
      clear ho
      go_wp2
      go_loopw [5] (fun t wx => ∃ (m : Nat), m ≤ k ∧ t = .int .i64 m ∧ Hid (OwnI wx w.heap.size (.slice (some ⟨g, 0, none⟩) k cp) (nums os)) ∧ Hid (Below w.heap.size w wx) ∧ Hid (∀ j (hj : j < os.length), j < m → goesB fs k os[j] = true)) (fun t _ => k - (RowKit.intOf t).toNat)
      case atStart => exact ⟨0, Nat.zero_le _, rfl, HO.out, HB.out, fun j _ hj => by omega⟩
      case round =>
        obtain ⟨m, hm, rfl, OX, BX, HG⟩ := hrel
        clear HO HB
        rename_i wx
        have k0 : (0 : Int) ≤ (k : Int) := by omega
        have m0 : (0 : Int) ≤ (m : Int) := by omega
        go_upto_region 6 with fail
        go_cut [64] from 13 to 66 (fun c wy => c = .bool (goesAt fs os k m) ∧ Hid (OwnI wy w.heap.size (.slice (some ⟨g, 0, none⟩) k cp) (nums os)) ∧ Hid (Below w.heap.size w wy))
        case first =>
          by_cases hmk : m < k
          · have hmk' : (m : Int) < (k : Int) := by omega
            have cm := (own_cellI OX.out (k := m) (by simp [nums]; omega)).1
            have hnm : (nums os)[m]'(by simp [nums]; omega) = ((os[m]'(by omega) : Nat) : Int) := by simp [nums]
            rw [hnm] at cm
            have hjl := HLT.out _ (List.getElem_mem (show m < os.length by omega))
            generalize hj : os[m]'(by omega) = j at cm hjl
            have hjf : j < fs.length := by omega
            obtain ⟨b', off', hb', hblt', f0, f1, _⟩ := HC.out.later BX.out j hjf
            simp at hb'
            obtain ⟨rfl, rfl⟩ := hb'
            obtain ⟨b', off', hb', hblt', e0, e1, _⟩ := HC.out.later BX.out k hlt
            simp at hb'
            obtain ⟨rfl, rfl⟩ := hb'
            have j0 : (0 : Int) ≤ (j : Int) := by omega
            have j1 : (j : Int) < (fs.length : Int) := by omega
            have HGB : Hid (goesAt fs os k m = (decide (fs[j].2.1 < fs[k].2.1) || ((fs[j].2.1 == fs[k].2.1) && (Op.bytesLess fs[j].1.toList fs[k].1.toList || (fs[j].1.toList == fs[k].1.toList))))) := by
              show _ = _
              unfold goesAt goesB
              rw [getD_at os m _ (by omega), hj, getD_at fs j _ (by omega), getD_at fs k _ hlt, decide_eq_true (show m < os.length by omega), Bool.true_and]
            clear hnm hj
            generalize fs[j] = fj at f0 f1 HGB
            generalize fs[k] = fk at e0 e1 HGB
            by_cases hp : fj.2.1 < fk.2.1
            · have hpd : decide (fj.2.1 < fk.2.1) = true := decide_eq_true hp
              have HT : Hid (goesAt fs os k m = true) := by show _ = _; rw [HGB.out, hpd]; rfl
              go_quiet (fail)
              go_wp2
              go_meet
              case rel => exact ⟨by rw [HT.out]; try rw [hz], OX.out, Go.below_drewN BX.out _⟩
            · have hpd : decide (fj.2.1 < fk.2.1) = false := decide_eq_false hp
              by_cases hq : fj.2.1 = fk.2.1
              · have hqd : (fj.2.1 == fk.2.1) = true := by rw [hq]; simp
                cases hz : (Op.bytesLess fj.1.toList fk.1.toList || (fj.1.toList == fk.1.toList)) with
                | false =>
                  have HT : Hid (goesAt fs os k m = false) := by show _ = _; rw [HGB.out, hpd, hqd, hz]; rfl
                  go_quiet (fail)
                  go_wp2
                  go_meet
                  case rel => exact ⟨by rw [HT.out]; try rw [hz], OX.out, Go.below_drewN BX.out _⟩
                | true =>
                  have HT : Hid (goesAt fs os k m = true) := by show _ = _; rw [HGB.out, hpd, hqd, hz]; rfl
                  go_quiet (fail)
                  go_wp2
                  go_meet
                  case rel => exact ⟨by rw [HT.out]; try rw [hz], OX.out, Go.below_drewN BX.out _⟩
              · have hqd : (fj.2.1 == fk.2.1) = false := beq_eq_false_iff_ne.2 hq
                have HT : Hid (goesAt fs os k m = false) := by show _ = _; rw [HGB.out, hpd, hqd]; rfl
                go_quiet (fail)
                go_wp2
                go_meet
                case rel => exact ⟨by rw [HT.out]; try rw [hz], OX.out, Go.below_drewN BX.out _⟩
          · have hmk' : ¬ (m : Int) < (k : Int) := by omega
            have HT : Hid (goesAt fs os k m = false) := by show _ = _; unfold goesAt; rw [decide_eq_false (show ¬ m < os.length by omega)]; rfl
            go_quiet (fail)
            go_wp2
            go_meet
            case rel => exact ⟨by rw [HT.out]; try rw [hz], OX.out, Go.below_drewN BX.out _⟩
        case rest =>
          obtain ⟨rfl, OY, BY⟩ := hcut
          clear OX BX
          cases hg : goesAt fs os k m with
          | true =>
            have HGT := hide hg
            have hmk : m < k := by
              unfold goesAt at hg
              simp only [Bool.and_eq_true, decide_eq_true_eq] at hg
              omega
            clear hg
            go_wp2
            go_roundw
            case rel => exact ⟨m + 1, by omega, by go_num, OY.out, BY.out, fun j hj hjm => by
              by_cases he : j = m
              · subst he
                have := HGT.out
                unfold goesAt at this
                rw [getD_at os j _ hj] at this
                simp only [Bool.and_eq_true] at this
                exact this.2
              · exact HG.out j hj (by omega)⟩
            case measure => simp [RowKit.intOf]; omega
          | false =>
            have HGT := hide hg
            clear hg
            go_upto_region 8 with fail
            obtain ⟨hgb, hgl⟩ := World.ownsRow.lt OY.out g rfl
            obtain ⟨_, _, e9, hkc, hcm, _⟩ := OwnI.form OY.out
            simp [nums, hos] at e9
            obtain ⟨rfl, rfl⟩ := e9
            simp [nums, hos] at hkc
            have hws := BY.out.size
            have m1 : (m : Int) ≤ (k : Int) := by omega
            have m2 : (m : Int) ≤ (cp : Int) := by omega
            have m3 : (k : Int) ≤ (cp : Int) := by omega
            have m4 : m ≤ cp := by omega
            have HE : Hid (ordTo fs (k + 1) = os.take m ++ k :: os.drop m) := by
              show _ = _
              rw [ordTo_succ, HOS.out]
              refine ordIns_at fs os k m (by omega) HG.out (fun hj => ?_)
              have := HGT.out
              unfold goesAt at this
              rw [getD_at os m _ hj, decide_eq_true hj, Bool.true_and] at this
              exact this
            have SRC := hide (src_at OY.out hos m (by omega))
            obtain ⟨AD, HAD, SRC2⟩ : ∃ AD : Addr, Hid ((if cp = m then some (⟨g, 0, none⟩ : Addr) else some ⟨g, m, none⟩) = some AD) ∧ Hid (∀ W : World, Below wc.heap.size wc W → ∀ j u, (intVals (nums (os.drop m)))[j]? = some u → W.cell? (AD.add j) = some u) := by
              by_cases hcm : cp = m
              · refine ⟨⟨g, 0, none⟩, ?_, fun W hW j u hj => ?_⟩
                · show _ = _; rw [if_pos hcm]
                · rw [List.drop_eq_nil_of_le (by omega)] at hj
                  simp [nums, intVals] at hj
              · refine ⟨⟨g, m, none⟩, ?_, fun W hW => (SRC.out W hW).2⟩
                show _ = _; rw [if_neg hcm]
            clear HG HGT
            have L71 : Hid ((intVals (nums (os.take m))).length = m * 1) := by show _ = _; simp [nums, intVals]; omega
            have L78 : Hid ((intVals (nums (os.drop m))).length = (k - m) * 1) := by show _ = _; simp [nums, intVals, hos]
            have M71 : Hid (0 + m ≤ maxLen) := by show _ ≤ _; unfold maxLen; omega
            have N71 : Hid ((0 + m) * 8 ≤ 140737488355328) := by show _ ≤ _; omega
            have M74 : Hid (0 + m + 1 ≤ maxLen) := by show _ ≤ _; unfold maxLen; omega
            have N74 : Hid ((0 + m + 1) * 8 ≤ 140737488355328) := by show _ ≤ _; omega
            have M78 : Hid (0 + m + 1 + (k - m) ≤ maxLen) := by show _ ≤ _; unfold maxLen; omega
            have N78 : Hid ((0 + m + 1 + (k - m)) * 8 ≤ 140737488355328) := by show _ ≤ _; omega
            go_region_held3 (fun _ => True) (trivial)
              (first
                | (refine step_append_own (by rfl) _ _ 27 (by rfl) wc.heap.size 3 i0 (.int .i64 0) 1 8 Tryz.underlying27 hi iz0 iz1 iz2 (by rfl) (by decide) (.slice (some ⟨wc.heap.size, 0, none⟩) 0 0) 0 [] (by rfl) (row1 wc) ⟨g, 0, none⟩ m cp (intVals (nums (os.take m))) (by rfl) L71.out (SRC.out _ (belA wc _)).1 (intVals_one _) M71.out N71.out (belA wc _).size ?_; intro v1 w1 hown1 hgrow1 hnil1; have BW1 := hide (Below.grown (belA wc _) hgrow1 (belA wc _).size (fun q hq => (World.ownsRow.lt (row1 wc) q hq).1)); have OW1 := hide hown1; clear hown1 hgrow1 hnil1)
                | (refine step_append_own (by rfl) _ _ 27 (by rfl) wc.heap.size 3 i0 (.int .i64 0) 1 8 Tryz.underlying27 hi iz0 iz1 iz2 (by rfl) (by decide) (.slice (some ⟨wc.heap.size, 0, none⟩) 0 0) 0 [] (by rfl) (row2 wc (.cells #[.int .i64 (k : Nat)] 3)) ⟨g, 0, none⟩ m cp (intVals (nums (os.take m))) (by rfl) L71.out (SRC.out _ (belB wc _ _)).1 (intVals_one _) M71.out N71.out (belB wc _ _).size ?_; intro v1 w1 hown1 hgrow1 hnil1; have BW1 := hide (Below.grown (belB wc _ _) hgrow1 (belB wc _ _).size (fun q hq => (World.ownsRow.lt (row2 wc (.cells #[.int .i64 (k : Nat)] 3)) q hq).1)); have OW1 := hide hown1; have hi1 := hide (hi2 hgrow1); clear hown1 hgrow1 hnil1)
                | (refine step_append_own (by rfl) _ _ 27 (by rfl) wc.heap.size 3 i0 (.int .i64 0) 1 8 Tryz.underlying27 hi iz0 iz1 iz2 (by rfl) (by decide) (.slice (some ⟨wc.heap.size + 1, 0, none⟩) 0 0) 0 [] (by rfl) (row3 wc (.cells #[.int .i64 (k : Nat)] 3)) ⟨g, 0, none⟩ m cp (intVals (nums (os.take m))) (by rfl) L71.out (SRC.out _ (belB wc _ _)).1 (intVals_one _) M71.out N71.out (belB wc _ _).size ?_; intro v1 w1 hown1 hgrow1 hnil1; have BW1 := hide (Below.grown (belB wc _ _) hgrow1 (belB wc _ _).size (fun q hq => (World.ownsRow.lt (row3 wc (.cells #[.int .i64 (k : Nat)] 3)) q hq).1)); have OW1 := hide hown1; have hi1 := hide (hi3 hgrow1); clear hown1 hgrow1 hnil1)
                | (refine step_append_own (by rfl) _ _ 27 (by rfl) wc.heap.size 3 i0 (.int .i64 0) 1 8 Tryz.underlying27 hi iz0 iz1 iz2 (by rfl) (by decide) v1 _ _ (by rfl) (World.ownsRow.alloc OW1.out _) ⟨w1.heap.size, 0, none⟩ 1 1 [.int .i64 (k : Nat)] (by rfl) (by rfl) (cell_one_at w1 w1.heap.size rfl _ _) (by simp [Value.oneCell']) M74.out N74.out (BW1.out.alloc BW1.out.size _).size ?_; intro v2 w2 hown2 hgrow2 hnil2; have BW2 := hide (Below.grown (BW1.out.alloc BW1.out.size _) hgrow2 (BW1.out.alloc BW1.out.size _).size (fun q hq => (World.ownsRow.lt OW1.out q hq).1)); have OW2 := hide hown2; clear hown2 hgrow2 hnil2)
                | (refine step_append_own (by rfl) _ _ 27 (by rfl) wc.heap.size 3 i0 (.int .i64 0) 1 8 Tryz.underlying27 hi iz0 iz1 iz2 (by rfl) (by decide) v1 _ _ (by rfl) (OW1.out) ⟨wc.heap.size + 1, 0, none⟩ 1 1 [.int .i64 (k : Nat)] (by rfl) (by rfl) (hi1.out) (by simp [Value.oneCell']) M74.out N74.out (BW1.out).size ?_; intro v2 w2 hown2 hgrow2 hnil2; have BW2 := hide (Below.grown (BW1.out) hgrow2 (BW1.out).size (fun q hq => (World.ownsRow.lt OW1.out q hq).1)); have OW2 := hide hown2; clear hown2 hgrow2 hnil2)
                | (refine step_append_own (by rfl) _ _ 27 (by rfl) wc.heap.size 3 i0 (.int .i64 0) 1 8 Tryz.underlying27 hi iz0 iz1 iz2 (by rfl) (by decide) v1 _ _ (by rfl) (OW1.out) ⟨wc.heap.size, 0, none⟩ 1 1 [.int .i64 (k : Nat)] (by rfl) (by rfl) (hi1.out) (by simp [Value.oneCell']) M74.out N74.out (BW1.out).size ?_; intro v2 w2 hown2 hgrow2 hnil2; have BW2 := hide (Below.grown (BW1.out) hgrow2 (BW1.out).size (fun q hq => (World.ownsRow.lt OW1.out q hq).1)); have OW2 := hide hown2; clear hown2 hgrow2 hnil2)
                | (refine step_append_own (by rfl) _ _ 27 (by rfl) wc.heap.size 3 i0 (.int .i64 0) 1 8 Tryz.underlying27 hi iz0 iz1 iz2 (by rfl) (by decide) v2 _ _ (by rfl) OW2.out AD (k - m) (cp - m) (intVals (nums (os.drop m))) (by show Value.slice (if cp = m then some (⟨g, 0, none⟩ : Addr) else some ⟨g, m, none⟩) (k - m) (cp - m) = _; rw [HAD.out]) L78.out (SRC2.out _ BW2.out) (intVals_one _) M78.out N78.out BW2.out.size ?_; intro v3 w3 hown3 hgrow3 hnil3; have BW3 := hide (Below.grown BW2.out hgrow3 BW2.out.size (fun q hq => (World.ownsRow.lt OW2.out q hq).1)); have OW3 := hide hown3; clear hown3 hgrow3 hnil3)
                | (fail))
            all_goals
              obtain ⟨g3, cp3, hv3, O3'⟩ := own_join OW3.out hws hm hos
              subst hv3
              have O3 := hide O3'
              have B3 := hide (below_seq BY.out BW3.out)
              clear O3' OW3 BW3 OW2 BW2 OW1 BW1
              go_wp2
              go_roundw
              case rel => exact ⟨k + 1, g3, cp3, by omega, by go_num, rfl, by rw [HE.out]; exact O3.out, B3.out⟩
              case measure => simp [RowKit.intOf]; omega
    · have hkf : k = fs.length := by omega
      subst hkf
      go_wp2
      go_ret
      exact ⟨_, rfl, HO.out, HB.out⟩

end Go.Proofs.YtciacofibljmoaaGreatDoor

/- The least slot, as the document's model reckons it tick by tick. -/
namespace Go.Proofs.YtciacofibljmoaaGreatDoor
open Go.RowKit

attribute [local go_sem ↓] Go.wp_at_zero Go.wp_at_succ

/-- The least slot of the one at a place, all others as they are; -1 if there is none. -/
def leastV (cs : List (ByteArray × Int)) (fs : List Fli) (ss : List Int) (i : Nat) : Int :=
  ((ticks (fs.getD i (ByteArray.empty, 0, 0, [])).2.1 ((fs.getD i (ByteArray.empty, 0, 0, [])).2.2.1.toNat + 1)).find? fun t => fitsB cs fs (ss.set i t)).getD (-1)
theorem find_ticks (p : Int → Bool) (low : Int) : ∀ (m k : Nat), k < m → (∀ j, j < k → p (low + (j : Nat)) = false) → p (low + (k : Nat)) = true → (ticks low m).find? p = some (low + (k : Nat))
  | 0, k, hk, _, _ => by omega
  | m + 1, k, hk, h1, h2 => by
    rw [ticks_succ, List.find?_append]
    by_cases he : k < m
    · rw [find_ticks p low m k he h1 h2]; rfl
    · have hkm : k = m := by omega
      subst hkm
      have hn : (ticks low k).find? p = none := by
        rw [List.find?_eq_none]
        intro x hx
        obtain ⟨a, b⟩ := (mem_ticks low k x).1 hx
        have := h1 (x - low).toNat (by omega)
        rw [show low + ((x - low).toNat : Int) = x by omega] at this
        simp [this]
      rw [hn]
      simp [h2]
theorem leastV_at {cs : List (ByteArray × Int)} {fs : List Fli} {ss : List Int} {i k : Nat} (hi : i < fs.length) (hk : (k : Int) ≤ fs[i].2.2.1) (h1 : ∀ j, j < k → fitsB cs fs (ss.set i (fs[i].2.1 + (j : Nat))) = false) (h2 : fitsB cs fs (ss.set i (fs[i].2.1 + (k : Nat))) = true) : leastV cs fs ss i = fs[i].2.1 + (k : Nat) := by
  unfold leastV
  rw [getD_at fs i _ hi, find_ticks (fun t => fitsB cs fs (ss.set i t)) fs[i].2.1 _ k (by omega) h1 h2]
  rfl
theorem leastV_none {cs : List (ByteArray × Int)} {fs : List Fli} {ss : List Int} {i : Nat} (hi : i < fs.length) (h1 : ∀ j : Nat, (j : Int) ≤ fs[i].2.2.1 → fitsB cs fs (ss.set i (fs[i].2.1 + (j : Nat))) = false) (h0 : 0 ≤ fs[i].2.2.1) : leastV cs fs ss i = -1 := by
  unfold leastV
  rw [getD_at fs i _ hi]
  have hn : (ticks fs[i].2.1 (fs[i].2.2.1.toNat + 1)).find? (fun t => fitsB cs fs (ss.set i t)) = none := by
    rw [List.find?_eq_none]
    intro x hx
    obtain ⟨a, b⟩ := (mem_ticks _ _ x).1 hx
    have := h1 (x - fs[i].2.1).toNat (by omega)
    rw [show fs[i].2.1 + ((x - fs[i].2.1).toNat : Int) = x by omega] at this
    simp [this]
  rw [hn]
  rfl

theorem specFits_at (ac a a' : Option Addr) (capc cap cap' : Nat) (cs : List (ByteArray × Int)) (fs : List Fli) (ss : List Int) (n : Nat) (hn : ss.length = n) (q : Bool) (hq : fitsB cs fs ss = q) (w : World) (hcc : CapsIn w ac cs) (hc : FlightsIn w a fs) (hc' : IntsIn w a' ss) (hlc : cs.length ≤ 1048576) (hl : fs.length ≤ 1048576) (hl' : ss.length ≤ 1048576)
    (hsc : ∀ c ∈ cs, c.1.size ≤ maxLen) (hvl : ∀ f ∈ fs, f.2.2.2.length ≤ 1048576) (hs : ∀ f ∈ fs, SizesOk f) :
    Calls Tryz.prog 43 #[.slice ac cs.length capc, .slice a fs.length cap, .slice a' n cap'] w fun e w' => e = .returned (.bool q) ∧ Below w.heap.size w w' := by
  subst hn hq
  exact specFits_any ac a a' capc cap cap' cs fs ss w hcc hc hc' hlc hl hl' hsc hvl hs

set_option maxRecDepth 100000 in
set_option maxHeartbeats 6400000 in
theorem l3Least_any (ac a a' : Option Addr) (capc cap cap' : Nat) (cs : List (ByteArray × Int)) (fs : List Fli) (ss : List Int) (i : Nat) (w : World) (hcc : CapsIn w ac cs) (hc : FlightsIn w a fs) (hc' : IntsIn w a' ss) (hlc : cs.length ≤ 1048576) (hl : fs.length ≤ 1048576) (hln : ss.length = fs.length)
    (hsc : ∀ c ∈ cs, c.1.size ≤ maxLen) (hvl : ∀ f ∈ fs, f.2.2.2.length ≤ 1048576) (hs : ∀ f ∈ fs, SizesOk f) (hi' : i < fs.length) (hp0 : 0 ≤ fs[i].2.1) (hp1 : fs[i].2.1 ≤ 10000) (hq0 : 0 ≤ fs[i].2.2.1) (hq1 : fs[i].2.2.1 ≤ 60) :
    Calls Tryz.prog 34 #[.slice ac cs.length capc, .slice a fs.length cap, .slice a' ss.length cap', .int .i64 (i : Nat)] w fun e w' => e = .returned (.int .i64 (leastV cs fs ss i)) ∧ Below w.heap.size w w' := by
  obtain ⟨i0, hi, iz0, iz1, iz2⟩ := info_parts info_int
  have HCC := hide hcc
  have HC := hide hc
  have HSC := hide hsc
  have HVL := hide hvl
  have HS := hide hs
  have Bz := hide ((Below.refl w.heap.size w).alloc (Nat.le_refl _) (.cells #[] 3))
  obtain ⟨b, off, rfl, hblt, hnews⟩ := ints_news (hc'.later Bz.out) (by omega)
  have HN := hide hnews
  have HLN := hide hln
  have hsl : ss.length ≤ 1048576 := by omega
  have his : i < ss.length := by omega
  have HAT := hide (fun (k : Nat) hk h1 h2 => leastV_at (cs := cs) (ss := ss) (k := k) hi' hk h1 h2)
  have HNO := hide (fun h1 => leastV_none (cs := cs) (ss := ss) hi' h1 hq0)
  clear hcc hc hc' hsc hvl hs hnews hln
  have i0' : (0 : Int) ≤ (i : Int) := by omega
  have i1' : (i : Int) < (fs.length : Int) := by omega
  have i2' : (i : Int) < (ss.length : Int) := by omega
  obtain ⟨fb, foff, rfl, hfb, _⟩ := HC.out i hi'
  have HP : Hid (∀ W : World, Below w.heap.size w W → W.cell? ⟨fb, foff + i * 4 + 1, none⟩ = some (.int .i64 fs[i].2.1) ∧ W.cell? ⟨fb, foff + i * 4 + 2, none⟩ = some (.int .i64 fs[i].2.2.1)) := fun W hW => by
    obtain ⟨b9, o9, e9, _, _, c1, c2, _⟩ := (HC.out.later hW) i hi'
    simp at e9
    obtain ⟨rfl, rfl⟩ := e9
    exact ⟨c1, c2⟩
  generalize hP : fs[i].2.1 = P at *
  generalize hQ : fs[i].2.2.1 = Q at *
  clear hP hQ
  go_enter Tryz.func34, Tryz.ntmps34
  go_upto_region 2 with (first
    | (at_builtin; refine wpList_append_lies _ rfl _ _ 27 rfl w.heap.size 3 i0 (.int .i64 0) 1 8 Tryz.underlying27 hi iz0 iz1 iz2 rfl (by decide) _ 0 [] rfl (own_emptyI w) ⟨b, off, none⟩ ss.length cap' (intVals ss) rfl (intVals_len ss) (fun j u hj => HN.out j u hj) (intVals_one ss) (by omega) (by unfold maxLen; omega) (by omega) (by simp) (w.heap.size + 1) (by simp) ?_; intro g cp X hownE hgrowE hatE hltE))
  have hgb : w.heap.size ≤ g := (hownE.lt g rfl).1
  have OX : Hid (OwnI X w.heap.size (.slice (some ⟨g, 0, none⟩) ss.length cp) ss) := by
    show World.ownsRow _ _ _ _ _ _ _
    simpa using hownE
  have BX := hide (below_grow (a := w) (w := w) (Nat.le_refl _) hgrowE (fun q hq => by have he2 : some w.heap.size = some q := hq; simp at he2; omega))
  clear hownE hgrowE hatE hltE HN
  obtain ⟨c1, c2⟩ := HP.out X BX.out
  go_wp2
  clear c1 c2
  go_loopw [10] (fun t wr => ∃ (k : Nat) (z : Int), (k : Int) ≤ Q + 1 ∧ t = .int .i64 (P + (k : Int)) ∧ Hid (OwnI wr w.heap.size (.slice (some ⟨g, 0, none⟩) ss.length cp) (ss.set i z)) ∧ Hid (Below w.heap.size w wr) ∧ Hid (∀ j, j < k → fitsB cs fs (ss.set i (P + (j : Nat))) = false)) (fun t _ => (P + Q + 1 - RowKit.intOf t).toNat)
  case atStart => exact ⟨0, ss[i], by omega, by simp, by rw [List.set_getElem_self]; exact OX.out, BX.out, fun j hj => by omega⟩
  case round =>
    obtain ⟨k, z, hk, rfl, OR, BR, HF⟩ := hrel
    clear OX BX
    obtain ⟨c1, c2⟩ := HP.out wr BR.out
    by_cases hkq : (k : Int) ≤ Q
    · have hle : P + (k : Int) ≤ P + Q := by omega
      obtain ⟨x0, x1⟩ := own_cellI OR.out (k := i) (by simpa using his)
      go_wp2
      go_quiet (fail)
      go_wp2_with fail
      have BD : Below w.heap.size w (wr.drewN nq) := Go.below_drewN BR.out nq
      have OS : Hid (OwnI ((wr.drewN nq).setCell ⟨g, i, none⟩ (.int .i64 (P + (k : Int)))) w.heap.size (.slice (some ⟨g, 0, none⟩) ss.length cp) (ss.set i (P + (k : Int)))) := by
        have h9 : OwnI (wr.drewN nq) w.heap.size (.slice (some ⟨g, 0, none⟩) ss.length cp) (ss.set i z) := OR.out
        have := own_setI h9 (k := i) (P + (k : Int))
        rwa [List.set_set] at this
      have BS := hide (below_set BD g i hgb (.int .i64 (P + (k : Int))))
      clear BD
      generalize (wr.drewN nq).setCell ⟨g, i, none⟩ (.int .i64 (P + (k : Int))) = ws at OS BS
      obtain ⟨a9, c9, e9, _, _, hin9, _⟩ := OwnI.form OS.out
      simp at e9
      obtain ⟨rfl, rfl⟩ := e9
      have HIN := hide hin9
      clear hin9
      cases hq : fitsB cs fs (ss.set i (P + (k : Int)))
      · have HQ := hide hq
        clear hq
        refine (specFits_at _ _ _ _ _ _ cs fs (ss.set i (P + (k : Int))) ss.length (by simp) false HQ.out ws (HCC.out.later BS.out) (HC.out.later BS.out) HIN.out hlc (by omega) (by simp; omega) HSC.out HVL.out HS.out).mono ?_
        rintro e w2 ⟨rfl, hb2⟩
        have O2 : Hid (OwnI w2 w.heap.size (.slice (some ⟨g, 0, none⟩) ss.length cp) (ss.set i (P + (k : Int)))) := owns_later OS.out hb2
        have B2 := hide (below_seq BS.out hb2)
        clear hb2
        go_wp2
        go_roundw
        case rel => exact ⟨k + 1, P + (k : Int), by omega, by simp; omega, O2.out, B2.out, fun j hj => by
          by_cases he : j = k
          · subst he; exact HQ.out
          · exact HF.out j (by omega)⟩
        case measure => simp [RowKit.intOf]; omega
      · have HQ := hide hq
        clear hq
        refine (specFits_at _ _ _ _ _ _ cs fs (ss.set i (P + (k : Int))) ss.length (by simp) true HQ.out ws (HCC.out.later BS.out) (HC.out.later BS.out) HIN.out hlc (by omega) (by simp; omega) HSC.out HVL.out HS.out).mono ?_
        rintro e w2 ⟨rfl, hb2⟩
        have B2 := hide (below_seq BS.out hb2)
        have HV := hide (HAT.out k hkq HF.out HQ.out)
        clear hb2
        go_wp2
        go_ret
        exact ⟨by rw [HV.out]; rfl, B2.out⟩
    · have hle : ¬ P + (k : Int) ≤ P + Q := by omega
      have HV := hide (HNO.out (fun j hj => HF.out j (by omega)))
      go_wp2
      go_quiet (fail)
      go_wp2_with fail
      go_ret
      exact ⟨by rw [HV.out]; rfl, Go.below_drewN BR.out nq⟩

end Go.Proofs.YtciacofibljmoaaGreatDoor

/- Giving, one behind the other, as the document's model has it. -/
namespace Go.Proofs.YtciacofibljmoaaGreatDoor
open Go.RowKit

attribute [local go_sem ↓] Go.wp_at_zero Go.wp_at_succ

theorem flis_bd {fs : List Fli} (h : flisB fs = true) : fs.length ≤ 8 ∧ ∀ i (hi : i < fs.length), VisBd fs[i].2.2.2 ∧ (0 ≤ fs[i].2.1 ∧ fs[i].2.1 ≤ 10000) ∧ (0 ≤ fs[i].2.2.1 ∧ fs[i].2.2.1 ≤ 60) ∧ 1 ≤ fs[i].2.2.2.length ∧ fs[i].2.2.2.length ≤ 5 := by
  have hs : slotsB fs (List.replicate fs.length (-1)) = true := by
    unfold slotsB
    rw [h]
    simp only [List.length_replicate, decide_true, Bool.true_and]
    unfold slotsTo
    rw [List.all_eq_true]
    intro i hi
    have hi' : i < fs.length := List.mem_range.1 hi
    unfold slotOkAt
    rw [getD_at _ i _ (by simpa using hi'), inB_eq]
    simp
  obtain ⟨_, h8, _, h9⟩ := slots_bd hs
  exact ⟨h8, h9⟩
/-- One more has the least slot that fits. -/
def giveOne (cs : List (ByteArray × Int)) (fs : List Fli) (ss : List Int) (i : Nat) : List Int := ss.set i (leastV cs fs ss i)
def giveTo (cs : List (ByteArray × Int)) (fs : List Fli) (k : Nat) : List Int := ((ordTo fs fs.length).take k).foldl (giveOne cs fs) (List.replicate fs.length (-1))
def giveV (cs : List (ByteArray × Int)) (fs : List Fli) : List Int := if capsB cs = true ∧ flisB fs = true then giveTo cs fs fs.length else []
theorem giveOne_len (cs : List (ByteArray × Int)) (fs : List Fli) (ss : List Int) (i : Nat) : (giveOne cs fs ss i).length = ss.length := by simp [giveOne]
theorem giveFold_len (cs : List (ByteArray × Int)) (fs : List Fli) : ∀ (l : List Nat) (ss : List Int), (l.foldl (giveOne cs fs) ss).length = ss.length
  | [], ss => rfl
  | i :: l, ss => by rw [List.foldl_cons, giveFold_len cs fs l, giveOne_len]
theorem giveTo_len (cs : List (ByteArray × Int)) (fs : List Fli) (k : Nat) : (giveTo cs fs k).length = fs.length := by
  unfold giveTo
  rw [giveFold_len]
  simp
theorem giveTo_succ (cs : List (ByteArray × Int)) (fs : List Fli) {k : Nat} (hk : k < fs.length) : giveTo cs fs (k + 1) = (giveTo cs fs k).set ((ordTo fs fs.length)[k]'(by rw [ordTo_len]; exact hk)) (leastV cs fs (giveTo cs fs k) ((ordTo fs fs.length)[k]'(by rw [ordTo_len]; exact hk))) := by
  unfold giveTo
  rw [List.take_succ_eq_append_getElem (by rw [ordTo_len]; exact hk), List.foldl_append]
  rfl
theorem l3Least_at (ac a a' : Option Addr) (capc cap cap' : Nat) (cs : List (ByteArray × Int)) (fs : List Fli) (ss : List Int) (n : Nat) (hn : ss.length = n) (i : Nat) (w : World) (hcc : CapsIn w ac cs) (hc : FlightsIn w a fs) (hc' : IntsIn w a' ss) (hlc : cs.length ≤ 1048576) (hl : fs.length ≤ 1048576) (hln : ss.length = fs.length)
    (hsc : ∀ c ∈ cs, c.1.size ≤ maxLen) (hvl : ∀ f ∈ fs, f.2.2.2.length ≤ 1048576) (hs : ∀ f ∈ fs, SizesOk f) (hi' : i < fs.length) (hb : flisB fs = true) :
    Calls Tryz.prog 34 #[.slice ac cs.length capc, .slice a fs.length cap, .slice a' n cap', .int .i64 (i : Nat)] w fun e w' => e = .returned (.int .i64 (leastV cs fs ss i)) ∧ Below w.heap.size w w' := by
  subst hn
  obtain ⟨_, h2, h3, _⟩ := (flis_bd hb).2 i hi'
  exact l3Least_any ac a a' capc cap cap' cs fs ss i w hcc hc hc' hlc hl hln hsc hvl hs hi' h2.1 h2.2 h3.1 h3.2

theorem nums_len (os : List Nat) : (nums os).length = os.length := by simp [nums]
theorem own_some {w : World} {base n c : Nat} {a : Option Addr} {zs : List Int} (h : OwnI w base (.slice a n c) zs) (h1 : 1 ≤ zs.length) : ∃ g, a = some ⟨g, 0, none⟩ ∧ base ≤ g ∧ g < w.heap.size ∧ n = zs.length := by
  obtain ⟨a', c', e, _, _, hin, hp⟩ := OwnI.form h
  simp at e
  obtain ⟨rfl, rfl, rfl⟩ := e
  obtain ⟨b, off, rfl, _⟩ := hin 0 (by omega)
  obtain ⟨q1, q2, q3⟩ := hp _ rfl
  simp at q1
  subst q1
  exact ⟨b, rfl, q2, q3, rfl⟩
theorem ints_of {w : World} {base n c : Nat} {a : Option Addr} {zs : List Int} (h : OwnI w base (.slice a n c) zs) : IntsIn w a zs := by
  obtain ⟨a', c', e, _, _, hin, hp⟩ := OwnI.form h
  simp at e
  obtain ⟨rfl, rfl, rfl⟩ := e
  exact hin

end Go.Proofs.YtciacofibljmoaaGreatDoor
