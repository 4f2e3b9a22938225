/- The library's contract for slices.SortFunc, laid at this translation: tables of numbers, and closed facts that the kernel checks. -/
import Derived.Test.YtciacofibljmoaaGreatDoorRows
import Derived.Shelf.SlSortCmp.NoneTotal
import Derived.Test.YtciacofibljmoaaGreatDoorCmpOrd
import Derived.Lib.OwnBridge
import Derived.Deep.RegionHeld3
namespace Go.Proofs.YtciacofibljmoaaGreatDoor
open Go.RowKit Go.Sort Go.Shelf

def sortF_ren : Go.Shelf.Ren := ⟨fun | 6 => 146 | 15 => 94 | 14 => 150 | 28 => 104 | 29 => 105 | 20 => 151 | 21 => 152 | 22 => 153 | 23 => 154 | 24 => 155 | 25 => 156 | 26 => 157 | 27 => 158 | 46 => 159 | 47 => 107 | 48 => 108 | 49 => 160 | 50 => 161 | 57 => 162 | n => n, fun | 22 => 27 | 24 => 3 | 25 => 204 | 3 => 3 | 39 => 158 | 0 => 0 | 53 => 169 | 55 => 171 | 4 => 4 | 46 => 161 | 45 => 160 | 50 => 166 | 5 => 5 | 9 => 9 | 66 => 172 | 70 => 176 | 76 => 178 | 77 => 179 | n => n, fun | n => n⟩
theorem sortF : Go.Proofs.SlLaysF.n6 Tryz.prog sortF_ren := {
  mixed := by kernel_rfl
  f6 := ⟨Tryz.f146.name, by decide, Tryz.func146.trans (congrArg some (by kernel_rfl))⟩
  f14 := ⟨Tryz.f150.name, by decide, Tryz.func150.trans (congrArg some (by kernel_rfl))⟩
  f15 := Tryz.func94.trans (congrArg some (by kernel_rfl))
  f20 := ⟨Tryz.f151.name, by decide, Tryz.func151.trans (congrArg some (by kernel_rfl))⟩
  f21 := ⟨Tryz.f152.name, by decide, Tryz.func152.trans (congrArg some (by kernel_rfl))⟩
  f22 := ⟨Tryz.f153.name, by decide, Tryz.func153.trans (congrArg some (by kernel_rfl))⟩
  f23 := ⟨Tryz.f154.name, by decide, Tryz.func154.trans (congrArg some (by kernel_rfl))⟩
  f24 := ⟨Tryz.f155.name, by decide, Tryz.func155.trans (congrArg some (by kernel_rfl))⟩
  f25 := ⟨Tryz.f156.name, by decide, Tryz.func156.trans (congrArg some (by kernel_rfl))⟩
  f26 := ⟨Tryz.f157.name, by decide, Tryz.func157.trans (congrArg some (by kernel_rfl))⟩
  f27 := ⟨Tryz.f158.name, by decide, Tryz.func158.trans (congrArg some (by kernel_rfl))⟩
  f28 := Tryz.func104.trans (congrArg some (by kernel_rfl))
  f29 := Tryz.func105.trans (congrArg some (by kernel_rfl))
  f46 := ⟨Tryz.f159.name, by decide, Tryz.func159.trans (congrArg some (by kernel_rfl))⟩
  f47 := Tryz.func107.trans (congrArg some (by kernel_rfl))
  f48 := Tryz.func108.trans (congrArg some (by kernel_rfl))
  f49 := ⟨Tryz.f160.name, by decide, Tryz.func160.trans (congrArg some (by kernel_rfl))⟩
  f50 := ⟨Tryz.f161.name, by decide, Tryz.func161.trans (congrArg some (by kernel_rfl))⟩
  f57 := ⟨Tryz.f162.name, by decide, Tryz.func162.trans (congrArg some (by kernel_rfl))⟩
  t0 := Tryz.underlying0
  a0 := Tryz.isAgg0
  z0 := Tryz.sizeOf0
  v0 := Tryz.zeroValue0
  t3 := Tryz.underlying3
  a3 := Tryz.isAgg3
  z3 := Tryz.sizeOf3
  v3 := Tryz.zeroValue3
  t4 := Tryz.underlying4
  a4 := Tryz.isAgg4
  z4 := Tryz.sizeOf4
  v4 := Tryz.zeroValue4
  t5 := Tryz.underlying5
  a5 := Tryz.isAgg5
  z5 := Tryz.sizeOf5
  v5 := Tryz.zeroValue5
  t9 := Tryz.underlying9
  a9 := Tryz.isAgg9
  z9 := Tryz.sizeOf9
  v9 := Tryz.zeroValue9
  t22 := Tryz.underlying27
  a22 := Tryz.isAgg27
  z22 := Tryz.sizeOf27
  v22 := Tryz.zeroValue27
  a24 := Tryz.isAgg3
  z24 := Tryz.sizeOf3
  t25 := Tryz.underlying204
  a25 := Tryz.isAgg204
  z25 := Tryz.sizeOf204
  v25 := Tryz.zeroValue204
  t39 := Tryz.underlying158
  a39 := Tryz.isAgg158
  z39 := Tryz.sizeOf158
  v39 := Tryz.zeroValue158
  t45 := Tryz.underlying160
  a45 := Tryz.isAgg160
  z45 := Tryz.sizeOf160
  v45 := Tryz.zeroValue160
  t46 := Tryz.underlying161
  a46 := Tryz.isAgg161
  z46 := Tryz.sizeOf161
  v46 := Tryz.zeroValue161
  t50 := Tryz.underlying166
  a50 := Tryz.isAgg166
  z50 := Tryz.sizeOf166
  v50 := Tryz.zeroValue166
  t53 := Tryz.underlying169
  a53 := Tryz.isAgg169
  z53 := Tryz.sizeOf169
  v53 := Tryz.zeroValue169
  t55 := Tryz.underlying171
  a55 := Tryz.isAgg171
  z55 := Tryz.sizeOf171
  v55 := Tryz.zeroValue171
  t66 := Tryz.underlying172
  a66 := Tryz.isAgg172
  z66 := Tryz.sizeOf172
  v66 := Tryz.zeroValue172
  t70 := Tryz.underlying176
  a70 := Tryz.isAgg176
  z70 := Tryz.sizeOf176
  v70 := Tryz.zeroValue176
  t76 := Tryz.underlying178
  a76 := Tryz.isAgg178
  z76 := Tryz.sizeOf178
  v76 := Tryz.zeroValue178
  t77 := Tryz.underlying179
  a77 := Tryz.isAgg179
  z77 := Tryz.sizeOf179
  v77 := Tryz.zeroValue179 }

end Go.Proofs.YtciacofibljmoaaGreatDoor

/- The program's own order of flights, walked. -/
namespace Go.Proofs.YtciacofibljmoaaGreatDoor
open Go.RowKit Go.Sort Go.Shelf

attribute [local go_sem ↓] Go.wp_at_zero Go.wp_at_succ

theorem cmpOr_three (g : Nat) (x y z : Int) (w : World) (c : ∀ j u, [Value.int .i64 x, .int .i64 y, .int .i64 z][j]? = some u → w.cell? ⟨g, j, none⟩ = some u) :
    Calls Tryz.prog 148 #[.slice (some ⟨g, 0, none⟩) 3 3] w fun e w' => e = .returned (.int .i64 (or3 x y z)) ∧ w' = w := by
  have h := cmpOr_any (some ⟨g, 0, none⟩) 3 [x, y, z] w (fun i hi => by
    have hc : w.cell? ⟨g, i, none⟩ = some (.int .i64 [x, y, z][i]) := by
      match i, hi with
      | 0, _ => exact c 0 _ rfl
      | 1, _ => exact c 1 _ rfl
      | 2, _ => exact c 2 _ rfl
    exact ⟨g, 0, rfl, World.block_lt_of_cell? w _ hc, by rw [Nat.zero_add]; exact hc⟩) (by simp)
  rw [orV_three] at h
  exact h

theorem three_cells (W : World) (a b c : Value) (t : TypeId) : ∀ j u, [a, b, c][j]? = some u → (W.alloc (.cells #[a, b, c] t)).drew.cell? ⟨W.heap.size, j, none⟩ = some u := fun j u hj => by
  have := cell_three_new W a b c t j u hj
  rw [plain_add] at this
  exact this
set_option maxRecDepth 100000 in
set_option maxHeartbeats 3200000 in
theorem ordCmp_any (a : Option Addr) (cap : Nat) (fs : List Fli) (B x y : Nat) (W : World) (hB : W.cell? ⟨B, 0, none⟩ = some (.slice a fs.length cap)) (hc : FlightsIn W a fs) (hx : x < fs.length) (hy : y < fs.length) :
    Calls Tryz.prog 147 #[.int .i64 (x : Nat), .int .i64 (y : Nat), .pointer (some ⟨B, 0, none⟩)] W fun e w' => e = .returned (.int .i64 (ordC fs x y)) ∧ ∃ q os, w' = grow (W.drewN q) os := by
  obtain ⟨b, off, rfl, hb, x0, x1, _⟩ := hc x hx
  obtain ⟨b', off', e', hb', y0, y1, _⟩ := hc y hy
  simp at e'
  obtain ⟨rfl, rfl⟩ := e'
  have HR : Hid (ordC fs x y = or3 (cmpI fs[x].2.1 fs[y].2.1) (cmpS fs[x].1 fs[y].1) (cmpI x y)) := by
    show _ = _
    unfold ordC planAt
    rw [getD_at fs x _ hx, getD_at fs y _ hy]
  generalize fs[x] = fx at x0 x1 HR
  generalize fs[y] = fy at y0 y1 HR
  clear hc
  have tok1 : True := trivial
  go_enter Tryz.func147, Tryz.ntmps147
  go_wp2
  go_region_held3 (fun w' => w'.cell? ⟨B, 0, none⟩ = some (.slice (some ⟨b, off, none⟩) fs.length cap) ∧ w'.cell? ⟨b, off + x * 4, none⟩ = some (.string fx.1) ∧ w'.cell? ⟨b, off + x * 4 + 1, none⟩ = some (.int .i64 fx.2.1) ∧ w'.cell? ⟨b, off + y * 4, none⟩ = some (.string fy.1) ∧ w'.cell? ⟨b, off + y * 4 + 1, none⟩ = some (.int .i64 fy.2.1))
    (first | exact ⟨hB, x0, x1, y0, y1⟩ | exact ⟨cell_later (belA _ _) hB, cell_later (belA _ _) x0, cell_later (belA _ _) x1, cell_later (belA _ _) y0, cell_later (belA _ _) y1⟩ | (fail))
    (first
      | (go_at_call 149; refine (compareI _ _ _).mono ?_; rintro e wA ⟨rfl, rfl⟩)
      | (go_at_call 142; refine (compareS _ _ _).mono ?_; rintro e wA ⟨rfl, rfl⟩)
      | (go_at_call 148; refine (cmpOr_three W.heap.size _ _ _ _ (three_cells W _ _ _ _)).mono ?_; rintro e wA ⟨rfl, rfl⟩)
      | (fail))
  rename_i hH
  clear hH
  go_wp2
  go_ret
  exact ⟨by rw [HR.out]; rfl, 1, #[_], by rw [← alloc_eq_grow]; rfl⟩

/-- Places, in their order, sorted: the one order. -/
def encP (n : Nat) (x : Fin n) : Value := .int .i64 (x.1 : Nat)
def cfP (fs : List Fli) (x y : Fin fs.length) : Int := ordC fs x.1 y.1
theorem ltP (fs : List Fli) (x y : Fin fs.length) : ltOf (cfP fs) x y = true ↔ bef fs x.1 y.1 := by
  unfold ltOf cfP
  rw [decide_eq_true_eq, ordC_neg]
theorem ltP_no (fs : List Fli) (x y : Fin fs.length) : ltOf (cfP fs) x y = false ↔ ¬ bef fs x.1 y.1 := by
  rw [← ltP fs x y]
  simp
theorem swoP (fs : List Fli) : SWO (ltOf (cfP fs)) where
  irrefl x := (ltP_no fs x x).2 (bef_irrefl fs x.1)
  trans x y z h1 h2 := (ltP fs x z).2 (bef_trans ((ltP fs x y).1 h1) ((ltP fs y z).1 h2))
  ntrans x y z h1 h2 := (ltP_no fs x z).2 (fun h => by
    have g1 := (ltP_no fs x y).1 h1
    have g2 := (ltP_no fs y z).1 h2
    by_cases e : bef fs z.1 y.1
    · exact g1 (bef_trans h e)
    · have := bef_total fs y.1 z.1 g2 e
      rw [this] at g1
      exact g1 h)
theorem totP (fs : List Fli) (x y : Fin fs.length) (h1 : ltOf (cfP fs) x y = false) (h2 : ltOf (cfP fs) y x = false) : x = y :=
  Fin.ext (bef_total fs x.1 y.1 ((ltP_no fs x y).1 h1) ((ltP_no fs y x).1 h2))
theorem sortP (fs : List Fli) : (((List.finRange fs.length).mergeSort fun x y => !ltOf (cfP fs) y x).map fun x => x.1) = ordTo fs fs.length := by
  have hp := List.mergeSort_perm (List.finRange fs.length) fun x y => !ltOf (cfP fs) y x
  have hs := List.pairwise_mergeSort (le := fun x y => !ltOf (cfP fs) y x) (fun a b c h1 h2 => by
      simp only [Bool.not_eq_true'] at *
      exact (swoP fs).ntrans c b a h2 h1) (fun a b => by
      simp only [Bool.or_eq_true, Bool.not_eq_true']
      by_cases h : ltOf (cfP fs) b a = true
      · refine .inr ((ltP_no fs a b).2 (fun h' => bef_asymm h' ((ltP fs b a).1 h)))
      · exact .inl (by simpa using h)) (List.finRange fs.length)
  generalize (List.finRange fs.length).mergeSort (fun x y => !ltOf (cfP fs) y x) = l at hp hs
  refine ord_unique ?_ ?_
  · have := hp.map (fun x => x.1)
    have e : (List.finRange fs.length).map (fun x => x.1) = List.range fs.length := by
      apply List.ext_getElem
      · simp
      · intro i h1 h2; simp
    rw [e] at this
    exact this
  · have hnd : l.Nodup := hp.nodup_iff.2 (List.nodup_finRange _)
    refine List.pairwise_map.2 ((hs.and hnd).imp fun {a b} h => ?_)
    obtain ⟨h1, h2⟩ := h
    simp only [Bool.not_eq_true'] at h1
    have h3 := (ltP_no fs b a).1 h1
    by_cases h4 : bef fs a.1 b.1
    · exact h4
    · exact absurd (Fin.ext (bef_total fs a.1 b.1 h4 h3)) h2
theorem own_of_row {w : World} {base g n : Nat} {f : Nat → Value} {xs : List Value} (h : w.rowIs g 3 n f) (hb : base ≤ g) (hn : n ≤ maxLen) (hl : xs.length = n) (hx : ∀ i (hi : i < xs.length), f i = xs[i]) : w.ownsRow base 3 1 (.slice (some ⟨g, 0, none⟩) n n) n xs := by
  obtain ⟨c, hc, hs, hf⟩ := h
  refine ⟨by omega, .inr ⟨g, n, c, rfl, hb, hc, Nat.le_refl _, hn, by omega, ?_⟩⟩
  apply List.ext_getElem?
  intro j
  rw [List.getElem?_take, Array.getElem?_toList]
  by_cases hj : j < n
  · rw [if_pos (by omega), hf j hj, hx j (by omega), List.getElem?_eq_getElem (by omega)]
  · rw [if_neg (by omega), List.getElem?_eq_none (by omega)]
theorem below_growO (B : Nat) (w : World) (os : Array Obj) (h : B ≤ w.heap.size) : Below B w (grow w os) :=
  ⟨rfl, rfl, rfl, by simp [grow], fun k hk => by
    show (w.heap ++ os)[k]? = _
    rw [Array.getElem?_append_left (by omega)]⟩
theorem below_sort {α : Type} [Inhabited α] (enc : α → Value) (w0 w : World) (h : Below w0.heap.size w0 w) (g q : Nat) (hg : w0.heap.size ≤ g) (d : Array α) (os : Array Obj) : Below w0.heap.size w0 (sortWorld enc w g 0 q d os) := by
  unfold sortWorld
  have h1 := Lib.below_putRow (enc := enc) (q := q) (d := d) h hg
  exact h1.trans (below_growO _ _ os h1.size)

theorem sort_any (a : Option Addr) (cap : Nat) (fs : List Fli) (B g base : Nat) (w1 wr : World) (hX : w1.cell? ⟨B, 0, none⟩ = some (.slice a fs.length cap)) (hc : FlightsIn w1 a fs) (hb : Below w1.heap.size w1 wr) (hg : w1.heap.size ≤ g) (hl : fs.length ≤ 1048576)
    (hO : wr.ownsRow base 3 1 (.slice (some ⟨g, 0, none⟩) fs.length fs.length) fs.length ((List.finRange fs.length).map (encP fs.length))) :
    Calls Tryz.prog 146 #[.slice (some ⟨g, 0, none⟩) fs.length fs.length, .func (.func 147) #[] #[.pointer (some ⟨B, 0, none⟩)]] wr fun e w' =>
      e = .returned (.tuple #[]) ∧ OwnI w' base (.slice (some ⟨g, 0, none⟩) fs.length fs.length) (nums (ordTo fs fs.length)) ∧ Below w1.heap.size w1 w' := by
  have hnl : (nums (ordTo fs fs.length)).length = fs.length := by simp [nums, ordTo_len]
  by_cases h0 : fs.length = 0
  · have hN : nums (ordTo fs fs.length) = [] := List.length_eq_zero_iff.1 (by omega)
    have hE : (List.finRange fs.length).map (encP fs.length) = [] := List.length_eq_zero_iff.1 (by simp [h0])
    have hS := AnyF.slices_SortFunc_none (P := Tryz.prog) (ρ := sortF_ren) { sortF with } (some ⟨g, 0, none⟩) 0 (.func (.func 147) #[] #[.pointer (some ⟨B, 0, none⟩)]) wr
    rw [hE] at hO
    rw [hN]
    unfold OwnI
    rw [h0] at hO ⊢
    exact hS.mono fun e w' ⟨he, hw⟩ => ⟨he, by rw [hw]; exact hO, by rw [hw]; exact hb⟩
  · haveI : Inhabited (Fin fs.length) := ⟨⟨0, by omega⟩⟩
    obtain ⟨g', cap', e0, _, hglt, _, _, _, hH⟩ := Lib.holds_of_ownsRow hO (by simp)
    simp at e0
    obtain ⟨rfl, rfl⟩ := e0
    have hsz : (List.finRange fs.length).toArray.size = fs.length := by simp
    have hS := Any.slices_SortFunc_total sortF (encP fs.length) (fun _ => rfl) (cfP fs) (swoP fs) 147 #[.pointer (some ⟨B, 0, none⟩)] g 0 fs.length (List.finRange fs.length).toArray wr
      (enters_of Tryz.func147 (by kernel_rfl) rfl)
      (fun m os dk _ x y => by
        have hbw := below_sort (encP fs.length) w1 wr hb g m hg dk os
        exact ordCmp_any a cap fs B x.1 y.1 _ (cell_later hbw hX) (hc.later hbw) x.2 y.2)
      hH hglt (by rw [hsz]; omega) (totP fs)
    rw [hsz] at hS
    refine Calls.mono hS fun e w' ⟨he, q, os, hw⟩ => ⟨he, ?_, by rw [hw]; exact below_sort _ w1 wr hb g q hg _ os⟩
    subst hw
    have hsp := sortP fs
    simp only at hsp ⊢
    generalize hl' : (List.finRange fs.length).mergeSort (fun x y => !ltOf (cfP fs) y x) = l at hsp
    have hll : l.length = fs.length := by rw [← hl', List.length_mergeSort]; simp
    have hrow := Lib.ownsRow_putRow (q := q) (ys := l) hO hll (Nat.le_refl _)
    have hv : (l.take fs.length).map (encP fs.length) = intVals (nums (ordTo fs fs.length)) := by
      rw [List.take_of_length_le (by omega), ← hsp]
      unfold intVals nums encP
      simp
    rw [hv] at hrow
    unfold OwnI
    rw [hnl]
    unfold sortWorld
    refine owns_keep hrow (fun g2 hg2 => ?_)
    have : g2 = g := by simpa [Value.ownBlock] using hg2.symm
    subst this
    exact (below_growO (g2 + 1) _ os (by simp [putRow, mapBlock, Sort.ahead]; omega)).block g2 (Nat.lt_succ_self _)

set_option maxRecDepth 100000 in
set_option maxHeartbeats 3200000 in
theorem implOrder_any (a : Option Addr) (cap : Nat) (fs : List Fli) (w : World) (hc : FlightsIn w a fs) (hl : fs.length ≤ 1048576) :
    Calls Tryz.prog 143 #[.slice a fs.length cap] w fun e w' => ∃ v, e = .returned v ∧ OwnI w' w.heap.size v (nums (ordTo fs fs.length)) ∧ Below w.heap.size w w' := by
  obtain ⟨w1, hw1⟩ : ∃ w1, w.alloc (.cells #[.slice a fs.length cap] 24) = w1 := ⟨_, rfl⟩
  have hs1 : w1.heap.size = w.heap.size + 1 := by rw [← hw1]; simp
  have hb1 : Below w.heap.size w w1 := by rw [← hw1]; exact (Below.refl _ _).alloc (Nat.le_refl _) _
  have hX : w1.cell? ⟨w.heap.size, 0, none⟩ = some (.slice a fs.length cap) := by rw [← hw1]; simp
  have HX := hide hX
  have HC := hide (hc.later hb1)
  have HB1 := hide hb1
  have HW1 := hide hw1
  clear hc hb1 hX hw1
  have hmk := run_make_row' (P := Tryz.prog) 27 3 (.int .i64 0) 8 Tryz.underlying27 info_int rfl .i64 .i64 fs.length (by omega) (by omega)
  have hf0 := World.rowIs_made w1 (.int .i64 0) fs.length 3
  rw [hs1] at hf0
  have HF0 := hide hf0
  have HB2 := hide ((Below.refl w1.heap.size w1).alloc (Nat.le_refl _) (.cells (madeCells #[.int .i64 0] fs.length) 3))
  clear hf0
  go_enter Tryz.func143, Tryz.ntmps143
  go_wp2
  rw [HW1.out]
  go_loopw [10] (fun i wr => ∃ (k : Nat) (f : Nat → Value), k ≤ fs.length ∧ i = .int .i64 k ∧ Hid (wr.rowIs (w.heap.size + 1) 3 fs.length f) ∧ Hid (∀ j, j < k → f j = .int .i64 (j : Nat)) ∧ Hid (Below w1.heap.size w1 wr)) (fun i _ => fs.length - (RowKit.intOf i).toNat)
  case atStart => exact ⟨0, _, Nat.zero_le _, rfl, HF0.out, fun j hj => by omega, HB2.out⟩
  case round =>
    obtain ⟨k, f, hk, rfl, HR, HF, HB⟩ := hrel
    clear hmk
    by_cases hlt : k < fs.length
    · have c0 := HR.out.cell (i := k) hlt
      have z0 := HR.out.frozen k
      go_wp2
      go_roundw
      case rel =>
        refine ⟨k + 1, _, by omega, by go_num, HR.out.set k _, fun j hj => ?_, HB.out.setCell (by show w1.heap.size ≤ w.heap.size + 1; omega) _⟩
        by_cases j0 : j = k
        · rw [if_pos j0, j0]
        rw [if_neg j0]
        exact HF.out j (by omega)
      case measure => simp [RowKit.intOf]; omega
    · have hkn : k = fs.length := by omega
      subst hkn
      have HO := hide (own_of_row (base := w.heap.size) (xs := (List.finRange fs.length).map (encP fs.length)) HR.out (by omega) (by unfold maxLen; omega) (by simp) (fun i hi => by rw [HF.out i (by simpa using hi)]; simp [encP]))
      have HBLK := HR.out.lt
      have hblt : w.heap.size + 1 < wr.heap.size := HBLK
      clear HBLK HF
      go_wp2_with fail
      refine (sort_any a cap fs w.heap.size (w.heap.size + 1) w.heap.size w1 wr HX.out HC.out HB.out (by omega) hl HO.out).mono ?_
      rintro e w3 ⟨rfl, hown3, hb3⟩
      go_wp2
      go_ret
      exact ⟨_, rfl, hown3, below_two HB1.out hb3⟩

end Go.Proofs.YtciacofibljmoaaGreatDoor
