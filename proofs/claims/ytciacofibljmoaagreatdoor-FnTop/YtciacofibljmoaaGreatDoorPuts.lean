/- What FlowAdd answers; a flight that comes in, the program's way: whether it is refused. -/
import Derived.Test.YtciacofibljmoaaGreatDoorDrops
import Derived.Test.YtciacofibljmoaaGreatDoorPlace
import Derived.Test.YtciacofibljmoaaGreatDoorCopies
import Derived.Test.YtciacofibljmoaaGreatDoorStrikes
import Derived.Deep.RegionLaw
import Derived.Shelf.RegionOpenPlain
import Derived.Lib.LazyBuf
import Derived.Lib.Overlaps
import Derived.Lib.AppendZerosOnto
import Derived.Laws.Externs
import Derived.Laws.IdiomCopy
import Derived.Laws.NewBlocks
import Derived.Deep.AppendLies
import Derived.Test.YtciacofibljmoaaGreatDoorImplGive
import Derived.Deep.RegionWith
import Derived.Deep.RegionHeld3
import Derived.Deep.CutRange
namespace Go.Proofs.YtciacofibljmoaaGreatDoor
open Go.RowKit

/-- The code of FlowAdd at a book that is ok. -/
def addN (fs : List Fli) (f : Fli) : Int := if oneB f = true then (if thereB fs f.1 = true then 3 else if fs.length = 8 then 4 else 0) else 2
def addK (cs : List (ByteArray × Int)) (fs : List Fli) (ss : List Int) (f : Fli) : Int := if fitsB cs fs ss = true then addN fs f else 1
def addF (cs : List (ByteArray × Int)) (fs : List Fli) (ss : List Int) (f : Fli) : List Fli := if fitsB cs fs ss = true then (if addN fs f = 0 then putAt fs (placeV fs f.1) f else fs) else []
/-- The slots with a flight that comes in at place k. -/
def newS (cs : List (ByteArray × Int)) (fs : List Fli) (ss : List Int) (f : Fli) (k : Nat) : List Int := (putAt ss k (-1)).set k (leastV cs (putAt fs k f) (putAt ss k (-1)) k)
def addS (cs : List (ByteArray × Int)) (fs : List Fli) (ss : List Int) (f : Fli) : List Int := if fitsB cs fs ss = true then (if addN fs f = 0 then newS cs fs ss f (placeV fs f.1) else ss) else []
theorem addN_zero {fs : List Fli} {f : Fli} (h : addN fs f = 0) : oneB f = true ∧ thereB fs f.1 = false ∧ fs.length ≠ 8 := by
  unfold addN at h
  cases h1 : oneB f
  · rw [h1] at h; simp at h
  · rw [h1] at h
    cases h2 : thereB fs f.1
    · rw [h2] at h
      by_cases h3 : fs.length = 8
      · rw [if_pos rfl, if_neg (by simp), if_pos h3] at h
        omega
      · exact ⟨rfl, rfl, h3⟩
    · rw [h2] at h; simp at h
theorem one_val (f : Fli) : flisB [f] = oneB f := by
  have := one_iff (f := f)
  cases h1 : flisB [f] <;> cases h2 : oneB f <;> simp [h1, h2] at this ⊢
theorem put_sm {cs : List (ByteArray × Int)} {fs : List Fli} {ss : List Int} (h : BookSm cs fs ss) (h8 : fs.length ≤ 8) (hs8 : ss.length ≤ 8) {f : Fli} (hv : f.2.2.2.length ≤ 1048576) (hs : SizesOk f) (k : Nat) (zs : List Int) (hz : zs.length = ss.length + 1) : BookSm cs (putAt fs k f) zs :=
  ⟨h.nc, by rw [putAt_len]; omega, by rw [hz]; omega, h.sc, fun g hg => (putAt_mem.1 hg).elim (fun e => by rw [e]; exact hv) (h.vl g), fun g hg => (putAt_mem.1 hg).elim (fun e => by rw [e]; exact hs) (h.sf g)⟩
theorem newS_len (cs : List (ByteArray × Int)) (fs : List Fli) (ss : List Int) (f : Fli) (k : Nat) : (newS cs fs ss f k).length = ss.length + 1 := by
  unfold newS
  rw [List.length_set, putAt_len]
theorem addAll_sm {cs : List (ByteArray × Int)} {fs : List Fli} {ss : List Int} {f : Fli} (h : BookSm cs fs ss) (hv : f.2.2.2.length ≤ 1048576) (hs : SizesOk f) : BookSm (okC cs fs ss) (addF cs fs ss f) (addS cs fs ss f) := by
  unfold okC addF addS
  cases hq : fitsB cs fs ss
  · exact ⟨by simp, by simp, by simp, by simp, by simp, by simp⟩
  · by_cases h0 : addN fs f = 0
    · simp only [h0, if_true]
      obtain ⟨_, hfl, hln, _⟩ := fits_iff.1 hq
      have h8 := (flis_iff.1 hfl).1
      exact put_sm h h8 (by omega) hv hs _ _ (newS_len _ _ _ _ _)
    · simp only [h0, if_true, if_false]
      exact h

theorem int_at {w : World} {lo g n c k : Nat} {zs : List Int} (h : OwnI w lo (.slice (some ⟨g, 0, none⟩) n c) zs) (hk : k < zs.length) : w.cell? ⟨g, k, none⟩ = some (.int .i64 zs[k]) ∧ w.frozen? ⟨g, k, none⟩ = false := by
  obtain ⟨a', c', e, _, _, _, h5⟩ := owns_slice h
  have hz : (intVals zs)[k]? = some (.int .i64 zs[k]) := by simp [intVals, hk]
  obtain ⟨g', e1, _, _, c0, z0⟩ := h5 k _ hz
  simp at e
  rw [← e.1] at e1
  simp at e1
  subst e1
  exact ⟨c0, z0⟩
theorem putAt_map {α β : Type} (f : α → β) (l : List α) (k : Nat) (x : α) : (putAt l k x).map f = putAt (l.map f) k (f x) := by
  unfold putAt
  simp [List.map_take, List.map_drop]
theorem belN (w : World) (o : Obj) : Below w.heap.size w (w.alloc o) := (Below.refl _ _).alloc (Nat.le_refl _) o
def flV (f : Fli) (av : Option Addr) (cv : Nat) : Value := .agg #[.string f.1, .int .i64 f.2.1, .int .i64 f.2.2.1, .slice av f.2.2.2.length cv]
theorem fl_one {w : World} (b : Nat) (f : Fli) (av : Option Addr) (cv : Nat) (hlt : b < w.heap.size) (h0 : w.cell? ⟨b, 0, none⟩ = some (.string f.1)) (h1 : w.cell? ⟨b, 1, none⟩ = some (.int .i64 f.2.1)) (h2 : w.cell? ⟨b, 2, none⟩ = some (.int .i64 f.2.2.1)) (h3 : w.cell? ⟨b, 3, none⟩ = some (.slice av f.2.2.2.length cv)) (hv : VisitsIn w av f.2.2.2) :
    FlightsIn w (some ⟨b, 0, none⟩) [f] := fun i hi => by
  have e : i = 0 := by simpa using hi
  subst e
  exact ⟨b, 0, rfl, hlt, h0, h1, h2, av, cv, h3, hv⟩
/-- The boxes of a method of a flight that comes in: the flight's, the book's. -/
theorem ad_boxes (w : World) (u0 u1 u2 u3 v0 v1 v2 : Value) : ∃ W, (w.alloc (.cells #[u0, u1, u2, u3] 64)).alloc (.cells #[v0, v1, v2] 29) = W ∧ W.heap.size = w.heap.size + 2 ∧ (W.cell? ⟨w.heap.size, 0, none⟩ = some u0 ∧ W.cell? ⟨w.heap.size, 1, none⟩ = some u1 ∧ W.cell? ⟨w.heap.size, 2, none⟩ = some u2 ∧ W.cell? ⟨w.heap.size, 3, none⟩ = some u3) ∧ BkAt W (w.heap.size + 1) v0 v1 v2 ∧ Below w.heap.size w W := by
  refine ⟨_, rfl, by simp, ?_, BkAt.newAt _ _ (by simp) _ _ _, ((Below.refl _ _).alloc (Nat.le_refl _) _).alloc (by simp) _⟩
  have hr := World.rowIs_alloc w #[u0, u1, u2, u3] 64 (fun i => #[u0, u1, u2, u3].getD i undef) (fun i hi => by rw [Array.getD_eq_getD_getElem?, Array.getElem?_eq_getElem hi]; rfl)
  refine ⟨?_, ?_, ?_, ?_⟩
  · exact Lib.cell?_alloc_some _ (hr.cell (i := 0) (by simp))
  · exact Lib.cell?_alloc_some _ (hr.cell (i := 1) (by simp))
  · exact Lib.cell?_alloc_some _ (hr.cell (i := 2) (by simp))
  · exact Lib.cell?_alloc_some _ (hr.cell (i := 3) (by simp))
theorem rf_boxes (w : World) (u0 u1 u2 u3 v0 v1 v2 : Value) : ∃ W, ((w.alloc (.cells #[u0, u1, u2, u3] 64)).alloc (.cells #[v0, v1, v2] 29)).alloc (.cells #[u0, u1, u2, u3] 32) = W ∧ W.heap.size = w.heap.size + 3 ∧ (W.cell? ⟨w.heap.size, 0, none⟩ = some u0 ∧ W.cell? ⟨w.heap.size, 1, none⟩ = some u1 ∧ W.cell? ⟨w.heap.size, 2, none⟩ = some u2 ∧ W.cell? ⟨w.heap.size, 3, none⟩ = some u3) ∧ BkAt W (w.heap.size + 1) v0 v1 v2 ∧ (W.cell? ⟨w.heap.size + 2, 0, none⟩ = some u0 ∧ W.cell? ⟨w.heap.size + 2, 1, none⟩ = some u1 ∧ W.cell? ⟨w.heap.size + 2, 2, none⟩ = some u2 ∧ W.cell? ⟨w.heap.size + 2, 3, none⟩ = some u3) ∧ Below w.heap.size w W := by
  obtain ⟨W, hW, hs, ⟨h0, h1, h2, h3⟩, hb, hB⟩ := ad_boxes w u0 u1 u2 u3 v0 v1 v2
  rw [hW]
  have hr := World.rowIs_alloc W #[u0, u1, u2, u3] 32 (fun i => #[u0, u1, u2, u3].getD i undef) (fun i hi => by rw [Array.getD_eq_getD_getElem?, Array.getElem?_eq_getElem hi]; rfl)
  rw [hs] at hr
  exact ⟨_, rfl, by simp; omega, ⟨Lib.cell?_alloc_some _ h0, Lib.cell?_alloc_some _ h1, Lib.cell?_alloc_some _ h2, Lib.cell?_alloc_some _ h3⟩, hb.later ((Below.refl _ _).alloc (Nat.le_refl _) _), ⟨hr.cell (i := 0) (by simp), hr.cell (i := 1) (by simp), hr.cell (i := 2) (by simp), hr.cell (i := 3) (by simp)⟩, hB.trans ((Below.refl _ _).alloc (by omega) _)⟩

set_option maxRecDepth 100000 in
set_option maxHeartbeats 1600000 in
theorem addRefused_any (f : Fli) (av : Option Addr) (cv : Nat) (ac a a' : Option Addr) (capc cap cap' : Nat) (cs : List (ByteArray × Int)) (fs : List Fli) (ss : List Int) (w : World) (hc : FlightsIn w a fs) (hl : fs.length ≤ 1048576) (ho : InOrder fs) (hv : VisitsIn w av f.2.2.2) (hvl : f.2.2.2.length ≤ 1048576) (hsz : SizesOk f) (k : Int) (hk : addN fs f = k) :
    Calls Tryz.prog 166 #[flV f av cv, bkV ac a a' capc cap cap' cs fs ss] w fun e w' => e = .returned (whyV k) ∧ Below w.heap.size w w' := by
  have HC := hide hc
  have HO := hide ho
  have HL := hide hl
  have HK := hide hk
  have HV := hide hv
  have HVL := hide hvl
  have HSZ := hide hsz
  clear hc ho hl hk hv hvl hsz
  obtain ⟨W, hW, hWs, ⟨c0, c1, c2, c3⟩, f0, ⟨d0, d1, d2, d3⟩, b0⟩ := rf_boxes w (.string f.1) (.int .i64 f.2.1) (.int .i64 f.2.2.1) (.slice av f.2.2.2.length cv) (.slice ac cs.length capc) (.slice a fs.length cap) (.slice a' ss.length cap')
  have HW := hide hW
  have B0 := hide b0
  have F0 := hide f0
  have C0 := hide c0
  have HFL := hide (fl_one (w.heap.size + 2) f av cv (by omega) d0 d1 d2 d3 (HV.out.later b0))
  clear hW f0 b0 c0 c1 c2 c3 d0 d1 d2 d3
  unfold flV
  obtain ⟨nm, pl, lt, vs⟩ := f
  go_enter Tryz.func166, Tryz.ntmps166
  go_wp2_with fail
  rw [HW.out]
  have P := implFlightsOk_any (some ⟨w.heap.size + 2, 0, none⟩) 1 [(nm, pl, lt, vs)] W HFL.out (by simp) (by intro x hx; rw [List.mem_singleton.1 hx]; exact HVL.out) (by intro x hx; rw [List.mem_singleton.1 hx]; exact HSZ.out)
  rw [one_val] at P
  have HNN := HK.out
  unfold addN at HNN
  cases h1 : oneB (nm, pl, lt, vs)
  · rw [h1] at P HNN
    refine P.mono ?_
    rintro e w1 ⟨rfl, hb1⟩
    have B1 := hide (below_two B0.out hb1)
    have e1 : k = 2 := by simpa using HNN.symm
    subst e1
    clear hb1 P HNN h1
    go_wp2
    go_ret
    exact ⟨rfl, B1.out⟩
  rw [h1] at P HNN
  refine P.mono ?_
  rintro e w1 ⟨rfl, hb1⟩
  have B1 := hide (below_two B0.out hb1)
  have F1 := hide (F0.out.later hb1)
  have C1 := hide (cell_later hb1 C0.out)
  have HN2 := hide HNN
  clear hb1 P HNN h1
  obtain ⟨x0, x1, x2, -⟩ := F1.out.cells
  have y0 := C1.out
  go_wp2_with fail
  have P := placeOf_any a cap fs nm w1 (HC.out.later B1.out) HL.out HO.out
  have HNN := HN2.out
  cases h2 : thereB fs nm
  · rw [h2] at P
    refine P.mono ?_
    rintro e w2 ⟨rfl, hb2⟩
    have B2 := hide (below_two B1.out hb2)
    have F2 := hide (F1.out.later hb2)
    have HN3 : Hid ((if fs.length = 8 then (4 : Int) else 0) = k) := by
      show _ = _
      rw [← HNN]; simp [h2]
    clear hb2 P HNN HN2 h2 x0 x1 x2 y0
    obtain ⟨x0, x1, x2, -⟩ := F2.out.cells
    by_cases h8 : fs.length = 8
    · have e1 : k = 4 := by have := HN3.out; rw [if_pos h8] at this; exact this.symm
      subst e1
      have h8' : (fs.length : Int) = 8 := by omega
      go_wp2
      go_ret
      exact ⟨rfl, B2.out⟩
    · have e1 : k = 0 := by have := HN3.out; rw [if_neg h8] at this; exact this.symm
      subst e1
      have h8' : ¬ ((fs.length : Int) = 8) := by omega
      go_wp2
      go_ret
      exact ⟨rfl, B2.out⟩
  · rw [h2] at P
    refine P.mono ?_
    rintro e w2 ⟨rfl, hb2⟩
    have B2 := hide (below_two B1.out hb2)
    have e1 : k = 3 := by rw [← HNN]; simp [h2]
    subst e1
    clear hb2 P HNN HN2 h2 x0 x1 x2 y0
    go_wp2
    go_ret
    exact ⟨rfl, B2.out⟩
end Go.Proofs.YtciacofibljmoaaGreatDoor

/- slices.Insert of one element, on a row of its own: flights, slots. -/
namespace Go.Proofs.YtciacofibljmoaaGreatDoor
open Go.RowKit

/-- 'copy' of elements of sz cells: all is read before anything is written. -/
theorem run_copyX {P : Program} (w : World) (dT sT ty elem : TypeId) (sz : Nat) (b o dLen dCap : Nat) (a : Addr) (sLen sCap : Nat) (cs : List Value) (k : Nat)
    (hu : P.underlying dT = some (.slice elem)) (hs : (P.info? elem).map (·.size) = some sz) (hk : Nat.min sLen dLen = k) (hn : cs.length = k * sz)
    (hsrc : ∀ j v, cs[j]? = some v → w.cell? (a.add j) = some v) (hc : ∀ j, j < cs.length → (w.cell? ⟨b, o + j, none⟩).isSome = true) (hf : ∀ j, j < cs.length → w.frozen? ⟨b, o + j, none⟩ = false) (h1 : ∀ v ∈ cs, v.oneCell' = true) :
    (Builtin.copy_ #[dT, sT] ty #[.slice (some ⟨b, o, none⟩) dLen dCap, .slice (some a) sLen sCap]).run P w = .ok (goInt k) (w.setCells b o cs) := by
  subst hk
  have hl := run_loadCells_list (P := P) w a cs hsrc
  have hst := run_storeCells_cells (P := P) b o cs 0 w (by simpa using hc) (by simpa using hf) h1
  cases hq : P.info? elem with
  | none => simp [hq] at hs
  | some i =>
    have hi : i.size = sz := by simpa [hq] using hs
    simp [Builtin.copy_, run_underlying hu, Builtin.lenOf, Builtin.firstCells, sizeOf, typeInfo, hq, hi, ← hn, hl, hst]
theorem wp_copyX {P : Program} (w : World) {o : Oper} {a : Act} {K : Act → World → Prop} {Q : Exit → Act → World → Prop} (d s : Operand) (t t' : TypeId)
    (ho : o.op = .call { callee := .builtin .copy, args := #[d, s], argTypes := #[t, t'] }) (v u : Value) (hd : a.eval d = v) (hs : a.eval s = u) {v' : Value} {w' : World}
    (hr : (Builtin.copy_ #[t, t'] o.type #[v, u]).run P w = .ok v' w') (h : K (a.put o.dst v') w') : o.wp P a w K Q := by
  unfold Oper.wp execOp
  simp only [ho, resolve, invoke, builtin, Sem.run_bind, Sem.run_pure, Result.andThen_ok, List.map_toArray, List.map_cons, List.map_nil, hd, hs, hr]
  exact h
theorem wpList_copyX {P : Program} (w : World) {ops : Array Oper} {rest : List Oper} {o : Oper} {a : Act} {Q : Exit → Act → World → Prop} (hgd : o.guard = none) (d s : Operand) (t t' : TypeId)
    (ho : o.op = .call { callee := .builtin .copy, args := #[d, s], argTypes := #[t, t'] }) (v u : Value) (hd : a.eval d = v) (hs : a.eval s = u) {v' : Value} {w' : World}
    (hr : (Builtin.copy_ #[t, t'] o.type #[v, u]).run P w = .ok v' w') (h : wpList P ops Q rest (a.put o.dst v') w') : wpList P ops Q (o :: rest) a w :=
  wpList_plain hgd fun _ hK => wp_copyX w d s t t' ho v u hd hs hr (hK _ _ h)
theorem step_copyX {P : Program} {ops : Array Oper} {o : Oper} {a : Act} {w : World} {K : Act → World → Prop} {Q : Exit → Act → World → Prop} {E : Prop}
    (hg : o.guard = none) (d x : Operand) (dT sT : TypeId) (hop : o.op = Op.call { callee := Callee.builtin Builtin.copy, args := #[d, x], argTypes := #[dT, sT] })
    (v u : Value) (hd : a.eval d = v) (hx : a.eval x = u) {v' : Value} {w' : World} (hr : (Builtin.copy_ #[dT, sT] o.type #[v, u]).run P w = .ok v' w') (hK : K (a.put o.dst v') w') :
    if Region.wanted o (yielded ops a.tmps) = true then Oper.wp P o a w K Q else E := by
  have hw : Region.wanted o (yielded ops a.tmps) = true := by simp [Region.wanted, hg]
  rw [if_pos hw]
  unfold Oper.wp
  simp [execOp, hop, resolve, invoke, builtin, hd, hx, hr, Result.andThen]
  exact hK
theorem own_row {w : World} {base : Nat} {e : TypeId} {sz g n c : Nat} {xs : List Value} (h : w.ownsRow base e sz (.slice (some ⟨g, 0, none⟩) n c) n xs) :
    ∃ f, w.rowIs g e (c * sz) f ∧ base ≤ g ∧ g < w.heap.size ∧ n ≤ c ∧ c ≤ maxLen ∧ xs.length = n * sz ∧ ∀ j (hj : j < xs.length), xs[j] = f j := by
  obtain ⟨hl, hh⟩ := h
  rcases hh with ⟨h0, _⟩ | ⟨g', cap, cur, e', hg, hh, h1, h2, h3, h4⟩
  · simp at h0
  · simp at e'
    obtain ⟨rfl, rfl⟩ := e'
    refine ⟨fun i => cur.getD i undef, ⟨cur, hh, h3, fun i hi => by simp [hi, h3]⟩, hg, (Array.getElem?_eq_some_iff.1 hh).1, h1, h2, hl, fun j hj => ?_⟩
    subst h4
    have hj' : j < cur.size := by simp at hj; omega
    simp [hj']
theorem row_own {w : World} {base : Nat} {e : TypeId} {sz g n c : Nat} {f : Nat → Value} {xs : List Value} (hr : w.rowIs g e (c * sz) f) (hb : base ≤ g) (hn : n ≤ c) (hc : c ≤ maxLen) (hl : xs.length = n * sz) (hx : ∀ j (hj : j < xs.length), xs[j] = f j) :
    w.ownsRow base e sz (.slice (some ⟨g, 0, none⟩) n c) n xs := by
  obtain ⟨cur, h1, h2, h3⟩ := hr
  refine ⟨hl, .inr ⟨g, c, cur, rfl, hb, h1, hn, hc, h2, List.ext_getElem ?_ fun j p q => ?_⟩⟩
  · rw [List.length_take, Array.length_toList, h2, hl, Nat.min_eq_left (Nat.mul_le_mul_right sz hn)]
  · have hj : j < cur.size := by simp at p; omega
    have := h3 j (by omega)
    rw [Array.getElem?_eq_getElem hj] at this
    simp only [List.getElem_take, Array.getElem_toList]
    rw [hx j q]
    exact Option.some.inj this
theorem put_get {xs vs : List Value} {i sz n m : Nat} (hl : xs.length = n * sz) (hv : vs.length = m * sz) (hi : i ≤ n) {j : Nat} :
    (xs.take (i * sz) ++ vs ++ xs.drop (i * sz))[j]? = if j < i * sz then xs[j]? else if j < (i + m) * sz then vs[j - i * sz]? else xs[j - m * sz]? := by
  have h1 := Nat.mul_le_mul_right sz hi
  have ht : (xs.take (i * sz)).length = i * sz := by rw [List.length_take]; omega
  have h2 : (i + m) * sz = i * sz + m * sz := by rw [Nat.add_mul]
  by_cases c1 : j < i * sz
  · rw [if_pos c1, List.append_assoc, List.getElem?_append_left (by omega), List.getElem?_take_of_lt c1]
  · rw [if_neg c1]
    by_cases c2 : j < (i + m) * sz
    · rw [if_pos c2, List.append_assoc, List.getElem?_append_right (by omega), List.getElem?_append_left (by omega), ht]
    · rw [if_neg c2, List.getElem?_append_right (by rw [List.length_append, ht, hv]; omega), List.getElem?_drop, List.length_append, ht, hv]
      congr 1
      omega
theorem put_len {xs vs : List Value} {i sz n m : Nat} (hl : xs.length = n * sz) (hv : vs.length = m * sz) (hi : i ≤ n) : (xs.take (i * sz) ++ vs ++ xs.drop (i * sz)).length = (n + m) * sz := by
  have h1 := Nat.mul_le_mul_right sz hi
  have h2 : (n + m) * sz = n * sz + m * sz := by rw [Nat.add_mul]
  simp only [List.length_append, List.length_take, List.length_drop, hl, hv]
  omega
/-- The row behind an insertion: ahead of it what stood there, then what comes in, then what stood behind. -/
theorem put_row {w : World} {base : Nat} {e : TypeId} {sz g n c i m : Nat} {f : Nat → Value} {xs vs : List Value} (hr : w.rowIs g e (c * sz) f) (hb : base ≤ g) (hn : n + m ≤ c) (hc : c ≤ maxLen) (hl : xs.length = n * sz) (hx : ∀ j (_ : j < i * sz), xs[j]? = some (f j)) (hv : vs.length = m * sz) (hi : i ≤ n) :
    ((w.setCells g ((i + m) * sz) (xs.drop (i * sz))).setCells g (i * sz) vs).ownsRow base e sz (.slice (some ⟨g, 0, none⟩) (n + m) c) (n + m) (xs.take (i * sz) ++ vs ++ xs.drop (i * sz)) := by
  refine row_own (Go.rowIs_setCells vs _ _ _ (Go.rowIs_setCells (xs.drop (i * sz)) _ _ _ hr)) hb hn hc (put_len hl hv hi) fun j hj => ?_
  have hg := put_get (j := j) hl hv hi
  rw [List.getElem?_eq_getElem hj] at hg
  have h1 := Nat.mul_le_mul_right sz hi
  have h2 : (i + m) * sz = i * sz + m * sz := by rw [Nat.add_mul]
  have hlen := put_len hl hv hi
  have h3 : (n + m) * sz = n * sz + m * sz := by rw [Nat.add_mul]
  have hj2 := hj
  rw [hlen] at hj2
  by_cases c1 : j < i * sz
  · rw [if_pos c1, hx j c1] at hg
    rw [if_neg (by omega), if_neg (by omega)]
    exact Option.some.inj hg
  · rw [if_neg c1] at hg
    by_cases c2 : j < (i + m) * sz
    · rw [if_pos c2] at hg
      rw [if_pos (by omega), ← hg]
      rfl
    · rw [if_neg c2] at hg
      rw [if_neg (by omega), if_pos (by rw [List.length_drop]; omega), List.getElem?_drop, show i * sz + (j - (i + m) * sz) = j - m * sz by omega, ← hg]
      rfl
/-- The same, the other way about. -/
theorem put_row2 {w : World} {base : Nat} {e : TypeId} {sz g n c i m : Nat} {f : Nat → Value} {xs vs : List Value} (hr : w.rowIs g e (c * sz) f) (hb : base ≤ g) (hn : n + m ≤ c) (hc : c ≤ maxLen) (hl : xs.length = n * sz) (hx : ∀ j (_ : j < i * sz), xs[j]? = some (f j)) (hv : vs.length = m * sz) (hi : i ≤ n) :
    ((w.setCells g (i * sz) vs).drew.setCells g ((i + m) * sz) (xs.drop (i * sz))).ownsRow base e sz (.slice (some ⟨g, 0, none⟩) (n + m) c) (n + m) (xs.take (i * sz) ++ vs ++ xs.drop (i * sz)) := by
  have hr1 := Go.rowIs_setCells vs (i * sz) _ _ hr
  refine row_own (Go.rowIs_setCells (xs.drop (i * sz)) _ (w.setCells g (i * sz) vs).drew _ (show (w.setCells g (i * sz) vs).drew.rowIs g e (c * sz) _ from hr1)) hb hn hc (put_len hl hv hi) fun j hj => ?_
  have hg := put_get (j := j) hl hv hi
  rw [List.getElem?_eq_getElem hj] at hg
  have h1 := Nat.mul_le_mul_right sz hi
  have h2 : (i + m) * sz = i * sz + m * sz := by rw [Nat.add_mul]
  have hlen := put_len hl hv hi
  have h3 : (n + m) * sz = n * sz + m * sz := by rw [Nat.add_mul]
  have hj2 := hj
  rw [hlen] at hj2
  by_cases c1 : j < i * sz
  · rw [if_pos c1, hx j c1] at hg
    rw [if_neg (by omega), if_neg (by omega)]
    exact Option.some.inj hg
  · rw [if_neg c1] at hg
    by_cases c2 : j < (i + m) * sz
    · rw [if_pos c2] at hg
      rw [if_neg (by omega), if_pos (by omega), ← hg]
      rfl
    · rw [if_neg c2] at hg
      rw [if_pos (by rw [List.length_drop]; omega), List.getElem?_drop, show i * sz + (j - (i + m) * sz) = j - m * sz by omega, ← hg]
      rfl
theorem some_setC (b : Nat) (vs : List Value) (o : Nat) (w : World) (h : ∀ j, j < vs.length → (w.cell? ⟨b, o + j, none⟩).isSome = true) (k : Nat) (hk : (w.cell? ⟨b, k, none⟩).isSome = true) : ((w.setCells b o vs).cell? ⟨b, k, none⟩).isSome = true := by
  by_cases hin : o ≤ k ∧ k < o + vs.length
  · have := World.cell?_setCells_in b vs o w h (k - o) (by omega)
    rw [show o + (k - o) = k by omega] at this
    rw [this]; rfl
  · rw [World.cell?_setCells_out b vs o w ⟨b, k, none⟩ (fun _ _ => by show k < o ∨ o + vs.length ≤ k; omega)]
    exact hk

set_option maxHeartbeats 4000000 in
set_option maxRecDepth 1000000 in
/-- At the end. -/
theorem insertF_end (base n c vb m vc : Nat) (tv : TypeId) (a : Option Addr) (xs vs : List Value) (w : World) (ho : w.ownsRow base 32 4 (.slice a n c) n xs) (hn : n ≤ 1048576) (hm0 : 0 < m) (hm1 : m ≤ 1048576) (hb : base ≤ w.heap.size) (hv : w.heap[vb]? = some (.cells vs.toArray tv (0, 0))) (hvl : vs.length = m * 4) (h1v : ∀ u ∈ vs, u.oneCell' = true) :
    Calls Tryz.prog 167 #[.slice a n c, .int .i64 n, .slice (some ⟨vb, 0, none⟩) m vc] w fun e w' => ∃ g2 c2, e = .returned (.slice (some ⟨g2, 0, none⟩) (n + m) c2) ∧ w'.ownsRow base 32 4 (.slice (some ⟨g2, 0, none⟩) (n + m) c2) (n + m) (xs ++ vs) ∧ w.grownBy w' (Value.slice a n c).ownBlock ∧ ((Value.slice a n c).ownBlock = some g2 ∨ g2 = w.heap.size) := by
  obtain ⟨i0, hi, iz0, iz1, iz2⟩ := info_parts info_flight
  have HV : Hid (∀ j u, vs[j]? = some u → w.cell? ((⟨vb, 0, none⟩ : Addr).add j) = some u) := fun j u hu => by
    rw [Addr.add_lit]
    simp [World.cell?, hv, hu]
  obtain ⟨a', c', e, hnc, hc, hp, -⟩ := owns_slice ho
  simp at e
  obtain ⟨rfl, rfl⟩ := e
  have h0 : a = none → n = 0 := fun e => by
    rcases ho.2 with ⟨h0, _⟩ | ⟨g, cap, cur, e', _⟩
    · simp at h0; exact h0.2.1
    · rw [e] at e'; simp at e'
  have h0c : a = none → c = 0 := fun e => by
    rcases ho.2 with ⟨h0, _⟩ | ⟨g, cap, cur, e', _⟩
    · simp at h0; exact h0.2.2
    · rw [e] at e'; simp at e'
  have HO := hide ho
  have H1 := hide h1v
  have HB := hide hb
  have HL := hide hvl
  have hz1 : ¬ ((m : Int) = 0) := by omega
  unfold maxLen at hc
  clear ho hv h1v hb hvl
  cases a with
  | none =>
    obtain rfl := h0 rfl
    obtain rfl := h0c rfl
    clear h0 h0c hp
    go_enter Tryz.func167, Tryz.ntmps167
    go_wp2_with (at_builtin; refine wpList_append_lies _ rfl _ _ 24 rfl base 32 i0 (.agg #[.string ⟨#[]⟩, .int .i64 0, .int .i64 0, .slice none 0 0]) 4 56 Tryz.underlying24 hi iz0 iz1 iz2 rfl (by decide) (.slice none 0 0) 0 xs rfl HO.out ⟨vb, 0, none⟩ m vc vs rfl HL.out HV.out H1.out hm0 (by unfold maxLen; omega) (by omega) HB.out w.heap.size rfl ?_; intro g2 c2 X hE1 hE2 hE3 hE4)
    all_goals (go_ret; exact ⟨g2, c2, by rw [Nat.zero_add]; rfl, hE1, hE2, hE3⟩)
  | some p =>
    have hp2 := (hp p rfl).1
    generalize p.block = g at hp2
    subst hp2
    clear h0 h0c hp
    go_enter Tryz.func167, Tryz.ntmps167
    go_wp2_with (at_builtin; refine wpList_append_lies _ rfl _ _ 24 rfl base 32 i0 (.agg #[.string ⟨#[]⟩, .int .i64 0, .int .i64 0, .slice none 0 0]) 4 56 Tryz.underlying24 hi iz0 iz1 iz2 rfl (by decide) (.slice (some ⟨g, 0, none⟩) n c) n xs rfl HO.out ⟨vb, 0, none⟩ m vc vs rfl HL.out HV.out H1.out hm0 (by unfold maxLen; omega) (by omega) HB.out w.heap.size rfl ?_; intro g2 c2 X hE1 hE2 hE3 hE4)
    all_goals (go_ret; exact ⟨_, _, rfl, hE1, hE2, hE3⟩)

set_option maxHeartbeats 4000000 in
set_option maxRecDepth 1000000 in
/-- In place. -/
theorem insertF_shift (base g n c i vb m vc : Nat) (tv : TypeId) (xs vs : List Value) (w : World) (ho : w.ownsRow base 32 4 (.slice (some ⟨g, 0, none⟩) n c) n xs) (hi : i < n) (hm0 : 0 < m) (hroom : n + m ≤ c) (hv : w.heap[vb]? = some (.cells vs.toArray tv (0, 0))) (hvb : vb ≠ g) (hvl : vs.length = m * 4) (h1x : ∀ u ∈ xs, u.oneCell' = true) (h1v : ∀ u ∈ vs, u.oneCell' = true) :
    Calls Tryz.prog 167 #[.slice (some ⟨g, 0, none⟩) n c, .int .i64 i, .slice (some ⟨vb, 0, none⟩) m vc] w fun e w' => e = .returned (.slice (some ⟨g, 0, none⟩) (n + m) c) ∧ w'.ownsRow base 32 4 (.slice (some ⟨g, 0, none⟩) (n + m) c) (n + m) (xs.take (i * 4) ++ vs ++ xs.drop (i * 4)) ∧ TouchS (fun k => k = g) w w' := by
  obtain ⟨i0, hi0, hz0, hzs, hzb⟩ := info_parts info_flight
  obtain ⟨f, hr, hbg, hgl, hnc, hcm, hxl, hxf⟩ := own_row ho
  have hsz : (Tryz.prog.info? 32).map (·.size) = some 4 := by rw [hi0]; simp [hzs]
  have hvc : ∀ j v, vs[j]? = some v → w.cell? ⟨vb, 0 + j, none⟩ = some v := fun j v hj => by simp [World.cell?, hv, hj]
  have hcell : ∀ (o : Nat) lb cb, (callFunc 169 #[.slice (some ⟨vb, 0, none⟩) m vc, .slice (some ⟨g, o, none⟩) lb cb]).run Tryz.prog w = .ok (.value (.bool false)) w := fun o lb cb => by
    obtain ⟨cur, hcur, hcs, -⟩ := hr
    rw [run_callFunc_extern Tryz.func169 (by kernel_rfl) (by kernel_rfl) (by kernel_rfl) (e := Extern.SlicesOverlaps.overlaps #[24, 24] #[4]) (by kernel_rfl),
      Lib.run_overlaps_apart w 24 4 32 Tryz.underlying24 4 (fun w => by kernel_rfl) ⟨vb, 0, none⟩ ⟨g, o, none⟩ m vc lb cb hvb tv 32 vs.toArray.size cur.size (by simp [World.shape?, hv]) (by simp [World.shape?, hcur]) (by omega) (by simp [World.frozen?, hv]) (by simp [World.frozen?, hv])]
    rfl
  have hdl : (xs.drop (i * 4)).length = (n - i) * 4 := by rw [List.length_drop, hxl]; omega
  have hsrc : ∀ j v, (xs.drop (i * 4))[j]? = some v → w.cell? ⟨g, i * 4 + j, none⟩ = some v := fun j v hj => by
    rw [List.getElem?_drop] at hj
    obtain ⟨h1, h2⟩ := List.getElem?_eq_some_iff.1 hj
    rw [hr.cell (by omega), ← hxf _ h1, h2]
  have hcp1 : ∀ (o1 o2 l1 l2 : Nat) ty dc sc, o1 = (i + m) * 4 → o2 = i * 4 → Nat.min l2 l1 = n - i → (Builtin.copy_ #[24, 24] ty #[.slice (some ⟨g, o1, none⟩) l1 dc, .slice (some ⟨g, o2, none⟩) l2 sc]).run Tryz.prog w.drew = .ok (goInt (n - i : Nat)) (w.drew.setCells g ((i + m) * 4) (xs.drop (i * 4))) := fun o1 o2 l1 l2 ty dc sc e1 e2 e3 => by
    subst e1 e2
    exact run_copyX w.drew _ _ ty 32 4 g _ l1 dc ⟨g, i * 4, none⟩ l2 sc _ (n - i) Tryz.underlying24 hsz e3 hdl (fun j v hj => by rw [Addr.add_lit]; exact hsrc j v hj)
      (fun j hj => by show (w.cell? _).isSome = true; rw [hr.cell (by omega)]; rfl) (fun j hj => hr.frozen _) (fun v hv => h1x v (List.mem_of_mem_drop hv))
  obtain ⟨W1, hW1⟩ : ∃ W1, W1 = w.drew.setCells g ((i + m) * 4) (xs.drop (i * 4)) := ⟨_, rfl⟩
  have hr1 : ∃ f1, W1.rowIs g 32 (c * 4) f1 := ⟨_, by rw [hW1]; exact Go.rowIs_setCells _ _ _ _ (show w.drew.rowIs g 32 (c * 4) f from hr)⟩
  have hcp2 : ∀ (o1 l1 : Nat) ty dc, o1 = i * 4 → Nat.min m l1 = m → (Builtin.copy_ #[24, 24] ty #[.slice (some ⟨g, o1, none⟩) l1 dc, .slice (some ⟨vb, 0, none⟩) m vc]).run Tryz.prog W1 = .ok (goInt m) (W1.setCells g (i * 4) vs) := fun o1 l1 ty dc e1 e3 => by
    subst e1
    obtain ⟨f1, hr1⟩ := hr1
    exact run_copyX W1 _ _ ty 32 4 g _ l1 dc ⟨vb, 0, none⟩ m vc vs m Tryz.underlying24 hsz e3 hvl
      (fun j v hj => by
        rw [Addr.add_lit, hW1, World.cell?_setCells_out g _ _ _ _ (fun h _ => absurd h hvb)]
        exact hvc j v hj)
      (fun j hj => by rw [hr1.cell (by omega)]; rfl) (fun j hj => hr1.frozen _) h1v
  have fin : (W1.setCells g (i * 4) vs).ownsRow base 32 4 (.slice (some ⟨g, 0, none⟩) (n + m) c) (n + m) (xs.take (i * 4) ++ vs ++ xs.drop (i * 4)) := by
    rw [hW1]
    exact put_row (show w.drew.rowIs g 32 (c * 4) f from hr) hbg hroom hcm hxl (fun j hj => by rw [List.getElem?_eq_getElem (by omega), hxf]) hvl (by omega)
  have tch : TouchS (fun k => k = g) w (W1.setCells g (i * 4) vs) := by
    rw [hW1]
    exact touchS_trans (touchS_trans (touchS_drewB _ w) (touch_setC (S := fun k => k = g) g rfl _ _ w.drew)) (touch_setC (S := fun k => k = g) g rfl _ _ _)
  have out : Hid ((W1.setCells g (i * 4) vs).ownsRow base 32 4 (.slice (some ⟨g, 0, none⟩) (n + m) c) (n + m) (xs.take (i * 4) ++ vs ++ xs.drop (i * 4)) ∧ TouchS (fun k => k = g) w (W1.setCells g (i * 4) vs)) := ⟨fin, tch⟩
  have hz1 : ¬ ((m : Int) = 0) := by omega
  have hz2 : ¬ ((i : Int) = (n : Int)) := by omega
  unfold maxLen at hcm
  have hw0 : IntKind.i64.wrap ((n : Int) + (m : Int)) = (n : Int) + (m : Int) := by rw [IntKind.wrap_i64]; omega
  have hw1 : IntKind.i64.wrap ((i : Int) + (m : Int)) = (i : Int) + (m : Int) := by rw [IntKind.wrap_i64]; omega
  have hb1 : (0 : Int) ≤ (i : Int) + (m : Int) := by omega
  have hin : i ≤ n := by omega
  have htn : ((i : Int) + (m : Int)).toNat = i + m := by omega
  have hb2 : ¬ (c = i + m) := by omega
  have hb3 : (i : Int) ≤ (n : Int) + (m : Int) := by omega
  have hb4 : ¬ (c = i) := by omega
  have HCP1 := hide hcp1
  have HCP2 : Hid (∀ ty, (Builtin.copy_ #[24, 24] ty #[.slice (some ⟨g, (i * 4), none⟩) (n + m - i) (c - i), .slice (some ⟨vb, 0, none⟩) m vc]).run Tryz.prog W1 = .ok (goInt m) (W1.setCells g (i * 4) vs)) := fun ty => hcp2 (i * 4) (n + m - i) ty (c - i) (by omega) (by simp only [Nat.min_def]; split <;> omega)
  have HW1 := hide hW1
  have e1 : n + m - (i + m) = n - i := by omega
  clear fin tch hr1 hr hcp1 hcp2 hW1 hsrc hdl hxl hxf h1x h1v hv hvl ho
  go_enter Tryz.func167, Tryz.ntmps167
  go_wp2_with (simp only [hcell])
  go_region_law (refine step_copyX rfl _ _ 24 24 rfl _ _ (by simp [Act.eval, Act.put]) (by simp [Act.eval, Act.put]) (HCP1.out ((i + m) * 4) (i * 4) (n - i) (n + m - i) _ (c - (i + m)) (c - i) (by omega) (by omega) (by simp only [Nat.min_def]; split <;> omega)) ?_; rw [← HW1.out])
  go_wp2_with (rw [HCP2.out])
  go_ret
  exact ⟨rfl, out.out.1, out.out.2⟩

set_option maxHeartbeats 4000000 in
set_option maxRecDepth 1000000 in
/-- In a new row. -/
theorem insertF_grow (base g n c i vb m vc : Nat) (tv : TypeId) (xs vs : List Value) (w : World) (ho : w.ownsRow base 32 4 (.slice (some ⟨g, 0, none⟩) n c) n xs) (hb : base ≤ w.heap.size) (hn : n ≤ 1048576) (hm1 : m ≤ 1048576) (hi : i < n) (hm0 : 0 < m) (hroom : c < n + m) (hv : w.heap[vb]? = some (.cells vs.toArray tv (0, 0))) (hvl : vs.length = m * 4) (h1x : ∀ u ∈ xs, u.oneCell' = true) (h1v : ∀ u ∈ vs, u.oneCell' = true) :
    Calls Tryz.prog 167 #[.slice (some ⟨g, 0, none⟩) n c, .int .i64 i, .slice (some ⟨vb, 0, none⟩) m vc] w fun e w' => ∃ c2, e = .returned (.slice (some ⟨w.heap.size, 0, none⟩) (n + m) c2) ∧ w'.ownsRow base 32 4 (.slice (some ⟨w.heap.size, 0, none⟩) (n + m) c2) (n + m) (xs.take (i * 4) ++ vs ++ xs.drop (i * 4)) ∧ Below w.heap.size w w' := by
  obtain ⟨i0, hi0, hz0, hzs, hzb⟩ := info_parts info_flight
  obtain ⟨f, hr, hbg, hgl, hnc, hcm, hxl, hxf⟩ := own_row ho
  have hsz : (Tryz.prog.info? 32).map (·.size) = some 4 := by rw [hi0]; simp [hzs]
  have hvw : vb < w.heap.size := (Array.getElem?_eq_some_iff.1 hv).1
  have hkk : (n : Int) + (m : Int) - (i : Int) = ((n + m - i : Nat) : Int) := by omega
  have hik : i + (n + m - i) = n + m := by omega
  have hxg : ∀ j v, xs[j]? = some v → w.cell? ⟨g, j, none⟩ = some v := fun j v hj => by
    obtain ⟨h1, h2⟩ := List.getElem?_eq_some_iff.1 hj
    rw [hr.cell (by omega), ← hxf _ h1, h2]
  have hold : (Builtin.firstCells i0.size i (.slice (some ⟨g, 0, none⟩) i c)).run Tryz.prog w.drew = .ok (xs.take (i * 4)).toArray w.drew := by
    rw [hzs]
    exact run_firstCells_some w.drew 4 i ⟨g, 0, none⟩ i c (xs.take (i * 4)) (by rw [List.length_take]; omega) (fun j v hj => by
      rw [Addr.add_lit]
      rw [List.getElem?_take] at hj
      split at hj
      · rw [Nat.zero_add]; exact hxg j v hj
      · cases hj)
  obtain ⟨G, hG⟩ : ∃ G, G = grownCap w (n + m) c 32 := ⟨_, rfl⟩
  obtain ⟨ROW, hROW⟩ : ∃ ROW : Array Value, ROW = (xs.take (i * 4)).toArray ++ Builtin.zeroCells ((.agg #[.string ⟨#[]⟩, .int .i64 0, .int .i64 0, .slice none 0 0]) : Value).cells (n + m - i) ++ Builtin.zeroCells ((.agg #[.string ⟨#[]⟩, .int .i64 0, .int .i64 0, .slice none 0 0]) : Value).cells (G - (n + m)) := ⟨_, rfl⟩
  have hrz : ∀ ty, (Builtin.append_ #[24, 3] ty #[.slice (some ⟨g, 0, none⟩) i c, .int .i64 ((n : Int) + (m : Int) - (i : Int))]).run Tryz.prog w =
      .ok (.slice (some ⟨w.heap.size, 0, none⟩) (n + m) G) (w.drew.alloc (.cells ROW 32)) := fun ty => by
    have h := Lib.run_append_grow_zeros w 24 3 ty 32 i0 _ .i64 .i64 Tryz.underlying24 Tryz.underlying3 hi0 hz0 (some ⟨g, 0, none⟩) i c (xs.take (i * 4)) hold (n + m - i) (by omega) (by omega) (by omega) (by omega) (by rw [hzb]; omega) (by rw [hzb, hik]; exact growslice_fits hroom (by omega))
    rw [hik, ← hG] at h
    rw [hkk, hROW]
    exact h
  have hGn : n + m ≤ G := by rw [hG]; exact grownCap_ge w _ _ _
  have hGm : G ≤ maxLen := by rw [hG]; exact grownCap_le_maxLen w (n + m) c 32 (by unfold maxLen; omega)
  have hRs : ROW.size = G * 4 := by
    rw [hROW]
    simp [Builtin.zeroCells, Value.cells, hxl]
    omega
  have hRx : ∀ j, j < i * 4 → xs[j]? = some (ROW.getD j undef) := fun j hj => by
    have hjx : j < xs.length := by omega
    have h2 : ROW[j]? = xs[j]? := by
      rw [hROW, Array.append_assoc, Array.getElem?_append_left (by simp; omega), List.getElem?_toArray, List.getElem?_take_of_lt hj]
    rw [Array.getD_eq_getD_getElem?, h2, List.getElem?_eq_getElem hjx]
    rfl
  obtain ⟨W1, hW1⟩ : ∃ W1, W1 = w.drew.alloc (.cells ROW 32) := ⟨_, rfl⟩
  have hr1 : W1.rowIs w.heap.size 32 (G * 4) (fun j => ROW.getD j undef) := by
    rw [hW1, ← hRs]
    exact World.rowIs_alloc w.drew ROW 32 _ (fun j hj => by simp [hj])
  have hOb : ∀ b j v, b < w.heap.size → w.cell? ⟨b, j, none⟩ = some v → W1.cell? ⟨b, j, none⟩ = some v := fun b j v hlt h => by rw [hW1, World.cell?_alloc_past (w := w.drew) _ b j hlt]; exact h
  have hcpA : ∀ (W : World), (∀ x, W.cell? x = W1.cell? x) → (∀ x, W.frozen? x = W1.frozen? x) → ∀ (o1 l1 : Nat) ty dc, o1 = i * 4 → Nat.min m l1 = m → (Builtin.copy_ #[24, 24] ty #[.slice (some ⟨w.heap.size, o1, none⟩) l1 dc, .slice (some ⟨vb, 0, none⟩) m vc]).run Tryz.prog W = .ok (goInt m) (W.setCells w.heap.size (i * 4) vs) := fun W hWc hWf o1 l1 ty dc e1 e3 => by
    subst e1
    exact run_copyX W _ _ ty 32 4 w.heap.size _ l1 dc ⟨vb, 0, none⟩ m vc vs m Tryz.underlying24 hsz e3 hvl
      (fun j v hj => by rw [Addr.add_lit, hWc]; exact hOb _ _ v hvw (by simp [World.cell?, hv, hj]))
      (fun j hj => by rw [hWc, hr1.cell (by omega)]; rfl) (fun j hj => by rw [hWf]; exact hr1.frozen _) h1v
  have hcpB : ∀ (W : World), (∀ x, W.cell? x = (W1.setCells w.heap.size (i * 4) vs).cell? x) → (∀ x, W.frozen? x = (W1.setCells w.heap.size (i * 4) vs).frozen? x) → ∀ (o1 o2 l1 l2 : Nat) ty dc sc, o1 = (i + m) * 4 → o2 = i * 4 → Nat.min l2 l1 = n - i → (Builtin.copy_ #[24, 24] ty #[.slice (some ⟨w.heap.size, o1, none⟩) l1 dc, .slice (some ⟨g, o2, none⟩) l2 sc]).run Tryz.prog W = .ok (goInt (n - i : Nat)) (W.setCells w.heap.size ((i + m) * 4) (xs.drop (i * 4))) := fun W hWc hWf o1 o2 l1 l2 ty dc sc e1 e2 e3 => by
    subst e1 e2
    exact run_copyX W _ _ ty 32 4 w.heap.size _ l1 dc ⟨g, i * 4, none⟩ l2 sc _ (n - i) Tryz.underlying24 hsz e3 (by rw [List.length_drop, hxl]; omega)
      (fun j v hj => by
        rw [List.getElem?_drop] at hj
        rw [Addr.add_lit, hWc, World.cell?_setCells_out _ _ _ _ _ (fun h _ => absurd (show g = w.heap.size from h) (by omega))]
        exact hOb _ _ v hgl (hxg _ v hj))
      (fun j hj => by rw [List.length_drop] at hj; rw [hWc]; exact some_setC _ _ _ _ (fun t ht => by rw [hr1.cell (by omega)]; rfl) _ (by rw [hr1.cell (by omega)]; rfl))
      (fun j hj => by rw [hWf, World.frozen?_setCells]; exact hr1.frozen _) (fun v hv => h1x v (List.mem_of_mem_drop hv))
  have fin : (((w.alloc (.cells ROW 32)).drew.setCells w.heap.size (i * 4) vs).drew.setCells w.heap.size ((i + m) * 4) (xs.drop (i * 4))).ownsRow base 32 4 (.slice (some ⟨w.heap.size, 0, none⟩) (n + m) G) (n + m) (xs.take (i * 4) ++ vs ++ xs.drop (i * 4)) :=
    put_row2 (f := fun j => ROW.getD j undef) (by rw [hW1] at hr1; exact hr1) hb hGn hGm hxl hRx hvl (by omega)
  have bel : Below w.heap.size w (((w.alloc (.cells ROW 32)).drew.setCells w.heap.size (i * 4) vs).drew.setCells w.heap.size ((i + m) * 4) (xs.drop (i * 4))) :=
    Go.below_setCells (Nat.le_refl _) _ _ _ (Go.below_setCells (Nat.le_refl _) _ _ _ ((Below.refl _ _).alloc (Nat.le_refl _) _).drew).drew
  have out : Hid ((((w.alloc (.cells ROW 32)).drew.setCells w.heap.size (i * 4) vs).drew.setCells w.heap.size ((i + m) * 4) (xs.drop (i * 4))).ownsRow base 32 4 (.slice (some ⟨w.heap.size, 0, none⟩) (n + m) G) (n + m) (xs.take (i * 4) ++ vs ++ xs.drop (i * 4)) ∧ Below w.heap.size w (((w.alloc (.cells ROW 32)).drew.setCells w.heap.size (i * 4) vs).drew.setCells w.heap.size ((i + m) * 4) (xs.drop (i * 4)))) := ⟨fin, bel⟩
  have hz1 : ¬ ((m : Int) = 0) := by omega
  have hz2 : ¬ ((i : Int) = (n : Int)) := by omega
  have hz3 : (c : Int) < (n : Int) + (m : Int) := by omega
  unfold maxLen at hcm hGm
  have hw0 : IntKind.i64.wrap ((n : Int) + (m : Int)) = (n : Int) + (m : Int) := by rw [IntKind.wrap_i64]; omega
  have hw2 : IntKind.i64.wrap ((n : Int) + (m : Int) - (i : Int)) = (n : Int) + (m : Int) - (i : Int) := by rw [IntKind.wrap_i64]; omega
  have hw1 : IntKind.i64.wrap ((i : Int) + (m : Int)) = (i : Int) + (m : Int) := by rw [IntKind.wrap_i64]; omega
  have hb1 : (0 : Int) ≤ (i : Int) + (m : Int) := by omega
  have hin : i ≤ n := by omega
  have htn : ((i : Int) + (m : Int)).toNat = i + m := by omega
  have hb3 : (i : Int) ≤ (n : Int) := by omega
  have hGi : ¬ (G = i) := by omega
  have hGim : ¬ (G = i + m) := by omega
  have hci : ¬ (c = i) := by omega
  subst hW1
  have hE1 : ∀ x, ((w.alloc (.cells ROW 32)).drew).cell? x = (w.drew.alloc (.cells ROW 32)).cell? x := fun x => rfl
  have hE2 : ∀ x, ((w.alloc (.cells ROW 32)).drew).frozen? x = (w.drew.alloc (.cells ROW 32)).frozen? x := fun x => rfl
  have hF1 : ∀ x, (((w.alloc (.cells ROW 32)).drew.setCells w.heap.size (i * 4) vs).drew).cell? x = ((w.drew.alloc (.cells ROW 32)).setCells w.heap.size (i * 4) vs).cell? x := fun x => rfl
  have hF2 : ∀ x, (((w.alloc (.cells ROW 32)).drew.setCells w.heap.size (i * 4) vs).drew).frozen? x = ((w.drew.alloc (.cells ROW 32)).setCells w.heap.size (i * 4) vs).frozen? x := fun x => rfl
  have HRZ := hide hrz
  have HA : Hid (∀ ty, (Builtin.copy_ #[24, 24] ty #[.slice (some ⟨w.heap.size, (i * 4), none⟩) (n + m - i) (G - i), .slice (some ⟨vb, 0, none⟩) m vc]).run Tryz.prog (w.alloc (.cells ROW 32)).drew = .ok (goInt m) ((w.alloc (.cells ROW 32)).drew.setCells w.heap.size (i * 4) vs)) := fun ty => hcpA _ hE1 hE2 (i * 4) (n + m - i) ty (G - i) (by omega) (by simp only [Nat.min_def]; split <;> omega)
  have HBB := hide hcpB
  have e1 : n + m - (i + m) = n - i := by omega
  clear hkk hik hold hROW hG fin bel hr1 hr hrz hcpA hcpB hRs hRx hOb hxg hxl hxf h1x h1v hv hvl ho
  go_enter Tryz.func167, Tryz.ntmps167
  go_wp2_with (first
    | (at_builtin; refine Lib.wpList_append_run _ rfl _ _ _ _ rfl _ _ rfl rfl _ _ (HRZ.out _) ?_)
    | (rw [HA.out]))
  go_region_law (refine step_copyX rfl _ _ 24 24 rfl _ _ (by simp [Act.eval, Act.put]) (by simp [Act.eval, Act.put]) (HBB.out _ hF1 hF2 ((i + m) * 4) (i * 4) (n - i) (n - i) _ (G - (i + m)) (c - i) (by omega) (by omega) (by simp only [Nat.min_def]; split <;> omega)) ?_)
  go_wp2
  go_ret
  exact ⟨_, rfl, out.out.1, out.out.2⟩

/-- One element is put in. -/
theorem insertF_any (base n c i vb : Nat) (tv : TypeId) (a : Option Addr) (xs vs : List Value) (w : World) (ho : w.ownsRow base 32 4 (.slice a n c) n xs) (hb : base ≤ w.heap.size) (hn : n ≤ 1048575) (hi : i ≤ n) (hv : w.heap[vb]? = some (.cells vs.toArray tv (0, 0))) (hvb : ∀ k, InA a k → vb ≠ k) (hvl : vs.length = 4) (h1x : ∀ u ∈ xs, u.oneCell' = true) (h1v : ∀ u ∈ vs, u.oneCell' = true) :
    Calls Tryz.prog 167 #[.slice a n c, .int .i64 i, .slice (some ⟨vb, 0, none⟩) 1 1] w fun e w' => ∃ a2 c2, e = .returned (.slice a2 (n + 1) c2) ∧ w'.ownsRow base 32 4 (.slice a2 (n + 1) c2) (n + 1) (xs.take (i * 4) ++ vs ++ xs.drop (i * 4)) ∧ TouchS (InA a) w w' ∧ ∀ k, InA a2 k → InA a k ∨ w.heap.size ≤ k := by
  by_cases he : i = n
  · subst he
    refine (insertF_end base i c vb 1 1 tv a xs vs w ho (by omega) (by omega) (by omega) hb hv (by omega) h1v).mono ?_
    rintro e w' ⟨g2, c2, rfl, h1, h2, h3⟩
    have hx : xs.length = i * 4 := ho.1
    refine ⟨_, _, rfl, ?_, ⟨h2.os, h2.tape, h2.output, h2.size, fun k hk hn => h2.block k hk fun hh => hn (ownB_in hh.symm)⟩, fun k hk => ?_⟩
    · rw [List.take_of_length_le (by omega), List.drop_of_length_le (by omega), List.append_nil]
      exact h1
    · obtain ⟨p, hp, rfl⟩ := hk
      simp at hp
      subst hp
      rcases h3 with h3 | h3
      · exact .inl (ownB_in h3)
      · exact .inr (by show w.heap.size ≤ g2; omega)
  obtain ⟨g, rfl, hg1, hg2⟩ := owns_some ho (by omega)
  obtain ⟨_, _, _, _, hnc, _⟩ := own_row ho
  by_cases hr : n + 1 ≤ c
  · refine (insertF_shift base g n c i vb 1 1 tv xs vs w ho (by omega) (by omega) hr hv (hvb g ⟨_, rfl, rfl⟩) (by omega) h1x h1v).mono ?_
    rintro e w' ⟨rfl, h1, h2⟩
    exact ⟨_, _, rfl, h1, touchS_mono h2 (fun k hk => ⟨_, rfl, hk.symm⟩), fun k hk => .inl hk⟩
  · refine (insertF_grow base g n c i vb 1 1 tv xs vs w ho hb (by omega) (by omega) (by omega) (by omega) (by omega) hv (by omega) h1x h1v).mono ?_
    rintro e w' ⟨c2, rfl, h1, h2⟩
    refine ⟨_, _, rfl, h1, touchS_below h2, fun k hk => .inr ?_⟩
    obtain ⟨p, hp, rfl⟩ := hk
    simp at hp
    subst hp
    exact Nat.le_refl _

set_option maxHeartbeats 4000000 in
set_option maxRecDepth 1000000 in
/-- At the end. -/
theorem insertI_end (base n c vb m vc : Nat) (tv : TypeId) (a : Option Addr) (xs vs : List Value) (w : World) (ho : w.ownsRow base 3 1 (.slice a n c) n xs) (hn : n ≤ 1048576) (hm0 : 0 < m) (hm1 : m ≤ 1048576) (hb : base ≤ w.heap.size) (hv : w.heap[vb]? = some (.cells vs.toArray tv (0, 0))) (hvl : vs.length = m * 1) (h1v : ∀ u ∈ vs, u.oneCell' = true) :
    Calls Tryz.prog 168 #[.slice a n c, .int .i64 n, .slice (some ⟨vb, 0, none⟩) m vc] w fun e w' => ∃ g2 c2, e = .returned (.slice (some ⟨g2, 0, none⟩) (n + m) c2) ∧ w'.ownsRow base 3 1 (.slice (some ⟨g2, 0, none⟩) (n + m) c2) (n + m) (xs ++ vs) ∧ w.grownBy w' (Value.slice a n c).ownBlock ∧ ((Value.slice a n c).ownBlock = some g2 ∨ g2 = w.heap.size) := by
  obtain ⟨i0, hi, iz0, iz1, iz2⟩ := info_parts info_int
  have HV : Hid (∀ j u, vs[j]? = some u → w.cell? ((⟨vb, 0, none⟩ : Addr).add j) = some u) := fun j u hu => by
    rw [Addr.add_lit]
    simp [World.cell?, hv, hu]
  obtain ⟨a', c', e, hnc, hc, hp, -⟩ := owns_slice ho
  simp at e
  obtain ⟨rfl, rfl⟩ := e
  have h0 : a = none → n = 0 := fun e => by
    rcases ho.2 with ⟨h0, _⟩ | ⟨g, cap, cur, e', _⟩
    · simp at h0; exact h0.2.1
    · rw [e] at e'; simp at e'
  have h0c : a = none → c = 0 := fun e => by
    rcases ho.2 with ⟨h0, _⟩ | ⟨g, cap, cur, e', _⟩
    · simp at h0; exact h0.2.2
    · rw [e] at e'; simp at e'
  have HO := hide ho
  have H1 := hide h1v
  have HB := hide hb
  have HL := hide hvl
  have hz1 : ¬ ((m : Int) = 0) := by omega
  unfold maxLen at hc
  clear ho hv h1v hb hvl
  cases a with
  | none =>
    obtain rfl := h0 rfl
    obtain rfl := h0c rfl
    clear h0 h0c hp
    go_enter Tryz.func168, Tryz.ntmps168
    go_wp2_with (at_builtin; refine wpList_append_lies _ rfl _ _ 27 rfl base 3 i0 (.int .i64 0) 1 8 Tryz.underlying27 hi iz0 iz1 iz2 rfl (by decide) (.slice none 0 0) 0 xs rfl HO.out ⟨vb, 0, none⟩ m vc vs rfl HL.out HV.out H1.out hm0 (by unfold maxLen; omega) (by omega) HB.out w.heap.size rfl ?_; intro g2 c2 X hE1 hE2 hE3 hE4)
    all_goals (go_ret; exact ⟨g2, c2, by rw [Nat.zero_add]; rfl, hE1, hE2, hE3⟩)
  | some p =>
    have hp2 := (hp p rfl).1
    generalize p.block = g at hp2
    subst hp2
    clear h0 h0c hp
    go_enter Tryz.func168, Tryz.ntmps168
    go_wp2_with (at_builtin; refine wpList_append_lies _ rfl _ _ 27 rfl base 3 i0 (.int .i64 0) 1 8 Tryz.underlying27 hi iz0 iz1 iz2 rfl (by decide) (.slice (some ⟨g, 0, none⟩) n c) n xs rfl HO.out ⟨vb, 0, none⟩ m vc vs rfl HL.out HV.out H1.out hm0 (by unfold maxLen; omega) (by omega) HB.out w.heap.size rfl ?_; intro g2 c2 X hE1 hE2 hE3 hE4)
    all_goals (go_ret; exact ⟨_, _, rfl, hE1, hE2, hE3⟩)

set_option maxHeartbeats 4000000 in
set_option maxRecDepth 1000000 in
/-- In place. -/
theorem insertI_shift (base g n c i vb m vc : Nat) (tv : TypeId) (xs vs : List Value) (w : World) (ho : w.ownsRow base 3 1 (.slice (some ⟨g, 0, none⟩) n c) n xs) (hi : i < n) (hm0 : 0 < m) (hroom : n + m ≤ c) (hv : w.heap[vb]? = some (.cells vs.toArray tv (0, 0))) (hvb : vb ≠ g) (hvl : vs.length = m * 1) (h1x : ∀ u ∈ xs, u.oneCell' = true) (h1v : ∀ u ∈ vs, u.oneCell' = true) :
    Calls Tryz.prog 168 #[.slice (some ⟨g, 0, none⟩) n c, .int .i64 i, .slice (some ⟨vb, 0, none⟩) m vc] w fun e w' => e = .returned (.slice (some ⟨g, 0, none⟩) (n + m) c) ∧ w'.ownsRow base 3 1 (.slice (some ⟨g, 0, none⟩) (n + m) c) (n + m) (xs.take (i * 1) ++ vs ++ xs.drop (i * 1)) ∧ TouchS (fun k => k = g) w w' := by
  obtain ⟨i0, hi0, hz0, hzs, hzb⟩ := info_parts info_int
  obtain ⟨f, hr, hbg, hgl, hnc, hcm, hxl, hxf⟩ := own_row ho
  have hsz : (Tryz.prog.info? 3).map (·.size) = some 1 := by rw [hi0]; simp [hzs]
  have hvc : ∀ j v, vs[j]? = some v → w.cell? ⟨vb, 0 + j, none⟩ = some v := fun j v hj => by simp [World.cell?, hv, hj]
  have hcell : ∀ (o : Nat) lb cb, (callFunc 171 #[.slice (some ⟨vb, 0, none⟩) m vc, .slice (some ⟨g, o, none⟩) lb cb]).run Tryz.prog w = .ok (.value (.bool false)) w := fun o lb cb => by
    obtain ⟨cur, hcur, hcs, -⟩ := hr
    rw [run_callFunc_extern Tryz.func171 (by kernel_rfl) (by kernel_rfl) (by kernel_rfl) (e := Extern.SlicesOverlaps.overlaps #[27, 27] #[4]) (by kernel_rfl),
      Lib.run_overlaps_apart w 27 4 3 Tryz.underlying27 1 (fun w => by kernel_rfl) ⟨vb, 0, none⟩ ⟨g, o, none⟩ m vc lb cb hvb tv 3 vs.toArray.size cur.size (by simp [World.shape?, hv]) (by simp [World.shape?, hcur]) (by omega) (by simp [World.frozen?, hv]) (by simp [World.frozen?, hv])]
    rfl
  have hdl : (xs.drop (i * 1)).length = (n - i) * 1 := by rw [List.length_drop, hxl]; omega
  have hsrc : ∀ j v, (xs.drop (i * 1))[j]? = some v → w.cell? ⟨g, i * 1 + j, none⟩ = some v := fun j v hj => by
    rw [List.getElem?_drop] at hj
    obtain ⟨h1, h2⟩ := List.getElem?_eq_some_iff.1 hj
    rw [hr.cell (by omega), ← hxf _ h1, h2]
  have hcp1 : ∀ (o1 o2 l1 l2 : Nat) ty dc sc, o1 = (i + m) * 1 → o2 = i * 1 → Nat.min l2 l1 = n - i → (Builtin.copy_ #[27, 27] ty #[.slice (some ⟨g, o1, none⟩) l1 dc, .slice (some ⟨g, o2, none⟩) l2 sc]).run Tryz.prog w.drew = .ok (goInt (n - i : Nat)) (w.drew.setCells g ((i + m) * 1) (xs.drop (i * 1))) := fun o1 o2 l1 l2 ty dc sc e1 e2 e3 => by
    subst e1 e2
    exact run_copyX w.drew _ _ ty 3 1 g _ l1 dc ⟨g, i * 1, none⟩ l2 sc _ (n - i) Tryz.underlying27 hsz e3 hdl (fun j v hj => by rw [Addr.add_lit]; exact hsrc j v hj)
      (fun j hj => by show (w.cell? _).isSome = true; rw [hr.cell (by omega)]; rfl) (fun j hj => hr.frozen _) (fun v hv => h1x v (List.mem_of_mem_drop hv))
  obtain ⟨W1, hW1⟩ : ∃ W1, W1 = w.drew.setCells g ((i + m) * 1) (xs.drop (i * 1)) := ⟨_, rfl⟩
  have hr1 : ∃ f1, W1.rowIs g 3 (c * 1) f1 := ⟨_, by rw [hW1]; exact Go.rowIs_setCells _ _ _ _ (show w.drew.rowIs g 3 (c * 1) f from hr)⟩
  have hcp2 : ∀ (o1 l1 : Nat) ty dc, o1 = i * 1 → Nat.min m l1 = m → (Builtin.copy_ #[27, 27] ty #[.slice (some ⟨g, o1, none⟩) l1 dc, .slice (some ⟨vb, 0, none⟩) m vc]).run Tryz.prog W1 = .ok (goInt m) (W1.setCells g (i * 1) vs) := fun o1 l1 ty dc e1 e3 => by
    subst e1
    obtain ⟨f1, hr1⟩ := hr1
    exact run_copyX W1 _ _ ty 3 1 g _ l1 dc ⟨vb, 0, none⟩ m vc vs m Tryz.underlying27 hsz e3 hvl
      (fun j v hj => by
        rw [Addr.add_lit, hW1, World.cell?_setCells_out g _ _ _ _ (fun h _ => absurd h hvb)]
        exact hvc j v hj)
      (fun j hj => by rw [hr1.cell (by omega)]; rfl) (fun j hj => hr1.frozen _) h1v
  have fin : (W1.setCells g (i * 1) vs).ownsRow base 3 1 (.slice (some ⟨g, 0, none⟩) (n + m) c) (n + m) (xs.take (i * 1) ++ vs ++ xs.drop (i * 1)) := by
    rw [hW1]
    exact put_row (show w.drew.rowIs g 3 (c * 1) f from hr) hbg hroom hcm hxl (fun j hj => by rw [List.getElem?_eq_getElem (by omega), hxf]) hvl (by omega)
  have tch : TouchS (fun k => k = g) w (W1.setCells g (i * 1) vs) := by
    rw [hW1]
    exact touchS_trans (touchS_trans (touchS_drewB _ w) (touch_setC (S := fun k => k = g) g rfl _ _ w.drew)) (touch_setC (S := fun k => k = g) g rfl _ _ _)
  have out : Hid ((W1.setCells g (i * 1) vs).ownsRow base 3 1 (.slice (some ⟨g, 0, none⟩) (n + m) c) (n + m) (xs.take (i * 1) ++ vs ++ xs.drop (i * 1)) ∧ TouchS (fun k => k = g) w (W1.setCells g (i * 1) vs)) := ⟨fin, tch⟩
  have hz1 : ¬ ((m : Int) = 0) := by omega
  have hz2 : ¬ ((i : Int) = (n : Int)) := by omega
  unfold maxLen at hcm
  have hw0 : IntKind.i64.wrap ((n : Int) + (m : Int)) = (n : Int) + (m : Int) := by rw [IntKind.wrap_i64]; omega
  have hw1 : IntKind.i64.wrap ((i : Int) + (m : Int)) = (i : Int) + (m : Int) := by rw [IntKind.wrap_i64]; omega
  have hb1 : (0 : Int) ≤ (i : Int) + (m : Int) := by omega
  have hin : i ≤ n := by omega
  have htn : ((i : Int) + (m : Int)).toNat = i + m := by omega
  have hb2 : ¬ (c = i + m) := by omega
  have hb3 : (i : Int) ≤ (n : Int) + (m : Int) := by omega
  have hb4 : ¬ (c = i) := by omega
  have HCP1 := hide hcp1
  have HCP2 : Hid (∀ ty, (Builtin.copy_ #[27, 27] ty #[.slice (some ⟨g, i, none⟩) (n + m - i) (c - i), .slice (some ⟨vb, 0, none⟩) m vc]).run Tryz.prog W1 = .ok (goInt m) (W1.setCells g (i * 1) vs)) := fun ty => hcp2 i (n + m - i) ty (c - i) (by omega) (by simp only [Nat.min_def]; split <;> omega)
  have HW1 := hide hW1
  have e1 : n + m - (i + m) = n - i := by omega
  clear fin tch hr1 hr hcp1 hcp2 hW1 hsrc hdl hxl hxf h1x h1v hv hvl ho
  simp only [Nat.mul_one] at HCP1 HCP2 HW1 out ⊢
  go_enter Tryz.func168, Tryz.ntmps168
  go_wp2_with (simp only [hcell])
  go_region_law (refine step_copyX rfl _ _ 27 27 rfl _ _ (by simp [Act.eval, Act.put]) (by simp [Act.eval, Act.put]) (HCP1.out (i + m) i (n - i) (n + m - i) _ (c - (i + m)) (c - i) (by omega) (by omega) (by simp only [Nat.min_def]; split <;> omega)) ?_; rw [← HW1.out])
  go_wp2_with (rw [HCP2.out])
  go_ret
  exact ⟨rfl, out.out.1, out.out.2⟩

set_option maxHeartbeats 4000000 in
set_option maxRecDepth 1000000 in
/-- In a new row. -/
theorem insertI_grow (base g n c i vb m vc : Nat) (tv : TypeId) (xs vs : List Value) (w : World) (ho : w.ownsRow base 3 1 (.slice (some ⟨g, 0, none⟩) n c) n xs) (hb : base ≤ w.heap.size) (hn : n ≤ 1048576) (hm1 : m ≤ 1048576) (hi : i < n) (hm0 : 0 < m) (hroom : c < n + m) (hv : w.heap[vb]? = some (.cells vs.toArray tv (0, 0))) (hvl : vs.length = m * 1) (h1x : ∀ u ∈ xs, u.oneCell' = true) (h1v : ∀ u ∈ vs, u.oneCell' = true) :
    Calls Tryz.prog 168 #[.slice (some ⟨g, 0, none⟩) n c, .int .i64 i, .slice (some ⟨vb, 0, none⟩) m vc] w fun e w' => ∃ c2, e = .returned (.slice (some ⟨w.heap.size, 0, none⟩) (n + m) c2) ∧ w'.ownsRow base 3 1 (.slice (some ⟨w.heap.size, 0, none⟩) (n + m) c2) (n + m) (xs.take (i * 1) ++ vs ++ xs.drop (i * 1)) ∧ Below w.heap.size w w' := by
  obtain ⟨i0, hi0, hz0, hzs, hzb⟩ := info_parts info_int
  obtain ⟨f, hr, hbg, hgl, hnc, hcm, hxl, hxf⟩ := own_row ho
  have hsz : (Tryz.prog.info? 3).map (·.size) = some 1 := by rw [hi0]; simp [hzs]
  have hvw : vb < w.heap.size := (Array.getElem?_eq_some_iff.1 hv).1
  have hkk : (n : Int) + (m : Int) - (i : Int) = ((n + m - i : Nat) : Int) := by omega
  have hik : i + (n + m - i) = n + m := by omega
  have hxg : ∀ j v, xs[j]? = some v → w.cell? ⟨g, j, none⟩ = some v := fun j v hj => by
    obtain ⟨h1, h2⟩ := List.getElem?_eq_some_iff.1 hj
    rw [hr.cell (by omega), ← hxf _ h1, h2]
  have hold : (Builtin.firstCells i0.size i (.slice (some ⟨g, 0, none⟩) i c)).run Tryz.prog w.drew = .ok (xs.take (i * 1)).toArray w.drew := by
    rw [hzs]
    exact run_firstCells_some w.drew 1 i ⟨g, 0, none⟩ i c (xs.take (i * 1)) (by rw [List.length_take]; omega) (fun j v hj => by
      rw [Addr.add_lit]
      rw [List.getElem?_take] at hj
      split at hj
      · rw [Nat.zero_add]; exact hxg j v hj
      · cases hj)
  obtain ⟨G, hG⟩ : ∃ G, G = grownCap w (n + m) c 3 := ⟨_, rfl⟩
  obtain ⟨ROW, hROW⟩ : ∃ ROW : Array Value, ROW = (xs.take (i * 1)).toArray ++ Builtin.zeroCells ((.int .i64 0) : Value).cells (n + m - i) ++ Builtin.zeroCells ((.int .i64 0) : Value).cells (G - (n + m)) := ⟨_, rfl⟩
  have hrz : ∀ ty, (Builtin.append_ #[27, 3] ty #[.slice (some ⟨g, 0, none⟩) i c, .int .i64 ((n : Int) + (m : Int) - (i : Int))]).run Tryz.prog w =
      .ok (.slice (some ⟨w.heap.size, 0, none⟩) (n + m) G) (w.drew.alloc (.cells ROW 3)) := fun ty => by
    have h := Lib.run_append_grow_zeros w 27 3 ty 3 i0 _ .i64 .i64 Tryz.underlying27 Tryz.underlying3 hi0 hz0 (some ⟨g, 0, none⟩) i c (xs.take (i * 1)) hold (n + m - i) (by omega) (by omega) (by omega) (by omega) (by rw [hzb]; omega) (by rw [hzb, hik]; exact growslice_fits hroom (by omega))
    rw [hik, ← hG] at h
    rw [hkk, hROW]
    exact h
  have hGn : n + m ≤ G := by rw [hG]; exact grownCap_ge w _ _ _
  have hGm : G ≤ maxLen := by rw [hG]; exact grownCap_le_maxLen w (n + m) c 3 (by unfold maxLen; omega)
  have hRs : ROW.size = G * 1 := by
    rw [hROW]
    simp [Builtin.zeroCells, Value.cells, hxl]
    omega
  have hRx : ∀ j, j < i * 1 → xs[j]? = some (ROW.getD j undef) := fun j hj => by
    have hjx : j < xs.length := by omega
    have h2 : ROW[j]? = xs[j]? := by
      rw [hROW, Array.append_assoc, Array.getElem?_append_left (by simp; omega), List.getElem?_toArray, List.getElem?_take_of_lt hj]
    rw [Array.getD_eq_getD_getElem?, h2, List.getElem?_eq_getElem hjx]
    rfl
  obtain ⟨W1, hW1⟩ : ∃ W1, W1 = w.drew.alloc (.cells ROW 3) := ⟨_, rfl⟩
  have hr1 : W1.rowIs w.heap.size 3 (G * 1) (fun j => ROW.getD j undef) := by
    rw [hW1, ← hRs]
    exact World.rowIs_alloc w.drew ROW 3 _ (fun j hj => by simp [hj])
  have hOb : ∀ b j v, b < w.heap.size → w.cell? ⟨b, j, none⟩ = some v → W1.cell? ⟨b, j, none⟩ = some v := fun b j v hlt h => by rw [hW1, World.cell?_alloc_past (w := w.drew) _ b j hlt]; exact h
  have hcpA : ∀ (W : World), (∀ x, W.cell? x = W1.cell? x) → (∀ x, W.frozen? x = W1.frozen? x) → ∀ (o1 l1 : Nat) ty dc, o1 = i * 1 → Nat.min m l1 = m → (Builtin.copy_ #[27, 27] ty #[.slice (some ⟨w.heap.size, o1, none⟩) l1 dc, .slice (some ⟨vb, 0, none⟩) m vc]).run Tryz.prog W = .ok (goInt m) (W.setCells w.heap.size (i * 1) vs) := fun W hWc hWf o1 l1 ty dc e1 e3 => by
    subst e1
    exact run_copyX W _ _ ty 3 1 w.heap.size _ l1 dc ⟨vb, 0, none⟩ m vc vs m Tryz.underlying27 hsz e3 hvl
      (fun j v hj => by rw [Addr.add_lit, hWc]; exact hOb _ _ v hvw (by simp [World.cell?, hv, hj]))
      (fun j hj => by rw [hWc, hr1.cell (by omega)]; rfl) (fun j hj => by rw [hWf]; exact hr1.frozen _) h1v
  have hcpB : ∀ (W : World), (∀ x, W.cell? x = (W1.setCells w.heap.size (i * 1) vs).cell? x) → (∀ x, W.frozen? x = (W1.setCells w.heap.size (i * 1) vs).frozen? x) → ∀ (o1 o2 l1 l2 : Nat) ty dc sc, o1 = (i + m) * 1 → o2 = i * 1 → Nat.min l2 l1 = n - i → (Builtin.copy_ #[27, 27] ty #[.slice (some ⟨w.heap.size, o1, none⟩) l1 dc, .slice (some ⟨g, o2, none⟩) l2 sc]).run Tryz.prog W = .ok (goInt (n - i : Nat)) (W.setCells w.heap.size ((i + m) * 1) (xs.drop (i * 1))) := fun W hWc hWf o1 o2 l1 l2 ty dc sc e1 e2 e3 => by
    subst e1 e2
    exact run_copyX W _ _ ty 3 1 w.heap.size _ l1 dc ⟨g, i * 1, none⟩ l2 sc _ (n - i) Tryz.underlying27 hsz e3 (by rw [List.length_drop, hxl]; omega)
      (fun j v hj => by
        rw [List.getElem?_drop] at hj
        rw [Addr.add_lit, hWc, World.cell?_setCells_out _ _ _ _ _ (fun h _ => absurd (show g = w.heap.size from h) (by omega))]
        exact hOb _ _ v hgl (hxg _ v hj))
      (fun j hj => by rw [List.length_drop] at hj; rw [hWc]; exact some_setC _ _ _ _ (fun t ht => by rw [hr1.cell (by omega)]; rfl) _ (by rw [hr1.cell (by omega)]; rfl))
      (fun j hj => by rw [hWf, World.frozen?_setCells]; exact hr1.frozen _) (fun v hv => h1x v (List.mem_of_mem_drop hv))
  have fin : (((w.alloc (.cells ROW 3)).drew.setCells w.heap.size (i * 1) vs).drew.setCells w.heap.size ((i + m) * 1) (xs.drop (i * 1))).ownsRow base 3 1 (.slice (some ⟨w.heap.size, 0, none⟩) (n + m) G) (n + m) (xs.take (i * 1) ++ vs ++ xs.drop (i * 1)) :=
    put_row2 (f := fun j => ROW.getD j undef) (by rw [hW1] at hr1; exact hr1) hb hGn hGm hxl hRx hvl (by omega)
  have bel : Below w.heap.size w (((w.alloc (.cells ROW 3)).drew.setCells w.heap.size (i * 1) vs).drew.setCells w.heap.size ((i + m) * 1) (xs.drop (i * 1))) :=
    Go.below_setCells (Nat.le_refl _) _ _ _ (Go.below_setCells (Nat.le_refl _) _ _ _ ((Below.refl _ _).alloc (Nat.le_refl _) _).drew).drew
  have out : Hid ((((w.alloc (.cells ROW 3)).drew.setCells w.heap.size (i * 1) vs).drew.setCells w.heap.size ((i + m) * 1) (xs.drop (i * 1))).ownsRow base 3 1 (.slice (some ⟨w.heap.size, 0, none⟩) (n + m) G) (n + m) (xs.take (i * 1) ++ vs ++ xs.drop (i * 1)) ∧ Below w.heap.size w (((w.alloc (.cells ROW 3)).drew.setCells w.heap.size (i * 1) vs).drew.setCells w.heap.size ((i + m) * 1) (xs.drop (i * 1)))) := ⟨fin, bel⟩
  have hz1 : ¬ ((m : Int) = 0) := by omega
  have hz2 : ¬ ((i : Int) = (n : Int)) := by omega
  have hz3 : (c : Int) < (n : Int) + (m : Int) := by omega
  unfold maxLen at hcm hGm
  have hw0 : IntKind.i64.wrap ((n : Int) + (m : Int)) = (n : Int) + (m : Int) := by rw [IntKind.wrap_i64]; omega
  have hw2 : IntKind.i64.wrap ((n : Int) + (m : Int) - (i : Int)) = (n : Int) + (m : Int) - (i : Int) := by rw [IntKind.wrap_i64]; omega
  have hw1 : IntKind.i64.wrap ((i : Int) + (m : Int)) = (i : Int) + (m : Int) := by rw [IntKind.wrap_i64]; omega
  have hb1 : (0 : Int) ≤ (i : Int) + (m : Int) := by omega
  have hin : i ≤ n := by omega
  have htn : ((i : Int) + (m : Int)).toNat = i + m := by omega
  have hb3 : (i : Int) ≤ (n : Int) := by omega
  have hGi : ¬ (G = i) := by omega
  have hGim : ¬ (G = i + m) := by omega
  have hci : ¬ (c = i) := by omega
  subst hW1
  have hE1 : ∀ x, ((w.alloc (.cells ROW 3)).drew).cell? x = (w.drew.alloc (.cells ROW 3)).cell? x := fun x => rfl
  have hE2 : ∀ x, ((w.alloc (.cells ROW 3)).drew).frozen? x = (w.drew.alloc (.cells ROW 3)).frozen? x := fun x => rfl
  have hF1 : ∀ x, (((w.alloc (.cells ROW 3)).drew.setCells w.heap.size (i * 1) vs).drew).cell? x = ((w.drew.alloc (.cells ROW 3)).setCells w.heap.size (i * 1) vs).cell? x := fun x => rfl
  have hF2 : ∀ x, (((w.alloc (.cells ROW 3)).drew.setCells w.heap.size (i * 1) vs).drew).frozen? x = ((w.drew.alloc (.cells ROW 3)).setCells w.heap.size (i * 1) vs).frozen? x := fun x => rfl
  have HRZ := hide hrz
  have HA : Hid (∀ ty, (Builtin.copy_ #[27, 27] ty #[.slice (some ⟨w.heap.size, i, none⟩) (n + m - i) (G - i), .slice (some ⟨vb, 0, none⟩) m vc]).run Tryz.prog (w.alloc (.cells ROW 3)).drew = .ok (goInt m) ((w.alloc (.cells ROW 3)).drew.setCells w.heap.size (i * 1) vs)) := fun ty => hcpA _ hE1 hE2 i (n + m - i) ty (G - i) (by omega) (by simp only [Nat.min_def]; split <;> omega)
  have HBB := hide hcpB
  have e1 : n + m - (i + m) = n - i := by omega
  clear hkk hik hold hROW hG fin bel hr1 hr hrz hcpA hcpB hRs hRx hOb hxg hxl hxf h1x h1v hv hvl ho
  simp only [Nat.mul_one] at HA HBB hF1 hF2 out ⊢
  go_enter Tryz.func168, Tryz.ntmps168
  go_wp2_with (first
    | (at_builtin; refine Lib.wpList_append_run _ rfl _ _ _ _ rfl _ _ rfl rfl _ _ (HRZ.out _) ?_)
    | (rw [HA.out]))
  go_region_law (refine step_copyX rfl _ _ 27 27 rfl _ _ (by simp [Act.eval, Act.put]) (by simp [Act.eval, Act.put]) (HBB.out _ hF1 hF2 (i + m) i (n - i) (n - i) _ (G - (i + m)) (c - i) (by omega) (by omega) (by simp only [Nat.min_def]; split <;> omega)) ?_)
  go_wp2
  go_ret
  exact ⟨_, rfl, out.out.1, out.out.2⟩

/-- One element is put in. -/
theorem insertI_any (base n c i vb : Nat) (tv : TypeId) (a : Option Addr) (xs vs : List Value) (w : World) (ho : w.ownsRow base 3 1 (.slice a n c) n xs) (hb : base ≤ w.heap.size) (hn : n ≤ 1048575) (hi : i ≤ n) (hv : w.heap[vb]? = some (.cells vs.toArray tv (0, 0))) (hvb : ∀ k, InA a k → vb ≠ k) (hvl : vs.length = 1) (h1x : ∀ u ∈ xs, u.oneCell' = true) (h1v : ∀ u ∈ vs, u.oneCell' = true) :
    Calls Tryz.prog 168 #[.slice a n c, .int .i64 i, .slice (some ⟨vb, 0, none⟩) 1 1] w fun e w' => ∃ a2 c2, e = .returned (.slice a2 (n + 1) c2) ∧ w'.ownsRow base 3 1 (.slice a2 (n + 1) c2) (n + 1) (xs.take (i * 1) ++ vs ++ xs.drop (i * 1)) ∧ TouchS (InA a) w w' ∧ ∀ k, InA a2 k → InA a k ∨ w.heap.size ≤ k := by
  by_cases he : i = n
  · subst he
    refine (insertI_end base i c vb 1 1 tv a xs vs w ho (by omega) (by omega) (by omega) hb hv (by omega) h1v).mono ?_
    rintro e w' ⟨g2, c2, rfl, h1, h2, h3⟩
    have hx : xs.length = i * 1 := ho.1
    refine ⟨_, _, rfl, ?_, ⟨h2.os, h2.tape, h2.output, h2.size, fun k hk hn => h2.block k hk fun hh => hn (ownB_in hh.symm)⟩, fun k hk => ?_⟩
    · rw [List.take_of_length_le (by omega), List.drop_of_length_le (by omega), List.append_nil]
      exact h1
    · obtain ⟨p, hp, rfl⟩ := hk
      simp at hp
      subst hp
      rcases h3 with h3 | h3
      · exact .inl (ownB_in h3)
      · exact .inr (by show w.heap.size ≤ g2; omega)
  obtain ⟨g, rfl, hg1, hg2⟩ := owns_some ho (by omega)
  obtain ⟨_, _, _, _, hnc, _⟩ := own_row ho
  by_cases hr : n + 1 ≤ c
  · refine (insertI_shift base g n c i vb 1 1 tv xs vs w ho (by omega) (by omega) hr hv (hvb g ⟨_, rfl, rfl⟩) (by omega) h1x h1v).mono ?_
    rintro e w' ⟨rfl, h1, h2⟩
    exact ⟨_, _, rfl, h1, touchS_mono h2 (fun k hk => ⟨_, rfl, hk.symm⟩), fun k hk => .inl hk⟩
  · refine (insertI_grow base g n c i vb 1 1 tv xs vs w ho hb (by omega) (by omega) (by omega) (by omega) (by omega) hv (by omega) h1x h1v).mono ?_
    rintro e w' ⟨c2, rfl, h1, h2⟩
    refine ⟨_, _, rfl, h1, touchS_below h2, fun k hk => .inr ?_⟩
    obtain ⟨p, hp, rfl⟩ := hk
    simp at hp
    subst hp
    exact Nat.le_refl _
end Go.Proofs.YtciacofibljmoaaGreatDoor

/- A flight comes in, the program's way: it is put into the book. -/
namespace Go.Proofs.YtciacofibljmoaaGreatDoor
open Go.RowKit

/-- The boxes of appliedTo: the flight's, the book's, the answer's. -/
theorem aa_boxes (w : World) (u0 u1 u2 u3 v0 v1 v2 : Value) : ∃ W, ((w.alloc (.cells #[u0, u1, u2, u3] 64)).alloc (.cells #[v0, v1, v2] 29)).alloc (.cells #[.slice none 0 0, .slice none 0 0, .slice none 0 0] 29) = W ∧ W.heap.size = w.heap.size + 3 ∧ (W.cell? ⟨w.heap.size, 0, none⟩ = some u0 ∧ W.cell? ⟨w.heap.size, 1, none⟩ = some u1 ∧ W.cell? ⟨w.heap.size, 2, none⟩ = some u2 ∧ W.cell? ⟨w.heap.size, 3, none⟩ = some u3) ∧ BkAt W (w.heap.size + 1) v0 v1 v2 ∧ BkAt W (w.heap.size + 2) (.slice none 0 0) (.slice none 0 0) (.slice none 0 0) ∧ Below w.heap.size w W := by
  obtain ⟨W, hW, hs, ⟨h0, h1, h2, h3⟩, hb, hB⟩ := ad_boxes w u0 u1 u2 u3 v0 v1 v2
  rw [hW]
  exact ⟨_, rfl, by simp; omega, ⟨Lib.cell?_alloc_some _ h0, Lib.cell?_alloc_some _ h1, Lib.cell?_alloc_some _ h2, Lib.cell?_alloc_some _ h3⟩, hb.later ((Below.refl _ _).alloc (Nat.le_refl _) _), BkAt.newAt _ _ hs _ _ _, hB.trans ((Below.refl _ _).alloc (by omega) _)⟩
theorem heap_new (w : World) (o : Obj) : (w.alloc o).heap[w.heap.size]? = some o := Deep.blk_alloc_new w o
theorem touch_more {S S' : Nat → Prop} {a b c : World} (h : TouchS S a b) (k : TouchS S' b c) (hs : ∀ q, q < a.heap.size → S' q → S q) : TouchS S a c :=
  ⟨k.os.trans h.os, k.tape.trans h.tape, k.output.trans h.output, Nat.le_trans h.size k.size, fun i hi hn => (k.block i (Nat.lt_of_lt_of_le hi h.size) fun hh => hn (hs i hi hh)).trans (h.block i hi hn)⟩
theorem touch_new {S : Nat → Prop} {a b c : World} (h : TouchS S a b) (k : Below b.heap.size b c) : TouchS S a c := touch_more h (touchS_below (S := fun _ => False) k) (fun _ _ h => h.elim)

/-- A flight has been put into a book of its own. -/
theorem add_full {lo k : Nat} {w1 wA wB : World} {o : Obj} {ac a a' a2 a5 : Option Addr} {capc cap cap' c2 c5 : Nat} {cs : List (ByteArray × Int)} {fs : List Fli} {gs : List FlV} {ss : List Int} {nm : ByteArray} {pl lt : Int} {vs : List Vis} (H1 : FullBk lo w1 ac a a' capc cap cap' cs gs ss) (hlo : lo ≤ w1.heap.size) (hgl : gs.length = fs.length) (BA : Below w1.heap.size w1 wA) (OA : OwnV wA w1.heap.size (.slice a2 vs.length c2) vs)
    (OB : World.ownsRow wB lo 32 4 (.slice a5 (fs.length + 1) c5) (fs.length + 1) ((flVals gs).take (k * 4) ++ [.string nm, .int .i64 pl, .int .i64 lt, .slice a2 vs.length c2] ++ (flVals gs).drop (k * 4))) (TB : TouchS (InA a) (wA.alloc o) wB) (NB : ∀ q, InA a5 q → InA a q ∨ (wA.alloc o).heap.size ≤ q) :
    FullBk lo wB ac a5 a' capc c5 cap' cs (putAt gs k ((nm, pl, lt, vs), a2, c2)) ss ∧ TouchS (InA a) w1 wB ∧ ∀ q, InFull ac a5 a' (putAt gs k ((nm, pl, lt, vs), a2, c2)) q → InFull ac a a' gs q ∨ w1.heap.size ≤ q := by
  have hsA := BA.size
  have hsY : (wA.alloc o).heap.size = wA.heap.size + 1 := by simp
  have hin : ∀ q, InA a2 q → w1.heap.size ≤ q := fun q hq => (owns_in OA hq).1
  refine ⟨FullBk.putF ((H1.later BA).later (belN wA o)) k ((nm, pl, lt, vs), a2, c2) (owns_base (owns_later OA (belN wA o)) hlo) (fun q hq => ?_) (by rw [hgl, flVals_put]; exact OB) TB NB, touchS_trans (touchS_below (below_two BA (belN wA o))) TB, fun q hq => ?_⟩
  · have h0 := hin q hq
    refine ⟨fun h => ?_, fun h => ?_, fun h => ?_, fun y hy h => ?_⟩
    · have := (owns_in H1.caps h).2; omega
    · have := (owns_in H1.fl h).2; omega
    · have := (owns_in H1.ints h).2; omega
    · have := (owns_in (H1.vis y hy) h).2; omega
  · rcases hq with hq | hq | hq | ⟨x, hx, hq⟩
    · exact .inl (.inl hq)
    · rcases NB q hq with h | h
      · exact .inl (.inr (.inl h))
      · exact .inr (by omega)
    · exact .inl (.inr (.inr (.inl hq)))
    · rcases putAt_mem.1 hx with rfl | hx
      · exact .inr (hin q hq)
      · exact .inl (.inr (.inr (.inr ⟨x, hx, hq⟩)))
theorem intVals_put (ss : List Int) (k : Nat) (z : Int) : intVals (putAt ss k z) = (intVals ss).take (k * 1) ++ [.int .i64 z] ++ (intVals ss).drop (k * 1) := by
  unfold intVals putAt
  rw [Nat.mul_one]
  simp [List.map_take, List.map_drop]

set_option maxRecDepth 100000 in
set_option maxHeartbeats 3200000 in
theorem addApplied_any (f : Fli) (av : Option Addr) (cv lo : Nat) (ac a a' : Option Addr) (capc cap cap' : Nat) (cs : List (ByteArray × Int)) (fs : List Fli) (ss : List Int) (gs : List FlV) (w : World) (h : FullBk lo w ac a a' capc cap cap' cs gs ss) (hgs : gs.map Prod.fst = fs) (hlo : lo ≤ w.heap.size) (hm : BookSm cs fs ss) (hfit : fitsB cs fs ss = true) (hv : VisitsIn w av f.2.2.2) (hvl : f.2.2.2.length ≤ 1048576) (hsz : SizesOk f) (hN : addN fs f = 0) :
    Calls Tryz.prog 165 #[flV f av cv, bkV ac a a' capc cap cap' cs fs ss] w fun e w' => ∃ a2 a2' c2 c2' gs2, e = .returned (bkV ac a2 a2' capc c2 c2' cs (putAt fs (placeV fs f.1) f) (newS cs fs ss f (placeV fs f.1))) ∧ gs2.map Prod.fst = putAt fs (placeV fs f.1) f ∧ FullBk lo w' ac a2 a2' capc c2 c2' cs gs2 (newS cs fs ss f (placeV fs f.1)) ∧ TouchS (fun q => InA a q ∨ InA a' q) w w' ∧ ∀ q, InFull ac a2 a2' gs2 q → InFull ac a a' gs q ∨ w.heap.size ≤ q := by
  obtain ⟨hone, hth, hn8⟩ := addN_zero hN
  obtain ⟨_, hfl, hln, _⟩ := fits_iff.1 hfit
  obtain ⟨hl8, _, hord⟩ := flis_iff.1 hfl
  have hlt8 : fs.length < 8 := by omega
  have PF := hide (put_fits hfit hone hlt8 hth)
  have hpl := place_le fs f.1
  have PSM := hide (put_sm hm hl8 (by omega) hvl hsz (placeV fs f.1) (putAt ss (placeV fs f.1) (-1)) (putAt_len _ _ _))
  have hgl : gs.length = fs.length := by rw [← hgs, List.length_map]
  obtain ⟨k, hk⟩ : ∃ k, placeV fs f.1 = k := ⟨_, rfl⟩
  rw [hk] at PF PSM hpl ⊢
  have HK := hide hk
  have H := hide h
  have HGS := hide hgs
  have HGL := hide hgl
  have HO := hide hord
  have HV := hide hv
  have HVL := hide hvl
  have HLO := hide hlo
  have HTH := hide hth
  have HLN := hide hln
  have HM := hide hm
  clear h hgs hlo hm hfit hv hvl hsz hN hone hth hn8 hfl hln hl8 hord hk hgl
  obtain ⟨W, hW, hWs, ⟨c0, c1, c2, c3⟩, f0, r0, b0⟩ := aa_boxes w (.string f.1) (.int .i64 f.2.1) (.int .i64 f.2.2.1) (.slice av f.2.2.2.length cv) (.slice ac cs.length capc) (.slice a fs.length cap) (.slice a' ss.length cap')
  have HW := hide hW
  have HWs := hide hWs
  have B0 := hide b0
  have F0 := hide f0
  have R0 := hide r0
  have C0 := hide (And.intro c0 (And.intro c1 (And.intro c2 c3)))
  clear hW f0 r0 b0 c0 c1 c2 c3 hWs
  unfold flV
  obtain ⟨nm, pl, lt, vs⟩ := f
  go_enter Tryz.func165, Tryz.ntmps165
  go_wp2_with fail
  rw [HW.out]
  have P := placeOf_any a cap fs nm W (by have := (H.out.later B0.out).flights; rwa [HGS.out] at this) (by omega) HO.out
  rw [show placeV fs nm = k from HK.out, show thereB fs nm = false from HTH.out] at P
  refine P.mono ?_
  rintro e w1 ⟨rfl, hb1⟩
  have B1 := hide (below_two B0.out hb1)
  have H1 := hide ((H.out.later B0.out).later hb1)
  have F1 := hide (F0.out.later hb1)
  have R1 := hide (R0.out.later hb1)
  have C1 := hide (And.intro (cell_later hb1 C0.out.1) (And.intro (cell_later hb1 C0.out.2.1) (And.intro (cell_later hb1 C0.out.2.2.1) (cell_later hb1 C0.out.2.2.2))))
  have hs1 : w.heap.size + 3 ≤ w1.heap.size := by have := hb1.size; have := HWs.out; omega
  clear hb1 P
  go_upto_region 2 with fail
  obtain ⟨x0, x1, x2, t0, t1, t2⟩ := F1.out.cells
  obtain ⟨y0, y1, y2, y3⟩ := C1.out
  have x1d : w1.drew.cell? ⟨w.heap.size + 1, 1, none⟩ = some (.slice a fs.length cap) := x1
  have y0d : w1.drew.cell? ⟨w.heap.size, 0, none⟩ = some (.string nm) := y0
  have y1d : w1.drew.cell? ⟨w.heap.size, 1, none⟩ = some (.int .i64 pl) := y1
  have y2d : w1.drew.cell? ⟨w.heap.size, 2, none⟩ = some (.int .i64 lt) := y2
  have y3d : w1.drew.cell? ⟨w.heap.size, 3, none⟩ = some (.slice av vs.length cv) := y3
  have hiA : Hid (∀ q, InA a q → q < w.heap.size) := fun q hq => (owns_in H.out.fl hq).2
  have hiI : Hid (∀ q, InA a' q → q < w.heap.size) := fun q hq => (owns_in H.out.ints hq).2
  go_cut [] from 16 (fun wc => ∃ (w5 : World) (a5 : Option Addr) (c5 : Nat) (x : FlV), wc = w5.setCell ⟨w.heap.size + 1, 1, none⟩ (.slice a5 (fs.length + 1) c5) ∧ Hid (x.1 = (nm, pl, lt, vs)) ∧ Hid (FullBk lo w5 ac a5 a' capc c5 cap' cs (putAt gs k x) ss) ∧ Hid (TouchS (InA a) w1 w5) ∧ Hid (∀ q, InFull ac a5 a' (putAt gs k x) q → InFull ac a a' gs q ∨ w1.heap.size ≤ q))
  case first =>
    go_region_with (first
      | (go_at_call 78; refine (copyFlight_any nm pl lt vs av cv w1.drew (HV.out.later B1.out.drew) HVL.out).mono ?_; rintro e wA ⟨a2, c2, rfl, hoA, hbA⟩; have BA := hide (below_dr hbA); have OA := hide hoA; have x1A := cell_later BA.out x1; have x1N := cell_later (belN wA (.cells #[.string nm, .int .i64 pl, .int .i64 lt, .slice a2 vs.length c2] 32)) x1A; clear hbA hoA)
      | (go_at_call 167
         have hsA := BA.out.size
         refine (insertF_any lo fs.length cap k wA.heap.size 32 a (flVals gs) [.string nm, .int .i64 pl, .int .i64 lt, .slice a2 vs.length c2] _ (by have h9 := ((H1.out.later BA.out).later (belN wA (.cells #[.string nm, .int .i64 pl, .int .i64 lt, .slice a2 vs.length c2] 32))).fl; rw [HGL.out] at h9; exact h9) (by have := HLO.out; simp; omega) (by omega) hpl (heap_new _ _) (fun q hq => by have := hiA.out q hq; omega) (by rfl) (flVals_one _) (by intro u hu; simp at hu; rcases hu with rfl | rfl | rfl | rfl <;> rfl)).mono ?_
         rintro e wB ⟨a5, c5, rfl, hoB, htB, hnB⟩
         have OB := hide hoB
         have TB := hide htB
         have NB := hide hnB
         obtain ⟨z0, z1, z2, q0, q1, q2⟩ := (((F1.out.later BA.out).later (belN wA (.cells #[.string nm, .int .i64 pl, .int .i64 lt, .slice a2 vs.length c2] 32))).touchS htB (fun hh => by have := hiA.out _ hh; omega)).cells
         clear hoB htB hnB))
    all_goals
      go_wp2_with fail
      go_meet
      have AF := add_full (k := k) H1.out (by have := HLO.out; omega) HGL.out BA.out OA.out OB.out TB.out NB.out
      exact ⟨wB, a5, c5, ((nm, pl, lt, vs), a2, c2), rfl, rfl, AF.1, AF.2.1, AF.2.2⟩
  case rest =>
    obtain ⟨w5, a5, c5, x, hwc, HX, HF, HT, HNI⟩ := hcut
    have HN : Hid (∀ q, InFull ac a5 a' (putAt gs k x) q → q < w.heap.size ∨ w1.heap.size ≤ q) := fun q hq => (HNI.out q hq).elim (fun h => .inl (H.out.within h).2) .inr
    have TX5 : Hid (TouchS (fun q => q = w.heap.size + 1) w5 wc) := by rw [hwc]; exact touch1_set (touchS_refl _ w5) 1 _
    have K5 : Hid (BkAt wc (w.heap.size + 1) (.slice ac cs.length capc) (.slice a5 (fs.length + 1) c5) (.slice a' ss.length cap')) := by rw [hwc]; exact (F1.out.touchS HT.out (fun hh => by have := hiA.out _ hh; omega)).set1 _
    have R5 := hide (BkAt.touchS (S := fun q => q = w.heap.size + 1) (R1.out.touchS HT.out (fun hh => by have := hiA.out _ hh; omega)) TX5.out (by omega))
    have FB5 := hide (FullBk.touchIn (S := fun q => q = w.heap.size + 1) HF.out TX5.out (fun q hq hh => by have h9 := HN.out q hq; have hh' : q = w.heap.size + 1 := hh; omega))
    have hs5 : w1.heap.size ≤ wc.heap.size := by have := HT.out.size; have := TX5.out.size; omega
    have hlc : Hid (TouchS (fun q => InA a q ∨ InA a' q) w wc) := touch_more (S' := fun q => q = w.heap.size + 1) (touch_more (touchS_below B1.out) HT.out (fun q _ hh => .inl hh)) TX5.out (fun q hq hh => by have hh' : q = w.heap.size + 1 := hh; omega)
    clear hwc HF HT TX5 x1 x1d y0 y1 y2 y3 y0d y1d y2d y3d x0 x2 t0 t1 t2
    obtain ⟨x0, x1, x2, t0, t1, t2⟩ := K5.out.cells
    go_wp2_with fail
    refine (insertI_any lo ss.length cap' k wc.heap.size 3 a' (intVals ss) [.int .i64 (-1)] _ (FB5.out.later (belN wc _)).ints (by have := HLO.out; simp; omega) (by have := HLN.out; omega) (by have := HLN.out; omega) (heap_new _ _) (fun q hq => by have := hiI.out q hq; omega) (by rfl) (intVals_one _) (by intro u hu; simp at hu; subst hu; rfl)).mono ?_
    rintro e w6 ⟨a6, c6, rfl, ho6, ht6, hn6⟩
    have hsY : (wc.alloc (.cells #[.int .i64 (-1)] 3)).heap.size = wc.heap.size + 1 := by simp
    have FB6 := hide (FullBk.putI (zs := putAt ss k (-1)) (FB5.out.later (belN wc _)) (by rw [putAt_len]; show World.ownsRow _ _ _ _ _ _ _; rw [putAt_len, intVals_put]; exact ho6) ht6 hn6)
    have K6 := hide ((K5.out.later (belN wc _)).touchS ht6 (fun hh => by have := hiI.out _ hh; omega))
    have R6 := hide ((R5.out.later (belN wc _)).touchS ht6 (fun hh => by have := hiI.out _ hh; omega))
    have hs6 : wc.heap.size + 1 ≤ w6.heap.size := by have := ht6.size; omega
    have hl6 : Hid (TouchS (fun q => InA a q ∨ InA a' q) w w6) := touch_more (touch_new hlc.out (belN wc _)) ht6 (fun q _ hh => .inr hh)
    have NA6 : Hid (∀ q, q < w.heap.size → InA a6 q → InA a' q) := fun q hq hh => (hn6 q hh).elim id (fun h => by omega)
    have HN6 : Hid (∀ q, InFull ac a5 a6 (putAt gs k x) q → q < w.heap.size ∨ w1.heap.size ≤ q) := fun q hq => by
      rcases hq with hq | hq | hq | hq
      · exact HN.out q (.inl hq)
      · exact HN.out q (.inr (.inl hq))
      · rcases hn6 q hq with h | h
        · exact .inl (hiI.out q h)
        · exact .inr (by omega)
      · exact HN.out q (.inr (.inr (.inr hq)))
    have HNI6 : Hid (∀ q, InFull ac a5 a6 (putAt gs k x) q → InFull ac a a' gs q ∨ w1.heap.size ≤ q) := fun q hq => by
      rcases hq with hq | hq | hq | hq
      · exact HNI.out q (.inl hq)
      · exact HNI.out q (.inr (.inl hq))
      · rcases hn6 q hq with h | h
        · exact .inl (.inr (.inr (.inl h)))
        · exact .inr (by omega)
      · exact HNI.out q (.inr (.inr (.inr hq)))
    clear ho6 ht6 hn6 x0 x1 x2 t0 t1 t2 K5 R5 FB5
    obtain ⟨x0, x1, x2, t0, t1, t2⟩ := K6.out.cells
    obtain ⟨V, hV⟩ : ∃ V, w6.setCell ⟨w.heap.size + 1, 2, none⟩ (.slice a6 (ss.length + 1) c6) = V := ⟨_, rfl⟩
    have TX6 : Hid (TouchS (fun q => q = w.heap.size + 1) w6 V) := by rw [← hV]; exact touch1_set (touchS_refl _ w6) 2 _
    have K7 : Hid (BkAt V (w.heap.size + 1) (.slice ac cs.length capc) (.slice a5 (fs.length + 1) c5) (.slice a6 (ss.length + 1) c6)) := by rw [← hV]; exact K6.out.set2 _
    have R7 := hide (BkAt.touchS (S := fun q => q = w.heap.size + 1) R6.out TX6.out (by omega))
    have FB7 := hide (FullBk.touchIn (S := fun q => q = w.heap.size + 1) FB6.out TX6.out (fun q hq hh => by have h9 := HN6.out q hq; have hh' : q = w.heap.size + 1 := hh; omega))
    have hl7 : Hid (TouchS (fun q => InA a q ∨ InA a' q) w V) := touch_more (S' := fun q => q = w.heap.size + 1) hl6.out TX6.out (fun q hq hh => by have hh' : q = w.heap.size + 1 := hh; omega)
    have hs7 : w6.heap.size ≤ V.heap.size := TX6.out.size
    have HV7 := hide hV
    clear hV TX6 K6 R6 FB6 hsY
    go_upto_region 4 with fail
    rw [HV7.out]
    clear x0 x1 x2 t0 t1 t2
    obtain ⟨x0, x1, x2, -⟩ := K7.out.cells
    obtain ⟨g6, hg6, -, -⟩ := owns_some FB7.out.ints (by rw [putAt_len]; omega)
    subst hg6
    have hne : w.heap.size + 1 ≠ g6 := fun e => by
      have := HN6.out g6 (.inr (.inr (.inl ⟨_, rfl, rfl⟩)))
      omega
    have hne2 : w.heap.size + 2 ≠ g6 := fun e => by
      have := HN6.out g6 (.inr (.inr (.inl ⟨_, rfl, rfl⟩)))
      omega
    have hpm : (putAt gs k x).map Prod.fst = putAt fs k (nm, pl, lt, vs) := by rw [putAt_map, HGS.out, HX.out]
    have HPM := hide hpm
    have hbk := FB7.out.book.later ((Below.refl V.heap.size V).drew)
    rw [hpm] at hbk
    have LE := implLeast_at ac a5 (some ⟨g6, 0, none⟩) capc c5 c6 cs (putAt fs k (nm, pl, lt, vs)) (putAt ss k (-1)) (ss.length + 1) (putAt_len _ _ _) k V.drew hbk.caps hbk.fl hbk.ints PSM.out.nc PSM.out.nf PSM.out.ns PSM.out.sc PSM.out.vl PSM.out.sf PF.out (by rw [putAt_len]; omega)
    rw [putAt_len] at LE
    obtain ⟨lv, hlv⟩ : ∃ lv, leastV cs (putAt fs k (nm, pl, lt, vs)) (putAt ss k (-1)) k = lv := ⟨_, rfl⟩
    rw [hlv] at LE
    have HLE := hide LE
    have HNS : Hid (newS cs fs ss (nm, pl, lt, vs) k = (putAt ss k (-1)).set k lv) := by show _ = _; unfold newS; rw [hlv]
    have hks : k < (putAt ss k (-1)).length := by rw [putAt_len]; have := HLN.out; omega
    have HKS := hide hks
    have hki : (k : Int) < (ss.length : Int) + 1 := by have := HLN.out; omega
    have hk0 : (0 : Int) ≤ (k : Int) := by omega
    clear hpm hbk LE hlv hks
    go_region_held3 (fun X => X.cell? ⟨w.heap.size + 1, 0, none⟩ = some (.slice ac cs.length capc) ∧ X.cell? ⟨w.heap.size + 1, 1, none⟩ = some (.slice a5 (fs.length + 1) c5) ∧ X.cell? ⟨w.heap.size + 1, 2, none⟩ = some (.slice (some ⟨g6, 0, none⟩) (ss.length + 1) c6))
      (first | exact ⟨x0, x1, x2⟩ | exact ⟨cell_later hbL x0, cell_later hbL x1, cell_later hbL x2⟩ | exact ⟨cell_other hne (cell_later hbL x0), cell_other hne (cell_later hbL x1), cell_other hne (cell_later hbL x2)⟩)
      (first
        | (go_at_call 31; refine HLE.out.mono ?_; rintro e wL ⟨rfl, hbL⟩; obtain ⟨q0, q1⟩ := int_at (owns_later FB7.out.ints (below_dr hbL)) HKS.out)
        | (fail))
    rename_i hH
    have BL := hide (below_dr hbL)
    have OIL := hide (owns_later FB7.out.ints BL.out)
    clear hH hbL x0 x1 x2
    have hsL := BL.out.size
    obtain ⟨Y, hY⟩ : ∃ Y, wL.setCell ⟨g6, k, none⟩ (.int .i64 lv) = Y := ⟨_, rfl⟩
    have TXL : Hid (TouchS (fun q => q = g6) wL Y) := by rw [← hY]; exact touch1_set (touchS_refl _ wL) k _
    have OY : Hid (OwnI Y lo (.slice (some ⟨g6, 0, none⟩) (ss.length + 1) c6) ((putAt ss k (-1)).set k lv)) := by
      rw [← hY]
      have := own_setI (k := k) OIL.out lv
      rw [putAt_len] at this
      exact this
    have FB8 := hide (FullBk.putI (zs := newS cs fs ss (nm, pl, lt, vs) k) (FB7.out.later BL.out) (by rw [newS_len, HNS.out]; exact OY.out) (touchS_mono TXL.out fun q hq => ⟨_, rfl, hq.symm⟩) (fun q hq => .inl hq))
    have K8 := hide (BkAt.touchS (S := fun q => q = g6) (K7.out.later BL.out) TXL.out hne)
    have R8 := hide (BkAt.touchS (S := fun q => q = g6) (R7.out.later BL.out) TXL.out hne2)
    have hl8 : Hid (TouchS (fun q => InA a q ∨ InA a' q) w Y) := touch_more (S' := fun q => q = g6) (touch_new hl7.out BL.out) TXL.out (fun q hq hh => .inr (NA6.out q hq ⟨_, rfl, Eq.symm hh⟩))
    have hsY : wL.heap.size ≤ Y.heap.size := TXL.out.size
    have HY := hide hY
    clear hY q0 q1
    go_upto_region 5 with fail
    rw [HY.out]
    obtain ⟨x0, x1, x2, -⟩ := K8.out.cells
    obtain ⟨k0, k1, k2, t0, t1, t2⟩ := R8.out.cells
    have RX := hide (R8.out.set3 (.slice ac cs.length capc) (.slice a5 (fs.length + 1) c5) (.slice (some ⟨g6, 0, none⟩) (ss.length + 1) c6))
    have TX := hide (set3_touch Y (w.heap.size + 2) (.slice ac cs.length capc) (.slice a5 (fs.length + 1) c5) (.slice (some ⟨g6, 0, none⟩) (ss.length + 1) c6))
    go_wp2
    generalize ((Y.setCell ⟨w.heap.size + 2, 0, none⟩ (.slice ac cs.length capc)).setCell ⟨w.heap.size + 2, 1, none⟩ (.slice a5 (fs.length + 1) c5)).setCell ⟨w.heap.size + 2, 2, none⟩ (.slice (some ⟨g6, 0, none⟩) (ss.length + 1) c6) = Z at *
    obtain ⟨z0, z1, z2, -⟩ := RX.out.cells
    refine bodyPost_ret (v := bkV ac a5 (some ⟨g6, 0, none⟩) capc c5 c6 cs (putAt fs k (nm, pl, lt, vs)) (newS cs fs ss (nm, pl, lt, vs) k)) (by simp only [bkV, putAt_len, newS_len]; simp [results, Tryz.results165, go_sem, z0, z1, z2]) rfl ⟨a5, some ⟨g6, 0, none⟩, c5, c6, putAt gs k x, rfl, HPM.out, FullBk.touchIn (S := fun q => q = w.heap.size + 2) FB8.out TX.out (fun q hq hh => ?_), touch_more (S' := fun q => q = w.heap.size + 2) hl8.out TX.out (fun q hq hh => by have hh' : q = w.heap.size + 2 := hh; omega), fun q hq => (HNI6.out q hq).imp id (fun h => by omega)⟩
    have h9 := HN6.out q hq
    have hh' : q = w.heap.size + 2 := hh
    omega
end Go.Proofs.YtciacofibljmoaaGreatDoor
