/- The document's copy with a flight struck is a copy still. -/
import Derived.Test.YtciacofibljmoaaGreatDoorDocs
namespace Go.Proofs.YtciacofibljmoaaGreatDoor
open Go.RowKit

theorem drop_copy {lo i B g : Nat} {w2 w3 wc w7 wd : World} {bc b' a5 a7 : Option Addr} {cb cb' c5 c7 : Nat} {cs : List (ByteArray × Int)} {fs : List Fli} {ss : List Int} {gs : List FlV}
    (hC : CopyIn lo w2 bc (some ⟨g, 0, none⟩) b' cb' cs fs ss) (hgs : gs.map Prod.fst = fs) (hKP : ∀ w'', TouchS (fun k => k < lo ∨ InN ss.length b' k) w2 w'' → OwnF w'' B (.slice (some ⟨g, 0, none⟩) fs.length cb) gs) (hv : ∀ f ∈ fs, 1 ≤ f.2.2.2.length)
    (hlo : lo ≤ w2.heap.size) (h23 : w2.heap.size + 1 ≤ w3.heap.size) (hi : i < fs.length) (hls : ss.length = fs.length) (T5 : TouchS (fun q => q = w2.heap.size) w2 wc) (h3c : w3.heap.size ≤ wc.heap.size)
    (OF5 : World.ownsRow wc w3.heap.size 32 4 (.slice a5 (fs.length - 1) c5) (fs.length - 1) (flVals (gs.eraseIdx i))) (BW7 : Below wc.heap.size wc w7)
    (OW7 : World.ownsRow w7 wc.heap.size 3 1 (.slice a7 (ss.length - 1) c7) (ss.length - 1) (intVals (ss.eraseIdx i))) (TX : TouchS (fun q => q = w2.heap.size) w7 wd) :
    CopyIn lo wd bc a5 a7 c7 cs (fs.eraseIdx i) (ss.eraseIdx i) := by
  have hlF : (fs.eraseIdx i).length = fs.length - 1 := List.length_eraseIdx_of_lt hi
  have hlS : (ss.eraseIdx i).length = ss.length - 1 := List.length_eraseIdx_of_lt (by omega)
  have hgl : gs.length = fs.length := by rw [← hgs, List.length_map]
  have hlG : (gs.eraseIdx i).length = fs.length - 1 := by rw [List.length_eraseIdx_of_lt (by omega), hgl]
  have hmG : (gs.eraseIdx i).map Prod.fst = fs.eraseIdx i := by rw [← hgs]; simp [List.eraseIdx_eq_take_drop_succ, List.map_take, List.map_drop]
  have OD : World.ownsRow wd wc.heap.size 3 1 (.slice a7 (ss.length - 1) c7) (ss.length - 1) (intVals (ss.eraseIdx i)) := owns_keep OW7 fun q hq => TX.block q (World.ownsRow.lt OW7 q hq).2 fun hh => by
    have h9 := (World.ownsRow.lt OW7 q hq).1
    have hh' : q = w2.heap.size := hh
    omega
  have h7 := BW7.size
  have hT2 := T5.size
  refine ⟨fun w' ht => ?_, ?_⟩
  · have hin7 : ∀ q, InN (ss.eraseIdx i).length a7 q → wc.heap.size ≤ q := fun q hq => by
      have : InA a7 q := hq.2
      exact (owns_in OD this).1
    have T : TouchS (fun k => k = w2.heap.size ∨ k < lo ∨ wc.heap.size ≤ k) wc w' := touchS_trans (touchS_trans (touchS_below BW7) (touchS_mono TX fun k h => .inl h)) (touchS_mono ht fun k h => h.elim (fun h => .inr (.inl h)) (fun h => .inr (.inr (hin7 k h))))
    have T2 : TouchS (fun k => k < lo ∨ InN ss.length b' k) w2 w' := ⟨T.os.trans T5.os, T.tape.trans T5.tape, T.output.trans T5.output, Nat.le_trans T5.size T.size, fun k hk hn => (T.block k (by omega) (fun hh => by
        rcases hh with hh | hh | hh
        · omega
        · exact hn (.inl hh)
        · omega)).trans (T5.block k hk (by omega))⟩
    have hF := hKP w' T2
    have hF2 := hKP w2 (touchS_refl _ _)
    have hr : World.ownsRow w' w3.heap.size 32 4 (.slice a5 (fs.length - 1) c5) (fs.length - 1) (flVals (gs.eraseIdx i)) := owns_keep OF5 fun q hq => T.block q (World.ownsRow.lt OF5 q hq).2 fun hh => by
      have h9 := World.ownsRow.lt OF5 q hq
      rcases hh with hh | hh | hh <;> omega
    refine ⟨(hC.rest w' T2).1, ?_⟩
    rw [← hmG]
    have hO : OwnF w' 0 (.slice a5 (fs.length - 1) c5) (gs.eraseIdx i) := by
      refine ⟨by rw [hlG]; exact owns_base hr (Nat.zero_le _), fun x hx => ?_⟩
      have hx' := List.mem_of_mem_eraseIdx hx
      obtain ⟨v1, v2⟩ := hF.2 x hx'
      refine ⟨v1, fun p hp => ⟨Nat.zero_le _, fun hh => ?_⟩⟩
      have h8 := vis_lt (hF2.2 x hx').1 (hv _ (by rw [← hgs]; exact List.mem_map_of_mem hx')) hp
      have h9 := (World.ownsRow.lt hr _ hh).1
      omega
    exact ownF_in hO
  · show World.ownsRow wd lo _ 1 _ _ _
    rw [hlS]
    exact owns_base OD (by omega)
end Go.Proofs.YtciacofibljmoaaGreatDoor
