/- A call that starts nobody leaves nobody behind: what is shown of it alone serves where goroutines may be leaving. -/
import Derived.Conc.Holds
import Derived.Handed
namespace Go.Proofs.YtciacofibljmoaaGreat

theorem leaving_of_handed {a : Assume} {C : Checked} {os : Os} {f : FuncId} {r : Reach} {Pre : World → Array Value → Prop} {Post : World → Array Value → Value → World → Prop}
    (h : ReturnsInHanded a C os f r Pre Post) : ReturnsInLeavingWide a C os f r Pre Post := fun enter =>
  ReturnsInOpen.mono (fun last w' t x => by
    obtain ⟨⟨h0, h1⟩, h2, h3⟩ := x
    refine ⟨h2, ⟨fun g hg => ⟨0, ?_⟩, h1⟩, h3⟩
    have := List.all_eq_true.1 h0 g hg
    exact eq_of_beq this) (fun _ x => x) (h enter)

end Go.Proofs.YtciacofibljmoaaGreat
