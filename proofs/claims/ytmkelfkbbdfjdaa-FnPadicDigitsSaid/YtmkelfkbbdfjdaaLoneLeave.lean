/- A call of one goroutine, said of a row that lets others leave: nobody else is there. -/
import Derived.Conc.LeavingOf
namespace Go.Proofs.Ytmkelfkbbdfjdaa
open Go.RowKit
theorem onlyLeaving_of_quiet {P : Program} {m : Machine} (h : m.quiet) : m.OnlyLeaving P := by
  refine ⟨fun g hg => ⟨0, ?_⟩, h.2⟩
  have h1 := h.1
  unfold Machine.othersDone at h1
  have h2 := List.all_eq_true.1 h1 g hg
  exact eq_of_beq h2
/-- FROM 'ALONE AT THE RETURN' TO 'LEAVING AT THE RETURN' -/
theorem leavingWide_of_handed {a : Assume} {C : Checked} {os : Os} {f : FuncId} {r : Reach} {Pre : World → Array Value → Prop} {Post : World → Array Value → Value → World → Prop}
    (h : ReturnsInHanded a C os f r Pre Post) : ReturnsInLeavingWide a C os f r Pre Post := fun enter =>
  ReturnsInOpen.mono (fun _ _ _ x => ⟨x.2.1, onlyLeaving_of_quiet x.1, x.2.2⟩) (fun _ x => x) (h enter)
end Go.Proofs.Ytmkelfkbbdfjdaa
