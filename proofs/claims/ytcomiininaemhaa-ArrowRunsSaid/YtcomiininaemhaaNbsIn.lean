/- What a list of neighbours holds. -/
import Derived.Test.YtcomiininaemhaaGrNbsM
namespace Go.Proofs.Ytcomiininaemhaa.Pk
open Go.RowKit Go.Proofs.Ytcomiininaemhaa.Gr
set_option linter.unusedVariables false
theorem nbs_in {ps : List Int} {a : Nat} {v : Int} (h : v ∈ nbs ps a ps.length) : ∃ x : Nat, v = (x : Int) ∧ x < ps.length ∧ nearL ps x a = true := by
  unfold nbs at h
  obtain ⟨x, hx, rfl⟩ := List.mem_map.1 h
  obtain ⟨h1, h2⟩ := List.mem_filter.1 hx
  exact ⟨x, rfl, List.mem_range.1 h1, h2⟩
end Go.Proofs.Ytcomiininaemhaa.Pk
