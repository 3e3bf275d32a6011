/- The document's answer for trees (fletchref04): Neighbours. -/
import Derived.Test.YtcomiininaemhaaGrNear
import Derived.Test.YtcomiininaemhaaNums
import Derived.Lib.Hide
import Derived.Outline
import Derived.Deep.QuietTactic
import Derived.BigQuiet
import Derived.Deep.DeepMust
import Derived.LoopTactic
namespace Go.Proofs.Ytcomiininaemhaa.Pk
open Go.RowKit Go.Proofs.Ytcomiininaemhaa.Gr
set_option linter.unusedVariables false

/-- The neighbours of v below k. -/
def nbs (ps : List Int) (v k : Nat) : List Int := List.map (fun u : Nat => (u : Int)) (List.filter (fun u : Nat => nearL ps u v) (List.range k))
theorem nbs_succ (ps : List Int) (v k : Nat) : nbs ps v (k + 1) = if nearL ps k v = true then nbs ps v k ++ [(k : Int)] else nbs ps v k := by
  unfold nbs
  rw [List.range_succ, List.filter_append, List.map_append]
  by_cases h : nearL ps k v = true
  · rw [if_pos h]; simp [h]
  · rw [if_neg h]; simp [h]
theorem nbs_len (ps : List Int) (v k : Nat) : (nbs ps v k).length ≤ k := by
  unfold nbs
  rw [List.length_map]
  exact Nat.le_trans (List.length_filter_le _ _) (by simp)
def nbsI (ps : List Int) (v : Int) : List Int := if 0 ≤ v ∧ v < (ps.length : Int) then nbs ps v.toNat ps.length else []

end Go.Proofs.Ytcomiininaemhaa.Pk
