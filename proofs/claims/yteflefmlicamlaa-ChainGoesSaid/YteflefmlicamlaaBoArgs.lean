/- How a list of truths that comes in is opened. -/
import Derived.Test.YteflefmlicamlaaArg0
import Derived.Deep.Grids
namespace Go.Proofs.Yteflefmlicamlaa.Ar
open Go.ChangeShapes Go.WideShapes Go.ChangeAt Go.RowKit Go.Deep Go.Proofs.Yteflefmlicamlaa.Pk
set_option linter.unusedVariables false
/-- Truths that came in. -/
def ArgT (w : World) (a : Option Addr) (n c : Nat) (l : List Bool) : Prop := Reads w w.heap.size 1 a n (l.map Value.bool) ∧ n ≤ c ∧ n ≤ 9223372036854775807
section
variable {H : Type} {enc : TypeId × Value → H} {W : World} {d : DataW H} {ps : List MemPlace}
theorem open_bs {a : Option Addr} {n c : Nat} (h : DataW.Trod enc Try.prog W 0 (fun _ => true) true 38 (.slice a n c) d ps) : ∃ l, ArgT W a n c l := by
  obtain ⟨fuel, hf⟩ := h
  rcases Go.Deep.open_bools Try.underlying38 Try.underlying4 (by kernel_rfl) hf with ⟨hcs, _⟩ | ⟨x, len, cap, B, hcs, _, hl, hm, _, hcell⟩
  · simp [Value.cells] at hcs
    obtain ⟨rfl, rfl, rfl⟩ := hcs
    exact ⟨[], Reads.none_, Nat.le_refl _, by omega⟩
  · simp [Value.cells] at hcs
    obtain ⟨rfl, rfl, rfl⟩ := hcs
    refine ⟨(List.range n).map B, ⟨by simp, fun hn => ⟨x, rfl, ?_, fun j u hj => ?_⟩⟩, hl, by unfold maxLen at hm; omega⟩
    · have := lt_heap (hcell 0 (by omega))
      simpa [block_of_add] using this
    · rw [List.getElem?_map, List.getElem?_map] at hj
      have hjn : j < n := by
        rcases Nat.lt_or_ge j n with h1 | h1
        · exact h1
        · rw [List.getElem?_eq_none (by simp; omega)] at hj; simp at hj
      rw [List.getElem?_range hjn] at hj
      simp at hj
      rw [hcell j (by omega), hj]
end
end Go.Proofs.Yteflefmlicamlaa.Ar
