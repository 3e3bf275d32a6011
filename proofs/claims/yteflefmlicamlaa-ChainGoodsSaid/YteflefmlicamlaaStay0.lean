/- Blocks that stay. -/
import Derived.Test.YteflefmlicamlaaWords
import Derived.Test.YteflefmlicamlaaRange
namespace Go.Proofs.Yteflefmlicamlaa.Pk
open Go.RowKit
set_option linter.unusedVariables false
def Stay (D : Nat → Prop) (w w' : World) : Prop := w.heap.size ≤ w'.heap.size ∧ ∀ b, D b → w'.heap[b]? = w.heap[b]?
theorem Stay.refl (D : Nat → Prop) (w : World) : Stay D w w := ⟨Nat.le_refl _, fun _ _ => rfl⟩
theorem Stay.trans {D : Nat → Prop} {a b c : World} (h : Stay D a b) (k : Stay D b c) : Stay D a c := ⟨Nat.le_trans h.1 k.1, fun i hi => (k.2 i hi).trans (h.2 i hi)⟩
theorem Stay.sub {D E : Nat → Prop} {a b : World} (h : Stay D a b) (hs : ∀ b, E b → D b) : Stay E a b := ⟨h.1, fun i hi => h.2 i (hs i hi)⟩
theorem Stay.below {D : Nat → Prop} {B : Nat} {w w' : World} (h : Below B w w') (hD : ∀ b, D b → b < B) : Stay D w w' := ⟨h.size, fun b hb => h.block b (hD b hb)⟩
theorem stay_b {D : Nat → Prop} {w : World} (hD : ∀ b, D b → b < w.heap.size) : ∀ (W : World) (l : Nat) (o o' : Obj), w.heap.size ≤ l → W.heap[l]? = some o → o.isCells = false → o.isWalk = false → Stay D W (W.putObj l o') := by
  intro W l o o' hl _ _ _
  exact ⟨by simp [World.putObj], fun b hb => World.putObj_heap_other (by have := hD b hb; omega)⟩
end Go.Proofs.Yteflefmlicamlaa.Pk
