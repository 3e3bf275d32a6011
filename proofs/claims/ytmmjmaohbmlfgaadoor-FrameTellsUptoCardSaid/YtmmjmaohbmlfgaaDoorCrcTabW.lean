/- The table stays; a row with a mark behind it. -/
import Derived.Test.YtmmjmaohbmlfgaaDoorCrcAdd0
import Derived.Lib.SlBytesConst
namespace Go.Proofs.YtmmjmaohbmlfgaaDoor.Pk
open Go.RowKit Go.Proofs.YtmmjmaohbmlfgaaDoor.Crc
set_option linter.unusedVariables false

theorem lt_heap0 {w : World} {a : Addr} {u : Value} (h : w.cell? a = some u) : a.block < w.heap.size := by
  rcases Nat.lt_or_ge a.block w.heap.size with h1 | h1
  · exact h1
  · unfold World.cell? at h
    rw [Array.getElem?_eq_none h1] at h
    simp at h
theorem Tab.pos {w : World} (h : Tab w) : 0 < w.heap.size := lt_heap0 (h 0 (by omega))
theorem Tab.next {w w' : World} (h : Tab w) (hb : Below w.heap.size w w') : Tab w' := h.below hb h.pos
theorem Tab.alloc {w : World} (h : Tab w) (o : Obj) : Tab (w.alloc o) := h.next ((Below.refl _ _).alloc (Nat.le_refl _) _)
theorem Tab.drewN {w : World} (h : Tab w) (n : Nat) : Tab (w.drewN n) := h

/-- A row with a mark behind it reads as what it was made of. -/
theorem reads_marked (w : World) (cs : Array Value) (T : TypeId) (f : Nat × Nat) (B n : Nat) (xs : List Value) (h : cs.toList = xs) (hn : xs.length = n) (hB : w.heap.size < B) : Reads (w.alloc (.cells cs T f)) B 1 (some ⟨w.heap.size, 0, none⟩) n xs := by
  subst h
  refine ⟨by rw [hn]; omega, fun _ => ⟨_, rfl, hB, fun j u hu => ?_⟩⟩
  have h0 : (w.alloc (.cells cs T f)).cell? ⟨w.heap.size, j, none⟩ = cs[j]? := cell_of_row _ _ j cs T f (heap_alloc_new w _)
  have e : (⟨w.heap.size, 0, none⟩ : Addr).add j = ⟨w.heap.size, j, none⟩ := by unfold Addr.add; by_cases hj : j = 0 <;> simp [hj]
  rw [e, h0]
  simpa using hu

end Go.Proofs.YtmmjmaohbmlfgaaDoor.Pk
