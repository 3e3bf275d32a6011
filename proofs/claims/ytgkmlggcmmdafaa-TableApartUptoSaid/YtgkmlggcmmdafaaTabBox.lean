/- A script's loop whose rows lie in a box; the rows from a number on. -/
import Derived.Test.YtgkmlggcmmdafaaTabUp
import Derived.Test.YtgkmlggcmmdafaaTabWakes
import Derived.Test.YtgkmlggcmmdafaaTabDel
import Derived.Test.YtgkmlggcmmdafaaTabArgs
namespace Go.Proofs.Ytgkmlggcmmdafaa.Pk
open Go.RowKit Go.Shelf Go.Proofs.Ytgkmlggcmmdafaa.Tb Go.Proofs.Ytgkmlggcmmdafaa.Ar
set_option linter.unusedVariables false

/-- Rows don't lie in a box of a slice. -/
theorem reads_ne_box {w : World} {g B n : Nat} {t : TypeId} {A A' : Option Addr} {n' c' : Nat} {l : List Rw} (hb : Blk w g t #[.slice A' n' c']) (h : Reads w B 2 A n (rws l)) : 0 < n → ∀ ad, A = some ad → ad.block ≠ g := by
  intro hn ad e heq
  obtain ⟨b, off, e', _, hc⟩ := h.rows hn
  rw [e] at e'; injection e' with e'; subst e'
  have hl := h.rlen
  obtain ⟨r, hr⟩ : ∃ r, l[0]? = some r := ⟨_, List.getElem?_eq_getElem (by omega)⟩
  have h1 := (hc 0 r hr).1
  simp only at heq
  subst heq
  rw [Nat.zero_mul, Nat.add_zero, hb.cell] at h1
  cases off with
  | zero => simp at h1
  | succ o => simp at h1
theorem Reads.setFar {w : World} {B n : Nat} {A : Option Addr} {l : List Rw} {g : Nat} {u : Value} (h : Reads w B 2 A n (rws l)) (hn : 0 < n → ∀ ad, A = some ad → ad.block ≠ g) : Reads (w.setCell ⟨g, 0, none⟩ u) B 2 A n (rws l) := by
  refine ⟨h.1, fun h0 => ?_⟩
  obtain ⟨ad, e, hb, hc⟩ := h.2 h0
  refine ⟨ad, e, hb, fun j v hj => ?_⟩
  rw [← hc j v hj]
  exact World.cell?_of_block (Below.heap_setCell w ⟨g, 0, none⟩ u _ (by rw [block_of_add]; exact hn h0 ad e))

/-- Where a script's loop stands, its rows in the box g, the result in the box r. -/
def AtBox (Tb : World → Nat → List Rw → (Nat → Prop) → (Nat → Prop) → Prop) (T g r : Nat) (i : Nat) (w wr : World) : Prop :=
  ∃ l A n c S D, Blk wr g 26 #[.slice A n c] ∧ Blk wr r 4 #[.bool false] ∧ n ≤ c ∧ Reads wr wr.heap.size 2 A n (rws l) ∧ Free S A n ∧ Tb wr T l S D ∧ n ≤ i ∧ Below w.heap.size w wr ∧ (∀ b, D b → w.heap.size ≤ b ∧ b ≠ g ∧ b ≠ r)
theorem from_box {D D' : Nat → Prop} {w0 w : World} {g r : Nat} (h : From D D' w) (hD : ∀ b, D b → w0.heap.size ≤ b ∧ b ≠ g ∧ b ≠ r) (hB : w0.heap.size ≤ w.heap.size) (hg : g < w.heap.size) (hr : r < w.heap.size) : ∀ b, D' b → w0.heap.size ≤ b ∧ b ≠ g ∧ b ≠ r := fun b hb => by
  rcases h b hb with h1 | h1
  · exact hD b h1
  · exact ⟨by omega, by omega, by omega⟩
end Go.Proofs.Ytgkmlggcmmdafaa.Pk
