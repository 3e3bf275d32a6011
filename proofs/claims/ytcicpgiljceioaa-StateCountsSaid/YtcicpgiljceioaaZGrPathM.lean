/- Paths between the nodes of a tree: mathematics. -/
import Derived.Test.YtcicpgiljceioaaZGrNext
namespace Go.Proofs.Ytcicpgiljceioaa.Gr
variable {ps : List Int}
def pathF (ps : List Int) : Nat → Nat → Nat → List Nat
  | 0, a, _ => [a]
  | f + 1, a, b => a :: pathF ps f (nextN ps a b) b
/-- The nodes from one to another. -/
def pathN (ps : List Int) (a b : Nat) : List Nat := pathF ps (distL ps a b) a b
theorem pathN_self (ps : List Int) (b : Nat) : pathN ps b b = [b] := by
  unfold pathN
  rw [show distL ps b b = 0 from dist_self b]; rfl
theorem Good.pathN_step (G : Good ps) {a b : Nat} (ha : a < ps.length) (hb : b < ps.length) (hab : a ≠ b) : pathN ps a b = a :: pathN ps (nextN ps a b) b := by
  have h := (G.nextN_is ha hb hab).2.2
  unfold pathN
  rw [← h]; rfl
theorem Good.pathN_way (G : Good ps) {b : Nat} (hb : b < ps.length) : ∀ (f a : Nat), a < ps.length → distL ps a b ≤ f → Way ps.length (root ps) (par ps) (dep ps) a b (pathN ps a b) := by
  intro f
  induction f with
  | zero =>
    intro a ha h
    have : a = b := G.rt.dist_zero ha hb (Nat.le_zero.1 h)
    subst this
    rw [pathN_self]; exact way_self a ha
  | succ f ih =>
    intro a ha h
    by_cases hab : a = b
    · subst hab
      rw [pathN_self]; exact way_self a ha
    · obtain ⟨h1, h2, h3⟩ := G.nextN_is ha hb hab
      rw [G.pathN_step ha hb hab]
      exact Way.cons (ih _ h1 (by omega)) ha ((G.near_iff h1 ha).1 h2) h3
theorem Good.way_path (G : Good ps) {a b : Nat} (ha : a < ps.length) (hb : b < ps.length) : Way ps.length (root ps) (par ps) (dep ps) a b (pathN ps a b) := G.pathN_way hb _ a ha (Nat.le_refl _)
theorem Good.pathN_len (G : Good ps) {a b : Nat} (ha : a < ps.length) (hb : b < ps.length) : (pathN ps a b).length = distL ps a b + 1 := (G.way_path ha hb).len
def ints (l : List Nat) : List Int := l.map fun x : Nat => (x : Int)
def pathI (ps : List Int) (a b : Int) : List Int := if (0 ≤ a ∧ a < (ps.length : Int)) ∧ (0 ≤ b ∧ b < (ps.length : Int)) then ints (pathN ps a.toNat b.toNat) else []
theorem Good.path_le {ps : List Int} (G : Good ps) (a b : Int) : (pathI ps a b).length ≤ ps.length := by
  unfold pathI
  split
  · rename_i h
    have ha : a.toNat < ps.length := by omega
    have hb : b.toNat < ps.length := by omega
    have h1 := G.pathN_len ha hb
    have h2 : distL ps a.toNat b.toNat < ps.length := G.rt.dist_lt ha hb
    simp only [ints, List.length_map]
    omega
  · simp
end Go.Proofs.Ytcicpgiljceioaa.Gr
namespace Go.Proofs.Ytcicpgiljceioaa.Pk
open Go.RowKit Go.Proofs.Ytcicpgiljceioaa.Gr
set_option linter.unusedVariables false
theorem OwnN.lit (w : World) (B : Nat) (x : Int) (hB : B ≤ w.heap.size) : OwnN (w.alloc (.cells #[.int .i64 x] 3)) B (.slice (some ⟨w.heap.size, 0, none⟩) 1 1) [x] :=
  ⟨rfl, .inr ⟨w.heap.size, 1, _, rfl, hB, heap_alloc_new w _, Nat.le_refl _, by unfold maxLen; omega, rfl, rfl⟩⟩
end Go.Proofs.Ytcicpgiljceioaa.Pk
